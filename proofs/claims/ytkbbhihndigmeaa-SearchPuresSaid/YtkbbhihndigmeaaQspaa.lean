/- For whatever arguments, the law SearchPures returns true, and each argument reads behind the call as it read before. No condition. -/
import Derived.Test.YtkbbhihndigmeaaProg
import Derived.Test.YtkbbhihndigmeaaBasaa
import Derived.Test.YtkbbhihndigmeaaBasac
import Derived.ProofKit
import Derived.OpenShut
import Derived.Deep.Slices
import Derived.Lib.SmallJoins
import Derived.Shelf.Abstract
import Derived.Shelf.RegionOpen
import Derived.Conc.Own4
import Derived.Test.YtkbbhihndigmeaaBasbb
import Derived.Test.YtkbbhihndigmeaaRows
namespace Go.Proofs.Ytkbbhihndigmeaa
open Go Go.RowKit Go.ChangeShapes Go.WideShapes Go.Deep Go.Joins
theorem cellsLong:Try.prog.cellsOf 2=1:=by kernel_rfl
theorem cellsRow:Try.prog.cellsOf 25=1:=by kernel_rfl
theorem cellsRows:Try.prog.cellsOf 22=1:=by kernel_rfl
theorem cellsTab:Try.prog.cellsOf 24=1:=by kernel_rfl
theorem array1 {α : Type} {cs:Array α} (h:cs.size=1) : ∃ c0,cs = #[c0]:=by
 obtain ⟨l⟩:=cs
 match l,h with
 | [c0],_=>exact ⟨c0,rfl⟩
theorem add_plainS (b off n:Nat):(⟨b,off,none⟩:Addr).add n=⟨b,off+n,none⟩:=by
 unfold Addr.add
 split
 ·rename_i h
  rw [h]
  rfl
 ·rfl
section
variable {H:Type} {enc:TypeId × Value→H} {W:World} {sp:Nat→Bool}
set_option maxRecDepth 100000 in
theorem open_longsAt {k:Nat} {v:Value} {y:DataW H × List MemPlace} (h:DataW.trod enc Try.prog W 0 sp true k 25 [v]=some y) :
 ∃ a n cap f,v = .slice a n cap∧Ints W a n f:=by
 rcases open_ints Try.underlying25 Try.underlying2 cellsLong h with ⟨hcs,_⟩ | ⟨a',len,cap',zs,hcs,_,hl,hm,hk,_,hi,_⟩
 ·obtain rfl:v = .slice none 0 0:=by simpa using hcs
  exact ⟨none,0,0,fun _=>0,rfl, .inl rfl⟩
 ·obtain rfl:v = .slice (some a') len cap':=by simpa using hcs
  have hlk:len≤zs.length:=by rw [hk]; split <;> omega
  refine ⟨some a',len,cap',fun i=>zs.getD i 0,rfl,?_⟩
  by_cases h0:len=0
  ·exact .inl h0
  obtain ⟨b,off,rfl,hc⟩:=ints_at hi (by omega)
  exact .inr ⟨b,off,rfl,World.block_lt_of_cell? W _ (hc 0 (by omega)),fun i hin=>hc i (by omega)⟩
set_option maxRecDepth 100000 in
theorem open_longs {base:Nat} {v:Value} {d:DataW H} {p:List MemPlace} (hok:Value.okWide Try.prog W .any base 25 v) (h:DataW.Trod enc Try.prog W 0 sp true 25 v d p) :
 ∃ a n cap f,v = .slice a n cap∧Ints W a n f:=by
 obtain ⟨a,n,cap,rfl⟩:=okWide_slice Try.underlying25 hok
 obtain ⟨fuel,hf⟩:=h
 exact open_longsAt (by simpa [Value.cells] using hf)
set_option maxRecDepth 100000 in
theorem open_rows {k:Nat} {v:Value} {y:DataW H × List MemPlace} (h:DataW.trod enc Try.prog W 0 sp true k 22 [v]=some y) :
 ∃ a m cap f,v = .slice a m cap∧Tab W a m f:=by
 rcases open_slice1 Try.underlying22 cellsRow h with ⟨hcs,_⟩ | ⟨a',len,cap',m,n',V,D,Pl,hcs,_,hl,_,hm,_,hi⟩
 ·obtain rfl:v = .slice none 0 0:=by simpa using hcs
  exact ⟨none,0,0,fun _=>default,rfl, .inl rfl,fun i hi=>absurd hi (Nat.not_lt_zero i)⟩
 ·obtain rfl:v = .slice (some a') len cap':=by simpa using hcs
  have hlm:len≤m:=by rw [hm]; split <;> omega
  obtain ⟨f,hf⟩:=choose_lt (n:=m) (p:=fun i (q:Row3)=>W.cell? (a'.add i)=some (.slice q.a q.n q.cap)∧Ints W q.a q.n q.g) (fun i hik=>by
   obtain ⟨c,t⟩:=hi i hik
   obtain ⟨a,n,cap,g,e,hI⟩:=open_longsAt t
   rw [e] at c
   exact ⟨⟨a,n,cap,g⟩,c,hI⟩)
  refine ⟨some a',len,cap',f,rfl,?_,fun i hi=>(hf i (by omega)).2⟩
  by_cases h0:len=0
  ·exact .inl h0
  obtain ⟨b,off,spot⟩:=a'
  have hspot:spot=none:=by simpa [Addr.add] using World.cell?_spot (hf 0 (by omega)).1
  subst hspot
  have hf' : ∀ i,i<len→W.cell? ⟨b,off+i,none⟩=some (.slice (f i).a (f i).n (f i).cap):=fun i hin=>by
   have:=(hf i (by omega)).1
   rwa [add_plainS] at this
  exact .inr ⟨b,off,rfl,World.block_lt_of_cell? W _ (hf' 0 (by omega)),hf'⟩
set_option maxRecDepth 100000 in
theorem open_table {base:Nat} {v:Value} {d:DataW H} {p:List MemPlace} (hok:Value.okWide Try.prog W .any base 24 v) (h:DataW.Trod enc Try.prog W 0 sp true 24 v d p) :
 ∃ a m cap f,v=tabV a m cap∧Tab W a m f:=by
 obtain ⟨cs,rfl,hsz⟩:=okWide_struct Try.underlying24 hok
 obtain ⟨c0,rfl⟩:=array1 (hsz.trans cellsTab)
 obtain ⟨fuel,hf⟩:=h
 obtain ⟨xs,n,_,_,_,hlen,hg⟩:=DataW.trod_struct Try.underlying24 hf
 match xs,hlen with
 | [y0],_=>
   have h0:=hg 0 _ rfl
   obtain ⟨a,m,cap,f,rfl,hT⟩:=open_rows (v:=c0) (by simpa [Value.cells,cellsRows] using h0)
   exact ⟨a,m,cap,f,rfl,hT⟩
end
end Go.Proofs.Ytkbbhihndigmeaa

namespace Go.Proofs.Ytkbbhihndigmeaa
open Go Go.RowKit Go.Shelf
theorem great_no {m:Nat} {f:Nat→Row3} (h:greatB m f=false):m≤8 ∧ ∀ i,i<m→(f i).n≤8:=by
 simp only [greatB,Bool.or_eq_false_iff,decide_eq_false_iff_not,Bool.not_eq_false'] at h
 refine ⟨by omega,fun i hi => ?_⟩
 have:=(allB_iff _ _).1 h.2 i hi
 simpa using this
theorem two_all {T:Int} {X Y:List Nat} {e:Ending} {w:World} (h:(T ≠ 0∧e = .returned (.tuple #[.slice none 0 0, .slice none 0 0, .int .i64 T]))∨(T=0∧TwoL X Y 0 e w)):TwoL (if T=0 then X else []) (if T=0 then Y else []) T e w:=by
 rcases h with ⟨h,rfl⟩ | ⟨rfl,h⟩
 ·rw [if_neg h,if_neg h]
  exact ⟨none,0,none,0,rfl,lst_nil,lst_nil⟩
 ·rw [if_pos rfl,if_pos rfl]
  exact h
theorem one_all {T:Int} {X:List Nat} {e:Ending} {w:World} (h:(T ≠ 0∧e = .returned (.tuple #[.slice none 0 0, .int .i64 T]))∨T=0 ∧ ∃ x c,e = .returned (.tuple #[.slice x X.length c, .int .i64 0])∧Lst w X x c) : ∃ x c,e = .returned (.tuple #[.slice x (if T=0 then X else []).length c, .int .i64 T])∧Lst w (if T=0 then X else []) x c:=by
 rcases h with ⟨h,rfl⟩ | ⟨rfl,h⟩
 ·rw [if_neg h]
  exact ⟨none,0,rfl,lst_nil⟩
 ·rw [if_pos rfl]
  exact h
theorem intsL_yes {X:List Nat} {p q:Option Addr} {c d:Nat} {w:World} (hX:Lst w X p c) (hY:Lst w X q d):Calls Try.prog 35 #[.slice p X.length c, .slice q X.length d] w fun e w'=>e = .returned (.bool true)∧Below w.heap.size w w':=by
 have h:=IntsL_c X X p q c d w hX hY
 rw [decide_eq_true rfl] at h
 exact h
end Go.Proofs.Ytkbbhihndigmeaa

namespace Go.Proofs.Ytkbbhihndigmeaa
open Go Go.RowKit Go.Shelf
set_option maxRecDepth 100000 in
set_option maxHeartbeats 16000000 in
theorem law_pures_c (a:Option Addr) (m cap:Nat) (f:Nat→Row3) (pa:Option Addr) (k pcap:Nat) (p:Nat→Int) (w:World) (hf:Tab w a m f) (hp:Ints w pa k p) :
 Calls Try.prog 5 #[tabV a m cap, .slice pa k pcap] w fun e w'=>e = .returned (.bool true)∧Below w.heap.size w w':=by
 obtain ⟨W,hW⟩ : ∃ W,w.alloc (.cells #[.slice a m cap] 24)=W:=⟨_,rfl⟩
 have hB:Below w.heap.size w W:=by rw [← hW]; exact Below.alloc1 (Below.refl _ _) _ (Nat.le_refl _)
 have R1:=Lib.hid (show RowIs W w.heap.size #[.slice a m cap] 24 by rw [← hW]; exact heap_new_at _ _ _ rfl)
 have H1:=Lib.hid (hf.below hB)
 have HP:=Lib.hid (Cells.below hp hB)
 have B1:=Lib.hid hB
 clear hf hB hp
 cases hg:greatB m f with
 | true=>
   go_enter Try.func5,Try.ntmps5
   have cc1:W.cell? ⟨w.heap.size,0,none⟩=some (.slice a m cap):=RowIs.cell R1.out 0
   have zz2:w.heap.size<W.heap.size:=RowIs.lt R1.out
   go_wp2_with fail
   clear cc1 zz2 hW
   refine (great_c a m cap f _ H1.out).mono ?_
   rintro e w3 ⟨rfl,hbq⟩
   replace R1:=Lib.hid (RowIs.below R1.out hbq)
   replace H1:=Lib.hid (H1.out.below hbq)
   replace HP:=Lib.hid (Cells.below HP.out hbq)
   replace B1:=Lib.hid (bup B1.out hbq)
   clear hbq
   rw [hg]
   have cc4:w3.cell? ⟨w.heap.size,0,none⟩=some (.slice a m cap):=RowIs.cell R1.out 0
   have zz5:w.heap.size<w3.heap.size:=RowIs.lt R1.out
   go_wp2_with fail
   clear cc4 zz5
   refine (works_c _).mono ?_
   rintro e w6 ⟨rfl,hbq⟩
   go_wp2_with fail
   go_ret
   exact ⟨rfl,bup B1.out hbq⟩
 | false=>
   cases h1:decide (8<k) with
   | true=>
     go_enter Try.func5,Try.ntmps5
     have cc7:W.cell? ⟨w.heap.size,0,none⟩=some (.slice a m cap):=RowIs.cell R1.out 0
     have zz8:w.heap.size<W.heap.size:=RowIs.lt R1.out
     go_wp2_with fail
     clear cc7 zz8 hW
     refine (great_c a m cap f _ H1.out).mono ?_
     rintro e w9 ⟨rfl,hbq⟩
     replace R1:=Lib.hid (RowIs.below R1.out hbq)
     replace H1:=Lib.hid (H1.out.below hbq)
     replace HP:=Lib.hid (Cells.below HP.out hbq)
     replace B1:=Lib.hid (bup B1.out hbq)
     clear hbq
     rw [hg]
     have cc10:w9.cell? ⟨w.heap.size,0,none⟩=some (.slice a m cap):=RowIs.cell R1.out 0
     have zz11:w.heap.size<w9.heap.size:=RowIs.lt R1.out
     go_wp2_with fail
     clear cc10 zz11
     refine (long_c pa k pcap _).mono ?_
     rintro e _ ⟨rfl,rfl⟩
     rw [h1]
     have cc13:w9.cell? ⟨w.heap.size,0,none⟩=some (.slice a m cap):=RowIs.cell R1.out 0
     have zz14:w.heap.size<w9.heap.size:=RowIs.lt R1.out
     go_wp2_with fail
     clear cc13 zz14
     refine (works_c _).mono ?_
     rintro e w15 ⟨rfl,hbq⟩
     go_wp2_with fail
     go_ret
     exact ⟨rfl,bup B1.out hbq⟩
   | false=>
     go_enter Try.func5,Try.ntmps5
     have cc16:W.cell? ⟨w.heap.size,0,none⟩=some (.slice a m cap):=RowIs.cell R1.out 0
     have zz17:w.heap.size<W.heap.size:=RowIs.lt R1.out
     go_wp2_with fail
     clear cc16 zz17 hW
     refine (great_c a m cap f _ H1.out).mono ?_
     rintro e w18 ⟨rfl,hbq⟩
     replace R1:=Lib.hid (RowIs.below R1.out hbq)
     replace H1:=Lib.hid (H1.out.below hbq)
     replace HP:=Lib.hid (Cells.below HP.out hbq)
     replace B1:=Lib.hid (bup B1.out hbq)
     clear hbq
     rw [hg]
     have cc19:w18.cell? ⟨w.heap.size,0,none⟩=some (.slice a m cap):=RowIs.cell R1.out 0
     have zz20:w.heap.size<w18.heap.size:=RowIs.lt R1.out
     go_wp2_with fail
     clear cc19 zz20
     refine (long_c pa k pcap _).mono ?_
     rintro e _ ⟨rfl,rfl⟩
     rw [h1]
     have cc22:w18.cell? ⟨w.heap.size,0,none⟩=some (.slice a m cap):=RowIs.cell R1.out 0
     have zz23:w.heap.size<w18.heap.size:=RowIs.lt R1.out
     obtain ⟨hm8,hr8⟩:=great_no hg
     have hm2:m≤1048576:=by omega
     have hr2 : ∀ i,i<m→(f i).n≤1048576:=fun i hi=>by have:=hr8 i hi; omega
     have RR:=Lib.hid hr2
     have hk8:k≤1048576:=by have:=of_decide_eq_false h1; omega
     clear hr8 hr2 hg h1
     obtain ⟨T,hT⟩ : ∃ T,tableE m f=T:=⟨_,rfl⟩
     have KT:=Lib.hid hT
     clear hT
     obtain ⟨⟨v1,v2,v3⟩,hv,hq1,hq2⟩:=pure_named a m cap f hm2 RR.out
     have K1:=Lib.hid hq1
     have K2:=Lib.hid hq2
     clear hv hq1 hq2
     obtain ⟨E,hE⟩ : ∃ E,(boundR m f k p).2.2=E:=⟨_,rfl⟩
     have KE:=Lib.hid hE
     clear hE
     obtain ⟨X,hX⟩ : ∃ L:List Nat,(if E=0 then ansL f m (f 0).n p else [])=L:=⟨_,rfl⟩
     have KX:=Lib.hid hX
     clear hX
     go_wp2_with fail
     clear cc22 zz23
     refine (K1.out _ H1.out).mono ?_
     rintro e w24 ⟨rfl,hbq⟩
     replace R1:=Lib.hid (RowIs.below R1.out hbq)
     replace H1:=Lib.hid (H1.out.below hbq)
     replace HP:=Lib.hid (Cells.below HP.out hbq)
     replace B1:=Lib.hid (bup B1.out hbq)
     clear hbq
     have cc25:w24.cell? ⟨w.heap.size,0,none⟩=some (.slice a m cap):=RowIs.cell R1.out 0
     have zz26:w.heap.size<w24.heap.size:=RowIs.lt R1.out
     go_wp2_with fail
     clear cc25 zz26
     refine (K2.out _ H1.out).mono ?_
     rintro e w27 ⟨rfl,hbq⟩
     replace R1:=Lib.hid (RowIs.below R1.out hbq)
     replace H1:=Lib.hid (H1.out.below hbq)
     replace HP:=Lib.hid (Cells.below HP.out hbq)
     replace B1:=Lib.hid (bup B1.out hbq)
     clear hbq
     have cc28:w27.cell? ⟨w.heap.size,0,none⟩=some (.slice a m cap):=RowIs.cell R1.out 0
     have zz29:w.heap.size<w27.heap.size:=RowIs.lt R1.out
     have C30:=Lib.hid (Answers_v a m cap f pa k pcap p w27 H1.out hm2 RR.out HP.out hk8)
     go_wp2_with fail
     clear cc28 zz29
     refine (C30.out).mono ?_
     rintro e w31 ⟨hres,hbq⟩
     obtain ⟨x1,c1,rfl,hl1⟩:=one_all hres
     rw [KE.out,KX.out] at hl1
     rw [KE.out,KX.out]
     replace R1:=Lib.hid (RowIs.below R1.out hbq)
     replace H1:=Lib.hid (H1.out.below hbq)
     replace HP:=Lib.hid (Cells.below HP.out hbq)
     replace B1:=Lib.hid (bup B1.out hbq)
     have P1:=Lib.hid hl1
     clear hbq hres hl1 C30
     have cc32:w31.cell? ⟨w.heap.size,0,none⟩=some (.slice a m cap):=RowIs.cell R1.out 0
     have zz33:w.heap.size<w31.heap.size:=RowIs.lt R1.out
     have C34:=Lib.hid (rAnswers_c a m cap f pa k pcap p w31 H1.out hm2 HP.out hk8)
     go_wp2_with fail
     clear cc32 zz33
     refine (C34.out).mono ?_
     rintro e w35 ⟨hres,hbq⟩
     obtain ⟨x2,c2,rfl,hl1⟩:=one_all hres
     rw [KE.out,KX.out] at hl1
     rw [KE.out,KX.out]
     replace R1:=Lib.hid (RowIs.below R1.out hbq)
     replace H1:=Lib.hid (H1.out.below hbq)
     replace HP:=Lib.hid (Cells.below HP.out hbq)
     replace P1:=Lib.hid (P1.out.below hbq)
     replace B1:=Lib.hid (bup B1.out hbq)
     have P2:=Lib.hid hl1
     clear hbq hres hl1 C34
     have cc36:w35.cell? ⟨w.heap.size,0,none⟩=some (.slice a m cap):=RowIs.cell R1.out 0
     have zz37:w.heap.size<w35.heap.size:=RowIs.lt R1.out
     go_wp2_with fail
     clear cc36 zz37
     refine (intsL_yes P1.out P2.out).mono ?_
     rintro e w38 ⟨rfl,hbq⟩
     replace R1:=Lib.hid (RowIs.below R1.out hbq)
     replace H1:=Lib.hid (H1.out.below hbq)
     replace HP:=Lib.hid (Cells.below HP.out hbq)
     replace P1:=Lib.hid (P1.out.below hbq)
     replace P2:=Lib.hid (P2.out.below hbq)
     replace B1:=Lib.hid (bup B1.out hbq)
     clear hbq
     go_wp2_with fail
     refine (works_c _).mono ?_
     rintro e w39 ⟨rfl,hbq⟩
     go_wp2_with fail
     go_ret
     exact ⟨rfl,bup B1.out hbq⟩
end Go.Proofs.Ytkbbhihndigmeaa

namespace Go.Proofs.Ytkbbhihndigmeaa
open Go Go.RowKit Go.ChangeShapes Go.WideShapes Go.ChangeAt
theorem own_pures:ownKnob Try.prog.godebug = .none:=by kernel_rfl
theorem laidOut_pures:laidOutB Try.prog=true:=by kernel_rfl
set_option maxRecDepth 100000 in
theorem pures_lifted (os:Os) (started:os.Started) (H:Type) (enc:TypeId × Value→H) :
 ReturnsInHanded {} Try.checked os 5 .any (Rows.searchPuresSpec.pre6 enc Try.prog Try.f5 Rows.searchPuresRow.domain false) (Rows.searchPuresSpec.post enc Try.prog Try.f5 false true false false):=by
 refine returnsInHanded_of_change (C:=Try.checked) own_pures started (by kernel_rfl) Try.func5
  (ChangeSpec.witness6 (enc:=enc) (C:=Try.checked) false ⟨#[], #[.agg #[.slice .none 0 0], .slice .none 0 0],[]⟩ 8 (by kernel_rfl) (by kernel_rfl) (by kernel_rfl) (by kernel_rfl)) ?_
 intro W base args ds gs before hval0 hW hcnd _
 have hval : ∀ (j:Nat) t v,Try.f5.params[j]? = some t→args[j]? = some v→Value.okWide Try.prog W .any base t v:=hval0
 have hW':=hW
 obtain ⟨p,q,hA0,hV,rfl,hfz,hnd⟩:=hW
 have hA:DataW.TrodAll enc Try.prog W 0 (fun _=>true) true Try.f5.params.toList args.toList ds p:=hA0
 rw [Try.params5] at hA hval
 obtain ⟨v0,vs0,d0,ds0,p0,q0,hargs,rfl,rfl,h0,r0⟩:=trodAll_cons hA
 obtain ⟨v1,vs1,d1,ds1,p1,q1,rfl,rfl,rfl,h1,r1⟩:=trodAll_cons r0
 obtain ⟨rfl,rfl,rfl⟩:=trodAll_nil r1
 obtain rfl:args = #[v0,v1]:=by cases args; simp_all
 obtain ⟨rfl,rfl⟩:=trodVars_none hV
 obtain ⟨a0,m0,cap0,f0,rfl,hT0⟩:=open_table (hval 0 24 v0 rfl rfl) h0
 obtain ⟨a1,n1,cap1,f1,rfl,hF1⟩:=open_longs (hval 1 25 v1 rfl rfl) h1
 refine (law_pures_c a0 m0 cap0 f0 a1 n1 cap1 f1 W hT0 hF1).mono fun e W' ⟨he,hb⟩ => ?_
 subst he
 have hlt:=hW'.lt
 simp only [List.append_nil,List.mem_append] at hlt
 refine ⟨_,rfl,_,_,_,[],p0 ++ (p1 ++ []),[],hW',trodAll_mk1 (shut_bool Try.underlying4 true),?_,rfl,hb.frame _,fun h=>Bool.noConfusion h⟩
 exact trodAll_cons_mk (Below.trod laidOut_pures (by kernel_rfl) (of_decide_eq_true (by kernel_rfl)) h0 hb fun x hx=>hlt x (by simp [hx])) (trodAll_cons_mk (Below.trod laidOut_pures (by kernel_rfl) (of_decide_eq_true (by kernel_rfl)) h1 hb fun x hx=>hlt x (by simp [hx])) trodAll_mk0)
theorem pures_holds:Rows.SearchPuresSaid:=
 OpenClaim.holds_of_wide 5 Try.f5 rfl rfl rfl rfl rfl rfl rfl ⟨rfl,rfl,rfl,rfl,rfl⟩ rfl rfl rfl rfl rfl (by kernel_rfl) Try.func5 (by kernel_rfl)
  (of_decide_eq_true (by kernel_rfl)) (by unfold Func.isWrapper; first | (rw [if_pos (by decide +kernel)]; kernel_rfl) | (rw [if_neg (by decide +kernel)]; exact ⟨rfl,rfl⟩))
  (fun os started H enc _=>pures_lifted os started H enc)
end Go.Proofs.Ytkbbhihndigmeaa

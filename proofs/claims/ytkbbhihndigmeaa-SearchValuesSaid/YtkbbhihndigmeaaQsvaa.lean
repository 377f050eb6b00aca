/- For whatever arguments, the law SearchValues returns true, and each argument reads behind the call as it read before. No condition. -/
import Derived.Test.YtkbbhihndigmeaaProg
import Derived.Test.YtkbbhihndigmeaaBasaa
import Derived.Test.YtkbbhihndigmeaaBasac
import Derived.ProofKit
import Derived.OpenShut
import Derived.Deep.Slices
import Derived.Lib.SmallJoins
import Derived.Shelf.Abstract
import Derived.Shelf.RegionOpen
import Derived.Conc.Own4
import Derived.Test.YtkbbhihndigmeaaBasbb
import Derived.Test.YtkbbhihndigmeaaRows
namespace Go.Proofs.Ytkbbhihndigmeaa
open Go Go.RowKit Go.ChangeShapes Go.WideShapes Go.Deep Go.Joins
theorem cellsLong:Try.prog.cellsOf 2=1:=by kernel_rfl
theorem cellsRow:Try.prog.cellsOf 25=1:=by kernel_rfl
theorem cellsRows:Try.prog.cellsOf 22=1:=by kernel_rfl
theorem cellsTab:Try.prog.cellsOf 24=1:=by kernel_rfl
theorem array1 {α : Type} {cs:Array α} (h:cs.size=1) : ∃ c0,cs = #[c0]:=by
 obtain ⟨l⟩:=cs
 match l,h with
 | [c0],_=>exact ⟨c0,rfl⟩
theorem add_plainS (b off n:Nat):(⟨b,off,none⟩:Addr).add n=⟨b,off+n,none⟩:=by
 unfold Addr.add
 split
 ·rename_i h
  rw [h]
  rfl
 ·rfl
section
variable {H:Type} {enc:TypeId × Value→H} {W:World} {sp:Nat→Bool}
set_option maxRecDepth 100000 in
theorem open_longsAt {k:Nat} {v:Value} {y:DataW H × List MemPlace} (h:DataW.trod enc Try.prog W 0 sp true k 25 [v]=some y) :
 ∃ a n cap f,v = .slice a n cap∧Ints W a n f:=by
 rcases open_ints Try.underlying25 Try.underlying2 cellsLong h with ⟨hcs,_⟩ | ⟨a',len,cap',zs,hcs,_,hl,hm,hk,_,hi,_⟩
 ·obtain rfl:v = .slice none 0 0:=by simpa using hcs
  exact ⟨none,0,0,fun _=>0,rfl, .inl rfl⟩
 ·obtain rfl:v = .slice (some a') len cap':=by simpa using hcs
  have hlk:len≤zs.length:=by rw [hk]; split <;> omega
  refine ⟨some a',len,cap',fun i=>zs.getD i 0,rfl,?_⟩
  by_cases h0:len=0
  ·exact .inl h0
  obtain ⟨b,off,rfl,hc⟩:=ints_at hi (by omega)
  exact .inr ⟨b,off,rfl,World.block_lt_of_cell? W _ (hc 0 (by omega)),fun i hin=>hc i (by omega)⟩
set_option maxRecDepth 100000 in
theorem open_longs {base:Nat} {v:Value} {d:DataW H} {p:List MemPlace} (hok:Value.okWide Try.prog W .any base 25 v) (h:DataW.Trod enc Try.prog W 0 sp true 25 v d p) :
 ∃ a n cap f,v = .slice a n cap∧Ints W a n f:=by
 obtain ⟨a,n,cap,rfl⟩:=okWide_slice Try.underlying25 hok
 obtain ⟨fuel,hf⟩:=h
 exact open_longsAt (by simpa [Value.cells] using hf)
set_option maxRecDepth 100000 in
theorem open_rows {k:Nat} {v:Value} {y:DataW H × List MemPlace} (h:DataW.trod enc Try.prog W 0 sp true k 22 [v]=some y) :
 ∃ a m cap f,v = .slice a m cap∧Tab W a m f:=by
 rcases open_slice1 Try.underlying22 cellsRow h with ⟨hcs,_⟩ | ⟨a',len,cap',m,n',V,D,Pl,hcs,_,hl,_,hm,_,hi⟩
 ·obtain rfl:v = .slice none 0 0:=by simpa using hcs
  exact ⟨none,0,0,fun _=>default,rfl, .inl rfl,fun i hi=>absurd hi (Nat.not_lt_zero i)⟩
 ·obtain rfl:v = .slice (some a') len cap':=by simpa using hcs
  have hlm:len≤m:=by rw [hm]; split <;> omega
  obtain ⟨f,hf⟩:=choose_lt (n:=m) (p:=fun i (q:Row3)=>W.cell? (a'.add i)=some (.slice q.a q.n q.cap)∧Ints W q.a q.n q.g) (fun i hik=>by
   obtain ⟨c,t⟩:=hi i hik
   obtain ⟨a,n,cap,g,e,hI⟩:=open_longsAt t
   rw [e] at c
   exact ⟨⟨a,n,cap,g⟩,c,hI⟩)
  refine ⟨some a',len,cap',f,rfl,?_,fun i hi=>(hf i (by omega)).2⟩
  by_cases h0:len=0
  ·exact .inl h0
  obtain ⟨b,off,spot⟩:=a'
  have hspot:spot=none:=by simpa [Addr.add] using World.cell?_spot (hf 0 (by omega)).1
  subst hspot
  have hf' : ∀ i,i<len→W.cell? ⟨b,off+i,none⟩=some (.slice (f i).a (f i).n (f i).cap):=fun i hin=>by
   have:=(hf i (by omega)).1
   rwa [add_plainS] at this
  exact .inr ⟨b,off,rfl,World.block_lt_of_cell? W _ (hf' 0 (by omega)),hf'⟩
set_option maxRecDepth 100000 in
theorem open_table {base:Nat} {v:Value} {d:DataW H} {p:List MemPlace} (hok:Value.okWide Try.prog W .any base 24 v) (h:DataW.Trod enc Try.prog W 0 sp true 24 v d p) :
 ∃ a m cap f,v=tabV a m cap∧Tab W a m f:=by
 obtain ⟨cs,rfl,hsz⟩:=okWide_struct Try.underlying24 hok
 obtain ⟨c0,rfl⟩:=array1 (hsz.trans cellsTab)
 obtain ⟨fuel,hf⟩:=h
 obtain ⟨xs,n,_,_,_,hlen,hg⟩:=DataW.trod_struct Try.underlying24 hf
 match xs,hlen with
 | [y0],_=>
   have h0:=hg 0 _ rfl
   obtain ⟨a,m,cap,f,rfl,hT⟩:=open_rows (v:=c0) (by simpa [Value.cells,cellsRows] using h0)
   exact ⟨a,m,cap,f,rfl,hT⟩
end
end Go.Proofs.Ytkbbhihndigmeaa

namespace Go.Proofs.Ytkbbhihndigmeaa
open Go Go.RowKit Go.Shelf
theorem great_no {m:Nat} {f:Nat→Row3} (h:greatB m f=false):m≤8 ∧ ∀ i,i<m→(f i).n≤8:=by
 simp only [greatB,Bool.or_eq_false_iff,decide_eq_false_iff_not,Bool.not_eq_false'] at h
 refine ⟨by omega,fun i hi => ?_⟩
 have:=(allB_iff _ _).1 h.2 i hi
 simpa using this
theorem two_all {T:Int} {X Y:List Nat} {e:Ending} {w:World} (h:(T ≠ 0∧e = .returned (.tuple #[.slice none 0 0, .slice none 0 0, .int .i64 T]))∨(T=0∧TwoL X Y 0 e w)):TwoL (if T=0 then X else []) (if T=0 then Y else []) T e w:=by
 rcases h with ⟨h,rfl⟩ | ⟨rfl,h⟩
 ·rw [if_neg h,if_neg h]
  exact ⟨none,0,none,0,rfl,lst_nil,lst_nil⟩
 ·rw [if_pos rfl,if_pos rfl]
  exact h
theorem one_all {T:Int} {X:List Nat} {e:Ending} {w:World} (h:(T ≠ 0∧e = .returned (.tuple #[.slice none 0 0, .int .i64 T]))∨T=0 ∧ ∃ x c,e = .returned (.tuple #[.slice x X.length c, .int .i64 0])∧Lst w X x c) : ∃ x c,e = .returned (.tuple #[.slice x (if T=0 then X else []).length c, .int .i64 T])∧Lst w (if T=0 then X else []) x c:=by
 rcases h with ⟨h,rfl⟩ | ⟨rfl,h⟩
 ·rw [if_neg h]
  exact ⟨none,0,rfl,lst_nil⟩
 ·rw [if_pos rfl]
  exact h
theorem intsL_yes {X:List Nat} {p q:Option Addr} {c d:Nat} {w:World} (hX:Lst w X p c) (hY:Lst w X q d):Calls Try.prog 35 #[.slice p X.length c, .slice q X.length d] w fun e w'=>e = .returned (.bool true)∧Below w.heap.size w w':=by
 have h:=IntsL_c X X p q c d w hX hY
 rw [decide_eq_true rfl] at h
 exact h
end Go.Proofs.Ytkbbhihndigmeaa

namespace Go.Proofs.Ytkbbhihndigmeaa
open Go Go.RowKit Go.Shelf
set_option maxRecDepth 100000 in
set_option maxHeartbeats 16000000 in
theorem law_values_c (a:Option Addr) (m cap:Nat) (f:Nat→Row3) (pa:Option Addr) (k pcap:Nat) (p:Nat→Int) (qa:Option Addr) (l qcap:Nat) (q:Nat→Int) (w:World) (hf:Tab w a m f) (hp:Ints w pa k p) (hq:Ints w qa l q) :
 Calls Try.prog 4 #[tabV a m cap, .slice pa k pcap, .slice qa l qcap] w fun e w'=>e = .returned (.bool true)∧Below w.heap.size w w':=by
 obtain ⟨W,hW⟩ : ∃ W,w.alloc (.cells #[.slice a m cap] 24)=W:=⟨_,rfl⟩
 have hB:Below w.heap.size w W:=by rw [← hW]; exact Below.alloc1 (Below.refl _ _) _ (Nat.le_refl _)
 have R1:=Lib.hid (show RowIs W w.heap.size #[.slice a m cap] 24 by rw [← hW]; exact heap_new_at _ _ _ rfl)
 have H1:=Lib.hid (hf.below hB)
 have HP:=Lib.hid (Cells.below hp hB)
 have HQ:=Lib.hid (Cells.below hq hB)
 have B1:=Lib.hid hB
 clear hf hp hq hB
 cases hg:greatB m f with
 | true=>
   go_enter Try.func4,Try.ntmps4
   have cc1:W.cell? ⟨w.heap.size,0,none⟩=some (.slice a m cap):=RowIs.cell R1.out 0
   have zz2:w.heap.size<W.heap.size:=RowIs.lt R1.out
   go_wp2_with fail
   clear cc1 zz2 hW
   refine (great_c a m cap f _ H1.out).mono ?_
   rintro e w3 ⟨rfl,hbq⟩
   replace R1:=Lib.hid (RowIs.below R1.out hbq)
   replace H1:=Lib.hid (H1.out.below hbq)
   replace HP:=Lib.hid (Cells.below HP.out hbq)
   replace HQ:=Lib.hid (Cells.below HQ.out hbq)
   replace B1:=Lib.hid (bup B1.out hbq)
   clear hbq
   rw [hg]
   have cc4:w3.cell? ⟨w.heap.size,0,none⟩=some (.slice a m cap):=RowIs.cell R1.out 0
   have zz5:w.heap.size<w3.heap.size:=RowIs.lt R1.out
   go_wp2_with fail
   clear cc4 zz5
   refine (works_c _).mono ?_
   rintro e w6 ⟨rfl,hbq⟩
   go_wp2_with fail
   go_ret
   exact ⟨rfl,bup B1.out hbq⟩
 | false=>
   cases h1:decide (8<k) with
   | true=>
     go_enter Try.func4,Try.ntmps4
     have cc7:W.cell? ⟨w.heap.size,0,none⟩=some (.slice a m cap):=RowIs.cell R1.out 0
     have zz8:w.heap.size<W.heap.size:=RowIs.lt R1.out
     go_wp2_with fail
     clear cc7 zz8 hW
     refine (great_c a m cap f _ H1.out).mono ?_
     rintro e w9 ⟨rfl,hbq⟩
     replace R1:=Lib.hid (RowIs.below R1.out hbq)
     replace H1:=Lib.hid (H1.out.below hbq)
     replace HP:=Lib.hid (Cells.below HP.out hbq)
     replace HQ:=Lib.hid (Cells.below HQ.out hbq)
     replace B1:=Lib.hid (bup B1.out hbq)
     clear hbq
     rw [hg]
     have cc10:w9.cell? ⟨w.heap.size,0,none⟩=some (.slice a m cap):=RowIs.cell R1.out 0
     have zz11:w.heap.size<w9.heap.size:=RowIs.lt R1.out
     go_wp2_with fail
     clear cc10 zz11
     refine (long_c pa k pcap _).mono ?_
     rintro e _ ⟨rfl,rfl⟩
     rw [h1]
     have cc13:w9.cell? ⟨w.heap.size,0,none⟩=some (.slice a m cap):=RowIs.cell R1.out 0
     have zz14:w.heap.size<w9.heap.size:=RowIs.lt R1.out
     go_wp2_with fail
     clear cc13 zz14
     refine (works_c _).mono ?_
     rintro e w15 ⟨rfl,hbq⟩
     go_wp2_with fail
     go_ret
     exact ⟨rfl,bup B1.out hbq⟩
   | false=>
     cases h2:decide (8<l) with
     | true=>
       go_enter Try.func4,Try.ntmps4
       have cc16:W.cell? ⟨w.heap.size,0,none⟩=some (.slice a m cap):=RowIs.cell R1.out 0
       have zz17:w.heap.size<W.heap.size:=RowIs.lt R1.out
       go_wp2_with fail
       clear cc16 zz17 hW
       refine (great_c a m cap f _ H1.out).mono ?_
       rintro e w18 ⟨rfl,hbq⟩
       replace R1:=Lib.hid (RowIs.below R1.out hbq)
       replace H1:=Lib.hid (H1.out.below hbq)
       replace HP:=Lib.hid (Cells.below HP.out hbq)
       replace HQ:=Lib.hid (Cells.below HQ.out hbq)
       replace B1:=Lib.hid (bup B1.out hbq)
       clear hbq
       rw [hg]
       have cc19:w18.cell? ⟨w.heap.size,0,none⟩=some (.slice a m cap):=RowIs.cell R1.out 0
       have zz20:w.heap.size<w18.heap.size:=RowIs.lt R1.out
       go_wp2_with fail
       clear cc19 zz20
       refine (long_c pa k pcap _).mono ?_
       rintro e _ ⟨rfl,rfl⟩
       rw [h1]
       have cc22:w18.cell? ⟨w.heap.size,0,none⟩=some (.slice a m cap):=RowIs.cell R1.out 0
       have zz23:w.heap.size<w18.heap.size:=RowIs.lt R1.out
       go_wp2_with fail
       clear cc22 zz23
       refine (long_c qa l qcap _).mono ?_
       rintro e _ ⟨rfl,rfl⟩
       rw [h2]
       have cc25:w18.cell? ⟨w.heap.size,0,none⟩=some (.slice a m cap):=RowIs.cell R1.out 0
       have zz26:w.heap.size<w18.heap.size:=RowIs.lt R1.out
       go_wp2_with fail
       clear cc25 zz26
       refine (works_c _).mono ?_
       rintro e w27 ⟨rfl,hbq⟩
       go_wp2_with fail
       go_ret
       exact ⟨rfl,bup B1.out hbq⟩
     | false=>
       go_enter Try.func4,Try.ntmps4
       have cc28:W.cell? ⟨w.heap.size,0,none⟩=some (.slice a m cap):=RowIs.cell R1.out 0
       have zz29:w.heap.size<W.heap.size:=RowIs.lt R1.out
       go_wp2_with fail
       clear cc28 zz29 hW
       refine (great_c a m cap f _ H1.out).mono ?_
       rintro e w30 ⟨rfl,hbq⟩
       replace R1:=Lib.hid (RowIs.below R1.out hbq)
       replace H1:=Lib.hid (H1.out.below hbq)
       replace HP:=Lib.hid (Cells.below HP.out hbq)
       replace HQ:=Lib.hid (Cells.below HQ.out hbq)
       replace B1:=Lib.hid (bup B1.out hbq)
       clear hbq
       rw [hg]
       have cc31:w30.cell? ⟨w.heap.size,0,none⟩=some (.slice a m cap):=RowIs.cell R1.out 0
       have zz32:w.heap.size<w30.heap.size:=RowIs.lt R1.out
       go_wp2_with fail
       clear cc31 zz32
       refine (long_c pa k pcap _).mono ?_
       rintro e _ ⟨rfl,rfl⟩
       rw [h1]
       have cc34:w30.cell? ⟨w.heap.size,0,none⟩=some (.slice a m cap):=RowIs.cell R1.out 0
       have zz35:w.heap.size<w30.heap.size:=RowIs.lt R1.out
       go_wp2_with fail
       clear cc34 zz35
       refine (long_c qa l qcap _).mono ?_
       rintro e _ ⟨rfl,rfl⟩
       rw [h2]
       have cc37:w30.cell? ⟨w.heap.size,0,none⟩=some (.slice a m cap):=RowIs.cell R1.out 0
       have zz38:w.heap.size<w30.heap.size:=RowIs.lt R1.out
       obtain ⟨hm8,hr8⟩:=great_no hg
       have hk8:k≤1048576:=by have:=of_decide_eq_false h1; omega
       have hl8:l≤1048576:=by have:=of_decide_eq_false h2; omega
       have hm2:m≤1048576:=by omega
       have hr2 : ∀ i,i<m→(f i).n≤1048576:=fun i hi=>by have:=hr8 i hi; omega
       have RR:=Lib.hid hr2
       have KM:=Lib.hid hm8
       clear hr8 hr2 hg h1 h2 hm8
       obtain ⟨N,D,E,hS⟩ : ∃ N D E,proofR m f k p l q=(N,D,E):=⟨_,_,_,rfl⟩
       have KP:=Lib.hid hS
       clear hS
       by_cases hT0:tableE m f=0
       ·obtain ⟨v1,v2,hv⟩ : ∃ v1 v2,valueR m f=(v1,v2,0):=⟨(valOf (lossA f) m (f 0).n).1,(valOf (lossA f) m (f 0).n).2,by unfold valueR; rw [if_neg (fun h=>h hT0)]⟩
        have hvv:(valOf (lossA f) m (f 0).n).1=v1∧(valOf (lossA f) m (f 0).n).2=v2:=by
         unfold valueR at hv
         rw [if_neg (fun h=>h hT0)] at hv
         exact ⟨congrArg (·.1) hv,congrArg (·.2.1) hv⟩
        have KV:=Lib.hid hv
        have KW:=Lib.hid hvv
        have K0:=Lib.hid hT0
        clear hv hvv hT0
        have hO:=Lib.hid (okay_of K0.out)
        have hn4:(f 0).n≤4:=hO.out.n4
        obtain ⟨nn,hnn⟩ : ∃ nn,(f 0).n=nn:=⟨_,rfl⟩
        rw [hnn] at hn4
        have KN:=Lib.hid hnn
        have KF:=Lib.hid hn4
        clear hnn hn4
        have C39:=Value_v a m cap f w30 H1.out hm2 RR.out
        rw [KV.out] at C39
        replace C39:=Lib.hid C39
        go_wp2_with fail
        clear cc37 zz38
        refine (C39.out).mono ?_
        rintro e w40 ⟨rfl,hbq⟩
        replace R1:=Lib.hid (RowIs.below R1.out hbq)
        replace H1:=Lib.hid (H1.out.below hbq)
        replace HP:=Lib.hid (Cells.below HP.out hbq)
        replace HQ:=Lib.hid (Cells.below HQ.out hbq)
        replace B1:=Lib.hid (bup B1.out hbq)
        clear hbq
        clear C39
        obtain ⟨Y41,hY41⟩ : ∃ Y41,w40.alloc (.cells #[.int .i64 v1, .int .i64 v2] 30)=Y41:=⟨_,rfl⟩
        have hb42:Below w40.heap.size w40 Y41:=by rw [← hY41]; exact Below.alloc1 (Below.refl _ _) _ (Nat.le_refl _)
        have hr43:RowIs Y41 w40.heap.size #[.int .i64 v1, .int .i64 v2] 30:=by rw [← hY41]; exact heap_new_at _ _ _ rfl
        replace R1:=Lib.hid (RowIs.below R1.out hb42)
        replace H1:=Lib.hid (H1.out.below hb42)
        replace HP:=Lib.hid (Cells.below HP.out hb42)
        replace HQ:=Lib.hid (Cells.below HQ.out hb42)
        replace B1:=Lib.hid (bup B1.out hb42)
        have Q1:=Lib.hid hr43
        clear hb42 hr43
        have cc44:Y41.cell? ⟨w.heap.size,0,none⟩=some (.slice a m cap):=RowIs.cell R1.out 0
        have zz45:w.heap.size<Y41.heap.size:=RowIs.lt R1.out
        have C46:=rValue_c a m cap f Y41 H1.out hm2
        rw [KV.out] at C46
        replace C46:=Lib.hid C46
        go_wp2_with fail
        clear hY41 cc44 zz45
        refine (C46.out).mono ?_
        rintro e w47 ⟨rfl,hbq⟩
        replace R1:=Lib.hid (RowIs.below R1.out hbq)
        replace H1:=Lib.hid (H1.out.below hbq)
        replace HP:=Lib.hid (Cells.below HP.out hbq)
        replace HQ:=Lib.hid (Cells.below HQ.out hbq)
        replace Q1:=Lib.hid (RowIs.below Q1.out hbq)
        replace B1:=Lib.hid (bup B1.out hbq)
        clear hbq
        clear C46
        obtain ⟨Y48,hY48⟩ : ∃ Y48,w47.alloc (.cells #[.int .i64 v1, .int .i64 v2] 30)=Y48:=⟨_,rfl⟩
        have hb49:Below w47.heap.size w47 Y48:=by rw [← hY48]; exact Below.alloc1 (Below.refl _ _) _ (Nat.le_refl _)
        have hr50:RowIs Y48 w47.heap.size #[.int .i64 v1, .int .i64 v2] 30:=by rw [← hY48]; exact heap_new_at _ _ _ rfl
        replace R1:=Lib.hid (RowIs.below R1.out hb49)
        replace H1:=Lib.hid (H1.out.below hb49)
        replace HP:=Lib.hid (Cells.below HP.out hb49)
        replace HQ:=Lib.hid (Cells.below HQ.out hb49)
        replace Q1:=Lib.hid (RowIs.below Q1.out hb49)
        replace B1:=Lib.hid (bup B1.out hb49)
        have Q2:=Lib.hid hr50
        clear hb49 hr50
        have cc51:Y48.cell? ⟨w.heap.size,0,none⟩=some (.slice a m cap):=RowIs.cell R1.out 0
        have zz52:w.heap.size<Y48.heap.size:=RowIs.lt R1.out
        have C53:=CheckProof_c a m cap f pa k pcap p qa l qcap q Y48 H1.out hm2 RR.out HP.out hk8 HQ.out hl8
        rw [KP.out] at C53
        replace C53:=Lib.hid C53
        go_wp2_with fail
        clear hY48 cc51 zz52
        refine (C53.out).mono ?_
        rintro e w54 ⟨rfl,hbq⟩
        replace R1:=Lib.hid (RowIs.below R1.out hbq)
        replace H1:=Lib.hid (H1.out.below hbq)
        replace HP:=Lib.hid (Cells.below HP.out hbq)
        replace HQ:=Lib.hid (Cells.below HQ.out hbq)
        replace Q1:=Lib.hid (RowIs.below Q1.out hbq)
        replace Q2:=Lib.hid (RowIs.below Q2.out hbq)
        replace B1:=Lib.hid (bup B1.out hbq)
        clear hbq
        clear C53
        obtain ⟨Y55,hY55⟩ : ∃ Y55,w54.alloc (.cells #[.int .i64 N, .int .i64 D] 30)=Y55:=⟨_,rfl⟩
        have hb56:Below w54.heap.size w54 Y55:=by rw [← hY55]; exact Below.alloc1 (Below.refl _ _) _ (Nat.le_refl _)
        have hr57:RowIs Y55 w54.heap.size #[.int .i64 N, .int .i64 D] 30:=by rw [← hY55]; exact heap_new_at _ _ _ rfl
        replace R1:=Lib.hid (RowIs.below R1.out hb56)
        replace H1:=Lib.hid (H1.out.below hb56)
        replace HP:=Lib.hid (Cells.below HP.out hb56)
        replace HQ:=Lib.hid (Cells.below HQ.out hb56)
        replace Q1:=Lib.hid (RowIs.below Q1.out hb56)
        replace Q2:=Lib.hid (RowIs.below Q2.out hb56)
        replace B1:=Lib.hid (bup B1.out hb56)
        have Q3:=Lib.hid hr57
        clear hb56 hr57
        have cc58:Y55.cell? ⟨w.heap.size,0,none⟩=some (.slice a m cap):=RowIs.cell R1.out 0
        have zz59:w.heap.size<Y55.heap.size:=RowIs.lt R1.out
        have C60:=rCheckProof_c a m cap f pa k pcap p qa l qcap q Y55 H1.out hm2 HP.out hk8 HQ.out hl8
        rw [KP.out] at C60
        replace C60:=Lib.hid C60
        go_wp2_with fail
        clear hY55 cc58 zz59
        refine (C60.out).mono ?_
        rintro e w61 ⟨rfl,hbq⟩
        replace R1:=Lib.hid (RowIs.below R1.out hbq)
        replace H1:=Lib.hid (H1.out.below hbq)
        replace HP:=Lib.hid (Cells.below HP.out hbq)
        replace HQ:=Lib.hid (Cells.below HQ.out hbq)
        replace Q1:=Lib.hid (RowIs.below Q1.out hbq)
        replace Q2:=Lib.hid (RowIs.below Q2.out hbq)
        replace Q3:=Lib.hid (RowIs.below Q3.out hbq)
        replace B1:=Lib.hid (bup B1.out hbq)
        clear hbq
        clear C60
        obtain ⟨Y62,hY62⟩ : ∃ Y62,w61.alloc (.cells #[.int .i64 N, .int .i64 D] 30)=Y62:=⟨_,rfl⟩
        have hb63:Below w61.heap.size w61 Y62:=by rw [← hY62]; exact Below.alloc1 (Below.refl _ _) _ (Nat.le_refl _)
        have hr64:RowIs Y62 w61.heap.size #[.int .i64 N, .int .i64 D] 30:=by rw [← hY62]; exact heap_new_at _ _ _ rfl
        replace R1:=Lib.hid (RowIs.below R1.out hb63)
        replace H1:=Lib.hid (H1.out.below hb63)
        replace HP:=Lib.hid (Cells.below HP.out hb63)
        replace HQ:=Lib.hid (Cells.below HQ.out hb63)
        replace Q1:=Lib.hid (RowIs.below Q1.out hb63)
        replace Q2:=Lib.hid (RowIs.below Q2.out hb63)
        replace Q3:=Lib.hid (RowIs.below Q3.out hb63)
        replace B1:=Lib.hid (bup B1.out hb63)
        have Q4:=Lib.hid hr64
        clear hb63 hr64
        have cc65:Y62.cell? ⟨w.heap.size,0,none⟩=some (.slice a m cap):=RowIs.cell R1.out 0
        have zz66:w.heap.size<Y62.heap.size:=RowIs.lt R1.out
        have C67:=Lib.hid (Rows_v a m cap f Y62 H1.out hm2 RR.out)
        go_wp2_with fail
        clear hY62 cc65 zz66
        refine (C67.out).mono ?_
        rintro e w68 ⟨hres,hbq⟩
        obtain ⟨gr,xr,hbest,rfl,hrow⟩:=hres.elim (fun h=>absurd K0.out h.1) (fun h=>h.2)
        replace R1:=Lib.hid (RowIs.below R1.out hbq)
        replace H1:=Lib.hid (H1.out.below hbq)
        replace HP:=Lib.hid (Cells.below HP.out hbq)
        replace HQ:=Lib.hid (Cells.below HQ.out hbq)
        replace Q1:=Lib.hid (RowIs.below Q1.out hbq)
        replace Q2:=Lib.hid (RowIs.below Q2.out hbq)
        replace Q3:=Lib.hid (RowIs.below Q3.out hbq)
        replace Q4:=Lib.hid (RowIs.below Q4.out hbq)
        replace B1:=Lib.hid (bup B1.out hbq)
        have BR:=Lib.hid hbest
        have Ggr:=Lib.hid hrow
        clear hbest hrow hbq hres C67
        have cc69:w68.cell? ⟨w.heap.size,0,none⟩=some (.slice a m cap):=RowIs.cell R1.out 0
        have zz70:w.heap.size<w68.heap.size:=RowIs.lt R1.out
        have C71:=Lib.hid (Columns_v a m cap f w68 H1.out hm2 RR.out)
        go_wp2_with fail
        clear cc69 zz70
        refine (C71.out).mono ?_
        rintro e w72 ⟨hres,hbq⟩
        obtain ⟨gk,xk,hbest,rfl,hrow⟩:=hres.elim (fun h=>absurd K0.out h.1) (fun h=>h.2)
        replace R1:=Lib.hid (RowIs.below R1.out hbq)
        replace H1:=Lib.hid (H1.out.below hbq)
        replace HP:=Lib.hid (Cells.below HP.out hbq)
        replace HQ:=Lib.hid (Cells.below HQ.out hbq)
        replace Q1:=Lib.hid (RowIs.below Q1.out hbq)
        replace Q2:=Lib.hid (RowIs.below Q2.out hbq)
        replace Q3:=Lib.hid (RowIs.below Q3.out hbq)
        replace Q4:=Lib.hid (RowIs.below Q4.out hbq)
        replace Ggr:=Lib.hid (RowIs.below Ggr.out hbq)
        replace B1:=Lib.hid (bup B1.out hbq)
        rw [KN.out] at hrow ⊢
        have BC:=Lib.hid hbest
        have Ggk:=Lib.hid hrow
        clear hbest hrow hbq hres C71
        have cc73:w72.cell? ⟨w.heap.size,0,none⟩=some (.slice a m cap):=RowIs.cell R1.out 0
        have zz74:w.heap.size<w72.heap.size:=RowIs.lt R1.out
        have cc75:w72.cell? ⟨w40.heap.size,0,none⟩=some (.int .i64 v1):=RowIs.cell Q1.out 0
        have cc76:w72.cell? ⟨w40.heap.size,1,none⟩=some (.int .i64 v2):=RowIs.cell Q1.out 1
        have zz77:w40.heap.size<w72.heap.size:=RowIs.lt Q1.out
        have cc78:w72.cell? ⟨w47.heap.size,0,none⟩=some (.int .i64 v1):=RowIs.cell Q2.out 0
        have cc79:w72.cell? ⟨w47.heap.size,1,none⟩=some (.int .i64 v2):=RowIs.cell Q2.out 1
        have zz80:w47.heap.size<w72.heap.size:=RowIs.lt Q2.out
        have cc81:w72.cell? ⟨w54.heap.size,0,none⟩=some (.int .i64 N):=RowIs.cell Q3.out 0
        have cc82:w72.cell? ⟨w54.heap.size,1,none⟩=some (.int .i64 D):=RowIs.cell Q3.out 1
        have zz83:w54.heap.size<w72.heap.size:=RowIs.lt Q3.out
        have cc84:w72.cell? ⟨w61.heap.size,0,none⟩=some (.int .i64 N):=RowIs.cell Q4.out 0
        have cc85:w72.cell? ⟨w61.heap.size,1,none⟩=some (.int .i64 D):=RowIs.cell Q4.out 1
        have zz86:w61.heap.size<w72.heap.size:=RowIs.lt Q4.out
        have eq87 : ∀ x,(Op.equalIn 10000 30 (.agg #[.int .i64 v1, .int .i64 v2]) (.agg #[.int .i64 v1, .int .i64 v2])).run Try.prog x = .ok true x:=fun x=>(eqRat v1 v2 v1 v2 x).trans (by simp)
        have eq88 : ∀ x,(Op.equalIn 10000 30 (.agg #[.int .i64 N, .int .i64 D]) (.agg #[.int .i64 N, .int .i64 D])).run Try.prog x = .ok true x:=fun x=>(eqRat N D N D x).trans (by simp)
        have lm:decide (8<m)=false:=decide_eq_false (by have:=KM.out; omega)
        have ln:decide (8<nn)=false:=decide_eq_false (by have:=KF.out; omega)
        have LM:=Lib.hid lm
        have LN:=Lib.hid ln
        clear lm ln
        go_wp2_with fail
        clear cc73 zz74 cc75 cc76 zz77 cc78 cc79 zz80 cc81 cc82 zz83 cc84 cc85 zz86 eq87 eq88
        refine (long_c (some ⟨gr,0,none⟩) m m _).mono ?_
        rintro e _ ⟨rfl,rfl⟩
        rw [LM.out]
        go_wp2_with fail
        refine (long_c (some ⟨gk,0,none⟩) nn nn _).mono ?_
        rintro e _ ⟨rfl,rfl⟩
        rw [LN.out]
        have cc91:w72.cell? ⟨w.heap.size,0,none⟩=some (.slice a m cap):=RowIs.cell R1.out 0
        have zz92:w.heap.size<w72.heap.size:=RowIs.lt R1.out
        have hpv:proofR m f m xr nn xk=(v1,v2,0):=by
         have hq:=best_bounds hO.out BC.out
         have:=proof_val hO.out BR.out.sure hq (fun i hi=>by have:=(BR.out.few i hi).2; omega) (fun i hi=>by have:=(BC.out.few i hi).2; omega)
         rw [KN.out] at this
         rw [this, ← KN.out,KW.out.1,KW.out.2]
        have KR:=Lib.hid hpv
        clear hpv
        have C93:=rCheckProof_c a m cap f (some ⟨gr,0,none⟩) m m xr (some ⟨gk,0,none⟩) nn nn xk w72 H1.out hm2 (rowA_ints Ggr.out) hm2 (rowA_ints Ggk.out) (by have:=KF.out; omega)
        rw [KR.out] at C93
        replace C93:=Lib.hid C93
        go_wp2_with fail
        clear cc91 zz92
        refine (C93.out).mono ?_
        rintro e w94 ⟨rfl,hbq⟩
        replace R1:=Lib.hid (RowIs.below R1.out hbq)
        replace H1:=Lib.hid (H1.out.below hbq)
        replace HP:=Lib.hid (Cells.below HP.out hbq)
        replace HQ:=Lib.hid (Cells.below HQ.out hbq)
        replace Q1:=Lib.hid (RowIs.below Q1.out hbq)
        replace Q2:=Lib.hid (RowIs.below Q2.out hbq)
        replace Q3:=Lib.hid (RowIs.below Q3.out hbq)
        replace Q4:=Lib.hid (RowIs.below Q4.out hbq)
        replace Ggr:=Lib.hid (RowIs.below Ggr.out hbq)
        replace Ggk:=Lib.hid (RowIs.below Ggk.out hbq)
        replace B1:=Lib.hid (bup B1.out hbq)
        clear hbq
        clear C93
        obtain ⟨Y95,hY95⟩ : ∃ Y95,w94.alloc (.cells #[.int .i64 v1, .int .i64 v2] 30)=Y95:=⟨_,rfl⟩
        have hb96:Below w94.heap.size w94 Y95:=by rw [← hY95]; exact Below.alloc1 (Below.refl _ _) _ (Nat.le_refl _)
        have hr97:RowIs Y95 w94.heap.size #[.int .i64 v1, .int .i64 v2] 30:=by rw [← hY95]; exact heap_new_at _ _ _ rfl
        replace R1:=Lib.hid (RowIs.below R1.out hb96)
        replace H1:=Lib.hid (H1.out.below hb96)
        replace HP:=Lib.hid (Cells.below HP.out hb96)
        replace HQ:=Lib.hid (Cells.below HQ.out hb96)
        replace Q1:=Lib.hid (RowIs.below Q1.out hb96)
        replace Q2:=Lib.hid (RowIs.below Q2.out hb96)
        replace Q3:=Lib.hid (RowIs.below Q3.out hb96)
        replace Q4:=Lib.hid (RowIs.below Q4.out hb96)
        replace Ggr:=Lib.hid (RowIs.below Ggr.out hb96)
        replace Ggk:=Lib.hid (RowIs.below Ggk.out hb96)
        replace B1:=Lib.hid (bup B1.out hb96)
        have Q5:=Lib.hid hr97
        clear hb96 hr97
        have cc98:Y95.cell? ⟨w.heap.size,0,none⟩=some (.slice a m cap):=RowIs.cell R1.out 0
        have zz99:w.heap.size<Y95.heap.size:=RowIs.lt R1.out
        have cc100:Y95.cell? ⟨w47.heap.size,0,none⟩=some (.int .i64 v1):=RowIs.cell Q2.out 0
        have cc101:Y95.cell? ⟨w47.heap.size,1,none⟩=some (.int .i64 v2):=RowIs.cell Q2.out 1
        have zz102:w47.heap.size<Y95.heap.size:=RowIs.lt Q2.out
        have cc103:Y95.cell? ⟨w94.heap.size,0,none⟩=some (.int .i64 v1):=RowIs.cell Q5.out 0
        have cc104:Y95.cell? ⟨w94.heap.size,1,none⟩=some (.int .i64 v2):=RowIs.cell Q5.out 1
        have zz105:w94.heap.size<Y95.heap.size:=RowIs.lt Q5.out
        have eq106 : ∀ x,(Op.equalIn 10000 30 (.agg #[.int .i64 v1, .int .i64 v2]) (.agg #[.int .i64 v1, .int .i64 v2])).run Try.prog x = .ok true x:=fun x=>(eqRat v1 v2 v1 v2 x).trans (by simp)
        go_wp2_with fail
        clear hY95 cc98 zz99 cc100 cc101 zz102 cc103 cc104 zz105 eq106
        refine (works_c _).mono ?_
        rintro e w107 ⟨rfl,hbq⟩
        go_wp2_with fail
        go_ret
        exact ⟨rfl,bup B1.out hbq⟩
       ·obtain ⟨T,hT⟩ : ∃ T,tableE m f=T:=⟨_,rfl⟩
        have hv:valueR m f=(0,0,T):=by unfold valueR; rw [if_pos hT0,hT]
        have KV:=Lib.hid hv
        have K0:=Lib.hid hT0
        have KT:=Lib.hid hT
        have t0:(T != (0:Int))=true:=by rw [← hT]; simp [hT0]
        have t1:T ≠ 0:=by rw [← hT]; exact hT0
        clear hv hT0 hT
        have C108:=Value_v a m cap f w30 H1.out hm2 RR.out
        rw [KV.out] at C108
        replace C108:=Lib.hid C108
        go_wp2_with fail
        clear cc37 zz38
        refine (C108.out).mono ?_
        rintro e w109 ⟨rfl,hbq⟩
        replace R1:=Lib.hid (RowIs.below R1.out hbq)
        replace H1:=Lib.hid (H1.out.below hbq)
        replace HP:=Lib.hid (Cells.below HP.out hbq)
        replace HQ:=Lib.hid (Cells.below HQ.out hbq)
        replace B1:=Lib.hid (bup B1.out hbq)
        clear hbq
        clear C108
        obtain ⟨Y110,hY110⟩ : ∃ Y110,w109.alloc (.cells #[.int .i64 0, .int .i64 0] 30)=Y110:=⟨_,rfl⟩
        have hr112:RowIs Y110 w109.heap.size #[.int .i64 0, .int .i64 0] 30:=by rw [← hY110]; exact heap_new_at _ _ _ rfl
        obtain ⟨Z111,hZ111⟩ : ∃ Z111,(Y110.setCell ⟨w109.heap.size,0,none⟩ (.int .i64 0)).setCell ⟨w109.heap.size,1,none⟩ (.int .i64 0)=Z111:=⟨_,rfl⟩
        have hbz:Below w109.heap.size w109 Z111:=by rw [← hZ111, ← hY110]; exact ((Below.alloc1 (Below.refl _ _) _ (Nat.le_refl _)).setCell (p:=⟨w109.heap.size,0,none⟩) (Nat.le_refl _) _).setCell (p:=⟨w109.heap.size,1,none⟩) (Nat.le_refl _) _
        have hrz:RowIs Z111 w109.heap.size #[.int .i64 0, .int .i64 0] 30:=by rw [← hZ111]; exact (hr112.set 0 (.int .i64 0)).set 1 (.int .i64 0)
        have hr112a:=hr112.cell 0
        have hr112b:=hr112.cell 1
        have hr112c:=hr112.frozen 0
        have hr112d:=hr112.frozen 1
        have hr112e:=hr112.lt
        simp at hr112a hr112b
        clear hr112
        replace R1:=Lib.hid (RowIs.below R1.out hbz)
        replace H1:=Lib.hid (H1.out.below hbz)
        replace HP:=Lib.hid (Cells.below HP.out hbz)
        replace HQ:=Lib.hid (Cells.below HQ.out hbz)
        replace B1:=Lib.hid (bup B1.out hbz)
        have Q1:=Lib.hid hrz
        clear hbz hrz
        have cc113:Z111.cell? ⟨w.heap.size,0,none⟩=some (.slice a m cap):=RowIs.cell R1.out 0
        have zz114:w.heap.size<Z111.heap.size:=RowIs.lt R1.out
        have C115:=rValue_c a m cap f Z111 H1.out hm2
        rw [KV.out] at C115
        replace C115:=Lib.hid C115
        go_wp2_with fail
        clear hY110 hZ111 hr112a hr112b hr112c hr112d hr112e cc113 zz114
        refine (C115.out).mono ?_
        rintro e w116 ⟨rfl,hbq⟩
        replace R1:=Lib.hid (RowIs.below R1.out hbq)
        replace H1:=Lib.hid (H1.out.below hbq)
        replace HP:=Lib.hid (Cells.below HP.out hbq)
        replace HQ:=Lib.hid (Cells.below HQ.out hbq)
        replace Q1:=Lib.hid (RowIs.below Q1.out hbq)
        replace B1:=Lib.hid (bup B1.out hbq)
        clear hbq
        clear C115
        obtain ⟨Y117,hY117⟩ : ∃ Y117,w116.alloc (.cells #[.int .i64 0, .int .i64 0] 30)=Y117:=⟨_,rfl⟩
        have hr119:RowIs Y117 w116.heap.size #[.int .i64 0, .int .i64 0] 30:=by rw [← hY117]; exact heap_new_at _ _ _ rfl
        obtain ⟨Z118,hZ118⟩ : ∃ Z118,(Y117.setCell ⟨w116.heap.size,0,none⟩ (.int .i64 0)).setCell ⟨w116.heap.size,1,none⟩ (.int .i64 0)=Z118:=⟨_,rfl⟩
        have hbz:Below w116.heap.size w116 Z118:=by rw [← hZ118, ← hY117]; exact ((Below.alloc1 (Below.refl _ _) _ (Nat.le_refl _)).setCell (p:=⟨w116.heap.size,0,none⟩) (Nat.le_refl _) _).setCell (p:=⟨w116.heap.size,1,none⟩) (Nat.le_refl _) _
        have hrz:RowIs Z118 w116.heap.size #[.int .i64 0, .int .i64 0] 30:=by rw [← hZ118]; exact (hr119.set 0 (.int .i64 0)).set 1 (.int .i64 0)
        have hr119a:=hr119.cell 0
        have hr119b:=hr119.cell 1
        have hr119c:=hr119.frozen 0
        have hr119d:=hr119.frozen 1
        have hr119e:=hr119.lt
        simp at hr119a hr119b
        clear hr119
        replace R1:=Lib.hid (RowIs.below R1.out hbz)
        replace H1:=Lib.hid (H1.out.below hbz)
        replace HP:=Lib.hid (Cells.below HP.out hbz)
        replace HQ:=Lib.hid (Cells.below HQ.out hbz)
        replace Q1:=Lib.hid (RowIs.below Q1.out hbz)
        replace B1:=Lib.hid (bup B1.out hbz)
        have Q2:=Lib.hid hrz
        clear hbz hrz
        have cc120:Z118.cell? ⟨w.heap.size,0,none⟩=some (.slice a m cap):=RowIs.cell R1.out 0
        have zz121:w.heap.size<Z118.heap.size:=RowIs.lt R1.out
        have C122:=CheckProof_c a m cap f pa k pcap p qa l qcap q Z118 H1.out hm2 RR.out HP.out hk8 HQ.out hl8
        rw [KP.out] at C122
        replace C122:=Lib.hid C122
        go_wp2_with fail
        clear hY117 hZ118 hr119a hr119b hr119c hr119d hr119e cc120 zz121
        refine (C122.out).mono ?_
        rintro e w123 ⟨rfl,hbq⟩
        replace R1:=Lib.hid (RowIs.below R1.out hbq)
        replace H1:=Lib.hid (H1.out.below hbq)
        replace HP:=Lib.hid (Cells.below HP.out hbq)
        replace HQ:=Lib.hid (Cells.below HQ.out hbq)
        replace Q1:=Lib.hid (RowIs.below Q1.out hbq)
        replace Q2:=Lib.hid (RowIs.below Q2.out hbq)
        replace B1:=Lib.hid (bup B1.out hbq)
        clear hbq
        clear C122
        obtain ⟨Y124,hY124⟩ : ∃ Y124,w123.alloc (.cells #[.int .i64 N, .int .i64 D] 30)=Y124:=⟨_,rfl⟩
        have hb125:Below w123.heap.size w123 Y124:=by rw [← hY124]; exact Below.alloc1 (Below.refl _ _) _ (Nat.le_refl _)
        have hr126:RowIs Y124 w123.heap.size #[.int .i64 N, .int .i64 D] 30:=by rw [← hY124]; exact heap_new_at _ _ _ rfl
        replace R1:=Lib.hid (RowIs.below R1.out hb125)
        replace H1:=Lib.hid (H1.out.below hb125)
        replace HP:=Lib.hid (Cells.below HP.out hb125)
        replace HQ:=Lib.hid (Cells.below HQ.out hb125)
        replace Q1:=Lib.hid (RowIs.below Q1.out hb125)
        replace Q2:=Lib.hid (RowIs.below Q2.out hb125)
        replace B1:=Lib.hid (bup B1.out hb125)
        have Q3:=Lib.hid hr126
        clear hb125 hr126
        have cc127:Y124.cell? ⟨w.heap.size,0,none⟩=some (.slice a m cap):=RowIs.cell R1.out 0
        have zz128:w.heap.size<Y124.heap.size:=RowIs.lt R1.out
        have C129:=rCheckProof_c a m cap f pa k pcap p qa l qcap q Y124 H1.out hm2 HP.out hk8 HQ.out hl8
        rw [KP.out] at C129
        replace C129:=Lib.hid C129
        go_wp2_with fail
        clear hY124 cc127 zz128
        refine (C129.out).mono ?_
        rintro e w130 ⟨rfl,hbq⟩
        replace R1:=Lib.hid (RowIs.below R1.out hbq)
        replace H1:=Lib.hid (H1.out.below hbq)
        replace HP:=Lib.hid (Cells.below HP.out hbq)
        replace HQ:=Lib.hid (Cells.below HQ.out hbq)
        replace Q1:=Lib.hid (RowIs.below Q1.out hbq)
        replace Q2:=Lib.hid (RowIs.below Q2.out hbq)
        replace Q3:=Lib.hid (RowIs.below Q3.out hbq)
        replace B1:=Lib.hid (bup B1.out hbq)
        clear hbq
        clear C129
        obtain ⟨Y131,hY131⟩ : ∃ Y131,w130.alloc (.cells #[.int .i64 N, .int .i64 D] 30)=Y131:=⟨_,rfl⟩
        have hb132:Below w130.heap.size w130 Y131:=by rw [← hY131]; exact Below.alloc1 (Below.refl _ _) _ (Nat.le_refl _)
        have hr133:RowIs Y131 w130.heap.size #[.int .i64 N, .int .i64 D] 30:=by rw [← hY131]; exact heap_new_at _ _ _ rfl
        replace R1:=Lib.hid (RowIs.below R1.out hb132)
        replace H1:=Lib.hid (H1.out.below hb132)
        replace HP:=Lib.hid (Cells.below HP.out hb132)
        replace HQ:=Lib.hid (Cells.below HQ.out hb132)
        replace Q1:=Lib.hid (RowIs.below Q1.out hb132)
        replace Q2:=Lib.hid (RowIs.below Q2.out hb132)
        replace Q3:=Lib.hid (RowIs.below Q3.out hb132)
        replace B1:=Lib.hid (bup B1.out hb132)
        have Q4:=Lib.hid hr133
        clear hb132 hr133
        have cc134:Y131.cell? ⟨w.heap.size,0,none⟩=some (.slice a m cap):=RowIs.cell R1.out 0
        have zz135:w.heap.size<Y131.heap.size:=RowIs.lt R1.out
        have C136:=Lib.hid (Rows_v a m cap f Y131 H1.out hm2 RR.out)
        go_wp2_with fail
        clear hY131 cc134 zz135
        refine (C136.out).mono ?_
        rintro e w137 ⟨hres,hbq⟩
        obtain rfl:=hres.elim (fun h=>h.2) (fun h=>absurd h.1 K0.out)
        rw [KT.out]
        replace R1:=Lib.hid (RowIs.below R1.out hbq)
        replace H1:=Lib.hid (H1.out.below hbq)
        replace HP:=Lib.hid (Cells.below HP.out hbq)
        replace HQ:=Lib.hid (Cells.below HQ.out hbq)
        replace Q1:=Lib.hid (RowIs.below Q1.out hbq)
        replace Q2:=Lib.hid (RowIs.below Q2.out hbq)
        replace Q3:=Lib.hid (RowIs.below Q3.out hbq)
        replace Q4:=Lib.hid (RowIs.below Q4.out hbq)
        replace B1:=Lib.hid (bup B1.out hbq)
        clear hbq hres C136
        have cc138:w137.cell? ⟨w.heap.size,0,none⟩=some (.slice a m cap):=RowIs.cell R1.out 0
        have zz139:w.heap.size<w137.heap.size:=RowIs.lt R1.out
        have C140:=Lib.hid (Columns_v a m cap f w137 H1.out hm2 RR.out)
        go_wp2_with fail
        clear cc138 zz139
        refine (C140.out).mono ?_
        rintro e w141 ⟨hres,hbq⟩
        obtain rfl:=hres.elim (fun h=>h.2) (fun h=>absurd h.1 K0.out)
        rw [KT.out]
        replace R1:=Lib.hid (RowIs.below R1.out hbq)
        replace H1:=Lib.hid (H1.out.below hbq)
        replace HP:=Lib.hid (Cells.below HP.out hbq)
        replace HQ:=Lib.hid (Cells.below HQ.out hbq)
        replace Q1:=Lib.hid (RowIs.below Q1.out hbq)
        replace Q2:=Lib.hid (RowIs.below Q2.out hbq)
        replace Q3:=Lib.hid (RowIs.below Q3.out hbq)
        replace Q4:=Lib.hid (RowIs.below Q4.out hbq)
        replace B1:=Lib.hid (bup B1.out hbq)
        clear hbq hres C140
        have cc142:w141.cell? ⟨w.heap.size,0,none⟩=some (.slice a m cap):=RowIs.cell R1.out 0
        have zz143:w.heap.size<w141.heap.size:=RowIs.lt R1.out
        have cc144:w141.cell? ⟨w109.heap.size,0,none⟩=some (.int .i64 0):=RowIs.cell Q1.out 0
        have cc145:w141.cell? ⟨w109.heap.size,1,none⟩=some (.int .i64 0):=RowIs.cell Q1.out 1
        have zz146:w109.heap.size<w141.heap.size:=RowIs.lt Q1.out
        have cc147:w141.cell? ⟨w116.heap.size,0,none⟩=some (.int .i64 0):=RowIs.cell Q2.out 0
        have cc148:w141.cell? ⟨w116.heap.size,1,none⟩=some (.int .i64 0):=RowIs.cell Q2.out 1
        have zz149:w116.heap.size<w141.heap.size:=RowIs.lt Q2.out
        have cc150:w141.cell? ⟨w123.heap.size,0,none⟩=some (.int .i64 N):=RowIs.cell Q3.out 0
        have cc151:w141.cell? ⟨w123.heap.size,1,none⟩=some (.int .i64 D):=RowIs.cell Q3.out 1
        have zz152:w123.heap.size<w141.heap.size:=RowIs.lt Q3.out
        have cc153:w141.cell? ⟨w130.heap.size,0,none⟩=some (.int .i64 N):=RowIs.cell Q4.out 0
        have cc154:w141.cell? ⟨w130.heap.size,1,none⟩=some (.int .i64 D):=RowIs.cell Q4.out 1
        have zz155:w130.heap.size<w141.heap.size:=RowIs.lt Q4.out
        have eq156 : ∀ x,(Op.equalIn 10000 30 (.agg #[.int .i64 0, .int .i64 0]) (.agg #[.int .i64 0, .int .i64 0])).run Try.prog x = .ok true x:=fun x=>(eqRat 0 0 0 0 x).trans (by simp)
        have eq157 : ∀ x,(Op.equalIn 10000 30 (.agg #[.int .i64 N, .int .i64 D]) (.agg #[.int .i64 N, .int .i64 D])).run Try.prog x = .ok true x:=fun x=>(eqRat N D N D x).trans (by simp)
        have l0:decide (8<0)=false:=rfl
        go_wp2_with fail
        clear cc142 zz143 cc144 cc145 zz146 cc147 cc148 zz149 cc150 cc151 zz152 cc153 cc154 zz155 eq156 eq157
        refine (long_c none 0 0 _).mono ?_
        rintro e _ ⟨rfl,rfl⟩
        rw [l0]
        go_wp2_with fail
        refine (long_c none 0 0 _).mono ?_
        rintro e _ ⟨rfl,rfl⟩
        rw [l0]
        have cc160:w141.cell? ⟨w.heap.size,0,none⟩=some (.slice a m cap):=RowIs.cell R1.out 0
        have zz161:w.heap.size<w141.heap.size:=RowIs.lt R1.out
        go_wp2_with fail
        clear cc160 zz161
        refine (works_c _).mono ?_
        rintro e w162 ⟨rfl,hbq⟩
        go_wp2_with fail
        go_ret
        exact ⟨rfl,bup B1.out hbq⟩
end Go.Proofs.Ytkbbhihndigmeaa

namespace Go.Proofs.Ytkbbhihndigmeaa
open Go Go.RowKit Go.ChangeShapes Go.WideShapes Go.ChangeAt
theorem own_values:ownKnob Try.prog.godebug = .none:=by kernel_rfl
theorem laidOut_values:laidOutB Try.prog=true:=by kernel_rfl
set_option maxRecDepth 100000 in
theorem values_lifted (os:Os) (started:os.Started) (H:Type) (enc:TypeId × Value→H) :
 ReturnsInHanded {} Try.checked os 4 .any (Rows.searchValuesSpec.pre6 enc Try.prog Try.f4 Rows.searchValuesRow.domain false) (Rows.searchValuesSpec.post enc Try.prog Try.f4 false true false false):=by
 refine returnsInHanded_of_change (C:=Try.checked) own_values started (by kernel_rfl) Try.func4
  (ChangeSpec.witness6 (enc:=enc) (C:=Try.checked) false ⟨#[], #[.agg #[.slice .none 0 0], .slice .none 0 0, .slice .none 0 0],[]⟩ 8 (by kernel_rfl) (by kernel_rfl) (by kernel_rfl) (by kernel_rfl)) ?_
 intro W base args ds gs before hval0 hW hcnd _
 have hval : ∀ (j:Nat) t v,Try.f4.params[j]? = some t→args[j]? = some v→Value.okWide Try.prog W .any base t v:=hval0
 have hW':=hW
 obtain ⟨p,q,hA0,hV,rfl,hfz,hnd⟩:=hW
 have hA:DataW.TrodAll enc Try.prog W 0 (fun _=>true) true Try.f4.params.toList args.toList ds p:=hA0
 rw [Try.params4] at hA hval
 obtain ⟨v0,vs0,d0,ds0,p0,q0,hargs,rfl,rfl,h0,r0⟩:=trodAll_cons hA
 obtain ⟨v1,vs1,d1,ds1,p1,q1,rfl,rfl,rfl,h1,r1⟩:=trodAll_cons r0
 obtain ⟨v2,vs2,d2,ds2,p2,q2,rfl,rfl,rfl,h2,r2⟩:=trodAll_cons r1
 obtain ⟨rfl,rfl,rfl⟩:=trodAll_nil r2
 obtain rfl:args = #[v0,v1,v2]:=by cases args; simp_all
 obtain ⟨rfl,rfl⟩:=trodVars_none hV
 obtain ⟨a0,m0,cap0,f0,rfl,hT0⟩:=open_table (hval 0 24 v0 rfl rfl) h0
 obtain ⟨a1,n1,cap1,f1,rfl,hF1⟩:=open_longs (hval 1 25 v1 rfl rfl) h1
 obtain ⟨a2,n2,cap2,f2,rfl,hF2⟩:=open_longs (hval 2 25 v2 rfl rfl) h2
 refine (law_values_c a0 m0 cap0 f0 a1 n1 cap1 f1 a2 n2 cap2 f2 W hT0 hF1 hF2).mono fun e W' ⟨he,hb⟩ => ?_
 subst he
 have hlt:=hW'.lt
 simp only [List.append_nil,List.mem_append] at hlt
 refine ⟨_,rfl,_,_,_,[],p0 ++ (p1 ++ (p2 ++ [])),[],hW',trodAll_mk1 (shut_bool Try.underlying4 true),?_,rfl,hb.frame _,fun h=>Bool.noConfusion h⟩
 exact trodAll_cons_mk (Below.trod laidOut_values (by kernel_rfl) (of_decide_eq_true (by kernel_rfl)) h0 hb fun x hx=>hlt x (by simp [hx])) (trodAll_cons_mk (Below.trod laidOut_values (by kernel_rfl) (of_decide_eq_true (by kernel_rfl)) h1 hb fun x hx=>hlt x (by simp [hx])) (trodAll_cons_mk (Below.trod laidOut_values (by kernel_rfl) (of_decide_eq_true (by kernel_rfl)) h2 hb fun x hx=>hlt x (by simp [hx])) trodAll_mk0))
theorem values_holds:Rows.SearchValuesSaid:=
 OpenClaim.holds_of_wide 4 Try.f4 rfl rfl rfl rfl rfl rfl rfl ⟨rfl,rfl,rfl,rfl,rfl⟩ rfl rfl rfl rfl rfl (by kernel_rfl) Try.func4 (by kernel_rfl)
  (of_decide_eq_true (by kernel_rfl)) (by unfold Func.isWrapper; first | (rw [if_pos (by decide +kernel)]; kernel_rfl) | (rw [if_neg (by decide +kernel)]; exact ⟨rfl,rfl⟩))
  (fun os started H enc _=>values_lifted os started H enc)
end Go.Proofs.Ytkbbhihndigmeaa

/- For whatever arguments, the law SearchTables returns true, and each argument reads behind the call as it read before. No condition. -/
import Derived.Test.YtkbbhihndigmeaaProg
import Derived.Test.YtkbbhihndigmeaaBasaa
import Derived.Test.YtkbbhihndigmeaaBasac
import Derived.ProofKit
import Derived.OpenShut
import Derived.Deep.Slices
import Derived.Lib.SmallJoins
import Derived.Shelf.Abstract
import Derived.Shelf.RegionOpen
import Derived.Conc.Own4
import Derived.Test.YtkbbhihndigmeaaBasbb
import Derived.Test.YtkbbhihndigmeaaRows
namespace Go.Proofs.Ytkbbhihndigmeaa
open Go Go.RowKit Go.ChangeShapes Go.WideShapes Go.Deep Go.Joins
theorem cellsLong:Try.prog.cellsOf 2=1:=by kernel_rfl
theorem cellsRow:Try.prog.cellsOf 25=1:=by kernel_rfl
theorem cellsRows:Try.prog.cellsOf 22=1:=by kernel_rfl
theorem cellsTab:Try.prog.cellsOf 24=1:=by kernel_rfl
theorem array1 {α : Type} {cs:Array α} (h:cs.size=1) : ∃ c0,cs = #[c0]:=by
 obtain ⟨l⟩:=cs
 match l,h with
 | [c0],_=>exact ⟨c0,rfl⟩
theorem add_plainS (b off n:Nat):(⟨b,off,none⟩:Addr).add n=⟨b,off+n,none⟩:=by
 unfold Addr.add
 split
 ·rename_i h
  rw [h]
  rfl
 ·rfl
section
variable {H:Type} {enc:TypeId × Value→H} {W:World} {sp:Nat→Bool}
set_option maxRecDepth 100000 in
theorem open_longsAt {k:Nat} {v:Value} {y:DataW H × List MemPlace} (h:DataW.trod enc Try.prog W 0 sp true k 25 [v]=some y) :
 ∃ a n cap f,v = .slice a n cap∧Ints W a n f:=by
 rcases open_ints Try.underlying25 Try.underlying2 cellsLong h with ⟨hcs,_⟩ | ⟨a',len,cap',zs,hcs,_,hl,hm,hk,_,hi,_⟩
 ·obtain rfl:v = .slice none 0 0:=by simpa using hcs
  exact ⟨none,0,0,fun _=>0,rfl, .inl rfl⟩
 ·obtain rfl:v = .slice (some a') len cap':=by simpa using hcs
  have hlk:len≤zs.length:=by rw [hk]; split <;> omega
  refine ⟨some a',len,cap',fun i=>zs.getD i 0,rfl,?_⟩
  by_cases h0:len=0
  ·exact .inl h0
  obtain ⟨b,off,rfl,hc⟩:=ints_at hi (by omega)
  exact .inr ⟨b,off,rfl,World.block_lt_of_cell? W _ (hc 0 (by omega)),fun i hin=>hc i (by omega)⟩
set_option maxRecDepth 100000 in
theorem open_longs {base:Nat} {v:Value} {d:DataW H} {p:List MemPlace} (hok:Value.okWide Try.prog W .any base 25 v) (h:DataW.Trod enc Try.prog W 0 sp true 25 v d p) :
 ∃ a n cap f,v = .slice a n cap∧Ints W a n f:=by
 obtain ⟨a,n,cap,rfl⟩:=okWide_slice Try.underlying25 hok
 obtain ⟨fuel,hf⟩:=h
 exact open_longsAt (by simpa [Value.cells] using hf)
set_option maxRecDepth 100000 in
theorem open_rows {k:Nat} {v:Value} {y:DataW H × List MemPlace} (h:DataW.trod enc Try.prog W 0 sp true k 22 [v]=some y) :
 ∃ a m cap f,v = .slice a m cap∧Tab W a m f:=by
 rcases open_slice1 Try.underlying22 cellsRow h with ⟨hcs,_⟩ | ⟨a',len,cap',m,n',V,D,Pl,hcs,_,hl,_,hm,_,hi⟩
 ·obtain rfl:v = .slice none 0 0:=by simpa using hcs
  exact ⟨none,0,0,fun _=>default,rfl, .inl rfl,fun i hi=>absurd hi (Nat.not_lt_zero i)⟩
 ·obtain rfl:v = .slice (some a') len cap':=by simpa using hcs
  have hlm:len≤m:=by rw [hm]; split <;> omega
  obtain ⟨f,hf⟩:=choose_lt (n:=m) (p:=fun i (q:Row3)=>W.cell? (a'.add i)=some (.slice q.a q.n q.cap)∧Ints W q.a q.n q.g) (fun i hik=>by
   obtain ⟨c,t⟩:=hi i hik
   obtain ⟨a,n,cap,g,e,hI⟩:=open_longsAt t
   rw [e] at c
   exact ⟨⟨a,n,cap,g⟩,c,hI⟩)
  refine ⟨some a',len,cap',f,rfl,?_,fun i hi=>(hf i (by omega)).2⟩
  by_cases h0:len=0
  ·exact .inl h0
  obtain ⟨b,off,spot⟩:=a'
  have hspot:spot=none:=by simpa [Addr.add] using World.cell?_spot (hf 0 (by omega)).1
  subst hspot
  have hf' : ∀ i,i<len→W.cell? ⟨b,off+i,none⟩=some (.slice (f i).a (f i).n (f i).cap):=fun i hin=>by
   have:=(hf i (by omega)).1
   rwa [add_plainS] at this
  exact .inr ⟨b,off,rfl,World.block_lt_of_cell? W _ (hf' 0 (by omega)),hf'⟩
set_option maxRecDepth 100000 in
theorem open_table {base:Nat} {v:Value} {d:DataW H} {p:List MemPlace} (hok:Value.okWide Try.prog W .any base 24 v) (h:DataW.Trod enc Try.prog W 0 sp true 24 v d p) :
 ∃ a m cap f,v=tabV a m cap∧Tab W a m f:=by
 obtain ⟨cs,rfl,hsz⟩:=okWide_struct Try.underlying24 hok
 obtain ⟨c0,rfl⟩:=array1 (hsz.trans cellsTab)
 obtain ⟨fuel,hf⟩:=h
 obtain ⟨xs,n,_,_,_,hlen,hg⟩:=DataW.trod_struct Try.underlying24 hf
 match xs,hlen with
 | [y0],_=>
   have h0:=hg 0 _ rfl
   obtain ⟨a,m,cap,f,rfl,hT⟩:=open_rows (v:=c0) (by simpa [Value.cells,cellsRows] using h0)
   exact ⟨a,m,cap,f,rfl,hT⟩
end
end Go.Proofs.Ytkbbhihndigmeaa

namespace Go.Proofs.Ytkbbhihndigmeaa
open Go Go.RowKit Go.Shelf
theorem great_no {m:Nat} {f:Nat→Row3} (h:greatB m f=false):m≤8 ∧ ∀ i,i<m→(f i).n≤8:=by
 simp only [greatB,Bool.or_eq_false_iff,decide_eq_false_iff_not,Bool.not_eq_false'] at h
 refine ⟨by omega,fun i hi => ?_⟩
 have:=(allB_iff _ _).1 h.2 i hi
 simpa using this
theorem two_all {T:Int} {X Y:List Nat} {e:Ending} {w:World} (h:(T ≠ 0∧e = .returned (.tuple #[.slice none 0 0, .slice none 0 0, .int .i64 T]))∨(T=0∧TwoL X Y 0 e w)):TwoL (if T=0 then X else []) (if T=0 then Y else []) T e w:=by
 rcases h with ⟨h,rfl⟩ | ⟨rfl,h⟩
 ·rw [if_neg h,if_neg h]
  exact ⟨none,0,none,0,rfl,lst_nil,lst_nil⟩
 ·rw [if_pos rfl,if_pos rfl]
  exact h
theorem one_all {T:Int} {X:List Nat} {e:Ending} {w:World} (h:(T ≠ 0∧e = .returned (.tuple #[.slice none 0 0, .int .i64 T]))∨T=0 ∧ ∃ x c,e = .returned (.tuple #[.slice x X.length c, .int .i64 0])∧Lst w X x c) : ∃ x c,e = .returned (.tuple #[.slice x (if T=0 then X else []).length c, .int .i64 T])∧Lst w (if T=0 then X else []) x c:=by
 rcases h with ⟨h,rfl⟩ | ⟨rfl,h⟩
 ·rw [if_neg h]
  exact ⟨none,0,rfl,lst_nil⟩
 ·rw [if_pos rfl]
  exact h
theorem intsL_yes {X:List Nat} {p q:Option Addr} {c d:Nat} {w:World} (hX:Lst w X p c) (hY:Lst w X q d):Calls Try.prog 35 #[.slice p X.length c, .slice q X.length d] w fun e w'=>e = .returned (.bool true)∧Below w.heap.size w w':=by
 have h:=IntsL_c X X p q c d w hX hY
 rw [decide_eq_true rfl] at h
 exact h
end Go.Proofs.Ytkbbhihndigmeaa

namespace Go.Proofs.Ytkbbhihndigmeaa
open Go Go.RowKit Go.Shelf
set_option maxRecDepth 100000 in
set_option maxHeartbeats 16000000 in
theorem law_tables_c (a:Option Addr) (m cap:Nat) (f:Nat→Row3) (pa:Option Addr) (k pcap:Nat) (p:Nat→Int) (qa:Option Addr) (l qcap:Nat) (q:Nat→Int) (w:World) (hf:Tab w a m f) (hp:Ints w pa k p) (hq:Ints w qa l q) :
 Calls Try.prog 3 #[tabV a m cap, .slice pa k pcap, .slice qa l qcap] w fun e w'=>e = .returned (.bool true)∧Below w.heap.size w w':=by
 obtain ⟨W,hW⟩ : ∃ W,w.alloc (.cells #[.slice a m cap] 24)=W:=⟨_,rfl⟩
 have hB:Below w.heap.size w W:=by rw [← hW]; exact Below.alloc1 (Below.refl _ _) _ (Nat.le_refl _)
 have R1:=Lib.hid (show RowIs W w.heap.size #[.slice a m cap] 24 by rw [← hW]; exact heap_new_at _ _ _ rfl)
 have H1:=Lib.hid (hf.below hB)
 have HP:=Lib.hid (Cells.below hp hB)
 have HQ:=Lib.hid (Cells.below hq hB)
 have B1:=Lib.hid hB
 clear hf hp hq hB
 cases hg:greatB m f with
 | true=>
   go_enter Try.func3,Try.ntmps3
   have cc1:W.cell? ⟨w.heap.size,0,none⟩=some (.slice a m cap):=RowIs.cell R1.out 0
   have zz2:w.heap.size<W.heap.size:=RowIs.lt R1.out
   go_wp2_with fail
   clear cc1 zz2 hW
   refine (great_c a m cap f _ H1.out).mono ?_
   rintro e w3 ⟨rfl,hbq⟩
   replace R1:=Lib.hid (RowIs.below R1.out hbq)
   replace H1:=Lib.hid (H1.out.below hbq)
   replace HP:=Lib.hid (Cells.below HP.out hbq)
   replace HQ:=Lib.hid (Cells.below HQ.out hbq)
   replace B1:=Lib.hid (bup B1.out hbq)
   clear hbq
   rw [hg]
   have cc4:w3.cell? ⟨w.heap.size,0,none⟩=some (.slice a m cap):=RowIs.cell R1.out 0
   have zz5:w.heap.size<w3.heap.size:=RowIs.lt R1.out
   go_wp2_with fail
   clear cc4 zz5
   refine (works_c _).mono ?_
   rintro e w6 ⟨rfl,hbq⟩
   go_wp2_with fail
   go_ret
   exact ⟨rfl,bup B1.out hbq⟩
 | false=>
   cases h1:decide (8<k) with
   | true=>
     go_enter Try.func3,Try.ntmps3
     have cc7:W.cell? ⟨w.heap.size,0,none⟩=some (.slice a m cap):=RowIs.cell R1.out 0
     have zz8:w.heap.size<W.heap.size:=RowIs.lt R1.out
     go_wp2_with fail
     clear cc7 zz8 hW
     refine (great_c a m cap f _ H1.out).mono ?_
     rintro e w9 ⟨rfl,hbq⟩
     replace R1:=Lib.hid (RowIs.below R1.out hbq)
     replace H1:=Lib.hid (H1.out.below hbq)
     replace HP:=Lib.hid (Cells.below HP.out hbq)
     replace HQ:=Lib.hid (Cells.below HQ.out hbq)
     replace B1:=Lib.hid (bup B1.out hbq)
     clear hbq
     rw [hg]
     have cc10:w9.cell? ⟨w.heap.size,0,none⟩=some (.slice a m cap):=RowIs.cell R1.out 0
     have zz11:w.heap.size<w9.heap.size:=RowIs.lt R1.out
     go_wp2_with fail
     clear cc10 zz11
     refine (long_c pa k pcap _).mono ?_
     rintro e _ ⟨rfl,rfl⟩
     rw [h1]
     have cc13:w9.cell? ⟨w.heap.size,0,none⟩=some (.slice a m cap):=RowIs.cell R1.out 0
     have zz14:w.heap.size<w9.heap.size:=RowIs.lt R1.out
     go_wp2_with fail
     clear cc13 zz14
     refine (works_c _).mono ?_
     rintro e w15 ⟨rfl,hbq⟩
     go_wp2_with fail
     go_ret
     exact ⟨rfl,bup B1.out hbq⟩
   | false=>
     cases h2:decide (8<l) with
     | true=>
       go_enter Try.func3,Try.ntmps3
       have cc16:W.cell? ⟨w.heap.size,0,none⟩=some (.slice a m cap):=RowIs.cell R1.out 0
       have zz17:w.heap.size<W.heap.size:=RowIs.lt R1.out
       go_wp2_with fail
       clear cc16 zz17 hW
       refine (great_c a m cap f _ H1.out).mono ?_
       rintro e w18 ⟨rfl,hbq⟩
       replace R1:=Lib.hid (RowIs.below R1.out hbq)
       replace H1:=Lib.hid (H1.out.below hbq)
       replace HP:=Lib.hid (Cells.below HP.out hbq)
       replace HQ:=Lib.hid (Cells.below HQ.out hbq)
       replace B1:=Lib.hid (bup B1.out hbq)
       clear hbq
       rw [hg]
       have cc19:w18.cell? ⟨w.heap.size,0,none⟩=some (.slice a m cap):=RowIs.cell R1.out 0
       have zz20:w.heap.size<w18.heap.size:=RowIs.lt R1.out
       go_wp2_with fail
       clear cc19 zz20
       refine (long_c pa k pcap _).mono ?_
       rintro e _ ⟨rfl,rfl⟩
       rw [h1]
       have cc22:w18.cell? ⟨w.heap.size,0,none⟩=some (.slice a m cap):=RowIs.cell R1.out 0
       have zz23:w.heap.size<w18.heap.size:=RowIs.lt R1.out
       go_wp2_with fail
       clear cc22 zz23
       refine (long_c qa l qcap _).mono ?_
       rintro e _ ⟨rfl,rfl⟩
       rw [h2]
       have cc25:w18.cell? ⟨w.heap.size,0,none⟩=some (.slice a m cap):=RowIs.cell R1.out 0
       have zz26:w.heap.size<w18.heap.size:=RowIs.lt R1.out
       go_wp2_with fail
       clear cc25 zz26
       refine (works_c _).mono ?_
       rintro e w27 ⟨rfl,hbq⟩
       go_wp2_with fail
       go_ret
       exact ⟨rfl,bup B1.out hbq⟩
     | false=>
       go_enter Try.func3,Try.ntmps3
       have cc28:W.cell? ⟨w.heap.size,0,none⟩=some (.slice a m cap):=RowIs.cell R1.out 0
       have zz29:w.heap.size<W.heap.size:=RowIs.lt R1.out
       go_wp2_with fail
       clear cc28 zz29 hW
       refine (great_c a m cap f _ H1.out).mono ?_
       rintro e w30 ⟨rfl,hbq⟩
       replace R1:=Lib.hid (RowIs.below R1.out hbq)
       replace H1:=Lib.hid (H1.out.below hbq)
       replace HP:=Lib.hid (Cells.below HP.out hbq)
       replace HQ:=Lib.hid (Cells.below HQ.out hbq)
       replace B1:=Lib.hid (bup B1.out hbq)
       clear hbq
       rw [hg]
       have cc31:w30.cell? ⟨w.heap.size,0,none⟩=some (.slice a m cap):=RowIs.cell R1.out 0
       have zz32:w.heap.size<w30.heap.size:=RowIs.lt R1.out
       go_wp2_with fail
       clear cc31 zz32
       refine (long_c pa k pcap _).mono ?_
       rintro e _ ⟨rfl,rfl⟩
       rw [h1]
       have cc34:w30.cell? ⟨w.heap.size,0,none⟩=some (.slice a m cap):=RowIs.cell R1.out 0
       have zz35:w.heap.size<w30.heap.size:=RowIs.lt R1.out
       go_wp2_with fail
       clear cc34 zz35
       refine (long_c qa l qcap _).mono ?_
       rintro e _ ⟨rfl,rfl⟩
       rw [h2]
       have cc37:w30.cell? ⟨w.heap.size,0,none⟩=some (.slice a m cap):=RowIs.cell R1.out 0
       have zz38:w.heap.size<w30.heap.size:=RowIs.lt R1.out
       obtain ⟨hm8,hr8⟩:=great_no hg
       have hk8:k≤1048576:=by have:=of_decide_eq_false h1; omega
       have hl8:l≤1048576:=by have:=of_decide_eq_false h2; omega
       have hm2:m≤1048576:=by omega
       have hr2 : ∀ i,i<m→(f i).n≤1048576:=fun i hi=>by have:=hr8 i hi; omega
       have RR:=Lib.hid hr2
       clear hr8 hr2 hg h1 h2
       obtain ⟨N,D,E,hS⟩ : ∃ N D E,sureR m f k p=(N,D,E):=⟨_,_,_,rfl⟩
       obtain ⟨N2,D2,E2,hS2⟩ : ∃ N D E,boundR m f l q=(N,D,E):=⟨_,_,_,rfl⟩
       obtain ⟨T,hT⟩ : ∃ T,tableE m f=T:=⟨_,rfl⟩
       have KS:=Lib.hid hS
       have KB:=Lib.hid hS2
       have KT:=Lib.hid hT
       clear hS hS2 hT
       have C39:=Sure_c a m cap f pa k pcap p w30 H1.out hm2 RR.out HP.out hk8
       rw [KS.out] at C39
       replace C39:=Lib.hid C39
       go_wp2_with fail
       clear cc37 zz38
       refine (C39.out).mono ?_
       rintro e w40 ⟨rfl,hbq⟩
       replace R1:=Lib.hid (RowIs.below R1.out hbq)
       replace H1:=Lib.hid (H1.out.below hbq)
       replace HP:=Lib.hid (Cells.below HP.out hbq)
       replace HQ:=Lib.hid (Cells.below HQ.out hbq)
       replace B1:=Lib.hid (bup B1.out hbq)
       clear hbq
       clear C39
       obtain ⟨Y42,hY42⟩ : ∃ Y42,w40.alloc (.cells #[.int .i64 N, .int .i64 D] 30)=Y42:=⟨_,rfl⟩
       have hb43:Below w40.heap.size w40 Y42:=by rw [← hY42]; exact Below.alloc1 (Below.refl _ _) _ (Nat.le_refl _)
       have hr44:RowIs Y42 w40.heap.size #[.int .i64 N, .int .i64 D] 30:=by rw [← hY42]; exact heap_new_at _ _ _ rfl
       replace R1:=Lib.hid (RowIs.below R1.out hb43)
       replace H1:=Lib.hid (H1.out.below hb43)
       replace HP:=Lib.hid (Cells.below HP.out hb43)
       replace HQ:=Lib.hid (Cells.below HQ.out hb43)
       replace B1:=Lib.hid (bup B1.out hb43)
       have Q41:=Lib.hid hr44
       clear hb43 hr44
       have cc45:Y42.cell? ⟨w.heap.size,0,none⟩=some (.slice a m cap):=RowIs.cell R1.out 0
       have zz46:w.heap.size<Y42.heap.size:=RowIs.lt R1.out
       have C47:=rSure_c a m cap f pa k pcap p Y42 H1.out hm2 HP.out hk8
       rw [KS.out] at C47
       replace C47:=Lib.hid C47
       go_wp2_with fail
       clear hY42 cc45 zz46
       refine (C47.out).mono ?_
       rintro e w48 ⟨rfl,hbq⟩
       replace R1:=Lib.hid (RowIs.below R1.out hbq)
       replace H1:=Lib.hid (H1.out.below hbq)
       replace HP:=Lib.hid (Cells.below HP.out hbq)
       replace HQ:=Lib.hid (Cells.below HQ.out hbq)
       replace Q41:=Lib.hid (RowIs.below Q41.out hbq)
       replace B1:=Lib.hid (bup B1.out hbq)
       clear hbq
       clear C47
       obtain ⟨Y50,hY50⟩ : ∃ Y50,w48.alloc (.cells #[.int .i64 N, .int .i64 D] 30)=Y50:=⟨_,rfl⟩
       have hb51:Below w48.heap.size w48 Y50:=by rw [← hY50]; exact Below.alloc1 (Below.refl _ _) _ (Nat.le_refl _)
       have hr52:RowIs Y50 w48.heap.size #[.int .i64 N, .int .i64 D] 30:=by rw [← hY50]; exact heap_new_at _ _ _ rfl
       replace R1:=Lib.hid (RowIs.below R1.out hb51)
       replace H1:=Lib.hid (H1.out.below hb51)
       replace HP:=Lib.hid (Cells.below HP.out hb51)
       replace HQ:=Lib.hid (Cells.below HQ.out hb51)
       replace Q41:=Lib.hid (RowIs.below Q41.out hb51)
       replace B1:=Lib.hid (bup B1.out hb51)
       have Q49:=Lib.hid hr52
       clear hb51 hr52
       have cc53:Y50.cell? ⟨w.heap.size,0,none⟩=some (.slice a m cap):=RowIs.cell R1.out 0
       have zz54:w.heap.size<Y50.heap.size:=RowIs.lt R1.out
       have C55:=Bound_c a m cap f qa l qcap q Y50 H1.out hm2 RR.out HQ.out hl8
       rw [KB.out] at C55
       replace C55:=Lib.hid C55
       go_wp2_with fail
       clear hY50 cc53 zz54
       refine (C55.out).mono ?_
       rintro e w56 ⟨rfl,hbq⟩
       replace R1:=Lib.hid (RowIs.below R1.out hbq)
       replace H1:=Lib.hid (H1.out.below hbq)
       replace HP:=Lib.hid (Cells.below HP.out hbq)
       replace HQ:=Lib.hid (Cells.below HQ.out hbq)
       replace Q41:=Lib.hid (RowIs.below Q41.out hbq)
       replace Q49:=Lib.hid (RowIs.below Q49.out hbq)
       replace B1:=Lib.hid (bup B1.out hbq)
       clear hbq
       clear C55
       obtain ⟨Y58,hY58⟩ : ∃ Y58,w56.alloc (.cells #[.int .i64 N2, .int .i64 D2] 30)=Y58:=⟨_,rfl⟩
       have hb59:Below w56.heap.size w56 Y58:=by rw [← hY58]; exact Below.alloc1 (Below.refl _ _) _ (Nat.le_refl _)
       have hr60:RowIs Y58 w56.heap.size #[.int .i64 N2, .int .i64 D2] 30:=by rw [← hY58]; exact heap_new_at _ _ _ rfl
       replace R1:=Lib.hid (RowIs.below R1.out hb59)
       replace H1:=Lib.hid (H1.out.below hb59)
       replace HP:=Lib.hid (Cells.below HP.out hb59)
       replace HQ:=Lib.hid (Cells.below HQ.out hb59)
       replace Q41:=Lib.hid (RowIs.below Q41.out hb59)
       replace Q49:=Lib.hid (RowIs.below Q49.out hb59)
       replace B1:=Lib.hid (bup B1.out hb59)
       have Q57:=Lib.hid hr60
       clear hb59 hr60
       have cc61:Y58.cell? ⟨w.heap.size,0,none⟩=some (.slice a m cap):=RowIs.cell R1.out 0
       have zz62:w.heap.size<Y58.heap.size:=RowIs.lt R1.out
       have C63:=rBound_c a m cap f qa l qcap q Y58 H1.out hm2 HQ.out hl8
       rw [KB.out] at C63
       replace C63:=Lib.hid C63
       go_wp2_with fail
       clear hY58 cc61 zz62
       refine (C63.out).mono ?_
       rintro e w64 ⟨rfl,hbq⟩
       replace R1:=Lib.hid (RowIs.below R1.out hbq)
       replace H1:=Lib.hid (H1.out.below hbq)
       replace HP:=Lib.hid (Cells.below HP.out hbq)
       replace HQ:=Lib.hid (Cells.below HQ.out hbq)
       replace Q41:=Lib.hid (RowIs.below Q41.out hbq)
       replace Q49:=Lib.hid (RowIs.below Q49.out hbq)
       replace Q57:=Lib.hid (RowIs.below Q57.out hbq)
       replace B1:=Lib.hid (bup B1.out hbq)
       clear hbq
       clear C63
       obtain ⟨Y66,hY66⟩ : ∃ Y66,w64.alloc (.cells #[.int .i64 N2, .int .i64 D2] 30)=Y66:=⟨_,rfl⟩
       have hb67:Below w64.heap.size w64 Y66:=by rw [← hY66]; exact Below.alloc1 (Below.refl _ _) _ (Nat.le_refl _)
       have hr68:RowIs Y66 w64.heap.size #[.int .i64 N2, .int .i64 D2] 30:=by rw [← hY66]; exact heap_new_at _ _ _ rfl
       replace R1:=Lib.hid (RowIs.below R1.out hb67)
       replace H1:=Lib.hid (H1.out.below hb67)
       replace HP:=Lib.hid (Cells.below HP.out hb67)
       replace HQ:=Lib.hid (Cells.below HQ.out hb67)
       replace Q41:=Lib.hid (RowIs.below Q41.out hb67)
       replace Q49:=Lib.hid (RowIs.below Q49.out hb67)
       replace Q57:=Lib.hid (RowIs.below Q57.out hb67)
       replace B1:=Lib.hid (bup B1.out hb67)
       have Q65:=Lib.hid hr68
       clear hb67 hr68
       have cc69:Y66.cell? ⟨w.heap.size,0,none⟩=some (.slice a m cap):=RowIs.cell R1.out 0
       have zz70:w.heap.size<Y66.heap.size:=RowIs.lt R1.out
       have C1:=fun (x:World) (h:Below Y66.heap.size Y66 x)=>CheckTable_c a m cap f x (H1.out.below h) hm2 RR.out
       have C2:=fun (x:World) (h:Below Y66.heap.size Y66 x)=>rcheckTable_c a m cap f x (H1.out.below h) hm2
       rw [KT.out] at C1 C2
       replace C1:=Lib.hid C1
       replace C2:=Lib.hid C2
       have cc71:Y66.cell? ⟨w40.heap.size,0,none⟩=some (.int .i64 N):=RowIs.cell Q41.out 0
       have cc72:Y66.cell? ⟨w40.heap.size,1,none⟩=some (.int .i64 D):=RowIs.cell Q41.out 1
       have zz73:w40.heap.size<Y66.heap.size:=RowIs.lt Q41.out
       have cc74:Y66.cell? ⟨w48.heap.size,0,none⟩=some (.int .i64 N):=RowIs.cell Q49.out 0
       have cc75:Y66.cell? ⟨w48.heap.size,1,none⟩=some (.int .i64 D):=RowIs.cell Q49.out 1
       have zz76:w48.heap.size<Y66.heap.size:=RowIs.lt Q49.out
       have cc77:Y66.cell? ⟨w56.heap.size,0,none⟩=some (.int .i64 N2):=RowIs.cell Q57.out 0
       have cc78:Y66.cell? ⟨w56.heap.size,1,none⟩=some (.int .i64 D2):=RowIs.cell Q57.out 1
       have zz79:w56.heap.size<Y66.heap.size:=RowIs.lt Q57.out
       have cc80:Y66.cell? ⟨w64.heap.size,0,none⟩=some (.int .i64 N2):=RowIs.cell Q65.out 0
       have cc81:Y66.cell? ⟨w64.heap.size,1,none⟩=some (.int .i64 D2):=RowIs.cell Q65.out 1
       have zz82:w64.heap.size<Y66.heap.size:=RowIs.lt Q65.out
       have eq83 : ∀ x,(Op.equalIn 10000 30 (.agg #[.int .i64 N, .int .i64 D]) (.agg #[.int .i64 N, .int .i64 D])).run Try.prog x = .ok true x:=fun x=>(eqRat N D N D x).trans (by simp)
       have eq84 : ∀ x,(Op.equalIn 10000 30 (.agg #[.int .i64 N2, .int .i64 D2]) (.agg #[.int .i64 N2, .int .i64 D2])).run Try.prog x = .ok true x:=fun x=>(eqRat N2 D2 N2 D2 x).trans (by simp)
       have hlc:=fun (x:Later Y66)=>later_cell x
       go_wp2_with fail
       refine wp_region_later (by kernel_rfl) (by kernel_rfl) ?_
       repeat (go_big_quiet_step ((first | (with_reducible refine calls_later (C1.out _ (Later.h _))) | (with_reducible refine calls_later (C2.out _ (Later.h _))) | (with_reducible refine calls_later (works_c _)))))
       refine wpQuiet_nil ?_
       clear hlc
       rintro ⟨w9,hb9⟩
       go_wp2_with fail
       go_ret
       exact ⟨rfl,bup B1.out hb9⟩
end Go.Proofs.Ytkbbhihndigmeaa

namespace Go.Proofs.Ytkbbhihndigmeaa
open Go Go.RowKit Go.ChangeShapes Go.WideShapes Go.ChangeAt
theorem own_tables:ownKnob Try.prog.godebug = .none:=by kernel_rfl
theorem laidOut_tables:laidOutB Try.prog=true:=by kernel_rfl
set_option maxRecDepth 100000 in
theorem tables_lifted (os:Os) (started:os.Started) (H:Type) (enc:TypeId × Value→H) :
 ReturnsInHanded {} Try.checked os 3 .any (Rows.searchTablesSpec.pre6 enc Try.prog Try.f3 Rows.searchTablesRow.domain false) (Rows.searchTablesSpec.post enc Try.prog Try.f3 false true false false):=by
 refine returnsInHanded_of_change (C:=Try.checked) own_tables started (by kernel_rfl) Try.func3
  (ChangeSpec.witness6 (enc:=enc) (C:=Try.checked) false ⟨#[], #[.agg #[.slice .none 0 0], .slice .none 0 0, .slice .none 0 0],[]⟩ 8 (by kernel_rfl) (by kernel_rfl) (by kernel_rfl) (by kernel_rfl)) ?_
 intro W base args ds gs before hval0 hW hcnd _
 have hval : ∀ (j:Nat) t v,Try.f3.params[j]? = some t→args[j]? = some v→Value.okWide Try.prog W .any base t v:=hval0
 have hW':=hW
 obtain ⟨p,q,hA0,hV,rfl,hfz,hnd⟩:=hW
 have hA:DataW.TrodAll enc Try.prog W 0 (fun _=>true) true Try.f3.params.toList args.toList ds p:=hA0
 rw [Try.params3] at hA hval
 obtain ⟨v0,vs0,d0,ds0,p0,q0,hargs,rfl,rfl,h0,r0⟩:=trodAll_cons hA
 obtain ⟨v1,vs1,d1,ds1,p1,q1,rfl,rfl,rfl,h1,r1⟩:=trodAll_cons r0
 obtain ⟨v2,vs2,d2,ds2,p2,q2,rfl,rfl,rfl,h2,r2⟩:=trodAll_cons r1
 obtain ⟨rfl,rfl,rfl⟩:=trodAll_nil r2
 obtain rfl:args = #[v0,v1,v2]:=by cases args; simp_all
 obtain ⟨rfl,rfl⟩:=trodVars_none hV
 obtain ⟨a0,m0,cap0,f0,rfl,hT0⟩:=open_table (hval 0 24 v0 rfl rfl) h0
 obtain ⟨a1,n1,cap1,f1,rfl,hF1⟩:=open_longs (hval 1 25 v1 rfl rfl) h1
 obtain ⟨a2,n2,cap2,f2,rfl,hF2⟩:=open_longs (hval 2 25 v2 rfl rfl) h2
 refine (law_tables_c a0 m0 cap0 f0 a1 n1 cap1 f1 a2 n2 cap2 f2 W hT0 hF1 hF2).mono fun e W' ⟨he,hb⟩ => ?_
 subst he
 have hlt:=hW'.lt
 simp only [List.append_nil,List.mem_append] at hlt
 refine ⟨_,rfl,_,_,_,[],p0 ++ (p1 ++ (p2 ++ [])),[],hW',trodAll_mk1 (shut_bool Try.underlying4 true),?_,rfl,hb.frame _,fun h=>Bool.noConfusion h⟩
 exact trodAll_cons_mk (Below.trod laidOut_tables (by kernel_rfl) (of_decide_eq_true (by kernel_rfl)) h0 hb fun x hx=>hlt x (by simp [hx])) (trodAll_cons_mk (Below.trod laidOut_tables (by kernel_rfl) (of_decide_eq_true (by kernel_rfl)) h1 hb fun x hx=>hlt x (by simp [hx])) (trodAll_cons_mk (Below.trod laidOut_tables (by kernel_rfl) (of_decide_eq_true (by kernel_rfl)) h2 hb fun x hx=>hlt x (by simp [hx])) trodAll_mk0))
theorem tables_holds:Rows.SearchTablesSaid:=
 OpenClaim.holds_of_wide 3 Try.f3 rfl rfl rfl rfl rfl rfl rfl ⟨rfl,rfl,rfl,rfl,rfl⟩ rfl rfl rfl rfl rfl (by kernel_rfl) Try.func3 (by kernel_rfl)
  (of_decide_eq_true (by kernel_rfl)) (by unfold Func.isWrapper; first | (rw [if_pos (by decide +kernel)]; kernel_rfl) | (rw [if_neg (by decide +kernel)]; exact ⟨rfl,rfl⟩))
  (fun os started H enc _=>tables_lifted os started H enc)
end Go.Proofs.Ytkbbhihndigmeaa

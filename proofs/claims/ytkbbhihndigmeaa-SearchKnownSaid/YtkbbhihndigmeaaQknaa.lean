/- What the laws of layer 3 share: tables that are not too great, lists or an error. -/
import Derived.Shelf.Abstract
import Derived.Shelf.RegionOpen
import Derived.Conc.Own4
import Derived.Test.YtkbbhihndigmeaaBasbb
namespace Go.Proofs.Ytkbbhihndigmeaa
open Go Go.RowKit Go.Shelf
theorem great_no {m:Nat} {f:Nat→Row3} (h:greatB m f=false):m≤8 ∧ ∀ i,i<m→(f i).n≤8:=by
 simp only [greatB,Bool.or_eq_false_iff,decide_eq_false_iff_not,Bool.not_eq_false'] at h
 refine ⟨by omega,fun i hi => ?_⟩
 have:=(allB_iff _ _).1 h.2 i hi
 simpa using this
theorem two_all {T:Int} {X Y:List Nat} {e:Ending} {w:World} (h:(T ≠ 0∧e = .returned (.tuple #[.slice none 0 0, .slice none 0 0, .int .i64 T]))∨(T=0∧TwoL X Y 0 e w)):TwoL (if T=0 then X else []) (if T=0 then Y else []) T e w:=by
 rcases h with ⟨h,rfl⟩ | ⟨rfl,h⟩
 ·rw [if_neg h,if_neg h]
  exact ⟨none,0,none,0,rfl,lst_nil,lst_nil⟩
 ·rw [if_pos rfl,if_pos rfl]
  exact h
theorem one_all {T:Int} {X:List Nat} {e:Ending} {w:World} (h:(T ≠ 0∧e = .returned (.tuple #[.slice none 0 0, .int .i64 T]))∨T=0 ∧ ∃ x c,e = .returned (.tuple #[.slice x X.length c, .int .i64 0])∧Lst w X x c) : ∃ x c,e = .returned (.tuple #[.slice x (if T=0 then X else []).length c, .int .i64 T])∧Lst w (if T=0 then X else []) x c:=by
 rcases h with ⟨h,rfl⟩ | ⟨rfl,h⟩
 ·rw [if_neg h]
  exact ⟨none,0,rfl,lst_nil⟩
 ·rw [if_pos rfl]
  exact h
theorem intsL_yes {X:List Nat} {p q:Option Addr} {c d:Nat} {w:World} (hX:Lst w X p c) (hY:Lst w X q d):Calls Try.prog 35 #[.slice p X.length c, .slice q X.length d] w fun e w'=>e = .returned (.bool true)∧Below w.heap.size w w':=by
 have h:=IntsL_c X X p q c d w hX hY
 rw [decide_eq_true rfl] at h
 exact h
end Go.Proofs.Ytkbbhihndigmeaa

namespace Go.Proofs.Ytkbbhihndigmeaa
open Go Go.RowKit Go.Shelf
theorem fine_great {m:Nat} {f:Nat→Row3} (h:tableE m f=0):greatB m f=false:=by
 have hO:=okay_of h
 have h4:=hO.m4
 simp only [greatB,Bool.or_eq_false_iff,decide_eq_false_iff_not,Bool.not_eq_false']
 refine ⟨by omega,(allB_iff _ _).2 fun i hi => ?_⟩
 have h1:=hO.len i hi
 have h2:=hO.n4
 rw [decide_eq_true_eq]
 omega
def fineB (m:Nat) (f:Nat→Row3):Bool:=decide (tableE m f=0)
set_option maxHeartbeats 4000000 in
theorem fine_c (a:Option Addr) (m cap:Nat) (f:Nat→Row3) (w:World) (hf:Tab w a m f):Calls Try.prog 40 #[tabV a m cap] w fun e w'=>e = .returned (.bool (fineB m f))∧Below w.heap.size w w':=by
 obtain ⟨W,hW⟩ : ∃ W,w.alloc (.cells #[.slice a m cap] 24)=W:=⟨_,rfl⟩
 have hB:Below w.heap.size w W:=by rw [← hW]; exact Below.alloc1 (Below.refl _ _) _ (Nat.le_refl _)
 have hR:RowIs W w.heap.size #[.slice a m cap] 24:=by rw [← hW]; exact heap_new_at _ _ _ rfl
 have r0:W.cell? ⟨w.heap.size,0,none⟩=some (.slice a m cap):=RowIs.cell hR 0
 have rz:w.heap.size<W.heap.size:=hR.lt
 have HF:=Lib.hid (hf.below hB)
 clear hR hf
 cases hg:greatB m f with
 | true=>
   have e:fineB m f=false:=decide_eq_false fun h=>by rw [fine_great h] at hg; cases hg
   rw [e]
   clear e
   have HG:=Lib.hid hg
   clear hg
   go_enter Try.func40,Try.ntmps40
   go_wp2_with fail
   refine (great_c a m cap f _ HF.out).mono ?_
   rintro e w1 ⟨rfl,hb1⟩
   rw [HG.out]
   go_wp2_with fail
   go_ret
   exact ⟨rfl,bup hB hb1⟩
 | false=>
   have hm2:m≤1048576:=by have:=(great_no hg).1; omega
   have HG:=Lib.hid hg
   obtain ⟨T,hT⟩ : ∃ T,tableE m f=T:=⟨_,rfl⟩
   have e:fineB m f=(T==0):=by rw [fineB,hT]; simp [Bool.beq_eq_decide_eq]
   rw [e]
   have HT:=Lib.hid hT
   clear e hg hT
   go_enter Try.func40,Try.ntmps40
   go_wp2_with fail
   refine (great_c a m cap f _ HF.out).mono ?_
   rintro e w1 ⟨rfl,hb1⟩
   rw [HG.out]
   have q0:=(hb1.cell (p:=⟨w.heap.size,0,none⟩) rz).trans r0
   have qz:=Nat.lt_of_lt_of_le rz hb1.size
   clear r0 rz
   go_wp2_with fail
   refine (rcheckTable_c a m cap f _ (HF.out.below hb1) hm2).mono ?_
   rintro e w2 ⟨rfl,hb2⟩
   rw [HT.out]
   go_wp2_with fail
   go_ret
   exact ⟨rfl,bup hB (bup hb1 hb2)⟩
set_option maxHeartbeats 4000000 in
theorem small_c (n d:Int) (w:World) (h1:1≤d) (h2:d≤400000000) (h3 : -100*d≤n) (h4:n≤100*d) (h5:ratN n d=n) (h6:ratD n d=d):Calls Try.prog 43 #[.agg #[.int .i64 n, .int .i64 d]] w fun e w'=>e = .returned (.bool true)∧Below w.heap.size w w':=by
 obtain ⟨W,hW⟩ : ∃ W,w.alloc (.cells #[.int .i64 n, .int .i64 d] 30)=W:=⟨_,rfl⟩
 have hB:Below w.heap.size w W:=by rw [← hW]; exact Below.alloc1 (Below.refl _ _) _ (Nat.le_refl _)
 have hR:RowIs W w.heap.size #[.int .i64 n, .int .i64 d] 30:=by rw [← hW]; exact heap_new_at _ _ _ rfl
 have r0:W.cell? ⟨w.heap.size,0,none⟩=some (.int .i64 n):=RowIs.cell hR 0
 have r1:W.cell? ⟨w.heap.size,1,none⟩=some (.int .i64 d):=RowIs.cell hR 1
 have rz:w.heap.size<W.heap.size:=hR.lt
 have hw1:IntKind.i64.wrap (-100*d) = -100*d:=IntWalk.i64_in _ (by omega)
 have hw2:IntKind.i64.wrap (100*d)=100*d:=IntWalk.i64_in _ (by omega)
 have t1:(1:Int)≤d:=h1
 have C1:=fun (x:World)=>rBy_c n d x (by omega) (by omega) (by omega) (by omega)
 unfold ratV at C1
 rw [h5,h6] at C1
 replace C1:=Lib.hid C1
 have eqq : ∀ x,(Op.equalIn 10000 30 (.agg #[.int .i64 n, .int .i64 d]) (.agg #[.int .i64 n, .int .i64 d])).run Try.prog x = .ok true x:=fun x=>(eqRat n d n d x).trans (by simp)
 clear h5 h6 hR h1
 have hlc:=fun (x:Later W)=>later_cell x
 go_enter Try.func43,Try.ntmps43
 go_wp2_with fail
 refine wp_region_later (by kernel_rfl) (by kernel_rfl) ?_
 repeat (go_big_quiet_step ((first | (with_reducible refine calls_later (C1.out _)))))
 refine wpQuiet_nil ?_
 clear hlc
 rintro ⟨w1,hb1⟩
 go_wp2_with fail
 go_ret
 exact ⟨rfl,bup hB hb1⟩
end Go.Proofs.Ytkbbhihndigmeaa

/- Mixtures and proofs are compared cell by cell. -/
import Derived.Test.YtfjepnpnphoobaaGreatProg
import Derived.Test.YtfjepnpnphoobaaGreatMetaa
import Derived.Test.YtfjepnpnphoobaaGreatMetae
import Derived.RangeFuncBound
import Derived.Shelf.Abstract
import Derived.Shelf.RegionOpen
import Derived.OwnWalkIn
import Derived.TacticsInMore
import Derived.LoopNIn
import Derived.LoopIn
import Derived.Scope
import Derived.Test.YtfjepnpnphoobaaGreatMetaj
import Derived.Test.YtfjepnpnphoobaaGreatMetah
import Derived.Test.YtfjepnpnphoobaaGreatMetab
import Derived.Test.YtfjepnpnphoobaaGreatMetai
import Derived.Test.YtfjepnpnphoobaaGreatMetak
namespace Go.Proofs.YtfjepnpnphoobaaGreat
open Go.RowKit

set_option maxRecDepth 100000 in
set_option maxHeartbeats 1000000 in
theorem eqMix (x0 x1 x2 x3 x4 x5 : Int) (w : World) :
    (Op.equalIn 10000 88 (.agg #[.int .i64 x0, .int .i64 x1, .int .i64 x2, .int .i64 x3, .int .i64 x4, .int .i64 x5]) (.agg #[.int .i64 0, .int .i64 0, .int .i64 0, .int .i64 0, .int .i64 0, .int .i64 0])).run Tryz.prog w =
      .ok (x0 == 0 && (x1 == 0 && (x2 == 0 && (x3 == 0 && (x4 == 0 && x5 == 0))))) w := by
  rw [show (10000 : Nat) = 9999 + 1 from rfl]
  unfold Op.equalIn
  have e9 : ∀ (x y : Int) (w : World), (Op.equalIn 9999 2 (.int .i64 x) (.int .i64 y)).run Tryz.prog w = .ok (x == y) w := fun x y w => eq64 9998 x y w
  have p0 : ∀ (a b c d e f : Value) (w : World), (part 2 #[a, b, c, d, e, f] 0).run Tryz.prog w = .ok a w := fun _ _ _ _ _ _ _ => by kernel_rfl
  have p1 : ∀ (a b c d e f : Value) (w : World), (part 2 #[a, b, c, d, e, f] 1).run Tryz.prog w = .ok b w := fun _ _ _ _ _ _ _ => by kernel_rfl
  have p2 : ∀ (a b c d e f : Value) (w : World), (part 2 #[a, b, c, d, e, f] 2).run Tryz.prog w = .ok c w := fun _ _ _ _ _ _ _ => by kernel_rfl
  have p3 : ∀ (a b c d e f : Value) (w : World), (part 2 #[a, b, c, d, e, f] 3).run Tryz.prog w = .ok d w := fun _ _ _ _ _ _ _ => by kernel_rfl
  have p4 : ∀ (a b c d e f : Value) (w : World), (part 2 #[a, b, c, d, e, f] 4).run Tryz.prog w = .ok e w := fun _ _ _ _ _ _ _ => by kernel_rfl
  have p5 : ∀ (a b c d e f : Value) (w : World), (part 2 #[a, b, c, d, e, f] 5).run Tryz.prog w = .ok f w := fun _ _ _ _ _ _ _ => by kernel_rfl
  simp [run_underlying Tryz.underlying88]
  rw [show List.range' 0 6 = [0, 1, 2, 3, 4, 5] from rfl]
  cases h0 : (x0 == 0) <;> cases h1 : (x1 == 0) <;> cases h2 : (x2 == 0) <;> cases h3 : (x3 == 0) <;> cases h4 : (x4 == 0) <;> cases h5 : (x5 == 0) <;> simp [p0, p1, p2, p3, p4, p5, e9, h0, h1, h2, h3, h4, h5]
end Go.Proofs.YtfjepnpnphoobaaGreat

namespace Go.Proofs.YtfjepnpnphoobaaGreat
open Go Go.RowKit Go.Shelf
attribute [local go_sem] Oper.semAt_some

theorem units_block {w W : World} {g n : Nat} {u : Nat → U4} (hu : Units w (some ⟨g, 0, none⟩) n u) (hz : w.heap.size ≤ W.heap.size) (h : W.heap[g]? = w.heap[g]?) : Units W (some ⟨g, 0, none⟩) n u := by
  rcases hu with h0 | ⟨b, off, e, hb, hc⟩
  · exact .inl h0
  · cases e
    refine .inr ⟨g, 0, rfl, Nat.lt_of_lt_of_le hb hz, fun i hi => ?_⟩
    obtain ⟨c0, c1, c2, c3⟩ := hc i hi
    exact ⟨(World.cell?_of_block (a := ⟨g, _, none⟩) h).trans c0, (World.cell?_of_block (a := ⟨g, _, none⟩) h).trans c1, (World.cell?_of_block (a := ⟨g, _, none⟩) h).trans c2, (World.cell?_of_block (a := ⟨g, _, none⟩) h).trans c3⟩

theorem room_close {n : Nat} {u : Nat → U4} {l c : Int} (hS : ∀ i, i < n → (0 ≤ (u i).l ∧ (u i).l ≤ 1000) ∧ (0 ≤ (u i).c ∧ (u i).c ≤ 1000)) (ht : 0 ≤ l ∧ l ≤ 1000 ∧ 0 ≤ c ∧ c ≤ 1000) (i : Nat) : Close (roomF n u l c i) := by
  unfold roomF
  split
  · rename_i h
    have := hS i h
    exact ⟨by simp only; omega, by simp only; omega⟩
  · split <;> exact ⟨by simp, by simp⟩

theorem roundIn_inRound {F : Fence} {n : Nat} {P : Program} {l' : Nat} {f : FuncId} {tmps : Array Value} {assign body : Code} {w : World} {R : Ending → World → Prop} (l : Nat) (h : RoundIn F n P l' f tmps assign body w R) :
    RoundIn (F.inRound l) n P l' f tmps assign body w R := h

set_option maxRecDepth 100000 in
set_option maxHeartbeats 4000000 in
theorem corners_gives (g n : Nat) (u : Nat → U4) (l c : Int) (w : World) (hu : Units w (some ⟨g, 0, none⟩) n u) (hg : g < w.heap.size) (hn : n ≤ 6) (hS : ∀ i, i < n → (0 ≤ (u i).l ∧ (u i).l ≤ 1000) ∧ (0 ≤ (u i).c ∧ (u i).c ≤ 1000)) (ht : 0 ≤ l ∧ l ≤ 1000 ∧ 0 ≤ c ∧ c ≤ 1000) :
    Gives Tryz.prog 71 #[potV g n l c] #[] (· = g) ((cornL n (roomF n u l c)).map fun f => #[mixV f]) w := by
  intro lr J Jx W hW hz hJ hJx hY h0
  have huW := units_block hu hz (hW g rfl).2
  obtain ⟨D, hD⟩ : ∃ D, W.heap.size = D := ⟨_, rfl⟩
  have hgD : g < D := by omega
  obtain ⟨W1, hW1⟩ : ∃ W1, (W.alloc (.cells #[.slice (some ⟨g, 0, none⟩) n n, .int .i64 1, .int .i64 0, .int .i64 l, .int .i64 c] 101)).alloc (.cells #[.func (.yield lr) #[] #[]] 104) = W1 := ⟨_, rfl⟩
  have hB1 : Below D W W1 := by rw [← hW1, ← hD]; exact Below.alloc1 (Below.alloc1 (Below.refl _ _) _ (Nat.le_refl _)) _ (Nat.le_refl _)
  have hP1 : RowIs W1 D #[.slice (some ⟨g, 0, none⟩) n n, .int .i64 1, .int .i64 0, .int .i64 l, .int .i64 c] 101 := by rw [← hW1]; exact RowIs.alloc (heap_new_at _ _ _ hD) _
  have hy1 : RowIs W1 (D + 1) #[.func (.yield lr) #[] #[]] 104 := by rw [← hW1]; exact heap_new_at _ _ _ (by simp [hD])
  have hzW1 : W1.heap.size = D + 2 := by rw [← hW1]; simp [hD]
  have hu1 : Units W1 (some ⟨g, 0, none⟩) n u := units_block huW (by omega) (hB1.block g hgD)
  obtain ⟨p0, p1, p2, p3, p4, pz⟩ := potrow hP1
  have HP := Lib.hid hP1
  have Hy := Lib.hid hy1
  have HB1 := Lib.hid hB1
  have HzW1 := Lib.hid hzW1
  have HS := Lib.hid hS
  rw [hD] at hJ hJx hY
  have HJ := Lib.hid hJ
  have HJx := Lib.hid hJx
  have HY := Lib.hid hY
  have H0 := Lib.hid h0
  have HW := Lib.hid hW
  clear hS hP1 hy1 hB1 hzW1 hJ hJx hY h0 hW hu huW
  refine (callsIn_wide (n := 1)).1 ?_
  show CallsIn Fence.wide 1 Tryz.prog 71 #[potV g n l c, .func (.yield lr) #[] #[]] W _
  refine callsIn_of_wp_marks Tryz.func71 rfl trivial ?_ rfl
  simp only [Tryz.ntmps71, List.size_toArray, List.length_cons, List.length_nil, Nat.reduceAdd, Nat.reduceSub, Array.replicate_succ, Array.replicate_zero, List.push_toArray, List.append_toArray, List.nil_append, List.cons_append]
  gi_wp2_with fail
  refine wpIn_wide.2 (wp_scope_straight ((wpIn_wide (n := 1)).1 ?_))
  gi_wp2_with (refine ⟨trivial, ?_⟩; gi_at_call 95; refine (callsIn_wide.2 (rooms_c g n u l c _ hu1 hn HS.out ht)).mono ?_; rintro e w1 ⟨h, hh, hlt, rfl, hcells, hb1⟩; have Hcells := Lib.hid hcells; have Hb1 := Lib.hid hb1; clear hcells hb1)
  refine wpIn_label ?_
  gi_wp2_with (refine ⟨trivial, ?_⟩; gi_at_call 96; refine (callsIn_wide.2 (triples_c (n + 2) _)).mono ?_; rintro e w2 ⟨rfl, rfl⟩)
  have hzw1 := Hb1.out.size
  obtain ⟨W2, hW2⟩ : ∃ W2, (w1.alloc (.cells #[.slice (some ⟨h, 0, none⟩) (n + 2) (n + 2)] 126)).alloc (.cells #[.int .i64 (n + 2)] 3) = W2 := ⟨_, rfl⟩
  have hB2 : Below w1.heap.size w1 W2 := by rw [← hW2]; exact Below.alloc1 (Below.alloc1 (Below.refl _ _) _ (Nat.le_refl _)) _ (Nat.le_refl _)
  have hs2 : RowIs W2 w1.heap.size #[.slice (some ⟨h, 0, none⟩) (n + 2) (n + 2)] 126 := by rw [← hW2]; exact RowIs.alloc (heap_new_at _ _ _ rfl) _
  have hn2 : RowIs W2 (w1.heap.size + 1) #[.int .i64 ((n + 2 : Nat) : Int)] 3 := by rw [← hW2]; exact heap_new_at _ _ _ (by simp)
  have hz2 : W2.heap.size = w1.heap.size + 2 := by rw [← hW2]; simp
  have hP2 := HP.out.below (bup Hb1.out hB2)
  have hy2 := Hy.out.below (bup Hb1.out hB2)
  have hr2 : ∀ i, i < n + 2 → W2.cell? ⟨h, i * 2, none⟩ = some (.int .i64 (roomF n u l c i).1) ∧ W2.cell? ⟨h, i * 2 + 1, none⟩ = some (.int .i64 (roomF n u l c i).2) := fun i hi => by
    obtain ⟨c1, c2⟩ := Hcells.out i hi
    exact ⟨(hB2.cell hlt).trans c1, (hB2.cell hlt).trans c2⟩
  have hD2 : D ≤ W2.heap.size := by have := hB2.size; have := HzW1.out; omega
  have hJ2 : J 0 W2 := HJ.out 0 W W2 H0.out (HB1.out.trans ((bup Hb1.out hB2).mono (by have := HzW1.out; omega)))
  obtain ⟨b, hb⟩ : ∃ b, W2.heap.size = b := ⟨_, rfl⟩
  obtain ⟨Bs, hBs⟩ : ∃ Bs, w1.heap.size = Bs := ⟨_, rfl⟩
  rw [hW2]
  rw [hBs] at hs2 hn2 hz2 ⊢
  clear hW2 hB2 Hcells Hb1 HB1 hzw1 p0 p1 p2 p3 p4 pz hu1
  refine wpIn_rangeL (gf := 110) (first := #[]) (lb := #[.pointer (some ⟨Bs + 1, 0, none⟩)]) rfl (enters_of Tryz.func110 (by kernel_rfl) rfl) (triples_gives (Bs + 1) (n + 2) W2 hn2 (by omega)) (fun k hk => by rw [hk]; omega) (fun k hk => by simp)
    (fun k A => J (cornN n (roomF n u l c) k) A ∧ ∀ i, D ≤ i → i < b → A.heap[i]? = W2.heap[i]?)
    (fun cd _ A => cd = .ret ∧ ∃ k', Jx k' A)
    (fun k A B hA hAB => ⟨HJ.out _ _ _ hA.1 (hAB.mono hD2), fun i h1 h2 => (hAB.block i (by omega)).trans (hA.2 i h1 h2)⟩)
    (fun cd k A B hA hAB => ⟨hA.1, hA.2.imp fun k' h' => HJx.out _ _ _ h' (hAB.mono hD2)⟩)
    ⟨by rw [cornN_zero]; exact hJ2, fun _ _ _ => rfl⟩
    (fun k a' A => ∃ Bx, b + 2 ≤ Bx ∧ RowIs A Bx #[.int .i64 (triK n k).1, .int .i64 (triK n k).2.1, .int .i64 (triK n k).2.2] 131 ∧
      a' = { tmps := #[potV g n l c, .func (.yield lr) #[] #[], .pointer (some ⟨D, 0, none⟩), .pointer (some ⟨D + 1, 0, none⟩), .pointer (some ⟨Bs, 0, none⟩), .pointer (some ⟨Bx, 0, none⟩), undef, undef, undef, undef, potV g n l c, .slice (some ⟨h, 0, none⟩) (n + 2) (n + 2), .slice (some ⟨h, 0, none⟩) (n + 2) (n + 2), .int .i64 (n + 2), .func (.func 110) #[] #[.pointer (some ⟨Bs + 1, 0, none⟩)], triV (triK n k), undef, undef, undef, undef, undef, undef, undef, undef, undef, undef, undef, undef, undef, undef, undef, undef, undef, undef, undef, undef, undef, undef, undef, undef, undef, undef, undef, undef, undef, undef, undef, undef, undef, undef, undef, undef, undef, undef, undef, undef, undef, undef, undef, undef], defers := [] })
    (fun k a' A o hA => by
      obtain ⟨Bx, h1, h2, h3⟩ := hA
      exact ⟨Bx, h1, (World.putObj_heap_other (by omega)).trans h2, h3⟩)
    ?assign ?body ?done ?stop
  case assign =>
    intro lx k hk A T hA hI hT
    rw [triK_arg hk]
    gi_wp2
    exact hT _ _ (Below.alloc1 (Below.refl _ _) _ (Nat.le_refl _)) ⟨A.heap.size, by omega, heap_new_at _ _ _ rfl, rfl⟩
  case body =>
    rintro lx k hk a' A hA ⟨hJk, hKeep⟩ ⟨Bx, hBx, hx, rfl⟩
    have hk' : k < (triL (n + 2)).length := by simpa using hk
    obtain ⟨t1, t2, t3⟩ := triK_lt hk'
    have hb0 := triK_get hk'
    obtain ⟨t, ht0⟩ : ∃ t, triK n k = t := ⟨_, rfl⟩
    rw [ht0] at t1 t2 t3 hx hb0 ⊢
    have hbB : Bs + 2 = b := by omega
    have hrow : ∀ {B : Nat} {cs : Array Value} {T : TypeId}, RowIs W2 B cs T → D ≤ B → B < b → RowIs A B cs T := fun h1 h2 h3 => (hKeep _ h2 h3).trans h1
    have hDs : D + 2 ≤ Bs := by have := HzW1.out; omega
    have hPA := hrow hP2 (Nat.le_refl _) (by omega)
    have hyA := hrow hy2 (Nat.le_succ _) (by omega)
    have hsA := hrow hs2 (by omega) (by omega)
    have hhD : D ≤ h := by have := HzW1.out; omega
    have hhb : h < b := by omega
    have hrA : ∀ i, i < n + 2 → A.cell? ⟨h, i * 2, none⟩ = some (.int .i64 (roomF n u l c i).1) ∧ A.cell? ⟨h, i * 2 + 1, none⟩ = some (.int .i64 (roomF n u l c i).2) := fun i hi => by
      obtain ⟨c1, c2⟩ := hr2 i hi
      exact ⟨(World.cell?_of_block (a := ⟨h, _, none⟩) (hKeep h hhD hhb)).trans c1, (World.cell?_of_block (a := ⟨h, _, none⟩) (hKeep h hhD hhb)).trans c2⟩
    have s0 : A.cell? ⟨Bs, 0, none⟩ = some (.slice (some ⟨h, 0, none⟩) (n + 2) (n + 2)) := hsA.cell 0
    have x0 : A.cell? ⟨Bx, 0, none⟩ = some (.int .i64 t.1) := hx.cell 0
    have x1 : A.cell? ⟨Bx, 1, none⟩ = some (.int .i64 t.2.1) := hx.cell 1
    have x2 : A.cell? ⟨Bx, 2, none⟩ = some (.int .i64 t.2.2) := hx.cell 2
    obtain ⟨a0, a1⟩ := hrA t.1 (by omega)
    obtain ⟨b0, b1⟩ := hrA t.2.1 (by omega)
    obtain ⟨d0, d1⟩ := hrA t.2.2 (by omega)
    have zBs : Bs < A.heap.size := by omega
    have zBx : Bx < A.heap.size := (Array.getElem?_eq_some_iff.1 hx).1
    have zh : h < A.heap.size := by omega
    have j1 : (t.1 : Int) < (n : Int) + 2 := by omega
    have j2 : (t.2.1 : Int) < (n : Int) + 2 := by omega
    have j3 : (t.2.2 : Int) < (n : Int) + 2 := by omega
    have hc1 := fun (w1 : World) (x : Later w1) => evenOut_c (roomF n u l c t.1) (roomF n u l c t.2.1) (roomF n u l c t.2.2) x.w (room_close HS.out ht _) (room_close HS.out ht _) (room_close HS.out ht _)
    have H1 := Lib.hid hc1
    have HPA := Lib.hid hPA
    have HyA := Lib.hid hyA
    have HxA := Lib.hid hx
    have HKeep := Lib.hid hKeep
    have HJk := Lib.hid hJk
    clear hc1 hPA hyA hsA hx hKeep hJk hrA hrow
    gi_wp2_with fail
    refine wpIn_region_floatR 16 6 60 (.cells #[.int .i64 0, .int .i64 0, .int .i64 0] 132 (0, 0)) _ (by kernel_rfl) (by kernel_rfl) (by rintro ⟨_, _, h⟩; exact h) (by kernel_rfl) rfl rfl rfl ?hal (by kernel_rfl) (by kernel_rfl) rfl rfl ?_
    case hal => intro a w; go_simp
    simp only [List.take_succ_cons, List.take_zero, List.drop_succ_cons, List.drop_zero]
    apply Exists.intro
    refine ⟨fun w1 hb1 K hK => ?_, ?_⟩
    · have hlc := fun (x : Later w1) => later_cell2 hb1 x
      repeat (go_big_quiet_step (((with_reducible refine calls_later (H1.out _ _)))))
      exact wpQuiet_nil hK
    intro Bp A2 hbp hA2 hz2'
    have hp2 : RowIs A2 Bp #[.int .i64 0, .int .i64 0, .int .i64 0] 132 := hz2'
    have q0 := hp2.cell 0
    have q1 := hp2.cell 1
    have q2 := hp2.cell 2
    have v0 := hp2.frozen 0
    have v1 := hp2.frozen 1
    have v2 := hp2.frozen 2
    simp at q0 q1 q2
    have zBp := (Array.getElem?_eq_some_iff.1 hp2).1
    have Hp2 := Lib.hid hp2
    have HA2 := Lib.hid hA2
    obtain ⟨P, hP⟩ : ∃ P, partsOf (roomF n u l c) t = P := ⟨_, rfl⟩
    have hPe : evenF (roomF n u l c t.1) (roomF n u l c t.2.1) (roomF n u l c t.2.2) = P := hP
    simp only [hPe]
    clear hz2' hp2 hA2 s0 x0 x1 x2 a0 a1 b0 b1 d0 d1 H1 hPe
    go_wp2_with fail
    gi_wp2_with fail
    obtain ⟨A3, hA3⟩ : ∃ A3, (((A2.setCell ⟨Bp, 0, none⟩ (.int .i64 (P 0))).setCell ⟨Bp, 1, none⟩ (.int .i64 (P 1))).setCell ⟨Bp, 2, none⟩ (.int .i64 (P 2))).alloc (.cells #[.int .i64 0, .int .i64 0, .int .i64 0, .int .i64 0, .int .i64 0, .int .i64 0] 88) = A3 := ⟨_, rfl⟩
    have hA3b : Below A.heap.size A A3 := by rw [← hA3]; exact Below.alloc1 (((HA2.out.setCell hbp _).setCell hbp _).setCell hbp _) _ (Nat.le_refl _)
    have hM3 : RowIs A3 A2.heap.size (mixRow (mixAt n (roomF n u l c) t 0)) 88 := by rw [← hA3]; exact heap_new_at _ _ _ (by simp [World.setCell])
    have hAm : A.heap.size ≤ A2.heap.size := HA2.out.size
    obtain ⟨Bm, hBm⟩ : ∃ Bm, A2.heap.size = Bm := ⟨_, rfl⟩
    rw [hA3]
    rw [hBm] at hM3 hAm ⊢
    clear hA3 q0 q1 q2 v0 v1 v2 zBp Hp2 HA2 hBm hbp
    have HP3 := Lib.hid hP
    have Hb0 := Lib.hid hb0
    clear hP hb0
    have Hno : ∀ (a : Act) (B : World), Below A.heap.size A B → cornB n (roomF n u l c) t = false → roundQ (· = Bs + 1) W2.heap.size (fun k A => J (cornN n (roomF n u l c) k) A ∧ ∀ i, D ≤ i → i < b → A.heap[i]? = W2.heap[i]?) (fun cd _ A => cd = .ret ∧ ∃ k', Jx k' A) k A .normal a B := fun _ _ hB hf =>
      ⟨Spares.of_below hB, by rw [cornN_no hk' (by rw [Hb0.out]; exact hf)]; exact HJ.out _ _ _ HJk.out (hB.mono (by omega)), fun i h1 h2 => (hB.block i (by omega)).trans (HKeep.out i h1 h2)⟩
    have HNo := Lib.hid Hno
    clear Hno
    gi_loopw [33] (fun s wr => ∃ j : Nat, j ≤ 3 ∧ s = .int .i64 j ∧ RowIs wr Bm (mixRow (mixAt n (roomF n u l c) t j)) 88 ∧ Below A.heap.size A wr ∧ ∀ i, i < j → 0 ≤ P i) (fun s _ => 3 - (intOf s).toNat)
    case atStart => exact ⟨0, by omega, rfl, hM3, hA3b, fun i hi => absurd hi (Nat.not_lt_zero i)⟩
    case round =>
      clear hM3 hA3b
      obtain ⟨j, hj, rfl, hM, hB, hpos⟩ := hrel
      have hxr := (hB.block Bx zBx).trans HxA.out
      have hPr := (hB.block D (by omega)).trans HPA.out
      have hyr := (hB.block (D + 1) (by omega)).trans HyA.out
      have x0 : wr.cell? ⟨Bx, 0, none⟩ = some (.int .i64 t.1) := RowIs.cell hxr 0
      have x1 : wr.cell? ⟨Bx, 1, none⟩ = some (.int .i64 t.2.1) := RowIs.cell hxr 1
      have x2 : wr.cell? ⟨Bx, 2, none⟩ = some (.int .i64 t.2.2) := RowIs.cell hxr 2
      have p0 : wr.cell? ⟨D, 0, none⟩ = some (.slice (some ⟨g, 0, none⟩) n n) := RowIs.cell hPr 0
      have y0 : wr.cell? ⟨D + 1, 0, none⟩ = some (.func (.yield lr) #[] #[]) := RowIs.cell hyr 0
      have zBm := (Array.getElem?_eq_some_iff.1 hM).1
      have zD := (Array.getElem?_eq_some_iff.1 hPr).1
      have zX := (Array.getElem?_eq_some_iff.1 hxr).1
      have HM := Lib.hid hM
      have HB := Lib.hid hB
      have Hpos := Lib.hid hpos
      clear hxr hPr hyr hM hB hpos
      have hcase : j = 0 ∨ j = 1 ∨ j = 2 ∨ j = 3 := by omega
      rcases hcase with rfl | rfl | rfl | rfl
      · have ix : ∀ w', (Instr.index 132 (.agg #[.int .i64 (P 0), .int .i64 (P 1), .int .i64 (P 2)]) (.int .i64 0)).run Tryz.prog w' = .ok (.int .i64 (P 0)) w' := fun _ => by kernel_rfl
        by_cases hneg : P 0 < 0
        · clear x0 x1 x2 p0 y0
          gi_wp2_with fail
          exact HNo.out _ _ HB.out (by simp only [cornB, HP3.out]; rw [decide_eq_false (by omega)]; rfl)
        · by_cases hlt : t.1 < n
          · have m0 : wr.cell? ⟨Bm, t.1, none⟩ = some (.int .i64 (mixAt n (roomF n u l c) t 0 (t.1))) := by rw [HM.out.cell]; exact mixRow_at _ _ (by omega)
            have f0 := HM.out.frozen (t.1)
            have ji : (t.1 : Int) < 6 := by omega
            gi_wp2_with fail
            refine wpIn_region_quietR (by kernel_rfl) (by kernel_rfl) (by kernel_rfl) (by rintro ⟨_, _, h⟩; exact h) ?_
            repeat (go_big_quiet_step (fail))
            refine wpQuiet_nil ?_
            rintro _ ⟨nq, rfl⟩
            gi_wp2_with fail
            go_roundw
            case rel =>
              have e : mixAt n (roomF n u l c) t 1 = upd (mixAt n (roomF n u l c) t 0) (t.1) (P 0) := by
                show putP n (mixAt n (roomF n u l c) t 0) (t.1) (partsOf (roomF n u l c) t 0) = _
                rw [HP3.out]
                unfold putP
                rw [if_pos hlt]
              exact ⟨1, by omega, rfl, by rw [e, ← mixRow_set _ _ _ (by omega)]; exact RowIs.set (w := wr.drewN nq) HM.out (t.1) _, (below_drewN HB.out nq).setCell hAm _, fun i hi => by
                rcases Nat.lt_or_ge i 0 with h | h
                · exact Hpos.out i h
                · obtain rfl : i = 0 := by omega
                  omega⟩
            case measure => simp [intOf]
          · omega
      · have ix : ∀ w', (Instr.index 132 (.agg #[.int .i64 (P 0), .int .i64 (P 1), .int .i64 (P 2)]) (.int .i64 1)).run Tryz.prog w' = .ok (.int .i64 (P 1)) w' := fun _ => by kernel_rfl
        by_cases hneg : P 1 < 0
        · clear x0 x1 x2 p0 y0
          gi_wp2_with fail
          exact HNo.out _ _ HB.out (by simp only [cornB, HP3.out]; rw [decide_eq_false (by omega)]; rfl)
        · by_cases hlt : t.2.1 < n
          · have m0 : wr.cell? ⟨Bm, t.2.1, none⟩ = some (.int .i64 (mixAt n (roomF n u l c) t 1 (t.2.1))) := by rw [HM.out.cell]; exact mixRow_at _ _ (by omega)
            have f0 := HM.out.frozen (t.2.1)
            have ji : (t.2.1 : Int) < 6 := by omega
            gi_wp2_with fail
            refine wpIn_region_quietR (by kernel_rfl) (by kernel_rfl) (by kernel_rfl) (by rintro ⟨_, _, h⟩; exact h) ?_
            repeat (go_big_quiet_step (fail))
            refine wpQuiet_nil ?_
            rintro _ ⟨nq, rfl⟩
            gi_wp2_with fail
            go_roundw
            case rel =>
              have e : mixAt n (roomF n u l c) t 2 = upd (mixAt n (roomF n u l c) t 1) (t.2.1) (P 1) := by
                show putP n (mixAt n (roomF n u l c) t 1) (t.2.1) (partsOf (roomF n u l c) t 1) = _
                rw [HP3.out]
                unfold putP
                rw [if_pos hlt]
              exact ⟨2, by omega, rfl, by rw [e, ← mixRow_set _ _ _ (by omega)]; exact RowIs.set (w := wr.drewN nq) HM.out (t.2.1) _, (below_drewN HB.out nq).setCell hAm _, fun i hi => by
                rcases Nat.lt_or_ge i 1 with h | h
                · exact Hpos.out i h
                · obtain rfl : i = 1 := by omega
                  omega⟩
            case measure => simp [intOf]
          · have hge : decide ((t.2.1 : Int) < (n : Int)) = false := by simp; omega
            have Hlt := Lib.hid hlt
            clear hlt
            gi_wp2_with fail
            refine wpIn_region_quietR (by kernel_rfl) (by kernel_rfl) (by kernel_rfl) (by rintro ⟨_, _, h⟩; exact h) ?_
            repeat (go_big_quiet_step (fail))
            refine wpQuiet_nil ?_
            rintro _ ⟨nq, rfl⟩
            gi_wp2_with fail
            go_roundw
            case rel =>
              have e : mixAt n (roomF n u l c) t 2 = mixAt n (roomF n u l c) t 1 := by
                show putP n (mixAt n (roomF n u l c) t 1) (t.2.1) (partsOf (roomF n u l c) t 1) = _
                unfold putP
                rw [if_neg Hlt.out]
              exact ⟨2, by omega, rfl, by rw [e]; exact HM.out, below_drewN HB.out nq, fun i hi => by
                rcases Nat.lt_or_ge i 1 with h | h
                · exact Hpos.out i h
                · obtain rfl : i = 1 := by omega
                  omega⟩
            case measure => simp [intOf]
      · have ix : ∀ w', (Instr.index 132 (.agg #[.int .i64 (P 0), .int .i64 (P 1), .int .i64 (P 2)]) (.int .i64 2)).run Tryz.prog w' = .ok (.int .i64 (P 2)) w' := fun _ => by kernel_rfl
        by_cases hneg : P 2 < 0
        · clear x0 x1 x2 p0 y0
          gi_wp2_with fail
          exact HNo.out _ _ HB.out (by simp only [cornB, HP3.out]; rw [decide_eq_false (by omega)]; rfl)
        · by_cases hlt : t.2.2 < n
          · have m0 : wr.cell? ⟨Bm, t.2.2, none⟩ = some (.int .i64 (mixAt n (roomF n u l c) t 2 (t.2.2))) := by rw [HM.out.cell]; exact mixRow_at _ _ (by omega)
            have f0 := HM.out.frozen (t.2.2)
            have ji : (t.2.2 : Int) < 6 := by omega
            gi_wp2_with fail
            refine wpIn_region_quietR (by kernel_rfl) (by kernel_rfl) (by kernel_rfl) (by rintro ⟨_, _, h⟩; exact h) ?_
            repeat (go_big_quiet_step (fail))
            refine wpQuiet_nil ?_
            rintro _ ⟨nq, rfl⟩
            gi_wp2_with fail
            go_roundw
            case rel =>
              have e : mixAt n (roomF n u l c) t 3 = upd (mixAt n (roomF n u l c) t 2) (t.2.2) (P 2) := by
                show putP n (mixAt n (roomF n u l c) t 2) (t.2.2) (partsOf (roomF n u l c) t 2) = _
                rw [HP3.out]
                unfold putP
                rw [if_pos hlt]
              exact ⟨3, by omega, rfl, by rw [e, ← mixRow_set _ _ _ (by omega)]; exact RowIs.set (w := wr.drewN nq) HM.out (t.2.2) _, (below_drewN HB.out nq).setCell hAm _, fun i hi => by
                rcases Nat.lt_or_ge i 2 with h | h
                · exact Hpos.out i h
                · obtain rfl : i = 2 := by omega
                  omega⟩
            case measure => simp [intOf]
          · have hge : decide ((t.2.2 : Int) < (n : Int)) = false := by simp; omega
            have Hlt := Lib.hid hlt
            clear hlt
            gi_wp2_with fail
            refine wpIn_region_quietR (by kernel_rfl) (by kernel_rfl) (by kernel_rfl) (by rintro ⟨_, _, h⟩; exact h) ?_
            repeat (go_big_quiet_step (fail))
            refine wpQuiet_nil ?_
            rintro _ ⟨nq, rfl⟩
            gi_wp2_with fail
            go_roundw
            case rel =>
              have e : mixAt n (roomF n u l c) t 3 = mixAt n (roomF n u l c) t 2 := by
                show putP n (mixAt n (roomF n u l c) t 2) (t.2.2) (partsOf (roomF n u l c) t 2) = _
                unfold putP
                rw [if_neg Hlt.out]
              exact ⟨3, by omega, rfl, by rw [e]; exact HM.out, below_drewN HB.out nq, fun i hi => by
                rcases Nat.lt_or_ge i 2 with h | h
                · exact Hpos.out i h
                · obtain rfl : i = 2 := by omega
                  omega⟩
            case measure => simp [intOf]
      · obtain ⟨f, hf⟩ : ∃ f, mixOf n (roomF n u l c) t = f := ⟨_, rfl⟩
        have hM4 : RowIs wr Bm (mixRow f) 88 := by rw [← hf]; exact HM.out
        have m0 : wr.cell? ⟨Bm, 0, none⟩ = some (.int .i64 (f 0)) := hM4.cell 0
        have m1 : wr.cell? ⟨Bm, 1, none⟩ = some (.int .i64 (f 1)) := hM4.cell 1
        have m2 : wr.cell? ⟨Bm, 2, none⟩ = some (.int .i64 (f 2)) := hM4.cell 2
        have m3 : wr.cell? ⟨Bm, 3, none⟩ = some (.int .i64 (f 3)) := hM4.cell 3
        have m4 : wr.cell? ⟨Bm, 4, none⟩ = some (.int .i64 (f 4)) := hM4.cell 4
        have m5 : wr.cell? ⟨Bm, 5, none⟩ = some (.int .i64 (f 5)) := hM4.cell 5
        have heq := eqMix (f 0) (f 1) (f 2) (f 3) (f 4) (f 5) wr
        have Hf := Lib.hid hf
        clear hM4 hf x0 x1 x2 p0
        by_cases hz6 : zero6 f = true
        · have hz6' : (f 0 == 0 && (f 1 == 0 && (f 2 == 0 && (f 3 == 0 && (f 4 == 0 && f 5 == 0))))) = true := hz6
          rw [hz6'] at heq
          have Hz6 := Lib.hid hz6
          clear hz6 hz6'
          gi_wp2_with fail
          exact HNo.out _ _ HB.out (by simp [cornB, Hf.out, Hz6.out])
        · have hz6' : (f 0 == 0 && (f 1 == 0 && (f 2 == 0 && (f 3 == 0 && (f 4 == 0 && f 5 == 0))))) = false := by simpa [zero6] using hz6
          rw [hz6'] at heq
          have hcb : cornB n (roomF n u l c) (triL (n + 2))[k] = true := by
            rw [Hb0.out]
            unfold cornB
            rw [Hf.out, HP3.out, decide_eq_true ⟨Hpos.out 0 (by omega), Hpos.out 1 (by omega), Hpos.out 2 (by omega)⟩]
            simpa using hz6
          obtain ⟨hc1, hc2⟩ := corn_at hk' hcb
          have hyy := HY.out (cornN n (roomF n u l c) k) (by simpa using hc1) wr (by have := HB.out.size; omega) (HJ.out _ _ _ HJk.out (HB.out.mono (by omega)))
          rw [List.getElem_map, hc2, Hb0.out, Hf.out] at hyy
          obtain ⟨fn, tmps, assign, body, hy, hR⟩ := hyy
          replace hR := roundIn_inRound lx hR
          have Hcb := Lib.hid hcb
          clear hz6 hz6' hc1 hc2 hcb
          gi_wp2_with fail
          refine hR.mono ?_
          rintro e W3 (⟨rfl, hJ3, hS3⟩ | ⟨rfl, hJx3, hS3⟩)
          · gi_wp2_with fail
            refine ⟨((Spares.of_below HB.out).trans (hS3.mono (fun k h => .inr (by omega)) (by omega))), by rw [cornN_yes hk' Hcb.out]; exact hJ3, fun i h1 h2 => ?_⟩
            exact (hS3.block i (by have := HB.out.size; omega) (.inr h1)).trans ((HB.out.block i (by omega)).trans (HKeep.out i h1 h2))
          · gi_wp2_with fail
            exact ⟨((Spares.of_below HB.out).trans (hS3.mono (fun k h => .inr (by omega)) (by omega))), rfl, _, hJx3⟩
  case done =>
    rintro B hBz ⟨hJB, hKB⟩ hK
    gi_wp2
    refine ⟨by simp, .inl ⟨_, _, rfl, run_takeDeferred hK, ?_⟩⟩
    refine ⟨_, results_none rfl _ _ _, ⟨_, rfl⟩, .inl ?_⟩
    have hJL := HJ.out _ _ _ hJB (below_put (D := D) (r := W2.heap.size) (.deferred none) hD2)
    simpa [cornN_all] using hJL
  case stop =>
    rintro cd k B hBz ⟨rfl, k', hJx'⟩ hK
    gi_wp2
    refine ⟨by simp, .inl ⟨_, _, rfl, run_takeDeferred hK, ?_⟩⟩
    exact ⟨_, results_none rfl _ _ _, ⟨_, rfl⟩, .inr ⟨k', HJx.out _ _ _ hJx' (below_put (D := D) (r := W2.heap.size) (.deferred none) hD2)⟩⟩

end Go.Proofs.YtfjepnpnphoobaaGreat

namespace Go.Proofs.YtfjepnpnphoobaaGreat
open Go Go.RowKit

theorem area_half {a a' b b' l c : Int} (ha : l - 1000 ≤ a ∧ a ≤ l) (ha' : l - 1000 ≤ a' ∧ a' ≤ l) (hb : -c ≤ b ∧ b ≤ 1000 - c) (hb' : -c ≤ b' ∧ b' ≤ 1000 - c) (hl : 0 ≤ l ∧ l ≤ 1000) (hc : 0 ≤ c ∧ c ≤ 1000) :
    a * b' - b * a' ≤ 1000000 := by
  by_cases h : 0 ≤ a
  · have h1 : a * b' ≤ a * (1000 - c) := Int.mul_le_mul_of_nonneg_left hb'.2 h
    by_cases h' : 0 ≤ a'
    · have h2 : a' * (-b) ≤ a' * c := Int.mul_le_mul_of_nonneg_left (by omega) h'
      have h3 : a * (1000 - c) ≤ l * (1000 - c) := Int.mul_le_mul_of_nonneg_right ha.2 (by omega)
      have h4 : a' * c ≤ l * c := Int.mul_le_mul_of_nonneg_right ha'.2 hc.1
      have e : l * (1000 - c) = l * 1000 - l * c := Int.mul_sub _ _ _
      have e2 : a' * (-b) = -(b * a') := by rw [Int.mul_neg, Int.mul_comm]
      omega
    · have h2 : (-a') * b ≤ (-a') * (1000 - c) := Int.mul_le_mul_of_nonneg_left hb.2 (by omega)
      have h3 : (a + -a') * (1000 - c) ≤ 1000 * (1000 - c) := Int.mul_le_mul_of_nonneg_right (by omega) (by omega)
      have e : (a + -a') * (1000 - c) = a * (1000 - c) + -a' * (1000 - c) := Int.add_mul _ _ _
      have e2 : (-a') * b = -(b * a') := by rw [Int.neg_mul, Int.mul_comm]
      omega
  · have h1 : (-a) * (-b') ≤ (-a) * c := Int.mul_le_mul_of_nonneg_left (by omega) (by omega)
    have e1 : (-a) * (-b') = a * b' := Int.neg_mul_neg _ _
    by_cases h' : 0 ≤ a'
    · have h2 : a' * (-b) ≤ a' * c := Int.mul_le_mul_of_nonneg_left (by omega) h'
      have h3 : (-a + a') * c ≤ 1000 * c := Int.mul_le_mul_of_nonneg_right (by omega) hc.1
      have e : (-a + a') * c = -a * c + a' * c := Int.add_mul _ _ _
      have e2 : a' * (-b) = -(b * a') := by rw [Int.mul_neg, Int.mul_comm]
      omega
    · have h2 : (-a') * b ≤ (-a') * (1000 - c) := Int.mul_le_mul_of_nonneg_left hb.2 (by omega)
      have h3 : (-a) * c ≤ (1000 - l) * c := Int.mul_le_mul_of_nonneg_right (by omega) hc.1
      have h4 : (-a') * (1000 - c) ≤ (1000 - l) * (1000 - c) := Int.mul_le_mul_of_nonneg_right (by omega) (by omega)
      have e : (1000 - l) * (1000 - c) = (1000 - l) * 1000 - (1000 - l) * c := Int.mul_sub _ _ _
      have e2 : (-a') * b = -(b * a') := by rw [Int.neg_mul, Int.mul_comm]
      omega

/-- A room of a metal, or one of the two that are none. -/
def Roomy (l c : Int) (r : Int × Int) : Prop := ((l - 1000 ≤ r.1 ∧ r.1 ≤ l) ∧ (-c ≤ r.2 ∧ r.2 ≤ 1000 - c)) ∨ r = (-1, 0) ∨ r = (0, -1)

theorem cross_half {l c : Int} (hl : 0 ≤ l ∧ l ≤ 1000) (hc : 0 ≤ c ∧ c ≤ 1000) {a b : Int × Int} (ha : Roomy l c a) (hb : Roomy l c b) : crossR a b ≤ 1000000 := by
  unfold crossR
  rcases ha with ha | rfl | rfl
  · rcases hb with hb | rfl | rfl
    · exact area_half ha.1 hb.1 ha.2 hb.2 hl hc
    · simp only; omega
    · simp only; omega
  · rcases hb with hb | rfl | rfl
    · simp only; omega
    · simp only; omega
    · simp only; omega
  · rcases hb with hb | rfl | rfl
    · simp only; omega
    · simp only; omega
    · simp only; omega

theorem cross_neg (a b : Int × Int) : crossR a b = -crossR b a := by
  unfold crossR
  rw [Int.mul_comm b.1, Int.mul_comm b.2]
  omega

theorem cross_million {l c : Int} (hl : 0 ≤ l ∧ l ≤ 1000) (hc : 0 ≤ c ∧ c ≤ 1000) {a b : Int × Int} (ha : Roomy l c a) (hb : Roomy l c b) : -1000000 ≤ crossR a b ∧ crossR a b ≤ 1000000 := by
  have h1 := cross_half hl hc ha hb
  have h2 := cross_half hl hc hb ha
  rw [cross_neg] at h2
  omega

theorem room_roomy {n : Nat} {u : Nat → U4} {l c : Int} (hS : ∀ i, i < n → (0 ≤ (u i).l ∧ (u i).l ≤ 1000) ∧ (0 ≤ (u i).c ∧ (u i).c ≤ 1000)) (i : Nat) : Roomy l c (roomF n u l c i) := by
  unfold roomF Roomy
  split
  · rename_i h
    have := hS i h
    exact .inl ⟨by simp only; omega, by simp only; omega⟩
  · split
    · exact .inr (.inl rfl)
    · exact .inr (.inr rfl)

theorem tdiv_abs (a b : Int) (B : Nat) (h : -(B : Int) ≤ a ∧ a ≤ B) : -(B : Int) ≤ a.tdiv b ∧ a.tdiv b ≤ B := by
  have h1 : (a.tdiv b).natAbs ≤ B := by
    rw [Int.natAbs_tdiv]
    exact Nat.le_trans (Nat.div_le_self _ _) (by omega)
  omega

theorem even_million {l c : Int} (hl : 0 ≤ l ∧ l ≤ 1000) (hc : 0 ≤ c ∧ c ≤ 1000) {x y z : Int × Int} (hx : Roomy l c x) (hy : Roomy l c y) (hz : Roomy l c z) (j : Nat) : -1000000 ≤ evenF x y z j ∧ evenF x y z j ≤ 1000000 := by
  have h : -1000000 ≤ leftF x y z j ∧ leftF x y z j ≤ 1000000 := by
    match j with
    | 0 => exact cross_million hl hc hy hz
    | 1 => exact cross_million hl hc hz hx
    | _ + 2 => exact cross_million hl hc hx hy
  exact tdiv_abs _ _ 1000000 h

theorem put_cases (n : Nat) (f : Nat → Int) (x : Nat) (v : Int) (i : Nat) : putP n f x v i = f i ∨ (putP n f x v i = v ∧ i = x ∧ x < n) := by
  by_cases h1 : x < n
  · by_cases h2 : i = x
    · exact .inr ⟨by simp [putP, upd, h1, h2], h2, h1⟩
    · exact .inl (by simp [putP, upd, h1, h2])
  · exact .inl (by simp [putP, h1])

theorem mix_cases (n : Nat) (r : Nat → Int × Int) (t : Tri) (i : Nat) : ∀ k, mixAt n r t k i = 0 ∨ ∃ j, j < k ∧ mixAt n r t k i = partsOf r t j ∧ i < n
  | 0 => .inl rfl
  | k + 1 => by
    simp only [mixAt]
    rcases put_cases n (mixAt n r t k) (triAt t k) (partsOf r t k) i with h | ⟨h, h1, h2⟩
    · rw [h]
      rcases mix_cases n r t i k with h | ⟨j, hj, h, hi⟩
      · exact .inl h
      · exact .inr ⟨j, by omega, h, hi⟩
    · exact .inr ⟨k, by omega, h, by omega⟩

theorem corn_ok {n : Nat} {r : Nat → Int × Int} {t : Tri} (hr : ∀ j, -1000000 ≤ partsOf r t j ∧ partsOf r t j ≤ 1000000) (hb : cornB n r t = true) :
    (∀ i, 0 ≤ mixOf n r t i ∧ mixOf n r t i ≤ 1000000) ∧ (∀ i, n ≤ i → mixOf n r t i = 0) ∧ 0 < sumF (mixOf n r t) n := by
  simp only [cornB, Bool.and_eq_true, decide_eq_true_eq, Bool.not_eq_true'] at hb
  obtain ⟨hp, hz⟩ := hb
  have h0 : ∀ i, 0 ≤ mixOf n r t i ∧ mixOf n r t i ≤ 1000000 := fun i => by
    rcases mix_cases n r t i 3 with h | ⟨j, hj, h, _⟩
    · unfold mixOf; rw [h]; omega
    · unfold mixOf
      rw [h]
      have h1 := hr j
      match j, hj with
      | 0, _ => omega
      | 1, _ => omega
      | 2, _ => omega
  have h1 : ∀ i, n ≤ i → mixOf n r t i = 0 := fun i hi => by
    rcases mix_cases n r t i 3 with h | ⟨j, hj, h, hlt⟩
    · exact h
    · omega
  refine ⟨h0, h1, ?_⟩
  have h2 := sumF_nn (mixOf n r t) 1000000 n fun i _ => h0 i
  by_cases h3 : sumF (mixOf n r t) n = 0
  · have h4 := sumF_zero n (fun i _ => (h0 i).1) h3
    have h5 : ∀ i, mixOf n r t i = 0 := fun i => by
      by_cases h : i < n
      · exact h4 i h
      · exact h1 i (by omega)
    simp [zero6, h5] at hz
  · omega

/-- What every corner of a pot is. -/
def GoodMix (n : Nat) (f : Nat → Int) : Prop := (∀ i, 0 ≤ f i ∧ f i ≤ 1000000) ∧ (∀ i, n ≤ i → f i = 0) ∧ 0 < sumF f n

theorem corn_good {n : Nat} {u : Nat → U4} {l c : Int} (hl : 0 ≤ l ∧ l ≤ 1000) (hc : 0 ≤ c ∧ c ≤ 1000) (hS : ∀ i, i < n → (0 ≤ (u i).l ∧ (u i).l ≤ 1000) ∧ (0 ≤ (u i).c ∧ (u i).c ≤ 1000)) :
    ∀ f ∈ cornL n (roomF n u l c), GoodMix n f := fun f hf => by
  unfold cornL at hf
  rw [List.mem_map] at hf
  obtain ⟨t, ht, rfl⟩ := hf
  rw [List.mem_filter] at ht
  exact corn_ok (fun j => even_million hl hc (room_roomy hS _) (room_roomy hS _) (room_roomy hS _) j) ht.2

end Go.Proofs.YtfjepnpnphoobaaGreat

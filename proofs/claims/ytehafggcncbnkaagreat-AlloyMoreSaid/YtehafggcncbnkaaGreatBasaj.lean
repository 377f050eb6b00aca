/- Contracts of package alloy: the iterator over corners. -/
import Derived.RangeFuncBound
import Derived.Shelf.Abstract
import Derived.Shelf.RegionOpen
import Derived.OwnWalkIn
import Derived.TacticsInMore
import Derived.LoopNIn
import Derived.LoopIn
import Derived.Scope
import Derived.Test.YtehafggcncbnkaaGreatProg
import Derived.Test.YtehafggcncbnkaaGreatBasaa
import Derived.Test.YtehafggcncbnkaaGreatBasah
import Derived.Test.YtehafggcncbnkaaGreatBasaf
import Derived.Test.YtehafggcncbnkaaGreatBasag
import Derived.Test.YtehafggcncbnkaaGreatBasai
import Derived.Test.YtehafggcncbnkaaGreatBasad
namespace Go.Proofs.YtehafggcncbnkaaGreat
open Go Go.RowKit Go.Shelf
attribute [local go_sem] Oper.semAt_some

theorem units_block {w W : World} {g n : Nat} {u : Nat → U4} (hu : Units w (some ⟨g, 0, none⟩) n u) (hz : w.heap.size ≤ W.heap.size) (h : W.heap[g]? = w.heap[g]?) : Units W (some ⟨g, 0, none⟩) n u := by
  rcases hu with h0 | ⟨b, off, e, hb, hc⟩
  · exact .inl h0
  · cases e
    refine .inr ⟨g, 0, rfl, Nat.lt_of_lt_of_le hb hz, fun i hi => ?_⟩
    obtain ⟨c0, c1, c2, c3⟩ := hc i hi
    exact ⟨(World.cell?_of_block (a := ⟨g, _, none⟩) h).trans c0, (World.cell?_of_block (a := ⟨g, _, none⟩) h).trans c1, (World.cell?_of_block (a := ⟨g, _, none⟩) h).trans c2, (World.cell?_of_block (a := ⟨g, _, none⟩) h).trans c3⟩

theorem room_close {n : Nat} {u : Nat → U4} {l c : Int} (hS : ∀ i, i < n → (0 ≤ (u i).l ∧ (u i).l ≤ 1000) ∧ (0 ≤ (u i).c ∧ (u i).c ≤ 1000)) (ht : 0 ≤ l ∧ l ≤ 1000 ∧ 0 ≤ c ∧ c ≤ 1000) (i : Nat) : Close (roomF n u l c i) := by
  unfold roomF
  split
  · rename_i h
    have := hS i h
    exact ⟨by simp only; omega, by simp only; omega⟩
  · split <;> exact ⟨by simp, by simp⟩

theorem roundIn_inRound {F : Fence} {n : Nat} {P : Program} {l' : Nat} {f : FuncId} {tmps : Array Value} {assign body : Code} {w : World} {R : Ending → World → Prop} (l : Nat) (h : RoundIn F n P l' f tmps assign body w R) :
    RoundIn (F.inRound l) n P l' f tmps assign body w R := h

set_option maxRecDepth 100000 in
set_option maxHeartbeats 4000000 in
theorem corners_gives (g n : Nat) (u : Nat → U4) (l c : Int) (w : World) (hu : Units w (some ⟨g, 0, none⟩) n u) (hg : g < w.heap.size) (hn : n ≤ 6) (hS : ∀ i, i < n → (0 ≤ (u i).l ∧ (u i).l ≤ 1000) ∧ (0 ≤ (u i).c ∧ (u i).c ≤ 1000)) (ht : 0 ≤ l ∧ l ≤ 1000 ∧ 0 ≤ c ∧ c ≤ 1000) :
    Gives Tryz.prog 72 #[potV g n l c] #[] (· = g) ((cornL n (roomF n u l c)).map fun f => #[mixV f]) w := by
  intro lr J Jx W hW hz hJ hJx hY h0
  have huW := units_block hu hz (hW g rfl).2
  obtain ⟨D, hD⟩ : ∃ D, W.heap.size = D := ⟨_, rfl⟩
  have hgD : g < D := by omega
  obtain ⟨W1, hW1⟩ : ∃ W1, (W.alloc (.cells #[.slice (some ⟨g, 0, none⟩) n n, .int .i64 1, .int .i64 0, .int .i64 l, .int .i64 c] 102)).alloc (.cells #[.func (.yield lr) #[] #[]] 105) = W1 := ⟨_, rfl⟩
  have hB1 : Below D W W1 := by rw [← hW1, ← hD]; exact Below.alloc1 (Below.alloc1 (Below.refl _ _) _ (Nat.le_refl _)) _ (Nat.le_refl _)
  have hP1 : RowIs W1 D #[.slice (some ⟨g, 0, none⟩) n n, .int .i64 1, .int .i64 0, .int .i64 l, .int .i64 c] 102 := by rw [← hW1]; exact RowIs.alloc (heap_new_at _ _ _ hD) _
  have hy1 : RowIs W1 (D + 1) #[.func (.yield lr) #[] #[]] 105 := by rw [← hW1]; exact heap_new_at _ _ _ (by simp [hD])
  have hzW1 : W1.heap.size = D + 2 := by rw [← hW1]; simp [hD]
  have hu1 : Units W1 (some ⟨g, 0, none⟩) n u := units_block huW (by omega) (hB1.block g hgD)
  obtain ⟨p0, p1, p2, p3, p4, pz⟩ := potrow hP1
  have HP := Lib.hid hP1
  have Hy := Lib.hid hy1
  have HB1 := Lib.hid hB1
  have HzW1 := Lib.hid hzW1
  have HS := Lib.hid hS
  rw [hD] at hJ hJx hY
  have HJ := Lib.hid hJ
  have HJx := Lib.hid hJx
  have HY := Lib.hid hY
  have H0 := Lib.hid h0
  have HW := Lib.hid hW
  clear hS hP1 hy1 hB1 hzW1 hJ hJx hY h0 hW hu huW
  refine (callsIn_wide (n := 1)).1 ?_
  show CallsIn Fence.wide 1 Tryz.prog 72 #[potV g n l c, .func (.yield lr) #[] #[]] W _
  refine callsIn_of_wp_marks Tryz.func72 rfl trivial ?_ rfl
  simp only [Tryz.ntmps72, List.size_toArray, List.length_cons, List.length_nil, Nat.reduceAdd, Nat.reduceSub, Array.replicate_succ, Array.replicate_zero, List.push_toArray, List.append_toArray, List.nil_append, List.cons_append]
  gi_wp2_with fail
  refine wpIn_wide.2 (wp_scope_straight ((wpIn_wide (n := 1)).1 ?_))
  gi_wp2_with (refine ⟨trivial, ?_⟩; gi_at_call 96; refine (callsIn_wide.2 (rooms_c g n u l c _ hu1 hn HS.out ht)).mono ?_; rintro e w1 ⟨h, hh, hlt, rfl, hcells, hb1⟩; have Hcells := Lib.hid hcells; have Hb1 := Lib.hid hb1; clear hcells hb1)
  refine wpIn_label ?_
  gi_wp2_with (refine ⟨trivial, ?_⟩; gi_at_call 97; refine (callsIn_wide.2 (triples_c (n + 2) _)).mono ?_; rintro e w2 ⟨rfl, rfl⟩)
  have hzw1 := Hb1.out.size
  obtain ⟨W2, hW2⟩ : ∃ W2, (w1.alloc (.cells #[.slice (some ⟨h, 0, none⟩) (n + 2) (n + 2)] 128)).alloc (.cells #[.int .i64 (n + 2)] 3) = W2 := ⟨_, rfl⟩
  have hB2 : Below w1.heap.size w1 W2 := by rw [← hW2]; exact Below.alloc1 (Below.alloc1 (Below.refl _ _) _ (Nat.le_refl _)) _ (Nat.le_refl _)
  have hs2 : RowIs W2 w1.heap.size #[.slice (some ⟨h, 0, none⟩) (n + 2) (n + 2)] 128 := by rw [← hW2]; exact RowIs.alloc (heap_new_at _ _ _ rfl) _
  have hn2 : RowIs W2 (w1.heap.size + 1) #[.int .i64 ((n + 2 : Nat) : Int)] 3 := by rw [← hW2]; exact heap_new_at _ _ _ (by simp)
  have hz2 : W2.heap.size = w1.heap.size + 2 := by rw [← hW2]; simp
  have hP2 := HP.out.below (bup Hb1.out hB2)
  have hy2 := Hy.out.below (bup Hb1.out hB2)
  have hr2 : ∀ i, i < n + 2 → W2.cell? ⟨h, i * 2, none⟩ = some (.int .i64 (roomF n u l c i).1) ∧ W2.cell? ⟨h, i * 2 + 1, none⟩ = some (.int .i64 (roomF n u l c i).2) := fun i hi => by
    obtain ⟨c1, c2⟩ := Hcells.out i hi
    exact ⟨(hB2.cell hlt).trans c1, (hB2.cell hlt).trans c2⟩
  have hD2 : D ≤ W2.heap.size := by have := hB2.size; have := HzW1.out; omega
  have hJ2 : J 0 W2 := HJ.out 0 W W2 H0.out (HB1.out.trans ((bup Hb1.out hB2).mono (by have := HzW1.out; omega)))
  obtain ⟨b, hb⟩ : ∃ b, W2.heap.size = b := ⟨_, rfl⟩
  obtain ⟨Bs, hBs⟩ : ∃ Bs, w1.heap.size = Bs := ⟨_, rfl⟩
  rw [hW2]
  rw [hBs] at hs2 hn2 hz2 ⊢
  clear hW2 hB2 Hcells Hb1 HB1 hzw1 p0 p1 p2 p3 p4 pz hu1
  refine wpIn_rangeL (gf := 111) (first := #[]) (lb := #[.pointer (some ⟨Bs + 1, 0, none⟩)]) rfl (enters_of Tryz.func111 (by kernel_rfl) rfl) (triples_gives (Bs + 1) (n + 2) W2 hn2 (by omega)) (fun k hk => by rw [hk]; omega) (fun k hk => by simp)
    (fun k A => J (cornN n (roomF n u l c) k) A ∧ ∀ i, D ≤ i → i < b → A.heap[i]? = W2.heap[i]?)
    (fun cd _ A => cd = .ret ∧ ∃ k', Jx k' A)
    (fun k A B hA hAB => ⟨HJ.out _ _ _ hA.1 (hAB.mono hD2), fun i h1 h2 => (hAB.block i (by omega)).trans (hA.2 i h1 h2)⟩)
    (fun cd k A B hA hAB => ⟨hA.1, hA.2.imp fun k' h' => HJx.out _ _ _ h' (hAB.mono hD2)⟩)
    ⟨by rw [cornN_zero]; exact hJ2, fun _ _ _ => rfl⟩
    (fun k a' A => ∃ Bx, b + 2 ≤ Bx ∧ RowIs A Bx #[.int .i64 (triK n k).1, .int .i64 (triK n k).2.1, .int .i64 (triK n k).2.2] 133 ∧
      a' = { tmps := #[potV g n l c, .func (.yield lr) #[] #[], .pointer (some ⟨D, 0, none⟩), .pointer (some ⟨D + 1, 0, none⟩), .pointer (some ⟨Bs, 0, none⟩), .pointer (some ⟨Bx, 0, none⟩), undef, undef, undef, undef, potV g n l c, .slice (some ⟨h, 0, none⟩) (n + 2) (n + 2), .slice (some ⟨h, 0, none⟩) (n + 2) (n + 2), .int .i64 (n + 2), .func (.func 111) #[] #[.pointer (some ⟨Bs + 1, 0, none⟩)], triV (triK n k), undef, undef, undef, undef, undef, undef, undef, undef, undef, undef, undef, undef, undef, undef, undef, undef, undef, undef, undef, undef, undef, undef, undef, undef, undef, undef, undef, undef, undef, undef, undef, undef, undef, undef, undef, undef, undef, undef, undef, undef, undef, undef, undef, undef], defers := [] })
    (fun k a' A o hA => by
      obtain ⟨Bx, h1, h2, h3⟩ := hA
      exact ⟨Bx, h1, (World.putObj_heap_other (by omega)).trans h2, h3⟩)
    ?assign ?body ?done ?stop
  case assign =>
    intro lx k hk A T hA hI hT
    rw [triK_arg hk]
    gi_wp2
    exact hT _ _ (Below.alloc1 (Below.refl _ _) _ (Nat.le_refl _)) ⟨A.heap.size, by omega, heap_new_at _ _ _ rfl, rfl⟩
  case body =>
    rintro lx k hk a' A hA ⟨hJk, hKeep⟩ ⟨Bx, hBx, hx, rfl⟩
    have hk' : k < (triL (n + 2)).length := by simpa using hk
    obtain ⟨t1, t2, t3⟩ := triK_lt hk'
    have hb0 := triK_get hk'
    obtain ⟨t, ht0⟩ : ∃ t, triK n k = t := ⟨_, rfl⟩
    rw [ht0] at t1 t2 t3 hx hb0 ⊢
    have hbB : Bs + 2 = b := by omega
    have hrow : ∀ {B : Nat} {cs : Array Value} {T : TypeId}, RowIs W2 B cs T → D ≤ B → B < b → RowIs A B cs T := fun h1 h2 h3 => (hKeep _ h2 h3).trans h1
    have hDs : D + 2 ≤ Bs := by have := HzW1.out; omega
    have hPA := hrow hP2 (Nat.le_refl _) (by omega)
    have hyA := hrow hy2 (Nat.le_succ _) (by omega)
    have hsA := hrow hs2 (by omega) (by omega)
    have hhD : D ≤ h := by have := HzW1.out; omega
    have hhb : h < b := by omega
    have hrA : ∀ i, i < n + 2 → A.cell? ⟨h, i * 2, none⟩ = some (.int .i64 (roomF n u l c i).1) ∧ A.cell? ⟨h, i * 2 + 1, none⟩ = some (.int .i64 (roomF n u l c i).2) := fun i hi => by
      obtain ⟨c1, c2⟩ := hr2 i hi
      exact ⟨(World.cell?_of_block (a := ⟨h, _, none⟩) (hKeep h hhD hhb)).trans c1, (World.cell?_of_block (a := ⟨h, _, none⟩) (hKeep h hhD hhb)).trans c2⟩
    have s0 : A.cell? ⟨Bs, 0, none⟩ = some (.slice (some ⟨h, 0, none⟩) (n + 2) (n + 2)) := hsA.cell 0
    have x0 : A.cell? ⟨Bx, 0, none⟩ = some (.int .i64 t.1) := hx.cell 0
    have x1 : A.cell? ⟨Bx, 1, none⟩ = some (.int .i64 t.2.1) := hx.cell 1
    have x2 : A.cell? ⟨Bx, 2, none⟩ = some (.int .i64 t.2.2) := hx.cell 2
    obtain ⟨a0, a1⟩ := hrA t.1 (by omega)
    obtain ⟨b0, b1⟩ := hrA t.2.1 (by omega)
    obtain ⟨d0, d1⟩ := hrA t.2.2 (by omega)
    have zBs : Bs < A.heap.size := by omega
    have zBx : Bx < A.heap.size := (Array.getElem?_eq_some_iff.1 hx).1
    have zh : h < A.heap.size := by omega
    have j1 : (t.1 : Int) < (n : Int) + 2 := by omega
    have j2 : (t.2.1 : Int) < (n : Int) + 2 := by omega
    have j3 : (t.2.2 : Int) < (n : Int) + 2 := by omega
    have hc1 := fun (w1 : World) (x : Later w1) => evenOut_c (roomF n u l c t.1) (roomF n u l c t.2.1) (roomF n u l c t.2.2) x.w (room_close HS.out ht _) (room_close HS.out ht _) (room_close HS.out ht _)
    have H1 := Lib.hid hc1
    have HPA := Lib.hid hPA
    have HyA := Lib.hid hyA
    have HxA := Lib.hid hx
    have HKeep := Lib.hid hKeep
    have HJk := Lib.hid hJk
    clear hc1 hPA hyA hsA hx hKeep hJk hrA hrow
    gi_wp2_with fail
    refine wpIn_region_floatR 16 6 60 (.cells #[.int .i64 0, .int .i64 0, .int .i64 0] 134 (0, 0)) _ (by kernel_rfl) (by kernel_rfl) (by rintro ⟨_, _, h⟩; exact h) (by kernel_rfl) rfl rfl rfl ?hal (by kernel_rfl) (by kernel_rfl) rfl rfl ?_
    case hal => intro a w; go_simp
    simp only [List.take_succ_cons, List.take_zero, List.drop_succ_cons, List.drop_zero]
    apply Exists.intro
    refine ⟨fun w1 hb1 K hK => ?_, ?_⟩
    · have hlc := fun (x : Later w1) => later_cell2 hb1 x
      repeat (go_big_quiet_step (((with_reducible refine calls_later (H1.out _ _)))))
      exact wpQuiet_nil hK
    intro Bp A2 hbp hA2 hz2'
    have hp2 : RowIs A2 Bp #[.int .i64 0, .int .i64 0, .int .i64 0] 134 := hz2'
    have q0 := hp2.cell 0
    have q1 := hp2.cell 1
    have q2 := hp2.cell 2
    have v0 := hp2.frozen 0
    have v1 := hp2.frozen 1
    have v2 := hp2.frozen 2
    simp at q0 q1 q2
    have zBp := (Array.getElem?_eq_some_iff.1 hp2).1
    have Hp2 := Lib.hid hp2
    have HA2 := Lib.hid hA2
    obtain ⟨P, hP⟩ : ∃ P, partsOf (roomF n u l c) t = P := ⟨_, rfl⟩
    have hPe : evenF (roomF n u l c t.1) (roomF n u l c t.2.1) (roomF n u l c t.2.2) = P := hP
    simp only [hPe]
    clear hz2' hp2 hA2 s0 x0 x1 x2 a0 a1 b0 b1 d0 d1 H1 hPe
    go_wp2_with fail
    gi_wp2_with fail
    obtain ⟨A3, hA3⟩ : ∃ A3, (((A2.setCell ⟨Bp, 0, none⟩ (.int .i64 (P 0))).setCell ⟨Bp, 1, none⟩ (.int .i64 (P 1))).setCell ⟨Bp, 2, none⟩ (.int .i64 (P 2))).alloc (.cells #[.int .i64 0, .int .i64 0, .int .i64 0, .int .i64 0, .int .i64 0, .int .i64 0] 88) = A3 := ⟨_, rfl⟩
    have hA3b : Below A.heap.size A A3 := by rw [← hA3]; exact Below.alloc1 (((HA2.out.setCell hbp _).setCell hbp _).setCell hbp _) _ (Nat.le_refl _)
    have hM3 : RowIs A3 A2.heap.size (mixRow (mixAt n (roomF n u l c) t 0)) 88 := by rw [← hA3]; exact heap_new_at _ _ _ (by simp [World.setCell])
    have hAm : A.heap.size ≤ A2.heap.size := HA2.out.size
    obtain ⟨Bm, hBm⟩ : ∃ Bm, A2.heap.size = Bm := ⟨_, rfl⟩
    rw [hA3]
    rw [hBm] at hM3 hAm ⊢
    clear hA3 q0 q1 q2 v0 v1 v2 zBp Hp2 HA2 hBm hbp
    have HP3 := Lib.hid hP
    have Hb0 := Lib.hid hb0
    clear hP hb0
    have Hno : ∀ (a : Act) (B : World), Below A.heap.size A B → cornB n (roomF n u l c) t = false → roundQ (· = Bs + 1) W2.heap.size (fun k A => J (cornN n (roomF n u l c) k) A ∧ ∀ i, D ≤ i → i < b → A.heap[i]? = W2.heap[i]?) (fun cd _ A => cd = .ret ∧ ∃ k', Jx k' A) k A .normal a B := fun _ _ hB hf =>
      ⟨Spares.of_below hB, by rw [cornN_no hk' (by rw [Hb0.out]; exact hf)]; exact HJ.out _ _ _ HJk.out (hB.mono (by omega)), fun i h1 h2 => (hB.block i (by omega)).trans (HKeep.out i h1 h2)⟩
    have HNo := Lib.hid Hno
    clear Hno
    gi_loopw [33] (fun s wr => ∃ j : Nat, j ≤ 3 ∧ s = .int .i64 j ∧ RowIs wr Bm (mixRow (mixAt n (roomF n u l c) t j)) 88 ∧ Below A.heap.size A wr ∧ ∀ i, i < j → 0 ≤ P i) (fun s _ => 3 - (intOf s).toNat)
    case atStart => exact ⟨0, by omega, rfl, hM3, hA3b, fun i hi => absurd hi (Nat.not_lt_zero i)⟩
    case round =>
      clear hM3 hA3b
      obtain ⟨j, hj, rfl, hM, hB, hpos⟩ := hrel
      have hxr := (hB.block Bx zBx).trans HxA.out
      have hPr := (hB.block D (by omega)).trans HPA.out
      have hyr := (hB.block (D + 1) (by omega)).trans HyA.out
      have x0 : wr.cell? ⟨Bx, 0, none⟩ = some (.int .i64 t.1) := RowIs.cell hxr 0
      have x1 : wr.cell? ⟨Bx, 1, none⟩ = some (.int .i64 t.2.1) := RowIs.cell hxr 1
      have x2 : wr.cell? ⟨Bx, 2, none⟩ = some (.int .i64 t.2.2) := RowIs.cell hxr 2
      have p0 : wr.cell? ⟨D, 0, none⟩ = some (.slice (some ⟨g, 0, none⟩) n n) := RowIs.cell hPr 0
      have y0 : wr.cell? ⟨D + 1, 0, none⟩ = some (.func (.yield lr) #[] #[]) := RowIs.cell hyr 0
      have zBm := (Array.getElem?_eq_some_iff.1 hM).1
      have zD := (Array.getElem?_eq_some_iff.1 hPr).1
      have zX := (Array.getElem?_eq_some_iff.1 hxr).1
      have HM := Lib.hid hM
      have HB := Lib.hid hB
      have Hpos := Lib.hid hpos
      clear hxr hPr hyr hM hB hpos
      have hcase : j = 0 ∨ j = 1 ∨ j = 2 ∨ j = 3 := by omega
      rcases hcase with rfl | rfl | rfl | rfl
      · have ix : ∀ w', (Instr.index 134 (.agg #[.int .i64 (P 0), .int .i64 (P 1), .int .i64 (P 2)]) (.int .i64 0)).run Tryz.prog w' = .ok (.int .i64 (P 0)) w' := fun _ => by kernel_rfl
        by_cases hneg : P 0 < 0
        · clear x0 x1 x2 p0 y0
          gi_wp2_with fail
          exact HNo.out _ _ HB.out (by simp only [cornB, HP3.out]; rw [decide_eq_false (by omega)]; rfl)
        · by_cases hlt : t.1 < n
          · have m0 : wr.cell? ⟨Bm, t.1, none⟩ = some (.int .i64 (mixAt n (roomF n u l c) t 0 (t.1))) := by rw [HM.out.cell]; exact mixRow_at _ _ (by omega)
            have f0 := HM.out.frozen (t.1)
            have ji : (t.1 : Int) < 6 := by omega
            gi_wp2_with fail
            refine wpIn_region_quietR (by kernel_rfl) (by kernel_rfl) (by kernel_rfl) (by rintro ⟨_, _, h⟩; exact h) ?_
            repeat (go_big_quiet_step (fail))
            refine wpQuiet_nil ?_
            rintro _ ⟨nq, rfl⟩
            gi_wp2_with fail
            go_roundw
            case rel =>
              have e : mixAt n (roomF n u l c) t 1 = upd (mixAt n (roomF n u l c) t 0) (t.1) (P 0) := by
                show putP n (mixAt n (roomF n u l c) t 0) (t.1) (partsOf (roomF n u l c) t 0) = _
                rw [HP3.out]
                unfold putP
                rw [if_pos hlt]
              exact ⟨1, by omega, rfl, by rw [e, ← mixRow_set _ _ _ (by omega)]; exact RowIs.set (w := wr.drewN nq) HM.out (t.1) _, (below_drewN HB.out nq).setCell hAm _, fun i hi => by
                rcases Nat.lt_or_ge i 0 with h | h
                · exact Hpos.out i h
                · obtain rfl : i = 0 := by omega
                  omega⟩
            case measure => simp [intOf]
          · omega
      · have ix : ∀ w', (Instr.index 134 (.agg #[.int .i64 (P 0), .int .i64 (P 1), .int .i64 (P 2)]) (.int .i64 1)).run Tryz.prog w' = .ok (.int .i64 (P 1)) w' := fun _ => by kernel_rfl
        by_cases hneg : P 1 < 0
        · clear x0 x1 x2 p0 y0
          gi_wp2_with fail
          exact HNo.out _ _ HB.out (by simp only [cornB, HP3.out]; rw [decide_eq_false (by omega)]; rfl)
        · by_cases hlt : t.2.1 < n
          · have m0 : wr.cell? ⟨Bm, t.2.1, none⟩ = some (.int .i64 (mixAt n (roomF n u l c) t 1 (t.2.1))) := by rw [HM.out.cell]; exact mixRow_at _ _ (by omega)
            have f0 := HM.out.frozen (t.2.1)
            have ji : (t.2.1 : Int) < 6 := by omega
            gi_wp2_with fail
            refine wpIn_region_quietR (by kernel_rfl) (by kernel_rfl) (by kernel_rfl) (by rintro ⟨_, _, h⟩; exact h) ?_
            repeat (go_big_quiet_step (fail))
            refine wpQuiet_nil ?_
            rintro _ ⟨nq, rfl⟩
            gi_wp2_with fail
            go_roundw
            case rel =>
              have e : mixAt n (roomF n u l c) t 2 = upd (mixAt n (roomF n u l c) t 1) (t.2.1) (P 1) := by
                show putP n (mixAt n (roomF n u l c) t 1) (t.2.1) (partsOf (roomF n u l c) t 1) = _
                rw [HP3.out]
                unfold putP
                rw [if_pos hlt]
              exact ⟨2, by omega, rfl, by rw [e, ← mixRow_set _ _ _ (by omega)]; exact RowIs.set (w := wr.drewN nq) HM.out (t.2.1) _, (below_drewN HB.out nq).setCell hAm _, fun i hi => by
                rcases Nat.lt_or_ge i 1 with h | h
                · exact Hpos.out i h
                · obtain rfl : i = 1 := by omega
                  omega⟩
            case measure => simp [intOf]
          · have hge : decide ((t.2.1 : Int) < (n : Int)) = false := by simp; omega
            have Hlt := Lib.hid hlt
            clear hlt
            gi_wp2_with fail
            refine wpIn_region_quietR (by kernel_rfl) (by kernel_rfl) (by kernel_rfl) (by rintro ⟨_, _, h⟩; exact h) ?_
            repeat (go_big_quiet_step (fail))
            refine wpQuiet_nil ?_
            rintro _ ⟨nq, rfl⟩
            gi_wp2_with fail
            go_roundw
            case rel =>
              have e : mixAt n (roomF n u l c) t 2 = mixAt n (roomF n u l c) t 1 := by
                show putP n (mixAt n (roomF n u l c) t 1) (t.2.1) (partsOf (roomF n u l c) t 1) = _
                unfold putP
                rw [if_neg Hlt.out]
              exact ⟨2, by omega, rfl, by rw [e]; exact HM.out, below_drewN HB.out nq, fun i hi => by
                rcases Nat.lt_or_ge i 1 with h | h
                · exact Hpos.out i h
                · obtain rfl : i = 1 := by omega
                  omega⟩
            case measure => simp [intOf]
      · have ix : ∀ w', (Instr.index 134 (.agg #[.int .i64 (P 0), .int .i64 (P 1), .int .i64 (P 2)]) (.int .i64 2)).run Tryz.prog w' = .ok (.int .i64 (P 2)) w' := fun _ => by kernel_rfl
        by_cases hneg : P 2 < 0
        · clear x0 x1 x2 p0 y0
          gi_wp2_with fail
          exact HNo.out _ _ HB.out (by simp only [cornB, HP3.out]; rw [decide_eq_false (by omega)]; rfl)
        · by_cases hlt : t.2.2 < n
          · have m0 : wr.cell? ⟨Bm, t.2.2, none⟩ = some (.int .i64 (mixAt n (roomF n u l c) t 2 (t.2.2))) := by rw [HM.out.cell]; exact mixRow_at _ _ (by omega)
            have f0 := HM.out.frozen (t.2.2)
            have ji : (t.2.2 : Int) < 6 := by omega
            gi_wp2_with fail
            refine wpIn_region_quietR (by kernel_rfl) (by kernel_rfl) (by kernel_rfl) (by rintro ⟨_, _, h⟩; exact h) ?_
            repeat (go_big_quiet_step (fail))
            refine wpQuiet_nil ?_
            rintro _ ⟨nq, rfl⟩
            gi_wp2_with fail
            go_roundw
            case rel =>
              have e : mixAt n (roomF n u l c) t 3 = upd (mixAt n (roomF n u l c) t 2) (t.2.2) (P 2) := by
                show putP n (mixAt n (roomF n u l c) t 2) (t.2.2) (partsOf (roomF n u l c) t 2) = _
                rw [HP3.out]
                unfold putP
                rw [if_pos hlt]
              exact ⟨3, by omega, rfl, by rw [e, ← mixRow_set _ _ _ (by omega)]; exact RowIs.set (w := wr.drewN nq) HM.out (t.2.2) _, (below_drewN HB.out nq).setCell hAm _, fun i hi => by
                rcases Nat.lt_or_ge i 2 with h | h
                · exact Hpos.out i h
                · obtain rfl : i = 2 := by omega
                  omega⟩
            case measure => simp [intOf]
          · have hge : decide ((t.2.2 : Int) < (n : Int)) = false := by simp; omega
            have Hlt := Lib.hid hlt
            clear hlt
            gi_wp2_with fail
            refine wpIn_region_quietR (by kernel_rfl) (by kernel_rfl) (by kernel_rfl) (by rintro ⟨_, _, h⟩; exact h) ?_
            repeat (go_big_quiet_step (fail))
            refine wpQuiet_nil ?_
            rintro _ ⟨nq, rfl⟩
            gi_wp2_with fail
            go_roundw
            case rel =>
              have e : mixAt n (roomF n u l c) t 3 = mixAt n (roomF n u l c) t 2 := by
                show putP n (mixAt n (roomF n u l c) t 2) (t.2.2) (partsOf (roomF n u l c) t 2) = _
                unfold putP
                rw [if_neg Hlt.out]
              exact ⟨3, by omega, rfl, by rw [e]; exact HM.out, below_drewN HB.out nq, fun i hi => by
                rcases Nat.lt_or_ge i 2 with h | h
                · exact Hpos.out i h
                · obtain rfl : i = 2 := by omega
                  omega⟩
            case measure => simp [intOf]
      · obtain ⟨f, hf⟩ : ∃ f, mixOf n (roomF n u l c) t = f := ⟨_, rfl⟩
        have hM4 : RowIs wr Bm (mixRow f) 88 := by rw [← hf]; exact HM.out
        have m0 : wr.cell? ⟨Bm, 0, none⟩ = some (.int .i64 (f 0)) := hM4.cell 0
        have m1 : wr.cell? ⟨Bm, 1, none⟩ = some (.int .i64 (f 1)) := hM4.cell 1
        have m2 : wr.cell? ⟨Bm, 2, none⟩ = some (.int .i64 (f 2)) := hM4.cell 2
        have m3 : wr.cell? ⟨Bm, 3, none⟩ = some (.int .i64 (f 3)) := hM4.cell 3
        have m4 : wr.cell? ⟨Bm, 4, none⟩ = some (.int .i64 (f 4)) := hM4.cell 4
        have m5 : wr.cell? ⟨Bm, 5, none⟩ = some (.int .i64 (f 5)) := hM4.cell 5
        have heq := eqMix (f 0) (f 1) (f 2) (f 3) (f 4) (f 5) wr
        have Hf := Lib.hid hf
        clear hM4 hf x0 x1 x2 p0
        by_cases hz6 : zero6 f = true
        · have hz6' : (f 0 == 0 && (f 1 == 0 && (f 2 == 0 && (f 3 == 0 && (f 4 == 0 && f 5 == 0))))) = true := hz6
          rw [hz6'] at heq
          have Hz6 := Lib.hid hz6
          clear hz6 hz6'
          gi_wp2_with fail
          exact HNo.out _ _ HB.out (by simp [cornB, Hf.out, Hz6.out])
        · have hz6' : (f 0 == 0 && (f 1 == 0 && (f 2 == 0 && (f 3 == 0 && (f 4 == 0 && f 5 == 0))))) = false := by simpa [zero6] using hz6
          rw [hz6'] at heq
          have hcb : cornB n (roomF n u l c) (triL (n + 2))[k] = true := by
            rw [Hb0.out]
            unfold cornB
            rw [Hf.out, HP3.out, decide_eq_true ⟨Hpos.out 0 (by omega), Hpos.out 1 (by omega), Hpos.out 2 (by omega)⟩]
            simpa using hz6
          obtain ⟨hc1, hc2⟩ := corn_at hk' hcb
          have hyy := HY.out (cornN n (roomF n u l c) k) (by simpa using hc1) wr (by have := HB.out.size; omega) (HJ.out _ _ _ HJk.out (HB.out.mono (by omega)))
          rw [List.getElem_map, hc2, Hb0.out, Hf.out] at hyy
          obtain ⟨fn, tmps, assign, body, hy, hR⟩ := hyy
          replace hR := roundIn_inRound lx hR
          have Hcb := Lib.hid hcb
          clear hz6 hz6' hc1 hc2 hcb
          gi_wp2_with fail
          refine hR.mono ?_
          rintro e W3 (⟨rfl, hJ3, hS3⟩ | ⟨rfl, hJx3, hS3⟩)
          · gi_wp2_with fail
            refine ⟨((Spares.of_below HB.out).trans (hS3.mono (fun k h => .inr (by omega)) (by omega))), by rw [cornN_yes hk' Hcb.out]; exact hJ3, fun i h1 h2 => ?_⟩
            exact (hS3.block i (by have := HB.out.size; omega) (.inr h1)).trans ((HB.out.block i (by omega)).trans (HKeep.out i h1 h2))
          · gi_wp2_with fail
            exact ⟨((Spares.of_below HB.out).trans (hS3.mono (fun k h => .inr (by omega)) (by omega))), rfl, _, hJx3⟩
  case done =>
    rintro B hBz ⟨hJB, hKB⟩ hK
    gi_wp2
    refine ⟨by simp, .inl ⟨_, _, rfl, run_takeDeferred hK, ?_⟩⟩
    refine ⟨_, results_none rfl _ _ _, ⟨_, rfl⟩, .inl ?_⟩
    have hJL := HJ.out _ _ _ hJB (below_put (D := D) (r := W2.heap.size) (.deferred none) hD2)
    simpa [cornN_all] using hJL
  case stop =>
    rintro cd k B hBz ⟨rfl, k', hJx'⟩ hK
    gi_wp2
    refine ⟨by simp, .inl ⟨_, _, rfl, run_takeDeferred hK, ?_⟩⟩
    exact ⟨_, results_none rfl _ _ _, ⟨_, rfl⟩, .inr ⟨k', HJx.out _ _ _ hJx' (below_put (D := D) (r := W2.heap.size) (.deferred none) hD2)⟩⟩

end Go.Proofs.YtehafggcncbnkaaGreat

namespace Go.Proofs.YtehafggcncbnkaaGreat
open Go Go.RowKit

theorem area_half {a a' b b' l c : Int} (ha : l - 1000 ≤ a ∧ a ≤ l) (ha' : l - 1000 ≤ a' ∧ a' ≤ l) (hb : -c ≤ b ∧ b ≤ 1000 - c) (hb' : -c ≤ b' ∧ b' ≤ 1000 - c) (hl : 0 ≤ l ∧ l ≤ 1000) (hc : 0 ≤ c ∧ c ≤ 1000) :
    a * b' - b * a' ≤ 1000000 := by
  by_cases h : 0 ≤ a
  · have h1 : a * b' ≤ a * (1000 - c) := Int.mul_le_mul_of_nonneg_left hb'.2 h
    by_cases h' : 0 ≤ a'
    · have h2 : a' * (-b) ≤ a' * c := Int.mul_le_mul_of_nonneg_left (by omega) h'
      have h3 : a * (1000 - c) ≤ l * (1000 - c) := Int.mul_le_mul_of_nonneg_right ha.2 (by omega)
      have h4 : a' * c ≤ l * c := Int.mul_le_mul_of_nonneg_right ha'.2 hc.1
      have e : l * (1000 - c) = l * 1000 - l * c := Int.mul_sub _ _ _
      have e2 : a' * (-b) = -(b * a') := by rw [Int.mul_neg, Int.mul_comm]
      omega
    · have h2 : (-a') * b ≤ (-a') * (1000 - c) := Int.mul_le_mul_of_nonneg_left hb.2 (by omega)
      have h3 : (a + -a') * (1000 - c) ≤ 1000 * (1000 - c) := Int.mul_le_mul_of_nonneg_right (by omega) (by omega)
      have e : (a + -a') * (1000 - c) = a * (1000 - c) + -a' * (1000 - c) := Int.add_mul _ _ _
      have e2 : (-a') * b = -(b * a') := by rw [Int.neg_mul, Int.mul_comm]
      omega
  · have h1 : (-a) * (-b') ≤ (-a) * c := Int.mul_le_mul_of_nonneg_left (by omega) (by omega)
    have e1 : (-a) * (-b') = a * b' := Int.neg_mul_neg _ _
    by_cases h' : 0 ≤ a'
    · have h2 : a' * (-b) ≤ a' * c := Int.mul_le_mul_of_nonneg_left (by omega) h'
      have h3 : (-a + a') * c ≤ 1000 * c := Int.mul_le_mul_of_nonneg_right (by omega) hc.1
      have e : (-a + a') * c = -a * c + a' * c := Int.add_mul _ _ _
      have e2 : a' * (-b) = -(b * a') := by rw [Int.mul_neg, Int.mul_comm]
      omega
    · have h2 : (-a') * b ≤ (-a') * (1000 - c) := Int.mul_le_mul_of_nonneg_left hb.2 (by omega)
      have h3 : (-a) * c ≤ (1000 - l) * c := Int.mul_le_mul_of_nonneg_right (by omega) hc.1
      have h4 : (-a') * (1000 - c) ≤ (1000 - l) * (1000 - c) := Int.mul_le_mul_of_nonneg_right (by omega) (by omega)
      have e : (1000 - l) * (1000 - c) = (1000 - l) * 1000 - (1000 - l) * c := Int.mul_sub _ _ _
      have e2 : (-a') * b = -(b * a') := by rw [Int.neg_mul, Int.mul_comm]
      omega

/-- A room of a metal, or one of the two that are none. -/
def Roomy (l c : Int) (r : Int × Int) : Prop := ((l - 1000 ≤ r.1 ∧ r.1 ≤ l) ∧ (-c ≤ r.2 ∧ r.2 ≤ 1000 - c)) ∨ r = (-1, 0) ∨ r = (0, -1)

theorem cross_half {l c : Int} (hl : 0 ≤ l ∧ l ≤ 1000) (hc : 0 ≤ c ∧ c ≤ 1000) {a b : Int × Int} (ha : Roomy l c a) (hb : Roomy l c b) : crossR a b ≤ 1000000 := by
  unfold crossR
  rcases ha with ha | rfl | rfl
  · rcases hb with hb | rfl | rfl
    · exact area_half ha.1 hb.1 ha.2 hb.2 hl hc
    · simp only; omega
    · simp only; omega
  · rcases hb with hb | rfl | rfl
    · simp only; omega
    · simp only; omega
    · simp only; omega
  · rcases hb with hb | rfl | rfl
    · simp only; omega
    · simp only; omega
    · simp only; omega

theorem cross_neg (a b : Int × Int) : crossR a b = -crossR b a := by
  unfold crossR
  rw [Int.mul_comm b.1, Int.mul_comm b.2]
  omega

theorem cross_million {l c : Int} (hl : 0 ≤ l ∧ l ≤ 1000) (hc : 0 ≤ c ∧ c ≤ 1000) {a b : Int × Int} (ha : Roomy l c a) (hb : Roomy l c b) : -1000000 ≤ crossR a b ∧ crossR a b ≤ 1000000 := by
  have h1 := cross_half hl hc ha hb
  have h2 := cross_half hl hc hb ha
  rw [cross_neg] at h2
  omega

theorem room_roomy {n : Nat} {u : Nat → U4} {l c : Int} (hS : ∀ i, i < n → (0 ≤ (u i).l ∧ (u i).l ≤ 1000) ∧ (0 ≤ (u i).c ∧ (u i).c ≤ 1000)) (i : Nat) : Roomy l c (roomF n u l c i) := by
  unfold roomF Roomy
  split
  · rename_i h
    have := hS i h
    exact .inl ⟨by simp only; omega, by simp only; omega⟩
  · split
    · exact .inr (.inl rfl)
    · exact .inr (.inr rfl)

theorem tdiv_abs (a b : Int) (B : Nat) (h : -(B : Int) ≤ a ∧ a ≤ B) : -(B : Int) ≤ a.tdiv b ∧ a.tdiv b ≤ B := by
  have h1 : (a.tdiv b).natAbs ≤ B := by
    rw [Int.natAbs_tdiv]
    exact Nat.le_trans (Nat.div_le_self _ _) (by omega)
  omega

theorem even_million {l c : Int} (hl : 0 ≤ l ∧ l ≤ 1000) (hc : 0 ≤ c ∧ c ≤ 1000) {x y z : Int × Int} (hx : Roomy l c x) (hy : Roomy l c y) (hz : Roomy l c z) (j : Nat) : -1000000 ≤ evenF x y z j ∧ evenF x y z j ≤ 1000000 := by
  have h : -1000000 ≤ leftF x y z j ∧ leftF x y z j ≤ 1000000 := by
    match j with
    | 0 => exact cross_million hl hc hy hz
    | 1 => exact cross_million hl hc hz hx
    | _ + 2 => exact cross_million hl hc hx hy
  exact tdiv_abs _ _ 1000000 h

theorem put_cases (n : Nat) (f : Nat → Int) (x : Nat) (v : Int) (i : Nat) : putP n f x v i = f i ∨ (putP n f x v i = v ∧ i = x ∧ x < n) := by
  by_cases h1 : x < n
  · by_cases h2 : i = x
    · exact .inr ⟨by simp [putP, upd, h1, h2], h2, h1⟩
    · exact .inl (by simp [putP, upd, h1, h2])
  · exact .inl (by simp [putP, h1])

theorem mix_cases (n : Nat) (r : Nat → Int × Int) (t : Tri) (i : Nat) : ∀ k, mixAt n r t k i = 0 ∨ ∃ j, j < k ∧ mixAt n r t k i = partsOf r t j ∧ i < n
  | 0 => .inl rfl
  | k + 1 => by
    simp only [mixAt]
    rcases put_cases n (mixAt n r t k) (triAt t k) (partsOf r t k) i with h | ⟨h, h1, h2⟩
    · rw [h]
      rcases mix_cases n r t i k with h | ⟨j, hj, h, hi⟩
      · exact .inl h
      · exact .inr ⟨j, by omega, h, hi⟩
    · exact .inr ⟨k, by omega, h, by omega⟩

theorem corn_ok {n : Nat} {r : Nat → Int × Int} {t : Tri} (hr : ∀ j, -1000000 ≤ partsOf r t j ∧ partsOf r t j ≤ 1000000) (hb : cornB n r t = true) :
    (∀ i, 0 ≤ mixOf n r t i ∧ mixOf n r t i ≤ 1000000) ∧ (∀ i, n ≤ i → mixOf n r t i = 0) ∧ 0 < sumF (mixOf n r t) n := by
  simp only [cornB, Bool.and_eq_true, decide_eq_true_eq, Bool.not_eq_true'] at hb
  obtain ⟨hp, hz⟩ := hb
  have h0 : ∀ i, 0 ≤ mixOf n r t i ∧ mixOf n r t i ≤ 1000000 := fun i => by
    rcases mix_cases n r t i 3 with h | ⟨j, hj, h, _⟩
    · unfold mixOf; rw [h]; omega
    · unfold mixOf
      rw [h]
      have h1 := hr j
      match j, hj with
      | 0, _ => omega
      | 1, _ => omega
      | 2, _ => omega
  have h1 : ∀ i, n ≤ i → mixOf n r t i = 0 := fun i hi => by
    rcases mix_cases n r t i 3 with h | ⟨j, hj, h, hlt⟩
    · exact h
    · omega
  refine ⟨h0, h1, ?_⟩
  have h2 := sumF_nn (mixOf n r t) 1000000 n fun i _ => h0 i
  by_cases h3 : sumF (mixOf n r t) n = 0
  · have h4 := sumF_zero n (fun i _ => (h0 i).1) h3
    have h5 : ∀ i, mixOf n r t i = 0 := fun i => by
      by_cases h : i < n
      · exact h4 i h
      · exact h1 i (by omega)
    simp [zero6, h5] at hz
  · omega

/-- What every corner of a pot is. -/
def GoodMix (n : Nat) (f : Nat → Int) : Prop := (∀ i, 0 ≤ f i ∧ f i ≤ 1000000) ∧ (∀ i, n ≤ i → f i = 0) ∧ 0 < sumF f n

theorem corn_good {n : Nat} {u : Nat → U4} {l c : Int} (hl : 0 ≤ l ∧ l ≤ 1000) (hc : 0 ≤ c ∧ c ≤ 1000) (hS : ∀ i, i < n → (0 ≤ (u i).l ∧ (u i).l ≤ 1000) ∧ (0 ≤ (u i).c ∧ (u i).c ≤ 1000)) :
    ∀ f ∈ cornL n (roomF n u l c), GoodMix n f := fun f hf => by
  unfold cornL at hf
  rw [List.mem_map] at hf
  obtain ⟨t, ht, rfl⟩ := hf
  rw [List.mem_filter] at ht
  exact corn_ok (fun j => even_million hl hc (room_roomy hS _) (room_roomy hS _) (room_roomy hS _) j) ht.2

end Go.Proofs.YtehafggcncbnkaaGreat

namespace Go.Proofs.YtehafggcncbnkaaGreat
open Go Go.RowKit Go.Shelf
attribute [local go_sem] Oper.semAt_some

/-- The first one of a list than which none is better. -/
def bestStep {α : Type} (lt : α → α → Bool) (o : Option α) (x : α) : Option α := match o with
  | none => some x
  | some y => if lt x y then some x else some y
def bestS {α : Type} (lt : α → α → Bool) (l : List α) : Option α := l.foldl (bestStep lt) none

theorem bestS_take {α : Type} (lt : α → α → Bool) {l : List α} {k : Nat} (h : k < l.length) : bestS lt (l.take (k + 1)) = bestStep lt (bestS lt (l.take k)) l[k] := by
  unfold bestS
  rw [List.take_succ_eq_append_getElem h, List.foldl_append]
  rfl

theorem bestS_mem {α : Type} (lt : α → α → Bool) : ∀ (l : List α) (o : Option α) (y : α), l.foldl (bestStep lt) o = some y → o = some y ∨ y ∈ l
  | [], o, y, h => .inl h
  | x :: l, o, y, h => by
    rcases bestS_mem lt l _ y h with h | h
    · cases o with
      | none => simp only [bestStep, Option.some.injEq] at h; exact .inr (by simp [h])
      | some z =>
        simp only [bestStep] at h
        split at h
        · simp only [Option.some.injEq] at h; exact .inr (by simp [h])
        · exact .inl h
    · exact .inr (by simp [h])

theorem bestS_in {α : Type} {lt : α → α → Bool} {l : List α} {k : Nat} {y : α} (h : bestS lt (l.take k) = some y) : y ∈ l := by
  rcases bestS_mem lt _ _ _ h with h | h
  · cases h
  · exact List.mem_of_mem_take h

theorem mrow {w : World} {b : Nat} {f : Nat → Int} {T : TypeId} (h : RowIs w b (mixRow f) T) :
    (w.cell? ⟨b, 0, none⟩ = some (.int .i64 (f 0)) ∧ w.cell? ⟨b, 1, none⟩ = some (.int .i64 (f 1)) ∧ w.cell? ⟨b, 2, none⟩ = some (.int .i64 (f 2)) ∧ w.cell? ⟨b, 3, none⟩ = some (.int .i64 (f 3)) ∧ w.cell? ⟨b, 4, none⟩ = some (.int .i64 (f 4)) ∧ w.cell? ⟨b, 5, none⟩ = some (.int .i64 (f 5)) ∧ b < w.heap.size) ∧
    (w.frozen? ⟨b, 0, none⟩ = false ∧ w.frozen? ⟨b, 1, none⟩ = false ∧ w.frozen? ⟨b, 2, none⟩ = false ∧ w.frozen? ⟨b, 3, none⟩ = false ∧ w.frozen? ⟨b, 4, none⟩ = false ∧ w.frozen? ⟨b, 5, none⟩ = false) :=
  ⟨⟨h.cell 0, h.cell 1, h.cell 2, h.cell 3, h.cell 4, h.cell 5, (Array.getElem?_eq_some_iff.1 h).1⟩, h.frozen 0, h.frozen 1, h.frozen 2, h.frozen 3, h.frozen 4, h.frozen 5⟩

/-- Six cells are written. -/
def put6 (w : World) (b : Nat) (f : Nat → Int) : World :=
  (((((w.setCell ⟨b, 0, none⟩ (.int .i64 (f 0))).setCell ⟨b, 1, none⟩ (.int .i64 (f 1))).setCell ⟨b, 2, none⟩ (.int .i64 (f 2))).setCell ⟨b, 3, none⟩ (.int .i64 (f 3))).setCell ⟨b, 4, none⟩ (.int .i64 (f 4))).setCell ⟨b, 5, none⟩ (.int .i64 (f 5))

theorem put6_row {w : World} {b : Nat} {g : Nat → Int} {T : TypeId} (h : RowIs w b (mixRow g) T) (f : Nat → Int) : RowIs (put6 w b f) b (mixRow f) T := by
  have := (((((h.set 0 (.int .i64 (f 0))).set 1 (.int .i64 (f 1))).set 2 (.int .i64 (f 2))).set 3 (.int .i64 (f 3))).set 4 (.int .i64 (f 4))).set 5 (.int .i64 (f 5))
  simpa [put6, mixRow] using this

theorem put6_below {w : World} {b B : Nat} (h : B ≤ b) (f : Nat → Int) : Below B w (put6 w b f) :=
  ((((((Below.refl B w).setCell (p := ⟨b, 0, none⟩) h _).setCell (p := ⟨b, 1, none⟩) h _).setCell (p := ⟨b, 2, none⟩) h _).setCell (p := ⟨b, 3, none⟩) h _).setCell (p := ⟨b, 4, none⟩) h _).setCell (p := ⟨b, 5, none⟩) h _

theorem put6_other {w : World} {b k : Nat} (h : k ≠ b) (f : Nat → Int) : (put6 w b f).heap[k]? = w.heap[k]? := by
  unfold put6
  rw [Below.heap_setCell _ _ _ _ h, Below.heap_setCell _ _ _ _ h, Below.heap_setCell _ _ _ _ h, Below.heap_setCell _ _ _ _ h, Below.heap_setCell _ _ _ _ h, Below.heap_setCell _ _ _ _ h]

def zeroMix (_ : Nat) : Int := 0
def bestMix (lt : (Nat → Int) → (Nat → Int) → Bool) (l : List (Nat → Int)) : Nat → Int := (bestS lt l).getD zeroMix

set_option maxRecDepth 100000 in
set_option maxHeartbeats 4000000 in
theorem bestMix_c (gf : Nat) (gfirst glb : Array Value) (K : Nat → Prop) (L : List (Nat → Int)) (bf : Nat) (bfirst blb : Array Value) (lt : (Nat → Int) → (Nat → Int) → Bool) (w : World)
    (hG : Gives Tryz.prog gf gfirst glb K (L.map fun f => #[mixV f]) w) (hK : ∀ k, K k → k < w.heap.size) (eg : ∀ args w, (callFunc gf args).run Tryz.prog w = .ok (.enter gf args) w) (eb : ∀ args w, (callFunc bf args).run Tryz.prog w = .ok (.enter bf args) w)
    (hbt : ∀ W, Below w.heap.size w W → ∀ f ∈ L, ∀ g ∈ L, Calls Tryz.prog bf (bfirst ++ #[mixV f, mixV g] ++ blb) W fun e w' => e = .returned (.bool (lt f g)) ∧ Below W.heap.size W w') :
    Calls Tryz.prog 71 #[.func (.func gf) gfirst glb, .func (.func bf) bfirst blb] w fun e w' => e = .returned (.tuple #[mixV (bestMix lt L), .bool (bestS lt L).isSome]) ∧ Below w.heap.size w w' := by
  obtain ⟨W, hW⟩ : ∃ W, (((w.alloc (.cells #[.func (.func bf) bfirst blb] 111)).alloc (.cells #[.int .i64 0, .int .i64 0, .int .i64 0, .int .i64 0, .int .i64 0, .int .i64 0] 88)).alloc (.cells #[.int .i64 0, .int .i64 0, .int .i64 0, .int .i64 0, .int .i64 0, .int .i64 0] 88)).alloc (.cells #[.bool false] 4) = W := ⟨_, rfl⟩
  have hB0 : Below w.heap.size w W := by rw [← hW]; exact Below.alloc1 (Below.alloc1 (Below.alloc1 (Below.alloc1 (Below.refl _ _) _ (Nat.le_refl _)) _ (Nat.le_refl _)) _ (Nat.le_refl _)) _ (Nat.le_refl _)
  have h3 : RowIs W w.heap.size #[.func (.func bf) bfirst blb] 111 := by rw [← hW]; exact RowIs.alloc (RowIs.alloc (RowIs.alloc (heap_new_at _ _ _ rfl) _) _) _
  have h4 : RowIs W (w.heap.size + 1) (mixRow zeroMix) 88 := by rw [← hW]; exact RowIs.alloc (RowIs.alloc (heap_new_at _ _ _ (by simp)) _) _
  have h6 : RowIs W (w.heap.size + 2) (mixRow zeroMix) 88 := by rw [← hW]; exact RowIs.alloc (heap_new_at _ _ _ (by simp)) _
  have h7 : RowIs W (w.heap.size + 3) #[.bool false] 4 := by rw [← hW]; exact heap_new_at _ _ _ (by simp)
  have hzW : W.heap.size = w.heap.size + 4 := by rw [← hW]; simp
  have c7 : W.cell? ⟨w.heap.size + 3, 0, none⟩ = some (.bool false) := h7.cell 0
  have z7 := h7.frozen 0
  have zz7 : w.heap.size + 3 < W.heap.size := by omega
  have H3 := Lib.hid h3
  have H4 := Lib.hid h4
  have H6 := Lib.hid h6
  have H7 := Lib.hid h7
  have HzW := Lib.hid hzW
  have HB0 := Lib.hid hB0
  have HG := Lib.hid hG
  have HK := Lib.hid hK
  have Hbt := Lib.hid hbt
  clear h3 h4 h6 h7 hzW hB0 hG hK hbt
  refine (callsIn_wide (n := 1)).1 ?_
  refine callsIn_of_wp_marks Tryz.func71 rfl trivial ?_ rfl
  simp only [Tryz.ntmps71, List.size_toArray, List.length_cons, List.length_nil, Nat.reduceAdd, Nat.reduceSub, Array.replicate_succ, Array.replicate_zero, List.push_toArray, List.append_toArray, List.nil_append, List.cons_append]
  gi_wp2_with fail
  obtain ⟨W2, hW2⟩ : ∃ W2, W.setCell ⟨w.heap.size + 3, 0, none⟩ (.bool false) = W2 := ⟨_, rfl⟩
  have hb2 : Below (w.heap.size + 3) W W2 := by rw [← hW2]; exact (Below.refl _ _).setCell (p := ⟨w.heap.size + 3, 0, none⟩) (Nat.le_refl _) _
  have hf2 : RowIs W2 (w.heap.size + 3) #[.bool false] 4 := by rw [← hW2]; exact H7.out.set 0 (.bool false)
  have hzW2 : W2.heap.size = w.heap.size + 4 := by rw [← hW2]; simp [World.setCell, HzW.out]
  have hB2 : Below w.heap.size w W2 := HB0.out.trans (hb2.mono (by omega))
  have h32 := (hb2.block w.heap.size (by omega)).trans H3.out
  have h42 := (hb2.block (w.heap.size + 1) (by omega)).trans H4.out
  have h62 := (hb2.block (w.heap.size + 2) (by omega)).trans H6.out
  have hG2 := HG.out.later HK.out hB2.size fun k hk => hB2.block k (HK.out k hk)
  rw [hW2]
  clear hW2 hW c7 z7
  have hL : ∀ k (hk : k < (L.map fun f => #[mixV f]).length), (L.map fun f => #[mixV f])[k] = #[mixV (L.getD k zeroMix)] := fun k hk => by
    have hk' : k < L.length := by simpa using hk
    simp [List.getD, hk']
  refine wpIn_rangeL (gf := gf) (first := gfirst) (lb := glb) rfl eg hG2 (fun k hk => Nat.lt_of_lt_of_le (HK.out k hk) hB2.size) (fun k hk => by rw [hL k hk]; rfl)
    (fun k A => Below w.heap.size w A ∧ RowIs A w.heap.size #[.func (.func bf) bfirst blb] 111 ∧ RowIs A (w.heap.size + 1) (mixRow zeroMix) 88 ∧
      RowIs A (w.heap.size + 2) (mixRow ((bestS lt (L.take k)).getD zeroMix)) 88 ∧ RowIs A (w.heap.size + 3) #[.bool (bestS lt (L.take k)).isSome] 4)
    (fun _ _ _ => False)
    (fun k A B hA hAB => ⟨hA.1.trans (hAB.mono (by omega)), (hAB.block _ (by omega)).trans hA.2.1, (hAB.block _ (by omega)).trans hA.2.2.1, (hAB.block _ (by omega)).trans hA.2.2.2.1, (hAB.block _ (by omega)).trans hA.2.2.2.2⟩)
    (fun _ _ _ _ h _ => h)
    ⟨hB2, h32, h42, h62, hf2⟩
    (fun k a' A => ∃ Bx, w.heap.size + 6 ≤ Bx ∧ RowIs A Bx (mixRow (L.getD k zeroMix)) 88 ∧
      a' = { tmps := #[.func (.func gf) gfirst glb, .func (.func bf) bfirst blb, undef, .pointer (some ⟨w.heap.size, 0, none⟩), .pointer (some ⟨w.heap.size + 1, 0, none⟩), .bool false, .pointer (some ⟨w.heap.size + 1 + 1, 0, none⟩), .pointer (some ⟨w.heap.size + 1 + 1 + 1, 0, none⟩), .pointer (some ⟨Bx, 0, none⟩), .func (.func gf) gfirst glb, mixV (L.getD k zeroMix), undef, undef, undef, undef, undef, undef, undef, undef, undef, undef, undef], defers := [] })
    (fun k a' A o hA => by
      obtain ⟨Bx, h1, h2, h3⟩ := hA
      exact ⟨Bx, h1, (World.putObj_heap_other (by omega)).trans h2, h3⟩)
    ?assign ?body ?done ?stop
  case assign =>
    intro lx k hk A T hA hI hT
    rw [hL k hk]
    obtain ⟨x, hx⟩ : ∃ x, L.getD k zeroMix = x := ⟨_, rfl⟩
    rw [hx] at hT ⊢
    clear hL
    gi_wp2
    exact hT _ _ (Below.alloc1 (Below.refl _ _) _ (Nat.le_refl _)) ⟨A.heap.size, by omega, heap_new_at _ _ _ rfl, rfl⟩
  case body =>
    rintro lx k hk a' A hA ⟨g1, g2, g3, g4, g5⟩ ⟨Bx, hBx, hx, rfl⟩
    have hk' : k < L.length := by simpa using hk
    have hxe : L.getD k zeroMix = L[k] := by simp [List.getD, hk']
    obtain ⟨x, hxx⟩ : ∃ x, L[k] = x := ⟨_, rfl⟩
    have hst := bestS_take lt hk'
    rw [hxx] at hxe hst
    rw [hxe] at hx ⊢
    have hxm : x ∈ L := by rw [← hxx]; exact List.getElem_mem hk'
    have f0 : A.cell? ⟨w.heap.size + 3, 0, none⟩ = some (.bool (bestS lt (L.take k)).isSome) := g5.cell 0
    have f1 := g5.frozen 0
    have b0 : A.cell? ⟨w.heap.size, 0, none⟩ = some (.func (.func bf) bfirst blb) := g2.cell 0
    have z3 : w.heap.size + 3 < A.heap.size := by omega
    have z0 : w.heap.size < A.heap.size := by omega
    obtain ⟨⟨x0, x1, x2, x3, x4, x5, xz⟩, _⟩ := mrow hx
    obtain ⟨⟨k0, k1, k2, k3, k4, k5, kz⟩, l0, l1, l2, l3, l4, l5⟩ := mrow g4
    have hfin : ∀ (A' : World) (f : Bool), Below A.heap.size A A' → RowIs A' (w.heap.size + 3) #[.bool f] 4 → ∀ a, bestS lt (L.take (k + 1)) = some x → roundQ K W2.heap.size (fun k A => Below w.heap.size w A ∧ RowIs A w.heap.size #[.func (.func bf) bfirst blb] 111 ∧ RowIs A (w.heap.size + 1) (mixRow zeroMix) 88 ∧
        RowIs A (w.heap.size + 2) (mixRow ((bestS lt (L.take k)).getD zeroMix)) 88 ∧ RowIs A (w.heap.size + 3) #[.bool (bestS lt (L.take k)).isSome] 4) (fun _ _ _ => False) k A .normal a ((put6 A' (w.heap.size + 2) x).setCell ⟨w.heap.size + 3, 0, none⟩ (.bool true)) := by
      intro A' f hA' hr a hs
      have hb : Below (w.heap.size + 2) A ((put6 A' (w.heap.size + 2) x).setCell ⟨w.heap.size + 3, 0, none⟩ (.bool true)) := ((hA'.mono (by omega)).trans (put6_below (Nat.le_refl _) x)).setCell (p := ⟨w.heap.size + 3, 0, none⟩) (Nat.le_succ _) _
      have hsame : ∀ i, i < A.heap.size → i ≠ w.heap.size + 2 → i ≠ w.heap.size + 3 → ((put6 A' (w.heap.size + 2) x).setCell ⟨w.heap.size + 3, 0, none⟩ (.bool true)).heap[i]? = A.heap[i]? := fun i h1 h2 h3 => by
        rw [Below.heap_setCell _ _ _ _ h3, put6_other h2]
        exact hA'.block i h1
      refine ⟨⟨hb.size, fun i h1 h2 => hsame i h1 ?_ ?_⟩, g1.trans (hb.mono (by omega)), (hsame _ (by omega) (by omega) (by omega)).trans g2, (hsame _ (by omega) (by omega) (by omega)).trans g3, ?_, ?_⟩
      · rcases h2 with h2 | h2
        · have := HK.out i h2; omega
        · omega
      · rcases h2 with h2 | h2
        · have := HK.out i h2; omega
        · omega
      · rw [hs]
        exact (Below.heap_setCell _ _ _ _ (by simp)).trans (put6_row ((hA'.block _ (by omega)).trans g4) x)
      · rw [hs]
        exact RowIs.set (w := put6 A' (w.heap.size + 2) x) ((put6_other (by omega) x).trans hr) 0 (.bool true)
    have zBx := xz
    have Hfin := Lib.hid hfin
    have G1 := Lib.hid g1
    have G2 := Lib.hid g2
    have G3 := Lib.hid g3
    have G4 := Lib.hid g4
    have G5 := Lib.hid g5
    have Hst := Lib.hid hst
    have Hx := Lib.hid hx
    have HL := Lib.hid hL
    clear hfin g1 g2 g3 g4 g5 hst hx hL hxe hxx h32 h42 h62 hf2 hb2 hB2 hG2
    cases hb : bestS lt (L.take k) with
    | none =>
      have Hb := Lib.hid hb
      rw [hb] at f0
      clear hb
      have hs : bestS lt (L.take (k + 1)) = some x := by rw [Hst.out, Hb.out]; rfl
      have Hs := Lib.hid hs
      clear hs
      gi_wp2_with fail
      refine ⟨fun _ h => (by cases h), ?_⟩
      gi_wp2_with fail
      exact Hfin.out A _ (Below.refl _ _) G5.out _ Hs.out
    | some y =>
      have hym : y ∈ L := bestS_in hb
      have Hb := Lib.hid hb
      rw [hb] at f0 k0 k1 k2 k3 k4 k5
      clear hb
      have hc := Hbt.out A G1.out x hxm y hym
      rw [Array.append_assoc] at hc
      cases hlt : lt x y with
      | true =>
        have hs : bestS lt (L.take (k + 1)) = some x := by rw [Hst.out, Hb.out]; simp [bestStep, hlt]
        rw [hlt] at hc
        have Hs := Lib.hid hs
        have Hc := Lib.hid hc
        clear hc hs hlt
        gi_wp2_with fail
        refine ⟨trivial, ?_⟩
        refine (CallsIn.inRound lx (callsIn_wide.2 Hc.out)).mono ?_
        rintro e A1 ⟨rfl, hb1⟩
        clear x0 x1 x2 x3 x4 x5 xz k0 k1 k2 k3 k4 k5 kz l0 l1 l2 l3 l4 l5 f0 f1 b0 z3 z0
        have hz1 := hb1.size
        have g5 := (hb1.block (w.heap.size + 3) (by omega)).trans G5.out
        obtain ⟨⟨x0, x1, x2, x3, x4, x5, xz⟩, _⟩ := mrow ((hb1.block Bx (by omega)).trans Hx.out)
        obtain ⟨⟨k0, k1, k2, k3, k4, k5, kz⟩, l0, l1, l2, l3, l4, l5⟩ := mrow ((hb1.block (w.heap.size + 2) (by omega)).trans G4.out)
        have f0 : A1.cell? ⟨w.heap.size + 3, 0, none⟩ = some (.bool (bestS lt (L.take k)).isSome) := RowIs.cell g5 0
        have f1 := RowIs.frozen g5 0
        have z3 : w.heap.size + 3 < A1.heap.size := by omega
        have HG5 := Lib.hid g5
        clear g5
        gi_wp2_with fail
        exact Hfin.out A1 _ hb1 HG5.out _ Hs.out
      | false =>
        have hs : bestS lt (L.take (k + 1)) = some y := by rw [Hst.out, Hb.out]; simp [bestStep, hlt]
        rw [hlt] at hc
        have Hs := Lib.hid hs
        have Hc := Lib.hid hc
        clear hc hs hlt
        gi_wp2_with fail
        refine ⟨trivial, ?_⟩
        refine (CallsIn.inRound lx (callsIn_wide.2 Hc.out)).mono ?_
        rintro e A1 ⟨rfl, hb1⟩
        have hz1 := hb1.size
        gi_wp2_with fail
        exact ⟨Spares.of_below hb1, G1.out.trans (hb1.mono (by omega)), (hb1.block _ (by omega)).trans G2.out, (hb1.block _ (by omega)).trans G3.out, by rw [Hs.out, ← Hb.out]; exact (hb1.block _ (by omega)).trans G4.out, by rw [Hs.out]; have := (hb1.block _ (by omega)).trans G5.out; rw [Hb.out] at this; exact this⟩
  case done =>
    rintro B hBz ⟨g1, g2, g3, g4, g5⟩ hK
    have eL : L.take (L.map fun f => #[mixV f]).length = L := by simp
    rw [eL] at g4 g5
    have hf : (bestS lt L).getD zeroMix = bestMix lt L := rfl
    rw [hf] at g4
    have f0 : B.cell? ⟨w.heap.size + 3, 0, none⟩ = some (.bool (bestS lt L).isSome) := g5.cell 0
    have z3 : w.heap.size + 3 < B.heap.size := by omega
    obtain ⟨⟨k0, k1, k2, k3, k4, k5, kz⟩, _⟩ := mrow g4
    obtain ⟨⟨y0, y1, y2, y3, y4, y5, yz⟩, l0, l1, l2, l3, l4, l5⟩ := mrow g3
    have G1 := Lib.hid g1
    have G3 := Lib.hid g3
    have HK' := Lib.hid hK
    clear g1 g2 g3 g4 g5 hK eL hf hL h32 h42 h62 hf2 hb2 hB2 hG2
    dsimp only
    gi_wp2_with fail
    refine (wpIn_wide (n := 1)).2 ?_
    go_region
    gi_wp2_with fail
    obtain ⟨U, hU⟩ : ∃ U, (((((B.setCell ⟨w.heap.size + 1, 0, none⟩ (.int .i64 (bestMix lt L 0))).setCell ⟨w.heap.size + 1, 1, none⟩ (.int .i64 (bestMix lt L 1))).setCell ⟨w.heap.size + 1, 2, none⟩ (.int .i64 (bestMix lt L 2))).setCell ⟨w.heap.size + 1, 3, none⟩ (.int .i64 (bestMix lt L 3))).setCell ⟨w.heap.size + 1, 4, none⟩ (.int .i64 (bestMix lt L 4))).setCell ⟨w.heap.size + 1, 5, none⟩ (.int .i64 (bestMix lt L 5)) = U := ⟨_, rfl⟩
    have hUp : put6 B (w.heap.size + 1) (bestMix lt L) = U := hU
    have hr0 : RowIs U (w.heap.size + 1) (mixRow (bestMix lt L)) 88 := by rw [← hUp]; exact put6_row G3.out _
    have hb0 : Below w.heap.size w U := by rw [← hUp]; exact G1.out.trans (put6_below (Nat.le_succ _) _)
    have hK1 : U.heap[W2.heap.size]? = some (.deferred (some [])) := by rw [← hUp, put6_other (by omega)]; exact HK'.out
    rw [hU]
    clear hU hUp
    have hr1 : RowIs U.drew (w.heap.size + 1) (mixRow (bestMix lt L)) 88 := hr0
    have hb1 : Below w.heap.size w U.drew := hb0.drew
    have hK2 : U.drew.heap[W2.heap.size]? = some (.deferred (some [])) := hK1
    clear hr0 hb0 hK1
    generalize U.drew = U2 at hr1 hb1 hK2 ⊢
    refine ⟨by simp, .inl ⟨_, _, rfl, run_takeDeferred hK2, ?_⟩⟩
    have hr : RowIs (U2.putObj W2.heap.size (.deferred none)) (w.heap.size + 1) (mixRow (bestMix lt L)) 88 := (World.putObj_heap_other (by omega)).trans hr1
    have hb : Below w.heap.size w (U2.putObj W2.heap.size (.deferred none)) := hb1.trans (below_put _ (by omega))
    generalize U2.putObj W2.heap.size (.deferred none) = V at hr hb ⊢
    obtain ⟨⟨q0, q1, q2, q3, q4, q5, _⟩, _⟩ := mrow hr
    exact ⟨.tuple #[mixV (bestMix lt L), .bool (bestS lt L).isSome], by simp [results, Tryz.results71, go_sem, q0, q1, q2, q3, q4, q5], rfl, hb⟩
  case stop =>
    rintro cd k B hBz h hK
    exact h.elim

end Go.Proofs.YtehafggcncbnkaaGreat

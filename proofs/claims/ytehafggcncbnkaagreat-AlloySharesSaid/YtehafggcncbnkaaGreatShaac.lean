/- Contracts of porringerref01: Edges, the mixtures at an edge of what is allowed. Written by tools/edges.py. -/
import Derived.WalkKit
import Derived.Test.YtehafggcncbnkaaGreatProg
import Derived.Test.YtehafggcncbnkaaGreatBasaa
import Derived.Test.YtehafggcncbnkaaGreatBasag
import Derived.Test.YtehafggcncbnkaaGreatBasai
import Derived.Test.YtehafggcncbnkaaGreatBasaf
import Derived.Test.YtehafggcncbnkaaGreatShaaa
import Derived.Test.YtehafggcncbnkaaGreatShaab
import Derived.Test.YtehafggcncbnkaaGreatBasao
import Derived.Test.YtehafggcncbnkaaGreatBasae
import Derived.Test.YtehafggcncbnkaaGreatBasak
import Derived.Test.YtehafggcncbnkaaGreatBasav
namespace Go.Proofs.YtehafggcncbnkaaGreat
open Go Go.RowKit

theorem edgeO_len (s : Bool) (n : Nat) (m : Nat → M5) (l c : Int) : ∀ r, (edgeO s n m l c r).length ≤ r.length
  | [] => Nat.le_refl _
  | o :: r => by
    have := edgeO_len s n m l c r
    have h : (goodO s n m l c o).length ≤ 1 := by
      cases o with
      | none => simp [goodO]
      | some f => simp only [goodO]; split <;> simp
    simp only [edgeO, List.length_append, List.length_cons]
    omega
theorem prod_bd {x y : Int} (hx : -1000 ≤ x ∧ x ≤ 1000) (hy : -1000 ≤ y ∧ y ≤ 1000) : -1000000 ≤ x * y ∧ x * y ≤ 1000000 := by
  have h1 : 0 ≤ (1000 - x) * (1000 + y) := Int.mul_nonneg (by omega) (by omega)
  have h2 : 0 ≤ (1000 + x) * (1000 - y) := Int.mul_nonneg (by omega) (by omega)
  have h3 : 0 ≤ (1000 - x) * (1000 - y) := Int.mul_nonneg (by omega) (by omega)
  have h4 : 0 ≤ (1000 + x) * (1000 + y) := Int.mul_nonneg (by omega) (by omega)
  constructor <;> grind

theorem edgesJ_len (L C : Nat → Int) (i k : Nat) : ∀ j, (edgesJ L C i k j).length = j
  | 0 => rfl
  | j + 1 => by simp [edgesJ, edgesJ_len L C i k j]
theorem edgesK_len (L C : Nat → Int) (i : Nat) : ∀ k, k ≤ 6 → (edgesK L C i k).length ≤ k * 8
  | 0, _ => Nat.le_refl _
  | k + 1, h => by
    have := edgesK_len L C i k (by omega)
    simp only [edgesK, List.length_append, List.length_cons, List.length_nil, edgesJ_len]
    omega
theorem edgesI_len (L C : Nat → Int) : ∀ n, n ≤ 6 → (edgesI L C n).length ≤ n * 49
  | 0, _ => Nat.le_refl _
  | n + 1, h => by
    have h1 := edgesI_len L C n (by omega)
    have h2 := edgesK_len L C n n (by omega)
    simp only [edgesI, List.length_append, List.length_cons, List.length_nil]
    omega

set_option maxRecDepth 100000 in
set_option maxHeartbeats 32000000 in
theorem redges_c (a : Option Addr) (n cap : Nat) (m : Nat → M5) (l c : Int) (s : Bool) (w : World) (hm : Metals w a n m) (hF : Fine n m) (ht : 0 ≤ l ∧ l ≤ 1000 ∧ 0 ≤ c ∧ c ≤ 1000) :
    Calls Tryz.prog 74 #[.slice a n cap, .agg #[.int .i64 l, .int .i64 c], .bool s] w fun e w' => ∃ v B, e = .returned v ∧ EdgesAt w' B n v ((edgeL n m l c s).map some) ∧ Below w.heap.size w w' := by
  obtain ⟨i0, hi, hz0, hz1, hz2⟩ := info_parts infoMixes
  obtain ⟨W, hW⟩ : ∃ W, w.alloc (.cells #[.int .i64 l, .int .i64 c] 24) = W := ⟨_, rfl⟩
  have hB0 : Below w.heap.size w W := by rw [← hW]; exact Below.alloc1 (Below.refl _ _) _ (Nat.le_refl _)
  have HT := Lib.hid (show RowIs W w.heap.size #[.int .i64 l, .int .i64 c] 24 by rw [← hW]; exact heap_new_at _ _ _ rfl)
  obtain ⟨bt, hbt⟩ : ∃ bt, w.heap.size = bt := ⟨_, rfl⟩
  rw [hbt] at HT
  have HM := Lib.hid (hm.below hB0)
  have HB0 := Lib.hid hB0
  have hn1 := hF.1
  have hn6 := hF.2.1
  obtain ⟨L, hL⟩ : ∃ L : Nat → Int, (fun i => spL s l (m i)) = L := ⟨_, rfl⟩
  obtain ⟨C, hC⟩ : ∃ C : Nat → Int, (fun i => spC s c (m i)) = C := ⟨_, rfl⟩
  have eA : edgesA n m l c s = edgesI L C n := by unfold edgesA; rw [hL, hC]
  have hSp : Spare L C n := by rw [← hL, ← hC]; exact spare_fine hF ht s
  have sl : ∀ i, spareR l c s false (m i) = L i := fun i => by rw [← hL]; rfl
  have sc : ∀ i, spareR l c s true (m i) = C i := fun i => by rw [← hC]; rfl
  have KL := Lib.hid (fun (i : Nat) (hi : i < n) (x : World) => by
    have h := rspare_c (m i) l c s false x ht (bad_bd hF s i hi) (good_bd hF s i hi)
    rw [sl i] at h
    exact h)
  have KC := Lib.hid (fun (i : Nat) (hi : i < n) (x : World) => by
    have h := rspare_c (m i) l c s true x ht (bad_bd hF s i hi) (good_bd hF s i hi)
    rw [sc i] at h
    exact h)
  have HF := Lib.hid hF
  have HSp := Lib.hid hSp
  have EA := Lib.hid eA
  have Ht := Lib.hid ht
  clear hm hF hL hC sl sc hSp eA hB0 ht
  go_enter Tryz.func74, Tryz.ntmps74
  go_wp2
  clear hW hbt
  go_loopw [8, 9] (fun v i wr => ∃ k, k ≤ n ∧ i = .int .i64 (k : Nat) ∧ EdgesAt wr W.heap.size n v (edgesI L C k) ∧ Below W.heap.size W wr) (fun _ i _ => n - (intOf i).toNat)
  case atStart => exact ⟨0, Nat.zero_le _, rfl, EdgesAt.nil _ _ _, Below.refl _ _⟩
  case round =>
    obtain ⟨i, hik, rfl, hE, hB⟩ := hrel
    have HB := Lib.hid hB
    have HE := Lib.hid hE
    clear hE
    by_cases hlt : i < n
    ·
      obtain ⟨Y, hY⟩ : ∃ Y, (wr.alloc (.cells #[.int .i64 (i : Nat)] 3)).alloc (.cells #[.int .i64 1] 2) = Y := ⟨_, rfl⟩
      have hbY : Below wr.heap.size wr Y := by rw [← hY]; exact (Below.alloc1 (Below.alloc1 (Below.refl _ _) _ (Nat.le_refl _)) _ (Nat.le_refl _))
      have rY0 : RowIs Y (wr.heap.size) #[.int .i64 (i : Nat)] 3 := by rw [← hY]; exact RowIs.alloc (heap_new_at _ _ _ rfl) _
      have rY1 : RowIs Y (wr.heap.size + 1) #[.int .i64 1] 2 := by rw [← hY]; exact heap_new_at _ _ _ (by simp)
      have i1HP := ints_lit1 (f := fun t => ((pick3 i i i t : Nat) : Int)) rY0 rfl
      have i2HP := ints_lit1 (f := pick3 1 1 1) rY1 rfl
      have HP := Lib.hid (rput_c n 1 1 1 (some ⟨wr.heap.size, 0, none⟩) (some ⟨wr.heap.size + 1, 0, none⟩) (pick3 i i i) (pick3 1 1 1) Y i1HP i2HP hn6 (by omega) (fun t _ => by unfold pick3; split <;> omega) (fun t _ => by unfold pick3; split <;> omega))
      clear i1HP i2HP
      have hlen := edgesI_len L C i (by omega)
      obtain ⟨N, hN⟩ : ∃ N, (edgesI L C i).length = N := ⟨_, rfl⟩
      go_wp2_with fail
      clear rY0 rY1
      refine HP.out.mono ?_
      rintro e w1 ⟨u, rfl, hu, hb1⟩
      have hbw1 := bup hbY hb1
      clear hY
      obtain ⟨hs, hown, hin⟩ := EdgesAt.below HE.out hbw1
      obtain ⟨ad, k1, c1, rfl⟩ := hu.form
      have Hu := Lib.hid hu
      have Hin := Lib.hid hin
      have Hown := Lib.hid hown
      have hbws := HB.out.size
      have hbs1 := hbw1.size
      clear hu hin HE
      rw [hN] at hown hlen
      go_wp2_with (at_builtin; refine wpList_append_own _ rfl _ _ 112 rfl W.heap.size 25 i0 (.slice none 0 0) 1 24 Tryz.underlying112 hi hz0 hz1 hz2 rfl (by decide) _ _ hs rfl (hown.alloc _) ⟨w1.heap.size, 0, none⟩ 1 1 [.slice ad k1 c1] rfl rfl (World.news_of_block (cs := #[.slice ad k1 c1]) (t := 25) (fr := (0, 0)) (heap_new_at _ _ _ rfl)) (by simp [Value.oneCell']) (by unfold maxLen; omega) (by omega) (by simp; omega) ?_; intro v' w2 hown2 hgr2 _)
      have hE2 : EdgesAt w2 W.heap.size n v' (edgesI L C i ++ [edge1 i]) := EdgesAt.snoc (hs := hs) (w := w1.alloc (.cells #[.slice ad k1 c1] 25)) (Hown.out.alloc _) (fun t ht => by
        obtain ⟨x, hx, hp⟩ := Hin.out t ht
        exact ⟨x, hx, hp.below (Below.alloc1 (Below.refl _ _) _ (Nat.le_refl _))⟩) (Hu.out.below (Below.alloc1 (Below.refl _ _) _ (Nat.le_refl _))) (by rw [hN]; exact hown2) hgr2
      have hB2 : Below W.heap.size W w2 := (Below.alloc1 (bup HB.out hbw1) _ (Nat.le_refl _)).grown hgr2 (by simp; omega) (fun j h => (hown.lt j h).1)
      have HE2 := Lib.hid hE2
      have HB2 := Lib.hid hB2
      clear hown hown2 hgr2 hE2 hB2 hB hb1 hbY hbw1 Hu Hin Hown HB HP hN hlen
      obtain ⟨bm, om, he_, hbm, -⟩ := Metals.at HM.out i hlt
      cases he_
      obtain ⟨_, _, he_, -, c0, c1, c2, c3, c4⟩ := Metals.at (Metals.below HM.out HB2.out) i hlt
      cases he_
      obtain ⟨tc0, tc1, _, _, tz⟩ := ratrow2 (RowIs.below HT.out HB2.out)
      have KL1 := KL.out i hlt
      have KC1 := KC.out i hlt
      have hbm1 := Nat.lt_of_lt_of_le hbm HB2.out.size
      have KL2 := Lib.hid KL1
      have KC2 := Lib.hid KC1
      clear KL1 KC1
      have hlc := fun (x : Later w2) => later_cell x
      go_wp2
      refine wp_region_later (by kernel_rfl) (by kernel_rfl) ?_
      repeat (go_big_quiet_step ((first | (with_reducible refine calls_later (KL2.out _)) | (with_reducible refine calls_later (KC2.out _)))))
      refine wpQuiet_nil ?_
      clear hlc
      rintro ⟨w3, hw3⟩
      dsimp only
      clear c0 c1 c2 c3 c4 tc0 tc1 tz KL2 KC2
      have HE3 := Lib.hid (EdgesAt.below HE2.out hw3)
      have HB3 := Lib.hid (bup HB2.out hw3)
      clear HE2 HB2 hw3
      have spi := HSp.out i hlt
      go_wp2
      go_loopw [8, 12] (fun v k wr => ∃ j, j ≤ i ∧ k = .int .i64 (j : Nat) ∧ EdgesAt wr W.heap.size n v ((edgesI L C i ++ [edge1 i]) ++ edgesK L C i j) ∧ Below W.heap.size W wr) (fun _ k _ => i - (intOf k).toNat)
      case atStart => exact ⟨0, Nat.zero_le _, rfl, by simpa [edgesK] using HE3.out, HB3.out⟩
      case round =>
        clear HE3 HB3
        obtain ⟨k, hki, rfl, hE, hB⟩ := hrel
        have HB := Lib.hid hB
        have HE := Lib.hid hE
        clear hE hB
        by_cases hlk : k < i
        ·
          have hkn : k < n := by omega
          have spk := HSp.out k hkn
          have hbr := HB.out.size
          obtain ⟨bm, om, he_, hbm, -⟩ := Metals.at HM.out k hkn
          cases he_
          obtain ⟨_, _, he_, -, c0, c1, c2, c3, c4⟩ := Metals.at (Metals.below HM.out HB.out) k hkn
          cases he_
          obtain ⟨tc0, tc1, _, _, tz⟩ := ratrow2 (RowIs.below HT.out HB.out)
          have KL1 := KL.out k hkn
          have KC1 := KC.out k hkn
          have hbm1 := Nat.lt_of_lt_of_le hbm HB.out.size
          have KL2 := Lib.hid KL1
          have KC2 := Lib.hid KC1
          clear KL1 KC1
          have hlc := fun (x : Later wr) => later_cell x
          go_wp2
          refine wp_region_later (by kernel_rfl) (by kernel_rfl) ?_
          repeat (go_big_quiet_step ((first | (with_reducible refine calls_later (KL2.out _)) | (with_reducible refine calls_later (KC2.out _)))))
          refine wpQuiet_nil ?_
          clear hlc
          rintro ⟨x0, hx0⟩
          dsimp only
          clear c0 c1 c2 c3 c4 tc0 tc1 tz KL2 KC2
          have HE1 := Lib.hid (EdgesAt.below HE.out hx0)
          have HB1 := Lib.hid (bup HB.out hx0)
          clear HE HB hx0 hbr
          have hlen := edgesK_len L C i k (by omega)
          have hlen0 := edgesI_len L C i (by omega)
          have hlen1 : ((edgesI L C i ++ [edge1 i]) ++ edgesK L C i k).length ≤ 500 := by simp only [List.length_append, List.length_cons, List.length_nil]; omega
          obtain ⟨N, hN⟩ : ∃ N, ((edgesI L C i ++ [edge1 i]) ++ edgesK L C i k).length = N := ⟨_, rfl⟩
          clear hlen hlen0
          have wn1 : IntKind.i64.wrap (-(L i)) = -(L i) := IntWalk.i64_in _ (by omega)
          have wn2 : IntKind.i64.wrap (-(C i)) = -(C i) := IntWalk.i64_in _ (by omega)
          have Hwn1 := Lib.hid wn1
          have Hwn2 := Lib.hid wn2
          clear wn1 wn2
          obtain ⟨Y, hY⟩ : ∃ Y, (x0.alloc (.cells #[.int .i64 (i : Nat), .int .i64 (k : Nat)] 3)).alloc (.cells #[.int .i64 (L k), .int .i64 (-(L i))] 2) = Y := ⟨_, rfl⟩
          have hbY : Below x0.heap.size x0 Y := by rw [← hY]; exact (Below.alloc1 (Below.alloc1 (Below.refl _ _) _ (Nat.le_refl _)) _ (Nat.le_refl _))
          have rY0 : RowIs Y (x0.heap.size) #[.int .i64 (i : Nat), .int .i64 (k : Nat)] 3 := by rw [← hY]; exact RowIs.alloc (heap_new_at _ _ _ rfl) _
          have rY1 : RowIs Y (x0.heap.size + 1) #[.int .i64 (L k), .int .i64 (-(L i))] 2 := by rw [← hY]; exact heap_new_at _ _ _ (by simp)
          have i1HP := ints_lit2 (f := fun t => ((pick3 i k k t : Nat) : Int)) rY0 rfl rfl
          have i2HP := ints_lit2 (f := pick3 (L k) (-(L i)) (-(L i))) rY1 rfl rfl
          have HP := Lib.hid (rput_c n 2 2 2 (some ⟨x0.heap.size, 0, none⟩) (some ⟨x0.heap.size + 1, 0, none⟩) (pick3 i k k) (pick3 (L k) (-(L i)) (-(L i))) Y i1HP i2HP hn6 (by omega) (fun t _ => by unfold pick3; split <;> omega) (fun t _ => by unfold pick3; split <;> omega))
          clear i1HP i2HP
          have wn1 := Hwn1.out
          go_wp2_with fail
          clear rY0 rY1 wn1
          refine HP.out.mono ?_
          rintro e x1 ⟨u1, rfl, hu1, hbx1⟩
          have hbw1 := bup hbY hbx1
          clear hY hbY hbx1 HP Hwn1
          obtain ⟨Z, hZ⟩ : ∃ Z, (x1.alloc (.cells #[.int .i64 (i : Nat), .int .i64 (k : Nat)] 3)).alloc (.cells #[.int .i64 (C k), .int .i64 (-(C i))] 2) = Z := ⟨_, rfl⟩
          have hbZ : Below x1.heap.size x1 Z := by rw [← hZ]; exact (Below.alloc1 (Below.alloc1 (Below.refl _ _) _ (Nat.le_refl _)) _ (Nat.le_refl _))
          have rZ0 : RowIs Z (x1.heap.size) #[.int .i64 (i : Nat), .int .i64 (k : Nat)] 3 := by rw [← hZ]; exact RowIs.alloc (heap_new_at _ _ _ rfl) _
          have rZ1 : RowIs Z (x1.heap.size + 1) #[.int .i64 (C k), .int .i64 (-(C i))] 2 := by rw [← hZ]; exact heap_new_at _ _ _ (by simp)
          have i1HP := ints_lit2 (f := fun t => ((pick3 i k k t : Nat) : Int)) rZ0 rfl rfl
          have i2HP := ints_lit2 (f := pick3 (C k) (-(C i)) (-(C i))) rZ1 rfl rfl
          have HP := Lib.hid (rput_c n 2 2 2 (some ⟨x1.heap.size, 0, none⟩) (some ⟨x1.heap.size + 1, 0, none⟩) (pick3 i k k) (pick3 (C k) (-(C i)) (-(C i))) Z i1HP i2HP hn6 (by omega) (fun t _ => by unfold pick3; split <;> omega) (fun t _ => by unfold pick3; split <;> omega))
          clear i1HP i2HP
          have Hu1 := Lib.hid (IsPut.below hu1 hbZ)
          have hbw2 := bup hbw1 hbZ
          have wn2 := Hwn2.out
          clear hu1
          go_wp2_with fail
          clear rZ0 rZ1 wn2
          refine HP.out.mono ?_
          rintro e x2 ⟨u2, rfl, hu2, hbx2⟩
          have hbw3 := bup hbw2 hbx2
          have hu1 := IsPut.below Hu1.out hbx2
          clear hZ hbZ hbw1 hbw2 HP Hwn2 Hu1
          obtain ⟨hs, hown, hin⟩ := EdgesAt.below HE1.out hbw3
          obtain ⟨ad1, k1, c1, rfl⟩ := hu1.form
          obtain ⟨ad2, k2, c2, rfl⟩ := hu2.form
          have Hu1 := Lib.hid hu1
          have Hu2 := Lib.hid hu2
          have Hin := Lib.hid hin
          have Hown := Lib.hid hown
          have hbws := HB1.out.size
          have hbs1 := hbw3.size
          clear hu1 hu2 hin HE1 hbx2
          rw [hN] at hown hlen1
          go_wp2_with (at_builtin; refine wpList_append_own _ rfl _ _ 112 rfl W.heap.size 25 i0 (.slice none 0 0) 1 24 Tryz.underlying112 hi hz0 hz1 hz2 rfl (by decide) _ _ hs rfl (hown.alloc _) ⟨x2.heap.size, 0, none⟩ 2 2 [.slice ad1 k1 c1, .slice ad2 k2 c2] rfl rfl (World.news_of_block (cs := #[.slice ad1 k1 c1, .slice ad2 k2 c2]) (t := 25) (fr := (0, 0)) (heap_new_at _ _ _ rfl)) (by simp [Value.oneCell']) (by unfold maxLen; omega) (by omega) (by simp; omega) ?_; intro v' w2 hown2 hgr2 _)
          have hE2 : EdgesAt w2 W.heap.size n v' (((edgesI L C i ++ [edge1 i]) ++ edgesK L C i k) ++ [edge2 i k (L k) (L i), edge2 i k (C k) (C i)]) := EdgesAt.snoc2 (hs := hs) (w := (x2.alloc (.cells #[.slice ad1 k1 c1, .slice ad2 k2 c2] 25))) (Hown.out.alloc _) (fun t ht => by
            obtain ⟨x, hx, hp⟩ := Hin.out t ht
            exact ⟨x, hx, hp.below (Below.alloc1 (Below.refl _ _) _ (Nat.le_refl _))⟩) (Hu1.out.below (Below.alloc1 (Below.refl _ _) _ (Nat.le_refl _))) (Hu2.out.below (Below.alloc1 (Below.refl _ _) _ (Nat.le_refl _))) (by rw [hN]; exact hown2) hgr2
          have hB2 : Below W.heap.size W w2 := (Below.alloc1 (bup HB1.out hbw3) _ (Nat.le_refl _)).grown hgr2 (by simp; omega) (fun j h => (hown.lt j h).1)
          have HE2 := Lib.hid hE2
          have HB2 := Lib.hid hB2
          clear hown hown2 hgr2 hE2 hB2 hbw3 Hu1 Hu2 Hin Hown HB1 hN hlen1 hbws hbs1
          go_wp2
          go_loopw [8, 15] (fun v i3 wr => ∃ j, j ≤ k ∧ i3 = .int .i64 (j : Nat) ∧ EdgesAt wr W.heap.size n v ((((edgesI L C i ++ [edge1 i]) ++ edgesK L C i k) ++ [edge2 i k (L k) (L i), edge2 i k (C k) (C i)]) ++ edgesJ L C i k j) ∧ Below W.heap.size W wr) (fun _ i3 _ => k - (intOf i3).toNat)
          case atStart => exact ⟨0, Nat.zero_le _, rfl, by simpa [edgesJ] using HE2.out, HB2.out⟩
          case round =>
            clear HE2 HB2
            obtain ⟨j, hjk, rfl, hE, hB⟩ := hrel
            have HB := Lib.hid hB
            have HE := Lib.hid hE
            clear hE hB
            by_cases hlj : j < k
            ·
              have hjn : j < n := by omega
              have spj := HSp.out j hjn
              obtain ⟨bm, om, he_, hbm, -⟩ := Metals.at HM.out j hjn
              cases he_
              obtain ⟨_, _, he_, -, c0, c1, c2, c3, c4⟩ := Metals.at (Metals.below HM.out HB.out) j hjn
              cases he_
              obtain ⟨tc0, tc1, _, _, tz⟩ := ratrow2 (RowIs.below HT.out HB.out)
              have KL1 := KL.out j hjn
              have KC1 := KC.out j hjn
              have hbm1 := Nat.lt_of_lt_of_le hbm HB.out.size
              have KL2 := Lib.hid KL1
              have KC2 := Lib.hid KC1
              clear KL1 KC1
              have hlc := fun (x : Later wr) => later_cell x
              go_wp2
              refine wp_region_later (by kernel_rfl) (by kernel_rfl) ?_
              repeat (go_big_quiet_step ((first | (with_reducible refine calls_later (KL2.out _)) | (with_reducible refine calls_later (KC2.out _)))))
              refine wpQuiet_nil ?_
              clear hlc
              rintro ⟨x0, hx0⟩
              dsimp only
              clear c0 c1 c2 c3 c4 tc0 tc1 tz KL2 KC2
              have HE1 := Lib.hid (EdgesAt.below HE.out hx0)
              have HB1 := Lib.hid (bup HB.out hx0)
              clear HE HB hx0
              have hlen1 : ((((edgesI L C i ++ [edge1 i]) ++ edgesK L C i k) ++ [edge2 i k (L k) (L i), edge2 i k (C k) (C i)]) ++ edgesJ L C i k j).length ≤ 500 := by
                have hlen := edgesK_len L C i k (by omega)
                have hlen0 := edgesI_len L C i (by omega)
                simp only [List.length_append, List.length_cons, List.length_nil, edgesJ_len]
                omega
              obtain ⟨N, hN⟩ : ∃ N, ((((edgesI L C i ++ [edge1 i]) ++ edgesK L C i k) ++ [edge2 i k (L k) (L i), edge2 i k (C k) (C i)]) ++ edgesJ L C i k j).length = N := ⟨_, rfl⟩
              have m1 := prod_bd spk.1 spj.2
              have m2 := prod_bd spk.2 spj.1
              have m3 := prod_bd spj.1 spi.2
              have m4 := prod_bd spj.2 spi.1
              have m5 := prod_bd spi.1 spk.2
              have m6 := prod_bd spi.2 spk.1
              obtain ⟨q1, hq1⟩ : ∃ q, L k * C j = q := ⟨_, rfl⟩
              obtain ⟨q2, hq2⟩ : ∃ q, C k * L j = q := ⟨_, rfl⟩
              obtain ⟨q3, hq3⟩ : ∃ q, L j * C i = q := ⟨_, rfl⟩
              obtain ⟨q4, hq4⟩ : ∃ q, C j * L i = q := ⟨_, rfl⟩
              obtain ⟨q5, hq5⟩ : ∃ q, L i * C k = q := ⟨_, rfl⟩
              obtain ⟨q6, hq6⟩ : ∃ q, C i * L k = q := ⟨_, rfl⟩
              have eJ : edgeJ L C i k j = putR (pick3 i k j) (pick3 (q1 - q2) (q3 - q4) (q5 - q6)) 3 := by unfold edgeJ edge3; rw [hq1, hq2, hq3, hq4, hq5, hq6]
              have EJ := Lib.hid eJ
              rw [hq1] at m1
              rw [hq2] at m2
              rw [hq3] at m3
              rw [hq4] at m4
              rw [hq5] at m5
              rw [hq6] at m6
              clear eJ
              obtain ⟨Y, hY⟩ : ∃ Y, (x0.alloc (.cells #[.int .i64 (i : Nat), .int .i64 (k : Nat), .int .i64 (j : Nat)] 3)).alloc (.cells #[.int .i64 (q1 - q2), .int .i64 (q3 - q4), .int .i64 (q5 - q6)] 2) = Y := ⟨_, rfl⟩
              have hbY : Below x0.heap.size x0 Y := by rw [← hY]; exact (Below.alloc1 (Below.alloc1 (Below.refl _ _) _ (Nat.le_refl _)) _ (Nat.le_refl _))
              have rY0 : RowIs Y (x0.heap.size) #[.int .i64 (i : Nat), .int .i64 (k : Nat), .int .i64 (j : Nat)] 3 := by rw [← hY]; exact RowIs.alloc (heap_new_at _ _ _ rfl) _
              have rY1 : RowIs Y (x0.heap.size + 1) #[.int .i64 (q1 - q2), .int .i64 (q3 - q4), .int .i64 (q5 - q6)] 2 := by rw [← hY]; exact heap_new_at _ _ _ (by simp)
              have i1HP := ints_lit3 (f := fun t => ((pick3 i k j t : Nat) : Int)) rY0 rfl rfl rfl
              have i2HP := ints_lit3 (f := pick3 (q1 - q2) (q3 - q4) (q5 - q6)) rY1 rfl rfl rfl
              have HP := Lib.hid (rput_c n 3 3 3 (some ⟨x0.heap.size, 0, none⟩) (some ⟨x0.heap.size + 1, 0, none⟩) (pick3 i k j) (pick3 (q1 - q2) (q3 - q4) (q5 - q6)) Y i1HP i2HP hn6 (by omega) (fun t _ => by unfold pick3; split <;> omega) (fun t _ => by unfold pick3; split <;> omega))
              clear i1HP i2HP
              go_wp2_with fail
              clear rY0 rY1 hq1 hq2 hq3 hq4 hq5 hq6
              refine HP.out.mono ?_
              rintro e x1 ⟨u1, rfl, hu1, hbx1⟩
              have hbw1 := bup hbY hbx1
              clear hY hbY hbx1 HP
              obtain ⟨hs, hown, hin⟩ := EdgesAt.below HE1.out hbw1
              obtain ⟨ad1, k1, c1, rfl⟩ := hu1.form
              rw [← EJ.out] at hu1
              have Hu1 := Lib.hid hu1
              have Hin := Lib.hid hin
              have Hown := Lib.hid hown
              have hbws := HB1.out.size
              have hbs1 := hbw1.size
              clear hu1 hin HE1
              rw [hN] at hown hlen1
              go_wp2_with (at_builtin; refine wpList_append_own _ rfl _ _ 112 rfl W.heap.size 25 i0 (.slice none 0 0) 1 24 Tryz.underlying112 hi hz0 hz1 hz2 rfl (by decide) _ _ hs rfl (hown.alloc _) ⟨x1.heap.size, 0, none⟩ 1 1 [.slice ad1 k1 c1] rfl rfl (World.news_of_block (cs := #[.slice ad1 k1 c1]) (t := 25) (fr := (0, 0)) (heap_new_at _ _ _ rfl)) (by simp [Value.oneCell']) (by unfold maxLen; omega) (by omega) (by simp; omega) ?_; intro v' w2 hown2 hgr2 _)
              have hE2 : EdgesAt w2 W.heap.size n v' (((((edgesI L C i ++ [edge1 i]) ++ edgesK L C i k) ++ [edge2 i k (L k) (L i), edge2 i k (C k) (C i)]) ++ edgesJ L C i k j) ++ [edgeJ L C i k j]) := EdgesAt.snoc (hs := hs) (w := (x1.alloc (.cells #[.slice ad1 k1 c1] 25))) (Hown.out.alloc _) (fun t ht => by
                obtain ⟨x, hx, hp⟩ := Hin.out t ht
                exact ⟨x, hx, hp.below (Below.alloc1 (Below.refl _ _) _ (Nat.le_refl _))⟩) (Hu1.out.below (Below.alloc1 (Below.refl _ _) _ (Nat.le_refl _))) (by rw [hN]; exact hown2) hgr2
              have hB2 : Below W.heap.size W w2 := (Below.alloc1 (bup HB1.out hbw1) _ (Nat.le_refl _)).grown hgr2 (by simp; omega) (fun j h => (hown.lt j h).1)
              have HE2 := Lib.hid hE2
              have HB2 := Lib.hid hB2
              clear hown hown2 hgr2 hE2 hB2 hbw1 Hu1 Hin Hown HB1 hN hlen1 hbws hbs1 EJ m1 m2 m3 m4 m5 m6
              go_wp2
              go_roundw
              case rel => exact ⟨j + 1, by omega, by go_num, by simpa [edgesJ, List.append_assoc] using HE2.out, HB2.out⟩
              case measure => simp [intOf]; omega
            ·
              obtain rfl : j = k := by omega
              have hE9 := HE.out
              rw [show ((((edgesI L C i ++ [edge1 i]) ++ edgesK L C i j) ++ [edge2 i j (L j) (L i), edge2 i j (C j) (C i)]) ++ edgesJ L C i j j) = (edgesI L C i ++ [edge1 i]) ++ edgesK L C i (j + 1) by simp [edgesK, List.append_assoc]] at hE9
              have HE9 := Lib.hid hE9
              clear hE9 HE
              go_wp2
              go_roundw
              case rel => exact ⟨j + 1, by omega, by go_num, HE9.out, HB.out⟩
              case measure => simp [intOf]; omega
        ·
          obtain rfl : k = i := by omega
          have hE9 : EdgesAt wr W.heap.size n _ (edgesI L C (k + 1)) := HE.out
          have HE9 := Lib.hid hE9
          clear hE9 HE
          go_wp2
          go_roundw
          case rel => exact ⟨k + 1, by omega, by go_num, HE9.out, HB.out⟩
          case measure => simp [intOf]; omega
    ·
      obtain rfl : n = i := by omega
      obtain ⟨W4, hW4⟩ : ∃ W4, W4 = wr := ⟨_, rfl⟩
      subst hW4
      obtain ⟨ad8, c8, he8⟩ := HE.out.form
      subst he8
      have hlenA := edgesI_len L C n (by omega)
      obtain ⟨A, hA⟩ : ∃ A, edgesI L C n = A := ⟨_, rfl⟩
      have HAm := Lib.hid (show ∀ f, some f ∈ A → ∀ x, 0 ≤ f x ∧ f x ≤ 2147483648 from fun f h x => by
        rw [← hA] at h
        have := (edge_good HSp.out (mem_edgesI.1 h)).1 x
        omega)
      have HEL := Lib.hid (show edgeO s n m l c A = edgeL n m l c s by unfold edgeL; rw [EA.out, hA])
      obtain ⟨K, hK⟩ : ∃ K, A.length = K := ⟨_, rfl⟩
      rw [hA] at HE hlenA ⊢
      rw [hK] at HE hlenA ⊢
      have HK := Lib.hid hK
      clear hA hK KL KC HSp EA
      go_wp2
      go_loopw [18, 19] (fun o t wx => ∃ j, j ≤ K ∧ t = .int .i64 (j : Nat) ∧ EdgesAt wx W4.heap.size n o ((edgeO s n m l c (A.take j)).map some) ∧ Below W4.heap.size W4 wx) (fun _ t _ => K - (intOf t).toNat)
      case atStart => exact ⟨0, Nat.zero_le _, rfl, by simpa [edgeO] using EdgesAt.nil _ _ _, Below.refl _ _⟩
      case round =>
        obtain ⟨t, htK, rfl, hO, hB4⟩ := hrel
        have HO := Lib.hid hO
        have HB4 := Lib.hid hB4
        clear hO
        by_cases hlt : t < K
        · obtain ⟨g, c9, u, he_, hg, hBg, hcell, hp⟩ := (EdgesAt.below HE.out HB4.out).at (t := t) (by rw [HK.out]; exact hlt)
          rw [HK.out] at he_
          cases he_
          have htake : A.take (t + 1) = A.take t ++ [A.getD t none] := by
            rw [List.take_add_one]
            simp [List.getD, List.getElem?_eq_getElem (show t < A.length by rw [HK.out]; exact hlt)]
          obtain ⟨o, ho⟩ : ∃ o, A.getD t none = o := ⟨_, rfl⟩
          rw [ho] at hp htake
          have hmem : o ∈ A := by
            rw [← ho]
            simp [List.getD, List.getElem?_eq_getElem (show t < A.length by rw [HK.out]; exact hlt)]
          have Htake := Lib.hid htake
          clear htake ho
          cases o with
          | none =>
            have hu : u = .slice none 0 0 := hp
            subst hu
            have q1 : ((0 : Int) == (n : Int)) = false := by simp; omega
            have q2 : (0 : Int) ≠ (n : Int) := by omega
            have hE9 : edgeO s n m l c (A.take (t + 1)) = edgeO s n m l c (A.take t) := by rw [Htake.out, edgeO_snoc]; simp [goodO]
            have HE9 := Lib.hid hE9
            clear hE9 hp hmem
            go_wp2
            go_quiet (fail)
            go_wp2
            go_roundw
            case rel => exact ⟨t + 1, by omega, by go_num, by rw [HE9.out]; exact EdgesAt.below HO.out (below_drewN (Below.refl _ _) nq), below_drewN HB4.out nq⟩
            case measure => simp [intOf]; omega
          | some f =>
            obtain ⟨b, hu, hr⟩ := hp
            subst hu
            have hfb := HAm.out f hmem
            have KG := Lib.hid (fun (x : World) (hx : Below wr.heap.size wr x) => risGood_c a (some ⟨b, 0, none⟩) n cap n m f l c s x (HM.out.below (bup HB.out (bup HB4.out hx))) (ints_rowZ (RowIs.below hr hx)) HF.out (fun i _ => hfb i) Ht.out)
            have HR := Lib.hid hr
            obtain ⟨tc0, tc1, _, _, tz⟩ := ratrow2 (RowIs.below HT.out (bup HB.out HB4.out))
            clear hfb hmem hr hB4
            cases hgd : goodB s n m l c f
            case false =>
              rw [hgd] at KG
              have hE9 : edgeO s n m l c (A.take (t + 1)) = edgeO s n m l c (A.take t) := by rw [Htake.out, edgeO_snoc]; simp [goodO, hgd]
              have HE9 := Lib.hid hE9
              clear hE9 hgd
              have hlc := fun (x : Later wr) => later_cell x
              go_wp2
              refine wp_region_later (by kernel_rfl) (by kernel_rfl) ?_
              repeat (go_big_quiet_step ((with_reducible refine calls_later (KG.out _ (Later.h _)))))
              refine wpQuiet_nil ?_
              clear hlc
              rintro ⟨x0, hx0⟩
              dsimp only
              clear tc0 tc1 tz KG hcell
              go_wp2
              go_roundw
              case rel => exact ⟨t + 1, by omega, by go_num, by rw [HE9.out]; exact EdgesAt.below HO.out hx0, bup HB4.out hx0⟩
              case measure => simp [intOf]; omega
            case true =>
              rw [hgd] at KG
              have hE9 : edgeO s n m l c (A.take (t + 1)) = edgeO s n m l c (A.take t) ++ [f] := by rw [Htake.out, edgeO_snoc]; simp [goodO, hgd]
              have HE9 := Lib.hid hE9
              have hlen := edgeO_len s n m l c (A.take t)
              rw [List.length_take] at hlen
              clear hE9 hgd
              have hlc := fun (x : Later wr) => later_cell x
              go_wp2
              refine wp_region_later (by kernel_rfl) (by kernel_rfl) ?_
              repeat (go_big_quiet_step ((with_reducible refine calls_later (KG.out _ (Later.h _)))))
              refine wpQuiet_nil ?_
              clear hlc
              rintro ⟨x0, hx0⟩
              dsimp only
              have hcell1 := (hx0.cell (p := ⟨g, t, none⟩) hg).trans hcell
              have hg1 := Nat.lt_of_lt_of_le hg hx0.size
              obtain ⟨hs, hown, hin⟩ := EdgesAt.below HO.out hx0
              have Hin := Lib.hid hin
              have Hown := Lib.hid hown
              have hbws := HB4.out.size
              have hbs1 := hx0.size
              rw [List.length_map] at hown
              obtain ⟨N, hN⟩ : ∃ N, (edgeO s n m l c (A.take t)).length = N := ⟨_, rfl⟩
              rw [hN] at hown hlen
              clear tc0 tc1 tz KG hcell hin
              go_wp2_with (at_builtin; refine wpList_append_own _ rfl _ _ 112 rfl W4.heap.size 25 i0 (.slice none 0 0) 1 24 Tryz.underlying112 hi hz0 hz1 hz2 rfl (by decide) _ _ hs rfl (hown.alloc _) ⟨x0.heap.size, 0, none⟩ 1 1 [.slice (some ⟨b, 0, none⟩) n n] rfl rfl (World.news_of_block (cs := #[.slice (some ⟨b, 0, none⟩) n n]) (t := 25) (fr := (0, 0)) (heap_new_at _ _ _ rfl)) (by simp [Value.oneCell']) (by unfold maxLen; omega) (by omega) (by simp; omega) ?_; intro v' w2 hown2 hgr2 _)
              have hE2 : EdgesAt w2 W4.heap.size n v' ((edgeO s n m l c (A.take t)).map some ++ [some f]) := EdgesAt.snoc (hs := hs) (w := x0.alloc (.cells #[.slice (some ⟨b, 0, none⟩) n n] 25)) (Hown.out.alloc _) (fun t ht => by
                obtain ⟨x, hx, hp⟩ := Hin.out t ht
                exact ⟨x, hx, hp.below (Below.alloc1 (Below.refl _ _) _ (Nat.le_refl _))⟩) ⟨b, rfl, RowIs.below HR.out (bup hx0 (Below.alloc1 (Below.refl _ _) _ (Nat.le_refl _)))⟩ (by rw [List.length_map, hN]; exact hown2) hgr2
              have hB2 : Below W4.heap.size W4 w2 := (Below.alloc1 (bup HB4.out hx0) _ (Nat.le_refl _)).grown hgr2 (by simp; omega) (fun j h => (hown.lt j h).1)
              have HE2 := Lib.hid hE2
              have HB2 := Lib.hid hB2
              clear hown hown2 hgr2 hE2 hB2 Hin Hown hN hlen hcell1 hg1 hbws hbs1
              go_wp2
              go_roundw
              case rel => exact ⟨t + 1, by omega, by go_num, by rw [HE9.out, List.map_append]; exact HE2.out, HB2.out⟩
              case measure => simp [intOf]; omega
        · obtain rfl : t = K := by omega
          have hO9 := HO.out
          rw [← HK.out, List.take_length, HEL.out] at hO9
          have HO9 := Lib.hid hO9
          have HBf := Lib.hid (bup HB0.out (bup HB.out HB4.out))
          clear hO9 hB4
          go_wp2
          go_ret
          exact ⟨_, _, rfl, HO9.out, HBf.out⟩
end Go.Proofs.YtehafggcncbnkaaGreat

namespace Go.Proofs.YtehafggcncbnkaaGreat
open Go Go.RowKit

theorem edgeL_len {n : Nat} (m : Nat → M5) (l c : Int) (s : Bool) (hn : n ≤ 6) : (edgeL n m l c s).length ≤ 294 := by
  have h1 := edgeO_len s n m l c (edgesA n m l c s)
  have h2 := edgesI_len (fun i => spL s l (m i)) (fun i => spC s c (m i)) n hn
  unfold edgeL
  unfold edgesA at *
  omega

theorem edges_nil {w : World} {B n : Nat} {v : Value} (h : EdgesAt w B n v []) : v = .slice none 0 0 ∨ ∃ g c, v = .slice (some ⟨g, 0, none⟩) 0 c := by
  obtain ⟨hs, h1, _⟩ := h
  rcases h1.2 with ⟨hv, h0⟩ | ⟨g, cap, _, hv, _⟩
  · exact .inl hv
  · exact .inr ⟨_, _, hv⟩

set_option maxRecDepth 100000 in
set_option maxHeartbeats 8000000 in
theorem rLeast_c (a : Option Addr) (n cap : Nat) (m : Nat → M5) (l c : Int) (s : Bool) (w : World) (hm : Metals w a n m) (hn : n ≤ 1048576) :
    Calls Tryz.prog 30 #[.slice a n cap, .agg #[.int .i64 l, .int .i64 c], .bool s] w fun e w' => e = .returned (re2 (leastR n m l c s)) ∧ Below w.heap.size w w' := by
  obtain ⟨W, hW⟩ : ∃ W, (w.alloc (.cells #[.int .i64 l, .int .i64 c] 24)).alloc (.cells #[.int .i64 0, .int .i64 0] 29) = W := ⟨_, rfl⟩
  have hB0 : Below w.heap.size w W := by rw [← hW]; exact Below.alloc1 (Below.alloc1 (Below.refl _ _) _ (Nat.le_refl _)) _ (Nat.le_refl _)
  have HT := Lib.hid (show RowIs W w.heap.size #[.int .i64 l, .int .i64 c] 24 by rw [← hW]; exact RowIs.alloc (heap_new_at _ _ _ rfl) _)
  have HR := Lib.hid (show RowIs W (w.heap.size + 1) #[.int .i64 0, .int .i64 0] 29 by rw [← hW]; exact heap_new_at _ _ _ (by simp))
  have hWs : w.heap.size + 1 < W.heap.size := (Array.getElem?_eq_some_iff.1 HR.out).1
  have HM := Lib.hid (hm.below hB0)
  have HB0 := Lib.hid hB0
  obtain ⟨tc0, tc1, _, _, tz⟩ := ratrow2 HT.out
  clear hm hB0
  by_cases h0 : bothE n m l c = 0
  case neg =>
    have h0' : (bothE n m l c != 0) = true := by simp [h0]
    have ev : leastR n m l c s = (0, 0, bothE n m l c) := by unfold leastR; rw [if_pos h0]
    rw [ev]
    have HC := Lib.hid (fun (x : World) (hx : Below W.heap.size W x) => rboth_c a n cap m l c x (HM.out.below hx) (by omega))
    obtain ⟨E, hE⟩ : ∃ E, bothE n m l c = E := ⟨_, rfl⟩
    rw [hE] at HC h0' ⊢
    clear h0 ev hE
    go_enter Tryz.func30, Tryz.ntmps30
    go_wp2_with fail
    refine (HC.out _ (Below.refl _ _)).mono ?_
    rintro e w1 ⟨rfl, hb1⟩
    clear hW
    have HT1 := Lib.hid (RowIs.below HT.out hb1)
    obtain ⟨td0, td1, _, _, tdz⟩ := ratrow2 HT1.out
    go_wp2_with fail
    refine (HC.out _ hb1).mono ?_
    rintro e w2 ⟨rfl, hb2⟩
    have hb12 := bup hb1 hb2
    obtain ⟨r0, r1, z0, z1, rz⟩ := ratrow2 (RowIs.below HR.out hb12)
    clear tc0 tc1 td0 td1
    go_wp2_with fail
    refine bodyPost_ret (v := re2 (0, 0, E)) (by simp [results, Tryz.results30, go_sem, r0, r1]) rfl ⟨rfl, ?_⟩
    exact ((bup HB0.out hb12).setCell (p := ⟨w.heap.size + 1, 0, none⟩) (Nat.le_succ _) _).setCell (p := ⟨w.heap.size + 1, 1, none⟩) (Nat.le_succ _) _
  case pos =>
  obtain ⟨hM, ht⟩ := both_ok h0
  have hF := fine_of hM
  have hn6 := hF.2.1
  have hn1 := hF.1
  have h0' : (bothE n m l c != 0) = false := by simp [h0]
  have HC := Lib.hid (fun (x : World) (hx : Below W.heap.size W x) => rboth_c a n cap m l c x (HM.out.below hx) (by omega))
  have HG := Lib.hid (fun (x : World) (hx : Below W.heap.size W x) => redges_c a n cap m l c s x (HM.out.below hx) hF ht)
  rcases edge_least h0 s with ⟨hnil, hl, _⟩ | ⟨hpos, hl, _⟩
  · rw [hl]
    rw [hnil] at HG
    simp only [List.map_nil] at HG
    obtain ⟨E, hE⟩ : ∃ E, bothE n m l c = E := ⟨_, rfl⟩
    rw [hE] at HC h0'
    clear h0 hE hnil hl
    go_enter Tryz.func30, Tryz.ntmps30
    go_wp2_with fail
    refine (HC.out _ (Below.refl _ _)).mono ?_
    rintro e w1 ⟨rfl, hb1⟩
    clear hW
    obtain ⟨td0, td1, _, _, tdz⟩ := ratrow2 (RowIs.below HT.out hb1)
    clear tc0 tc1
    go_wp2_with fail
    refine (HG.out _ hb1).mono ?_
    rintro e w2 ⟨v, B, rfl, hE, hb2⟩
    have hb12 := bup hb1 hb2
    obtain ⟨r0, r1, z0, z1, rz⟩ := ratrow2 (RowIs.below HR.out hb12)
    clear td0 td1
    rcases edges_nil hE with rfl | ⟨g, cp, rfl⟩
    all_goals
      go_wp2_with fail
      refine bodyPost_ret (v := re2 (0, 0, 17)) (by simp [results, Tryz.results30, go_sem, r0, r1]) rfl ⟨rfl, ?_⟩
      exact ((bup HB0.out hb12).setCell (p := ⟨w.heap.size + 1, 0, none⟩) (Nat.le_succ _) _).setCell (p := ⟨w.heap.size + 1, 1, none⟩) (Nat.le_succ _) _
  · rw [hl]
    obtain ⟨K, hK⟩ : ∃ K, (edgeL n m l c s).length = K := ⟨_, rfl⟩
    obtain ⟨V, hV⟩ : ∃ V, edgeCost n m l c s = V := ⟨_, rfl⟩
    have hT : ∀ i, i < K → Tame (V i) := by rw [← hV, ← hK]; exact edgeCost_tame hF ht
    have HTm := Lib.hid (minV_tame hT (by omega))
    have HTv := Lib.hid hT
    have hKb := edgeL_len m l c s hn6
    rw [hK] at hKb
    obtain ⟨L, hL⟩ : ∃ L, edgeL n m l c s = L := ⟨_, rfl⟩
    have HCost := Lib.hid (fun (i : Nat) (hi : i < K) (b : Nat) (x : World) (hx : Below W.heap.size W x) (hr : RowIs x b (rowZ n (L.getD i fun _ => 0)) 2) => by
      have hp := edge_part hF ht (s := s) (i := i) (by rw [hK]; exact hi)
      have h := rcostOf_c a (some ⟨b, 0, none⟩) n cap n m (edgeF n m l c s i) x (HM.out.below hx) (ints_rowZ (by unfold edgeF; rw [hL]; exact hr)) hF (fun j hj => by have := hp.1 j; omega) hp.2.1
      rw [show ratV (priceF m (edgeF n m l c s i) n) (sumF (edgeF n m l c s i) n) = .agg #[.int .i64 (V i).1, .int .i64 (V i).2] by rw [← hV]] at h
      exact h)
    rw [hL] at hK
    clear hl
    rw [hV, hL, hK]
    rw [hL] at HG hpos
    rw [hK] at hpos
    obtain ⟨E, hE⟩ : ∃ E, bothE n m l c = E := ⟨_, rfl⟩
    rw [hE] at HC h0'
    have HK := Lib.hid hK
    clear h0 hE hT hV hL hK
    go_enter Tryz.func30, Tryz.ntmps30
    go_wp2_with fail
    refine (HC.out _ (Below.refl _ _)).mono ?_
    rintro e w1 ⟨rfl, hb1⟩
    clear hW
    obtain ⟨td0, td1, _, _, tdz⟩ := ratrow2 (RowIs.below HT.out hb1)
    clear tc0 tc1
    go_wp2_with fail
    refine (HG.out _ hb1).mono ?_
    rintro e w2 ⟨v, B, rfl, hE, hb2⟩
    have HB2 := Lib.hid (bup hb1 hb2)
    have HE := Lib.hid hE
    clear td0 td1 hE hb1 hb2
    obtain ⟨g, cp, b0, rfl, hg, hBg, cell0, hr0, hb0⟩ := edges_at HE.out (t := 0) (by rw [HK.out]; exact hpos)
    rw [HK.out] at HE ⊢
    have HC0 := Lib.hid (HCost.out 0 hpos b0 w2 HB2.out hr0)
    have hw2 := HB2.out.size
    clear hr0
    go_wp2_with fail
    refine HC0.out.mono ?_
    rintro e w3 ⟨rfl, hb3⟩
    clear cell0 HC0
    obtain ⟨Yp, hYp⟩ : ∃ Y, w3.alloc (.cells #[.int .i64 0, .int .i64 0] 29) = Y := ⟨_, rfl⟩
    have hyp : Below w3.heap.size w3 Yp := by rw [← hYp]; exact Below.alloc1 (Below.refl _ _) _ (Nat.le_refl _)
    have zp : RowIs Yp w3.heap.size #[.int .i64 0, .int .i64 0] 29 := by rw [← hYp]; exact heap_new_at _ _ _ rfl
    obtain ⟨up0, up1, up2, up3, up4⟩ := ratrow2 zp
    obtain ⟨Zp, hZp⟩ : ∃ Z, (Yp.setCell ⟨w3.heap.size, 0, none⟩ (.int .i64 (V 0).1)).setCell ⟨w3.heap.size, 1, none⟩ (.int .i64 (V 0).2) = Z := ⟨_, rfl⟩
    have hzp : Below w3.heap.size w3 Zp := hyp.trans (by rw [← hZp]; exact ((Below.refl _ Yp).setCell (p := ⟨w3.heap.size, 0, none⟩) (Nat.le_refl _) _).setCell (p := ⟨w3.heap.size, 1, none⟩) (Nat.le_refl _) _)
    have Rp := Lib.hid (show RowIs Zp w3.heap.size #[.int .i64 (V 0).1, .int .i64 (V 0).2] 29 by rw [← hZp]; exact put2_row zp _ _)
    go_wp2_with fail
    clear hYp hyp zp up0 up1 up2 up3 hZp
    have Bp := Lib.hid (bup hb3 hzp)
    have hw3 := hb3.size
    clear hb3 hzp
    obtain ⟨b9, hb9⟩ : ∃ b, w3.heap.size = b := ⟨_, rfl⟩
    rw [hb9] at Rp hw3 ⊢
    clear hb9
    go_loopw [10] (fun i wr => ∃ k, k ≤ K ∧ i = .int .i64 (k : Nat) ∧ RowIs wr b9 #[.int .i64 (minV V k).1, .int .i64 (minV V k).2] 29 ∧ Below w2.heap.size w2 wr) (fun i _ => K - (intOf i).toNat)
    case atStart => exact ⟨0, Nat.zero_le _, rfl, Rp.out, Bp.out⟩
    case round =>
      obtain ⟨k, hkK, rfl, hr9, hB⟩ := hrel
      have HB := Lib.hid hB
      have R9 := Lib.hid hr9
      clear Rp Bp hB hr9
      by_cases hlt : k < K
      · obtain ⟨g', cp', b, he_, hg', -, hcell, hr, hbz⟩ := edges_at (EdgesAt.below HE.out HB.out) (t := k) (by rw [HK.out]; exact hlt)
        rw [HK.out] at he_
        cases he_
        have HCk := HCost.out k hlt b wr (bup HB2.out HB.out) hr
        have hta := HTv.out k hlt
        have htb := HTm.out k (by omega)
        have hs1 := tame_mul hta htb
        have hs2 := tame_mul htb hta
        have EqM := Lib.hid (show minV V (k + 1) = if ltB (V k).1 (V k).2 (minV V k).1 (minV V k).2 then V k else minV V k from rfl)
        obtain ⟨⟨a1, a2⟩, ha⟩ : ∃ a, V k = a := ⟨_, rfl⟩
        obtain ⟨⟨c1, c2⟩, hc⟩ : ∃ a, minV V k = a := ⟨_, rfl⟩
        rw [ha, hc] at EqM hs1 hs2
        rw [hc] at R9
        rw [ha] at HCk
        have HL := Lib.hid (fun (x : World) => rless_c a1 a2 c1 c2 x hs1 hs2)
        have HCk := Lib.hid HCk
        clear ha hc hta htb hs1 hs2 hr
        go_wp2_with fail
        refine HCk.out.mono ?_
        rintro e w4 ⟨rfl, hb4⟩
        clear hcell HCk
        obtain ⟨Yq, hYq⟩ : ∃ Y, w4.alloc (.cells #[.int .i64 0, .int .i64 0] 29) = Y := ⟨_, rfl⟩
        have hyq : Below w4.heap.size w4 Yq := by rw [← hYq]; exact Below.alloc1 (Below.refl _ _) _ (Nat.le_refl _)
        have zq : RowIs Yq w4.heap.size #[.int .i64 0, .int .i64 0] 29 := by rw [← hYq]; exact heap_new_at _ _ _ rfl
        obtain ⟨uq0, uq1, uq2, uq3, uq4⟩ := ratrow2 zq
        obtain ⟨Zq, hZq⟩ : ∃ Z, (Yq.setCell ⟨w4.heap.size, 0, none⟩ (.int .i64 a1)).setCell ⟨w4.heap.size, 1, none⟩ (.int .i64 a2) = Z := ⟨_, rfl⟩
        have hzq : Below w4.heap.size w4 Zq := hyq.trans (by rw [← hZq]; exact ((Below.refl _ Yq).setCell (p := ⟨w4.heap.size, 0, none⟩) (Nat.le_refl _) _).setCell (p := ⟨w4.heap.size, 1, none⟩) (Nat.le_refl _) _)
        have Rq := Lib.hid (show RowIs Zq w4.heap.size #[.int .i64 a1, .int .i64 a2] 29 by rw [← hZq]; exact put2_row zq _ _)
        obtain ⟨va0, va1, va2, va3, va4⟩ := ratrow2 Rq.out
        have R9q := Lib.hid (RowIs.below R9.out (bup hb4 hzq))
        obtain ⟨vb0, vb1, vb2, vb3, vb4⟩ := ratrow2 R9q.out
        go_wp2_with fail
        clear hYq hyq zq uq0 uq1 uq2 uq3 hZq
        have Bq := Lib.hid (bup HB.out (bup hb4 hzq))
        refine (HL.out _).mono ?_
        rintro e w5 ⟨rfl, hb5⟩
        have R9r := Lib.hid (RowIs.below R9q.out hb5)
        have Rqr := Lib.hid (RowIs.below Rq.out hb5)
        have Br := Lib.hid (bup Bq.out hb5)
        clear va0 va1 va2 va3 vb0 vb1 vb2 vb3 hb5 R9q Rq Bq
        obtain ⟨va0, va1, va2, va3, va5⟩ := ratrow2 Rqr.out
        obtain ⟨vb0, vb1, vb2, vb3, vb5⟩ := ratrow2 R9r.out
        cases hq : decide (a1 * c2 < c1 * a2)
        case false =>
          have e1 : minV V (k + 1) = (c1, c2) := by rw [EqM.out]; unfold ltB; rw [hq]; rfl
          have E1 := Lib.hid e1
          clear e1 hq
          go_wp2
          go_roundw
          case rel => exact ⟨k + 1, by omega, by go_num, by rw [E1.out]; exact R9r.out, Br.out⟩
          case measure => simp [intOf]; omega
        case true =>
          have e1 : minV V (k + 1) = (a1, a2) := by rw [EqM.out]; unfold ltB; rw [hq]; rfl
          have E1 := Lib.hid e1
          obtain ⟨Z, hZ⟩ : ∃ Z, (w5.setCell ⟨b9, 0, none⟩ (.int .i64 a1)).setCell ⟨b9, 1, none⟩ (.int .i64 a2) = Z := ⟨_, rfl⟩
          have RZ := Lib.hid (show RowIs Z b9 #[.int .i64 a1, .int .i64 a2] 29 by rw [← hZ]; exact put2_row R9r.out _ _)
          have BZ := Lib.hid (show Below w2.heap.size w2 Z by rw [← hZ]; exact (Br.out.setCell (p := ⟨b9, 0, none⟩) hw3 _).setCell (p := ⟨b9, 1, none⟩) hw3 _)
          clear e1 hq
          go_wp2
          go_roundw
          case rel => exact ⟨k + 1, by omega, by go_num, by rw [E1.out]; exact RZ.out, BZ.out⟩
          case measure => simp [intOf]; omega
      · obtain rfl : k = K := by omega
        obtain ⟨va0, va1, va2, va3, va4⟩ := ratrow2 R9.out
        have hBf := bup HB2.out HB.out
        obtain ⟨r0, r1, z0, z1, rz⟩ := ratrow2 (RowIs.below HR.out hBf)
        have HBf := Lib.hid (bup HB0.out hBf)
        clear hBf
        go_wp2_with fail
        refine bodyPost_ret (v := re2 ((minV V k).1, (minV V k).2, 0)) (by simp [results, Tryz.results30, go_sem, r0, r1]) rfl ⟨rfl, ?_⟩
        exact (HBf.out.setCell (p := ⟨w.heap.size + 1, 0, none⟩) (Nat.le_succ _) _).setCell (p := ⟨w.heap.size + 1, 1, none⟩) (Nat.le_succ _) _

set_option maxRecDepth 100000 in
set_option maxHeartbeats 4000000 in
theorem rNeverError_c (a : Option Addr) (n cap : Nat) (m : Nat → M5) (l c : Int) (s : Bool) (w : World) (hm : Metals w a n m) (hn : n ≤ 1048576) :
    Calls Tryz.prog 39 #[.slice a n cap, .agg #[.int .i64 l, .int .i64 c], .bool s] w fun e w' => e = .returned (.int .i64 (neverE n m l c s)) ∧ Below w.heap.size w w' := by
  obtain ⟨W, hW⟩ : ∃ W, w.alloc (.cells #[.int .i64 l, .int .i64 c] 24) = W := ⟨_, rfl⟩
  have hB0 : Below w.heap.size w W := by rw [← hW]; exact Below.alloc1 (Below.refl _ _) _ (Nat.le_refl _)
  have HT := Lib.hid (show RowIs W w.heap.size #[.int .i64 l, .int .i64 c] 24 by rw [← hW]; exact heap_new_at _ _ _ rfl)
  have HM := Lib.hid (hm.below hB0)
  have HB0 := Lib.hid hB0
  obtain ⟨tc0, tc1, _, _, tz⟩ := ratrow2 HT.out
  clear hm hB0
  have HC := Lib.hid (fun (x : World) (hx : Below W.heap.size W x) => rboth_c a n cap m l c x (HM.out.below hx) (by omega))
  by_cases h0 : bothE n m l c = 0
  case neg =>
    have h0' : (bothE n m l c != 0) = true := by simp [h0]
    have ev : neverE n m l c s = bothE n m l c := by unfold neverE; rw [if_pos h0]
    rw [ev]
    obtain ⟨E, hE⟩ : ∃ E, bothE n m l c = E := ⟨_, rfl⟩
    rw [hE] at HC h0' ⊢
    clear h0 ev hE
    go_enter Tryz.func39, Tryz.ntmps39
    go_wp2_with fail
    refine (HC.out _ (Below.refl _ _)).mono ?_
    rintro e w1 ⟨rfl, hb1⟩
    clear hW
    obtain ⟨td0, td1, _, _, tdz⟩ := ratrow2 (RowIs.below HT.out hb1)
    go_wp2_with fail
    refine (HC.out _ hb1).mono ?_
    rintro e w2 ⟨rfl, hb2⟩
    have HBf := Lib.hid (bup HB0.out (bup hb1 hb2))
    clear tc0 tc1 td0 td1 hb1 hb2
    go_wp2
    go_ret
    exact ⟨rfl, HBf.out⟩
  case pos =>
  obtain ⟨hM, ht⟩ := both_ok h0
  have hF := fine_of hM
  have hn6 := hF.2.1
  have h0' : (bothE n m l c != 0) = false := by simp [h0]
  have HG := Lib.hid (fun (x : World) (hx : Below W.heap.size W x) => redges_c a n cap m l c s x (HM.out.below hx) hF ht)
  have hKb := edgeL_len m l c s hn6
  rcases edge_least h0 s with ⟨hnil, hl, _⟩ | ⟨hpos, _, f, hbs, _⟩
  · have hbn : bestS (cheapB n m s) (potL n m l c s) = none := by
      unfold leastR at hl
      rw [if_neg (by omega)] at hl
      cases e : bestS (cheapB n m s) (potL n m l c s) with
      | none => rfl
      | some f => rw [e] at hl; simp at hl
    have ev : neverE n m l c s = 0 := by unfold neverE; rw [if_neg (by omega), pot_empty hbn]; rfl
    rw [ev]
    rw [hnil] at HG
    simp only [List.map_nil] at HG
    obtain ⟨E, hE⟩ : ∃ E, bothE n m l c = E := ⟨_, rfl⟩
    rw [hE] at HC h0'
    clear h0 hE hnil hl hbn ev hKb
    go_enter Tryz.func39, Tryz.ntmps39
    go_wp2_with fail
    refine (HC.out _ (Below.refl _ _)).mono ?_
    rintro e w1 ⟨rfl, hb1⟩
    clear hW
    obtain ⟨td0, td1, _, _, tdz⟩ := ratrow2 (RowIs.below HT.out hb1)
    clear tc0 tc1
    go_wp2_with fail
    refine (HG.out _ hb1).mono ?_
    rintro e w2 ⟨v, B, rfl, hE, hb2⟩
    have HBf := Lib.hid (bup HB0.out (bup hb1 hb2))
    clear td0 td1 hb1 hb2
    rcases edges_nil hE with rfl | ⟨g, cp, rfl⟩
    all_goals
      clear hE
      go_wp2
      go_ret
      exact ⟨rfl, HBf.out⟩
  · have ev : neverE n m l c s = 5 := by unfold neverE; rw [if_neg (by omega), if_neg (by rw [pot_some hbs]; simp)]
    rw [ev]
    obtain ⟨L, hL⟩ : ∃ L, edgeL n m l c s = L := ⟨_, rfl⟩
    rw [hL] at HG hpos hKb
    obtain ⟨E, hE⟩ : ∃ E, bothE n m l c = E := ⟨_, rfl⟩
    rw [hE] at HC h0'
    clear h0 hE hL hbs ev
    obtain ⟨K, hK⟩ : ∃ K, L.length = K := ⟨_, rfl⟩
    rw [hK] at hpos hKb
    have HK := Lib.hid hK
    clear hK
    go_enter Tryz.func39, Tryz.ntmps39
    go_wp2_with fail
    refine (HC.out _ (Below.refl _ _)).mono ?_
    rintro e w1 ⟨rfl, hb1⟩
    clear hW
    obtain ⟨td0, td1, _, _, tdz⟩ := ratrow2 (RowIs.below HT.out hb1)
    clear tc0 tc1
    go_wp2_with fail
    refine (HG.out _ hb1).mono ?_
    rintro e w2 ⟨v, B, rfl, hE, hb2⟩
    have HBf := Lib.hid (bup HB0.out (bup hb1 hb2))
    obtain ⟨ad, cp, he⟩ := hE.form
    rw [List.length_map, HK.out] at he
    subst he
    have hlt : decide ((0 : Int) < (K : Int)) = true := by simp; omega
    clear td0 td1 hb1 hb2 hE
    go_wp2
    go_ret
    exact ⟨rfl, HBf.out⟩

end Go.Proofs.YtehafggcncbnkaaGreat

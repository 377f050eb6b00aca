/- Contracts of layer 2: right days by numbers. Written by tools/given.py. -/
import Derived.Shelf.Abstract
import Derived.Shelf.RegionOpen
import Derived.Test.YtbjgbgchagfokaaProg
import Derived.Test.YtbjgbgchagfokaaBasaa
import Derived.Test.YtbjgbgchagfokaaBasay
import Derived.Test.YtbjgbgchagfokaaBasau
import Derived.Test.YtbjgbgchagfokaaBasao
import Derived.Test.YtbjgbgchagfokaaBasan
namespace Go.Proofs.Ytbjgbgchagfokaa
open Go Go.RowKit Go.Shelf

/-- Does a number stand in a list before this place. -/
def InD (x : List Nat) (i v : Nat) : Prop := ∃ j, j < i ∧ x.getD j 0 = v
/-- Fewer than 14 days do not take all. -/
theorem some_free {x : List Nat} {i d0 : Nat} (hi : i ≤ 13) (hd : d0 < 14) (h : ∀ s, s < 14 → InD x i ((d0 + s) % 14)) : False := by
  have h1 : ∀ v, v < 14 → ∃ j, j < i ∧ min (x.getD j 0) 13 = v := fun v hv => by
    obtain ⟨j, hj, e⟩ := h ((v + 14 - d0) % 14) (by omega)
    exact ⟨j, hj, by omega⟩
  have h2 : differentN (fun j => ((min (x.getD j 0) 13 : Nat) : Int)) i = cnt (Used i (natD fun j => ((min (x.getD j 0) 13 : Nat) : Int))) 14 := differentN_used (D := 14) fun j _ => ⟨by omega, by omega⟩
  have h3 := differentN_le (fun j => ((min (x.getD j 0) 13 : Nat) : Int)) i
  have h4 : cnt (Used i (natD fun j => ((min (x.getD j 0) 13 : Nat) : Int))) 14 = cnt (fun _ => True) 14 := cnt_congr fun v hv => ⟨fun _ => trivial, fun _ => by rw [natD_cast]; exact h1 v hv⟩
  have h5 : cnt (fun _ => True) 14 = 14 := by simp [cnt]
  omega

theorem right_more {f : Nat → W2} {i D v : Nat} {x : List Nat} (hx : x.length = i) (hR : Right f i D (fun j => x.getD j 0)) (hv : v < D) (hf : ∀ j, j < i → x.getD j 0 = v → ¬ clashB f i j = true) : Right f (i + 1) D (fun j => (x ++ [v]).getD j 0) := by
  have e1 : ∀ j, j < i → (x ++ [v]).getD j 0 = x.getD j 0 := fun j hj => by
    rw [List.getD_eq_getElem?_getD, List.getD_eq_getElem?_getD, List.getElem?_append_left (by omega)]
  have e2 : (x ++ [v]).getD i 0 = v := by
    rw [List.getD_eq_getElem?_getD, List.getElem?_append_right (by omega)]
    simp [hx]
  have no : ∀ j, j < i → x.getD j 0 = v → (f i).s ≠ (f j).s ∧ (f i).m ≠ (f j).m := fun j hj e => by
    have := hf j hj e
    rw [clashB_iff] at this
    exact ⟨fun h => this (.inl h), fun h => this (.inr h)⟩
  refine ⟨fun j hj => ?_, fun j k hj hk hne e => ?_⟩
  · show (x ++ [v]).getD j 0 < D
    by_cases h : j = i
    · rw [h, e2]; exact hv
    · rw [e1 j (by omega)]; exact hR.1 j (by omega)
  · have e' : (x ++ [v]).getD j 0 = (x ++ [v]).getD k 0 := e
    by_cases h1 : j = i
    · have hk' : k < i := by omega
      rw [h1, e2, e1 k hk'] at e'
      rw [h1]
      exact no k hk' e'.symm
    · have hj' : j < i := by omega
      by_cases h2 : k = i
      · rw [h2, e2, e1 j hj'] at e'
        rw [h2]
        obtain ⟨a, b⟩ := no j hj' e'
        exact ⟨fun h => a h.symm, fun h => b h.symm⟩
      · rw [e1 j hj', e1 k (by omega)] at e'
        exact hR.2 j k hj' (by omega) hne e'

set_option maxRecDepth 100000 in
set_option maxHeartbeats 8000000 in
theorem Given_c (S M : Int) (a : Option Addr) (n cap : Nat) (f : Nat → W2) (ba : Option Addr) (bn bcap : Nat) (g : Nat → Int) (w : World) (hf : Wants w a n f) (hn : n ≤ 14) (hg : Cells w ba bn fun i => .int .u8 (g i)) (hgr : ∀ i, i < bn → 0 ≤ g i ∧ g i ≤ 255) (hbn : bn ≤ 40) :
    Calls Try.prog 38 #[bookV S M a n cap, .slice ba bn bcap] w fun e w' => ∃ p c x, e = .returned (.slice p n c) ∧ x.length = n ∧ Lst w' x p c ∧ Right f n 14 (fun i => x.getD i 0) ∧ Below w.heap.size w w' := by
  obtain ⟨W, hW⟩ : ∃ W, w.alloc (.cells #[.int .i64 S, .int .i64 M, .slice a n cap] 24) = W := ⟨_, rfl⟩
  have hB : Below w.heap.size w W := by rw [← hW]; exact Below.alloc1 (Below.refl _ _) _ (Nat.le_refl _)
  have hR : RowIs W w.heap.size #[.int .i64 S, .int .i64 M, .slice a n cap] 24 := by rw [← hW]; exact heap_new_at _ _ _ rfl
  have HR := Lib.hid hR
  have HF := Lib.hid (hf.below hB)
  have HG := Lib.hid (Cells.below hg hB)
  have HGR := Lib.hid hgr
  have HB := Lib.hid hB
  clear hR hf hg hgr hB
  go_enter Try.func38, Try.ntmps38
  go_wp2_with fail
  clear hW
  go_loopw [5, 6, 7, 8] (fun s i _ _ wr => ∃ (k : Nat) (v : Value) (x : List Nat), k ≤ n ∧ i = .int .i64 k ∧ v = s ∧ x.length = k ∧ Own wr W.heap.size x v ∧ Right f k 14 (fun j => x.getD j 0) ∧ Below W.heap.size W wr) (fun _ i _ _ _ => n - (intOf i).toNat)
  case atStart => exact ⟨0, _, [], Nat.zero_le _, rfl, rfl, rfl, own_nil _ _, ⟨fun i hi => absurd hi (Nat.not_lt_zero _), fun i k hi _ _ _ => absurd hi (Nat.not_lt_zero _)⟩, Below.refl _ _⟩
  case round =>
    obtain ⟨k, v, x, hk, rfl, rfl, hx, ho, hRt, hbr⟩ := hrel
    have hsz := hbr.size
    have rz : w.heap.size < W.heap.size := HR.out.lt
    have hr := HR.out.below hbr
    have r0 : wr.cell? ⟨w.heap.size, 0, none⟩ = some (.int .i64 S) := RowIs.cell hr 0
    have r1 : wr.cell? ⟨w.heap.size, 1, none⟩ = some (.int .i64 M) := RowIs.cell hr 1
    have r2 : wr.cell? ⟨w.heap.size, 2, none⟩ = some (.slice a n cap) := RowIs.cell hr 2
    have HO := Lib.hid ho
    have HRt := Lib.hid hRt
    have Hbr := Lib.hid hbr
    have Hx := Lib.hid hx
    clear hr ho hRt hbr hx
    by_cases hlt : k < n
    · by_cases hb0 : bn = 0
      · subst hb0
        go_wp2_with fail
        obtain ⟨d0, hd0⟩ : ∃ d0 : Nat, d0 = 0 := ⟨0, rfl⟩
        have hd : d0 < 14 := by omega
        obtain ⟨p0, c0, rfl, hL, -⟩ := HO.out.lst
        clear hL r0 r1 r2
        go_loopw [7, 8] (fun s j wi => ∃ (t m : Nat), t ≤ 13 ∧ m ≤ k ∧ s = .int .i64 (((d0 + t) % 14 : Nat) : Int) ∧ j = .int .i64 (m : Int) ∧ (∀ u, u < t → InD x k ((d0 + u) % 14)) ∧ (∀ j', j' < m → x.getD j' 0 = (d0 + t) % 14 → ¬ clashB f k j' = true) ∧ Own wi W.heap.size x (.slice p0 x.length c0) ∧ Below W.heap.size W wi) (fun s j _ => (13 - ((intOf s).toNat + 14 - d0) % 14) * 100 + (k - (intOf j).toNat))
        case atStart => exact ⟨0, 0, by omega, Nat.zero_le _, by rw [hd0]; rfl, rfl, fun u hu => absurd hu (Nat.not_lt_zero _), fun j hj => absurd hj (Nat.not_lt_zero _), HO.out, Hbr.out⟩
        case round =>
          obtain ⟨t, m, ht, hm, rfl, rfl, hU, hN, ho, hbi⟩ := hrel
          clear HO Hbr hsz
          obtain ⟨d, hd⟩ : ∃ d, (d0 + t) % 14 = d := ⟨_, rfl⟩
          rw [hd] at hN ⊢
          have hd14 : d < 14 := by omega
          have HU := Lib.hid hU
          have HN := Lib.hid hN
          have HD := Lib.hid hd
          have Hbi := Lib.hid hbi
          have hiz := hbi.size
          have HO := Lib.hid ho
          have hr := HR.out.below hbi
          have r0 : wr.cell? ⟨w.heap.size, 0, none⟩ = some (.int .i64 S) := RowIs.cell hr 0
          have r1 : wr.cell? ⟨w.heap.size, 1, none⟩ = some (.int .i64 M) := RowIs.cell hr 1
          have r2 : wr.cell? ⟨w.heap.size, 2, none⟩ = some (.slice a n cap) := RowIs.cell hr 2
          clear hU hN hd hbi ho hr
          by_cases hmk : m < k
          · obtain ⟨p1, c1, hpc, hL, -⟩ := HO.out.lst
            obtain ⟨rfl, rfl⟩ : p0 = p1 ∧ c0 = c1 := by simpa using hpc
            clear hpc
            obtain ⟨xb, xo, rfl, hxb, hxc⟩ := Cells.at hL.cells m (by rw [Hx.out]; exact hmk)
            have cm : wr.cell? ⟨xb, xo + m, none⟩ = some (.int .i64 ((x.getD m 0 : Nat) : Int)) := hxc m (by rw [Hx.out]; exact hmk)
            have hlx : m < x.length := by rw [Hx.out]; exact hmk
            obtain ⟨z, hz⟩ : ∃ z, x.getD m 0 = z := ⟨_, rfl⟩
            rw [hz] at cm
            have HZ := Lib.hid hz
            clear hxc hz hL
            by_cases he : z = d
            · subst he
              have t5 : ((z : Int) == (z : Int)) = true := by simp
              cases hcl : clashB f k m with
              | true =>
                have ht12 : t ≤ 12 := by
                  by_cases h13 : t = 13
                  · subst h13
                    exact (some_free (x := x) (i := k) (d0 := d0) (by omega) (by omega) fun u hu => by
                      by_cases h13 : u = 13
                      · rw [h13]; exact ⟨m, hmk, by rw [HZ.out, HD.out]⟩
                      · exact HU.out u (by omega)).elim
                  · omega
                have t7 : IntKind.i64.wrap ((z : Int) + 1) = (z : Int) + 1 := IntWalk.i64_in _ (by omega)
                go_wp2_with fail
                refine (Clash_c S M a n cap f k m _ (HF.out.below Hbi.out) hlt (by omega)).mono ?_
                rintro e w1 ⟨rfl, hb1⟩
                rw [hcl]
                go_wp2_with fail
                go_roundw
                case rel => exact ⟨t + 1, 0, by omega, Nat.zero_le _, by rw [show ((z : Int) + 1) % 14 = (((d0 + (t + 1)) % 14 : Nat) : Int) by have := HD.out; omega], rfl, fun u hu => by
                  by_cases e : u = t
                  · rw [e]; exact ⟨m, hmk, by rw [HZ.out, HD.out]⟩
                  · exact HU.out u (by omega), fun j hj => absurd hj (Nat.not_lt_zero _), HO.out.below hb1, bup Hbi.out hb1⟩
                case measure => simp [intOf]; have := HD.out; omega
              | false =>
                have hclf : ¬ clashB f k m = true := by rw [hcl]; decide
                go_wp2_with fail
                refine (Clash_c S M a n cap f k m _ (HF.out.below Hbi.out) hlt (by omega)).mono ?_
                rintro e w1 ⟨rfl, hb1⟩
                rw [hcl]
                go_wp2_with fail
                go_roundw
                case rel => exact ⟨t, m + 1, ht, by omega, by rw [HD.out], by go_num, HU.out, fun j hj e => by
                  by_cases h : j = m
                  · rw [h]; exact hclf
                  · exact HN.out j (by omega) (by rw [e, HD.out]), HO.out.below hb1, bup Hbi.out hb1⟩
                case measure => simp [intOf]; omega
            · have t5 : ((z : Int) == (d : Int)) = false := by simp; omega
              go_wp2_with fail
              go_roundw
              case rel => exact ⟨t, m + 1, ht, by omega, by rw [HD.out], by go_num, HU.out, fun j hj e => by
                by_cases h : j = m
                · rw [h, HZ.out, HD.out] at e; exact absurd e he
                · exact HN.out j (by omega) (by rw [e, HD.out]), HO.out, Hbi.out⟩
              case measure => simp [intOf]; omega
          · obtain rfl : m = k := by omega
            obtain ⟨X, hX⟩ : ∃ X, wr.alloc (.cells #[.int .i64 (d : Int)] 3) = X := ⟨_, rfl⟩
            have hXr : RowIs X wr.heap.size #[.int .i64 (d : Int)] 3 := by rw [← hX]; exact heap_new_at _ _ _ rfl
            have hXo : Own X W.heap.size x (.slice p0 x.length c0) := by rw [← hX]; exact HO.out.alloc _
            have hXb : Below wr.heap.size wr X := by rw [← hX]; exact Below.alloc1 (Below.refl _ _) _ (Nat.le_refl _)
            obtain ⟨v', A', hrun, hown', hgr, hbA⟩ := hXo.append wr.heap.size d hXr (by have := hXb.size; omega) (by rw [Hx.out]; omega)
            have Hown := Lib.hid hown'
            have HbX := Lib.hid ((Hbi.out.trans (hXb.mono (by omega))).trans hbA)
            clear hXr hXo hown' hgr hXb hbA
            go_wp2_with (at_builtin; refine wpList_append_run rfl _ _ 25 rfl rfl rfl hrun ?_)
            go_roundw
            case rel => exact ⟨m + 1, _, x ++ [d], by omega, by go_num, rfl, by simp [Hx.out], Hown.out, right_more Hx.out HRt.out hd14 (fun j hj e => HN.out j hj e), HbX.out⟩
            case measure => simp [intOf]; omega
      · obtain ⟨gb, go, rfl, hgb, hgc⟩ := Cells.at (HG.out.below Hbr.out) (k % bn) (Nat.mod_lt _ (by omega))
        have cg := hgc (k % bn) (Nat.mod_lt _ (by omega))
        have gr := HGR.out (k % bn) (Nat.mod_lt _ (by omega))
        have hbp : 0 < bn := by omega
        have hkb : k % bn < bn := Nat.mod_lt _ hbp
        have t1 : Int.tmod (k : Int) (bn : Int) = ((k % bn : Nat) : Int) := (Int.ofNat_tmod k bn).symm
        obtain ⟨q, hq⟩ : ∃ q : Nat, k % bn = q := ⟨_, rfl⟩
        rw [hq] at cg gr hkb t1
        obtain ⟨y, hy⟩ := Int.eq_ofNat_of_zero_le gr.1
        rw [hy] at cg gr
        have t2 : (y : Int) % 14 = ((y % 14 : Nat) : Int) := by omega
        have t3 : IntKind.i64.wrap (y : Int) = (y : Int) := IntWalk.i64_in _ (by omega)
        clear hq hy
        clear hgc
        go_wp2_with fail
        obtain ⟨d0, hd0⟩ : ∃ d0 : Nat, y % 14 = d0 := ⟨_, rfl⟩
        have hd : d0 < 14 := by omega
        rw [t2, hd0]
        clear hd0 t1 t2 t3 cg gr
        obtain ⟨p0, c0, rfl, hL, -⟩ := HO.out.lst
        clear hL r0 r1 r2
        go_loopw [7, 8] (fun s j wi => ∃ (t m : Nat), t ≤ 13 ∧ m ≤ k ∧ s = .int .i64 (((d0 + t) % 14 : Nat) : Int) ∧ j = .int .i64 (m : Int) ∧ (∀ u, u < t → InD x k ((d0 + u) % 14)) ∧ (∀ j', j' < m → x.getD j' 0 = (d0 + t) % 14 → ¬ clashB f k j' = true) ∧ Own wi W.heap.size x (.slice p0 x.length c0) ∧ Below W.heap.size W wi) (fun s j _ => (13 - ((intOf s).toNat + 14 - d0) % 14) * 100 + (k - (intOf j).toNat))
        case atStart => exact ⟨0, 0, by omega, Nat.zero_le _, by rw [Nat.add_zero, Nat.mod_eq_of_lt hd], rfl, fun u hu => absurd hu (Nat.not_lt_zero _), fun j hj => absurd hj (Nat.not_lt_zero _), HO.out, Hbr.out⟩
        case round =>
          obtain ⟨t, m, ht, hm, rfl, rfl, hU, hN, ho, hbi⟩ := hrel
          clear HO Hbr hsz
          obtain ⟨d, hd⟩ : ∃ d, (d0 + t) % 14 = d := ⟨_, rfl⟩
          rw [hd] at hN ⊢
          have hd14 : d < 14 := by omega
          have HU := Lib.hid hU
          have HN := Lib.hid hN
          have HD := Lib.hid hd
          have Hbi := Lib.hid hbi
          have hiz := hbi.size
          have HO := Lib.hid ho
          have hr := HR.out.below hbi
          have r0 : wr.cell? ⟨w.heap.size, 0, none⟩ = some (.int .i64 S) := RowIs.cell hr 0
          have r1 : wr.cell? ⟨w.heap.size, 1, none⟩ = some (.int .i64 M) := RowIs.cell hr 1
          have r2 : wr.cell? ⟨w.heap.size, 2, none⟩ = some (.slice a n cap) := RowIs.cell hr 2
          clear hU hN hd hbi ho hr
          by_cases hmk : m < k
          · obtain ⟨p1, c1, hpc, hL, -⟩ := HO.out.lst
            obtain ⟨rfl, rfl⟩ : p0 = p1 ∧ c0 = c1 := by simpa using hpc
            clear hpc
            obtain ⟨xb, xo, rfl, hxb, hxc⟩ := Cells.at hL.cells m (by rw [Hx.out]; exact hmk)
            have cm : wr.cell? ⟨xb, xo + m, none⟩ = some (.int .i64 ((x.getD m 0 : Nat) : Int)) := hxc m (by rw [Hx.out]; exact hmk)
            have hlx : m < x.length := by rw [Hx.out]; exact hmk
            obtain ⟨z, hz⟩ : ∃ z, x.getD m 0 = z := ⟨_, rfl⟩
            rw [hz] at cm
            have HZ := Lib.hid hz
            clear hxc hz hL
            by_cases he : z = d
            · subst he
              have t5 : ((z : Int) == (z : Int)) = true := by simp
              cases hcl : clashB f k m with
              | true =>
                have ht12 : t ≤ 12 := by
                  by_cases h13 : t = 13
                  · subst h13
                    exact (some_free (x := x) (i := k) (d0 := d0) (by omega) (by omega) fun u hu => by
                      by_cases h13 : u = 13
                      · rw [h13]; exact ⟨m, hmk, by rw [HZ.out, HD.out]⟩
                      · exact HU.out u (by omega)).elim
                  · omega
                have t7 : IntKind.i64.wrap ((z : Int) + 1) = (z : Int) + 1 := IntWalk.i64_in _ (by omega)
                go_wp2_with fail
                refine (Clash_c S M a n cap f k m _ (HF.out.below Hbi.out) hlt (by omega)).mono ?_
                rintro e w1 ⟨rfl, hb1⟩
                rw [hcl]
                go_wp2_with fail
                go_roundw
                case rel => exact ⟨t + 1, 0, by omega, Nat.zero_le _, by rw [show ((z : Int) + 1) % 14 = (((d0 + (t + 1)) % 14 : Nat) : Int) by have := HD.out; omega], rfl, fun u hu => by
                  by_cases e : u = t
                  · rw [e]; exact ⟨m, hmk, by rw [HZ.out, HD.out]⟩
                  · exact HU.out u (by omega), fun j hj => absurd hj (Nat.not_lt_zero _), HO.out.below hb1, bup Hbi.out hb1⟩
                case measure => simp [intOf]; have := HD.out; omega
              | false =>
                have hclf : ¬ clashB f k m = true := by rw [hcl]; decide
                go_wp2_with fail
                refine (Clash_c S M a n cap f k m _ (HF.out.below Hbi.out) hlt (by omega)).mono ?_
                rintro e w1 ⟨rfl, hb1⟩
                rw [hcl]
                go_wp2_with fail
                go_roundw
                case rel => exact ⟨t, m + 1, ht, by omega, by rw [HD.out], by go_num, HU.out, fun j hj e => by
                  by_cases h : j = m
                  · rw [h]; exact hclf
                  · exact HN.out j (by omega) (by rw [e, HD.out]), HO.out.below hb1, bup Hbi.out hb1⟩
                case measure => simp [intOf]; omega
            · have t5 : ((z : Int) == (d : Int)) = false := by simp; omega
              go_wp2_with fail
              go_roundw
              case rel => exact ⟨t, m + 1, ht, by omega, by rw [HD.out], by go_num, HU.out, fun j hj e => by
                by_cases h : j = m
                · rw [h, HZ.out, HD.out] at e; exact absurd e he
                · exact HN.out j (by omega) (by rw [e, HD.out]), HO.out, Hbi.out⟩
              case measure => simp [intOf]; omega
          · obtain rfl : m = k := by omega
            obtain ⟨X, hX⟩ : ∃ X, wr.alloc (.cells #[.int .i64 (d : Int)] 3) = X := ⟨_, rfl⟩
            have hXr : RowIs X wr.heap.size #[.int .i64 (d : Int)] 3 := by rw [← hX]; exact heap_new_at _ _ _ rfl
            have hXo : Own X W.heap.size x (.slice p0 x.length c0) := by rw [← hX]; exact HO.out.alloc _
            have hXb : Below wr.heap.size wr X := by rw [← hX]; exact Below.alloc1 (Below.refl _ _) _ (Nat.le_refl _)
            obtain ⟨v', A', hrun, hown', hgr, hbA⟩ := hXo.append wr.heap.size d hXr (by have := hXb.size; omega) (by rw [Hx.out]; omega)
            have Hown := Lib.hid hown'
            have HbX := Lib.hid ((Hbi.out.trans (hXb.mono (by omega))).trans hbA)
            clear hXr hXo hown' hgr hXb hbA
            go_wp2_with (at_builtin; refine wpList_append_run rfl _ _ 25 rfl rfl rfl hrun ?_)
            go_roundw
            case rel => exact ⟨m + 1, _, x ++ [d], by omega, by go_num, rfl, by simp [Hx.out], Hown.out, right_more Hx.out HRt.out hd14 (fun j hj e => HN.out j hj e), HbX.out⟩
            case measure => simp [intOf]; omega
    · obtain rfl : k = n := by omega
      obtain ⟨p, c, rfl, hL, -⟩ := HO.out.lst
      go_wp2_with fail
      refine bodyPost_ret (v := .slice p x.length c) (by simp [results, Try.results38, go_sem]) rfl ⟨p, c, x, by rw [Hx.out], Hx.out, hL, HRt.out, bup HB.out Hbr.out⟩

end Go.Proofs.Ytbjgbgchagfokaa

namespace Go.Proofs.Ytbjgbgchagfokaa
open Go Go.RowKit Go.Shelf

attribute [local go_sem] Oper.semAt_some

/-- Is this bit set, as the program asks. -/
def bitB (x : Int) (i : Nat) : Bool := bits BinOp.and IntKind.u16 (x / 2 ^ i) 1 == 1
def bitsL (n : Nat) (x : Int) : List Nat := (List.range n).filter (bitB x)
theorem bits_len (x : Int) (k : Nat) : (bitsL k x).length ≤ k := by
  have := List.length_filter_le (bitB x) (List.range k)
  rw [List.length_range] at this
  exact this
theorem bits_succ (x : Int) (k : Nat) : bitsL (k + 1) x = bitsL k x ++ if bitB x k then [k] else [] := by
  unfold bitsL
  rw [List.range_succ, List.filter_append]
  congr 1
  cases h : bitB x k <;> simp [h]

set_option maxRecDepth 100000 in
set_option maxHeartbeats 4000000 in
theorem bits_c (n : Nat) (x : Int) (w : World) (hn : n ≤ 14) :
    Calls Try.prog 42 #[.int .i64 n, .int .u16 x] w fun e w' => ∃ p c, e = .returned (.slice p (bitsL n x).length c) ∧ Lst w' (bitsL n x) p c ∧ Below w.heap.size w w' := by
  go_enter Try.func42, Try.ntmps42
  go_wp2_with fail
  go_loopw [5, 6] (fun s i wr => ∃ (k : Nat) (v : Value), k ≤ n ∧ i = .int .i64 k ∧ v = s ∧ Own wr w.heap.size (bitsL k x) v ∧ Below w.heap.size w wr) (fun _ i _ => n - (intOf i).toNat)
  case atStart => exact ⟨0, _, Nat.zero_le _, rfl, rfl, own_nil _ _, Below.refl _ _⟩
  case round =>
    obtain ⟨k, v, hk, rfl, rfl, ho, hB⟩ := hrel
    have hlen := bits_len x k
    by_cases hlt : k < n
    · have hsz := hB.size
      have HB := Lib.hid hB
      cases hbit : bitB x k with
      | true =>
        have t0 : (bits BinOp.and IntKind.u16 (x / 2 ^ k) 1 == 1) = true := hbit
        obtain ⟨X, hX⟩ : ∃ X, wr.alloc (.cells #[.int .i64 (k : Int)] 3) = X := ⟨_, rfl⟩
        have hXr : RowIs X wr.heap.size #[.int .i64 (k : Int)] 3 := by rw [← hX]; exact heap_new_at _ _ _ rfl
        have hXo : Own X w.heap.size (bitsL k x) v := by rw [← hX]; exact ho.alloc _
        have hXb : Below wr.heap.size wr X := by rw [← hX]; exact Below.alloc1 (Below.refl _ _) _ (Nat.le_refl _)
        obtain ⟨v', A', hrun, hown', hgr, hbA⟩ := hXo.append wr.heap.size k hXr (Nat.le_trans hsz hXb.size) (by omega)
        have Hown := Lib.hid hown'
        have Hb := Lib.hid hbit
        clear ho hB hXr hXo hown' hgr hbit
        go_wp2_with (at_builtin; refine wpList_append_run rfl _ _ 25 rfl rfl rfl hrun ?_)
        go_roundw
        case rel => exact ⟨k + 1, _, by omega, by go_num, rfl, by rw [bits_succ, Hb.out]; exact Hown.out, (HB.out.trans (hXb.mono hsz)).trans hbA⟩
        case measure => simp [intOf]; omega
      | false =>
        have t0 : (bits BinOp.and IntKind.u16 (x / 2 ^ k) 1 == 1) = false := hbit
        have Hown := Lib.hid ho
        have Hb := Lib.hid hbit
        clear ho hB hbit
        go_wp2_with fail
        go_roundw
        case rel => exact ⟨k + 1, _, by omega, by go_num, rfl, by rw [bits_succ, Hb.out]; simpa using Hown.out, HB.out⟩
        case measure => simp [intOf]; omega
    · have hkn : k = n := by omega
      subst hkn
      obtain ⟨p, c, rfl, hL, _⟩ := ho.lst
      go_wp2_with fail
      go_ret
      exact ⟨p, c, rfl, hL, hB⟩

end Go.Proofs.Ytbjgbgchagfokaa

namespace Go.Proofs.Ytbjgbgchagfokaa
open Go Go.RowKit Go.Shelf

/-- Has each shop of a list wants. -/
def wantAll (l : Nat → Int) (g : Nat → Int) : Nat → Bool
  | 0 => true
  | k + 1 => wantAll l g k && decide (0 < l (g k).toNat)
theorem wantAll_no {l g : Nat → Int} (k : Nat) : ∀ m, k < m → ¬ 0 < l (g k).toNat → wantAll l g m = false
  | 0, h, _ => absurd h (Nat.not_lt_zero _)
  | m + 1, h, hb => by
    by_cases e : k = m
    · subst e; simp [wantAll]; omega
    · simp [wantAll, wantAll_no k m (by omega) hb]
/-- The error of shops that are short. -/
def shortE (s n : Nat) (f : Nat → W2) (len : Nat) (g : Nat → Int) : Int :=
  if len = 0 ∨ listB g s len = false then 3 else if wantAll (bookL f n) g len = false then 16 else if fewB f n g len ≤ 0 then 14 else 0
def shortN (s n : Nat) (f : Nat → W2) (len : Nat) (g : Nat → Int) : Int := if shortE s n f len g = 0 then fewB f n g len else 0

set_option maxHeartbeats 16000000 in
theorem CheckShort_yes_c (s M : Nat) (a : Option Addr) (n cap : Nat) (f : Nat → W2) (la : Option Addr) (len lcap : Nat) (g : Nat → Int) (w : World) (hf : Wants w a n f) (hn : n ≤ 1048576) (hg : Ints w la len g) (hl : len ≤ 1048576) (hc2 : len ≤ lcap) (_ : lcap ≤ 9223372036854775807) (hE : bookE s M n f = 0) :
    Calls Try.prog 32 #[bookV s M a n cap, .slice la len lcap] w fun e w' => e = .returned (.tuple #[.int .i64 (shortN s n f len g), .int .i64 (shortE s n f len g)]) ∧ Below w.heap.size w w' := by
  obtain ⟨r, hr⟩ : ∃ r : Int, shortE s n f len g = r := ⟨_, rfl⟩
  obtain ⟨q, hq⟩ : ∃ q : Int, shortN s n f len g = q := ⟨_, rfl⟩
  have hre : r = if len = 0 ∨ listB g s len = false then 3 else if wantAll (bookL f n) g len = false then 16 else if fewB f n g len ≤ 0 then 14 else 0 := hr.symm
  have hqe : q = if r = 0 then fewB f n g len else 0 := by rw [← hq, shortN, hr]
  rw [hr, hq]
  have HRR := Lib.hid hre
  have HQ := Lib.hid hqe
  clear hr hq hre hqe
  obtain ⟨W, hW⟩ : ∃ W, w.alloc (.cells #[.int .i64 s, .int .i64 M, .slice a n cap] 24) = W := ⟨_, rfl⟩
  have hB : Below w.heap.size w W := by rw [← hW]; exact Below.alloc1 (Below.refl _ _) _ (Nat.le_refl _)
  have hR : RowIs W w.heap.size #[.int .i64 s, .int .i64 M, .slice a n cap] 24 := by rw [← hW]; exact heap_new_at _ _ _ rfl
  have r0 : W.cell? ⟨w.heap.size, 0, none⟩ = some (.int .i64 s) := RowIs.cell hR 0
  have r1 : W.cell? ⟨w.heap.size, 1, none⟩ = some (.int .i64 M) := RowIs.cell hR 1
  have r2 : W.cell? ⟨w.heap.size, 2, none⟩ = some (.slice a n cap) := RowIs.cell hR 2
  have hGB := book_good hE
  have hs6 : s ≤ 6 := by have := hGB.1; omega
  have hm6 : M ≤ 6 := by have := hGB.2.1; omega
  have hn14 : n ≤ 14 := hGB.2.2.1
  have hc := newDesk_yes_c s M a n cap f W (hf.below hB) hn hE
  obtain ⟨l, hl⟩ : ∃ l, bookL f n = l := ⟨_, rfl⟩
  rw [hl] at hc
  try rw [hl]
  have HLB := Lib.hid hl
  have HC := Lib.hid hc
  have HGB := Lib.hid hGB
  have Hf := Lib.hid hf
  have HE := Lib.hid hE
  clear hR hc hl hGB hf hE
  go_enter Try.func32, Try.ntmps32
  go_wp2_with fail
  refine HC.out.mono ?_
  rintro e w1 ⟨rfl, hb1⟩
  have hB1 := bup hB hb1
  obtain ⟨V, U, z, hN⟩ := newDesk w1 s M a n cap l
  have hV := hN.made
  have hz := hN.size
  have hU := hN.stored
  simp only [putL, deskL, Nat.reduceAdd] at hU
  obtain ⟨f0, f1, f2, f3, f4, f5, f6, f7, f8, f9, f10, f11, f12, f13, f14⟩ := deskfree hN.zero
  obtain ⟨e0, e1, e2, e3, e4, e5, e6, e7, e8, e9, e10, e11, e12, e13, e14, ez⟩ := deskcells hN.zero
  obtain ⟨c0, c1, c2, c3, c4, c5, c6, c7, c8, c9, c10, c11, c12, c13, c14, cz⟩ := deskcells hN.row
  have hB2 := bup hB1 hN.below
  have HR := Lib.hid hN.row
  clear hN hW r0 r1 r2 hB hb1 hB1 HC
  have Hg := Lib.hid hg
  clear hg
  by_cases h0 : len = 0
  · have h3 : r = 3 := by rw [HRR.out, if_pos (.inl h0)]
    have h4 : q = 0 := by rw [HQ.out, h3]; rfl
    subst h3 h4
    subst h0
    go_wp2_with fail
    refine bodyPost_ret (v := .tuple #[.int .i64 0, .int .i64 3]) (by simp [results, Try.results32, go_sem]) rfl ⟨rfl, hB2⟩
  have t0 : ((len : Int) == 0) = false := beq_false_of_ne (by omega)
  have i1 := Indexes_c s la len lcap g U (Cells.below Hg.out hB2) hl (by omega)
  have I1 := Lib.hid i1
  clear i1
  go_wp2_with fail
  refine I1.out.mono ?_
  rintro e w2 ⟨rfl, hb2⟩
  clear hU hV f0 f1 f2 f3 f4 f5 f6 f7 f8 f9 f10 f11 f12 f13 f14 e0 e1 e2 e3 e4 e5 e6 e7 e8 e9 e10 e11 e12 e13 e14 ez c0 c1 c2 c3 c4 c5 c6 c7 c8 c9 c10 c11 c12 c13 c14 cz
  have hB3 := bup hB2 hb2
  have hr2 := HR.out.below hb2
  have HR2 := Lib.hid hr2
  clear hr2
  cases h1 : listB g s len with
  | false =>
    have h3 : r = 3 := by rw [HRR.out, if_pos (.inr h1)]
    have h4 : q = 0 := by rw [HQ.out, h3]; rfl
    subst h3 h4
    clear h1
    go_wp2_with fail
    refine bodyPost_ret (v := .tuple #[.int .i64 0, .int .i64 3]) (by simp [results, Try.results32, go_sem]) rfl ⟨rfl, hB3⟩
  | true =>
    have hgr := listB_range g s len h1
    have HGR := Lib.hid hgr
    have hno : ¬ (len = 0 ∨ listB g s len = false) := by rw [h1]; simp [h0]
    have HNO := Lib.hid hno
    clear h1 hgr hno
    go_wp2_with fail
    go_loopw [32] (fun i wr => ∃ k : Nat, k ≤ len ∧ i = .int .i64 k ∧ wantAll l g k = true ∧ Below w2.heap.size w2 wr) (fun i _ => len - (intOf i).toNat)
    case atStart => exact ⟨0, Nat.zero_le _, rfl, rfl, Below.refl _ _⟩
    case round =>
      obtain ⟨k, hk, rfl, ho, hbr⟩ := hrel
      have Ho := Lib.hid ho
      clear ho
      have hr3 := HR2.out.below hbr
      obtain ⟨c0, c1, c2, c3, c4, c5, c6, c7, c8, c9, c10, c11, c12, c13, c14, cz⟩ := deskcells hr3
      by_cases hlt : k < len
      · obtain ⟨b, off, rfl, hbs, hc⟩ := Cells.at (Cells.below Hg.out (bup hB3 hbr)) k hlt
        have ck := hc k hlt
        obtain ⟨y, hy⟩ := Int.eq_ofNat_of_zero_le (HGR.out k hlt).1
        have hyn : y < 6 := by have := (HGR.out k hlt).2; omega
        have hyk : (g k).toNat = y := by rw [hy]; rfl
        rw [hy] at ck
        have kk := fun (u : Later wr) => wanting_c s M a n cap l (.slice (some ⟨b, off, none⟩) k lcap) y u.w hyn
        have KK := Lib.hid kk
        have HY := Lib.hid hyk
        clear hc kk hr3 hyk
        go_wp2_with fail
        have hlc := fun (x : Later wr) => later_cell x
        refine wp_region_later (by kernel_rfl) (by kernel_rfl) ?_
        repeat (go_big_quiet_step ((with_reducible refine calls_later (KK.out _))))
        refine wpQuiet_nil ?_
        clear hlc c0 c1 c2 c3 c4 c5 c6 c7 c8 c9 c10 c11 c12 c13 c14 cz
        rintro ⟨w4, hb4⟩
        cases h4 : decide (0 < l y) with
        | true =>
          have H4 := Lib.hid h4
          clear h4
          go_wp2_with fail
          go_roundw
          case rel => exact ⟨k + 1, by omega, by go_num, by rw [wantAll, Ho.out, HY.out, H4.out]; rfl, bup hbr hb4⟩
          case measure => simp [intOf]; omega
        | false =>
          have h5 : r = 16 := by rw [HRR.out, if_neg HNO.out, if_pos (by rw [HLB.out]; exact wantAll_no k len hlt (by rw [HY.out]; exact of_decide_eq_false h4))]
          have h6 : q = 0 := by rw [HQ.out, h5]; rfl
          clear h4
          subst h5 h6
          go_wp2_with fail
          refine bodyPost_ret (v := .tuple #[.int .i64 0, .int .i64 16]) (by simp [results, Try.results32, go_sem]) rfl ⟨rfl, bup (bup hB3 hbr) hb4⟩
      · obtain rfl : k = len := by omega
        have ht := tooFew_c s M a n cap f l la k lcap g wr (Hf.out.below (bup hB3 hbr)) HGB.out (Cells.below Hg.out (bup hB3 hbr)) hl
        have hnw : ¬ wantAll (bookL f n) g k = false := by rw [HLB.out, Ho.out]; simp
        have HNW := Lib.hid hnw
        obtain ⟨v, hv⟩ : ∃ v, fewB f n g k = v := ⟨_, rfl⟩
        rw [hv] at ht
        have HV := Lib.hid hv
        have HT := Lib.hid ht
        clear ht hv hnw hr3
        go_wp2_with fail
        refine HT.out.mono ?_
        rintro e w3 ⟨rfl, hb3⟩
        clear c0 c1 c2 c3 c4 c5 c6 c7 c8 c9 c10 c11 c12 c13 c14 cz
        by_cases h5 : v ≤ 0
        · have h6 : r = 14 := by rw [HRR.out, if_neg HNO.out, if_neg HNW.out, HV.out, if_pos h5]
          have h7 : q = 0 := by rw [HQ.out, h6]; rfl
          subst h6 h7
          go_wp2_with fail
          refine bodyPost_ret (v := .tuple #[.int .i64 0, .int .i64 14]) (by simp [results, Try.results32, go_sem]) rfl ⟨rfl, bup (bup hB3 hbr) hb3⟩
        · have h6 : r = 0 := by rw [HRR.out, if_neg HNO.out, if_neg HNW.out, HV.out, if_neg h5]
          have h7 : q = v := by rw [HQ.out, h6, HV.out]; rfl
          subst h6 h7
          go_wp2_with fail
          refine bodyPost_ret (v := .tuple #[.int .i64 q, .int .i64 0]) (by simp [results, Try.results32, go_sem]) rfl ⟨rfl, bup (bup hB3 hbr) hb3⟩

end Go.Proofs.Ytbjgbgchagfokaa

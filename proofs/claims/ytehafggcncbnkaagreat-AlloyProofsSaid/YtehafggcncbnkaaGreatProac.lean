/- Contracts of porringerref01: Least, NeverError. -/
import Derived.WalkKit
import Derived.Test.YtehafggcncbnkaaGreatProg
import Derived.Test.YtehafggcncbnkaaGreatBasaa
import Derived.Test.YtehafggcncbnkaaGreatBasae
import Derived.Test.YtehafggcncbnkaaGreatBasag
import Derived.Test.YtehafggcncbnkaaGreatBasak
import Derived.Test.YtehafggcncbnkaaGreatBasao
import Derived.Test.YtehafggcncbnkaaGreatBasav
import Derived.Test.YtehafggcncbnkaaGreatProaa
import Derived.Test.YtehafggcncbnkaaGreatProab
import Derived.Deep.QuietTactic
import Derived.BigQuiet
import Derived.Test.YtehafggcncbnkaaGreatBasah
import Derived.Test.YtehafggcncbnkaaGreatBasau
import Derived.Test.YtehafggcncbnkaaGreatBasas
import Derived.Test.YtehafggcncbnkaaGreatBasaq
import Derived.Test.YtehafggcncbnkaaGreatBasar
namespace Go.Proofs.YtehafggcncbnkaaGreat
open Go Go.RowKit

theorem edgeL_len {n : Nat} (m : Nat → M5) (l c : Int) (s : Bool) (hn : n ≤ 6) : (edgeL n m l c s).length ≤ 294 := by
  have h1 := edgeO_len s n m l c (edgesA n m l c s)
  have h2 := edgesI_len (fun i => spL s l (m i)) (fun i => spC s c (m i)) n hn
  unfold edgeL
  unfold edgesA at *
  omega

theorem edges_nil {w : World} {B n : Nat} {v : Value} (h : EdgesAt w B n v []) : v = .slice none 0 0 ∨ ∃ g c, v = .slice (some ⟨g, 0, none⟩) 0 c := by
  obtain ⟨hs, h1, _⟩ := h
  rcases h1.2 with ⟨hv, h0⟩ | ⟨g, cap, _, hv, _⟩
  · exact .inl hv
  · exact .inr ⟨_, _, hv⟩

set_option maxRecDepth 100000 in
set_option maxHeartbeats 8000000 in
theorem rLeast_c (a : Option Addr) (n cap : Nat) (m : Nat → M5) (l c : Int) (s : Bool) (w : World) (hm : Metals w a n m) (hn : n ≤ 1048576) :
    Calls Tryz.prog 30 #[.slice a n cap, .agg #[.int .i64 l, .int .i64 c], .bool s] w fun e w' => e = .returned (re2 (leastR n m l c s)) ∧ Below w.heap.size w w' := by
  obtain ⟨W, hW⟩ : ∃ W, (w.alloc (.cells #[.int .i64 l, .int .i64 c] 24)).alloc (.cells #[.int .i64 0, .int .i64 0] 29) = W := ⟨_, rfl⟩
  have hB0 : Below w.heap.size w W := by rw [← hW]; exact Below.alloc1 (Below.alloc1 (Below.refl _ _) _ (Nat.le_refl _)) _ (Nat.le_refl _)
  have HT := Lib.hid (show RowIs W w.heap.size #[.int .i64 l, .int .i64 c] 24 by rw [← hW]; exact RowIs.alloc (heap_new_at _ _ _ rfl) _)
  have HR := Lib.hid (show RowIs W (w.heap.size + 1) #[.int .i64 0, .int .i64 0] 29 by rw [← hW]; exact heap_new_at _ _ _ (by simp))
  have hWs : w.heap.size + 1 < W.heap.size := (Array.getElem?_eq_some_iff.1 HR.out).1
  have HM := Lib.hid (hm.below hB0)
  have HB0 := Lib.hid hB0
  obtain ⟨tc0, tc1, _, _, tz⟩ := ratrow2 HT.out
  clear hm hB0
  by_cases h0 : bothE n m l c = 0
  case neg =>
    have h0' : (bothE n m l c != 0) = true := by simp [h0]
    have ev : leastR n m l c s = (0, 0, bothE n m l c) := by unfold leastR; rw [if_pos h0]
    rw [ev]
    have HC := Lib.hid (fun (x : World) (hx : Below W.heap.size W x) => rboth_c a n cap m l c x (HM.out.below hx) (by omega))
    obtain ⟨E, hE⟩ : ∃ E, bothE n m l c = E := ⟨_, rfl⟩
    rw [hE] at HC h0' ⊢
    clear h0 ev hE
    go_enter Tryz.func30, Tryz.ntmps30
    go_wp2_with fail
    refine (HC.out _ (Below.refl _ _)).mono ?_
    rintro e w1 ⟨rfl, hb1⟩
    clear hW
    have HT1 := Lib.hid (RowIs.below HT.out hb1)
    obtain ⟨td0, td1, _, _, tdz⟩ := ratrow2 HT1.out
    go_wp2_with fail
    refine (HC.out _ hb1).mono ?_
    rintro e w2 ⟨rfl, hb2⟩
    have hb12 := bup hb1 hb2
    obtain ⟨r0, r1, z0, z1, rz⟩ := ratrow2 (RowIs.below HR.out hb12)
    clear tc0 tc1 td0 td1
    go_wp2_with fail
    refine bodyPost_ret (v := re2 (0, 0, E)) (by simp [results, Tryz.results30, go_sem, r0, r1]) rfl ⟨rfl, ?_⟩
    exact ((bup HB0.out hb12).setCell (p := ⟨w.heap.size + 1, 0, none⟩) (Nat.le_succ _) _).setCell (p := ⟨w.heap.size + 1, 1, none⟩) (Nat.le_succ _) _
  case pos =>
  obtain ⟨hM, ht⟩ := both_ok h0
  have hF := fine_of hM
  have hn6 := hF.2.1
  have hn1 := hF.1
  have h0' : (bothE n m l c != 0) = false := by simp [h0]
  have HC := Lib.hid (fun (x : World) (hx : Below W.heap.size W x) => rboth_c a n cap m l c x (HM.out.below hx) (by omega))
  have HG := Lib.hid (fun (x : World) (hx : Below W.heap.size W x) => redges_c a n cap m l c s x (HM.out.below hx) hF ht)
  rcases edge_least h0 s with ⟨hnil, hl, _⟩ | ⟨hpos, hl, _⟩
  · rw [hl]
    rw [hnil] at HG
    simp only [List.map_nil] at HG
    obtain ⟨E, hE⟩ : ∃ E, bothE n m l c = E := ⟨_, rfl⟩
    rw [hE] at HC h0'
    clear h0 hE hnil hl
    go_enter Tryz.func30, Tryz.ntmps30
    go_wp2_with fail
    refine (HC.out _ (Below.refl _ _)).mono ?_
    rintro e w1 ⟨rfl, hb1⟩
    clear hW
    obtain ⟨td0, td1, _, _, tdz⟩ := ratrow2 (RowIs.below HT.out hb1)
    clear tc0 tc1
    go_wp2_with fail
    refine (HG.out _ hb1).mono ?_
    rintro e w2 ⟨v, B, rfl, hE, hb2⟩
    have hb12 := bup hb1 hb2
    obtain ⟨r0, r1, z0, z1, rz⟩ := ratrow2 (RowIs.below HR.out hb12)
    clear td0 td1
    rcases edges_nil hE with rfl | ⟨g, cp, rfl⟩
    all_goals
      go_wp2_with fail
      refine bodyPost_ret (v := re2 (0, 0, 17)) (by simp [results, Tryz.results30, go_sem, r0, r1]) rfl ⟨rfl, ?_⟩
      exact ((bup HB0.out hb12).setCell (p := ⟨w.heap.size + 1, 0, none⟩) (Nat.le_succ _) _).setCell (p := ⟨w.heap.size + 1, 1, none⟩) (Nat.le_succ _) _
  · rw [hl]
    obtain ⟨K, hK⟩ : ∃ K, (edgeL n m l c s).length = K := ⟨_, rfl⟩
    obtain ⟨V, hV⟩ : ∃ V, edgeCost n m l c s = V := ⟨_, rfl⟩
    have hT : ∀ i, i < K → Tame (V i) := by rw [← hV, ← hK]; exact edgeCost_tame hF ht
    have HTm := Lib.hid (minV_tame hT (by omega))
    have HTv := Lib.hid hT
    have hKb := edgeL_len m l c s hn6
    rw [hK] at hKb
    obtain ⟨L, hL⟩ : ∃ L, edgeL n m l c s = L := ⟨_, rfl⟩
    have HCost := Lib.hid (fun (i : Nat) (hi : i < K) (b : Nat) (x : World) (hx : Below W.heap.size W x) (hr : RowIs x b (rowZ n (L.getD i fun _ => 0)) 2) => by
      have hp := edge_part hF ht (s := s) (i := i) (by rw [hK]; exact hi)
      have h := rcostOf_c a (some ⟨b, 0, none⟩) n cap n m (edgeF n m l c s i) x (HM.out.below hx) (ints_rowZ (by unfold edgeF; rw [hL]; exact hr)) hF (fun j hj => by have := hp.1 j; omega) hp.2.1
      rw [show ratV (priceF m (edgeF n m l c s i) n) (sumF (edgeF n m l c s i) n) = .agg #[.int .i64 (V i).1, .int .i64 (V i).2] by rw [← hV]] at h
      exact h)
    rw [hL] at hK
    clear hl
    rw [hV, hL, hK]
    rw [hL] at HG hpos
    rw [hK] at hpos
    obtain ⟨E, hE⟩ : ∃ E, bothE n m l c = E := ⟨_, rfl⟩
    rw [hE] at HC h0'
    have HK := Lib.hid hK
    clear h0 hE hT hV hL hK
    go_enter Tryz.func30, Tryz.ntmps30
    go_wp2_with fail
    refine (HC.out _ (Below.refl _ _)).mono ?_
    rintro e w1 ⟨rfl, hb1⟩
    clear hW
    obtain ⟨td0, td1, _, _, tdz⟩ := ratrow2 (RowIs.below HT.out hb1)
    clear tc0 tc1
    go_wp2_with fail
    refine (HG.out _ hb1).mono ?_
    rintro e w2 ⟨v, B, rfl, hE, hb2⟩
    have HB2 := Lib.hid (bup hb1 hb2)
    have HE := Lib.hid hE
    clear td0 td1 hE hb1 hb2
    obtain ⟨g, cp, b0, rfl, hg, hBg, cell0, hr0, hb0⟩ := edges_at HE.out (t := 0) (by rw [HK.out]; exact hpos)
    rw [HK.out] at HE ⊢
    have HC0 := Lib.hid (HCost.out 0 hpos b0 w2 HB2.out hr0)
    have hw2 := HB2.out.size
    clear hr0
    go_wp2_with fail
    refine HC0.out.mono ?_
    rintro e w3 ⟨rfl, hb3⟩
    clear cell0 HC0
    obtain ⟨Yp, hYp⟩ : ∃ Y, w3.alloc (.cells #[.int .i64 0, .int .i64 0] 29) = Y := ⟨_, rfl⟩
    have hyp : Below w3.heap.size w3 Yp := by rw [← hYp]; exact Below.alloc1 (Below.refl _ _) _ (Nat.le_refl _)
    have zp : RowIs Yp w3.heap.size #[.int .i64 0, .int .i64 0] 29 := by rw [← hYp]; exact heap_new_at _ _ _ rfl
    obtain ⟨up0, up1, up2, up3, up4⟩ := ratrow2 zp
    obtain ⟨Zp, hZp⟩ : ∃ Z, (Yp.setCell ⟨w3.heap.size, 0, none⟩ (.int .i64 (V 0).1)).setCell ⟨w3.heap.size, 1, none⟩ (.int .i64 (V 0).2) = Z := ⟨_, rfl⟩
    have hzp : Below w3.heap.size w3 Zp := hyp.trans (by rw [← hZp]; exact ((Below.refl _ Yp).setCell (p := ⟨w3.heap.size, 0, none⟩) (Nat.le_refl _) _).setCell (p := ⟨w3.heap.size, 1, none⟩) (Nat.le_refl _) _)
    have Rp := Lib.hid (show RowIs Zp w3.heap.size #[.int .i64 (V 0).1, .int .i64 (V 0).2] 29 by rw [← hZp]; exact put2_row zp _ _)
    go_wp2_with fail
    clear hYp hyp zp up0 up1 up2 up3 hZp
    have Bp := Lib.hid (bup hb3 hzp)
    have hw3 := hb3.size
    clear hb3 hzp
    obtain ⟨b9, hb9⟩ : ∃ b, w3.heap.size = b := ⟨_, rfl⟩
    rw [hb9] at Rp hw3 ⊢
    clear hb9
    go_loopw [10] (fun i wr => ∃ k, k ≤ K ∧ i = .int .i64 (k : Nat) ∧ RowIs wr b9 #[.int .i64 (minV V k).1, .int .i64 (minV V k).2] 29 ∧ Below w2.heap.size w2 wr) (fun i _ => K - (intOf i).toNat)
    case atStart => exact ⟨0, Nat.zero_le _, rfl, Rp.out, Bp.out⟩
    case round =>
      obtain ⟨k, hkK, rfl, hr9, hB⟩ := hrel
      have HB := Lib.hid hB
      have R9 := Lib.hid hr9
      clear Rp Bp hB hr9
      by_cases hlt : k < K
      · obtain ⟨g', cp', b, he_, hg', -, hcell, hr, hbz⟩ := edges_at (EdgesAt.below HE.out HB.out) (t := k) (by rw [HK.out]; exact hlt)
        rw [HK.out] at he_
        cases he_
        have HCk := HCost.out k hlt b wr (bup HB2.out HB.out) hr
        have hta := HTv.out k hlt
        have htb := HTm.out k (by omega)
        have hs1 := tame_mul hta htb
        have hs2 := tame_mul htb hta
        have EqM := Lib.hid (show minV V (k + 1) = if ltB (V k).1 (V k).2 (minV V k).1 (minV V k).2 then V k else minV V k from rfl)
        obtain ⟨⟨a1, a2⟩, ha⟩ : ∃ a, V k = a := ⟨_, rfl⟩
        obtain ⟨⟨c1, c2⟩, hc⟩ : ∃ a, minV V k = a := ⟨_, rfl⟩
        rw [ha, hc] at EqM hs1 hs2
        rw [hc] at R9
        rw [ha] at HCk
        have HL := Lib.hid (fun (x : World) => rless_c a1 a2 c1 c2 x hs1 hs2)
        have HCk := Lib.hid HCk
        clear ha hc hta htb hs1 hs2 hr
        go_wp2_with fail
        refine HCk.out.mono ?_
        rintro e w4 ⟨rfl, hb4⟩
        clear hcell HCk
        obtain ⟨Yq, hYq⟩ : ∃ Y, w4.alloc (.cells #[.int .i64 0, .int .i64 0] 29) = Y := ⟨_, rfl⟩
        have hyq : Below w4.heap.size w4 Yq := by rw [← hYq]; exact Below.alloc1 (Below.refl _ _) _ (Nat.le_refl _)
        have zq : RowIs Yq w4.heap.size #[.int .i64 0, .int .i64 0] 29 := by rw [← hYq]; exact heap_new_at _ _ _ rfl
        obtain ⟨uq0, uq1, uq2, uq3, uq4⟩ := ratrow2 zq
        obtain ⟨Zq, hZq⟩ : ∃ Z, (Yq.setCell ⟨w4.heap.size, 0, none⟩ (.int .i64 a1)).setCell ⟨w4.heap.size, 1, none⟩ (.int .i64 a2) = Z := ⟨_, rfl⟩
        have hzq : Below w4.heap.size w4 Zq := hyq.trans (by rw [← hZq]; exact ((Below.refl _ Yq).setCell (p := ⟨w4.heap.size, 0, none⟩) (Nat.le_refl _) _).setCell (p := ⟨w4.heap.size, 1, none⟩) (Nat.le_refl _) _)
        have Rq := Lib.hid (show RowIs Zq w4.heap.size #[.int .i64 a1, .int .i64 a2] 29 by rw [← hZq]; exact put2_row zq _ _)
        obtain ⟨va0, va1, va2, va3, va4⟩ := ratrow2 Rq.out
        have R9q := Lib.hid (RowIs.below R9.out (bup hb4 hzq))
        obtain ⟨vb0, vb1, vb2, vb3, vb4⟩ := ratrow2 R9q.out
        go_wp2_with fail
        clear hYq hyq zq uq0 uq1 uq2 uq3 hZq
        have Bq := Lib.hid (bup HB.out (bup hb4 hzq))
        refine (HL.out _).mono ?_
        rintro e w5 ⟨rfl, hb5⟩
        have R9r := Lib.hid (RowIs.below R9q.out hb5)
        have Rqr := Lib.hid (RowIs.below Rq.out hb5)
        have Br := Lib.hid (bup Bq.out hb5)
        clear va0 va1 va2 va3 vb0 vb1 vb2 vb3 hb5 R9q Rq Bq
        obtain ⟨va0, va1, va2, va3, va5⟩ := ratrow2 Rqr.out
        obtain ⟨vb0, vb1, vb2, vb3, vb5⟩ := ratrow2 R9r.out
        cases hq : decide (a1 * c2 < c1 * a2)
        case false =>
          have e1 : minV V (k + 1) = (c1, c2) := by rw [EqM.out]; unfold ltB; rw [hq]; rfl
          have E1 := Lib.hid e1
          clear e1 hq
          go_wp2
          go_roundw
          case rel => exact ⟨k + 1, by omega, by go_num, by rw [E1.out]; exact R9r.out, Br.out⟩
          case measure => simp [intOf]; omega
        case true =>
          have e1 : minV V (k + 1) = (a1, a2) := by rw [EqM.out]; unfold ltB; rw [hq]; rfl
          have E1 := Lib.hid e1
          obtain ⟨Z, hZ⟩ : ∃ Z, (w5.setCell ⟨b9, 0, none⟩ (.int .i64 a1)).setCell ⟨b9, 1, none⟩ (.int .i64 a2) = Z := ⟨_, rfl⟩
          have RZ := Lib.hid (show RowIs Z b9 #[.int .i64 a1, .int .i64 a2] 29 by rw [← hZ]; exact put2_row R9r.out _ _)
          have BZ := Lib.hid (show Below w2.heap.size w2 Z by rw [← hZ]; exact (Br.out.setCell (p := ⟨b9, 0, none⟩) hw3 _).setCell (p := ⟨b9, 1, none⟩) hw3 _)
          clear e1 hq
          go_wp2
          go_roundw
          case rel => exact ⟨k + 1, by omega, by go_num, by rw [E1.out]; exact RZ.out, BZ.out⟩
          case measure => simp [intOf]; omega
      · obtain rfl : k = K := by omega
        obtain ⟨va0, va1, va2, va3, va4⟩ := ratrow2 R9.out
        have hBf := bup HB2.out HB.out
        obtain ⟨r0, r1, z0, z1, rz⟩ := ratrow2 (RowIs.below HR.out hBf)
        have HBf := Lib.hid (bup HB0.out hBf)
        clear hBf
        go_wp2_with fail
        refine bodyPost_ret (v := re2 ((minV V k).1, (minV V k).2, 0)) (by simp [results, Tryz.results30, go_sem, r0, r1]) rfl ⟨rfl, ?_⟩
        exact (HBf.out.setCell (p := ⟨w.heap.size + 1, 0, none⟩) (Nat.le_succ _) _).setCell (p := ⟨w.heap.size + 1, 1, none⟩) (Nat.le_succ _) _

set_option maxRecDepth 100000 in
set_option maxHeartbeats 4000000 in
theorem rNeverError_c (a : Option Addr) (n cap : Nat) (m : Nat → M5) (l c : Int) (s : Bool) (w : World) (hm : Metals w a n m) (hn : n ≤ 1048576) :
    Calls Tryz.prog 39 #[.slice a n cap, .agg #[.int .i64 l, .int .i64 c], .bool s] w fun e w' => e = .returned (.int .i64 (neverE n m l c s)) ∧ Below w.heap.size w w' := by
  obtain ⟨W, hW⟩ : ∃ W, w.alloc (.cells #[.int .i64 l, .int .i64 c] 24) = W := ⟨_, rfl⟩
  have hB0 : Below w.heap.size w W := by rw [← hW]; exact Below.alloc1 (Below.refl _ _) _ (Nat.le_refl _)
  have HT := Lib.hid (show RowIs W w.heap.size #[.int .i64 l, .int .i64 c] 24 by rw [← hW]; exact heap_new_at _ _ _ rfl)
  have HM := Lib.hid (hm.below hB0)
  have HB0 := Lib.hid hB0
  obtain ⟨tc0, tc1, _, _, tz⟩ := ratrow2 HT.out
  clear hm hB0
  have HC := Lib.hid (fun (x : World) (hx : Below W.heap.size W x) => rboth_c a n cap m l c x (HM.out.below hx) (by omega))
  by_cases h0 : bothE n m l c = 0
  case neg =>
    have h0' : (bothE n m l c != 0) = true := by simp [h0]
    have ev : neverE n m l c s = bothE n m l c := by unfold neverE; rw [if_pos h0]
    rw [ev]
    obtain ⟨E, hE⟩ : ∃ E, bothE n m l c = E := ⟨_, rfl⟩
    rw [hE] at HC h0' ⊢
    clear h0 ev hE
    go_enter Tryz.func39, Tryz.ntmps39
    go_wp2_with fail
    refine (HC.out _ (Below.refl _ _)).mono ?_
    rintro e w1 ⟨rfl, hb1⟩
    clear hW
    obtain ⟨td0, td1, _, _, tdz⟩ := ratrow2 (RowIs.below HT.out hb1)
    go_wp2_with fail
    refine (HC.out _ hb1).mono ?_
    rintro e w2 ⟨rfl, hb2⟩
    have HBf := Lib.hid (bup HB0.out (bup hb1 hb2))
    clear tc0 tc1 td0 td1 hb1 hb2
    go_wp2
    go_ret
    exact ⟨rfl, HBf.out⟩
  case pos =>
  obtain ⟨hM, ht⟩ := both_ok h0
  have hF := fine_of hM
  have hn6 := hF.2.1
  have h0' : (bothE n m l c != 0) = false := by simp [h0]
  have HG := Lib.hid (fun (x : World) (hx : Below W.heap.size W x) => redges_c a n cap m l c s x (HM.out.below hx) hF ht)
  have hKb := edgeL_len m l c s hn6
  rcases edge_least h0 s with ⟨hnil, hl, _⟩ | ⟨hpos, _, f, hbs, _⟩
  · have hbn : bestS (cheapB n m s) (potL n m l c s) = none := by
      unfold leastR at hl
      rw [if_neg (by omega)] at hl
      cases e : bestS (cheapB n m s) (potL n m l c s) with
      | none => rfl
      | some f => rw [e] at hl; simp at hl
    have ev : neverE n m l c s = 0 := by unfold neverE; rw [if_neg (by omega), pot_empty hbn]; rfl
    rw [ev]
    rw [hnil] at HG
    simp only [List.map_nil] at HG
    obtain ⟨E, hE⟩ : ∃ E, bothE n m l c = E := ⟨_, rfl⟩
    rw [hE] at HC h0'
    clear h0 hE hnil hl hbn ev hKb
    go_enter Tryz.func39, Tryz.ntmps39
    go_wp2_with fail
    refine (HC.out _ (Below.refl _ _)).mono ?_
    rintro e w1 ⟨rfl, hb1⟩
    clear hW
    obtain ⟨td0, td1, _, _, tdz⟩ := ratrow2 (RowIs.below HT.out hb1)
    clear tc0 tc1
    go_wp2_with fail
    refine (HG.out _ hb1).mono ?_
    rintro e w2 ⟨v, B, rfl, hE, hb2⟩
    have HBf := Lib.hid (bup HB0.out (bup hb1 hb2))
    clear td0 td1 hb1 hb2
    rcases edges_nil hE with rfl | ⟨g, cp, rfl⟩
    all_goals
      clear hE
      go_wp2
      go_ret
      exact ⟨rfl, HBf.out⟩
  · have ev : neverE n m l c s = 5 := by unfold neverE; rw [if_neg (by omega), if_neg (by rw [pot_some hbs]; simp)]
    rw [ev]
    obtain ⟨L, hL⟩ : ∃ L, edgeL n m l c s = L := ⟨_, rfl⟩
    rw [hL] at HG hpos hKb
    obtain ⟨E, hE⟩ : ∃ E, bothE n m l c = E := ⟨_, rfl⟩
    rw [hE] at HC h0'
    clear h0 hE hL hbs ev
    obtain ⟨K, hK⟩ : ∃ K, L.length = K := ⟨_, rfl⟩
    rw [hK] at hpos hKb
    have HK := Lib.hid hK
    clear hK
    go_enter Tryz.func39, Tryz.ntmps39
    go_wp2_with fail
    refine (HC.out _ (Below.refl _ _)).mono ?_
    rintro e w1 ⟨rfl, hb1⟩
    clear hW
    obtain ⟨td0, td1, _, _, tdz⟩ := ratrow2 (RowIs.below HT.out hb1)
    clear tc0 tc1
    go_wp2_with fail
    refine (HG.out _ hb1).mono ?_
    rintro e w2 ⟨v, B, rfl, hE, hb2⟩
    have HBf := Lib.hid (bup HB0.out (bup hb1 hb2))
    obtain ⟨ad, cp, he⟩ := hE.form
    rw [List.length_map, HK.out] at he
    subst he
    have hlt : decide ((0 : Int) < (K : Int)) = true := by simp; omega
    clear td0 td1 hb1 hb2 hE
    go_wp2
    go_ret
    exact ⟨rfl, HBf.out⟩

end Go.Proofs.YtehafggcncbnkaaGreat

namespace Go.Proofs.YtehafggcncbnkaaGreat
open Go Go.RowKit

set_option maxRecDepth 100000 in
set_option maxHeartbeats 16000000 in
theorem law_proofs_c (a : Option Addr) (n cap : Nat) (m : Nat → M5) (l c : Int) (sure : Bool) (p : P4) (w : World) (hm : Metals w a n m) :
    Calls Tryz.prog 5 #[.slice a n cap, .agg #[.int .i64 l, .int .i64 c], .bool sure, proofV p] w fun e w' => e = .returned (.bool true) ∧ Below w.heap.size w w' := by
  obtain ⟨W, hW⟩ : ∃ W, (w.alloc (.cells #[.int .i64 l, .int .i64 c] 24)).alloc (.cells #[.int .i64 p.d, .int .i64 p.b, .int .i64 p.l, .int .i64 p.c] 45) = W := ⟨_, rfl⟩
  have hB : Below w.heap.size w W := by rw [← hW]; exact (Below.alloc1 (Below.alloc1 (Below.refl _ _) _ (Nat.le_refl _)) _ (Nat.le_refl _))
  have HT := Lib.hid (show RowIs W (w.heap.size) #[.int .i64 l, .int .i64 c] 24 by rw [← hW]; exact RowIs.alloc (heap_new_at _ _ _ rfl) _)
  have HP := Lib.hid (show RowIs W (w.heap.size + 1) (prfRow p) 45 by rw [← hW]; exact heap_new_at _ _ _ (by simp))
  have HM := Lib.hid (hm.below hB)
  obtain ⟨bt, hbt⟩ : ∃ bt, w.heap.size = bt := ⟨_, rfl⟩
  rw [hbt] at HT HP
  have HG := Lib.hid (fun (x : World) => great_c a none n cap 0 0 x)
  clear hm
  cases hg : (decide (12 < n) || decide (12 < 0)) with
  | true =>
    go_enter Tryz.func5, Tryz.ntmps5
    go_wp2_with fail
    refine (HG.out _).mono ?_
    rintro e w1 ⟨rfl, rfl⟩
    rw [hg]
    go_wp2_with fail
    refine (works_c _).mono ?_
    rintro e w2 ⟨rfl, hb2⟩
    go_wp2
    go_ret
    exact ⟨rfl, bup hB hb2⟩
  | false =>
  have hn12 : n ≤ 12 := by simp at hg; omega
  have hn : n ≤ 1048576 := by omega
  rcases hK : checkProofR n m l c sure p with ⟨k1, k2, k3⟩
  have HK := Lib.hid hK
  clear hK
  by_cases hbo : bothE n m l c = 0
  case neg =>
    obtain ⟨x1, x2, E, hE, hS, hpe, hne⟩ : ∃ x1 x2 E, E ≠ 0 ∧ leastR n m l c sure = (x1, x2, E) ∧ proofE n m l c sure = E ∧ neverE n m l c sure = E :=
      ⟨0, 0, bothE n m l c, hbo, by unfold leastR; rw [if_pos hbo], by unfold proofE; rw [if_pos hbo], by unfold neverE; rw [if_pos hbo]⟩
    have hF : E ≠ 0 := hE
    have hE1 : (E != 0) = true := by simpa using hE
    have hE2 : (E == 0) = false := by simpa using hE
    go_enter Tryz.func5, Tryz.ntmps5
    go_wp2_with fail
    refine (HG.out _).mono ?_
    rintro e w1 ⟨rfl, rfl⟩
    rw [hg]
    have hC1 := CheckProof_c a n cap m l c sure p W HM.out hn
    rw [HK.out] at hC1
    try dsimp only [re2, re3, proofV, zeroP] at hC1
    have C1 := Lib.hid hC1
    clear hC1
    obtain ⟨tc0, tc1, _, _, tz⟩ := ratrow2 HT.out
    obtain ⟨⟨pc0, pc1, pc2, pc3, pz⟩, _⟩ := qrow HP.out
    go_wp2_with fail
    clear hW hbt HG tc0 tc1 tz pc0 pc1 pc2 pc3 pz
    refine C1.out.mono ?_
    rintro e w2 ⟨rfl, hw3⟩
    clear C1
    replace HM := Lib.hid (HM.out.below hw3)
    replace HT := Lib.hid (RowIs.below HT.out hw3)
    replace HP := Lib.hid (RowIs.below HP.out hw3)
    replace hB := bup hB hw3
    obtain ⟨Y4, hY4⟩ : ∃ Y4, w2.alloc (.cells #[.int .i64 k1, .int .i64 k2] 29) = Y4 := ⟨_, rfl⟩
    have hy5 : Below w2.heap.size w2 Y4 := by rw [← hY4]; exact Below.alloc1 (Below.refl _ _) _ (Nat.le_refl _)
    replace HM := Lib.hid (HM.out.below hy5)
    replace HT := Lib.hid (RowIs.below HT.out hy5)
    replace HP := Lib.hid (RowIs.below HP.out hy5)
    replace hB := bup hB hy5
    have RA := Lib.hid (show RowIs Y4 w2.heap.size #[.int .i64 k1, .int .i64 k2] 29 by rw [← hY4]; exact heap_new_at _ _ _ rfl)
    obtain ⟨bRA, hbRA⟩ : ∃ bRA, w2.heap.size = bRA := ⟨_, rfl⟩
    rw [hbRA] at RA
    have hC6 := rcheckProof_c a n cap m l c sure p Y4 HM.out hn
    rw [HK.out] at hC6
    try dsimp only [re2, re3, proofV, zeroP] at hC6
    have C6 := Lib.hid hC6
    clear hC6
    obtain ⟨tc0, tc1, _, _, tz⟩ := ratrow2 HT.out
    obtain ⟨⟨pc0, pc1, pc2, pc3, pz⟩, _⟩ := qrow HP.out
    go_wp2_with fail
    clear hw3 hbRA hY4 hy5 tc0 tc1 tz pc0 pc1 pc2 pc3 pz
    refine C6.out.mono ?_
    rintro e w7 ⟨rfl, hw8⟩
    clear C6
    replace HM := Lib.hid (HM.out.below hw8)
    replace HT := Lib.hid (RowIs.below HT.out hw8)
    replace HP := Lib.hid (RowIs.below HP.out hw8)
    replace RA := Lib.hid (RowIs.below RA.out hw8)
    replace hB := bup hB hw8
    obtain ⟨Y9, hY9⟩ : ∃ Y9, w7.alloc (.cells #[.int .i64 k1, .int .i64 k2] 29) = Y9 := ⟨_, rfl⟩
    have hy10 : Below w7.heap.size w7 Y9 := by rw [← hY9]; exact Below.alloc1 (Below.refl _ _) _ (Nat.le_refl _)
    replace HM := Lib.hid (HM.out.below hy10)
    replace HT := Lib.hid (RowIs.below HT.out hy10)
    replace HP := Lib.hid (RowIs.below HP.out hy10)
    replace RA := Lib.hid (RowIs.below RA.out hy10)
    replace hB := bup hB hy10
    have RB := Lib.hid (show RowIs Y9 w7.heap.size #[.int .i64 k1, .int .i64 k2] 29 by rw [← hY9]; exact heap_new_at _ _ _ rfl)
    obtain ⟨bRB, hbRB⟩ : ∃ bRB, w7.heap.size = bRB := ⟨_, rfl⟩
    rw [hbRB] at RB
    have hC11 := rLeast_c a n cap m l c sure Y9 HM.out hn
    rw [hS] at hC11
    try dsimp only [re2, re3, proofV, zeroP] at hC11
    have C11 := Lib.hid hC11
    clear hC11
    obtain ⟨tc0, tc1, _, _, tz⟩ := ratrow2 HT.out
    go_wp2_with fail
    clear hw8 hbRB hY9 hy10 tc0 tc1 tz
    refine C11.out.mono ?_
    rintro e w12 ⟨rfl, hw13⟩
    clear C11
    replace HM := Lib.hid (HM.out.below hw13)
    replace HT := Lib.hid (RowIs.below HT.out hw13)
    replace HP := Lib.hid (RowIs.below HP.out hw13)
    replace RA := Lib.hid (RowIs.below RA.out hw13)
    replace RB := Lib.hid (RowIs.below RB.out hw13)
    replace hB := bup hB hw13
    obtain ⟨Y14, hY14⟩ : ∃ Y14, w12.alloc (.cells #[.int .i64 x1, .int .i64 x2] 29) = Y14 := ⟨_, rfl⟩
    have hy15 : Below w12.heap.size w12 Y14 := by rw [← hY14]; exact Below.alloc1 (Below.refl _ _) _ (Nat.le_refl _)
    replace HM := Lib.hid (HM.out.below hy15)
    replace HT := Lib.hid (RowIs.below HT.out hy15)
    replace HP := Lib.hid (RowIs.below HP.out hy15)
    replace RA := Lib.hid (RowIs.below RA.out hy15)
    replace RB := Lib.hid (RowIs.below RB.out hy15)
    replace hB := bup hB hy15
    have RC := Lib.hid (show RowIs Y14 w12.heap.size #[.int .i64 x1, .int .i64 x2] 29 by rw [← hY14]; exact heap_new_at _ _ _ rfl)
    obtain ⟨bRC, hbRC⟩ : ∃ bRC, w12.heap.size = bRC := ⟨_, rfl⟩
    rw [hbRC] at RC
    have hC16 := Proof_no_c a n cap m l c sure Y14 HM.out hn (by rw [hpe]; exact hE)
    rw [hpe] at hC16
    try dsimp only [re2, re3, proofV, zeroP] at hC16
    have C16 := Lib.hid hC16
    clear hC16
    obtain ⟨tc0, tc1, _, _, tz⟩ := ratrow2 HT.out
    go_wp2_with fail
    clear hw13 hbRC hY14 hy15 tc0 tc1 tz
    refine C16.out.mono ?_
    rintro e w17 ⟨rfl, hw18⟩
    clear C16
    replace HM := Lib.hid (HM.out.below hw18)
    replace HT := Lib.hid (RowIs.below HT.out hw18)
    replace HP := Lib.hid (RowIs.below HP.out hw18)
    replace RA := Lib.hid (RowIs.below RA.out hw18)
    replace RB := Lib.hid (RowIs.below RB.out hw18)
    replace RC := Lib.hid (RowIs.below RC.out hw18)
    replace hB := bup hB hw18
    obtain ⟨Y19, hY19⟩ : ∃ Y19, w17.alloc (.cells #[.int .i64 0, .int .i64 0, .int .i64 0, .int .i64 0] 45) = Y19 := ⟨_, rfl⟩
    have hy20 : Below w17.heap.size w17 Y19 := by rw [← hY19]; exact Below.alloc1 (Below.refl _ _) _ (Nat.le_refl _)
    have zY19 : RowIs Y19 w17.heap.size #[.int .i64 0, .int .i64 0, .int .i64 0, .int .i64 0] 45 := by rw [← hY19]; exact heap_new_at _ _ _ rfl
    obtain ⟨⟨yY190, yY191, yY192, yY193, yY198⟩, yY194, yY195, yY196, yY197⟩ := qrow (p := zeroP) zY19
    obtain ⟨Z21, hZ21⟩ : ∃ Z21, ((((Y19.setCell ⟨w17.heap.size, 0, none⟩ (.int .i64 0)).setCell ⟨w17.heap.size, 1, none⟩ (.int .i64 0)).setCell ⟨w17.heap.size, 2, none⟩ (.int .i64 0)).setCell ⟨w17.heap.size, 3, none⟩ (.int .i64 0)) = Z21 := ⟨_, rfl⟩
    have hz22 : Below w17.heap.size w17 Z21 := hy20.trans (by rw [← hZ21]; exact (((((Below.refl _ Y19).setCell (p := ⟨w17.heap.size, 0, none⟩) (Nat.le_refl _) _).setCell (p := ⟨w17.heap.size, 1, none⟩) (Nat.le_refl _) _).setCell (p := ⟨w17.heap.size, 2, none⟩) (Nat.le_refl _) _).setCell (p := ⟨w17.heap.size, 3, none⟩) (Nat.le_refl _) _))
    replace HM := Lib.hid (HM.out.below hz22)
    replace HT := Lib.hid (RowIs.below HT.out hz22)
    replace HP := Lib.hid (RowIs.below HP.out hz22)
    replace RA := Lib.hid (RowIs.below RA.out hz22)
    replace RB := Lib.hid (RowIs.below RB.out hz22)
    replace RC := Lib.hid (RowIs.below RC.out hz22)
    replace hB := bup hB hz22
    have RQ := Lib.hid (show RowIs Z21 w17.heap.size (prfRow zeroP) 45 by rw [← hZ21]; exact put4_row (show RowIs Y19 w17.heap.size (prfRow zeroP) 45 from zY19) zeroP)
    have hC23 := Never_no_c a n cap m l c sure Z21 HM.out hn (by rw [hne]; exact hF)
    rw [hne] at hC23
    try dsimp only [re2, re3, proofV, zeroP] at hC23
    have C23 := Lib.hid hC23
    clear hC23
    obtain ⟨tc0, tc1, _, _, tz⟩ := ratrow2 HT.out
    go_wp2_with fail
    clear hw18 hY19 hy20 zY19 yY190 yY191 yY192 yY193 yY194 yY195 yY196 yY197 yY198 hZ21 hz22 tc0 tc1 tz
    refine C23.out.mono ?_
    rintro e w24 ⟨rfl, hw25⟩
    clear C23
    replace HM := Lib.hid (HM.out.below hw25)
    replace HT := Lib.hid (RowIs.below HT.out hw25)
    replace HP := Lib.hid (RowIs.below HP.out hw25)
    replace RA := Lib.hid (RowIs.below RA.out hw25)
    replace RB := Lib.hid (RowIs.below RB.out hw25)
    replace RC := Lib.hid (RowIs.below RC.out hw25)
    replace RQ := Lib.hid (RowIs.below RQ.out hw25)
    replace hB := bup hB hw25
    obtain ⟨Y26, hY26⟩ : ∃ Y26, w24.alloc (.cells #[.int .i64 0, .int .i64 0, .int .i64 0, .int .i64 0] 45) = Y26 := ⟨_, rfl⟩
    have hy27 : Below w24.heap.size w24 Y26 := by rw [← hY26]; exact Below.alloc1 (Below.refl _ _) _ (Nat.le_refl _)
    have zY26 : RowIs Y26 w24.heap.size #[.int .i64 0, .int .i64 0, .int .i64 0, .int .i64 0] 45 := by rw [← hY26]; exact heap_new_at _ _ _ rfl
    obtain ⟨⟨yY260, yY261, yY262, yY263, yY268⟩, yY264, yY265, yY266, yY267⟩ := qrow (p := zeroP) zY26
    obtain ⟨Z28, hZ28⟩ : ∃ Z28, ((((Y26.setCell ⟨w24.heap.size, 0, none⟩ (.int .i64 0)).setCell ⟨w24.heap.size, 1, none⟩ (.int .i64 0)).setCell ⟨w24.heap.size, 2, none⟩ (.int .i64 0)).setCell ⟨w24.heap.size, 3, none⟩ (.int .i64 0)) = Z28 := ⟨_, rfl⟩
    have hz29 : Below w24.heap.size w24 Z28 := hy27.trans (by rw [← hZ28]; exact (((((Below.refl _ Y26).setCell (p := ⟨w24.heap.size, 0, none⟩) (Nat.le_refl _) _).setCell (p := ⟨w24.heap.size, 1, none⟩) (Nat.le_refl _) _).setCell (p := ⟨w24.heap.size, 2, none⟩) (Nat.le_refl _) _).setCell (p := ⟨w24.heap.size, 3, none⟩) (Nat.le_refl _) _))
    replace HM := Lib.hid (HM.out.below hz29)
    replace HT := Lib.hid (RowIs.below HT.out hz29)
    replace HP := Lib.hid (RowIs.below HP.out hz29)
    replace RA := Lib.hid (RowIs.below RA.out hz29)
    replace RB := Lib.hid (RowIs.below RB.out hz29)
    replace RC := Lib.hid (RowIs.below RC.out hz29)
    replace RQ := Lib.hid (RowIs.below RQ.out hz29)
    replace hB := bup hB hz29
    have RW := Lib.hid (show RowIs Z28 w24.heap.size (prfRow zeroP) 45 by rw [← hZ28]; exact put4_row (show RowIs Y26 w24.heap.size (prfRow zeroP) 45 from zY26) zeroP)
    go_wp2_with fail
    clear hw25 hY26 hy27 zY26 yY260 yY261 yY262 yY263 yY264 yY265 yY266 yY267 yY268 hZ28 hz29
    obtain ⟨d, hd⟩ : ∃ d, checkNeverE n m l c sure p = d := ⟨_, rfl⟩
    have A0 := Lib.hid (fun (x : World) (hx : Below Z28.heap.size Z28 x) => by
      have h := CheckNever_c a n cap m l c sure p x (HM.out.below hx) hn
      rw [hd] at h
      exact h)
    have A1 := Lib.hid (fun (x : World) (hx : Below Z28.heap.size Z28 x) => by
      have h := rcheckNever_c a n cap m l c sure p x (HM.out.below hx) hn
      rw [hd] at h
      exact h)
    have A2 := Lib.hid (fun (x : World) (hx : Below Z28.heap.size Z28 x) => by
      have h := rNeverError_c a n cap m l c sure x (HM.out.below hx) hn
      rw [hne] at h
      exact h)
    clear hd
    obtain ⟨⟨pc0, pc1, pc2, pc3, pz⟩, _⟩ := qrow HP.out
    have heq0 := fun (w : World) => eqRat k1 k2 w
    obtain ⟨v300, v301, _, _, v30z⟩ := ratrow2 HT.out
    obtain ⟨v310, v311, _, _, v31z⟩ := ratrow2 RA.out
    obtain ⟨v320, v321, _, _, v32z⟩ := ratrow2 RB.out
    have hlc := fun (x : Later Z28) => later_cell x
    refine wp_region_later (by kernel_rfl) (by kernel_rfl) ?_
    repeat (go_big_quiet_step ((first | (with_reducible refine calls_later (A0.out _ (Later.h _))) | (with_reducible refine calls_later (A1.out _ (Later.h _))) | (with_reducible refine calls_later (A2.out _ (Later.h _))))))
    refine wpQuiet_nil ?_
    clear hlc A0 A1 A2 pc0 pc1 pc2 pc3 pz heq0 v300 v301 v30z v310 v311 v31z v320 v321 v32z
    rintro ⟨w33, hw34⟩
    replace HM := Lib.hid (HM.out.below hw34)
    replace HT := Lib.hid (RowIs.below HT.out hw34)
    replace HP := Lib.hid (RowIs.below HP.out hw34)
    replace RA := Lib.hid (RowIs.below RA.out hw34)
    replace RB := Lib.hid (RowIs.below RB.out hw34)
    replace RC := Lib.hid (RowIs.below RC.out hw34)
    replace RQ := Lib.hid (RowIs.below RQ.out hw34)
    replace RW := Lib.hid (RowIs.below RW.out hw34)
    replace hB := bup hB hw34
    have heq1 := fun (w : World) => eqPrf zeroP w
    obtain ⟨⟨q350, q351, q352, q353, q35z⟩, _⟩ := qrow (p := zeroP) RQ.out
    obtain ⟨⟨q360, q361, q362, q363, q36z⟩, _⟩ := qrow (p := zeroP) RW.out
    go_wp2_with fail
    clear hw34 q350 q351 q352 q353 q35z q360 q361 q362 q363 q36z heq1
    refine (works_c _).mono ?_
    rintro e wz ⟨rfl, hbz⟩
    go_wp2
    go_ret
    exact ⟨rfl, bup hB hbz⟩
  case pos =>
  rcases least_cases hbo sure with ⟨hL1, hbn, hnil⟩ | ⟨f, hbs, hL2, hlow⟩
  · have hemp : (potL n m l c sure).isEmpty = true := by rw [pot_empty hbn]; rfl
    have hNP := never_proved (s := sure) hbo (pot_empty hbn)
    have hpe : proofE n m l c sure = 17 := by unfold proofE; rw [if_neg (by omega), hemp]; rfl
    have hne : neverE n m l c sure = 0 := by unfold neverE; rw [if_neg (by omega), hemp]; rfl
    obtain ⟨x1, x2, hS⟩ : ∃ x1 x2, leastR n m l c sure = (x1, x2, 17) := ⟨0, 0, hL1⟩
    have hE : (17 : Int) ≠ 0 := by decide
    clear hL1 hbn hnil
    go_enter Tryz.func5, Tryz.ntmps5
    go_wp2_with fail
    refine (HG.out _).mono ?_
    rintro e w1 ⟨rfl, rfl⟩
    rw [hg]
    have hC37 := CheckProof_c a n cap m l c sure p W HM.out hn
    rw [HK.out] at hC37
    try dsimp only [re2, re3, proofV, zeroP] at hC37
    have C37 := Lib.hid hC37
    clear hC37
    obtain ⟨tc0, tc1, _, _, tz⟩ := ratrow2 HT.out
    obtain ⟨⟨pc0, pc1, pc2, pc3, pz⟩, _⟩ := qrow HP.out
    go_wp2_with fail
    clear hW hbt HG tc0 tc1 tz pc0 pc1 pc2 pc3 pz
    refine C37.out.mono ?_
    rintro e w38 ⟨rfl, hw39⟩
    clear C37
    replace HM := Lib.hid (HM.out.below hw39)
    replace HT := Lib.hid (RowIs.below HT.out hw39)
    replace HP := Lib.hid (RowIs.below HP.out hw39)
    replace hB := bup hB hw39
    obtain ⟨Y40, hY40⟩ : ∃ Y40, w38.alloc (.cells #[.int .i64 k1, .int .i64 k2] 29) = Y40 := ⟨_, rfl⟩
    have hy41 : Below w38.heap.size w38 Y40 := by rw [← hY40]; exact Below.alloc1 (Below.refl _ _) _ (Nat.le_refl _)
    replace HM := Lib.hid (HM.out.below hy41)
    replace HT := Lib.hid (RowIs.below HT.out hy41)
    replace HP := Lib.hid (RowIs.below HP.out hy41)
    replace hB := bup hB hy41
    have RA := Lib.hid (show RowIs Y40 w38.heap.size #[.int .i64 k1, .int .i64 k2] 29 by rw [← hY40]; exact heap_new_at _ _ _ rfl)
    obtain ⟨bRA, hbRA⟩ : ∃ bRA, w38.heap.size = bRA := ⟨_, rfl⟩
    rw [hbRA] at RA
    have hC42 := rcheckProof_c a n cap m l c sure p Y40 HM.out hn
    rw [HK.out] at hC42
    try dsimp only [re2, re3, proofV, zeroP] at hC42
    have C42 := Lib.hid hC42
    clear hC42
    obtain ⟨tc0, tc1, _, _, tz⟩ := ratrow2 HT.out
    obtain ⟨⟨pc0, pc1, pc2, pc3, pz⟩, _⟩ := qrow HP.out
    go_wp2_with fail
    clear hw39 hbRA hY40 hy41 tc0 tc1 tz pc0 pc1 pc2 pc3 pz
    refine C42.out.mono ?_
    rintro e w43 ⟨rfl, hw44⟩
    clear C42
    replace HM := Lib.hid (HM.out.below hw44)
    replace HT := Lib.hid (RowIs.below HT.out hw44)
    replace HP := Lib.hid (RowIs.below HP.out hw44)
    replace RA := Lib.hid (RowIs.below RA.out hw44)
    replace hB := bup hB hw44
    obtain ⟨Y45, hY45⟩ : ∃ Y45, w43.alloc (.cells #[.int .i64 k1, .int .i64 k2] 29) = Y45 := ⟨_, rfl⟩
    have hy46 : Below w43.heap.size w43 Y45 := by rw [← hY45]; exact Below.alloc1 (Below.refl _ _) _ (Nat.le_refl _)
    replace HM := Lib.hid (HM.out.below hy46)
    replace HT := Lib.hid (RowIs.below HT.out hy46)
    replace HP := Lib.hid (RowIs.below HP.out hy46)
    replace RA := Lib.hid (RowIs.below RA.out hy46)
    replace hB := bup hB hy46
    have RB := Lib.hid (show RowIs Y45 w43.heap.size #[.int .i64 k1, .int .i64 k2] 29 by rw [← hY45]; exact heap_new_at _ _ _ rfl)
    obtain ⟨bRB, hbRB⟩ : ∃ bRB, w43.heap.size = bRB := ⟨_, rfl⟩
    rw [hbRB] at RB
    have hC47 := rLeast_c a n cap m l c sure Y45 HM.out hn
    rw [hS] at hC47
    try dsimp only [re2, re3, proofV, zeroP] at hC47
    have C47 := Lib.hid hC47
    clear hC47
    obtain ⟨tc0, tc1, _, _, tz⟩ := ratrow2 HT.out
    go_wp2_with fail
    clear hw44 hbRB hY45 hy46 tc0 tc1 tz
    refine C47.out.mono ?_
    rintro e w48 ⟨rfl, hw49⟩
    clear C47
    replace HM := Lib.hid (HM.out.below hw49)
    replace HT := Lib.hid (RowIs.below HT.out hw49)
    replace HP := Lib.hid (RowIs.below HP.out hw49)
    replace RA := Lib.hid (RowIs.below RA.out hw49)
    replace RB := Lib.hid (RowIs.below RB.out hw49)
    replace hB := bup hB hw49
    obtain ⟨Y50, hY50⟩ : ∃ Y50, w48.alloc (.cells #[.int .i64 x1, .int .i64 x2] 29) = Y50 := ⟨_, rfl⟩
    have hy51 : Below w48.heap.size w48 Y50 := by rw [← hY50]; exact Below.alloc1 (Below.refl _ _) _ (Nat.le_refl _)
    replace HM := Lib.hid (HM.out.below hy51)
    replace HT := Lib.hid (RowIs.below HT.out hy51)
    replace HP := Lib.hid (RowIs.below HP.out hy51)
    replace RA := Lib.hid (RowIs.below RA.out hy51)
    replace RB := Lib.hid (RowIs.below RB.out hy51)
    replace hB := bup hB hy51
    have RC := Lib.hid (show RowIs Y50 w48.heap.size #[.int .i64 x1, .int .i64 x2] 29 by rw [← hY50]; exact heap_new_at _ _ _ rfl)
    obtain ⟨bRC, hbRC⟩ : ∃ bRC, w48.heap.size = bRC := ⟨_, rfl⟩
    rw [hbRC] at RC
    have hC52 := Proof_no_c a n cap m l c sure Y50 HM.out hn (by rw [hpe]; exact hE)
    rw [hpe] at hC52
    try dsimp only [re2, re3, proofV, zeroP] at hC52
    have C52 := Lib.hid hC52
    clear hC52
    obtain ⟨tc0, tc1, _, _, tz⟩ := ratrow2 HT.out
    go_wp2_with fail
    clear hw49 hbRC hY50 hy51 tc0 tc1 tz
    refine C52.out.mono ?_
    rintro e w53 ⟨rfl, hw54⟩
    clear C52
    replace HM := Lib.hid (HM.out.below hw54)
    replace HT := Lib.hid (RowIs.below HT.out hw54)
    replace HP := Lib.hid (RowIs.below HP.out hw54)
    replace RA := Lib.hid (RowIs.below RA.out hw54)
    replace RB := Lib.hid (RowIs.below RB.out hw54)
    replace RC := Lib.hid (RowIs.below RC.out hw54)
    replace hB := bup hB hw54
    obtain ⟨Y55, hY55⟩ : ∃ Y55, w53.alloc (.cells #[.int .i64 0, .int .i64 0, .int .i64 0, .int .i64 0] 45) = Y55 := ⟨_, rfl⟩
    have hy56 : Below w53.heap.size w53 Y55 := by rw [← hY55]; exact Below.alloc1 (Below.refl _ _) _ (Nat.le_refl _)
    have zY55 : RowIs Y55 w53.heap.size #[.int .i64 0, .int .i64 0, .int .i64 0, .int .i64 0] 45 := by rw [← hY55]; exact heap_new_at _ _ _ rfl
    obtain ⟨⟨yY550, yY551, yY552, yY553, yY558⟩, yY554, yY555, yY556, yY557⟩ := qrow (p := zeroP) zY55
    obtain ⟨Z57, hZ57⟩ : ∃ Z57, ((((Y55.setCell ⟨w53.heap.size, 0, none⟩ (.int .i64 0)).setCell ⟨w53.heap.size, 1, none⟩ (.int .i64 0)).setCell ⟨w53.heap.size, 2, none⟩ (.int .i64 0)).setCell ⟨w53.heap.size, 3, none⟩ (.int .i64 0)) = Z57 := ⟨_, rfl⟩
    have hz58 : Below w53.heap.size w53 Z57 := hy56.trans (by rw [← hZ57]; exact (((((Below.refl _ Y55).setCell (p := ⟨w53.heap.size, 0, none⟩) (Nat.le_refl _) _).setCell (p := ⟨w53.heap.size, 1, none⟩) (Nat.le_refl _) _).setCell (p := ⟨w53.heap.size, 2, none⟩) (Nat.le_refl _) _).setCell (p := ⟨w53.heap.size, 3, none⟩) (Nat.le_refl _) _))
    replace HM := Lib.hid (HM.out.below hz58)
    replace HT := Lib.hid (RowIs.below HT.out hz58)
    replace HP := Lib.hid (RowIs.below HP.out hz58)
    replace RA := Lib.hid (RowIs.below RA.out hz58)
    replace RB := Lib.hid (RowIs.below RB.out hz58)
    replace RC := Lib.hid (RowIs.below RC.out hz58)
    replace hB := bup hB hz58
    have RQ := Lib.hid (show RowIs Z57 w53.heap.size (prfRow zeroP) 45 by rw [← hZ57]; exact put4_row (show RowIs Y55 w53.heap.size (prfRow zeroP) 45 from zY55) zeroP)
    have hC59 := Never_yes_c a n cap m l c sure Z57 HM.out hn hbo hemp hNP.1
    try dsimp only [re2, re3, proofV, zeroP] at hC59
    have C59 := Lib.hid hC59
    clear hC59
    obtain ⟨tc0, tc1, _, _, tz⟩ := ratrow2 HT.out
    go_wp2_with fail
    clear hw54 hY55 hy56 zY55 yY550 yY551 yY552 yY553 yY554 yY555 yY556 yY557 yY558 hZ57 hz58 tc0 tc1 tz
    refine C59.out.mono ?_
    rintro e w60 ⟨L, hLL, rfl, hw61⟩
    clear C59
    replace HM := Lib.hid (HM.out.below hw61)
    replace HT := Lib.hid (RowIs.below HT.out hw61)
    replace HP := Lib.hid (RowIs.below HP.out hw61)
    replace RA := Lib.hid (RowIs.below RA.out hw61)
    replace RB := Lib.hid (RowIs.below RB.out hw61)
    replace RC := Lib.hid (RowIs.below RC.out hw61)
    replace RQ := Lib.hid (RowIs.below RQ.out hw61)
    replace hB := bup hB hw61
    obtain ⟨q, hq⟩ : ∃ q, bestP (neverLt l c) L = q := ⟨_, rfl⟩
    have HN0 := Lib.hid (show checkNeverE n m l c sure q = 0 by rw [← hq]; exact hNP.2 L hLL)
    rw [hq]
    clear hq hLL
    obtain ⟨Y62, hY62⟩ : ∃ Y62, w60.alloc (.cells #[.int .i64 q.d, .int .i64 q.b, .int .i64 q.l, .int .i64 q.c] 45) = Y62 := ⟨_, rfl⟩
    have hy63 : Below w60.heap.size w60 Y62 := by rw [← hY62]; exact Below.alloc1 (Below.refl _ _) _ (Nat.le_refl _)
    replace HM := Lib.hid (HM.out.below hy63)
    replace HT := Lib.hid (RowIs.below HT.out hy63)
    replace HP := Lib.hid (RowIs.below HP.out hy63)
    replace RA := Lib.hid (RowIs.below RA.out hy63)
    replace RB := Lib.hid (RowIs.below RB.out hy63)
    replace RC := Lib.hid (RowIs.below RC.out hy63)
    replace RQ := Lib.hid (RowIs.below RQ.out hy63)
    replace hB := bup hB hy63
    have RW := Lib.hid (show RowIs Y62 w60.heap.size #[.int .i64 q.d, .int .i64 q.b, .int .i64 q.l, .int .i64 q.c] 45 by rw [← hY62]; exact heap_new_at _ _ _ rfl)
    obtain ⟨bRW, hbRW⟩ : ∃ bRW, w60.heap.size = bRW := ⟨_, rfl⟩
    rw [hbRW] at RW
    replace RW := Lib.hid (show RowIs Y62 bRW (prfRow q) 45 from RW.out)
    go_wp2_with fail
    clear hw61 hbRW hY62 hy63
    obtain ⟨d, hd⟩ : ∃ d, checkNeverE n m l c sure p = d := ⟨_, rfl⟩
    have A0 := Lib.hid (fun (x : World) (hx : Below Y62.heap.size Y62 x) => by
      have h := CheckNever_c a n cap m l c sure p x (HM.out.below hx) hn
      rw [hd] at h
      exact h)
    have A1 := Lib.hid (fun (x : World) (hx : Below Y62.heap.size Y62 x) => by
      have h := rcheckNever_c a n cap m l c sure p x (HM.out.below hx) hn
      rw [hd] at h
      exact h)
    have A2 := Lib.hid (fun (x : World) (hx : Below Y62.heap.size Y62 x) => by
      have h := rNeverError_c a n cap m l c sure x (HM.out.below hx) hn
      rw [hne] at h
      exact h)
    clear hd
    obtain ⟨⟨pc0, pc1, pc2, pc3, pz⟩, _⟩ := qrow HP.out
    have heq0 := fun (w : World) => eqRat k1 k2 w
    obtain ⟨v640, v641, _, _, v64z⟩ := ratrow2 HT.out
    obtain ⟨v650, v651, _, _, v65z⟩ := ratrow2 RA.out
    obtain ⟨v660, v661, _, _, v66z⟩ := ratrow2 RB.out
    have hlc := fun (x : Later Y62) => later_cell x
    refine wp_region_later (by kernel_rfl) (by kernel_rfl) ?_
    repeat (go_big_quiet_step ((first | (with_reducible refine calls_later (A0.out _ (Later.h _))) | (with_reducible refine calls_later (A1.out _ (Later.h _))) | (with_reducible refine calls_later (A2.out _ (Later.h _))))))
    refine wpQuiet_nil ?_
    clear hlc A0 A1 A2 pc0 pc1 pc2 pc3 pz heq0 v640 v641 v64z v650 v651 v65z v660 v661 v66z
    rintro ⟨w67, hw68⟩
    replace HM := Lib.hid (HM.out.below hw68)
    replace HT := Lib.hid (RowIs.below HT.out hw68)
    replace HP := Lib.hid (RowIs.below HP.out hw68)
    replace RA := Lib.hid (RowIs.below RA.out hw68)
    replace RB := Lib.hid (RowIs.below RB.out hw68)
    replace RC := Lib.hid (RowIs.below RC.out hw68)
    replace RQ := Lib.hid (RowIs.below RQ.out hw68)
    replace RW := Lib.hid (RowIs.below RW.out hw68)
    replace hB := bup hB hw68
    have heq1 := fun (w : World) => eqPrf zeroP w
    have hC69 := rcheckNever_c a n cap m l c sure q w67 HM.out hn
    rw [HN0.out] at hC69
    try dsimp only [re2, re3, proofV, zeroP] at hC69
    have C69 := Lib.hid hC69
    clear hC69
    obtain ⟨tc0, tc1, _, _, tz⟩ := ratrow2 HT.out
    obtain ⟨⟨q700, q701, q702, q703, q70z⟩, _⟩ := qrow (p := zeroP) RQ.out
    obtain ⟨⟨q710, q711, q712, q713, q71z⟩, _⟩ := qrow RW.out
    go_wp2_with fail
    clear hw68 tc0 tc1 tz q700 q701 q702 q703 q70z q710 q711 q712 q713 q71z heq1
    refine C69.out.mono ?_
    rintro e w72 ⟨rfl, hw73⟩
    clear C69
    replace HM := Lib.hid (HM.out.below hw73)
    replace HT := Lib.hid (RowIs.below HT.out hw73)
    replace HP := Lib.hid (RowIs.below HP.out hw73)
    replace RA := Lib.hid (RowIs.below RA.out hw73)
    replace RB := Lib.hid (RowIs.below RB.out hw73)
    replace RC := Lib.hid (RowIs.below RC.out hw73)
    replace RQ := Lib.hid (RowIs.below RQ.out hw73)
    replace RW := Lib.hid (RowIs.below RW.out hw73)
    replace hB := bup hB hw73
    go_wp2_with fail
    clear hw73
    refine (works_c _).mono ?_
    rintro e wz ⟨rfl, hbz⟩
    go_wp2
    go_ret
    exact ⟨rfl, bup hB hbz⟩
  · have hemp := pot_some hbs
    have hCP := cost_proved hbo hlow
    have hne : neverE n m l c sure = 5 := by unfold neverE; rw [if_neg (by omega), hemp]; rfl
    have hF : (5 : Int) ≠ 0 := by decide
    obtain ⟨x1, hx1⟩ : ∃ x, (costOf n m f).1 = x := ⟨_, rfl⟩
    obtain ⟨x2, hx2⟩ : ∃ x, (costOf n m f).2 = x := ⟨_, rfl⟩
    rw [hx1, hx2] at hL2 hCP
    have hS := hL2
    clear hx1 hx2 hL2 hbs hlow
    go_enter Tryz.func5, Tryz.ntmps5
    go_wp2_with fail
    refine (HG.out _).mono ?_
    rintro e w1 ⟨rfl, rfl⟩
    rw [hg]
    have hC74 := CheckProof_c a n cap m l c sure p W HM.out hn
    rw [HK.out] at hC74
    try dsimp only [re2, re3, proofV, zeroP] at hC74
    have C74 := Lib.hid hC74
    clear hC74
    obtain ⟨tc0, tc1, _, _, tz⟩ := ratrow2 HT.out
    obtain ⟨⟨pc0, pc1, pc2, pc3, pz⟩, _⟩ := qrow HP.out
    go_wp2_with fail
    clear hW hbt HG tc0 tc1 tz pc0 pc1 pc2 pc3 pz
    refine C74.out.mono ?_
    rintro e w75 ⟨rfl, hw76⟩
    clear C74
    replace HM := Lib.hid (HM.out.below hw76)
    replace HT := Lib.hid (RowIs.below HT.out hw76)
    replace HP := Lib.hid (RowIs.below HP.out hw76)
    replace hB := bup hB hw76
    obtain ⟨Y77, hY77⟩ : ∃ Y77, w75.alloc (.cells #[.int .i64 k1, .int .i64 k2] 29) = Y77 := ⟨_, rfl⟩
    have hy78 : Below w75.heap.size w75 Y77 := by rw [← hY77]; exact Below.alloc1 (Below.refl _ _) _ (Nat.le_refl _)
    replace HM := Lib.hid (HM.out.below hy78)
    replace HT := Lib.hid (RowIs.below HT.out hy78)
    replace HP := Lib.hid (RowIs.below HP.out hy78)
    replace hB := bup hB hy78
    have RA := Lib.hid (show RowIs Y77 w75.heap.size #[.int .i64 k1, .int .i64 k2] 29 by rw [← hY77]; exact heap_new_at _ _ _ rfl)
    obtain ⟨bRA, hbRA⟩ : ∃ bRA, w75.heap.size = bRA := ⟨_, rfl⟩
    rw [hbRA] at RA
    have hC79 := rcheckProof_c a n cap m l c sure p Y77 HM.out hn
    rw [HK.out] at hC79
    try dsimp only [re2, re3, proofV, zeroP] at hC79
    have C79 := Lib.hid hC79
    clear hC79
    obtain ⟨tc0, tc1, _, _, tz⟩ := ratrow2 HT.out
    obtain ⟨⟨pc0, pc1, pc2, pc3, pz⟩, _⟩ := qrow HP.out
    go_wp2_with fail
    clear hw76 hbRA hY77 hy78 tc0 tc1 tz pc0 pc1 pc2 pc3 pz
    refine C79.out.mono ?_
    rintro e w80 ⟨rfl, hw81⟩
    clear C79
    replace HM := Lib.hid (HM.out.below hw81)
    replace HT := Lib.hid (RowIs.below HT.out hw81)
    replace HP := Lib.hid (RowIs.below HP.out hw81)
    replace RA := Lib.hid (RowIs.below RA.out hw81)
    replace hB := bup hB hw81
    obtain ⟨Y82, hY82⟩ : ∃ Y82, w80.alloc (.cells #[.int .i64 k1, .int .i64 k2] 29) = Y82 := ⟨_, rfl⟩
    have hy83 : Below w80.heap.size w80 Y82 := by rw [← hY82]; exact Below.alloc1 (Below.refl _ _) _ (Nat.le_refl _)
    replace HM := Lib.hid (HM.out.below hy83)
    replace HT := Lib.hid (RowIs.below HT.out hy83)
    replace HP := Lib.hid (RowIs.below HP.out hy83)
    replace RA := Lib.hid (RowIs.below RA.out hy83)
    replace hB := bup hB hy83
    have RB := Lib.hid (show RowIs Y82 w80.heap.size #[.int .i64 k1, .int .i64 k2] 29 by rw [← hY82]; exact heap_new_at _ _ _ rfl)
    obtain ⟨bRB, hbRB⟩ : ∃ bRB, w80.heap.size = bRB := ⟨_, rfl⟩
    rw [hbRB] at RB
    have hC84 := rLeast_c a n cap m l c sure Y82 HM.out hn
    rw [hS] at hC84
    try dsimp only [re2, re3, proofV, zeroP] at hC84
    have C84 := Lib.hid hC84
    clear hC84
    obtain ⟨tc0, tc1, _, _, tz⟩ := ratrow2 HT.out
    go_wp2_with fail
    clear hw81 hbRB hY82 hy83 tc0 tc1 tz
    refine C84.out.mono ?_
    rintro e w85 ⟨rfl, hw86⟩
    clear C84
    replace HM := Lib.hid (HM.out.below hw86)
    replace HT := Lib.hid (RowIs.below HT.out hw86)
    replace HP := Lib.hid (RowIs.below HP.out hw86)
    replace RA := Lib.hid (RowIs.below RA.out hw86)
    replace RB := Lib.hid (RowIs.below RB.out hw86)
    replace hB := bup hB hw86
    obtain ⟨Y87, hY87⟩ : ∃ Y87, w85.alloc (.cells #[.int .i64 x1, .int .i64 x2] 29) = Y87 := ⟨_, rfl⟩
    have hy88 : Below w85.heap.size w85 Y87 := by rw [← hY87]; exact Below.alloc1 (Below.refl _ _) _ (Nat.le_refl _)
    replace HM := Lib.hid (HM.out.below hy88)
    replace HT := Lib.hid (RowIs.below HT.out hy88)
    replace HP := Lib.hid (RowIs.below HP.out hy88)
    replace RA := Lib.hid (RowIs.below RA.out hy88)
    replace RB := Lib.hid (RowIs.below RB.out hy88)
    replace hB := bup hB hy88
    have RC := Lib.hid (show RowIs Y87 w85.heap.size #[.int .i64 x1, .int .i64 x2] 29 by rw [← hY87]; exact heap_new_at _ _ _ rfl)
    obtain ⟨bRC, hbRC⟩ : ∃ bRC, w85.heap.size = bRC := ⟨_, rfl⟩
    rw [hbRC] at RC
    have hC89 := Proof_yes_c a n cap m l c sure Y87 HM.out hn hbo hemp hCP.1
    try dsimp only [re2, re3, proofV, zeroP] at hC89
    have C89 := Lib.hid hC89
    clear hC89
    obtain ⟨tc0, tc1, _, _, tz⟩ := ratrow2 HT.out
    go_wp2_with fail
    clear hw86 hbRC hY87 hy88 tc0 tc1 tz
    refine C89.out.mono ?_
    rintro e w90 ⟨L, hLL, rfl, hw91⟩
    clear C89
    replace HM := Lib.hid (HM.out.below hw91)
    replace HT := Lib.hid (RowIs.below HT.out hw91)
    replace HP := Lib.hid (RowIs.below HP.out hw91)
    replace RA := Lib.hid (RowIs.below RA.out hw91)
    replace RB := Lib.hid (RowIs.below RB.out hw91)
    replace RC := Lib.hid (RowIs.below RC.out hw91)
    replace hB := bup hB hw91
    obtain ⟨q, hq⟩ : ∃ q, bestP (costLt l c) L = q := ⟨_, rfl⟩
    have HN0 := Lib.hid (show checkProofR n m l c sure q = (x1, x2, 0) by rw [← hq]; exact hCP.2 L hLL)
    rw [hq]
    clear hq hLL
    obtain ⟨Y92, hY92⟩ : ∃ Y92, w90.alloc (.cells #[.int .i64 q.d, .int .i64 q.b, .int .i64 q.l, .int .i64 q.c] 45) = Y92 := ⟨_, rfl⟩
    have hy93 : Below w90.heap.size w90 Y92 := by rw [← hY92]; exact Below.alloc1 (Below.refl _ _) _ (Nat.le_refl _)
    replace HM := Lib.hid (HM.out.below hy93)
    replace HT := Lib.hid (RowIs.below HT.out hy93)
    replace HP := Lib.hid (RowIs.below HP.out hy93)
    replace RA := Lib.hid (RowIs.below RA.out hy93)
    replace RB := Lib.hid (RowIs.below RB.out hy93)
    replace RC := Lib.hid (RowIs.below RC.out hy93)
    replace hB := bup hB hy93
    have RQ := Lib.hid (show RowIs Y92 w90.heap.size #[.int .i64 q.d, .int .i64 q.b, .int .i64 q.l, .int .i64 q.c] 45 by rw [← hY92]; exact heap_new_at _ _ _ rfl)
    obtain ⟨bRQ, hbRQ⟩ : ∃ bRQ, w90.heap.size = bRQ := ⟨_, rfl⟩
    rw [hbRQ] at RQ
    replace RQ := Lib.hid (show RowIs Y92 bRQ (prfRow q) 45 from RQ.out)
    have hC94 := Never_no_c a n cap m l c sure Y92 HM.out hn (by rw [hne]; exact hF)
    rw [hne] at hC94
    try dsimp only [re2, re3, proofV, zeroP] at hC94
    have C94 := Lib.hid hC94
    clear hC94
    obtain ⟨tc0, tc1, _, _, tz⟩ := ratrow2 HT.out
    go_wp2_with fail
    clear hw91 hbRQ hY92 hy93 tc0 tc1 tz
    refine C94.out.mono ?_
    rintro e w95 ⟨rfl, hw96⟩
    clear C94
    replace HM := Lib.hid (HM.out.below hw96)
    replace HT := Lib.hid (RowIs.below HT.out hw96)
    replace HP := Lib.hid (RowIs.below HP.out hw96)
    replace RA := Lib.hid (RowIs.below RA.out hw96)
    replace RB := Lib.hid (RowIs.below RB.out hw96)
    replace RC := Lib.hid (RowIs.below RC.out hw96)
    replace RQ := Lib.hid (RowIs.below RQ.out hw96)
    replace hB := bup hB hw96
    obtain ⟨Y97, hY97⟩ : ∃ Y97, w95.alloc (.cells #[.int .i64 0, .int .i64 0, .int .i64 0, .int .i64 0] 45) = Y97 := ⟨_, rfl⟩
    have hy98 : Below w95.heap.size w95 Y97 := by rw [← hY97]; exact Below.alloc1 (Below.refl _ _) _ (Nat.le_refl _)
    have zY97 : RowIs Y97 w95.heap.size #[.int .i64 0, .int .i64 0, .int .i64 0, .int .i64 0] 45 := by rw [← hY97]; exact heap_new_at _ _ _ rfl
    obtain ⟨⟨yY970, yY971, yY972, yY973, yY978⟩, yY974, yY975, yY976, yY977⟩ := qrow (p := zeroP) zY97
    obtain ⟨Z99, hZ99⟩ : ∃ Z99, ((((Y97.setCell ⟨w95.heap.size, 0, none⟩ (.int .i64 0)).setCell ⟨w95.heap.size, 1, none⟩ (.int .i64 0)).setCell ⟨w95.heap.size, 2, none⟩ (.int .i64 0)).setCell ⟨w95.heap.size, 3, none⟩ (.int .i64 0)) = Z99 := ⟨_, rfl⟩
    have hz100 : Below w95.heap.size w95 Z99 := hy98.trans (by rw [← hZ99]; exact (((((Below.refl _ Y97).setCell (p := ⟨w95.heap.size, 0, none⟩) (Nat.le_refl _) _).setCell (p := ⟨w95.heap.size, 1, none⟩) (Nat.le_refl _) _).setCell (p := ⟨w95.heap.size, 2, none⟩) (Nat.le_refl _) _).setCell (p := ⟨w95.heap.size, 3, none⟩) (Nat.le_refl _) _))
    replace HM := Lib.hid (HM.out.below hz100)
    replace HT := Lib.hid (RowIs.below HT.out hz100)
    replace HP := Lib.hid (RowIs.below HP.out hz100)
    replace RA := Lib.hid (RowIs.below RA.out hz100)
    replace RB := Lib.hid (RowIs.below RB.out hz100)
    replace RC := Lib.hid (RowIs.below RC.out hz100)
    replace RQ := Lib.hid (RowIs.below RQ.out hz100)
    replace hB := bup hB hz100
    have RW := Lib.hid (show RowIs Z99 w95.heap.size (prfRow zeroP) 45 by rw [← hZ99]; exact put4_row (show RowIs Y97 w95.heap.size (prfRow zeroP) 45 from zY97) zeroP)
    go_wp2_with fail
    clear hw96 hY97 hy98 zY97 yY970 yY971 yY972 yY973 yY974 yY975 yY976 yY977 yY978 hZ99 hz100
    obtain ⟨d, hd⟩ : ∃ d, checkNeverE n m l c sure p = d := ⟨_, rfl⟩
    have A0 := Lib.hid (fun (x : World) (hx : Below Z99.heap.size Z99 x) => by
      have h := CheckNever_c a n cap m l c sure p x (HM.out.below hx) hn
      rw [hd] at h
      exact h)
    have A1 := Lib.hid (fun (x : World) (hx : Below Z99.heap.size Z99 x) => by
      have h := rcheckNever_c a n cap m l c sure p x (HM.out.below hx) hn
      rw [hd] at h
      exact h)
    have A2 := Lib.hid (fun (x : World) (hx : Below Z99.heap.size Z99 x) => by
      have h := rNeverError_c a n cap m l c sure x (HM.out.below hx) hn
      rw [hne] at h
      exact h)
    clear hd
    obtain ⟨⟨pc0, pc1, pc2, pc3, pz⟩, _⟩ := qrow HP.out
    have heq0 := fun (w : World) => eqRat k1 k2 w
    obtain ⟨v1010, v1011, _, _, v101z⟩ := ratrow2 HT.out
    obtain ⟨v1020, v1021, _, _, v102z⟩ := ratrow2 RA.out
    obtain ⟨v1030, v1031, _, _, v103z⟩ := ratrow2 RB.out
    have hlc := fun (x : Later Z99) => later_cell x
    refine wp_region_later (by kernel_rfl) (by kernel_rfl) ?_
    repeat (go_big_quiet_step ((first | (with_reducible refine calls_later (A0.out _ (Later.h _))) | (with_reducible refine calls_later (A1.out _ (Later.h _))) | (with_reducible refine calls_later (A2.out _ (Later.h _))))))
    refine wpQuiet_nil ?_
    clear hlc A0 A1 A2 pc0 pc1 pc2 pc3 pz heq0 v1010 v1011 v101z v1020 v1021 v102z v1030 v1031 v103z
    rintro ⟨w104, hw105⟩
    replace HM := Lib.hid (HM.out.below hw105)
    replace HT := Lib.hid (RowIs.below HT.out hw105)
    replace HP := Lib.hid (RowIs.below HP.out hw105)
    replace RA := Lib.hid (RowIs.below RA.out hw105)
    replace RB := Lib.hid (RowIs.below RB.out hw105)
    replace RC := Lib.hid (RowIs.below RC.out hw105)
    replace RQ := Lib.hid (RowIs.below RQ.out hw105)
    replace RW := Lib.hid (RowIs.below RW.out hw105)
    replace hB := bup hB hw105
    obtain ⟨tc0, tc1, _, _, tz⟩ := ratrow2 HT.out
    obtain ⟨⟨q1060, q1061, q1062, q1063, q106z⟩, _⟩ := qrow RQ.out
    have hC107 := rcheckProof_c a n cap m l c sure q w104 HM.out hn
    rw [HN0.out] at hC107
    try dsimp only [re2, re3, proofV, zeroP] at hC107
    have C107 := Lib.hid hC107
    clear hC107
    go_wp2_with fail
    clear hw105 tc0 tc1 tz q1060 q1061 q1062 q1063 q106z
    refine C107.out.mono ?_
    rintro e w108 ⟨rfl, hw109⟩
    clear C107
    replace HM := Lib.hid (HM.out.below hw109)
    replace HT := Lib.hid (RowIs.below HT.out hw109)
    replace HP := Lib.hid (RowIs.below HP.out hw109)
    replace RA := Lib.hid (RowIs.below RA.out hw109)
    replace RB := Lib.hid (RowIs.below RB.out hw109)
    replace RC := Lib.hid (RowIs.below RC.out hw109)
    replace RQ := Lib.hid (RowIs.below RQ.out hw109)
    replace RW := Lib.hid (RowIs.below RW.out hw109)
    replace hB := bup hB hw109
    obtain ⟨Y110, hY110⟩ : ∃ Y110, w108.alloc (.cells #[.int .i64 x1, .int .i64 x2] 29) = Y110 := ⟨_, rfl⟩
    have hy111 : Below w108.heap.size w108 Y110 := by rw [← hY110]; exact Below.alloc1 (Below.refl _ _) _ (Nat.le_refl _)
    replace HM := Lib.hid (HM.out.below hy111)
    replace HT := Lib.hid (RowIs.below HT.out hy111)
    replace HP := Lib.hid (RowIs.below HP.out hy111)
    replace RA := Lib.hid (RowIs.below RA.out hy111)
    replace RB := Lib.hid (RowIs.below RB.out hy111)
    replace RC := Lib.hid (RowIs.below RC.out hy111)
    replace RQ := Lib.hid (RowIs.below RQ.out hy111)
    replace RW := Lib.hid (RowIs.below RW.out hy111)
    replace hB := bup hB hy111
    have RN := Lib.hid (show RowIs Y110 w108.heap.size #[.int .i64 x1, .int .i64 x2] 29 by rw [← hY110]; exact heap_new_at _ _ _ rfl)
    obtain ⟨bRN, hbRN⟩ : ∃ bRN, w108.heap.size = bRN := ⟨_, rfl⟩
    rw [hbRN] at RN
    have heq0 := fun (w : World) => eqRat x1 x2 w
    have heq1 := fun (w : World) => eqPrf zeroP w
    obtain ⟨v1120, v1121, _, _, v112z⟩ := ratrow2 RN.out
    obtain ⟨v1130, v1131, _, _, v113z⟩ := ratrow2 RC.out
    obtain ⟨⟨q1140, q1141, q1142, q1143, q114z⟩, _⟩ := qrow (p := zeroP) RW.out
    go_wp2_with fail
    clear hw109 hbRN hY110 hy111 v1120 v1121 v112z v1130 v1131 v113z q1140 q1141 q1142 q1143 q114z heq0 heq1
    refine (works_c _).mono ?_
    rintro e wz ⟨rfl, hbz⟩
    go_wp2
    go_ret
    exact ⟨rfl, bup hB hbz⟩

end Go.Proofs.YtehafggcncbnkaaGreat

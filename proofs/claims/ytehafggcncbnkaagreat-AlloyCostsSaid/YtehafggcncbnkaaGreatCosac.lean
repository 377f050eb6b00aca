/- For whatever arguments, the law AlloyCosts returns true, and each argument reads behind the call as it read before. No condition. -/
import Derived.WalkKit
import Derived.Test.YtehafggcncbnkaaGreatProg
import Derived.Test.YtehafggcncbnkaaGreatBasaa
import Derived.Test.YtehafggcncbnkaaGreatBasae
import Derived.Test.YtehafggcncbnkaaGreatBasag
import Derived.Test.YtehafggcncbnkaaGreatBasak
import Derived.Test.YtehafggcncbnkaaGreatBasao
import Derived.Test.YtehafggcncbnkaaGreatBasav
import Derived.Test.YtehafggcncbnkaaGreatCosaa
import Derived.Test.YtehafggcncbnkaaGreatCosab
import Derived.Deep.QuietTactic
import Derived.BigQuiet
import Derived.Test.YtehafggcncbnkaaGreatBasaf
import Derived.Test.YtehafggcncbnkaaGreatBasau
import Derived.Test.YtehafggcncbnkaaGreatBasas
import Derived.Test.YtehafggcncbnkaaGreatBasaq
import Derived.Test.YtehafggcncbnkaaGreatBasar
import Derived.Test.YtehafggcncbnkaaGreatRows
import Derived.Test.YtehafggcncbnkaaGreatBasax
import Derived.ProofKit
namespace Go.Proofs.YtehafggcncbnkaaGreat
open Go Go.RowKit

theorem edgeL_len {n : Nat} (m : Nat → M5) (l c : Int) (s : Bool) (hn : n ≤ 6) : (edgeL n m l c s).length ≤ 294 := by
  have h1 := edgeO_len s n m l c (edgesA n m l c s)
  have h2 := edgesI_len (fun i => spL s l (m i)) (fun i => spC s c (m i)) n hn
  unfold edgeL
  unfold edgesA at *
  omega

theorem edges_nil {w : World} {B n : Nat} {v : Value} (h : EdgesAt w B n v []) : v = .slice none 0 0 ∨ ∃ g c, v = .slice (some ⟨g, 0, none⟩) 0 c := by
  obtain ⟨hs, h1, _⟩ := h
  rcases h1.2 with ⟨hv, h0⟩ | ⟨g, cap, _, hv, _⟩
  · exact .inl hv
  · exact .inr ⟨_, _, hv⟩

set_option maxRecDepth 100000 in
set_option maxHeartbeats 8000000 in
theorem rLeast_c (a : Option Addr) (n cap : Nat) (m : Nat → M5) (l c : Int) (s : Bool) (w : World) (hm : Metals w a n m) (hn : n ≤ 1048576) :
    Calls Tryz.prog 30 #[.slice a n cap, .agg #[.int .i64 l, .int .i64 c], .bool s] w fun e w' => e = .returned (re2 (leastR n m l c s)) ∧ Below w.heap.size w w' := by
  obtain ⟨W, hW⟩ : ∃ W, (w.alloc (.cells #[.int .i64 l, .int .i64 c] 24)).alloc (.cells #[.int .i64 0, .int .i64 0] 29) = W := ⟨_, rfl⟩
  have hB0 : Below w.heap.size w W := by rw [← hW]; exact Below.alloc1 (Below.alloc1 (Below.refl _ _) _ (Nat.le_refl _)) _ (Nat.le_refl _)
  have HT := Lib.hid (show RowIs W w.heap.size #[.int .i64 l, .int .i64 c] 24 by rw [← hW]; exact RowIs.alloc (heap_new_at _ _ _ rfl) _)
  have HR := Lib.hid (show RowIs W (w.heap.size + 1) #[.int .i64 0, .int .i64 0] 29 by rw [← hW]; exact heap_new_at _ _ _ (by simp))
  have hWs : w.heap.size + 1 < W.heap.size := (Array.getElem?_eq_some_iff.1 HR.out).1
  have HM := Lib.hid (hm.below hB0)
  have HB0 := Lib.hid hB0
  obtain ⟨tc0, tc1, _, _, tz⟩ := ratrow2 HT.out
  clear hm hB0
  by_cases h0 : bothE n m l c = 0
  case neg =>
    have h0' : (bothE n m l c != 0) = true := by simp [h0]
    have ev : leastR n m l c s = (0, 0, bothE n m l c) := by unfold leastR; rw [if_pos h0]
    rw [ev]
    have HC := Lib.hid (fun (x : World) (hx : Below W.heap.size W x) => rboth_c a n cap m l c x (HM.out.below hx) (by omega))
    obtain ⟨E, hE⟩ : ∃ E, bothE n m l c = E := ⟨_, rfl⟩
    rw [hE] at HC h0' ⊢
    clear h0 ev hE
    go_enter Tryz.func30, Tryz.ntmps30
    go_wp2_with fail
    refine (HC.out _ (Below.refl _ _)).mono ?_
    rintro e w1 ⟨rfl, hb1⟩
    clear hW
    have HT1 := Lib.hid (RowIs.below HT.out hb1)
    obtain ⟨td0, td1, _, _, tdz⟩ := ratrow2 HT1.out
    go_wp2_with fail
    refine (HC.out _ hb1).mono ?_
    rintro e w2 ⟨rfl, hb2⟩
    have hb12 := bup hb1 hb2
    obtain ⟨r0, r1, z0, z1, rz⟩ := ratrow2 (RowIs.below HR.out hb12)
    clear tc0 tc1 td0 td1
    go_wp2_with fail
    refine bodyPost_ret (v := re2 (0, 0, E)) (by simp [results, Tryz.results30, go_sem, r0, r1]) rfl ⟨rfl, ?_⟩
    exact ((bup HB0.out hb12).setCell (p := ⟨w.heap.size + 1, 0, none⟩) (Nat.le_succ _) _).setCell (p := ⟨w.heap.size + 1, 1, none⟩) (Nat.le_succ _) _
  case pos =>
  obtain ⟨hM, ht⟩ := both_ok h0
  have hF := fine_of hM
  have hn6 := hF.2.1
  have hn1 := hF.1
  have h0' : (bothE n m l c != 0) = false := by simp [h0]
  have HC := Lib.hid (fun (x : World) (hx : Below W.heap.size W x) => rboth_c a n cap m l c x (HM.out.below hx) (by omega))
  have HG := Lib.hid (fun (x : World) (hx : Below W.heap.size W x) => redges_c a n cap m l c s x (HM.out.below hx) hF ht)
  rcases edge_least h0 s with ⟨hnil, hl, _⟩ | ⟨hpos, hl, _⟩
  · rw [hl]
    rw [hnil] at HG
    simp only [List.map_nil] at HG
    obtain ⟨E, hE⟩ : ∃ E, bothE n m l c = E := ⟨_, rfl⟩
    rw [hE] at HC h0'
    clear h0 hE hnil hl
    go_enter Tryz.func30, Tryz.ntmps30
    go_wp2_with fail
    refine (HC.out _ (Below.refl _ _)).mono ?_
    rintro e w1 ⟨rfl, hb1⟩
    clear hW
    obtain ⟨td0, td1, _, _, tdz⟩ := ratrow2 (RowIs.below HT.out hb1)
    clear tc0 tc1
    go_wp2_with fail
    refine (HG.out _ hb1).mono ?_
    rintro e w2 ⟨v, B, rfl, hE, hb2⟩
    have hb12 := bup hb1 hb2
    obtain ⟨r0, r1, z0, z1, rz⟩ := ratrow2 (RowIs.below HR.out hb12)
    clear td0 td1
    rcases edges_nil hE with rfl | ⟨g, cp, rfl⟩
    all_goals
      go_wp2_with fail
      refine bodyPost_ret (v := re2 (0, 0, 17)) (by simp [results, Tryz.results30, go_sem, r0, r1]) rfl ⟨rfl, ?_⟩
      exact ((bup HB0.out hb12).setCell (p := ⟨w.heap.size + 1, 0, none⟩) (Nat.le_succ _) _).setCell (p := ⟨w.heap.size + 1, 1, none⟩) (Nat.le_succ _) _
  · rw [hl]
    obtain ⟨K, hK⟩ : ∃ K, (edgeL n m l c s).length = K := ⟨_, rfl⟩
    obtain ⟨V, hV⟩ : ∃ V, edgeCost n m l c s = V := ⟨_, rfl⟩
    have hT : ∀ i, i < K → Tame (V i) := by rw [← hV, ← hK]; exact edgeCost_tame hF ht
    have HTm := Lib.hid (minV_tame hT (by omega))
    have HTv := Lib.hid hT
    have hKb := edgeL_len m l c s hn6
    rw [hK] at hKb
    obtain ⟨L, hL⟩ : ∃ L, edgeL n m l c s = L := ⟨_, rfl⟩
    have HCost := Lib.hid (fun (i : Nat) (hi : i < K) (b : Nat) (x : World) (hx : Below W.heap.size W x) (hr : RowIs x b (rowZ n (L.getD i fun _ => 0)) 2) => by
      have hp := edge_part hF ht (s := s) (i := i) (by rw [hK]; exact hi)
      have h := rcostOf_c a (some ⟨b, 0, none⟩) n cap n m (edgeF n m l c s i) x (HM.out.below hx) (ints_rowZ (by unfold edgeF; rw [hL]; exact hr)) hF (fun j hj => by have := hp.1 j; omega) hp.2.1
      rw [show ratV (priceF m (edgeF n m l c s i) n) (sumF (edgeF n m l c s i) n) = .agg #[.int .i64 (V i).1, .int .i64 (V i).2] by rw [← hV]] at h
      exact h)
    rw [hL] at hK
    clear hl
    rw [hV, hL, hK]
    rw [hL] at HG hpos
    rw [hK] at hpos
    obtain ⟨E, hE⟩ : ∃ E, bothE n m l c = E := ⟨_, rfl⟩
    rw [hE] at HC h0'
    have HK := Lib.hid hK
    clear h0 hE hT hV hL hK
    go_enter Tryz.func30, Tryz.ntmps30
    go_wp2_with fail
    refine (HC.out _ (Below.refl _ _)).mono ?_
    rintro e w1 ⟨rfl, hb1⟩
    clear hW
    obtain ⟨td0, td1, _, _, tdz⟩ := ratrow2 (RowIs.below HT.out hb1)
    clear tc0 tc1
    go_wp2_with fail
    refine (HG.out _ hb1).mono ?_
    rintro e w2 ⟨v, B, rfl, hE, hb2⟩
    have HB2 := Lib.hid (bup hb1 hb2)
    have HE := Lib.hid hE
    clear td0 td1 hE hb1 hb2
    obtain ⟨g, cp, b0, rfl, hg, hBg, cell0, hr0, hb0⟩ := edges_at HE.out (t := 0) (by rw [HK.out]; exact hpos)
    rw [HK.out] at HE ⊢
    have HC0 := Lib.hid (HCost.out 0 hpos b0 w2 HB2.out hr0)
    have hw2 := HB2.out.size
    clear hr0
    go_wp2_with fail
    refine HC0.out.mono ?_
    rintro e w3 ⟨rfl, hb3⟩
    clear cell0 HC0
    obtain ⟨Yp, hYp⟩ : ∃ Y, w3.alloc (.cells #[.int .i64 0, .int .i64 0] 29) = Y := ⟨_, rfl⟩
    have hyp : Below w3.heap.size w3 Yp := by rw [← hYp]; exact Below.alloc1 (Below.refl _ _) _ (Nat.le_refl _)
    have zp : RowIs Yp w3.heap.size #[.int .i64 0, .int .i64 0] 29 := by rw [← hYp]; exact heap_new_at _ _ _ rfl
    obtain ⟨up0, up1, up2, up3, up4⟩ := ratrow2 zp
    obtain ⟨Zp, hZp⟩ : ∃ Z, (Yp.setCell ⟨w3.heap.size, 0, none⟩ (.int .i64 (V 0).1)).setCell ⟨w3.heap.size, 1, none⟩ (.int .i64 (V 0).2) = Z := ⟨_, rfl⟩
    have hzp : Below w3.heap.size w3 Zp := hyp.trans (by rw [← hZp]; exact ((Below.refl _ Yp).setCell (p := ⟨w3.heap.size, 0, none⟩) (Nat.le_refl _) _).setCell (p := ⟨w3.heap.size, 1, none⟩) (Nat.le_refl _) _)
    have Rp := Lib.hid (show RowIs Zp w3.heap.size #[.int .i64 (V 0).1, .int .i64 (V 0).2] 29 by rw [← hZp]; exact put2_row zp _ _)
    go_wp2_with fail
    clear hYp hyp zp up0 up1 up2 up3 hZp
    have Bp := Lib.hid (bup hb3 hzp)
    have hw3 := hb3.size
    clear hb3 hzp
    obtain ⟨b9, hb9⟩ : ∃ b, w3.heap.size = b := ⟨_, rfl⟩
    rw [hb9] at Rp hw3 ⊢
    clear hb9
    go_loopw [10] (fun i wr => ∃ k, k ≤ K ∧ i = .int .i64 (k : Nat) ∧ RowIs wr b9 #[.int .i64 (minV V k).1, .int .i64 (minV V k).2] 29 ∧ Below w2.heap.size w2 wr) (fun i _ => K - (intOf i).toNat)
    case atStart => exact ⟨0, Nat.zero_le _, rfl, Rp.out, Bp.out⟩
    case round =>
      obtain ⟨k, hkK, rfl, hr9, hB⟩ := hrel
      have HB := Lib.hid hB
      have R9 := Lib.hid hr9
      clear Rp Bp hB hr9
      by_cases hlt : k < K
      · obtain ⟨g', cp', b, he_, hg', -, hcell, hr, hbz⟩ := edges_at (EdgesAt.below HE.out HB.out) (t := k) (by rw [HK.out]; exact hlt)
        rw [HK.out] at he_
        cases he_
        have HCk := HCost.out k hlt b wr (bup HB2.out HB.out) hr
        have hta := HTv.out k hlt
        have htb := HTm.out k (by omega)
        have hs1 := tame_mul hta htb
        have hs2 := tame_mul htb hta
        have EqM := Lib.hid (show minV V (k + 1) = if ltB (V k).1 (V k).2 (minV V k).1 (minV V k).2 then V k else minV V k from rfl)
        obtain ⟨⟨a1, a2⟩, ha⟩ : ∃ a, V k = a := ⟨_, rfl⟩
        obtain ⟨⟨c1, c2⟩, hc⟩ : ∃ a, minV V k = a := ⟨_, rfl⟩
        rw [ha, hc] at EqM hs1 hs2
        rw [hc] at R9
        rw [ha] at HCk
        have HL := Lib.hid (fun (x : World) => rless_c a1 a2 c1 c2 x hs1 hs2)
        have HCk := Lib.hid HCk
        clear ha hc hta htb hs1 hs2 hr
        go_wp2_with fail
        refine HCk.out.mono ?_
        rintro e w4 ⟨rfl, hb4⟩
        clear hcell HCk
        obtain ⟨Yq, hYq⟩ : ∃ Y, w4.alloc (.cells #[.int .i64 0, .int .i64 0] 29) = Y := ⟨_, rfl⟩
        have hyq : Below w4.heap.size w4 Yq := by rw [← hYq]; exact Below.alloc1 (Below.refl _ _) _ (Nat.le_refl _)
        have zq : RowIs Yq w4.heap.size #[.int .i64 0, .int .i64 0] 29 := by rw [← hYq]; exact heap_new_at _ _ _ rfl
        obtain ⟨uq0, uq1, uq2, uq3, uq4⟩ := ratrow2 zq
        obtain ⟨Zq, hZq⟩ : ∃ Z, (Yq.setCell ⟨w4.heap.size, 0, none⟩ (.int .i64 a1)).setCell ⟨w4.heap.size, 1, none⟩ (.int .i64 a2) = Z := ⟨_, rfl⟩
        have hzq : Below w4.heap.size w4 Zq := hyq.trans (by rw [← hZq]; exact ((Below.refl _ Yq).setCell (p := ⟨w4.heap.size, 0, none⟩) (Nat.le_refl _) _).setCell (p := ⟨w4.heap.size, 1, none⟩) (Nat.le_refl _) _)
        have Rq := Lib.hid (show RowIs Zq w4.heap.size #[.int .i64 a1, .int .i64 a2] 29 by rw [← hZq]; exact put2_row zq _ _)
        obtain ⟨va0, va1, va2, va3, va4⟩ := ratrow2 Rq.out
        have R9q := Lib.hid (RowIs.below R9.out (bup hb4 hzq))
        obtain ⟨vb0, vb1, vb2, vb3, vb4⟩ := ratrow2 R9q.out
        go_wp2_with fail
        clear hYq hyq zq uq0 uq1 uq2 uq3 hZq
        have Bq := Lib.hid (bup HB.out (bup hb4 hzq))
        refine (HL.out _).mono ?_
        rintro e w5 ⟨rfl, hb5⟩
        have R9r := Lib.hid (RowIs.below R9q.out hb5)
        have Rqr := Lib.hid (RowIs.below Rq.out hb5)
        have Br := Lib.hid (bup Bq.out hb5)
        clear va0 va1 va2 va3 vb0 vb1 vb2 vb3 hb5 R9q Rq Bq
        obtain ⟨va0, va1, va2, va3, va5⟩ := ratrow2 Rqr.out
        obtain ⟨vb0, vb1, vb2, vb3, vb5⟩ := ratrow2 R9r.out
        cases hq : decide (a1 * c2 < c1 * a2)
        case false =>
          have e1 : minV V (k + 1) = (c1, c2) := by rw [EqM.out]; unfold ltB; rw [hq]; rfl
          have E1 := Lib.hid e1
          clear e1 hq
          go_wp2
          go_roundw
          case rel => exact ⟨k + 1, by omega, by go_num, by rw [E1.out]; exact R9r.out, Br.out⟩
          case measure => simp [intOf]; omega
        case true =>
          have e1 : minV V (k + 1) = (a1, a2) := by rw [EqM.out]; unfold ltB; rw [hq]; rfl
          have E1 := Lib.hid e1
          obtain ⟨Z, hZ⟩ : ∃ Z, (w5.setCell ⟨b9, 0, none⟩ (.int .i64 a1)).setCell ⟨b9, 1, none⟩ (.int .i64 a2) = Z := ⟨_, rfl⟩
          have RZ := Lib.hid (show RowIs Z b9 #[.int .i64 a1, .int .i64 a2] 29 by rw [← hZ]; exact put2_row R9r.out _ _)
          have BZ := Lib.hid (show Below w2.heap.size w2 Z by rw [← hZ]; exact (Br.out.setCell (p := ⟨b9, 0, none⟩) hw3 _).setCell (p := ⟨b9, 1, none⟩) hw3 _)
          clear e1 hq
          go_wp2
          go_roundw
          case rel => exact ⟨k + 1, by omega, by go_num, by rw [E1.out]; exact RZ.out, BZ.out⟩
          case measure => simp [intOf]; omega
      · obtain rfl : k = K := by omega
        obtain ⟨va0, va1, va2, va3, va4⟩ := ratrow2 R9.out
        have hBf := bup HB2.out HB.out
        obtain ⟨r0, r1, z0, z1, rz⟩ := ratrow2 (RowIs.below HR.out hBf)
        have HBf := Lib.hid (bup HB0.out hBf)
        clear hBf
        go_wp2_with fail
        refine bodyPost_ret (v := re2 ((minV V k).1, (minV V k).2, 0)) (by simp [results, Tryz.results30, go_sem, r0, r1]) rfl ⟨rfl, ?_⟩
        exact (HBf.out.setCell (p := ⟨w.heap.size + 1, 0, none⟩) (Nat.le_succ _) _).setCell (p := ⟨w.heap.size + 1, 1, none⟩) (Nat.le_succ _) _

set_option maxRecDepth 100000 in
set_option maxHeartbeats 4000000 in
theorem rNeverError_c (a : Option Addr) (n cap : Nat) (m : Nat → M5) (l c : Int) (s : Bool) (w : World) (hm : Metals w a n m) (hn : n ≤ 1048576) :
    Calls Tryz.prog 39 #[.slice a n cap, .agg #[.int .i64 l, .int .i64 c], .bool s] w fun e w' => e = .returned (.int .i64 (neverE n m l c s)) ∧ Below w.heap.size w w' := by
  obtain ⟨W, hW⟩ : ∃ W, w.alloc (.cells #[.int .i64 l, .int .i64 c] 24) = W := ⟨_, rfl⟩
  have hB0 : Below w.heap.size w W := by rw [← hW]; exact Below.alloc1 (Below.refl _ _) _ (Nat.le_refl _)
  have HT := Lib.hid (show RowIs W w.heap.size #[.int .i64 l, .int .i64 c] 24 by rw [← hW]; exact heap_new_at _ _ _ rfl)
  have HM := Lib.hid (hm.below hB0)
  have HB0 := Lib.hid hB0
  obtain ⟨tc0, tc1, _, _, tz⟩ := ratrow2 HT.out
  clear hm hB0
  have HC := Lib.hid (fun (x : World) (hx : Below W.heap.size W x) => rboth_c a n cap m l c x (HM.out.below hx) (by omega))
  by_cases h0 : bothE n m l c = 0
  case neg =>
    have h0' : (bothE n m l c != 0) = true := by simp [h0]
    have ev : neverE n m l c s = bothE n m l c := by unfold neverE; rw [if_pos h0]
    rw [ev]
    obtain ⟨E, hE⟩ : ∃ E, bothE n m l c = E := ⟨_, rfl⟩
    rw [hE] at HC h0' ⊢
    clear h0 ev hE
    go_enter Tryz.func39, Tryz.ntmps39
    go_wp2_with fail
    refine (HC.out _ (Below.refl _ _)).mono ?_
    rintro e w1 ⟨rfl, hb1⟩
    clear hW
    obtain ⟨td0, td1, _, _, tdz⟩ := ratrow2 (RowIs.below HT.out hb1)
    go_wp2_with fail
    refine (HC.out _ hb1).mono ?_
    rintro e w2 ⟨rfl, hb2⟩
    have HBf := Lib.hid (bup HB0.out (bup hb1 hb2))
    clear tc0 tc1 td0 td1 hb1 hb2
    go_wp2
    go_ret
    exact ⟨rfl, HBf.out⟩
  case pos =>
  obtain ⟨hM, ht⟩ := both_ok h0
  have hF := fine_of hM
  have hn6 := hF.2.1
  have h0' : (bothE n m l c != 0) = false := by simp [h0]
  have HG := Lib.hid (fun (x : World) (hx : Below W.heap.size W x) => redges_c a n cap m l c s x (HM.out.below hx) hF ht)
  have hKb := edgeL_len m l c s hn6
  rcases edge_least h0 s with ⟨hnil, hl, _⟩ | ⟨hpos, _, f, hbs, _⟩
  · have hbn : bestS (cheapB n m s) (potL n m l c s) = none := by
      unfold leastR at hl
      rw [if_neg (by omega)] at hl
      cases e : bestS (cheapB n m s) (potL n m l c s) with
      | none => rfl
      | some f => rw [e] at hl; simp at hl
    have ev : neverE n m l c s = 0 := by unfold neverE; rw [if_neg (by omega), pot_empty hbn]; rfl
    rw [ev]
    rw [hnil] at HG
    simp only [List.map_nil] at HG
    obtain ⟨E, hE⟩ : ∃ E, bothE n m l c = E := ⟨_, rfl⟩
    rw [hE] at HC h0'
    clear h0 hE hnil hl hbn ev hKb
    go_enter Tryz.func39, Tryz.ntmps39
    go_wp2_with fail
    refine (HC.out _ (Below.refl _ _)).mono ?_
    rintro e w1 ⟨rfl, hb1⟩
    clear hW
    obtain ⟨td0, td1, _, _, tdz⟩ := ratrow2 (RowIs.below HT.out hb1)
    clear tc0 tc1
    go_wp2_with fail
    refine (HG.out _ hb1).mono ?_
    rintro e w2 ⟨v, B, rfl, hE, hb2⟩
    have HBf := Lib.hid (bup HB0.out (bup hb1 hb2))
    clear td0 td1 hb1 hb2
    rcases edges_nil hE with rfl | ⟨g, cp, rfl⟩
    all_goals
      clear hE
      go_wp2
      go_ret
      exact ⟨rfl, HBf.out⟩
  · have ev : neverE n m l c s = 5 := by unfold neverE; rw [if_neg (by omega), if_neg (by rw [pot_some hbs]; simp)]
    rw [ev]
    obtain ⟨L, hL⟩ : ∃ L, edgeL n m l c s = L := ⟨_, rfl⟩
    rw [hL] at HG hpos hKb
    obtain ⟨E, hE⟩ : ∃ E, bothE n m l c = E := ⟨_, rfl⟩
    rw [hE] at HC h0'
    clear h0 hE hL hbs ev
    obtain ⟨K, hK⟩ : ∃ K, L.length = K := ⟨_, rfl⟩
    rw [hK] at hpos hKb
    have HK := Lib.hid hK
    clear hK
    go_enter Tryz.func39, Tryz.ntmps39
    go_wp2_with fail
    refine (HC.out _ (Below.refl _ _)).mono ?_
    rintro e w1 ⟨rfl, hb1⟩
    clear hW
    obtain ⟨td0, td1, _, _, tdz⟩ := ratrow2 (RowIs.below HT.out hb1)
    clear tc0 tc1
    go_wp2_with fail
    refine (HG.out _ hb1).mono ?_
    rintro e w2 ⟨v, B, rfl, hE, hb2⟩
    have HBf := Lib.hid (bup HB0.out (bup hb1 hb2))
    obtain ⟨ad, cp, he⟩ := hE.form
    rw [List.length_map, HK.out] at he
    subst he
    have hlt : decide ((0 : Int) < (K : Int)) = true := by simp; omega
    clear td0 td1 hb1 hb2 hE
    go_wp2
    go_ret
    exact ⟨rfl, HBf.out⟩

end Go.Proofs.YtehafggcncbnkaaGreat

namespace Go.Proofs.YtehafggcncbnkaaGreat
open Go Go.RowKit

theorem costs_cases (n : Nat) (m : Nat → M5) (l c : Int) (s : Bool) :
    (∃ x1 x2 E, E ≠ 0 ∧ leastR n m l c s = (x1, x2, E) ∧ cheapE n m l c s = E) ∨
    (bothE n m l c = 0 ∧ ∃ f, bestS (cheapB n m s) (potL n m l c s) = some f ∧ leastR n m l c s = ((costOf n m f).1, (costOf n m f).2, 0) ∧ Low n m l c s f) := by
  by_cases h0 : bothE n m l c = 0
  · rcases least_cases h0 s with ⟨h1, h2, _⟩ | ⟨f, h1, h2, h3⟩
    · refine .inl ⟨0, 0, 17, by decide, h1, ?_⟩
      unfold cheapE
      rw [if_neg (by omega), h2]
      rfl
    · exact .inr ⟨h0, f, h1, h2, h3⟩
  · exact .inl ⟨0, 0, bothE n m l c, h0, by unfold leastR; rw [if_pos h0], by unfold cheapE; rw [if_pos h0]⟩

set_option maxRecDepth 100000 in
set_option maxHeartbeats 16000000 in
theorem law_costs_c (a : Option Addr) (n cap : Nat) (m : Nat → M5) (l c : Int) (sure : Bool) (w : World) (hm : Metals w a n m) :
    Calls Tryz.prog 4 #[.slice a n cap, .agg #[.int .i64 l, .int .i64 c], .bool sure] w fun e w' => e = .returned (.bool true) ∧ Below w.heap.size w w' := by
  obtain ⟨W, hW⟩ : ∃ W, w.alloc (.cells #[.int .i64 l, .int .i64 c] 24) = W := ⟨_, rfl⟩
  have hB : Below w.heap.size w W := by rw [← hW]; exact (Below.alloc1 (Below.refl _ _) _ (Nat.le_refl _))
  have HT := Lib.hid (show RowIs W (w.heap.size) #[.int .i64 l, .int .i64 c] 24 by rw [← hW]; exact heap_new_at _ _ _ rfl)
  have HM := Lib.hid (hm.below hB)
  obtain ⟨bt, hbt⟩ : ∃ bt, w.heap.size = bt := ⟨_, rfl⟩
  rw [hbt] at HT
  have HG := Lib.hid (fun (x : World) => great_c a none n cap 0 0 x)
  clear hm
  cases hg : (decide (12 < n) || decide (12 < 0)) with
  | true =>
    go_enter Tryz.func4, Tryz.ntmps4
    go_wp2_with fail
    refine (HG.out _).mono ?_
    rintro e w1 ⟨rfl, rfl⟩
    rw [hg]
    go_wp2_with fail
    refine (works_c _).mono ?_
    rintro e w2 ⟨rfl, hb2⟩
    go_wp2
    go_ret
    exact ⟨rfl, bup hB hb2⟩
  | false =>
  have hn12 : n ≤ 12 := by simp at hg; omega
  have hn : n ≤ 1048576 := by omega
  rcases costs_cases n m l c sure with ⟨x1, x2, E, hE, hS, hch⟩ | ⟨hbo, f0, hbs, hS, hlow⟩
  · have hE' : (E != 0) = true := by simpa using hE
    go_enter Tryz.func4, Tryz.ntmps4
    go_wp2_with fail
    refine (HG.out _).mono ?_
    rintro e w1 ⟨rfl, rfl⟩
    rw [hg]
    have hC1 := Least_c a n cap m l c sure W HM.out hn
    rw [hS] at hC1
    try dsimp only [re2, re3, proofV, zeroP] at hC1
    have C1 := Lib.hid hC1
    clear hC1
    obtain ⟨tc0, tc1, _, _, tz⟩ := ratrow2 HT.out
    go_wp2_with fail
    clear hW hbt HG tc0 tc1 tz
    refine C1.out.mono ?_
    rintro e w2 ⟨rfl, hw3⟩
    clear C1
    replace HM := Lib.hid (HM.out.below hw3)
    replace HT := Lib.hid (RowIs.below HT.out hw3)
    replace hB := bup hB hw3
    obtain ⟨Y4, hY4⟩ : ∃ Y4, w2.alloc (.cells #[.int .i64 x1, .int .i64 x2] 29) = Y4 := ⟨_, rfl⟩
    have hy5 : Below w2.heap.size w2 Y4 := by rw [← hY4]; exact Below.alloc1 (Below.refl _ _) _ (Nat.le_refl _)
    replace HM := Lib.hid (HM.out.below hy5)
    replace HT := Lib.hid (RowIs.below HT.out hy5)
    replace hB := bup hB hy5
    have RA := Lib.hid (show RowIs Y4 w2.heap.size #[.int .i64 x1, .int .i64 x2] 29 by rw [← hY4]; exact heap_new_at _ _ _ rfl)
    obtain ⟨bRA, hbRA⟩ : ∃ bRA, w2.heap.size = bRA := ⟨_, rfl⟩
    rw [hbRA] at RA
    have hC6 := rLeast_c a n cap m l c sure Y4 HM.out hn
    rw [hS] at hC6
    try dsimp only [re2, re3, proofV, zeroP] at hC6
    have C6 := Lib.hid hC6
    clear hC6
    obtain ⟨tc0, tc1, _, _, tz⟩ := ratrow2 HT.out
    go_wp2_with fail
    clear hw3 hbRA hY4 hy5 tc0 tc1 tz
    refine C6.out.mono ?_
    rintro e w7 ⟨rfl, hw8⟩
    clear C6
    replace HM := Lib.hid (HM.out.below hw8)
    replace HT := Lib.hid (RowIs.below HT.out hw8)
    replace RA := Lib.hid (RowIs.below RA.out hw8)
    replace hB := bup hB hw8
    obtain ⟨Y9, hY9⟩ : ∃ Y9, w7.alloc (.cells #[.int .i64 x1, .int .i64 x2] 29) = Y9 := ⟨_, rfl⟩
    have hy10 : Below w7.heap.size w7 Y9 := by rw [← hY9]; exact Below.alloc1 (Below.refl _ _) _ (Nat.le_refl _)
    replace HM := Lib.hid (HM.out.below hy10)
    replace HT := Lib.hid (RowIs.below HT.out hy10)
    replace RA := Lib.hid (RowIs.below RA.out hy10)
    replace hB := bup hB hy10
    have RB := Lib.hid (show RowIs Y9 w7.heap.size #[.int .i64 x1, .int .i64 x2] 29 by rw [← hY9]; exact heap_new_at _ _ _ rfl)
    obtain ⟨bRB, hbRB⟩ : ∃ bRB, w7.heap.size = bRB := ⟨_, rfl⟩
    rw [hbRB] at RB
    have hC11 := Cheapest_no_c a n cap m l c sure Y9 HM.out hn (by rw [hch]; exact hE)
    rw [hch] at hC11
    try dsimp only [re2, re3, proofV, zeroP] at hC11
    have C11 := Lib.hid hC11
    clear hC11
    obtain ⟨tc0, tc1, _, _, tz⟩ := ratrow2 HT.out
    go_wp2_with fail
    clear hw8 hbRB hY9 hy10 tc0 tc1 tz
    refine C11.out.mono ?_
    rintro e w12 ⟨rfl, hw13⟩
    clear C11
    replace HM := Lib.hid (HM.out.below hw13)
    replace HT := Lib.hid (RowIs.below HT.out hw13)
    replace RA := Lib.hid (RowIs.below RA.out hw13)
    replace RB := Lib.hid (RowIs.below RB.out hw13)
    replace hB := bup hB hw13
    have heq0 := fun (w : World) => eqRat x1 x2 w
    obtain ⟨v140, v141, _, _, v14z⟩ := ratrow2 RA.out
    obtain ⟨v150, v151, _, _, v15z⟩ := ratrow2 RB.out
    go_wp2_with fail
    clear hw13 v140 v141 v14z v150 v151 v15z heq0
    refine (works_c _).mono ?_
    rintro e wz ⟨rfl, hbz⟩
    go_wp2
    go_ret
    exact ⟨rfl, bup hB hbz⟩
  · have hf0 : ∀ i, i < n → 0 ≤ f0 i ∧ f0 i ≤ 1000000 := fun i _ => hlow.mix.1 i
    have hmet := (both_ok hbo).1
    have HF := Lib.hid (fine_of hmet)
    have Hf0 := Lib.hid (show ∀ i, i < n → 0 ≤ f0 i ∧ f0 i ≤ 2147483648 from fun i hi => by have := hf0 i hi; omega)
    have Hs0 := Lib.hid hlow.mix.2.2
    have HDf := Lib.hid (show deservesE n m l c sure n f0 = 0 by rw [deserves_of hbo hf0 hlow.mix.2.2, hlow.good]; rfl)
    obtain ⟨x1, hx1⟩ : ∃ x, (costOf n m f0).1 = x := ⟨_, rfl⟩
    obtain ⟨x2, hx2⟩ : ∃ x, (costOf n m f0).2 = x := ⟨_, rfl⟩
    have HCo := Lib.hid (show ratV (priceF m f0 n) (sumF f0 n) = .agg #[.int .i64 x1, .int .i64 x2] by rw [← hx1, ← hx2])
    rw [hx1, hx2] at hS
    clear hx1 hx2 hf0 hlow hmet
    go_enter Tryz.func4, Tryz.ntmps4
    go_wp2_with fail
    refine (HG.out _).mono ?_
    rintro e w1 ⟨rfl, rfl⟩
    rw [hg]
    have hC16 := Least_c a n cap m l c sure W HM.out hn
    rw [hS] at hC16
    try dsimp only [re2, re3, proofV, zeroP] at hC16
    have C16 := Lib.hid hC16
    clear hC16
    obtain ⟨tc0, tc1, _, _, tz⟩ := ratrow2 HT.out
    go_wp2_with fail
    clear hW hbt HG tc0 tc1 tz
    refine C16.out.mono ?_
    rintro e w17 ⟨rfl, hw18⟩
    clear C16
    replace HM := Lib.hid (HM.out.below hw18)
    replace HT := Lib.hid (RowIs.below HT.out hw18)
    replace hB := bup hB hw18
    obtain ⟨Y19, hY19⟩ : ∃ Y19, w17.alloc (.cells #[.int .i64 x1, .int .i64 x2] 29) = Y19 := ⟨_, rfl⟩
    have hy20 : Below w17.heap.size w17 Y19 := by rw [← hY19]; exact Below.alloc1 (Below.refl _ _) _ (Nat.le_refl _)
    replace HM := Lib.hid (HM.out.below hy20)
    replace HT := Lib.hid (RowIs.below HT.out hy20)
    replace hB := bup hB hy20
    have RA := Lib.hid (show RowIs Y19 w17.heap.size #[.int .i64 x1, .int .i64 x2] 29 by rw [← hY19]; exact heap_new_at _ _ _ rfl)
    obtain ⟨bRA, hbRA⟩ : ∃ bRA, w17.heap.size = bRA := ⟨_, rfl⟩
    rw [hbRA] at RA
    have hC21 := rLeast_c a n cap m l c sure Y19 HM.out hn
    rw [hS] at hC21
    try dsimp only [re2, re3, proofV, zeroP] at hC21
    have C21 := Lib.hid hC21
    clear hC21
    obtain ⟨tc0, tc1, _, _, tz⟩ := ratrow2 HT.out
    go_wp2_with fail
    clear hw18 hbRA hY19 hy20 tc0 tc1 tz
    refine C21.out.mono ?_
    rintro e w22 ⟨rfl, hw23⟩
    clear C21
    replace HM := Lib.hid (HM.out.below hw23)
    replace HT := Lib.hid (RowIs.below HT.out hw23)
    replace RA := Lib.hid (RowIs.below RA.out hw23)
    replace hB := bup hB hw23
    obtain ⟨Y24, hY24⟩ : ∃ Y24, w22.alloc (.cells #[.int .i64 x1, .int .i64 x2] 29) = Y24 := ⟨_, rfl⟩
    have hy25 : Below w22.heap.size w22 Y24 := by rw [← hY24]; exact Below.alloc1 (Below.refl _ _) _ (Nat.le_refl _)
    replace HM := Lib.hid (HM.out.below hy25)
    replace HT := Lib.hid (RowIs.below HT.out hy25)
    replace RA := Lib.hid (RowIs.below RA.out hy25)
    replace hB := bup hB hy25
    have RB := Lib.hid (show RowIs Y24 w22.heap.size #[.int .i64 x1, .int .i64 x2] 29 by rw [← hY24]; exact heap_new_at _ _ _ rfl)
    obtain ⟨bRB, hbRB⟩ : ∃ bRB, w22.heap.size = bRB := ⟨_, rfl⟩
    rw [hbRB] at RB
    have hC26 := Cheapest_yes_c a n cap m l c sure f0 Y24 HM.out hn hbo hbs
    try dsimp only [re2, re3, proofV, zeroP] at hC26
    have C26 := Lib.hid hC26
    clear hC26
    obtain ⟨tc0, tc1, _, _, tz⟩ := ratrow2 HT.out
    go_wp2_with fail
    clear hw23 hbRB hY24 hy25 tc0 tc1 tz
    refine C26.out.mono ?_
    rintro e w27 ⟨gq, hgq, hgz, rfl, HQ0, hw28⟩
    clear C26
    replace HM := Lib.hid (HM.out.below hw28)
    replace HT := Lib.hid (RowIs.below HT.out hw28)
    replace RA := Lib.hid (RowIs.below RA.out hw28)
    replace RB := Lib.hid (RowIs.below RB.out hw28)
    replace hB := bup hB hw28
    have HQ := Lib.hid HQ0
    clear HQ0 hgq hgz
    have heq0 := fun (w : World) => eqRat x1 x2 w
    obtain ⟨v290, v291, _, _, v29z⟩ := ratrow2 RA.out
    obtain ⟨v300, v301, _, _, v30z⟩ := ratrow2 RB.out
    have hlen : decide ((12 : Int) < (n : Int)) = false := decide_eq_false (by omega)
    go_wp2_with fail
    clear hw28 v290 v291 v29z v300 v301 v30z heq0 hlen
    have A0 := Lib.hid (fun (x : World) (hx : Below w27.heap.size w27 x) => by
      have h := rdeserves_c a (some ⟨gq, 0, none⟩) n cap n n m f0 l c sure x (HM.out.below hx) (HQ.out.below hx) hn hn
      rw [HDf.out] at h
      exact h)
    have A1 := Lib.hid (fun (x : World) (hx : Below w27.heap.size w27 x) => by
      have h := rcostOf_c a (some ⟨gq, 0, none⟩) n cap n m f0 x (HM.out.below hx) (HQ.out.below hx) HF.out Hf0.out Hs0.out
      rw [HCo.out] at h
      exact h)
    have A2 := Lib.hid works_c
    have heq0 := fun (w : World) => eqRat x1 x2 w
    obtain ⟨v310, v311, _, _, v31z⟩ := ratrow2 HT.out
    obtain ⟨v320, v321, _, _, v32z⟩ := ratrow2 RB.out
    have hlc := fun (x : Later w27) => later_cell x
    refine wp_region_later (by kernel_rfl) (by kernel_rfl) ?_
    repeat (go_big_quiet_step ((first | (with_reducible refine calls_later (A0.out _ (Later.h _))) | (with_reducible refine calls_later (A1.out _ (Later.h _))) | (with_reducible refine calls_later (A2.out _)))))
    refine wpQuiet_nil ?_
    clear hlc A0 A1 A2 heq0 v310 v311 v31z v320 v321 v32z
    rintro ⟨w33, hw34⟩
    replace HM := Lib.hid (HM.out.below hw34)
    replace HT := Lib.hid (RowIs.below HT.out hw34)
    replace RA := Lib.hid (RowIs.below RA.out hw34)
    replace RB := Lib.hid (RowIs.below RB.out hw34)
    replace HQ := Lib.hid (HQ.out.below hw34)
    replace hB := bup hB hw34
    go_wp2
    go_ret
    exact ⟨rfl, hB⟩

end Go.Proofs.YtehafggcncbnkaaGreat

namespace Go.Proofs.YtehafggcncbnkaaGreat
open Go Go.RowKit Go.ChangeShapes Go.WideShapes Go.ChangeAt

theorem own_costs : ownKnob Tryz.prog.godebug = .none := by kernel_rfl
theorem laidOut_costs : laidOutB Tryz.prog = true := by kernel_rfl

set_option maxRecDepth 100000 in
theorem costs_lifted (os : Os) (started : os.Started) (H : Type) (enc : TypeId × Value → H) :
    ReturnsInHanded {} Tryz.checked os 4 .any (Rows.alloyCostsSpec.pre6 enc Tryz.prog Tryz.f4 Rows.alloyCostsRow.domain false) (Rows.alloyCostsSpec.post enc Tryz.prog Tryz.f4 false true false false) := by
  refine returnsInHanded_of_change (C := Tryz.checked) own_costs started (by kernel_rfl) Tryz.func4
    (ChangeSpec.witness6 (enc := enc) (C := Tryz.checked) false ⟨#[], #[.slice .none 0 0, .agg #[.int .i64 0, .int .i64 0], .bool false], []⟩ 8 (by kernel_rfl) (by kernel_rfl) (by kernel_rfl) (by kernel_rfl)) ?_
  intro W base args ds gs before hval0 hW hcnd _
  have hval : ∀ (j : Nat) t v, Tryz.f4.params[j]? = some t → args[j]? = some v → Value.okWide Tryz.prog W .any base t v := hval0
  have hW' := hW
  obtain ⟨p, q, hA0, hV, rfl, hfz, hnd⟩ := hW
  have hA : DataW.TrodAll enc Tryz.prog W 0 (fun _ => true) true Tryz.f4.params.toList args.toList ds p := hA0
  rw [Tryz.params4] at hA hval
  obtain ⟨v0, vs0, d0, ds0, p0, q0, hargs, rfl, rfl, h0, r0⟩ := trodAll_cons hA
  obtain ⟨v1, vs1, d1, ds1, p1, q1, rfl, rfl, rfl, h1, r1⟩ := trodAll_cons r0
  obtain ⟨v2, vs2, d2, ds2, p2, q2, rfl, rfl, rfl, h2, r2⟩ := trodAll_cons r1
  obtain ⟨rfl, rfl, rfl⟩ := trodAll_nil r2
  obtain rfl : args = #[v0, v1, v2] := by cases args; simp_all
  obtain ⟨rfl, rfl⟩ := trodVars_none hV
  obtain ⟨a0, n0, cap0, m0, rfl, hM0⟩ := open_metals (hval 0 22 v0 rfl rfl) h0
  obtain ⟨l1, c1, rfl⟩ := open_touch (hval 1 24 v1 rfl rfl) h1
  obtain ⟨s2, hs2, _, _⟩ := open_bool Tryz.underlying4 (hval 2 4 v2 rfl rfl) h2
  subst hs2
  refine (law_costs_c a0 n0 cap0 m0 l1 c1 s2 W hM0).mono fun e W' ⟨he, hb⟩ => ?_
  subst he
  have hlt := hW'.lt
  simp only [List.append_nil, List.mem_append] at hlt
  refine ⟨_, rfl, _, _, _, [], p0 ++ (p1 ++ (p2 ++ [])), [], hW', trodAll_mk1 (shut_bool Tryz.underlying4 true), ?_, rfl, hb.frame _, fun h => Bool.noConfusion h⟩
  exact trodAll_cons_mk (Below.trod laidOut_costs (by kernel_rfl) (of_decide_eq_true (by kernel_rfl)) h0 hb fun x hx => hlt x (by simp [hx])) (trodAll_cons_mk (Below.trod laidOut_costs (by kernel_rfl) (of_decide_eq_true (by kernel_rfl)) h1 hb fun x hx => hlt x (by simp [hx])) (trodAll_cons_mk (Below.trod laidOut_costs (by kernel_rfl) (of_decide_eq_true (by kernel_rfl)) h2 hb fun x hx => hlt x (by simp [hx])) trodAll_mk0))

theorem costs_holds : Rows.AlloyCostsSaid :=
  OpenClaim.holds_of_wide 4 Tryz.f4 rfl rfl rfl rfl rfl rfl rfl ⟨rfl, rfl, rfl, rfl, rfl⟩ rfl rfl rfl rfl rfl (by kernel_rfl) Tryz.func4 (by kernel_rfl)
    (of_decide_eq_true (by kernel_rfl)) (by unfold Func.isWrapper; first | (rw [if_pos (by decide +kernel)]; kernel_rfl) | (rw [if_neg (by decide +kernel)]; exact ⟨rfl, rfl⟩))
    (fun os started H enc _ => costs_lifted os started H enc)
end Go.Proofs.YtehafggcncbnkaaGreat

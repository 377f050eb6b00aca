/- For whatever arguments, the law AlloyShares returns true, and each argument reads behind the call as it read before. No condition. -/
import Derived.WalkKit
import Derived.Deep.QuietTactic
import Derived.BigQuiet
import Derived.Test.YtehafggcncbnkaaGreatProg
import Derived.Test.YtehafggcncbnkaaGreatBasaa
import Derived.Test.YtehafggcncbnkaaGreatBasae
import Derived.Test.YtehafggcncbnkaaGreatBasag
import Derived.Test.YtehafggcncbnkaaGreatBasaf
import Derived.Test.YtehafggcncbnkaaGreatShaaa
import Derived.Test.YtehafggcncbnkaaGreatBasao
import Derived.Test.YtehafggcncbnkaaGreatShaab
import Derived.Test.YtehafggcncbnkaaGreatShaac
import Derived.Test.YtehafggcncbnkaaGreatBasas
import Derived.Test.YtehafggcncbnkaaGreatBasaq
import Derived.Test.YtehafggcncbnkaaGreatBasar
import Derived.Test.YtehafggcncbnkaaGreatRows
import Derived.Test.YtehafggcncbnkaaGreatBasax
import Derived.ProofKit
namespace Go.Proofs.YtehafggcncbnkaaGreat
open Go Go.RowKit

set_option maxRecDepth 100000 in
set_option maxHeartbeats 16000000 in
theorem rShare_c (a : Option Addr) (n cap : Nat) (m : Nat → M5) (l c : Int) (s : Bool) (metal : Int) (w : World) (hm : Metals w a n m) (hn : n ≤ 1048576) (hmt : -9223372036854775808 ≤ metal ∧ metal ≤ 9223372036854775807) :
    Calls Tryz.prog 41 #[.slice a n cap, .agg #[.int .i64 l, .int .i64 c], .bool s, .int .i64 metal] w fun e w' => e = .returned (re3 (shareR n m l c s metal)) ∧ Below w.heap.size w w' := by
  obtain ⟨W, hW⟩ : ∃ W, ((w.alloc (.cells #[.int .i64 l, .int .i64 c] 24)).alloc (.cells #[.int .i64 0, .int .i64 0] 29)).alloc (.cells #[.int .i64 0, .int .i64 0] 29) = W := ⟨_, rfl⟩
  have hB0 : Below w.heap.size w W := by rw [← hW]; exact Below.alloc1 (Below.alloc1 (Below.alloc1 (Below.refl _ _) _ (Nat.le_refl _)) _ (Nat.le_refl _)) _ (Nat.le_refl _)
  have HT := Lib.hid (show RowIs W w.heap.size #[.int .i64 l, .int .i64 c] 24 by rw [← hW]; exact RowIs.alloc (RowIs.alloc (heap_new_at _ _ _ rfl) _) _)
  have HR1 := Lib.hid (show RowIs W (w.heap.size + 1) #[.int .i64 0, .int .i64 0] 29 by rw [← hW]; exact RowIs.alloc (heap_new_at _ _ _ (by simp)) _)
  have HR2 := Lib.hid (show RowIs W (w.heap.size + 2) #[.int .i64 0, .int .i64 0] 29 by rw [← hW]; exact heap_new_at _ _ _ (by simp))
  have hWs : w.heap.size + 2 < W.heap.size := (Array.getElem?_eq_some_iff.1 HR2.out).1
  have HM := Lib.hid (hm.below hB0)
  have HB0 := Lib.hid hB0
  obtain ⟨tc0, tc1, _, _, tz⟩ := ratrow2 HT.out
  clear hm hB0
  have HC := Lib.hid (fun (x : World) (hx : Below W.heap.size W x) => rboth_c a n cap m l c x (HM.out.below hx) (by omega))
  by_cases h0 : bothE n m l c = 0
  case neg =>
    have h0' : (bothE n m l c != 0) = true := by simp [h0]
    have ev : shareR n m l c s metal = ((0, 0), (0, 0), bothE n m l c) := by unfold shareR; rw [if_pos h0]
    rw [ev]
    obtain ⟨E, hE⟩ : ∃ E, bothE n m l c = E := ⟨_, rfl⟩
    rw [hE] at HC h0' ⊢
    clear h0 ev hE
    go_enter Tryz.func41, Tryz.ntmps41
    go_wp2_with fail
    refine (HC.out _ (Below.refl _ _)).mono ?_
    rintro e w1 ⟨rfl, hb1⟩
    clear hW
    obtain ⟨td0, td1, _, _, tdz⟩ := ratrow2 (RowIs.below HT.out hb1)
    go_wp2_with fail
    refine (HC.out _ hb1).mono ?_
    rintro e w2 ⟨rfl, hb2⟩
    have hb12 := bup hb1 hb2
    clear tc0 tc1 td0 td1
    obtain ⟨r0, r1, z0, z1, rz⟩ := ratrow2 (RowIs.below HR1.out hb12)
    obtain ⟨r2, r3, z2, z3, rz2⟩ := ratrow2 (RowIs.below HR2.out hb12)
    have HBf := Lib.hid (bup HB0.out hb12)
    go_wp2_with fail
    refine bodyPost_ret (v := re3 ((0, 0), (0, 0), E)) (by simp [results, Tryz.results41, go_sem, r0, r1, r2, r3]) rfl ⟨rfl, ?_⟩
    exact (((HBf.out.setCell (p := ⟨w.heap.size + 1, 0, none⟩) (Nat.le_add_right _ _) _).setCell (p := ⟨w.heap.size + 1, 1, none⟩) (Nat.le_add_right _ _) _).setCell (p := ⟨w.heap.size + 2, 0, none⟩) (Nat.le_add_right _ _) _).setCell (p := ⟨w.heap.size + 2, 1, none⟩) (Nat.le_add_right _ _) _
  case pos =>
  obtain ⟨hM, ht⟩ := both_ok h0
  have hF := fine_of hM
  have hn6 := hF.2.1
  have hn1 := hF.1
  have h0' : (bothE n m l c != 0) = false := by simp [h0]
  by_cases hk : 0 ≤ metal ∧ metal < (n : Int)
  case neg =>
    have ev : shareR n m l c s metal = ((0, 0), (0, 0), 2) := by unfold shareR; rw [if_neg (by omega), if_pos (by omega)]
    rw [ev]
    obtain ⟨E, hE⟩ : ∃ E, bothE n m l c = E := ⟨_, rfl⟩
    rw [hE] at HC h0'
    clear h0 ev hE
    by_cases hlow : metal < 0
    case pos =>
      have d1 : decide (metal < 0) = true := by simpa using hlow
      go_enter Tryz.func41, Tryz.ntmps41
      go_wp2_with fail
      refine (HC.out _ (Below.refl _ _)).mono ?_
      rintro e w1 ⟨rfl, hb1⟩
      clear hW tc0 tc1
      obtain ⟨r0, r1, z0, z1, rz⟩ := ratrow2 (RowIs.below HR1.out hb1)
      obtain ⟨r2, r3, z2, z3, rz2⟩ := ratrow2 (RowIs.below HR2.out hb1)
      have HBf := Lib.hid (bup HB0.out hb1)
      go_wp2_with fail
      refine bodyPost_ret (v := re3 ((0, 0), (0, 0), 2)) (by simp [results, Tryz.results41, go_sem, r0, r1, r2, r3]) rfl ⟨rfl, ?_⟩
      exact (((HBf.out.setCell (p := ⟨w.heap.size + 1, 0, none⟩) (Nat.le_add_right _ _) _).setCell (p := ⟨w.heap.size + 1, 1, none⟩) (Nat.le_add_right _ _) _).setCell (p := ⟨w.heap.size + 2, 0, none⟩) (Nat.le_add_right _ _) _).setCell (p := ⟨w.heap.size + 2, 1, none⟩) (Nat.le_add_right _ _) _
    case neg =>
      have d1 : decide (metal < 0) = false := by simpa using hlow
      have d2 : decide ((n : Int) ≤ metal) = true := decide_eq_true (by omega)
      go_enter Tryz.func41, Tryz.ntmps41
      go_wp2_with fail
      refine (HC.out _ (Below.refl _ _)).mono ?_
      rintro e w1 ⟨rfl, hb1⟩
      clear hW tc0 tc1
      obtain ⟨r0, r1, z0, z1, rz⟩ := ratrow2 (RowIs.below HR1.out hb1)
      obtain ⟨r2, r3, z2, z3, rz2⟩ := ratrow2 (RowIs.below HR2.out hb1)
      have HBf := Lib.hid (bup HB0.out hb1)
      go_wp2_with fail
      refine bodyPost_ret (v := re3 ((0, 0), (0, 0), 2)) (by simp [results, Tryz.results41, go_sem, r0, r1, r2, r3]) rfl ⟨rfl, ?_⟩
      exact (((HBf.out.setCell (p := ⟨w.heap.size + 1, 0, none⟩) (Nat.le_add_right _ _) _).setCell (p := ⟨w.heap.size + 1, 1, none⟩) (Nat.le_add_right _ _) _).setCell (p := ⟨w.heap.size + 2, 0, none⟩) (Nat.le_add_right _ _) _).setCell (p := ⟨w.heap.size + 2, 1, none⟩) (Nat.le_add_right _ _) _
  case pos =>
  obtain ⟨k, hkk⟩ : ∃ k : Nat, metal = (k : Int) := ⟨metal.toNat, by omega⟩
  subst hkk
  have hkn : k < n := by omega
  have d1 : decide ((k : Int) < 0) = false := decide_eq_false (by omega)
  have d2 : decide ((n : Int) ≤ (k : Int)) = false := decide_eq_false (by omega)
  have HG := Lib.hid (fun (x : World) (hx : Below W.heap.size W x) => redges_c a n cap m l c s x (HM.out.below hx) hF ht)
  have hKb := edgeL_len m l c s hn6
  rcases edge_share h0 s hkn with ⟨hnil, hl⟩ | ⟨hpos, hl⟩
  · rw [hl]
    rw [hnil] at HG
    simp only [List.map_nil] at HG
    obtain ⟨E, hE⟩ : ∃ E, bothE n m l c = E := ⟨_, rfl⟩
    rw [hE] at HC h0'
    clear h0 hE hnil hl hKb
    go_enter Tryz.func41, Tryz.ntmps41
    go_wp2_with fail
    refine (HC.out _ (Below.refl _ _)).mono ?_
    rintro e w1 ⟨rfl, hb1⟩
    clear hW
    obtain ⟨td0, td1, _, _, tdz⟩ := ratrow2 (RowIs.below HT.out hb1)
    clear tc0 tc1
    go_wp2_with fail
    refine (HG.out _ hb1).mono ?_
    rintro e w2 ⟨v, B, rfl, hE, hb2⟩
    have hb12 := bup hb1 hb2
    clear td0 td1
    obtain ⟨r0, r1, z0, z1, rz⟩ := ratrow2 (RowIs.below HR1.out hb12)
    obtain ⟨r2, r3, z2, z3, rz2⟩ := ratrow2 (RowIs.below HR2.out hb12)
    have HBf := Lib.hid (bup HB0.out hb12)
    rcases edges_nil hE with rfl | ⟨g, cp, rfl⟩
    all_goals
      go_wp2_with fail
      refine bodyPost_ret (v := re3 ((0, 0), (0, 0), 17)) (by simp [results, Tryz.results41, go_sem, r0, r1, r2, r3]) rfl ⟨rfl, ?_⟩
      exact (((HBf.out.setCell (p := ⟨w.heap.size + 1, 0, none⟩) (Nat.le_add_right _ _) _).setCell (p := ⟨w.heap.size + 1, 1, none⟩) (Nat.le_add_right _ _) _).setCell (p := ⟨w.heap.size + 2, 0, none⟩) (Nat.le_add_right _ _) _).setCell (p := ⟨w.heap.size + 2, 1, none⟩) (Nat.le_add_right _ _) _
  · rw [hl]
    clear hl
    obtain ⟨K, hK⟩ : ∃ K, (edgeL n m l c s).length = K := ⟨_, rfl⟩
    obtain ⟨V, hV⟩ : ∃ V, edgeShare n m l c s k = V := ⟨_, rfl⟩
    have hT : ∀ i, i < K → Tame (V i) := by rw [← hV, ← hK]; exact edgeShare_tame hF ht k
    have HTm := Lib.hid (minV_tame hT (by omega))
    have HTx := Lib.hid (maxV_tame hT (by omega))
    have HTv := Lib.hid hT
    obtain ⟨L, hL⟩ : ∃ L, edgeL n m l c s = L := ⟨_, rfl⟩
    have HSum := Lib.hid (fun (i : Nat) (hi : i < K) (b : Nat) (x : World) (hr : RowIs x b (rowZ n (L.getD i fun _ => 0)) 2) => by
      have hp := edge_part hF ht (s := s) (i := i) (by rw [hK]; exact hi)
      exact sum_c (some ⟨b, 0, none⟩) n n (edgeF n m l c s i) x (ints_rowZ (by unfold edgeF; rw [hL]; exact hr)) (by omega) (fun j hj => by have := hp.1 j; omega))
    have HBy := Lib.hid (fun (i : Nat) (hi : i < K) (x : World) => by
      have hp := edge_part hF ht (s := s) (i := i) (by rw [hK]; exact hi)
      have h := by_c (edgeF n m l c s i k) (sumF (edgeF n m l c s i) n) x (by have := hp.1 k; omega) (by have := hp.1 k; omega) hp.2.1 (by omega)
      rw [show ratV (edgeF n m l c s i k) (sumF (edgeF n m l c s i) n) = .agg #[.int .i64 (V i).1, .int .i64 (V i).2] by rw [← hV]] at h
      exact h)
    obtain ⟨G, hG⟩ : ∃ G, edgeF n m l c s = G := ⟨_, rfl⟩
    have HGe := Lib.hid (show ∀ i, G i = L.getD i fun _ => 0 from fun i => by rw [← hG, ← hL]; rfl)
    rw [hG] at HSum HBy
    rw [hL] at hK
    rw [hV, hL, hK]
    rw [hL] at HG hpos hKb
    rw [hK] at hpos hKb
    obtain ⟨E, hE⟩ : ∃ E, bothE n m l c = E := ⟨_, rfl⟩
    rw [hE] at HC h0'
    have HK := Lib.hid hK
    clear h0 hE hT hV hL hK hG
    go_enter Tryz.func41, Tryz.ntmps41
    go_wp2_with fail
    refine (HC.out _ (Below.refl _ _)).mono ?_
    rintro e w1 ⟨rfl, hb1⟩
    clear hW
    obtain ⟨td0, td1, _, _, tdz⟩ := ratrow2 (RowIs.below HT.out hb1)
    clear tc0 tc1
    go_wp2_with fail
    refine (HG.out _ hb1).mono ?_
    rintro e w2 ⟨v, B, rfl, hE, hb2⟩
    have HB2 := Lib.hid (bup hb1 hb2)
    have HE := Lib.hid hE
    clear td0 td1 hE hb1 hb2
    obtain ⟨g, cp, b0, rfl, hg, hBg, cell0, hr0, hb0⟩ := edges_at HE.out (t := 0) (by rw [HK.out]; exact hpos)
    rw [HK.out] at HE ⊢
    have cellk : w2.cell? ⟨b0, k, none⟩ = some (.int .i64 (G 0 k)) := by
      rw [HGe.out 0]
      exact (RowIs.cell hr0 k).trans (rowZ_get _ _ k hkn)
    have KS := Lib.hid (fun (x : World) (hx : Below w2.heap.size w2 x) => HSum.out 0 hpos b0 x (RowIs.below hr0 hx))
    have KB := Lib.hid (fun (x : World) => HBy.out 0 hpos x)
    obtain ⟨P, hP⟩ : ∃ P, G 0 k = P := ⟨_, rfl⟩
    obtain ⟨D, hD⟩ : ∃ D, sumF (G 0) n = D := ⟨_, rfl⟩
    rw [hP] at cellk
    rw [hD] at KS
    rw [hP, hD] at KB
    clear hP hD
    have hkn' := hkn
    go_wp2_with fail
    refine wp_region_float3 11 12 85 (.cells #[.int .i64 0, .int .i64 0] 29 (0, 0)) _ (by kernel_rfl) (by kernel_rfl) rfl rfl rfl ?hal (by kernel_rfl) (by kernel_rfl) rfl (show 12 < 85 by decide) ?_
    case hal => intro a w; go_simp
    simp only [List.take_succ_cons, List.take_zero, List.drop_succ_cons, List.drop_zero]
    apply Exists.intro
    refine ⟨fun wl hbl K' hK' => ?_, ?_⟩
    · have hlc := fun (x : Later wl) => later_cell2 hbl x
      repeat (go_big_quiet_step ((first | (with_reducible refine calls_later_same (KS.out _ (hbl.trans ((Later.h _).mono hbl.size)))) | (with_reducible refine calls_later (KB.out _)))))
      exact wpQuiet_nil hK'
    intro bp wv hv1 hvb hvz
    clear cellk KS KB
    have zp : RowIs wv bp #[.int .i64 0, .int .i64 0] 29 := hvz
    obtain ⟨up0, up1, up2, up3, up4⟩ := ratrow2 zp
    obtain ⟨Zp, hZp⟩ : ∃ Z, (wv.setCell ⟨bp, 0, none⟩ (.int .i64 (V 0).1)).setCell ⟨bp, 1, none⟩ (.int .i64 (V 0).2) = Z := ⟨_, rfl⟩
    have hzp : Below w2.heap.size w2 Zp := by rw [← hZp]; exact (hvb.setCell (p := ⟨bp, 0, none⟩) hv1 _).setCell (p := ⟨bp, 1, none⟩) hv1 _
    have Rp := Lib.hid (show RowIs Zp bp #[.int .i64 (V 0).1, .int .i64 (V 0).2] 29 by rw [← hZp]; exact put2_row zp _ _)
    clear hvz hvb
    obtain ⟨va0, va1, va2, va3, va4⟩ := ratrow2 Rp.out
    obtain ⟨Y, hY⟩ : ∃ Y, Zp.alloc (.cells #[.int .i64 0, .int .i64 0] 29) = Y := ⟨_, rfl⟩
    have hyY : Below Zp.heap.size Zp Y := by rw [← hY]; exact Below.alloc1 (Below.refl _ _) _ (Nat.le_refl _)
    have zq : RowIs Y Zp.heap.size #[.int .i64 0, .int .i64 0] 29 := by rw [← hY]; exact heap_new_at _ _ _ rfl
    obtain ⟨uq0, uq1, uq2, uq3, uq4⟩ := ratrow2 zq
    obtain ⟨Zq, hZq⟩ : ∃ Z, (Y.setCell ⟨Zp.heap.size, 0, none⟩ (.int .i64 (V 0).1)).setCell ⟨Zp.heap.size, 1, none⟩ (.int .i64 (V 0).2) = Z := ⟨_, rfl⟩
    have hzq : Below Zp.heap.size Zp Zq := hyY.trans (by rw [← hZq]; exact ((Below.refl _ Y).setCell (p := ⟨Zp.heap.size, 0, none⟩) (Nat.le_refl _) _).setCell (p := ⟨Zp.heap.size, 1, none⟩) (Nat.le_refl _) _)
    have Rq := Lib.hid (show RowIs Zq Zp.heap.size #[.int .i64 (V 0).1, .int .i64 (V 0).2] 29 by rw [← hZq]; exact put2_row zq _ _)
    go_wp2_with fail
    have Rpq := Lib.hid (RowIs.below Rp.out hzq)
    have Bq := Lib.hid (bup hzp hzq)
    have hne : bp ≠ Zp.heap.size := by omega
    have hq1 : w2.heap.size ≤ Zp.heap.size := hzp.size
    have hp1 : w2.heap.size ≤ bp := hv1
    clear hY hyY zq uq0 uq1 uq2 uq3 hZq va0 va1 va2 va3 up0 up1 up2 up3 zp hZp hzp hzq Rp cell0 hr0
    obtain ⟨bq, hbq⟩ : ∃ b, Zp.heap.size = b := ⟨_, rfl⟩
    rw [hbq] at Rq hne hq1 ⊢
    clear hbq va4 uq4 up4
    go_loopw [14] (fun i wr => ∃ j, j ≤ K ∧ i = .int .i64 (j : Nat) ∧ RowIs wr bp #[.int .i64 (minV V j).1, .int .i64 (minV V j).2] 29 ∧ RowIs wr bq #[.int .i64 (maxV V j).1, .int .i64 (maxV V j).2] 29 ∧ Below w2.heap.size w2 wr) (fun i _ => K - (intOf i).toNat)
    case atStart => exact ⟨0, Nat.zero_le _, rfl, Rpq.out, Rq.out, Bq.out⟩
    case round =>
      clear Rpq Rq Bq
      obtain ⟨j, hjK, rfl, hr12, hr13, hB⟩ := hrel
      have HB := Lib.hid hB
      have R12 := Lib.hid hr12
      have R13 := Lib.hid hr13
      clear hB hr12 hr13
      by_cases hlt : j < K
      ·
        obtain ⟨g', cp', b, he_, hg', -, hcell, hr, hbz⟩ := edges_at (EdgesAt.below HE.out HB.out) (t := j) (by rw [HK.out]; exact hlt)
        rw [HK.out] at he_
        cases he_
        have hta := HTv.out j hlt
        have htb := HTm.out j (by omega)
        have htc := HTx.out j (by omega)
        have hs1 := tame_mul hta htb
        have hs2 := tame_mul htb hta
        have hs3 := tame_mul htc hta
        have hs4 := tame_mul hta htc
        have EqM := Lib.hid (show minV V (j + 1) = if ltB (V j).1 (V j).2 (minV V j).1 (minV V j).2 then V j else minV V j from rfl)
        have EqX := Lib.hid (show maxV V (j + 1) = if ltB (maxV V j).1 (maxV V j).2 (V j).1 (V j).2 then V j else maxV V j from rfl)
        have cellk : wr.cell? ⟨b, k, none⟩ = some (.int .i64 (G j k)) := by
          rw [HGe.out j]
          exact (RowIs.cell hr k).trans (rowZ_get _ _ k hkn)
        have KS := Lib.hid (fun (x : World) (hx : Below wr.heap.size wr x) => HSum.out j hlt b x (RowIs.below hr hx))
        have KB := Lib.hid (fun (x : World) => HBy.out j hlt x)
        obtain ⟨P, hP⟩ : ∃ P, G j k = P := ⟨_, rfl⟩
        obtain ⟨D, hD⟩ : ∃ D, sumF (G j) n = D := ⟨_, rfl⟩
        rw [hP] at cellk
        rw [hD] at KS
        rw [hP, hD] at KB
        clear hP hD
        have hkn' := hkn
        go_wp2_with fail
        refine wp_region_float3 13 15 85 (.cells #[.int .i64 0, .int .i64 0] 29 (0, 0)) _ (by kernel_rfl) (by kernel_rfl) rfl rfl rfl ?hal (by kernel_rfl) (by kernel_rfl) rfl (show 15 < 85 by decide) ?_
        case hal => intro a w; go_simp
        simp only [List.take_succ_cons, List.take_zero, List.drop_succ_cons, List.drop_zero]
        apply Exists.intro
        refine ⟨fun wl hbl K' hK' => ?_, ?_⟩
        · have hlc := fun (x : Later wl) => later_cell2 hbl x
          repeat (go_big_quiet_step ((first | (with_reducible refine calls_later_same (KS.out _ (hbl.trans ((Later.h _).mono hbl.size)))) | (with_reducible refine calls_later (KB.out _)))))
          exact wpQuiet_nil hK'
        intro bx wv hv1 hvb hvz
        clear cellk KS KB
        have zx : RowIs wv bx #[.int .i64 0, .int .i64 0] 29 := hvz
        obtain ⟨ux0, ux1, ux2, ux3, ux4⟩ := ratrow2 zx
        obtain ⟨Zx, hZx⟩ : ∃ Z, (wv.setCell ⟨bx, 0, none⟩ (.int .i64 (V j).1)).setCell ⟨bx, 1, none⟩ (.int .i64 (V j).2) = Z := ⟨_, rfl⟩
        have hzx : Below wr.heap.size wr Zx := by rw [← hZx]; exact (hvb.setCell (p := ⟨bx, 0, none⟩) hv1 _).setCell (p := ⟨bx, 1, none⟩) hv1 _
        have Rx := Lib.hid (show RowIs Zx bx #[.int .i64 (V j).1, .int .i64 (V j).2] 29 by rw [← hZx]; exact put2_row zx _ _)
        clear hvz hvb
        have R12x := Lib.hid (RowIs.below R12.out hzx)
        have R13x := Lib.hid (RowIs.below R13.out hzx)
        have hwx := HB.out.size
        have Bx := Lib.hid (bup HB.out hzx)
        have hnx1 : bx ≠ bp := by have := (Array.getElem?_eq_some_iff.1 R12.out).1; omega
        have hnx2 : bx ≠ bq := by have := (Array.getElem?_eq_some_iff.1 R13.out).1; omega
        obtain ⟨⟨a1, a2⟩, ha⟩ : ∃ a, V j = a := ⟨_, rfl⟩
        obtain ⟨⟨c1, c2⟩, hc⟩ : ∃ a, minV V j = a := ⟨_, rfl⟩
        obtain ⟨⟨e1, e2⟩, hd⟩ : ∃ a, maxV V j = a := ⟨_, rfl⟩
        rw [ha, hc] at EqM hs1 hs2
        rw [ha, hd] at EqX hs3 hs4
        rw [hc] at R12x
        rw [hd] at R13x
        rw [ha] at Rx hZx ⊢
        have HL1 := Lib.hid (fun (x : World) => rless_c a1 a2 c1 c2 x hs1 hs2)
        have HL2 := Lib.hid (fun (x : World) => rless_c e1 e2 a1 a2 x hs3 hs4)
        clear ha hc hd hta htb htc hs1 hs2 hs3 hs4 hr hcell R12 R13
        obtain ⟨va0, va1, va2, va3, va4⟩ := ratrow2 Rx.out
        obtain ⟨vb0, vb1, vb2, vb3, vb4⟩ := ratrow2 R12x.out
        go_wp2_with fail
        clear zx ux0 ux1 ux2 ux3 hZx
        refine (HL1.out _).mono ?_
        rintro e w5 ⟨rfl, hb5⟩
        have R12r := Lib.hid (RowIs.below R12x.out hb5)
        have R13r := Lib.hid (RowIs.below R13x.out hb5)
        have Rxr := Lib.hid (RowIs.below Rx.out hb5)
        have Br := Lib.hid (bup Bx.out hb5)
        clear va0 va1 va2 va3 vb0 vb1 vb2 vb3 hb5 R12x R13x Rx Bx hzx
        obtain ⟨va0, va1, va2, va3, va5⟩ := ratrow2 Rxr.out
        obtain ⟨vb0, vb1, vb2, vb3, vb5⟩ := ratrow2 R12r.out
        obtain ⟨vc0, vc1, vc2, vc3, vc5⟩ := ratrow2 R13r.out
        cases hq : decide (a1 * c2 < c1 * a2)
        case false =>
          have y1 : minV V (j + 1) = (c1, c2) := by rw [EqM.out]; unfold ltB; rw [hq]; rfl
          have Y1 := Lib.hid y1
          clear y1 hq
          go_wp2_with fail
          refine (HL2.out _).mono ?_
          rintro e w6 ⟨rfl, hb6⟩
          have R12s := Lib.hid (RowIs.below R12r.out hb6)
          have R13s := Lib.hid (RowIs.below R13r.out hb6)
          have Rxs := Lib.hid (RowIs.below Rxr.out hb6)
          have Bs := Lib.hid (bup Br.out hb6)
          clear va0 va1 va2 va3 vb0 vb1 vb2 vb3 vc0 vc1 vc2 vc3 hb6
          obtain ⟨va0, va1, va2, va3, va6⟩ := ratrow2 Rxs.out
          obtain ⟨vc0, vc1, vc2, vc3, vc6⟩ := ratrow2 R13s.out
          cases hq2 : decide (e1 * a2 < a1 * e2)
          case false =>
            have x1 : maxV V (j + 1) = (e1, e2) := by rw [EqX.out]; unfold ltB; rw [hq2]; rfl
            have X1 := Lib.hid x1
            clear x1 hq2
            go_wp2
            go_roundw
            case rel => exact ⟨j + 1, by omega, by go_num, by rw [Y1.out]; exact R12s.out, by rw [X1.out]; exact R13s.out, Bs.out⟩
            case measure => simp [intOf]; omega
          case true =>
            have x1 : maxV V (j + 1) = (a1, a2) := by rw [EqX.out]; unfold ltB; rw [hq2]; rfl
            have X1 := Lib.hid x1
            obtain ⟨Z, hZ⟩ : ∃ Z, (w6.setCell ⟨bq, 0, none⟩ (.int .i64 a1)).setCell ⟨bq, 1, none⟩ (.int .i64 a2) = Z := ⟨_, rfl⟩
            have RZ := Lib.hid (show RowIs Z bq #[.int .i64 a1, .int .i64 a2] 29 by rw [← hZ]; exact put2_row R13s.out _ _)
            have RY := Lib.hid (show RowIs Z bp _ 29 by rw [← hZ]; exact (put2_other hne a1 a2).trans R12s.out)
            have BZ := Lib.hid (show Below w2.heap.size w2 Z by rw [← hZ]; exact (Bs.out.setCell (p := ⟨bq, 0, none⟩) hq1 _).setCell (p := ⟨bq, 1, none⟩) hq1 _)
            clear x1 hq2
            go_wp2
            go_roundw
            case rel => exact ⟨j + 1, by omega, by go_num, by rw [Y1.out]; exact RY.out, by rw [X1.out]; exact RZ.out, BZ.out⟩
            case measure => simp [intOf]; omega
        case true =>
          have y1 : minV V (j + 1) = (a1, a2) := by rw [EqM.out]; unfold ltB; rw [hq]; rfl
          have Y1 := Lib.hid y1
          obtain ⟨Zt, hZt⟩ : ∃ Z, (w5.setCell ⟨bp, 0, none⟩ (.int .i64 a1)).setCell ⟨bp, 1, none⟩ (.int .i64 a2) = Z := ⟨_, rfl⟩
          have Rt12 := Lib.hid (show RowIs Zt bp #[.int .i64 a1, .int .i64 a2] 29 by rw [← hZt]; exact put2_row R12r.out _ _)
          have Rt13 := Lib.hid (show RowIs Zt bq #[.int .i64 e1, .int .i64 e2] 29 by rw [← hZt]; exact (put2_other (Ne.symm hne) a1 a2).trans R13r.out)
          have Rtx := Lib.hid (show RowIs Zt bx #[.int .i64 a1, .int .i64 a2] 29 by rw [← hZt]; exact (put2_other hnx1 a1 a2).trans Rxr.out)
          have Bt := Lib.hid (show Below w2.heap.size w2 Zt by rw [← hZt]; exact (Br.out.setCell (p := ⟨bp, 0, none⟩) hp1 _).setCell (p := ⟨bp, 1, none⟩) hp1 _)
          obtain ⟨vd0, vd1, vd2, vd3, vd5⟩ := ratrow2 Rtx.out
          obtain ⟨ve0, ve1, ve2, ve3, ve5⟩ := ratrow2 Rt13.out
          clear y1 hq
          go_wp2_with fail
          clear hZt vd0 vd1 vd2 vd3 ve0 ve1 ve2 ve3
          refine (HL2.out _).mono ?_
          rintro e w6 ⟨rfl, hb6⟩
          have R12s := Lib.hid (RowIs.below Rt12.out hb6)
          have R13s := Lib.hid (RowIs.below Rt13.out hb6)
          have Rxs := Lib.hid (RowIs.below Rtx.out hb6)
          have Bs := Lib.hid (bup Bt.out hb6)
          clear va0 va1 va2 va3 vb0 vb1 vb2 vb3 vc0 vc1 vc2 vc3 hb6
          obtain ⟨va0, va1, va2, va3, va6⟩ := ratrow2 Rxs.out
          obtain ⟨vc0, vc1, vc2, vc3, vc6⟩ := ratrow2 R13s.out
          cases hq2 : decide (e1 * a2 < a1 * e2)
          case false =>
            have x1 : maxV V (j + 1) = (e1, e2) := by rw [EqX.out]; unfold ltB; rw [hq2]; rfl
            have X1 := Lib.hid x1
            clear x1 hq2
            go_wp2
            go_roundw
            case rel => exact ⟨j + 1, by omega, by go_num, by rw [Y1.out]; exact R12s.out, by rw [X1.out]; exact R13s.out, Bs.out⟩
            case measure => simp [intOf]; omega
          case true =>
            have x1 : maxV V (j + 1) = (a1, a2) := by rw [EqX.out]; unfold ltB; rw [hq2]; rfl
            have X1 := Lib.hid x1
            obtain ⟨Z, hZ⟩ : ∃ Z, (w6.setCell ⟨bq, 0, none⟩ (.int .i64 a1)).setCell ⟨bq, 1, none⟩ (.int .i64 a2) = Z := ⟨_, rfl⟩
            have RZ := Lib.hid (show RowIs Z bq #[.int .i64 a1, .int .i64 a2] 29 by rw [← hZ]; exact put2_row R13s.out _ _)
            have RY := Lib.hid (show RowIs Z bp _ 29 by rw [← hZ]; exact (put2_other hne a1 a2).trans R12s.out)
            have BZ := Lib.hid (show Below w2.heap.size w2 Z by rw [← hZ]; exact (Bs.out.setCell (p := ⟨bq, 0, none⟩) hq1 _).setCell (p := ⟨bq, 1, none⟩) hq1 _)
            clear x1 hq2
            go_wp2
            go_roundw
            case rel => exact ⟨j + 1, by omega, by go_num, by rw [Y1.out]; exact RY.out, by rw [X1.out]; exact RZ.out, BZ.out⟩
            case measure => simp [intOf]; omega
      ·
        obtain rfl : j = K := by omega
        obtain ⟨va0, va1, va2, va3, va4⟩ := ratrow2 R12.out
        obtain ⟨vb0, vb1, vb2, vb3, vb4⟩ := ratrow2 R13.out
        have hBf := bup HB2.out HB.out
        obtain ⟨r0, r1, z0, z1, rz⟩ := ratrow2 (RowIs.below HR1.out hBf)
        obtain ⟨r2, r3, z2, z3, rz2⟩ := ratrow2 (RowIs.below HR2.out hBf)
        have HBf := Lib.hid (bup HB0.out hBf)
        have hws2 := HB2.out.size
        have n1 : bp ≠ w.heap.size + 1 := by omega
        have n2 : bp ≠ w.heap.size + 2 := by omega
        have n3 : bq ≠ w.heap.size + 1 := by omega
        have n4 : bq ≠ w.heap.size + 2 := by omega
        have n5 : w.heap.size + 1 ≠ bp := by omega
        have n6 : w.heap.size + 2 ≠ bp := by omega
        have n7 : w.heap.size + 1 ≠ bq := by omega
        have n8 : w.heap.size + 2 ≠ bq := by omega
        clear hBf
        go_wp2
        go_region
        go_wp2_with fail
        refine bodyPost_ret (v := re3 (minV V j, maxV V j, 0)) (by simp [results, Tryz.results41, go_sem, r0, r1, r2, r3]) rfl ⟨rfl, ?_⟩
        exact ((((HBf.out.setCell (p := ⟨w.heap.size + 1, 0, none⟩) (Nat.le_add_right _ _) _).setCell (p := ⟨w.heap.size + 1, 1, none⟩) (Nat.le_add_right _ _) _).setCell (p := ⟨w.heap.size + 2, 0, none⟩) (Nat.le_add_right _ _) _).setCell (p := ⟨w.heap.size + 2, 1, none⟩) (Nat.le_add_right _ _) _).drew
end Go.Proofs.YtehafggcncbnkaaGreat

namespace Go.Proofs.YtehafggcncbnkaaGreat
open Go Go.RowKit

set_option maxRecDepth 100000 in
set_option maxHeartbeats 16000000 in
theorem law_shares_c (a : Option Addr) (n cap : Nat) (m : Nat → M5) (l c z : Int) (sure : Bool) (w : World) (hm : Metals w a n m) (hz : -9223372036854775808 ≤ z ∧ z ≤ 9223372036854775807) :
    Calls Tryz.prog 6 #[.slice a n cap, .agg #[.int .i64 l, .int .i64 c], .bool sure, .int .i64 z] w fun e w' => e = .returned (.bool true) ∧ Below w.heap.size w w' := by
  obtain ⟨W, hW⟩ : ∃ W, w.alloc (.cells #[.int .i64 l, .int .i64 c] 24) = W := ⟨_, rfl⟩
  have hB : Below w.heap.size w W := by rw [← hW]; exact (Below.alloc1 (Below.refl _ _) _ (Nat.le_refl _))
  have HT := Lib.hid (show RowIs W (w.heap.size) #[.int .i64 l, .int .i64 c] 24 by rw [← hW]; exact heap_new_at _ _ _ rfl)
  have HM := Lib.hid (hm.below hB)
  obtain ⟨bt, hbt⟩ : ∃ bt, w.heap.size = bt := ⟨_, rfl⟩
  rw [hbt] at HT
  have HG := Lib.hid (fun (x : World) => great_c a none n cap 0 0 x)
  clear hm
  cases hg : (decide (12 < n) || decide (12 < 0)) with
  | true =>
    go_enter Tryz.func6, Tryz.ntmps6
    go_wp2_with fail
    refine (HG.out _).mono ?_
    rintro e w1 ⟨rfl, rfl⟩
    rw [hg]
    go_wp2_with fail
    refine (works_c _).mono ?_
    rintro e w2 ⟨rfl, hb2⟩
    go_wp2
    go_ret
    exact ⟨rfl, bup hB hb2⟩
  | false =>
  have hn : n ≤ 1048576 := by simp at hg; omega
  rcases hS : shareR n m l c sure z with ⟨⟨y1, y2⟩, ⟨z1, z2⟩, y3⟩
  have Hz := Lib.hid hz
  clear hz
  go_enter Tryz.func6, Tryz.ntmps6
  go_wp2_with fail
  refine (HG.out _).mono ?_
  rintro e w1 ⟨rfl, rfl⟩
  rw [hg]
  have hC1 := Share_c a n cap m l c sure z W HM.out hn Hz.out
  rw [hS] at hC1
  try dsimp only [re2, re3, proofV, zeroP] at hC1
  have C1 := Lib.hid hC1
  clear hC1
  obtain ⟨tc0, tc1, _, _, tz⟩ := ratrow2 HT.out
  go_wp2_with fail
  clear hW hbt HG tc0 tc1 tz
  refine C1.out.mono ?_
  rintro e w2 ⟨rfl, hw3⟩
  clear C1
  replace HM := Lib.hid (HM.out.below hw3)
  replace HT := Lib.hid (RowIs.below HT.out hw3)
  replace hB := bup hB hw3
  obtain ⟨Y4, hY4⟩ : ∃ Y4, (w2.alloc (.cells #[.int .i64 y1, .int .i64 y2] 29)).alloc (.cells #[.int .i64 z1, .int .i64 z2] 29) = Y4 := ⟨_, rfl⟩
  have hy5 : Below w2.heap.size w2 Y4 := by rw [← hY4]; exact Below.alloc1 (Below.alloc1 (Below.refl _ _) _ (Nat.le_refl _)) _ (Nat.le_refl _)
  replace HM := Lib.hid (HM.out.below hy5)
  replace HT := Lib.hid (RowIs.below HT.out hy5)
  replace hB := bup hB hy5
  have RA := Lib.hid (show RowIs Y4 w2.heap.size #[.int .i64 y1, .int .i64 y2] 29 by rw [← hY4]; exact RowIs.alloc (heap_new_at _ _ _ rfl) _)
  have RB := Lib.hid (show RowIs Y4 (w2.heap.size + 1) #[.int .i64 z1, .int .i64 z2] 29 by rw [← hY4]; exact heap_new_at _ _ _ (by simp))
  obtain ⟨bRA, hbRA⟩ : ∃ bRA, w2.heap.size = bRA := ⟨_, rfl⟩
  rw [hbRA] at RA RB
  have hC6 := rShare_c a n cap m l c sure z Y4 HM.out hn Hz.out
  rw [hS] at hC6
  try dsimp only [re2, re3, proofV, zeroP] at hC6
  have C6 := Lib.hid hC6
  clear hC6
  obtain ⟨tc0, tc1, _, _, tz⟩ := ratrow2 HT.out
  go_wp2_with fail
  clear hw3 hY4 hy5 hbRA tc0 tc1 tz
  refine C6.out.mono ?_
  rintro e w7 ⟨rfl, hw8⟩
  clear C6
  replace HM := Lib.hid (HM.out.below hw8)
  replace HT := Lib.hid (RowIs.below HT.out hw8)
  replace RA := Lib.hid (RowIs.below RA.out hw8)
  replace RB := Lib.hid (RowIs.below RB.out hw8)
  replace hB := bup hB hw8
  obtain ⟨Y9, hY9⟩ : ∃ Y9, (w7.alloc (.cells #[.int .i64 y1, .int .i64 y2] 29)).alloc (.cells #[.int .i64 z1, .int .i64 z2] 29) = Y9 := ⟨_, rfl⟩
  have hy10 : Below w7.heap.size w7 Y9 := by rw [← hY9]; exact Below.alloc1 (Below.alloc1 (Below.refl _ _) _ (Nat.le_refl _)) _ (Nat.le_refl _)
  replace HM := Lib.hid (HM.out.below hy10)
  replace HT := Lib.hid (RowIs.below HT.out hy10)
  replace RA := Lib.hid (RowIs.below RA.out hy10)
  replace RB := Lib.hid (RowIs.below RB.out hy10)
  replace hB := bup hB hy10
  have RC := Lib.hid (show RowIs Y9 w7.heap.size #[.int .i64 y1, .int .i64 y2] 29 by rw [← hY9]; exact RowIs.alloc (heap_new_at _ _ _ rfl) _)
  have RD := Lib.hid (show RowIs Y9 (w7.heap.size + 1) #[.int .i64 z1, .int .i64 z2] 29 by rw [← hY9]; exact heap_new_at _ _ _ (by simp))
  obtain ⟨bRC, hbRC⟩ : ∃ bRC, w7.heap.size = bRC := ⟨_, rfl⟩
  rw [hbRC] at RC RD
  have heq0 := fun (w : World) => eqRat y1 y2 w
  have heq1 := fun (w : World) => eqRat z1 z2 w
  obtain ⟨v110, v111, _, _, v11z⟩ := ratrow2 RA.out
  obtain ⟨v120, v121, _, _, v12z⟩ := ratrow2 RB.out
  obtain ⟨v130, v131, _, _, v13z⟩ := ratrow2 RC.out
  obtain ⟨v140, v141, _, _, v14z⟩ := ratrow2 RD.out
  go_wp2_with fail
  clear hw8 hY9 hy10 hbRC v110 v111 v11z v120 v121 v12z v130 v131 v13z v140 v141 v14z heq0 heq1
  refine (works_c _).mono ?_
  rintro e wz ⟨rfl, hbz⟩
  go_wp2
  go_ret
  exact ⟨rfl, bup hB hbz⟩

end Go.Proofs.YtehafggcncbnkaaGreat

namespace Go.Proofs.YtehafggcncbnkaaGreat
open Go Go.RowKit Go.ChangeShapes Go.WideShapes Go.ChangeAt

theorem own_shares : ownKnob Tryz.prog.godebug = .none := by kernel_rfl
theorem laidOut_shares : laidOutB Tryz.prog = true := by kernel_rfl

set_option maxRecDepth 100000 in
theorem shares_lifted (os : Os) (started : os.Started) (H : Type) (enc : TypeId × Value → H) :
    ReturnsInHanded {} Tryz.checked os 6 .any (Rows.alloySharesSpec.pre6 enc Tryz.prog Tryz.f6 Rows.alloySharesRow.domain false) (Rows.alloySharesSpec.post enc Tryz.prog Tryz.f6 false true false false) := by
  refine returnsInHanded_of_change (C := Tryz.checked) own_shares started (by kernel_rfl) Tryz.func6
    (ChangeSpec.witness6 (enc := enc) (C := Tryz.checked) false ⟨#[], #[.slice .none 0 0, .agg #[.int .i64 0, .int .i64 0], .bool false, .int .i64 0], []⟩ 8 (by kernel_rfl) (by kernel_rfl) (by kernel_rfl) (by kernel_rfl)) ?_
  intro W base args ds gs before hval0 hW hcnd _
  have hval : ∀ (j : Nat) t v, Tryz.f6.params[j]? = some t → args[j]? = some v → Value.okWide Tryz.prog W .any base t v := hval0
  have hW' := hW
  obtain ⟨p, q, hA0, hV, rfl, hfz, hnd⟩ := hW
  have hA : DataW.TrodAll enc Tryz.prog W 0 (fun _ => true) true Tryz.f6.params.toList args.toList ds p := hA0
  rw [Tryz.params6] at hA hval
  obtain ⟨v0, vs0, d0, ds0, p0, q0, hargs, rfl, rfl, h0, r0⟩ := trodAll_cons hA
  obtain ⟨v1, vs1, d1, ds1, p1, q1, rfl, rfl, rfl, h1, r1⟩ := trodAll_cons r0
  obtain ⟨v2, vs2, d2, ds2, p2, q2, rfl, rfl, rfl, h2, r2⟩ := trodAll_cons r1
  obtain ⟨v3, vs3, d3, ds3, p3, q3, rfl, rfl, rfl, h3, r3⟩ := trodAll_cons r2
  obtain ⟨rfl, rfl, rfl⟩ := trodAll_nil r3
  obtain rfl : args = #[v0, v1, v2, v3] := by cases args; simp_all
  obtain ⟨rfl, rfl⟩ := trodVars_none hV
  obtain ⟨a0, n0, cap0, m0, rfl, hM0⟩ := open_metals (hval 0 22 v0 rfl rfl) h0
  obtain ⟨l1, c1, rfl⟩ := open_touch (hval 1 24 v1 rfl rfl) h1
  obtain ⟨s2, hs2, _, _⟩ := open_bool Tryz.underlying4 (hval 2 4 v2 rfl rfl) h2
  obtain ⟨z3, hz3, _, _, hw3⟩ := open_int Tryz.underlying3 (hval 3 3 v3 rfl rfl) h3
  subst hs2 hz3
  refine (law_shares_c a0 n0 cap0 m0 l1 c1 z3 s2 W hM0 (wfi64 hw3)).mono fun e W' ⟨he, hb⟩ => ?_
  subst he
  have hlt := hW'.lt
  simp only [List.append_nil, List.mem_append] at hlt
  refine ⟨_, rfl, _, _, _, [], p0 ++ (p1 ++ (p2 ++ (p3 ++ []))), [], hW', trodAll_mk1 (shut_bool Tryz.underlying4 true), ?_, rfl, hb.frame _, fun h => Bool.noConfusion h⟩
  exact trodAll_cons_mk (Below.trod laidOut_shares (by kernel_rfl) (of_decide_eq_true (by kernel_rfl)) h0 hb fun x hx => hlt x (by simp [hx])) (trodAll_cons_mk (Below.trod laidOut_shares (by kernel_rfl) (of_decide_eq_true (by kernel_rfl)) h1 hb fun x hx => hlt x (by simp [hx])) (trodAll_cons_mk (Below.trod laidOut_shares (by kernel_rfl) (of_decide_eq_true (by kernel_rfl)) h2 hb fun x hx => hlt x (by simp [hx])) (trodAll_cons_mk (Below.trod laidOut_shares (by kernel_rfl) (of_decide_eq_true (by kernel_rfl)) h3 hb fun x hx => hlt x (by simp [hx])) trodAll_mk0)))

theorem shares_holds : Rows.AlloySharesSaid :=
  OpenClaim.holds_of_wide 6 Tryz.f6 rfl rfl rfl rfl rfl rfl rfl ⟨rfl, rfl, rfl, rfl, rfl⟩ rfl rfl rfl rfl rfl (by kernel_rfl) Tryz.func6 (by kernel_rfl)
    (of_decide_eq_true (by kernel_rfl)) (by unfold Func.isWrapper; first | (rw [if_pos (by decide +kernel)]; kernel_rfl) | (rw [if_neg (by decide +kernel)]; exact ⟨rfl, rfl⟩))
    (fun os started H enc _ => shares_lifted os started H enc)
end Go.Proofs.YtehafggcncbnkaaGreat

/- For whatever arguments, the law MouldBooks returns true, and each argument reads behind the call as it read before. No condition. -/
import Derived.Shelf.Abstract
import Derived.Shelf.RegionOpen
import Derived.Test.YtbjgbgchagfokaaProg
import Derived.Test.YtbjgbgchagfokaaBasaa
import Derived.Test.YtbjgbgchagfokaaBasab
import Derived.Test.YtbjgbgchagfokaaBasaf
import Derived.Test.YtbjgbgchagfokaaBasak
import Derived.Test.YtbjgbgchagfokaaBasbc
import Derived.Test.YtbjgbgchagfokaaRows
import Derived.Test.YtbjgbgchagfokaaBasbd
import Derived.ProofKit
namespace Go.Proofs.Ytbjgbgchagfokaa
open Go Go.RowKit Go.Shelf

/-- What Loads answers: the two lists of loads and no error, or none and the error. -/
def LoadsIs (S M : Int) (n : Nat) (f : Nat → W2) (w : World) (v1 v2 : Value) : Prop :=
  ∃ (a1 a2 : Option Addr) (s m : Nat), v1 = .slice a1 s s ∧ v2 = .slice a2 m m ∧ s ≤ 6 ∧ m ≤ 6 ∧
    Ints w a1 s (fun x => loadF (fun i => (f i).s) x n) ∧ Ints w a2 m (fun y => loadF (fun i => (f i).m) y n) ∧ (bookE S M n f = 0 → S = s ∧ M = m) ∧ (bookE S M n f ≠ 0 → s = 0 ∧ m = 0)

theorem LoadsIs.below {S M : Int} {n : Nat} {f : Nat → W2} {w w' : World} {v1 v2 : Value} (h : LoadsIs S M n f w v1 v2) (hb : Below w.heap.size w w') : LoadsIs S M n f w' v1 v2 := by
  obtain ⟨a1, a2, s, m, h1, h2, h3, h4, h5, h6, h7, h8⟩ := h
  exact ⟨a1, a2, s, m, h1, h2, h3, h4, ints_below h5 hb, ints_below h6 hb, h7, h8⟩

theorem LoadsIs.same {S M : Int} {n : Nat} {f : Nat → W2} {w : World} {v1 v2 u1 u2 : Value} (h : LoadsIs S M n f w v1 v2) (k : LoadsIs S M n f w u1 u2) :
    ∃ (a1 a2 b1 b2 : Option Addr) (s m : Nat), v1 = .slice a1 s s ∧ v2 = .slice a2 m m ∧ u1 = .slice b1 s s ∧ u2 = .slice b2 m m ∧ s ≤ 6 ∧ m ≤ 6 ∧
      Ints w a1 s (fun x => loadF (fun i => (f i).s) x n) ∧ Ints w a2 m (fun y => loadF (fun i => (f i).m) y n) ∧ Ints w b1 s (fun x => loadF (fun i => (f i).s) x n) ∧ Ints w b2 m (fun y => loadF (fun i => (f i).m) y n) := by
  obtain ⟨a1, a2, s, m, h1, h2, h3, h4, h5, h6, h7, h8⟩ := h
  obtain ⟨b1, b2, s', m', k1, k2, k3, k4, k5, k6, k7, k8⟩ := k
  have es : s = s' := by
    by_cases e : bookE S M n f = 0
    · have := h7 e; have := k7 e; omega
    · have := h8 e; have := k8 e; omega
  have em : m = m' := by
    by_cases e : bookE S M n f = 0
    · have := h7 e; have := k7 e; omega
    · have := h8 e; have := k8 e; omega
  subst es em
  exact ⟨a1, a2, b1, b2, s, m, h1, h2, k1, k2, h3, h4, h5, h6, k5, k6⟩

theorem loads_mould (S M : Int) (a : Option Addr) (n cap : Nat) (f : Nat → W2) (w : World) (hf : Wants w a n f) (hn : n ≤ 1048576) :
    Calls Try.prog 18 #[bookV S M a n cap] w fun e w' => ∃ v1 v2, e = .returned (.tuple #[v1, v2, .int .i64 (bookE S M n f)]) ∧ LoadsIs S M n f w' v1 v2 ∧ Below w.heap.size w w' := by
  by_cases hE : bookE S M n f = 0
  · obtain ⟨hS, hM, hn14, hw⟩ := book_good hE
    obtain ⟨s, rfl⟩ : ∃ s : Nat, S = s := ⟨S.toNat, by omega⟩
    obtain ⟨m, rfl⟩ : ∃ m : Nat, M = m := ⟨M.toNat, by omega⟩
    refine (mLoads_yes_c s m a n cap f w hf hn hE).mono ?_
    rintro e w' ⟨b1, b2, rfl, h2, h3, _, _, _, hb⟩
    refine ⟨_, _, by rw [hE], ⟨some ⟨b1, 0, none⟩, some ⟨b2, 0, none⟩, s, m, rfl, rfl, by omega, by omega, ints_congr (ints_rowA h2) ?_, ints_congr (ints_rowA h3) ?_, fun _ => ⟨rfl, rfl⟩, fun h => absurd hE h⟩, hb⟩
    · intro i hi
      show bookL f n i = _
      rw [loadF_many]
      exact ldF_shop (by omega) fun i hi => (hw i hi).2.1
    · intro i hi
      show bookL f n (6 + i) = _
      rw [loadF_many]
      exact ldF_mould fun i hi => by have := (hw i hi).1.2; omega
  · refine (Loads_no_c S M a n cap f w hf hn hE).mono ?_
    rintro e w' ⟨rfl, hb⟩
    exact ⟨_, _, rfl, ⟨none, none, 0, 0, rfl, rfl, by omega, by omega, .inl rfl, .inl rfl, fun h => absurd h hE, fun _ => ⟨rfl, rfl⟩⟩, hb⟩

theorem loads_ref (S M : Int) (a : Option Addr) (n cap : Nat) (f : Nat → W2) (w : World) (hf : Wants w a n f) (hn : n ≤ 1048576) :
    Calls Try.prog 19 #[bookV S M a n cap] w fun e w' => ∃ v1 v2, e = .returned (.tuple #[v1, v2, .int .i64 (bookE S M n f)]) ∧ LoadsIs S M n f w' v1 v2 ∧ Below w.heap.size w w' := by
  by_cases hE : bookE S M n f = 0
  · obtain ⟨hS, hM, hn14, hw⟩ := book_good hE
    obtain ⟨s, rfl⟩ : ∃ s : Nat, S = s := ⟨S.toNat, by omega⟩
    obtain ⟨m, rfl⟩ : ∃ m : Nat, M = m := ⟨M.toNat, by omega⟩
    refine (rLoads_yes_c s m a n cap f w hf hn hE).mono ?_
    rintro e w' ⟨b1, b2, rfl, h2, h3, _, _, _, hb⟩
    exact ⟨_, _, by rw [hE], ⟨some ⟨b1, 0, none⟩, some ⟨b2, 0, none⟩, s, m, rfl, rfl, by omega, by omega, ints_rowA h2, ints_rowA h3, fun _ => ⟨rfl, rfl⟩, fun h => absurd hE h⟩, hb⟩
  · refine (rLoads_no_c S M a n cap f w hf hn hE).mono ?_
    rintro e w' ⟨rfl, hb⟩
    exact ⟨_, _, rfl, ⟨none, none, 0, 0, rfl, rfl, by omega, by omega, .inl rfl, .inl rfl, fun h => absurd h hE, fun _ => ⟨rfl, rfl⟩⟩, hb⟩

set_option maxRecDepth 100000 in
set_option maxHeartbeats 16000000 in
theorem law_books_c (S M : Int) (a : Option Addr) (n cap : Nat) (f : Nat → W2) (da : Option Addr) (k dcap : Nat) (g : Nat → Int) (w : World) (hf : Wants w a n f) (hd : Ints w da k g) (hc2 : k ≤ dcap) (hc3 : dcap ≤ 9223372036854775807) :
    Calls Try.prog 3 #[bookV S M a n cap, .slice da k dcap] w fun e w' => e = .returned (.bool true) ∧ Below w.heap.size w w' := by
  obtain ⟨W, hW⟩ : ∃ W, w.alloc (.cells #[.int .i64 S, .int .i64 M, .slice a n cap] 24) = W := ⟨_, rfl⟩
  have hB : Below w.heap.size w W := by rw [← hW]; exact Below.alloc1 (Below.refl _ _) _ (Nat.le_refl _)
  have hR : RowIs W w.heap.size #[.int .i64 S, .int .i64 M, .slice a n cap] 24 := by rw [← hW]; exact heap_new_at _ _ _ rfl
  have r0 : W.cell? ⟨w.heap.size, 0, none⟩ = some (.int .i64 S) := RowIs.cell hR 0
  have r1 : W.cell? ⟨w.heap.size, 1, none⟩ = some (.int .i64 M) := RowIs.cell hR 1
  have r2 : W.cell? ⟨w.heap.size, 2, none⟩ = some (.slice a n cap) := RowIs.cell hR 2
  have rz : w.heap.size < W.heap.size := hR.lt
  have HF := Lib.hid (hf.below hB)
  have HD := Lib.hid (ints_below hd hB)
  clear hR hf hd
  cases hg : decide (20 < n) with
  | true =>
    go_enter Try.func3, Try.ntmps3
    go_wp2_with fail
    refine (great_c S M a n cap _).mono ?_
    rintro e w1 ⟨rfl, hb1⟩
    rw [hg]
    go_wp2_with fail
    refine (works_c _).mono ?_
    rintro e w2 ⟨rfl, hb2⟩
    go_wp2_with fail
    go_ret
    exact ⟨rfl, bup hB (bup hb1 hb2)⟩
  | false =>
    cases hl : decide (24 < k) with
    | true =>
      go_enter Try.func3, Try.ntmps3
      go_wp2_with fail
      refine (great_c S M a n cap _).mono ?_
      rintro e w1 ⟨rfl, hb1⟩
      rw [hg]
      go_wp2_with fail
      refine (long_c da k dcap _).mono ?_
      rintro e w1' ⟨rfl, rfl⟩
      rw [hl]
      go_wp2_with fail
      refine (works_c _).mono ?_
      rintro e w2 ⟨rfl, hb2⟩
      go_wp2_with fail
      go_ret
      exact ⟨rfl, bup hB (bup hb1 hb2)⟩
    | false =>
      have hn20 : n ≤ 20 := by have := of_decide_eq_false hg; omega
      have hk24 : k ≤ 24 := by have := of_decide_eq_false hl; omega
      have HG := Lib.hid (fun (x : World) => great_c S M a n cap x)
      have HL := Lib.hid (fun (x : World) => long_c da k dcap x)
      rw [hg] at HG
      rw [hl] at HL
      clear hg hl
      obtain ⟨E, hE⟩ : ∃ E, bookE S M n f = E := ⟨_, rfl⟩
      obtain ⟨D, hD⟩ : ∃ D, daysE S M n f k g = D := ⟨_, rfl⟩
      obtain ⟨N, hN⟩ : ∃ N, daysN D g k = N := ⟨_, rfl⟩
      have HE := Lib.hid hE
      have HX := Lib.hid hD
      have HN := Lib.hid hN
      clear hE hD hN
      go_enter Try.func3, Try.ntmps3
      go_wp2_with fail
      refine (HG.out _).mono ?_
      rintro e w1 ⟨rfl, hb1⟩
      have q0 := (hb1.cell (p := ⟨w.heap.size, 0, none⟩) rz).trans r0
      have q1 := (hb1.cell (p := ⟨w.heap.size, 1, none⟩) rz).trans r1
      have q2 := (hb1.cell (p := ⟨w.heap.size, 2, none⟩) rz).trans r2
      have qz := Nat.lt_of_lt_of_le rz hb1.size
      replace HF := Lib.hid (HF.out.below hb1)
      replace HD := Lib.hid (ints_below HD.out hb1)
      replace hB := bup hB hb1
      clear r0 r1 r2 rz hb1
      go_wp2_with fail
      refine (HL.out _).mono ?_
      rintro e w1' ⟨rfl, rfl⟩
      go_wp2_with fail
      refine (loads_mould S M a n cap f _ HF.out (by omega)).mono ?_
      rintro e w2 ⟨v1, v2, rfl, h1, hb2⟩
      rw [HE.out]
      have r0 := (hb2.cell (p := ⟨w.heap.size, 0, none⟩) qz).trans q0
      have r1 := (hb2.cell (p := ⟨w.heap.size, 1, none⟩) qz).trans q1
      have r2 := (hb2.cell (p := ⟨w.heap.size, 2, none⟩) qz).trans q2
      have rz := Nat.lt_of_lt_of_le qz hb2.size
      have H1 := Lib.hid h1
      replace HF := Lib.hid (HF.out.below hb2)
      replace HD := Lib.hid (ints_below HD.out hb2)
      replace hB := bup hB hb2
      clear q0 q1 q2 qz hb2 h1
      go_wp2_with fail
      refine (loads_ref S M a n cap f _ HF.out (by omega)).mono ?_
      rintro e w3 ⟨u1, u2, rfl, h2, hb3⟩
      rw [HE.out]
      have q0 := (hb3.cell (p := ⟨w.heap.size, 0, none⟩) rz).trans r0
      have q1 := (hb3.cell (p := ⟨w.heap.size, 1, none⟩) rz).trans r1
      have q2 := (hb3.cell (p := ⟨w.heap.size, 2, none⟩) rz).trans r2
      have qz := Nat.lt_of_lt_of_le rz hb3.size
      have H2 := Lib.hid (LoadsIs.same (H1.out.below hb3) h2)
      clear H1 h2
      replace HF := Lib.hid (HF.out.below hb3)
      replace HD := Lib.hid (ints_below HD.out hb3)
      replace hB := bup hB hb3
      clear r0 r1 r2 rz hb3
      go_wp2_with fail
      refine (CheckDays_c S M a n cap f da k dcap g _ HF.out (by omega) HD.out).mono ?_
      rintro e w4 ⟨rfl, hb4⟩
      rw [HX.out, HN.out]
      have r0 := (hb4.cell (p := ⟨w.heap.size, 0, none⟩) qz).trans q0
      have r1 := (hb4.cell (p := ⟨w.heap.size, 1, none⟩) qz).trans q1
      have r2 := (hb4.cell (p := ⟨w.heap.size, 2, none⟩) qz).trans q2
      have rz := Nat.lt_of_lt_of_le qz hb4.size
      replace HF := Lib.hid (HF.out.below hb4)
      replace HD := Lib.hid (ints_below HD.out hb4)
      replace hB := bup hB hb4
      have H3 := Lib.hid hb4
      clear q0 q1 q2 qz hb4
      go_wp2_with fail
      refine (rcheckDays_c S M a n cap f da k dcap g _ HF.out (by omega) HD.out (by omega) hc2 hc3).mono ?_
      rintro e w5 ⟨rfl, hb5⟩
      rw [HX.out, HN.out]
      have q0 := (hb5.cell (p := ⟨w.heap.size, 0, none⟩) rz).trans r0
      have q1 := (hb5.cell (p := ⟨w.heap.size, 1, none⟩) rz).trans r1
      have q2 := (hb5.cell (p := ⟨w.heap.size, 2, none⟩) rz).trans r2
      have qz := Nat.lt_of_lt_of_le rz hb5.size
      replace HF := Lib.hid (HF.out.below hb5)
      replace hB := bup hB hb5
      obtain ⟨a1, a2, b1, b2, s, m, rfl, rfl, rfl, rfl, hs6, hm6, i1, i2, i3, i4⟩ := H2.out
      have K1 := Lib.hid (ints_below (ints_below i1 H3.out) hb5)
      have K2 := Lib.hid (ints_below (ints_below i2 H3.out) hb5)
      have K3 := Lib.hid (ints_below (ints_below i3 H3.out) hb5)
      have K4 := Lib.hid (ints_below (ints_below i4 H3.out) hb5)
      clear H2 H3 i1 i2 i3 i4 r0 r1 r2 rz hb5 HD
      have C1 := fun (x : World) (h : Below w5.heap.size w5 x) => checkBook_c S M a n cap f x (HF.out.below h) (by omega)
      have C2 := fun (x : World) (h : Below w5.heap.size w5 x) => rcheckBook_c S M a n cap f x (HF.out.below h) (by omega)
      have C3 := fun (x : World) (h : Below w5.heap.size w5 x) => Ints_c a1 s s _ b1 s s _ x (ints_below K1.out h) (ints_below K3.out h) (by omega)
      have C4 := fun (x : World) (h : Below w5.heap.size w5 x) => Ints_c a2 m m _ b2 m m _ x (ints_below K2.out h) (ints_below K4.out h) (by omega)
      rw [HE.out] at C1 C2
      rw [intsB_yes fun _ _ => rfl] at C3 C4
      replace C1 := Lib.hid C1
      replace C2 := Lib.hid C2
      replace C3 := Lib.hid C3
      replace C4 := Lib.hid C4
      clear K1 K2 K3 K4 HF
      have hlc := fun (x : Later w5) => later_cell x
      go_wp2_with fail
      refine wp_region_later (by kernel_rfl) (by kernel_rfl) ?_
      repeat (go_big_quiet_step ((first | (with_reducible refine calls_later (C1.out _ (Later.h _))) | (with_reducible refine calls_later (C2.out _ (Later.h _))) | (with_reducible refine calls_later (C3.out _ (Later.h _))) | (with_reducible refine calls_later (C4.out _ (Later.h _))) | (with_reducible refine calls_later (works_c _)))))
      refine wpQuiet_nil ?_
      clear hlc
      rintro ⟨w6, hb6⟩
      go_wp2_with fail
      go_ret
      exact ⟨rfl, bup hB hb6⟩

end Go.Proofs.Ytbjgbgchagfokaa

namespace Go.Proofs.Ytbjgbgchagfokaa
open Go Go.RowKit Go.ChangeShapes Go.WideShapes Go.ChangeAt

theorem own_books : ownKnob Try.prog.godebug = .none := by kernel_rfl
theorem laidOut_books : laidOutB Try.prog = true := by kernel_rfl

set_option maxRecDepth 100000 in
theorem books_lifted (os : Os) (started : os.Started) (H : Type) (enc : TypeId × Value → H) :
    ReturnsInHanded {} Try.checked os 3 .any (Rows.mouldBooksSpec.pre6 enc Try.prog Try.f3 Rows.mouldBooksRow.domain false) (Rows.mouldBooksSpec.post enc Try.prog Try.f3 false true false false) := by
  refine returnsInHanded_of_change (C := Try.checked) own_books started (by kernel_rfl) Try.func3
    (ChangeSpec.witness6 (enc := enc) (C := Try.checked) false ⟨#[], #[.agg #[.int .i64 0, .int .i64 0, .slice .none 0 0], .slice .none 0 0], []⟩ 8 (by kernel_rfl) (by kernel_rfl) (by kernel_rfl) (by kernel_rfl)) ?_
  intro W base args ds gs before hval0 hW hcnd _
  have hval : ∀ (j : Nat) t v, Try.f3.params[j]? = some t → args[j]? = some v → Value.okWide Try.prog W .any base t v := hval0
  have hW' := hW
  obtain ⟨p, q, hA0, hV, rfl, hfz, hnd⟩ := hW
  have hA : DataW.TrodAll enc Try.prog W 0 (fun _ => true) true Try.f3.params.toList args.toList ds p := hA0
  rw [Try.params3] at hA hval
  obtain ⟨v0, vs0, d0, ds0, p0, q0, hargs, rfl, rfl, h0, r0⟩ := trodAll_cons hA
  obtain ⟨v1, vs1, d1, ds1, p1, q1, rfl, rfl, rfl, h1, r1⟩ := trodAll_cons r0
  obtain ⟨rfl, rfl, rfl⟩ := trodAll_nil r1
  obtain rfl : args = #[v0, v1] := by cases args; simp_all
  obtain ⟨rfl, rfl⟩ := trodVars_none hV
  obtain ⟨S0, M0, a0, n0, cap0, f0, rfl, hF0⟩ := open_book (hval 0 24 v0 rfl rfl) h0
  obtain ⟨a1, n1, cap1, f1, rfl, hF1, hc1, hm1⟩ := open_days (hval 1 25 v1 rfl rfl) h1
  refine (law_books_c S0 M0 a0 n0 cap0 f0 a1 n1 cap1 f1 W hF0 hF1 hc1 hm1).mono fun e W' ⟨he, hb⟩ => ?_
  subst he
  have hlt := hW'.lt
  simp only [List.append_nil, List.mem_append] at hlt
  refine ⟨_, rfl, _, _, _, [], p0 ++ (p1 ++ []), [], hW', trodAll_mk1 (shut_bool Try.underlying4 true), ?_, rfl, hb.frame _, fun h => Bool.noConfusion h⟩
  exact trodAll_cons_mk (Below.trod laidOut_books (by kernel_rfl) (of_decide_eq_true (by kernel_rfl)) h0 hb fun x hx => hlt x (by simp [hx])) (trodAll_cons_mk (Below.trod laidOut_books (by kernel_rfl) (of_decide_eq_true (by kernel_rfl)) h1 hb fun x hx => hlt x (by simp [hx])) trodAll_mk0)

theorem books_holds : Rows.MouldBooksSaid :=
  OpenClaim.holds_of_wide 3 Try.f3 rfl rfl rfl rfl rfl rfl rfl ⟨rfl, rfl, rfl, rfl, rfl⟩ rfl rfl rfl rfl rfl (by kernel_rfl) Try.func3 (by kernel_rfl)
    (of_decide_eq_true (by kernel_rfl)) (by unfold Func.isWrapper; first | (rw [if_pos (by decide +kernel)]; kernel_rfl) | (rw [if_neg (by decide +kernel)]; exact ⟨rfl, rfl⟩))
    (fun os started H enc _ => books_lifted os started H enc)
end Go.Proofs.Ytbjgbgchagfokaa

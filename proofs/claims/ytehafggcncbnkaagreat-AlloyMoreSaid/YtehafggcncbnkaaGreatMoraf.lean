/- For whatever arguments, the law AlloyMore returns true, and each argument reads behind the call as it read before. No condition. -/
import Derived.Test.YtehafggcncbnkaaGreatRows
import Derived.Test.YtehafggcncbnkaaGreatBasax
import Derived.Test.YtehafggcncbnkaaGreatMoraa
import Derived.Test.YtehafggcncbnkaaGreatMorae
import Derived.ProofKit
namespace Go.Proofs.YtehafggcncbnkaaGreat
open Go Go.RowKit Go.ChangeShapes Go.WideShapes Go.ChangeAt

theorem own_more : ownKnob Tryz.prog.godebug = .none := by kernel_rfl
theorem laidOut_more : laidOutB Tryz.prog = true := by kernel_rfl

set_option maxRecDepth 100000 in
theorem more_lifted (os : Os) (started : os.Started) (H : Type) (enc : TypeId × Value → H) :
    ReturnsInHanded {} Tryz.checked os 15 .any (Rows.alloyMoreSpec.pre6 enc Tryz.prog Tryz.f15 Rows.alloyMoreRow.domain false) (Rows.alloyMoreSpec.post enc Tryz.prog Tryz.f15 false true false false) := by
  refine returnsInHanded_of_change (C := Tryz.checked) own_more started (by kernel_rfl) Tryz.func15
    (ChangeSpec.witness6 (enc := enc) (C := Tryz.checked) false ⟨#[], #[.slice .none 0 0, .agg #[.int .i64 0, .int .i64 0], .bool false, .agg #[.int .i64 0, .int .i64 0, .int .i64 0, .int .i64 0, .int .i64 0], .int .u8 0, .int .u16 0, .int .u16 0, .int .u16 0], []⟩ 8 (by kernel_rfl) (by kernel_rfl) (by kernel_rfl) (by kernel_rfl)) ?_
  intro W base args ds gs before hval0 hW hcnd _
  have hval : ∀ (j : Nat) t v, Tryz.f15.params[j]? = some t → args[j]? = some v → Value.okWide Tryz.prog W .any base t v := hval0
  have hW' := hW
  obtain ⟨p, q, hA0, hV, rfl, hfz, hnd⟩ := hW
  have hA : DataW.TrodAll enc Tryz.prog W 0 (fun _ => true) true Tryz.f15.params.toList args.toList ds p := hA0
  rw [Tryz.params15] at hA hval
  obtain ⟨v0, vs0, d0, ds0, p0, q0, hargs, rfl, rfl, h0, r0⟩ := trodAll_cons hA
  obtain ⟨v1, vs1, d1, ds1, p1, q1, rfl, rfl, rfl, h1, r1⟩ := trodAll_cons r0
  obtain ⟨v2, vs2, d2, ds2, p2, q2, rfl, rfl, rfl, h2, r2⟩ := trodAll_cons r1
  obtain ⟨v3, vs3, d3, ds3, p3, q3, rfl, rfl, rfl, h3, r3⟩ := trodAll_cons r2
  obtain ⟨v4, vs4, d4, ds4, p4, q4, rfl, rfl, rfl, h4, r4⟩ := trodAll_cons r3
  obtain ⟨v5, vs5, d5, ds5, p5, q5, rfl, rfl, rfl, h5, r5⟩ := trodAll_cons r4
  obtain ⟨v6, vs6, d6, ds6, p6, q6, rfl, rfl, rfl, h6, r6⟩ := trodAll_cons r5
  obtain ⟨v7, vs7, d7, ds7, p7, q7, rfl, rfl, rfl, h7, r7⟩ := trodAll_cons r6
  obtain ⟨rfl, rfl, rfl⟩ := trodAll_nil r7
  obtain rfl : args = #[v0, v1, v2, v3, v4, v5, v6, v7] := by cases args; simp_all
  obtain ⟨rfl, rfl⟩ := trodVars_none hV
  obtain ⟨a0, n0, cap0, m0, rfl, hM0⟩ := open_metals (hval 0 22 v0 rfl rfl) h0
  obtain ⟨l1, c1, rfl⟩ := open_touch (hval 1 24 v1 rfl rfl) h1
  obtain ⟨s2, hs2, _, _⟩ := open_bool Tryz.underlying4 (hval 2 4 v2 rfl rfl) h2
  obtain ⟨k3, rfl⟩ := open_metal (hval 3 68 v3 rfl rfl) h3
  obtain ⟨z4, hz4, _, _, hw4⟩ := open_int Tryz.underlying5 (hval 4 5 v4 rfl rfl) h4
  obtain ⟨z5, hz5, _, _, hw5⟩ := open_int Tryz.underlying64 (hval 5 64 v5 rfl rfl) h5
  obtain ⟨z6, hz6, _, _, hw6⟩ := open_int Tryz.underlying64 (hval 6 64 v6 rfl rfl) h6
  obtain ⟨z7, hz7, _, _, hw7⟩ := open_int Tryz.underlying64 (hval 7 64 v7 rfl rfl) h7
  subst hs2 hz4 hz5 hz6 hz7
  refine (law_more_c a0 n0 cap0 m0 l1 c1 z4 z5 z6 z7 s2 k3 W hM0 (wfu8 hw4) (wfu16 hw5) (wfu16 hw6) (wfu16 hw7)).mono fun e W' ⟨he, hb⟩ => ?_
  subst he
  have hlt := hW'.lt
  simp only [List.append_nil, List.mem_append] at hlt
  refine ⟨_, rfl, _, _, _, [], p0 ++ (p1 ++ (p2 ++ (p3 ++ (p4 ++ (p5 ++ (p6 ++ (p7 ++ []))))))), [], hW', trodAll_mk1 (shut_bool Tryz.underlying4 true), ?_, rfl, hb.frame _, fun h => Bool.noConfusion h⟩
  exact trodAll_cons_mk (Below.trod laidOut_more (by kernel_rfl) (of_decide_eq_true (by kernel_rfl)) h0 hb fun x hx => hlt x (by simp [hx])) (trodAll_cons_mk (Below.trod laidOut_more (by kernel_rfl) (of_decide_eq_true (by kernel_rfl)) h1 hb fun x hx => hlt x (by simp [hx])) (trodAll_cons_mk (Below.trod laidOut_more (by kernel_rfl) (of_decide_eq_true (by kernel_rfl)) h2 hb fun x hx => hlt x (by simp [hx])) (trodAll_cons_mk (Below.trod laidOut_more (by kernel_rfl) (of_decide_eq_true (by kernel_rfl)) h3 hb fun x hx => hlt x (by simp [hx])) (trodAll_cons_mk (Below.trod laidOut_more (by kernel_rfl) (of_decide_eq_true (by kernel_rfl)) h4 hb fun x hx => hlt x (by simp [hx])) (trodAll_cons_mk (Below.trod laidOut_more (by kernel_rfl) (of_decide_eq_true (by kernel_rfl)) h5 hb fun x hx => hlt x (by simp [hx])) (trodAll_cons_mk (Below.trod laidOut_more (by kernel_rfl) (of_decide_eq_true (by kernel_rfl)) h6 hb fun x hx => hlt x (by simp [hx])) (trodAll_cons_mk (Below.trod laidOut_more (by kernel_rfl) (of_decide_eq_true (by kernel_rfl)) h7 hb fun x hx => hlt x (by simp [hx])) trodAll_mk0)))))))

theorem more_holds : Rows.AlloyMoreSaid :=
  OpenClaim.holds_of_wide 15 Tryz.f15 rfl rfl rfl rfl rfl rfl rfl ⟨rfl, rfl, rfl, rfl, rfl⟩ rfl rfl rfl rfl rfl (by kernel_rfl) Tryz.func15 (by kernel_rfl)
    (of_decide_eq_true (by kernel_rfl)) (by unfold Func.isWrapper; first | (rw [if_pos (by decide +kernel)]; kernel_rfl) | (rw [if_neg (by decide +kernel)]; exact ⟨rfl, rfl⟩))
    (fun os started H enc _ => more_lifted os started H enc)
end Go.Proofs.YtehafggcncbnkaaGreat

/- For whatever arguments, the law AlloyPoured returns true, and each argument reads behind the call as it read before. No condition. -/
import Derived.Test.YtehafggcncbnkaaGreatRows
import Derived.Test.YtehafggcncbnkaaGreatBasax
import Derived.Test.YtehafggcncbnkaaGreatBasat
import Derived.ProofKit
namespace Go.Proofs.YtehafggcncbnkaaGreat
open Go Go.RowKit Go.ChangeShapes Go.WideShapes Go.ChangeAt

theorem own_poured : ownKnob Tryz.prog.godebug = .none := by kernel_rfl
theorem laidOut_poured : laidOutB Tryz.prog = true := by kernel_rfl

set_option maxRecDepth 100000 in
theorem poured_lifted (os : Os) (started : os.Started) (H : Type) (enc : TypeId × Value → H) :
    ReturnsInHanded {} Tryz.checked os 11 .any (Rows.alloyPouredSpec.pre6 enc Tryz.prog Tryz.f11 Rows.alloyPouredRow.domain false) (Rows.alloyPouredSpec.post enc Tryz.prog Tryz.f11 false true false false) := by
  refine returnsInHanded_of_change (C := Tryz.checked) own_poured started (by kernel_rfl) Tryz.func11
    (ChangeSpec.witness6 (enc := enc) (C := Tryz.checked) false ⟨#[], #[.slice .none 0 0, .agg #[.int .i64 0, .int .i64 0], .bool false, .slice .none 0 0, .slice .none 0 0], []⟩ 8 (by kernel_rfl) (by kernel_rfl) (by kernel_rfl) (by kernel_rfl)) ?_
  intro W base args ds gs before hval0 hW hcnd _
  have hval : ∀ (j : Nat) t v, Tryz.f11.params[j]? = some t → args[j]? = some v → Value.okWide Tryz.prog W .any base t v := hval0
  have hW' := hW
  obtain ⟨p, q, hA0, hV, rfl, hfz, hnd⟩ := hW
  have hA : DataW.TrodAll enc Tryz.prog W 0 (fun _ => true) true Tryz.f11.params.toList args.toList ds p := hA0
  rw [Tryz.params11] at hA hval
  obtain ⟨v0, vs0, d0, ds0, p0, q0, hargs, rfl, rfl, h0, r0⟩ := trodAll_cons hA
  obtain ⟨v1, vs1, d1, ds1, p1, q1, rfl, rfl, rfl, h1, r1⟩ := trodAll_cons r0
  obtain ⟨v2, vs2, d2, ds2, p2, q2, rfl, rfl, rfl, h2, r2⟩ := trodAll_cons r1
  obtain ⟨v3, vs3, d3, ds3, p3, q3, rfl, rfl, rfl, h3, r3⟩ := trodAll_cons r2
  obtain ⟨v4, vs4, d4, ds4, p4, q4, rfl, rfl, rfl, h4, r4⟩ := trodAll_cons r3
  obtain ⟨rfl, rfl, rfl⟩ := trodAll_nil r4
  obtain rfl : args = #[v0, v1, v2, v3, v4] := by cases args; simp_all
  obtain ⟨rfl, rfl⟩ := trodVars_none hV
  obtain ⟨a0, n0, cap0, m0, rfl, hM0⟩ := open_metals (hval 0 22 v0 rfl rfl) h0
  obtain ⟨l1, c1, rfl⟩ := open_touch (hval 1 24 v1 rfl rfl) h1
  obtain ⟨s2, hs2, _, _⟩ := open_bool Tryz.underlying4 (hval 2 4 v2 rfl rfl) h2
  obtain ⟨a3, n3, cap3, f3, rfl, hF3, hb3⟩ := open_shorts (hval 3 54 v3 rfl rfl) h3
  obtain ⟨a4, n4, cap4, f4, rfl, hF4, hb4⟩ := open_shorts (hval 4 54 v4 rfl rfl) h4
  subst hs2
  refine (law_poured_c a0 a3 a4 n0 cap0 n3 cap3 n4 cap4 m0 f3 f4 l1 c1 s2 W hM0 hF3 hb3 hF4 hb4).mono fun e W' ⟨he, hb⟩ => ?_
  subst he
  have hlt := hW'.lt
  simp only [List.append_nil, List.mem_append] at hlt
  refine ⟨_, rfl, _, _, _, [], p0 ++ (p1 ++ (p2 ++ (p3 ++ (p4 ++ [])))), [], hW', trodAll_mk1 (shut_bool Tryz.underlying4 true), ?_, rfl, hb.frame _, fun h => Bool.noConfusion h⟩
  exact trodAll_cons_mk (Below.trod laidOut_poured (by kernel_rfl) (of_decide_eq_true (by kernel_rfl)) h0 hb fun x hx => hlt x (by simp [hx])) (trodAll_cons_mk (Below.trod laidOut_poured (by kernel_rfl) (of_decide_eq_true (by kernel_rfl)) h1 hb fun x hx => hlt x (by simp [hx])) (trodAll_cons_mk (Below.trod laidOut_poured (by kernel_rfl) (of_decide_eq_true (by kernel_rfl)) h2 hb fun x hx => hlt x (by simp [hx])) (trodAll_cons_mk (Below.trod laidOut_poured (by kernel_rfl) (of_decide_eq_true (by kernel_rfl)) h3 hb fun x hx => hlt x (by simp [hx])) (trodAll_cons_mk (Below.trod laidOut_poured (by kernel_rfl) (of_decide_eq_true (by kernel_rfl)) h4 hb fun x hx => hlt x (by simp [hx])) trodAll_mk0))))

theorem poured_holds : Rows.AlloyPouredSaid :=
  OpenClaim.holds_of_wide 11 Tryz.f11 rfl rfl rfl rfl rfl rfl rfl ⟨rfl, rfl, rfl, rfl, rfl⟩ rfl rfl rfl rfl rfl (by kernel_rfl) Tryz.func11 (by kernel_rfl)
    (of_decide_eq_true (by kernel_rfl)) (by unfold Func.isWrapper; first | (rw [if_pos (by decide +kernel)]; kernel_rfl) | (rw [if_neg (by decide +kernel)]; exact ⟨rfl, rfl⟩))
    (fun os started H enc _ => poured_lifted os started H enc)
end Go.Proofs.YtehafggcncbnkaaGreat

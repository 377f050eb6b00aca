/- For whatever arguments, the law SearchUsed returns true, and each argument reads behind the call as it read before. No condition. -/
import Derived.Test.YtkbbhihndigmeaaRows
import Derived.Test.YtkbbhihndigmeaaQusaa
import Derived.Test.YtkbbhihndigmeaaQusab
import Derived.ProofKit
namespace Go.Proofs.Ytkbbhihndigmeaa
open Go Go.RowKit Go.ChangeShapes Go.WideShapes Go.ChangeAt
theorem own_used:ownKnob Try.prog.godebug = .none:=by kernel_rfl
theorem laidOut_used:laidOutB Try.prog=true:=by kernel_rfl
set_option maxRecDepth 100000 in
theorem used_lifted (os:Os) (started:os.Started) (H:Type) (enc:TypeId × Value→H) :
 ReturnsInHanded {} Try.checked os 9 .any (Rows.searchUsedSpec.pre6 enc Try.prog Try.f9 Rows.searchUsedRow.domain false) (Rows.searchUsedSpec.post enc Try.prog Try.f9 false true false false):=by
 refine returnsInHanded_of_change (C:=Try.checked) own_used started (by kernel_rfl) Try.func9
  (ChangeSpec.witness6 (enc:=enc) (C:=Try.checked) false ⟨#[], #[.agg #[.slice .none 0 0]],[]⟩ 8 (by kernel_rfl) (by kernel_rfl) (by kernel_rfl) (by kernel_rfl)) ?_
 intro W base args ds gs before hval0 hW hcnd _
 have hval : ∀ (j:Nat) t v,Try.f9.params[j]? = some t→args[j]? = some v→Value.okWide Try.prog W .any base t v:=hval0
 have hW':=hW
 obtain ⟨p,q,hA0,hV,rfl,hfz,hnd⟩:=hW
 have hA:DataW.TrodAll enc Try.prog W 0 (fun _=>true) true Try.f9.params.toList args.toList ds p:=hA0
 rw [Try.params9] at hA hval
 obtain ⟨v0,vs0,d0,ds0,p0,q0,hargs,rfl,rfl,h0,r0⟩:=trodAll_cons hA
 obtain ⟨rfl,rfl,rfl⟩:=trodAll_nil r0
 obtain rfl:args = #[v0]:=by cases args; simp_all
 obtain ⟨rfl,rfl⟩:=trodVars_none hV
 obtain ⟨a0,m0,cap0,f0,rfl,hT0⟩:=open_table (hval 0 24 v0 rfl rfl) h0
 refine (law_used_c a0 m0 cap0 f0 W hT0).mono fun e W' ⟨he,hb⟩ => ?_
 subst he
 have hlt:=hW'.lt
 simp only [List.append_nil] at hlt
 refine ⟨_,rfl,_,_,_,[],p0 ++ [],[],hW',trodAll_mk1 (shut_bool Try.underlying4 true),?_,rfl,hb.frame _,fun h=>Bool.noConfusion h⟩
 exact trodAll_cons_mk (Below.trod laidOut_used (by kernel_rfl) (of_decide_eq_true (by kernel_rfl)) h0 hb fun x hx=>hlt x (by simp [hx])) trodAll_mk0
theorem used_holds:Rows.SearchUsedSaid:=
 OpenClaim.holds_of_wide 9 Try.f9 rfl rfl rfl rfl rfl rfl rfl ⟨rfl,rfl,rfl,rfl,rfl⟩ rfl rfl rfl rfl rfl (by kernel_rfl) Try.func9 (by kernel_rfl)
  (of_decide_eq_true (by kernel_rfl)) (by unfold Func.isWrapper; first | (rw [if_pos (by decide +kernel)]; kernel_rfl) | (rw [if_neg (by decide +kernel)]; exact ⟨rfl,rfl⟩))
  (fun os started H enc _=>used_lifted os started H enc)
end Go.Proofs.Ytkbbhihndigmeaa

/- The law SearchKnown, the chapter's examples, returns true. No condition. -/
import Derived.Test.YtkbbhihndigmeaaRows
import Derived.Test.YtkbbhihndigmeaaQknab
import Derived.ProofKit
namespace Go.Proofs.Ytkbbhihndigmeaa
open Go Go.RowKit Go.ChangeShapes Go.WideShapes Go.ChangeAt
theorem own_known:ownKnob Try.prog.godebug = .none:=by kernel_rfl
set_option maxRecDepth 100000 in
theorem known_lifted (os:Os) (started:os.Started) (H:Type) (enc:TypeId × Value→H) :
 ReturnsInHanded {} Try.checked os 15 .any (Rows.searchKnownSpec.pre6 enc Try.prog Try.f15 Rows.searchKnownRow.domain false) (Rows.searchKnownSpec.post enc Try.prog Try.f15 false true false false):=by
 refine returnsInHanded_of_change (C:=Try.checked) own_known started (by kernel_rfl) Try.func15
  (ChangeSpec.witness6 (enc:=enc) (C:=Try.checked) false ⟨#[], #[],[]⟩ 8 (by kernel_rfl) (by kernel_rfl) (by kernel_rfl) (by kernel_rfl)) ?_
 intro W base args ds gs before hval0 hW hcnd _
 have hW':=hW
 obtain ⟨p,q,hA0,hV,rfl,hfz,hnd⟩:=hW
 have hA:DataW.TrodAll enc Try.prog W 0 (fun _=>true) true Try.f15.params.toList args.toList ds p:=hA0
 rw [Try.params15] at hA
 obtain ⟨hargs,rfl,rfl⟩:=trodAll_none hA
 obtain rfl:args = #[]:=by cases args; simp_all
 obtain ⟨rfl,rfl⟩:=trodVars_none hV
 refine (law_known_c W).mono fun e W' ⟨he,hb⟩ => ?_
 subst he
 exact ⟨_,rfl,_,_,_,[],[],[],hW',trodAll_mk1 (shut_bool Try.underlying4 true),trodAll_mk0,rfl,hb.frame _,fun h=>Bool.noConfusion h⟩
theorem known_holds:Rows.SearchKnownSaid:=
 OpenClaim.holds_of_wide 15 Try.f15 rfl rfl rfl rfl rfl rfl rfl ⟨rfl,rfl,rfl,rfl,rfl⟩ rfl rfl rfl rfl rfl (by kernel_rfl) Try.func15 (by kernel_rfl)
  (of_decide_eq_true (by kernel_rfl)) (by unfold Func.isWrapper; first | (rw [if_pos (by decide +kernel)]; kernel_rfl) | (rw [if_neg (by decide +kernel)]; exact ⟨rfl,rfl⟩))
  (fun os started H enc _=>known_lifted os started H enc)
end Go.Proofs.Ytkbbhihndigmeaa

/- A region that draws its order, walked without its worlds, beside which a variable is made at whatever moment. It imports nothing of the program. -/
import Derived.StillTail
import Derived.Test.YtehafggcncbnkaaGreatBasaa
import Derived.Test.YtehafggcncbnkaaGreatBasaf
import Derived.Test.YtehafggcncbnkaaGreatMorac
import Derived.Deep.AppendLies
import Derived.Test.YtehafggcncbnkaaGreatProg
import Derived.Test.YtehafggcncbnkaaGreatMoraa
import Derived.Test.YtehafggcncbnkaaGreatMorab
namespace Go.Proofs.YtehafggcncbnkaaGreat
open Go Go.RowKit

section
variable {P : Program} {ops : Array Oper} {md : Region.Mode} {Q : Exit → Act → World → Prop} {C : World → Prop}

/-- As UpdIn: blocks outside of X stay, and X grows by new blocks alone. -/
def UpdX (P : Program) (ops : Array Oper) (C F : World → Prop) (X : Nat → Prop) (o : Oper) (F' : Value → World → Prop) (X' : Value → Nat → Prop) (a : Act) : Prop :=
  Region.wanted o (yielded ops a.tmps) = true ∧ (∀ v, Stable (F' v)) ∧ (∀ v w, F' v w → C w) ∧ (∀ v w, F' v w → ∀ b, X' v b → b < w.heap.size) ∧
    ∀ w, F w → ∃ v w', (execOp a.eval o).run P w = .ok (.value v) w' ∧ F' v w' ∧ (∀ b z, ¬ X b → w.heap[b]? = some z → w'.heap[b]? = some z) ∧ ∀ b, X' v b → X b ∨ w.heap.size ≤ b

/-- The steps beside number x, which makes the variable; number c is the last of them. -/
def RunX (P : Program) (md : Region.Mode) (ops : Array Oper) (Q : Exit → Act → World → Prop) (C : World → Prop) (w0 : World) (x c tx : Nat) (z : Obj) (g : Nat) : Nat → Array Bool → Act → (World → Prop) → (Nat → Prop) → Prop
  | 0, done, a, F, X => Run P md ops Q C (g + 1) done a F ∧ ∀ b, w0.heap.size ≤ b → ¬ X b → Run P md ops Q C g (done.setIfInBounds x true) (a.put (some tx) (ptrTo b)) (fun w => F w ∧ w.heap[b]? = some z)
  | f + 1, done, a, F, X => done.getD c true = false ∧ x ∈ Region.ready md ops done ∧ (∃ i ∈ Region.ready md ops done, i ≠ x) ∧ ∀ i ∈ Region.ready md ops done, i ≠ x → ∃ o, ops[i]? = some o ∧
      ((∃ v, QuietIn P ops F o v a ∧ RunX P md ops Q C w0 x c tx z g f (done.setIfInBounds i true) (a.put o.dst v) F X) ∨
       (∃ F' X', UpdX P ops C F X o F' X' a ∧ ∀ v, (∃ w, F' v w) → RunX P md ops Q C w0 x c tx z g f (done.setIfInBounds i true) (a.put o.dst v) (F' v) (X' v)))

variable {w0 : World} {x c tx : Nat} {z : Obj} {g : Nat} {ox : Oper}

/-- What waits for the variable waits for the last step, too. -/
def waitsB (md : Region.Mode) (ops : Array Oper) (x c : Nat) : Bool := (List.range ops.size).all fun t => !(Region.waitsFor md ops t x) || Region.waitsFor md ops t c
/-- All else that does not wait for it is apart from it. -/
def apartB (md : Region.Mode) (ops : Array Oper) (x : Nat) : Bool := (List.range ops.size).all fun j => j == x || Region.waitsFor md ops j x || (match ops[x]?, ops[j]? with
  | some ox, some oj => ox.apart ops oj
  | _, _ => true)

theorem not_ready_waits {t i : Nat} {done : Array Bool} (hw : Region.waitsFor md ops t i = true) (hd : done.getD i false = false) : t ∉ Region.ready md ops done := fun h => by
  obtain ⟨_, o, ho, hall⟩ := mem_ready.1 h
  obtain ⟨o', ho', e, he, hb, hi⟩ := Region.waitsFor_spec hw
  obtain rfl : o' = o := Option.some.inj (ho'.symm.trans ho)
  have := hall e he hb
  rw [hi, hd] at this
  cases this
theorem not_waits {t i : Nat} {o : Oper} (ho : ops[t]? = some o) (hw : Region.waitsFor md ops t i = false) : ∀ e ∈ o.after, Region.binds md e = true → e.on ≠ i := fun e he hb hi => by
  unfold Region.waitsFor at hw
  simp only [ho] at hw
  rw [← Bool.not_eq_true, Array.any_eq_true'] at hw
  exact hw ⟨e, he, by simp [hb, hi]⟩
theorem ready_back {done : Array Bool} {i : Nat} (hW : waitsB md ops x c = true) (hc : done.getD c true = false) (hxc : x ≠ c) (hxs : x < done.size) (hi : i ∈ Region.ready md ops (done.setIfInBounds x true)) : i ∈ Region.ready md ops done ∧ i ≠ x := by
  obtain ⟨h0, o, ho, hall⟩ := mem_ready.1 hi
  have hix : i ≠ x := fun e => by
    subst e
    simp [hxs] at h0
  have hil : i < ops.size := (Array.getElem?_eq_some_iff.1 ho).1
  have hnw : Region.waitsFor md ops i x = false := by
    cases e : Region.waitsFor md ops i x with
    | false => rfl
    | true =>
      have h1 := List.all_eq_true.1 hW i (by simpa using hil)
      simp only [e, Bool.not_true, Bool.false_or] at h1
      exact absurd hi (not_ready_waits h1 (by rw [getD_set_ne false hxc]; exact getD_both hc))
  refine ⟨mem_ready.2 ⟨by rwa [getD_set_ne true (Ne.symm hix)] at h0, o, ho, fun e he hb => ?_⟩, hix⟩
  have h2 := hall e he hb
  have hx := not_waits ho hnw e he hb
  rwa [getD_set_ne false (Ne.symm hx)] at h2
theorem apart_of {done : Array Bool} {i : Nat} {oi : Oper} (hA : apartB md ops x = true) (hox : ops[x]? = some ox) (hoi : ops[i]? = some oi) (hix : i ≠ x) (hr : i ∈ Region.ready md ops done) (hx : done.getD x false = false) : ox.apart ops oi = true := by
  have hil : i < ops.size := (Array.getElem?_eq_some_iff.1 hoi).1
  have h1 := List.all_eq_true.1 hA i (by simpa using hil)
  simp only [hox, hoi, Bool.or_eq_true, beq_iff_eq] at h1
  rcases h1 with (h1 | h1) | h1
  · exact absurd h1 hix
  · exact absurd hr (not_ready_waits h1 hx)
  · exact h1

/-- The variable is made already. -/
theorem runX_made (hox : ops[x]? = some ox) (hdx : ox.dst = some tx) (hsel : ∀ (j : Nat) (o : Oper) cs b, ops[j]? = some o → o.op ≠ .select cs b) (hW : waitsB md ops x c = true) (hA : apartB md ops x = true) (hxc : x ≠ c) :
    ∀ (f : Nat) (done : Array Bool) (a : Act) (F : World → Prop) (X : Nat → Prop) (b : Nat), done.size = ops.size → w0.heap.size ≤ b → ¬ X b → (∀ w, F w → C w) → RunX P md ops Q C w0 x c tx z g f done a F X →
      Run P md ops Q C (f + g) (done.setIfInBounds x true) (a.put (some tx) (ptrTo b)) (fun w => F w ∧ w.heap[b]? = some z) := by
  intro f
  induction f with
  | zero => intro done a F X b _ hb hX _ h; rw [Nat.zero_add]; exact h.2 b hb hX
  | succ f ih =>
    intro done a F X b hds hb hX hC h
    obtain ⟨hc, hxr, ⟨i0, hi0, hi0x⟩, hall⟩ := h
    have hxs : x < done.size := by rw [hds]; exact (Array.getElem?_eq_some_iff.1 hox).1
    have hx0 : done.getD x false = false := getD_both (mem_ready.1 hxr).1
    rw [Nat.succ_add]
    refine ⟨List.ne_nil_of_mem (ready_mono hi0 hi0x), fun i hi => ?_⟩
    obtain ⟨hir, hix⟩ := ready_back hW hc hxc hxs hi
    obtain ⟨o, ho, hstep⟩ := hall i hir hix
    obtain ⟨p1, p2, p3⟩ := Oper.apart_spec (apart_of hA hox ho hix hir hx0)
    rw [hdx] at p1 p2
    have e1 := execOp_put o (fun cs b => hsel i o cs b ho) a (some tx) (ptrTo b) p1
    have e2 := wanted_put o a (some tx) (ptrTo b) p1
    refine ⟨o, ho, ?_⟩
    rcases hstep with ⟨v, hq, hK⟩ | ⟨F', X', ⟨hwt, hS, hC', hX', hrun⟩, hK⟩
    · refine .inl ⟨v, (hq.of_same e1 e2).mono (fun w hw => hw.1), ?_⟩
      have := ih _ _ F X b (by simpa using hds) hb hX hC hK
      rw [Act.put_comm a _ _ (fun d hd e => p2 d hd e), Array.setIfInBounds_comm _ _ hix.symm]
      exact this
    · refine .inr (.inr (.inr ⟨fun v w => F' v w ∧ w.heap[b]? = some z ∧ ¬ X' v b, ⟨by rw [e2]; exact hwt, fun v w w' h hb' => ⟨hS v w w' h.1 hb', (hb'.block b (heap_size_lt h.2.1)).trans h.2.1, h.2.2⟩, fun v w hw => hC' v w hw.1, fun w hw => ?_⟩, fun v hv => ?_⟩))
      · obtain ⟨v, w', e, hf, hkeep, hnew⟩ := hrun w hw.1
        rw [e1]
        refine ⟨v, w', e, hf, hkeep b z hX hw.2, fun hxb => ?_⟩
        rcases hnew b hxb with h1 | h1
        · exact hX h1
        · have := heap_size_lt hw.2
          omega
      · obtain ⟨w, hf, _, hnx⟩ := hv
        have := ih _ _ (F' v) (X' v) b (by simpa using hds) hb hnx (hC' v) (hK v ⟨w, hf⟩)
        rw [Act.put_comm a _ _ (fun d hd e => p2 d hd e), Array.setIfInBounds_comm _ _ hix.symm]
        exact run_mono _ _ _ _ _ (fun w hw => ⟨hw.1, hw.2.1⟩) this
/-- The variable is made at whatever moment. -/
theorem runX_float (hox : ops[x]? = some ox) (hgx : ox.guard = none) (hdx : ox.dst = some tx) (hal : ∀ (a : Act) (w : World), (execOp a.eval ox).run P w = .ok (.value (ptrTo w.heap.size)) (w.alloc z)) (hsel : ∀ (j : Nat) (o : Oper) cs b, ops[j]? = some o → o.op ≠ .select cs b) (hW : waitsB md ops x c = true) (hA : apartB md ops x = true) (hxc : x ≠ c) (hC0 : ∀ w, C w → w0.heap.size ≤ w.heap.size) :
    ∀ (f : Nat) (done : Array Bool) (a : Act) (F : World → Prop) (X : Nat → Prop), done.size = ops.size → (∀ w, F w → C w) → (∀ w, F w → ∀ b, X b → b < w.heap.size) → RunX P md ops Q C w0 x c tx z g f done a F X → Run P md ops Q C (f + g + 1) done a F := by
  intro f
  induction f with
  | zero => intro done a F X _ _ _ h; rw [Nat.zero_add]; exact h.1
  | succ f ih =>
    intro done a F X hds hC hXs H
    have H' := H
    obtain ⟨hc, hxr, ⟨i0, hi0, hi0x⟩, hall⟩ := H
    refine ⟨List.ne_nil_of_mem hxr, fun i hi => ?_⟩
    by_cases hix : i = x
    · subst hix
      refine ⟨ox, hox, .inr (.inl ⟨fun v w => ∃ b, v = ptrTo b ∧ (w0.heap.size ≤ b ∧ ¬ X b) ∧ w.heap[b]? = some z, ⟨by simp [Region.wanted, hgx], fun v w w' h hb => ?_, fun w hw => ⟨_, _, hal a w, (Below.refl _ w).alloc (Nat.le_refl _) z, w.heap.size, rfl, ⟨hC0 w (hC w hw), fun hx => Nat.lt_irrefl _ (hXs w hw _ hx)⟩, World.alloc_heap_new w z⟩⟩, fun v hv => ?_⟩)⟩
      · obtain ⟨b, e, h1, h2⟩ := h
        exact ⟨b, e, h1, (hb.block b (heap_size_lt h2)).trans h2⟩
      obtain ⟨_, b, rfl, ⟨hb0, hbX⟩, _⟩ := hv
      rw [hdx]
      refine run_mono _ _ _ _ _ ?_ (runX_made hox hdx hsel hW hA hxc (f + 1) done a F X b hds hb0 hbX hC H')
      rintro w ⟨h1, b', e1, _, h2⟩
      have eb := ptr_inj e1
      subst eb
      exact ⟨h1, h2⟩
    · obtain ⟨o, ho, hstep⟩ := hall i hi hix
      refine ⟨o, ho, ?_⟩
      rcases hstep with ⟨v, hq, hK⟩ | ⟨F', X', ⟨hwt, hS, hC', hX', hrun⟩, hK⟩
      · refine .inl ⟨v, hq, ?_⟩
        have := ih _ _ F X (by simpa using hds) hC hXs hK
        rw [show f + 1 + g = f + g + 1 by omega]
        exact this
      · refine .inr (.inr (.inr ⟨F', ⟨hwt, hS, hC', fun w hw => ?_⟩, fun v hv => ?_⟩))
        · obtain ⟨v, w', e, hf, _, _⟩ := hrun w hw
          exact ⟨v, w', e, hf⟩
        · have := ih _ _ (F' v) (X' v) (by simpa using hds) (hC' v) (hX' v) (hK v hv)
          rw [show f + 1 + g = f + g + 1 by omega]
          exact this

/-- What may come up next beside the variable, one by one. -/
def RunXAt (P : Program) (md : Region.Mode) (ops : Array Oper) (Q : Exit → Act → World → Prop) (C : World → Prop) (w0 : World) (x c tx : Nat) (z : Obj) (g f : Nat) (done : Array Bool) (a : Act) (F : World → Prop) (X : Nat → Prop) (i : Nat) : Prop :=
  ∃ o, ops[i]? = some o ∧
      ((∃ v, QuietIn P ops F o v a ∧ RunX P md ops Q C w0 x c tx z g f (done.setIfInBounds i true) (a.put o.dst v) F X) ∨
       (∃ F' X', UpdX P ops C F X o F' X' a ∧ ∀ v, (∃ w, F' v w) → RunX P md ops Q C w0 x c tx z g f (done.setIfInBounds i true) (a.put o.dst v) (F' v) (X' v)))
theorem runX_each {f : Nat} {done : Array Bool} {a : Act} {F : World → Prop} {X : Nat → Prop} (rs : List Nat) (hc : done.getD c true = false) (hr : (Region.ready md ops done).filter (· != x) = rs) (hxr : (Region.ready md ops done).contains x = true) (hne : rs ≠ []) (h : ∀ i ∈ rs, RunXAt P md ops Q C w0 x c tx z g f done a F X i) : RunX P md ops Q C w0 x c tx z g (f + 1) done a F X := by
  subst hr
  refine ⟨hc, by simpa using hxr, ?_, fun i hi hix => h i (by simp [hi, hix])⟩
  cases e : (Region.ready md ops done).filter (· != x) with
  | nil => exact absurd e hne
  | cons i r =>
    have : i ∈ (Region.ready md ops done).filter (· != x) := by rw [e]; exact List.mem_cons_self
    simp only [List.mem_filter, bne_iff_ne, ne_eq] at this
    exact ⟨i, this.1, this.2⟩
theorem atX_upd {f i : Nat} {o : Oper} {done : Array Bool} {a : Act} {F : World → Prop} {X : Nat → Prop} (F' : Value → World → Prop) (X' : Value → Nat → Prop) (ho : ops[i]? = some o) (hg : o.guard = none) (hS : ∀ v, Stable (F' v)) (hC : ∀ v w, F' v w → C w) (hX : ∀ v w, F' v w → ∀ b, X' v b → b < w.heap.size)
    (hrun : ∀ w, F w → ∃ v w', (execOp a.eval o).run P w = .ok (.value v) w' ∧ F' v w' ∧ (∀ b z, ¬ X b → w.heap[b]? = some z → w'.heap[b]? = some z) ∧ ∀ b, X' v b → X b ∨ w.heap.size ≤ b)
    (h : ∀ v, (∃ w, F' v w) → RunX P md ops Q C w0 x c tx z g f (done.setIfInBounds i true) (a.put o.dst v) (F' v) (X' v)) : RunXAt P md ops Q C w0 x c tx z g f done a F X i :=
  ⟨o, ho, .inr ⟨F', X', ⟨by simp [Region.wanted, hg], hS, hC, hX, hrun⟩, h⟩⟩
theorem atX_quiet {f i : Nat} {o : Oper} {done : Array Bool} {a : Act} {F : World → Prop} {X : Nat → Prop} (v : Value) (ho : ops[i]? = some o) (hq : QuietIn P ops F o v a) (h : RunX P md ops Q C w0 x c tx z g f (done.setIfInBounds i true) (a.put o.dst v) F X) : RunXAt P md ops Q C w0 x c tx z g f done a F X i :=
  ⟨o, ho, .inl ⟨v, hq, h⟩⟩
theorem runX_mono : ∀ (f : Nat) (done : Array Bool) (a : Act) (F F' : World → Prop) (X X' : Nat → Prop), (∀ w, F' w → F w) → (∀ b, X b → X' b) → (∀ b, X' b → X b) → RunX P md ops Q C w0 x c tx z g f done a F X → RunX P md ops Q C w0 x c tx z g f done a F' X' := by
  intro f
  induction f with
  | zero => intro done a F F' X X' hF hX _ h; exact ⟨run_mono _ _ _ _ _ hF h.1, fun b hb hb' => run_mono _ _ _ _ _ (fun w hw => ⟨hF w hw.1, hw.2⟩) (h.2 b hb fun hh => hb' (hX b hh))⟩
  | succ f ih =>
    intro done a F F' X X' hF hX hX2 h
    refine ⟨h.1, h.2.1, h.2.2.1, fun i hi hix => ?_⟩
    obtain ⟨o, ho, hs⟩ := h.2.2.2 i hi hix
    refine ⟨o, ho, ?_⟩
    rcases hs with ⟨v, hq, hK⟩ | ⟨F2, X2, ⟨hwt, hS, hC, hXs, hrun⟩, hK⟩
    · exact .inl ⟨v, hq.mono hF, ih _ _ _ _ _ _ hF hX hX2 hK⟩
    · refine .inr ⟨F2, X2, ⟨hwt, hS, hC, hXs, fun w hw => ?_⟩, hK⟩
      obtain ⟨v, w', e, h1, h2, h3⟩ := hrun w (hF w hw)
      exact ⟨v, w', e, h1, fun b z hb => h2 b z fun hh => hb (hX b hh), fun b hb => (h3 b hb).imp (hX b) id⟩

end

end Go.Proofs.YtehafggcncbnkaaGreat

namespace Go.Proofs.YtehafggcncbnkaaGreat
open Go Go.RowKit

theorem quiet_read {P : Program} {ops : Array Oper} {F : World → Prop} {o : Oper} {v : Value} {a : Act} (hg : o.guard = none) (h : ∀ w, F w → (execOp a.eval o).run P w = .ok (.value v) w) : QuietIn P ops F o v a :=
  .inl ⟨by simp [Region.wanted, hg], fun w hw => by rw [h w hw]; exact ⟨rfl, rfl⟩⟩
theorem exec_append {P : Program} {o : Oper} {a : Act} (s x : Operand) (t : TypeId) (ho : o.op = .call { callee := .builtin .append, args := #[s, x], argTypes := #[t, t] }) (v u : Value) (hs : a.eval s = v) (hx : a.eval x = u) {w w' : World} {r : Value}
    (hr : (Builtin.append_ #[t, t] o.type #[v, u]).run P w = .ok r w') : (execOp a.eval o).run P w = .ok (.value r) w' := by
  unfold execOp
  simp only [ho, resolve, invoke, builtin, Sem.run_bind, Sem.run_pure, Result.andThen_ok, List.map_toArray, List.map_cons, List.map_nil, hs, hx, hr]

/-- The empty list; the list; the list with one more; the one more, as it lies. -/
def OwnL (B : Nat) (w : World) (b : Nat) : Prop := w.ownsRow B 68 5 (.slice (some ⟨b, 0, none⟩) 0 0) 0 []
def OwnA (B n : Nat) (m : Nat → M5) (w : World) (g c : Nat) : Prop := w.ownsRow B 68 5 (.slice (some ⟨g, 0, none⟩) n c) n (mCells m n)
def OwnZ (B n : Nat) (m : Nat → M5) (k : M5) (w : World) (g c : Nat) : Prop := w.ownsRow B 68 5 (.slice (some ⟨g, 0, none⟩) (n + 1) c) (n + 1) (mCells m n ++ k.cells)
def RowK (k : M5) (w : World) (d : Nat) : Prop := w.heap[d]? = some (.cells #[.int .i64 k.p, .int .i64 k.l0, .int .i64 k.l1, .int .i64 k.c0, .int .i64 k.c1] 68 (0, 0))
abbrev sl (b n c : Nat) : Value := .slice (some ⟨b, 0, none⟩) n c
theorem sl_inj {b n c b' n' c' : Nat} (h : sl b n c = sl b' n' c') : b = b' ∧ n = n' ∧ c = c' := by
  unfold sl at h
  injection h with h1 h2 h3
  injection h1 with h1
  injection h1 with h1
  exact ⟨h1, h2, h3⟩

theorem OwnL.st {B b : Nat} : Stable fun w => OwnL B w b := fun _ _ h hb => own_below h hb
theorem OwnA.st {B n g c : Nat} {m : Nat → M5} : Stable fun w => OwnA B n m w g c := fun _ _ h hb => own_below h hb
theorem OwnZ.st {B n g c : Nat} {m : Nat → M5} {k : M5} : Stable fun w => OwnZ B n m k w g c := fun _ _ h hb => own_below h hb
theorem RowK.st {k : M5} {d : Nat} : Stable fun w => RowK k w d := fun _ _ h hb => (hb.block d (heap_size_lt h)).trans h
theorem OwnL.lt {B b : Nat} {w : World} (h : OwnL B w b) : B ≤ b ∧ b < w.heap.size := World.ownsRow.lt h b rfl
theorem OwnA.lt {B n g c : Nat} {m : Nat → M5} {w : World} (h : OwnA B n m w g c) : B ≤ g ∧ g < w.heap.size := World.ownsRow.lt h g rfl
theorem OwnZ.lt {B n g c : Nat} {m : Nat → M5} {k : M5} {w : World} (h : OwnZ B n m k w g c) : B ≤ g ∧ g < w.heap.size := World.ownsRow.lt h g rfl

theorem lit_owns {w : World} {B : Nat} (hB : B ≤ w.heap.size) : OwnL B (w.alloc (.cells #[] 68)) w.heap.size := own_lit w _ _ hB rfl

/-- The list is appended to the empty one. -/
theorem append_list {i0 : TypeInfo} (hi : Tryz.prog.info? 68 = some i0) (hz0 : i0.zero = some (.agg #[.int .i64 0, .int .i64 0, .int .i64 0, .int .i64 0, .int .i64 0])) (hz1 : i0.size = 5) (hz2 : i0.bytes = 40)
    {B n cap b ba oa : Nat} {m : Nat → M5} {w0 w : World} (hC : Below B w0 w) (hB : B = w0.heap.size) (hm : Metals w (some ⟨ba, oa, none⟩) n m) (hn : 1 ≤ n ∧ n ≤ 6) (h : OwnL B w b) :
    ∃ g c w', (Builtin.append_ #[22, 22] 22 #[sl b 0 0, .slice (some ⟨ba, oa, none⟩) n cap]).run Tryz.prog w = .ok (sl g n c) w' ∧ OwnA B n m w' g c ∧ Below B w0 w' ∧ (∀ q z, q ≠ b → w.heap[q]? = some z → w'.heap[q]? = some z) ∧ (g = b ∨ w.heap.size ≤ g) := by
  have hs := hC.size
  obtain ⟨g, c, w', hr, h1, h2, h3, h4⟩ := run_append_lies (P := Tryz.prog) (w := w) 22 22 B 68 i0 _ 5 40 Tryz.underlying22 hi hz0 hz1 hz2 rfl (by decide) _ 0 [] h ⟨ba, oa, none⟩ n cap (mCells m n) (mCells_len m n) (fun j u hj => mCells_at hm j u hj) (mCells_one m n) (by omega) (by unfold maxLen; omega) (by omega) (by omega) _ rfl
  simp only [Nat.zero_add, List.nil_append] at hr h1
  refine ⟨g, c, w', hr, h1, hC.grown h2 (by omega) (fun j hj => by cases hj; exact h.lt.1), fun q z hq hz => ?_, ?_⟩
  · rw [h2.block q (heap_size_lt hz) (fun e => hq (by cases e; rfl))]
    exact hz
  · rcases h3 with h3 | h3
    · left
      have := Option.some.inj h3
      exact this.symm
    · right
      omega
/-- One more is appended. -/
theorem append_one {i0 : TypeInfo} (hi : Tryz.prog.info? 68 = some i0) (hz0 : i0.zero = some (.agg #[.int .i64 0, .int .i64 0, .int .i64 0, .int .i64 0, .int .i64 0])) (hz1 : i0.size = 5) (hz2 : i0.bytes = 40)
    {B n c d g : Nat} {m : Nat → M5} {k : M5} {w0 w : World} (hC : Below B w0 w) (hB : B = w0.heap.size) (hn : 1 ≤ n ∧ n ≤ 6) (h : OwnA B n m w g c) (hk : RowK k w d) :
    ∃ g' c' w', (Builtin.append_ #[22, 22] 22 #[sl g n c, sl d 1 1]).run Tryz.prog w = .ok (sl g' (n + 1) c') w' ∧ OwnZ B n m k w' g' c' ∧ Below B w0 w' ∧ (∀ q z, q ≠ g → w.heap[q]? = some z → w'.heap[q]? = some z) ∧ (g' = g ∨ w.heap.size ≤ g') := by
  have hs := hC.size
  obtain ⟨g', c', w', hr, h1, h2, h3, h4⟩ := run_append_lies (P := Tryz.prog) (w := w) 22 22 B 68 i0 _ 5 40 Tryz.underlying22 hi hz0 hz1 hz2 rfl (by decide) _ n _ h ⟨d, 0, none⟩ 1 1 k.cells rfl (World.news_of_block (cs := #[.int .i64 k.p, .int .i64 k.l0, .int .i64 k.l1, .int .i64 k.c0, .int .i64 k.c1]) hk) (by simp [M5.cells, Value.oneCell']) (by decide) (by unfold maxLen; omega) (by omega) (by omega) _ rfl
  refine ⟨g', c', w', hr, h1, hC.grown h2 (by omega) (fun j hj => by cases hj; exact h.lt.1), fun q z hq hz => ?_, ?_⟩
  · rw [h2.block q (heap_size_lt hz) (fun e => hq (by cases e; rfl))]
    exact hz
  · rcases h3 with h3 | h3
    · left
      have := Option.some.inj h3
      exact this.symm
    · right
      omega
end Go.Proofs.YtehafggcncbnkaaGreat

/- For whatever arguments, the law AlloyScaled returns true, and each argument reads behind the call as it read before. No condition. -/
import Derived.StillTail
import Derived.Test.YtehafggcncbnkaaGreatBasaa
import Derived.Test.YtehafggcncbnkaaGreatBasaf
import Derived.Test.YtehafggcncbnkaaGreatScaac
import Derived.WalkKit
import Derived.Deep.QuietTactic
import Derived.BigQuiet
import Derived.Test.YtehafggcncbnkaaGreatProg
import Derived.Test.YtehafggcncbnkaaGreatBasao
import Derived.Test.YtehafggcncbnkaaGreatBasas
import Derived.Test.YtehafggcncbnkaaGreatScaaa
import Derived.Test.YtehafggcncbnkaaGreatScaab
import Derived.Test.YtehafggcncbnkaaGreatBasau
import Derived.Test.YtehafggcncbnkaaGreatBasaq
import Derived.Test.YtehafggcncbnkaaGreatBasar
import Derived.Test.YtehafggcncbnkaaGreatBasat
import Derived.Test.YtehafggcncbnkaaGreatBasav
import Derived.Test.YtehafggcncbnkaaGreatBasae
import Derived.Test.YtehafggcncbnkaaGreatRows
import Derived.Test.YtehafggcncbnkaaGreatBasax
import Derived.ProofKit
namespace Go.Proofs.YtehafggcncbnkaaGreat
open Go Go.RowKit

section
variable {P : Program} {ops : Array Oper} {md : Region.Mode} {Q : Exit → Act → World → Prop} {C : World → Prop}

/-- All growth keeps it. -/
def Stable (F : World → Prop) : Prop := ∀ w w', F w → Below w.heap.size w w' → F w'
theorem stable_below (w0 : World) : Stable (fun w => Below w0.heap.size w0 w) := fun _ _ h hb => h.trans (hb.mono h.size)
theorem stable_and {F G : World → Prop} (hF : Stable F) (hG : Stable G) : Stable (fun w => F w ∧ G w) := fun w w' h hb => ⟨hF w w' h.1 hb, hG w w' h.2 hb⟩
theorem stable3 (w0 : World) (b c : Nat) (o o' : Obj) : Stable (fun w => Below w0.heap.size w0 w ∧ w.heap[b]? = some o ∧ w.heap[c]? = some o') := fun _ _ h hb =>
  ⟨h.1.trans (hb.mono h.1.size), (hb.block b (heap_size_lt h.2.1)).trans h.2.1, (hb.block c (heap_size_lt h.2.2)).trans h.2.2⟩
theorem stable_block (b : Nat) (o : Obj) (p : Prop) : Stable (fun w => p ∧ w.heap[b]? = some o) := fun _ _ h hb => ⟨h.1, (hb.block b (heap_size_lt h.2)).trans h.2⟩

def QuietIn (P : Program) (ops : Array Oper) (F : World → Prop) (o : Oper) (v : Value) (a : Act) : Prop :=
  (Region.wanted o (yielded ops a.tmps) = true ∧ ∀ w, F w → growUpon P w v ((execOp a.eval o).run P w)) ∨
  (Region.wanted o (yielded ops a.tmps) = false ∧ v = undef)
theorem QuietIn.of_same {F : World → Prop} {o : Oper} {v : Value} {a a' : Act} (h : QuietIn P ops F o v a) (he : execOp a'.eval o = execOp a.eval o) (hw : Region.wanted o (yielded ops a'.tmps) = Region.wanted o (yielded ops a.tmps)) : QuietIn P ops F o v a' := by
  unfold QuietIn at *
  rw [he, hw]
  exact h
theorem QuietIn.mono {F F' : World → Prop} {o : Oper} {v : Value} {a : Act} (h : QuietIn P ops F o v a) (hF : ∀ w, F' w → F w) : QuietIn P ops F' o v a :=
  h.imp (fun ⟨h1, h2⟩ => ⟨h1, fun w hw => h2 w (hF w hw)⟩) id

/-- Something new is made. -/
def NewIn (P : Program) (ops : Array Oper) (F : World → Prop) (o : Oper) (G : Value → World → Prop) (a : Act) : Prop :=
  Region.wanted o (yielded ops a.tmps) = true ∧ (∀ v, Stable (G v)) ∧ ∀ w, F w → ∃ v w', (execOp a.eval o).run P w = .ok (.value v) w' ∧ Below w.heap.size w w' ∧ G v w'
/-- Something is stored. -/
def StoreIn (P : Program) (ops : Array Oper) (C F : World → Prop) (o : Oper) (F' : World → Prop) (a : Act) : Prop :=
  Region.wanted o (yielded ops a.tmps) = true ∧ Stable F' ∧ (∀ w, F' w → C w) ∧ ∀ w, F w → ∃ w', (execOp a.eval o).run P w = .ok .skip w' ∧ F' w'

def Run (P : Program) (md : Region.Mode) (ops : Array Oper) (Q : Exit → Act → World → Prop) (C : World → Prop) : Nat → Array Bool → Act → (World → Prop) → Prop
  | 0, done, a, F => Region.ready md ops done = [] ∧ ∀ w, F w → Q .normal a w
  | f + 1, done, a, F => Region.ready md ops done ≠ [] ∧ ∀ i ∈ Region.ready md ops done, ∃ o, ops[i]? = some o ∧
      ((∃ v, QuietIn P ops F o v a ∧ Run P md ops Q C f (done.setIfInBounds i true) (a.put o.dst v) F) ∨
       (∃ G, NewIn P ops F o G a ∧ ∀ v, (∃ w, G v w) → Run P md ops Q C f (done.setIfInBounds i true) (a.put o.dst v) (fun w => F w ∧ G v w)) ∨
       (∃ F', StoreIn P ops C F o F' a ∧ Run P md ops Q C f (done.setIfInBounds i true) (a.put o.dst undef) F'))

theorem run_any : ∀ (f : Nat) (done : Array Bool) (a : Act) (F : World → Prop) (w : World), Stable F → F w → Run P md ops Q C f done a F → wpAny P md ops Q f done a w := by
  intro f
  induction f with
  | zero => intro done a F w _ hw h; exact ⟨h.1, h.2 w hw⟩
  | succ f ih =>
    intro done a F w hF hw h
    refine ⟨fun e => absurd e h.1, fun i hi => ?_⟩
    obtain ⟨o, ho, h⟩ := h.2 i hi
    unfold wpOp
    simp only [ho]
    rcases h with ⟨v, hq, hK⟩ | ⟨G, ⟨hwt, hG, hr⟩, hK⟩ | ⟨F', ⟨hwt, hS, _, hr⟩, hK⟩
    · rcases hq with ⟨hwt, hg⟩ | ⟨hwt, rfl⟩
      · rw [if_pos hwt]
        refine .inl ?_
        have h3 := hg w hw
        unfold Oper.wp
        generalize (execOp a.eval o).run P w = r at h3 ⊢
        cases r with
        | ok x w' =>
          cases x <;> simp only [growUpon] at h3 <;> simp only [Oper.upon]
          case value u =>
            obtain ⟨e1, e2⟩ := h3
            rw [e1, e2]
            exact ih _ _ F _ hF hw hK
          case skip =>
            obtain ⟨e1, e2⟩ := h3
            rw [e1, ← e2]
            exact ih _ _ F _ hF hw hK
          case enter f' args =>
            obtain ⟨e1, hc⟩ := h3
            rw [e1]
            exact hc.mono fun e w'' ⟨he, hb⟩ => by subst he; exact ih _ _ F _ hF (hF _ _ hw hb) hK
        | halt x w' => simp only [growUpon] at h3
      · rw [if_neg (by simp [hwt])]
        exact ih _ _ F _ hF hw hK
    · rw [if_pos hwt]
      refine .inl ?_
      obtain ⟨v, w', e, hb, hg⟩ := hr w hw
      unfold Oper.wp
      rw [e, Oper.upon_value]
      exact ih _ _ _ _ (stable_and hF (hG v)) ⟨hF _ _ hw hb, hg⟩ (hK v ⟨w', hg⟩)
    · rw [if_pos hwt]
      refine .inl ?_
      obtain ⟨w', e, hf⟩ := hr w hw
      unfold Oper.wp
      rw [e]
      simp only [Oper.upon]
      exact ih _ _ _ _ hS hf hK

theorem run_mono : ∀ (f : Nat) (done : Array Bool) (a : Act) (F F' : World → Prop), (∀ w, F' w → F w) → Run P md ops Q C f done a F → Run P md ops Q C f done a F' := by
  intro f
  induction f with
  | zero => intro done a F F' hF h; exact ⟨h.1, fun w hw => h.2 w (hF w hw)⟩
  | succ f ih =>
    intro done a F F' hF h
    refine ⟨h.1, fun i hi => ?_⟩
    obtain ⟨o, ho, h⟩ := h.2 i hi
    refine ⟨o, ho, ?_⟩
    rcases h with ⟨v, hq, hK⟩ | ⟨G, ⟨hwt, hG, hr⟩, hK⟩ | ⟨F2, ⟨hwt, hS, hC, hr⟩, hK⟩
    · exact .inl ⟨v, hq.mono hF, ih _ _ _ _ hF hK⟩
    · exact .inr (.inl ⟨G, ⟨hwt, hG, fun w hw => hr w (hF w hw)⟩, fun v hv => ih _ _ _ _ (fun w hw => ⟨hF w hw.1, hw.2⟩) (hK v hv)⟩)
    · exact .inr (.inr ⟨F2, ⟨hwt, hS, hC, fun w hw => hr w (hF w hw)⟩, hK⟩)

theorem run_first {i : Nat} {oi : Oper} {v : Value} (hi : ops[i]? = some oi) (hsel : ∀ (j : Nat) (o : Oper) cs b, ops[j]? = some o → o.op ≠ .select cs b) :
    ∀ (f : Nat) (done : Array Bool) (a : Act) (F : World → Prop),
      (∀ j oj, ops[j]? = some oj → j ≠ i → done.getD j true = false → (∀ e ∈ oj.after, Region.binds md e = true → e.on ≠ i) → oi.apart ops oj = true) →
      i ∈ Region.ready md ops done → QuietIn P ops C oi v a → (∀ w, F w → C w) →
      Run P md ops Q C f (done.setIfInBounds i true) (a.put oi.dst v) F → Run P md ops Q C (f + 1) done a F := by
  intro f
  induction f with
  | zero =>
    intro done a F _ hr hy hC H
    refine ⟨List.ne_nil_of_mem hr, fun j hj => ?_⟩
    rcases Nat.decEq j i with h | h
    · have := ready_mono hj h
      rw [H.1] at this
      cases this
    · subst h
      exact ⟨oi, hi, .inl ⟨v, hy.mono hC, H⟩⟩
  | succ f ih =>
    intro done a F free hr hy hC H
    refine ⟨List.ne_nil_of_mem hr, fun j hj => ?_⟩
    rcases Nat.decEq j i with h | h
    · obtain ⟨oj, hoj, HS⟩ := H.2 j (ready_mono hj h)
      obtain ⟨jopen, oj', hoj', hall⟩ := mem_ready.1 hj
      obtain rfl : oj' = oj := Option.some.inj (hoj'.symm.trans hoj)
      have open_ := (mem_ready.1 hr).1
      have waits : ∀ e ∈ oj'.after, Region.binds md e = true → e.on ≠ i := by
        intro e he hb heq
        have := hall e he hb
        rw [heq, getD_both open_] at this
        cases this
      obtain ⟨p1, p2, p3⟩ := Oper.apart_spec (free j oj' hoj h jopen waits)
      have keep : ∀ u, QuietIn P ops C oi v (a.put oj'.dst u) := fun u => hy.of_same (execOp_put oi (fun cs b => hsel i oi cs b hi) a oj'.dst u p3) (wanted_put oi a oj'.dst u p3)
      have free' : ∀ k ok, ops[k]? = some ok → k ≠ i → (done.setIfInBounds j true).getD k true = false → (∀ e ∈ ok.after, Region.binds md e = true → e.on ≠ i) → oi.apart ops ok = true := by
        intro k ok hk hki kopen hno
        refine free k ok hk hki ?_ hno
        rcases Nat.decEq j k with e | e
        · rwa [getD_set_ne true e] at kopen
        · rw [← e]; exact jopen
      have e1 := execOp_put oj' (fun cs b => hsel j oj' cs b hoj) a oi.dst v p1
      have e2 := wanted_put oj' a oi.dst v p1
      refine ⟨oj', hoj, ?_⟩
      rcases HS with ⟨u, hq, hK⟩ | ⟨G, ⟨hwt, hG, hrun⟩, hK⟩ | ⟨F2, ⟨hwt, hS, hC2, hrun⟩, hK⟩
      · refine .inl ⟨u, hq.of_same e1.symm e2.symm, ih _ _ _ free' (ready_mono hr (Ne.symm h)) (keep u) hC ?_⟩
        rw [Act.put_comm a v u p2, Array.setIfInBounds_comm _ _ (Ne.symm h)] at hK
        exact hK
      · refine .inr (.inl ⟨G, ⟨by rw [← e2]; exact hwt, hG, fun w hw => by rw [← e1]; exact hrun w hw⟩, fun u hu => ih _ _ _ free' (ready_mono hr (Ne.symm h)) (keep u) (fun w hw => hC w hw.1) ?_⟩)
        have := hK u hu
        rw [Act.put_comm a v u p2, Array.setIfInBounds_comm _ _ (Ne.symm h)] at this
        exact this
      · refine .inr (.inr ⟨F2, ⟨by rw [← e2]; exact hwt, hS, hC2, fun w hw => by rw [← e1]; exact hrun w hw⟩, ih _ _ _ free' (ready_mono hr (Ne.symm h)) (keep _) hC2 ?_⟩)
        rw [Act.put_comm a v undef p2, Array.setIfInBounds_comm _ _ (Ne.symm h)] at hK
        exact hK
    · subst h
      exact ⟨oi, hi, .inl ⟨v, hy.mono hC, H⟩⟩

/-- The first f operations from number k on may be taken in the order of the text. -/
def lexPre (md : Region.Mode) (ops : Array Oper) : Nat → Nat → Array Bool → Bool
  | 0, _, _ => true
  | f + 1, k, listed => (Region.ready md ops listed).contains k && Region.free md ops listed k && lexPre md ops f (k + 1) (listed.setIfInBounds k true)
def markN : Nat → Nat → Array Bool → Array Bool
  | 0, _, d => d
  | f + 1, k, d => markN f (k + 1) (d.setIfInBounds k true)

theorem run_lex {w0 : World} {F : World → Prop} {K : Act → Prop} {g : Nat} (hsel : Region.noSelect ops = true) (hF : ∀ w, F w → Below w0.heap.size w0 w) :
    ∀ (l : List Oper) (k : Nat) (done : Array Bool) (a : Act), (∀ j, j < l.length → l[j]? = ops[k + j]?) → lexPre md ops l.length k done = true →
    (∀ af, K af → Run P md ops Q (fun w => Below w0.heap.size w0 w) g (markN l.length k done) af F) → WalkG P ops w0 K l a → Run P md ops Q (fun w => Below w0.heap.size w0 w) (l.length + g) done a F := by
  intro l
  induction l with
  | nil =>
    intro k done a _ _ hK h
    have := hK a h
    simpa [markN] using this
  | cons o l ih =>
    intro k done a hl hB hK h
    have h0 : ops[k]? = some o := by simpa using (hl 0 (by simp)).symm
    simp only [List.length_cons, lexPre, Bool.and_eq_true] at hB
    have hr : k ∈ Region.ready md ops done := by simpa using hB.1.1
    obtain ⟨v, hy, hW⟩ := h
    rw [show (o :: l).length + g = (l.length + g) + 1 by simp; omega]
    refine run_first h0 (Region.noSelect_spec hsel) _ _ _ _ (Region.free_spec h0 hB.1.2) hr hy hF (ih (k + 1) _ _ ?_ hB.2 hK hW)
    intro j hj
    have := hl (j + 1) (by simp; omega)
    simpa [Nat.add_assoc, Nat.add_comm 1 j] using this

theorem ptr_inj {b c : Nat} (h : ptrTo b = ptrTo c) : b = c := by
  unfold ptrTo at h
  injection h with h
  injection h with h
  injection h with h
theorem run_half {w0 : World} {f m n ta tb : Nat} {za zb : Obj} {om ob : Oper} {done : Array Bool} {a : Act} {F : World → Prop} (hgm : om.guard = none) (hdm : om.dst = some ta) (hn : ops[n]? = some ob) (hgn : ob.guard = none) (hdn : ob.dst = some tb)
    (hal : ∀ (a : Act) (w : World), (execOp a.eval om).run P w = .ok (.value (ptrTo w.heap.size)) (w.alloc za)) (hbl : ∀ (a : Act) (w : World), (execOp a.eval ob).run P w = .ok (.value (ptrTo w.heap.size)) (w.alloc zb))
    (hF : ∀ w, F w → w0.heap.size ≤ w.heap.size) (r2 : Region.ready md ops (done.setIfInBounds m true) = [n])
    (h : ∀ b c, w0.heap.size ≤ b → w0.heap.size ≤ c → b ≠ c → Run P md ops Q C f ((done.setIfInBounds m true).setIfInBounds n true) ((a.put (some ta) (ptrTo b)).put (some tb) (ptrTo c)) (fun w => F w ∧ w.heap[b]? = some za ∧ w.heap[c]? = some zb)) :
    ∃ G, NewIn P ops F om G a ∧ ∀ v, (∃ w, G v w) → Run P md ops Q C (f + 1) (done.setIfInBounds m true) (a.put om.dst v) (fun w => F w ∧ G v w) := by
  have wm : ∀ a : Act, Region.wanted om (yielded ops a.tmps) = true := fun a => by simp [Region.wanted, hgm]
  have wn : ∀ a : Act, Region.wanted ob (yielded ops a.tmps) = true := fun a => by simp [Region.wanted, hgn]
  refine ⟨fun v w => ∃ b, v = ptrTo b ∧ (w0.heap.size ≤ b) ∧ w.heap[b]? = some za, ⟨wm a, fun v w w' h hb => ?_, fun w hw => ⟨_, _, hal a w, (Below.refl _ w).alloc (Nat.le_refl _) za, w.heap.size, rfl, hF w hw, World.alloc_heap_new w za⟩⟩, fun v hv => ?_⟩
  · obtain ⟨b, e, h1, h2⟩ := h
    exact ⟨b, e, h1, (hb.block b (heap_size_lt h2)).trans h2⟩
  obtain ⟨_, b, rfl, hb0, _⟩ := hv
  rw [hdm]
  refine ⟨by rw [r2]; simp, fun j hj => ?_⟩
  rw [r2] at hj
  simp only [List.mem_cons, List.not_mem_nil, or_false] at hj
  subst hj
  refine ⟨ob, hn, .inr (.inl ⟨fun v w => ∃ c, v = ptrTo c ∧ (w0.heap.size ≤ c ∧ b ≠ c) ∧ w.heap[c]? = some zb, ⟨wn _, fun v w w' h hb => ?_, fun w hw => ⟨_, _, hbl _ w, (Below.refl _ w).alloc (Nat.le_refl _) zb, w.heap.size, rfl, ⟨hF w hw.1, ?_⟩, World.alloc_heap_new w zb⟩⟩, fun v hv => ?_⟩)⟩
  · obtain ⟨c, e, h1, h2⟩ := h
    exact ⟨c, e, h1, (hb.block c (heap_size_lt h2)).trans h2⟩
  · obtain ⟨b', e, _, h2⟩ := hw.2
    have := ptr_inj e
    have := heap_size_lt h2
    omega
  obtain ⟨_, c, rfl, ⟨hc0, hbc⟩, _⟩ := hv
  rw [hdn]
  refine run_mono _ _ _ _ _ ?_ (h b c hb0 hc0 hbc)
  rintro w ⟨⟨h1, b', e1, _, h2⟩, c', e2, _, h3⟩
  have eb := ptr_inj e1
  have ec := ptr_inj e2
  subst eb ec
  exact ⟨h1, h2, h3⟩

/-- Two variables are made, in whatever order. -/
theorem run_two {w0 : World} {f m n ta tb : Nat} {za zb : Obj} {om ob : Oper} {done : Array Bool} {a : Act} {F : World → Prop} (hm : ops[m]? = some om) (hgm : om.guard = none) (hdm : om.dst = some ta) (hn : ops[n]? = some ob) (hgn : ob.guard = none) (hdn : ob.dst = some tb) (hab : ta ≠ tb) (hmn : m ≠ n)
    (hal : ∀ (a : Act) (w : World), (execOp a.eval om).run P w = .ok (.value (ptrTo w.heap.size)) (w.alloc za)) (hbl : ∀ (a : Act) (w : World), (execOp a.eval ob).run P w = .ok (.value (ptrTo w.heap.size)) (w.alloc zb))
    (hF : ∀ w, F w → w0.heap.size ≤ w.heap.size)
    (r1 : Region.ready md ops done = [m, n]) (r2 : Region.ready md ops (done.setIfInBounds m true) = [n]) (r3 : Region.ready md ops (done.setIfInBounds n true) = [m])
    (h : ∀ b c, w0.heap.size ≤ b → w0.heap.size ≤ c → b ≠ c → Run P md ops Q C f ((done.setIfInBounds m true).setIfInBounds n true) ((a.put (some ta) (ptrTo b)).put (some tb) (ptrTo c)) (fun w => F w ∧ w.heap[b]? = some za ∧ w.heap[c]? = some zb)) :
    Run P md ops Q C (f + 2) done a F := by
  refine ⟨by rw [r1]; simp, fun i hi => ?_⟩
  rw [r1] at hi
  simp only [List.mem_cons, List.not_mem_nil, or_false] at hi
  rcases hi with rfl | rfl
  · exact ⟨om, hm, .inr (.inl (run_half hgm hdm hn hgn hdn hal hbl hF r2 h))⟩
  · refine ⟨ob, hn, .inr (.inl (run_half hgn hdn hm hgm hdm hbl hal hF r3 fun c b hc hb hcb => ?_))⟩
    have := h b c hb hc (Ne.symm hcb)
    rw [Act.put_comm a _ _ (fun d hd e => by cases hd; exact hab (Option.some.inj e).symm), Array.setIfInBounds_comm _ _ hmn] at this
    exact run_mono _ _ _ _ _ (fun w hw => ⟨hw.1, hw.2.2, hw.2.1⟩) this

/-- Only one operation may come up: it stores. -/
theorem run_store {f i : Nat} {o : Oper} {done : Array Bool} {a : Act} {F : World → Prop} (F' : World → Prop) (hr : Region.ready md ops done = [i]) (ho : ops[i]? = some o) (hg : o.guard = none) (hS : Stable F') (hC : ∀ w, F' w → C w) (hrun : ∀ w, F w → ∃ w', (execOp a.eval o).run P w = .ok .skip w' ∧ F' w')
    (h : Run P md ops Q C f (done.setIfInBounds i true) (a.put o.dst undef) F') : Run P md ops Q C (f + 1) done a F := by
  refine ⟨by rw [hr]; simp, fun j hj => ?_⟩
  rw [hr] at hj
  simp only [List.mem_cons, List.not_mem_nil, or_false] at hj
  subst hj
  exact ⟨o, ho, .inr (.inr ⟨F', ⟨by simp [Region.wanted, hg], hS, hC, hrun⟩, h⟩)⟩
/-- Only one operation may come up: it reads. -/
theorem run_quiet {f i : Nat} {o : Oper} {done : Array Bool} {a : Act} {F : World → Prop} (v : Value) (hr : Region.ready md ops done = [i]) (ho : ops[i]? = some o) (hg : o.guard = none) (hrun : ∀ w, F w → (execOp a.eval o).run P w = .ok (.value v) w)
    (h : Run P md ops Q C f (done.setIfInBounds i true) (a.put o.dst v) F) : Run P md ops Q C (f + 1) done a F := by
  refine ⟨by rw [hr]; simp, fun j hj => ?_⟩
  rw [hr] at hj
  simp only [List.mem_cons, List.not_mem_nil, or_false] at hj
  subst hj
  exact ⟨o, ho, .inl ⟨v, .inl ⟨by simp [Region.wanted, hg], fun w hw => by rw [hrun w hw]; exact ⟨rfl, rfl⟩⟩, h⟩⟩

/-- The beginning: the first m operations only read, or call what leaves old memory alone. -/
theorem wp_region_run {id : Nat} {a : Act} {w : World} {l : List Oper} (m s : Nat) (hmo : P.follows .mixedOrders = true) (hsel : Region.noSelect l.toArray = true) (hB : lexPre .any l.toArray m 0 (Array.replicate l.toArray.size false) = true) (hm : m ≤ l.length) (hown : ownDst s (l.take m) = true) (hs : a.tmps.size = s)
    (h : ∃ af, (∀ w1, Below w.heap.size w w1 → ∀ K : Act → Prop, K af → wpQuiet P l.toArray (fun w' => ∃ x : Later w1, w' = x.w) K (l.take m) a) ∧
      Run P .any l.toArray Q (fun x => Below w.heap.size w x) (l.length - m) (markN m 0 (Array.replicate l.toArray.size false)) af (fun x => Below w.heap.size w x)) :
    (Code.region id l.toArray true).wp P Q a w := by
  obtain ⟨af, h1, h2⟩ := h
  refine wp_region_any hmo ?_
  have htl : (l.take m).length = m := by simp; omega
  have hW := walkG_of (K := fun a' => a' = af) rfl (l.take m) a hs hown (fun w1 hb => h1 w1 hb (fun a' => a' = af) rfl)
  have key := run_lex (md := .any) (Q := Q) (F := fun x => Below w.heap.size w x) (K := fun a' => a' = af) (g := l.length - m) hsel (fun _ h => h) (l.take m) 0 (Array.replicate l.toArray.size false) a (fun j hj => by
    rw [htl] at hj
    simp [hj]) (by rw [htl]; exact hB) (fun a' ha => by rw [ha, htl]; exact h2) hW
  rw [htl, show m + (l.length - m) = l.toArray.size by simp; omega] at key
  exact run_any _ _ _ _ _ (stable_below w) ((Below.refl _ w).drew) key
end

end Go.Proofs.YtehafggcncbnkaaGreat

namespace Go.Proofs.YtehafggcncbnkaaGreat
open Go Go.RowKit

theorem kept1 {w X wq : World} {o : Obj} (h : Below X.heap.size X wq) (e : X.heap = (w.alloc o).heap) : wq.heap[w.heap.size]? = some o :=
  (h.block _ (by rw [e]; simp)).trans (by rw [e]; exact heap_new_at w o _ rfl)
theorem kept2 {w X wq : World} {o o' : Obj} (h : Below X.heap.size X wq) (e : X.heap = ((w.alloc o).alloc o').heap) : wq.heap[w.heap.size]? = some o :=
  (h.block _ (by rw [e]; simp; omega)).trans (by rw [e]; exact ((Below.refl _ (w.alloc o)).alloc (Nat.le_refl _) o').block _ (by simp) |>.trans (heap_new_at w o _ rfl))
theorem kept3 {w X wq : World} {o o' : Obj} (h : Below X.heap.size X wq) (e : X.heap = ((w.alloc o).alloc o').heap) : wq.heap[w.heap.size + 1]? = some o' :=
  (h.block _ (by rw [e]; simp)).trans (by rw [e]; exact heap_new_at (w.alloc o) o' _ (by simp))

set_option maxRecDepth 100000 in
set_option maxHeartbeats 32000000 in
theorem law_scaled_c (a : Option Addr) (n cap : Nat) (m : Nat → M5) (l c ti mo wh la : Int) (sure : Bool) (w : World) (hm : Metals w a n m) (hti : 0 ≤ ti ∧ ti ≤ 255) (hmo : 0 ≤ mo ∧ mo ≤ 65535) (hwh : 0 ≤ wh ∧ wh ≤ 255) (hla : 0 ≤ la ∧ la ≤ 255) :
    Calls Tryz.prog 13 #[.slice a n cap, .agg #[.int .i64 l, .int .i64 c], .bool sure, .int .u8 ti, .int .u16 mo, .int .u8 wh, .int .u8 la] w fun e w' => e = .returned (.bool true) ∧ Below w.heap.size w w' := by
  obtain ⟨W, hW⟩ : ∃ W, w.alloc (.cells #[.int .i64 l, .int .i64 c] 24) = W := ⟨_, rfl⟩
  have hB : Below w.heap.size w W := by rw [← hW]; exact (Below.alloc1 (Below.refl _ _) _ (Nat.le_refl _))
  have HT := Lib.hid (show RowIs W (w.heap.size) #[.int .i64 l, .int .i64 c] 24 by rw [← hW]; exact heap_new_at _ _ _ rfl)
  have HM := Lib.hid (hm.below hB)
  obtain ⟨bt, hbt⟩ : ∃ bt, w.heap.size = bt := ⟨_, rfl⟩
  rw [hbt] at HT
  clear hm
  have HFi := Lib.hid (fine_c a n cap m l c W HM.out)
  by_cases hfine : n ≤ 12 ∧ bothE n m l c = 0
  case neg =>
    have hd : decide (n ≤ 12 ∧ bothE n m l c = 0) = false := decide_eq_false hfine
    rw [hd] at HFi
    obtain ⟨tc0, tc1, _, _, tz⟩ := ratrow2 HT.out
    go_enter Tryz.func13, Tryz.ntmps13
    go_wp2_with fail
    refine HFi.out.mono ?_
    rintro e w1 ⟨rfl, hb1⟩
    go_wp2_with fail
    refine (works_c _).mono ?_
    rintro e wz ⟨rfl, hbz⟩
    go_wp2
    go_ret
    exact ⟨rfl, bup hB (bup hb1 hbz)⟩
  case pos =>
  have hd : decide (n ≤ 12 ∧ bothE n m l c = 0) = true := decide_eq_true hfine
  rw [hd] at HFi
  have hbo := hfine.2
  have hmet := (both_ok hbo).1
  have hF := fine_of hmet
  have hn16 : 1 ≤ n ∧ n ≤ 6 := ⟨hF.1, hF.2.1⟩
  have hn12 : n ≤ 12 := by omega
  have hn : n ≤ 1048576 := by omega
  obtain ⟨ba, oa, ha0, hba, -⟩ := Metals.at HM.out 0 (by omega)
  subst ha0
  obtain ⟨i, hi⟩ : ∃ i : Nat, wh % (n : Int) = (i : Int) := ⟨(wh % (n : Int)).toNat, by have := Int.emod_nonneg wh (show (n : Int) ≠ 0 by omega); omega⟩
  have hin : i < n := by have := Int.emod_lt_of_pos wh (show (0 : Int) < n by omega); omega
  obtain ⟨s, hs⟩ : ∃ s : Nat, la % (n : Int) = (s : Int) := ⟨(la % (n : Int)).toNat, by have := Int.emod_nonneg la (show (n : Int) ≠ 0 by omega); omega⟩
  have hsn : s < n := by have := Int.emod_lt_of_pos la (show (0 : Int) < n by omega); omega
  obtain ⟨cc, hcc⟩ : ∃ x, 1 + ti % 4 = x := ⟨_, rfl⟩
  have hccb : 1 ≤ cc ∧ cc ≤ 4 := by omega
  have hmodI : Int.tmod wh (n : Int) = (i : Int) := by rw [Int.tmod_eq_emod_of_nonneg hwh.1]; exact hi
  have hmodS : Int.tmod la (n : Int) = (s : Int) := by rw [Int.tmod_eq_emod_of_nonneg hla.1]; exact hs
  have wI : wrap64 wh = wh := IntWalk.wrap64_in _ ⟨by omega, by omega⟩
  have wS : wrap64 la = la := IntWalk.wrap64_in _ ⟨by omega, by omega⟩
  obtain ⟨Y, hY⟩ : ∃ Y, turnS n s m n = Y := ⟨_, rfl⟩
  have hturn : Turned n s m Y := by rw [← hY]; exact turnS_turned n s m
  have hboY := turned_both hsn hturn hF hbo
  have hLY := turn_least hsn hturn hbo hboY sure
  have hSY := turn_share hsn hin hturn hbo hboY sure
  obtain ⟨j, hj⟩ : ∃ j, (i + s) % n = j := ⟨_, rfl⟩
  have hjn : j < n := by rw [← hj]; exact Nat.mod_lt _ (by omega)
  rw [hj] at hSY
  have LC : ∃ (is : Bool) (x1 x2 : Int), leastR n m l c sure = (x1, x2, if is then 0 else 17) ∧ (if is then smallB x1 x2 = true else (x1, x2) = ((0 : Int), (0 : Int))) ∧
      (bothE n (fun i => priceM cc mo (m i)) l c = 0 → ∃ z1 z2, leastR n (fun i => priceM cc mo (m i)) l c sure = (z1, z2, if is then 0 else 17) ∧ (if is then smallB z1 z2 = true else (z1, z2) = ((0 : Int), (0 : Int))) ∧ (is = true → ratN (cc * x1 + mo * x2) x2 = z1 ∧ ratD (cc * x1 + mo * x2) x2 = z2)) := by
    rcases least_cases hbo sure with ⟨a1, -, a3⟩ | ⟨fa, -, a2, a3⟩
    · refine ⟨false, 0, 0, a1, rfl, fun hb => ?_⟩
      rcases priced_least (d := mo) (show 0 < cc by omega) hbo hb sure with ⟨_, h2⟩ | ⟨f, h1, _, _⟩
      · exact ⟨0, 0, h2, rfl, fun h => (by cases h)⟩
      · rw [a1] at h1
        simp at h1
    · refine ⟨true, _, _, a2, low_small hF a3, fun hb => ?_⟩
      rcases priced_least (d := mo) (show 0 < cc by omega) hbo hb sure with ⟨h1, _⟩ | ⟨f, h1, _, h3⟩
      · rw [a2] at h1
        simp at h1
      · rw [a2] at h1
        simp only [Prod.mk.injEq, and_true] at h1
        have e1 : (costOf n m f).1 = (costOf n m fa).1 := h1.1.symm
        have e2 : (costOf n m f).2 = (costOf n m fa).2 := h1.2.symm
        rw [e1, e2] at h3
        rcases least_cases hb sure with ⟨b1, _, _⟩ | ⟨fb, _, b2, b3⟩
        · rw [h3] at b1
          simp at b1
        · have hsm := low_small (fine_of (both_ok hb).1) b3
          rw [h3] at b2
          simp only [Prod.mk.injEq, and_true] at b2
          refine ⟨_, _, h3, ?_, fun _ => ⟨rfl, rfl⟩⟩
          rw [if_pos rfl, b2.1, b2.2]
          exact hsm
  obtain ⟨is, x1, x2, L1, p1, LX⟩ := LC
  rw [L1] at hLY
  rcases hS : shareR n m l c sure i with ⟨⟨s1, s2⟩, ⟨t1, t2⟩, e3⟩
  rw [hS] at hSY
  have HLX := Lib.hid LX
  have HYt := Lib.hid hY
  have HFm := Lib.hid hF.2.2
  have HL1 := Lib.hid L1
  have HLY := Lib.hid hLY
  have HS := Lib.hid hS
  have HSY := Lib.hid hSY
  have Hj := Lib.hid hj
  have Hp1 := Lib.hid p1
  have HCC := Lib.hid hcc
  have hccm : 1 + Int.tmod ti 4 = cc := by rw [Int.tmod_eq_emod_of_nonneg hti.1]; exact hcc
  obtain ⟨i0, hi0, hz0, hz1, hz2⟩ := info_parts infoMetal
  clear hY hturn hboY hLY hSY LX hS L1 hj hi hs hcc hF hbo hmet p1
  obtain ⟨tc0, tc1, _, _, tz⟩ := ratrow2 HT.out
  go_enter Tryz.func13, Tryz.ntmps13
  go_wp2_with fail
  refine HFi.out.mono ?_
  rintro e w1 ⟨rfl, hb1⟩
  clear tc0 tc1 tz hW hbt
  replace HM := Lib.hid (HM.out.below hb1)
  replace HT := Lib.hid (RowIs.below HT.out hb1)
  replace hB := bup hB hb1
  go_wp2_with fail
  go_quiet (fail)
  try simp only [wI, wS, hmodI, hmodS]
  obtain ⟨W5, hW5⟩ : ∃ W5, w1.drewN nq = W5 := ⟨_, rfl⟩
  have hb5 : Below w1.heap.size w1 W5 := by rw [← hW5]; exact below_drewN (Below.refl _ _) nq
  rw [hW5]
  replace HM := Lib.hid (HM.out.below hb5)
  replace HT := Lib.hid (RowIs.below HT.out hb5)
  replace hB := bup hB hb5
  clear hW5 hb5 hb1
  have hbl : Below W5.heap.size W5 (W5.alloc (.cells #[] 68)) := Below.alloc1 (Below.refl _ _) _ (Nat.le_refl _)
  obtain ⟨B1, hB1⟩ : ∃ B1, W5.heap.size = B1 := ⟨_, rfl⟩
  have hol := own_lit W5 (base := B1) (N := B1) 68 5 (by omega) (by omega)
  have HMM := Lib.hid (fun (x : World) (hx : Below W5.heap.size W5 x) => HM.out.below hx)
  go_wp2_with (first | (at_builtin; refine wpList_append_own (o := ⟨some 62, _, _, _, _, _⟩) _ rfl _ _ 22 rfl B2 68 i0 (.agg #[.int .i64 0, .int .i64 0, .int .i64 0, .int .i64 0, .int .i64 0]) 5 40 Tryz.underlying22 hi0 hz0 hz1 hz2 rfl (by decide) _ 0 [] rfl hol2 ⟨ba, oa, none⟩ n cap (mCells m n) rfl (mCells_len m n) (fun j u h => mCells_at (HMM.out _ hbl2) j u h) (mCells_one m n) (by unfold maxLen; omega) (by omega) (by simp; omega) ?_; intro vw3 w3 hown3 hgr3 _; simp only [Nat.zero_add, List.nil_append] at hown3) | (at_builtin; refine wpList_append_own (o := ⟨some 59, _, _, _, _, _⟩) _ rfl _ _ 22 rfl B1 68 i0 (.agg #[.int .i64 0, .int .i64 0, .int .i64 0, .int .i64 0, .int .i64 0]) 5 40 Tryz.underlying22 hi0 hz0 hz1 hz2 rfl (by decide) _ 0 [] rfl hol ⟨ba, oa, none⟩ n cap (mCells m n) rfl (mCells_len m n) (fun j u h => mCells_at (HM.out.below hbl) j u h) (mCells_one m n) (by unfold maxLen; omega) (by omega) (by simp; omega) ?_; intro vw2 w2 hown2 hgr2 _; simp only [Nat.zero_add, List.nil_append] at hown2; obtain ⟨gX, cX, rfl, hgXz⟩ := own_form hown2 (by omega); have hb2 : Below W5.heap.size W5 w2 := hbl.grown hgr2 (by first | (simp; done) | (simp; omega)) (fun q h => by have := (hol.lt q h).1; omega); have hbl2 : Below W5.heap.size W5 (w2.alloc (.cells #[] 68)) := Below.alloc1 hb2 _ (by have := hb2.size; omega); obtain ⟨B2, hB2⟩ : ∃ B2, w2.heap.size = B2 := ⟨_, rfl⟩; have hol2 := own_lit w2 (base := B2) (N := B2) 68 5 (by omega) (by omega)))
  obtain ⟨gY, cY, rfl, hgYz⟩ := own_form hown3 (by omega)
  rw [HCC.out]
  have hb23 : Below w2.heap.size w2 w3 := (Below.alloc1 (Below.refl _ _) _ (Nat.le_refl _)).grown hgr3 (by first | (simp; done) | (simp; omega)) (fun q h => by have := (hol2.lt q h).1; omega)
  have hX := own_below hown2 hb23
  have gXb := (hown2.lt gX rfl).1
  have gYb := (hown3.lt gY rfl).1
  have hxy : gX ≠ gY := by have := (hown2.lt gX rfl).2; omega
  have hb3 := bup hb2 hb23
  rw [← priceS_zero cc mo m] at hX
  have HX := Lib.hid hX
  have HY := Lib.hid hown3
  have HB3 := Lib.hid hb3
  rw [← hB1] at gXb
  have gYw : W5.heap.size ≤ gY := by have := hb2.size; omega
  clear hown2 hown3 hgr2 hgr3 hol hol2 hbl hbl2 hB1 hX hb3 hb23 hb2 gYb hgXz hgYz
  go_loopw [22] (fun kk wr => ∃ k, k ≤ n ∧ kk = .int .i64 (k : Nat) ∧ wr.ownsRow B1 68 5 (.slice (some ⟨gX, 0, none⟩) n cX) n (mCells (priceS cc mo m k) n) ∧ wr.ownsRow B2 68 5 (.slice (some ⟨gY, 0, none⟩) n cY) n (mCells (turnS n s m k) n) ∧ Below W5.heap.size W5 wr) (fun kk _ => n - (intOf kk).toNat)
  case atStart => exact ⟨0, Nat.zero_le _, rfl, HX.out, HY.out, HB3.out⟩
  case round =>
  clear HX HY HB3 hB2
  obtain ⟨k, hkn', rfl, hX, hY, hB⟩ := hrel
  have HX := Lib.hid hX
  have HY := Lib.hid hY
  have HB := Lib.hid hB
  clear hX hY hB
  by_cases hlt : k < n
  case pos =>
    have hfk := HFm.out k hlt
    have x0 := (HX.out.cellAt (k * 5) (by omega)).trans ((mCells_get (priceS cc mo m k) hlt (b := 0) (by omega)))
    have f0 := HX.out.frozenAt (k * 5)
    have hgXz := (HX.out.lt gX rfl).2
    have ep : priceS cc mo m k k = m k := by unfold priceS; rw [if_neg (by omega)]
    simp only [M5.cells, List.getElem?_cons_zero, ep] at x0
    obtain ⟨P, hP⟩ : ∃ P, (m k).p = P := ⟨_, rfl⟩
    rw [hP] at x0 hfk
    have m0 := mul_bd (show (0 : Int) ≤ cc by omega) hccb.2 hfk.1 hfk.2.1
    have w1' : IntKind.i64.wrap (cc * P) = cc * P := IntWalk.i64_in _ (by omega)
    have w2' : IntKind.i64.wrap (cc * P + mo) = cc * P + mo := IntWalk.i64_in _ (by omega)
    have w3' : wrap64 (cc * P) = cc * P := IntWalk.wrap64_in _ ⟨by omega, by omega⟩
    have w4' : wrap64 (cc * P + mo) = cc * P + mo := IntWalk.wrap64_in _ ⟨by omega, by omega⟩
    obtain ⟨Z, hZ⟩ : ∃ Z, wr.setCell ⟨gX, k * 5, none⟩ (.int .i64 (cc * P + mo)) = Z := ⟨_, rfl⟩
    have hXZ := price_own HX.out hlt (cc * P + mo)
    have eS : putM (priceS cc mo m k) k ⟨cc * P + mo, (priceS cc mo m k k).l0, (priceS cc mo m k k).l1, (priceS cc mo m k k).c0, (priceS cc mo m k k).c1⟩ = priceS cc mo m (k + 1) := by
      rw [ep, ← hP]
      exact priceS_step cc mo m k
    rw [eS, hZ] at hXZ
    have hYZ := own_far HY.out (Ne.symm hxy) (k := k * 5) (g' := gX) (.int .i64 (cc * P + mo))
    rw [hZ] at hYZ
    have hBZ : Below W5.heap.size W5 Z := by rw [← hZ]; exact HB.out.setCell (p := ⟨gX, k * 5, none⟩) gXb _
    have HXZ := Lib.hid hXZ
    have HYZ := Lib.hid hYZ
    have HBZ := Lib.hid hBZ
    clear hXZ hYZ hBZ eS ep hP m0
    go_wp2_with fail
    clear hZ x0 f0 w1' w2' w3' w4' HX HY HB hgXz
    obtain ⟨_, _, he_, hmz, q0, q1, q2, q3, q4⟩ := Metals.at (HMM.out Z HBZ.out) k hlt
    cases he_
    have hkm : (k + s) % n < n := Nat.mod_lt _ (by omega)
    have hks : Int.tmod ((k : Int) + (s : Int)) (n : Int) = (((k + s) % n : Nat) : Int) := rfl
    have wks : IntKind.i64.wrap ((k : Int) + (s : Int)) = (k : Int) + (s : Int) := IntWalk.i64_in _ (by omega)
    obtain ⟨jj, hjj⟩ : ∃ jj, (k + s) % n = jj := ⟨_, rfl⟩
    rw [hjj] at hkm hks
    have hlc := fun (x : Later Z) => later_cell x
    refine wp_region_later_tail 11 (by kernel_rfl) (by kernel_rfl) ?_
    simp only [List.take_succ_cons, List.take_zero, List.drop_succ_cons, List.drop_zero]
    repeat (go_big_quiet_step (fail))
    refine wpQuiet_nil ?_
    clear hlc q0 q1 q2 q3 q4 hks wks
    rintro ⟨Z2, hz2'⟩
    dsimp only
    have HYq0 := ((own_below HYZ.out hz2').cellAt (jj * 5 + 0) (by omega)).trans (mCells_get (turnS n s m k) hkm (b := 0) (by omega))
    have HYf0 := (own_below HYZ.out hz2').frozenAt (jj * 5 + 0)
    have HYq1 := ((own_below HYZ.out hz2').cellAt (jj * 5 + 1) (by omega)).trans (mCells_get (turnS n s m k) hkm (b := 1) (by omega))
    have HYf1 := (own_below HYZ.out hz2').frozenAt (jj * 5 + 1)
    have HYq2 := ((own_below HYZ.out hz2').cellAt (jj * 5 + 2) (by omega)).trans (mCells_get (turnS n s m k) hkm (b := 2) (by omega))
    have HYf2 := (own_below HYZ.out hz2').frozenAt (jj * 5 + 2)
    have HYq3 := ((own_below HYZ.out hz2').cellAt (jj * 5 + 3) (by omega)).trans (mCells_get (turnS n s m k) hkm (b := 3) (by omega))
    have HYf3 := (own_below HYZ.out hz2').frozenAt (jj * 5 + 3)
    have HYq4 := ((own_below HYZ.out hz2').cellAt (jj * 5 + 4) (by omega)).trans (mCells_get (turnS n s m k) hkm (b := 4) (by omega))
    have HYf4 := (own_below HYZ.out hz2').frozenAt (jj * 5 + 4)
    simp only [M5.cells, List.getElem?_cons_zero, List.getElem?_cons_succ, Nat.add_zero] at HYq0 HYq1 HYq2 HYq3 HYq4 HYf0
    have hgz := (own_below HYZ.out hz2').lt gY rfl
    have hgz2 := hgz.2
    obtain ⟨V, hV⟩ : ∃ V, put5 Z2 gY jj (m k) = V := ⟨_, rfl⟩
    have hYV := put_own (own_below HYZ.out hz2') hkm (m k)
    have hXV := own_far5 (own_below HXZ.out hz2') hxy (i := jj) (m k)
    have hBV := put_below (bup HBZ.out hz2') gYw jj (m k)
    rw [show putM (turnS n s m k) jj (m k) = turnS n s m (k + 1) by rw [← hjj]; rfl, hV] at hYV
    rw [hV] at hXV hBV
    unfold put5 at hV
    have HYV := Lib.hid hYV
    have HXV := Lib.hid hXV
    have HBV := Lib.hid hBV
    clear hYV hXV hBV hjj hgz hz2' HYZ HXZ HBZ
    go_wp2
    go_roundw
    case rel => exact ⟨k + 1, by omega, by go_num, HXV.out, HYV.out, HBV.out⟩
    case measure => simp [intOf]; omega
  case neg =>
  obtain rfl : n = k := by omega
  have hXm := (metals_of_own (by have h := HX.out; rw [priced_cells] at h; exact h)).1
  have hYm := (metals_of_own HY.out).1
  rw [HYt.out] at hYm
  have HXm := Lib.hid hXm
  have HYm := Lib.hid hYm
  obtain ⟨w6, hw6⟩ : ∃ w6, w6 = wr := ⟨_, rfl⟩
  subst hw6
  replace HM := Lib.hid (HM.out.below HB.out)
  replace HT := Lib.hid (RowIs.below HT.out HB.out)
  replace hB := bup hB HB.out
  clear HX HY HB hXm hYm HMM hlt gXb gYw
  have hC1 := lawLeast_c (some ⟨ba, oa, none⟩) n cap m l c sure is (x1, x2) w6 HM.out hn12 HL1.out Hp1.out
  try dsimp only [re2, re3, proofV, zeroP] at hC1
  have C1 := Lib.hid hC1
  clear hC1
  obtain ⟨tc0, tc1, _, _, tz⟩ := ratrow2 HT.out
  go_wp2_with fail
  clear tc0 tc1 tz
  refine C1.out.mono ?_
  rintro e w2 ⟨rfl, hw3⟩
  clear C1
  replace HM := Lib.hid (HM.out.below hw3)
  replace HT := Lib.hid (RowIs.below HT.out hw3)
  replace HXm := Lib.hid (HXm.out.below hw3)
  replace HYm := Lib.hid (HYm.out.below hw3)
  replace hB := bup hB hw3
  simp only [leastV]
  obtain ⟨Y4, hY4⟩ : ∃ Y4, w2.alloc (.cells #[.int .i64 x1, .int .i64 x2] 29) = Y4 := ⟨_, rfl⟩
  have hy5 : Below w2.heap.size w2 Y4 := by rw [← hY4]; exact Below.alloc1 (Below.refl _ _) _ (Nat.le_refl _)
  replace HM := Lib.hid (HM.out.below hy5)
  replace HT := Lib.hid (RowIs.below HT.out hy5)
  replace HXm := Lib.hid (HXm.out.below hy5)
  replace HYm := Lib.hid (HYm.out.below hy5)
  replace hB := bup hB hy5
  have RA := Lib.hid (show RowIs Y4 w2.heap.size #[.int .i64 x1, .int .i64 x2] 29 by rw [← hY4]; exact heap_new_at _ _ _ rfl)
  obtain ⟨bRA, hbRA⟩ : ∃ bRA, w2.heap.size = bRA := ⟨_, rfl⟩
  rw [hbRA] at RA
  have hC6 := lawLeast_c (some ⟨gY, 0, none⟩) n cY Y l c sure is (x1, x2) Y4 HYm.out hn12 HLY.out Hp1.out
  try dsimp only [re2, re3, proofV, zeroP] at hC6
  have C6 := Lib.hid hC6
  clear hC6
  obtain ⟨tc0, tc1, _, _, tz⟩ := ratrow2 HT.out
  go_wp2_with fail
  clear hw3 hbRA hY4 hy5 tc0 tc1 tz
  refine C6.out.mono ?_
  rintro e w7 ⟨rfl, hw8⟩
  clear C6
  replace HM := Lib.hid (HM.out.below hw8)
  replace HT := Lib.hid (RowIs.below HT.out hw8)
  replace HXm := Lib.hid (HXm.out.below hw8)
  replace HYm := Lib.hid (HYm.out.below hw8)
  replace RA := Lib.hid (RowIs.below RA.out hw8)
  replace hB := bup hB hw8
  simp only [leastV]
  have RAold := RA.out
  have hBold := hB
  obtain ⟨Y9, hY9⟩ : ∃ Y9, w7.alloc (.cells #[.int .i64 x1, .int .i64 x2] 29) = Y9 := ⟨_, rfl⟩
  have hy10 : Below w7.heap.size w7 Y9 := by rw [← hY9]; exact Below.alloc1 (Below.refl _ _) _ (Nat.le_refl _)
  replace HM := Lib.hid (HM.out.below hy10)
  replace HT := Lib.hid (RowIs.below HT.out hy10)
  replace HXm := Lib.hid (HXm.out.below hy10)
  replace HYm := Lib.hid (HYm.out.below hy10)
  replace RA := Lib.hid (RowIs.below RA.out hy10)
  replace hB := bup hB hy10
  have RB := Lib.hid (show RowIs Y9 w7.heap.size #[.int .i64 x1, .int .i64 x2] 29 by rw [← hY9]; exact heap_new_at _ _ _ rfl)
  obtain ⟨bRB, hbRB⟩ : ∃ bRB, w7.heap.size = bRB := ⟨_, rfl⟩
  rw [hbRB] at RB
  have hnAB : bRA ≠ bRB := by have h1 := (Array.getElem?_eq_some_iff.1 RAold).1; omega
  have hwRB : w.heap.size ≤ bRB := by have h1 := hBold.size; omega
  have hC11 := Share_c (some ⟨ba, oa, none⟩) n cap m l c sure i Y9 HM.out hn (by omega)
  rw [HS.out] at hC11
  try dsimp only [re2, re3, proofV, zeroP] at hC11
  have C11 := Lib.hid hC11
  clear hC11
  obtain ⟨tc0, tc1, _, _, tz⟩ := ratrow2 HT.out
  go_wp2_with fail
  clear hw8 hbRB hY9 hy10 tc0 tc1 tz
  refine C11.out.mono ?_
  rintro e w12 ⟨rfl, hw13⟩
  clear C11
  replace HM := Lib.hid (HM.out.below hw13)
  replace HT := Lib.hid (RowIs.below HT.out hw13)
  replace HXm := Lib.hid (HXm.out.below hw13)
  replace HYm := Lib.hid (HYm.out.below hw13)
  replace RA := Lib.hid (RowIs.below RA.out hw13)
  replace RB := Lib.hid (RowIs.below RB.out hw13)
  replace hB := bup hB hw13
  obtain ⟨Y14, hY14⟩ : ∃ Y14, (w12.alloc (.cells #[.int .i64 s1, .int .i64 s2] 29)).alloc (.cells #[.int .i64 t1, .int .i64 t2] 29) = Y14 := ⟨_, rfl⟩
  have hy15 : Below w12.heap.size w12 Y14 := by rw [← hY14]; exact Below.alloc1 (Below.alloc1 (Below.refl _ _) _ (Nat.le_refl _)) _ (Nat.le_refl _)
  replace HM := Lib.hid (HM.out.below hy15)
  replace HT := Lib.hid (RowIs.below HT.out hy15)
  replace HXm := Lib.hid (HXm.out.below hy15)
  replace HYm := Lib.hid (HYm.out.below hy15)
  replace RA := Lib.hid (RowIs.below RA.out hy15)
  replace RB := Lib.hid (RowIs.below RB.out hy15)
  replace hB := bup hB hy15
  have RC := Lib.hid (show RowIs Y14 w12.heap.size #[.int .i64 s1, .int .i64 s2] 29 by rw [← hY14]; exact RowIs.alloc (heap_new_at _ _ _ rfl) _)
  have RD := Lib.hid (show RowIs Y14 (w12.heap.size + 1) #[.int .i64 t1, .int .i64 t2] 29 by rw [← hY14]; exact heap_new_at _ _ _ (by simp))
  obtain ⟨bRC, hbRC⟩ : ∃ bRC, w12.heap.size = bRC := ⟨_, rfl⟩
  rw [hbRC] at RC RD
  go_wp2_with fail
  clear hw13 hY14 hy15 hbRC
  have KSh := Lib.hid (fun (x : World) (hx : Below Y14.heap.size Y14 x) => by
    have h := Share_c (some ⟨gY, 0, none⟩) n cY Y l c sure j x (HYm.out.below hx) hn (by omega)
    rw [HSY.out] at h
    dsimp only [re3] at h
    exact h)
  have hks : Int.tmod ((i : Int) + (s : Int)) (n : Int) = (j : Int) := by rw [← Hj.out]; rfl
  have wks : IntKind.i64.wrap ((i : Int) + (s : Int)) = (i : Int) + (s : Int) := IntWalk.i64_in _ (by omega)
  have hnz3 : ¬ n = 0 := by omega
  obtain ⟨tc0, tc1, _, _, tz⟩ := ratrow2 HT.out
  refine wp_region_run 13 203 (by kernel_rfl) (by kernel_rfl) (by kernel_rfl) (by decide) (by kernel_rfl) rfl ?_
  simp only [List.take_succ_cons, List.take_zero]
  apply Exists.intro
  refine ⟨fun wl hbl K1 hK1 => ?_, ?_⟩
  · have hlc := fun (x : Later wl) => later_cell2 hbl x
    repeat (go_big_quiet_step ((with_reducible refine calls_later (KSh.out _ (hbl.trans ((Later.h _).mono hbl.size))))))
    exact wpQuiet_nil hK1
  change Run _ _ _ _ _ 5 _ _ _
  refine run_two (w0 := Y14) (m := 13) (n := 14) (ta := 32) (tb := 33) (za := .cells #[.int .i64 0, .int .i64 0] 29 (0, 0)) (zb := .cells #[.int .i64 0, .int .i64 0] 29 (0, 0)) rfl rfl rfl rfl rfl rfl (by decide) (by decide) ?hal ?hbl (fun w hw => hw.size) (by kernel_rfl) (by kernel_rfl) (by kernel_rfl) ?_
  case hal => intro a w; go_simp
  case hbl => intro a w; go_simp
  intro b1 b2 hv1 hv2 hvn
  clear KSh hks wks hnz3 tc0 tc1
  simp only [Act.put, List.setIfInBounds_toArray, List.set_cons_zero, List.set_cons_succ]
  refine run_store (i := 15) (fun x => Below Y14.heap.size Y14 x ∧ x.heap[b1]? = some (.cells #[.int .i64 s1, .int .i64 s2] 29 (0, 0)) ∧ x.heap[b2]? = some (.cells #[.int .i64 0, .int .i64 0] 29 (0, 0))) (by kernel_rfl) rfl rfl (stable3 _ _ _ _ _) (fun x h => h.1) ?_ ?_
  · rintro x ⟨g0, g1, g2⟩
    obtain ⟨pc0, pc1, pc2, pc3, pc4⟩ := ratrow2 g1
    refine ⟨put2 x b1 s1 s2, ?_, ?_⟩
    · unfold put2
      go_simp
    · exact ⟨(g0.setCell (p := ⟨b1, 0, none⟩) hv1 _).setCell (p := ⟨b1, 1, none⟩) hv1 _, put2_row g1 _ _, (put2_other (Ne.symm hvn) _ _).trans g2⟩
  simp only [Act.put, List.setIfInBounds_toArray]
  refine run_store (i := 16) (fun x => Below Y14.heap.size Y14 x ∧ x.heap[b1]? = some (.cells #[.int .i64 s1, .int .i64 s2] 29 (0, 0)) ∧ x.heap[b2]? = some (.cells #[.int .i64 t1, .int .i64 t2] 29 (0, 0))) (by kernel_rfl) rfl rfl (stable3 _ _ _ _ _) (fun x h => h.1) ?_ ?_
  · rintro x ⟨g0, g1, g2⟩
    obtain ⟨pc0, pc1, pc2, pc3, pc4⟩ := ratrow2 g2
    refine ⟨put2 x b2 t1 t2, ?_, ?_⟩
    · unfold put2
      go_simp
    · exact ⟨(g0.setCell (p := ⟨b2, 0, none⟩) hv2 _).setCell (p := ⟨b2, 1, none⟩) hv2 _, (put2_other hvn _ _).trans g1, put2_row g2 _ _⟩
  simp only [Act.put]
  refine run_quiet (i := 17) (.int .i64 e3) (by kernel_rfl) rfl rfl (fun x _ => by go_simp) ?_
  simp only [Act.put]
  refine ⟨by kernel_rfl, fun wv hF => ?_⟩
  obtain ⟨hvb, hp1, hp2⟩ := hF
  have RE := Lib.hid (show RowIs wv b1 #[.int .i64 s1, .int .i64 s2] 29 from hp1)
  have RF := Lib.hid (show RowIs wv b2 #[.int .i64 t1, .int .i64 t2] 29 from hp2)
  clear hp1 hp2 hv1 hv2 hvn
  replace HM := Lib.hid (HM.out.below hvb)
  replace HT := Lib.hid (RowIs.below HT.out hvb)
  replace HXm := Lib.hid (HXm.out.below hvb)
  replace HYm := Lib.hid (HYm.out.below hvb)
  replace RA := Lib.hid (RowIs.below RA.out hvb)
  replace RB := Lib.hid (RowIs.below RB.out hvb)
  replace RC := Lib.hid (RowIs.below RC.out hvb)
  replace RD := Lib.hid (RowIs.below RD.out hvb)
  replace hB := bup hB hvb
  by_cases hbx : bothE n (fun i => priceM cc mo (m i)) l c = 0
  case neg =>
    have hdx : decide (n ≤ 12 ∧ bothE n (fun i => priceM cc mo (m i)) l c = 0) = false := decide_eq_false (fun h => hbx h.2)
    have hC16 := fine_c (some ⟨gX, 0, none⟩) n cX (fun i => priceM cc mo (m i)) l c wv HXm.out
    rw [hdx] at hC16
    try dsimp only [re2, re3, proofV, zeroP] at hC16
    have C16 := Lib.hid hC16
    clear hC16
    obtain ⟨tc0, tc1, _, _, tz⟩ := ratrow2 HT.out
    obtain ⟨v170, v171, _, _, v17z⟩ := ratrow2 RA.out
    obtain ⟨v180, v181, _, _, v18z⟩ := ratrow2 RB.out
    obtain ⟨v190, v191, _, _, v19z⟩ := ratrow2 RC.out
    obtain ⟨v200, v201, _, _, v20z⟩ := ratrow2 RD.out
    obtain ⟨v210, v211, _, _, v21z⟩ := ratrow2 RE.out
    obtain ⟨v220, v221, _, _, v22z⟩ := ratrow2 RF.out
    have heq0 := fun (w : World) => eqRat x1 x2 w
    have heq1 := fun (w : World) => eqRat s1 s2 w
    have heq2 := fun (w : World) => eqRat t1 t2 w
    go_wp2_with fail
    clear hvb tc0 tc1 tz v170 v171 v17z v180 v181 v18z v190 v191 v19z v200 v201 v20z v210 v211 v21z v220 v221 v22z heq0 heq1 heq2
    refine C16.out.mono ?_
    rintro e w23 ⟨rfl, hw24⟩
    clear C16
    replace HM := Lib.hid (HM.out.below hw24)
    replace HT := Lib.hid (RowIs.below HT.out hw24)
    replace HXm := Lib.hid (HXm.out.below hw24)
    replace HYm := Lib.hid (HYm.out.below hw24)
    replace RA := Lib.hid (RowIs.below RA.out hw24)
    replace RB := Lib.hid (RowIs.below RB.out hw24)
    replace RC := Lib.hid (RowIs.below RC.out hw24)
    replace RD := Lib.hid (RowIs.below RD.out hw24)
    replace RE := Lib.hid (RowIs.below RE.out hw24)
    replace RF := Lib.hid (RowIs.below RF.out hw24)
    replace hB := bup hB hw24
    go_wp2_with fail
    refine (works_c _).mono ?_
    rintro e wz ⟨rfl, hbz⟩
    go_wp2
    go_ret
    exact ⟨rfl, bup hB hbz⟩
  case pos =>
    have hdx : decide (n ≤ 12 ∧ bothE n (fun i => priceM cc mo (m i)) l c = 0) = true := decide_eq_true ⟨hn12, hbx⟩
    obtain ⟨z1, z2, hLx, hpz, hyes⟩ := HLX.out hbx
    have HLx := Lib.hid hLx
    have Hpz := Lib.hid hpz
    have hp1 := Hp1.out
    clear hLx hpz HLX
    cases is
    case false =>
      clear hyes hp1
      have hC25 := fine_c (some ⟨gX, 0, none⟩) n cX (fun i => priceM cc mo (m i)) l c wv HXm.out
      rw [hdx] at hC25
      try dsimp only [re2, re3, proofV, zeroP] at hC25
      have C25 := Lib.hid hC25
      clear hC25
      obtain ⟨tc0, tc1, _, _, tz⟩ := ratrow2 HT.out
      obtain ⟨v260, v261, _, _, v26z⟩ := ratrow2 RA.out
      obtain ⟨v270, v271, _, _, v27z⟩ := ratrow2 RB.out
      obtain ⟨v280, v281, _, _, v28z⟩ := ratrow2 RC.out
      obtain ⟨v290, v291, _, _, v29z⟩ := ratrow2 RD.out
      obtain ⟨v300, v301, _, _, v30z⟩ := ratrow2 RE.out
      obtain ⟨v310, v311, _, _, v31z⟩ := ratrow2 RF.out
      have heq0 := fun (w : World) => eqRat x1 x2 w
      have heq1 := fun (w : World) => eqRat s1 s2 w
      have heq2 := fun (w : World) => eqRat t1 t2 w
      go_wp2_with fail
      clear hvb tc0 tc1 tz v260 v261 v26z v270 v271 v27z v280 v281 v28z v290 v291 v29z v300 v301 v30z v310 v311 v31z heq0 heq1 heq2
      refine C25.out.mono ?_
      rintro e w32 ⟨rfl, hw33⟩
      clear C25
      replace HM := Lib.hid (HM.out.below hw33)
      replace HT := Lib.hid (RowIs.below HT.out hw33)
      replace HXm := Lib.hid (HXm.out.below hw33)
      replace HYm := Lib.hid (HYm.out.below hw33)
      replace RA := Lib.hid (RowIs.below RA.out hw33)
      replace RB := Lib.hid (RowIs.below RB.out hw33)
      replace RC := Lib.hid (RowIs.below RC.out hw33)
      replace RD := Lib.hid (RowIs.below RD.out hw33)
      replace RE := Lib.hid (RowIs.below RE.out hw33)
      replace RF := Lib.hid (RowIs.below RF.out hw33)
      replace hB := bup hB hw33
      have hC34 := lawLeast_c (some ⟨gX, 0, none⟩) n cX (fun i => priceM cc mo (m i)) l c sure false (z1, z2) w32 HXm.out hn12 HLx.out Hpz.out
      try dsimp only [re2, re3, proofV, zeroP] at hC34
      have C34 := Lib.hid hC34
      clear hC34
      obtain ⟨tc0, tc1, _, _, tz⟩ := ratrow2 HT.out
      go_wp2_with fail
      clear hw33 tc0 tc1 tz
      refine C34.out.mono ?_
      rintro e w35 ⟨rfl, hw36⟩
      clear C34
      replace HM := Lib.hid (HM.out.below hw36)
      replace HT := Lib.hid (RowIs.below HT.out hw36)
      replace HXm := Lib.hid (HXm.out.below hw36)
      replace HYm := Lib.hid (HYm.out.below hw36)
      replace RA := Lib.hid (RowIs.below RA.out hw36)
      replace RB := Lib.hid (RowIs.below RB.out hw36)
      replace RC := Lib.hid (RowIs.below RC.out hw36)
      replace RD := Lib.hid (RowIs.below RD.out hw36)
      replace RE := Lib.hid (RowIs.below RE.out hw36)
      replace RF := Lib.hid (RowIs.below RF.out hw36)
      replace hB := bup hB hw36
      simp only [leastV]
      obtain ⟨rc0, rc1, rc2, rc3, rc4⟩ := ratrow2 RB.out
      obtain ⟨Z, hZ⟩ : ∃ Z, (w35.setCell ⟨bRB, 0, none⟩ (.int .i64 z1)).setCell ⟨bRB, 1, none⟩ (.int .i64 z2) = Z := ⟨_, rfl⟩
      have RZ := Lib.hid (show RowIs Z bRB #[.int .i64 z1, .int .i64 z2] 29 by rw [← hZ]; exact put2_row RB.out z1 z2)
      have RAZ := Lib.hid (show RowIs Z bRA #[.int .i64 x1, .int .i64 x2] 29 by rw [← hZ]; exact (put2_other hnAB z1 z2).trans RA.out)
      have hBZ : Below w.heap.size w Z := by rw [← hZ]; exact (hB.setCell (p := ⟨bRB, 0, none⟩) hwRB _).setCell (p := ⟨bRB, 1, none⟩) hwRB _
      replace hB := hBZ
      clear HM HT HXm HYm RB RC RD RE RF hBZ
      go_wp2_with fail
      clear hw36 rc0 rc1 rc2 rc3 hZ
      have A1 := Lib.hid works_c
      have hlc := fun (x : Later Z) => later_cell x
      refine wp_region_later (by kernel_rfl) (by kernel_rfl) ?_
      repeat (go_big_quiet_step ((first | (with_reducible refine calls_later (A1.out _)))))
      refine wpQuiet_nil ?_
      clear hlc A1
      rintro ⟨w37, hw38⟩
      replace RZ := Lib.hid (RowIs.below RZ.out hw38)
      replace RAZ := Lib.hid (RowIs.below RAZ.out hw38)
      replace hB := bup hB hw38
      go_wp2
      go_ret
      exact ⟨rfl, hB⟩
    case true =>
      replace hyes := hyes rfl
      rw [if_pos rfl] at hp1
      have hsm := hp1
      have hC39 := fine_c (some ⟨gX, 0, none⟩) n cX (fun i => priceM cc mo (m i)) l c wv HXm.out
      rw [hdx] at hC39
      try dsimp only [re2, re3, proofV, zeroP] at hC39
      have C39 := Lib.hid hC39
      clear hC39
      obtain ⟨tc0, tc1, _, _, tz⟩ := ratrow2 HT.out
      obtain ⟨v400, v401, _, _, v40z⟩ := ratrow2 RA.out
      obtain ⟨v410, v411, _, _, v41z⟩ := ratrow2 RB.out
      obtain ⟨v420, v421, _, _, v42z⟩ := ratrow2 RC.out
      obtain ⟨v430, v431, _, _, v43z⟩ := ratrow2 RD.out
      obtain ⟨v440, v441, _, _, v44z⟩ := ratrow2 RE.out
      obtain ⟨v450, v451, _, _, v45z⟩ := ratrow2 RF.out
      have heq0 := fun (w : World) => eqRat x1 x2 w
      have heq1 := fun (w : World) => eqRat s1 s2 w
      have heq2 := fun (w : World) => eqRat t1 t2 w
      go_wp2_with fail
      clear hvb tc0 tc1 tz v400 v401 v40z v410 v411 v41z v420 v421 v42z v430 v431 v43z v440 v441 v44z v450 v451 v45z heq0 heq1 heq2
      refine C39.out.mono ?_
      rintro e w46 ⟨rfl, hw47⟩
      clear C39
      replace HM := Lib.hid (HM.out.below hw47)
      replace HT := Lib.hid (RowIs.below HT.out hw47)
      replace HXm := Lib.hid (HXm.out.below hw47)
      replace HYm := Lib.hid (HYm.out.below hw47)
      replace RA := Lib.hid (RowIs.below RA.out hw47)
      replace RB := Lib.hid (RowIs.below RB.out hw47)
      replace RC := Lib.hid (RowIs.below RC.out hw47)
      replace RD := Lib.hid (RowIs.below RD.out hw47)
      replace RE := Lib.hid (RowIs.below RE.out hw47)
      replace RF := Lib.hid (RowIs.below RF.out hw47)
      replace hB := bup hB hw47
      have hC48 := lawLeast_c (some ⟨gX, 0, none⟩) n cX (fun i => priceM cc mo (m i)) l c sure true (z1, z2) w46 HXm.out hn12 HLx.out Hpz.out
      try dsimp only [re2, re3, proofV, zeroP] at hC48
      have C48 := Lib.hid hC48
      clear hC48
      obtain ⟨tc0, tc1, _, _, tz⟩ := ratrow2 HT.out
      go_wp2_with fail
      clear hw47 tc0 tc1 tz
      refine C48.out.mono ?_
      rintro e w49 ⟨rfl, hw50⟩
      clear C48
      replace HM := Lib.hid (HM.out.below hw50)
      replace HT := Lib.hid (RowIs.below HT.out hw50)
      replace HXm := Lib.hid (HXm.out.below hw50)
      replace HYm := Lib.hid (HYm.out.below hw50)
      replace RA := Lib.hid (RowIs.below RA.out hw50)
      replace RB := Lib.hid (RowIs.below RB.out hw50)
      replace RC := Lib.hid (RowIs.below RC.out hw50)
      replace RD := Lib.hid (RowIs.below RD.out hw50)
      replace RE := Lib.hid (RowIs.below RE.out hw50)
      replace RF := Lib.hid (RowIs.below RF.out hw50)
      replace hB := bup hB hw50
      simp only [leastV]
      obtain ⟨rc0, rc1, rc2, rc3, rc4⟩ := ratrow2 RB.out
      obtain ⟨Z, hZ⟩ : ∃ Z, (w49.setCell ⟨bRB, 0, none⟩ (.int .i64 z1)).setCell ⟨bRB, 1, none⟩ (.int .i64 z2) = Z := ⟨_, rfl⟩
      have RZ := Lib.hid (show RowIs Z bRB #[.int .i64 z1, .int .i64 z2] 29 by rw [← hZ]; exact put2_row RB.out z1 z2)
      have RAZ := Lib.hid (show RowIs Z bRA #[.int .i64 x1, .int .i64 x2] 29 by rw [← hZ]; exact (put2_other hnAB z1 z2).trans RA.out)
      have hBZ : Below w.heap.size w Z := by rw [← hZ]; exact (hB.setCell (p := ⟨bRB, 0, none⟩) hwRB _).setCell (p := ⟨bRB, 1, none⟩) hwRB _
      replace hB := hBZ
      clear HM HT HXm HYm RB RC RD RE RF hBZ
      go_wp2_with fail
      clear hw50 rc0 rc1 rc2 rc3 hZ
      have A1 := Lib.hid works_c
      obtain ⟨sx1, sx2, sx3, sx4⟩ := small_bd hsm
      have m1 := mul_bd (show (0 : Int) ≤ cc by omega) hccb.2 sx3 sx4
      have m2 := mul_bd hmo.1 hmo.2 (Int.le_of_lt sx1) sx2
      have A0 := Lib.hid (fun (x : World) => by
        have h := by_c (cc * x1 + mo * x2) x2 x (by omega) (by omega) sx1 (by omega)
        rw [show ratV (cc * x1 + mo * x2) x2 = .agg #[.int .i64 z1, .int .i64 z2] by rw [← hyes.1, ← hyes.2]] at h
        exact h)
      have ww1 : IntKind.i64.wrap (cc * x1) = cc * x1 := IntWalk.i64_in _ (by omega)
      have ww2 : IntKind.i64.wrap (mo * x2) = mo * x2 := IntWalk.i64_in _ (by omega)
      have ww3 : IntKind.i64.wrap (cc * x1 + mo * x2) = cc * x1 + mo * x2 := IntWalk.i64_in _ (by omega)
      have heq0 := fun (w : World) => eqRat z1 z2 w
      obtain ⟨v510, v511, _, _, v51z⟩ := ratrow2 RZ.out
      obtain ⟨v520, v521, _, _, v52z⟩ := ratrow2 RAZ.out
      have hlc := fun (x : Later Z) => later_cell x
      refine wp_region_later (by kernel_rfl) (by kernel_rfl) ?_
      repeat (go_big_quiet_step ((first | (with_reducible refine calls_later (A0.out _)) | (with_reducible refine calls_later (A1.out _)))))
      refine wpQuiet_nil ?_
      clear hlc A0 A1 ww1 ww2 ww3 heq0 v510 v511 v51z v520 v521 v52z
      rintro ⟨w53, hw54⟩
      replace RZ := Lib.hid (RowIs.below RZ.out hw54)
      replace RAZ := Lib.hid (RowIs.below RAZ.out hw54)
      replace hB := bup hB hw54
      go_wp2
      go_ret
      exact ⟨rfl, hB⟩

end Go.Proofs.YtehafggcncbnkaaGreat

namespace Go.Proofs.YtehafggcncbnkaaGreat
open Go Go.RowKit Go.ChangeShapes Go.WideShapes Go.ChangeAt

theorem own_scaled : ownKnob Tryz.prog.godebug = .none := by kernel_rfl
theorem laidOut_scaled : laidOutB Tryz.prog = true := by kernel_rfl

set_option maxRecDepth 100000 in
theorem scaled_lifted (os : Os) (started : os.Started) (H : Type) (enc : TypeId × Value → H) :
    ReturnsInHanded {} Tryz.checked os 13 .any (Rows.alloyScaledSpec.pre6 enc Tryz.prog Tryz.f13 Rows.alloyScaledRow.domain false) (Rows.alloyScaledSpec.post enc Tryz.prog Tryz.f13 false true false false) := by
  refine returnsInHanded_of_change (C := Tryz.checked) own_scaled started (by kernel_rfl) Tryz.func13
    (ChangeSpec.witness6 (enc := enc) (C := Tryz.checked) false ⟨#[], #[.slice .none 0 0, .agg #[.int .i64 0, .int .i64 0], .bool false, .int .u8 0, .int .u16 0, .int .u8 0, .int .u8 0], []⟩ 8 (by kernel_rfl) (by kernel_rfl) (by kernel_rfl) (by kernel_rfl)) ?_
  intro W base args ds gs before hval0 hW hcnd _
  have hval : ∀ (j : Nat) t v, Tryz.f13.params[j]? = some t → args[j]? = some v → Value.okWide Tryz.prog W .any base t v := hval0
  have hW' := hW
  obtain ⟨p, q, hA0, hV, rfl, hfz, hnd⟩ := hW
  have hA : DataW.TrodAll enc Tryz.prog W 0 (fun _ => true) true Tryz.f13.params.toList args.toList ds p := hA0
  rw [Tryz.params13] at hA hval
  obtain ⟨v0, vs0, d0, ds0, p0, q0, hargs, rfl, rfl, h0, r0⟩ := trodAll_cons hA
  obtain ⟨v1, vs1, d1, ds1, p1, q1, rfl, rfl, rfl, h1, r1⟩ := trodAll_cons r0
  obtain ⟨v2, vs2, d2, ds2, p2, q2, rfl, rfl, rfl, h2, r2⟩ := trodAll_cons r1
  obtain ⟨v3, vs3, d3, ds3, p3, q3, rfl, rfl, rfl, h3, r3⟩ := trodAll_cons r2
  obtain ⟨v4, vs4, d4, ds4, p4, q4, rfl, rfl, rfl, h4, r4⟩ := trodAll_cons r3
  obtain ⟨v5, vs5, d5, ds5, p5, q5, rfl, rfl, rfl, h5, r5⟩ := trodAll_cons r4
  obtain ⟨v6, vs6, d6, ds6, p6, q6, rfl, rfl, rfl, h6, r6⟩ := trodAll_cons r5
  obtain ⟨rfl, rfl, rfl⟩ := trodAll_nil r6
  obtain rfl : args = #[v0, v1, v2, v3, v4, v5, v6] := by cases args; simp_all
  obtain ⟨rfl, rfl⟩ := trodVars_none hV
  obtain ⟨a0, n0, cap0, m0, rfl, hM0⟩ := open_metals (hval 0 22 v0 rfl rfl) h0
  obtain ⟨l1, c1, rfl⟩ := open_touch (hval 1 24 v1 rfl rfl) h1
  obtain ⟨s2, hs2, _, _⟩ := open_bool Tryz.underlying4 (hval 2 4 v2 rfl rfl) h2
  obtain ⟨z3, hz3, _, _, hw3⟩ := open_int Tryz.underlying5 (hval 3 5 v3 rfl rfl) h3
  obtain ⟨z4, hz4, _, _, hw4⟩ := open_int Tryz.underlying64 (hval 4 64 v4 rfl rfl) h4
  obtain ⟨z5, hz5, _, _, hw5⟩ := open_int Tryz.underlying5 (hval 5 5 v5 rfl rfl) h5
  obtain ⟨z6, hz6, _, _, hw6⟩ := open_int Tryz.underlying5 (hval 6 5 v6 rfl rfl) h6
  subst hs2 hz3 hz4 hz5 hz6
  refine (law_scaled_c a0 n0 cap0 m0 l1 c1 z3 z4 z5 z6 s2 W hM0 (wfu8 hw3) (wfu16 hw4) (wfu8 hw5) (wfu8 hw6)).mono fun e W' ⟨he, hb⟩ => ?_
  subst he
  have hlt := hW'.lt
  simp only [List.append_nil, List.mem_append] at hlt
  refine ⟨_, rfl, _, _, _, [], p0 ++ (p1 ++ (p2 ++ (p3 ++ (p4 ++ (p5 ++ (p6 ++ [])))))), [], hW', trodAll_mk1 (shut_bool Tryz.underlying4 true), ?_, rfl, hb.frame _, fun h => Bool.noConfusion h⟩
  exact trodAll_cons_mk (Below.trod laidOut_scaled (by kernel_rfl) (of_decide_eq_true (by kernel_rfl)) h0 hb fun x hx => hlt x (by simp [hx])) (trodAll_cons_mk (Below.trod laidOut_scaled (by kernel_rfl) (of_decide_eq_true (by kernel_rfl)) h1 hb fun x hx => hlt x (by simp [hx])) (trodAll_cons_mk (Below.trod laidOut_scaled (by kernel_rfl) (of_decide_eq_true (by kernel_rfl)) h2 hb fun x hx => hlt x (by simp [hx])) (trodAll_cons_mk (Below.trod laidOut_scaled (by kernel_rfl) (of_decide_eq_true (by kernel_rfl)) h3 hb fun x hx => hlt x (by simp [hx])) (trodAll_cons_mk (Below.trod laidOut_scaled (by kernel_rfl) (of_decide_eq_true (by kernel_rfl)) h4 hb fun x hx => hlt x (by simp [hx])) (trodAll_cons_mk (Below.trod laidOut_scaled (by kernel_rfl) (of_decide_eq_true (by kernel_rfl)) h5 hb fun x hx => hlt x (by simp [hx])) (trodAll_cons_mk (Below.trod laidOut_scaled (by kernel_rfl) (of_decide_eq_true (by kernel_rfl)) h6 hb fun x hx => hlt x (by simp [hx])) trodAll_mk0))))))

theorem scaled_holds : Rows.AlloyScaledSaid :=
  OpenClaim.holds_of_wide 13 Tryz.f13 rfl rfl rfl rfl rfl rfl rfl ⟨rfl, rfl, rfl, rfl, rfl⟩ rfl rfl rfl rfl rfl (by kernel_rfl) Tryz.func13 (by kernel_rfl)
    (of_decide_eq_true (by kernel_rfl)) (by unfold Func.isWrapper; first | (rw [if_pos (by decide +kernel)]; kernel_rfl) | (rw [if_neg (by decide +kernel)]; exact ⟨rfl, rfl⟩))
    (fun os started H enc _ => scaled_lifted os started H enc)
end Go.Proofs.YtehafggcncbnkaaGreat

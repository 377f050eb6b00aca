/- A region that draws its order, walked without its worlds: what is known of a world is a condition that all growth keeps; an operation only reads (or calls what leaves old memory alone), or makes something new, or stores. What only reads may be taken first. It imports nothing of the program. -/
import Derived.StillTail
import Derived.Test.YtbjgbgchagfokaaGreatBasaa
import Derived.Test.YtbjgbgchagfokaaGreatBasab
import Derived.Test.YtbjgbgchagfokaaGreatBasai
import Derived.Shelf.Abstract
import Derived.Shelf.RegionOpen
import Derived.Maps.AppendAt
import Derived.Test.YtbjgbgchagfokaaGreatProg
import Derived.Test.YtbjgbgchagfokaaGreatBasac
import Derived.Test.YtbjgbgchagfokaaGreatBasad
namespace Go.Proofs.YtbjgbgchagfokaaGreat
open Go Go.RowKit

section
variable {P : Program} {ops : Array Oper} {md : Region.Mode} {Q : Exit → Act → World → Prop} {C : World → Prop}

/-- All growth keeps it. -/
def Stable (F : World → Prop) : Prop := ∀ w w', F w → Below w.heap.size w w' → F w'
theorem stable_below (w0 : World) : Stable (fun w => Below w0.heap.size w0 w) := fun _ _ h hb => h.trans (hb.mono h.size)
theorem stable_and {F G : World → Prop} (hF : Stable F) (hG : Stable G) : Stable (fun w => F w ∧ G w) := fun w w' h hb => ⟨hF w w' h.1 hb, hG w w' h.2 hb⟩
theorem stable3 (w0 : World) (b c : Nat) (o o' : Obj) : Stable (fun w => Below w0.heap.size w0 w ∧ w.heap[b]? = some o ∧ w.heap[c]? = some o') := fun _ _ h hb =>
  ⟨h.1.trans (hb.mono h.1.size), (hb.block b (heap_size_lt h.2.1)).trans h.2.1, (hb.block c (heap_size_lt h.2.2)).trans h.2.2⟩
theorem stable_block (b : Nat) (o : Obj) (p : Prop) : Stable (fun w => p ∧ w.heap[b]? = some o) := fun _ _ h hb => ⟨h.1, (hb.block b (heap_size_lt h.2)).trans h.2⟩

def QuietIn (P : Program) (ops : Array Oper) (F : World → Prop) (o : Oper) (v : Value) (a : Act) : Prop :=
  (Region.wanted o (yielded ops a.tmps) = true ∧ ∀ w, F w → growUpon P w v ((execOp a.eval o).run P w)) ∨
  (Region.wanted o (yielded ops a.tmps) = false ∧ v = undef)
theorem QuietIn.of_same {F : World → Prop} {o : Oper} {v : Value} {a a' : Act} (h : QuietIn P ops F o v a) (he : execOp a'.eval o = execOp a.eval o) (hw : Region.wanted o (yielded ops a'.tmps) = Region.wanted o (yielded ops a.tmps)) : QuietIn P ops F o v a' := by
  unfold QuietIn at *
  rw [he, hw]
  exact h
theorem QuietIn.mono {F F' : World → Prop} {o : Oper} {v : Value} {a : Act} (h : QuietIn P ops F o v a) (hF : ∀ w, F' w → F w) : QuietIn P ops F' o v a :=
  h.imp (fun ⟨h1, h2⟩ => ⟨h1, fun w hw => h2 w (hF w hw)⟩) id

/-- Something new is made. -/
def NewIn (P : Program) (ops : Array Oper) (F : World → Prop) (o : Oper) (G : Value → World → Prop) (a : Act) : Prop :=
  Region.wanted o (yielded ops a.tmps) = true ∧ (∀ v, Stable (G v)) ∧ ∀ w, F w → ∃ v w', (execOp a.eval o).run P w = .ok (.value v) w' ∧ Below w.heap.size w w' ∧ G v w'
/-- Something is stored. -/
def StoreIn (P : Program) (ops : Array Oper) (C F : World → Prop) (o : Oper) (F' : World → Prop) (a : Act) : Prop :=
  Region.wanted o (yielded ops a.tmps) = true ∧ Stable F' ∧ (∀ w, F' w → C w) ∧ ∀ w, F w → ∃ w', (execOp a.eval o).run P w = .ok .skip w' ∧ F' w'

/-- Something of one's own is written, and a value comes of it. -/
def UpdIn (P : Program) (ops : Array Oper) (C F : World → Prop) (o : Oper) (F' : Value → World → Prop) (a : Act) : Prop :=
  Region.wanted o (yielded ops a.tmps) = true ∧ (∀ v, Stable (F' v)) ∧ (∀ v w, F' v w → C w) ∧ ∀ w, F w → ∃ v w', (execOp a.eval o).run P w = .ok (.value v) w' ∧ F' v w'

def Run (P : Program) (md : Region.Mode) (ops : Array Oper) (Q : Exit → Act → World → Prop) (C : World → Prop) : Nat → Array Bool → Act → (World → Prop) → Prop
  | 0, done, a, F => Region.ready md ops done = [] ∧ ∀ w, F w → Q .normal a w
  | f + 1, done, a, F => Region.ready md ops done ≠ [] ∧ ∀ i ∈ Region.ready md ops done, ∃ o, ops[i]? = some o ∧
      ((∃ v, QuietIn P ops F o v a ∧ Run P md ops Q C f (done.setIfInBounds i true) (a.put o.dst v) F) ∨
       (∃ G, NewIn P ops F o G a ∧ ∀ v, (∃ w, G v w) → Run P md ops Q C f (done.setIfInBounds i true) (a.put o.dst v) (fun w => F w ∧ G v w)) ∨
       (∃ F', StoreIn P ops C F o F' a ∧ Run P md ops Q C f (done.setIfInBounds i true) (a.put o.dst undef) F') ∨
       (∃ F', UpdIn P ops C F o F' a ∧ ∀ v, (∃ w, F' v w) → Run P md ops Q C f (done.setIfInBounds i true) (a.put o.dst v) (F' v)))

theorem run_any : ∀ (f : Nat) (done : Array Bool) (a : Act) (F : World → Prop) (w : World), Stable F → F w → Run P md ops Q C f done a F → wpAny P md ops Q f done a w := by
  intro f
  induction f with
  | zero => intro done a F w _ hw h; exact ⟨h.1, h.2 w hw⟩
  | succ f ih =>
    intro done a F w hF hw h
    refine ⟨fun e => absurd e h.1, fun i hi => ?_⟩
    obtain ⟨o, ho, h⟩ := h.2 i hi
    unfold wpOp
    simp only [ho]
    rcases h with ⟨v, hq, hK⟩ | ⟨G, ⟨hwt, hG, hr⟩, hK⟩ | ⟨F', ⟨hwt, hS, _, hr⟩, hK⟩ | ⟨F', ⟨hwt, hS, _, hr⟩, hK⟩
    · rcases hq with ⟨hwt, hg⟩ | ⟨hwt, rfl⟩
      · rw [if_pos hwt]
        refine .inl ?_
        have h3 := hg w hw
        unfold Oper.wp
        generalize (execOp a.eval o).run P w = r at h3 ⊢
        cases r with
        | ok x w' =>
          cases x <;> simp only [growUpon] at h3 <;> simp only [Oper.upon]
          case value u =>
            obtain ⟨e1, e2⟩ := h3
            rw [e1, e2]
            exact ih _ _ F _ hF hw hK
          case skip =>
            obtain ⟨e1, e2⟩ := h3
            rw [e1, ← e2]
            exact ih _ _ F _ hF hw hK
          case enter f' args =>
            obtain ⟨e1, hc⟩ := h3
            rw [e1]
            exact hc.mono fun e w'' ⟨he, hb⟩ => by subst he; exact ih _ _ F _ hF (hF _ _ hw hb) hK
        | halt x w' => simp only [growUpon] at h3
      · rw [if_neg (by simp [hwt])]
        exact ih _ _ F _ hF hw hK
    · rw [if_pos hwt]
      refine .inl ?_
      obtain ⟨v, w', e, hb, hg⟩ := hr w hw
      unfold Oper.wp
      rw [e, Oper.upon_value]
      exact ih _ _ _ _ (stable_and hF (hG v)) ⟨hF _ _ hw hb, hg⟩ (hK v ⟨w', hg⟩)
    · rw [if_pos hwt]
      refine .inl ?_
      obtain ⟨w', e, hf⟩ := hr w hw
      unfold Oper.wp
      rw [e]
      simp only [Oper.upon]
      exact ih _ _ _ _ hS hf hK
    · rw [if_pos hwt]
      refine .inl ?_
      obtain ⟨v, w', e, hf⟩ := hr w hw
      unfold Oper.wp
      rw [e, Oper.upon_value]
      exact ih _ _ _ _ (hS v) hf (hK v ⟨w', hf⟩)

theorem run_mono : ∀ (f : Nat) (done : Array Bool) (a : Act) (F F' : World → Prop), (∀ w, F' w → F w) → Run P md ops Q C f done a F → Run P md ops Q C f done a F' := by
  intro f
  induction f with
  | zero => intro done a F F' hF h; exact ⟨h.1, fun w hw => h.2 w (hF w hw)⟩
  | succ f ih =>
    intro done a F F' hF h
    refine ⟨h.1, fun i hi => ?_⟩
    obtain ⟨o, ho, h⟩ := h.2 i hi
    refine ⟨o, ho, ?_⟩
    rcases h with ⟨v, hq, hK⟩ | ⟨G, ⟨hwt, hG, hr⟩, hK⟩ | ⟨F2, ⟨hwt, hS, hC, hr⟩, hK⟩ | ⟨F2, ⟨hwt, hS, hC, hr⟩, hK⟩
    · exact .inl ⟨v, hq.mono hF, ih _ _ _ _ hF hK⟩
    · exact .inr (.inl ⟨G, ⟨hwt, hG, fun w hw => hr w (hF w hw)⟩, fun v hv => ih _ _ _ _ (fun w hw => ⟨hF w hw.1, hw.2⟩) (hK v hv)⟩)
    · exact .inr (.inr (.inl ⟨F2, ⟨hwt, hS, hC, fun w hw => hr w (hF w hw)⟩, hK⟩))
    · exact .inr (.inr (.inr ⟨F2, ⟨hwt, hS, hC, fun w hw => hr w (hF w hw)⟩, hK⟩))

theorem run_first {i : Nat} {oi : Oper} {v : Value} (hi : ops[i]? = some oi) (hsel : ∀ (j : Nat) (o : Oper) cs b, ops[j]? = some o → o.op ≠ .select cs b) :
    ∀ (f : Nat) (done : Array Bool) (a : Act) (F : World → Prop),
      (∀ j oj, ops[j]? = some oj → j ≠ i → done.getD j true = false → (∀ e ∈ oj.after, Region.binds md e = true → e.on ≠ i) → oi.apart ops oj = true) →
      i ∈ Region.ready md ops done → QuietIn P ops C oi v a → (∀ w, F w → C w) →
      Run P md ops Q C f (done.setIfInBounds i true) (a.put oi.dst v) F → Run P md ops Q C (f + 1) done a F := by
  intro f
  induction f with
  | zero =>
    intro done a F _ hr hy hC H
    refine ⟨List.ne_nil_of_mem hr, fun j hj => ?_⟩
    rcases Nat.decEq j i with h | h
    · have := ready_mono hj h
      rw [H.1] at this
      cases this
    · subst h
      exact ⟨oi, hi, .inl ⟨v, hy.mono hC, H⟩⟩
  | succ f ih =>
    intro done a F free hr hy hC H
    refine ⟨List.ne_nil_of_mem hr, fun j hj => ?_⟩
    rcases Nat.decEq j i with h | h
    · obtain ⟨oj, hoj, HS⟩ := H.2 j (ready_mono hj h)
      obtain ⟨jopen, oj', hoj', hall⟩ := mem_ready.1 hj
      obtain rfl : oj' = oj := Option.some.inj (hoj'.symm.trans hoj)
      have open_ := (mem_ready.1 hr).1
      have waits : ∀ e ∈ oj'.after, Region.binds md e = true → e.on ≠ i := by
        intro e he hb heq
        have := hall e he hb
        rw [heq, getD_both open_] at this
        cases this
      obtain ⟨p1, p2, p3⟩ := Oper.apart_spec (free j oj' hoj h jopen waits)
      have keep : ∀ u, QuietIn P ops C oi v (a.put oj'.dst u) := fun u => hy.of_same (execOp_put oi (fun cs b => hsel i oi cs b hi) a oj'.dst u p3) (wanted_put oi a oj'.dst u p3)
      have free' : ∀ k ok, ops[k]? = some ok → k ≠ i → (done.setIfInBounds j true).getD k true = false → (∀ e ∈ ok.after, Region.binds md e = true → e.on ≠ i) → oi.apart ops ok = true := by
        intro k ok hk hki kopen hno
        refine free k ok hk hki ?_ hno
        rcases Nat.decEq j k with e | e
        · rwa [getD_set_ne true e] at kopen
        · rw [← e]; exact jopen
      have e1 := execOp_put oj' (fun cs b => hsel j oj' cs b hoj) a oi.dst v p1
      have e2 := wanted_put oj' a oi.dst v p1
      refine ⟨oj', hoj, ?_⟩
      rcases HS with ⟨u, hq, hK⟩ | ⟨G, ⟨hwt, hG, hrun⟩, hK⟩ | ⟨F2, ⟨hwt, hS, hC2, hrun⟩, hK⟩ | ⟨F2, ⟨hwt, hS, hC2, hrun⟩, hK⟩
      · refine .inl ⟨u, hq.of_same e1.symm e2.symm, ih _ _ _ free' (ready_mono hr (Ne.symm h)) (keep u) hC ?_⟩
        rw [Act.put_comm a v u p2, Array.setIfInBounds_comm _ _ (Ne.symm h)] at hK
        exact hK
      · refine .inr (.inl ⟨G, ⟨by rw [← e2]; exact hwt, hG, fun w hw => by rw [← e1]; exact hrun w hw⟩, fun u hu => ih _ _ _ free' (ready_mono hr (Ne.symm h)) (keep u) (fun w hw => hC w hw.1) ?_⟩)
        have := hK u hu
        rw [Act.put_comm a v u p2, Array.setIfInBounds_comm _ _ (Ne.symm h)] at this
        exact this
      · refine .inr (.inr (.inl ⟨F2, ⟨by rw [← e2]; exact hwt, hS, hC2, fun w hw => by rw [← e1]; exact hrun w hw⟩, ih _ _ _ free' (ready_mono hr (Ne.symm h)) (keep _) hC2 ?_⟩))
        rw [Act.put_comm a v undef p2, Array.setIfInBounds_comm _ _ (Ne.symm h)] at hK
        exact hK
      · refine .inr (.inr (.inr ⟨F2, ⟨by rw [← e2]; exact hwt, hS, hC2, fun w hw => by rw [← e1]; exact hrun w hw⟩, fun u hu => ih _ _ _ free' (ready_mono hr (Ne.symm h)) (keep _) (hC2 u) ?_⟩))
        have := hK u hu
        rw [Act.put_comm a v u p2, Array.setIfInBounds_comm _ _ (Ne.symm h)] at this
        exact this
    · subst h
      exact ⟨oi, hi, .inl ⟨v, hy.mono hC, H⟩⟩

/-- The first f operations from number k on may be taken in the order of the text. -/
def lexPre (md : Region.Mode) (ops : Array Oper) : Nat → Nat → Array Bool → Bool
  | 0, _, _ => true
  | f + 1, k, listed => (Region.ready md ops listed).contains k && Region.free md ops listed k && lexPre md ops f (k + 1) (listed.setIfInBounds k true)
def markN : Nat → Nat → Array Bool → Array Bool
  | 0, _, d => d
  | f + 1, k, d => markN f (k + 1) (d.setIfInBounds k true)

theorem run_lex {w0 : World} {F : World → Prop} {K : Act → Prop} {g : Nat} (hsel : Region.noSelect ops = true) (hF : ∀ w, F w → Below w0.heap.size w0 w) :
    ∀ (l : List Oper) (k : Nat) (done : Array Bool) (a : Act), (∀ j, j < l.length → l[j]? = ops[k + j]?) → lexPre md ops l.length k done = true →
    (∀ af, K af → Run P md ops Q (fun w => Below w0.heap.size w0 w) g (markN l.length k done) af F) → WalkG P ops w0 K l a → Run P md ops Q (fun w => Below w0.heap.size w0 w) (l.length + g) done a F := by
  intro l
  induction l with
  | nil =>
    intro k done a _ _ hK h
    have := hK a h
    simpa [markN] using this
  | cons o l ih =>
    intro k done a hl hB hK h
    have h0 : ops[k]? = some o := by simpa using (hl 0 (by simp)).symm
    simp only [List.length_cons, lexPre, Bool.and_eq_true] at hB
    have hr : k ∈ Region.ready md ops done := by simpa using hB.1.1
    obtain ⟨v, hy, hW⟩ := h
    rw [show (o :: l).length + g = (l.length + g) + 1 by simp; omega]
    refine run_first h0 (Region.noSelect_spec hsel) _ _ _ _ (Region.free_spec h0 hB.1.2) hr hy hF (ih (k + 1) _ _ ?_ hB.2 hK hW)
    intro j hj
    have := hl (j + 1) (by simp; omega)
    simpa [Nat.add_assoc, Nat.add_comm 1 j] using this

theorem ptr_inj {b c : Nat} (h : ptrTo b = ptrTo c) : b = c := by
  unfold ptrTo at h
  injection h with h
  injection h with h
  injection h with h
theorem run_half {w0 : World} {f m n ta tb : Nat} {za zb : Obj} {om ob : Oper} {done : Array Bool} {a : Act} {F : World → Prop} (hgm : om.guard = none) (hdm : om.dst = some ta) (hn : ops[n]? = some ob) (hgn : ob.guard = none) (hdn : ob.dst = some tb)
    (hal : ∀ (a : Act) (w : World), (execOp a.eval om).run P w = .ok (.value (ptrTo w.heap.size)) (w.alloc za)) (hbl : ∀ (a : Act) (w : World), (execOp a.eval ob).run P w = .ok (.value (ptrTo w.heap.size)) (w.alloc zb))
    (hF : ∀ w, F w → w0.heap.size ≤ w.heap.size) (r2 : Region.ready md ops (done.setIfInBounds m true) = [n])
    (h : ∀ b c, w0.heap.size ≤ b → w0.heap.size ≤ c → b ≠ c → Run P md ops Q C f ((done.setIfInBounds m true).setIfInBounds n true) ((a.put (some ta) (ptrTo b)).put (some tb) (ptrTo c)) (fun w => F w ∧ w.heap[b]? = some za ∧ w.heap[c]? = some zb)) :
    ∃ G, NewIn P ops F om G a ∧ ∀ v, (∃ w, G v w) → Run P md ops Q C (f + 1) (done.setIfInBounds m true) (a.put om.dst v) (fun w => F w ∧ G v w) := by
  have wm : ∀ a : Act, Region.wanted om (yielded ops a.tmps) = true := fun a => by simp [Region.wanted, hgm]
  have wn : ∀ a : Act, Region.wanted ob (yielded ops a.tmps) = true := fun a => by simp [Region.wanted, hgn]
  refine ⟨fun v w => ∃ b, v = ptrTo b ∧ (w0.heap.size ≤ b) ∧ w.heap[b]? = some za, ⟨wm a, fun v w w' h hb => ?_, fun w hw => ⟨_, _, hal a w, (Below.refl _ w).alloc (Nat.le_refl _) za, w.heap.size, rfl, hF w hw, World.alloc_heap_new w za⟩⟩, fun v hv => ?_⟩
  · obtain ⟨b, e, h1, h2⟩ := h
    exact ⟨b, e, h1, (hb.block b (heap_size_lt h2)).trans h2⟩
  obtain ⟨_, b, rfl, hb0, _⟩ := hv
  rw [hdm]
  refine ⟨by rw [r2]; simp, fun j hj => ?_⟩
  rw [r2] at hj
  simp only [List.mem_cons, List.not_mem_nil, or_false] at hj
  subst hj
  refine ⟨ob, hn, .inr (.inl ⟨fun v w => ∃ c, v = ptrTo c ∧ (w0.heap.size ≤ c ∧ b ≠ c) ∧ w.heap[c]? = some zb, ⟨wn _, fun v w w' h hb => ?_, fun w hw => ⟨_, _, hbl _ w, (Below.refl _ w).alloc (Nat.le_refl _) zb, w.heap.size, rfl, ⟨hF w hw.1, ?_⟩, World.alloc_heap_new w zb⟩⟩, fun v hv => ?_⟩)⟩
  · obtain ⟨c, e, h1, h2⟩ := h
    exact ⟨c, e, h1, (hb.block c (heap_size_lt h2)).trans h2⟩
  · obtain ⟨b', e, _, h2⟩ := hw.2
    have := ptr_inj e
    have := heap_size_lt h2
    omega
  obtain ⟨_, c, rfl, ⟨hc0, hbc⟩, _⟩ := hv
  rw [hdn]
  refine run_mono _ _ _ _ _ ?_ (h b c hb0 hc0 hbc)
  rintro w ⟨⟨h1, b', e1, _, h2⟩, c', e2, _, h3⟩
  have eb := ptr_inj e1
  have ec := ptr_inj e2
  subst eb ec
  exact ⟨h1, h2, h3⟩

/-- Two variables are made, in whatever order. -/
theorem run_two {w0 : World} {f m n ta tb : Nat} {za zb : Obj} {om ob : Oper} {done : Array Bool} {a : Act} {F : World → Prop} (hm : ops[m]? = some om) (hgm : om.guard = none) (hdm : om.dst = some ta) (hn : ops[n]? = some ob) (hgn : ob.guard = none) (hdn : ob.dst = some tb) (hab : ta ≠ tb) (hmn : m ≠ n)
    (hal : ∀ (a : Act) (w : World), (execOp a.eval om).run P w = .ok (.value (ptrTo w.heap.size)) (w.alloc za)) (hbl : ∀ (a : Act) (w : World), (execOp a.eval ob).run P w = .ok (.value (ptrTo w.heap.size)) (w.alloc zb))
    (hF : ∀ w, F w → w0.heap.size ≤ w.heap.size)
    (r1 : Region.ready md ops done = [m, n]) (r2 : Region.ready md ops (done.setIfInBounds m true) = [n]) (r3 : Region.ready md ops (done.setIfInBounds n true) = [m])
    (h : ∀ b c, w0.heap.size ≤ b → w0.heap.size ≤ c → b ≠ c → Run P md ops Q C f ((done.setIfInBounds m true).setIfInBounds n true) ((a.put (some ta) (ptrTo b)).put (some tb) (ptrTo c)) (fun w => F w ∧ w.heap[b]? = some za ∧ w.heap[c]? = some zb)) :
    Run P md ops Q C (f + 2) done a F := by
  refine ⟨by rw [r1]; simp, fun i hi => ?_⟩
  rw [r1] at hi
  simp only [List.mem_cons, List.not_mem_nil, or_false] at hi
  rcases hi with rfl | rfl
  · exact ⟨om, hm, .inr (.inl (run_half hgm hdm hn hgn hdn hal hbl hF r2 h))⟩
  · refine ⟨ob, hn, .inr (.inl (run_half hgn hdn hm hgm hdm hbl hal hF r3 fun c b hc hb hcb => ?_))⟩
    have := h b c hb hc (Ne.symm hcb)
    rw [Act.put_comm a _ _ (fun d hd e => by cases hd; exact hab (Option.some.inj e).symm), Array.setIfInBounds_comm _ _ hmn] at this
    exact run_mono _ _ _ _ _ (fun w hw => ⟨hw.1, hw.2.2, hw.2.1⟩) this

/-- Only one operation may come up: it stores. -/
theorem run_store {f i : Nat} {o : Oper} {done : Array Bool} {a : Act} {F : World → Prop} (F' : World → Prop) (hr : Region.ready md ops done = [i]) (ho : ops[i]? = some o) (hg : o.guard = none) (hS : Stable F') (hC : ∀ w, F' w → C w) (hrun : ∀ w, F w → ∃ w', (execOp a.eval o).run P w = .ok .skip w' ∧ F' w')
    (h : Run P md ops Q C f (done.setIfInBounds i true) (a.put o.dst undef) F') : Run P md ops Q C (f + 1) done a F := by
  refine ⟨by rw [hr]; simp, fun j hj => ?_⟩
  rw [hr] at hj
  simp only [List.mem_cons, List.not_mem_nil, or_false] at hj
  subst hj
  exact ⟨o, ho, .inr (.inr (.inl ⟨F', ⟨by simp [Region.wanted, hg], hS, hC, hrun⟩, h⟩))⟩
/-- Only one operation may come up: it reads. -/
theorem run_quiet {f i : Nat} {o : Oper} {done : Array Bool} {a : Act} {F : World → Prop} (v : Value) (hr : Region.ready md ops done = [i]) (ho : ops[i]? = some o) (hg : o.guard = none) (hrun : ∀ w, F w → (execOp a.eval o).run P w = .ok (.value v) w)
    (h : Run P md ops Q C f (done.setIfInBounds i true) (a.put o.dst v) F) : Run P md ops Q C (f + 1) done a F := by
  refine ⟨by rw [hr]; simp, fun j hj => ?_⟩
  rw [hr] at hj
  simp only [List.mem_cons, List.not_mem_nil, or_false] at hj
  subst hj
  exact ⟨o, ho, .inl ⟨v, .inl ⟨by simp [Region.wanted, hg], fun w hw => by rw [hrun w hw]; exact ⟨rfl, rfl⟩⟩, h⟩⟩

/-- An operation that only reads is taken first. -/
theorem run_take {f i : Nat} {o : Oper} {done : Array Bool} {a : Act} {F : World → Prop} (v : Value) (ho : ops[i]? = some o) (hsel : Region.noSelect ops = true) (hf : Region.free md ops done i = true) (hr : (Region.ready md ops done).contains i = true) (hg : o.guard = none) (hC : ∀ w, F w → C w)
    (hrun : ∀ w, C w → (execOp a.eval o).run P w = .ok (.value v) w) (h : Run P md ops Q C f (done.setIfInBounds i true) (a.put o.dst v) F) : Run P md ops Q C (f + 1) done a F :=
  run_first ho (Region.noSelect_spec hsel) f done a F (Region.free_spec ho hf) (by simpa using hr) (.inl ⟨by simp [Region.wanted, hg], fun w hw => by rw [hrun w hw]; exact ⟨rfl, rfl⟩⟩) hC h

/-- Only one operation may come up: it makes a variable. -/
theorem run_alloc {w0 : World} {f i t : Nat} {o : Oper} {z : Obj} {done : Array Bool} {a : Act} {F : World → Prop} (hr : Region.ready md ops done = [i]) (ho : ops[i]? = some o) (hg : o.guard = none) (hd : o.dst = some t) (hal : ∀ (a : Act) (w : World), (execOp a.eval o).run P w = .ok (.value (ptrTo w.heap.size)) (w.alloc z)) (hF : ∀ w, F w → w0.heap.size ≤ w.heap.size)
    (h : ∀ b, w0.heap.size ≤ b → Run P md ops Q C f (done.setIfInBounds i true) (a.put (some t) (ptrTo b)) (fun w => F w ∧ w.heap[b]? = some z)) : Run P md ops Q C (f + 1) done a F := by
  refine ⟨by rw [hr]; simp, fun j hj => ?_⟩
  rw [hr] at hj
  simp only [List.mem_cons, List.not_mem_nil, or_false] at hj
  subst hj
  refine ⟨o, ho, .inr (.inl ⟨fun v w => ∃ b, v = ptrTo b ∧ (w0.heap.size ≤ b) ∧ w.heap[b]? = some z, ⟨by simp [Region.wanted, hg], fun v w w' h hb => ?_, fun w hw => ⟨_, _, hal a w, (Below.refl _ w).alloc (Nat.le_refl _) z, w.heap.size, rfl, hF w hw, World.alloc_heap_new w z⟩⟩, fun v hv => ?_⟩)⟩
  · obtain ⟨b, e, h1, h2⟩ := h
    exact ⟨b, e, h1, (hb.block b (heap_size_lt h2)).trans h2⟩
  obtain ⟨_, b, rfl, hb0, _⟩ := hv
  rw [hd]
  refine run_mono _ _ _ _ _ ?_ (h b hb0)
  rintro w ⟨h1, b', e1, _, h2⟩
  have eb := ptr_inj e1
  subst eb
  exact ⟨h1, h2⟩

/-- What may come up next, one by one. -/
def RunAt (P : Program) (md : Region.Mode) (ops : Array Oper) (Q : Exit → Act → World → Prop) (C : World → Prop) (f : Nat) (done : Array Bool) (a : Act) (F : World → Prop) (i : Nat) : Prop :=
  ∃ o, ops[i]? = some o ∧
      ((∃ v, QuietIn P ops F o v a ∧ Run P md ops Q C f (done.setIfInBounds i true) (a.put o.dst v) F) ∨
       (∃ G, NewIn P ops F o G a ∧ ∀ v, (∃ w, G v w) → Run P md ops Q C f (done.setIfInBounds i true) (a.put o.dst v) (fun w => F w ∧ G v w)) ∨
       (∃ F', StoreIn P ops C F o F' a ∧ Run P md ops Q C f (done.setIfInBounds i true) (a.put o.dst undef) F') ∨
       (∃ F', UpdIn P ops C F o F' a ∧ ∀ v, (∃ w, F' v w) → Run P md ops Q C f (done.setIfInBounds i true) (a.put o.dst v) (F' v)))
theorem run_each {f : Nat} {done : Array Bool} {a : Act} {F : World → Prop} (rs : List Nat) (hr : Region.ready md ops done = rs) (hne : rs ≠ []) (h : ∀ i ∈ rs, RunAt P md ops Q C f done a F i) : Run P md ops Q C (f + 1) done a F := by
  subst hr
  exact ⟨hne, h⟩
theorem at_upd {f i : Nat} {o : Oper} {done : Array Bool} {a : Act} {F : World → Prop} (F' : Value → World → Prop) (ho : ops[i]? = some o) (hg : o.guard = none) (hS : ∀ v, Stable (F' v)) (hC : ∀ v w, F' v w → C w) (hrun : ∀ w, F w → ∃ v w', (execOp a.eval o).run P w = .ok (.value v) w' ∧ F' v w')
    (h : ∀ v, (∃ w, F' v w) → Run P md ops Q C f (done.setIfInBounds i true) (a.put o.dst v) (F' v)) : RunAt P md ops Q C f done a F i :=
  ⟨o, ho, .inr (.inr (.inr ⟨F', ⟨by simp [Region.wanted, hg], hS, hC, hrun⟩, h⟩))⟩
theorem at_quiet {f i : Nat} {o : Oper} {done : Array Bool} {a : Act} {F : World → Prop} (v : Value) (ho : ops[i]? = some o) (hq : QuietIn P ops F o v a) (h : Run P md ops Q C f (done.setIfInBounds i true) (a.put o.dst v) F) : RunAt P md ops Q C f done a F i :=
  ⟨o, ho, .inl ⟨v, hq, h⟩⟩

/-- A call that reads only: out of its walk. -/
theorem quiet_of_walk {F : World → Prop} {o : Oper} {d : Tmp} {v : Value} {a : Act} (hg : o.guard = none) (hd : o.dst = some d) (hs : d < a.tmps.size) (h : ∀ w, F w → ∀ K : Act → Prop, K (a.put (some d) v) → wpQuiet P ops (fun w' => ∃ x : Later w, w' = x.w) K [o] a) : QuietIn P ops F o v a := by
  have hw : Region.wanted o (yielded ops a.tmps) = true := by simp [Region.wanted, hg]
  refine .inl ⟨hw, fun w hF => ?_⟩
  have h1 := h w hF (fun a' => a' = a.put (some d) v) rfl
  simp only [wpQuiet] at h1
  rw [if_pos hw] at h1
  obtain ⟨v', hv, hq⟩ := h1
  have he : v' = v := by
    rw [hd] at hq
    have h2 := congrArg (fun (x : Act) => x.tmps[d]?) hq
    simpa [Act.put, hs] using h2
  subst he
  have h2 := hv w ⟨⟨w, Below.refl _ _⟩, rfl⟩
  unfold Oper.quietAt at h2
  generalize (execOp a.eval o).run P w = r at h2 ⊢
  cases r with
  | ok x w' =>
    cases x <;> simp only [Oper.quietUpon] at h2 <;> simp only [growUpon]
    case value => exact h2
    case skip => exact h2
    case enter f args => exact ⟨h2.1, h2.2.mono fun e w'' ⟨he, y, hy⟩ => ⟨he, hy ▸ y.h⟩⟩
  | halt x w' => simp only [Oper.quietUpon] at h2

/-- The beginning: the first m operations only read, or call what leaves old memory alone. -/
theorem wp_region_run0 {id : Nat} {a : Act} {w : World} {l : List Oper} (hmo : P.follows .mixedOrders = true)
    (h : Run P .any l.toArray Q (fun x => Below w.heap.size w x) l.length (Array.replicate l.toArray.size false) a (fun x => Below w.heap.size w x)) : (Code.region id l.toArray true).wp P Q a w :=
  wp_region_any hmo (by
    rw [show l.toArray.size = l.length by simp] at *
    exact run_any _ _ _ _ _ (stable_below w) ((Below.refl _ w).drew) h)
theorem wp_region_run {id : Nat} {a : Act} {w : World} {l : List Oper} (m s : Nat) (hmo : P.follows .mixedOrders = true) (hsel : Region.noSelect l.toArray = true) (hB : lexPre .any l.toArray m 0 (Array.replicate l.toArray.size false) = true) (hm : m ≤ l.length) (hown : ownDst s (l.take m) = true) (hs : a.tmps.size = s)
    (h : ∃ af, (∀ w1, Below w.heap.size w w1 → ∀ K : Act → Prop, K af → wpQuiet P l.toArray (fun w' => ∃ x : Later w1, w' = x.w) K (l.take m) a) ∧
      Run P .any l.toArray Q (fun x => Below w.heap.size w x) (l.length - m) (markN m 0 (Array.replicate l.toArray.size false)) af (fun x => Below w.heap.size w x)) :
    (Code.region id l.toArray true).wp P Q a w := by
  obtain ⟨af, h1, h2⟩ := h
  refine wp_region_any hmo ?_
  have htl : (l.take m).length = m := by simp; omega
  have hW := walkG_of (K := fun a' => a' = af) rfl (l.take m) a hs hown (fun w1 hb => h1 w1 hb (fun a' => a' = af) rfl)
  have key := run_lex (md := .any) (Q := Q) (F := fun x => Below w.heap.size w x) (K := fun a' => a' = af) (g := l.length - m) hsel (fun _ h => h) (l.take m) 0 (Array.replicate l.toArray.size false) a (fun j hj => by
    rw [htl] at hj
    simp [hj]) (by rw [htl]; exact hB) (fun a' ha => by rw [ha, htl]; exact h2) hW
  rw [htl, show m + (l.length - m) = l.toArray.size by simp; omega] at key
  exact run_any _ _ _ _ _ (stable_below w) ((Below.refl _ w).drew) key
end

end Go.Proofs.YtbjgbgchagfokaaGreat

namespace Go.Proofs.YtbjgbgchagfokaaGreat
open Go Go.RowKit

section
variable {P : Program} {ops : Array Oper} {md : Region.Mode} {Q : Exit → Act → World → Prop} {C : World → Prop}

/-- Something new is made, which is named by a value; it is none of what is there. -/
theorem at_make {w0 : World} {f i t : Nat} {o : Oper} {z : Obj} {done : Array Bool} {a : Act} {F : World → Prop} (va : Nat → Value) (X : Nat → Prop) (inj : ∀ b c, va b = va c → b = c) (ho : ops[i]? = some o) (hg : o.guard = none) (hd : o.dst = some t)
    (hal : ∀ w, F w → (execOp a.eval o).run P w = .ok (.value (va w.heap.size)) (w.alloc z)) (hF : ∀ w, F w → w0.heap.size ≤ w.heap.size) (hX : ∀ w, F w → ∀ k, X k → k < w.heap.size)
    (h : ∀ b, w0.heap.size ≤ b → ¬ X b → Run P md ops Q C f (done.setIfInBounds i true) (a.put (some t) (va b)) (fun w => F w ∧ w.heap[b]? = some z)) : RunAt P md ops Q C f done a F i := by
  refine ⟨o, ho, .inr (.inl ⟨fun v w => ∃ b, v = va b ∧ (w0.heap.size ≤ b ∧ ¬ X b) ∧ w.heap[b]? = some z, ⟨by simp [Region.wanted, hg], fun v w w' h hb => ?_, fun w hw => ⟨_, _, hal w hw, (Below.refl _ w).alloc (Nat.le_refl _) z, w.heap.size, rfl, ⟨hF w hw, fun hx => Nat.lt_irrefl _ (hX w hw _ hx)⟩, World.alloc_heap_new w z⟩⟩, fun v hv => ?_⟩)⟩
  · obtain ⟨b, e, h1, h2⟩ := h
    exact ⟨b, e, h1, (hb.block b (heap_size_lt h2)).trans h2⟩
  obtain ⟨_, b, rfl, ⟨hb0, hbX⟩, _⟩ := hv
  rw [hd]
  refine run_mono _ _ _ _ _ ?_ (h b hb0 hbX)
  rintro w ⟨h1, b', e1, _, h2⟩
  have eb := inj _ _ e1
  subst eb
  exact ⟨h1, h2⟩
/-- Only one operation may come up. -/
theorem run_only {f i : Nat} {done : Array Bool} {a : Act} {F : World → Prop} (hr : Region.ready md ops done = [i]) (h : RunAt P md ops Q C f done a F i) : Run P md ops Q C (f + 1) done a F :=
  run_each [i] hr (by simp) (fun j hj => by rw [List.mem_singleton] at hj; rw [hj]; exact h)
/-- One of two operations comes up. -/
theorem run_both {f i j : Nat} {done : Array Bool} {a : Act} {F : World → Prop} (hr : Region.ready md ops done = [i, j]) (h1 : RunAt P md ops Q C f done a F i) (h2 : RunAt P md ops Q C f done a F j) : Run P md ops Q C (f + 1) done a F :=
  run_each [i, j] hr (by simp) (fun k hk => by
    simp only [List.mem_cons, List.not_mem_nil, or_false] at hk
    rcases hk with rfl | rfl
    · exact h1
    · exact h2)
theorem slice_inj {n c : Nat} : ∀ b1 b2 : Nat, Value.slice (some ⟨b1, 0, none⟩) n c = Value.slice (some ⟨b2, 0, none⟩) n c → b1 = b2 := fun b1 b2 h => by
  injection h with h
  injection h with h
  injection h with h
theorem ptrTo_inj : ∀ b1 b2 : Nat, ptrTo b1 = ptrTo b2 → b1 = b2 := fun _ _ h => ptr_inj h
theorem stable_two {w0 : World} {b : Nat} {z : Obj} : Stable (fun w => Below w0.heap.size w0 w ∧ w.heap[b]? = some z) := fun _ _ h hb => ⟨h.1.trans (hb.mono h.1.size), (hb.block b (heap_size_lt h.2)).trans h.2⟩

end

end Go.Proofs.YtbjgbgchagfokaaGreat

namespace Go.Proofs.YtbjgbgchagfokaaGreat
open Go Go.RowKit Go.Shelf

section
variable {P : Program} {Q : Exit → Act → World → Prop} {C : World → Prop}
/-- The beginning, whatever is known. -/
theorem wp_region_runF {id : Nat} {a : Act} {w : World} {l : List Oper} (F : World → Prop) (hmo : P.follows .mixedOrders = true) (hF : Stable F) (h0 : F w) (h : Run P .any l.toArray Q C l.length (Array.replicate l.toArray.size false) a F) : (Code.region id l.toArray true).wp P Q a w :=
  wp_region_any hmo (by
    rw [show l.toArray.size = l.length by simp] at *
    exact run_any _ _ _ _ _ hF (hF _ _ h0 ((Below.refl _ w).drew)) h)
theorem quiet_read {ops : Array Oper} {F : World → Prop} {o : Oper} {v : Value} {a : Act} (hg : o.guard = none) (hrun : ∀ w, F w → (execOp a.eval o).run P w = .ok (.value v) w) : QuietIn P ops F o v a :=
  .inl ⟨by simp [Region.wanted, hg], fun w hw => by rw [hrun w hw]; exact ⟨rfl, rfl⟩⟩
theorem exec_app {o : Oper} {a : Act} (s x : Operand) (t : TypeId) (ho : o.op = .call { callee := .builtin .append, args := #[s, x], argTypes := #[t, t] }) (v u : Value) (hs : a.eval s = v) (hx : a.eval x = u) {w w' : World} {r : Value}
    (hr : (Builtin.append_ #[t, t] o.type #[v, u]).run P w = .ok r w') : (execOp a.eval o).run P w = .ok (.value r) w' := by
  unfold execOp
  simp only [ho, resolve, invoke, builtin, Sem.run_bind, Sem.run_pure, Result.andThen_ok, List.map_toArray, List.map_cons, List.map_nil, hs, hx, hr]
end

/-- The cells of wants. -/
def wCells (h : Nat → W2) : Nat → List Value
  | 0 => []
  | k + 1 => wCells h k ++ [.int .i64 (h k).s, .int .i64 (h k).m]
theorem wCells_len (h : Nat → W2) : ∀ n, (wCells h n).length = n * 2
  | 0 => rfl
  | n + 1 => by rw [wCells, List.length_append, wCells_len h n]; simp; omega
theorem wCells_get (h : Nat → W2) (i : Nat) : ∀ n, i < n → (wCells h n)[i * 2]? = some (.int .i64 (h i).s) ∧ (wCells h n)[i * 2 + 1]? = some (.int .i64 (h i).m)
  | 0, hi => absurd hi (Nat.not_lt_zero _)
  | n + 1, hi => by
    have hl := wCells_len h n
    by_cases e : i = n
    · subst e
      constructor
      · rw [wCells, List.getElem?_append_right (by omega), hl, Nat.sub_self]; rfl
      · rw [wCells, List.getElem?_append_right (by omega), hl, show i * 2 + 1 - i * 2 = 1 by omega]; rfl
    · have ih := wCells_get h i n (by omega)
      constructor
      · rw [wCells, List.getElem?_append_left (by omega)]; exact ih.1
      · rw [wCells, List.getElem?_append_left (by omega)]; exact ih.2
def OwnW (A : World) (B : Nat) (h : Nat → W2) (n : Nat) (v : Value) : Prop := A.ownsRow B 77 2 v n (wCells h n)
theorem OwnW.below {A A' : World} {B n : Nat} {h : Nat → W2} {v : Value} (ho : OwnW A B h n v) (hb : Below A.heap.size A A') : OwnW A' B h n v := by
  obtain ⟨h1, h2⟩ := ho
  refine ⟨h1, ?_⟩
  rcases h2 with h2 | ⟨g, cap, cur, hv, hB, hg, h3⟩
  · exact .inl h2
  · exact .inr ⟨g, cap, cur, hv, hB, (hb.block g (Array.getElem?_eq_some_iff.1 hg).1).trans hg, h3⟩
theorem OwnW.wants {A : World} {B n : Nat} {h : Nat → W2} {v : Value} (ho : OwnW A B h n v) : ∃ p cap, v = .slice p n cap ∧ Wants A p n h := by
  rcases ho.2 with ⟨hv, h0⟩ | ⟨g, cap, cur, hv, hB, hg, h1, h2, h3, h4⟩
  · subst h0
    exact ⟨none, 0, hv, .inl rfl⟩
  · subst hv
    refine ⟨_, _, rfl, .inr ⟨g, 0, rfl, (Array.getElem?_eq_some_iff.1 hg).1, fun i hi => ?_⟩⟩
    have hc : ∀ o, o < n * 2 → A.cell? ⟨g, o, none⟩ = (wCells h n)[o]? := fun o ho => by
      simp only [World.cell?, hg]
      rw [← h4, List.getElem?_take]
      simp [ho]
    obtain ⟨g1, g2⟩ := wCells_get h i n hi
    exact ⟨by rw [Nat.zero_add, hc _ (by omega), g1], by rw [Nat.zero_add, hc _ (by omega), g2]⟩
theorem OwnW.lt {A : World} {B n g : Nat} {h : Nat → W2} {v : Value} (ho : OwnW A B h n v) (hv : v.ownBlock = some g) : B ≤ g := by
  rcases ho.2 with ⟨e, _⟩ | ⟨g', cap, cur, e, hB, _⟩
  · subst e; cases hv
  · subst e
    have : g' = g := by simpa [Value.ownBlock] using hv
    omega
theorem OwnW.congr {A : World} {B n : Nat} {h k : Nat → W2} {v : Value} (ho : OwnW A B h n v) (e : ∀ i, i < n → h i = k i) : OwnW A B k n v := by
  have : wCells h n = wCells k n := by
    clear ho
    induction n with
    | zero => rfl
    | succ n ih => rw [wCells, wCells, ih fun i hi => e i (by omega), e n (by omega)]
  unfold OwnW
  rw [← this]
  exact ho
theorem OwnW.keep {A A' : World} {B n : Nat} {h : Nat → W2} {v : Value} (ho : OwnW A B h n v) (hk : ∀ g, v.ownBlock = some g → A'.heap[g]? = A.heap[g]?) : OwnW A' B h n v := by
  obtain ⟨h1, h2⟩ := ho
  refine ⟨h1, ?_⟩
  rcases h2 with h2 | ⟨g, cap, cur, e, hb, hg, hr⟩
  · exact .inl h2
  · subst e
    exact .inr ⟨g, cap, cur, rfl, hb, (hk g rfl).trans hg, hr⟩

theorem infoWant : (Tryz.prog.info? 77).map (fun i => (i.zero, i.size, i.bytes)) = some (some (.agg #[.int .i64 0, .int .i64 0]), 2, 16) := by kernel_rfl
/-- One more want is appended. -/
theorem OwnW.append {A : World} {B n d : Nat} {h : Nat → W2} {v : Value} (ho : OwnW A B h n v) (hd : RowIs A d #[.int .i64 (h n).s, .int .i64 (h n).m] 77) (hB : B ≤ A.heap.size) (hn : n ≤ 1048576) :
    ∃ v' A', (Builtin.append_ #[22, 22] 22 #[v, .slice (some ⟨d, 0, none⟩) 1 1]).run Tryz.prog A = .ok v' A' ∧ OwnW A' B h (n + 1) v' ∧ A.grownBy A' v.ownBlock := by
  obtain ⟨i0, hi, hi0, hi1, hi2⟩ := info_parts infoWant
  obtain ⟨v', w', hrun, h1, h2, _⟩ := run_append_own_at (P := Tryz.prog) A B 22 22 77 i0 _ 2 16 Tryz.underlying22 hi hi0 hi1 hi2 rfl (by decide) v n (wCells h n) ho ⟨d, 0, none⟩ 1 1 [.int .i64 (h n).s, .int .i64 (h n).m] rfl (World.news_of_block (cs := #[.int .i64 (h n).s, .int .i64 (h n).m]) hd) (by simp [Value.oneCell']) (by unfold maxLen; omega) (by omega) hB
  exact ⟨v', w', hrun, h1, h2⟩

abbrev pairW (g : Nat → Int) (i : Nat) : W2 := ⟨g (2 * i), g (2 * i + 1)⟩

set_option maxRecDepth 100000 in
set_option maxHeartbeats 16000000 in
theorem Book_c (S M : Int) (xa : Option Addr) (m xcap : Nat) (g : Nat → Int) (w : World) (hx : Ints w xa m g) (hm : m ≤ 1000) :
    Calls Tryz.prog 40 #[.int .i64 S, .int .i64 M, .slice xa m xcap] w fun e w' => ∃ p cap, e = .returned (bookV S M p (m / 2) cap) ∧ Wants w' p (m / 2) (pairW g) ∧ Below w.heap.size w w' := by
  obtain ⟨W, hW⟩ : ∃ W, w.alloc (.cells #[.int .i64 0, .int .i64 0, .slice none 0 0] 24) = W := ⟨_, rfl⟩
  have hWb : Below w.heap.size w W := by rw [← hW]; exact Below.alloc1 (Below.refl _ _) _ (Nat.le_refl _)
  have hWr : RowIs W w.heap.size #[.int .i64 0, .int .i64 0, .slice none 0 0] 24 := by rw [← hW]; exact heap_new_at _ _ _ rfl
  have hWz : W.heap.size = w.heap.size + 1 := by rw [← hW]; simp
  obtain ⟨V, hV⟩ : ∃ V, W.alloc (.cells #[.int .i64 0, .int .i64 0, .slice none 0 0] 24) = V := ⟨_, rfl⟩
  have hVb : Below W.heap.size W V := by rw [← hV]; exact Below.alloc1 (Below.refl _ _) _ (Nat.le_refl _)
  have hVr : RowIs V W.heap.size #[.int .i64 0, .int .i64 0, .slice none 0 0] 24 := by rw [← hV]; exact heap_new_at _ _ _ rfl
  have hVz : V.heap.size = w.heap.size + 2 := by rw [← hV]; simp [hWz]
  obtain ⟨U, hU⟩ : ∃ U, ((V.setCell ⟨W.heap.size, 0, none⟩ (.int .i64 S)).setCell ⟨W.heap.size, 1, none⟩ (.int .i64 M)).setCell ⟨W.heap.size, 2, none⟩ (.slice none 0 0) = U := ⟨_, rfl⟩
  have hUr : RowIs U W.heap.size #[.int .i64 S, .int .i64 M, .slice none 0 0] 24 := by
    rw [← hU]
    exact RowIs.set (RowIs.set (RowIs.set hVr 0 (.int .i64 S)) 1 (.int .i64 M)) 2 (.slice none 0 0)
  have hUb : Below W.heap.size V U := by rw [← hU]; exact (((Below.refl _ V).setCell (p := ⟨W.heap.size, 0, none⟩) (Nat.le_refl _) _).setCell (p := ⟨W.heap.size, 1, none⟩) (Nat.le_refl _) _).setCell (p := ⟨W.heap.size, 2, none⟩) (Nat.le_refl _) _
  have hUz : U.heap.size = w.heap.size + 2 := by rw [← hU]; simp [hVz]
  have z0 : V.cell? ⟨W.heap.size, 0, none⟩ = some (.int .i64 0) := hVr.cell 0
  have z1 : V.cell? ⟨W.heap.size, 1, none⟩ = some (.int .i64 0) := hVr.cell 1
  have z2 : V.cell? ⟨W.heap.size, 2, none⟩ = some (.slice none 0 0) := hVr.cell 2
  have y0 := hVr.frozen 0
  have y1 := hVr.frozen 1
  have y2 := hVr.frozen 2
  have hU0 : RowIs U w.heap.size #[.int .i64 0, .int .i64 0, .slice none 0 0] 24 := (hUb.block _ (by omega)).trans ((hVb.block _ (by omega)).trans hWr)
  have hBU : Below w.heap.size w U := hWb.trans ((hVb.mono (by omega)).trans (hUb.mono (by omega)))
  have HU0 := Lib.hid hU0
  have HUr := Lib.hid hUr
  have HBU := Lib.hid hBU
  have Hx := Lib.hid hx
  have HUz := Lib.hid hUz
  have HWz := Lib.hid hWz
  clear hWb hWr hWz hVb hVr hVz hUr hUb hUz hU0 hBU hx
  go_enter Tryz.func40, Tryz.ntmps40
  go_wp2_with fail
  obtain ⟨b, hb⟩ : ∃ b, W.heap.size = b := ⟨_, rfl⟩
  rw [hb] at HUr ⊢
  have hbz : b = w.heap.size + 1 := by rw [← hb, HWz.out]
  clear hb hU hV hW z0 z1 z2 y0 y1 y2
  go_loopw [8] (fun v wr => ∃ j k : Nat, k = 2 * j ∧ k ≤ m ∧ v = .int .i64 (k : Int) ∧ ∃ u, RowIs wr b #[.int .i64 S, .int .i64 M, u] 24 ∧ OwnW wr (w.heap.size + 2) (pairW g) j u ∧ RowIs wr w.heap.size #[.int .i64 0, .int .i64 0, .slice none 0 0] 24 ∧ Below w.heap.size w wr ∧ w.heap.size + 2 ≤ wr.heap.size) (fun v _ => m - (intOf v).toNat)
  case atStart => exact ⟨0, 0, rfl, by omega, rfl, _, HUr.out, World.ownsRow_nil _ _ _ _, HU0.out, HBU.out, Nat.le_of_eq HUz.out.symm⟩
  case round =>
    obtain ⟨j, k, hkj, hj, rfl, u, hr, ho, h0, hB, hz⟩ := hrel
    clear HUr HU0 HBU
    have hw1 : IntKind.i64.wrap ((k : Int) + 1) = (k : Int) + 1 := IntWalk.i64_in _ (by omega)
    have hw2 : IntKind.i64.wrap ((k : Int) + 2) = (k : Int) + 2 := IntWalk.i64_in _ (by omega)
    have Hr := Lib.hid hr
    have Ho := Lib.hid ho
    have H0 := Lib.hid h0
    have HB := Lib.hid hB
    have Hkj := Lib.hid hkj
    have zb := hr.lt
    by_cases hlt : k + 1 < m
    · obtain ⟨xb, xo, rfl, hxb, hc⟩ := Cells.at Hx.out k (by omega)
      have x00 : w.cell? ⟨xb, xo + k, none⟩ = some (.int .i64 (g k)) := hc _ (by omega)
      have x10 : w.cell? ⟨xb, xo + (k + 1), none⟩ = some (.int .i64 (g (k + 1))) := hc _ hlt
      have tt : decide ((k : Int) + 1 < (m : Int)) = true := by simp; omega
      have hkm : k < m := by omega
      have b1 : w.heap.size + 2 ≤ wr.heap.size := hz
      obtain ⟨up, uc, rfl, -⟩ := ho.wants
      clear hr ho h0 hB hc hkj
      go_wp2_with fail
      have hRd : ∀ x, Below w.heap.size w x → x.cell? ⟨xb, xo + k, none⟩ = some (.int .i64 (g k)) ∧ x.cell? ⟨xb, xo + (k + 1), none⟩ = some (.int .i64 (g (k + 1))) := fun x hx => ⟨(hx.cell (p := ⟨xb, xo + k, none⟩) hxb).trans x00, (hx.cell (p := ⟨xb, xo + (k + 1), none⟩) hxb).trans x10⟩
      have hFC : ∀ x, Below wr.heap.size wr x → Below w.heap.size w x := fun x hx => HB.out.trans (hx.mono HB.out.size)
      have hpw : (pairW g j).s = g k ∧ (pairW g j).m = g (k + 1) := by rw [Hkj.out]; exact ⟨rfl, rfl⟩
      have Hpw := Lib.hid hpw
      have fin : ∀ (bb : Nat) (y : World), Below wr.heap.size wr y → y.heap[bb]? = some (.cells #[.int .i64 (g k), .int .i64 (g (k + 1))] 77 (0, 0)) → ∃ v y', (Builtin.append_ #[22, 22] 22 #[.slice up j uc, .slice (some ⟨bb, 0, none⟩) 1 1]).run Tryz.prog y = .ok v y' ∧ RowIs y' b #[.int .i64 S, .int .i64 M, .slice up j uc] 24 ∧ OwnW y' (w.heap.size + 2) (pairW g) (j + 1) v ∧ RowIs y' w.heap.size #[.int .i64 0, .int .i64 0, .slice none 0 0] 24 ∧ Below w.heap.size w y' ∧ w.heap.size + 2 ≤ y'.heap.size := fun bb y hy1 hy2 => by
        have hOy := Ho.out.below hy1
        obtain ⟨v, y', hrun, ho', hgr⟩ := hOy.append (d := bb) (by rw [Hpw.out.1, Hpw.out.2]; exact hy2) (Nat.le_trans b1 hy1.size) (by have := Hkj.out; omega)
        have hlo : ∀ q, q < w.heap.size + 2 → (Value.slice up j uc).ownBlock ≠ some q := fun q hq e => by have := Ho.out.lt e; omega
        have hst : ∀ q, q < y.heap.size → (Value.slice up j uc).ownBlock ≠ some q → y'.heap[q]? = y.heap[q]? := fun q hq hn => hgr.block q hq (Ne.symm hn)
        have hBy := hFC y hy1
        exact ⟨v, y', hrun, (hst _ (by have := hy1.size; omega) (hlo _ (by omega))).trans (Hr.out.below hy1), ho', (hst _ (by have := hy1.size; omega) (hlo _ (by omega))).trans (H0.out.below hy1), ⟨hgr.os.trans hBy.os, hgr.tape.trans hBy.tape, hgr.output.trans hBy.output, Nat.le_trans hBy.size hgr.size, fun q hq => (hst q (by have := hBy.size; omega) (hlo q (by omega))).trans (hBy.block q hq)⟩, Nat.le_trans (Nat.le_trans b1 hy1.size) hgr.size⟩
      clear hpw
      refine wp_region_runF (C := fun x => Below w.heap.size w x) (fun x => Below wr.heap.size wr x) (by kernel_rfl) (stable_below wr) (Below.refl _ _) ?_
      change Run _ _ _ _ _ 16 _ _ _
      refine run_take (i := 0) (.pointer (some ⟨b, 2, none⟩)) rfl (by kernel_rfl) (by kernel_rfl) (by kernel_rfl) rfl hFC (fun y hy => by obtain ⟨q0, q1⟩ := hRd y hy; go_simp) ?_
      simp only [Act.put, List.getElem_toArray, List.getElem_cons_zero, List.setIfInBounds_toArray, List.set_cons_zero, List.set_cons_succ]
      refine run_take (i := 2) (.slice (some ⟨xb, xo, none⟩) m xcap) rfl (by kernel_rfl) (by kernel_rfl) (by kernel_rfl) rfl hFC (fun y hy => by obtain ⟨q0, q1⟩ := hRd y hy; go_simp) ?_
      simp only [Act.put, List.getElem_toArray, List.getElem_cons_zero, List.getElem_cons_succ, List.setIfInBounds_toArray, List.set_cons_zero, List.set_cons_succ]
      refine run_take (i := 3) (.int .i64 (k : Int)) rfl (by kernel_rfl) (by kernel_rfl) (by kernel_rfl) rfl hFC (fun y hy => by obtain ⟨q0, q1⟩ := hRd y hy; go_simp) ?_
      simp only [Act.put, List.getElem_toArray, List.getElem_cons_zero, List.getElem_cons_succ, List.setIfInBounds_toArray, List.set_cons_zero, List.set_cons_succ]
      refine run_take (i := 4) (.pointer (some ⟨xb, xo + k, none⟩)) rfl (by kernel_rfl) (by kernel_rfl) (by kernel_rfl) rfl hFC (fun y hy => by obtain ⟨q0, q1⟩ := hRd y hy; go_simp) ?_
      simp only [Act.put, List.getElem_toArray, List.getElem_cons_zero, List.getElem_cons_succ, List.setIfInBounds_toArray, List.set_cons_zero, List.set_cons_succ]
      refine run_take (i := 5) (.int .i64 (g k)) rfl (by kernel_rfl) (by kernel_rfl) (by kernel_rfl) rfl hFC (fun y hy => by obtain ⟨q0, q1⟩ := hRd y hy; go_simp) ?_
      simp only [Act.put, List.getElem_toArray, List.getElem_cons_zero, List.getElem_cons_succ, List.setIfInBounds_toArray, List.set_cons_zero, List.set_cons_succ]
      refine run_take (i := 6) (.slice (some ⟨xb, xo, none⟩) m xcap) rfl (by kernel_rfl) (by kernel_rfl) (by kernel_rfl) rfl hFC (fun y hy => by obtain ⟨q0, q1⟩ := hRd y hy; go_simp) ?_
      simp only [Act.put, List.getElem_toArray, List.getElem_cons_zero, List.getElem_cons_succ, List.setIfInBounds_toArray, List.set_cons_zero, List.set_cons_succ]
      refine run_take (i := 7) (.int .i64 (k : Int)) rfl (by kernel_rfl) (by kernel_rfl) (by kernel_rfl) rfl hFC (fun y hy => by obtain ⟨q0, q1⟩ := hRd y hy; go_simp) ?_
      simp only [Act.put, List.getElem_toArray, List.getElem_cons_zero, List.getElem_cons_succ, List.setIfInBounds_toArray, List.set_cons_zero, List.set_cons_succ]
      refine run_take (i := 8) (.int .i64 ((k : Int) + 1)) rfl (by kernel_rfl) (by kernel_rfl) (by kernel_rfl) rfl hFC (fun y hy => by obtain ⟨q0, q1⟩ := hRd y hy; go_simp) ?_
      simp only [Act.put, List.getElem_toArray, List.getElem_cons_zero, List.getElem_cons_succ, List.setIfInBounds_toArray, List.set_cons_zero, List.set_cons_succ]
      refine run_take (i := 9) (.pointer (some ⟨xb, xo + (k + 1), none⟩)) rfl (by kernel_rfl) (by kernel_rfl) (by kernel_rfl) rfl hFC (fun y hy => by go_simp; intro h; exact absurd (h (by omega)) (by omega)) ?_
      simp only [Act.put, List.getElem_toArray, List.getElem_cons_zero, List.getElem_cons_succ, List.setIfInBounds_toArray, List.set_cons_zero, List.set_cons_succ]
      refine run_take (i := 10) (.int .i64 (g (k + 1))) rfl (by kernel_rfl) (by kernel_rfl) (by kernel_rfl) rfl hFC (fun y hy => by obtain ⟨q0, q1⟩ := hRd y hy; go_simp) ?_
      simp only [Act.put, List.getElem_toArray, List.getElem_cons_zero, List.getElem_cons_succ, List.setIfInBounds_toArray, List.set_cons_zero, List.set_cons_succ]
      refine run_take (i := 11) (.agg #[.int .i64 (g k), .int .i64 (g (k + 1))]) rfl (by kernel_rfl) (by kernel_rfl) (by kernel_rfl) rfl hFC (fun y hy => by obtain ⟨q0, q1⟩ := hRd y hy; go_simp) ?_
      simp only [Act.put, List.getElem_toArray, List.getElem_cons_zero, List.getElem_cons_succ, List.setIfInBounds_toArray, List.set_cons_zero, List.set_cons_succ]
      refine run_both (i := 1) (j := 12) (by kernel_rfl) ?_ ?_
      · refine at_quiet (.slice up j uc) rfl (quiet_read rfl (fun y hy => ?_)) ?_
        · have c2 : y.cell? ⟨b, 2, none⟩ = some (.slice up j uc) := (Hr.out.below hy).cell 2
          clear hbz
          go_simp
        simp only [Act.put, List.getElem_toArray, List.getElem_cons_zero, List.getElem_cons_succ, List.setIfInBounds_toArray, List.set_cons_zero, List.set_cons_succ]
        refine run_only (i := 12) (by kernel_rfl) (at_make (w0 := wr) (t := 31) (z := .cells #[.int .i64 (g k), .int .i64 (g (k + 1))] 77 (0, 0)) (fun q => .slice (some ⟨q, 0, none⟩) 1 1) (fun _ => False) slice_inj rfl rfl rfl (fun y _ => by go_simp) (fun y h => h.size) (fun _ _ _ h => h.elim) ?_)
        intro bb hbb _
        simp only [Act.put, List.setIfInBounds_toArray, List.set_cons_zero, List.set_cons_succ]
        refine run_only (i := 13) (by kernel_rfl) (at_upd (fun v y => RowIs y b #[.int .i64 S, .int .i64 M, .slice up j uc] 24 ∧ OwnW y (w.heap.size + 2) (pairW g) (j + 1) v ∧ RowIs y w.heap.size #[.int .i64 0, .int .i64 0, .slice none 0 0] 24 ∧ Below w.heap.size w y ∧ w.heap.size + 2 ≤ y.heap.size) rfl rfl (fun v y y1 h hb => ⟨h.1.below hb, h.2.1.below hb, h.2.2.1.below hb, h.2.2.2.1.trans (hb.mono h.2.2.2.1.size), Nat.le_trans h.2.2.2.2 hb.size⟩) (fun v y h => h.2.2.2.1) (fun y hy => ?_) ?_)
        · obtain ⟨v, y', hrun, h3⟩ := fin bb y hy.1 hy.2
          exact ⟨v, y', exec_app _ _ _ rfl _ _ rfl rfl hrun, h3⟩
        intro v hv
        simp only [Act.put, List.getElem_toArray, List.getElem_cons_zero, List.getElem_cons_succ, List.setIfInBounds_toArray, List.set_cons_zero, List.set_cons_succ]
        refine run_quiet (i := 14) (.pointer (some ⟨b, 2, none⟩)) (by kernel_rfl) rfl rfl (fun y _ => by go_simp) ?_
        simp only [Act.put, List.getElem_toArray, List.getElem_cons_zero, List.getElem_cons_succ, List.setIfInBounds_toArray, List.set_cons_zero, List.set_cons_succ]
        refine run_store (i := 15) (fun y => RowIs y b #[.int .i64 S, .int .i64 M, v] 24 ∧ OwnW y (w.heap.size + 2) (pairW g) (j + 1) v ∧ RowIs y w.heap.size #[.int .i64 0, .int .i64 0, .slice none 0 0] 24 ∧ Below w.heap.size w y ∧ w.heap.size + 2 ≤ y.heap.size) (by kernel_rfl) rfl rfl (fun y y1 h hb => ⟨h.1.below hb, h.2.1.below hb, h.2.2.1.below hb, h.2.2.2.1.trans (hb.mono h.2.2.2.1.size), Nat.le_trans h.2.2.2.2 hb.size⟩) (fun y h => h.2.2.2.1) (fun y hy => ?_) ?_
        · obtain ⟨h1, h2, h3, h4, h5⟩ := hy
          obtain ⟨vp, vc, rfl, -⟩ := h2.wants
          have c2 : y.cell? ⟨b, 2, none⟩ = some (.slice up j uc) := h1.cell 2
          have f2 := h1.frozen 2
          refine ⟨y.setCell ⟨b, 2, none⟩ (.slice vp (j + 1) vc), by clear hbz; go_simp, RowIs.set h1 2 _, h2.keep fun q hq => Below.heap_setCell _ _ _ _ (by have := h2.lt hq; show q ≠ b; omega), (Below.heap_setCell _ _ _ _ (by show w.heap.size ≠ b; omega)).trans h3, h4.setCell (p := ⟨b, 2, none⟩) (by show w.heap.size ≤ b; omega) _, by simpa using h5⟩
        simp only [Act.put, List.getElem_toArray, List.getElem_cons_zero, List.getElem_cons_succ]
        refine ⟨by kernel_rfl, fun y hy => ?_⟩
        obtain ⟨h1, h2, h3, h4, h5⟩ := hy
        have G1 := Lib.hid h1
        have G2 := Lib.hid h2
        have G3 := Lib.hid h3
        have G4 := Lib.hid h4
        clear h1 h2 h3 h4
        go_wp2_with fail
        go_roundw
        case rel => exact ⟨j + 1, k + 2, by have := Hkj.out; omega, by omega, by go_num, v, G1.out, G2.out, G3.out, G4.out, h5⟩
        case measure => simp [intOf]; omega
      · refine at_make (w0 := wr) (t := 31) (z := .cells #[.int .i64 (g k), .int .i64 (g (k + 1))] 77 (0, 0)) (fun q => .slice (some ⟨q, 0, none⟩) 1 1) (fun _ => False) slice_inj rfl rfl rfl (fun y _ => by go_simp) (fun y h => h.size) (fun _ _ _ h => h.elim) ?_
        intro bb hbb _
        simp only [Act.put, List.setIfInBounds_toArray, List.set_cons_zero, List.set_cons_succ]
        refine run_quiet (i := 1) (.slice up j uc) (by kernel_rfl) rfl rfl (fun y hy => by
          have c2 : y.cell? ⟨b, 2, none⟩ = some (.slice up j uc) := (Hr.out.below hy.1).cell 2
          clear hbz
          go_simp) ?_
        simp only [Act.put, List.getElem_toArray, List.getElem_cons_zero, List.getElem_cons_succ, List.setIfInBounds_toArray, List.set_cons_zero, List.set_cons_succ]
        refine run_only (i := 13) (by kernel_rfl) (at_upd (fun v y => RowIs y b #[.int .i64 S, .int .i64 M, .slice up j uc] 24 ∧ OwnW y (w.heap.size + 2) (pairW g) (j + 1) v ∧ RowIs y w.heap.size #[.int .i64 0, .int .i64 0, .slice none 0 0] 24 ∧ Below w.heap.size w y ∧ w.heap.size + 2 ≤ y.heap.size) rfl rfl (fun v y y1 h hb => ⟨h.1.below hb, h.2.1.below hb, h.2.2.1.below hb, h.2.2.2.1.trans (hb.mono h.2.2.2.1.size), Nat.le_trans h.2.2.2.2 hb.size⟩) (fun v y h => h.2.2.2.1) (fun y hy => ?_) ?_)
        · obtain ⟨v, y', hrun, h3⟩ := fin bb y hy.1 hy.2
          exact ⟨v, y', exec_app _ _ _ rfl _ _ rfl rfl hrun, h3⟩
        intro v hv
        simp only [Act.put, List.getElem_toArray, List.getElem_cons_zero, List.getElem_cons_succ, List.setIfInBounds_toArray, List.set_cons_zero, List.set_cons_succ]
        refine run_quiet (i := 14) (.pointer (some ⟨b, 2, none⟩)) (by kernel_rfl) rfl rfl (fun y _ => by go_simp) ?_
        simp only [Act.put, List.getElem_toArray, List.getElem_cons_zero, List.getElem_cons_succ, List.setIfInBounds_toArray, List.set_cons_zero, List.set_cons_succ]
        refine run_store (i := 15) (fun y => RowIs y b #[.int .i64 S, .int .i64 M, v] 24 ∧ OwnW y (w.heap.size + 2) (pairW g) (j + 1) v ∧ RowIs y w.heap.size #[.int .i64 0, .int .i64 0, .slice none 0 0] 24 ∧ Below w.heap.size w y ∧ w.heap.size + 2 ≤ y.heap.size) (by kernel_rfl) rfl rfl (fun y y1 h hb => ⟨h.1.below hb, h.2.1.below hb, h.2.2.1.below hb, h.2.2.2.1.trans (hb.mono h.2.2.2.1.size), Nat.le_trans h.2.2.2.2 hb.size⟩) (fun y h => h.2.2.2.1) (fun y hy => ?_) ?_
        · obtain ⟨h1, h2, h3, h4, h5⟩ := hy
          obtain ⟨vp, vc, rfl, -⟩ := h2.wants
          have c2 : y.cell? ⟨b, 2, none⟩ = some (.slice up j uc) := h1.cell 2
          have f2 := h1.frozen 2
          refine ⟨y.setCell ⟨b, 2, none⟩ (.slice vp (j + 1) vc), by clear hbz; go_simp, RowIs.set h1 2 _, h2.keep fun q hq => Below.heap_setCell _ _ _ _ (by have := h2.lt hq; show q ≠ b; omega), (Below.heap_setCell _ _ _ _ (by show w.heap.size ≠ b; omega)).trans h3, h4.setCell (p := ⟨b, 2, none⟩) (by show w.heap.size ≤ b; omega) _, by simpa using h5⟩
        simp only [Act.put, List.getElem_toArray, List.getElem_cons_zero, List.getElem_cons_succ]
        refine ⟨by kernel_rfl, fun y hy => ?_⟩
        obtain ⟨h1, h2, h3, h4, h5⟩ := hy
        have G1 := Lib.hid h1
        have G2 := Lib.hid h2
        have G3 := Lib.hid h3
        have G4 := Lib.hid h4
        clear h1 h2 h3 h4
        go_wp2_with fail
        go_roundw
        case rel => exact ⟨j + 1, k + 2, by have := Hkj.out; omega, by omega, by go_num, v, G1.out, G2.out, G3.out, G4.out, h5⟩
        case measure => simp [intOf]; omega
    · have hmj : m / 2 = j := by omega
      have c0 : wr.cell? ⟨b, 0, none⟩ = some (.int .i64 S) := hr.cell 0
      have c1 : wr.cell? ⟨b, 1, none⟩ = some (.int .i64 M) := hr.cell 1
      have c2 : wr.cell? ⟨b, 2, none⟩ = some u := hr.cell 2
      have tt : decide ((k : Int) + 1 < (m : Int)) = false := by simp; omega
      clear hr ho h0 hB hkj
      have Hbz := Lib.hid hbz
      clear hbz
      obtain ⟨p, pc, rfl, hwt⟩ := Ho.out.wants
      have Hwt := Lib.hid hwt
      have q0 : wr.cell? ⟨w.heap.size, 0, none⟩ = some (.int .i64 0) := H0.out.cell 0
      have q1 : wr.cell? ⟨w.heap.size, 1, none⟩ = some (.int .i64 0) := H0.out.cell 1
      have q2 : wr.cell? ⟨w.heap.size, 2, none⟩ = some (.slice none 0 0) := H0.out.cell 2
      have f0 := H0.out.frozen 0
      have f1 := H0.out.frozen 1
      have f2 := H0.out.frozen 2
      obtain ⟨T, hT⟩ : ∃ T, ((wr.setCell ⟨w.heap.size, 0, none⟩ (.int .i64 S)).setCell ⟨w.heap.size, 1, none⟩ (.int .i64 M)).setCell ⟨w.heap.size, 2, none⟩ (.slice p j pc) = T := ⟨_, rfl⟩
      have hTr : RowIs T w.heap.size #[.int .i64 S, .int .i64 M, .slice p j pc] 24 := by
        rw [← hT]
        exact RowIs.set (RowIs.set (RowIs.set H0.out 0 (.int .i64 S)) 1 (.int .i64 M)) 2 (.slice p j pc)
      have hTb : Below w.heap.size w T := by rw [← hT]; exact ((HB.out.setCell (p := ⟨w.heap.size, 0, none⟩) (Nat.le_refl _) _).setCell (p := ⟨w.heap.size, 1, none⟩) (Nat.le_refl _) _).setCell (p := ⟨w.heap.size, 2, none⟩) (Nat.le_refl _) _
      have hTo : ∀ k, k ≠ w.heap.size → T.heap[k]? = wr.heap[k]? := fun k hk => by rw [← hT]; exact (Below.heap_setCell _ _ _ _ hk).trans ((Below.heap_setCell _ _ _ _ hk).trans (Below.heap_setCell _ _ _ _ hk))
      have hTw : Wants T p j (pairW g) := by
        rcases Hwt.out with h | ⟨pb, po, rfl, hpl, hpc⟩
        · exact .inl h
        · have hpb := Ho.out.lt (g := pb) rfl
          have e := hTo pb (by omega)
          exact .inr ⟨pb, po, rfl, by have := (Array.getElem?_eq_some_iff.1 hTr).1; rw [← hT]; simpa using hpl, fun i hi => ⟨(World.cell?_of_block (a := ⟨pb, _, none⟩) e).trans (hpc i hi).1, (World.cell?_of_block (a := ⟨pb, _, none⟩) e).trans (hpc i hi).2⟩⟩
      have HTr := Lib.hid hTr
      have HTb := Lib.hid hTb
      have HTw := Lib.hid hTw
      clear hwt hTr hTb hTw hTo
      go_wp2_with fail
      have t0 : T.cell? ⟨w.heap.size, 0, none⟩ = some (.int .i64 S) := HTr.out.cell 0
      have t1 : T.cell? ⟨w.heap.size, 1, none⟩ = some (.int .i64 M) := HTr.out.cell 1
      have t2 : T.cell? ⟨w.heap.size, 2, none⟩ = some (.slice p j pc) := HTr.out.cell 2
      refine bodyPost_ret (v := bookV S M p j pc) (by simp [results, Tryz.results40, go_sem, t0, t1, t2]) rfl ⟨p, pc, by rw [hmj], by rw [hmj]; exact HTw.out, HTb.out⟩

end Go.Proofs.YtbjgbgchagfokaaGreat

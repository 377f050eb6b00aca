/- A region that draws its order, in which a variable is made at whatever moment (an alloc), and filled by the last step: all else only reads or calls what leaves old memory alone. It imports nothing of the program. -/
import Derived.StillTail
import Derived.Test.YtbjgbgchagfokaaGreatBasaa
import Derived.Test.YtbjgbgchagfokaaGreatBasab
namespace Go.Proofs.YtbjgbgchagfokaaGreat
open Go Go.RowKit

section
variable {P : Program} {ops : Array Oper} {md : Region.Mode} {w0 : World}

theorem later_cell2 {W w1 : World} (hb : Below W.heap.size W w1) (x : Later w1) (b o : Nat) (h : b < W.heap.size) : x.w.cell? ⟨b, o, none⟩ = W.cell? ⟨b, o, none⟩ :=
  ((x.h.cell (p := ⟨b, o, none⟩) (Nat.lt_of_lt_of_le h hb.size))).trans (hb.cell (p := ⟨b, o, none⟩) h)

/-- What an operation gives, and that it leaves what lay there. -/
def growUpon (P : Program) (w : World) (v : Value) : Result Next → Prop
  | .ok (.value u) w' => w' = w ∧ u = v
  | .ok .skip w' => w' = w ∧ v = undef
  | .ok (.enter f args) w' => w' = w ∧ Calls P f args w (fun e w'' => e = .returned v ∧ Below w.heap.size w w'')
  | _ => False

def Grows (P : Program) (ops : Array Oper) (w0 : World) (o : Oper) (v : Value) (a : Act) : Prop :=
  (Region.wanted o (yielded ops a.tmps) = true ∧ ∀ w, Below w0.heap.size w0 w → growUpon P w v ((execOp a.eval o).run P w)) ∨
  (Region.wanted o (yielded ops a.tmps) = false ∧ v = undef)

theorem Grows.of_same {o : Oper} {v : Value} {a a' : Act} (h : Grows P ops w0 o v a) (he : execOp a'.eval o = execOp a.eval o) (hw : Region.wanted o (yielded ops a'.tmps) = Region.wanted o (yielded ops a.tmps)) : Grows P ops w0 o v a' := by
  unfold Grows at *
  rw [he, hw]
  exact h

abbrev ptrTo (b : Nat) : Value := .pointer (some ⟨b, 0, none⟩)

/-- The first n operations in whatever order, of which number m makes the variable. -/
def HeadG (P : Program) (md : Region.Mode) (ops : Array Oper) (w0 : World) (n m ta : Nat) (L : Array Bool → Act → Prop) : Nat → Array Bool → Act → Prop
  | 0, done, a => L done a
  | f + 1, done, a => Region.ready md ops done ≠ [] ∧ ∀ i ∈ Region.ready md ops done, i < n ∧
      ((i = m ∧ ∀ b, w0.heap.size ≤ b → HeadG P md ops w0 n m ta L f (done.setIfInBounds i true) (a.put (some ta) (ptrTo b))) ∨
       (i ≠ m ∧ ∃ o v, ops[i]? = some o ∧ Grows P ops w0 o v a ∧ HeadG P md ops w0 n m ta L f (done.setIfInBounds i true) (a.put o.dst v)))

/-- All that lay there lies as it lay; the variable, if it is made, is as it was made. -/
def Fresh (w0 : World) (ta : Nat) (z : Obj) (a : Act) (w : World) : Prop :=
  Below w0.heap.size w0 w ∧ ∀ b, a.tmps[ta]? = some (ptrTo b) → w0.heap.size ≤ b ∧ w.heap[b]? = some z

theorem put_other {a : Act} {d : Option Tmp} {v : Value} {ta : Nat} (h : d ≠ some ta) : (a.put d v).tmps[ta]? = a.tmps[ta]? := by
  cases d with
  | none => rfl
  | some d =>
    have : d ≠ ta := fun e => h (by rw [e])
    simp [Act.put, this]

theorem headG_any {n m ta g : Nat} {z : Obj} {om : Oper} {L : Array Bool → Act → Prop} {Q : Exit → Act → World → Prop} (hm : ops[m]? = some om) (hgd : om.guard = none) (hdm : om.dst = some ta)
    (hal : ∀ (a : Act) (w : World), (execOp a.eval om).run P w = .ok (.value (ptrTo w.heap.size)) (w.alloc z)) (hdst : ∀ i o, i ≠ m → ops[i]? = some o → o.dst ≠ some ta)
    (hL : ∀ done a w, Fresh w0 ta z a w → L done a → wpAny P md ops Q g done a w) :
    ∀ (f : Nat) (done : Array Bool) (a : Act) (w : World), Fresh w0 ta z a w → HeadG P md ops w0 n m ta L f done a → wpAny P md ops Q (f + g) done a w := by
  intro f
  induction f with
  | zero => intro done a w hw h; rw [Nat.zero_add]; exact hL _ _ _ hw h
  | succ f ih =>
    intro done a w hw h
    rw [Nat.succ_add]
    refine ⟨fun e => absurd e h.1, fun i hi => ?_⟩
    rcases (h.2 i hi).2 with ⟨rfl, hb⟩ | ⟨hne, o, v, ho, hg, hK⟩
    · unfold wpOp
      simp only [hm]
      rw [if_pos (by simp [Region.wanted, hgd])]
      refine .inl ?_
      unfold Oper.wp
      rw [hal, Oper.upon_value, hdm]
      refine ih _ _ _ ⟨hw.1.alloc hw.1.size z, fun b hb' => ?_⟩ (hb _ hw.1.size)
      by_cases hlt : ta < a.tmps.size
      · simp [Act.put, hlt] at hb'
        subst hb'
        exact ⟨hw.1.size, World.alloc_heap_new w z⟩
      · simp [Act.put, hlt] at hb'
    · have fr : ∀ w'', Below w.heap.size w w'' → Fresh w0 ta z (a.put o.dst v) w'' := fun w'' hb => ⟨hw.1.trans (hb.mono hw.1.size), fun b hb' => by
        rw [put_other (hdst i o hne ho)] at hb'
        have := hw.2 b hb'
        exact ⟨this.1, (hb.block b (Array.getElem?_eq_some_iff.1 this.2).1).trans this.2⟩⟩
      unfold wpOp
      simp only [ho]
      rcases hg with ⟨hwt, hg⟩ | ⟨hwt, rfl⟩
      · rw [if_pos hwt]
        refine .inl ?_
        have h3 := hg w hw.1
        unfold Oper.wp
        generalize (execOp a.eval o).run P w = r at h3 ⊢
        cases r with
        | ok x w' =>
          cases x <;> simp only [growUpon] at h3 <;> simp only [Oper.upon]
          case value u =>
            obtain ⟨e1, e2⟩ := h3
            rw [e1, e2]
            exact ih _ _ _ (fr w (Below.refl _ _)) hK
          case skip =>
            obtain ⟨e1, e2⟩ := h3
            rw [e1, ← e2]
            exact ih _ _ _ (fr w (Below.refl _ _)) hK
          case enter f' args =>
            obtain ⟨e1, hc⟩ := h3
            rw [e1]
            exact hc.mono fun e w'' ⟨he, hb⟩ => by subst he; exact ih _ _ _ (fr w'' hb) hK
        | halt x w' => simp only [growUpon] at h3
      · rw [if_neg (by simp [hwt])]
        exact ih _ _ _ (fr w (Below.refl _ _)) hK

theorem headG_first {n m ta i : Nat} {oi om : Oper} {v : Value} {L : Array Bool → Act → Prop} (hm : ops[m]? = some om) (hdm : om.dst = some ta) (hi : ops[i]? = some oi) (him : i ≠ m) (hsel : ∀ (j : Nat) (o : Oper) cs b, ops[j]? = some o → o.op ≠ .select cs b)
    (hs : Region.sinkB md ops n = true) (hc : Region.chainB md ops n = true) (hn : n < ops.size) (hin : i < n) (hend : ∀ done a, L done a → ∀ j ∈ Region.ready md ops done, n ≤ j) :
    ∀ (f : Nat) (done : Array Bool) (a : Act), HeadInv md ops n done →
      (∀ j oj, ops[j]? = some oj → j ≠ i → done.getD j true = false → (∀ e ∈ oj.after, Region.binds md e = true → e.on ≠ i) → oi.apart ops oj = true) →
      i ∈ Region.ready md ops done → Grows P ops w0 oi v a →
      HeadG P md ops w0 n m ta L f (done.setIfInBounds i true) (a.put oi.dst v) → HeadG P md ops w0 n m ta L (f + 1) done a := by
  intro f
  induction f with
  | zero =>
    intro done a inv _ hr hy H
    have open_ := (mem_ready.1 hr).1
    refine ⟨List.ne_nil_of_mem hr, fun j hj => ?_⟩
    have hjn : j < n := Nat.lt_of_not_le fun h => tail_waits hs hc hn inv _ i rfl hin open_ j h hj
    refine ⟨hjn, ?_⟩
    rcases Nat.decEq j i with h | h
    · exact absurd (hend _ _ H j (ready_mono hj h)) (Nat.not_le_of_lt hjn)
    · subst h
      exact .inr ⟨him, oi, v, hi, hy, H⟩
  | succ f ih =>
    intro done a inv free hr hy H
    have open_ := (mem_ready.1 hr).1
    refine ⟨List.ne_nil_of_mem hr, fun j hj => ?_⟩
    have hjn : j < n := Nat.lt_of_not_le fun h => tail_waits hs hc hn inv _ i rfl hin open_ j h hj
    refine ⟨hjn, ?_⟩
    rcases Nat.decEq j i with h | h
    · obtain ⟨jopen, oj, hoj, hall⟩ := mem_ready.1 hj
      have waits : ∀ e ∈ oj.after, Region.binds md e = true → e.on ≠ i := by
        intro e he hb heq
        have := hall e he hb
        rw [heq, getD_both open_] at this
        cases this
      obtain ⟨p1, p2, p3⟩ := Oper.apart_spec (free j oj hoj h jopen waits)
      have keep : ∀ u, Grows P ops w0 oi v (a.put oj.dst u) := fun u => hy.of_same (execOp_put oi (fun cs b => hsel i oi cs b hi) a oj.dst u p3) (wanted_put oi a oj.dst u p3)
      have free' : ∀ k ok, ops[k]? = some ok → k ≠ i → (done.setIfInBounds j true).getD k true = false → (∀ e ∈ ok.after, Region.binds md e = true → e.on ≠ i) → oi.apart ops ok = true := by
        intro k ok hk hki kopen hno
        refine free k ok hk hki ?_ hno
        rcases Nat.decEq j k with e | e
        · rwa [getD_set_ne true e] at kopen
        · rw [← e]; exact jopen
      rcases (H.2 j (ready_mono hj h)).2 with ⟨rfl, hb⟩ | ⟨hjm, o, u, ho, hg, hK⟩
      · obtain rfl : oj = om := Option.some.inj (hoj.symm.trans hm)
        refine .inl ⟨rfl, fun b hbb => ih _ _ (inv.set hj hjn) free' (ready_mono hr (Ne.symm h)) ?_ ?_⟩
        · rw [← hdm]; exact keep _
        · have := hb b hbb
          rw [← hdm, Act.put_comm a v _ p2] at this
          rw [← hdm, Array.setIfInBounds_comm _ _ h]
          exact this
      · obtain rfl : oj = o := Option.some.inj (hoj.symm.trans ho)
        refine .inr ⟨hjm, oj, u, hoj, ?_, ih _ _ (inv.set hj hjn) free' (ready_mono hr (Ne.symm h)) (keep u) ?_⟩
        · exact hg.of_same (execOp_put oj (fun cs b => hsel j oj cs b hoj) a oi.dst v p1).symm (wanted_put oj a oi.dst v p1).symm
        · rw [Act.put_comm a v u p2] at hK
          rw [Array.setIfInBounds_comm _ _ h]
          exact hK
    · subst h
      exact .inr ⟨him, oi, v, hi, hy, H⟩

/-- The walk in the order of the text; the variable is made last. -/
def WalkG (P : Program) (ops : Array Oper) (w0 : World) (K : Act → Prop) : List Oper → Act → Prop
  | [], a => K a
  | o :: rest, a => ∃ v, Grows P ops w0 o v a ∧ WalkG P ops w0 K rest (a.put o.dst v)

theorem headG_lex {m ta g : Nat} {om : Oper} {Lq : Act → Prop} (hm : ops[m]? = some om) (hdm : om.dst = some ta) (hsel : Region.noSelect ops = true) (hs : Region.sinkB md ops (m + 1) = true) (hc : Region.chainB md ops (m + 1) = true) (hn : m + 1 < ops.size) :
    ∀ (l : List Oper) (k : Nat) (done : Array Bool) (a : Act), (∀ j, j < l.length → l[j]? = ops[k + j]?) → k + l.length = m → HeadInv md ops (m + 1) done → (∀ j, j < k → done.getD j true = true) →
    Region.lexHead md ops g (l.length + 1) k done = true → WalkG P ops w0 (fun a' => ∀ b, w0.heap.size ≤ b → Lq (a'.put (some ta) (ptrTo b))) l a →
    HeadG P md ops w0 (m + 1) m ta (fun done' a' => Region.seqB md ops g (m + 1) done' = true ∧ Lq a') (l.length + 1) done a := by
  intro l
  induction l with
  | nil =>
    intro k done a _ hk inv hd hB h
    obtain rfl : k = m := by simpa using hk
    simp only [List.length_nil, Region.lexHead, Bool.and_eq_true] at hB
    have hr : k ∈ Region.ready md ops done := by simpa using hB.1.1
    have open_ := (mem_ready.1 hr).1
    refine ⟨List.ne_nil_of_mem hr, fun j hj => ?_⟩
    have hjn : j < k + 1 := Nat.lt_of_not_le fun h => tail_waits hs hc hn inv _ k rfl (Nat.lt_succ_self k) open_ j h hj
    obtain rfl : j = k := by
      rcases Nat.lt_or_ge j k with h | h
      · have h1 := hd j h
        rw [(mem_ready.1 hj).1] at h1
        cases h1
      · omega
    exact ⟨hjn, .inl ⟨rfl, fun b hb => ⟨hB.2, h b hb⟩⟩⟩
  | cons o l ih =>
    intro k done a hl hk inv hd hB h
    have h0 : ops[k]? = some o := by simpa using (hl 0 (by simp)).symm
    rw [List.length_cons] at hk
    rw [List.length_cons, Region.lexHead] at hB
    simp only [Bool.and_eq_true] at hB
    have hkn : k < m + 1 := by omega
    have hr : k ∈ Region.ready md ops done := by simpa using hB.1.1
    obtain ⟨v, hy, hK⟩ := h
    have hsz : k < done.size := by rw [inv.size]; exact (Array.getElem?_eq_some_iff.1 h0).1
    refine headG_first hm hdm h0 (by omega) (Region.noSelect_spec hsel) hs hc hn hkn (fun _ _ hL => seqB_ready hL.1) (l.length + 1) done a inv (Region.free_spec h0 hB.1.2) hr hy (ih (k + 1) _ _ ?_ (by omega) (inv.set hr hkn) ?_ hB.2 hK)
    · intro j hj
      have := hl (j + 1) (by simp; omega)
      simpa [Nat.add_assoc, Nat.add_comm 1 j] using this
    · intro j hj
      by_cases e : j = k
      · subst e; simp [hsz]
      · rw [getD_set_ne true (Ne.symm e)]; exact hd j (by omega)

/-- The values of the walk are those that its end holds. -/
theorem end_holds {C : World → Prop} {af : Act} : ∀ (l : List Oper) (a : Act) (d : Nat), (∀ o ∈ l, o.dst ≠ some d) → wpQuiet P ops C (fun a' => a' = af) l a → af.tmps[d]? = a.tmps[d]?
  | [], a, d, _, h => by rw [← (show a = af from h)]
  | o :: l, a, d, hd, h => by
    have h1 := hd o (by simp)
    have h2 : ∀ o ∈ l, o.dst ≠ some d := fun x hx => hd x (by simp [hx])
    simp only [wpQuiet] at h
    split at h
    · obtain ⟨v, _, hK⟩ := h
      rw [end_holds l _ d h2 hK, put_other h1]
    · rw [end_holds l _ d h2 h, put_other h1]

/-- Each operation has a temporary of its own, within the frame. -/
def ownDst (s : Nat) : List Oper → Bool
  | [] => true
  | o :: l => (match o.dst with
    | some d => decide (d < s) && l.all fun x => decide (x.dst ≠ some d)
    | none => false) && ownDst s l

theorem walkG_of {af : Act} {s : Nat} {K : Act → Prop} (hK : K af) : ∀ (l : List Oper) (a : Act), a.tmps.size = s → ownDst s l = true →
    (∀ w1, Below w0.heap.size w0 w1 → wpQuiet P ops (fun w' => ∃ x : Later w1, w' = x.w) (fun a' => a' = af) l a) → WalkG P ops w0 K l a
  | [], a, _, _, h => by
    have : a = af := h w0 (Below.refl _ _)
    rw [this]; exact hK
  | o :: l, a, hs, ho, h => by
    simp only [ownDst, Bool.and_eq_true] at ho
    cases hd : o.dst with
    | none => simp [hd] at ho
    | some d =>
      simp only [hd, Bool.and_eq_true, decide_eq_true_eq, List.all_eq_true] at ho
      obtain ⟨⟨hds, hall⟩, hrest⟩ := ho
      by_cases hw : Region.wanted o (yielded ops a.tmps) = true
      · have step : ∀ w1, Below w0.heap.size w0 w1 → growUpon P w1 ((af.tmps[d]?).getD undef) ((execOp a.eval o).run P w1) ∧
            wpQuiet P ops (fun w' => ∃ x : Later w1, w' = x.w) (fun a' => a' = af) l (a.put o.dst ((af.tmps[d]?).getD undef)) := fun w1 hb => by
          have h1 := h w1 hb
          simp only [wpQuiet] at h1
          rw [if_pos hw] at h1
          obtain ⟨v, hv, hq⟩ := h1
          have hve : (af.tmps[d]?).getD undef = v := by
            rw [end_holds l _ d hall hq, hd]
            simp [Act.put, hs, hds]
          rw [hve]
          refine ⟨?_, hq⟩
          have h2 := hv w1 ⟨⟨w1, Below.refl _ _⟩, rfl⟩
          unfold Oper.quietAt at h2
          generalize (execOp a.eval o).run P w1 = r at h2 ⊢
          cases r with
          | ok x w' =>
            cases x <;> simp only [Oper.quietUpon] at h2 <;> simp only [growUpon]
            case value => exact h2
            case skip => exact h2
            case enter f args => exact ⟨h2.1, h2.2.mono fun e w'' ⟨he, y, hy⟩ => ⟨he, hy ▸ y.h⟩⟩
          | halt x w' => simp only [Oper.quietUpon] at h2
        exact ⟨_, .inl ⟨hw, fun w1 hb => (step w1 hb).1⟩, walkG_of hK l _ (by rw [hd]; simp [Act.put, hs]) hrest fun w1 hb => (step w1 hb).2⟩
      · have hw' : Region.wanted o (yielded ops a.tmps) = false := by simpa using hw
        refine ⟨undef, .inr ⟨hw', rfl⟩, walkG_of hK l _ (by rw [hd]; simp [Act.put, hs]) hrest fun w1 hb => ?_⟩
        have h1 := h w1 hb
        simp only [wpQuiet] at h1
        rwa [if_neg hw] at h1

/-- All but one operation have other temporaries than ta. -/
def offDst (ta m : Nat) (l : List Oper) : Bool := (List.range l.length).all fun i => i == m || decide ((l[i]?.bind (·.dst)) ≠ some ta)

theorem any_float {Q : Exit → Act → World → Prop} {a : Act} {w : World} {l : List Oper} (m ta s : Nat) (z : Obj) (om : Oper) (hB : Region.lexTailB .any l.toArray (m + 1) = true) (hm : l[m]? = some om) (hgd : om.guard = none) (hdm : om.dst = some ta)
    (hal : ∀ (a : Act) (w : World), (execOp a.eval om).run P w = .ok (.value (ptrTo w.heap.size)) (w.alloc z)) (hoff : offDst ta m l = true) (hown : ownDst s (l.take m) = true) (hs : a.tmps.size = s) (hta : a.tmps[ta]? = some undef)
    (h : ∃ af, (∀ w1, Below w.heap.size w w1 → ∀ K : Act → Prop, K af → wpQuiet P l.toArray (fun w' => ∃ x : Later w1, w' = x.w) K (l.take m) a) ∧
      ∀ (b : Nat) (w' : World), w.heap.size ≤ b → Below w.heap.size w w' → w'.heap[b]? = some z → wpList P l.toArray Q (l.drop (m + 1)) (af.put (some ta) (ptrTo b)) w') :
    wpAny P .any l.toArray Q l.toArray.size (Array.replicate l.toArray.size false) a { w with drawn := w.drawn + 1 } := by
  obtain ⟨af, h1', h2⟩ := h
  have h1 := fun w1 hb => h1' w1 hb (fun a' => a' = af) rfl
  simp only [Region.lexTailB, Bool.and_eq_true, decide_eq_true_eq] at hB
  obtain ⟨⟨⟨⟨hsel, hn⟩, hsk⟩, hc⟩, hlex⟩ := hB
  have hn' : m + 1 < l.length := by simpa using hn
  have htl : (l.take m).length = m := by simp; omega
  have hdl : (l.drop (m + 1)).length = l.toArray.size - (m + 1) := by simp
  have hm' : l.toArray[m]? = some om := by simpa using hm
  have inv0 : HeadInv .any l.toArray (m + 1) (Array.replicate l.toArray.size false) :=
    ⟨by simp, fun j oj _ hl => (by rw [getD_replicate_false] at hl; cases hl), fun t _ ht => getD_in (by simpa using ht) (getD_replicate_false _ _)⟩
  have hW := walkG_of (K := fun a' => ∀ b, w.heap.size ≤ b → (fun a'' => ∃ b, a'' = af.put (some ta) (ptrTo b)) (a'.put (some ta) (ptrTo b))) (fun b _ => ⟨b, rfl⟩) (l.take m) a hs hown h1
  have H := headG_lex (md := .any) (g := l.toArray.size - (m + 1)) (Lq := fun a'' => ∃ b, a'' = af.put (some ta) (ptrTo b)) hm' hdm hsel hsk hc hn (l.take m) 0 _ a (fun j hj => by
    rw [htl] at hj
    simp [hj]) (by simpa using htl) inv0 (fun j hj => absurd hj (Nat.not_lt_zero _)) (by rw [htl]; exact hlex) hW
  have hta' : ta < a.tmps.size := (Array.getElem?_eq_some_iff.1 hta).1
  have hsz : ∀ {w1}, Below w.heap.size w w1 → wpQuiet P l.toArray (fun w' => ∃ x : Later w1, w' = x.w) (fun a' => a' = af) (l.take m) a → af.tmps.size = s := fun {w1} hb hq => by
    have key : ∀ (l' : List Oper) (a' : Act), wpQuiet P l.toArray (fun w' => ∃ x : Later w1, w' = x.w) (fun a' => a' = af) l' a' → af.tmps.size = a'.tmps.size := by
      intro l'
      induction l' with
      | nil => intro a' h; rw [← (show a' = af from h)]
      | cons o l' ih =>
        intro a' h
        simp only [wpQuiet] at h
        split at h
        · obtain ⟨v, _, hK⟩ := h
          rw [ih _ hK]
          cases o.dst <;> simp [Act.put]
        · rw [ih _ h]
          cases o.dst <;> simp [Act.put]
    rw [key _ _ hq, hs]
  have hasz := hsz (Below.refl _ w) (h1 w (Below.refl _ w))
  have hdst : ∀ i o, i ≠ m → l.toArray[i]? = some o → o.dst ≠ some ta := fun i o hi ho => by
    have hil : i < l.length := by have := (Array.getElem?_eq_some_iff.1 ho).1; simpa using this
    have := List.all_eq_true.1 hoff i (by simpa using hil)
    have ho' : l[i]? = some o := by simpa using ho
    simpa [ho', hi] using this
  have := headG_any (Q := Q) (z := z) (g := l.toArray.size - (m + 1)) hm' hgd hdm hal hdst (fun done a' w' hw' hL => by
    obtain ⟨hq, b, rfl⟩ := hL
    have hf := hw'.2 b (by simp [Act.put, hasz, ← hs, hta'])
    have := wpAny_of_seq (md := .any) (Q' := Q) (l.drop (m + 1)) (m + 1) done _ w' (fun j => by simp [List.getElem?_drop]) (by rw [hdl]; exact hq) (h2 b w' hf.1 hw'.1 hf.2)
    rwa [hdl] at this) _ _ _ { w with drawn := w.drawn + 1 } ⟨(Below.refl _ w).drew, fun b hb => by rw [hta] at hb; cases hb⟩ H
  rw [htl, show m + 1 + (l.toArray.size - (m + 1)) = l.toArray.size by omega] at this
  exact this

theorem wp_region_float {id : Nat} {Q : Exit → Act → World → Prop} {a : Act} {w : World} {l : List Oper} (m ta s : Nat) (z : Obj) (om : Oper) (hmo : P.follows .mixedOrders = true) (hB : Region.lexTailB .any l.toArray (m + 1) = true) (hm : l[m]? = some om) (hgd : om.guard = none) (hdm : om.dst = some ta)
    (hal : ∀ (a : Act) (w : World), (execOp a.eval om).run P w = .ok (.value (ptrTo w.heap.size)) (w.alloc z)) (hoff : offDst ta m l = true) (hown : ownDst s (l.take m) = true) (hs : a.tmps.size = s) (hta : a.tmps[ta]? = some undef)
    (h : ∃ af, (∀ w1, Below w.heap.size w w1 → ∀ K : Act → Prop, K af → wpQuiet P l.toArray (fun w' => ∃ x : Later w1, w' = x.w) K (l.take m) a) ∧
      ∀ (b : Nat) (w' : World), w.heap.size ≤ b → Below w.heap.size w w' → w'.heap[b]? = some z → wpList P l.toArray Q (l.drop (m + 1)) (af.put (some ta) (ptrTo b)) w') :
    (Code.region id l.toArray true).wp P Q a w :=
  wp_region_any hmo (any_float m ta s z om hB hm hgd hdm hal hoff hown hs hta h)

theorem wpIn_region_floatR {id n r : Nat} {Q : Exit → Act → World → Prop} {a : Act} {w : World} {l : List Oper} (m ta s : Nat) (z : Obj) (om : Oper) (hmo : P.follows .mixedOrders = true) (hnd : noDefer l.toArray = true) (hq : ¬ LetsOut Q) (hB : Region.lexTailB .any l.toArray (m + 1) = true) (hm : l[m]? = some om) (hgd : om.guard = none) (hdm : om.dst = some ta)
    (hal : ∀ (a : Act) (w : World), (execOp a.eval om).run P w = .ok (.value (ptrTo w.heap.size)) (w.alloc z)) (hoff : offDst ta m l = true) (hown : ownDst s (l.take m) = true) (hs : a.tmps.size = s) (hta : a.tmps[ta]? = some undef)
    (h : ∃ af, (∀ w1, Below w.heap.size w w1 → ∀ K : Act → Prop, K af → wpQuiet P l.toArray (fun w' => ∃ x : Later w1, w' = x.w) K (l.take m) a) ∧
      ∀ (b : Nat) (w' : World), w.heap.size ≤ b → Below w.heap.size w w' → w'.heap[b]? = some z → wpList P l.toArray Q (l.drop (m + 1)) (af.put (some ta) (ptrTo b)) w') :
    (Code.region id l.toArray true).wpIn (Fence.wide.inRound r) n P Q a w :=
  wpIn_region_anyR hmo hnd hq (any_float m ta s z om hB hm hgd hdm hal hoff hown hs hta h)
end

end Go.Proofs.YtbjgbgchagfokaaGreat

namespace Go.Proofs.YtbjgbgchagfokaaGreat
open Go Go.RowKit

section
variable {P : Program} {ops : Array Oper} {md : Region.Mode} {w0 : World}

/-- The first n operations in whatever order, of which the numbers m and m + 1 make the variables. -/
def HeadV (P : Program) (md : Region.Mode) (ops : Array Oper) (w0 : World) (n m ta tb : Nat) (L : Array Bool → Act → Prop) : Nat → Array Bool → Act → Prop
  | 0, done, a => L done a
  | f + 1, done, a => Region.ready md ops done ≠ [] ∧ ∀ i ∈ Region.ready md ops done, i < n ∧
      ((i = m ∧ ∀ b, w0.heap.size ≤ b → HeadV P md ops w0 n m ta tb L f (done.setIfInBounds i true) (a.put (some ta) (ptrTo b))) ∨
       (i = m + 1 ∧ ∀ b, w0.heap.size ≤ b → HeadV P md ops w0 n m ta tb L f (done.setIfInBounds i true) (a.put (some tb) (ptrTo b))) ∨
       (i ≠ m ∧ i ≠ m + 1 ∧ ∃ o v, ops[i]? = some o ∧ Grows P ops w0 o v a ∧ HeadV P md ops w0 n m ta tb L f (done.setIfInBounds i true) (a.put o.dst v)))

/-- All that lay there lies as it lay; the variables, if they are made, are as they were made, and two. -/
def Fresh2 (w0 : World) (ta tb : Nat) (za zb : Obj) (a : Act) (w : World) : Prop :=
  Below w0.heap.size w0 w ∧ (∀ b, a.tmps[ta]? = some (ptrTo b) → w0.heap.size ≤ b ∧ w.heap[b]? = some za) ∧ (∀ b, a.tmps[tb]? = some (ptrTo b) → w0.heap.size ≤ b ∧ w.heap[b]? = some zb) ∧
    ∀ b c, a.tmps[ta]? = some (ptrTo b) → a.tmps[tb]? = some (ptrTo c) → b ≠ c

theorem heap_size_lt {w : World} {b : Nat} {z : Obj} (h : w.heap[b]? = some z) : b < w.heap.size := (Array.getElem?_eq_some_iff.1 h).1
theorem put_self {a : Act} {t b c : Nat} (h : (a.put (some t) (ptrTo c)).tmps[t]? = some (ptrTo b)) : b = c := by
  by_cases hlt : t < a.tmps.size
  · simp [Act.put, hlt] at h
    exact h.symm
  · simp [Act.put, hlt] at h
theorem fresh2_grow {ta tb : Nat} {za zb : Obj} {a : Act} {w w' : World} {d : Option Tmp} {v : Value} (h : Fresh2 w0 ta tb za zb a w) (hb : Below w.heap.size w w') (ha : d ≠ some ta) (hb' : d ≠ some tb) : Fresh2 w0 ta tb za zb (a.put d v) w' := by
  obtain ⟨h1, h2, h3, h4⟩ := h
  refine ⟨h1.trans (hb.mono h1.size), fun b e => ?_, fun b e => ?_, fun b c e1 e2 => ?_⟩
  · rw [put_other ha] at e
    have := h2 b e
    exact ⟨this.1, (hb.block b (heap_size_lt this.2)).trans this.2⟩
  · rw [put_other hb'] at e
    have := h3 b e
    exact ⟨this.1, (hb.block b (heap_size_lt this.2)).trans this.2⟩
  · rw [put_other ha] at e1
    rw [put_other hb'] at e2
    exact h4 b c e1 e2
theorem alloc_block (w : World) (z : Obj) {b : Nat} {o : Obj} (h : w.heap[b]? = some o) : (w.alloc z).heap[b]? = some o :=
  ((Below.refl w.heap.size w).alloc (Nat.le_refl _) z).block b (heap_size_lt h) |>.trans h
theorem fresh2_a {ta tb : Nat} {za zb : Obj} {a : Act} {w : World} (h : Fresh2 w0 ta tb za zb a w) (hab : ta ≠ tb) : Fresh2 w0 ta tb za zb (a.put (some ta) (ptrTo w.heap.size)) (w.alloc za) := by
  obtain ⟨h1, h2, h3, h4⟩ := h
  have hne : (some ta : Option Tmp) ≠ some tb := fun e => hab (Option.some.inj e)
  refine ⟨h1.alloc h1.size za, fun b e => ?_, fun b e => ?_, fun b c e1 e2 => ?_⟩
  · have := put_self e
    subst this
    exact ⟨h1.size, World.alloc_heap_new w za⟩
  · rw [put_other hne] at e
    have := h3 b e
    exact ⟨this.1, alloc_block w za this.2⟩
  · have := put_self e1
    subst this
    rw [put_other hne] at e2
    have := heap_size_lt (h3 c e2).2
    omega
theorem fresh2_b {ta tb : Nat} {za zb : Obj} {a : Act} {w : World} (h : Fresh2 w0 ta tb za zb a w) (hab : ta ≠ tb) : Fresh2 w0 ta tb za zb (a.put (some tb) (ptrTo w.heap.size)) (w.alloc zb) := by
  obtain ⟨h1, h2, h3, h4⟩ := h
  have hne : (some tb : Option Tmp) ≠ some ta := fun e => hab (Option.some.inj e).symm
  refine ⟨h1.alloc h1.size zb, fun b e => ?_, fun b e => ?_, fun b c e1 e2 => ?_⟩
  · rw [put_other hne] at e
    have := h2 b e
    exact ⟨this.1, alloc_block w zb this.2⟩
  · have := put_self e
    subst this
    exact ⟨h1.size, World.alloc_heap_new w zb⟩
  · have := put_self e2
    subst this
    rw [put_other hne] at e1
    have := heap_size_lt (h2 b e1).2
    omega

theorem headV_any {n m ta tb g : Nat} {za zb : Obj} {om ob : Oper} {L : Array Bool → Act → Prop} {Q : Exit → Act → World → Prop} (hm : ops[m]? = some om) (hgd : om.guard = none) (hdm : om.dst = some ta) (hmb : ops[m + 1]? = some ob) (hgb : ob.guard = none) (hdb : ob.dst = some tb) (hab : ta ≠ tb)
    (hal : ∀ (a : Act) (w : World), (execOp a.eval om).run P w = .ok (.value (ptrTo w.heap.size)) (w.alloc za)) (hbl : ∀ (a : Act) (w : World), (execOp a.eval ob).run P w = .ok (.value (ptrTo w.heap.size)) (w.alloc zb))
    (hdst : ∀ i o, i ≠ m → i ≠ m + 1 → ops[i]? = some o → o.dst ≠ some ta ∧ o.dst ≠ some tb)
    (hL : ∀ done a w, Fresh2 w0 ta tb za zb a w → L done a → wpAny P md ops Q g done a w) :
    ∀ (f : Nat) (done : Array Bool) (a : Act) (w : World), Fresh2 w0 ta tb za zb a w → HeadV P md ops w0 n m ta tb L f done a → wpAny P md ops Q (f + g) done a w := by
  intro f
  induction f with
  | zero => intro done a w hw h; rw [Nat.zero_add]; exact hL _ _ _ hw h
  | succ f ih =>
    intro done a w hw h
    rw [Nat.succ_add]
    refine ⟨fun e => absurd e h.1, fun i hi => ?_⟩
    rcases (h.2 i hi).2 with ⟨rfl, hb⟩ | ⟨rfl, hb⟩ | ⟨hne, hne2, o, v, ho, hg, hK⟩
    · unfold wpOp
      simp only [hm]
      rw [if_pos (by simp [Region.wanted, hgd])]
      refine .inl ?_
      unfold Oper.wp
      rw [hal, Oper.upon_value, hdm]
      exact ih _ _ _ (fresh2_a hw hab) (hb _ hw.1.size)
    · unfold wpOp
      simp only [hmb]
      rw [if_pos (by simp [Region.wanted, hgb])]
      refine .inl ?_
      unfold Oper.wp
      rw [hbl, Oper.upon_value, hdb]
      exact ih _ _ _ (fresh2_b hw hab) (hb _ hw.1.size)
    · have hd := hdst i o hne hne2 ho
      have fr : ∀ w'', Below w.heap.size w w'' → Fresh2 w0 ta tb za zb (a.put o.dst v) w'' := fun w'' hb => fresh2_grow hw hb hd.1 hd.2
      unfold wpOp
      simp only [ho]
      rcases hg with ⟨hwt, hg⟩ | ⟨hwt, rfl⟩
      · rw [if_pos hwt]
        refine .inl ?_
        have h3 := hg w hw.1
        unfold Oper.wp
        generalize (execOp a.eval o).run P w = r at h3 ⊢
        cases r with
        | ok x w' =>
          cases x <;> simp only [growUpon] at h3 <;> simp only [Oper.upon]
          case value u =>
            obtain ⟨e1, e2⟩ := h3
            rw [e1, e2]
            exact ih _ _ _ (fr w (Below.refl _ _)) hK
          case skip =>
            obtain ⟨e1, e2⟩ := h3
            rw [e1, ← e2]
            exact ih _ _ _ (fr w (Below.refl _ _)) hK
          case enter f' args =>
            obtain ⟨e1, hc⟩ := h3
            rw [e1]
            exact hc.mono fun e w'' ⟨he, hb⟩ => by subst he; exact ih _ _ _ (fr w'' hb) hK
        | halt x w' => simp only [growUpon] at h3
      · rw [if_neg (by simp [hwt])]
        exact ih _ _ _ (fr w (Below.refl _ _)) hK

theorem headV_first {n m ta tb i : Nat} {oi om ob : Oper} {v : Value} {L : Array Bool → Act → Prop} (hm : ops[m]? = some om) (hdm : om.dst = some ta) (hmb : ops[m + 1]? = some ob) (hdb : ob.dst = some tb) (hi : ops[i]? = some oi) (him : i ≠ m) (him2 : i ≠ m + 1) (hsel : ∀ (j : Nat) (o : Oper) cs b, ops[j]? = some o → o.op ≠ .select cs b)
    (hs : Region.sinkB md ops n = true) (hc : Region.chainB md ops n = true) (hn : n < ops.size) (hin : i < n) (hend : ∀ done a, L done a → ∀ j ∈ Region.ready md ops done, n ≤ j) :
    ∀ (f : Nat) (done : Array Bool) (a : Act), HeadInv md ops n done →
      (∀ j oj, ops[j]? = some oj → j ≠ i → done.getD j true = false → (∀ e ∈ oj.after, Region.binds md e = true → e.on ≠ i) → oi.apart ops oj = true) →
      i ∈ Region.ready md ops done → Grows P ops w0 oi v a →
      HeadV P md ops w0 n m ta tb L f (done.setIfInBounds i true) (a.put oi.dst v) → HeadV P md ops w0 n m ta tb L (f + 1) done a := by
  intro f
  induction f with
  | zero =>
    intro done a inv _ hr hy H
    have open_ := (mem_ready.1 hr).1
    refine ⟨List.ne_nil_of_mem hr, fun j hj => ?_⟩
    have hjn : j < n := Nat.lt_of_not_le fun h => tail_waits hs hc hn inv _ i rfl hin open_ j h hj
    refine ⟨hjn, ?_⟩
    rcases Nat.decEq j i with h | h
    · exact absurd (hend _ _ H j (ready_mono hj h)) (Nat.not_le_of_lt hjn)
    · subst h
      exact .inr (.inr ⟨him, him2, oi, v, hi, hy, H⟩)
  | succ f ih =>
    intro done a inv free hr hy H
    have open_ := (mem_ready.1 hr).1
    refine ⟨List.ne_nil_of_mem hr, fun j hj => ?_⟩
    have hjn : j < n := Nat.lt_of_not_le fun h => tail_waits hs hc hn inv _ i rfl hin open_ j h hj
    refine ⟨hjn, ?_⟩
    rcases Nat.decEq j i with h | h
    · obtain ⟨jopen, oj, hoj, hall⟩ := mem_ready.1 hj
      have waits : ∀ e ∈ oj.after, Region.binds md e = true → e.on ≠ i := by
        intro e he hb heq
        have := hall e he hb
        rw [heq, getD_both open_] at this
        cases this
      obtain ⟨p1, p2, p3⟩ := Oper.apart_spec (free j oj hoj h jopen waits)
      have keep : ∀ u, Grows P ops w0 oi v (a.put oj.dst u) := fun u => hy.of_same (execOp_put oi (fun cs b => hsel i oi cs b hi) a oj.dst u p3) (wanted_put oi a oj.dst u p3)
      have free' : ∀ k ok, ops[k]? = some ok → k ≠ i → (done.setIfInBounds j true).getD k true = false → (∀ e ∈ ok.after, Region.binds md e = true → e.on ≠ i) → oi.apart ops ok = true := by
        intro k ok hk hki kopen hno
        refine free k ok hk hki ?_ hno
        rcases Nat.decEq j k with e | e
        · rwa [getD_set_ne true e] at kopen
        · rw [← e]; exact jopen
      rcases (H.2 j (ready_mono hj h)).2 with ⟨rfl, hb⟩ | ⟨rfl, hb⟩ | ⟨hjm, hjm2, o, u, ho, hg, hK⟩
      · obtain rfl : oj = om := Option.some.inj (hoj.symm.trans hm)
        refine .inl ⟨rfl, fun b hbb => ih _ _ (inv.set hj hjn) free' (ready_mono hr (Ne.symm h)) ?_ ?_⟩
        · rw [← hdm]; exact keep _
        · have := hb b hbb
          rw [← hdm, Act.put_comm a v _ p2] at this
          rw [← hdm, Array.setIfInBounds_comm _ _ h]
          exact this
      · obtain rfl : oj = ob := Option.some.inj (hoj.symm.trans hmb)
        refine .inr (.inl ⟨rfl, fun b hbb => ih _ _ (inv.set hj hjn) free' (ready_mono hr (Ne.symm h)) ?_ ?_⟩)
        · rw [← hdb]; exact keep _
        · have := hb b hbb
          rw [← hdb, Act.put_comm a v _ p2] at this
          rw [← hdb, Array.setIfInBounds_comm _ _ h]
          exact this
      · obtain rfl : oj = o := Option.some.inj (hoj.symm.trans ho)
        refine .inr (.inr ⟨hjm, hjm2, oj, u, hoj, ?_, ih _ _ (inv.set hj hjn) free' (ready_mono hr (Ne.symm h)) (keep u) ?_⟩)
        · exact hg.of_same (execOp_put oj (fun cs b => hsel j oj cs b hoj) a oi.dst v p1).symm (wanted_put oj a oi.dst v p1).symm
        · rw [Act.put_comm a v u p2] at hK
          rw [Array.setIfInBounds_comm _ _ h]
          exact hK
    · subst h
      exact .inr (.inr ⟨him, him2, oi, v, hi, hy, H⟩)

theorem headV_lex {m ta tb g : Nat} {om ob : Oper} {Lq : Act → Prop} (hm : ops[m]? = some om) (hdm : om.dst = some ta) (hmb : ops[m + 1]? = some ob) (hdb : ob.dst = some tb) (hab : ta ≠ tb) (hsel : Region.noSelect ops = true) (hs : Region.sinkB md ops (m + 2) = true) (hc : Region.chainB md ops (m + 2) = true) (hn : m + 2 < ops.size) :
    ∀ (l : List Oper) (k : Nat) (done : Array Bool) (a : Act), (∀ j, j < l.length → l[j]? = ops[k + j]?) → k + l.length = m → HeadInv md ops (m + 2) done → (∀ j, j < k → done.getD j true = true) →
    Region.lexHead md ops g (l.length + 2) k done = true → WalkG P ops w0 (fun a' => ∀ b c, w0.heap.size ≤ b → w0.heap.size ≤ c → Lq ((a'.put (some ta) (ptrTo b)).put (some tb) (ptrTo c))) l a →
    HeadV P md ops w0 (m + 2) m ta tb (fun done' a' => Region.seqB md ops g (m + 2) done' = true ∧ Lq a') (l.length + 2) done a := by
  intro l
  induction l with
  | nil =>
    intro k done a _ hk inv hd hB h
    obtain rfl : k = m := by simpa using hk
    simp only [List.length_nil, Region.lexHead, Bool.and_eq_true] at hB
    have hr : k ∈ Region.ready md ops done := by simpa using hB.1.1
    have hr2 : k + 1 ∈ Region.ready md ops (done.setIfInBounds k true) := by simpa using hB.2.1.1
    have open_ := (mem_ready.1 hr).1
    have low : ∀ j ∈ Region.ready md ops done, ¬ j < k := fun j hj h => by
      have h1 := hd j h
      rw [(mem_ready.1 hj).1] at h1
      cases h1
    refine ⟨List.ne_nil_of_mem hr, fun j hj => ?_⟩
    have hjn : j < k + 2 := Nat.lt_of_not_le fun h => tail_waits hs hc hn inv _ k rfl (by omega) open_ j h hj
    have hjk := low j hj
    have hcase : j = k ∨ j = k + 1 := by omega
    rcases hcase with rfl | rfl
    · refine ⟨hjn, .inl ⟨rfl, fun b hb => ?_⟩⟩
      have inv' := inv.set hj hjn
      have open2 := (mem_ready.1 hr2).1
      refine ⟨List.ne_nil_of_mem hr2, fun i hi => ?_⟩
      have hin : i < j + 2 := Nat.lt_of_not_le fun h => tail_waits hs hc hn inv' _ (j + 1) rfl (by omega) open2 i h hi
      have : i = j + 1 := by
        have h1 := (mem_ready.1 hi).1
        rcases Nat.lt_trichotomy i j with h | h | h
        · rw [getD_set_ne true (by omega), hd i h] at h1
          cases h1
        · subst h
          have hsz : i < done.size := by rw [inv.size]; omega
          simp [hsz] at h1
        · omega
      subst this
      exact ⟨hin, .inr (.inl ⟨rfl, fun c hc' => ⟨hB.2.2, h b c hb hc'⟩⟩)⟩
    · refine ⟨hjn, .inr (.inl ⟨rfl, fun c hc' => ?_⟩)⟩
      have inv' := inv.set hj hjn
      have hr3 : k ∈ Region.ready md ops (done.setIfInBounds (k + 1) true) := ready_mono hr (by omega)
      have open3 := (mem_ready.1 hr3).1
      refine ⟨List.ne_nil_of_mem hr3, fun i hi => ?_⟩
      have hin : i < k + 2 := Nat.lt_of_not_le fun h => tail_waits hs hc hn inv' _ k rfl (by omega) open3 i h hi
      have : i = k := by
        have h1 := (mem_ready.1 hi).1
        rcases Nat.lt_trichotomy i k with h | h | h
        · rw [getD_set_ne true (by omega), hd i h] at h1
          cases h1
        · exact h
        · have : i = k + 1 := by omega
          subst this
          have hsz : k + 1 < done.size := by rw [inv.size]; omega
          simp [hsz] at h1
      subst this
      refine ⟨hin, .inl ⟨rfl, fun b hb => ⟨?_, ?_⟩⟩⟩
      · rw [Array.setIfInBounds_comm _ _ (by omega)]
        exact hB.2.2
      · rw [Act.put_comm a _ _ (fun d hd' e => by cases hd'; exact hab (Option.some.inj e))]
        exact h b c hb hc'
  | cons o l ih =>
    intro k done a hl hk inv hd hB h
    have h0 : ops[k]? = some o := by simpa using (hl 0 (by simp)).symm
    rw [List.length_cons] at hk
    rw [show (o :: l).length + 2 = (l.length + 2) + 1 from rfl, Region.lexHead] at hB
    simp only [Bool.and_eq_true] at hB
    have hkn : k < m + 2 := by omega
    have hr : k ∈ Region.ready md ops done := by simpa using hB.1.1
    obtain ⟨v, hy, hK⟩ := h
    have hsz : k < done.size := by rw [inv.size]; exact (Array.getElem?_eq_some_iff.1 h0).1
    rw [show (o :: l).length + 2 = (l.length + 2) + 1 from rfl]
    refine headV_first hm hdm hmb hdb h0 (by omega) (by omega) (Region.noSelect_spec hsel) hs hc hn hkn (fun _ _ hL => seqB_ready hL.1) (l.length + 2) done a inv (Region.free_spec h0 hB.1.2) hr hy (ih (k + 1) _ _ ?_ (by omega) (inv.set hr hkn) ?_ hB.2 hK)
    · intro j hj
      have := hl (j + 1) (by simp; omega)
      simpa [Nat.add_assoc, Nat.add_comm 1 j] using this
    · intro j hj
      by_cases e : j = k
      · subst e; simp [hsz]
      · rw [getD_set_ne true (Ne.symm e)]; exact hd j (by omega)

/-- All but two operations have other temporaries than ta and tb. -/
def offDst2 (ta tb m : Nat) (l : List Oper) : Bool := (List.range l.length).all fun i => i == m || i == m + 1 || (decide ((l[i]?.bind (·.dst)) ≠ some ta) && decide ((l[i]?.bind (·.dst)) ≠ some tb))

theorem wp_region_float2 {id : Nat} {Q : Exit → Act → World → Prop} {a : Act} {w : World} {l : List Oper} (m ta tb s : Nat) (za zb : Obj) (om ob : Oper) (hmo : P.follows .mixedOrders = true) (hB : Region.lexTailB .any l.toArray (m + 2) = true) (hm : l[m]? = some om) (hgd : om.guard = none) (hdm : om.dst = some ta) (hmb : l[m + 1]? = some ob) (hgb : ob.guard = none) (hdb : ob.dst = some tb) (hab : ta ≠ tb)
    (hal : ∀ (a : Act) (w : World), (execOp a.eval om).run P w = .ok (.value (ptrTo w.heap.size)) (w.alloc za)) (hbl : ∀ (a : Act) (w : World), (execOp a.eval ob).run P w = .ok (.value (ptrTo w.heap.size)) (w.alloc zb)) (hoff : offDst2 ta tb m l = true) (hown : ownDst s (l.take m) = true) (hs : a.tmps.size = s) (hta : a.tmps[ta]? = some undef) (htb : a.tmps[tb]? = some undef)
    (h : ∃ af, (∀ w1, Below w.heap.size w w1 → ∀ K : Act → Prop, K af → wpQuiet P l.toArray (fun w' => ∃ x : Later w1, w' = x.w) K (l.take m) a) ∧
      ∀ (b c : Nat) (w' : World), w.heap.size ≤ b → w.heap.size ≤ c → b ≠ c → Below w.heap.size w w' → w'.heap[b]? = some za → w'.heap[c]? = some zb → wpList P l.toArray Q (l.drop (m + 2)) ((af.put (some ta) (ptrTo b)).put (some tb) (ptrTo c)) w') :
    (Code.region id l.toArray true).wp P Q a w := by
  refine wp_region_any hmo ?_
  obtain ⟨af, h1', h2⟩ := h
  have h1 := fun w1 hb => h1' w1 hb (fun a' => a' = af) rfl
  simp only [Region.lexTailB, Bool.and_eq_true, decide_eq_true_eq] at hB
  obtain ⟨⟨⟨⟨hsel, hn⟩, hsk⟩, hc⟩, hlex⟩ := hB
  have hn' : m + 2 < l.length := by simpa using hn
  have htl : (l.take m).length = m := by simp; omega
  have hdl : (l.drop (m + 2)).length = l.toArray.size - (m + 2) := by simp
  have hm' : l.toArray[m]? = some om := by simpa using hm
  have hmb' : l.toArray[m + 1]? = some ob := by simpa using hmb
  have inv0 : HeadInv .any l.toArray (m + 2) (Array.replicate l.toArray.size false) :=
    ⟨by simp, fun j oj _ hl => (by rw [getD_replicate_false] at hl; cases hl), fun t _ ht => getD_in (by simpa using ht) (getD_replicate_false _ _)⟩
  have hW := walkG_of (K := fun a' => ∀ b c, w.heap.size ≤ b → w.heap.size ≤ c → (fun a'' => ∃ b c, a'' = (af.put (some ta) (ptrTo b)).put (some tb) (ptrTo c)) ((a'.put (some ta) (ptrTo b)).put (some tb) (ptrTo c))) (fun b c _ _ => ⟨b, c, rfl⟩) (l.take m) a hs hown h1
  have H := headV_lex (md := .any) (g := l.toArray.size - (m + 2)) (Lq := fun a'' => ∃ b c, a'' = (af.put (some ta) (ptrTo b)).put (some tb) (ptrTo c)) hm' hdm hmb' hdb hab hsel hsk hc hn (l.take m) 0 _ a (fun j hj => by
    rw [htl] at hj
    simp [hj]) (by simpa using htl) inv0 (fun j hj => absurd hj (Nat.not_lt_zero _)) (by rw [htl]; exact hlex) hW
  have hta' : ta < a.tmps.size := (Array.getElem?_eq_some_iff.1 hta).1
  have htb' : tb < a.tmps.size := (Array.getElem?_eq_some_iff.1 htb).1
  have hasz : af.tmps.size = s := by
    have key : ∀ (l' : List Oper) (a' : Act), wpQuiet P l.toArray (fun w' => ∃ x : Later w, w' = x.w) (fun a' => a' = af) l' a' → af.tmps.size = a'.tmps.size := by
      intro l'
      induction l' with
      | nil => intro a' h; rw [← (show a' = af from h)]
      | cons o l' ih =>
        intro a' h
        simp only [wpQuiet] at h
        split at h
        · obtain ⟨v, _, hK⟩ := h
          rw [ih _ hK]
          cases o.dst <;> simp [Act.put]
        · rw [ih _ h]
          cases o.dst <;> simp [Act.put]
    rw [key _ _ (h1 w (Below.refl _ w)), hs]
  have hdst : ∀ i o, i ≠ m → i ≠ m + 1 → l.toArray[i]? = some o → o.dst ≠ some ta ∧ o.dst ≠ some tb := fun i o hi hi2 ho => by
    have hil : i < l.length := by have := (Array.getElem?_eq_some_iff.1 ho).1; simpa using this
    have := List.all_eq_true.1 hoff i (by simpa using hil)
    have ho' : l[i]? = some o := by simpa using ho
    simpa [ho', hi, hi2] using this
  have hne : (some ta : Option Tmp) ≠ some tb := fun e => hab (Option.some.inj e)
  have := headV_any (Q := Q) (za := za) (zb := zb) (g := l.toArray.size - (m + 2)) hm' hgd hdm hmb' hgb hdb hab hal hbl hdst (fun done a' w' hw' hL => by
    obtain ⟨hq, b, c, rfl⟩ := hL
    have eb : ((af.put (some ta) (ptrTo b)).put (some tb) (ptrTo c)).tmps[ta]? = some (ptrTo b) := by
      rw [put_other (Ne.symm hne)]
      simp [Act.put, hasz, ← hs, hta']
    have ec : ((af.put (some ta) (ptrTo b)).put (some tb) (ptrTo c)).tmps[tb]? = some (ptrTo c) := by
      simp [Act.put, hasz, ← hs, htb']
    have hfa := hw'.2.1 b eb
    have hfb := hw'.2.2.1 c ec
    have := wpAny_of_seq (md := .any) (Q' := Q) (l.drop (m + 2)) (m + 2) done _ w' (fun j => by simp [List.getElem?_drop]) (by rw [hdl]; exact hq) (h2 b c w' hfa.1 hfb.1 (hw'.2.2.2 b c eb ec) hw'.1 hfa.2 hfb.2)
    rwa [hdl] at this) _ _ _ { w with drawn := w.drawn + 1 } ⟨(Below.refl _ w).drew, fun b hb => (by rw [hta] at hb; cases hb), fun b hb => (by rw [htb] at hb; cases hb), fun b c hb => (by rw [hta] at hb; cases hb)⟩ H
  rw [htl, show m + 2 + (l.toArray.size - (m + 2)) = l.toArray.size by omega] at this
  exact this
end

end Go.Proofs.YtbjgbgchagfokaaGreat

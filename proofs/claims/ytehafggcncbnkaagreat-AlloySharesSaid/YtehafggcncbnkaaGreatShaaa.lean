/- A region that draws its order, in which a variable is made at whatever moment, whose slot held something before (in a loop's later rounds). It imports nothing of the program. -/
import Derived.StillTail
import Derived.Test.YtehafggcncbnkaaGreatBasaa
import Derived.Test.YtehafggcncbnkaaGreatBasaf
import Derived.Test.YtehafggcncbnkaaGreatBasar
import Derived.Test.YtehafggcncbnkaaGreatBasau
import Derived.Test.YtehafggcncbnkaaGreatBasas
namespace Go.Proofs.YtehafggcncbnkaaGreat
open Go Go.RowKit

section
variable {P : Program} {ops : Array Oper} {md : Region.Mode} {w0 : World}

/-- All that lay there lies as it lay; the variable, once it is made, is as it was made. -/
def Fresh3 (w0 : World) (m ta : Nat) (z : Obj) (done : Array Bool) (a : Act) (w : World) : Prop :=
  Below w0.heap.size w0 w ∧ (done.getD m false = true → ∀ b, a.tmps[ta]? = some (ptrTo b) → w0.heap.size ≤ b ∧ w.heap[b]? = some z)

theorem headG_any3 {n m ta g : Nat} {z : Obj} {om : Oper} {L : Array Bool → Act → Prop} {Q : Exit → Act → World → Prop} (hm : ops[m]? = some om) (hgd : om.guard = none) (hdm : om.dst = some ta)
    (hal : ∀ (a : Act) (w : World), (execOp a.eval om).run P w = .ok (.value (ptrTo w.heap.size)) (w.alloc z)) (hdst : ∀ i o, i ≠ m → ops[i]? = some o → o.dst ≠ some ta)
    (hL : ∀ done a w, Fresh3 w0 m ta z done a w → L done a → wpAny P md ops Q g done a w) :
    ∀ (f : Nat) (done : Array Bool) (a : Act) (w : World), Fresh3 w0 m ta z done a w → HeadG P md ops w0 n m ta L f done a → wpAny P md ops Q (f + g) done a w := by
  intro f
  induction f with
  | zero => intro done a w hw h; rw [Nat.zero_add]; exact hL _ _ _ hw h
  | succ f ih =>
    intro done a w hw h
    rw [Nat.succ_add]
    refine ⟨fun e => absurd e h.1, fun i hi => ?_⟩
    rcases (h.2 i hi).2 with ⟨rfl, hb⟩ | ⟨hne, o, v, ho, hg, hK⟩
    · unfold wpOp
      simp only [hm]
      rw [if_pos (by simp [Region.wanted, hgd])]
      refine .inl ?_
      unfold Oper.wp
      rw [hal, Oper.upon_value, hdm]
      refine ih _ _ _ ⟨hw.1.alloc hw.1.size z, fun _ b hb' => ?_⟩ (hb _ hw.1.size)
      by_cases hlt : ta < a.tmps.size
      · simp [Act.put, hlt] at hb'
        subst hb'
        exact ⟨hw.1.size, World.alloc_heap_new w z⟩
      · simp [Act.put, hlt] at hb'
    · have fr : ∀ w'', Below w.heap.size w w'' → Fresh3 w0 m ta z (done.setIfInBounds i true) (a.put o.dst v) w'' := fun w'' hb => ⟨hw.1.trans (hb.mono hw.1.size), fun hdn b hb' => by
        rw [getD_set_ne false hne] at hdn
        rw [put_other (hdst i o hne ho)] at hb'
        have := hw.2 hdn b hb'
        exact ⟨this.1, (hb.block b (Array.getElem?_eq_some_iff.1 this.2).1).trans this.2⟩⟩
      unfold wpOp
      simp only [ho]
      rcases hg with ⟨hwt, hg⟩ | ⟨hwt, rfl⟩
      · rw [if_pos hwt]
        refine .inl ?_
        have h3 := hg w hw.1
        unfold Oper.wp
        generalize (execOp a.eval o).run P w = r at h3 ⊢
        cases r with
        | ok x w' =>
          cases x <;> simp only [growUpon] at h3 <;> simp only [Oper.upon]
          case value u =>
            obtain ⟨e1, e2⟩ := h3
            rw [e1, e2]
            exact ih _ _ _ (fr w (Below.refl _ _)) hK
          case skip =>
            obtain ⟨e1, e2⟩ := h3
            rw [e1, ← e2]
            exact ih _ _ _ (fr w (Below.refl _ _)) hK
          case enter f' args =>
            obtain ⟨e1, hc⟩ := h3
            rw [e1]
            exact hc.mono fun e w'' ⟨he, hb⟩ => by subst he; exact ih _ _ _ (fr w'' hb) hK
        | halt x w' => simp only [growUpon] at h3
      · rw [if_neg (by simp [hwt])]
        exact ih _ _ _ (fr w (Below.refl _ _)) hK

theorem headG_lex3 {m ta g : Nat} {om : Oper} {Lq : Act → Prop} (hm : ops[m]? = some om) (hdm : om.dst = some ta) (hsel : Region.noSelect ops = true) (hs : Region.sinkB md ops (m + 1) = true) (hc : Region.chainB md ops (m + 1) = true) (hn : m + 1 < ops.size) :
    ∀ (l : List Oper) (k : Nat) (done : Array Bool) (a : Act), (∀ j, j < l.length → l[j]? = ops[k + j]?) → k + l.length = m → HeadInv md ops (m + 1) done → (∀ j, j < k → done.getD j true = true) →
    Region.lexHead md ops g (l.length + 1) k done = true → WalkG P ops w0 (fun a' => ∀ b, w0.heap.size ≤ b → Lq (a'.put (some ta) (ptrTo b))) l a →
    HeadG P md ops w0 (m + 1) m ta (fun done' a' => Region.seqB md ops g (m + 1) done' = true ∧ Lq a' ∧ done'.getD m false = true) (l.length + 1) done a := by
  intro l
  induction l with
  | nil =>
    intro k done a _ hk inv hd hB h
    obtain rfl : k = m := by simpa using hk
    simp only [List.length_nil, Region.lexHead, Bool.and_eq_true] at hB
    have hr : k ∈ Region.ready md ops done := by simpa using hB.1.1
    have open_ := (mem_ready.1 hr).1
    refine ⟨List.ne_nil_of_mem hr, fun j hj => ?_⟩
    have hjn : j < k + 1 := Nat.lt_of_not_le fun h => tail_waits hs hc hn inv _ k rfl (Nat.lt_succ_self k) open_ j h hj
    obtain rfl : j = k := by
      rcases Nat.lt_or_ge j k with h | h
      · have h1 := hd j h
        rw [(mem_ready.1 hj).1] at h1
        cases h1
      · omega
    have hsz : j < done.size := by rw [inv.size]; omega
    exact ⟨hjn, .inl ⟨rfl, fun b hb => ⟨hB.2, h b hb, by simp [hsz]⟩⟩⟩
  | cons o l ih =>
    intro k done a hl hk inv hd hB h
    have h0 : ops[k]? = some o := by simpa using (hl 0 (by simp)).symm
    rw [List.length_cons] at hk
    rw [List.length_cons, Region.lexHead] at hB
    simp only [Bool.and_eq_true] at hB
    have hkn : k < m + 1 := by omega
    have hr : k ∈ Region.ready md ops done := by simpa using hB.1.1
    obtain ⟨v, hy, hK⟩ := h
    have hsz : k < done.size := by rw [inv.size]; exact (Array.getElem?_eq_some_iff.1 h0).1
    refine headG_first hm hdm h0 (by omega) (Region.noSelect_spec hsel) hs hc hn hkn (fun _ _ hL => seqB_ready hL.1) (l.length + 1) done a inv (Region.free_spec h0 hB.1.2) hr hy (ih (k + 1) _ _ ?_ (by omega) (inv.set hr hkn) ?_ hB.2 hK)
    · intro j hj
      have := hl (j + 1) (by simp; omega)
      simpa [Nat.add_assoc, Nat.add_comm 1 j] using this
    · intro j hj
      by_cases e : j = k
      · subst e; simp [hsz]
      · rw [getD_set_ne true (Ne.symm e)]; exact hd j (by omega)

theorem any_float3 {Q : Exit → Act → World → Prop} {a : Act} {w : World} {l : List Oper} (m ta s : Nat) (z : Obj) (om : Oper) (hB : Region.lexTailB .any l.toArray (m + 1) = true) (hm : l[m]? = some om) (hgd : om.guard = none) (hdm : om.dst = some ta)
    (hal : ∀ (a : Act) (w : World), (execOp a.eval om).run P w = .ok (.value (ptrTo w.heap.size)) (w.alloc z)) (hoff : offDst ta m l = true) (hown : ownDst s (l.take m) = true) (hs : a.tmps.size = s) (hta' : ta < a.tmps.size)
    (h : ∃ af, (∀ w1, Below w.heap.size w w1 → ∀ K : Act → Prop, K af → wpQuiet P l.toArray (fun w' => ∃ x : Later w1, w' = x.w) K (l.take m) a) ∧
      ∀ (b : Nat) (w' : World), w.heap.size ≤ b → Below w.heap.size w w' → w'.heap[b]? = some z → wpList P l.toArray Q (l.drop (m + 1)) (af.put (some ta) (ptrTo b)) w') :
    wpAny P .any l.toArray Q l.toArray.size (Array.replicate l.toArray.size false) a { w with drawn := w.drawn + 1 } := by
  obtain ⟨af, h1', h2⟩ := h
  have h1 := fun w1 hb => h1' w1 hb (fun a' => a' = af) rfl
  simp only [Region.lexTailB, Bool.and_eq_true, decide_eq_true_eq] at hB
  obtain ⟨⟨⟨⟨hsel, hn⟩, hsk⟩, hc⟩, hlex⟩ := hB
  have hn' : m + 1 < l.length := by simpa using hn
  have htl : (l.take m).length = m := by simp; omega
  have hdl : (l.drop (m + 1)).length = l.toArray.size - (m + 1) := by simp
  have hm' : l.toArray[m]? = some om := by simpa using hm
  have inv0 : HeadInv .any l.toArray (m + 1) (Array.replicate l.toArray.size false) :=
    ⟨by simp, fun j oj _ hl => (by rw [getD_replicate_false] at hl; cases hl), fun t _ ht => getD_in (by simpa using ht) (getD_replicate_false _ _)⟩
  have hW := walkG_of (K := fun a' => ∀ b, w.heap.size ≤ b → (fun a'' => ∃ b, a'' = af.put (some ta) (ptrTo b)) (a'.put (some ta) (ptrTo b))) (fun b _ => ⟨b, rfl⟩) (l.take m) a hs hown h1
  have H := headG_lex3 (md := .any) (g := l.toArray.size - (m + 1)) (Lq := fun a'' => ∃ b, a'' = af.put (some ta) (ptrTo b)) hm' hdm hsel hsk hc hn (l.take m) 0 _ a (fun j hj => by
    rw [htl] at hj
    simp [hj]) (by simpa using htl) inv0 (fun j hj => absurd hj (Nat.not_lt_zero _)) (by rw [htl]; exact hlex) hW
  have hsz : ∀ {w1}, Below w.heap.size w w1 → wpQuiet P l.toArray (fun w' => ∃ x : Later w1, w' = x.w) (fun a' => a' = af) (l.take m) a → af.tmps.size = s := fun {w1} hb hq => by
    have key : ∀ (l' : List Oper) (a' : Act), wpQuiet P l.toArray (fun w' => ∃ x : Later w1, w' = x.w) (fun a' => a' = af) l' a' → af.tmps.size = a'.tmps.size := by
      intro l'
      induction l' with
      | nil => intro a' h; rw [← (show a' = af from h)]
      | cons o l' ih =>
        intro a' h
        simp only [wpQuiet] at h
        split at h
        · obtain ⟨v, _, hK⟩ := h
          rw [ih _ hK]
          cases o.dst <;> simp [Act.put]
        · rw [ih _ h]
          cases o.dst <;> simp [Act.put]
    rw [key _ _ hq, hs]
  have hasz := hsz (Below.refl _ w) (h1 w (Below.refl _ w))
  have hdst : ∀ i o, i ≠ m → l.toArray[i]? = some o → o.dst ≠ some ta := fun i o hi ho => by
    have hil : i < l.length := by have := (Array.getElem?_eq_some_iff.1 ho).1; simpa using this
    have := List.all_eq_true.1 hoff i (by simpa using hil)
    have ho' : l[i]? = some o := by simpa using ho
    simpa [ho', hi] using this
  have := headG_any3 (Q := Q) (z := z) (g := l.toArray.size - (m + 1)) hm' hgd hdm hal hdst (fun done a' w' hw' hL => by
    obtain ⟨hq, ⟨b, rfl⟩, hdn⟩ := hL
    have hf := hw'.2 hdn b (by simp [Act.put, hasz, ← hs, hta'])
    have := wpAny_of_seq (md := .any) (Q' := Q) (l.drop (m + 1)) (m + 1) done _ w' (fun j => by simp [List.getElem?_drop]) (by rw [hdl]; exact hq) (h2 b w' hf.1 hw'.1 hf.2)
    rwa [hdl] at this) _ _ _ { w with drawn := w.drawn + 1 } ⟨(Below.refl _ w).drew, fun hdn => (by rw [getD_replicate_false] at hdn; cases hdn)⟩ H
  rw [htl, show m + 1 + (l.toArray.size - (m + 1)) = l.toArray.size by omega] at this
  exact this


theorem wp_region_float3 {id : Nat} {Q : Exit → Act → World → Prop} {a : Act} {w : World} {l : List Oper} (m ta s : Nat) (z : Obj) (om : Oper) (hmo : P.follows .mixedOrders = true) (hB : Region.lexTailB .any l.toArray (m + 1) = true) (hm : l[m]? = some om) (hgd : om.guard = none) (hdm : om.dst = some ta)
    (hal : ∀ (a : Act) (w : World), (execOp a.eval om).run P w = .ok (.value (ptrTo w.heap.size)) (w.alloc z)) (hoff : offDst ta m l = true) (hown : ownDst s (l.take m) = true) (hs : a.tmps.size = s) (hta : ta < a.tmps.size)
    (h : ∃ af, (∀ w1, Below w.heap.size w w1 → ∀ K : Act → Prop, K af → wpQuiet P l.toArray (fun w' => ∃ x : Later w1, w' = x.w) K (l.take m) a) ∧
      ∀ (b : Nat) (w' : World), w.heap.size ≤ b → Below w.heap.size w w' → w'.heap[b]? = some z → wpList P l.toArray Q (l.drop (m + 1)) (af.put (some ta) (ptrTo b)) w') :
    (Code.region id l.toArray true).wp P Q a w :=
  wp_region_any hmo (any_float3 m ta s z om hB hm hgd hdm hal hoff hown hs hta h)
end

end Go.Proofs.YtehafggcncbnkaaGreat

namespace Go.Proofs.YtehafggcncbnkaaGreat
open Go Go.RowKit

/-- Some parts of a mixture, without their signs. -/
def putK (a : Nat → Nat) (p : Nat → Int) : Nat → Nat → Int
  | 0 => fun _ => 0
  | i + 1 => upd (putK a p i) (a i) (max (p i) (-(p i)))
def lowK (p : Nat → Int) : Nat → Int
  | 0 => 0
  | i + 1 => min (lowK p i) (p i)
def highK (p : Nat → Int) : Nat → Int
  | 0 => 0
  | i + 1 => max (highK p i) (p i)
/-- Parts of both signs, or none. -/
def putB (p : Nat → Int) (k : Nat) : Bool := decide ((lowK p k < 0 ∧ 0 < highK p k) ∨ (lowK p k = 0 ∧ highK p k = 0))
def putR (a : Nat → Nat) (p : Nat → Int) (k : Nat) : Option (Nat → Int) := if putB p k then none else some (putK a p k)
def pick3 {α : Type} (x y z : α) : Nat → α
  | 0 => x
  | 1 => y
  | _ => z
def spL (s : Bool) (l : Int) (q : M5) : Int := bad s q - l
def spC (s : Bool) (c : Int) (q : M5) : Int := c - good s q
/-- The mixtures that are gone through. -/
def edge1 (i : Nat) : Option (Nat → Int) := putR (pick3 i i i) (pick3 1 1 1) 1
def edge2 (i k : Nat) (x y : Int) : Option (Nat → Int) := putR (pick3 i k k) (pick3 x (-y) (-y)) 2
def edge3 (i k j : Nat) (li ci lk ck lj cj : Int) : Option (Nat → Int) := putR (pick3 i k j) (pick3 (lk * cj - ck * lj) (lj * ci - cj * li) (li * ck - ci * lk)) 3
def edgeJ (L C : Nat → Int) (i k j : Nat) : Option (Nat → Int) := edge3 i k j (L i) (C i) (L k) (C k) (L j) (C j)
def edgesJ (L C : Nat → Int) (i k : Nat) : Nat → List (Option (Nat → Int))
  | 0 => []
  | j + 1 => edgesJ L C i k j ++ [edgeJ L C i k j]
def edgesK (L C : Nat → Int) (i : Nat) : Nat → List (Option (Nat → Int))
  | 0 => []
  | k + 1 => (edgesK L C i k ++ [edge2 i k (L k) (L i), edge2 i k (C k) (C i)]) ++ edgesJ L C i k k
def edgesI (L C : Nat → Int) : Nat → List (Option (Nat → Int))
  | 0 => []
  | i + 1 => (edgesI L C i ++ [edge1 i]) ++ edgesK L C i i
def goodO (s : Bool) (n : Nat) (m : Nat → M5) (l c : Int) : Option (Nat → Int) → List (Nat → Int)
  | none => []
  | some f => if goodB s n m l c f then [f] else []
def edgeO (s : Bool) (n : Nat) (m : Nat → M5) (l c : Int) : List (Option (Nat → Int)) → List (Nat → Int)
  | [] => []
  | o :: r => goodO s n m l c o ++ edgeO s n m l c r
def edgesA (n : Nat) (m : Nat → M5) (l c : Int) (s : Bool) : List (Option (Nat → Int)) := edgesI (fun i => spL s l (m i)) (fun i => spC s c (m i)) n
def edgeL (n : Nat) (m : Nat → M5) (l c : Int) (s : Bool) : List (Nat → Int) := edgeO s n m l c (edgesA n m l c s)

theorem edgeO_snoc (s : Bool) (n : Nat) (m : Nat → M5) (l c : Int) (o : Option (Nat → Int)) : ∀ r, edgeO s n m l c (r ++ [o]) = edgeO s n m l c r ++ goodO s n m l c o
  | [] => by simp [edgeO]
  | x :: r => by simp [edgeO, edgeO_snoc s n m l c o r]
theorem mem_edgeO {s : Bool} {n : Nat} {m : Nat → M5} {l c : Int} {f : Nat → Int} : ∀ {r : List (Option (Nat → Int))}, f ∈ edgeO s n m l c r ↔ some f ∈ r ∧ goodB s n m l c f = true
  | [] => by simp [edgeO]
  | o :: r => by
    simp only [edgeO, List.mem_append, mem_edgeO (r := r), List.mem_cons]
    cases o with
    | none => simp [goodO]
    | some g =>
      simp only [goodO, Option.some.injEq]
      by_cases e : goodB s n m l c g = true
      · rw [if_pos e]
        constructor
        · rintro (h | h)
          · rw [List.mem_singleton] at h
            subst h
            exact ⟨.inl rfl, e⟩
          · exact ⟨.inr h.1, h.2⟩
        · rintro ⟨h | h, h2⟩
          · subst h
            exact .inl (List.mem_singleton.2 rfl)
          · exact .inr ⟨h, h2⟩
      · rw [if_neg e]
        constructor
        · rintro (h | h)
          · simp at h
          · exact ⟨.inr h.1, h.2⟩
        · rintro ⟨h | h, h2⟩
          · subst h
            exact absurd h2 e
          · exact .inr ⟨h, h2⟩

/-- What is gone through. -/
inductive IsEdge (L C : Nat → Int) (n : Nat) : Option (Nat → Int) → Prop
  | one (i : Nat) (hi : i < n) : IsEdge L C n (edge1 i)
  | lead (i k : Nat) (hk : k < i) (hi : i < n) : IsEdge L C n (edge2 i k (L k) (L i))
  | copper (i k : Nat) (hk : k < i) (hi : i < n) : IsEdge L C n (edge2 i k (C k) (C i))
  | three (i k j : Nat) (hj : j < k) (hk : k < i) (hi : i < n) : IsEdge L C n (edgeJ L C i k j)
theorem mem_edgesJ {L C : Nat → Int} {i k : Nat} {o : Option (Nat → Int)} : ∀ {j}, o ∈ edgesJ L C i k j ↔ ∃ x, x < j ∧ o = edgeJ L C i k x
  | 0 => by simp [edgesJ]
  | j + 1 => by
    simp only [edgesJ, List.mem_append, mem_edgesJ (j := j), List.mem_singleton]
    constructor
    · rintro (⟨x, h, e⟩ | e)
      · exact ⟨x, by omega, e⟩
      · exact ⟨j, by omega, e⟩
    · rintro ⟨x, h, e⟩
      by_cases hx : x = j
      · subst hx; exact .inr e
      · exact .inl ⟨x, by omega, e⟩
theorem mem_edgesK {L C : Nat → Int} {i : Nat} {o : Option (Nat → Int)} : ∀ {k}, o ∈ edgesK L C i k ↔ ∃ y, y < k ∧ (o = edge2 i y (L y) (L i) ∨ o = edge2 i y (C y) (C i) ∨ ∃ x, x < y ∧ o = edgeJ L C i y x)
  | 0 => by simp [edgesK]
  | k + 1 => by
    simp only [edgesK, List.mem_append, mem_edgesK (k := k), mem_edgesJ, List.mem_cons, List.not_mem_nil, or_false]
    constructor
    · rintro ((⟨y, h, e⟩ | e | e) | ⟨x, h, e⟩)
      · exact ⟨y, by omega, e⟩
      · exact ⟨k, by omega, .inl e⟩
      · exact ⟨k, by omega, .inr (.inl e)⟩
      · exact ⟨k, by omega, .inr (.inr ⟨x, h, e⟩)⟩
    · rintro ⟨y, h, e⟩
      by_cases hy : y = k
      · subst hy
        rcases e with e | e | e
        · exact .inl (.inr (.inl e))
        · exact .inl (.inr (.inr e))
        · exact .inr e
      · exact .inl (.inl ⟨y, by omega, e⟩)
theorem mem_edgesI {L C : Nat → Int} {o : Option (Nat → Int)} : ∀ {n}, o ∈ edgesI L C n ↔ IsEdge L C n o
  | 0 => by
    simp only [edgesI, List.not_mem_nil, false_iff]
    intro h
    cases h <;> omega
  | n + 1 => by
    simp only [edgesI, List.mem_append, mem_edgesI (n := n), mem_edgesK, List.mem_singleton]
    constructor
    · rintro ((h | e) | ⟨y, hy, e | e | ⟨x, hx, e⟩⟩)
      · cases h with
        | one i hi => exact .one i (by omega)
        | lead i k hk hi => exact .lead i k hk (by omega)
        | copper i k hk hi => exact .copper i k hk (by omega)
        | three i k j hj hk hi => exact .three i k j hj hk (by omega)
      · subst e; exact .one n (by omega)
      · subst e; exact .lead n y hy (by omega)
      · subst e; exact .copper n y hy (by omega)
      · subst e; exact .three n y x hx hy (by omega)
    · intro h
      cases h with
      | one i hi =>
        by_cases e : i = n
        · subst e; exact .inl (.inr rfl)
        · exact .inl (.inl (.one i (by omega)))
      | lead i k hk hi =>
        by_cases e : i = n
        · subst e; exact .inr ⟨k, hk, .inl rfl⟩
        · exact .inl (.inl (.lead i k hk (by omega)))
      | copper i k hk hi =>
        by_cases e : i = n
        · subst e; exact .inr ⟨k, hk, .inr (.inl rfl)⟩
        · exact .inl (.inl (.copper i k hk (by omega)))
      | three i k j hj hk hi =>
        by_cases e : i = n
        · subst e; exact .inr ⟨k, hk, .inr (.inr ⟨j, hj, rfl⟩)⟩
        · exact .inl (.inl (.three i k j hj hk (by omega)))

theorem low_le0 (p : Nat → Int) : ∀ k, lowK p k ≤ 0
  | 0 => Int.le_refl _
  | k + 1 => by have := low_le0 p k; simp only [lowK]; omega
theorem high_ge0 (p : Nat → Int) : ∀ k, 0 ≤ highK p k
  | 0 => Int.le_refl _
  | k + 1 => by have := high_ge0 p k; simp only [highK]; omega
theorem low_lt {p : Nat → Int} {t : Nat} : ∀ {k}, t < k → lowK p k ≤ p t
  | 0, h => by omega
  | k + 1, h => by
    simp only [lowK]
    by_cases e : t = k
    · subst e; omega
    · have := low_lt (p := p) (t := t) (k := k) (by omega); omega
theorem high_gt {p : Nat → Int} {t : Nat} : ∀ {k}, t < k → p t ≤ highK p k
  | 0, h => by omega
  | k + 1, h => by
    simp only [highK]
    by_cases e : t = k
    · subst e; omega
    · have := high_gt (p := p) (t := t) (k := k) (by omega); omega
theorem low_zero {p : Nat → Int} : ∀ {k}, (∀ t, t < k → 0 ≤ p t) → lowK p k = 0
  | 0, _ => rfl
  | k + 1, h => by
    have h1 := low_zero (p := p) (k := k) fun t ht => h t (by omega)
    have h2 := h k (by omega)
    simp only [lowK]; omega
theorem high_zero {p : Nat → Int} : ∀ {k}, (∀ t, t < k → p t ≤ 0) → highK p k = 0
  | 0, _ => rfl
  | k + 1, h => by
    have h1 := high_zero (p := p) (k := k) fun t ht => h t (by omega)
    have h2 := h k (by omega)
    simp only [highK]; omega
theorem putB_up {p : Nat → Int} {k t : Nat} (h : ∀ t, t < k → 0 ≤ p t) (ht : t < k) (hp : 0 < p t) : putB p k = false := by
  have h1 := low_zero h
  have h2 := high_gt (p := p) ht
  exact decide_eq_false (by omega)
theorem putB_down {p : Nat → Int} {k t : Nat} (h : ∀ t, t < k → p t ≤ 0) (ht : t < k) (hp : p t < 0) : putB p k = false := by
  have h1 := high_zero h
  have h2 := low_lt (p := p) ht
  exact decide_eq_false (by omega)
theorem putB_some {p : Nat → Int} {k : Nat} (h : putB p k = false) : ∃ t, t < k ∧ p t ≠ 0 := by
  have h0 := of_decide_eq_false h
  by_cases e : ∃ t, t < k ∧ p t ≠ 0
  · exact e
  · have h1 : ∀ t, t < k → p t = 0 := fun t ht => by
      by_cases h2 : p t = 0
      · exact h2
      · exact absurd ⟨t, ht, h2⟩ e
    have h2 := low_zero (p := p) (k := k) fun t ht => by have := h1 t ht; omega
    have h3 := high_zero (p := p) (k := k) fun t ht => by have := h1 t ht; omega
    omega
theorem putK_bd {a : Nat → Nat} {p : Nat → Int} {B : Int} (hB : 0 ≤ B) : ∀ {k}, (∀ t, t < k → -B ≤ p t ∧ p t ≤ B) → ∀ x, 0 ≤ putK a p k x ∧ putK a p k x ≤ B
  | 0, _, x => by simp [putK, hB]
  | k + 1, h, x => by
    have h1 := putK_bd (a := a) (p := p) hB (k := k) (fun t ht => h t (by omega)) x
    have h2 := h k (by omega)
    simp only [putK, upd]
    split <;> omega
theorem putK_at {a : Nat → Nat} {p : Nat → Int} {t : Nat} : ∀ {k}, (∀ i j, i < k → j < k → a i = a j → i = j) → t < k → putK a p k (a t) = max (p t) (-(p t))
  | 0, _, h => by omega
  | k + 1, ha, h => by
    simp only [putK, upd]
    by_cases e : t = k
    · subst e; rw [if_pos rfl]
    · rw [if_neg fun h2 => e (ha t k h (by omega) h2)]
      exact putK_at (fun i j hi hj => ha i j (by omega) (by omega)) (by omega)
theorem sum_pos {f : Nat → Int} {n x : Nat} (h : ∀ i, i < n → 0 ≤ f i) (hx : x < n) (hp : 0 < f x) : 0 < sumF f n := by
  have h1 := sumF_nonneg h
  by_cases e : sumF f n = 0
  · have := sumZ_all h e x hx
    omega
  · omega
theorem put_good {a : Nat → Nat} {p : Nat → Int} {k n : Nat} {f : Nat → Int} {B : Int} (hB : 0 ≤ B) (h : putR a p k = some f) (hp : ∀ t, t < k → -B ≤ p t ∧ p t ≤ B) (ha : ∀ i j, i < k → j < k → a i = a j → i = j) (hn : ∀ i, i < k → a i < n) :
    (∀ x, 0 ≤ f x ∧ f x ≤ B) ∧ 0 < sumF f n := by
  unfold putR at h
  split at h
  · cases h
  · rename_i hb
    cases h
    have h1 := putK_bd (a := a) hB hp
    obtain ⟨t, ht, hpt⟩ := putB_some (by simpa using hb)
    refine ⟨h1, sum_pos (fun i _ => (h1 i).1) (hn t ht) ?_⟩
    rw [putK_at ha ht]
    omega

def Spare (L C : Nat → Int) (n : Nat) : Prop := ∀ i, i < n → (-1000 ≤ L i ∧ L i ≤ 1000) ∧ (-1000 ≤ C i ∧ C i ≤ 1000)
theorem edge_good {L C : Nat → Int} {n : Nat} (hS : Spare L C n) {f : Nat → Int} (h : IsEdge L C n (some f)) : (∀ x, 0 ≤ f x ∧ f x ≤ 2000000) ∧ 0 < sumF f n := by
  generalize e : some f = o at h
  cases h with
  | one i hi =>
    refine put_good (B := 2000000) (by omega) e.symm (fun t _ => ?_) (fun a b ha hb _ => by omega) fun a _ => ?_
    · unfold pick3; split <;> omega
    · unfold pick3; split <;> exact hi
  | lead i k hk hi =>
    have h1 := hS i hi
    have h2 := hS k (by omega)
    refine put_good (B := 2000000) (by omega) e.symm (fun t _ => ?_) (fun a b ha hb => ?_) fun a _ => ?_
    · unfold pick3; split <;> omega
    · have ha' : a = 0 ∨ a = 1 := by omega
      have hb' : b = 0 ∨ b = 1 := by omega
      intro h
      rcases ha' with rfl | rfl <;> rcases hb' with rfl | rfl <;> first | rfl | (simp only [pick3] at h; omega)
    · unfold pick3; split <;> omega
  | copper i k hk hi =>
    have h1 := hS i hi
    have h2 := hS k (by omega)
    refine put_good (B := 2000000) (by omega) e.symm (fun t _ => ?_) (fun a b ha hb => ?_) fun a _ => ?_
    · unfold pick3; split <;> omega
    · have ha' : a = 0 ∨ a = 1 := by omega
      have hb' : b = 0 ∨ b = 1 := by omega
      intro h
      rcases ha' with rfl | rfl <;> rcases hb' with rfl | rfl <;> first | rfl | (simp only [pick3] at h; omega)
    · unfold pick3; split <;> omega
  | three i k j hj hk hi =>
    have h1 := hS i hi
    have h2 := hS k (by omega)
    have h3 := hS j (by omega)
    have a1 := mul_k h2.1 h3.2
    have a2 := mul_k h2.2 h3.1
    have a3 := mul_k h3.1 h1.2
    have a4 := mul_k h3.2 h1.1
    have a5 := mul_k h1.1 h2.2
    have a6 := mul_k h1.2 h2.1
    refine put_good (B := 2000000) (by omega) e.symm (fun t _ => ?_) (fun a b ha hb => ?_) fun a _ => ?_
    · unfold pick3; split <;> omega
    · have ha' : a = 0 ∨ a = 1 ∨ a = 2 := by omega
      have hb' : b = 0 ∨ b = 1 ∨ b = 2 := by omega
      intro h
      rcases ha' with rfl | rfl | rfl <;> rcases hb' with rfl | rfl | rfl <;> first | rfl | (simp only [pick3] at h; omega)
    · unfold pick3; split <;> omega

theorem abs_part {p D : Int} (hp : 0 ≤ p) : max (p * D) (-(p * D)) = max D (-D) * p := by
  by_cases h : 0 ≤ D
  · have h1 := Int.mul_nonneg hp h
    rw [show max D (-D) = D by omega, Int.mul_comm D p]
    omega
  · have h1 := Int.mul_nonneg hp (show 0 ≤ -D by omega)
    rw [Int.mul_neg] at h1
    rw [show max D (-D) = -D by omega, Int.neg_mul, Int.mul_comm D p]
    omega
theorem part_sign {p D : Int} (hp : 0 ≤ p) (hD : 0 ≤ D) : 0 ≤ p * D := Int.mul_nonneg hp hD
theorem part_pos {p D : Int} (hp : 0 ≤ p) (hn : p ≠ 0) (hD : 0 < D) : 0 < p * D := Int.mul_pos (by omega) hD
theorem part_neg {p D : Int} (hp : 0 ≤ p) (hD : D ≤ 0) : p * D ≤ 0 := by
  have := Int.mul_nonneg hp (show 0 ≤ -D by omega)
  rw [Int.mul_neg] at this
  omega
theorem part_low {p D : Int} (hp : 0 ≤ p) (hn : p ≠ 0) (hD : D < 0) : p * D < 0 := by
  have := Int.mul_pos (show 0 < p by omega) (show 0 < -D by omega)
  rw [Int.mul_neg] at this
  omega
/-- Parts of one sign, not all 0, are not put away. -/
theorem put_sign {p : Nat → Int} {k t : Nat} {q : Nat → Int} {D : Int} (hD : D ≠ 0) (hq : ∀ t, t < k → 0 ≤ q t) (e : ∀ t, t < k → p t = q t * D) (ht : t < k) (hn : q t ≠ 0) : putB p k = false := by
  by_cases h : 0 < D
  · refine putB_up (t := t) (fun x hx => ?_) ht ?_
    · rw [e x hx]; exact part_sign (hq x hx) (by omega)
    · rw [e t ht]; exact part_pos (hq t ht) hn h
  · refine putB_down (t := t) (fun x hx => ?_) ht ?_
    · rw [e x hx]; exact part_neg (hq x hx) (by omega)
    · rw [e t ht]; exact part_low (hq t ht) hn (by omega)

/-- Each corner is an edge, but for a factor. -/
theorem corner_edge {n : Nat} {m : Nat → M5} {l c : Int} {s : Bool} (hn : n ≤ 6) (hF : Fine n m) (ht : 0 ≤ l ∧ l ≤ 1000 ∧ 0 ≤ c ∧ c ≤ 1000) {f : Nat → Int} (hf : f ∈ potL n m l c s) :
    ∃ F, F ∈ edgeL n m l c s ∧ ∃ d : Int, 0 < d ∧ ∀ x, x < n → F x = d * f x := by
  have hgm := pot_good hF ht hf
  have hg := corner_good hf
  obtain ⟨v1, v2⟩ := room_none n (potU s m) l c
  obtain ⟨i, j, k, hij, hjk, hk, hb, rfl⟩ := mem_corn hf
  obtain ⟨p0, p1, p2⟩ := cornB_parts hb
  obtain ⟨e0, e1, e2⟩ := parts_cross (r := roomF n (potU s m) l c) (i := i) (j := j) (k := k)
  have hne := evenD_ne (roomF n (potU s m) l c i) (roomF n (potU s m) l c j) (roomF n (potU s m) l c k)
  have h3 := fun x (hx : x < n) => mix_three (r := roomF n (potU s m) l c) (t := (i, j, k)) hij hjk hx
  have hex : ∃ x, x < n ∧ mixOf n (roomF n (potU s m) l c) (i, j, k) x ≠ 0 := by
    by_cases e : ∃ x, x < n ∧ mixOf n (roomF n (potU s m) l c) (i, j, k) x ≠ 0
    · exact e
    · have : sumF (mixOf n (roomF n (potU s m) l c) (i, j, k)) n = 0 := sumZ fun x hx => by
        by_cases h2 : mixOf n (roomF n (potU s m) l c) (i, j, k) x = 0
        · exact h2
        · exact absurd ⟨x, hx, h2⟩ e
      have := hgm.2.2
      omega
  have hr : ∀ x, x < n → roomF n (potU s m) l c x = (-(spL s l (m x)), -(spC s c (m x))) := fun x hx => by
    unfold roomF spL spC potU unitOf bad good
    rw [if_pos hx]
    cases s <;> simp <;> omega
  have fin : ∀ F, IsEdge (fun i => spL s l (m i)) (fun i => spC s c (m i)) n (some F) → ∀ d : Int, 0 < d → (∀ x, x < n → F x = d * mixOf n (roomF n (potU s m) l c) (i, j, k) x) →
      ∃ F, F ∈ edgeL n m l c s ∧ ∃ d : Int, 0 < d ∧ ∀ x, x < n → F x = d * mixOf n (roomF n (potU s m) l c) (i, j, k) x := fun F hE d hd hx => by
    refine ⟨F, mem_edgeO.2 ⟨mem_edgesI.2 hE, ?_⟩, d, hd, hx⟩
    have : goodB s n m l c F = goodB s n m l c (fun x => d * mixOf n (roomF n (potU s m) l c) (i, j, k) x) := by
      unfold goodB leadF copperF
      rw [sumC fun i hi => by rw [hx i hi], sumC (f := fun i => F i * good s (m i)) fun i hi => by rw [hx i hi], sumC (f := F) hx]
    rw [this, good_times hd]
    exact hg
  obtain ⟨q0, hq0⟩ : ∃ q, partsOf (roomF n (potU s m) l c) (i, j, k) 0 = q := ⟨_, rfl⟩
  obtain ⟨q1, hq1⟩ : ∃ q, partsOf (roomF n (potU s m) l c) (i, j, k) 1 = q := ⟨_, rfl⟩
  obtain ⟨q2, hq2⟩ : ∃ q, partsOf (roomF n (potU s m) l c) (i, j, k) 2 = q := ⟨_, rfl⟩
  obtain ⟨D, hD⟩ : ∃ D, evenD (roomF n (potU s m) l c i) (roomF n (potU s m) l c j) (roomF n (potU s m) l c k) = D := ⟨_, rfl⟩
  rw [hq0, hD] at e0
  rw [hq1, hD] at e1
  rw [hq2, hD] at e2
  rw [hq0] at p0
  rw [hq1] at p1
  rw [hq2] at p2
  rw [hD] at hne
  rw [hq0, hq1, hq2] at h3
  have hd : 0 < max D (-D) := by omega
  obtain ⟨x, hx, hxn⟩ := hex
  rw [h3 x hx] at hxn
  unfold three at hxn
  simp only at hxn
  clear hq0 hq1 hq2 hD hgm hg hf hb
  by_cases k1 : k < n
  · rw [hr j (by omega), hr k k1] at e0
    rw [hr k k1, hr i (by omega)] at e1
    rw [hr i (by omega), hr j (by omega)] at e2
    unfold crossR at e0 e1 e2
    simp only at e0 e1 e2
    have hB : putB (pick3 (spL s l (m j) * spC s c (m i) - spC s c (m j) * spL s l (m i)) (spL s l (m i) * spC s c (m k) - spC s c (m i) * spL s l (m k)) (spL s l (m k) * spC s c (m j) - spC s c (m k) * spL s l (m j))) 3 = false := by
      have key : ∀ t, t < 3 → pick3 (spL s l (m j) * spC s c (m i) - spC s c (m j) * spL s l (m i)) (spL s l (m i) * spC s c (m k) - spC s c (m i) * spL s l (m k)) (spL s l (m k) * spC s c (m j) - spC s c (m k) * spL s l (m j)) t = pick3 q2 q1 q0 t * (-D) := fun t ht => by
        have : t = 0 ∨ t = 1 ∨ t = 2 := by omega
        rcases this with rfl | rfl | rfl <;> simp only [pick3] <;> grind
      have hq : ∀ t, t < 3 → 0 ≤ pick3 q2 q1 q0 t := fun t _ => by unfold pick3; split <;> assumption
      by_cases x1 : x = i
      · rw [if_pos x1] at hxn
        exact put_sign (t := 2) (by omega) hq key (by omega) hxn
      · by_cases x2 : x = j
        · rw [if_neg x1, if_pos x2] at hxn
          exact put_sign (t := 1) (by omega) hq key (by omega) hxn
        · by_cases x3 : x = k
          · rw [if_neg x1, if_neg x2, if_pos x3] at hxn
            exact put_sign (t := 0) (by omega) hq key (by omega) hxn
          · rw [if_neg x1, if_neg x2, if_neg x3] at hxn
            exact absurd rfl hxn
    have hE := IsEdge.three (L := fun i => spL s l (m i)) (C := fun i => spC s c (m i)) (n := n) k j i hij hjk k1
    unfold edgeJ edge3 putR at hE
    rw [hB] at hE
    simp only [Bool.false_eq_true, if_false] at hE
    refine fin _ hE (max D (-D)) hd fun y hy => ?_
    rw [h3 y hy]
    simp only [putK, upd, pick3, three]
    have a0 := abs_part (D := D) p0
    have a1 := abs_part (D := D) p1
    have a2 := abs_part (D := D) p2
    by_cases y1 : y = i
    · rw [if_pos y1, if_pos y1, ← a0, show spL s l (m k) * spC s c (m j) - spC s c (m k) * spL s l (m j) = -(q0 * D) by grind]
      omega
    · rw [if_neg y1, if_neg y1]
      by_cases y2 : y = j
      · rw [if_pos y2, if_pos y2, ← a1, show spL s l (m i) * spC s c (m k) - spC s c (m i) * spL s l (m k) = -(q1 * D) by grind]
        omega
      · rw [if_neg y2, if_neg y2]
        by_cases y3 : y = k
        · rw [if_pos y3, if_pos y3, ← a2, show spL s l (m j) * spC s c (m i) - spC s c (m j) * spL s l (m i) = -(q2 * D) by grind]
          omega
        · rw [if_neg y3, if_neg y3, Int.mul_zero]
  · by_cases j1 : j < n
    · by_cases k2 : k = n
      · subst k2
        rw [hr j j1, v1] at e0
        rw [hr i (by omega), v1] at e1
        unfold crossR at e0 e1
        simp only at e0 e1
        have hB : putB (pick3 (spC s c (m i)) (-(spC s c (m j))) (-(spC s c (m j)))) 2 = false := by
          have key : ∀ t, t < 2 → pick3 (spC s c (m i)) (-(spC s c (m j))) (-(spC s c (m j))) t = pick3 q1 q0 q0 t * D := fun t ht => by
            have : t = 0 ∨ t = 1 := by omega
            rcases this with rfl | rfl <;> simp only [pick3] <;> omega
          have hq : ∀ t, t < 2 → 0 ≤ pick3 q1 q0 q0 t := fun t _ => by unfold pick3; split <;> assumption
          by_cases x1 : x = i
          · rw [if_pos x1] at hxn
            exact put_sign (t := 1) hne hq key (by omega) hxn
          · by_cases x2 : x = j
            · rw [if_neg x1, if_pos x2] at hxn
              exact put_sign (t := 0) hne hq key (by omega) hxn
            · rw [if_neg x1, if_neg x2, if_neg (by omega)] at hxn
              exact absurd rfl hxn
        have hE := IsEdge.copper (L := fun i => spL s l (m i)) (C := fun i => spC s c (m i)) (n := k) j i hij j1
        unfold edge2 putR at hE
        rw [hB] at hE
        simp only [Bool.false_eq_true, if_false] at hE
        refine fin _ hE (max D (-D)) hd fun y hy => ?_
        rw [h3 y hy]
        simp only [putK, upd, pick3, three]
        have a0 := abs_part (D := D) p0
        have a1 := abs_part (D := D) p1
        by_cases y1 : y = i
        · rw [if_pos y1, if_pos y1, ← a0, show spC s c (m j) = -(q0 * D) by omega]
          omega
        · rw [if_neg y1, if_neg y1]
          by_cases y2 : y = j
          · rw [if_pos y2, if_pos y2, ← a1, show spC s c (m i) = q1 * D by omega]
          · rw [if_neg y2, if_neg y2, if_neg (by omega), Int.mul_zero]
      · obtain rfl : k = n + 1 := by omega
        rw [hr j j1, v2] at e0
        rw [hr i (by omega), v2] at e1
        unfold crossR at e0 e1
        simp only at e0 e1
        have hB : putB (pick3 (spL s l (m i)) (-(spL s l (m j))) (-(spL s l (m j)))) 2 = false := by
          have key : ∀ t, t < 2 → pick3 (spL s l (m i)) (-(spL s l (m j))) (-(spL s l (m j))) t = pick3 q1 q0 q0 t * (-D) := fun t ht => by
            have : t = 0 ∨ t = 1 := by omega
            rcases this with rfl | rfl <;> simp only [pick3, Int.mul_neg] <;> omega
          have hq : ∀ t, t < 2 → 0 ≤ pick3 q1 q0 q0 t := fun t _ => by unfold pick3; split <;> assumption
          by_cases x1 : x = i
          · rw [if_pos x1] at hxn
            exact put_sign (t := 1) (by omega) hq key (by omega) hxn
          · by_cases x2 : x = j
            · rw [if_neg x1, if_pos x2] at hxn
              exact put_sign (t := 0) (by omega) hq key (by omega) hxn
            · rw [if_neg x1, if_neg x2, if_neg (by omega)] at hxn
              exact absurd rfl hxn
        have hE := IsEdge.lead (L := fun i => spL s l (m i)) (C := fun i => spC s c (m i)) (n := n) j i hij j1
        unfold edge2 putR at hE
        rw [hB] at hE
        simp only [Bool.false_eq_true, if_false] at hE
        refine fin _ hE (max D (-D)) hd fun y hy => ?_
        rw [h3 y hy]
        simp only [putK, upd, pick3, three]
        have a0 := abs_part (D := D) p0
        have a1 := abs_part (D := D) p1
        by_cases y1 : y = i
        · rw [if_pos y1, if_pos y1, ← a0, show spL s l (m j) = q0 * D by omega]
          omega
        · rw [if_neg y1, if_neg y1]
          by_cases y2 : y = j
          · rw [if_pos y2, if_pos y2, ← a1, show spL s l (m i) = -(q1 * D) by omega]
            omega
          · rw [if_neg y2, if_neg y2, if_neg (by omega), Int.mul_zero]
    · obtain rfl : j = n := by omega
      obtain rfl : k = j + 1 := by omega
      rw [v1, v2] at e0
      unfold crossR at e0
      simp only at e0
      have hB : putB (pick3 1 1 1) 1 = false := by decide
      have hE := IsEdge.one (L := fun i => spL s l (m i)) (C := fun i => spC s c (m i)) (n := j) i hij
      unfold edge1 putR at hE
      rw [hB] at hE
      simp only [Bool.false_eq_true, if_false] at hE
      refine fin _ hE (max D (-D)) hd fun y hy => ?_
      rw [h3 y hy]
      simp only [putK, upd, pick3, three]
      have a0 := abs_part (D := D) p0
      by_cases y1 : y = i
      · rw [if_pos y1, if_pos y1, ← a0]
        omega
      · rw [if_neg y1, if_neg y1, if_neg (by omega), if_neg (by omega), Int.mul_zero]

end Go.Proofs.YtehafggcncbnkaaGreat

namespace Go.Proofs.YtehafggcncbnkaaGreat
open Go Go.RowKit

def minV (v : Nat → Int × Int) : Nat → Int × Int
  | 0 => v 0
  | k + 1 => if ltB (v k).1 (v k).2 (minV v k).1 (minV v k).2 then v k else minV v k
def maxV (v : Nat → Int × Int) : Nat → Int × Int
  | 0 => v 0
  | k + 1 => if ltB (maxV v k).1 (maxV v k).2 (v k).1 (v k).2 then v k else maxV v k
abbrev fracV (N D : Nat → Int) (i : Nat) : Int × Int := (ratN (N i) (D i), ratD (N i) (D i))

theorem frac_trans {a b c d e f : Int} (hd : 0 < d) (hb : 0 < b) (hf : 0 < f) (h1 : a * d ≤ c * b) (h2 : c * f ≤ e * d) : a * f ≤ e * b := by
  have h3 := Int.mul_le_mul_of_nonneg_right h1 (Int.le_of_lt hf)
  have h4 := Int.mul_le_mul_of_nonneg_right h2 (Int.le_of_lt hb)
  have h5 : (a * f) * d ≤ (e * b) * d := by grind
  exact Int.le_of_mul_le_mul_right h5 hd
theorem minV_spec {N D : Nat → Int} {K : Nat} (hD : ∀ i, i < K → 0 < D i) (h0 : 0 < K) : ∀ k, k ≤ K → ∃ b, b < K ∧ minV (fracV N D) k = fracV N D b ∧ ∀ x, x < k → N b * D x ≤ N x * D b
  | 0, _ => ⟨0, h0, rfl, fun x hx => by omega⟩
  | k + 1, hk => by
    obtain ⟨b, hb, e, h⟩ := minV_spec (N := N) hD h0 k (by omega)
    have e1 := ltB_rat (n := N k) (d := D k) (n' := N b) (d' := D b) (hD k (by omega)) (hD b hb)
    simp only [minV, e]
    rw [e1]
    by_cases hlt : N k * D b < N b * D k
    · rw [decide_eq_true hlt]
      refine ⟨k, by omega, rfl, fun x hx => ?_⟩
      by_cases ex : x = k
      · subst ex; exact Int.le_refl _
      · exact frac_trans (hD b hb) (hD k (by omega)) (hD x (by omega)) (Int.le_of_lt hlt) (h x (by omega))
    · rw [decide_eq_false hlt]
      refine ⟨b, hb, rfl, fun x hx => ?_⟩
      by_cases ex : x = k
      · subst ex; omega
      · exact h x (by omega)
theorem maxV_spec {N D : Nat → Int} {K : Nat} (hD : ∀ i, i < K → 0 < D i) (h0 : 0 < K) : ∀ k, k ≤ K → ∃ b, b < K ∧ maxV (fracV N D) k = fracV N D b ∧ ∀ x, x < k → N x * D b ≤ N b * D x
  | 0, _ => ⟨0, h0, rfl, fun x hx => by omega⟩
  | k + 1, hk => by
    obtain ⟨b, hb, e, h⟩ := maxV_spec (N := N) hD h0 k (by omega)
    have e1 := ltB_rat (n := N b) (d := D b) (n' := N k) (d' := D k) (hD b hb) (hD k (by omega))
    simp only [maxV, e]
    rw [e1]
    by_cases hlt : N b * D k < N k * D b
    · rw [decide_eq_true hlt]
      refine ⟨k, by omega, rfl, fun x hx => ?_⟩
      by_cases ex : x = k
      · subst ex; exact Int.le_refl _
      · exact frac_trans (hD b hb) (hD x (by omega)) (hD k (by omega)) (h x (by omega)) (Int.le_of_lt hlt)
    · rw [decide_eq_false hlt]
      refine ⟨b, hb, rfl, fun x hx => ?_⟩
      by_cases ex : x = k
      · subst ex; omega
      · exact h x (by omega)

def edgeF (n : Nat) (m : Nat → M5) (l c : Int) (s : Bool) (i : Nat) : Nat → Int := (edgeL n m l c s).getD i fun _ => 0
theorem edgeF_mem {n : Nat} {m : Nat → M5} {l c : Int} {s : Bool} {i : Nat} (h : i < (edgeL n m l c s).length) : edgeF n m l c s i ∈ edgeL n m l c s := by
  have e : edgeF n m l c s i = (edgeL n m l c s)[i] := by simp [edgeF, List.getD, h]
  rw [e]
  exact List.getElem_mem h
theorem mem_edgeF {n : Nat} {m : Nat → M5} {l c : Int} {s : Bool} {F : Nat → Int} (h : F ∈ edgeL n m l c s) : ∃ i, i < (edgeL n m l c s).length ∧ edgeF n m l c s i = F := by
  obtain ⟨i, hi, e⟩ := List.getElem_of_mem h
  exact ⟨i, hi, by rw [← e]; simp [edgeF, List.getD, hi]⟩
theorem spare_fine {n : Nat} {m : Nat → M5} {l c : Int} (hF : Fine n m) (ht : 0 ≤ l ∧ l ≤ 1000 ∧ 0 ≤ c ∧ c ≤ 1000) (s : Bool) : Spare (fun i => spL s l (m i)) (fun i => spC s c (m i)) n := fun i hi => by
  have := hF.2.2 i hi
  unfold spL spC bad good
  cases s <;> simp <;> omega
theorem edge_is {n : Nat} {m : Nat → M5} {l c : Int} (hF : Fine n m) (ht : 0 ≤ l ∧ l ≤ 1000 ∧ 0 ≤ c ∧ c ≤ 1000) {s : Bool} {F : Nat → Int} (h : F ∈ edgeL n m l c s) : (∀ x, 0 ≤ F x ∧ F x ≤ 2000000) ∧ 0 < sumF F n ∧ goodB s n m l c F = true := by
  obtain ⟨h1, h2⟩ := mem_edgeO.1 h
  have h3 := edge_good (spare_fine hF ht s) (mem_edgesI.1 h1)
  exact ⟨h3.1, h3.2, h2⟩
theorem scaled_sums {n : Nat} {F f : Nat → Int} {d : Int} (h : ∀ x, x < n → F x = d * f x) (g : Nat → Int) : sumF (fun i => F i * g i) n = d * sumF (fun i => f i * g i) n ∧ sumF F n = d * sumF f n := by
  constructor
  · rw [← sum_times]
    exact sumC fun i hi => by rw [h i hi]
  · rw [← sumF_times]
    exact sumC h
theorem edges_none {n : Nat} {m : Nat → M5} {l c : Int} (hF : Fine n m) (ht : 0 ≤ l ∧ l ≤ 1000 ∧ 0 ≤ c ∧ c ≤ 1000) {s : Bool} (h : Nil n m l c s) : edgeL n m l c s = [] := by
  cases e : edgeL n m l c s with
  | nil => rfl
  | cons F r =>
    obtain ⟨h1, h2, h3⟩ := edge_is hF ht (s := s) (F := F) (by rw [e]; exact List.mem_cons_self)
    have := h F (fun i _ => (h1 i).1) h2
    rw [h3] at this
    cases this

abbrev edgeCost (n : Nat) (m : Nat → M5) (l c : Int) (s : Bool) : Nat → Int × Int := fracV (fun i => priceF m (edgeF n m l c s i) n) (fun i => sumF (edgeF n m l c s i) n)
abbrev edgeShare (n : Nat) (m : Nat → M5) (l c : Int) (s : Bool) (k : Nat) : Nat → Int × Int := fracV (fun i => edgeF n m l c s i k) (fun i => sumF (edgeF n m l c s i) n)

theorem edge_least {n : Nat} {m : Nat → M5} {l c : Int} (hb : bothE n m l c = 0) (s : Bool) :
    (edgeL n m l c s = [] ∧ leastR n m l c s = (0, 0, 17) ∧ Nil n m l c s) ∨
    (0 < (edgeL n m l c s).length ∧ leastR n m l c s = ((minV (edgeCost n m l c s) (edgeL n m l c s).length).1, (minV (edgeCost n m l c s) (edgeL n m l c s).length).2, 0) ∧ ∃ f, bestS (cheapB n m s) (potL n m l c s) = some f ∧ Low n m l c s f ∧ leastR n m l c s = ((costOf n m f).1, (costOf n m f).2, 0)) := by
  obtain ⟨hM, ht⟩ := both_ok hb
  have hF := fine_of hM
  rcases least_cases hb s with ⟨h1, _, h3⟩ | ⟨f, h0, h1, h3⟩
  · exact .inl ⟨edges_none hF ht h3, h1, h3⟩
  · obtain ⟨hfm, _⟩ := least_some hF ht h0
    obtain ⟨F, hFm, d, hd, hFd⟩ := corner_edge hF.2.1 hF ht hfm
    obtain ⟨t, htl, htF⟩ := mem_edgeF hFm
    have hK : 0 < (edgeL n m l c s).length := by omega
    obtain ⟨b, hbl, e, hmin⟩ := minV_spec (N := fun i => priceF m (edgeF n m l c s i) n) (D := fun i => sumF (edgeF n m l c s i) n) (K := (edgeL n m l c s).length) (fun i hi => (edge_is hF ht (edgeF_mem hi)).2.1) hK _ (Nat.le_refl _)
    refine .inr ⟨hK, ?_, f, h0, h3, h1⟩
    rw [e, h1]
    have h4 := hmin t htl
    simp only [htF] at h4
    obtain ⟨s1, s2⟩ := scaled_sums hFd (fun i => (m i).p)
    have s1' : priceF m F n = d * priceF m f n := s1
    rw [s1', s2] at h4
    obtain ⟨g1, g2, g3⟩ := edge_is hF ht (edgeF_mem hbl)
    have h5 := h3.low _ (fun i _ => (g1 i).1) g3
    have h6 : priceF m (edgeF n m l c s b) n * sumF f n ≤ priceF m f n * sumF (edgeF n m l c s b) n := by
      have : d * (priceF m (edgeF n m l c s b) n * sumF f n) ≤ d * (priceF m f n * sumF (edgeF n m l c s b) n) := by grind
      exact Int.le_of_mul_le_mul_left this hd
    obtain ⟨r1, r2⟩ := rat_same (n := priceF m f n) (d := sumF f n) (n' := priceF m (edgeF n m l c s b) n) (d' := sumF (edgeF n m l c s b) n) h3.mix.2.2 g2 (Int.le_antisymm h5 h6)
    show (ratN _ _, ratD _ _, (0 : Int)) = (ratN _ _, ratD _ _, 0)
    rw [r1, r2]

theorem edge_share {n : Nat} {m : Nat → M5} {l c : Int} (hb : bothE n m l c = 0) (s : Bool) {k : Nat} (hk : k < n) :
    (edgeL n m l c s = [] ∧ shareR n m l c s k = ((0, 0), (0, 0), 17)) ∨
    (0 < (edgeL n m l c s).length ∧ shareR n m l c s k = (minV (edgeShare n m l c s k) (edgeL n m l c s).length, maxV (edgeShare n m l c s k) (edgeL n m l c s).length, 0)) := by
  obtain ⟨hM, ht⟩ := both_ok hb
  have hF := fine_of hM
  rcases share_cases hb s hk with ⟨h1, _, h3⟩ | ⟨f, h, h1, h3⟩
  · exact .inl ⟨edges_none hF ht h3, h1⟩
  · rcases edge_least hb s with ⟨_, _, g3⟩ | ⟨hK, _⟩
    · have := g3 f (fun i _ => (h3.mixf.1 i).1) h3.mixf.2.2
      rw [h3.goodf] at this
      cases this
    have hD : ∀ i, i < (edgeL n m l c s).length → 0 < sumF (edgeF n m l c s i) n := fun i hi => (edge_is hF ht (edgeF_mem hi)).2.1
    obtain ⟨b, hbl, e, hmin⟩ := minV_spec (N := fun i => edgeF n m l c s i k) (D := fun i => sumF (edgeF n m l c s i) n) hD hK _ (Nat.le_refl _)
    obtain ⟨a, hal, e2, hmax⟩ := maxV_spec (N := fun i => edgeF n m l c s i k) (D := fun i => sumF (edgeF n m l c s i) n) hD hK _ (Nat.le_refl _)
    refine .inr ⟨hK, ?_⟩
    obtain ⟨b1, b2, b3⟩ := edge_is hF ht (edgeF_mem hbl)
    obtain ⟨a1, a2, a3⟩ := edge_is hF ht (edgeF_mem hal)
    have l1 := h3.low _ (fun i _ => (b1 i).1) b3
    have l2 := h3.high _ (fun i _ => (a1 i).1) a3
    have k1 := corners_tell hF.2.1 (fun i => sumF (edgeF n m l c s b) n * (if i = k then 1 else 0) - edgeF n m l c s b k) (fun y hy => by
      rw [sum_less, sum_unit _ _ hk]
      obtain ⟨F, hFm, d, hd, hFd⟩ := corner_edge hF.2.1 hF ht hy
      obtain ⟨t, htl, htF⟩ := mem_edgeF hFm
      have h4 := hmin t htl
      simp only [htF] at h4
      rw [(scaled_sums hFd (fun _ => 0)).2, hFd k hk] at h4
      have h6 : edgeF n m l c s b k * sumF y n ≤ y k * sumF (edgeF n m l c s b) n := by
        have : d * (edgeF n m l c s b k * sumF y n) ≤ d * (y k * sumF (edgeF n m l c s b) n) := by grind
        exact Int.le_of_mul_le_mul_left this hd
      grind) (fun i _ => (h3.mixf.1 i).1) h3.goodf
    rw [sum_less, sum_unit _ _ hk] at k1
    have k2 := corners_tell hF.2.1 (fun i => sumF (edgeF n m l c s a) n * (if i = k then -1 else 0) - (-(edgeF n m l c s a k))) (fun y hy => by
      rw [sum_less, sum_unit _ _ hk]
      obtain ⟨F, hFm, d, hd, hFd⟩ := corner_edge hF.2.1 hF ht hy
      obtain ⟨t, htl, htF⟩ := mem_edgeF hFm
      have h4 := hmax t htl
      simp only [htF] at h4
      rw [(scaled_sums hFd (fun _ => 0)).2, hFd k hk] at h4
      have h6 : y k * sumF (edgeF n m l c s a) n ≤ edgeF n m l c s a k * sumF y n := by
        have : d * (y k * sumF (edgeF n m l c s a) n) ≤ d * (edgeF n m l c s a k * sumF y n) := by grind
        exact Int.le_of_mul_le_mul_left this hd
      grind) (fun i _ => (h3.mixh.1 i).1) h3.goodh
    rw [sum_less, sum_unit _ _ hk] at k2
    obtain ⟨r1, r2⟩ := rat_same (n := f k) (d := sumF f n) (n' := edgeF n m l c s b k) (d' := sumF (edgeF n m l c s b) n) h3.mixf.2.2 b2 (Int.le_antisymm l1 (by grind))
    obtain ⟨r3, r4⟩ := rat_same (n := h k) (d := sumF h n) (n' := edgeF n m l c s a k) (d' := sumF (edgeF n m l c s a) n) h3.mixh.2.2 a2 (Int.le_antisymm (by grind) l2)
    rw [h1, e, e2]
    show ((ratN _ _, ratD _ _), (ratN _ _, ratD _ _), (0 : Int)) = ((ratN _ _, ratD _ _), (ratN _ _, ratD _ _), 0)
    rw [r1, r2, r3, r4]

end Go.Proofs.YtehafggcncbnkaaGreat

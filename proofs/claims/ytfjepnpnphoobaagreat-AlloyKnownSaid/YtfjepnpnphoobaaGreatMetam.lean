/- Contracts of package alloy: best, of mixtures. -/
import Derived.RangeFuncBound
import Derived.Shelf.Abstract
import Derived.Shelf.RegionOpen
import Derived.OwnWalkIn
import Derived.TacticsInMore
import Derived.LoopNIn
import Derived.LoopIn
import Derived.Scope
import Derived.Test.YtfjepnpnphoobaaGreatProg
import Derived.Test.YtfjepnpnphoobaaGreatMetaa
import Derived.Test.YtfjepnpnphoobaaGreatMetaj
import Derived.Test.YtfjepnpnphoobaaGreatMetab
import Derived.Test.YtfjepnpnphoobaaGreatMetai
import Derived.Test.YtfjepnpnphoobaaGreatMetak
import Derived.Test.YtfjepnpnphoobaaGreatMetae
import Derived.Test.YtfjepnpnphoobaaGreatMetal
import Derived.Deep.OwnRows
import Derived.Laws.CopyOwn
namespace Go.Proofs.YtfjepnpnphoobaaGreat
open Go Go.RowKit Go.Shelf
attribute [local go_sem] Oper.semAt_some

/-- The first one of a list than which none is better. -/
def bestStep {α : Type} (lt : α → α → Bool) (o : Option α) (x : α) : Option α := match o with
  | none => some x
  | some y => if lt x y then some x else some y
def bestS {α : Type} (lt : α → α → Bool) (l : List α) : Option α := l.foldl (bestStep lt) none

theorem bestS_take {α : Type} (lt : α → α → Bool) {l : List α} {k : Nat} (h : k < l.length) : bestS lt (l.take (k + 1)) = bestStep lt (bestS lt (l.take k)) l[k] := by
  unfold bestS
  rw [List.take_succ_eq_append_getElem h, List.foldl_append]
  rfl

theorem bestS_mem {α : Type} (lt : α → α → Bool) : ∀ (l : List α) (o : Option α) (y : α), l.foldl (bestStep lt) o = some y → o = some y ∨ y ∈ l
  | [], o, y, h => .inl h
  | x :: l, o, y, h => by
    rcases bestS_mem lt l _ y h with h | h
    · cases o with
      | none => simp only [bestStep, Option.some.injEq] at h; exact .inr (by simp [h])
      | some z =>
        simp only [bestStep] at h
        split at h
        · simp only [Option.some.injEq] at h; exact .inr (by simp [h])
        · exact .inl h
    · exact .inr (by simp [h])

theorem bestS_in {α : Type} {lt : α → α → Bool} {l : List α} {k : Nat} {y : α} (h : bestS lt (l.take k) = some y) : y ∈ l := by
  rcases bestS_mem lt _ _ _ h with h | h
  · cases h
  · exact List.mem_of_mem_take h

theorem mrow {w : World} {b : Nat} {f : Nat → Int} {T : TypeId} (h : RowIs w b (mixRow f) T) :
    (w.cell? ⟨b, 0, none⟩ = some (.int .i64 (f 0)) ∧ w.cell? ⟨b, 1, none⟩ = some (.int .i64 (f 1)) ∧ w.cell? ⟨b, 2, none⟩ = some (.int .i64 (f 2)) ∧ w.cell? ⟨b, 3, none⟩ = some (.int .i64 (f 3)) ∧ w.cell? ⟨b, 4, none⟩ = some (.int .i64 (f 4)) ∧ w.cell? ⟨b, 5, none⟩ = some (.int .i64 (f 5)) ∧ b < w.heap.size) ∧
    (w.frozen? ⟨b, 0, none⟩ = false ∧ w.frozen? ⟨b, 1, none⟩ = false ∧ w.frozen? ⟨b, 2, none⟩ = false ∧ w.frozen? ⟨b, 3, none⟩ = false ∧ w.frozen? ⟨b, 4, none⟩ = false ∧ w.frozen? ⟨b, 5, none⟩ = false) :=
  ⟨⟨h.cell 0, h.cell 1, h.cell 2, h.cell 3, h.cell 4, h.cell 5, (Array.getElem?_eq_some_iff.1 h).1⟩, h.frozen 0, h.frozen 1, h.frozen 2, h.frozen 3, h.frozen 4, h.frozen 5⟩

/-- Six cells are written. -/
def put6 (w : World) (b : Nat) (f : Nat → Int) : World :=
  (((((w.setCell ⟨b, 0, none⟩ (.int .i64 (f 0))).setCell ⟨b, 1, none⟩ (.int .i64 (f 1))).setCell ⟨b, 2, none⟩ (.int .i64 (f 2))).setCell ⟨b, 3, none⟩ (.int .i64 (f 3))).setCell ⟨b, 4, none⟩ (.int .i64 (f 4))).setCell ⟨b, 5, none⟩ (.int .i64 (f 5))

theorem put6_row {w : World} {b : Nat} {g : Nat → Int} {T : TypeId} (h : RowIs w b (mixRow g) T) (f : Nat → Int) : RowIs (put6 w b f) b (mixRow f) T := by
  have := (((((h.set 0 (.int .i64 (f 0))).set 1 (.int .i64 (f 1))).set 2 (.int .i64 (f 2))).set 3 (.int .i64 (f 3))).set 4 (.int .i64 (f 4))).set 5 (.int .i64 (f 5))
  simpa [put6, mixRow] using this

theorem put6_below {w : World} {b B : Nat} (h : B ≤ b) (f : Nat → Int) : Below B w (put6 w b f) :=
  ((((((Below.refl B w).setCell (p := ⟨b, 0, none⟩) h _).setCell (p := ⟨b, 1, none⟩) h _).setCell (p := ⟨b, 2, none⟩) h _).setCell (p := ⟨b, 3, none⟩) h _).setCell (p := ⟨b, 4, none⟩) h _).setCell (p := ⟨b, 5, none⟩) h _

theorem put6_other {w : World} {b k : Nat} (h : k ≠ b) (f : Nat → Int) : (put6 w b f).heap[k]? = w.heap[k]? := by
  unfold put6
  rw [Below.heap_setCell _ _ _ _ h, Below.heap_setCell _ _ _ _ h, Below.heap_setCell _ _ _ _ h, Below.heap_setCell _ _ _ _ h, Below.heap_setCell _ _ _ _ h, Below.heap_setCell _ _ _ _ h]

def zeroMix (_ : Nat) : Int := 0
def bestMix (lt : (Nat → Int) → (Nat → Int) → Bool) (l : List (Nat → Int)) : Nat → Int := (bestS lt l).getD zeroMix

set_option maxRecDepth 100000 in
set_option maxHeartbeats 4000000 in
theorem bestMix_c (gf : Nat) (gfirst glb : Array Value) (K : Nat → Prop) (L : List (Nat → Int)) (bf : Nat) (bfirst blb : Array Value) (lt : (Nat → Int) → (Nat → Int) → Bool) (w : World)
    (hG : Gives Tryz.prog gf gfirst glb K (L.map fun f => #[mixV f]) w) (hK : ∀ k, K k → k < w.heap.size) (eg : ∀ args w, (callFunc gf args).run Tryz.prog w = .ok (.enter gf args) w) (eb : ∀ args w, (callFunc bf args).run Tryz.prog w = .ok (.enter bf args) w)
    (hbt : ∀ W, Below w.heap.size w W → ∀ f ∈ L, ∀ g ∈ L, Calls Tryz.prog bf (bfirst ++ #[mixV f, mixV g] ++ blb) W fun e w' => e = .returned (.bool (lt f g)) ∧ Below W.heap.size W w') :
    Calls Tryz.prog 70 #[.func (.func gf) gfirst glb, .func (.func bf) bfirst blb] w fun e w' => e = .returned (.tuple #[mixV (bestMix lt L), .bool (bestS lt L).isSome]) ∧ Below w.heap.size w w' := by
  obtain ⟨W, hW⟩ : ∃ W, (((w.alloc (.cells #[.func (.func bf) bfirst blb] 110)).alloc (.cells #[.int .i64 0, .int .i64 0, .int .i64 0, .int .i64 0, .int .i64 0, .int .i64 0] 88)).alloc (.cells #[.int .i64 0, .int .i64 0, .int .i64 0, .int .i64 0, .int .i64 0, .int .i64 0] 88)).alloc (.cells #[.bool false] 4) = W := ⟨_, rfl⟩
  have hB0 : Below w.heap.size w W := by rw [← hW]; exact Below.alloc1 (Below.alloc1 (Below.alloc1 (Below.alloc1 (Below.refl _ _) _ (Nat.le_refl _)) _ (Nat.le_refl _)) _ (Nat.le_refl _)) _ (Nat.le_refl _)
  have h3 : RowIs W w.heap.size #[.func (.func bf) bfirst blb] 110 := by rw [← hW]; exact RowIs.alloc (RowIs.alloc (RowIs.alloc (heap_new_at _ _ _ rfl) _) _) _
  have h4 : RowIs W (w.heap.size + 1) (mixRow zeroMix) 88 := by rw [← hW]; exact RowIs.alloc (RowIs.alloc (heap_new_at _ _ _ (by simp)) _) _
  have h6 : RowIs W (w.heap.size + 2) (mixRow zeroMix) 88 := by rw [← hW]; exact RowIs.alloc (heap_new_at _ _ _ (by simp)) _
  have h7 : RowIs W (w.heap.size + 3) #[.bool false] 4 := by rw [← hW]; exact heap_new_at _ _ _ (by simp)
  have hzW : W.heap.size = w.heap.size + 4 := by rw [← hW]; simp
  have c7 : W.cell? ⟨w.heap.size + 3, 0, none⟩ = some (.bool false) := h7.cell 0
  have z7 := h7.frozen 0
  have zz7 : w.heap.size + 3 < W.heap.size := by omega
  have H3 := Lib.hid h3
  have H4 := Lib.hid h4
  have H6 := Lib.hid h6
  have H7 := Lib.hid h7
  have HzW := Lib.hid hzW
  have HB0 := Lib.hid hB0
  have HG := Lib.hid hG
  have HK := Lib.hid hK
  have Hbt := Lib.hid hbt
  clear h3 h4 h6 h7 hzW hB0 hG hK hbt
  refine (callsIn_wide (n := 1)).1 ?_
  refine callsIn_of_wp_marks Tryz.func70 rfl trivial ?_ rfl
  simp only [Tryz.ntmps70, List.size_toArray, List.length_cons, List.length_nil, Nat.reduceAdd, Nat.reduceSub, Array.replicate_succ, Array.replicate_zero, List.push_toArray, List.append_toArray, List.nil_append, List.cons_append]
  gi_wp2_with fail
  obtain ⟨W2, hW2⟩ : ∃ W2, W.setCell ⟨w.heap.size + 3, 0, none⟩ (.bool false) = W2 := ⟨_, rfl⟩
  have hb2 : Below (w.heap.size + 3) W W2 := by rw [← hW2]; exact (Below.refl _ _).setCell (p := ⟨w.heap.size + 3, 0, none⟩) (Nat.le_refl _) _
  have hf2 : RowIs W2 (w.heap.size + 3) #[.bool false] 4 := by rw [← hW2]; exact H7.out.set 0 (.bool false)
  have hzW2 : W2.heap.size = w.heap.size + 4 := by rw [← hW2]; simp [World.setCell, HzW.out]
  have hB2 : Below w.heap.size w W2 := HB0.out.trans (hb2.mono (by omega))
  have h32 := (hb2.block w.heap.size (by omega)).trans H3.out
  have h42 := (hb2.block (w.heap.size + 1) (by omega)).trans H4.out
  have h62 := (hb2.block (w.heap.size + 2) (by omega)).trans H6.out
  have hG2 := HG.out.later HK.out hB2.size fun k hk => hB2.block k (HK.out k hk)
  rw [hW2]
  clear hW2 hW c7 z7
  have hL : ∀ k (hk : k < (L.map fun f => #[mixV f]).length), (L.map fun f => #[mixV f])[k] = #[mixV (L.getD k zeroMix)] := fun k hk => by
    have hk' : k < L.length := by simpa using hk
    simp [List.getD, hk']
  refine wpIn_rangeL (gf := gf) (first := gfirst) (lb := glb) rfl eg hG2 (fun k hk => Nat.lt_of_lt_of_le (HK.out k hk) hB2.size) (fun k hk => by rw [hL k hk]; rfl)
    (fun k A => Below w.heap.size w A ∧ RowIs A w.heap.size #[.func (.func bf) bfirst blb] 110 ∧ RowIs A (w.heap.size + 1) (mixRow zeroMix) 88 ∧
      RowIs A (w.heap.size + 2) (mixRow ((bestS lt (L.take k)).getD zeroMix)) 88 ∧ RowIs A (w.heap.size + 3) #[.bool (bestS lt (L.take k)).isSome] 4)
    (fun _ _ _ => False)
    (fun k A B hA hAB => ⟨hA.1.trans (hAB.mono (by omega)), (hAB.block _ (by omega)).trans hA.2.1, (hAB.block _ (by omega)).trans hA.2.2.1, (hAB.block _ (by omega)).trans hA.2.2.2.1, (hAB.block _ (by omega)).trans hA.2.2.2.2⟩)
    (fun _ _ _ _ h _ => h)
    ⟨hB2, h32, h42, h62, hf2⟩
    (fun k a' A => ∃ Bx, w.heap.size + 6 ≤ Bx ∧ RowIs A Bx (mixRow (L.getD k zeroMix)) 88 ∧
      a' = { tmps := #[.func (.func gf) gfirst glb, .func (.func bf) bfirst blb, undef, .pointer (some ⟨w.heap.size, 0, none⟩), .pointer (some ⟨w.heap.size + 1, 0, none⟩), .bool false, .pointer (some ⟨w.heap.size + 1 + 1, 0, none⟩), .pointer (some ⟨w.heap.size + 1 + 1 + 1, 0, none⟩), .pointer (some ⟨Bx, 0, none⟩), .func (.func gf) gfirst glb, mixV (L.getD k zeroMix), undef, undef, undef, undef, undef, undef, undef, undef, undef, undef, undef], defers := [] })
    (fun k a' A o hA => by
      obtain ⟨Bx, h1, h2, h3⟩ := hA
      exact ⟨Bx, h1, (World.putObj_heap_other (by omega)).trans h2, h3⟩)
    ?assign ?body ?done ?stop
  case assign =>
    intro lx k hk A T hA hI hT
    rw [hL k hk]
    obtain ⟨x, hx⟩ : ∃ x, L.getD k zeroMix = x := ⟨_, rfl⟩
    rw [hx] at hT ⊢
    clear hL
    gi_wp2
    exact hT _ _ (Below.alloc1 (Below.refl _ _) _ (Nat.le_refl _)) ⟨A.heap.size, by omega, heap_new_at _ _ _ rfl, rfl⟩
  case body =>
    rintro lx k hk a' A hA ⟨g1, g2, g3, g4, g5⟩ ⟨Bx, hBx, hx, rfl⟩
    have hk' : k < L.length := by simpa using hk
    have hxe : L.getD k zeroMix = L[k] := by simp [List.getD, hk']
    obtain ⟨x, hxx⟩ : ∃ x, L[k] = x := ⟨_, rfl⟩
    have hst := bestS_take lt hk'
    rw [hxx] at hxe hst
    rw [hxe] at hx ⊢
    have hxm : x ∈ L := by rw [← hxx]; exact List.getElem_mem hk'
    have f0 : A.cell? ⟨w.heap.size + 3, 0, none⟩ = some (.bool (bestS lt (L.take k)).isSome) := g5.cell 0
    have f1 := g5.frozen 0
    have b0 : A.cell? ⟨w.heap.size, 0, none⟩ = some (.func (.func bf) bfirst blb) := g2.cell 0
    have z3 : w.heap.size + 3 < A.heap.size := by omega
    have z0 : w.heap.size < A.heap.size := by omega
    obtain ⟨⟨x0, x1, x2, x3, x4, x5, xz⟩, _⟩ := mrow hx
    obtain ⟨⟨k0, k1, k2, k3, k4, k5, kz⟩, l0, l1, l2, l3, l4, l5⟩ := mrow g4
    have hfin : ∀ (A' : World) (f : Bool), Below A.heap.size A A' → RowIs A' (w.heap.size + 3) #[.bool f] 4 → ∀ a, bestS lt (L.take (k + 1)) = some x → roundQ K W2.heap.size (fun k A => Below w.heap.size w A ∧ RowIs A w.heap.size #[.func (.func bf) bfirst blb] 110 ∧ RowIs A (w.heap.size + 1) (mixRow zeroMix) 88 ∧
        RowIs A (w.heap.size + 2) (mixRow ((bestS lt (L.take k)).getD zeroMix)) 88 ∧ RowIs A (w.heap.size + 3) #[.bool (bestS lt (L.take k)).isSome] 4) (fun _ _ _ => False) k A .normal a ((put6 A' (w.heap.size + 2) x).setCell ⟨w.heap.size + 3, 0, none⟩ (.bool true)) := by
      intro A' f hA' hr a hs
      have hb : Below (w.heap.size + 2) A ((put6 A' (w.heap.size + 2) x).setCell ⟨w.heap.size + 3, 0, none⟩ (.bool true)) := ((hA'.mono (by omega)).trans (put6_below (Nat.le_refl _) x)).setCell (p := ⟨w.heap.size + 3, 0, none⟩) (Nat.le_succ _) _
      have hsame : ∀ i, i < A.heap.size → i ≠ w.heap.size + 2 → i ≠ w.heap.size + 3 → ((put6 A' (w.heap.size + 2) x).setCell ⟨w.heap.size + 3, 0, none⟩ (.bool true)).heap[i]? = A.heap[i]? := fun i h1 h2 h3 => by
        rw [Below.heap_setCell _ _ _ _ h3, put6_other h2]
        exact hA'.block i h1
      refine ⟨⟨hb.size, fun i h1 h2 => hsame i h1 ?_ ?_⟩, g1.trans (hb.mono (by omega)), (hsame _ (by omega) (by omega) (by omega)).trans g2, (hsame _ (by omega) (by omega) (by omega)).trans g3, ?_, ?_⟩
      · rcases h2 with h2 | h2
        · have := HK.out i h2; omega
        · omega
      · rcases h2 with h2 | h2
        · have := HK.out i h2; omega
        · omega
      · rw [hs]
        exact (Below.heap_setCell _ _ _ _ (by simp)).trans (put6_row ((hA'.block _ (by omega)).trans g4) x)
      · rw [hs]
        exact RowIs.set (w := put6 A' (w.heap.size + 2) x) ((put6_other (by omega) x).trans hr) 0 (.bool true)
    have zBx := xz
    have Hfin := Lib.hid hfin
    have G1 := Lib.hid g1
    have G2 := Lib.hid g2
    have G3 := Lib.hid g3
    have G4 := Lib.hid g4
    have G5 := Lib.hid g5
    have Hst := Lib.hid hst
    have Hx := Lib.hid hx
    have HL := Lib.hid hL
    clear hfin g1 g2 g3 g4 g5 hst hx hL hxe hxx h32 h42 h62 hf2 hb2 hB2 hG2
    cases hb : bestS lt (L.take k) with
    | none =>
      have Hb := Lib.hid hb
      rw [hb] at f0
      clear hb
      have hs : bestS lt (L.take (k + 1)) = some x := by rw [Hst.out, Hb.out]; rfl
      have Hs := Lib.hid hs
      clear hs
      gi_wp2_with fail
      refine ⟨fun _ h => (by cases h), ?_⟩
      gi_wp2_with fail
      exact Hfin.out A _ (Below.refl _ _) G5.out _ Hs.out
    | some y =>
      have hym : y ∈ L := bestS_in hb
      have Hb := Lib.hid hb
      rw [hb] at f0 k0 k1 k2 k3 k4 k5
      clear hb
      have hc := Hbt.out A G1.out x hxm y hym
      rw [Array.append_assoc] at hc
      cases hlt : lt x y with
      | true =>
        have hs : bestS lt (L.take (k + 1)) = some x := by rw [Hst.out, Hb.out]; simp [bestStep, hlt]
        rw [hlt] at hc
        have Hs := Lib.hid hs
        have Hc := Lib.hid hc
        clear hc hs hlt
        gi_wp2_with fail
        refine ⟨trivial, ?_⟩
        refine (CallsIn.inRound lx (callsIn_wide.2 Hc.out)).mono ?_
        rintro e A1 ⟨rfl, hb1⟩
        clear x0 x1 x2 x3 x4 x5 xz k0 k1 k2 k3 k4 k5 kz l0 l1 l2 l3 l4 l5 f0 f1 b0 z3 z0
        have hz1 := hb1.size
        have g5 := (hb1.block (w.heap.size + 3) (by omega)).trans G5.out
        obtain ⟨⟨x0, x1, x2, x3, x4, x5, xz⟩, _⟩ := mrow ((hb1.block Bx (by omega)).trans Hx.out)
        obtain ⟨⟨k0, k1, k2, k3, k4, k5, kz⟩, l0, l1, l2, l3, l4, l5⟩ := mrow ((hb1.block (w.heap.size + 2) (by omega)).trans G4.out)
        have f0 : A1.cell? ⟨w.heap.size + 3, 0, none⟩ = some (.bool (bestS lt (L.take k)).isSome) := RowIs.cell g5 0
        have f1 := RowIs.frozen g5 0
        have z3 : w.heap.size + 3 < A1.heap.size := by omega
        have HG5 := Lib.hid g5
        clear g5
        gi_wp2_with fail
        exact Hfin.out A1 _ hb1 HG5.out _ Hs.out
      | false =>
        have hs : bestS lt (L.take (k + 1)) = some y := by rw [Hst.out, Hb.out]; simp [bestStep, hlt]
        rw [hlt] at hc
        have Hs := Lib.hid hs
        have Hc := Lib.hid hc
        clear hc hs hlt
        gi_wp2_with fail
        refine ⟨trivial, ?_⟩
        refine (CallsIn.inRound lx (callsIn_wide.2 Hc.out)).mono ?_
        rintro e A1 ⟨rfl, hb1⟩
        have hz1 := hb1.size
        gi_wp2_with fail
        exact ⟨Spares.of_below hb1, G1.out.trans (hb1.mono (by omega)), (hb1.block _ (by omega)).trans G2.out, (hb1.block _ (by omega)).trans G3.out, by rw [Hs.out, ← Hb.out]; exact (hb1.block _ (by omega)).trans G4.out, by rw [Hs.out]; have := (hb1.block _ (by omega)).trans G5.out; rw [Hb.out] at this; exact this⟩
  case done =>
    rintro B hBz ⟨g1, g2, g3, g4, g5⟩ hK
    have eL : L.take (L.map fun f => #[mixV f]).length = L := by simp
    rw [eL] at g4 g5
    have hf : (bestS lt L).getD zeroMix = bestMix lt L := rfl
    rw [hf] at g4
    have f0 : B.cell? ⟨w.heap.size + 3, 0, none⟩ = some (.bool (bestS lt L).isSome) := g5.cell 0
    have z3 : w.heap.size + 3 < B.heap.size := by omega
    obtain ⟨⟨k0, k1, k2, k3, k4, k5, kz⟩, _⟩ := mrow g4
    obtain ⟨⟨y0, y1, y2, y3, y4, y5, yz⟩, l0, l1, l2, l3, l4, l5⟩ := mrow g3
    have G1 := Lib.hid g1
    have G3 := Lib.hid g3
    have HK' := Lib.hid hK
    clear g1 g2 g3 g4 g5 hK eL hf hL h32 h42 h62 hf2 hb2 hB2 hG2
    dsimp only
    gi_wp2_with fail
    refine (wpIn_wide (n := 1)).2 ?_
    go_region
    gi_wp2_with fail
    obtain ⟨U, hU⟩ : ∃ U, (((((B.setCell ⟨w.heap.size + 1, 0, none⟩ (.int .i64 (bestMix lt L 0))).setCell ⟨w.heap.size + 1, 1, none⟩ (.int .i64 (bestMix lt L 1))).setCell ⟨w.heap.size + 1, 2, none⟩ (.int .i64 (bestMix lt L 2))).setCell ⟨w.heap.size + 1, 3, none⟩ (.int .i64 (bestMix lt L 3))).setCell ⟨w.heap.size + 1, 4, none⟩ (.int .i64 (bestMix lt L 4))).setCell ⟨w.heap.size + 1, 5, none⟩ (.int .i64 (bestMix lt L 5)) = U := ⟨_, rfl⟩
    have hUp : put6 B (w.heap.size + 1) (bestMix lt L) = U := hU
    have hr0 : RowIs U (w.heap.size + 1) (mixRow (bestMix lt L)) 88 := by rw [← hUp]; exact put6_row G3.out _
    have hb0 : Below w.heap.size w U := by rw [← hUp]; exact G1.out.trans (put6_below (Nat.le_succ _) _)
    have hK1 : U.heap[W2.heap.size]? = some (.deferred (some [])) := by rw [← hUp, put6_other (by omega)]; exact HK'.out
    rw [hU]
    clear hU hUp
    have hr1 : RowIs U.drew (w.heap.size + 1) (mixRow (bestMix lt L)) 88 := hr0
    have hb1 : Below w.heap.size w U.drew := hb0.drew
    have hK2 : U.drew.heap[W2.heap.size]? = some (.deferred (some [])) := hK1
    clear hr0 hb0 hK1
    generalize U.drew = U2 at hr1 hb1 hK2 ⊢
    refine ⟨by simp, .inl ⟨_, _, rfl, run_takeDeferred hK2, ?_⟩⟩
    have hr : RowIs (U2.putObj W2.heap.size (.deferred none)) (w.heap.size + 1) (mixRow (bestMix lt L)) 88 := (World.putObj_heap_other (by omega)).trans hr1
    have hb : Below w.heap.size w (U2.putObj W2.heap.size (.deferred none)) := hb1.trans (below_put _ (by omega))
    generalize U2.putObj W2.heap.size (.deferred none) = V at hr hb ⊢
    obtain ⟨⟨q0, q1, q2, q3, q4, q5, _⟩, _⟩ := mrow hr
    exact ⟨.tuple #[mixV (bestMix lt L), .bool (bestS lt L).isSome], by simp [results, Tryz.results70, go_sem, q0, q1, q2, q3, q4, q5], rfl, hb⟩
  case stop =>
    rintro cd k B hBz h hK
    exact h.elim

end Go.Proofs.YtfjepnpnphoobaaGreat

namespace Go.Proofs.YtfjepnpnphoobaaGreat
open Go Go.RowKit

/-- The corners of the pot that is made of metals and a touch. -/
def potL (n : Nat) (m : Nat → M5) (l c : Int) (s : Bool) : List (Nat → Int) := cornL n (roomF n (potU s m) l c)
def cheapB (n : Nat) (m : Nat → M5) (s : Bool) (f g : Nat → Int) : Bool := cheaperB (potU s m) n f g
def mixP (n : Nat) (m : Nat → M5) (f : Nat → Int) : Int := unitSum (fun i => unitOf true true (m i)) f n (·.p)

/-- Least: a fraction and an error. -/
def leastR (n : Nat) (m : Nat → M5) (l c : Int) (s : Bool) : Int × Int × Int :=
  if bothE n m l c ≠ 0 then (0, 0, bothE n m l c) else
  match bestS (cheapB n m s) (potL n m l c s) with
  | none => (0, 0, 17)
  | some f => (ratN (unitSum (potU s m) f n (·.p)) (unitSum (potU s m) f n (·.q)), ratD (unitSum (potU s m) f n (·.p)) (unitSum (potU s m) f n (·.q)), 0)

theorem potU_S {n : Nat} {m : Nat → M5} (h : Fine n m) (s : Bool) (i : Nat) (hi : i < n) : (0 ≤ (potU s m i).l ∧ (potU s m i).l ≤ 1000) ∧ (0 ≤ (potU s m i).c ∧ (potU s m i).c ≤ 1000) :=
  ⟨((ones_of h s (!s)).1.2 i hi).2.2.1, ((ones_of h s (!s)).1.2 i hi).2.2.2⟩

theorem ones_sum {n : Nat} {u : Nat → U4} {f : Nat → Int} (h : Ones n u) : unitSum u f n (·.q) = sumF f n := unitSum_ones fun i hi => h.2 i hi

theorem cell_past2 {w : World} {b : Nat} (h : b < w.heap.size) (o : Obj) (p q : Addr) (x y : Value) (j : Nat) : (((w.setCell p x).setCell q y).alloc o).cell? ⟨b, j, none⟩ = ((w.setCell p x).setCell q y).cell? ⟨b, j, none⟩ :=
  World.cell?_alloc_past _ _ _ (by simpa [World.setCell] using h)

/-- The best corner is told by the pot's metals. -/
theorem bestPot_c (g n : Nat) (m : Nat → M5) (l c : Int) (s : Bool) (w : World) (hF : Fine n m) (ht : 0 ≤ l ∧ l ≤ 1000 ∧ 0 ≤ c ∧ c ≤ 1000) (hu : Units w (some ⟨g, 0, none⟩) n (potU s m)) :
    Calls Tryz.prog 70 #[.func (.func 71) #[potV g n l c] #[], .func (.func 72) #[.agg #[.slice (some ⟨g, 0, none⟩) n n]] #[]] w fun e w' =>
      e = .returned (.tuple #[mixV (bestMix (cheapB n m s) (potL n m l c s)), .bool (bestS (cheapB n m s) (potL n m l c s)).isSome]) ∧ Below w.heap.size w w' := by
  have hg : g < w.heap.size := by
    obtain ⟨b, off, e, hb, _⟩ := Units.at hu 0 hF.1
    cases e
    exact hb
  have hgood := corn_good (n := n) (u := potU s m) (l := l) (c := c) ⟨ht.1, ht.2.1⟩ ht.2.2 (potU_S hF s)
  refine bestMix_c _ _ _ (· = g) _ _ _ _ (cheapB n m s) w (corners_gives g n (potU s m) l c w hu hg hF.2.1 (potU_S hF s) ht) (fun k hk => by rw [hk]; exact hg) (enters_of Tryz.func71 (by kernel_rfl) rfl) (enters_of Tryz.func72 (by kernel_rfl) rfl) ?_
  intro W hW f hf g' hg'
  obtain ⟨f1, f2, f3⟩ := hgood f hf
  obtain ⟨g1, g2, g3⟩ := hgood g' hg'
  have hO : Ones n (potU s m) := ones_of hF s (!s)
  exact cheaper_c _ n n (potU s m) f g' W (hu.below hW) hO (fun i _ => f1 i) (fun i _ => g1 i) (by rw [ones_sum hO]; exact f3) (by rw [ones_sum hO]; exact g3)

set_option maxRecDepth 100000 in
set_option maxHeartbeats 4000000 in
theorem Least_c (a : Option Addr) (n cap : Nat) (m : Nat → M5) (l c : Int) (s : Bool) (w : World) (hm : Metals w a n m) (hn : n ≤ 1048576) :
    Calls Tryz.prog 29 #[.slice a n cap, .agg #[.int .i64 l, .int .i64 c], .bool s] w fun e w' => e = .returned (re2 (leastR n m l c s)) ∧ Below w.heap.size w w' := by
  obtain ⟨W, hW⟩ : ∃ W, (w.alloc (.cells #[.int .i64 l, .int .i64 c] 24)).alloc (.cells #[.int .i64 0, .int .i64 0] 29) = W := ⟨_, rfl⟩
  have hB0 : Below w.heap.size w W := by rw [← hW]; exact Below.alloc1 (Below.alloc1 (Below.refl _ _) _ (Nat.le_refl _)) _ (Nat.le_refl _)
  have hT : RowIs W w.heap.size #[.int .i64 l, .int .i64 c] 24 := by rw [← hW]; exact RowIs.alloc (heap_new_at _ _ _ rfl) _
  have hR : RowIs W (w.heap.size + 1) #[.int .i64 0, .int .i64 0] 29 := by rw [← hW]; exact heap_new_at _ _ _ (by simp)
  have hz1 : w.heap.size + 1 < W.heap.size := (Array.getElem?_eq_some_iff.1 hR).1
  have hz0 : w.heap.size < W.heap.size := by omega
  have c5 := hT.cell 0
  have c6 := hT.cell 1
  simp at c5 c6
  have hm0 := hm.below hB0
  have HR := Lib.hid hR
  clear hm hT hR
  by_cases h0 : bothE n m l c = 0
  · obtain ⟨hM, ht⟩ := both_ok h0
    have HFine := Lib.hid (fine_of hM)
    have H0 := Lib.hid h0
    clear h0 hM
    have hn6 := HFine.out.2.1
    have hO : Ones n (potU s m) := ones_of HFine.out s (!s)
    have HO := Lib.hid hO
    clear hO
    cases hbS : bestS (cheapB n m s) (potL n m l c s) with
    | none =>
      have ev : leastR n m l c s = (0, 0, 17) := by unfold leastR; rw [if_neg (by simp [H0.out]), hbS]
      have hbest := fun (g : Nat) (w1 : World) (hu : Units w1 (some ⟨g, 0, none⟩) n (potU s m)) => bestPot_c g n m l c s w1 HFine.out ht hu
      rw [hbS] at hbest
      rw [ev]
      have HB := Lib.hid hbest
      clear ev hbest hbS
      go_enter Tryz.func29, Tryz.ntmps29
      go_wp2_with fail
      clear hW
      refine (newPot_c a n cap m l c s _ hm0 (by omega) H0.out).mono ?_
      rintro e w1 ⟨g, rfl, hU, hb1⟩
      clear c5 c6
      go_wp2_with fail
      obtain ⟨W2, hW2⟩ : ∃ W2, w1.alloc (.cells #[.slice (some ⟨g, 0, none⟩) n n, .int .i64 1, .int .i64 0, .int .i64 l, .int .i64 c] 101) = W2 := ⟨_, rfl⟩
      have hb2 : Below w1.heap.size w1 W2 := by rw [← hW2]; exact Below.alloc1 (Below.refl _ _) _ (Nat.le_refl _)
      rw [hW2]
      clear hW2
      refine (HB.out g W2 (hU.below hb2)).mono ?_
      rintro e w3 ⟨rfl, hb3⟩
      have hb13 := bup hb1 (bup hb2 hb3)
      obtain ⟨r0, r1, z0, z1, rz⟩ := ratrow (HR.out.below hb13)
      go_wp2_with fail
      refine bodyPost_ret (v := re2 (0, 0, 17)) (by simp [results, Tryz.results29, go_sem, r0, r1, cell_past2 rz]) rfl ⟨rfl, ?_⟩
      exact Below.alloc1 (((bup hB0 hb13).setCell (p := ⟨w.heap.size + 1, 0, none⟩) (Nat.le_add_right _ _) _).setCell (p := ⟨w.heap.size + 1, 1, none⟩) (Nat.le_add_right _ _) _) _ (Nat.le_refl _)
    | some f =>
      have ev : leastR n m l c s = (ratN (unitSum (potU s m) f n (·.p)) (unitSum (potU s m) f n (·.q)), ratD (unitSum (potU s m) f n (·.p)) (unitSum (potU s m) f n (·.q)), 0) := by unfold leastR; rw [if_neg (by simp [H0.out]), hbS]
      have hfL : f ∈ potL n m l c s := by
        rcases bestS_mem _ _ _ _ hbS with h | h
        · cases h
        · exact h
      obtain ⟨f1, f2, f3⟩ := corn_good (n := n) (u := potU s m) (l := l) (c := c) ⟨ht.1, ht.2.1⟩ ht.2.2 (potU_S HFine.out s) f hfL
      have hf6 : ∀ i, i < 6 → 0 ≤ f i ∧ f i ≤ 2147483648 := fun i _ => ⟨(f1 i).1, Int.le_trans (f1 i).2 (by decide)⟩
      have hq : 0 < unitSum (potU s m) f n (·.q) := by rw [ones_sum HO.out]; exact f3
      have hbest := fun (g : Nat) (w1 : World) (hu : Units w1 (some ⟨g, 0, none⟩) n (potU s m)) => bestPot_c g n m l c s w1 HFine.out ht hu
      have hbm : bestMix (cheapB n m s) (potL n m l c s) = f := by simp [bestMix, hbS]
      rw [hbS, hbm] at hbest
      rw [ev]
      have hcost := fun (g : Nat) (w1 : World) (hu : Units w1 (some ⟨g, 0, none⟩) n (potU s m)) => cost_c (some ⟨g, 0, none⟩) n n (potU s m) f w1 hu HO.out.1 hf6 hq
      have HB := Lib.hid hbest
      have HC := Lib.hid hcost
      clear ev hbest hbS hbm hcost f1 f2 f3 hf6 hq hfL
      go_enter Tryz.func29, Tryz.ntmps29
      go_wp2_with fail
      clear hW
      refine (newPot_c a n cap m l c s _ hm0 (by omega) H0.out).mono ?_
      rintro e w1 ⟨g, rfl, hU, hb1⟩
      clear c5 c6
      go_wp2_with fail
      obtain ⟨W2, hW2⟩ : ∃ W2, w1.alloc (.cells #[.slice (some ⟨g, 0, none⟩) n n, .int .i64 1, .int .i64 0, .int .i64 l, .int .i64 c] 101) = W2 := ⟨_, rfl⟩
      have hb2 : Below w1.heap.size w1 W2 := by rw [← hW2]; exact Below.alloc1 (Below.refl _ _) _ (Nat.le_refl _)
      have hP : RowIs W2 w1.heap.size #[.slice (some ⟨g, 0, none⟩) n n, .int .i64 1, .int .i64 0, .int .i64 l, .int .i64 c] 101 := by rw [← hW2]; exact heap_new_at _ _ _ rfl
      have HP := Lib.hid hP
      have hU2 := hU.below hb2
      rw [hW2]
      clear hW2 hP
      refine (HB.out g W2 hU2).mono ?_
      rintro e w3 ⟨rfl, hb3⟩
      have hb13 := bup hb1 (bup hb2 hb3)
      have hU3 := hU2.below hb3
      obtain ⟨e0, e1, e2, e3, e4, ez⟩ := potrow (HP.out.below hb3)
      obtain ⟨r0, r1, z0, z1, rz⟩ := ratrow (HR.out.below hb13)
      go_wp2_with fail
      obtain ⟨W4, hW4⟩ : ∃ W4, w3.alloc (.cells #[.int .i64 (f 0), .int .i64 (f 1), .int .i64 (f 2), .int .i64 (f 3), .int .i64 (f 4), .int .i64 (f 5)] 88) = W4 := ⟨_, rfl⟩
      have hb4 : Below w3.heap.size w3 W4 := by rw [← hW4]; exact Below.alloc1 (Below.refl _ _) _ (Nat.le_refl _)
      rw [hW4]
      clear hW4 e0 e1 e2 e3 e4 ez r0 r1 z0 z1 rz
      refine (HC.out g W4 (hU3.below hb4)).mono ?_
      rintro e w5 ⟨rfl, hb5⟩
      have hb15 := bup hb13 (bup hb4 hb5)
      obtain ⟨r0, r1, z0, z1, rz⟩ := ratrow (HR.out.below hb15)
      go_wp2_with fail
      refine bodyPost_ret (v := re2 (ratN (unitSum (potU s m) f n (·.p)) (unitSum (potU s m) f n (·.q)), ratD (unitSum (potU s m) f n (·.p)) (unitSum (potU s m) f n (·.q)), 0)) (by simp [results, Tryz.results29, go_sem, r0, r1]) rfl ⟨rfl, ?_⟩
      exact ((bup hB0 hb15).setCell (p := ⟨w.heap.size + 1, 0, none⟩) (Nat.le_add_right _ _) _).setCell (p := ⟨w.heap.size + 1, 1, none⟩) (Nat.le_add_right _ _) _
  · have ev : leastR n m l c s = (0, 0, bothE n m l c) := by unfold leastR; rw [if_pos h0]
    have h0' : (bothE n m l c != 0) = true := by simpa using h0
    have H0 := Lib.hid h0
    rw [ev]
    clear ev h0
    go_enter Tryz.func29, Tryz.ntmps29
    go_wp2_with fail
    clear hW
    refine (newPot_err_c a n cap m l c s _ hm0 (by omega) H0.out).mono ?_
    rintro e w1 ⟨rfl, hb1⟩
    clear c5 c6
    obtain ⟨r0, r1, z0, z1, rz⟩ := ratrow (HR.out.below hb1)
    go_wp2_with fail
    refine bodyPost_ret (v := re2 (0, 0, bothE n m l c)) (by simp [results, Tryz.results29, go_sem, r0, r1, cell_past2 rz]) rfl ⟨rfl, ?_⟩
    exact Below.alloc1 (((bup hB0 hb1).setCell (p := ⟨w.heap.size + 1, 0, none⟩) (Nat.le_add_right _ _) _).setCell (p := ⟨w.heap.size + 1, 1, none⟩) (Nat.le_add_right _ _) _) _ (Nat.le_refl _)

end Go.Proofs.YtfjepnpnphoobaaGreat

namespace Go.Proofs.YtfjepnpnphoobaaGreat
open Go.RowKit

theorem info64 : (Tryz.prog.info? 2).map (fun i => (i.zero, i.size, i.bytes)) = some (some (.int .i64 0), 1, 8) := by kernel_rfl

theorem ints_list {w : World} {g n : Nat} {T : TypeId} {f : Nat → Int} {l : List Value} (h : w.heap[g]? = some (.cells l.toArray T (0, 0))) (hl : ∀ i, i < n → l[i]? = some (.int .i64 (f i))) : Ints w (some ⟨g, 0, none⟩) n f :=
  .inr ⟨g, 0, rfl, (Array.getElem?_eq_some_iff.1 h).1, fun i hi => by
    rw [Nat.zero_add]
    simp only [World.cell?, h, List.getElem?_toArray]
    exact hl i hi⟩

set_option maxRecDepth 100000 in
set_option maxHeartbeats 1000000 in
theorem handOver_c (f : Nat → Int) (n : Nat) (w : World) (hn : n ≤ 6) :
    Calls Tryz.prog 74 #[mixV f, .int .i64 n] w fun e w' => ∃ g, w.heap.size < g ∧ g < w'.heap.size ∧ e = .returned (.slice (some ⟨g, 0, none⟩) n n) ∧ Ints w' (some ⟨g, 0, none⟩) n f ∧ Below w.heap.size w w' := by
  obtain ⟨i0, hi, hz0, hz1, hz2⟩ := info_parts info64
  obtain ⟨W, hW⟩ : ∃ W, w.alloc (.cells #[.int .i64 (f 0), .int .i64 (f 1), .int .i64 (f 2), .int .i64 (f 3), .int .i64 (f 4), .int .i64 (f 5)] 88) = W := ⟨_, rfl⟩
  have hB0 : Below w.heap.size w W := by rw [← hW]; exact Below.alloc1 (Below.refl _ _) _ (Nat.le_refl _)
  have hM : RowIs W w.heap.size #[.int .i64 (f 0), .int .i64 (f 1), .int .i64 (f 2), .int .i64 (f 3), .int .i64 (f 4), .int .i64 (f 5)] 88 := by rw [← hW]; exact heap_new_at _ _ _ rfl
  have hz : w.heap.size < W.heap.size := (Array.getElem?_eq_some_iff.1 hM).1
  have hmin : Nat.min 6 n = n := by show min 6 n = n; omega
  have hml : ((madeCells #[Value.int .i64 0] n).toList).length = n := by simp [size_madeCells]
  have hll : ((List.range n).map fun i => Value.int .i64 (f i)).length = n := by simp
  have hsrc : ∀ j v, ((List.range n).map fun i => Value.int .i64 (f i))[j]? = some v → (W.alloc (.cells (madeCells #[.int .i64 0] n) 2)).cell? ((⟨w.heap.size, 0, none⟩ : Addr).add j) = some v := fun j v hv => by
    rw [List.getElem?_map, Option.map_eq_some_iff] at hv
    obtain ⟨i, hi, rfl⟩ := hv
    have hj : j < n := by
      have := (List.getElem?_eq_some_iff.1 hi).1
      simpa using this
    obtain rfl : i = j := by
      rw [List.getElem?_range hj] at hi
      exact (Option.some.inj hi).symm
    have hc : (W.alloc (.cells (madeCells #[.int .i64 0] n) 2)).cell? ⟨w.heap.size, i, none⟩ = some (.int .i64 (f i)) := by
      rw [(RowIs.alloc hM _).cell i]
      have : i = 0 ∨ i = 1 ∨ i = 2 ∨ i = 3 ∨ i = 4 ∨ i = 5 := by omega
      rcases this with rfl | rfl | rfl | rfl | rfl | rfl <;> rfl
    unfold Addr.add
    split
    · simp_all
    · simpa using hc
  have Hml := Lib.hid hml
  have Hll := Lib.hid hll
  have Hmin := Lib.hid hmin
  have Hsrc := Lib.hid hsrc
  have HM := Lib.hid hM
  clear hml hll hmin hsrc hM
  go_enter Tryz.func74, Tryz.ntmps74
  go_wp2_with (first
    | (at_make; refine wpList_make_row _ rfl _ _ 25 rfl 2 i0 (.int .i64 0) Tryz.underlying25 hi hz0 hz1 rfl .i64 .i64 n rfl rfl (by rw [hz2]; omega) (by omega) ?_)
    | (refine wpList_copy_splice rfl _ _ 25 25 rfl 2 Tryz.underlying25 one64 (some ⟨W.heap.size, 0, none⟩) (some ⟨w.heap.size, 0, none⟩) n n 6 6 rfl rfl W.heap.size 0 (madeCells #[.int .i64 0] n).toList 2 (heap_new_at _ _ _ rfl) ((List.range n).map fun i => Value.int .i64 (f i)) (by rw [Hll.out, Hmin.out]) (fun _ => ⟨rfl, _, rfl, Hsrc.out⟩) (by rw [Hll.out, Hml.out]; omega) (by simp [Value.oneCell']) w.heap.size w (Below.alloc1 hB0 _ (Nat.le_refl _)) (by omega) ?_; intro w2 HG2 hB2))
  go_ret
  have hG := HG2.out
  refine ⟨W.heap.size, hz, (Array.getElem?_eq_some_iff.1 hG).1, rfl, ints_list hG fun i hi => ?_, hB2⟩
  simp only [splice, List.take_zero, List.nil_append]
  rw [List.getElem?_append_left (by rw [Hll.out]; exact hi), List.getElem?_map, List.getElem?_range hi]
  rfl

end Go.Proofs.YtfjepnpnphoobaaGreat

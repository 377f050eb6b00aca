/- The frame of the rows: how a list of bytes opens, and small numbers. -/
import Derived.Test.YtbjgbgchagfokaaProg
import Derived.Test.YtbjgbgchagfokaaBasaa
import Derived.Test.YtbjgbgchagfokaaBasbd
import Derived.Test.YtbjgbgchagfokaaBasag
import Derived.Test.YtbjgbgchagfokaaBasat
import Derived.Shelf.Abstract
import Derived.Shelf.RegionOpen
import Derived.Test.YtbjgbgchagfokaaBasay
import Derived.Test.YtbjgbgchagfokaaBasab
import Derived.Test.YtbjgbgchagfokaaBasaw
import Derived.Test.YtbjgbgchagfokaaBasax
import Derived.Test.YtbjgbgchagfokaaBasap
import Derived.Test.YtbjgbgchagfokaaBasba
import Derived.Test.YtbjgbgchagfokaaBasbb
import Derived.Test.YtbjgbgchagfokaaBasaz
import Derived.Test.YtbjgbgchagfokaaBasak
import Derived.Deep.RegionHeld3
import Derived.Deep.CutRange
import Derived.Deep.DeepCutAuto
import Derived.Test.YtbjgbgchagfokaaBasbc
namespace Go.Proofs.Ytbjgbgchagfokaa
open Go Go.RowKit Go.ChangeShapes Go.WideShapes Go.Deep Go.Joins

theorem cellsU8 : Try.prog.cellsOf 5 = 1 := by kernel_rfl
theorem wfu16 {n : Int} (h : (Lit.int .u16 n).wf = true) : 0 ≤ n ∧ n ≤ 65535 := by
  simp [Lit.wf] at h
  have h1 : IntKind.u16.min = 0 := by decide
  have h2 : IntKind.u16.max = 65535 := by decide
  omega
theorem wfu8 {n : Int} (h : (Lit.int .u8 n).wf = true) : 0 ≤ n ∧ n ≤ 255 := by
  simp [Lit.wf] at h
  have h1 : IntKind.u8.min = 0 := by decide
  have h2 : IntKind.u8.max = 255 := by decide
  omega

section
variable {H : Type} {enc : TypeId × Value → H} {W : World} {sp : Nat → Bool}

set_option maxRecDepth 100000 in
theorem open_bytes {base : Nat} {v : Value} {d : DataW H} {p : List MemPlace} (hok : Value.okWide Try.prog W .any base 42 v) (h : DataW.Trod enc Try.prog W 0 sp true 42 v d p) :
    ∃ (a : Option Addr) (n cap : Nat) (f : Nat → Int), v = .slice a n cap ∧ (Cells W a n fun i => .int .u8 (f i)) ∧ ∀ i, i < n → 0 ≤ f i ∧ f i ≤ 255 := by
  obtain ⟨a, n, cap, rfl⟩ := okWide_slice Try.underlying42 hok
  obtain ⟨fuel, hf⟩ := h
  rcases open_ints Try.underlying42 Try.underlying5 cellsU8 hf with ⟨hcs, _⟩ | ⟨a', len, cap', zs, hcs, _, hl, _, hk, _, hi, hw⟩
  · simp [Value.cells] at hcs
    obtain ⟨rfl, rfl, rfl⟩ := hcs
    exact ⟨none, 0, 0, fun _ => 0, rfl, .inl rfl, fun i hi => absurd hi (Nat.not_lt_zero i)⟩
  · simp [Value.cells] at hcs
    obtain ⟨rfl, rfl, rfl⟩ := hcs
    have hlk : n ≤ zs.length := by rw [hk]; split <;> omega
    have hb : ∀ i, i < n → 0 ≤ zs.getD i 0 ∧ zs.getD i 0 ≤ 255 := fun i hin => by
      have hz : i < zs.length := by omega
      have e : zs.getD i 0 = zs[i] := by simp [List.getD, hz]
      rw [e]
      exact wfu8 (hw _ (List.getElem_mem hz))
    refine ⟨some a', n, cap, fun i => zs.getD i 0, rfl, ?_, hb⟩
    by_cases h0 : n = 0
    · exact .inl h0
    obtain ⟨b, off, rfl, hc⟩ := ints_at hi (by omega)
    exact .inr ⟨b, off, rfl, World.block_lt_of_cell? W _ (hc 0 (by omega)), fun i hin => hc i (by omega)⟩
end

end Go.Proofs.Ytbjgbgchagfokaa

namespace Go.Proofs.Ytbjgbgchagfokaa
open Go Go.RowKit

/-- The other one of both days. -/
def otherD (d : Nat → Nat) (w y k : Nat) : Nat := if d k = y then d w else y

section
variable {f : Nat → W2} {n : Nat} {d : Nat → Nat} {y w : Nat}
theorem chain_in (hw : w < n) {k : Nat} (hk : k ∈ chainL f n d (d w) y w) : k < n ∧ Two d (d w) y k :=
  ((chainL_mem hw (.inl rfl) k).1 hk).in hw (.inl rfl)
theorem chain_len (hw : w < n) {a b : Nat} : (chainL f n d a b w).length ≤ n := by
  unfold chainL
  cases n with
  | zero => omega
  | succ n =>
    rw [chIter, chStep]
    have := List.length_filter_le (fun i => (chIter f (n + 1) d a b w n).contains i || (twoB d a b i && (chIter f (n + 1) d a b w n).any fun k => meetB f k i)) (List.range (n + 1))
    rw [List.length_range] at this
    exact this
theorem chain_self (hw : w < n) : w ∈ chainL f n d (d w) y w := (chainL_mem hw (.inl rfl) w).2 .self
theorem chain_same (hw : w < n) {k : Nat} (hk : k ∈ chainL f n d (d w) y w) : chainL f n d (d k) (otherD d w y k) k = chainL f n d (d w) y w := by
  have hc := (chainL_mem hw (.inl rfl) k).1 hk
  obtain ⟨hkn, hk2⟩ := hc.in hw (.inl rfl)
  refine up_same chainL_up chainL_up fun i => ?_
  rw [chainL_mem hkn (.inl rfl) i, chainL_mem hw (.inl rfl) i, ← hc.same hw (.inl rfl) i]
  unfold otherD
  by_cases e : d k = y
  · rw [if_pos e, e]
    exact ⟨fun h => h.congr fun j _ => two_turn d _ _ j, fun h => h.congr fun j _ => two_turn d _ _ j⟩
  · rw [if_neg e, hk2.resolve_right e]
theorem swap_val (hw : w < n) (hne : d w ≠ y) {k : Nat} (hk : k ∈ chainL f n d (d w) y w) : swapN f n d (d w) y w k = otherD d w y k := by
  obtain ⟨hkn, hk2⟩ := chain_in hw hk
  rw [swapN_in hk, otherD]
  rcases hk2 with e | e
  · rw [if_pos e, if_neg (by rw [e]; exact hne)]
  · rw [if_neg (by rw [e]; exact fun h => hne h.symm), if_pos e]
theorem swap_ne (hw : w < n) (hne : d w ≠ y) {k : Nat} (hk : k ∈ chainL f n d (d w) y w) : otherD d w y k ≠ d k := by
  obtain ⟨hkn, hk2⟩ := chain_in hw hk
  rw [otherD]
  rcases hk2 with e | e
  · rw [if_neg (by rw [e]; exact hne), e]; exact fun h => hne h.symm
  · rw [if_pos e, e]; exact hne
theorem swap_again (hw : w < n) (hne : d w ≠ y) {k : Nat} (hk : k ∈ chainL f n d (d w) y w) (i : Nat) :
    swapN f n (swapN f n d (d w) y w) (swapN f n d (d w) y w k) (d k) k i = d i := by
  have hc := (chainL_mem hw (.inl rfl) k).1 hk
  obtain ⟨hkn, hk2⟩ := hc.in hw (.inl rfl)
  have hs : swapN f n d (d w) y w = swapD (Chn f n (Two d (d w) y) w) (d w) y d := funext fun j => swapN_eq hw (.inl rfl) j
  obtain ⟨s, hS⟩ : ∃ s, swapN f n d (d w) y w = s := ⟨_, rfl⟩
  have hv : ∀ j, j ∈ chainL f n d (d w) y w → s j = otherD d w y j := fun j hj => by rw [← hS]; exact swap_val hw hne hj
  have ho : ∀ j, ¬ j ∈ chainL f n d (d w) y w → s j = d j := fun j hj => by rw [← hS]; exact swapN_out hj
  have hag : ∀ j, Chn f n (Two s (d w) y) k j ↔ j ∈ chainL f n d (d w) y w := fun j => by
    rw [chainL_mem hw (.inl rfl) j, ← hS, hs]
    exact chain_again hw (.inl rfl) hc j
  rw [hS]
  have hm : ∀ j, j ∈ chainL f n s (s k) (d k) k ↔ j ∈ chainL f n d (d w) y w := fun j => by
    rw [chainL_mem hkn (.inl rfl) j, ← hag j]
    have e := hv k hk
    unfold otherD at e
    rcases hk2 with h | h
    · rw [if_neg (by rw [h]; exact hne)] at e
      rw [e, h]
      exact ⟨fun h => h.congr fun j _ => two_turn s _ _ j, fun h => h.congr fun j _ => two_turn s _ _ j⟩
    · rw [if_pos h] at e
      rw [e, h]
  have eN : ∀ x y : Nat, x = y → (x = y) := fun _ _ h => h
  by_cases h : i ∈ chainL f n d (d w) y w
  · rw [swapN_in ((hm i).2 h), hv i h, hv k hk]
    obtain ⟨-, hi2⟩ := chain_in hw h
    unfold otherD
    rcases hi2 with h1 | h1 <;> rcases hk2 with h2 | h2
    · rw [h1, h2]; simp [hne]
    · rw [h1, h2]; simp [hne]
    · rw [h1, h2]; simp [hne]
    · rw [h1, h2]; simp
  · rw [swapN_out fun h1 => h ((hm i).1 h1), ho i h]
end

/-- How many of a list are below. -/
def nxL (L : List Nat) (k : Nat) : Nat := (L.filter fun v => decide (v < k)).length
theorem nxL_zero {L : List Nat} {k : Nat} (h : ∀ v, v ∈ L → k ≤ v) : nxL L k = 0 := by
  rw [nxL, List.length_eq_zero_iff, List.filter_eq_nil_iff]
  intro v hv
  have := h v hv
  simp; omega
theorem nxL_all {L : List Nat} {k : Nat} (h : ∀ v, v ∈ L → v < k) : nxL L k = L.length := by
  rw [nxL, List.filter_eq_self.2 fun v hv => by simpa using h v hv]
theorem nxL_cons (a : Nat) (L : List Nat) (k : Nat) : nxL (a :: L) k = (if a < k then 1 else 0) + nxL L k := by
  unfold nxL
  by_cases h : a < k
  · rw [List.filter_cons_of_pos (by simpa using h), if_pos h, List.length_cons, Nat.add_comm]
  · rw [List.filter_cons_of_neg (by simpa using h), if_neg h, Nat.zero_add]
theorem nxL_le (L : List Nat) (k : Nat) : nxL L k ≤ L.length := List.length_filter_le _ _
theorem nxL_in {k : Nat} : ∀ {L : List Nat}, L.Pairwise (· < ·) → k ∈ L → nxL L k < L.length ∧ L.getD (nxL L k) 0 = k ∧ nxL L (k + 1) = nxL L k + 1
  | [], _, h => absurd h List.not_mem_nil
  | a :: L, hp, h => by
    obtain ⟨h1, h2⟩ := List.pairwise_cons.1 hp
    by_cases e : k = a
    · subst e
      rw [nxL_cons, nxL_cons, if_neg (Nat.lt_irrefl _), if_pos (Nat.lt_succ_self _), nxL_zero fun v hv => Nat.le_of_lt (h1 v hv), nxL_zero fun v hv => h1 v hv]
      exact ⟨by simp, rfl, rfl⟩
    · have hk : k ∈ L := by
        rcases List.mem_cons.1 h with h | h
        · exact absurd h e
        · exact h
      have hlt := h1 k hk
      obtain ⟨i1, i2, i3⟩ := nxL_in h2 hk
      rw [nxL_cons, nxL_cons, if_pos hlt, if_pos (by omega), i3]
      refine ⟨by simp; omega, ?_, by omega⟩
      rw [Nat.add_comm 1]
      exact i2
theorem nxL_out {k : Nat} {L : List Nat} (h : ¬ k ∈ L) : (nxL L k < L.length → L.getD (nxL L k) 0 ≠ k) ∧ nxL L (k + 1) = nxL L k := by
  refine ⟨fun hl e => h ?_, ?_⟩
  · have : L[nxL L k]? = some k := by
      rw [List.getElem?_eq_getElem hl]
      rw [List.getD_eq_getElem?_getD, List.getElem?_eq_getElem hl] at e
      exact congrArg some e
    exact List.mem_of_getElem? this
  · unfold nxL
    congr 1
    refine List.filter_congr fun v hv => ?_
    have : v ≠ k := fun e => h (e ▸ hv)
    exact decide_eq_decide.2 (by omega)

end Go.Proofs.Ytbjgbgchagfokaa

namespace Go.Proofs.Ytbjgbgchagfokaa
open Go Go.RowKit Go.Shelf

section
variable {s m : Nat} {a : Option Addr} {n cap : Nat} {f : Nat → W2} {d : Nat → Nat} {D i y dcap : Nat} {da : Option Addr} {w : World}
theorem swapE_no (hi : i < n) (hy : y < 14) (hne : d i ≠ y) : swapE n (fun i => (d i : Int)) i y = 0 := by
  rw [swapE, if_pos (by omega), if_pos (by omega), if_neg (by rw [Int.toNat_natCast]; omega)]
theorem swapE_yes (hi : i < n) (hy : y < 14) (he : d i = y) : swapE n (fun i => (d i : Int)) i y = 16 := by
  rw [swapE, if_pos (by omega), if_pos (by omega), if_pos (by rw [Int.toNat_natCast]; omega)]
theorem chain_named (hb : bookE s m n f = 0) (hR : Right f n D d) (hD : D ≤ 14) (hi : i < n) (hy : y < 14) (hne : d i ≠ y) (hf : Wants w a n f) (hd : Ints w da n fun i => (d i : Int)) :
    Calls Try.prog 40 #[bookV s m a n cap, .slice da n dcap, .int .i64 i, .int .i64 y] w fun e w' => ∃ p c, e = .returned (.tuple #[.slice p (chainL f n d (d i) y i).length c, .int .i64 0]) ∧ Lst w' (chainL f n d (d i) y i) p c ∧ Below w.heap.size w w' := by
  have hn := (book_good hb).2.2.1
  have hE : chainE s m n f n (fun i => (d i : Int)) i y = 0 := by rw [chainE, if_pos (days_zero hb hD hR), swapE_no hi hy hne]
  refine (Chain_c s m a n cap f da n dcap (fun i => (d i : Int)) i y w hf (by omega) hd).mono ?_
  rintro e w' ⟨hB, ⟨-, v, rfl, hv⟩ | ⟨h, -⟩⟩
  · rw [Int.toNat_natCast, Int.toNat_natCast, natD_cast] at hv
    obtain ⟨p, c, rfl, hL, -⟩ := hv.lst
    exact ⟨p, c, rfl, hL, hB⟩
  · exact absurd hE h
theorem swap_named (hb : bookE s m n f = 0) (hR : Right f n D d) (hD : D ≤ 14) (hi : i < n) (hy : y < 14) (hne : d i ≠ y) (hf : Wants w a n f) (hd : Ints w da n fun i => (d i : Int)) :
    Calls Try.prog 39 #[bookV s m a n cap, .slice da n dcap, .int .i64 i, .int .i64 y] w fun e w' => ∃ b, e = .returned (.tuple #[.slice (some ⟨b, 0, none⟩) n n, .int .i64 0]) ∧ (Ints w' (some ⟨b, 0, none⟩) n fun k => (swapN f n d (d i) y i k : Int)) ∧ Below w.heap.size w w' := by
  have hn := (book_good hb).2.2.1
  have hE : chainE s m n f n (fun i => (d i : Int)) i y = 0 := by rw [chainE, if_pos (days_zero hb hD hR), swapE_no hi hy hne]
  refine (Swap_c s m a n cap f da n dcap (fun i => (d i : Int)) i y w hf (by omega) hd).mono ?_
  rintro e w' ⟨hB, ⟨-, b, rfl, hv, -⟩ | ⟨h, -⟩⟩
  · rw [Int.toNat_natCast, Int.toNat_natCast, natD_cast] at hv
    exact ⟨b, rfl, ints_rowA hv, hB⟩
  · exact absurd hE h
theorem swap_not (hb : bookE s m n f = 0) (hR : Right f n D d) (hD : D ≤ 14) (hi : i < n) (hy : y < 14) (he : d i = y) (hf : Wants w a n f) (hd : Ints w da n fun i => (d i : Int)) :
    Calls Try.prog 39 #[bookV s m a n cap, .slice da n dcap, .int .i64 i, .int .i64 y] w fun e w' => e = .returned (.tuple #[.slice none 0 0, .int .i64 16]) ∧ Below w.heap.size w w' := by
  have hn := (book_good hb).2.2.1
  have hE : chainE s m n f n (fun i => (d i : Int)) i y = 16 := by rw [chainE, if_pos (days_zero hb hD hR), swapE_yes hi hy he]
  refine (Swap_c s m a n cap f da n dcap (fun i => (d i : Int)) i y w hf (by omega) hd).mono ?_
  rintro e w' ⟨hB, ⟨h, -⟩ | ⟨-, rfl⟩⟩
  · rw [hE] at h; cases h
  · exact ⟨by rw [hE], hB⟩
theorem days_named (hb : bookE s m n f = 0) (hR : Right f n D d) (hD : D ≤ 14) (hf : Wants w a n f) (hd : Ints w da n fun i => (d i : Int)) :
    Calls Try.prog 20 #[bookV s m a n cap, .slice da n dcap] w fun e w' => ∃ N : Int, e = .returned (.tuple #[.int .i64 N, .int .i64 0]) ∧ Below w.heap.size w w' := by
  have hn := (book_good hb).2.2.1
  have h := CheckDays_c s m a n cap f da n dcap (fun i => (d i : Int)) w hf (by omega) hd
  rw [days_zero hb hD hR] at h
  exact h.mono fun e w' ⟨he, hB⟩ => ⟨_, he, hB⟩
theorem rdays_named (hb : bookE s m n f = 0) (hR : Right f n D d) (hD : D ≤ 14) (hf : Wants w a n f) (hd : Ints w da n fun i => (d i : Int)) (h1 : n ≤ dcap) (h2 : dcap ≤ 9223372036854775807) :
    Calls Try.prog 21 #[bookV s m a n cap, .slice da n dcap] w fun e w' => ∃ N : Int, e = .returned (.tuple #[.int .i64 N, .int .i64 0]) ∧ Below w.heap.size w w' := by
  have hn := (book_good hb).2.2.1
  have h := rcheckDays_c s m a n cap f da n dcap (fun i => (d i : Int)) w hf (by omega) hd (by omega) h1 h2
  rw [days_zero hb hD hR] at h
  exact h.mono fun e w' ⟨he, hB⟩ => ⟨_, he, hB⟩
end

end Go.Proofs.Ytbjgbgchagfokaa

namespace Go.Proofs.Ytbjgbgchagfokaa
open Go Go.RowKit

theorem ldF_pos (f : Nat → W2) (p : Nat → Bool) (x : Nat) : ∀ n, 0 < ldF f p x n ↔ ∃ i, i < n ∧ p i = true ∧ ((f i).s = x ∨ 6 + (f i).m = x)
  | 0 => by simp [ldF]
  | n + 1 => by
    have ih := ldF_pos f p x n
    have h0 := (ldF_bd f p x n).1
    rw [ldF]
    by_cases h : p n = true ∧ ((f n).s = x ∨ 6 + (f n).m = x)
    · rw [if_pos h]
      exact ⟨fun _ => ⟨n, by omega, h⟩, fun _ => by omega⟩
    · rw [if_neg h, Int.add_zero, ih]
      exact ⟨fun ⟨i, hi, hp⟩ => ⟨i, by omega, hp⟩, fun ⟨i, hi, hp⟩ => ⟨i, by
        by_cases e : i = n
        · rw [e] at hp; exact absurd hp h
        · omega, hp⟩⟩

/-- Some of the first numbers, in their order, are a list. -/
theorem listB_filt (p : Nat → Bool) (k : Nat) {T : Int} (hT : ∀ y, y ∈ (List.range k).filter p → (y : Int) < T) : listB (natG ((List.range k).filter p)) T ((List.range k).filter p).length = true := by
  have hs : List.Pairwise (· < ·) ((List.range k).filter p) := List.Pairwise.filter _ List.pairwise_lt_range
  rw [List.pairwise_iff_getElem] at hs
  rw [listB_iff]
  intro i hi
  have e : ∀ j (hj : j < ((List.range k).filter p).length), natG ((List.range k).filter p) j = ((((List.range k).filter p)[j] : Nat) : Int) := fun j hj => by
    unfold natG
    rw [List.getD_eq_getElem?_getD, List.getElem?_eq_getElem hj, Option.getD_some]
  refine ⟨⟨by unfold natG; omega, by rw [e i hi]; exact hT _ (List.getElem_mem hi)⟩, fun h0 => ?_⟩
  rw [e i hi, e (i - 1) (by omega)]
  have := hs (i - 1) i (by omega) hi (by omega)
  omega
theorem natG_has (x : List Nat) (v : Nat) : (∃ i, i < x.length ∧ natG x i = (v : Int)) ↔ v ∈ x :=
  ⟨fun ⟨i, hi, e⟩ => by
    have := natG_mem hi
    unfold natG at e
    rwa [show x.getD i 0 = v by omega] at this, fun h => by
    obtain ⟨i, hi, e⟩ := mem_natG h
    exact ⟨i, hi, by unfold natG; rw [e]⟩⟩
theorem cnt_list {x : List Nat} {T : Nat} (h : listB (natG x) T x.length = true) : cnt (fun v => v ∈ x) T = x.length := by
  rw [← listB_cnt h]
  exact (cnt_congr fun v _ => natG_has x v).symm

section
variable {s M n : Nat} {f : Nat → W2} (hG : GoodBook s M n f)
include hG

theorem shop_wants {x : Nat} (hx : x < 6) : 0 < bookL f n x ↔ WantS f n x := by
  rw [show bookL f n x = ldF f (fun _ => true) x n from rfl, ldF_pos]
  exact ⟨fun ⟨i, hi, _, h⟩ => ⟨i, hi, by have := (hG.2.2.2 i hi).2; omega⟩, fun ⟨i, hi, e⟩ => ⟨i, hi, rfl, .inl e⟩⟩
theorem mould_wants (x : List Nat) (y : Nat) : 0 < shopL f (natG x) x.length n (6 + y) ↔ WantM f n (InL x) y := by
  rw [show shopL f (natG x) x.length n (6 + y) = ldF f (fun i => hasB (natG x) (f i).s x.length) (6 + y) n from rfl, ldF_pos]
  constructor
  · intro ⟨i, hi, hp, h⟩
    obtain ⟨j, hj, e⟩ := (hasB_iff _ _ _).1 hp
    have b := hG.2.2.2 i hi
    have b2 := hG.1
    refine ⟨i, hi, ⟨x.getD j 0, natG_mem hj, ?_⟩, by omega⟩
    rw [← e]
    rfl
  · intro ⟨i, hi, ⟨v, hv, e⟩, h⟩
    obtain ⟨j, hj, e2⟩ := (natG_has x v).2 hv
    exact ⟨i, hi, (hasB_iff _ _ _).2 ⟨j, hj, by rw [e2, e]⟩, .inr (by omega)⟩
theorem few_key : (fun x => fewL f n x) = tooFewK f n 6 := by
  funext x
  show (x.length : Int) - ((wbL (shopL f (natG x) x.length n) 6).length : Int) = _
  unfold tooFewK
  have h : listB (natG (wbL (shopL f (natG x) x.length n) 6)) (6 : Nat) (wbL (shopL f (natG x) x.length n) 6).length = true := listB_filt _ 6 fun y hy => by
    have := List.mem_range.1 (List.mem_filter.1 hy).1
    omega
  rw [← cnt_list h, cnt_congr (q := WantM f n (InL x))]
  intro y hy
  rw [wbL, List.mem_filter, List.mem_range, decide_eq_true_eq, mould_wants hG]
  exact ⟨fun h => h.2, fun h => ⟨hy, h⟩⟩

/-- The cover that is returned. -/
theorem cover_ok (hE : bookE s M n f = 0) : coverE s M n f (covS f n s (bookL f n)).length (natG (covS f n s (bookL f n))) (covM f n s (bookL f n)).length (natG (covM f n s (bookL f n))) = 0 ∧
    (covS f n s (bookL f n)).length + (covM f n s (bookL f n)).length = (bestOf f n).length ∧ (covS f n s (bookL f n)).length ≤ s ∧ (covM f n s (bookL f n)).length ≤ M := by
  obtain ⟨g1, g2, g3, g4⟩ := id hG
  have hS : ∀ i, i < n → 0 ≤ (f i).s ∧ (f i).s < s := fun i hi => (g4 i hi).1
  have hT : ∀ i, i < n → 0 ≤ (f i).m ∧ (f i).m < (6 : Nat) := fun i hi => ⟨(g4 i hi).2.1, by have := (g4 i hi).2.2; omega⟩
  obtain ⟨X, hX⟩ : ∃ X, shortOf f n s (bookL f n) = X := ⟨_, rfl⟩
  have hb := best_most f n
  have hk : shortOf f n s (bookL f n) = bestK (tooFewK f n 6) [] (tailsL (fun _ i => decide (0 < bookL f n i)) s s []) := by
    rw [shortOf_best, ← few_key hG]
  obtain ⟨k1, k2, k3⟩ := short_most hS hT (fun _ i => decide (0 < bookL f n i)) (fun b j hj => by
    show decide (0 < bookL f n j) = true ↔ _
    rw [decide_eq_true_eq]
    exact shop_wants hG (by omega)) hb.1 (fun M' h => by rw [hb.2.1]; exact hb.2.2.2 M' h)
  rw [← hk, hX] at k1 k2 k3
  rw [hb.2.1] at k3
  -- the shops
  have m1 : ∀ v, v ∈ covS f n s (bookL f n) ↔ v < s ∧ WantS f n v ∧ v ∉ X := fun v => by
    unfold covS othL
    rw [hX, List.mem_filter, List.mem_range, Bool.and_eq_true, decide_eq_true_eq, Bool.not_eq_true']
    constructor
    · intro ⟨h1, h2, h3⟩
      exact ⟨h1, (shop_wants hG (by omega)).1 h2, fun h => by
        have := (hasB_iff (natG X) (v : Int) X.length).2 ((natG_has X v).2 h)
        rw [show hasB (natG X) (v : Int) X.length = false from h3] at this
        cases this⟩
    · intro ⟨h1, h2, h3⟩
      refine ⟨h1, (shop_wants hG (by omega)).2 h2, ?_⟩
      cases h : hasB (fun j => ((X.getD j 0 : Nat) : Int)) (v : Int) X.length with
      | false => rfl
      | true => exact absurd ((natG_has X v).1 ((hasB_iff (natG X) (v : Int) X.length).1 h)) h3
  have m2 : ∀ y, y ∈ covM f n s (bookL f n) ↔ y < 6 ∧ WantM f n (InL X) y := fun y => by
    unfold covM
    rw [hX, wbL, List.mem_filter, List.mem_range, decide_eq_true_eq]
    exact and_congr_right fun _ => mould_wants hG X y
  have l1 : listB (natG (covS f n s (bookL f n))) s (covS f n s (bookL f n)).length = true := listB_filt _ s fun y hy => by
    have := List.mem_range.1 (List.mem_filter.1 hy).1
    omega
  obtain ⟨pm, hpm⟩ : ∃ pm, covM f n s (bookL f n) = (List.range 6).filter pm := by unfold covM wbL; exact ⟨_, rfl⟩
  have l2 : listB (natG (covM f n s (bookL f n))) M (covM f n s (bookL f n)).length = true := by
    rw [hpm]
    refine listB_filt pm 6 fun y hy => ?_
    rw [← hpm] at hy
    obtain ⟨_, i, hi, _, e⟩ := (m2 y).1 hy
    have := (g4 i hi).2.2
    omega
  have l3 : listB (natG (covM f n s (bookL f n))) (6 : Nat) (covM f n s (bookL f n)).length = true := by
    rw [hpm]
    refine listB_filt pm 6 fun y hy => ?_
    have := List.mem_range.1 (List.mem_filter.1 hy).1
    omega
  obtain ⟨r1, r2⟩ := rest_cover (f := f) (n := n) (S := s) (InL X) fun x hx h => ((k1 x ((inL_nat X x).1 h)).2)
  have c1 : cnt (fun x : Nat => (∃ i, i < n ∧ (f i).s = (x : Int)) ∧ ¬ InL X (x : Int)) s = (covS f n s (bookL f n)).length := by
    rw [← cnt_list l1]
    exact cnt_congr fun v hv => by rw [m1, inL_nat]; exact ⟨fun h => ⟨hv, h.1, h.2⟩, fun h => ⟨h.2.1, h.2.2⟩⟩
  have c2 : cnt (fun x : Nat => InL X (x : Int)) s = X.length := by
    rw [← k2]
    exact cnt_congr fun v _ => inL_nat X v
  have c3 : cnt (WantM f n (InL X)) 6 = (covM f n s (bookL f n)).length := by
    rw [← cnt_list l3]
    exact cnt_congr fun v hv => by rw [m2]; exact ⟨fun h => ⟨hv, h⟩, fun h => h.2⟩
  have hc : coverB f (covS f n s (bookL f n)).length (natG (covS f n s (bookL f n))) (covM f n s (bookL f n)).length (natG (covM f n s (bookL f n))) n = true := by
    rw [coverB_iff]
    intro i hi
    rcases r1 i hi with ⟨_, h⟩ | h
    · refine .inl ?_
      obtain ⟨v, hv⟩ := Int.eq_ofNat_of_zero_le (hS i hi).1
      have := hS i hi
      rw [hv] at h ⊢
      exact (natG_has _ v).2 ((m1 v).2 ⟨by omega, ⟨i, hi, hv⟩, fun hm => h ((inL_nat X v).2 hm)⟩)
    · refine .inr ?_
      obtain ⟨v, hv⟩ := Int.eq_ofNat_of_zero_le (hT i hi).1
      have := hT i hi
      rw [hv] at h ⊢
      obtain ⟨j, hj, a, e⟩ := h
      exact (natG_has _ v).2 ((m2 v).2 ⟨by omega, j, hj, a, e⟩)
  refine ⟨by rw [coverE, if_pos hE, if_pos ⟨l1, l2⟩, if_pos hc], ?_, ?_, ?_⟩
  · unfold tooFewK at k3
    rw [c1, c2] at r2
    rw [c3] at k3
    omega
  · rw [← cnt_list l1]; exact cnt_atmost _ _
  · rw [← cnt_list l2]; exact cnt_atmost _ _
/-- No list of a day has more wants than a cover has numbers. -/
theorem list_cover (hE : bookE s M n f = 0) {ns nm : Nat} {sh mo : Nat → Int} (h1 : coverE s M n f ns sh nm mo = 0) : (bestOf f n).length ≤ ns + nm := by
  obtain ⟨g1, g2, g3, g4⟩ := id hG
  have hS : ∀ i, i < n → 0 ≤ (f i).s ∧ (f i).s < s := fun i hi => (g4 i hi).1
  have hT : ∀ i, i < n → 0 ≤ (f i).m ∧ (f i).m < M := fun i hi => (g4 i hi).2
  rw [coverE, if_pos hE] at h1
  by_cases hl : listB sh s ns = true ∧ listB mo M nm = true
  · rw [if_pos hl] at h1
    by_cases hc : coverB f ns sh nm mo n = true
    · have hb := best_most f n
      have := cover_most hS hT hb.1 ((coverB_iff f ns sh nm mo n).1 hc)
      rw [hb.2.1, listB_cnt hl.1, listB_cnt hl.2] at this
      exact this
    · rw [if_neg hc] at h1; omega
  · rw [if_neg hl] at h1; omega
end
end Go.Proofs.Ytbjgbgchagfokaa

namespace Go.Proofs.Ytbjgbgchagfokaa
open Go Go.RowKit Go.Shelf

theorem bits_listT (n : Nat) (x : Int) : listB (natG (bitsL n x)) n (bitsL n x).length = true := listB_filt _ n fun y hy => by
  have := List.mem_range.1 (List.mem_filter.1 hy).1
  omega
theorem cover_named {s m : Nat} {a : Option Addr} {n cap : Nat} {f : Nat → W2} {X Y : List Nat} {p q : Option Addr} {c d : Nat} {E N : Int} {w : World} (hE : coverE s m n f X.length (natG X) Y.length (natG Y) = E) (hN : coverN E X.length Y.length = N) (hb : bookE s m n f = 0) (hx : X.length ≤ 1048576) (hy : Y.length ≤ 1048576)
    (hf : Wants w a n f) (hp : Lst w X p c) (hq : Lst w Y q d) :
    Calls Try.prog 27 #[bookV s m a n cap, .slice p X.length c, .slice q Y.length d] w fun e w' => e = .returned (.tuple #[.int .i64 N, .int .i64 E]) ∧ Below w.heap.size w w' := by
  have hn := (book_good hb).2.2.1
  have h3 := CheckCover_yes_c s m a n cap f p X.length c (natG X) q Y.length d (natG Y) w hf (by omega) hp.cells hx hq.cells hy hb
  rw [hE, hN] at h3
  exact h3
theorem list_named {s m : Nat} {a : Option Addr} {n cap : Nat} {f : Nat → W2} {X : List Nat} {p : Option Addr} {c : Nat} {E : Int} {w : World} (hE : (if listB (natG X) n X.length = true then (if apartAll f n (natG X) X.length = true then (0 : Int) else 18) else 3) = E) (hb : bookE s m n f = 0) (hx : X.length ≤ 1048576)
    (hf : Wants w a n f) (hp : Lst w X p c) :
    Calls Try.prog 30 #[bookV s m a n cap, .slice p X.length c] w fun e w' => e = .returned (.int .i64 E) ∧ Below w.heap.size w w' := by
  have hn := (book_good hb).2.2.1
  have h3 := CheckList_yes_c s m a n cap f p X.length c (natG X) w hf (by omega) hp.cells hx hp.room hp.fit hb
  rw [hE] at h3
  exact h3
theorem ints_same {a b : Option Addr} {n c d : Nat} {g : Nat → Int} {w : World} (h1 : Ints w a n g) (h2 : Ints w b n g) (hn : n ≤ 1048576) :
    Calls Try.prog 24 #[.slice a n c, .slice b n d] w fun e w' => e = .returned (.bool true) ∧ Below w.heap.size w w' := by
  have h3 := Ints_c a n c g b n d g w h1 h2 hn
  rw [intsB_yes fun i _ => rfl] at h3
  exact h3

end Go.Proofs.Ytbjgbgchagfokaa

namespace Go.Proofs.Ytbjgbgchagfokaa
open Go Go.RowKit Go.Shelf


section
variable {s m : Nat} {a : Option Addr} {n cap : Nat} {f : Nat → W2} {d : Nat → Nat} {q v dcap : Nat} {da : Option Addr} {w : World} {L : List Nat}
theorem other_lt (hR : Right f n 14 d) (hq : q < n) (hv : v < 14) (j : Nat) : otherD d q v j < 14 := by
  unfold otherD
  split
  · exact hR.1 q hq
  · exact hv
theorem chain_mate (hb : bookE s m n f = 0) (hR : Right f n 14 d) (hq : q < n) (hv : v < 14) (hne : d q ≠ v) (hL : chainL f n d (d q) v q = L) {j o : Nat} (hj : j ∈ L) (ho : otherD d q v j = o) (hf : Wants w a n f) (hd : Ints w da n fun i => (d i : Int)) :
    Calls Try.prog 40 #[bookV s m a n cap, .slice da n dcap, .int .i64 j, .int .i64 o] w fun e w' => ∃ p c, e = .returned (.tuple #[.slice p L.length c, .int .i64 0]) ∧ Lst w' L p c ∧ Below w.heap.size w w' := by
  subst hL ho
  have h := chain_named (cap := cap) (dcap := dcap) hb hR (Nat.le_refl _) (chain_in hq hj).1 (other_lt hR hq hv j) (fun e => swap_ne hq hne hj e.symm) hf hd
  rw [chain_same hq hj] at h
  exact h
theorem swap_mate {sw : Nat → Nat} (hb : bookE s m n f = 0) (hR : Right f n 14 d) (hq : q < n) (hv : v < 14) (hne : d q ≠ v) (hL : chainL f n d (d q) v q = L) (hsw : swapN f n d (d q) v q = sw) {j : Nat} (hj : j ∈ L) (hf : Wants w a n f) (hd : Ints w da n fun i => (sw i : Int)) :
    Calls Try.prog 39 #[bookV s m a n cap, .slice da n dcap, .int .i64 j, .int .i64 ((d j : Nat) : Int)] w fun e w' => ∃ b, e = .returned (.tuple #[.slice (some ⟨b, 0, none⟩) n n, .int .i64 0]) ∧ (Ints w' (some ⟨b, 0, none⟩) n fun k => (d k : Int)) ∧ Below w.heap.size w w' := by
  subst hL hsw
  have hjn := (chain_in hq hj).1
  have h := swap_named (cap := cap) (dcap := dcap) (y := d j) hb (swapN_right hR (hR.1 q hq) hv hne hq (.inl rfl)) (Nat.le_refl _) hjn (hR.1 j hjn) (by rw [swap_val hq hne hj]; exact swap_ne hq hne hj) hf hd
  refine h.mono ?_
  rintro e w' ⟨b, rfl, hI, hB⟩
  exact ⟨b, rfl, ints_congr hI fun i _ => by rw [swap_again hq hne hj], hB⟩
end

set_option maxRecDepth 100000 in
set_option maxHeartbeats 64000000 in
theorem law_swapped_c (S M : Int) (a : Option Addr) (n cap : Nat) (f : Nat → W2) (ba : Option Addr) (bn bcap : Nat) (g : Nat → Int) (z y : Int) (w : World) (hf : Wants w a n f) (hg : Cells w ba bn fun i => .int .u8 (g i)) (hgr : ∀ i, i < bn → 0 ≤ g i ∧ g i ≤ 255) (hz : 0 ≤ z ∧ z ≤ 255) (hy : 0 ≤ y ∧ y ≤ 255) :
    Calls Try.prog 7 #[bookV S M a n cap, .slice ba bn bcap, .int .u8 z, .int .u8 y] w fun e w' => e = .returned (.bool true) ∧ Below w.heap.size w w' := by
  obtain ⟨z, rfl⟩ := Int.eq_ofNat_of_zero_le hz.1
  obtain ⟨y, rfl⟩ := Int.eq_ofNat_of_zero_le hy.1
  obtain ⟨W, hW⟩ : ∃ W, w.alloc (.cells #[.int .i64 S, .int .i64 M, .slice a n cap] 24) = W := ⟨_, rfl⟩
  have hB : Below w.heap.size w W := by rw [← hW]; exact Below.alloc1 (Below.refl _ _) _ (Nat.le_refl _)
  have hR : RowIs W w.heap.size #[.int .i64 S, .int .i64 M, .slice a n cap] 24 := by rw [← hW]; exact heap_new_at _ _ _ rfl
  have r0 : W.cell? ⟨w.heap.size, 0, none⟩ = some (.int .i64 S) := RowIs.cell hR 0
  have r1 : W.cell? ⟨w.heap.size, 1, none⟩ = some (.int .i64 M) := RowIs.cell hR 1
  have r2 : W.cell? ⟨w.heap.size, 2, none⟩ = some (.slice a n cap) := RowIs.cell hR 2
  have rz : w.heap.size < W.heap.size := hR.lt
  have HF := Lib.hid (hf.below hB)
  have HR := Lib.hid hR
  have HG := Lib.hid (Cells.below hg hB)
  clear hR hf
  clear hg
  cases hE : decide (bookE S M n f = 0) with
  | false =>
    have HC := Lib.hid (fun (x : World) (h : Wants x a n f) => fine_c S M a n cap f x h)
    rw [hE] at HC
    clear hE
    go_enter Try.func7, Try.ntmps7
    go_wp2_with fail
    refine (HC.out _ HF.out).mono ?_
    rintro e w1 ⟨rfl, hb1⟩
    replace HR := Lib.hid (RowIs.below HR.out hb1)
    replace HF := Lib.hid (HF.out.below hb1)
    replace HG := Lib.hid (Cells.below HG.out hb1)
    replace hB := bup hB hb1
    clear r0 r1 r2 rz hb1
    have r0 : w1.cell? ⟨w.heap.size, 0, none⟩ = some (.int .i64 S) := RowIs.cell HR.out 0
    have r1 : w1.cell? ⟨w.heap.size, 1, none⟩ = some (.int .i64 M) := RowIs.cell HR.out 1
    have r2 : w1.cell? ⟨w.heap.size, 2, none⟩ = some (.slice a n cap) := RowIs.cell HR.out 2
    have rz : w.heap.size < w1.heap.size := HR.out.lt
    go_wp2_with fail
    refine (works_c _).mono ?_
    rintro e wz ⟨rfl, hbz⟩
    go_wp2_with fail
    go_ret
    exact ⟨rfl, bup hB hbz⟩
  | true =>
    have HC := Lib.hid (fun (x : World) (h : Wants x a n f) => fine_c S M a n cap f x h)
    rw [hE] at HC
    have hE0 := of_decide_eq_true hE
    clear hE
    have hGB := book_good hE0
    obtain ⟨s, rfl⟩ : ∃ s : Nat, S = s := ⟨S.toNat, by have := hGB.1; omega⟩
    obtain ⟨m, rfl⟩ : ∃ m : Nat, M = m := ⟨M.toNat, by have := hGB.2.1; omega⟩
    have hn14 := hGB.2.2.1
    have HE := Lib.hid hE0
    have HGR := Lib.hid hgr
    clear hE0 hGB hgr
    by_cases hn0 : n = 0
    · subst hn0
      go_enter Try.func7, Try.ntmps7
      go_wp2_with fail
      refine (HC.out _ HF.out).mono ?_
      rintro e w1 ⟨rfl, hb1⟩
      replace HR := Lib.hid (RowIs.below HR.out hb1)
      replace HF := Lib.hid (HF.out.below hb1)
      replace HG := Lib.hid (Cells.below HG.out hb1)
      replace hB := bup hB hb1
      clear r0 r1 r2 rz hb1
      have r0 : w1.cell? ⟨w.heap.size, 0, none⟩ = some (.int .i64 s) := RowIs.cell HR.out 0
      have r1 : w1.cell? ⟨w.heap.size, 1, none⟩ = some (.int .i64 m) := RowIs.cell HR.out 1
      have r2 : w1.cell? ⟨w.heap.size, 2, none⟩ = some (.slice a 0 cap) := RowIs.cell HR.out 2
      have rz : w.heap.size < w1.heap.size := HR.out.lt
      go_wp2_with fail
      refine (works_c _).mono ?_
      rintro e wz ⟨rfl, hbz⟩
      go_wp2_with fail
      go_ret
      exact ⟨rfl, bup hB hbz⟩
    have hnp : 0 < n := by omega
    have tn0 : ((n : Int) == 0) = false := by simp; omega
    by_cases hbn : 40 < bn
    · have t0 : decide ((40 : Int) < (bn : Int)) = true := by simp; omega
      go_enter Try.func7, Try.ntmps7
      go_wp2_with fail
      refine (HC.out _ HF.out).mono ?_
      rintro e w1 ⟨rfl, hb1⟩
      replace HR := Lib.hid (RowIs.below HR.out hb1)
      replace HF := Lib.hid (HF.out.below hb1)
      replace HG := Lib.hid (Cells.below HG.out hb1)
      replace hB := bup hB hb1
      clear r0 r1 r2 rz hb1
      have r0 : w1.cell? ⟨w.heap.size, 0, none⟩ = some (.int .i64 s) := RowIs.cell HR.out 0
      have r1 : w1.cell? ⟨w.heap.size, 1, none⟩ = some (.int .i64 m) := RowIs.cell HR.out 1
      have r2 : w1.cell? ⟨w.heap.size, 2, none⟩ = some (.slice a n cap) := RowIs.cell HR.out 2
      have rz : w.heap.size < w1.heap.size := HR.out.lt
      go_wp2_with fail
      refine (works_c _).mono ?_
      rintro e wz ⟨rfl, hbz⟩
      go_wp2_with fail
      go_ret
      exact ⟨rfl, bup hB hbz⟩
    have hb40 : bn ≤ 40 := by omega
    have t0 : decide ((40 : Int) < (bn : Int)) = false := by simp; omega
    clear hbn
    go_enter Try.func7, Try.ntmps7
    go_wp2_with fail
    refine (HC.out _ HF.out).mono ?_
    rintro e w1 ⟨rfl, hb1⟩
    clear HC
    replace HR := Lib.hid (RowIs.below HR.out hb1)
    replace HF := Lib.hid (HF.out.below hb1)
    replace HG := Lib.hid (Cells.below HG.out hb1)
    replace hB := bup hB hb1
    clear r0 r1 r2 rz hb1
    have r0 : w1.cell? ⟨w.heap.size, 0, none⟩ = some (.int .i64 s) := RowIs.cell HR.out 0
    have r1 : w1.cell? ⟨w.heap.size, 1, none⟩ = some (.int .i64 m) := RowIs.cell HR.out 1
    have r2 : w1.cell? ⟨w.heap.size, 2, none⟩ = some (.slice a n cap) := RowIs.cell HR.out 2
    have rz : w.heap.size < w1.heap.size := HR.out.lt
    go_wp2_with fail
    refine (Given_c s m a n cap f ba bn bcap g _ HF.out hn14 HG.out HGR.out hb40).mono ?_
    rintro e w2 ⟨pd, cd, x, rfl, hx, hLd, hRd, hb2⟩
    have h3 := hLd.room
    have h4 := hLd.fit
    have hc := hLd.cells
    rw [hx] at hc h3
    have hn3 := h3
    have hn4 := h4
    obtain ⟨d, hd⟩ : ∃ d : Nat → Nat, (fun i => x.getD i 0) = d := ⟨_, rfl⟩
    have HD : Hid (Ints w2 pd n fun i => (d i : Int)) := Lib.hid (by rw [← hd]; exact hc)
    have HRd : Hid (Right f n 14 d) := Lib.hid (by rw [← hd]; exact hRd)
    clear hLd hRd hc hx hd h3 h4 t0 tn0 HG HGR
    replace HR := Lib.hid (RowIs.below HR.out hb2)
    replace HF := Lib.hid (HF.out.below hb2)
    replace hB := bup hB hb2
    clear r0 r1 r2 rz hb2
    have r0 : w2.cell? ⟨w.heap.size, 0, none⟩ = some (.int .i64 s) := RowIs.cell HR.out 0
    have r1 : w2.cell? ⟨w.heap.size, 1, none⟩ = some (.int .i64 m) := RowIs.cell HR.out 1
    have r2 : w2.cell? ⟨w.heap.size, 2, none⟩ = some (.slice a n cap) := RowIs.cell HR.out 2
    have rz : w.heap.size < w2.heap.size := HR.out.lt
    obtain ⟨q, hq⟩ : ∃ q, z % n = q := ⟨_, rfl⟩
    have hqn : q < n := by rw [← hq]; exact Nat.mod_lt _ hnp
    have ta : Int.tmod (z : Int) (n : Int) = (q : Int) := by rw [← hq]; exact (Int.ofNat_tmod z n).symm
    have tb : (z : Int) % (n : Int) = (q : Int) := by rw [← hq]; exact (Int.natCast_emod z n).symm
    have tc : IntKind.i64.wrap (z : Int) = (z : Int) := IntWalk.i64_in _ (by omega)
    obtain ⟨v, hv⟩ : ∃ v, y % 14 = v := ⟨_, rfl⟩
    have hv14 : v < 14 := by omega
    have td : Int.tmod (y : Int) 14 = (v : Int) := by rw [← hv]; exact (Int.ofNat_tmod y 14).symm
    have te : (y : Int) % 14 = (v : Int) := by omega
    have tf : IntKind.i64.wrap (y : Int) = (y : Int) := IntWalk.i64_in _ (by omega)
    clear hq hv
    obtain ⟨xb, xo, rfl, hxb, hxc⟩ := Cells.at HD.out q hqn
    have cq : w2.cell? ⟨xb, xo + q, none⟩ = some (.int .i64 ((d q : Nat) : Int)) := hxc q hqn
    clear hxc
    by_cases he : d q = v
    · have t5 : (((d q : Nat) : Int) == (v : Int)) = true := by simp [he]
      have HS := Lib.hid (fun (x : World) (h : Wants x a n f) (h2 : Ints x (some ⟨xb, xo, none⟩) n fun i => (d i : Int)) => swap_not (cap := cap) (dcap := cd) HE.out HRd.out (Nat.le_refl _) hqn hv14 he h h2)
      clear he
      go_wp2_with fail
      refine (HS.out _ HF.out HD.out).mono ?_
      rintro e w3 ⟨rfl, hb3⟩
      clear cq hxb
      replace HR := Lib.hid (RowIs.below HR.out hb3)
      replace HF := Lib.hid (HF.out.below hb3)
      replace HD := Lib.hid (Cells.below HD.out hb3)
      replace hB := bup hB hb3
      clear r0 r1 r2 rz hb3
      have r0 : w3.cell? ⟨w.heap.size, 0, none⟩ = some (.int .i64 s) := RowIs.cell HR.out 0
      have r1 : w3.cell? ⟨w.heap.size, 1, none⟩ = some (.int .i64 m) := RowIs.cell HR.out 1
      have r2 : w3.cell? ⟨w.heap.size, 2, none⟩ = some (.slice a n cap) := RowIs.cell HR.out 2
      have rz : w.heap.size < w3.heap.size := HR.out.lt
      go_wp2_with fail
      refine (works_c _).mono ?_
      rintro e wz ⟨rfl, hbz⟩
      go_wp2_with fail
      go_ret
      exact ⟨rfl, bup hB hbz⟩
    have t5 : (((d q : Nat) : Int) == (v : Int)) = false := by simp; omega
    obtain ⟨L, hL⟩ : ∃ L, chainL f n d (d q) v q = L := ⟨_, rfl⟩
    obtain ⟨sw, hsw⟩ : ∃ sw : Nat → Nat, swapN f n d (d q) v q = sw := ⟨_, rfl⟩
    have hln : L.length ≤ n := by rw [← hL]; exact chain_len hqn
    have hql : q ∈ L := by rw [← hL]; exact chain_self hqn
    have hl0 : 0 < L.length := List.length_pos_of_mem hql
    have HLe := Lib.hid hL
    have HSe := Lib.hid hsw
    have HRs := Lib.hid (show Right f n 14 sw by rw [← hsw]; exact swapN_right HRd.out (HRd.out.1 q hqn) hv14 he hqn (.inl rfl))
    have HNE := Lib.hid he
    have HC1 := Lib.hid (fun (x : World) (h : Wants x a n f) (h2 : Ints x (some ⟨xb, xo, none⟩) n fun i => (d i : Int)) => chain_named (cap := cap) (dcap := cd) HE.out HRd.out (Nat.le_refl _) hqn hv14 he h h2)
    have HC2 := Lib.hid (fun (x : World) (h : Wants x a n f) (h2 : Ints x (some ⟨xb, xo, none⟩) n fun i => (d i : Int)) => swap_named (cap := cap) (dcap := cd) HE.out HRd.out (Nat.le_refl _) hqn hv14 he h h2)
    rw [hL] at HC1
    rw [hsw] at HC2
    clear he hL hsw hql
    go_wp2_with fail
    refine (HC1.out _ HF.out HD.out).mono ?_
    rintro e w3 ⟨pl, cl, rfl, hLl, hb3⟩
    have LL := Lib.hid hLl
    clear hLl cq
    replace HR := Lib.hid (RowIs.below HR.out hb3)
    replace HF := Lib.hid (HF.out.below hb3)
    replace HD := Lib.hid (Cells.below HD.out hb3)
    replace hB := bup hB hb3
    clear r0 r1 r2 rz hb3
    have r0 : w3.cell? ⟨w.heap.size, 0, none⟩ = some (.int .i64 s) := RowIs.cell HR.out 0
    have r1 : w3.cell? ⟨w.heap.size, 1, none⟩ = some (.int .i64 m) := RowIs.cell HR.out 1
    have r2 : w3.cell? ⟨w.heap.size, 2, none⟩ = some (.slice a n cap) := RowIs.cell HR.out 2
    have rz : w.heap.size < w3.heap.size := HR.out.lt
    go_wp2_with fail
    refine (HC2.out _ HF.out HD.out).mono ?_
    rintro e w4 ⟨sb, rfl, hS, hb4⟩
    have HS := Lib.hid hS
    clear hS HC1 HC2
    replace HR := Lib.hid (RowIs.below HR.out hb4)
    replace HF := Lib.hid (HF.out.below hb4)
    replace HD := Lib.hid (Cells.below HD.out hb4)
    replace LL := Lib.hid (LL.out.below hb4)
    replace hB := bup hB hb4
    clear r0 r1 r2 rz hb4
    have r0 : w4.cell? ⟨w.heap.size, 0, none⟩ = some (.int .i64 s) := RowIs.cell HR.out 0
    have r1 : w4.cell? ⟨w.heap.size, 1, none⟩ = some (.int .i64 m) := RowIs.cell HR.out 1
    have r2 : w4.cell? ⟨w.heap.size, 2, none⟩ = some (.slice a n cap) := RowIs.cell HR.out 2
    have rz : w.heap.size < w4.heap.size := HR.out.lt
    have u1 : decide ((L.length : Int) < 1) = false := by simp; omega
    have u2 : decide ((n : Int) < (L.length : Int)) = false := by simp; omega
    have u3 : ((n : Int) != (n : Int)) = false := by simp
    go_wp2_with fail
    refine (days_named (cap := cap) (dcap := n) HE.out HRs.out (Nat.le_refl _) HF.out HS.out).mono ?_
    rintro e w5 ⟨N1, rfl, hb5⟩
    replace HR := Lib.hid (RowIs.below HR.out hb5)
    replace HF := Lib.hid (HF.out.below hb5)
    replace HD := Lib.hid (Cells.below HD.out hb5)
    replace LL := Lib.hid (LL.out.below hb5)
    replace HS := Lib.hid (Cells.below HS.out hb5)
    replace hB := bup hB hb5
    clear r0 r1 r2 rz hb5
    have r0 : w5.cell? ⟨w.heap.size, 0, none⟩ = some (.int .i64 s) := RowIs.cell HR.out 0
    have r1 : w5.cell? ⟨w.heap.size, 1, none⟩ = some (.int .i64 m) := RowIs.cell HR.out 1
    have r2 : w5.cell? ⟨w.heap.size, 2, none⟩ = some (.slice a n cap) := RowIs.cell HR.out 2
    have rz : w.heap.size < w5.heap.size := HR.out.lt
    go_wp2_with fail
    refine (rdays_named (cap := cap) (dcap := n) HE.out HRs.out (Nat.le_refl _) HF.out HS.out (Nat.le_refl _) (by omega)).mono ?_
    rintro e w6 ⟨N2, rfl, hb6⟩
    replace HR := Lib.hid (RowIs.below HR.out hb6)
    replace HF := Lib.hid (HF.out.below hb6)
    replace HD := Lib.hid (Cells.below HD.out hb6)
    replace LL := Lib.hid (LL.out.below hb6)
    replace HS := Lib.hid (Cells.below HS.out hb6)
    replace hB := bup hB hb6
    clear r0 r1 r2 rz hb6
    have r0 : w6.cell? ⟨w.heap.size, 0, none⟩ = some (.int .i64 s) := RowIs.cell HR.out 0
    have r1 : w6.cell? ⟨w.heap.size, 1, none⟩ = some (.int .i64 m) := RowIs.cell HR.out 1
    have r2 : w6.cell? ⟨w.heap.size, 2, none⟩ = some (.slice a n cap) := RowIs.cell HR.out 2
    have rz : w.heap.size < w6.heap.size := HR.out.lt
    obtain ⟨lb, lo, rfl, hlb, -⟩ := Cells.at LL.out.cells 0 hl0
    have HB := Lib.hid hB
    clear hB hlb hxb u1 u2 u3 t5
    go_wp2_with fail
    clear r0 r1 r2 ta tb tc td te tf
    go_loopw [18, 19, 20, 21, 22, 23, 24, 25] (fun nx k _ _ _ _ _ _ wr => ∃ j : Nat, j ≤ n ∧ k = .int .i64 j ∧ nx = .int .i64 ((nxL L j : Nat) : Int) ∧ Below w6.heap.size w6 wr) (fun _ k _ _ _ _ _ _ _ => n - (intOf k).toNat)
    case atStart => exact ⟨0, Nat.zero_le _, rfl, by rw [nxL_zero fun v _ => Nat.zero_le v]; rfl, Below.refl _ _⟩
    case round =>
      obtain ⟨j, hj, rfl, rfl, hbr⟩ := hrel
      have hr := RowIs.below HR.out hbr
      have r0 : wr.cell? ⟨w.heap.size, 0, none⟩ = some (.int .i64 s) := hr.cell 0
      have r1 : wr.cell? ⟨w.heap.size, 1, none⟩ = some (.int .i64 m) := hr.cell 1
      have r2 : wr.cell? ⟨w.heap.size, 2, none⟩ = some (.slice a n cap) := hr.cell 2
      have rzr := hr.lt
      clear hr
      have htl := nxL_le L j
      obtain ⟨t, ht⟩ : ∃ t, nxL L j = t := ⟨_, rfl⟩
      by_cases hlt : j < n
      · skip
        obtain ⟨_, _, e1, hxb, hxc⟩ := Cells.at (Cells.below HD.out hbr) j hlt
        cases e1
        have cj : wr.cell? ⟨xb, xo + j, none⟩ = some (.int .i64 ((d j : Nat) : Int)) := hxc j hlt
        have cq : wr.cell? ⟨xb, xo + q, none⟩ = some (.int .i64 ((d q : Nat) : Int)) := hxc q hqn
        obtain ⟨_, _, e1, hsb, hsc⟩ := Cells.at (Cells.below HS.out hbr) j hlt
        cases e1
        have cs : wr.cell? ⟨sb, j, none⟩ = some (.int .i64 ((sw j : Nat) : Int)) := by have h : wr.cell? ⟨sb, 0 + j, none⟩ = some (.int .i64 ((sw j : Nat) : Int)) := hsc j hlt; rwa [Nat.zero_add] at h
        clear hxc hsc
        have wj : IntKind.i64.wrap ((j : Int) + 1) = (j : Int) + 1 := IntWalk.i64_in _ (by omega)
        have wt : IntKind.i64.wrap ((t : Int) + 1) = (t : Int) + 1 := IntWalk.i64_in _ (by omega)
        have Hbr := Lib.hid hbr
        clear hbr
        by_cases hin : j ∈ L
        · skip
          obtain ⟨hi1, hi2, hi3⟩ := nxL_in (by rw [← HLe.out]; exact chainL_up) hin
          rw [ht] at hi1 hi2 hi3 ⊢
          obtain ⟨_, _, e1, hlb, hlc⟩ := Cells.at (Cells.below LL.out.cells Hbr.out) t hi1
          cases e1
          have clt : wr.cell? ⟨lb, lo + t, none⟩ = some (.int .i64 ((j : Nat) : Int)) := by have h : wr.cell? ⟨lb, lo + t, none⟩ = some (.int .i64 ((L.getD t 0 : Nat) : Int)) := hlc t hi1; rwa [hi2] at h
          clear hlc
          have t1 : decide ((t : Int) < (L.length : Int)) = true := by simp; omega
          have t2 : ((j : Int) == (j : Int)) = true := by simp
          have hin' : j ∈ chainL f n d (d q) v q := by rw [HLe.out]; exact hin
          obtain ⟨oj, hoj⟩ : ∃ o, otherD d q v j = o := ⟨_, rfl⟩
          have hsv : sw j = oj := by rw [← HSe.out, ← hoj]; exact swap_val hqn HNE.out hin'
          rw [hsv] at cs
          have HM1 := Lib.hid (fun (x : World) (h : Below w6.heap.size w6 x) => chain_mate (cap := cap) (dcap := cd) HE.out HRd.out hqn hv14 HNE.out HLe.out hin hoj (HF.out.below h) (Cells.below HD.out h))
          have HM2 := Lib.hid (fun (x : World) (h : Below w6.heap.size w6 x) => swap_mate (cap := cap) (dcap := n) HE.out HRd.out hqn hv14 HNE.out HLe.out HSe.out hin (HF.out.below h) (Cells.below HS.out h))
          have Hi3 := Lib.hid hi3
          have t3 : ((oj : Int) != (oj : Int)) = false := by simp
          clear hi2 hi3 hin hin' hsv
          by_cases hdj : d j = v
          · skip
            have ho : oj = d q := by rw [← hoj, otherD, if_pos hdj]
            have t4 : (((d j : Nat) : Int) == (v : Int)) = true := by simp [hdj]
            rw [ho] at HM1 cs t3
            clear hoj hdj
            clear ho
            go_wp2_with fail
            refine (HM1.out _ Hbr.out).mono ?_
            rintro e w7 ⟨p7, c7, rfl, hL7, hb7⟩
            have L7 := Lib.hid hL7
            have q0 := (hb7.cell (p := ⟨w.heap.size, 0, none⟩) rzr).trans r0
            have q1 := (hb7.cell (p := ⟨w.heap.size, 1, none⟩) rzr).trans r1
            have q2 := (hb7.cell (p := ⟨w.heap.size, 2, none⟩) rzr).trans r2
            have qz := Nat.lt_of_lt_of_le rzr hb7.size
            have qj := (hb7.cell (p := ⟨xb, xo + j, none⟩) hxb).trans cj
            have qs := (hb7.cell (p := ⟨sb, j, none⟩) hsb).trans cs
            have qx := Nat.lt_of_lt_of_le hxb hb7.size
            have qy := Nat.lt_of_lt_of_le hsb hb7.size
            have Hb7 := Lib.hid (bup Hbr.out hb7)
            clear hb7 hL7 r0 r1 r2 rzr cj cq cs hxb hsb clt hlb
            go_wp2_with fail
            go_cut [24, 25] from 170 to 180 (fun e1 e2 wx => ∃ b2, e1 = .slice (some ⟨b2, 0, none⟩) n n ∧ e2 = .int .i64 0 ∧ (Ints wx (some ⟨b2, 0, none⟩) n fun i => (d i : Int)) ∧ Below w7.heap.size w7 wx)
            case first =>
              go_region_held3 (fun w' => w'.cell? ⟨w.heap.size, 0, none⟩ = some (.int .i64 s) ∧ w'.cell? ⟨w.heap.size, 1, none⟩ = some (.int .i64 m) ∧ w'.cell? ⟨w.heap.size, 2, none⟩ = some (.slice a n cap) ∧ w'.cell? ⟨xb, xo + j, none⟩ = some (.int .i64 ((d j : Nat) : Int)))
                (first | (go_split_ands; refine ⟨?_, ?_, ?_, ?_⟩ <;> first | assumption | (go_keep; done)) | go_keep)
                ((first
                  | (go_at_call 39; with_reducible refine Calls.mono (HM2.out _ (Hb7.out.trans (Below.mono ?_ Hb7.out.size))) ?_; (with_reducible repeat (first | exact Below.refl _ _ | assumption | refine bup ?_ (by assumption) | refine Below.drew ?_)); rintro e wq ⟨b2, rfl, hI2, hbq⟩; have t0 : wq.cell? ⟨w.heap.size, 0, none⟩ = some (.int .i64 s) := (by (try go_split_ands); rw [hbq.cell (by first | assumption | (simp; omega))]; assumption); have t1 : wq.cell? ⟨w.heap.size, 1, none⟩ = some (.int .i64 m) := (by (try go_split_ands); rw [hbq.cell (by first | assumption | (simp; omega))]; assumption); have t2 : wq.cell? ⟨w.heap.size, 2, none⟩ = some (.slice a n cap) := (by (try go_split_ands); rw [hbq.cell (by first | assumption | (simp; omega))]; assumption); have t3 : wq.cell? ⟨xb, xo + j, none⟩ = some (.int .i64 ((d j : Nat) : Int)) := (by (try go_split_ands); rw [hbq.cell (by first | assumption | (simp; omega))]; assumption))
                  | fail))
              all_goals (go_wp2_with fail; go_meet; refine ⟨b2, rfl, rfl, Cells.below hI2 ?_, ?_⟩ <;> (with_reducible repeat (first | exact Below.refl _ _ | assumption | refine bup ?_ (by assumption) | refine Below.drew ?_)))
            case rest =>
            obtain ⟨b2, rfl, rfl, hI2, hcb⟩ := hcut
            obtain ⟨w8, hww⟩ : ∃ x, x = wc := ⟨_, rfl⟩
            subst hww
            have HI2 := Lib.hid hI2
            have r0 := (hcb.cell (p := ⟨w.heap.size, 0, none⟩) qz).trans q0
            have r1 := (hcb.cell (p := ⟨w.heap.size, 1, none⟩) qz).trans q1
            have r2 := (hcb.cell (p := ⟨w.heap.size, 2, none⟩) qz).trans q2
            have rzr := Nat.lt_of_lt_of_le qz hcb.size
            have cj := (hcb.cell (p := ⟨xb, xo + j, none⟩) qx).trans qj
            have cs := (hcb.cell (p := ⟨sb, j, none⟩) qy).trans qs
            have hxb := Nat.lt_of_lt_of_le qx hcb.size
            have hsb := Nat.lt_of_lt_of_le qy hcb.size
            replace L7 := Lib.hid (L7.out.below hcb)
            have Hb8 := Lib.hid (bup Hb7.out hcb)
            clear hcb q0 q1 q2 qz qj qs qx qy hI2 HM1 HM2 Hb7
            go_wp2_with fail
            refine (ints_same (c := c7) (d := cl) L7.out.cells (LL.out.below Hb8.out).cells (Nat.le_trans hln (Nat.le_trans hn14 (by decide)))).mono ?_
            rintro e w9 ⟨rfl, hb9⟩
            have q0 := (hb9.cell (p := ⟨w.heap.size, 0, none⟩) rzr).trans r0
            have cj9 := (hb9.cell (p := ⟨xb, xo + j, none⟩) hxb).trans cj
            have cs9 := (hb9.cell (p := ⟨sb, j, none⟩) hsb).trans cs
            have hxb9 := Nat.lt_of_lt_of_le hxb hb9.size
            have hsb9 := Nat.lt_of_lt_of_le hsb hb9.size
            have Hb9 := Lib.hid (bup Hb8.out hb9)
            replace HI2 := Lib.hid (Cells.below HI2.out hb9)
            clear hb9 cj cs hxb hsb r0 r1 r2 rzr q0 L7
            go_wp2_with fail
            refine (ints_same (c := n) (d := cd) HI2.out (Cells.below HD.out Hb9.out) (Nat.le_trans hn14 (by decide))).mono ?_
            rintro e w10 ⟨rfl, hb10⟩
            have cj := (hb10.cell (p := ⟨xb, xo + j, none⟩) hxb9).trans cj9
            have cs := (hb10.cell (p := ⟨sb, j, none⟩) hsb9).trans cs9
            have hxb := Nat.lt_of_lt_of_le hxb9 hb10.size
            have hsb := Nat.lt_of_lt_of_le hsb9 hb10.size
            have Hb10 := Lib.hid (bup Hb9.out hb10)
            clear hb10 cj9 cs9 hxb9 hsb9 HI2 Hb9 Hb8
            have hlc := fun (x : Later w10) => later_cell x
            go_wp2_with fail
            refine wp_region_later (by kernel_rfl) (by kernel_rfl) ?_
            repeat (go_big_quiet_step (fail))
            refine wpQuiet_nil ?_
            clear hlc
            rintro ⟨w11, hb11⟩
            go_wp2_with fail
            go_roundw
            case rel => exact ⟨j + 1, by omega, by go_num, by rw [Hi3.out]; rfl, bup Hb10.out hb11⟩
            case measure => simp [intOf]; omega
          · skip
            have ho : oj = v := by rw [← hoj, otherD, if_neg hdj]
            have t4 : (((d j : Nat) : Int) == (v : Int)) = false := by simp; omega
            rw [ho] at HM1 cs t3
            clear hoj hdj
            clear ho
            go_wp2_with fail
            refine (HM1.out _ Hbr.out).mono ?_
            rintro e w7 ⟨p7, c7, rfl, hL7, hb7⟩
            have L7 := Lib.hid hL7
            have q0 := (hb7.cell (p := ⟨w.heap.size, 0, none⟩) rzr).trans r0
            have q1 := (hb7.cell (p := ⟨w.heap.size, 1, none⟩) rzr).trans r1
            have q2 := (hb7.cell (p := ⟨w.heap.size, 2, none⟩) rzr).trans r2
            have qz := Nat.lt_of_lt_of_le rzr hb7.size
            have qj := (hb7.cell (p := ⟨xb, xo + j, none⟩) hxb).trans cj
            have qs := (hb7.cell (p := ⟨sb, j, none⟩) hsb).trans cs
            have qx := Nat.lt_of_lt_of_le hxb hb7.size
            have qy := Nat.lt_of_lt_of_le hsb hb7.size
            have Hb7 := Lib.hid (bup Hbr.out hb7)
            clear hb7 hL7 r0 r1 r2 rzr cj cq cs hxb hsb clt hlb
            go_wp2_with fail
            go_cut [24, 25] from 170 to 180 (fun e1 e2 wx => ∃ b2, e1 = .slice (some ⟨b2, 0, none⟩) n n ∧ e2 = .int .i64 0 ∧ (Ints wx (some ⟨b2, 0, none⟩) n fun i => (d i : Int)) ∧ Below w7.heap.size w7 wx)
            case first =>
              go_region_held3 (fun w' => w'.cell? ⟨w.heap.size, 0, none⟩ = some (.int .i64 s) ∧ w'.cell? ⟨w.heap.size, 1, none⟩ = some (.int .i64 m) ∧ w'.cell? ⟨w.heap.size, 2, none⟩ = some (.slice a n cap) ∧ w'.cell? ⟨xb, xo + j, none⟩ = some (.int .i64 ((d j : Nat) : Int)))
                (first | (go_split_ands; refine ⟨?_, ?_, ?_, ?_⟩ <;> first | assumption | (go_keep; done)) | go_keep)
                ((first
                  | (go_at_call 39; with_reducible refine Calls.mono (HM2.out _ (Hb7.out.trans (Below.mono ?_ Hb7.out.size))) ?_; (with_reducible repeat (first | exact Below.refl _ _ | assumption | refine bup ?_ (by assumption) | refine Below.drew ?_)); rintro e wq ⟨b2, rfl, hI2, hbq⟩; have t0 : wq.cell? ⟨w.heap.size, 0, none⟩ = some (.int .i64 s) := (by (try go_split_ands); rw [hbq.cell (by first | assumption | (simp; omega))]; assumption); have t1 : wq.cell? ⟨w.heap.size, 1, none⟩ = some (.int .i64 m) := (by (try go_split_ands); rw [hbq.cell (by first | assumption | (simp; omega))]; assumption); have t2 : wq.cell? ⟨w.heap.size, 2, none⟩ = some (.slice a n cap) := (by (try go_split_ands); rw [hbq.cell (by first | assumption | (simp; omega))]; assumption); have t3 : wq.cell? ⟨xb, xo + j, none⟩ = some (.int .i64 ((d j : Nat) : Int)) := (by (try go_split_ands); rw [hbq.cell (by first | assumption | (simp; omega))]; assumption))
                  | fail))
              all_goals (go_wp2_with fail; go_meet; refine ⟨b2, rfl, rfl, Cells.below hI2 ?_, ?_⟩ <;> (with_reducible repeat (first | exact Below.refl _ _ | assumption | refine bup ?_ (by assumption) | refine Below.drew ?_)))
            case rest =>
            obtain ⟨b2, rfl, rfl, hI2, hcb⟩ := hcut
            obtain ⟨w8, hww⟩ : ∃ x, x = wc := ⟨_, rfl⟩
            subst hww
            have HI2 := Lib.hid hI2
            have r0 := (hcb.cell (p := ⟨w.heap.size, 0, none⟩) qz).trans q0
            have r1 := (hcb.cell (p := ⟨w.heap.size, 1, none⟩) qz).trans q1
            have r2 := (hcb.cell (p := ⟨w.heap.size, 2, none⟩) qz).trans q2
            have rzr := Nat.lt_of_lt_of_le qz hcb.size
            have cj := (hcb.cell (p := ⟨xb, xo + j, none⟩) qx).trans qj
            have cs := (hcb.cell (p := ⟨sb, j, none⟩) qy).trans qs
            have hxb := Nat.lt_of_lt_of_le qx hcb.size
            have hsb := Nat.lt_of_lt_of_le qy hcb.size
            replace L7 := Lib.hid (L7.out.below hcb)
            have Hb8 := Lib.hid (bup Hb7.out hcb)
            clear hcb q0 q1 q2 qz qj qs qx qy hI2 HM1 HM2 Hb7
            go_wp2_with fail
            refine (ints_same (c := c7) (d := cl) L7.out.cells (LL.out.below Hb8.out).cells (Nat.le_trans hln (Nat.le_trans hn14 (by decide)))).mono ?_
            rintro e w9 ⟨rfl, hb9⟩
            have q0 := (hb9.cell (p := ⟨w.heap.size, 0, none⟩) rzr).trans r0
            have cj9 := (hb9.cell (p := ⟨xb, xo + j, none⟩) hxb).trans cj
            have cs9 := (hb9.cell (p := ⟨sb, j, none⟩) hsb).trans cs
            have hxb9 := Nat.lt_of_lt_of_le hxb hb9.size
            have hsb9 := Nat.lt_of_lt_of_le hsb hb9.size
            have Hb9 := Lib.hid (bup Hb8.out hb9)
            replace HI2 := Lib.hid (Cells.below HI2.out hb9)
            clear hb9 cj cs hxb hsb r0 r1 r2 rzr q0 L7
            go_wp2_with fail
            refine (ints_same (c := n) (d := cd) HI2.out (Cells.below HD.out Hb9.out) (Nat.le_trans hn14 (by decide))).mono ?_
            rintro e w10 ⟨rfl, hb10⟩
            have cj := (hb10.cell (p := ⟨xb, xo + j, none⟩) hxb9).trans cj9
            have cs := (hb10.cell (p := ⟨sb, j, none⟩) hsb9).trans cs9
            have hxb := Nat.lt_of_lt_of_le hxb9 hb10.size
            have hsb := Nat.lt_of_lt_of_le hsb9 hb10.size
            have Hb10 := Lib.hid (bup Hb9.out hb10)
            clear hb10 cj9 cs9 hxb9 hsb9 HI2 Hb9 Hb8
            have hlc := fun (x : Later w10) => later_cell x
            go_wp2_with fail
            refine wp_region_later (by kernel_rfl) (by kernel_rfl) ?_
            repeat (go_big_quiet_step (fail))
            refine wpQuiet_nil ?_
            clear hlc
            rintro ⟨w11, hb11⟩
            go_wp2_with fail
            go_roundw
            case rel => exact ⟨j + 1, by omega, by go_num, by rw [Hi3.out]; rfl, bup Hb10.out hb11⟩
            case measure => simp [intOf]; omega
        · skip
          obtain ⟨ho1, ho2⟩ := nxL_out hin
          rw [ht] at ho1 ho2 ⊢
          have Ho2 := Lib.hid ho2
          have hsv : sw j = d j := by rw [← HSe.out]; exact swapN_out (by rw [HLe.out]; exact hin)
          rw [hsv] at cs
          have t3 : (((d j : Nat) : Int) != ((d j : Nat) : Int)) = false := by simp
          clear hsv hin ho2
          have hlc := fun (x : Later wr) => later_cell x
          by_cases htl2 : t < L.length
          · skip
            obtain ⟨_, _, e1, hlb, hlc2⟩ := Cells.at (Cells.below LL.out.cells Hbr.out) t htl2
            cases e1
            have clt : wr.cell? ⟨lb, lo + t, none⟩ = some (.int .i64 ((L.getD t 0 : Nat) : Int)) := hlc2 t htl2
            clear hlc2
            have t1 : decide ((t : Int) < (L.length : Int)) = true := by simp; omega
            have ho3 := ho1 htl2
            obtain ⟨vt, hvt⟩ : ∃ x, L.getD t 0 = x := ⟨_, rfl⟩
            rw [hvt] at clt ho3
            have t2 : (((vt : Nat) : Int) == (j : Int)) = false := by simp; omega
            clear ho1 hvt
            go_wp2_with fail
            refine wp_region_later (by kernel_rfl) (by kernel_rfl) ?_
            repeat (go_big_quiet_step (fail))
            refine wpQuiet_nil ?_
            clear hlc
            rintro ⟨w11, hb11⟩
            go_wp2_with fail
            go_roundw
            case rel => exact ⟨j + 1, by omega, by go_num, by rw [Ho2.out], bup Hbr.out hb11⟩
            case measure => simp [intOf]; omega
          · skip
            have t1 : decide ((t : Int) < (L.length : Int)) = false := by simp; omega
            clear ho1
            go_wp2_with fail
            refine wp_region_later (by kernel_rfl) (by kernel_rfl) ?_
            repeat (go_big_quiet_step (fail))
            refine wpQuiet_nil ?_
            clear hlc
            rintro ⟨w11, hb11⟩
            go_wp2_with fail
            go_roundw
            case rel => exact ⟨j + 1, by omega, by go_num, by rw [Ho2.out], bup Hbr.out hb11⟩
            case measure => simp [intOf]; omega
      · obtain rfl : j = n := by omega
        have hte : t = L.length := by rw [← ht]; exact nxL_all fun u hu => by rw [← HLe.out] at hu; exact (chain_in hqn hu).1
        rw [ht, hte]
        have t1 : ((L.length : Int) == (L.length : Int)) = true := by simp
        have hB := bup HB.out hbr
        clear hbr ht hte r0 r1 r2
        go_wp2_with fail
        refine (works_c _).mono ?_
        rintro e wz ⟨rfl, hbz⟩
        go_wp2_with fail
        go_ret
        exact ⟨rfl, bup hB hbz⟩

end Go.Proofs.Ytbjgbgchagfokaa

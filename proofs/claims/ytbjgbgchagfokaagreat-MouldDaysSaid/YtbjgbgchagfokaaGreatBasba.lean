/- Contracts of layer 2: what is returned if the book is valid: how few days, loads, a list's error. Written by tools/yesdesk.py. -/
import Derived.Test.YtbjgbgchagfokaaGreatProg
import Derived.Test.YtbjgbgchagfokaaGreatBasaa
import Derived.Test.YtbjgbgchagfokaaGreatBasao
import Derived.Test.YtbjgbgchagfokaaGreatBasan
import Derived.Test.YtbjgbgchagfokaaGreatBasax
import Derived.Test.YtbjgbgchagfokaaGreatBasay
import Derived.Test.YtbjgbgchagfokaaGreatBasaz
import Derived.Test.YtbjgbgchagfokaaGreatBasak
import Derived.Test.YtbjgbgchagfokaaGreatBasap
namespace Go.Proofs.YtbjgbgchagfokaaGreat
open Go Go.RowKit Go.Shelf

set_option maxHeartbeats 4000000 in
theorem Fewest_yes_c (s M : Nat) (a : Option Addr) (n cap : Nat) (f : Nat → W2) (w : World) (hf : Wants w a n f) (hn : n ≤ 1048576) (hE : bookE s M n f = 0) :
    Calls Tryz.prog 7 #[bookV s M a n cap] w fun e w' => e = .returned (.tuple #[.int .i64 (fewN (bookL f n)), .int .i64 0]) ∧ Below w.heap.size w w' := by
  obtain ⟨W, hW⟩ : ∃ W, w.alloc (.cells #[.int .i64 s, .int .i64 M, .slice a n cap] 24) = W := ⟨_, rfl⟩
  have hB : Below w.heap.size w W := by rw [← hW]; exact Below.alloc1 (Below.refl _ _) _ (Nat.le_refl _)
  have hR : RowIs W w.heap.size #[.int .i64 s, .int .i64 M, .slice a n cap] 24 := by rw [← hW]; exact heap_new_at _ _ _ rfl
  have r0 : W.cell? ⟨w.heap.size, 0, none⟩ = some (.int .i64 s) := RowIs.cell hR 0
  have r1 : W.cell? ⟨w.heap.size, 1, none⟩ = some (.int .i64 M) := RowIs.cell hR 1
  have r2 : W.cell? ⟨w.heap.size, 2, none⟩ = some (.slice a n cap) := RowIs.cell hR 2
  have hGB := book_good hE
  have hs6 : s ≤ 6 := by have := hGB.1; omega
  have hm6 : M ≤ 6 := by have := hGB.2.1; omega
  have hn14 : n ≤ 14 := hGB.2.2.1
  have hc := newDesk_yes_c s M a n cap f W (hf.below hB) hn hE
  obtain ⟨l, hl⟩ : ∃ l, bookL f n = l := ⟨_, rfl⟩
  rw [hl] at hc
  try rw [hl]
  have HLB := Lib.hid hl
  have HC := Lib.hid hc
  have HGB := Lib.hid hGB
  have Hf := Lib.hid hf
  have HE := Lib.hid hE
  clear hR hc hl hGB hf hE
  go_enter Tryz.func7, Tryz.ntmps7
  go_wp2_with fail
  refine HC.out.mono ?_
  rintro e w1 ⟨rfl, hb1⟩
  have hB1 := bup hB hb1
  obtain ⟨V, U, z, hN⟩ := newDesk w1 s M a n cap l
  have hV := hN.made
  have hz := hN.size
  have hU := hN.stored
  simp only [putL, deskL, Nat.reduceAdd] at hU
  obtain ⟨f0, f1, f2, f3, f4, f5, f6, f7, f8, f9, f10, f11, f12, f13, f14⟩ := deskfree hN.zero
  obtain ⟨e0, e1, e2, e3, e4, e5, e6, e7, e8, e9, e10, e11, e12, e13, e14, ez⟩ := deskcells hN.zero
  obtain ⟨c0, c1, c2, c3, c4, c5, c6, c7, c8, c9, c10, c11, c12, c13, c14, cz⟩ := deskcells hN.row
  have hB2 := bup hB1 hN.below
  have HR := Lib.hid hN.row
  clear hN hW r0 r1 r2 hB hb1 hB1 HC
  go_wp2_with fail
  refine (fewest_c s M a n cap l U).mono ?_
  rintro e w2 ⟨rfl, hb2⟩
  clear hU hV f0 f1 f2 f3 f4 f5 f6 f7 f8 f9 f10 f11 f12 f13 f14 e0 e1 e2 e3 e4 e5 e6 e7 e8 e9 e10 e11 e12 e13 e14 ez c0 c1 c2 c3 c4 c5 c6 c7 c8 c9 c10 c11 c12 c13 c14 cz
  go_wp2_with fail
  refine bodyPost_ret (v := .tuple #[.int .i64 (fewN l), .int .i64 0]) (by simp [results, Tryz.results7, go_sem]) rfl ⟨rfl, bup hB2 hb2⟩

/-- Does each of a list clash with none before it. -/
def apartAll (f : Nat → W2) (n : Nat) (g : Nat → Int) : Nat → Bool
  | 0 => true
  | k + 1 => apartAll f n g k && apartB f n g k (g k).toNat
theorem apartAll_no {f : Nat → W2} {n : Nat} {g : Nat → Int} (k : Nat) : ∀ m, k < m → apartB f n g k (g k).toNat = false → apartAll f n g m = false
  | 0, h, _ => absurd h (Nat.not_lt_zero _)
  | m + 1, h, hb => by
    by_cases e : k = m
    · subst e; simp [apartAll, hb]
    · simp [apartAll, apartAll_no k m (by omega) hb]

set_option maxHeartbeats 8000000 in
theorem CheckList_yes_c (s M : Nat) (a : Option Addr) (n cap : Nat) (f : Nat → W2) (la : Option Addr) (len lcap : Nat) (g : Nat → Int) (w : World) (hf : Wants w a n f) (hn : n ≤ 1048576) (hg : Ints w la len g) (hl : len ≤ 1048576) (hc2 : len ≤ lcap) (_ : lcap ≤ 9223372036854775807) (hE : bookE s M n f = 0) :
    Calls Tryz.prog 22 #[bookV s M a n cap, .slice la len lcap] w fun e w' => e = .returned (.int .i64 (if listB g n len = true then (if apartAll f n g len = true then 0 else 18) else 3)) ∧ Below w.heap.size w w' := by
  obtain ⟨r, hr⟩ : ∃ r : Int, (if listB g n len = true then (if apartAll f n g len = true then 0 else 18) else 3) = r := ⟨_, rfl⟩
  rw [hr]
  have HRR := Lib.hid hr
  clear hr
  obtain ⟨W, hW⟩ : ∃ W, w.alloc (.cells #[.int .i64 s, .int .i64 M, .slice a n cap] 24) = W := ⟨_, rfl⟩
  have hB : Below w.heap.size w W := by rw [← hW]; exact Below.alloc1 (Below.refl _ _) _ (Nat.le_refl _)
  have hR : RowIs W w.heap.size #[.int .i64 s, .int .i64 M, .slice a n cap] 24 := by rw [← hW]; exact heap_new_at _ _ _ rfl
  have r0 : W.cell? ⟨w.heap.size, 0, none⟩ = some (.int .i64 s) := RowIs.cell hR 0
  have r1 : W.cell? ⟨w.heap.size, 1, none⟩ = some (.int .i64 M) := RowIs.cell hR 1
  have r2 : W.cell? ⟨w.heap.size, 2, none⟩ = some (.slice a n cap) := RowIs.cell hR 2
  have hGB := book_good hE
  have hs6 : s ≤ 6 := by have := hGB.1; omega
  have hm6 : M ≤ 6 := by have := hGB.2.1; omega
  have hn14 : n ≤ 14 := hGB.2.2.1
  have hc := newDesk_yes_c s M a n cap f W (hf.below hB) hn hE
  obtain ⟨l, hl⟩ : ∃ l, bookL f n = l := ⟨_, rfl⟩
  rw [hl] at hc
  try rw [hl]
  have HLB := Lib.hid hl
  have HC := Lib.hid hc
  have HGB := Lib.hid hGB
  have Hf := Lib.hid hf
  have HE := Lib.hid hE
  clear hR hc hl hGB hf hE
  go_enter Tryz.func22, Tryz.ntmps22
  go_wp2_with fail
  refine HC.out.mono ?_
  rintro e w1 ⟨rfl, hb1⟩
  have hB1 := bup hB hb1
  obtain ⟨V, U, z, hN⟩ := newDesk w1 s M a n cap l
  have hV := hN.made
  have hz := hN.size
  have hU := hN.stored
  simp only [putL, deskL, Nat.reduceAdd] at hU
  obtain ⟨f0, f1, f2, f3, f4, f5, f6, f7, f8, f9, f10, f11, f12, f13, f14⟩ := deskfree hN.zero
  obtain ⟨e0, e1, e2, e3, e4, e5, e6, e7, e8, e9, e10, e11, e12, e13, e14, ez⟩ := deskcells hN.zero
  obtain ⟨c0, c1, c2, c3, c4, c5, c6, c7, c8, c9, c10, c11, c12, c13, c14, cz⟩ := deskcells hN.row
  have hB2 := bup hB1 hN.below
  have HR := Lib.hid hN.row
  clear hN hW r0 r1 r2 hB hb1 hB1 HC
  have Hg := Lib.hid hg
  clear hg
  have i1 := Indexes_c n la len lcap g U (Cells.below Hg.out hB2) hl (by omega)
  have I1 := Lib.hid i1
  clear i1
  go_wp2_with fail
  refine I1.out.mono ?_
  rintro e w2 ⟨rfl, hb2⟩
  clear hU hV f0 f1 f2 f3 f4 f5 f6 f7 f8 f9 f10 f11 f12 f13 f14 e0 e1 e2 e3 e4 e5 e6 e7 e8 e9 e10 e11 e12 e13 e14 ez c0 c1 c2 c3 c4 c5 c6 c7 c8 c9 c10 c11 c12 c13 c14 cz
  have hB3 := bup hB2 hb2
  have hr2 := HR.out.below hb2
  have HR2 := Lib.hid hr2
  clear hr2
  cases h1 : listB g n len with
  | false =>
    have h3 : r = 3 := by rw [← HRR.out, h1]; rfl
    subst h3
    clear h1
    go_wp2_with fail
    go_ret
    exact ⟨rfl, hB3⟩
  | true =>
    have H1 := Lib.hid h1
    have hgr := listB_range g n len h1
    have HGR := Lib.hid hgr
    clear h1 hgr
    go_wp2_with fail
    go_loopw [26] (fun i wr => ∃ k : Nat, k ≤ len ∧ i = .int .i64 k ∧ apartAll f n g k = true ∧ Below w2.heap.size w2 wr) (fun i _ => len - (intOf i).toNat)
    case atStart => exact ⟨0, Nat.zero_le _, rfl, rfl, Below.refl _ _⟩
    case round =>
      obtain ⟨k, hk, rfl, ho, hbr⟩ := hrel
      have Ho := Lib.hid ho
      clear ho
      by_cases hlt : k < len
      · obtain ⟨b, off, rfl, hbs, hc⟩ := Cells.at (Cells.below Hg.out (bup hB3 hbr)) k hlt
        have ck := hc k hlt
        have HGk := Lib.hid (show Ints wr (some ⟨b, off, none⟩) k g from .inr ⟨b, off, rfl, hbs, fun i hi => hc i (by omega)⟩)
        obtain ⟨y, hy⟩ := Int.eq_ofNat_of_zero_le (HGR.out k hlt).1
        have hyn : y < n := by have := (HGR.out k hlt).2; omega
        rw [hy] at ck
        have hr3 := HR2.out.below hbr
        obtain ⟨c0, c1, c2, c3, c4, c5, c6, c7, c8, c9, c10, c11, c12, c13, c14, cz⟩ := deskcells hr3
        have hfr := hbr
        have kk := fun (u : Later wr) => apart_c s M a n cap f l (some ⟨b, off, none⟩) k lcap g y u.w (Hf.out.below (bup (bup hB3 hbr) u.h)) (Cells.below HGk.out u.h) hyn hn (by omega)
        have hv : apartB f n g k y = apartB f n g k (g k).toNat := by rw [hy]; rfl
        have HV := Lib.hid hv
        have KK := Lib.hid kk
        clear hc kk hr3 hv
        go_wp2_with fail
        have hlc := fun (x : Later wr) => later_cell x
        refine wp_region_later (by kernel_rfl) (by kernel_rfl) ?_
        repeat (go_big_quiet_step ((with_reducible refine calls_later (KK.out _))))
        refine wpQuiet_nil ?_
        clear hlc c0 c1 c2 c3 c4 c5 c6 c7 c8 c9 c10 c11 c12 c13 c14 cz
        rintro ⟨w4, hb4⟩
        cases h4 : apartB f n g k y with
        | false =>
          have h5 : r = 18 := by rw [← HRR.out, if_pos H1.out, if_neg (by rw [apartAll_no k len hlt (by rw [← HV.out]; exact h4)]; simp)]
          subst h5
          clear h4
          go_wp2_with fail
          go_ret
          exact ⟨rfl, bup (bup hB3 hbr) hb4⟩
        | true =>
          have H4 := Lib.hid h4
          clear h4
          go_wp2_with fail
          go_roundw
          case rel => exact ⟨k + 1, by omega, by go_num, by rw [apartAll, Ho.out, ← HV.out, H4.out]; rfl, bup hbr hb4⟩
          case measure => simp [intOf]; omega
      · obtain rfl : k = len := by omega
        have h5 : r = 0 := by rw [← HRR.out, if_pos H1.out, if_pos Ho.out]
        subst h5
        go_wp2_with fail
        go_ret
        exact ⟨rfl, bup hB3 hbr⟩

end Go.Proofs.YtbjgbgchagfokaaGreat

namespace Go.Proofs.YtbjgbgchagfokaaGreat
open Go Go.RowKit

def ltI (l : List Int) (i : Nat) : Int := l.getD i 0
theorem y_book3 : bookE 3 3 5 threeW = 0 := by kernel_rfl
theorem y_book2 : bookE 3 2 4 twoW = 0 := by kernel_rfl
theorem y_load3 : rowA 3 (bookL threeW 5) = #[.int .i64 2, .int .i64 2, .int .i64 1] := by kernel_rfl
theorem y_load3m : rowA 3 (fun y => bookL threeW 5 (6 + y)) = #[.int .i64 2, .int .i64 3, .int .i64 0] := by kernel_rfl
theorem y_days1 : daysE 3 3 5 threeW 5 (ltI [4, 1, 1, 4, 2]) = 0 := by kernel_rfl
theorem y_days1n : daysN 0 (ltI [4, 1, 1, 4, 2]) 5 = 3 := by kernel_rfl
theorem y_days2 : daysE 3 3 5 threeW 5 (ltI [0, 1, 1, 0, 1]) = 18 := by kernel_rfl
theorem y_days2n : daysN 18 (ltI [0, 1, 1, 0, 1]) 5 = 0 := by kernel_rfl
theorem y_days3 : daysE 3 3 5 threeW 4 (ltI [0, 1, 1, 0]) = 15 := by kernel_rfl
theorem y_days3n : daysN 15 (ltI [0, 1, 1, 0]) 4 = 0 := by kernel_rfl
theorem y_few3 : fewN (bookL threeW 5) = 3 := by kernel_rfl
theorem y_few2 : fewN (bookL twoW 4) = 2 := by kernel_rfl
theorem y_chain1 : chainE 3 3 5 threeW 5 (ltI [0, 1, 1, 0, 2]) 4 1 = 0 := by kernel_rfl
theorem y_chain1l : chainL threeW 5 (natD (ltI [0, 1, 1, 0, 2])) (natD (ltI [0, 1, 1, 0, 2]) (4 : Int).toNat) (1 : Int).toNat (4 : Int).toNat = [1, 4] := by kernel_rfl
theorem y_chain2 : chainE 3 3 5 threeW 5 (ltI [0, 1, 1, 0, 2]) 5 0 = 2 := by kernel_rfl
theorem y_swap1 : (List.range 5).map (swapN threeW 5 (natD (ltI [0, 1, 1, 0, 2])) (natD (ltI [0, 1, 1, 0, 2]) (4 : Int).toNat) (1 : Int).toNat (4 : Int).toNat) = [0, 2, 1, 0, 1] := by kernel_rfl
theorem y_swap2 : chainE 3 3 5 threeW 5 (ltI [0, 1, 1, 0, 2]) 4 2 = 16 := by kernel_rfl
theorem y_swap3 : chainE 3 3 5 threeW 5 (ltI [0, 1, 1, 0, 2]) 0 14 = 3 := by kernel_rfl
theorem y_best : bestOf threeW 5 = [0, 3] := by kernel_rfl
theorem y_list1 : (if listB (ltI [0, 1]) 5 2 = true then (if apartAll threeW 5 (ltI [0, 1]) 2 = true then (0 : Int) else 18) else 3) = 18 := by kernel_rfl
theorem y_list2 : (if listB (ltI [3, 0]) 5 2 = true then (if apartAll threeW 5 (ltI [3, 0]) 2 = true then (0 : Int) else 18) else 3) = 3 := by kernel_rfl
theorem y_cov1 : coverE 3 3 5 threeW 0 (fun _ => 0) 2 (ltI [0, 1]) = 0 := by kernel_rfl
theorem y_cov2 : coverE 3 3 5 threeW 1 (ltI [0]) 1 (ltI [0]) = 14 := by kernel_rfl
theorem y_covS : covS threeW 5 3 (bookL threeW 5) = [] := by kernel_rfl
theorem y_covM : covM threeW 5 3 (bookL threeW 5) = [0, 1] := by kernel_rfl
theorem y_short1 : shortE 3 4 twoW 2 (ltI [0, 1]) = 0 := by kernel_rfl
theorem y_short1n : shortN 3 4 twoW 2 (ltI [0, 1]) = 1 := by kernel_rfl
theorem y_short2 : shortE 3 5 threeW 0 (fun _ => 0) = 3 := by kernel_rfl
theorem y_short2n : shortN 3 5 threeW 0 (fun _ => 0) = 0 := by kernel_rfl
theorem y_short3 : shortOf threeW 5 3 (bookL threeW 5) = [0, 1, 2] := by kernel_rfl
theorem y_short3n : decide (fewL threeW 5 [0, 1, 2] = 0) = false := by kernel_rfl

theorem y_first {f : Nat → W2} {n D : Nat} {x : List Nat} (hx : shown n (firstR f D n 0 fun _ => 0) = some x) {d : Nat → Nat} (h : ∀ p, Firsts f n D 0 p d) : ∀ i, i < n → (d i : Int) = ltI (x.map fun k : Nat => (k : Int)) i := by
  unfold shown at hx
  cases hl : firstR f D n 0 fun _ => 0 with
  | none => rw [hl] at hx; cases hx
  | some l =>
    rw [hl] at hx
    have hx2 : (List.range n).map l = x := by simpa using hx
    have hF := (firstR_is (f := f) (n := n) (D := D) n 0 (fun _ => 0) (by omega) ⟨fun i hi => absurd hi (Nat.not_lt_zero _), fun i k hi => absurd hi (Nat.not_lt_zero _)⟩).1 l hl
    have hA := firsts_one (h fun _ => 0) hF
    intro i hi
    rw [hA i hi, ← hx2]
    simp [ltI, List.getD, hi]

section
variable {P : Program} {ops : Array Oper} {md : Region.Mode} {Q : Exit → Act → World → Prop} {C C' : World → Prop}
theorem run_strong (hC : ∀ w, C' w → C w) : ∀ (f : Nat) (done : Array Bool) (a : Act) (F : World → Prop), Run P md ops Q C' f done a F → Run P md ops Q C f done a F := by
  intro f
  induction f with
  | zero => intro done a F h; exact h
  | succ f ih =>
    intro done a F h
    refine ⟨h.1, fun i hi => ?_⟩
    obtain ⟨o, ho, h⟩ := h.2 i hi
    refine ⟨o, ho, ?_⟩
    rcases h with ⟨v, hq, hK⟩ | ⟨G, hN, hK⟩ | ⟨F2, ⟨hwt, hS, hC2, hr⟩, hK⟩ | ⟨F2, ⟨hwt, hS, hC2, hr⟩, hK⟩
    · exact .inl ⟨v, hq, ih _ _ _ hK⟩
    · exact .inr (.inl ⟨G, hN, fun v hv => ih _ _ _ (hK v hv)⟩)
    · exact .inr (.inr (.inl ⟨F2, ⟨hwt, hS, fun w hw => hC _ (hC2 w hw), hr⟩, ih _ _ _ hK⟩))
    · exact .inr (.inr (.inr ⟨F2, ⟨hwt, hS, fun v w hw => hC _ (hC2 v w hw), hr⟩, fun v hv => ih _ _ _ (hK v hv)⟩))
/-- A quiet operation, a call among them, is taken first. -/
theorem run_takeQ {f i : Nat} {o : Oper} {done : Array Bool} {a : Act} {F : World → Prop} (v : Value) (ho : ops[i]? = some o) (hsel : Region.noSelect ops = true) (hf : Region.free md ops done i = true) (hr : (Region.ready md ops done).contains i = true) (hC : ∀ w, F w → C w)
    (hq : QuietIn P ops C o v a) (h : Run P md ops Q C f (done.setIfInBounds i true) (a.put o.dst v) F) : Run P md ops Q C (f + 1) done a F :=
  run_first ho (Region.noSelect_spec hsel) f done a F (Region.free_spec ho hf) (by simpa using hr) hq hC h
end
theorem cut1 {p : Prop} {w0 : World} {Q2 : Nat → World → Prop} (main : (∀ b y, Below w0.heap.size w0 y → Q2 b y) → p) (fin : ∀ b y, Below w0.heap.size w0 y → Q2 b y) : p := main fin
theorem cut2 {p : Prop} {w0 : World} {Q2 : Nat → Nat → World → Prop} (main : (∀ b c y, Below w0.heap.size w0 y → Q2 b c y) → p) (fin : ∀ b c y, Below w0.heap.size w0 y → Q2 b c y) : p := main fin
theorem ints_lit {w : World} {b : Nat} (l : List Int) (h : w.heap[b]? = some (.cells (l.map (Value.int .i64)).toArray 3 (0, 0))) : Ints w (some ⟨b, 0, none⟩) l.length (ltI l) := by
  refine .inr ⟨b, 0, rfl, (Array.getElem?_eq_some_iff.1 h).1, fun i hi => ?_⟩
  have := RowIs.cell (show RowIs w b _ _ from h) i
  rw [Nat.zero_add, this]
  simp [ltI, List.getD, hi]
theorem bookcells {w : World} {b : Nat} {S M : Int} {v : Value} {T : TypeId} (h : RowIs w b #[.int .i64 S, .int .i64 M, v] T) : w.cell? ⟨b, 0, none⟩ = some (.int .i64 S) ∧ w.cell? ⟨b, 1, none⟩ = some (.int .i64 M) ∧ w.cell? ⟨b, 2, none⟩ = some v ∧ b < w.heap.size := ⟨h.cell 0, h.cell 1, h.cell 2, h.lt⟩
theorem lst_ints {w : World} {x : List Nat} {p : Option Addr} {c : Nat} (h : Lst w x p c) : Ints w p x.length (ltI (x.map fun k : Nat => (k : Int))) := ints_congr h.cells fun i hi => by simp [ltI, List.getD, hi]

end Go.Proofs.YtbjgbgchagfokaaGreat

namespace Go.Proofs.YtbjgbgchagfokaaGreat
open Go Go.RowKit Go.Shelf

theorem eqI (d : Nat) (x y : Int) (w : World) : (Op.equalIn (d + 1) 3 (.int .i64 x) (.int .i64 y)).run Tryz.prog w = .ok (x == y) w := by
  simp [Op.equalIn, run_underlying Tryz.underlying3]

def zero12 (h : Nat → Int) : Bool := h 0 == 0 && (h 1 == 0 && (h 2 == 0 && (h 3 == 0 && (h 4 == 0 && (h 5 == 0 && (h 6 == 0 && (h 7 == 0 && (h 8 == 0 && (h 9 == 0 && (h 10 == 0 && h 11 == 0))))))))))
theorem zero12_iff (h : Nat → Int) : zero12 h = true ↔ ∀ i, i < 12 → h i = 0 := by
  simp only [zero12, Bool.and_eq_true, beq_iff_eq]
  constructor
  · rintro ⟨h0, h1, h2, h3, h4, h5, h6, h7, h8, h9, h10, h11⟩ i hi
    have : i = 0 ∨ i = 1 ∨ i = 2 ∨ i = 3 ∨ i = 4 ∨ i = 5 ∨ i = 6 ∨ i = 7 ∨ i = 8 ∨ i = 9 ∨ i = 10 ∨ i = 11 := by omega
    rcases this with rfl | rfl | rfl | rfl | rfl | rfl | rfl | rfl | rfl | rfl | rfl | rfl <;> assumption
  · intro e
    exact ⟨e 0 (by omega), e 1 (by omega), e 2 (by omega), e 3 (by omega), e 4 (by omega), e 5 (by omega), e 6 (by omega), e 7 (by omega), e 8 (by omega), e 9 (by omega), e 10 (by omega), e 11 (by omega)⟩

theorem part12_0 (a0 a1 a2 a3 a4 a5 a6 a7 a8 a9 a10 a11 : Value) (w : World) : (part 3 #[a0, a1, a2, a3, a4, a5, a6, a7, a8, a9, a10, a11] 0).run Tryz.prog w = .ok a0 w := by kernel_rfl
theorem part12_1 (a0 a1 a2 a3 a4 a5 a6 a7 a8 a9 a10 a11 : Value) (w : World) : (part 3 #[a0, a1, a2, a3, a4, a5, a6, a7, a8, a9, a10, a11] 1).run Tryz.prog w = .ok a1 w := by kernel_rfl
theorem part12_2 (a0 a1 a2 a3 a4 a5 a6 a7 a8 a9 a10 a11 : Value) (w : World) : (part 3 #[a0, a1, a2, a3, a4, a5, a6, a7, a8, a9, a10, a11] 2).run Tryz.prog w = .ok a2 w := by kernel_rfl
theorem part12_3 (a0 a1 a2 a3 a4 a5 a6 a7 a8 a9 a10 a11 : Value) (w : World) : (part 3 #[a0, a1, a2, a3, a4, a5, a6, a7, a8, a9, a10, a11] 3).run Tryz.prog w = .ok a3 w := by kernel_rfl
theorem part12_4 (a0 a1 a2 a3 a4 a5 a6 a7 a8 a9 a10 a11 : Value) (w : World) : (part 3 #[a0, a1, a2, a3, a4, a5, a6, a7, a8, a9, a10, a11] 4).run Tryz.prog w = .ok a4 w := by kernel_rfl
theorem part12_5 (a0 a1 a2 a3 a4 a5 a6 a7 a8 a9 a10 a11 : Value) (w : World) : (part 3 #[a0, a1, a2, a3, a4, a5, a6, a7, a8, a9, a10, a11] 5).run Tryz.prog w = .ok a5 w := by kernel_rfl
theorem part12_6 (a0 a1 a2 a3 a4 a5 a6 a7 a8 a9 a10 a11 : Value) (w : World) : (part 3 #[a0, a1, a2, a3, a4, a5, a6, a7, a8, a9, a10, a11] 6).run Tryz.prog w = .ok a6 w := by kernel_rfl
theorem part12_7 (a0 a1 a2 a3 a4 a5 a6 a7 a8 a9 a10 a11 : Value) (w : World) : (part 3 #[a0, a1, a2, a3, a4, a5, a6, a7, a8, a9, a10, a11] 7).run Tryz.prog w = .ok a7 w := by kernel_rfl
theorem part12_8 (a0 a1 a2 a3 a4 a5 a6 a7 a8 a9 a10 a11 : Value) (w : World) : (part 3 #[a0, a1, a2, a3, a4, a5, a6, a7, a8, a9, a10, a11] 8).run Tryz.prog w = .ok a8 w := by kernel_rfl
theorem part12_9 (a0 a1 a2 a3 a4 a5 a6 a7 a8 a9 a10 a11 : Value) (w : World) : (part 3 #[a0, a1, a2, a3, a4, a5, a6, a7, a8, a9, a10, a11] 9).run Tryz.prog w = .ok a9 w := by kernel_rfl
theorem part12_10 (a0 a1 a2 a3 a4 a5 a6 a7 a8 a9 a10 a11 : Value) (w : World) : (part 3 #[a0, a1, a2, a3, a4, a5, a6, a7, a8, a9, a10, a11] 10).run Tryz.prog w = .ok a10 w := by kernel_rfl
theorem part12_11 (a0 a1 a2 a3 a4 a5 a6 a7 a8 a9 a10 a11 : Value) (w : World) : (part 3 #[a0, a1, a2, a3, a4, a5, a6, a7, a8, a9, a10, a11] 11).run Tryz.prog w = .ok a11 w := by kernel_rfl

set_option maxRecDepth 100000 in
set_option maxHeartbeats 4000000 in
theorem eqLoads (h : Nat → Int) (w : World) :
    (Op.equalIn 10000 45 (loadV h) (loadV fun _ => 0)).run Tryz.prog w = .ok (zero12 h) w := by
  rw [show (10000 : Nat) = 9999 + 1 from rfl]
  unfold Op.equalIn
  have e9 : ∀ (x y : Int) (w : World), (Op.equalIn 9999 3 (.int .i64 x) (.int .i64 y)).run Tryz.prog w = .ok (x == y) w := fun x y w => eqI 9998 x y w
  simp [run_underlying Tryz.underlying45]
  rw [show List.range' 0 12 = [0, 1, 2, 3, 4, 5, 6, 7, 8, 9, 10, 11] from rfl]
  simp only [zero12]
  cases h0 : (h 0 == 0)
  · simp [part12_0, e9, h0]
  cases h1 : (h 1 == 0)
  · simp [part12_0, part12_1, e9, h0, h1]
  cases h2 : (h 2 == 0)
  · simp [part12_0, part12_1, part12_2, e9, h0, h1, h2]
  cases h3 : (h 3 == 0)
  · simp [part12_0, part12_1, part12_2, part12_3, e9, h0, h1, h2, h3]
  cases h4 : (h 4 == 0)
  · simp [part12_0, part12_1, part12_2, part12_3, part12_4, e9, h0, h1, h2, h3, h4]
  cases h5 : (h 5 == 0)
  · simp [part12_0, part12_1, part12_2, part12_3, part12_4, part12_5, e9, h0, h1, h2, h3, h4, h5]
  cases h6 : (h 6 == 0)
  · simp [part12_0, part12_1, part12_2, part12_3, part12_4, part12_5, part12_6, e9, h0, h1, h2, h3, h4, h5, h6]
  cases h7 : (h 7 == 0)
  · simp [part12_0, part12_1, part12_2, part12_3, part12_4, part12_5, part12_6, part12_7, e9, h0, h1, h2, h3, h4, h5, h6, h7]
  cases h8 : (h 8 == 0)
  · simp [part12_0, part12_1, part12_2, part12_3, part12_4, part12_5, part12_6, part12_7, part12_8, e9, h0, h1, h2, h3, h4, h5, h6, h7, h8]
  cases h9 : (h 9 == 0)
  · simp [part12_0, part12_1, part12_2, part12_3, part12_4, part12_5, part12_6, part12_7, part12_8, part12_9, e9, h0, h1, h2, h3, h4, h5, h6, h7, h8, h9]
  cases h10 : (h 10 == 0)
  · simp [part12_0, part12_1, part12_2, part12_3, part12_4, part12_5, part12_6, part12_7, part12_8, part12_9, part12_10, e9, h0, h1, h2, h3, h4, h5, h6, h7, h8, h9, h10]
  cases h11 : (h 11 == 0)
  · simp [part12_0, part12_1, part12_2, part12_3, part12_4, part12_5, part12_6, part12_7, part12_8, part12_9, part12_10, part12_11, e9, h0, h1, h2, h3, h4, h5, h6, h7, h8, h9, h10, h11]
  simp [part12_0, part12_1, part12_2, part12_3, part12_4, part12_5, part12_6, part12_7, part12_8, part12_9, part12_10, part12_11, e9, h0, h1, h2, h3, h4, h5, h6, h7, h8, h9, h10, h11]

abbrev coverV (sa : Option Addr) (ns scap : Nat) (ma : Option Addr) (nm mcap : Nat) : Value := .agg #[.slice sa ns scap, .slice ma nm mcap]

theorem misses_c (sa : Option Addr) (ns scap : Nat) (sh : Nat → Int) (ma : Option Addr) (nm mcap : Nat) (mo : Nat → Int) (x : W2) (w : World) (hs : Ints w sa ns sh) (hns : ns ≤ 1048576) (hm : Ints w ma nm mo) (hnm : nm ≤ 1048576) :
    Calls Tryz.prog 48 #[coverV sa ns scap ma nm mcap, wantV x] w fun e w' => e = .returned (.bool (!hasB sh x.s ns && !hasB mo x.m nm)) ∧ Below w.heap.size w w' := by
  obtain ⟨W, hW⟩ : ∃ W, (w.alloc (.cells #[.slice sa ns scap, .slice ma nm mcap] 74)).alloc (.cells #[.int .i64 x.s, .int .i64 x.m] 77) = W := ⟨_, rfl⟩
  have hB : Below w.heap.size w W := by rw [← hW]; exact Below.alloc1 (Below.alloc1 (Below.refl _ _) _ (Nat.le_refl _)) _ (Nat.le_refl _)
  have hC : RowIs W w.heap.size #[.slice sa ns scap, .slice ma nm mcap] 74 := by rw [← hW]; exact RowIs.alloc (heap_new_at _ _ _ rfl) _
  have hX : RowIs W (w.heap.size + 1) #[.int .i64 x.s, .int .i64 x.m] 77 := by rw [← hW]; exact heap_new_at _ _ _ (by simp)
  have c0 : W.cell? ⟨w.heap.size, 0, none⟩ = some (.slice sa ns scap) := hC.cell 0
  have c1 : W.cell? ⟨w.heap.size, 1, none⟩ = some (.slice ma nm mcap) := hC.cell 1
  have x0 : W.cell? ⟨w.heap.size + 1, 0, none⟩ = some (.int .i64 x.s) := hX.cell 0
  have x1 : W.cell? ⟨w.heap.size + 1, 1, none⟩ = some (.int .i64 x.m) := hX.cell 1
  have z0 := hC.lt
  have z1 := hX.lt
  have k1 := contains_c x.s sa ns scap sh W (Cells.below hs hB) hns
  have k2 := contains_c x.m ma nm mcap mo W (Cells.below hm hB) hnm
  have K1 := Lib.hid k1
  have K2 := Lib.hid k2
  clear k1 k2 hC hX hs hm
  go_enter Tryz.func48, Tryz.ntmps48
  go_wp2_with fail
  refine K1.out.mono ?_
  rintro e w1 ⟨rfl, rfl⟩
  cases h1 : hasB sh x.s ns with
  | true =>
    go_wp2_with fail
    go_ret
    exact ⟨by simp [h1], hB⟩
  | false =>
    go_wp2_with fail
    refine K2.out.mono ?_
    rintro e w1 ⟨rfl, rfl⟩
    go_wp2_with fail
    go_ret
    exact ⟨by simp [h1], hB⟩

theorem ldF_one {f : Nat → W2} {p : Nat → Bool} {x k : Nat} : ∀ {n}, k < n → p k = true → ((f k).s = x ∨ 6 + (f k).m = x) → 0 < ldF f p x n
  | 0, h, _, _ => absurd h (Nat.not_lt_zero _)
  | n + 1, h, hp, hx => by
    have := ldF_bd f p x n
    unfold ldF
    by_cases e : k = n
    · subst e
      rw [if_pos ⟨hp, hx⟩]
      omega
    · have := ldF_one (f := f) (p := p) (x := x) (k := k) (n := n) (by omega) hp hx
      split <;> omega
theorem ldF_none {f : Nat → W2} {p : Nat → Bool} {x : Nat} : ∀ {n}, (∀ k, k < n → p k = false) → ldF f p x n = 0
  | 0, _ => rfl
  | n + 1, h => by
    unfold ldF
    rw [ldF_none fun k hk => h k (by omega), h n (by omega)]
    rfl
theorem zero_none {S M : Int} {n : Nat} {f : Nat → W2} (hG : GoodBook S M n f) (p : Nat → Bool) : zero12 (fun x => ldF f p x n) = true ↔ ∀ k, k < n → p k = false := by
  rw [zero12_iff]
  obtain ⟨hS, hM, _, hr⟩ := hG
  constructor
  · intro h k hk
    cases hp : p k with
    | false => rfl
    | true =>
      have hx := (hr k hk).1
      have := ldF_one (f := f) (p := p) (x := (f k).s.toNat) hk hp (.inl (by omega))
      rw [h _ (by omega)] at this
      omega
  · exact fun h i _ => ldF_none h
theorem coverB_all {f : Nat → W2} {ns : Nat} {sh : Nat → Int} {nm : Nat} {mo : Nat → Int} : ∀ {n}, coverB f ns sh nm mo n = true ↔ ∀ k, k < n → missB f ns sh nm mo k = false
  | 0 => ⟨fun _ k hk => absurd hk (Nat.not_lt_zero _), fun _ => rfl⟩
  | n + 1 => by
    rw [coverB, Bool.and_eq_true, coverB_all (n := n), Bool.not_eq_true']
    exact ⟨fun h k hk => by
      by_cases e : k = n
      · rw [e]; exact h.2
      · exact h.1 k (by omega), fun h => ⟨fun k hk => h k (by omega), h n (by omega)⟩⟩
theorem zero_cover {S M : Int} {n : Nat} {f : Nat → W2} (hG : GoodBook S M n f) (ns : Nat) (sh : Nat → Int) (nm : Nat) (mo : Nat → Int) : zero12 (fun x => ldF f (missB f ns sh nm mo) x n) = coverB f ns sh nm mo n := by
  have h1 := zero_none hG (missB f ns sh nm mo)
  have h2 := coverB_all (f := f) (ns := ns) (sh := sh) (nm := nm) (mo := mo) (n := n)
  rw [← h2] at h1
  exact Bool.eq_iff_iff.2 h1

set_option maxHeartbeats 16000000 in
theorem CheckCover_yes_c (S M : Int) (a : Option Addr) (n cap : Nat) (f : Nat → W2) (sa : Option Addr) (ns scap : Nat) (sh : Nat → Int) (ma : Option Addr) (nm mcap : Nat) (mo : Nat → Int) (w : World)
    (hf : Wants w a n f) (hn : n ≤ 1048576) (hs : Ints w sa ns sh) (hns : ns ≤ 1048576) (hm : Ints w ma nm mo) (hnm : nm ≤ 1048576) (hE : bookE S M n f = 0) :
    Calls Tryz.prog 23 #[bookV S M a n cap, .slice sa ns scap, .slice ma nm mcap] w fun e w' => e = .returned (.tuple #[.int .i64 (coverN (coverE S M n f ns sh nm mo) ns nm), .int .i64 (coverE S M n f ns sh nm mo)]) ∧ Below w.heap.size w w' := by
  obtain ⟨W, hW⟩ : ∃ W, w.alloc (.cells #[.int .i64 S, .int .i64 M, .slice a n cap] 24) = W := ⟨_, rfl⟩
  have hB : Below w.heap.size w W := by rw [← hW]; exact Below.alloc1 (Below.refl _ _) _ (Nat.le_refl _)
  have hR : RowIs W w.heap.size #[.int .i64 S, .int .i64 M, .slice a n cap] 24 := by rw [← hW]; exact heap_new_at _ _ _ rfl
  have r0 : W.cell? ⟨w.heap.size, 0, none⟩ = some (.int .i64 S) := RowIs.cell hR 0
  have r1 : W.cell? ⟨w.heap.size, 1, none⟩ = some (.int .i64 M) := RowIs.cell hR 1
  have r2 : W.cell? ⟨w.heap.size, 2, none⟩ = some (.slice a n cap) := RowIs.cell hR 2
  have hGB := book_good hE
  have hS6 := hGB.1
  have hM6 := hGB.2.1
  have hc := newDesk_yes_c S M a n cap f W (hf.below hB) hn hE
  obtain ⟨l, hl⟩ : ∃ l, bookL f n = l := ⟨_, rfl⟩
  rw [hl] at hc
  have hz12 := zero_cover hGB ns sh nm mo
  obtain ⟨h, hh⟩ : ∃ h, (fun x => ldF f (missB f ns sh nm mo) x n) = h := ⟨_, rfl⟩
  rw [hh] at hz12
  have HH := Lib.hid hh
  have HC := Lib.hid hc
  have HGB := Lib.hid hGB
  have Hf := Lib.hid hf
  have Hs := Lib.hid hs
  have Hm := Lib.hid hm
  have HZ := Lib.hid hz12
  have hce : coverE S M n f ns sh nm mo = if listB sh S ns = true ∧ listB mo M nm = true then (if coverB f ns sh nm mo n = true then 0 else 14) else 3 := by rw [coverE, if_pos hE]
  obtain ⟨ce, hce2⟩ : ∃ ce, coverE S M n f ns sh nm mo = ce := ⟨_, rfl⟩
  rw [hce2] at hce ⊢
  have HCE := Lib.hid hce
  clear hR hc hl hh hGB hf hs hm hz12 hce hce2
  go_enter Tryz.func23, Tryz.ntmps23
  go_wp2_with fail
  refine HC.out.mono ?_
  rintro e w1 ⟨rfl, hb1⟩
  have hB1 := bup hB hb1
  obtain ⟨V, U, z, hN⟩ := newDesk w1 S M a n cap l
  have hV := hN.made
  have hz := hN.size
  have hU := hN.stored
  simp only [putL, deskL, Nat.reduceAdd] at hU
  obtain ⟨f0, f1, f2, f3, f4, f5, f6, f7, f8, f9, f10, f11, f12, f13, f14⟩ := deskfree hN.zero
  obtain ⟨e0, e1, e2, e3, e4, e5, e6, e7, e8, e9, e10, e11, e12, e13, e14, ez⟩ := deskcells hN.zero
  obtain ⟨c0, c1, c2, c3, c4, c5, c6, c7, c8, c9, c10, c11, c12, c13, c14, cz⟩ := deskcells hN.row
  have hB2 := bup hB1 hN.below
  have HR := Lib.hid hN.row
  clear hN hW r0 r1 r2 hB hb1 hB1 HC
  have i1 := Indexes_c S sa ns scap sh U (Cells.below Hs.out hB2) hns (by omega)
  have I1 := Lib.hid i1
  clear i1
  go_wp2_with fail
  refine I1.out.mono ?_
  rintro e w2 ⟨rfl, hb2⟩
  clear hU hV f0 f1 f2 f3 f4 f5 f6 f7 f8 f9 f10 f11 f12 f13 f14 e0 e1 e2 e3 e4 e5 e6 e7 e8 e9 e10 e11 e12 e13 e14 ez c0 c1 c2 c3 c4 c5 c6 c7 c8 c9 c10 c11 c12 c13 c14 cz
  have hB3 := bup hB2 hb2
  have hr2 := HR.out.below hb2
  obtain ⟨c0, c1, c2, c3, c4, c5, c6, c7, c8, c9, c10, c11, c12, c13, c14, cz⟩ := deskcells hr2
  have i2 := Indexes_c M ma nm mcap mo w2 (Cells.below Hm.out hB3) hnm (by omega)
  have I2 := Lib.hid i2
  have HR2 := Lib.hid hr2
  clear i2 hr2
  cases h1 : listB sh S ns with
  | false =>
    have H1 := Lib.hid h1
    clear h1
    go_wp2_with fail
    have h3 : ce = 3 := by rw [HCE.out, if_neg (by rw [H1.out]; simp)]
    subst h3
    refine bodyPost_ret (v := .tuple #[.int .i64 0, .int .i64 3]) (by simp [results, Tryz.results23, go_sem]) rfl ⟨rfl, hB3⟩
  | true =>
    have H1 := Lib.hid h1
    clear h1
    go_wp2_with fail
    refine I2.out.mono ?_
    rintro e w3 ⟨rfl, hb3⟩
    have hB4 := bup hB3 hb3
    have hr3 := HR2.out.below hb3
    clear c0 c1 c2 c3 c4 c5 c6 c7 c8 c9 c10 c11 c12 c13 c14 cz
    obtain ⟨c0, c1, c2, c3, c4, c5, c6, c7, c8, c9, c10, c11, c12, c13, c14, cz⟩ := deskcells hr3
    clear hr3
    cases h2 : listB mo M nm with
    | false =>
      have H2 := Lib.hid h2
      clear h2
      go_wp2_with fail
      have h3 : ce = 3 := by rw [HCE.out, if_neg (by rw [H2.out]; simp)]
      subst h3
      refine bodyPost_ret (v := .tuple #[.int .i64 0, .int .i64 3]) (by simp [results, Tryz.results23, go_sem]) rfl ⟨rfl, hB4⟩
    | true =>
      have H2 := Lib.hid h2
      clear h2
      have hcl := dloadsOf_c S M a n cap f l 48 #[coverV sa ns scap ma nm mcap] #[] (missB f ns sh nm mo) w3 (Wants.below Hf.out hB4) HGB.out (enters_of Tryz.func48 (by kernel_rfl) rfl)
        (fun W' hW' i _ => misses_c sa ns scap sh ma nm mcap mo (f i) W' (Cells.below (Cells.below Hs.out hB4) hW') hns (Cells.below (Cells.below Hm.out hB4) hW') hnm)
      rw [HH.out] at hcl
      have HL := Lib.hid hcl
      clear hcl
      go_wp2_with fail
      refine HL.out.mono ?_
      rintro e w4 ⟨rfl, hb4⟩
      have hB5 := bup hB4 hb4
      have heq := eqLoads h w4
      rw [HZ.out] at heq
      clear c0 c1 c2 c3 c4 c5 c6 c7 c8 c9 c10 c11 c12 c13 c14 cz
      have hsum : IntKind.i64.wrap ((ns : Int) + (nm : Int)) = (ns : Int) + (nm : Int) := IntWalk.i64_in _ (by omega)
      cases h4 : coverB f ns sh nm mo n with
      | false =>
        rw [h4] at heq
        have H4 := Lib.hid h4
        clear h4
        have h3 : ce = 14 := by rw [HCE.out, if_pos ⟨H1.out, H2.out⟩, if_neg (by rw [H4.out]; simp)]
        subst h3
        go_wp2_with fail
        refine bodyPost_ret (v := .tuple #[.int .i64 0, .int .i64 14]) (by simp [results, Tryz.results23, go_sem]) rfl ⟨rfl, hB5⟩
      | true =>
        rw [h4] at heq
        have H4 := Lib.hid h4
        clear h4
        have h3 : ce = 0 := by rw [HCE.out, if_pos ⟨H1.out, H2.out⟩, if_pos H4.out]
        subst h3
        go_wp2_with fail
        refine bodyPost_ret (v := .tuple #[.int .i64 ((ns : Int) + nm), .int .i64 0]) (by simp [results, Tryz.results23, go_sem]) rfl ⟨rfl, hB5⟩

end Go.Proofs.YtbjgbgchagfokaaGreat

namespace Go.Proofs.YtbjgbgchagfokaaGreat
open Go Go.RowKit

abbrev okV (v : Value) : Value := .tuple #[v, .int .i64 0]
abbrev badV (e : Int) : Value := .tuple #[.slice none 0 0, .int .i64 e]
section
variable (p : Option Addr) (cap : Nat) (w : World)

theorem t_Loads (hf : Wants w p 5 threeW) : Calls Tryz.prog 19 #[bookV 3 3 p 5 cap] w fun e w' => ∃ b1 b2, e = .returned (.tuple #[.slice (some ⟨b1, 0, none⟩) 3 3, .slice (some ⟨b2, 0, none⟩) 3 3, .int .i64 0]) ∧ Ints w' (some ⟨b1, 0, none⟩) 3 (ltI [2, 2, 1]) ∧ Ints w' (some ⟨b2, 0, none⟩) 3 (ltI [2, 3, 0]) ∧ Below w.heap.size w w' := by
  have h := mLoads_yes_c 3 3 p 5 cap threeW w hf (by omega) y_book3
  refine h.mono ?_
  rintro e w' ⟨b1, b2, h1, h2, h3, _, _, _, hb⟩
  rw [y_load3] at h2
  rw [y_load3m] at h3
  exact ⟨b1, b2, h1, ints_lit [2, 2, 1] h2, ints_lit [2, 3, 0] h3, hb⟩
theorem t_Fewest (hf : Wants w p 5 threeW) : Calls Tryz.prog 7 #[bookV 3 3 p 5 cap] w fun e w' => e = .returned (okV (.int .i64 3)) ∧ Below w.heap.size w w' := by
  have h := Fewest_yes_c 3 3 p 5 cap threeW w hf (by omega) y_book3
  rw [y_few3] at h
  exact h
theorem t_Days3 (hf : Wants w p 5 threeW) : Calls Tryz.prog 9 #[bookV 3 3 p 5 cap] w fun e w' => ∃ b, e = .returned (okV (.slice (some ⟨b, 0, none⟩) 5 5)) ∧ Ints w' (some ⟨b, 0, none⟩) 5 (ltI [0, 1, 1, 0, 2]) ∧ Below w.heap.size w w' := by
  have h := Days_yes_c 3 3 p 5 cap threeW w hf (by omega) y_book3
  refine h.mono ?_
  rintro e w' ⟨b, d, D, h1, h2, _, hb, hD, hF⟩
  rw [y_few3] at hD
  obtain rfl : D = 3 := by omega
  exact ⟨b, h1, ints_congr (ints_rowA h2) (y_first x_days3 hF), hb⟩
theorem t_Days2 (hf : Wants w p 4 twoW) : Calls Tryz.prog 9 #[bookV 3 2 p 4 cap] w fun e w' => ∃ b, e = .returned (okV (.slice (some ⟨b, 0, none⟩) 4 4)) ∧ Ints w' (some ⟨b, 0, none⟩) 4 (ltI [0, 1, 0, 1]) ∧ Below w.heap.size w w' := by
  have h := Days_yes_c 3 2 p 4 cap twoW w hf (by omega) y_book2
  refine h.mono ?_
  rintro e w' ⟨b, d, D, h1, h2, _, hb, hD, hF⟩
  rw [y_few2] at hD
  obtain rfl : D = 2 := by omega
  exact ⟨b, h1, ints_congr (ints_rowA h2) (y_first x_days2 hF), hb⟩
theorem t_Chain1 (da : Option Addr) (dc : Nat) (hf : Wants w p 5 threeW) (hd : Ints w da 5 (ltI [0, 1, 1, 0, 2])) : Calls Tryz.prog 11 #[bookV 3 3 p 5 cap, .slice da 5 dc, .int .i64 4, .int .i64 1] w fun e w' => ∃ q c, e = .returned (okV (.slice q 2 c)) ∧ Ints w' q 2 (ltI [1, 4]) ∧ Below w.heap.size w w' := by
  refine (Chain_c 3 3 p 5 cap threeW da 5 dc (ltI [0, 1, 1, 0, 2]) 4 1 w hf (by omega) hd).mono ?_
  rintro e w' ⟨hb, ⟨_, v, h1, h2⟩ | ⟨h1, _⟩⟩
  · rw [y_chain1l] at h2
    obtain ⟨q, c, rfl, h3, _⟩ := h2.lst
    exact ⟨q, c, h1, lst_ints h3, hb⟩
  · exact absurd y_chain1 h1
theorem t_Chain2 (da : Option Addr) (dc : Nat) (hf : Wants w p 5 threeW) (hd : Ints w da 5 (ltI [0, 1, 1, 0, 2])) : Calls Tryz.prog 11 #[bookV 3 3 p 5 cap, .slice da 5 dc, .int .i64 5, .int .i64 0] w fun e w' => e = .returned (badV 2) ∧ Below w.heap.size w w' := by
  refine (Chain_c 3 3 p 5 cap threeW da 5 dc (ltI [0, 1, 1, 0, 2]) 5 0 w hf (by omega) hd).mono ?_
  rintro e w' ⟨hb, ⟨h1, _⟩ | ⟨_, h1⟩⟩
  · rw [y_chain2] at h1; cases h1
  · rw [y_chain2] at h1; exact ⟨h1, hb⟩
theorem t_Swap1 (da : Option Addr) (dc : Nat) (hf : Wants w p 5 threeW) (hd : Ints w da 5 (ltI [0, 1, 1, 0, 2])) : Calls Tryz.prog 13 #[bookV 3 3 p 5 cap, .slice da 5 dc, .int .i64 4, .int .i64 1] w fun e w' => ∃ b, e = .returned (okV (.slice (some ⟨b, 0, none⟩) 5 5)) ∧ Ints w' (some ⟨b, 0, none⟩) 5 (ltI [0, 2, 1, 0, 1]) ∧ Below w.heap.size w w' := by
  refine (Swap_c 3 3 p 5 cap threeW da 5 dc (ltI [0, 1, 1, 0, 2]) 4 1 w hf (by omega) hd).mono ?_
  rintro e w' ⟨hb, ⟨_, b, h1, h2, _⟩ | ⟨h1, _⟩⟩
  · refine ⟨b, h1, ints_congr (ints_rowA h2) (fun i hi => ?_), hb⟩
    have h3 := congrArg (fun l : List Nat => l[i]?) y_swap1
    simp only [List.getElem?_map, List.getElem?_range hi, Option.map_some] at h3
    have : i = 0 ∨ i = 1 ∨ i = 2 ∨ i = 3 ∨ i = 4 := by omega
    rcases this with rfl | rfl | rfl | rfl | rfl <;> (have h4 := Option.some.inj h3; rw [h4]; rfl)
  · exact absurd y_chain1 h1
theorem t_Swap2 (da : Option Addr) (dc : Nat) (hf : Wants w p 5 threeW) (hd : Ints w da 5 (ltI [0, 1, 1, 0, 2])) : Calls Tryz.prog 13 #[bookV 3 3 p 5 cap, .slice da 5 dc, .int .i64 4, .int .i64 2] w fun e w' => e = .returned (badV 16) ∧ Below w.heap.size w w' := by
  refine (Swap_c 3 3 p 5 cap threeW da 5 dc (ltI [0, 1, 1, 0, 2]) 4 2 w hf (by omega) hd).mono ?_
  rintro e w' ⟨hb, ⟨h1, _⟩ | ⟨_, h1⟩⟩
  · rw [y_swap2] at h1; cases h1
  · rw [y_swap2] at h1; exact ⟨h1, hb⟩
theorem t_Swap3 (da : Option Addr) (dc : Nat) (hf : Wants w p 5 threeW) (hd : Ints w da 5 (ltI [0, 1, 1, 0, 2])) : Calls Tryz.prog 13 #[bookV 3 3 p 5 cap, .slice da 5 dc, .int .i64 0, .int .i64 14] w fun e w' => e = .returned (badV 3) ∧ Below w.heap.size w w' := by
  refine (Swap_c 3 3 p 5 cap threeW da 5 dc (ltI [0, 1, 1, 0, 2]) 0 14 w hf (by omega) hd).mono ?_
  rintro e w' ⟨hb, ⟨h1, _⟩ | ⟨_, h1⟩⟩
  · rw [y_swap3] at h1; cases h1
  · rw [y_swap3] at h1; exact ⟨h1, hb⟩
theorem t_List (hf : Wants w p 5 threeW) : Calls Tryz.prog 21 #[bookV 3 3 p 5 cap] w fun e w' => ∃ q c, e = .returned (okV (.slice q 2 c)) ∧ Ints w' q 2 (ltI [0, 3]) ∧ Below w.heap.size w w' := by
  refine (List_yes_c 3 3 p 5 cap threeW w hf (by omega) y_book3).mono ?_
  rintro e w' ⟨q, c, h1, h2, hb⟩
  rw [y_best] at h1 h2
  exact ⟨q, c, h1, lst_ints h2, hb⟩
theorem t_Cover (hf : Wants w p 5 threeW) : Calls Tryz.prog 24 #[bookV 3 3 p 5 cap] w fun e w' => ∃ q c r d, e = .returned (.tuple #[.slice q 0 c, .slice r 2 d, .int .i64 0]) ∧ Ints w' q 0 (ltI []) ∧ Ints w' r 2 (ltI [0, 1]) ∧ Below w.heap.size w w' := by
  have h := Cover_yes_c 3 3 p 5 cap threeW w hf (by omega) y_book3
  refine h.mono ?_
  rintro e w' ⟨q, c, r, d, h1, h2, h3, hb⟩
  rw [y_covS] at h1 h2
  rw [y_covM] at h1 h3
  exact ⟨q, c, r, d, h1, lst_ints h2, lst_ints h3, hb⟩
theorem t_Short (hf : Wants w p 5 threeW) : Calls Tryz.prog 26 #[bookV 3 3 p 5 cap] w fun e w' => ∃ q c, e = .returned (okV (.slice q 3 c)) ∧ Ints w' q 3 (ltI [0, 1, 2]) ∧ Below w.heap.size w w' := by
  have h := Short_yes_c 3 3 p 5 cap threeW w hf (by omega) y_book3
  refine h.mono ?_
  rw [y_short3]
  rintro e w' ⟨hb, ⟨h1, _⟩ | ⟨_, q, c, h1, h2⟩⟩
  · have := y_short3n
    rw [decide_eq_false_iff_not] at this
    exact absurd h1 this
  · exact ⟨q, c, h1, lst_ints h2, hb⟩
theorem t_Days (l : List Int) (n : Int) (E : Int) (len : Nat) (da : Option Addr) (dc : Nat) (hE : daysE 3 3 5 threeW len (ltI l) = E) (hN : daysN E (ltI l) len = n) (hf : Wants w p 5 threeW) (hd : Ints w da len (ltI l)) :
    Calls Tryz.prog 20 #[bookV 3 3 p 5 cap, .slice da len dc] w fun e w' => e = .returned (.tuple #[.int .i64 n, .int .i64 E]) ∧ Below w.heap.size w w' := by
  have h := CheckDays_c 3 3 p 5 cap threeW da len dc (ltI l) w hf (by omega) hd
  rw [hE, hN] at h
  exact h
theorem t_CheckList (l : List Int) (E : Int) (da : Option Addr) (hE : (if listB (ltI l) 5 2 = true then (if apartAll threeW 5 (ltI l) 2 = true then (0 : Int) else 18) else 3) = E) (hf : Wants w p 5 threeW) (hd : Ints w da 2 (ltI l)) :
    Calls Tryz.prog 22 #[bookV 3 3 p 5 cap, .slice da 2 2] w fun e w' => e = .returned (.int .i64 E) ∧ Below w.heap.size w w' := by
  have h := CheckList_yes_c 3 3 p 5 cap threeW da 2 2 (ltI l) w hf (by omega) hd (by omega) (by omega) (by omega) y_book3
  have hE2 : (if listB (ltI l) ((5 : Nat) : Int) 2 = true then (if apartAll threeW 5 (ltI l) 2 = true then (0 : Int) else 18) else 3) = E := hE
  rw [hE2] at h
  exact h
theorem t_CheckCover1 (ma : Option Addr) (hf : Wants w p 5 threeW) (hm : Ints w ma 2 (ltI [0, 1])) : Calls Tryz.prog 23 #[bookV 3 3 p 5 cap, .slice none 0 0, .slice ma 2 2] w fun e w' => e = .returned (.tuple #[.int .i64 2, .int .i64 0]) ∧ Below w.heap.size w w' := by
  have h := CheckCover_yes_c 3 3 p 5 cap threeW none 0 0 (fun _ => 0) ma 2 2 (ltI [0, 1]) w hf (by omega) (.inl rfl) (by omega) hm (by omega) y_book3
  rw [y_cov1] at h
  exact h
theorem t_CheckCover2 (sa ma : Option Addr) (hf : Wants w p 5 threeW) (hs : Ints w sa 1 (ltI [0])) (hm : Ints w ma 1 (ltI [0])) : Calls Tryz.prog 23 #[bookV 3 3 p 5 cap, .slice sa 1 1, .slice ma 1 1] w fun e w' => e = .returned (.tuple #[.int .i64 0, .int .i64 14]) ∧ Below w.heap.size w w' := by
  have h := CheckCover_yes_c 3 3 p 5 cap threeW sa 1 1 (ltI [0]) ma 1 1 (ltI [0]) w hf (by omega) hs (by omega) hm (by omega) y_book3
  rw [y_cov2] at h
  exact h
theorem t_rCheckCover (sa : Option Addr) (sc : Nat) (ma : Option Addr) (mc : Nat) (hf : Wants w p 5 threeW) (hs : Ints w sa 0 (ltI [])) (hm : Ints w ma 2 (ltI [0, 1])) : Calls Tryz.prog 27 #[bookV 3 3 p 5 cap, .slice sa 0 sc, .slice ma 2 mc] w fun e w' => e = .returned (.tuple #[.int .i64 2, .int .i64 0]) ∧ Below w.heap.size w w' := by
  have h := rcheckCover_c 3 3 p 5 cap threeW sa 0 sc (ltI []) ma 2 mc (ltI [0, 1]) w hf (by omega) hs (by omega) hm (by omega)
  have e : coverE 3 3 5 threeW 0 (ltI []) 2 (ltI [0, 1]) = 0 := by kernel_rfl
  rw [e] at h
  exact h
theorem t_CheckShort1 (da : Option Addr) (hf : Wants w p 4 twoW) (hd : Ints w da 2 (ltI [0, 1])) : Calls Tryz.prog 25 #[bookV 3 2 p 4 cap, .slice da 2 2] w fun e w' => e = .returned (.tuple #[.int .i64 1, .int .i64 0]) ∧ Below w.heap.size w w' := by
  have h := CheckShort_yes_c 3 2 p 4 cap twoW da 2 2 (ltI [0, 1]) w hf (by omega) hd (by omega) (by omega) (by omega) y_book2
  rw [y_short1, y_short1n] at h
  exact h
theorem t_CheckShort2 (hf : Wants w p 5 threeW) : Calls Tryz.prog 25 #[bookV 3 3 p 5 cap, .slice none 0 0] w fun e w' => e = .returned (.tuple #[.int .i64 0, .int .i64 3]) ∧ Below w.heap.size w w' := by
  have h := CheckShort_yes_c 3 3 p 5 cap threeW none 0 0 (fun _ => 0) w hf (by omega) (.inl rfl) (by omega) (by omega) (by omega) y_book3
  rw [y_short2, y_short2n] at h
  exact h
end

end Go.Proofs.YtbjgbgchagfokaaGreat

/- Contracts of layer 2: the chain of a want. -/
import Derived.RangeFuncBound
import Derived.Shelf.Abstract
import Derived.Shelf.RegionOpen
import Derived.OwnWalkIn
import Derived.TacticsInMore
import Derived.LoopNIn
import Derived.LoopIn
import Derived.Scope
import Derived.Test.YtbjgbgchagfokaaGreatProg
import Derived.Test.YtbjgbgchagfokaaGreatBasaa
import Derived.Test.YtbjgbgchagfokaaGreatBasab
import Derived.Test.YtbjgbgchagfokaaGreatBasam
import Derived.Test.YtbjgbgchagfokaaGreatBasat
import Derived.Test.YtbjgbgchagfokaaGreatBasak
import Derived.Test.YtbjgbgchagfokaaGreatBasao
import Derived.Test.YtbjgbgchagfokaaGreatBasar
import Derived.Test.YtbjgbgchagfokaaGreatBasap
namespace Go.Proofs.YtbjgbgchagfokaaGreat
open Go Go.RowKit Go.Shelf
attribute [local go_sem] Oper.semAt_some

theorem own_one {A : World} {B g i : Nat} (h : RowIs A g #[.int .i64 (i : Int)] 3) (hB : B ≤ g) : Own A B [i] (.slice (some ⟨g, 0, none⟩) 1 1) :=
  ⟨by simp [natL], .inr ⟨g, 1, _, rfl, hB, h, by simp, by unfold maxLen; omega, by simp, by simp [natL]⟩⟩

/-- As Own.append; it also says where the longer list lies. -/
theorem Own.append_at {A : World} {B : Nat} {x : List Nat} {v : Value} (h : Own A B x v) (b i : Nat) (hb : RowIs A b #[.int .i64 (i : Int)] 3) (hB : B ≤ A.heap.size) (hx : x.length ≤ 1048576) :
    ∃ v' A', (Builtin.append_ #[25, 25] 25 #[v, .slice (some ⟨b, 0, none⟩) 1 1]).run Tryz.prog A = .ok v' A' ∧ Own A' B (x ++ [i]) v' ∧ A.grownBy A' v.ownBlock ∧ Below B A A' ∧ (v'.ownBlock = v.ownBlock ∨ v'.ownBlock = some A.heap.size) := by
  obtain ⟨i0, hi, hi0, hi1, hi2⟩ := info_parts1 infoInt
  have hnews : ∀ j u, [Value.int .i64 (i : Int)][j]? = some u → A.cell? ((⟨b, 0, none⟩ : Addr).add j) = some u := fun j u hj => by
    cases j with
    | zero => rw [← hj]; exact (hb.cell 0)
    | succ j => simp at hj
  obtain ⟨v', w', hrun, h1, h2, _, h3⟩ := run_append_own_at (P := Tryz.prog) A B 25 25 3 i0 (.int .i64 0) 1 8 Tryz.underlying25 hi hi0 hi1 hi2 rfl (by decide) v x.length (natL x) h ⟨b, 0, none⟩ 1 1 [.int .i64 (i : Int)] rfl hnews (by intro u hu; simp at hu; subst hu; rfl) (by unfold maxLen; omega) (by omega) hB
  refine ⟨v', w', hrun, ?_, h2, ⟨h2.os, h2.tape, h2.output, h2.size, fun k hk => h2.block k (by omega) ?_⟩, h3⟩
  · have e : natL (x ++ [i]) = natL x ++ [Value.int .i64 (i : Int)] := by simp [natL]
    unfold Own
    rw [e, List.length_append]
    exact h1
  · intro e
    have := (h.lt k e.symm).1
    omega
theorem Own.cells {A : World} {B k : Nat} {x : List Nat} {v : Value} (h : Own A B x v) (hv : v.ownBlock = some k) : B ≤ k ∧ ∃ c, A.heap[k]? = some (.cells c 3 (0, 0)) := by
  rcases h.2 with ⟨e, _⟩ | ⟨g, cap, cur, e, hB, hg, _⟩
  · subst e; cases hv
  · subst e
    have : g = k := by simpa [Value.ownBlock] using hv
    subst this
    exact ⟨hB, _, hg⟩
theorem Own.keep {A A' : World} {B : Nat} {x : List Nat} {v : Value} (h : Own A B x v) (hk : ∀ g, v.ownBlock = some g → A'.heap[g]? = A.heap[g]?) : Own A' B x v := by
  obtain ⟨h1, h2⟩ := h
  refine ⟨h1, ?_⟩
  rcases h2 with h2 | ⟨g, cap, cur, e, hb, hg, hr⟩
  · exact .inl h2
  · subst e
    exact .inr ⟨g, cap, cur, rfl, hb, (hk g rfl).trans hg, hr⟩
theorem Own.mono {A : World} {B B' : Nat} {x : List Nat} {v : Value} (h : Own A B x v) (hB : B' ≤ B) : Own A B' x v := by
  obtain ⟨h1, h2⟩ := h
  exact ⟨h1, h2.imp id fun ⟨g, cap, cur, e, hb, hr⟩ => ⟨g, cap, cur, e, Nat.le_trans hB hb, hr⟩⟩
theorem Own.objs {A A' : World} {B : Nat} {x : List Nat} {v : Value} (h : Own A B x v) (hk : ∀ (k : Nat) (o : Obj), (∀ d, o ≠ Obj.deferred d) → A.heap[k]? = some o → A'.heap[k]? = some o) : Own A' B x v := by
  obtain ⟨h1, h2⟩ := h
  exact ⟨h1, h2.imp id fun ⟨g, cap, cur, e, hb, hg, hr⟩ => ⟨g, cap, cur, e, hb, hk _ _ (fun d e => by cases e) hg, hr⟩⟩
theorem addAll_len (d : Nat → Nat) (a b : Nat) : ∀ (cl q : List Nat), (addAll d a b q cl).length ≤ q.length + cl.length
  | [], q => Nat.le_refl _
  | o :: cl, q => by
    have h1 := addAll_len d a b cl (addOne d a b q o)
    have h2 : (addOne d a b q o).length ≤ q.length + 1 := by unfold addOne; split <;> simp
    show (addAll d a b (addOne d a b q o) cl).length ≤ _
    simp only [List.length_cons]
    omega
theorem recs_still {r B : Nat} {ds : List Nat} : Still r fun A => Recs B ds A :=
  ⟨fun _ _ h hb => h.below hb, fun A o o' hr h => h.kept (by simp) fun b hb => World.putObj_heap_other fun e => by subst e; have := (h.here _ hb).1; rw [hr] at this; cases this⟩

/-- What holds while those that clash with one of the chain are gone through, behind so many of them. -/
def ChI (w : World) (S M : Int) (a : Option Addr) (n cap : Nat) (l : Nat → Int) (da : Option Addr) (dcap : Nat) (d : Nat → Nat) (want day : Nat) (q cl : List Nat) (s : Nat) (ds : List Nat) (j : Nat) (A : World) : Prop :=
  (∃ v, RowIs A (w.heap.size + 5) #[v] 25 ∧ Own A (w.heap.size + 4) (addAll d (d want) day q (cl.take j)) v ∧ (∀ g, v.ownBlock = some g → g < s ∨ s + 3 ≤ g)) ∧
  (RowIs A w.heap.size (planRow S M a n cap l da n dcap) 56 ∧ RowIs A (w.heap.size + 1) #[.int .i64 want] 3 ∧ RowIs A (w.heap.size + 2) #[.int .i64 day] 3) ∧
  RowIs A (w.heap.size + 3) (rowB 14 fun i => (addAll d (d want) day q (cl.take j)).contains i) 82 ∧ Recs (w.heap.size + 6) ds A ∧ (Below w.heap.size w A ∧ w.heap.size ≤ A.heap.size) ∧ s + 3 ≤ A.heap.size
theorem chI_still {r : Nat} {w : World} {S M : Int} {a : Option Addr} {n cap : Nat} {l : Nat → Int} {da : Option Addr} {dcap : Nat} {d : Nat → Nat} {want day : Nat} {q cl : List Nat} {s : Nat} {ds : List Nat} {j : Nat} (hr : w.heap.size ≤ r) : Still r (ChI w S M a n cap l da dcap d want day q cl s ds j) :=
  (Still.ex fun v => (Still.row _ _ _ _).and ((own_still _ _ v).and (Still.pure _))).and (((Still.row _ _ _ _).and ((Still.row _ _ _ _).and (Still.row _ _ _ _))).and ((Still.row _ _ _ _).and (recs_still.and ((Still.below _ w hr).and (Still.size _)))))

set_option maxRecDepth 100000 in
set_option maxHeartbeats 16000000 in
theorem chain_c (S M : Int) (a : Option Addr) (n cap : Nat) (f : Nat → W2) (l : Nat → Int) (da : Option Addr) (dcap : Nat) (d : Nat → Nat) (want day : Nat) (w : World) (hf : Wants w a n f) (hn : n ≤ 14) (hd : Ints w da n fun i => (d i : Int)) (hw : want < n) :
    Calls Tryz.prog 36 #[planV S M a n cap l da n dcap, .int .i64 want, .int .i64 day] w fun e w' => ∃ v, e = .returned v ∧ Own w' w.heap.size (chainL f n d (d want) day want) v ∧ Below w.heap.size w w' := by
  obtain ⟨W, hW⟩ : ∃ W, ((w.alloc (.cells (planRow S M a n cap l da n dcap) 56)).alloc (.cells #[.int .i64 want] 3)).alloc (.cells #[.int .i64 day] 3) = W := ⟨_, rfl⟩
  have hB : Below w.heap.size w W := by rw [← hW]; exact Below.alloc1 (Below.alloc1 (Below.alloc1 (Below.refl _ _) _ (Nat.le_refl _)) _ (Nat.le_refl _)) _ (Nat.le_refl _)
  have hP : RowIs W w.heap.size (planRow S M a n cap l da n dcap) 56 := by rw [← hW]; exact RowIs.alloc (RowIs.alloc (heap_new_at _ _ _ rfl) _) _
  have h1 : RowIs W (w.heap.size + 1) #[.int .i64 want] 3 := by rw [← hW]; exact RowIs.alloc (heap_new_at _ _ _ (by simp)) _
  have h2 : RowIs W (w.heap.size + 2) #[.int .i64 day] 3 := by rw [← hW]; exact heap_new_at _ _ _ (by simp)
  have hz : W.heap.size = w.heap.size + 3 := by rw [← hW]; simp
  obtain ⟨A, hA⟩ : ∃ A, W.alloc (.cells (rowB 14 fun _ => false) 82) = A := ⟨_, rfl⟩
  have hAb : Below W.heap.size W A := by rw [← hA]; exact Below.alloc1 (Below.refl _ _) _ (Nat.le_refl _)
  have hAm : RowIs A W.heap.size (rowB 14 fun _ => false) 82 := by rw [← hA]; exact heap_new_at _ _ _ rfl
  have hAz : A.heap.size = W.heap.size + 1 := by rw [← hA]; simp
  obtain ⟨A2, hA2⟩ : ∃ A2, A.setCell ⟨W.heap.size, want, none⟩ (.bool true) = A2 := ⟨_, rfl⟩
  have hA2m : RowIs A2 W.heap.size (rowB 14 fun i => [want].contains i) 82 := by
    rw [← hA2, ← rowB_set 14 (fun _ => false) (fun i => [want].contains i) want true (by simp) (fun i _ hi => by simp [hi])]
    exact RowIs.set hAm want (.bool true)
  have hA2b : Below W.heap.size A A2 := by rw [← hA2]; exact (Below.refl _ A).setCell (p := ⟨W.heap.size, want, none⟩) (Nat.le_refl _) _
  have hA2z : A2.heap.size = W.heap.size + 1 := by rw [← hA2]; simp [hAz]
  obtain ⟨A3, hA3⟩ : ∃ A3, A2.alloc (.cells #[.int .i64 want] 3) = A3 := ⟨_, rfl⟩
  have hA3l : RowIs A3 A2.heap.size #[.int .i64 want] 3 := by rw [← hA3]; exact heap_new_at _ _ _ rfl
  have hA3b : Below A2.heap.size A2 A3 := by rw [← hA3]; exact Below.alloc1 (Below.refl _ _) _ (Nat.le_refl _)
  have hA3z : A3.heap.size = A2.heap.size + 1 := by rw [← hA3]; simp
  obtain ⟨A4, hA4⟩ : ∃ A4, A3.alloc (.cells #[.slice none 0 0] 25) = A4 := ⟨_, rfl⟩
  have hA4c : RowIs A4 A3.heap.size #[.slice none 0 0] 25 := by rw [← hA4]; exact heap_new_at _ _ _ rfl
  have hA4b : Below A3.heap.size A3 A4 := by rw [← hA4]; exact Below.alloc1 (Below.refl _ _) _ (Nat.le_refl _)
  have hA4z : A4.heap.size = A3.heap.size + 1 := by rw [← hA4]; simp
  obtain ⟨A5, hA5⟩ : ∃ A5, A4.setCell ⟨A3.heap.size, 0, none⟩ (.slice (some ⟨A2.heap.size, 0, none⟩) 1 1) = A5 := ⟨_, rfl⟩
  have hA5c : RowIs A5 A3.heap.size #[.slice (some ⟨A2.heap.size, 0, none⟩) 1 1] 25 := by rw [← hA5]; exact RowIs.set hA4c 0 _
  have hA5b : Below A3.heap.size A4 A5 := by rw [← hA5]; exact (Below.refl _ A4).setCell (p := ⟨A3.heap.size, 0, none⟩) (Nat.le_refl _) _
  have hA5z : A5.heap.size = w.heap.size + 6 := by rw [← hA5]; simp; omega
  -- what the walk reads
  have w14 : want < 14 := by omega
  have i1 : A.cell? ⟨w.heap.size + 1, 0, none⟩ = some (.int .i64 want) := RowIs.cell ((hAb.block _ (by omega)).trans h1) 0
  have i2 : A2.cell? ⟨w.heap.size + 1, 0, none⟩ = some (.int .i64 want) := RowIs.cell ((hA2b.block _ (by omega)).trans ((hAb.block _ (by omega)).trans h1)) 0
  have m1 : A.cell? ⟨W.heap.size, want, none⟩ = some (.bool false) := by rw [hAm.cell want, rowB_get _ _ _ w14]
  have m2 := hAm.frozen want
  have c1 : A4.cell? ⟨A3.heap.size, 0, none⟩ = some (.slice none 0 0) := hA4c.cell 0
  have c2 := hA4c.frozen 0
  -- what is there at the loop's head
  have kW5 : ∀ k, k < W.heap.size → A5.heap[k]? = W.heap[k]? := fun k hk => (hA5b.block k (by omega)).trans ((hA4b.block k (by omega)).trans ((hA3b.block k (by omega)).trans ((hA2b.block k hk).trans (hAb.block k hk))))
  have hP5 : RowIs A5 w.heap.size (planRow S M a n cap l da n dcap) 56 := (kW5 _ (by omega)).trans hP
  have h15 : RowIs A5 (w.heap.size + 1) #[.int .i64 want] 3 := (kW5 _ (by omega)).trans h1
  have h25 : RowIs A5 (w.heap.size + 2) #[.int .i64 day] 3 := (kW5 _ (by omega)).trans h2
  have hm5 : RowIs A5 (w.heap.size + 3) (rowB 14 fun i => [want].contains i) 82 := by
    rw [← hz]
    exact (hA5b.block _ (by omega)).trans ((hA4b.block _ (by omega)).trans ((hA3b.block _ (by omega)).trans hA2m))
  have hl5 : RowIs A5 (w.heap.size + 4) #[.int .i64 want] 3 := by
    rw [show w.heap.size + 4 = A2.heap.size by omega]
    exact (hA5b.block _ (by omega)).trans ((hA4b.block _ (by omega)).trans hA3l)
  have hb5 : Below w.heap.size w A5 := hB.trans ⟨hA5b.os.trans (hA4b.os.trans (hA3b.os.trans (hA2b.os.trans hAb.os))), hA5b.tape.trans (hA4b.tape.trans (hA3b.tape.trans (hA2b.tape.trans hAb.tape))), hA5b.output.trans (hA4b.output.trans (hA3b.output.trans (hA2b.output.trans hAb.output))), by omega, fun k hk => kW5 k (by omega)⟩
  have hc5 : RowIs A5 (w.heap.size + 5) #[.slice (some ⟨w.heap.size + 4, 0, none⟩) 1 1] 25 := by
    rw [show w.heap.size + 4 = A2.heap.size by omega, show w.heap.size + 5 = A3.heap.size by omega]
    exact hA5c
  have HP := Lib.hid hP5
  have H1 := Lib.hid h15
  have H2 := Lib.hid h25
  have HM := Lib.hid hm5
  have HL := Lib.hid hl5
  have HC := Lib.hid hc5
  have HB5 := Lib.hid hb5
  have HZ5 := Lib.hid hA5z
  have Hf := Lib.hid hf
  have Hd := Lib.hid hd
  have hzz : W.heap.size = w.heap.size + 3 ∧ A2.heap.size = w.heap.size + 4 ∧ A3.heap.size = w.heap.size + 5 := by omega
  have Hzz := Lib.hid hzz
  clear hP5 h15 h25 hm5 hl5 hc5 hb5 hA5z hf hd kW5 hA5c hA5b hA4b hA4z hA4c hA3z hA3b hA3l hA2z hA2b hA2m hAz hAm hAb hP h1 h2 hz hB hzz
  have hA' := hA
  rw [show (rowB 14 fun _ => false) = (#[.bool false, .bool false, .bool false, .bool false, .bool false, .bool false, .bool false, .bool false, .bool false, .bool false, .bool false, .bool false, .bool false, .bool false] : Array Value) from rfl] at hA'
  clear hA
  simp only [planRow] at hW
  refine (callsIn_wide (n := 1)).1 ?_
  refine callsIn_of_wp_marks Tryz.func36 rfl trivial ?_ rfl
  simp only [Tryz.ntmps36, List.size_toArray, List.length_cons, List.length_nil, Nat.reduceAdd, Nat.reduceSub, Array.replicate_succ, Array.replicate_zero, List.push_toArray, List.append_toArray, List.nil_append, List.cons_append]
  refine wpIn_wide.2 ?_
  go_wp2_with fail
  obtain ⟨e1, e2, e3⟩ := Hzz.out
  rw [e1, e2, e3]
  clear e1 e2 e3 hW hA' hA2 hA3 hA4 hA5 i1 i2 m1 m2 c1 c2 Hzz
  refine (wpIn_wide (n := 1)).1 ?_
  refine wpIn_loop (fun a' wr => ∃ (at_ : Nat) (q : List Nat) (v : Value) (ds : List Nat) (u15 u16 u17 u18 u19 u20 u21 u22 u23 u24 u25 u26 u27 : Value), a' = { tmps := #[planV S M a n cap l da n dcap, .int .i64 want, .int .i64 day, .pointer (some ⟨w.heap.size, 0, none⟩), .pointer (some ⟨w.heap.size + 1, 0, none⟩), .pointer (some ⟨w.heap.size + 2, 0, none⟩), .slice none 0 0, .pointer (some ⟨w.heap.size + 3, 0, none⟩), .pointer (some ⟨w.heap.size + 5, 0, none⟩), .int .i64 (at_ : Nat), undef, .int .i64 want, .pointer (some ⟨w.heap.size + 3, want, none⟩), .int .i64 want, .slice (some ⟨w.heap.size + 4, 0, none⟩) 1 1, u15, u16, u17, u18, u19, u20, u21, u22, u23, u24, u25, u26, u27, undef, undef, undef, undef, undef, undef, undef, undef, undef, undef, undef, undef, undef, undef, undef, undef, undef, undef, undef, undef, undef, undef, undef, undef, undef, undef, undef, undef, undef, undef, undef, undef, undef, undef, undef, undef], defers := coll ds } ∧ at_ ≤ q.length ∧ Queue f n (Two d (d want) day) want q at_ (fun i => i ∈ q) ∧ Below w.heap.size w wr ∧ w.heap.size + 6 ≤ wr.heap.size ∧ RowIs wr w.heap.size (planRow S M a n cap l da n dcap) 56 ∧ RowIs wr (w.heap.size + 1) #[.int .i64 want] 3 ∧ RowIs wr (w.heap.size + 2) #[.int .i64 day] 3 ∧ RowIs wr (w.heap.size + 3) (rowB 14 fun i => q.contains i) 82 ∧ RowIs wr (w.heap.size + 5) #[v] 25 ∧ Own wr (w.heap.size + 4) q v ∧ Recs (w.heap.size + 6) ds wr) (fun a' _ => n - (intOf (a'.tmps.getD 9 undef)).toNat) ?start ?round
  case start => exact ⟨0, [want], .slice (some ⟨w.heap.size + 4, 0, none⟩) 1 1, [], undef, undef, undef, undef, undef, undef, undef, undef, undef, undef, undef, undef, undef, rfl, by simp, queue_one _ _ _ _, HB5.out, Nat.le_of_eq HZ5.out.symm, HP.out, H1.out, H2.out, HM.out, HC.out, own_one HL.out (Nat.le_refl _), recs_nil _ _⟩
  case round =>
    clear HP H1 H2 HM HC HL HB5 HZ5
    rintro a' wr ⟨at_, q, v, ds, u15, u16, u17, u18, u19, u20, u21, u22, u23, u24, u25, u26, u27, rfl, hat, hq, hb, hz6, hP, h1, h2, hm, hc, ho, hr⟩
    obtain ⟨p, qc, rfl, hlst, hpB⟩ := ho.lst
    have hPw : Two d (d want) day want := .inl rfl
    have hql : q.length ≤ n := hq.len hw hPw
    by_cases hlt : at_ < q.length
    · obtain ⟨x, hx⟩ : ∃ x, q[at_]? = some x := ⟨_, List.getElem?_eq_getElem hlt⟩
      have hxq := List.mem_of_getElem? hx
      have hxn : x < n := ((hq.only x hxq).in hw hPw).1
      obtain ⟨lb, lo, rfl, hls, hlc⟩ := Cells.at hlst.cells at_ hlt
      have cx : wr.cell? ⟨lb, lo + at_, none⟩ = some (.int .i64 (x : Int)) := by rw [hlc at_ hlt]; simp [List.getD, hx]
      have cc : wr.cell? ⟨w.heap.size + 5, 0, none⟩ = some (.slice (some ⟨lb, lo, none⟩) q.length qc) := hc.cell 0
      have zc := hc.lt
      obtain ⟨p0, p1, p2, p3, p4, p5, p6, p7, p8, p9, p10, p11, p12, p13, p14, p15, pz⟩ := plancells hP
      have HP := Lib.hid hP
      have H1 := Lib.hid h1
      have H2 := Lib.hid h2
      have HM := Lib.hid hm
      have HC := Lib.hid hc
      have HO := Lib.hid ho
      have HR := Lib.hid hr
      have HB := Lib.hid hb
      have HQ := Lib.hid hq
      have HX := Lib.hid hx
      clear hP h1 h2 hm hc ho hr hb hlc hlst hpB hx hxq hq
      have hlc := fun (x : Later wr) => later_cell x
      gi_wp2_with fail
      refine wpIn_wide.2 ?_
      refine wp_region_later_tail 6 (by kernel_rfl) (by kernel_rfl) ?_
      simp only [List.take_succ_cons, List.take_zero, List.drop_succ_cons, List.drop_zero]
      repeat (go_big_quiet_step (fail))
      refine wpQuiet_nil ?_
      clear hlc cx cc p0 p1 p2 p3 p4 p5 p6 p7 p8 p9 p10 p11 p12 p13 p14 p15
      rintro ⟨Z, hZb⟩
      have hBZ : Below w.heap.size w Z := HB.out.trans (hZb.mono HB.out.size)
      have HC7 := Lib.hid (clashes_c S M a n cap f l x Z (Hf.out.below hBZ) hxn (by omega))
      have HZb := Lib.hid hZb
      have HBZ := Lib.hid hBZ
      dsimp only
      clear hZb hBZ
      go_wp2_with fail
      refine HC7.out.mono ?_
      rintro e Y ⟨rfl, hY⟩
      go_wp2_with fail
      gi_wp2_with fail
      obtain ⟨s, hs⟩ : ∃ s, Z.heap.size = s := ⟨_, rfl⟩
      rw [hs]
      have hYb : Below s Z Y := by rw [← hY, ← hs]; exact Below.alloc1 (Below.alloc1 (Below.alloc1 (Below.refl _ _) _ (Nat.le_refl _)) _ (Nat.le_refl _)) _ (Nat.le_refl _)
      have hD2 : RowIs Y s (deskRow S M a n cap l) 47 := by rw [← hY, ← hs]; exact RowIs.alloc (RowIs.alloc (heap_new_at _ _ _ rfl) _) _
      have hI2 : RowIs Y (s + 1) #[.int .i64 x] 3 := by rw [← hY, ← hs]; exact RowIs.alloc (heap_new_at _ _ _ (by simp)) _
      have hO2 : RowIs Y (s + 2) #[.int .i64 (f x).s, .int .i64 (f x).m] 77 := by rw [← hY, ← hs]; exact heap_new_at _ _ _ (by simp)
      have hzY : Y.heap.size = s + 3 := by rw [← hY, ← hs]; simp
      have hwz : wr.heap.size ≤ s := by rw [← hs]; exact HZb.out.size
      have hBY : Below w.heap.size w Y := HBZ.out.trans (hYb.mono (by rw [← hs]; exact HBZ.out.size))
      have hWY : Below wr.heap.size wr Y := HZb.out.trans (hYb.mono hwz)
      have hG := clashes_givesV S M a n cap f l x s Y (Hf.out.below hBY) hxn (by omega) hD2 hI2 hO2
      have hKk : ∀ k, clashK a s k → k < Y.heap.size := fun k hk => by
        rcases hk with rfl | rfl | rfl | ⟨off, h⟩
        · omega
        · omega
        · omega
        · obtain ⟨b, off', he, hbs, -⟩ := Wants.at Hf.out x hxn
          rw [h] at he
          cases he
          have := hBY.size
          omega
      have hKo : ∀ k off, a = some ⟨k, off, none⟩ → k < w.heap.size := fun k off e => by
        obtain ⟨b, off', he, hbs, -⟩ := Wants.at Hf.out x hxn
        rw [e] at he
        cases he
        exact hbs
      have hcm : ∀ i, i ∈ clashL f x n ↔ i < n ∧ i ≠ x ∧ Clashes f i x := fun i => by rw [clashL_mem, clashB_iff]
      obtain ⟨cl, hcl⟩ : ∃ cl, clashL f x n = cl := ⟨_, rfl⟩
      rw [hcl] at hG hcm
      have hclen : cl.length ≤ n := by rw [← hcl]; unfold clashL; exact Nat.le_trans (List.length_filter_le _ _) (by simp)
      have h0 : ChI w S M a n cap l da dcap d want day q cl s ds 0 Y :=
        ⟨⟨_, HC.out.below hWY, HO.out.below hWY, fun g hg => by
          have := HO.out.lt g hg
          omega⟩, ⟨HP.out.below hWY, H1.out.below hWY, H2.out.below hWY⟩, HM.out.below hWY, HR.out.below hWY, ⟨hBY, hBY.size⟩, by omega⟩
      have HG := Lib.hid hG
      have HzY := Lib.hid hzY
      have HI0 := Lib.hid h0
      have HrY := Lib.hid (HR.out.below hWY)
      have Hcm := Lib.hid hcm
      have HKo := Lib.hid hKo
      clear hY hYb hD2 hI2 hO2 hzY hBY hWY hG h0 hcm hKo hcl hs HC7 HP H1 H2 HM HC HO HZb HBZ
      refine wpIn_rangeV (gf := 82) (first := #[]) (lb := #[.pointer (some ⟨s, 0, none⟩), .pointer (some ⟨s + 1, 0, none⟩), .pointer (some ⟨s + 2, 0, none⟩)]) rfl (enters_of Tryz.func82 (by kernel_rfl) rfl) HG.out hKk (fun A i vs h => by rw [h]; rfl) (fun i vs => Still.pure _)
        (ChI w S M a n cap l da dcap d want day q cl s ds) (fun _ _ _ => False) (fun k => chI_still (by have := HzY.out; omega)) (fun _ _ => Still.pure _) HI0.out
        (fun k vs a' A => ∃ v, vs = #[v] ∧ a' = { tmps := #[planV S M a n cap l da n dcap, .int .i64 want, .int .i64 day, .pointer (some ⟨w.heap.size, 0, none⟩), .pointer (some ⟨w.heap.size + 1, 0, none⟩), .pointer (some ⟨w.heap.size + 2, 0, none⟩), .slice none 0 0, .pointer (some ⟨w.heap.size + 3, 0, none⟩), .pointer (some ⟨w.heap.size + 5, 0, none⟩), .int .i64 (at_ : Nat), v, .int .i64 want, .pointer (some ⟨w.heap.size + 3, want, none⟩), .int .i64 want, .slice (some ⟨w.heap.size + 4, 0, none⟩) 1 1, .int .i64 (at_ : Nat), .slice (some ⟨lb, lo, none⟩) q.length qc, .int .i64 (q.length : Nat), .bool true, u19, u20, .pointer (some ⟨w.heap.size, 0, none⟩), deskV S M a n cap l, .slice (some ⟨lb, lo, none⟩) q.length qc, .int .i64 (at_ : Nat), .pointer (some ⟨lb, lo + at_, none⟩), .int .i64 (x : Nat), .func (.func 82) #[] #[.pointer (some ⟨s, 0, none⟩), .pointer (some ⟨s + 1, 0, none⟩), .pointer (some ⟨s + 2, 0, none⟩)], v, undef, undef, undef, undef, undef, undef, undef, undef, undef, undef, undef, undef, undef, undef, undef, undef, undef, undef, undef, undef, undef, undef, undef, undef, undef, undef, undef, undef, undef, undef, undef, undef, undef, undef, undef], defers := [] }) (fun k vs a' => Still.pure _)
        ?assign ?body ?done ?stop
      case assign =>
        rintro lx k hk A vs T hA hI rfl hT
        gi_wp2
        exact hT _ _ (Below.refl _ _) ⟨_, rfl, rfl⟩
      case body =>
        rintro lx j hj vs a' A hA ⟨⟨v, hv, hown, hne⟩, ⟨rP, r1, r2⟩, rM, rR, ⟨hb, hbz⟩, hs3⟩ rfl ⟨v', hv', rfl⟩
        obtain rfl : Value.int .i64 ((cl[j] : Nat) : Int) = v' := by simpa using hv'
        obtain ⟨o, ho⟩ : ∃ o, cl[j] = o := ⟨_, rfl⟩
        have htk : cl.take (j + 1) = cl.take j ++ [o] := by rw [List.take_succ_eq_append_getElem hj, ho]
        have hon : o < n := ((Hcm.out o).1 (by rw [← ho]; exact List.getElem_mem hj)).1
        rw [ho]
        obtain ⟨q', hq'⟩ : ∃ q', addAll d (d want) day q (cl.take j) = q' := ⟨_, rfl⟩
        have hadd : addAll d (d want) day q (cl.take (j + 1)) = addOne d (d want) day q' o := by rw [htk, addAll_snoc, hq']
        have hql' : q'.length ≤ 28 := by
          rw [← hq']
          have := addAll_len d (d want) day (cl.take j) q
          have : (cl.take j).length ≤ cl.length := by rw [List.length_take]; omega
          omega
        rw [hq'] at hown rM
        obtain ⟨up, um, uc, rfl⟩ : ∃ up um uc, v = .slice up um uc := by
          obtain ⟨p, c, h, -, -⟩ := hown.lst
          exact ⟨p, _, c, h⟩
        have p15 : A.cell? ⟨w.heap.size, 15, none⟩ = some (.slice da n dcap) := rP.cell 15
        have k1 : A.cell? ⟨w.heap.size + 1, 0, none⟩ = some (.int .i64 want) := r1.cell 0
        have k2 : A.cell? ⟨w.heap.size + 2, 0, none⟩ = some (.int .i64 day) := r2.cell 0
        obtain ⟨db, doff, rfl, hdb, hdc⟩ := Cells.at (Cells.below Hd.out hb) o hon
        have co : A.cell? ⟨db, doff + o, none⟩ = some (.int .i64 (d o : Int)) := hdc o hon
        have cw : A.cell? ⟨db, doff + want, none⟩ = some (.int .i64 (d want : Int)) := hdc want hw
        have m0 : A.cell? ⟨w.heap.size + 3, o, none⟩ = some (.bool (q'.contains o)) := by rw [rM.cell o, rowB_get _ _ _ (by omega)]
        have zP := rP.lt
        have z1 := r1.lt
        have z2 := r2.lt
        have zM := rM.lt
        have o14 : o < 14 := by omega
        obtain ⟨dx, hdx⟩ : ∃ dx, d o = dx := ⟨_, rfl⟩
        obtain ⟨dw, hdw⟩ : ∃ dw, d want = dw := ⟨_, rfl⟩
        have hI : ∀ q2, addOne d (d want) day q' o = q2 → q2 = q' → ChI w S M a n cap l (some ⟨db, doff, none⟩) dcap d want day q cl s ds (j + 1) A := fun q2 h1 h2 => by
          unfold ChI
          rw [hadd, h1, h2]
          exact ⟨⟨_, hv, hown, hne⟩, ⟨rP, r1, r2⟩, rM, rR, ⟨hb, hbz⟩, hs3⟩
        rw [hdx] at co
        rw [hdw] at cw
        have Hv := Lib.hid hv
        have Hown := Lib.hid hown
        have Hne := Lib.hid hne
        have HrP := Lib.hid rP
        have Hr1 := Lib.hid r1
        have Hr2 := Lib.hid r2
        have HrM := Lib.hid rM
        have HrR := Lib.hid rR
        have Hb := Lib.hid hb
        have Hadd := Lib.hid hadd
        have HIn := Lib.hid hI
        have Hdx := Lib.hid hdx
        have Hdw := Lib.hid hdw
        have hlc := fun (x : Later A) => later_cell x
        clear hv hown hne rP r1 r2 rM rR hb hadd hI hdx hdw hdc htk ho hq'
        cases hbq : q'.contains o with
        | true =>
          rw [hbq] at m0
          have hno : addOne d (d want) day q' o = q' := by unfold addOne; rw [hbq]; rfl
          have HNo := Lib.hid hno
          clear hno hbq
          gi_wp2_with fail
          refine wpIn_region_later_tailR 25 (by kernel_rfl) (by kernel_rfl) (by kernel_rfl) (by rintro ⟨_, _, h⟩; exact h) ?_
          simp only [List.take_succ_cons, List.take_zero, List.drop_succ_cons, List.drop_zero]
          repeat (go_big_quiet_step (fail))
          refine wpQuiet_nil ?_
          clear hlc p15 k1 k2 co cw m0
          rintro ⟨A7, hb7⟩
          have Hb7 := Lib.hid hb7
          dsimp only
          clear hb7
          go_wp2_with (fail)
          gi_wp2_with fail
          exact ⟨Lets.of_below Hb7.out, (chI_still (r := w.heap.size) (Nat.le_refl _)).grow A A7 (HIn.out _ HNo.out rfl) Hb7.out⟩
        | false =>
          rw [hbq] at m0
          have Hbq := Lib.hid hbq
          clear hbq
          obtain ⟨st, hst⟩ : ∃ st, twoB d (d want) day o = st := ⟨_, rfl⟩
          have heq : (((dx : Int) == (dw : Int)) = true ∧ st = true) ∨ (((dx : Int) == (dw : Int)) = false ∧ ((dx : Int) == (day : Int)) = true ∧ st = true) ∨ (((dx : Int) == (dw : Int)) = false ∧ ((dx : Int) == (day : Int)) = false ∧ st = false) := by
            rw [← hst, ← Hdx.out, ← Hdw.out]
            unfold twoB
            by_cases e1 : d o = d want
            · exact .inl ⟨by simp [e1], by simp [e1]⟩
            · by_cases e2 : d o = day
              · exact .inr (.inl ⟨by simp; omega, by simp [e2], by simp [e2]⟩)
              · exact .inr (.inr ⟨by simp; omega, by simp; omega, by simp [e1, e2]⟩)
          have HSt := Lib.hid hst
          clear hst
          -- what is written where it is one of the two days
          have fin : st = true → ∀ A7, Below A.heap.size A A7 → ∃ (A8 X Y2 Z2 : World) (u : Value), A7.setCell ⟨w.heap.size + 3, o, none⟩ (.bool true) = A8 ∧ A8.alloc (.cells #[.int .i64 (o : Int)] 3) = X ∧ (∃ wp um2 uc2, u = .slice wp um2 uc2) ∧
              (Builtin.append_ #[25, 25] 25 #[.slice up um uc, .slice (some ⟨A8.heap.size, 0, none⟩) 1 1]).run Tryz.prog X = .ok u Y2 ∧ Y2.setCell ⟨w.heap.size + 5, 0, none⟩ u = Z2 ∧
              A7.cell? ⟨w.heap.size + 3, o, none⟩ = some (.bool false) ∧ A7.frozen? ⟨w.heap.size + 3, o, none⟩ = false ∧ A8.cell? ⟨w.heap.size + 5, 0, none⟩ = some (.slice up um uc) ∧ Y2.cell? ⟨w.heap.size + 5, 0, none⟩ = some (.slice up um uc) ∧ Y2.frozen? ⟨w.heap.size + 5, 0, none⟩ = false ∧
              Lets (clashK a s) A Z2 ∧ ChI w S M a n cap l (some ⟨db, doff, none⟩) dcap d want day q cl s ds (j + 1) Z2 := fun hst A7 hb7 => by
            have hM7 := HrM.out.below hb7
            have hC7 := Hv.out.below hb7
            have hO7 := Hown.out.below hb7
            have hz7 := hb7.size
            have hlow : ∀ k, k < w.heap.size + 4 → (Value.slice up um uc).ownBlock ≠ some k := fun k hk e => by
              have := (Hown.out.cells e).1
              omega
            obtain ⟨A8, hA8⟩ : ∃ A8, A7.setCell ⟨w.heap.size + 3, o, none⟩ (.bool true) = A8 := ⟨_, rfl⟩
            have hA8z : A8.heap.size = A7.heap.size := by rw [← hA8]; simp
            have hA8o : ∀ k, k ≠ w.heap.size + 3 → A8.heap[k]? = A7.heap[k]? := fun k hk => by rw [← hA8]; exact Below.heap_setCell _ _ _ _ hk
            have hM8 : RowIs A8 (w.heap.size + 3) (rowB 14 fun i => (q' ++ [o]).contains i) 82 := by
              rw [← hA8, ← rowB_set 14 (fun i => q'.contains i) (fun i => (q' ++ [o]).contains i) o true (by simp) (fun i _ hi => by simp [hi])]
              exact RowIs.set hM7 o (.bool true)
            have hC8 : RowIs A8 (w.heap.size + 5) #[.slice up um uc] 25 := (hA8o _ (by omega)).trans hC7
            have hO8 : Own A8 (w.heap.size + 4) q' (.slice up um uc) := hO7.keep fun g hg => hA8o g fun e => hlow g (by omega) hg
            have hb8 : Below w.heap.size w A8 := by rw [← hA8]; exact (Hb.out.trans (hb7.mono hbz)).setCell (p := ⟨w.heap.size + 3, o, none⟩) (by show w.heap.size ≤ w.heap.size + 3; omega) _
            obtain ⟨X, hX⟩ : ∃ X, A8.alloc (.cells #[.int .i64 (o : Int)] 3) = X := ⟨_, rfl⟩
            have hXr : RowIs X A8.heap.size #[.int .i64 (o : Int)] 3 := by rw [← hX]; exact heap_new_at _ _ _ rfl
            have hXb : Below A8.heap.size A8 X := by rw [← hX]; exact Below.alloc1 (Below.refl _ _) _ (Nat.le_refl _)
            have hXz : X.heap.size = A8.heap.size + 1 := by rw [← hX]; simp
            obtain ⟨u, Y2, hrun, hown2, hgr, hbY, hub⟩ := (hO8.below hXb).append_at A8.heap.size o hXr (by omega) (by omega)
            obtain ⟨wp, um2, uc2, hu⟩ : ∃ wp um2 uc2, u = .slice wp um2 uc2 := by
              obtain ⟨p, c, h, -, -⟩ := hown2.lst
              exact ⟨p, _, c, h⟩
            have hCY : RowIs Y2 (w.heap.size + 5) #[.slice up um uc] 25 := (hO8.below hXb).other hgr (hC8.below hXb) (by decide)
            obtain ⟨Z2, hZ2⟩ : ∃ Z2, Y2.setCell ⟨w.heap.size + 5, 0, none⟩ u = Z2 := ⟨_, rfl⟩
            have hZ2o : ∀ k, k ≠ w.heap.size + 5 → Z2.heap[k]? = Y2.heap[k]? := fun k hk => by rw [← hZ2]; exact Below.heap_setCell _ _ _ _ hk
            have hZ2z : Z2.heap.size = Y2.heap.size := by rw [← hZ2]; simp
            have hgo : ∀ k, k < X.heap.size → (Value.slice up um uc).ownBlock ≠ some k → Y2.heap[k]? = X.heap[k]? := fun k hk hn => hgr.block k hk (Ne.symm hn)
            have hYz := hgr.size
            have hoth : ∀ k, k < A.heap.size → k ≠ w.heap.size + 3 → k ≠ w.heap.size + 5 → (Value.slice up um uc).ownBlock ≠ some k → Z2.heap[k]? = A.heap[k]? := fun k hk h3 h5 hn =>
              (hZ2o k h5).trans ((hgo k (by omega) hn).trans ((hXb.block k (by omega)).trans ((hA8o k h3).trans (hb7.block k hk))))
            have hcell : ∀ (k : Nat) (ob : Obj), A.heap[k]? = some ob → ob.isCells = false → Z2.heap[k]? = some ob := fun k ob ho hn =>
              (hoth k (Array.getElem?_eq_some_iff.1 ho).1 (fun e => by subst e; rw [HrM.out] at ho; cases ho; cases hn) (fun e => by subst e; rw [Hv.out] at ho; cases ho; cases hn) (fun e => by
                obtain ⟨_, c, hc⟩ := Hown.out.cells e
                rw [hc] at ho; cases ho; cases hn)).trans ho
            have hbZ : Below w.heap.size w Z2 := by rw [← hZ2]; exact ((hb8.trans (hXb.mono (by omega))).trans (hbY.mono (by omega))).setCell (p := ⟨w.heap.size + 5, 0, none⟩) (by show w.heap.size ≤ w.heap.size + 5; omega) _
            refine ⟨A8, X, Y2, Z2, u, hA8, hX, ⟨wp, um2, uc2, hu⟩, hrun, hZ2, ?_, hM7.frozen o, hC8.cell 0, hCY.cell 0, hCY.frozen 0, ⟨by omega, fun k hk hK => ?_, fun k ob ho hn => hcell k ob ho hn⟩, ?_⟩
            · rw [hM7.cell o, rowB_get _ _ _ o14, Hbq.out]
            · rcases hK with rfl | rfl | rfl | ⟨off, h⟩
              · exact hoth _ hk (by omega) (by omega) (fun e => by have := Hne.out _ e; omega)
              · exact hoth _ hk (by omega) (by omega) (fun e => by have := Hne.out _ e; omega)
              · exact hoth _ hk (by omega) (by omega) (fun e => by have := Hne.out _ e; omega)
              · have := HKo.out k off h
                exact hoth _ hk (by omega) (by omega) (hlow k (by omega))
            · have hyes : addOne d (d want) day q' o = q' ++ [o] := by unfold addOne; rw [Hbq.out, HSt.out.trans hst]; rfl
              unfold ChI
              rw [Hadd.out, hyes]
              refine ⟨⟨u, ?_, ?_, fun g hg => ?_⟩, ⟨(hoth _ zP (by omega) (by omega) (hlow _ (by omega))).trans HrP.out, (hoth _ z1 (by omega) (by omega) (hlow _ (by omega))).trans Hr1.out, (hoth _ z2 (by omega) (by omega) (hlow _ (by omega))).trans Hr2.out⟩, ?_, ?_, ⟨hbZ, hbZ.size⟩, by omega⟩
              · rw [← hZ2]; exact RowIs.set hCY 0 u
              · rw [← hZ2]; exact hown2.far hCY (by decide)
              · rcases hub with e | e
                · exact Hne.out g (e.symm.trans hg)
                · have : X.heap.size = g := Option.some.inj (e.symm.trans hg)
                  omega
              · exact (hZ2o _ (by omega)).trans ((hgo _ (by omega) (hlow _ (by omega))).trans ((hXb.block _ (by omega)).trans hM8))
              · exact HrR.out.kept (by omega) fun b hb => (hcell b _ (HrR.out.here b hb).1 rfl).trans (HrR.out.here b hb).1.symm
          rcases heq with ⟨t1, hst⟩ | ⟨t1, t2, hst⟩ | ⟨t1, t2, hst⟩
          · have Fin := Lib.hid (fin hst)
            clear fin
            gi_wp2_with fail
            refine wpIn_region_later_tailR 25 (by kernel_rfl) (by kernel_rfl) (by kernel_rfl) (by rintro ⟨_, _, h⟩; exact h) ?_
            simp only [List.take_succ_cons, List.take_zero, List.drop_succ_cons, List.drop_zero]
            repeat (go_big_quiet_step (fail))
            refine wpQuiet_nil ?_
            clear hlc p15 k1 k2 co cw m0
            rintro ⟨A7, hb7⟩
            obtain ⟨A8, X, Y2, Z2, u, hA8, hX, ⟨wp, um2, uc2, rfl⟩, hrun, hZ2, c1, c2, c3, c4, c5, hlets, hfin⟩ := Fin.out A7 hb7
            have zM7 : w.heap.size + 3 < A7.heap.size := Nat.lt_of_lt_of_le zM hb7.size
            dsimp only
            clear hb7
            go_wp2_with (fail)
            gi_wp2_with (gi_at_builtin; refine wpListIn_append_run rfl _ _ 25 rfl rfl rfl hrun ?_)
            exact ⟨hlets, hfin⟩
          · have Fin := Lib.hid (fin hst)
            clear fin
            gi_wp2_with fail
            refine wpIn_region_later_tailR 25 (by kernel_rfl) (by kernel_rfl) (by kernel_rfl) (by rintro ⟨_, _, h⟩; exact h) ?_
            simp only [List.take_succ_cons, List.take_zero, List.drop_succ_cons, List.drop_zero]
            repeat (go_big_quiet_step (fail))
            refine wpQuiet_nil ?_
            clear hlc p15 k1 k2 co cw m0
            rintro ⟨A7, hb7⟩
            obtain ⟨A8, X, Y2, Z2, u, hA8, hX, ⟨wp, um2, uc2, rfl⟩, hrun, hZ2, c1, c2, c3, c4, c5, hlets, hfin⟩ := Fin.out A7 hb7
            have zM7 : w.heap.size + 3 < A7.heap.size := Nat.lt_of_lt_of_le zM hb7.size
            dsimp only
            clear hb7
            go_wp2_with (fail)
            gi_wp2_with (gi_at_builtin; refine wpListIn_append_run rfl _ _ 25 rfl rfl rfl hrun ?_)
            exact ⟨hlets, hfin⟩
          · clear fin
            have hno : addOne d (d want) day q' o = q' := by unfold addOne; rw [HSt.out.trans hst]; simp
            have HNo := Lib.hid hno
            clear hno
            gi_wp2_with fail
            refine wpIn_region_later_tailR 25 (by kernel_rfl) (by kernel_rfl) (by kernel_rfl) (by rintro ⟨_, _, h⟩; exact h) ?_
            simp only [List.take_succ_cons, List.take_zero, List.drop_succ_cons, List.drop_zero]
            repeat (go_big_quiet_step (fail))
            refine wpQuiet_nil ?_
            clear hlc p15 k1 k2 co cw m0
            rintro ⟨A7, hb7⟩
            have Hb7 := Lib.hid hb7
            dsimp only
            clear hb7
            go_wp2_with (fail)
            gi_wp2_with fail
            exact ⟨Lets.of_below Hb7.out, (chI_still (r := w.heap.size) (Nat.le_refl _)).grow A A7 (HIn.out _ HNo.out rfl) Hb7.out⟩
      case done =>
        rintro B hBz ⟨⟨v, hv, hown, hne⟩, ⟨rP, r1, r2⟩, rM, rR, ⟨hb, hbz⟩, hs3⟩ hK
        rw [List.take_length] at hown rM
        have hnew := rR.more (w := Y) rfl (fun q hq => (HrY.out.here q hq).2.2) hK (by have := HzY.out; omega)
        have hqq := HQ.out.add HX.out Hcm.out
        have hpl : at_ + 1 ≤ (addAll d (d want) day q cl).length := by
          obtain ⟨t, ht⟩ := addAll_pre d (d want) day cl q
          rw [← ht, List.length_append]
          omega
        have Hv := Lib.hid hv
        have Hown := Lib.hid hown
        have HrP := Lib.hid rP
        have Hr1 := Lib.hid r1
        have Hr2 := Lib.hid r2
        have HrM := Lib.hid rM
        have Hb := Lib.hid hb
        have HN := Lib.hid hnew
        have HQQ := Lib.hid hqq
        clear hv hown hne rP r1 r2 rM rR hb hnew hqq hK
        have hw1 : IntKind.i64.wrap ((at_ : Int) + 1) = (at_ : Int) + 1 := IntWalk.i64_in _ (by omega)
        dsimp only
        gi_wp2_with fail
        refine ⟨⟨at_ + 1, addAll d (d want) day q cl, v, Y.heap.size :: ds, _, _, _, _, _, _, _, _, _, _, _, _, _, rfl, hpl, HQQ.out, Hb.out, by omega, HrP.out, Hr1.out, Hr2.out, HrM.out, Hv.out, Hown.out, HN.out⟩, ?_⟩
        simp [intOf]
        omega
      case stop =>
        rintro cd k B hBz h hK
        exact h.elim
    · obtain rfl : at_ = q.length := by omega
      have cc : wr.cell? ⟨w.heap.size + 5, 0, none⟩ = some (.slice p q.length qc) := hc.cell 0
      have zc := hc.lt
      have HC := Lib.hid hc
      have HO := Lib.hid ho
      have HR := Lib.hid hr
      have HB := Lib.hid hb
      have HQ := Lib.hid hq
      clear hP h1 h2 hm hc ho hr hb hlst hpB hq
      refine wpIn_wide.2 ?_
      go_wp2_with fail
      refine (sortI_c (w.heap.size + 4) q (.slice p q.length qc) wr HO.out (by omega)).mono ?_
      rintro e w2 ⟨rfl, ho2, hg2⟩
      have hC2 := HO.out.other hg2 HC.out (by decide)
      have c2 : w2.cell? ⟨w.heap.size + 5, 0, none⟩ = some (.slice p q.length qc) := RowIs.cell hC2 0
      have hB2 : Below w.heap.size w w2 := HB.out.trans ⟨hg2.os, hg2.tape, hg2.output, hg2.size, fun k hk => hg2.block k (by omega) fun e => by have := (HO.out.cells e.symm).1; omega⟩
      have hR2 := HR.out.kept hg2.size fun b hb => (HO.out.walk hg2 (HR.out.here b hb).1 rfl).trans (HR.out.here b hb).1.symm
      have hS : sortN q = chainL f n d (d want) day want := chainL_eq hw hPw (sortN_sorted q) ((List.mergeSort_perm q _).symm.nodup HQ.out.nodup) fun i => (sortN_mem q i).trans (HQ.out.all i)
      rw [hS] at ho2
      have HO2 := Lib.hid ho2
      have HB2 := Lib.hid hB2
      have HR2 := Lib.hid hR2
      clear ho2 hB2 hR2 hg2 hC2 hS cc
      go_wp2_with fail
      refine Recs.leaves HR2.out fun w' hb' hk' => ?_
      exact ⟨.slice p q.length qc, by simp [results, Tryz.results36, go_sem], _, rfl, (HO2.out.objs hk').mono (by omega), HB2.out.trans (hb'.mono (by omega))⟩

end Go.Proofs.YtbjgbgchagfokaaGreat

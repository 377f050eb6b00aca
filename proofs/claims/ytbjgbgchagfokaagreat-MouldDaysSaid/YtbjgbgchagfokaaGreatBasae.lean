/- Contracts of package kit: a list and all that it begins. -/
import Derived.RangeFuncBound
import Derived.Shelf.Abstract
import Derived.Shelf.RegionOpen
import Derived.OwnWalkIn
import Derived.TacticsInMore
import Derived.LoopNIn
import Derived.LoopIn
import Derived.Scope
import Derived.Test.YtbjgbgchagfokaaGreatProg
import Derived.Test.YtbjgbgchagfokaaGreatBasaa
import Derived.Test.YtbjgbgchagfokaaGreatBasab
import Derived.Test.YtbjgbgchagfokaaGreatBasad
namespace Go.Proofs.YtbjgbgchagfokaaGreat
open Go Go.RowKit Go.Shelf
attribute [local go_sem] Oper.semAt_some

/-- A list and all that it begins, in lexicographic order, with at most r numbers more. -/
def growL (F : List Nat → Nat → Bool) (n : Nat) : Nat → List Nat → List (List Nat)
  | 0, b => [b]
  | r + 1, b => b :: (List.range n).flatMap fun i => if F b i then growL F n r (b ++ [i]) else []
/-- What it begins, by the first k numbers. -/
def kidsL (F : List Nat → Nat → Bool) (n : Nat) : Nat → List Nat → Nat → List (List Nat)
  | 0, _, _ => []
  | r + 1, b, k => (List.range k).flatMap fun i => if F b i then growL F n r (b ++ [i]) else []
theorem growL_kids (F : List Nat → Nat → Bool) (n r : Nat) (b : List Nat) : growL F n r b = b :: kidsL F n r b n := by cases r <;> rfl
theorem kidsL_zero (F : List Nat → Nat → Bool) (n r : Nat) (b : List Nat) : kidsL F n r b 0 = [] := by cases r <;> rfl
theorem kidsL_no {F : List Nat → Nat → Bool} {n r : Nat} {b : List Nat} {k : Nat} (h : F b k = false) : kidsL F n r b (k + 1) = kidsL F n r b k := by
  cases r with
  | zero => rfl
  | succ r => simp [kidsL, List.range_succ, List.flatMap_append, h]
theorem kidsL_yes {F : List Nat → Nat → Bool} {n r : Nat} {b : List Nat} {k : Nat} (h : F b k = true) : kidsL F n (r + 1) b (k + 1) = kidsL F n (r + 1) b k ++ growL F n r (b ++ [k]) := by
  simp [kidsL, List.range_succ, List.flatMap_append, h]
theorem kidsL_pre {F : List Nat → Nat → Bool} {n r : Nat} {b : List Nat} {j : Nat} : ∀ {k}, j ≤ k → kidsL F n r b j <+: kidsL F n r b k
  | 0, h => by obtain rfl : j = 0 := by omega
               exact List.prefix_refl _
  | k + 1, h => by
    by_cases e : j = k + 1
    · subst e; exact List.prefix_refl _
    · refine (kidsL_pre (k := k) (by omega)).trans ?_
      cases r with
      | zero => exact List.prefix_refl _
      | succ r =>
        cases hF : F b k
        · rw [kidsL_no hF]; exact List.prefix_refl _
        · rw [kidsL_yes hF]; exact List.prefix_append _ _

theorem pre_drop {α : Type} {a b L : List α} {pos : Nat} (h : (a ++ b) <+: L.drop pos) : b <+: L.drop (pos + a.length) := by
  obtain ⟨t, ht⟩ := h
  refine ⟨t, ?_⟩
  rw [← List.drop_drop, ← ht, List.append_assoc, List.drop_left]
theorem pre_head {α : Type} {x : α} {a L : List α} {pos : Nat} (h : (x :: a) <+: L.drop pos) : ∃ hl : pos < L.length, L[pos] = x := by
  obtain ⟨t, ht⟩ := h
  have h1 : pos < L.length := by
    have := congrArg List.length ht
    simp at this
    omega
  refine ⟨h1, ?_⟩
  have : (L.drop pos)[0]? = some x := by rw [← ht]; rfl
  rw [List.getElem?_drop, Nat.add_zero, List.getElem?_eq_getElem h1] at this
  exact Option.some.inj this

set_option maxRecDepth 100000 in
set_option maxHeartbeats 4000000 in
theorem grow_c (ff : Nat) (ffirst flb : Array Value) (F : List Nat → Nat → Bool) (n M : Nat) (Good : List Nat → Prop) (K : Nat → Prop) (D : Nat) (W0 : World) (lr : Nat) (J Jx : Nat → World → Prop) (L : List (List Nat))
    (hn : n ≤ 1048576) (hM : M ≤ 1048576) (ef : ∀ args w, (callFunc ff args).run Tryz.prog w = .ok (.enter ff args) w)
    (hstep : ∀ b i, Good b → i < n → F b i = true → Good (b ++ [i]) ∧ b.length < M)
    (hfit : ∀ A x p cap i, Spares K D W0 A → D ≤ A.heap.size → Lst A x p cap → Good x → i < n → Calls Tryz.prog ff (ffirst ++ #[.slice p x.length cap, .int .i64 (i : Nat)] ++ flb) A fun e w' => e = .returned (.bool (F x i)) ∧ Below A.heap.size A w')
    (hJ : ∀ k A B, J k A → Below A.heap.size A B → J k B)
    (hY : ∀ k (h : k < L.length) A p cap, D ≤ A.heap.size → J k A → Lst A L[k] p cap → YieldAt Fence.wide 0 Tryz.prog lr #[.slice p L[k].length cap] A fun e B => (e = .returned (.bool true) ∧ J (k + 1) B ∧ Spares K D A B) ∨ (e = .returned (.bool false) ∧ Jx (k + 1) B ∧ Spares K D A B)) :
    ∀ r b, r + b.length = M → Good b → ∀ p cap A pos, Lst A b p cap → (∀ bb off, p = some ⟨bb, off, none⟩ → D ≤ bb) → Spares K D W0 A → D ≤ A.heap.size → J pos A → growL F n r b <+: L.drop pos →
      Calls Tryz.prog 89 #[.slice p b.length cap, .int .i64 n, .func (.func ff) ffirst flb, .func (.yield lr) #[] #[]] A fun e B => ((e = .returned (.bool true) ∧ J (pos + (growL F n r b).length) B) ∨ (e = .returned (.bool false) ∧ ∃ k, Jx k B)) ∧ Spares K D A B := by
  have Hstep := Lib.hid hstep
  have Hfit := Lib.hid hfit
  have HJ := Lib.hid hJ
  have HY := Lib.hid hY
  clear hstep hfit hJ hY
  intro r
  induction r using Nat.strongRecOn with
  | _ r ih =>
    intro b hb hgood p cap A pos hL hp hS hDA hj hpre
    rw [growL_kids] at hpre ⊢
    obtain ⟨hpos, hhead⟩ := pre_head hpre
    have hyy := HY.out pos hpos A p cap hDA hj (by rw [hhead]; exact hL)
    rw [hhead] at hyy
    obtain ⟨fn, tmps, assign, body, hy, hR⟩ := hyy
    try dsimp only at hy
    have HR := Lib.hid hR
    have HL := Lib.hid hL
    have Hp := Lib.hid hp
    have HS := Lib.hid hS
    have Hpre := Lib.hid hpre
    have IH := Lib.hid ih
    have hroom := hL.room
    have hcap := hL.fit
    clear hR hL hp hS hpre hj ih
    refine (callsIn_wide (n := 1)).1 ?_
    refine callsIn_of_wp Tryz.func89 rfl trivial ?_ rfl
    simp only [Tryz.ntmps89, List.size_toArray, List.length_cons, List.length_nil, Nat.reduceAdd, Nat.reduceSub, Array.replicate_succ, Array.replicate_zero, List.push_toArray, List.append_toArray, List.nil_append, List.cons_append]
    gi_wp2
    refine HR.out.mono ?_
    rintro e A1 (⟨rfl, hJ1, hS1⟩ | ⟨rfl, hJx1, hS1⟩)
    · clear hy
      gi_wp2
      gi_loopw [18] (fun s wr => ∃ k : Nat, k ≤ n ∧ s = .int .i64 k ∧ J (pos + 1 + (kidsL F n r b k).length) wr ∧ Spares K D A wr) (fun s _ => n - (intOf s).toNat)
      case atStart => exact ⟨0, Nat.zero_le _, rfl, by rw [kidsL_zero]; exact hJ1, hS1⟩
      case round =>
        obtain ⟨k, hk, rfl, hj, hsp⟩ := hrel
        have hDr : D ≤ wr.heap.size := Nat.le_trans hDA hsp.size
        have hLr : Lst wr b p cap := HL.out.block hsp.size fun bb off e hlt => hsp.block bb hlt (.inr (Hp.out bb off e))
        have hSr := HS.out.trans hsp
        by_cases hlt : k < n
        · have hc := Hfit.out wr b p cap k hSr hDr hLr hgood hlt
          rw [Array.append_assoc] at hc
          have Hc := Lib.hid hc
          have Hj := Lib.hid hj
          have Hsp := Lib.hid hsp
          have HLr := Lib.hid hLr
          clear hc hj hsp hLr hSr hJ1 hS1
          cases hF : F b k with
          | false =>
            rw [hF] at Hc
            have HF := Lib.hid hF
            clear hF
            gi_wp2
            refine ⟨trivial, (callsIn_wide.2 Hc.out).mono ?_⟩
            rintro e A2 ⟨rfl, hb2⟩
            gi_wp2
            refine ⟨trivial, ?_⟩
            gi_wp2
            go_roundw
            case rel => exact ⟨k + 1, by omega, by go_num, by rw [kidsL_no HF.out]; exact HJ.out _ _ _ Hj.out hb2, Hsp.out.trans (Spares.of_below hb2)⟩
            case measure => simp [intOf]; omega
          | true =>
            rw [hF] at Hc
            have HF := Lib.hid hF
            clear hF
            gi_wp2
            refine ⟨trivial, (callsIn_wide.2 Hc.out).mono ?_⟩
            rintro e A2 ⟨rfl, hb2⟩
            have hL2 := HLr.out.below hb2
            obtain ⟨V, hV⟩ : ∃ V, A2.alloc (.cells #[.int .i64 (k : Int)] 3) = V := ⟨_, rfl⟩
            have hBV : Below A2.heap.size A2 V := by rw [← hV]; exact Below.alloc1 (Below.refl _ _) _ (Nat.le_refl _)
            have hRV : RowIs V A2.heap.size #[.int .i64 (k : Int)] 3 := by rw [← hV]; exact heap_new_at _ _ _ rfl
            obtain ⟨g, cap', B, hrun, hgz, hLB, hBB⟩ := append_lst (hL2.below hBV) A2.heap.size k hRV (by omega)
            have HLB := Lib.hid hLB
            clear hL2 hRV hLB
            gi_wp2_with (gi_at_builtin; refine wpListIn_append_run rfl _ _ 25 rfl rfl rfl hrun ?_)
            have hstep := Hstep.out b k hgood hlt HF.out
            obtain ⟨r', rfl⟩ : ∃ r', r = r' + 1 := ⟨r - 1, by omega⟩
            have hbelow : Below wr.heap.size wr B := (hb2.trans (hBV.mono hb2.size)).trans (hBB.mono (Nat.le_trans hb2.size hBV.size))
            have hgD : D ≤ g := Nat.le_trans hDr (Nat.le_trans (Nat.le_trans hb2.size hBV.size) hgz)
            have hpre : growL F n r' (b ++ [k]) <+: L.drop (pos + 1 + (kidsL F n (r' + 1) b k).length) := by
              have h1 := kidsL_pre (F := F) (n := n) (r := r' + 1) (b := b) (show k + 1 ≤ n by omega)
              rw [kidsL_yes HF.out] at h1
              have h2 : ((b :: kidsL F n (r' + 1) b k) ++ growL F n r' (b ++ [k])) <+: L.drop pos := by
                obtain ⟨t, ht⟩ := h1
                refine List.IsPrefix.trans ⟨t, ?_⟩ Hpre.out
                rw [← ht]
                simp
              have h3 := pre_drop h2
              rwa [show pos + (b :: kidsL F n (r' + 1) b k).length = pos + 1 + (kidsL F n (r' + 1) b k).length by simp; omega] at h3
            have hi := IH.out r' (by omega) (b ++ [k]) (by simp; omega) hstep.1 (some ⟨g, 0, none⟩) cap' B (pos + 1 + (kidsL F n (r' + 1) b k).length) HLB.out (fun bb off e => by cases e; exact hgD) ((HS.out.trans Hsp.out).trans (Spares.of_below hbelow)) (Nat.le_trans hDr hbelow.size) (HJ.out _ _ _ Hj.out hbelow) hpre
            rw [show (b ++ [k]).length = b.length + 1 by simp] at hi
            refine ⟨trivial, (callsIn_wide.2 hi).mono ?_⟩
            rintro e B2 ⟨(⟨rfl, hJ2⟩ | ⟨rfl, hJx2⟩), hS2⟩
            · clear hi hpre hrun hV
              gi_wp2
              go_roundw
              case rel => exact ⟨k + 1, by omega, by go_num, by rw [kidsL_yes HF.out, List.length_append, ← Nat.add_assoc]; exact hJ2, (Hsp.out.trans (Spares.of_below hbelow)).trans hS2⟩
              case measure => simp [intOf]; omega
            · clear hi hpre hrun hV
              gi_wp2
              refine bodyPost_ret (v := .bool false) (by simp [results, Tryz.results89, go_sem]) rfl ⟨.inr ⟨rfl, hJx2⟩, (Hsp.out.trans (Spares.of_below hbelow)).trans hS2⟩
        · obtain rfl : k = n := by omega
          gi_wp2
          refine bodyPost_ret (v := .bool true) (by simp [results, Tryz.results89, go_sem]) rfl ⟨.inl ⟨rfl, by rw [show pos + ((kidsL F k r b k).length + 1) = pos + 1 + (kidsL F k r b k).length by omega]; exact hj⟩, hsp⟩
    · clear hy
      gi_wp2
      refine bodyPost_ret (v := .bool false) (by simp [results, Tryz.results89, go_sem]) rfl ⟨.inr ⟨rfl, _, hJx1⟩, hS1⟩

end Go.Proofs.YtbjgbgchagfokaaGreat

namespace Go.Proofs.YtbjgbgchagfokaaGreat
open Go Go.RowKit Go.Shelf
attribute [local go_sem] Oper.semAt_some

/-- How a list of numbers is handed on. -/
def LstV (A : World) (x : List Nat) (vs : Array Value) : Prop := ∃ p cap, vs = #[.slice p x.length cap] ∧ Lst A x p cap

set_option maxRecDepth 100000 in
set_option maxHeartbeats 4000000 in
theorem grown_gives (ff : Nat) (ffirst flb : Array Value) (F : List Nat → Nat → Bool) (n M : Nat) (Good : List Nat → Prop) (K : Nat → Prop) (bn : Nat) (w : World)
    (hn : n ≤ 1048576) (hM : M ≤ 1048576) (ef : ∀ args w, (callFunc ff args).run Tryz.prog w = .ok (.enter ff args) w)
    (hN : RowIs w bn #[.int .i64 n] 3) (hF : RowIs w (bn + 1) #[.func (.func ff) ffirst flb] 70) (hK : K bn ∧ K (bn + 1)) (hg0 : Good [])
    (hstep : ∀ b i, Good b → i < n → F b i = true → Good (b ++ [i]) ∧ b.length < M)
    (hfit : ∀ A x p cap i, (∀ k, K k → A.heap[k]? = w.heap[k]?) → w.heap.size ≤ A.heap.size → Lst A x p cap → Good x → i < n → Calls Tryz.prog ff (ffirst ++ #[.slice p x.length cap, .int .i64 (i : Nat)] ++ flb) A fun e w' => e = .returned (.bool (F x i)) ∧ Below A.heap.size A w') :
    GivesA Tryz.prog 88 #[] #[.pointer (some ⟨bn, 0, none⟩), .pointer (some ⟨bn + 1, 0, none⟩)] K (growL F n M []) LstV w := by
  intro lr J Jx W hW hz hJ hJx hY h0
  have hNW : RowIs W bn _ _ := (hW bn hK.1).2.trans hN
  have hFW : RowIs W (bn + 1) _ _ := (hW (bn + 1) hK.2).2.trans hF
  have c0 : W.cell? ⟨bn, 0, none⟩ = some (.int .i64 n) := hNW.cell 0
  have c1 : W.cell? ⟨bn + 1, 0, none⟩ = some (.func (.func ff) ffirst flb) := hFW.cell 0
  have z0 := hNW.lt
  have z1 := hFW.lt
  have hgr := grow_c ff ffirst flb F n M Good K W.heap.size W lr J Jx (growL F n M []) hn hM ef hstep
    (fun A x p cap i hsp hzA hL hg hi => hfit A x p cap i (fun k hk => (hsp.block k (by have := (hW k hk).1; omega) (.inl hk)).trans (hW k hk).2) (by omega) hL hg hi)
    hJ (fun k h A p cap hzA hj hL => hY k h A #[.slice p (growL F n M [])[k].length cap] hzA hj ⟨p, cap, rfl, hL⟩)
    M [] rfl hg0 none 0 W 0 lst_nil (fun _ _ e => by cases e) (Spares.refl _ _ _) (Nat.le_refl _) h0 (List.prefix_refl _)
  have HG := Lib.hid hgr
  clear hgr hfit hstep hJ hJx hY h0 hW hN hF hNW hFW
  refine (callsIn_wide (n := 1)).1 ?_
  show CallsIn Fence.wide 1 Tryz.prog 88 #[.func (.yield lr) #[] #[], .pointer (some ⟨bn, 0, none⟩), .pointer (some ⟨bn + 1, 0, none⟩)] W _
  refine callsIn_of_wp Tryz.func88 rfl trivial ?_ rfl
  simp only [Tryz.ntmps88, List.size_toArray, List.length_cons, List.length_nil, Nat.reduceAdd, Nat.reduceSub, Array.replicate_succ, Array.replicate_zero, List.push_toArray, List.append_toArray, List.nil_append, List.cons_append]
  gi_wp2
  refine ⟨trivial, (callsIn_wide.2 HG.out).mono ?_⟩
  rintro e B ⟨(⟨rfl, hJ2⟩ | ⟨rfl, hJx2⟩), hS2⟩
  · gi_wp2
    go_end0
    exact ⟨⟨_, rfl⟩, .inl (by simpa using hJ2)⟩
  · gi_wp2
    go_end0
    exact ⟨⟨_, rfl⟩, .inr hJx2⟩

theorem grown_c (n : Nat) (ff : Nat) (ffirst flb : Array Value) (w : World) :
    Calls Tryz.prog 75 #[.int .i64 n, .func (.func ff) ffirst flb] w fun e w' => e = .returned (.func (.func 88) #[] #[.pointer (some ⟨w.heap.size, 0, none⟩), .pointer (some ⟨w.heap.size + 1, 0, none⟩)]) ∧ (w.alloc (.cells #[.int .i64 n] 3)).alloc (.cells #[.func (.func ff) ffirst flb] 70) = w' := by
  go_enter Tryz.func75, Tryz.ntmps75
  go_wp2_with fail
  go_ret
  exact ⟨by simp, rfl⟩

/-- May an index come behind a list. -/
def riseB (F : List Nat → Nat → Bool) (x : List Nat) (i : Nat) : Bool := (decide (x.length = 0) || decide (x.getD (x.length - 1) 0 < i)) && F x i

set_option maxHeartbeats 1000000 in
theorem rise_c (ff : Nat) (ffirst flb : Array Value) (F : List Nat → Nat → Bool) (bf : Nat) (p : Option Addr) (cap : Nat) (x : List Nat) (i : Nat) (w : World) (ef : ∀ args w, (callFunc ff args).run Tryz.prog w = .ok (.enter ff args) w)
    (hL : Lst w x p cap) (hx : x.length ≤ 1048576) (hF : RowIs w bf #[.func (.func ff) ffirst flb] 70)
    (hfit : ((x.length = 0) ∨ x.getD (x.length - 1) 0 < i) → Calls Tryz.prog ff (ffirst ++ #[.slice p x.length cap, .int .i64 (i : Nat)] ++ flb) w fun e w' => e = .returned (.bool (F x i)) ∧ Below w.heap.size w w') :
    Calls Tryz.prog 76 #[.slice p x.length cap, .int .i64 (i : Nat), .pointer (some ⟨bf, 0, none⟩)] w fun e w' => e = .returned (.bool (riseB F x i)) ∧ Below w.heap.size w w' := by
  have c0 : w.cell? ⟨bf, 0, none⟩ = some (.func (.func ff) ffirst flb) := hF.cell 0
  have z0 := hF.lt
  obtain ⟨r, hr⟩ : ∃ r, riseB F x i = r := ⟨_, rfl⟩
  rw [hr]
  have HR := Lib.hid hr
  clear hr
  by_cases h0 : x.length = 0
  · have hc := hfit (.inl h0)
    rw [Array.append_assoc] at hc
    have Hc := Lib.hid hc
    have hr2 : F x i = r := by rw [← HR.out]; simp [riseB, h0]
    rw [hr2] at Hc
    have t0 : ((x.length : Int) == 0) = true := by rw [h0]; rfl
    have H0 := Lib.hid h0
    clear hc h0 hr2
    go_enter Tryz.func76, Tryz.ntmps76
    go_wp2_with fail
    refine Hc.out.mono ?_
    rintro e w1 ⟨rfl, hb1⟩
    go_wp2_with fail
    go_ret
    exact ⟨rfl, hb1⟩
  · have t0 : ((x.length : Int) == 0) = false := beq_false_of_ne (by omega)
    obtain ⟨b, off, rfl, hlt, hcs⟩ := Cells.at hL.cells (x.length - 1) (by omega)
    have e0 : w.cell? ⟨b, off + (x.length - 1), none⟩ = some (.int .i64 ((x.getD (x.length - 1) 0 : Nat) : Int)) := hcs (x.length - 1) (by omega)
    have hw1 : IntKind.i64.wrap ((x.length : Int) - 1) = ((x.length - 1 : Nat) : Int) := by rw [IntWalk.i64_in _ (by omega)]; omega
    clear hcs
    obtain ⟨m, hm⟩ : ∃ m, x.length - 1 = m := ⟨_, rfl⟩
    obtain ⟨z, hz⟩ : ∃ z, x.getD m 0 = z := ⟨_, rfl⟩
    rw [hm] at hw1 e0 hfit
    rw [hz] at e0 hfit
    have hmx : m < x.length := by omega
    by_cases h1 : z < i
    · have hc := hfit (.inr h1)
      rw [Array.append_assoc] at hc
      have Hc := Lib.hid hc
      have hr2 : F x i = r := by rw [← HR.out]; simp only [riseB, hm, hz, h1, decide_true, Bool.or_true, Bool.true_and]
      rw [hr2] at Hc
      have t1 : decide ((z : Int) < (i : Int)) = true := decide_eq_true (by omega)
      clear hc hr2 hfit
      go_enter Tryz.func76, Tryz.ntmps76
      go_wp2_with fail
      refine Hc.out.mono ?_
      rintro e w1 ⟨rfl, hb1⟩
      go_wp2_with fail
      go_ret
      exact ⟨rfl, hb1⟩
    · have hr2 : r = false := by rw [← HR.out]; simp only [riseB, hm, hz, h1, h0, decide_false, Bool.or_false, Bool.false_and]
      subst hr2
      have t1 : decide ((z : Int) < (i : Int)) = false := decide_eq_false (by omega)
      clear hfit
      go_enter Tryz.func76, Tryz.ntmps76
      go_wp2_with fail
      go_ret
      exact ⟨rfl, Below.refl _ _⟩

theorem lists_c (n : Nat) (ff : Nat) (ffirst flb : Array Value) (w : World) :
    Calls Tryz.prog 44 #[.int .i64 n, .func (.func ff) ffirst flb] w fun e w' => e = .returned (.func (.func 88) #[] #[.pointer (some ⟨w.heap.size + 1, 0, none⟩), .pointer (some ⟨w.heap.size + 1 + 1, 0, none⟩)]) ∧ ((w.alloc (.cells #[.func (.func ff) ffirst flb] 70)).alloc (.cells #[.int .i64 n] 3)).alloc (.cells #[.func (.func 76) #[] #[.pointer (some ⟨w.heap.size, 0, none⟩)]] 70) = w' := by
  go_enter Tryz.func44, Tryz.ntmps44
  go_wp2_with fail
  refine (grown_c n 76 #[] #[.pointer (some ⟨w.heap.size, 0, none⟩)] _).mono ?_
  rintro e w1 ⟨rfl, rfl⟩
  go_wp2_with fail
  go_ret
  exact ⟨by simp, by simp⟩

/-- A strictly increasing list of numbers below n. -/
def Rising (n : Nat) (x : List Nat) : Prop := x.Pairwise (· < ·) ∧ ∀ i ∈ x, i < n
theorem rising_len {n : Nat} {x : List Nat} (h : Rising n x) : x.length ≤ n := by
  have : ∀ (x : List Nat) (m : Nat), x.Pairwise (· < ·) → (∀ i ∈ x, m ≤ i ∧ i < n) → x.length + m ≤ n ∨ x = [] := fun x => by
    induction x with
    | nil => exact fun _ _ _ => .inr rfl
    | cons a x ih =>
      intro m hp hi
      have h1 := List.pairwise_cons.1 hp
      have ha := hi a List.mem_cons_self
      rcases ih (a + 1) h1.2 (fun i hm => ⟨h1.1 i hm, (hi i (List.mem_cons_of_mem _ hm)).2⟩) with h2 | h2
      · simp; omega
      · subst h2; simp; omega
  rcases this x 0 h.1 (fun i hi => ⟨Nat.zero_le _, h.2 i hi⟩) with h1 | h1
  · omega
  · subst h1; simp
theorem rising_add {F : List Nat → Nat → Bool} {n : Nat} {x : List Nat} {i : Nat} (h : Rising n x) (hi : i < n) (hF : riseB F x i = true) : Rising n (x ++ [i]) := by
  simp only [riseB, Bool.and_eq_true, Bool.or_eq_true, decide_eq_true_eq] at hF
  refine ⟨List.pairwise_append.2 ⟨h.1, List.pairwise_singleton _ _, fun a ha b hb => ?_⟩, fun j hj => ?_⟩
  · rw [List.mem_singleton.1 hb]
    have hlen : 0 < x.length := List.length_pos_of_mem ha
    have hlast := hF.1.resolve_left (by omega)
    obtain ⟨k, hk, rfl⟩ := List.getElem_of_mem ha
    have e : x.getD (x.length - 1) 0 = x[x.length - 1] := by rw [List.getD_eq_getElem?_getD, List.getElem?_eq_getElem (by omega : x.length - 1 < x.length)]; rfl
    rw [e] at hlast
    by_cases c : k = x.length - 1
    · subst c; exact hlast
    · have := List.pairwise_iff_getElem.1 h.1 k (x.length - 1) hk (by omega) (by omega)
      omega
  · rcases List.mem_append.1 hj with hj | hj
    · exact h.2 j hj
    · rw [List.mem_singleton.1 hj]; exact hi

/-- All strictly increasing lists of indexes below n of which each one fits those before. -/
def listsL (F : List Nat → Nat → Bool) (n : Nat) : List (List Nat) := growL (riseB F) n n []

theorem lists_gives (ff : Nat) (ffirst flb : Array Value) (F : List Nat → Nat → Bool) (n : Nat) (K : Nat → Prop) (bn : Nat) (w : World)
    (hn : n ≤ 1048576) (ef : ∀ args w, (callFunc ff args).run Tryz.prog w = .ok (.enter ff args) w)
    (hF : RowIs w bn #[.func (.func ff) ffirst flb] 70) (hN : RowIs w (bn + 1) #[.int .i64 n] 3) (hR : RowIs w (bn + 1 + 1) #[.func (.func 76) #[] #[.pointer (some ⟨bn, 0, none⟩)]] 70) (hK : K bn ∧ K (bn + 1) ∧ K (bn + 1 + 1))
    (hfit : ∀ A x p cap i, (∀ k, K k → A.heap[k]? = w.heap[k]?) → w.heap.size ≤ A.heap.size → Lst A x p cap → Rising n x → i < n → ((x.length = 0) ∨ x.getD (x.length - 1) 0 < i) → Calls Tryz.prog ff (ffirst ++ #[.slice p x.length cap, .int .i64 (i : Nat)] ++ flb) A fun e w' => e = .returned (.bool (F x i)) ∧ Below A.heap.size A w') :
    GivesA Tryz.prog 88 #[] #[.pointer (some ⟨bn + 1, 0, none⟩), .pointer (some ⟨bn + 1 + 1, 0, none⟩)] K (listsL F n) LstV w :=
  grown_gives 76 #[] #[.pointer (some ⟨bn, 0, none⟩)] (riseB F) n n (Rising n) K (bn + 1) w hn hn (enters_of Tryz.func76 (by kernel_rfl) rfl) hN hR ⟨hK.2.1, hK.2.2⟩ ⟨List.Pairwise.nil, fun _ h => absurd h List.not_mem_nil⟩
    (fun b i hb hi hF => by
      have h1 := rising_add hb hi hF
      have h2 := rising_len h1
      simp at h2
      exact ⟨h1, by omega⟩)
    (fun A x p cap i hkeep hz hL hx hi => by
      have hFA : RowIs A bn #[.func (.func ff) ffirst flb] 70 := (hkeep bn hK.1).trans hF
      have := rise_c ff ffirst flb F bn p cap x i A ef hL (by have := rising_len hx; omega) hFA (fun h => hfit A x p cap i hkeep hz hL hx hi h)
      simpa using this)

end Go.Proofs.YtbjgbgchagfokaaGreat

namespace Go.Proofs.YtbjgbgchagfokaaGreat
open Go Go.RowKit Go.Shelf
attribute [local go_sem] Oper.semAt_some

/-- The first one of a list than which none is better. -/
def bestStep {α : Type} (lt : α → α → Bool) (o : Option α) (x : α) : Option α := match o with
  | none => some x
  | some y => if lt x y then some x else some y
def bestS {α : Type} (lt : α → α → Bool) (l : List α) : Option α := l.foldl (bestStep lt) none
theorem bestS_take {α : Type} (lt : α → α → Bool) {l : List α} {k : Nat} (h : k < l.length) : bestS lt (l.take (k + 1)) = bestStep lt (bestS lt (l.take k)) l[k] := by
  unfold bestS
  rw [List.take_succ_eq_append_getElem h, List.foldl_append]
  rfl
theorem bestS_mem {α : Type} (lt : α → α → Bool) : ∀ (l : List α) (o : Option α) (y : α), l.foldl (bestStep lt) o = some y → o = some y ∨ y ∈ l
  | [], _, _, h => .inl h
  | x :: l, o, y, h => by
    rcases bestS_mem lt l _ y h with h | h
    · cases o with
      | none => simp only [bestStep, Option.some.injEq] at h; exact .inr (by simp [h])
      | some z =>
        simp only [bestStep] at h
        split at h
        · simp only [Option.some.injEq] at h; exact .inr (by simp [h])
        · exact .inl h
    · exact .inr (by simp [h])
theorem bestS_in {α : Type} {lt : α → α → Bool} {l : List α} {k : Nat} {y : α} (h : bestS lt (l.take k) = some y) : y ∈ l := by
  rcases bestS_mem lt _ _ _ h with h | h
  · cases h
  · exact List.mem_of_mem_take h

/-- What is kept behind k lists lies in box b. -/
def KeptAt (lt : List Nat → List Nat → Bool) (L : List (List Nat)) (k b : Nat) (A : World) : Prop :=
  ∃ p cap, RowIs A b #[.slice p ((bestS lt (L.take k)).getD []).length cap] 25 ∧ Lst A ((bestS lt (L.take k)).getD []) p cap
theorem kept_still {r : Nat} (lt : List Nat → List Nat → Bool) (L : List (List Nat)) (k b : Nat) : Still r (KeptAt lt L k b) :=
  .ex fun _ => .ex fun _ => (Still.row _ _ _ _).and (Lst.still _ _ _)
theorem kept_start (lt : List Nat → List Nat → Bool) (L : List (List Nat)) (b : Nat) (A : World) (h : RowIs A b #[.slice none 0 0] 25) : KeptAt lt L 0 b A := ⟨none, 0, h, lst_nil⟩

set_option maxRecDepth 100000 in
set_option maxHeartbeats 4000000 in
theorem bestList_c (gf : Nat) (gfirst glb : Array Value) (K : Nat → Prop) (L : List (List Nat)) (bf : Nat) (bfirst blb : Array Value) (lt : List Nat → List Nat → Bool) (w : World)
    (hG : GivesA Tryz.prog gf gfirst glb K L LstV w) (hK : ∀ k, K k → k < w.heap.size) (eg : ∀ args w, (callFunc gf args).run Tryz.prog w = .ok (.enter gf args) w) (eb : ∀ args w, (callFunc bf args).run Tryz.prog w = .ok (.enter bf args) w)
    (hbt : ∀ W, Below w.heap.size w W → ∀ x ∈ L, ∀ y ∈ L, ∀ p cap q cap', Lst W x p cap → Lst W y q cap' → Calls Tryz.prog bf (bfirst ++ #[.slice p x.length cap, .slice q y.length cap'] ++ blb) W fun e w' => e = .returned (.bool (lt x y)) ∧ Below W.heap.size W w') :
    Calls Tryz.prog 73 #[.func (.func gf) gfirst glb, .func (.func bf) bfirst blb] w fun e w' => ∃ p cap, e = .returned (.tuple #[.slice p ((bestS lt L).getD []).length cap, .bool (bestS lt L).isSome]) ∧ Lst w' ((bestS lt L).getD []) p cap ∧ Below w.heap.size w w' := by
  obtain ⟨W, hW⟩ : ∃ W, ((w.alloc (.cells #[.func (.func bf) bfirst blb] 35)).alloc (.cells #[.slice none 0 0] 25)).alloc (.cells #[.bool false] 4) = W := ⟨_, rfl⟩
  have hB0 : Below w.heap.size w W := by rw [← hW]; exact Below.alloc1 (Below.alloc1 (Below.alloc1 (Below.refl _ _) _ (Nat.le_refl _)) _ (Nat.le_refl _)) _ (Nat.le_refl _)
  have h3 : RowIs W w.heap.size #[.func (.func bf) bfirst blb] 35 := by rw [← hW]; exact RowIs.alloc (RowIs.alloc (heap_new_at _ _ _ rfl) _) _
  have h6 : RowIs W (w.heap.size + 1) #[.slice none 0 0] 25 := by rw [← hW]; exact RowIs.alloc (heap_new_at _ _ _ (by simp)) _
  have h7 : RowIs W (w.heap.size + 2) #[.bool false] 4 := by rw [← hW]; exact heap_new_at _ _ _ (by simp)
  have hzW : W.heap.size = w.heap.size + 3 := by rw [← hW]; simp
  have c7 : W.cell? ⟨w.heap.size + 2, 0, none⟩ = some (.bool false) := h7.cell 0
  have z7 := h7.frozen 0
  have zz7 : w.heap.size + 2 < W.heap.size := by omega
  have H3 := Lib.hid h3
  have H6 := Lib.hid h6
  have H7 := Lib.hid h7
  have HzW := Lib.hid hzW
  have HB0 := Lib.hid hB0
  have HG := Lib.hid hG
  have HK := Lib.hid hK
  have Hbt := Lib.hid hbt
  clear h3 h6 h7 hzW hB0 hG hK hbt
  refine (callsIn_wide (n := 1)).1 ?_
  refine callsIn_of_wp_marks Tryz.func73 rfl trivial ?_ rfl
  simp only [Tryz.ntmps73, List.size_toArray, List.length_cons, List.length_nil, Nat.reduceAdd, Nat.reduceSub, Array.replicate_succ, Array.replicate_zero, List.push_toArray, List.append_toArray, List.nil_append, List.cons_append]
  gi_wp2_with fail
  obtain ⟨W2, hW2⟩ : ∃ W2, W.setCell ⟨w.heap.size + 1 + 1, 0, none⟩ (.bool false) = W2 := ⟨_, rfl⟩
  have hb2 : Below (w.heap.size + 2) W W2 := by rw [← hW2]; exact (Below.refl _ _).setCell (p := ⟨w.heap.size + 1 + 1, 0, none⟩) (Nat.le_refl _) _
  have hf2 : RowIs W2 (w.heap.size + 2) #[.bool false] 4 := by rw [← hW2]; exact RowIs.set H7.out 0 (.bool false)
  have hzW2 : W2.heap.size = w.heap.size + 3 := by rw [← hW2]; simp [World.setCell, HzW.out]
  have hB2 : Below w.heap.size w W2 := HB0.out.trans (hb2.mono (by omega))
  have h32 := (hb2.block w.heap.size (by omega)).trans H3.out
  have h62 := (hb2.block (w.heap.size + 1) (by omega)).trans H6.out
  have hG2 := HG.out.later HK.out hB2.size fun k hk => hB2.block k (HK.out k hk)
  rw [hW2]
  clear hW2 hW c7 z7
  refine wpIn_rangeA (gf := gf) (first := gfirst) (lb := glb) rfl eg hG2 (fun k hk => Nat.lt_of_lt_of_le (HK.out k hk) hB2.size) (fun A x vs h => by obtain ⟨p, cap, rfl, _⟩ := h; rfl)
    (fun x vs => .ex fun _ => .ex fun _ => (Still.pure _).and (Lst.still _ _ _))
    (fun k A => (Below w.heap.size w A ∧ w.heap.size ≤ A.heap.size) ∧ RowIs A w.heap.size #[.func (.func bf) bfirst blb] 35 ∧ KeptAt lt L k (w.heap.size + 1) A ∧ RowIs A (w.heap.size + 2) #[.bool (bestS lt (L.take k)).isSome] 4)
    (fun _ _ _ => False)
    (fun k => (Still.below _ _ (by omega)).and ((Still.row _ _ _ _).and ((kept_still _ _ _ _).and (Still.row _ _ _ _))))
    (fun _ _ => Still.pure _)
    ⟨⟨hB2, hB2.size⟩, h32, kept_start _ _ _ _ h62, hf2⟩
    (fun k vs a' _ => ∃ v, vs = #[v] ∧ a' = { tmps := #[.func (.func gf) gfirst glb, .func (.func bf) bfirst blb, undef, .pointer (some ⟨w.heap.size, 0, none⟩), .slice none 0 0, .bool false, .pointer (some ⟨w.heap.size + 1, 0, none⟩), .pointer (some ⟨w.heap.size + 1 + 1, 0, none⟩), v, .func (.func gf) gfirst glb, v, undef, undef, undef, undef, undef, undef, undef, undef, undef, undef, undef], defers := [] })
    (fun k vs a' => Still.pure _)
    ?assign ?body ?done ?stop
  case assign =>
    rintro lx k hk A vs T hA hI ⟨p, cap, rfl, hL⟩ hT
    gi_wp2
    exact hT _ _ (Below.refl _ _) ⟨_, rfl, rfl⟩
  case body =>
    rintro lx k hk vs a' A hA ⟨⟨g1, g1'⟩, g2, ⟨q, qc, g3, g4⟩, g5⟩ ⟨p, cap, rfl, hL⟩ ⟨v, hv, rfl⟩
    obtain rfl : Value.slice p L[k].length cap = v := by simpa using hv
    have hst := bestS_take lt hk
    obtain ⟨x, hxx⟩ : ∃ x, L[k] = x := ⟨_, rfl⟩
    have hxm : x ∈ L := by rw [← hxx]; exact List.getElem_mem hk
    rw [hxx] at hst hL ⊢
    have f0 : A.cell? ⟨w.heap.size + 2, 0, none⟩ = some (.bool (bestS lt (L.take k)).isSome) := g5.cell 0
    have f1 := RowIs.frozen g5 0
    have b0 : A.cell? ⟨w.heap.size, 0, none⟩ = some (.func (.func bf) bfirst blb) := g2.cell 0
    have k0 : A.cell? ⟨w.heap.size + 1, 0, none⟩ = some (.slice q ((bestS lt (L.take k)).getD []).length qc) := g3.cell 0
    have k1 := RowIs.frozen g3 0
    have z3 : w.heap.size + 2 < A.heap.size := by omega
    have z2 : w.heap.size + 1 < A.heap.size := by omega
    have z0 : w.heap.size < A.heap.size := by omega
    have hfin : ∀ (A' : World) (f : Bool) (v : Value), Below A.heap.size A A' → RowIs A' (w.heap.size + 2) #[.bool f] 4 → RowIs A' (w.heap.size + 1) #[v] 25 → ∀ a, bestS lt (L.take (k + 1)) = some x → roundQ K W2.heap.size (fun k A => (Below w.heap.size w A ∧ w.heap.size ≤ A.heap.size) ∧ RowIs A w.heap.size #[.func (.func bf) bfirst blb] 35 ∧ KeptAt lt L k (w.heap.size + 1) A ∧ RowIs A (w.heap.size + 2) #[.bool (bestS lt (L.take k)).isSome] 4) (fun _ _ _ => False) k A .normal a ((A'.setCell ⟨w.heap.size + 1, 0, none⟩ (.slice p x.length cap)).setCell ⟨w.heap.size + 1 + 1, 0, none⟩ (.bool true)) := by
      intro A' f v hA' hr hr2 a hs
      have hb : Below (w.heap.size + 1) A ((A'.setCell ⟨w.heap.size + 1, 0, none⟩ (.slice p x.length cap)).setCell ⟨w.heap.size + 1 + 1, 0, none⟩ (.bool true)) := ((hA'.mono (show w.heap.size + 1 ≤ A.heap.size by omega)).setCell (p := ⟨w.heap.size + 1, 0, none⟩) (Nat.le_refl _) _).setCell (p := ⟨w.heap.size + 1 + 1, 0, none⟩) (Nat.le_succ _) _
      have hsame : ∀ i, i < A.heap.size → i ≠ w.heap.size + 1 → i ≠ w.heap.size + 2 → ((A'.setCell ⟨w.heap.size + 1, 0, none⟩ (.slice p x.length cap)).setCell ⟨w.heap.size + 1 + 1, 0, none⟩ (.bool true)).heap[i]? = A.heap[i]? := fun i h1 h2 h3 => by
        rw [Below.heap_setCell _ _ _ _ h3, Below.heap_setCell _ _ _ _ h2]
        exact hA'.block i h1
      have hks : KeptAt lt L (k + 1) (w.heap.size + 1) ((A'.setCell ⟨w.heap.size + 1, 0, none⟩ (.slice p x.length cap)).setCell ⟨w.heap.size + 1 + 1, 0, none⟩ (.bool true)) := by
        unfold KeptAt
        rw [hs]
        exact ⟨p, cap, RowIs.other (RowIs.set hr2 0 _) 0 _ (by omega), hL.others hb.size hsame (row_noint g3 fun _ h => by cases h) (row_noint g5 fun _ h => by cases h)⟩
      refine ⟨⟨hb.size, fun i h1 h2 => hsame i h1 ?_ ?_⟩, ⟨g1.trans (hb.mono (by omega)), Nat.le_trans g1' hb.size⟩, (hsame _ (by omega) (by omega) (by omega)).trans g2, hks, ?_⟩
      · rcases h2 with h2 | h2
        · have := HK.out i h2; omega
        · omega
      · rcases h2 with h2 | h2
        · have := HK.out i h2; omega
        · omega
      · rw [hs]
        exact RowIs.set (RowIs.other hr 0 _ (by omega)) 0 (.bool true)
    have Hfin := Lib.hid hfin
    have G1 := Lib.hid g1
    have G2 := Lib.hid g2
    have G3 := Lib.hid g3
    have G4 := Lib.hid g4
    have G5 := Lib.hid g5
    have Hst := Lib.hid hst
    have HL := Lib.hid hL
    clear hfin g1 g2 g3 g4 g5 hst hL hxx hv h32 h62 hf2 hb2 hB2 hG2
    cases hb : bestS lt (L.take k) with
    | none =>
      have Hb := Lib.hid hb
      rw [hb] at f0 k0
      clear hb
      have hs : bestS lt (L.take (k + 1)) = some x := by rw [Hst.out, Hb.out]; rfl
      have Hs := Lib.hid hs
      clear hs
      gi_wp2_with fail
      refine ⟨fun _ h => (by cases h), ?_⟩
      gi_wp2_with fail
      exact Hfin.out A _ _ (Below.refl _ _) G5.out G3.out _ Hs.out
    | some y =>
      have hym : y ∈ L := bestS_in hb
      have Hb := Lib.hid hb
      rw [hb] at f0 k0 G4
      clear hb
      have hc := Hbt.out A G1.out x hxm y hym p cap q qc HL.out G4.out
      rw [Array.append_assoc] at hc
      simp only [Option.getD_some] at k0
      cases hlt : lt x y with
      | true =>
        have hs : bestS lt (L.take (k + 1)) = some x := by rw [Hst.out, Hb.out]; simp [bestStep, hlt]
        rw [hlt] at hc
        have Hs := Lib.hid hs
        have Hc := Lib.hid hc
        clear hc hs hlt
        gi_wp2_with fail
        refine ⟨trivial, ?_⟩
        refine (CallsIn.inRound lx (callsIn_wide.2 Hc.out)).mono ?_
        rintro e A1 ⟨rfl, hb1⟩
        have g5 := (hb1.block (w.heap.size + 2) (by omega)).trans G5.out
        have g3 := (hb1.block (w.heap.size + 1) (by omega)).trans G3.out
        clear f0 f1 b0 k0 k1
        have f0 : A1.cell? ⟨w.heap.size + 2, 0, none⟩ = some (.bool (bestS lt (L.take k)).isSome) := RowIs.cell g5 0
        have f1 := RowIs.frozen g5 0
        have k0 := RowIs.cell g3 0
        have k1 := RowIs.frozen g3 0
        simp only [List.getElem?_toArray, List.getElem?_cons_zero] at k0
        have z3 : w.heap.size + 2 < A1.heap.size := by have := hb1.size; omega
        have HG5 := Lib.hid g5
        have HG3 := Lib.hid g3
        clear g5 g3
        gi_wp2_with fail
        exact Hfin.out A1 _ _ hb1 HG5.out HG3.out _ Hs.out
      | false =>
        have hs : bestS lt (L.take (k + 1)) = some y := by rw [Hst.out, Hb.out]; simp [bestStep, hlt]
        rw [hlt] at hc
        have Hs := Lib.hid hs
        have Hc := Lib.hid hc
        clear hc hs hlt
        gi_wp2_with fail
        refine ⟨trivial, ?_⟩
        refine (CallsIn.inRound lx (callsIn_wide.2 Hc.out)).mono ?_
        rintro e A1 ⟨rfl, hb1⟩
        have hz1 := hb1.size
        gi_wp2_with fail
        refine ⟨Spares.of_below hb1, ⟨G1.out.trans (hb1.mono (by omega)), by omega⟩, (hb1.block _ (by omega)).trans G2.out, ⟨q, qc, ?_, ?_⟩, ?_⟩
        · rw [Hs.out]
          have := (hb1.block _ (by omega)).trans G3.out
          rw [Hb.out] at this
          exact this
        · rw [Hs.out]
          exact G4.out.below hb1
        · rw [Hs.out]
          have := (hb1.block _ (by omega)).trans G5.out
          rw [Hb.out] at this
          exact this
  case done =>
    rintro B hBz ⟨⟨g1, g1'⟩, g2, ⟨q, qc, g3, g4⟩, g5⟩ hK
    rw [List.take_length] at g3 g4 g5
    have f0 : B.cell? ⟨w.heap.size + 2, 0, none⟩ = some (.bool (bestS lt L).isSome) := g5.cell 0
    have k0 : B.cell? ⟨w.heap.size + 1, 0, none⟩ = some (.slice q ((bestS lt L).getD []).length qc) := g3.cell 0
    have z3 : w.heap.size + 2 < B.heap.size := by omega
    have z2 : w.heap.size + 1 < B.heap.size := by omega
    have G1 := Lib.hid g1
    have G4 := Lib.hid g4
    have HK' := Lib.hid hK
    clear g1 g2 g3 g4 g5 hK h32 h62 hf2 hb2 hB2 hG2
    dsimp only
    gi_wp2_with fail
    refine (wpIn_wide (n := 1)).2 ?_
    go_region
    gi_wp2_with fail
    have hU : Lst B.drew ((bestS lt L).getD []) q qc := G4.out.below (Below.refl _ _).drew
    have hb1 : Below w.heap.size w B.drew := G1.out.drew
    have hK2 : B.drew.heap[W2.heap.size]? = some (.deferred (some [])) := HK'.out
    clear f0 k0 z3 z2 G4 G1 HK'
    generalize B.drew = U2 at hU hb1 hK2 ⊢
    refine ⟨by simp, .inl ⟨_, _, rfl, run_takeDeferred hK2, ?_⟩⟩
    have hno : ∀ o n, U2.cell? ⟨W2.heap.size, o, none⟩ ≠ some (.int .i64 n) := fun o n e => by simp [World.cell?, hK2] at e
    have hL : Lst (U2.putObj W2.heap.size (.deferred none)) ((bestS lt L).getD []) q qc := hU.others (by simp) (fun i hi h1 _ => World.putObj_heap_other h1) hno hno
    have hb : Below w.heap.size w (U2.putObj W2.heap.size (.deferred none)) := hb1.trans (below_put _ (by omega))
    exact ⟨.tuple #[.slice q ((bestS lt L).getD []).length qc, .bool (bestS lt L).isSome], by simp [results, Tryz.results73, go_sem], q, qc, rfl, hL, hb⟩
  case stop =>
    rintro cd k B hBz h hK
    exact h.elim

end Go.Proofs.YtbjgbgchagfokaaGreat

namespace Go.Proofs.YtbjgbgchagfokaaGreat
open Go Go.RowKit Go.Shelf

/-- A new variable is made, and a desk is stored into it. -/
structure NewDesk (w1 V U : World) (z : Nat) (S M : Int) (a : Option Addr) (n cap : Nat) (h : Nat → Int) : Prop where
  made : w1.alloc (.cells #[.int .i64 0, .int .i64 0, .slice none 0 0, .int .i64 0, .int .i64 0, .int .i64 0, .int .i64 0, .int .i64 0, .int .i64 0, .int .i64 0, .int .i64 0, .int .i64 0, .int .i64 0, .int .i64 0, .int .i64 0] 47) = V
  size : w1.heap.size = z
  stored : putL V z 0 (deskL S M a n cap h) = U
  zero : RowIs V z (deskRow 0 0 none 0 0 fun _ => 0) 47
  row : RowIs U z (deskRow S M a n cap h) 47
  below : Below w1.heap.size w1 U
  fit : U.heap.size = z + 1

theorem newDesk (w1 : World) (S M : Int) (a : Option Addr) (n cap : Nat) (h : Nat → Int) : ∃ V U z, NewDesk w1 V U z S M a n cap h := by
  have hz : RowIs (w1.alloc (.cells (deskRow 0 0 none 0 0 fun _ => 0) 47)) w1.heap.size (deskRow 0 0 none 0 0 fun _ => 0) 47 := heap_new_at _ _ _ rfl
  refine ⟨_, _, _, rfl, rfl, rfl, hz, ?_, ?_, ?_⟩
  · rw [← setL_desk S M a n cap (fun _ => 0) h 0 0 none 0 0]
    exact putL_row hz
  · exact (Below.alloc1 (Below.refl _ _) _ (Nat.le_refl _)).trans (putL_below (Nat.le_refl _))
  · rw [putL_size]; simp

theorem longer_c (p : Option Addr) (k cap : Nat) (q : Option Addr) (m cap' : Nat) (w : World) :
    Calls Tryz.prog 74 #[.slice p k cap, .slice q m cap'] w fun e w' => e = .returned (.bool (decide (m < k))) ∧ Below w.heap.size w w' := by
  go_enter Tryz.func74, Tryz.ntmps74
  go_wp2_with fail
  go_ret
  refine ⟨?_, Below.refl _ _⟩
  simp

/-- Does a want clash with none of a list. -/
def apartL (f : Nat → W2) (n : Nat) (x : List Nat) (i : Nat) : Bool := apartB f n (fun j => ((x.getD j 0 : Nat) : Int)) x.length i
def longerB (x y : List Nat) : Bool := decide (y.length < x.length)
/-- The first one of the best lists. -/
def bestOf (f : Nat → W2) (n : Nat) : List Nat := (bestS longerB (listsL (apartL f n) n)).getD []

set_option maxHeartbeats 4000000 in
theorem longest_c (gf : Nat) (gfirst glb : Array Value) (K : Nat → Prop) (L : List (List Nat)) (w : World)
    (hG : GivesA Tryz.prog gf gfirst glb K L LstV w) (hK : ∀ k, K k → k < w.heap.size) (eg : ∀ args w, (callFunc gf args).run Tryz.prog w = .ok (.enter gf args) w) :
    Calls Tryz.prog 43 #[.func (.func gf) gfirst glb] w fun e w' => ∃ p cap, e = .returned (.slice p ((bestS longerB L).getD []).length cap) ∧ Lst w' ((bestS longerB L).getD []) p cap ∧ Below w.heap.size w w' := by
  have hc := bestList_c gf gfirst glb K L 74 #[] #[] longerB w hG hK eg (enters_of Tryz.func74 (by kernel_rfl) rfl)
    (fun W' _ x _ y _ p c q c' _ _ => longer_c p x.length c q y.length c' W')
  have HC := Lib.hid hc
  clear hc hG hK eg
  go_enter Tryz.func43, Tryz.ntmps43
  go_wp2_with fail
  refine HC.out.mono ?_
  rintro e Y ⟨p, c, rfl, hL, hb⟩
  go_wp2_with fail
  refine bodyPost_ret (v := .slice p ((bestS longerB L).getD []).length c) (by simp [results, Tryz.results43, go_sem]) rfl ⟨p, c, rfl, hL, hb⟩

set_option maxHeartbeats 4000000 in
theorem List_no_c (S M : Int) (a : Option Addr) (n cap : Nat) (f : Nat → W2) (w : World) (hf : Wants w a n f) (hn : n ≤ 1048576) (hE : bookE S M n f ≠ 0) :
    Calls Tryz.prog 21 #[bookV S M a n cap] w fun e w' => e = .returned (.tuple #[.slice none 0 0, .int .i64 (bookE S M n f)]) ∧ Below w.heap.size w w' := by
  obtain ⟨W, hW⟩ : ∃ W, w.alloc (.cells #[.int .i64 S, .int .i64 M, .slice a n cap] 24) = W := ⟨_, rfl⟩
  have hB : Below w.heap.size w W := by rw [← hW]; exact Below.alloc1 (Below.refl _ _) _ (Nat.le_refl _)
  have hR : RowIs W w.heap.size #[.int .i64 S, .int .i64 M, .slice a n cap] 24 := by rw [← hW]; exact heap_new_at _ _ _ rfl
  have r0 : W.cell? ⟨w.heap.size, 0, none⟩ = some (.int .i64 S) := RowIs.cell hR 0
  have r1 : W.cell? ⟨w.heap.size, 1, none⟩ = some (.int .i64 M) := RowIs.cell hR 1
  have r2 : W.cell? ⟨w.heap.size, 2, none⟩ = some (.slice a n cap) := RowIs.cell hR 2
  have HfW := Lib.hid (hf.below hB)
  clear hf hR
  have hc := newDesk_no_c S M a n cap f W HfW.out hn hE
  obtain ⟨v, hv⟩ : ∃ v, bookE S M n f = v := ⟨_, rfl⟩
  rw [hv] at hE hc ⊢
  have HC := Lib.hid hc
  have t0 : (v != 0) = true := by simpa using hE
  clear hc hv HfW
  go_enter Tryz.func21, Tryz.ntmps21
  go_wp2_with fail
  refine HC.out.mono ?_
  rintro e w1 ⟨rfl, hb1⟩
  have hB1 := bup hB hb1
  obtain ⟨V, U, z, hN⟩ := newDesk w1 0 0 none 0 0 fun _ => 0
  have hV := hN.made
  have hz := hN.size
  have hU := hN.stored
  simp only [putL, deskL, Nat.reduceAdd] at hU
  obtain ⟨f0, f1, f2, f3, f4, f5, f6, f7, f8, f9, f10, f11, f12, f13, f14⟩ := deskfree hN.zero
  obtain ⟨e0, e1, e2, e3, e4, e5, e6, e7, e8, e9, e10, e11, e12, e13, e14, ez⟩ := deskcells hN.zero
  have hB2 := bup hB1 hN.below
  clear hN hW r0 r1 r2 hB hb1 hB1 HC
  go_wp2_with fail
  refine bodyPost_ret (v := .tuple #[.slice none 0 0, .int .i64 v]) (by simp [results, Tryz.results21, go_sem]) rfl ⟨rfl, hB2⟩

set_option maxHeartbeats 8000000 in
theorem List_yes_c (S M : Int) (a : Option Addr) (n cap : Nat) (f : Nat → W2) (w : World) (hf : Wants w a n f) (hn : n ≤ 1048576) (hE : bookE S M n f = 0) :
    Calls Tryz.prog 21 #[bookV S M a n cap] w fun e w' => ∃ p c, e = .returned (.tuple #[.slice p (bestOf f n).length c, .int .i64 0]) ∧ Lst w' (bestOf f n) p c ∧ Below w.heap.size w w' := by
  obtain ⟨W, hW⟩ : ∃ W, w.alloc (.cells #[.int .i64 S, .int .i64 M, .slice a n cap] 24) = W := ⟨_, rfl⟩
  have hB : Below w.heap.size w W := by rw [← hW]; exact Below.alloc1 (Below.refl _ _) _ (Nat.le_refl _)
  have hR : RowIs W w.heap.size #[.int .i64 S, .int .i64 M, .slice a n cap] 24 := by rw [← hW]; exact heap_new_at _ _ _ rfl
  have r0 : W.cell? ⟨w.heap.size, 0, none⟩ = some (.int .i64 S) := RowIs.cell hR 0
  have r1 : W.cell? ⟨w.heap.size, 1, none⟩ = some (.int .i64 M) := RowIs.cell hR 1
  have r2 : W.cell? ⟨w.heap.size, 2, none⟩ = some (.slice a n cap) := RowIs.cell hR 2
  have HfW := Lib.hid (hf.below hB)
  have Hf := Lib.hid hf
  have hn14 := (book_good hE).2.2.1
  clear hR hf
  have hc := newDesk_yes_c S M a n cap f W HfW.out hn hE
  obtain ⟨l, hl⟩ : ∃ l, bookL f n = l := ⟨_, rfl⟩
  rw [hl] at hc
  have HC := Lib.hid hc
  clear hc hl HfW
  go_enter Tryz.func21, Tryz.ntmps21
  go_wp2_with fail
  refine HC.out.mono ?_
  rintro e w1 ⟨rfl, hb1⟩
  have hB1 := bup hB hb1
  obtain ⟨V, U, z, hN⟩ := newDesk w1 S M a n cap l
  have hV := hN.made
  have hz := hN.size
  have hU := hN.stored
  simp only [putL, deskL, Nat.reduceAdd] at hU
  obtain ⟨f0, f1, f2, f3, f4, f5, f6, f7, f8, f9, f10, f11, f12, f13, f14⟩ := deskfree hN.zero
  obtain ⟨e0, e1, e2, e3, e4, e5, e6, e7, e8, e9, e10, e11, e12, e13, e14, ez⟩ := deskcells hN.zero
  obtain ⟨c0, c1, c2, c3, c4, c5, c6, c7, c8, c9, c10, c11, c12, c13, c14, cz⟩ := deskcells hN.row
  have hB2 := bup hB1 hN.below
  have HN := Lib.hid hN
  clear hN hW r0 r1 r2 hB hb1 hB1 HC
  go_wp2_with fail
  refine (lists_c n 45 #[deskV S M a n cap l] #[] U).mono ?_
  rintro e X ⟨rfl, hX⟩
  have hBX : Below U.heap.size U X := by rw [← hX]; exact Below.alloc1 (Below.alloc1 (Below.alloc1 (Below.refl _ _) _ (Nat.le_refl _)) _ (Nat.le_refl _)) _ (Nat.le_refl _)
  have x0 : RowIs X U.heap.size #[.func (.func 45) #[deskV S M a n cap l] #[]] 70 := by rw [← hX]; exact RowIs.alloc (RowIs.alloc (heap_new_at _ _ _ rfl) _) _
  have x1 : RowIs X (U.heap.size + 1) #[.int .i64 n] 3 := by rw [← hX]; exact RowIs.alloc (heap_new_at _ _ _ (by simp)) _
  have x2 : RowIs X (U.heap.size + 1 + 1) #[.func (.func 76) #[] #[.pointer (some ⟨U.heap.size, 0, none⟩)]] 70 := by rw [← hX]; exact heap_new_at _ _ _ (by simp)
  have hzX : X.heap.size = U.heap.size + 3 := by rw [← hX]; simp
  have hBwX := bup hB2 hBX
  have hfX : Wants X a n f := Wants.below Hf.out hBwX
  have hG := lists_gives 45 #[deskV S M a n cap l] #[] (apartL f n) n (fun k => k = U.heap.size ∨ k = U.heap.size + 1 ∨ k = U.heap.size + 1 + 1 ∨ (n ≠ 0 ∧ ∃ off, a = some ⟨k, off, none⟩)) U.heap.size X hn (enters_of Tryz.func45 (by kernel_rfl) rfl) x0 x1 x2 ⟨.inl rfl, .inr (.inl rfl), .inr (.inr (.inl rfl))⟩
    (fun A x p cp i hkeep hzA hL hx hi _ => by
      have hfA := wants_block hfX hzA (fun k off e => hkeep k (.inr (.inr (.inr ⟨by omega, off, e⟩))))
      have := apart_c S M a n cap f l p x.length cp (fun j => ((x.getD j 0 : Nat) : Int)) i A hfA hL.cells hi hn (by have := rising_len hx; omega)
      exact this)
  have hbest := longest_c 88 #[] #[.pointer (some ⟨U.heap.size + 1, 0, none⟩), .pointer (some ⟨U.heap.size + 1 + 1, 0, none⟩)] _ (listsL (apartL f n) n) X hG
    (fun k hk => by
      rcases hk with rfl | rfl | rfl | ⟨hn0, off, rfl⟩
      · omega
      · omega
      · omega
      · rcases hfX with h0 | ⟨b, o, e, hb, _⟩
        · exact absurd h0 hn0
        · cases e; exact hb)
    (enters_of Tryz.func88 (by kernel_rfl) rfl)
  have HB := Lib.hid hbest
  clear hX x0 x1 x2 hG hbest hBX hzX hfX c0 c1 c2 c3 c4 c5 c6 c7 c8 c9 c10 c11 c12 c13 c14 cz f0 f1 f2 f3 f4 f5 f6 f7 f8 f9 f10 f11 f12 f13 f14 e0 e1 e2 e3 e4 e5 e6 e7 e8 e9 e10 e11 e12 e13 e14 ez hV hU
  go_wp2_with fail
  refine HB.out.mono ?_
  rintro e Y ⟨p, c, rfl, hL, hbY⟩
  go_wp2_with fail
  refine bodyPost_ret (v := .tuple #[.slice p (bestOf f n).length c, .int .i64 0]) (by simp [results, Tryz.results21, go_sem, bestOf]) rfl ⟨p, c, rfl, hL, bup hBwX hbY⟩

end Go.Proofs.YtbjgbgchagfokaaGreat

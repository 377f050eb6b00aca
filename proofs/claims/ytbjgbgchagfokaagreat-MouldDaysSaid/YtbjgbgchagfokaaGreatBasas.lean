/- Contracts of layer 2: for each place of a mould, the want for which it is there. -/
import Derived.Shelf.Abstract
import Derived.Shelf.RegionOpen
import Derived.Maps.OwnIn
import Derived.Test.YtbjgbgchagfokaaGreatProg
import Derived.Test.YtbjgbgchagfokaaGreatBasaa
import Derived.Test.YtbjgbgchagfokaaGreatBasar
import Derived.Test.YtbjgbgchagfokaaGreatBasak
namespace Go.Proofs.YtbjgbgchagfokaaGreat
open Go Go.RowKit Go.Shelf Go.Maps

theorem own_isMap {w : World} {b n : Nat} {D : DataW Unit} (h : w.ownsMap Tryz.prog 94 (plainElem Tryz.prog 3) b n D) : IsMap D := (World.ownsMap.tidy h keyedP).isMap

set_option maxRecDepth 100000 in
set_option maxHeartbeats 8000000 in
theorem lent_c (S M : Int) (a : Option Addr) (n cap : Nat) (f : Nat → W2) (l : Nat → Int) (da : Option Addr) (dcap : Nat) (g : Nat → Int) (val : P2 → Int) (w : World) (hf : Wants w a n f) (hn : n ≤ 14) (hd : Ints w da n g)
    (hok : ∀ i, i < n → P2.ok ⟨(f i).m, g i⟩) (hval : ∀ i, i < n → val ⟨(f i).m, g i⟩ = i) :
    Calls Tryz.prog 68 #[planV S M a n cap l da n dcap] w fun e w' => ∃ b, w.heap.size ≤ b ∧ e = .returned (.map (some b)) ∧ Vals w' b n (fun p => ∃ i, i < n ∧ p = ⟨(f i).m, g i⟩) val ∧ Below w.heap.size w w' := by
  obtain ⟨W, hW⟩ : ∃ W, w.alloc (.cells (planRow S M a n cap l da n dcap) 56) = W := ⟨_, rfl⟩
  have hB : Below w.heap.size w W := by rw [← hW]; exact Below.alloc1 (Below.refl _ _) _ (Nat.le_refl _)
  have hR : RowIs W w.heap.size (planRow S M a n cap l da n dcap) 56 := by rw [← hW]; exact heap_new_at _ _ _ rfl
  have hz : W.heap.size = w.heap.size + 1 := by rw [← hW]; simp
  have hmm := @run_makeMap Tryz.prog
  have HB := Lib.hid hB
  have HR := Lib.hid hR
  have Hf := Lib.hid hf
  have Hd := Lib.hid hd
  have Hok := Lib.hid hok
  have Hval := Lib.hid hval
  have Hz := Lib.hid hz
  clear hB hR hf hd hok hval hz
  simp only [planRow] at hW
  obtain ⟨V, hV⟩ : ∃ V, W.alloc (.map #[] 0) = V := ⟨_, rfl⟩
  have hVb : Below W.heap.size W V := by rw [← hV]; exact Below.alloc1 (Below.refl _ _) _ (Nat.le_refl _)
  have hVm : Vals V W.heap.size 0 (fun _ => False) val := by rw [← hV]; exact vals_made W val
  have hVR := HR.out.below hVb
  have c2 : V.cell? ⟨w.heap.size, 2, none⟩ = some (.slice a n cap) := hVR.cell 2
  have HVm := Lib.hid hVm
  have HVb := Lib.hid hVb
  clear hVb hVm hVR
  go_enter Tryz.func68, Tryz.ntmps68
  go_wp2_with fail
  obtain ⟨q, hq⟩ : ∃ q, W.heap.size = q := ⟨_, rfl⟩
  rw [hq]
  have Hq := Lib.hid hq
  have hq2 : w.heap.size < q := by have := Hz.out; omega
  clear hq hV c2 hmm
  go_loopw [11] (fun v wr => ∃ i : Nat, i ≤ n ∧ v = .int .i64 i ∧ Vals wr q i (fun p => ∃ j, j < i ∧ p = ⟨(f j).m, g j⟩) val ∧ Below q W wr) (fun v _ => n - (intOf v).toNat)
  case atStart => exact ⟨0, Nat.zero_le _, rfl, by rw [← Hq.out]; exact HVm.out.congr (fun p => ⟨fun h => h.elim, fun ⟨j, hj, _⟩ => absurd hj (Nat.not_lt_zero _)⟩) (fun _ _ => rfl), by rw [← Hq.out]; exact HVb.out⟩
  case round =>
    obtain ⟨i, hi, rfl, hv, hb⟩ := hrel
    have hb1 : Below W.heap.size W wr := by rw [Hq.out]; exact hb
    have hwr := bup HB.out hb1
    have hRr := HR.out.below hb1
    have Hv := Lib.hid hv
    have Hwr := Lib.hid hwr
    have Hb := Lib.hid hb
    by_cases hlt : i < n
    · obtain ⟨p0, p1, p2, p3, p4, p5, p6, p7, p8, p9, p10, p11, p12, p13, p14, p15, pz⟩ := plancells hRr
      have hp := place_c S M a n cap f l da n dcap g i wr (Hf.out.below hwr) (Cells.below Hd.out hwr) hlt hlt
      obtain ⟨x, hx⟩ : ∃ x : P2, (⟨(f i).m, g i⟩ : P2) = x := ⟨_, rfl⟩
      rw [hx] at hp
      have Hp := Lib.hid hp
      have hxok : x.ok := by rw [← hx]; exact Hok.out i hlt
      have hxv : val x = i := by rw [← hx]; exact Hval.out i hlt
      have Hx := Lib.hid hx
      clear hp hv hwr hb hb1 hRr hx
      have hw1 : IntKind.i64.wrap ((i : Int) + 1) = (i : Int) + 1 := IntWalk.i64_in _ (by omega)
      go_wp2_with fail
      refine Hp.out.mono ?_
      rintro e w2 ⟨rfl, hb2⟩
      have hv2 := Hv.out.below hb2
      obtain ⟨D, hown, k1, k2, k3⟩ := hv2
      have hput := vals_put (own_isMap hown) k1 k2 k3 hxok (x := (i : Int)) ⟨by omega, by omega⟩ val hxv (fun _ _ _ => rfl)
      have Hput := Lib.hid hput
      have Hb2 := Lib.hid hb2
      clear k1 k2 k3 hput hb2 p0 p1 p2 p3 p4 p5 p6 p7 p8 p9 p10 p11 p12 p13 p14 p15 pz
      go_wp2_with (first
        | (at_mapUpdate; refine wpList_mapUpdate_own _ rfl _ _ _ 91 rfl 94 3 keyedP Tryz.underlying91 (plainElem Tryz.prog 3) q i D rfl hown (by unfold maxLen; omega) _ _ (keyL x) rfl rfl (keyOf_place hxok) (.lit (.int .i64 i)) [] (plainElem_int Tryz.underlying3 (wf64 ⟨by omega, by omega⟩)) ?_; intro w3 hown3 hg3)
        | fail)
      have hb3 : Below q W w3 := (Hb.out.trans (Hb2.out.mono (by have := Hv.out.lt; omega))).grown hg3 (by have := Hq.out; have := Hb.out.size; have := Hb2.out.size; omega) (fun j e => by cases e; exact Nat.le_refl _)
      obtain ⟨s1, s2, s3⟩ := Hput.out
      have hv3 : Vals w3 q (i + 1) (fun p => (∃ j, j < i ∧ p = ⟨(f j).m, g j⟩) ∨ p = x) val := ⟨_, hown3, s1, s2, s3⟩
      refine ⟨⟨i + 1, by omega, by go_num, hv3.congr (fun p => ?_) (fun _ _ => rfl), hb3⟩, by simp [intOf]; omega⟩
      constructor
      · rintro (⟨j, hj, e⟩ | rfl)
        · exact ⟨j, by omega, e⟩
        · exact ⟨i, by omega, Hx.out.symm⟩
      · rintro ⟨j, hj, e⟩
        by_cases hji : j = i
        · subst hji
          exact .inr (e.trans Hx.out)
        · exact .inl ⟨j, by omega, e⟩
    · obtain rfl : i = n := by omega
      clear hb1 hRr hb
      go_wp2_with fail
      go_ret
      exact ⟨q, by omega, rfl, hv, hwr⟩

end Go.Proofs.YtbjgbgchagfokaaGreat

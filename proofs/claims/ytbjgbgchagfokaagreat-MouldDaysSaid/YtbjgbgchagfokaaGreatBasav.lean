/- Contracts of layer 2: the days when a chain is swapped. -/
import Derived.Shelf.Abstract
import Derived.Shelf.RegionOpen
import Derived.Maps.OwnIn
import Derived.Maps.RangeWalk
import Derived.Laws.IdiomRangeMap
import Derived.Deep.LoopGhost
import Derived.Test.YtbjgbgchagfokaaGreatProg
import Derived.Test.YtbjgbgchagfokaaGreatBasaa
import Derived.Test.YtbjgbgchagfokaaGreatBasar
import Derived.Test.YtbjgbgchagfokaaGreatBasak
import Derived.Test.YtbjgbgchagfokaaGreatBasas
import Derived.Test.YtbjgbgchagfokaaGreatBasao
import Derived.Test.YtbjgbgchagfokaaGreatBasau
namespace Go.Proofs.YtbjgbgchagfokaaGreat
open Go Go.RowKit Go.Shelf Go.Maps

/-- Where the mould of a want is. -/
def plA (f : Nat → W2) (d : Nat → Nat) (i : Nat) : P2 := ⟨(f i).m, (d i : Int)⟩
theorem plA_inj {f : Nat → W2} {n D : Nat} {d : Nat → Nat} (hR : Right f n D d) : ∀ i k, i < n → k < n → plA f d i = plA f d k → i = k := fun i k hi hk e => by
  by_cases h : i = k
  · exact h
  · have e1 : (f i).m = (f k).m := congrArg P2.m e
    have e2 : (d i : Int) = (d k : Int) := congrArg P2.d e
    exact absurd e1 (hR.2 i k hi hk h (by omega)).2
theorem plA_ok {f : Nat → W2} {n D : Nat} {d : Nat → Nat} (hm : ∀ i, i < n → 0 ≤ (f i).m ∧ (f i).m < 6) (hD : D ≤ 14) (hR : Right f n D d) (i : Nat) (hi : i < n) : (plA f d i).ok := by
  have h1 := hm i hi
  have h2 := hR.1 i hi
  exact ⟨⟨by show -9223372036854775808 ≤ (f i).m; omega, by show (f i).m ≤ 9223372036854775807; omega⟩, ⟨by show -9223372036854775808 ≤ (d i : Int); omega, by show (d i : Int) ≤ 9223372036854775807; omega⟩⟩
theorem grown_of_below {w w' : World} (h : Below w.heap.size w w') : w.grownBy w' none := ⟨h.os, h.tape, h.output, h.size, fun k hk _ => h.block k hk⟩

/-- What the map holds behind so many that were struck. -/
def gone (f : Nat → W2) (n : Nat) (d : Nat → Nat) (c : List Nat) (p : P2) : Prop := ∃ i, i < n ∧ i ∉ c ∧ p = plA f d i
theorem gone_more {f : Nat → W2} {n D : Nat} {d : Nat → Nat} (hR : Right f n D d) {c : List Nat} {x : Nat} (hx : x < n) (p : P2) : (gone f n d c p ∧ p ≠ plA f d x) ↔ gone f n d (c ++ [x]) p := by
  constructor
  · rintro ⟨⟨i, hi, hc, rfl⟩, hne⟩
    refine ⟨i, hi, ?_, rfl⟩
    rw [List.mem_append, List.mem_singleton]
    rintro (h | rfl)
    · exact hc h
    · exact hne rfl
  · rintro ⟨i, hi, hc, rfl⟩
    rw [List.mem_append, List.mem_singleton, not_or] at hc
    exact ⟨⟨i, hi, hc.1, rfl⟩, fun e => hc.2 (plA_inj hR i x hi hx e)⟩
/-- What it holds behind so many that were put in anew. -/
def come (f : Nat → W2) (n : Nat) (d e : Nat → Nat) (c k : List Nat) (p : P2) : Prop := gone f n d c p ∨ ∃ i, i ∈ k ∧ p = plA f e i
theorem come_more {f : Nat → W2} {n : Nat} {d e : Nat → Nat} {c k : List Nat} {x : Nat} (p : P2) : (come f n d e c k p ∨ p = plA f e x) ↔ come f n d e c (k ++ [x]) p := by
  unfold come
  constructor
  · rintro ((h | ⟨i, hi, h⟩) | h)
    · exact .inl h
    · exact .inr ⟨i, List.mem_append_left _ hi, h⟩
    · exact .inr ⟨x, by simp, h⟩
  · rintro (h | ⟨i, hi, h⟩)
    · exact .inl (.inl h)
    · rw [List.mem_append, List.mem_singleton] at hi
      rcases hi with hi | rfl
      · exact .inl (.inr ⟨i, hi, h⟩)
      · exact .inr h

theorem rowA_same {n : Nat} {g h : Nat → Int} (e : ∀ i, i < n → g i = h i) : rowA n g = rowA n h := by
  unfold rowA
  congr 1
  exact List.map_congr_left fun i hi => by rw [e i (List.mem_range.1 hi)]

set_option maxRecDepth 100000 in
set_option maxHeartbeats 16000000 in
theorem swap_c (S M : Int) (a : Option Addr) (n cap : Nat) (f : Nat → W2) (l : Nat → Int) (da : Option Addr) (dcap : Nat) (d : Nat → Nat) (want day : Nat) (w : World) (hf : Wants w a n f) (hn : n ≤ 14) (hm : ∀ i, i < n → 0 ≤ (f i).m ∧ (f i).m < 6) (hd : Ints w da n fun i => (d i : Int)) (hR : Right f n 14 d) (hw : want < n) (hday : day < 14) (hne : d want ≠ day) :
    Calls Tryz.prog 39 #[planV S M a n cap l da n dcap, .int .i64 want, .int .i64 day] w fun e w' => ∃ b, e = .returned (.slice (some ⟨b, 0, none⟩) n n) ∧ RowIs w' b (rowA n fun i => (swapN f n d (d want) day want i : Int)) 3 ∧ w.heap.size ≤ b ∧ Below w.heap.size w w' := by
  obtain ⟨W, hW⟩ : ∃ W, w.alloc (.cells (planRow S M a n cap l da n dcap) 56) = W := ⟨_, rfl⟩
  have hB : Below w.heap.size w W := by rw [← hW]; exact Below.alloc1 (Below.refl _ _) _ (Nat.le_refl _)
  have hP : RowIs W w.heap.size (planRow S M a n cap l da n dcap) 56 := by rw [← hW]; exact heap_new_at _ _ _ rfl
  have hPw : Two d (d want) day want := .inl rfl
  have hR2 : Right f n 14 (swapN f n d (d want) day want) := swapN_right hR (hR.1 want hw) hday hne hw hPw
  have hin : ∀ i, i ∈ chainL f n d (d want) day want → i < n ∧ Two d (d want) day i := fun i hi => ((chainL_mem hw hPw i).1 hi).in hw hPw
  have hSin : ∀ i, i ∈ chainL f n d (d want) day want → swapN f n d (d want) day want i = if d i = d want then day else d want := fun i hi => swapN_in hi
  have hSout : ∀ i, ¬ i ∈ chainL f n d (d want) day want → swapN f n d (d want) day want i = d i := fun i hi => swapN_out hi
  obtain ⟨e, he⟩ : ∃ e, swapN f n d (d want) day want = e := ⟨_, rfl⟩
  rw [he] at hR2 hSin hSout
  rw [show (rowA n fun i => (swapN f n d (d want) day want i : Int)) = rowA n fun i => (e i : Int) by rw [he]]
  have hcc := fun V (hV : Below w.heap.size w V) => chain_c S M a n cap f l da dcap d want day V (hf.below hV) hn (Cells.below hd hV) hw
  obtain ⟨cl, hcl⟩ : ∃ cl, chainL f n d (d want) day want = cl := ⟨_, rfl⟩
  rw [hcl] at hin hSin hSout
  have hclup : cl.Pairwise (· < ·) := by rw [← hcl]; exact chainL_up
  obtain ⟨val1, hv1⟩ := told n (plA f d) (plA_inj hR)
  obtain ⟨val2, hv2⟩ := told n (plA f e) (plA_inj hR2)
  have ok1 := plA_ok hm (Nat.le_refl 14) hR
  have ok2 := plA_ok hm (Nat.le_refl 14) hR2
  have Hf := Lib.hid hf
  have Hd := Lib.hid hd
  have HB := Lib.hid hB
  have HP := Lib.hid hP
  have HR := Lib.hid hR
  have HR2 := Lib.hid hR2
  have Hin := Lib.hid hin
  have HSin := Lib.hid hSin
  have HSout := Lib.hid hSout
  have Hv1 := Lib.hid hv1
  have Hv2 := Lib.hid hv2
  have Ok1 := Lib.hid ok1
  have Ok2 := Lib.hid ok2
  have HC := Lib.hid (hcc W hB)
  rw [hcl] at HC
  clear hf hd hB hR hR2 hin hSin hSout hv1 hv2 ok1 ok2 hcc he hcl
  obtain ⟨p0, p1, p2, p3, p4, p5, p6, p7, p8, p9, p10, p11, p12, p13, p14, p15, pz⟩ := plancells hP
  clear hP
  simp only [planRow] at hW
  go_enter Tryz.func39, Tryz.ntmps39
  go_wp2_with fail
  refine HC.out.mono ?_
  rintro ee w1 ⟨v, rfl, ho, hb1⟩
  clear HC hW p0 p1 p2 p3 p4 p5 p6 p7 p8 p9 p10 p11 p12 p13 p14 p15 pz
  obtain ⟨p0, p1, p2, p3, p4, p5, p6, p7, p8, p9, p10, p11, p12, p13, p14, p15, pz⟩ := plancells (HP.out.below hb1)
  have hB1 := bup HB.out hb1
  have hL := lent_c S M a n cap f l da dcap (fun i => (d i : Int)) val1 w1 (Hf.out.below hB1) hn (Cells.below Hd.out hB1) Ok1.out Hv1.out
  have HL := Lib.hid hL
  have HO := Lib.hid ho
  have HB1 := Lib.hid hB1
  have HP1 := Lib.hid (HP.out.below hb1)
  clear hL ho hB1 hb1 HB HP
  go_wp2_with fail
  refine HL.out.mono ?_
  rintro ee w2 ⟨q, hq, rfl, hV, hb2⟩
  clear HL p0 p1 p2 p3 p4 p5 p6 p7 p8 p9 p10 p11 p12 p13 p14 p15 pz
  obtain ⟨pc, qc, rfl, hlst, hpB⟩ := (HO.out.below hb2).lst
  have HB2 := Lib.hid (bup HB1.out hb2)
  have HP2 := Lib.hid (HP1.out.below hb2)
  have HL2 := Lib.hid hlst
  have hqz := hV.lt
  have HV := Lib.hid (hV.congr (S' := gone f n d []) (fun p => ⟨fun ⟨i, hi, h⟩ => ⟨i, hi, by simp, h⟩, fun ⟨i, hi, _, h⟩ => ⟨i, hi, h⟩⟩) (val' := val1) fun _ _ => rfl)
  have hlq : ∀ b off, pc = some ⟨b, off, none⟩ → 0 < cl.length → b < q := fun b off e0 h0 => by
    rcases HO.out.2 with ⟨e1, e2⟩ | ⟨g, cc, cur, e1, hB', hg, _⟩
    · omega
    · injection e1 with e1
      rw [e0] at e1
      injection e1 with e1
      injection e1 with e1
      have := (Array.getElem?_eq_some_iff.1 hg).1
      omega
  have Hlq := Lib.hid hlq
  have hwq : w.heap.size < q := by have := HP1.out.lt; omega
  clear hlst hpB hV hb2 HO HP1 HB1 hlq
  have hcl14 : cl.length ≤ n := by
    have := nodup_len cl n (hclup.imp fun h => Nat.ne_of_lt h) fun i hi => (Hin.out i hi).1
    rw [this]
    exact cnt_atmost _ _
  go_wp2_with fail
  go_loopw [24] (fun v wr => ∃ j : Nat, j ≤ cl.length ∧ v = .int .i64 j ∧ Vals wr q n (gone f n d (cl.take j)) val1 ∧ Below q w2 wr) (fun v _ => cl.length - (intOf v).toNat)
  case atStart => exact ⟨0, Nat.zero_le _, rfl, by simpa using HV.out, Below.refl _ _⟩
  case round =>
    obtain ⟨j, hj, rfl, hv, hb⟩ := hrel
    have hbz := hb.size
    have hB3 : Below w.heap.size w wr := HB2.out.trans (hb.mono (by omega))
    have hPr : RowIs wr w.heap.size (planRow S M a n cap l da n dcap) 56 := (hb.block _ hwq).trans HP2.out
    have Hv := Lib.hid hv
    have Hb := Lib.hid hb
    have HB3 := Lib.hid hB3
    by_cases hlt : j < cl.length
    · obtain ⟨x, hx⟩ : ∃ x, cl[j] = x := ⟨_, rfl⟩
      have hxn : x < n := (Hin.out x (by rw [← hx]; exact List.getElem_mem hlt)).1
      have htk : cl.take (j + 1) = cl.take j ++ [x] := by rw [List.take_succ_eq_append_getElem hlt, hx]
      obtain ⟨lb, lo, rfl, hls, hlc⟩ := Cells.at HL2.out.cells j hlt
      have hlbq := Hlq.out lb lo rfl (by omega)
      have cx : wr.cell? ⟨lb, lo + j, none⟩ = some (.int .i64 (x : Int)) := (World.cell?_of_block (a := ⟨lb, _, none⟩) (hb.block lb hlbq)).trans (by rw [hlc j hlt]; simp [List.getD, hlt, hx])
      have zl : lb < wr.heap.size := by omega
      obtain ⟨p0, p1, p2, p3, p4, p5, p6, p7, p8, p9, p10, p11, p12, p13, p14, p15, pz⟩ := plancells hPr
      have hp := place_c S M a n cap f l da n dcap (fun i => (d i : Int)) x wr (Hf.out.below hB3) (Cells.below Hd.out hB3) hxn hxn
      have Hp := Lib.hid hp
      have HT := Lib.hid htk
      have hw1 : IntKind.i64.wrap ((j : Int) + 1) = (j : Int) + 1 := IntWalk.i64_in _ (by omega)
      clear hv hb hB3 hPr hlc hp htk hx
      go_wp2_with fail
      refine Hp.out.mono ?_
      rintro ee w3 ⟨rfl, hb3⟩
      clear p0 p1 p2 p3 p4 p5 p6 p7 p8 p9 p10 p11 p12 p13 p14 p15 cx
      have hv3 := Hv.out.below hb3
      obtain ⟨D, hown, k1, k2, k3⟩ := hv3
      have hdel := vals_del k1 k2 k3 (Ok1.out x hxn)
      have Hdel := Lib.hid hdel
      have Hb3 := Lib.hid hb3
      have hkey : keyOf Tryz.prog 94 (placeV ⟨(f x).m, (d x : Int)⟩) = some (keyL (plA f d x)) := keyOf_place (Ok1.out x hxn)
      clear k1 k2 k3 hdel hb3
      go_wp2_with (first
        | (at_delete; refine wpList_delete_own _ rfl _ _ 91 94 rfl 3 keyedP Tryz.underlying91 (plainElem Tryz.prog 3) q n D rfl hown _ _ rfl hkey ?_; intro w4 hown4 hturn; go_frame)
        | fail)
      have hb4 : Below q w2 w4 := (Hb.out.trans (Hb3.out.mono (by have := Hv.out.lt; omega))).grown hturn.grown (by have := Hb3.out.size; omega) (fun j e => by cases e; exact Nat.le_refl _)
      obtain ⟨s1, s2, s3⟩ := Hdel.out
      have hv4 : Vals w4 q n (fun p => gone f n d (cl.take j) p ∧ p ≠ plA f d x) val1 := ⟨_, hown4, s1, s2, s3⟩
      go_roundw
      case rel => exact ⟨j + 1, by omega, by go_num, by rw [HT.out]; exact hv4.congr (gone_more HR.out hxn) (fun _ _ => rfl), hb4⟩
      case measure => simp [intOf]; omega
    · obtain rfl : j = cl.length := by omega
      go_wp2_with fail
      have HV2 := Lib.hid (hv.congr (S' := come f n d e cl []) (val' := val2) (fun p => by rw [List.take_length]; exact ⟨fun h => .inl h, fun h => h.elim id fun ⟨i, hi, _⟩ => absurd hi List.not_mem_nil⟩) (fun p ⟨i, hi, hc, hp⟩ => by
        rw [hp, Hv1.out i hi]
        rw [List.take_length] at hc
        have : plA f d i = plA f e i := by unfold plA; rw [HSout.out i hc]
        rw [this, Hv2.out i hi]))
      clear hv hb hbz hB3 hPr HB3 HV
      go_loopw [35] (fun v w5 => ∃ j : Nat, j ≤ cl.length ∧ v = .int .i64 j ∧ Vals w5 q (n + j) (come f n d e cl (cl.take j)) val2 ∧ Below q w2 w5) (fun v _ => cl.length - (intOf v).toNat)
      case atStart => exact ⟨0, Nat.zero_le _, rfl, by simpa using HV2.out, Hb.out⟩
      case round =>
        obtain ⟨j, hj2, rfl, hv, hb⟩ := hrel
        have hbz := hb.size
        have hB3 : Below w.heap.size w wr := HB2.out.trans (hb.mono (by omega))
        have hPr : RowIs wr w.heap.size (planRow S M a n cap l da n dcap) 56 := (hb.block _ hwq).trans HP2.out
        have Hv := Lib.hid hv
        have Hb := Lib.hid hb
        have HB3 := Lib.hid hB3
        by_cases hlt : j < cl.length
        · obtain ⟨x, hx⟩ : ∃ x, cl[j] = x := ⟨_, rfl⟩
          have hxc : x ∈ cl := by rw [← hx]; exact List.getElem_mem hlt
          obtain ⟨hxn, hx2⟩ := Hin.out x hxc
          have htk : cl.take (j + 1) = cl.take j ++ [x] := by rw [List.take_succ_eq_append_getElem hlt, hx]
          have hex : ((d want : Int) + (day : Int)) - (d x : Int) = (e x : Int) := by
            rw [HSin.out x hxc]
            rcases hx2 with h | h
            · rw [if_pos h, h]; omega
            · rw [if_neg (by omega), h]; omega
          have hdw := HR.out.1 want hw
          have hdx := HR.out.1 x hxn
          have hex14 := HR2.out.1 x hxn
          obtain ⟨lb, lo, rfl, hls, hlc⟩ := Cells.at HL2.out.cells j hlt
          have hlbq := Hlq.out lb lo rfl (by omega)
          have cx : wr.cell? ⟨lb, lo + j, none⟩ = some (.int .i64 (x : Int)) := (World.cell?_of_block (a := ⟨lb, _, none⟩) (hb.block lb hlbq)).trans (by rw [hlc j hlt]; simp [List.getD, hlt, hx])
          have zl : lb < wr.heap.size := by omega
          obtain ⟨wb, wo, rfl, hwb, w0, wm⟩ := Wants.at (Hf.out.below hB3) x hxn
          obtain ⟨db, doff, rfl, hdb, hdc⟩ := Cells.at (Cells.below Hd.out hB3) x hxn
          have cdx : wr.cell? ⟨db, doff + x, none⟩ = some (.int .i64 (d x : Int)) := hdc x hxn
          have cdw : wr.cell? ⟨db, doff + want, none⟩ = some (.int .i64 (d want : Int)) := hdc want hw
          have c2 : wr.cell? ⟨w.heap.size, 2, none⟩ = some (.slice (some ⟨wb, wo, none⟩) n cap) := hPr.cell 2
          have c15 : wr.cell? ⟨w.heap.size, 15, none⟩ = some (.slice (some ⟨db, doff, none⟩) n dcap) := hPr.cell 15
          have zp := hPr.lt
          have hw1 : IntKind.i64.wrap ((j : Int) + 1) = (j : Int) + 1 := IntWalk.i64_in _ (by omega)
          have hw2 : IntKind.i64.wrap ((d want : Int) + (day : Int)) = (d want : Int) + (day : Int) := IntWalk.i64_in _ (by omega)
          have hw3 : IntKind.i64.wrap ((d want : Int) + (day : Int) - (d x : Int)) = (e x : Int) := by rw [hex]; exact IntWalk.i64_in _ (by omega)
          have hkey : keyOf Tryz.prog 94 (placeV ⟨(f x).m, (e x : Int)⟩) = some (keyL (plA f e x)) := keyOf_place (Ok2.out x hxn)
          have HT := Lib.hid htk
          have hlc := fun (x : Later wr) => later_cell x
          clear hv hb hB3 hPr hdc htk hx w0 hex hx2
          go_wp2_with fail
          refine wp_region_later_tail 24 (by kernel_rfl) (by kernel_rfl) ?_
          simp only [List.take_succ_cons, List.take_zero, List.drop_succ_cons, List.drop_zero]
          repeat (go_big_quiet_step (fail))
          refine wpQuiet_nil ?_
          clear hlc cx cdx cdw c2 c15 wm
          rintro ⟨A7, hb7⟩
          have hv7 := Hv.out.below hb7
          obtain ⟨D, hown, k1, k2, k3⟩ := hv7
          have hput := vals_put (own_isMap hown) k1 k2 k3 (Ok2.out x hxn) (x := (x : Int)) ⟨by omega, by omega⟩ val2 (Hv2.out x hxn) (fun _ _ _ => rfl)
          have Hput := Lib.hid hput
          have Hb7 := Lib.hid hb7
          dsimp only
          clear k1 k2 k3 hput hb7
          go_wp2_with (first
            | (at_mapUpdate; refine wpList_mapUpdate_own _ rfl _ _ _ 91 rfl 94 3 keyedP Tryz.underlying91 (plainElem Tryz.prog 3) q (n + j) D rfl hown (by unfold maxLen; omega) _ _ (keyL (plA f e x)) rfl rfl hkey (.lit (.int .i64 x)) [] (plainElem_int Tryz.underlying3 (wf64 ⟨by omega, by omega⟩)) ?_; intro w4 hown4 hg4)
            | fail)
          have hb4 : Below q w2 w4 := (Hb.out.trans (Hb7.out.mono (by have := Hv.out.lt; omega))).grown hg4 (by have := Hb7.out.size; omega) (fun j e => by cases e; exact Nat.le_refl _)
          obtain ⟨s1, s2, s3⟩ := Hput.out
          have hv4 : Vals w4 q (n + (j + 1)) (fun p => come f n d e cl (cl.take j) p ∨ p = plA f e x) val2 := ⟨_, hown4, s1, s2, s3⟩
          refine ⟨⟨j + 1, by omega, by go_num, by rw [HT.out]; exact hv4.congr come_more (fun _ _ => rfl), hb4⟩, by simp [intOf]; omega⟩
        · obtain rfl : j = cl.length := by omega
          have hv3 : Vals wr q (n + cl.length) (fun p => ∃ i, i < n ∧ p = plA f e i) val2 := hv.congr (fun p => by
            rw [List.take_length]
            constructor
            · rintro (⟨i, hi, hc, rfl⟩ | ⟨i, hi, rfl⟩)
              · exact ⟨i, hi, by unfold plA; rw [HSout.out i hc]⟩
              · exact ⟨i, (Hin.out i hi).1, rfl⟩
            · rintro ⟨i, hi, rfl⟩
              by_cases hc : i ∈ cl
              · exact .inr ⟨i, hc, rfl⟩
              · exact .inl ⟨i, hi, hc, by unfold plA; rw [HSout.out i hc]⟩) (fun _ _ => rfl)
          have c15 : wr.cell? ⟨w.heap.size, 15, none⟩ = some (.slice da n dcap) := hPr.cell 15
          have zp := hPr.lt
          have mk := make_rown n hn wr
          obtain ⟨V, hVw⟩ : ∃ V, wr.alloc (.cells (rowA n fun _ => 0) 3) = V := ⟨_, rfl⟩
          have hVb : Below wr.heap.size wr V := by rw [← hVw]; exact Below.alloc1 (Below.refl _ _) _ (Nat.le_refl _)
          have hVd : RowIs V wr.heap.size (rowA n fun i => ((fun _ => 0 : Nat → Nat) i : Int)) 3 := by rw [← hVw]; exact heap_new_at _ _ _ rfl
          have hVz : V.heap.size = wr.heap.size + 1 := by rw [← hVw]; simp
          obtain ⟨D, hown, k1, k2, k3⟩ := hv3.below hVb
          have HVd := Lib.hid hVd
          have HVB := Lib.hid (HB3.out.trans (hVb.mono HB3.out.size))
          have HVz := Lib.hid hVz
          have K1 := Lib.hid k1
          have K2 := Lib.hid k2
          have K3 := Lib.hid k3
          have hqw := hv3.lt
          clear hv hb hB3 hPr hv3 hVb hVd hVz k1 k2 k3 Hv HV2
          go_wp2_with (first
            | (at_range; refine wpList_range_own _ rfl _ 91 rfl 94 3 keyedP Tryz.underlying91 (plainElem Tryz.prog 3) q _ D rfl hown ?_; intro w6 hrg6 hg6 hs6)
            | fail)
          obtain ⟨b, hb⟩ : ∃ b, wr.heap.size = b := ⟨_, rfl⟩
          rw [hb] at HVd ⊢
          have hS : ∀ p, p.ok → Maps.has D (keyL p) = true → ∃ i, i < n ∧ p = plA f e i := fun p hp h => (K2.out p hp).1 h
          have hrow6 : RowIs w6 b (rowA n fun i => ((fun _ => 0 : Nat → Nat) i : Int)) 3 := (hg6.block b (by have := HVz.out; omega) (by simp)).trans HVd.out
          have hb6 : Below w.heap.size w w6 := HVB.out.trans ⟨hg6.os, hg6.tape, hg6.output, hg6.size, fun k hk => hg6.block k (by have := HVB.out.size; omega) (by simp)⟩
          have HS := Lib.hid hS
          have Hrow6 := Lib.hid hrow6
          have HB6 := Lib.hid hb6
          have Hb := Lib.hid hb
          have hVr : V.heap.size = b + 1 := by rw [HVz.out, hb]
          have HVr := Lib.hid hVr
          clear hS hrow6 hb6 hVw hVr mk hb
          go_loopw [70] (fun _ wr => ∃ (left : Lit → Bool) (cnt : Nat) (g : Nat → Nat), wr.ranges Tryz.prog 94 (plainElem Tryz.prog 3) q V.heap.size (n + cl.length) D left cnt ∧ (∀ p, p.ok → left (keyL p) = true → ∃ i, i < n ∧ p = plA f e i) ∧ (∀ i, i < n → left (keyL (plA f e i)) = false → g i = e i) ∧ RowIs wr b (rowA n fun i => (g i : Int)) 3 ∧ Below w.heap.size w wr)
            (fun _ wr => wr.rangeLeft q V.heap.size)
          case atStart => exact ⟨_, _, fun _ => 0, hrg6, HS.out, (fun i hi h => by
            have := (K2.out _ (Ok2.out i hi)).2 ⟨i, hi, rfl⟩
            rw [this] at h
            cases h), Hrow6.out, HB6.out⟩
          case round =>
            obtain ⟨left, cnt, g, hrg, hl1, hl2, hrow, hbw⟩ := hrel
            have Hl1 := Lib.hid hl1
            have Hl2 := Lib.hid hl2
            have Hrow := Lib.hid hrow
            have Hbw := Lib.hid hbw
            clear hl1 hl2 hrow hbw
            go_wp2_with (first
              | (at_next; refine wpList_next_ranges _ rfl _ rfl 94 keyedP (plainElem Tryz.prog 3) placeV (Value.int .i64) (fun key kl hk => by obtain ⟨p, hp, _⟩ := keyOf_inv hk; exact ⟨p, hp⟩) (fun v y hy => by obtain ⟨c, hc, _⟩ := plainElem_int_inv Tryz.underlying3 hy; exact ⟨c, hc⟩) q V.heap.size (n + cl.length) _ _ _ rfl hrg ?_ ?_)
              | fail)
            · intro _ hl0
              have hg : (rowA n fun i => (g i : Int)) = rowA n fun i => (e i : Int) := rowA_same fun i hi => by rw [Hl2.out i hi (hl0 _)]
              have hfin := Hrow.out
              rw [hg] at hfin
              have Hfin := Lib.hid hfin
              clear hg hfin hl0
              go_wp2_with fail
              go_ret
              exact ⟨b, rfl, Hfin.out, by have := HB3.out.size; have := Hb.out; omega, Hbw.out⟩
            · intro x c kl yd yp w8 cnt8 hkey hlx hv hat hrg8 hlt8 hg8 hs8 hen
              obtain ⟨p, hp, hok, rfl⟩ := keyOf_inv hkey
              obtain rfl := P2.ext' hp
              obtain ⟨i, hi, hxe⟩ := Hl1.out x hok hlx
              have hxd : x.d = (e i : Int) := by rw [hxe]; rfl
              have hcv : c = (i : Int) := by
                have h1 := (K3.out x ⟨i, hi, hxe⟩).2
                rw [hat] at h1
                obtain ⟨c', hc', hy', _⟩ := plainElem_int_inv Tryz.underlying3 hv
                have h2 : val2 x = (i : Int) := by rw [hxe]; exact Hv2.out i hi
                rw [h2] at h1
                injection hc' with _ hc'
                have hyd : yd = .lit (.int .i64 c') := congrArg Prod.fst hy'
                rw [hyd] at h1
                injection h1 with h1
                injection h1 with _ h1
                omega
              subst hcv
              obtain ⟨W2, hW2⟩ : ∃ W2, w8.alloc (.cells #[.int .i64 x.m, .int .i64 x.d] 94) = W2 := ⟨_, rfl⟩
              have hrg9 : W2.ranges Tryz.prog 94 (plainElem Tryz.prog 3) q V.heap.size (n + cl.length) D (fun z => left z && !z.sameKey (keyL x)) cnt8 := by rw [← hW2]; exact hrg8.alloc _
              have hprow : RowIs W2 w8.heap.size #[.int .i64 x.m, .int .i64 x.d] 94 := by rw [← hW2]; exact heap_new_at _ _ _ rfl
              have hdrow : RowIs W2 b (rowA n fun i => (g i : Int)) 3 := by rw [← hW2]; exact RowIs.alloc ((hg8.block b Hrow.out.lt (by have := HVr.out; simp; omega)).trans Hrow.out) _
              have hbW2 : Below w.heap.size w W2 := by
                rw [← hW2]
                exact Below.alloc1 (Hbw.out.trans ⟨hg8.os, hg8.tape, hg8.output, hg8.size, fun k hk => hg8.block k (by have := Hbw.out.size; omega) (by have := HVr.out; have := HB3.out.size; have := Hb.out; simp; omega)⟩) _ (Nat.le_refl _)
              have d1 : W2.cell? ⟨w8.heap.size, 1, none⟩ = some (.int .i64 x.d) := hprow.cell 1
              have ci : W2.cell? ⟨b, i, none⟩ = some (.int .i64 (g i : Int)) := by rw [hdrow.cell i, rowA_get _ _ _ hi]
              have cf := hdrow.frozen i
              have zi := hdrow.lt
              have Hdrow := Lib.hid hdrow
              have HbW2 := Lib.hid hbW2
              have Hrg9 := Lib.hid hrg9
              have Hlt := Lib.hid (show cnt8 < wr.rangeLeft q V.heap.size by rw [hrg.left_eq]; exact hlt8)
              have Hok := Lib.hid hok
              have zw8 : w8.heap.size < W2.heap.size := hprow.lt
              have Hxe := Lib.hid hxe
              have Hxd := Lib.hid hxd
              clear hp hkey hlx hv hat hrg8 hg8 hrg hdrow hbW2 hrg9 hlt8 hprow hrg6 hg6 hown hs6 hs8 hok hxe hxd
              go_wp2_with fail
              obtain ⟨W3, hW3⟩ : ∃ W3, W2.setCell ⟨b, i, none⟩ (.int .i64 x.d) = W3 := ⟨_, rfl⟩
              have hrow3 : RowIs W3 b (rowA n fun k => (updD g i (e i) k : Int)) 3 := by
                rw [← hW3, Hxd.out, ← rowA_upd]
                exact RowIs.set Hdrow.out i _
              have hqb : q < b := by have := Hb.out; omega
              have hgr3 : W2.grownBy W3 (some b) := by rw [← hW3]; exact grown_set W2 ⟨b, i, none⟩ (.int .i64 x.d)
              have hrg3 := Hrg9.out.kept hgr3 (by simp; omega) (by have := HVr.out; simp; omega)
              have hbW3 : Below w.heap.size w W3 := by rw [← hW3]; exact HbW2.out.setCell (p := ⟨b, i, none⟩) (by show w.heap.size ≤ b; omega) _
              rw [hW3]
              go_roundw
              case rel =>
                refine ⟨_, cnt8, updD g i (e i), hrg3, fun p' hp' hl => Hl1.out p' hp' ((left_cut hp' Hok.out).1 hl).1, fun k hk hl => ?_, hrow3, hbW3⟩
                by_cases hki : k = i
                · rw [hki]; simp [updD]
                · have hne2 : plA f e k ≠ x := fun h => hki (plA_inj HR2.out k i hk hi (h.trans Hxe.out))
                  have : left (keyL (plA f e k)) = false := by
                    cases hlk : left (keyL (plA f e k)) with
                    | false => rfl
                    | true =>
                      have := (left_cut (Ok2.out k hk) Hok.out).2 ⟨hlk, hne2⟩
                      rw [this] at hl
                      cases hl
                  simp only [updD, if_neg hki]
                  exact Hl2.out k hk this
              case measure => rw [hrg3.left_eq]; exact Hlt.out

end Go.Proofs.YtbjgbgchagfokaaGreat

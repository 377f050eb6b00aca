/- Plain mathematics: the plans that the program's choices tell are those of the document's; the value is the best one's. -/
import Derived.Test.YtkbbhihndigmeaaBasan
import Derived.WalkKit
import Derived.LoopN
import Derived.Test.YtkbbhihndigmeaaProg
import Derived.Test.YtkbbhihndigmeaaBasaa
import Derived.Test.YtkbbhihndigmeaaBasad
import Derived.Shelf.Abstract
import Derived.Shelf.RegionOpen
import Derived.Deep.CutRange
import Derived.Deep.Quiet
import Derived.Scope
import Derived.Test.YtkbbhihndigmeaaBasag
import Derived.Test.YtkbbhihndigmeaaBasac
import Derived.Test.YtkbbhihndigmeaaBasam
namespace Go.Proofs.Ytkbbhihndigmeaa
open Go Go.RowKit Go.Shelf
theorem subs_mem : ∀ {l s:List Nat},s ∈ subs l→s.Sublist l
 | [],s,h=>by simp [subs] at h; subst h; exact .slnil
 | a :: l,s,h=>by
   rcases List.mem_append.1 h with h | h
   ·exact (subs_mem h).cons a
   ·obtain ⟨t,ht,rfl⟩:=List.mem_map.1 h
    exact (subs_mem ht).cons_cons a
theorem lists_all:((List.range 5).all fun m=>((listsL allT m).all fun R=>(subs (List.range m)).contains R) && (subs (List.range m)).all fun R=>(listsL allT m).contains R)=true:=by decide +kernel
theorem lists_iff {m:Nat} (hm:m≤4) {R:List Nat} : R ∈ listsL allT m↔R.Sublist (List.range m):=by
 have h:=List.all_eq_true.1 lists_all m (List.mem_range.2 (by omega))
 simp only [Bool.and_eq_true,List.all_eq_true,List.contains_iff_mem] at h
 exact ⟨fun hR=>subs_mem (h.1 R hR),fun hR=>h.2 R (mem_subs hR)⟩
theorem cho_iff {m n:Nat} (hm:m≤4) (hn:n≤4) {c:List Nat × List Nat} : c ∈ choL m n↔c.1.Sublist (List.range m)∧c.2.Sublist (List.range n)∧c.2.length=c.1.length:=by
 rw [cho_mem,lists_iff hm,lists_iff hn]
theorem map_range (x:List Nat) (g:Nat→Int):x.map g=(List.range x.length).map fun b=>g (x.getD b 0):=by
 apply List.ext_getElem (by simp)
 intro i h1 h2
 simp only [List.length_map] at h1
 simp [List.getD_eq_getElem?_getD,List.getElem?_eq_getElem h1]
theorem part_same (f:Nat→Row3) (R G:List Nat) (h:G.length=R.length) (i:Nat):partI f R G i=partsOf (lossA f) R G i:=by
 unfold partI partsOf partP
 rw [detP_R _ _ (by rw [List.length_set,rowsL_len]; exact h),List.length_set,rowsL_len,List.map_set,rowsL_map,List.map_map]
 congr 2
 ·unfold tabM
  refine List.map_congr_left fun a _ => ?_
  show G.map (chosenF f R a).g=_
  rw [map_range,h]
  rfl
 ·rw [← h]
  exact List.map_const' ..
theorem putR_inj {R:List Nat} (hR:R.Nodup) {y z:Nat→Int} (e : ∀ a,a<R.length→y a=z a) (i:Nat) : ∀ k,k≤R.length→putR R y k i=inj R z k i
 | 0,_=>rfl
 | k+1,hk=>by
   rw [putR,inj]
   by_cases h:R.getD k 0=i
   ·rw [if_pos h.symm,if_pos h,inj_out (fun s hs he=>by have:=getD_inj hR (by omega) (by omega) (he.trans h.symm); omega),e k (by omega)]
    omega
   ·rw [if_neg (fun h2=>h h2.symm),if_neg h,putR_inj hR e i k (by omega)]
    omega
theorem rawP_inj {f:Nat→Row3} {R G:List Nat} (hR:R.Nodup) (h:G.length=R.length) (i:Nat):rawP f R G i=inj R (partsOf (lossA f) R G) R.length i:=
 putR_inj hR (fun a _=>part_same f R G h a) i _ (Nat.le_refl _)
theorem gcdF_dvd (f:Nat→Int) : ∀ n i,i<n→((gcdF f n:Nat):Int) ∣ f i
 | n+1,i,hi=>by
   rw [gcdF]
   by_cases h:i=n
   ·subst h; exact Int.gcd_dvd_right ..
   ·exact Int.dvd_trans (Int.gcd_dvd_left ..) (gcdF_dvd f n i (by omega))
theorem divF_dvd (f:Nat→Int) (n i:Nat) (hi:i<n):divF f n ∣ f i:=by
 have h:=gcdF_dvd f n i hi
 unfold divF
 by_cases h0:gcdF f n=0
 ·rw [h0] at h ⊢
  rw [Int.zero_dvd.1 h]
  exact ⟨0,by simp⟩
 ·rw [show max ((gcdF f n:Nat):Int) 1=((gcdF f n:Nat):Int) by omega]
  exact h
theorem quo_raw (p:Nat→Int) : ∃ e:Int,(e=1∨e = -1)∧(leastP p<0→e = -1)∧(0≤leastP p→e=1) ∧ ∀ i,i<4→e*p i=divF p 4*quoP p i:=by
 have hd:=div_pos p
 by_cases h:leastP p<0
 ·refine ⟨-1, .inr rfl,fun _=>rfl,fun h2=>by omega,fun i hi => ?_⟩
  obtain ⟨c,hc⟩:=divF_dvd p 4 i hi
  unfold quoP byP
  rw [if_pos h]
  obtain ⟨d,hd'⟩ : ∃ d,divF p 4=d:=⟨_,rfl⟩
  rw [hd'] at hc hd ⊢
  rw [hc,Int.tdiv_neg,Int.mul_tdiv_cancel_left _ (by omega)]
  grind
 ·refine ⟨1, .inl rfl,fun h2=>absurd h2 h,fun _=>rfl,fun i hi => ?_⟩
  obtain ⟨c,hc⟩:=divF_dvd p 4 i hi
  unfold quoP byP
  rw [if_neg h]
  obtain ⟨d,hd'⟩ : ∃ d,divF p 4=d:=⟨_,rfl⟩
  rw [hd'] at hc hd ⊢
  rw [hc,Int.mul_tdiv_cancel_left _ (by omega)]
  grind
theorem inj_mul (R:List Nat) (e:Int) (y:Nat→Int) : ∀ k i,inj R (fun a=>e*y a) k i=e*inj R y k i
 | 0,_=>by simp [inj]
 | k+1,i=>by
   rw [inj,inj,inj_mul R e y k i]
   split <;> grind
theorem zeroB4_iff {p:Nat→Int} : zeroB4 p=true ↔ ∀ i,i<4→p i=0:=by
 simp only [zeroB4,Bool.and_eq_true,beq_iff_eq]
 constructor
 ·rintro ⟨h0,h1,h2,h3⟩ i hi
  have:i=0∨i=1∨i=2∨i=3:=by omega
  rcases this with rfl | rfl | rfl | rfl <;> assumption
 ·exact fun h=>⟨h 0 (by omega),h 1 (by omega),h 2 (by omega),h 3 (by omega)⟩
theorem leastP_iff {p:Nat→Int} : 0≤leastP p ↔ ∀ i,i<4→0≤p i:=by
 unfold leastP
 constructor
 ·intro h i hi
  have:=leastF_le p 4 i hi
  omega
 ·intro h
  obtain ⟨j,hj,e⟩:=leastF_is p 4 (by omega)
  rw [e]
  exact h j hj
theorem found_iff {f:Nat→Row3} {R G:List Nat} : foundB f R G=true↔(∀ i,i<4→0≤planQ f R G i) ∧ ∃ i,i<4∧planQ f R G i ≠ 0:=by
 unfold foundB
 rw [Bool.and_eq_true,decide_eq_true_eq,leastP_iff,Bool.not_eq_true']
 refine and_congr Iff.rfl ?_
 constructor
 ·intro h
  refine Classical.byContradiction fun hno => ?_
  rw [zeroB4_iff.2 fun i hi=>Classical.byContradiction fun h0=>hno ⟨i,hi,h0⟩] at h
  cases h
 ·rintro ⟨i,hi,h⟩
  cases hz:zeroB4 (planQ f R G) with
  | false=>rfl
  | true=>exact absurd (zeroB4_iff.1 hz i hi) h
theorem raw_at {f:Nat→Row3} {m:Nat} {R G:List Nat} (hm:m≤4) (hR:R.Sublist (List.range m)) (hl:G.length=R.length) {s:Nat} (hs:s<R.length):R.getD s 0<4∧rawP f R G (R.getD s 0)=partsOf (lossA f) R G s:=by
 have hRn:R.Nodup:=List.nodup_range.sublist hR
 have:=List.mem_range.1 (hR.subset (getD_mem hs))
 refine ⟨by omega,?_⟩
 rw [rawP_inj hRn hl,inj_in hRn hs (Nat.le_refl _)]
theorem raw_out {f:Nat→Row3} {m:Nat} {R G:List Nat} (hR:R.Sublist (List.range m)) (hl:G.length=R.length) {i:Nat} (hi : ¬ i ∈ R):rawP f R G i=0:=by
 rw [rawP_inj (List.nodup_range.sublist hR) hl,inj_out fun s hs he=>hi (by rw [← he]; exact getD_mem hs)]
theorem found_choice {f:Nat→Row3} {m n:Nat} {R G:List Nat} (hm:m≤4) (hR:R.Sublist (List.range m)) (hG:G.Sublist (List.range n)) (hl:G.length=R.length) (h:foundB f R G=true) : ∃ e d,0<d∧Choice (lossA f) m n R G e ∧ ∀ i,i<4→planC (lossA f) R G e i=d*planQ f R G i:=by
 obtain ⟨h1,k,hk,h2⟩:=found_iff.1 h
 obtain ⟨e,he, -, -,hq⟩:=quo_raw (rawP f R G)
 have hd:=div_pos (rawP f R G)
 have hp : ∀ i,i<4→planC (lossA f) R G e i=divF (rawP f R G) 4*planQ f R G i:=fun i hi=>by
  unfold planC
  rw [inj_mul, ← rawP_inj (List.nodup_range.sublist hR) hl,hq i hi]
  rfl
 refine ⟨e,_,by omega,⟨hR,hG,hl,?_,he,fun a ha => ?_,?_⟩,hp⟩
 ·refine Nat.pos_of_ne_zero fun h0=>h2 ?_
  have:=hq k hk
  rw [raw_out hR hl (fun hm=>by have:=List.length_pos_of_mem hm; omega),Int.mul_zero] at this
  rcases Int.mul_eq_zero.1 this.symm with h | h
  ·omega
  ·exact h
 ·obtain ⟨a1,a2⟩:=raw_at (f:=f) hm hR hl ha
  rw [← a2,hq _ a1]
  exact Int.mul_nonneg (by omega) (h1 _ a1)
 ·by_cases hkR:k ∈ R
  ·obtain ⟨a,ha,rfl⟩:=mem_getD hkR
   obtain ⟨a1,a2⟩:=raw_at (f:=f) hm hR hl ha
   refine ⟨a,ha,fun h0=>h2 ?_⟩
   have:=hq _ a1
   rw [a2,h0,Int.mul_zero] at this
   rcases Int.mul_eq_zero.1 this.symm with h | h
   ·omega
   ·exact h
  ·exfalso
   have:=hq k hk
   rw [raw_out hR hl hkR,Int.mul_zero] at this
   rcases Int.mul_eq_zero.1 this.symm with h | h
   ·omega
   ·exact h2 h
theorem choice_found {f:Nat→Row3} {m n:Nat} {R G:List Nat} {e:Int} (hm:m≤4) (h:Choice (lossA f) m n R G e):foundB f R G=true:=by
 obtain ⟨hR,hG,hl,h0,he,hp,a,ha,hne⟩:=h
 obtain ⟨e',he',g1,g2,hq⟩:=quo_raw (rawP f R G)
 have hd:=div_pos (rawP f R G)
 have hraw : ∀ i,i<4→0≤e*rawP f R G i:=fun i _=>by
  by_cases hi:i ∈ R
  ·obtain ⟨s,hs,rfl⟩:=mem_getD hi
   rw [(raw_at (f:=f) hm hR hl hs).2]
   exact hp s hs
  ·rw [raw_out hR hl hi,Int.mul_zero]
   exact Int.le_refl _
 obtain ⟨a1,a2⟩:=raw_at (f:=f) hm hR hl ha
 have hee:e'=e:=by
  by_cases hlt:leastP (rawP f R G)<0
  ·rw [g1 hlt]
   rcases he with rfl | rfl
   ·have : ¬ 0≤leastP (rawP f R G):=by omega
    rw [leastP_iff] at this
    exact absurd (fun i hi=>by have:=hraw i hi; omega) this
   ·rfl
  ·rw [g2 (by omega)]
   rcases he with rfl | rfl
   ·rfl
   ·have h1:=leastP_iff.1 (by omega:0≤leastP (rawP f R G)) _ a1
    have h2:=hraw _ a1
    rw [a2] at h1 h2
    omega
 subst hee
 refine found_iff.2 ⟨fun i hi => ?_,R.getD a 0,a1,fun hz => ?_⟩
 ·have h1:=hraw i hi
  rw [hq i hi] at h1
  refine Classical.byContradiction fun h2 => ?_
  have:=Int.mul_neg_of_pos_of_neg (by omega:(0:Int)<divF (rawP f R G) 4) (by show planQ f R G i<0; omega)
  unfold planQ at this
  omega
 ·have h1:=hq _ a1
  have hz':quoP (rawP f R G) (R.getD a 0)=0:=hz
  rw [a2,hz',Int.mul_zero] at h1
  rcases Int.mul_eq_zero.1 h1 with h | h
  ·omega
  ·exact hne h
theorem tot_sum (x:Nat→Int) (m:Nat):tot x m=sumI x m:=tot_sumI x m
theorem dot_scaleL (c:Int) {x y:Nat→Int} (f:Nat→Int) : ∀ {m:Nat},(∀ i,i<m→y i=c*x i)→dotN y f m=c*dotN x f m
 | 0,_=>by simp [dotN]
 | m+1,h=>by rw [dotN,dotN,dot_scaleL c f (fun i hi=>h i (by omega)),h m (by omega),Int.mul_add,Int.mul_assoc]
theorem Surely.scale {A:Nat→Nat→Int} {m n:Nat} {x y:Nat→Int} {c v s:Int} (hc:0<c) (e : ∀ i,i<m→y i=c*x i):Surely A m n y v s↔Surely A m n x v s:=by
 have ht:tot y m=c*tot x m:=dot_scaleL c _ e
 have ha : ∀ j,ag A y m j=c*ag A x m j:=fun j=>dot_scaleL c _ e
 unfold Surely
 constructor
 ·rintro ⟨h1,h2,h3⟩
  refine ⟨fun i hi => ?_,?_,fun j hj => ?_⟩
  ·have:=h1 i hi
   rw [e i hi] at this
   exact Int.nonneg_of_mul_nonneg_right this hc
  ·rw [ht] at h2
   exact Int.lt_of_mul_lt_mul_left (a:=c) (by omega) (Int.le_of_lt hc)
  ·have:=h3 j hj
   rw [ht,ha] at this
   refine Int.le_of_mul_le_mul_left (a:=c) ?_ hc
   grind
 ·rintro ⟨h1,h2,h3⟩
  refine ⟨fun i hi => ?_,?_,fun j hj => ?_⟩
  ·rw [e i hi]; exact Int.mul_nonneg (Int.le_of_lt hc) (h1 i hi)
  ·rw [ht]; exact Int.mul_pos hc h2
  ·have:=Int.mul_le_mul_of_nonneg_left (h3 j hj) (Int.le_of_lt hc)
   rw [ht,ha]
   grind
theorem sure_self {f:Nat→Row3} {m n:Nat} {x:Nat→Int} (hx : ∀ i,i<m→0≤x i) (h0:0<sumI x m):Surely (lossA f) m n x (sureN f m n x) (sumI x m):=by
 refine ⟨hx,by rw [tot_sum]; exact h0,fun j hj => ?_⟩
 rw [tot_sum]
 have:=Int.mul_le_mul_of_nonneg_left (leastF_le (ag (lossA f) x m) n j hj) (Int.le_of_lt h0)
 show leastF _ _*_≤_
 grind
theorem sure_most {f:Nat→Row3} {m n:Nat} {x:Nat→Int} {v s:Int} (hn:0<n) (h:Surely (lossA f) m n x v s):v*sumI x m≤s*sureN f m n x:=by
 obtain ⟨j,hj,e⟩:=leastF_is (ag (lossA f) x m) n hn
 show _≤s*leastF _ _
 rw [e, ← tot_sum]
 exact h.2.2 j hj
theorem bst_val {f:Nat→Row3} {m n:Nat} (hO:Okay m n f) {s:K9} (hs:Bst f m n s):ValIs (lossA f) m n (sureN f m n (valP f m n s)) (sumI (valP f m n s) m):=by
 have fs:=valP_few hO s
 have h0:=fs.pos
 have hx:=sure_self (f:=f) (n:=n) (x:=valP f m n s) (fun i hi=>(fs.1 i hi).1) h0
 rw [← tot_sum] at hx ⊢
 refine val_best hO.m1 hO.m4 hO.n1 hO.n4 hx fun R G e hc v t ht hv => ?_
 have hf:=choice_found hO.m4 hc
 have hmem:(R,G) ∈ choL m n:=(cho_iff hO.m4 hO.n4).2 ⟨hc.1,hc.2.1,hc.2.2.1⟩
 have h1:=hs.2 (k9 (R,G)) ⟨(R,G),hmem,hf,rfl⟩
 rw [valP_k9 hO.m4 hmem hf] at h1
 simp only [surerB,decide_eq_false_iff_not,Int.not_lt] at h1
 obtain ⟨e',d,hd,hc',hp⟩:=found_choice hO.m4 hc.1 hc.2.1 hc.2.2.1 hf
 have hq:=few_found hO hmem hf
 have hsame:Surely (lossA f) m n (planQ f R G) v t:=by
  have:e'=e:=by
   obtain ⟨-, -, -, -,he,hp1,a,ha,hne⟩:=hc
   obtain ⟨-, -, -, -,he',hp2, -⟩:=hc'
   have g1:=hp1 a ha
   have g2:=hp2 a ha
   rcases he with rfl | rfl <;> rcases he' with rfl | rfl <;> omega
  subst this
  exact (Surely.scale hd fun i hi=>hp i (by have:=hO.m4; omega)).1 hv
 have h2:=sure_most hO.n1 hsame
 have hqp:=hq.pos
 rw [tot_sum]
 obtain ⟨a,ha⟩ : ∃ a,sureN f m n (valP f m n s)=a:=⟨_,rfl⟩
 obtain ⟨b,hb⟩ : ∃ a,sumI (valP f m n s) m=a:=⟨_,rfl⟩
 obtain ⟨c,hc⟩ : ∃ a,sureN f m n (planQ f R G)=a:=⟨_,rfl⟩
 obtain ⟨g,hg⟩ : ∃ a,sumI (planQ f R G) m=a:=⟨_,rfl⟩
 rw [ha,hb,hc,hg] at h1
 rw [hc,hg] at h2
 rw [hg] at hqp
 rw [hb] at h0
 rw [ha,hb]
 have a1:=Int.mul_le_mul_of_nonneg_right h2 (Int.le_of_lt h0)
 have a2:=Int.mul_le_mul_of_nonneg_left h1 (Int.le_of_lt ht)
 refine Int.le_of_mul_le_mul_right (a:=g) ?_ hqp
 grind
end Go.Proofs.Ytkbbhihndigmeaa

namespace Go.Proofs.Ytkbbhihndigmeaa
open Go Go.RowKit
def bitB (b k:Nat):Bool:=Go.bits BinOp.and IntKind.i64 ((b:Int) / 2 ^ k) 1==1
def bitsL (b k:Nat):List Nat:=(List.range k).filter (bitB b)
theorem bitsL_no {b k:Nat} (e:bitB b k=false):bitsL b (k+1)=bitsL b k:=by simp [bitsL,List.range_succ,e]
theorem bitsL_yes {b k:Nat} (e:bitB b k=true):bitsL b (k+1)=bitsL b k ++ [k]:=by simp [bitsL,List.range_succ,e]
theorem bitsL_len (b k:Nat):(bitsL b k).length≤k:=by
 have:=List.length_filter_le (bitB b) (List.range k)
 simpa [bitsL] using this
set_option maxRecDepth 100000 in
set_option maxHeartbeats 4000000 in
theorem rListed_c (b n:Nat) (w:World) (hn:n≤4) :
 Calls Try.prog 50 #[.int .i64 b, .int .i64 n] w fun e w'=>(∃ p c,e = .returned (.slice p (bitsL b n).length c)∧Lst w' (bitsL b n) p c)∧Below w.heap.size w w':=by
 go_enter Try.func50,Try.ntmps50
 go_wp2_with fail
 go_loopw [5,6] (fun c i wr=> ∃ k:Nat,k≤n∧i = .int .i64 k∧Own wr w.heap.size (bitsL b k) c∧Below w.heap.size w wr) (fun _ i _=>n-(intOf i).toNat)
 case atStart=>exact ⟨0,Nat.zero_le _,rfl,own_nil _ _,Below.refl _ _⟩
 case round=>
  obtain ⟨k,hk,rfl,hown,hbb⟩:=hrel
  by_cases hlt:k<n
  ·have hkl:=bitsL_len b k
   have t1:(k:Int)<(n:Int):=by omega
   cases hbit:bitB b k with
   | true=>
     have t0:(Go.bits BinOp.and IntKind.i64 ((b:Int) / 2 ^ k) 1==1)=true:=hbit
     obtain ⟨X,hX⟩ : ∃ X,wr.alloc (.cells #[.int .i64 (k:Int)] 3)=X:=⟨_,rfl⟩
     have hXb:Below wr.heap.size wr X:=by rw [← hX]; exact Below.alloc1 (Below.refl _ _) _ (Nat.le_refl _)
     have hXr:RowIs X wr.heap.size #[.int .i64 (k:Int)] 3:=by rw [← hX]; exact heap_new_at _ _ _ rfl
     have hXo:=hown.below hXb
     obtain ⟨v',A',hrun,hown',hgr,hbA⟩:=hXo.append wr.heap.size k hXr (Nat.le_trans hbb.size hXb.size) (by omega)
     have Hown:=Lib.hid hown'
     have Hb:=Lib.hid hbit
     have Hbb:=Lib.hid ((hbb.trans (hXb.mono hbb.size)).trans hbA)
     clear hown hbb hXr hXo hXb hown' hgr hbit hbA
     go_wp2_with (at_builtin; refine wpList_append_run rfl _ _ 42 rfl rfl rfl hrun ?_)
     go_roundw
     case rel=>exact ⟨k+1,by omega,by go_num,by rw [bitsL_yes Hb.out]; exact Hown.out,Hbb.out⟩
     case measure=>simp [intOf]; omega
   | false=>
     have t0:(Go.bits BinOp.and IntKind.i64 ((b:Int) / 2 ^ k) 1==1)=false:=hbit
     have Hown:=Lib.hid hown
     have Hb:=Lib.hid hbit
     have Hbb:=Lib.hid hbb
     clear hown hbb hbit
     go_wp2_with fail
     go_roundw
     case rel=>exact ⟨k+1,by omega,by go_num,by rw [bitsL_no Hb.out]; exact Hown.out,Hbb.out⟩
     case measure=>simp [intOf]; omega
  ·obtain rfl:k=n:=by omega
   obtain ⟨q,qc,rfl,hL,_⟩:=hown.lst
   have HL:=Lib.hid hL
   have Hbb:=Lib.hid hbb
   clear hL hbb hown
   go_wp2_with fail
   go_ret
   exact ⟨⟨q,qc,rfl,HL.out⟩,Hbb.out⟩
end Go.Proofs.Ytkbbhihndigmeaa

namespace Go.Proofs.Ytkbbhihndigmeaa
open Go Go.RowKit Go.Shelf
theorem bits_all:((List.range 5).all fun m=>((List.range (2 ^ m)).all fun b=>(subs (List.range m)).contains (bitsL b m) && (b==0 || decide (0<(bitsL b m).length))) && (subs (List.range m)).all fun R=>(R.length==0) || (List.range (2 ^ m)).any fun b=>decide (1≤b) && (bitsL b m==R))=true:=by decide +kernel
theorem bits_sub {m b:Nat} (hm:m≤4) (hb:b<2 ^ m):(bitsL b m).Sublist (List.range m)∧(1≤b→0<(bitsL b m).length):=by
 have h:=List.all_eq_true.1 bits_all m (List.mem_range.2 (by omega))
 simp only [Bool.and_eq_true,List.all_eq_true,List.contains_iff_mem] at h
 obtain ⟨h1,h2⟩:=h.1 b (List.mem_range.2 hb)
 refine ⟨subs_mem h1,fun h3 => ?_⟩
 simp only [Bool.or_eq_true,beq_iff_eq,decide_eq_true_eq] at h2
 omega
theorem sub_bits {m:Nat} {R:List Nat} (hm:m≤4) (hR:R.Sublist (List.range m)) (h0:0<R.length) : ∃ b,1≤b∧b<2 ^ m∧bitsL b m=R:=by
 have h:=List.all_eq_true.1 bits_all m (List.mem_range.2 (by omega))
 simp only [Bool.and_eq_true,List.all_eq_true] at h
 have h2:=h.2 R (mem_subs hR)
 simp only [Bool.or_eq_true,beq_iff_eq,List.any_eq_true,Bool.and_eq_true,decide_eq_true_eq] at h2
 rcases h2 with h2 | ⟨b,hb,h3,h4⟩
 ·omega
 ·exact ⟨b,h3,List.mem_range.1 hb,h4⟩
theorem choice_sign {A:Nat→Nat→Int} {m n:Nat} {R G:List Nat} {s t:Int} (h:Choice A m n R G s) (h':Choice A m n R G t):s=t:=by
 obtain ⟨-, -, -, -,he,hp1,a,ha,hne⟩:=h
 obtain ⟨-, -, -, -,he',hp2, -⟩:=h'
 have g1:=hp1 a ha
 have g2:=hp2 a ha
 rcases he with rfl | rfl <;> rcases he' with rfl | rfl <;> omega
def PlanSet (A:Nat→Nat→Int) (m n N:Nat) (F:Nat→Row3):Prop:=
 (∀ i,i<N → ∃ R G s,Choice A m n R G s ∧ ∀ j,j<m→(F i).g j=planC A R G s j) ∧ ∀ R G s,Choice A m n R G s → ∃ i,i<N ∧ ∀ j,j<m→(F i).g j=planC A R G s j
def PlanUpto (A:Nat→Nat→Int) (m n B:Nat) (w:World) (r c:Nat) (L:List Value):Prop:=
 (∀ l,l<L.length → ∃ g R G s,B≤g∧L.getD l undef = .slice (some ⟨g,0,none⟩) m m∧Choice A m n R G s∧RowIs w g (rowA m (planC A R G s)) 2) ∧
   ∀ r' c' s,1≤r'→r'<2 ^ m→1≤c'→c'<2 ^ n→(r'<r∨(r'=r∧c'<c))→Choice A m n (bitsL r' m) (bitsL c' n) s → ∃ l,l<L.length ∧ ∃ g,L.getD l undef = .slice (some ⟨g,0,none⟩) m m∧RowIs w g (rowA m (planC A (bitsL r' m) (bitsL c' n) s)) 2
theorem PlanUpto.keep {A:Nat→Nat→Int} {m n B r c:Nat} {w w':World} {L:List Value} (h:PlanUpto A m n B w r c L) (hk : ∀ g cs,RowIs w g cs 2→RowIs w' g cs 2):PlanUpto A m n B w' r c L:=
 ⟨fun l hl=>let ⟨g,R,G,s,h0,h1,h2,h3⟩:=h.1 l hl; ⟨g,R,G,s,h0,h1,h2,hk _ _ h3⟩,fun r' c' s a1 a2 a3 a4 a5 a6=>let ⟨l,hl,g,h1,h2⟩:=h.2 r' c' s a1 a2 a3 a4 a5 a6; ⟨l,hl,g,h1,hk _ _ h2⟩⟩
theorem PlanUpto.below {A:Nat→Nat→Int} {m n B r c:Nat} {w w':World} {L:List Value} (h:PlanUpto A m n B w r c L) (hb:Below w.heap.size w w'):PlanUpto A m n B w' r c L:=h.keep fun _ _ hr=>hr.below hb
theorem PlanUpto.no {A:Nat→Nat→Int} {m n B r c:Nat} {w:World} {L:List Value} (h:PlanUpto A m n B w r c L) (hno : ∀ s,¬ Choice A m n (bitsL r m) (bitsL c n) s):PlanUpto A m n B w r (c+1) L:=by
 refine ⟨h.1,fun r' c' s a1 a2 a3 a4 a5 a6 => ?_⟩
 by_cases e:r'=r∧c'=c
 ·obtain ⟨rfl,rfl⟩:=e
  exact absurd a6 (hno s)
 ·exact h.2 r' c' s a1 a2 a3 a4 (by omega) a6
theorem PlanUpto.yes {A:Nat→Nat→Int} {m n B r c g:Nat} {w:World} {L:List Value} {s:Int} (h:PlanUpto A m n B w r c L) (hc:Choice A m n (bitsL r m) (bitsL c n) s) (hB:B≤g) (hr:RowIs w g (rowA m (planC A (bitsL r m) (bitsL c n) s)) 2):PlanUpto A m n B w r (c+1) (L ++ [.slice (some ⟨g,0,none⟩) m m]):=by
 have hg:=getD_snoc (v:= .slice (some ⟨g,0,none⟩) m m) (d:=undef) (rfl:L.length=L.length)
 refine ⟨fun l hl => ?_,fun r' c' t a1 a2 a3 a4 a5 a6 => ?_⟩
 ·have hl':l<L.length+1:=by simpa using hl
  by_cases e:l=L.length
  ·subst e
   exact ⟨g,_,_,s,hB,hg.1,hc,hr⟩
  ·rw [hg.2 l (by omega)]
   exact h.1 l (by omega)
 ·by_cases e:r'=r∧c'=c
  ·obtain ⟨rfl,rfl⟩:=e
   refine ⟨L.length,by simp,g,hg.1,?_⟩
   rw [choice_sign a6 hc]
   exact hr
  ·obtain ⟨l,hl,g',h1,h2⟩:=h.2 r' c' t a1 a2 a3 a4 (by omega) a6
   exact ⟨l,by simp; omega,g',by rw [hg.2 l hl]; exact h1,h2⟩
theorem PlanUpto.next {A:Nat→Nat→Int} {m n B r:Nat} {w:World} {L:List Value} (h:PlanUpto A m n B w r (2 ^ n) L):PlanUpto A m n B w (r+1) 1 L:=
 ⟨h.1,fun r' c' s a1 a2 a3 a4 a5 a6=>h.2 r' c' s a1 a2 a3 a4 (by omega) a6⟩
theorem PlanUpto.first (A:Nat→Nat→Int) (m n B:Nat) (w:World):PlanUpto A m n B w 1 1 []:=⟨fun l hl=>absurd hl (Nat.not_lt_zero _),fun r' c' s a1 a2 a3 a4 a5 a6=>by omega⟩
theorem PlanUpto.set {A:Nat→Nat→Int} {m n B c:Nat} {w:World} {L:List Value} {v:Value} (hm:m≤4) (hn:n≤4) (h:PlanUpto A m n B w (2 ^ m) c L) (hv:OwnV 25 w B L v) :
 ∃ p cap F,v = .slice p L.length cap∧Tab w p L.length F∧(∀ i,(F i).n=m)∧PlanSet A m n L.length F∧(∀ b off,p=some ⟨b,off,none⟩→B≤b) ∧ ∀ i,i<L.length → ∃ g,B≤g∧(F i).a=some ⟨g,0,none⟩:=by
 classical
 have hx : ∀ l,∃ R:Row3,R.n=m∧(l<L.length → ∃ g Q G s,B≤g∧L.getD l undef = .slice (some ⟨g,0,none⟩) m m∧Choice A m n Q G s∧RowIs w g (rowA m (planC A Q G s)) 2∧R=⟨some ⟨g,0,none⟩,m,m,planC A Q G s⟩):=fun l=>by
  by_cases hl:l<L.length
  ·obtain ⟨g,Q,G,s,h0,h1,h2,h3⟩:=h.1 l hl
   exact ⟨⟨some ⟨g,0,none⟩,m,m,planC A Q G s⟩,rfl,fun _=>⟨g,Q,G,s,h0,h1,h2,h3,rfl⟩⟩
  ·exact ⟨⟨none,m,0,fun _=>0⟩,rfl,fun h=>absurd h hl⟩
 obtain ⟨F,hF⟩ : ∃ F:Nat→Row3,∀ l,(F l).n=m∧(l<L.length → ∃ g Q G s,B≤g∧L.getD l undef = .slice (some ⟨g,0,none⟩) m m∧Choice A m n Q G s∧RowIs w g (rowA m (planC A Q G s)) 2∧F l=⟨some ⟨g,0,none⟩,m,m,planC A Q G s⟩):=⟨fun l=>Classical.choose (hx l),fun l=>Classical.choose_spec (hx l)⟩
 obtain ⟨p,cap,h1,h2,h3,h4,h5,h6⟩:=hv.form
 refine ⟨p,cap,F,h1,⟨h5 _ _ rfl fun i hi => ?_,fun i hi => ?_⟩,fun i=>(hF i).1,⟨fun i hi => ?_,fun R G s hc => ?_⟩,fun b off e=>(h6 b off e).2.1,fun i hi => ?_⟩
 ·obtain ⟨g,Q,G,s, -,e1, -, -,e2⟩:=(hF i).2 hi
  rw [List.getD_eq_getElem?_getD,List.getElem?_eq_getElem hi] at e1
  rw [List.getElem?_eq_getElem hi,e2]
  exact congrArg some e1
 ·obtain ⟨g,Q,G,s, -, -, -,e3,e2⟩:=(hF i).2 hi
  rw [e2]
  exact rowA_ints e3
 ·obtain ⟨g,Q,G,s, -, -,e1, -,e2⟩:=(hF i).2 hi
  exact ⟨Q,G,s,e1,fun j _=>by rw [e2]⟩
 ·obtain ⟨r',r1,r2,r3⟩:=sub_bits hm hc.1 hc.2.2.2.1
  obtain ⟨c',c1,c2,c3⟩:=sub_bits hn hc.2.1 (by rw [hc.2.2.1]; exact hc.2.2.2.1)
  subst r3 c3
  obtain ⟨l,hl,g,e1,e2⟩:=h.2 r' c' s r1 r2 c1 c2 (by omega) hc
  obtain ⟨g',Q,G,t, -,e3, -,e5,e4⟩:=(hF l).2 hl
  rw [e1] at e3
  injection e3 with e3 _ _
  injection e3 with e3
  injection e3 with e3
  subst e3
  refine ⟨l,hl,fun j hj => ?_⟩
  rw [e4]
  have k1:=e2.cell j
  have k2:=e5.cell j
  rw [k1,rowA_get _ _ _ hj,rowA_get _ _ _ hj] at k2
  have:=Option.some.inj k2
  injection this with _ this
  exact this.symm
 ·obtain ⟨g,Q,G,s,e0, -, -, -,e2⟩:=(hF i).2 hi
  exact ⟨g,e0,by rw [e2]⟩
end Go.Proofs.Ytkbbhihndigmeaa

namespace Go.Proofs.Ytkbbhihndigmeaa
open Go Go.RowKit Go.Shelf
def gapI (f:Nat→Row3) (other row j:Nat):Int:=(f other).g j-(f row).g j
def betterB (f:Nat→Row3) (cols:List Nat) (other row:Nat):Bool:=cols.all (fun j=>decide (0≤gapI f other row j)) && (decide (other<row) || cols.any fun j=>decide (gapI f other row j ≠ 0))
def needO (f:Nat→Row3) (cols rows:List Nat):Option Nat:=(List.range rows.length).find? fun i=>rows.any fun other=>betterB f cols other (rows.getD i 0)
def moreF (f:Nat→Row3) (cols:List Nat) (other row k j:Nat):Int:=if j ∈ cols.take k then gapI f other row j else 0
theorem find_some {p:Nat→Bool} {n k:Nat} (hk:k<n) (hp:p k=true) (h : ∀ i,i<k→p i=false):(List.range n).find? p=some k:=by
 rw [List.find?_eq_some_iff_getElem]
 refine ⟨hp,k,by simpa using hk,by simp,fun j hj => ?_⟩
 simp [h j hj]
theorem find_none {p:Nat→Bool} {n:Nat} (h : ∀ i,i<n→p i=false):(List.range n).find? p=none:=by
 rw [List.find?_eq_none]
 intro i hi
 rw [List.mem_range] at hi
 simp [h i hi]
theorem any_none {x:List Nat} {p:Nat→Bool} (h : ∀ i,i<x.length→p (x.getD i 0)=false):x.any p=false:=by
 rw [List.any_eq_false]
 intro y hy
 obtain ⟨i,hi,rfl⟩:=List.getElem_of_mem hy
 have:=h i hi
 rw [List.getD_eq_getElem?_getD,List.getElem?_eq_getElem hi] at this
 simpa using this
theorem any_some {x:List Nat} {p:Nat→Bool} {i:Nat} (hi:i<x.length) (h:p (x.getD i 0)=true):x.any p=true:=by
 rw [List.any_eq_true]
 exact ⟨_,getD_mem hi,h⟩
theorem take_mem {x:List Nat} {k:Nat} (hk:k<x.length) {j:Nat} : j ∈ x.take (k+1)↔j ∈ x.take k∨j=x.getD k 0:=by
 rw [List.take_succ_eq_append_getElem hk,List.mem_append,List.mem_singleton,List.getD_eq_getElem?_getD,List.getElem?_eq_getElem hk]
 rfl
theorem more_step {f:Nat→Row3} {cols:List Nat} {other row k:Nat} (hk:k<cols.length):rowA 5 (moreF f cols other row (k+1))=(rowA 5 (moreF f cols other row k)).setIfInBounds (cols.getD k 0) (.int .i64 (gapI f other row (cols.getD k 0))):=by
 refine (rowA_set 5 _ _ _ _ ?_ fun j _ hj => ?_).symm
 ·unfold moreF
  rw [if_pos ((take_mem hk).2 (.inr rfl))]
 ·unfold moreF
  by_cases h:j ∈ cols.take k
  ·rw [if_pos h,if_pos ((take_mem hk).2 (.inl h))]
  ·rw [if_neg h,if_neg (fun h2=>((take_mem hk).1 h2).elim h hj)]
theorem more_zero (f:Nat→Row3) (cols:List Nat) (other row:Nat):moreF f cols other row 0=fun _=>0:=by
 funext j
 unfold moreF
 simp
theorem better_end {f:Nat→Row3} {cols:List Nat} {other row:Nat} (hc : ∀ j ∈ cols,j<5) (h : ∀ i,i<cols.length→0≤gapI f other row (cols.getD i 0)) :
 betterB f cols other row=(decide (other<row) || !(moreF f cols other row cols.length 0==0 && (moreF f cols other row cols.length 1==0 && (moreF f cols other row cols.length 2==0 && (moreF f cols other row cols.length 3==0 && moreF f cols other row cols.length 4==0))))):=by
 have h1:cols.all (fun j=>decide (0≤gapI f other row j))=true:=by
  rw [List.all_eq_true]
  intro j hj
  obtain ⟨i,hi,rfl⟩:=List.getElem_of_mem hj
  have:=h i hi
  rw [List.getD_eq_getElem?_getD,List.getElem?_eq_getElem hi] at this
  simpa using this
 have h2:(cols.any fun j=>decide (gapI f other row j ≠ 0)) = !(moreF f cols other row cols.length 0==0 && (moreF f cols other row cols.length 1==0 && (moreF f cols other row cols.length 2==0 && (moreF f cols other row cols.length 3==0 && moreF f cols other row cols.length 4==0)))):=by
  have hm : ∀ j,moreF f cols other row cols.length j=if j ∈ cols then gapI f other row j else 0:=fun j=>by unfold moreF; rw [List.take_length]
  cases hx:cols.any fun j=>decide (gapI f other row j ≠ 0) with
  | true=>
    rw [List.any_eq_true] at hx
    obtain ⟨j,hj,hg⟩:=hx
    have hg2:moreF f cols other row cols.length j ≠ 0:=by rw [hm,if_pos hj]; simpa using hg
    have h5:=hc j hj
    have:j=0∨j=1∨j=2∨j=3∨j=4:=by omega
    rcases this with rfl | rfl | rfl | rfl | rfl <;> simp [hg2]
  | false=>
    rw [List.any_eq_false] at hx
    have hz : ∀ j,moreF f cols other row cols.length j=0:=fun j=>by
     rw [hm]
     split
     ·rename_i hj
      have:=hx j hj
      simpa using this
     ·rfl
    simp [hz]
 unfold betterB
 rw [h1,h2,Bool.true_and]
theorem better_no {f:Nat→Row3} {cols:List Nat} {other row i:Nat} (hi:i<cols.length) (h:gapI f other row (cols.getD i 0)<0):betterB f cols other row=false:=by
 have:cols.all (fun j=>decide (0≤gapI f other row j))=false:=by
  rw [List.all_eq_false]
  exact ⟨_,getD_mem hi,fun h2=>by have:=of_decide_eq_true h2; omega⟩
 unfold betterB
 rw [this,Bool.false_and]
theorem lst_at {w:World} {x:List Nat} {p:Option Addr} {cap:Nat} (h:Lst w x p cap) {i:Nat} (hi:i<x.length) : ∃ b off,p=some ⟨b,off,none⟩∧b<w.heap.size∧w.cell? ⟨b,off+i,none⟩=some (.int .i64 ((x.getD i 0:Nat):Int)):=by
 obtain ⟨b,off,rfl,hz,hc⟩:=Cells.at h.cells i hi
 exact ⟨b,off,rfl,hz,hc i hi⟩
set_option maxRecDepth 100000 in
set_option maxHeartbeats 16000000 in
theorem needless_c (a:Option Addr) (m n cap:Nat) (f:Nat→Row3) (rows cols:List Nat) (pr pc:Option Addr) (cr cc:Nat) (w:World) (hf:Tab w a m f) (hO:Okay m n f) (hr:Lst w rows pr cr) (hc:Lst w cols pc cc)
 (hrm : ∀ i ∈ rows,i<m) (hcn : ∀ j ∈ cols,j<n) (hr4:rows.length≤4) (hc4:cols.length≤4) :
 Calls Try.prog 93 #[tabV a m cap, .slice pr rows.length cr, .slice pc cols.length cc] w fun e w'=>e = .returned (.tuple #[.int .i64 (((needO f cols rows).getD 0:Nat):Int), .bool (needO f cols rows).isSome])∧Below w.heap.size w w':=by
 obtain ⟨hb,off,rfl,hbs, -⟩:=Tab.at hf 0 hO.m1
 obtain ⟨W,hW⟩ : ∃ W,w.alloc (.cells #[.slice (some ⟨hb,off,none⟩) m cap] 73)=W:=⟨_,rfl⟩
 have hB:Below w.heap.size w W:=by rw [← hW]; exact Below.alloc1 (Below.refl _ _) _ (Nat.le_refl _)
 have hD:RowIs W w.heap.size #[.slice (some ⟨hb,off,none⟩) m cap] 73:=by rw [← hW]; exact heap_new_at _ _ _ rfl
 have HB:=Lib.hid hB
 have HD:=Lib.hid hD
 have Hf:=Lib.hid hf
 have HO:=Lib.hid hO
 have Hr:=Lib.hid hr
 have Hc:=Lib.hid hc
 have Hrm:=Lib.hid hrm
 have Hcn:=Lib.hid hcn
 have hm4:=hO.m4
 have hn4:=hO.n4
 clear hB hD hf hO hr hc hrm hcn
 go_enter Try.func93,Try.ntmps93
 go_wp2_with fail
 go_loopw [17] (fun i wr=> ∃ k:Nat,k≤rows.length∧i = .int .i64 k∧(∀ i,i<k→(rows.any fun other=>betterB f cols other (rows.getD i 0))=false)∧Below W.heap.size W wr) (fun i _=>rows.length-(intOf i).toNat)
 case atStart=>exact ⟨0,Nat.zero_le _,rfl,fun i hi=>absurd hi (Nat.not_lt_zero _),Below.refl _ _⟩
 case round=>
  obtain ⟨k,hk,rfl,hno,hbb⟩:=hrel
  by_cases hlt:k<rows.length
  ·obtain ⟨b1,o1,rfl,hz1,c1⟩:=lst_at (Hr.out.below (HB.out.trans (hbb.mono HB.out.size))) hlt
   have hrow:rows.getD k 0<m:=Hrm.out _ (getD_mem hlt)
   obtain ⟨row,hrw⟩ : ∃ row,rows.getD k 0=row:=⟨_,rfl⟩
   rw [hrw] at c1 hrow
   have Hrw:=Lib.hid hrw
   have Hno:=Lib.hid hno
   have Hbb:=Lib.hid hbb
   clear hno hbb hrw
   go_wp2_with fail
   refine wp_scope_straight (wp_seq (wp_label ?_))
   go_wp2_with fail
   go_loopw [24] (fun i wi=> ∃ j:Nat,j≤rows.length∧i = .int .i64 j∧(∀ i,i<j→betterB f cols (rows.getD i 0) row=false)∧Below W.heap.size W wi) (fun i _=>rows.length-(intOf i).toNat)
   case atStart=>exact ⟨0,Nat.zero_le _,rfl,fun i hi=>absurd hi (Nat.not_lt_zero _),Hbb.out⟩
   case round=>
    clear c1 hz1
    obtain ⟨j,hj,rfl,hno2,hbb2⟩:=hrel
    by_cases hlj:j<rows.length
    ·obtain ⟨b2,o2,e2,hz2,c2⟩:=lst_at (Hr.out.below (HB.out.trans (hbb2.mono HB.out.size))) hlj
     cases e2
     have hoth:rows.getD j 0<m:=Hrm.out _ (getD_mem hlj)
     obtain ⟨other,hot⟩ : ∃ other,rows.getD j 0=other:=⟨_,rfl⟩
     rw [hot] at c2 hoth
     obtain ⟨V,hV⟩ : ∃ V,wr.alloc (.cells #[.int .i64 0, .int .i64 0, .int .i64 0, .int .i64 0, .int .i64 0] 100)=V:=⟨_,rfl⟩
     have hVb:Below wr.heap.size wr V:=by rw [← hV]; exact Below.alloc1 (Below.refl _ _) _ (Nat.le_refl _)
     have hVr:RowIs V wr.heap.size (rowA 5 (moreF f cols other row 0)) 100:=by rw [← hV,more_zero]; exact heap_new_at _ _ _ rfl
     have Hot:=Lib.hid hot
     have Hno2:=Lib.hid hno2
     have HVb:=Lib.hid (hbb2.trans (hVb.mono hbb2.size))
     have HVr:=Lib.hid hVr
     have hwz:W.heap.size≤wr.heap.size:=hbb2.size
     obtain ⟨Z,hZ⟩ : ∃ Z,wr.heap.size=Z:=⟨_,rfl⟩
     rw [hZ] at HVr hwz
     clear hno2 hbb2 hot hVb hVr
     go_wp2_with fail
     clear hV c2 hz2
     go_loopw [30] (fun i wi=> ∃ l:Nat,l≤cols.length∧i = .int .i64 l∧(∀ i,i<l→0≤gapI f other row (cols.getD i 0))∧RowIs wi Z (rowA 5 (moreF f cols other row l)) 100∧Below W.heap.size W wi) (fun i _=>cols.length-(intOf i).toNat)
     case atStart=>exact ⟨0,Nat.zero_le _,rfl,fun i hi=>absurd hi (Nat.not_lt_zero _),HVr.out,HVb.out⟩
     case round=>
      obtain ⟨l,hl,rfl,hge,hmr,hb3⟩:=hrel
      have hwb:Below w.heap.size w wr:=HB.out.trans (hb3.mono HB.out.size)
      by_cases hll:l<cols.length
      ·obtain ⟨b3,o3,rfl,hz3,c3⟩:=lst_at (Hc.out.below hwb) hll
       have hcol:cols.getD l 0<n:=Hcn.out _ (getD_mem hll)
       have hms:=more_step (f:=f) (other:=other) (row:=row) hll
       have hb1:=better_no (f:=f) (other:=other) (row:=row) hll
       obtain ⟨col,hcl⟩ : ∃ col,cols.getD l 0=col:=⟨_,rfl⟩
       rw [hcl] at c3 hcol hms hb1
       have hT:=Hf.out.below hwb
       obtain ⟨hb',off',ea,_,hct⟩:=Tab.at hT other hoth
       cases ea
       have k1:=hct other hoth
       have k2:=hct row hrow
       have hno:=HO.out.num other hoth col hcol
       have hnr:=HO.out.num row hrow col hcol
       obtain ⟨ra,ro,era,hra,hrc⟩:=Cells.at (hT.2 other hoth) col (by rw [HO.out.len other hoth]; exact hcol)
       obtain ⟨sa,so,esa,hsa,hsc⟩:=Cells.at (hT.2 row hrow) col (by rw [HO.out.len row hrow]; exact hcol)
       have k3:=hrc col (by rw [HO.out.len other hoth]; exact hcol)
       have k4:=hsc col (by rw [HO.out.len row hrow]; exact hcol)
       rw [HO.out.len other hoth,era] at k1
       rw [HO.out.len row hrow,esa] at k2
       have hbz:hb<wr.heap.size:=Nat.lt_of_lt_of_le hbs hwb.size
       have hDr:=HD.out.below hb3
       have dd:wr.cell? ⟨w.heap.size,0,none⟩=some (.slice (some ⟨hb,off,none⟩) m cap):=hDr.cell 0
       have ddz:=hDr.lt
       have m1:wr.cell? ⟨Z,col,none⟩=some (.int .i64 (moreF f cols other row l col)):=(hmr.cell col).trans (rowA_get 5 _ col (by omega))
       have m2:=hmr.frozen col
       have mz:=hmr.lt
       have i1:(other:Int)<(m:Int):=by omega
       have i2:(row:Int)<(m:Int):=by omega
       have i3:(col:Int)<(n:Int):=by omega
       have i4:(col:Int)<5:=by omega
       have i5:col<5:=by omega
       have hw1:IntKind.i64.wrap ((f other).g col-(f row).g col)=gapI f other row col:=IntWalk.i64_in _ (by omega)
       have Hge:=Lib.hid hge
       have Hmr:=Lib.hid hmr
       have Hb3:=Lib.hid hb3
       have Hms:=Lib.hid hms
       have Hb1:=Lib.hid hb1
       have Hcl:=Lib.hid hcl
       clear hge hmr hb3 hms hb1 hcl hct hrc hsc hT hwb hno hnr hDr
       have hbX:Below W.heap.size W ((wr.setCell ⟨Z,col,none⟩ (.int .i64 (gapI f other row col))).drew):=(Below.setCell (p:=⟨Z,col,none⟩) Hb3.out hwz _).drew
       have HbX:=Lib.hid hbX
       clear hbX
       obtain ⟨gp,hgp⟩ : ∃ gp,gapI f other row col=gp:=⟨_,rfl⟩
       rw [hgp] at hw1 Hms Hb1 HbX
       have Hgp:=Lib.hid hgp
       clear hgp
       by_cases hneg:gp<0
       ·have hbn:=Hb1.out hneg
        have Hbn:=Lib.hid hbn
        have t0:decide (gp<0)=true:=decide_eq_true hneg
        clear hbn
        go_wp2_with fail
        go_region
        all_goals
         go_wp2_with fail
         refine ⟨⟨j+1,by omega,by go_num,fun i hi => ?_,HbX.out⟩,by simp [intOf]; omega⟩
         rcases Nat.lt_or_ge i j with h | h
         ·exact Hno2.out i h
         ·obtain rfl:i=j:=by omega
          rw [Hot.out]
          exact Hbn.out
       ·have t0:decide (gp<0)=false:=decide_eq_false hneg
        go_wp2_with fail
        go_region
        all_goals
         go_wp2_with fail
         refine ⟨⟨l+1,by omega,by go_num,fun i hi => ?_,by rw [Hms.out]; exact Hmr.out.set col _,HbX.out⟩,by simp [intOf]; omega⟩
         rcases Nat.lt_or_ge i l with h | h
         ·exact Hge.out i h
         ·obtain rfl:i=l:=by omega
          rw [Hcl.out,Hgp.out]
          omega
      ·obtain rfl:l=cols.length:=by omega
       have hbe:=better_end (f:=f) (other:=other) (row:=row) (fun j hj=>by have:=Hcn.out j hj; omega) hge
       obtain ⟨g,hg⟩ : ∃ g,moreF f cols other row cols.length=g:=⟨_,rfl⟩
       rw [hg] at hbe hmr
       have heq:=fun w=>eqLosses (g 0) (g 1) (g 2) (g 3) (g 4) w
       obtain ⟨q,hq⟩ : ∃ q,(g 0==0 && (g 1==0 && (g 2==0 && (g 3==0 && g 4==0))))=q:=⟨_,rfl⟩
       simp only [hq] at heq
       rw [hq] at hbe
       have l0:wr.cell? ⟨Z,0,none⟩=some (.int .i64 (g 0)):=hmr.cell 0
       have l1:wr.cell? ⟨Z,1,none⟩=some (.int .i64 (g 1)):=hmr.cell 1
       have l2:wr.cell? ⟨Z,2,none⟩=some (.int .i64 (g 2)):=hmr.cell 2
       have l3:wr.cell? ⟨Z,3,none⟩=some (.int .i64 (g 3)):=hmr.cell 3
       have l4:wr.cell? ⟨Z,4,none⟩=some (.int .i64 (g 4)):=hmr.cell 4
       have lz:=hmr.lt
       have Hbe:=Lib.hid hbe
       have Hb3:=Lib.hid hb3
       clear hge hmr hb3 hbe hq hg hwb
       by_cases hor:other<row
       ·have t0:decide ((other:Int)<(row:Int))=true:=decide_eq_true (by omega)
        have hbt:betterB f cols other row=true:=by rw [Hbe.out,decide_eq_true hor]; rfl
        have Hbt:=Lib.hid hbt
        clear hbt Hbe
        have hO2:needO f cols rows=some k:=find_some hlt (any_some hlj (by rw [Hot.out,Hrw.out]; exact Hbt.out)) Hno.out
        have HO2:=Lib.hid hO2
        clear hO2
        go_wp2_with fail
        simp +zetaDelta only [Exit.noGoto,Exit.inBlock,Exit.then]
        exact bodyPost_ret (v:= .tuple #[.int .i64 (k:Int), .bool true]) (by simp [results,Try.results93,go_sem]) rfl ⟨by rw [HO2.out]; rfl,HB.out.trans (Hb3.out.mono HB.out.size)⟩
       ·have t0:decide ((other:Int)<(row:Int))=false:=decide_eq_false (by omega)
        cases q with
        | false=>
        have hbt:betterB f cols other row=true:=by rw [Hbe.out]; simp
        have Hbt:=Lib.hid hbt
        clear hbt Hbe
        have hO2:needO f cols rows=some k:=find_some hlt (any_some hlj (by rw [Hot.out,Hrw.out]; exact Hbt.out)) Hno.out
        have HO2:=Lib.hid hO2
        clear hO2
        go_wp2_with fail
        simp +zetaDelta only [Exit.noGoto,Exit.inBlock,Exit.then]
        exact bodyPost_ret (v:= .tuple #[.int .i64 (k:Int), .bool true]) (by simp [results,Try.results93,go_sem]) rfl ⟨by rw [HO2.out]; rfl,HB.out.trans (Hb3.out.mono HB.out.size)⟩
        | true=>
        have hbt:betterB f cols other row=false:=by rw [Hbe.out,decide_eq_false hor]; rfl
        have Hbt:=Lib.hid hbt
        clear hbt Hbe
        go_wp2_with fail
        refine ⟨⟨j+1,by omega,by go_num,fun i hi => ?_,Hb3.out⟩,by simp [intOf]; omega⟩
        rcases Nat.lt_or_ge i j with h | h
        ·exact Hno2.out i h
        ·obtain rfl:i=j:=by omega
         rw [Hot.out]
         exact Hbt.out
    ·obtain rfl:j=rows.length:=by omega
     have hany:=any_none (p:=fun other=>betterB f cols other row) hno2
     have Hany:=Lib.hid hany
     have Hb2:=Lib.hid hbb2
     clear hno2 hbb2 hany
     go_wp2_with fail
     simp only [Exit.noGoto,Exit.inBlock,Exit.then]
     apply_assumption
     go_wp2_with fail
     refine ⟨⟨k+1,by omega,by go_num,fun i hi => ?_,Hb2.out⟩,by simp [intOf]; omega⟩
     rcases Nat.lt_or_ge i k with h | h
     ·exact Hno.out i h
     ·obtain rfl:i=k:=by omega
      rw [Hrw.out]
      exact Hany.out
  ·obtain rfl:k=rows.length:=by omega
   have hO2:needO f cols rows=none:=find_none hno
   have HO2:=Lib.hid hO2
   have Hb2:=Lib.hid hbb
   clear hO2 hno hbb
   go_wp2_with fail
   exact bodyPost_ret (v:= .tuple #[.int .i64 0, .bool false]) (by simp [results,Try.results93,go_sem]) rfl ⟨by rw [HO2.out]; rfl,HB.out.trans (Hb2.out.mono HB.out.size)⟩
end Go.Proofs.Ytkbbhihndigmeaa

namespace Go.Proofs.Ytkbbhihndigmeaa
open Go Go.RowKit Go.Shelf
theorem make_rowI : ∀ (s:Nat) (_:s≤4) (w:World),(Instr.makeSlice 42 (.int .i64 (s:Int)) (.int .i64 (s:Int))).run Try.prog w = .ok (.slice (some ⟨w.heap.size,0,none⟩) s s) (w.alloc (.cells (rowA s fun _=>0) 3))
 | 0,_,w=>by
   have h:(Instr.makeSlice 42 (.int .i64 0) (.int .i64 0)).run Try.prog w = .ok (.slice (some ⟨w.heap.size,0,none⟩) 0 0) (w.alloc (.cells (rowA 0 fun _=>0) 3)):=by kernel_rfl
   exact h
 | 1,_,w=>by
   have h:(Instr.makeSlice 42 (.int .i64 1) (.int .i64 1)).run Try.prog w = .ok (.slice (some ⟨w.heap.size,0,none⟩) 1 1) (w.alloc (.cells (rowA 1 fun _=>0) 3)):=by kernel_rfl
   exact h
 | 2,_,w=>by
   have h:(Instr.makeSlice 42 (.int .i64 2) (.int .i64 2)).run Try.prog w = .ok (.slice (some ⟨w.heap.size,0,none⟩) 2 2) (w.alloc (.cells (rowA 2 fun _=>0) 3)):=by kernel_rfl
   exact h
 | 3,_,w=>by
   have h:(Instr.makeSlice 42 (.int .i64 3) (.int .i64 3)).run Try.prog w = .ok (.slice (some ⟨w.heap.size,0,none⟩) 3 3) (w.alloc (.cells (rowA 3 fun _=>0) 3)):=by kernel_rfl
   exact h
 | 4,_,w=>by
   have h:(Instr.makeSlice 42 (.int .i64 4) (.int .i64 4)).run Try.prog w = .ok (.slice (some ⟨w.heap.size,0,none⟩) 4 4) (w.alloc (.cells (rowA 4 fun _=>0) 3)):=by kernel_rfl
   exact h
def idxF (k:Nat) (i:Nat):Int:=if i<k then (i:Int) else 0
theorem lst_range {w:World} {g n:Nat} {T:TypeId} (h:RowIs w g (rowA n (idxF n)) T) (hn:n≤4):Lst w (List.range n) (some ⟨g,0,none⟩) n:=by
 refine ⟨.inr ⟨g,0,rfl,h.lt,fun i hi => ?_⟩,by simp,by omega,fun e=>by cases e⟩
 rw [List.length_range] at hi
 rw [Nat.zero_add]
 refine (h.cell i).trans ((rowA_get n _ i hi).trans ?_)
 unfold idxF
 rw [if_pos hi]
 simp [List.getD,hi]
set_option maxHeartbeats 1000000 in
theorem indexes_c (n:Nat) (w:World) (hn:n≤4):Calls Try.prog 92 #[.int .i64 n] w fun e w'=> ∃ g,e = .returned (.slice (some ⟨g,0,none⟩) n n)∧Lst w' (List.range n) (some ⟨g,0,none⟩) n∧Below w.heap.size w w':=by
 have mk:=make_rowI n hn w
 obtain ⟨W,hW⟩ : ∃ W,w.alloc (.cells (rowA n fun _=>0) 3)=W:=⟨_,rfl⟩
 have hB:Below w.heap.size w W:=by rw [← hW]; exact Below.alloc1 (Below.refl _ _) _ (Nat.le_refl _)
 have hR:RowIs W w.heap.size (rowA n (idxF 0)) 3:=by rw [← hW]; exact heap_new_at _ _ _ rfl
 rw [hW] at mk
 have hn64:(n:Int)≤4:=by omega
 have HB:=Lib.hid hB
 have HR:=Lib.hid hR
 clear hB hR hW
 go_enter Try.func92,Try.ntmps92
 go_wp2_with fail
 go_loopw [9] (fun i wr=> ∃ k:Nat,k≤n∧i = .int .i64 k∧RowIs wr w.heap.size (rowA n (idxF k)) 3∧Below w.heap.size w wr) (fun i _=>n-(intOf i).toNat)
 case atStart=>exact ⟨0,Nat.zero_le _,rfl,HR.out,HB.out⟩
 case round=>
  obtain ⟨k,hk,rfl,hr,hb⟩:=hrel
  by_cases hlt:k<n
  ·have c1:wr.cell? ⟨w.heap.size,k,none⟩=some (.int .i64 0):=(hr.cell k).trans ((rowA_get n _ k hlt).trans (by unfold idxF; rw [if_neg (Nat.lt_irrefl _)]))
   have f1:=hr.frozen k
   have z1:=hr.lt
   have hset:=rowA_set n (idxF k) (idxF (k+1)) k (k:Int) (by unfold idxF; rw [if_pos (by omega)]) (fun j _ hj=>by unfold idxF; by_cases h:j<k; { rw [if_pos h,if_pos (by omega)] }; { rw [if_neg h,if_neg (by omega)] })
   have Hr:=Lib.hid hr
   have Hb:=Lib.hid hb
   have Hset:=Lib.hid hset
   clear hr hb hset
   go_wp2_with fail
   go_roundw
   case rel=>exact ⟨k+1,by omega,by go_num,by rw [← Hset.out]; exact Hr.out.set k _,Below.setCell (p:=⟨w.heap.size,k,none⟩) Hb.out (Nat.le_refl _) _⟩
   case measure=>simp [intOf]; omega
  ·obtain rfl:k=n:=by omega
   have HL:=Lib.hid (lst_range hr hn)
   have Hb:=Lib.hid hb
   clear hr hb
   go_wp2_with fail
   go_ret
   exact ⟨w.heap.size,rfl,HL.out,Hb.out⟩
def leftF (f f':Nat→Row3):Nat→List Nat→List Nat→List Nat × List Nat
 | 0,R,C=>(R,C)
 | k+1,R,C=>match needO f C R with
   | some i=>leftF f f' k (R.eraseIdx i) C
   | none=>match needO f' R C with
     | some i=>leftF f f' k R (C.eraseIdx i)
     | none=>(R,C)
theorem need_lt {f:Nat→Row3} {C R:List Nat} {i:Nat} (h:needO f C R=some i):i<R.length:=by
 have:=List.mem_of_find?_eq_some h
 simpa using this
theorem need_nil (f:Nat→Row3) (C:List Nat):needO f C []=none:=rfl
theorem left_end {f f':Nat→Row3} {R C:List Nat} (h1:needO f C R=none) (h2:needO f' R C=none) (k:Nat):leftF f f' k R C=(R,C):=by
 cases k with
 | zero=>rfl
 | succ k=>rw [leftF,h1]; dsimp only; rw [h2]
def lenV:Value→Nat
 | .slice _ n _=>n
 | _=>0
theorem erase_lt {x:List Nat} {n i:Nat} (h : ∀ j ∈ x,j<n) : ∀ j ∈ x.eraseIdx i,j<n:=fun j hj=>h j (List.mem_of_mem_eraseIdx hj)
set_option maxRecDepth 100000 in
set_option maxHeartbeats 8000000 in
theorem left_c (a b:Option Addr) (m n cap cap':Nat) (f f':Nat→Row3) (w:World) (hf:Tab w a m f) (hO:Okay m n f) (hf':Tab w b n f') (hO':Okay n m f') :
 Calls Try.prog 78 #[tabV a m cap,tabV b n cap'] w fun e w'=> ∃ p c q d,e = .returned (.tuple #[.slice p (leftF f f' (m+n) (List.range m) (List.range n)).1.length c, .slice q (leftF f f' (m+n) (List.range m) (List.range n)).2.length d])∧Lst w' (leftF f f' (m+n) (List.range m) (List.range n)).1 p c∧Lst w' (leftF f f' (m+n) (List.range m) (List.range n)).2 q d∧Below w.heap.size w w':=by
 obtain ⟨W,hW⟩ : ∃ W,(w.alloc (.cells #[.slice a m cap] 73)).alloc (.cells #[.slice b n cap'] 73)=W:=⟨_,rfl⟩
 have hB:Below w.heap.size w W:=by rw [← hW]; exact Below.alloc1 (Below.alloc1 (Below.refl _ _) _ (Nat.le_refl _)) _ (Nat.le_refl _)
 have hD:RowIs W w.heap.size #[.slice a m cap] 73:=by rw [← hW]; exact RowIs.alloc (heap_new_at _ _ _ rfl) _
 have hE:RowIs W (w.heap.size+1) #[.slice b n cap'] 73:=by rw [← hW]; exact heap_new_at _ _ _ (by simp)
 have d0:W.cell? ⟨w.heap.size,0,none⟩=some (.slice a m cap):=hD.cell 0
 have dz:=hD.lt
 have e0:W.cell? ⟨w.heap.size+1,0,none⟩=some (.slice b n cap'):=hE.cell 0
 have ez:=hE.lt
 have HB:=Lib.hid hB
 have HD:=Lib.hid hD
 have HE:=Lib.hid hE
 have Hf:=Lib.hid hf
 have Hf':=Lib.hid hf'
 have HO:=Lib.hid hO
 have HO':=Lib.hid hO'
 have hm4:=hO.m4
 have hn4:=hO.n4
 clear hB hD hE hf hf' hO hO'
 obtain ⟨rs,hrs⟩ : ∃ rs,leftF f f' (m+n) (List.range m) (List.range n)=rs:=⟨_,rfl⟩
 rw [hrs]
 have Hrs:=Lib.hid hrs
 clear hrs
 go_enter Try.func78,Try.ntmps78
 go_wp2_with fail
 have hFC : ∀ y,Below W.heap.size W y→Below W.heap.size W y∧y.cell? ⟨w.heap.size,0,none⟩=some (.slice a m cap)∧y.cell? ⟨w.heap.size+1,0,none⟩=some (.slice b n cap'):=fun y hy=>⟨hy,(hy.cell (p:=⟨w.heap.size,0,none⟩) dz).trans d0,(hy.cell (p:=⟨w.heap.size+1,0,none⟩) ez).trans e0⟩
 refine RC.wp_region_runF (C:=fun y=>Below W.heap.size W y∧y.cell? ⟨w.heap.size,0,none⟩=some (.slice a m cap)∧y.cell? ⟨w.heap.size+1,0,none⟩=some (.slice b n cap')) (fun y=>Below W.heap.size W y) (by kernel_rfl) (stable_below W) (Below.refl _ _) ?_
 change RC.Run _ _ _ _ _ 12 _ _ _
 refine RC.run_take (i:=0) (.pointer (some ⟨w.heap.size,0,none⟩)) rfl (by kernel_rfl) (by kernel_rfl) (by kernel_rfl) rfl hFC (fun y hy=>by obtain ⟨-,q0,q1⟩:=hy; go_simp) ?_
 simp only [puts]
 refine RC.run_take (i:=1) (.pointer (some ⟨w.heap.size,0,none⟩)) rfl (by kernel_rfl) (by kernel_rfl) (by kernel_rfl) rfl hFC (fun y hy=>by obtain ⟨-,q0,q1⟩:=hy; go_simp) ?_
 simp only [puts]
 refine RC.run_take (i:=2) (.slice a m cap) rfl (by kernel_rfl) (by kernel_rfl) (by kernel_rfl) rfl hFC (fun y hy=>by obtain ⟨-,q0,q1⟩:=hy; go_simp) ?_
 simp only [puts]
 refine RC.run_take (i:=3) (.int .i64 (m:Int)) rfl (by kernel_rfl) (by kernel_rfl) (by kernel_rfl) rfl hFC (fun y hy=>by obtain ⟨-,q0,q1⟩:=hy; go_simp) ?_
 simp only [puts]
 refine RC.run_take (i:=5) (.pointer (some ⟨w.heap.size+1,0,none⟩)) rfl (by kernel_rfl) (by kernel_rfl) (by kernel_rfl) rfl hFC (fun y hy=>by obtain ⟨-,q0,q1⟩:=hy; go_simp) ?_
 simp only [puts]
 refine RC.run_take (i:=6) (.pointer (some ⟨w.heap.size+1,0,none⟩)) rfl (by kernel_rfl) (by kernel_rfl) (by kernel_rfl) rfl hFC (fun y hy=>by obtain ⟨-,q0,q1⟩:=hy; go_simp) ?_
 simp only [puts]
 refine RC.run_take (i:=7) (.slice b n cap') rfl (by kernel_rfl) (by kernel_rfl) (by kernel_rfl) rfl hFC (fun y hy=>by obtain ⟨-,q0,q1⟩:=hy; go_simp) ?_
 simp only [puts]
 refine RC.run_take (i:=8) (.int .i64 (n:Int)) rfl (by kernel_rfl) (by kernel_rfl) (by kernel_rfl) rfl hFC (fun y hy=>by obtain ⟨-,q0,q1⟩:=hy; go_simp) ?_
 simp only [puts]
 refine RC.run_only (i:=4) (by kernel_rfl) (RC.at_call (fun v y=>Below W.heap.size W y ∧ ∃ g,v = .slice (some ⟨g,0,none⟩) m m∧Lst y (List.range m) (some ⟨g,0,none⟩) m) rfl rfl (fun v y y1 h hb=>⟨h.1.trans (hb.mono h.1.size),h.2.imp fun g h=>⟨h.1,h.2.below hb⟩⟩) (fun v y h=>hFC y h.1) (fun y hy=>⟨92, #[.int .i64 (m:Int)],(Go.Conc.run_call_body (fn:=Try.f92) rfl Try.func92 (by kernel_rfl) (by kernel_rfl)).trans (by simp [Act.eval]),?_⟩) ?_)
 ·refine (indexes_c m y hm4).mono ?_
  rintro e y1 ⟨g,rfl,h1,h2⟩
  exact ⟨_,rfl,hy.trans (h2.mono hy.size),g,rfl,h1⟩
 rintro v ⟨_,_,g1,rfl,_⟩
 refine RC.run_mono _ _ _ (fun y=>Below W.heap.size W y∧Lst y (List.range m) (some ⟨g1,0,none⟩) m) _ ?_ ?_
 ·rintro y ⟨h1,g,e,h2⟩
  simp only [Value.slice.injEq,Option.some.injEq,Addr.mk.injEq,and_true] at e
  subst e
  exact ⟨h1,h2⟩
 simp only [puts]
 refine RC.run_only (i:=9) (by kernel_rfl) (RC.at_call (fun v y=>(Below W.heap.size W y∧Lst y (List.range m) (some ⟨g1,0,none⟩) m) ∧ ∃ g,v = .slice (some ⟨g,0,none⟩) n n∧Lst y (List.range n) (some ⟨g,0,none⟩) n) rfl rfl (fun v y y1 h hb=>⟨⟨h.1.1.trans (hb.mono h.1.1.size),h.1.2.below hb⟩,h.2.imp fun g h=>⟨h.1,h.2.below hb⟩⟩) (fun v y h=>hFC y h.1.1) (fun y hy=>⟨92, #[.int .i64 (n:Int)],(Go.Conc.run_call_body (fn:=Try.f92) rfl Try.func92 (by kernel_rfl) (by kernel_rfl)).trans (by simp [Act.eval]),?_⟩) ?_)
 ·refine (indexes_c n y hn4).mono ?_
  rintro e y1 ⟨g,rfl,h1,h2⟩
  exact ⟨_,rfl,⟨hy.1.trans (h2.mono hy.1.size),hy.2.below h2⟩,g,rfl,h1⟩
 rintro v ⟨_,_,g2,rfl,_⟩
 refine RC.run_mono _ _ _ (fun y=>Below W.heap.size W y∧Lst y (List.range m) (some ⟨g1,0,none⟩) m∧Lst y (List.range n) (some ⟨g2,0,none⟩) n) _ ?_ ?_
 ·rintro y ⟨⟨h1,h3⟩,g,e,h2⟩
  simp only [Value.slice.injEq,Option.some.injEq,Addr.mk.injEq,and_true] at e
  subst e
  exact ⟨h1,h3,h2⟩
 simp only [puts]
 refine RC.run_take (i:=10) (.slice (some ⟨g1,0,none⟩) m m) rfl (by kernel_rfl) (by kernel_rfl) (by kernel_rfl) rfl (fun y h=>hFC y h.1) (fun y hy=>by obtain ⟨-,q0,q1⟩:=hy; go_simp) ?_
 simp only [puts]
 refine RC.run_take (i:=11) (.slice (some ⟨g2,0,none⟩) n n) rfl (by kernel_rfl) (by kernel_rfl) (by kernel_rfl) rfl (fun y h=>hFC y h.1) (fun y hy=>by obtain ⟨-,q0,q1⟩:=hy; go_simp) ?_
 simp only [puts]
 refine ⟨by kernel_rfl,fun y hy => ?_⟩
 obtain ⟨h1,h2,h3⟩:=hy
 have G1:=Lib.hid h1
 have G2:=Lib.hid h2
 have G3:=Lib.hid h3
 clear h1 h2 h3
 go_wp2_with fail
 clear hFC
 go_loopw [6,7] (fun r c wr=> ∃ R C p q pc qc,r = .slice p R.length pc∧c = .slice q C.length qc∧Lst wr R p pc∧Lst wr C q qc∧(∀ i ∈ R,i<m)∧(∀ j ∈ C,j<n)∧R.length≤4∧C.length≤4∧leftF f f' (R.length+C.length) R C=rs∧Below W.heap.size W wr) (fun r c _=>lenV r+lenV c)
 case atStart=>exact ⟨List.range m,List.range n,_,_,_,_,by rw [List.length_range],by rw [List.length_range],G2.out,G3.out,fun i hi=>List.mem_range.1 hi,fun i hi=>List.mem_range.1 hi,by simpa using hm4,by simpa using hn4,by rw [List.length_range,List.length_range]; exact Hrs.out,G1.out⟩
 case round=>
  obtain ⟨R,C,p,q,pc,qc,rfl,rfl,hR,hC,hRm,hCn,hR4,hC4,hl,hb⟩:=hrel
  have hwb:Below w.heap.size w wr:=HB.out.trans (hb.mono HB.out.size)
  have hN1:=needless_c a m n cap f R C p q pc qc wr (Hf.out.below hwb) HO.out hR hC hRm hCn hR4 hC4
  have d1:wr.cell? ⟨w.heap.size,0,none⟩=some (.slice a m cap):=(hb.cell (p:=⟨w.heap.size,0,none⟩) dz).trans d0
  have d1z:w.heap.size<wr.heap.size:=Nat.lt_of_lt_of_le dz hb.size
  cases h1:needO f C R with
  | some i=>
    rw [h1] at hN1
    have hi:=need_lt h1
    have hl2:leftF f f' ((R.eraseIdx i).length+C.length) (R.eraseIdx i) C=rs:=by
     rw [List.length_eraseIdx_of_lt hi]
     rw [show R.length+C.length=(R.length-1+C.length)+1 by omega,leftF,h1] at hl
     exact hl
    have HN1:=Lib.hid hN1
    have HR:=Lib.hid hR
    have HC:=Lib.hid hC
    have HRm:=Lib.hid (erase_lt (i:=i) hRm)
    have HCn:=Lib.hid hCn
    have Hl2:=Lib.hid hl2
    have Hb:=Lib.hid hb
    clear hN1 hR hC hRm hCn hl hl2 hb hwb h1 d0 dz e0 ez
    simp only [Option.getD_some,Option.isSome_some] at HN1
    go_wp2_with fail
    refine HN1.out.mono ?_
    rintro e w1 ⟨rfl,hb1⟩
    have hw:=without_c R p pc i w1 (HR.out.below hb1) hi (by omega)
    have HW1:=Lib.hid hw
    have HC1:=Lib.hid (HC.out.below hb1)
    have Hb1:=Lib.hid (Hb.out.trans (hb1.mono Hb.out.size))
    clear hw hb1
    go_wp2_with fail
    refine HW1.out.mono ?_
    rintro e w2 ⟨⟨x,c,rfl,hx⟩,hb2⟩
    have HX:=Lib.hid hx
    have HC2:=Lib.hid (HC1.out.below hb2)
    have Hb2:=Lib.hid (Hb1.out.trans (hb2.mono Hb1.out.size))
    clear hx hb2
    go_wp2_with fail
    go_roundw
    case rel=>exact ⟨R.eraseIdx i,C,x,q,c,qc,by rw [List.length_eraseIdx_of_lt hi],rfl,HX.out,HC2.out,HRm.out,HCn.out,by rw [List.length_eraseIdx_of_lt hi]; omega,hC4,Hl2.out,Hb2.out⟩
    case measure=>simp [lenV]; omega
  | none=>
    rw [h1] at hN1
    have HN1:=Lib.hid hN1
    have HR:=Lib.hid hR
    have HC:=Lib.hid hC
    have HRm:=Lib.hid hRm
    have HCn:=Lib.hid hCn
    have Hl:=Lib.hid hl
    have Hb:=Lib.hid hb
    have H1:=Lib.hid h1
    clear hN1 hR hC hRm hCn hl hb hwb h1 d0 dz
    simp only [Option.getD_none,Option.isSome_none] at HN1
    go_wp2_with fail
    refine HN1.out.mono ?_
    rintro e w1 ⟨rfl,hb1⟩
    have hb01:Below W.heap.size W w1:=Hb.out.trans (hb1.mono Hb.out.size)
    have hN2:=needless_c b n m cap' f' C R q p qc pc w1 (Hf'.out.below (HB.out.trans (hb01.mono HB.out.size))) HO'.out (HC.out.below hb1) (HR.out.below hb1) HCn.out HRm.out hC4 hR4
    have e1:w1.cell? ⟨w.heap.size+1,0,none⟩=some (.slice b n cap'):=(hb01.cell (p:=⟨w.heap.size+1,0,none⟩) ez).trans e0
    have e1z:w.heap.size+1<w1.heap.size:=Nat.lt_of_lt_of_le ez hb01.size
    have HR1:=Lib.hid (HR.out.below hb1)
    have HC1:=Lib.hid (HC.out.below hb1)
    have Hb1:=Lib.hid hb01
    clear hb1 hb01 d1 d1z e0 ez
    cases h2:needO f' R C with
    | some i=>
      rw [h2] at hN2
      have hi:=need_lt h2
      have hl2:leftF f f' (R.length+(C.eraseIdx i).length) R (C.eraseIdx i)=rs:=by
       have hl:=Hl.out
       rw [List.length_eraseIdx_of_lt hi]
       rw [show R.length+C.length=(R.length+(C.length-1))+1 by omega,leftF,H1.out] at hl
       dsimp only at hl
       rw [h2] at hl
       exact hl
      have HN2:=Lib.hid hN2
      have HCe:=Lib.hid (erase_lt (i:=i) HCn.out)
      have Hl2:=Lib.hid hl2
      clear hN2 hl2 h2
      simp only [Option.getD_some,Option.isSome_some] at HN2
      go_wp2_with fail
      refine HN2.out.mono ?_
      rintro e w2 ⟨rfl,hb2⟩
      have hw:=without_c C q qc i w2 (HC1.out.below hb2) hi (by omega)
      have HW1:=Lib.hid hw
      have HR2:=Lib.hid (HR1.out.below hb2)
      have Hb2:=Lib.hid (Hb1.out.trans (hb2.mono Hb1.out.size))
      clear hw hb2
      go_wp2_with fail
      refine HW1.out.mono ?_
      rintro e w3 ⟨⟨x,c,rfl,hx⟩,hb3⟩
      have HX:=Lib.hid hx
      have HR3:=Lib.hid (HR2.out.below hb3)
      have Hb3:=Lib.hid (Hb2.out.trans (hb3.mono Hb2.out.size))
      clear hx hb3
      go_wp2_with fail
      go_roundw
      case rel=>exact ⟨R,C.eraseIdx i,p,x,pc,c,rfl,by rw [List.length_eraseIdx_of_lt hi],HR3.out,HX.out,HRm.out,HCe.out,hR4,by rw [List.length_eraseIdx_of_lt hi]; omega,Hl2.out,Hb3.out⟩
      case measure=>simp [lenV]; omega
    | none=>
      rw [h2] at hN2
      have hrs:rs=(R,C):=by rw [← Hl.out]; exact left_end H1.out h2 _
      subst hrs
      have HN2:=Lib.hid hN2
      clear hN2 h2
      simp only [Option.getD_none,Option.isSome_none] at HN2
      go_wp2_with fail
      refine HN2.out.mono ?_
      rintro e w2 ⟨rfl,hb2⟩
      have HR2:=Lib.hid (HR1.out.below hb2)
      have HC2:=Lib.hid (HC1.out.below hb2)
      have Hb2:=Lib.hid (Hb1.out.trans (hb2.mono Hb1.out.size))
      clear hb2
      go_wp2_with fail
      exact bodyPost_ret (v:= .tuple #[.slice p R.length pc, .slice q C.length qc]) (by simp [results,Try.results78,go_sem]) rfl ⟨p,pc,q,qc,rfl,HR2.out,HC2.out,HB.out.trans (Hb2.out.mono HB.out.size)⟩
end Go.Proofs.Ytkbbhihndigmeaa

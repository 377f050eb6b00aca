/- Maps of choices: how a choice reads as a key; what a map of plans holds. -/
import Derived.DeepKeys4
import Derived.Maps.OwnIn
import Derived.Maps.Ext
import Derived.Test.YtkbbhihndigmeaaProg
import Derived.Test.YtkbbhihndigmeaaBasai
import Derived.Shelf.AbstractIn
import Derived.RangeFuncGives
import Derived.Sort.MapsRangeIn
import Derived.WalkKit
import Derived.OwnWalkIn
import Derived.TacticsInMore
import Derived.LoopNIn
import Derived.LoopIn
import Derived.Test.YtkbbhihndigmeaaBasaa
import Derived.Test.YtkbbhihndigmeaaBasag
import Derived.RangeFuncFrom
import Derived.Test.YtkbbhihndigmeaaBasac
import Derived.RangeFuncBound
import Derived.Shelf.Abstract
import Derived.Shelf.RegionOpen
import Derived.Test.YtkbbhihndigmeaaBasad
namespace Go.Proofs.Ytkbbhihndigmeaa
open Go Go.RowKit Go.Maps
structure K9 where
 (k r0 r1 r2 r3 g0 g1 g2 g3:Int)
abbrev k9V (p:K9):Value:= .agg #[.int .i64 p.k, .int .i64 p.r0, .int .i64 p.r1, .int .i64 p.r2, .int .i64 p.r3, .int .i64 p.g0, .int .i64 p.g1, .int .i64 p.g2, .int .i64 p.g3]
abbrev k9Row (p:K9):Array Value := #[.int .i64 p.k, .int .i64 p.r0, .int .i64 p.r1, .int .i64 p.r2, .int .i64 p.r3, .int .i64 p.g0, .int .i64 p.g1, .int .i64 p.g2, .int .i64 p.g3]
def k9 (c:List Nat × List Nat):K9:=⟨c.1.length,natI c.1 0,natI c.1 1,natI c.1 2,natI c.1 3,natI c.2 0,natI c.2 1,natI c.2 2,natI c.2 3⟩
theorem laidC:laidOutB Try.prog=true:=by kernel_rfl
theorem rowC:(112:TypeId)<Try.prog.types.size:=of_decide_eq_true (by kernel_rfl)
theorem wideC:(match Try.prog.underlying 112 with | some (.array _ _) | some (.struct _)=>true | _=>false)=true:=by rw [Try.underlying112]
set_option maxRecDepth 100000 in
theorem keyedC:Keyed Try.prog 112:=Keyed.of_law (deep_law_laid laidC (m:=3) (by omega) rowC (by kernel_rfl) wideC)
theorem keyTypeC:Try.prog.keyType 112=true:=by kernel_rfl
theorem cellsC:Try.prog.cellsOf 112=9:=by kernel_rfl
theorem cellsI:Try.prog.cellsOf 3=1:=by kernel_rfl
theorem cellsA:Try.prog.cellsOf 110=4:=by kernel_rfl
theorem sizeTypes : ∃ m,Try.prog.types.size=m+2:=by
 have h:2≤Try.prog.types.size:=of_decide_eq_true (by kernel_rfl)
 exact ⟨Try.prog.types.size-2,by omega⟩
theorem range4:List.range 4=[0,1,2,3]:=rfl
def InC (x:Int):Prop:= -9223372036854775808≤x∧x≤9223372036854775807
def K9.ok (p:K9):Prop:=InC p.k∧InC p.r0∧InC p.r1∧InC p.r2∧InC p.r3∧InC p.g0∧InC p.g1∧InC p.g2∧InC p.g3
def keyL (p:K9):Lit:= .string (keyBytes [.int .i64 p.k, .int .i64 p.r0, .int .i64 p.r1, .int .i64 p.r2, .int .i64 p.r3, .int .i64 p.g0, .int .i64 p.g1, .int .i64 p.g2, .int .i64 p.g3])
theorem wf64 {x:Int} (h:InC x):(Lit.int .i64 x).wf=true:=by
 simp [Lit.wf,IntKind.min,IntKind.max,IntKind.bits,IntKind.signed]
 exact h
theorem wf64_inv {x:Int} (h:(Lit.int .i64 x).wf=true):InC x:=by
 simp [Lit.wf,IntKind.min,IntKind.max,IntKind.bits,IntKind.signed] at h
 exact h
theorem lits_int {m:Nat} {x:Int} (h:InC x):Try.prog.keyLits (m+1) 3 [.int .i64 x]=some [.int .i64 x]:=by
 unfold Program.keyLits
 simp [Try.underlying3,wf64 h]
theorem lits_four {m:Nat} {a b c d:Int} (h0:InC a) (h1:InC b) (h2:InC c) (h3:InC d):Try.prog.keyLits (m+1+1) 110 [.int .i64 a, .int .i64 b, .int .i64 c, .int .i64 d]=some [.int .i64 a, .int .i64 b, .int .i64 c, .int .i64 d]:=by
 unfold Program.keyLits
 simp only [Try.underlying110]
 rw [if_pos (by rw [cellsA]; rfl),range4]
 simp [cellsI,lits_int h0,lits_int h1,lits_int h2,lits_int h3]
theorem keyOf_choice {p:K9} (h:p.ok):keyOf Try.prog 112 (k9V p)=some (keyL p):=by
 obtain ⟨h0,h1,h2,h3,h4,h5,h6,h7,h8⟩:=h
 obtain ⟨m,hm⟩:=sizeTypes
 unfold keyOf
 simp only [Try.underlying112]
 rw [if_pos (by simp [keyTypeC,Value.formed,Try.underlying112,cellsC]),hm]
 unfold Program.keyLits
 simp only [Try.underlying112,Value.cells]
 rw [if_pos (by rw [cellsC]; exact ⟨rfl,by simp⟩)]
 simp [cellsI,cellsA,lits_int h0,lits_four h1 h2 h3 h4,lits_four h5 h6 h7 h8,keyL]
theorem lits64 {m:Nat} {v:Value} {ls:List Lit} (h:Try.prog.keyLits m 3 [v]=some ls) : ∃ n,v = .int .i64 n∧InC n∧ls=[.int .i64 n]:=by
 cases m with
 | zero=>cases h
 | succ m=>
   unfold Program.keyLits at h
   simp only [Try.underlying3] at h
   cases v <;> simp at h
   obtain ⟨⟨rfl,hw⟩,rfl⟩:=h
   exact ⟨_,rfl,wf64_inv hw,rfl⟩
theorem litsA {m:Nat} {a b c d:Value} {ls:List Lit} (h:Try.prog.keyLits (m+1) 110 [a,b,c,d]=some ls) : ∃ x y z u:Int,a = .int .i64 x∧b = .int .i64 y∧c = .int .i64 z∧d = .int .i64 u∧(InC x∧InC y∧InC z∧InC u)∧ls=[.int .i64 x, .int .i64 y, .int .i64 z, .int .i64 u]:=by
 unfold Program.keyLits at h
 simp only [Try.underlying110] at h
 rw [if_pos (by rw [cellsA]; rfl),range4] at h
 simp [cellsI] at h
 cases hA:Try.prog.keyLits m 3 [a] with
 | none=>simp [hA] at h
 | some la=>
   cases hB:Try.prog.keyLits m 3 [b] with
   | none=>simp [hA,hB] at h
   | some lb=>
     cases hC:Try.prog.keyLits m 3 [c] with
     | none=>simp [hA,hB,hC] at h
     | some lc=>
       cases hD:Try.prog.keyLits m 3 [d] with
       | none=>simp [hA,hB,hC,hD] at h
       | some ld=>
         obtain ⟨n0,rfl,i0,rfl⟩:=lits64 hA
         obtain ⟨n1,rfl,i1,rfl⟩:=lits64 hB
         obtain ⟨n2,rfl,i2,rfl⟩:=lits64 hC
         obtain ⟨n3,rfl,i3,rfl⟩:=lits64 hD
         simp [hA,hB,hC,hD] at h
         exact ⟨n0,n1,n2,n3,rfl,rfl,rfl,rfl,⟨i0,i1,i2,i3⟩,h.symm⟩
set_option maxRecDepth 100000 in
theorem keyOf_inv {v:Value} {kl:Lit} (h:keyOf Try.prog 112 v=some kl) : ∃ p:K9,v=k9V p∧p.ok∧kl=keyL p:=by
 obtain ⟨m,hm⟩:=sizeTypes
 unfold keyOf at h
 simp only [Try.underlying112] at h
 split at h
 case isFalse=>cases h
 case isTrue hf=>
  simp only [keyTypeC,Bool.true_and] at hf
  rw [hm] at h
  cases v with
  | agg cs=>
    simp only [Value.formed,Try.underlying112,cellsC,beq_iff_eq] at hf
    obtain ⟨l⟩:=cs
    match l,hf with
    | [a,b,c,d,e,f,g,i,j],_=>
      unfold Program.keyLits at h
      simp only [Try.underlying112,Value.cells] at h
      rw [if_pos (by rw [cellsC]; exact ⟨rfl,by simp⟩)] at h
      simp [cellsI,cellsA] at h
      cases hA:Try.prog.keyLits (m+2) 3 [a] with
      | none=>simp [hA] at h
      | some la=>
        cases hB:Try.prog.keyLits (m+2) 110 [b,c,d,e] with
        | none=>simp [hA,hB] at h
        | some lb=>
          cases hC:Try.prog.keyLits (m+2) 110 [f,g,i,j] with
          | none=>simp [hA,hB,hC] at h
          | some lc=>
            obtain ⟨n0,rfl,i0,rfl⟩:=lits64 hA
            obtain ⟨n1,n2,n3,n4,rfl,rfl,rfl,rfl,⟨i1,i2,i3,i4⟩,rfl⟩:=litsA hB
            obtain ⟨n5,n6,n7,n8,rfl,rfl,rfl,rfl,⟨i5,i6,i7,i8⟩,rfl⟩:=litsA hC
            simp [hA,hB,hC] at h
            exact ⟨⟨n0,n1,n2,n3,n4,n5,n6,n7,n8⟩,rfl,⟨i0,i1,i2,i3,i4,i5,i6,i7,i8⟩,h.symm⟩
  | _=>simp [Value.formed,Try.underlying112] at hf
theorem K9.ext' {p q:K9} (h:k9V p=k9V q):p=q:=by
 cases p; cases q
 simp at h
 obtain ⟨h0,h1,h2,h3,h4,h5,h6,h7,h8⟩:=h
 subst h0 h1 h2 h3 h4 h5 h6 h7 h8
 rfl
theorem keyL_inj {p q:K9} (hp:p.ok) (hq:q.ok) (h:keyL p=keyL q):p=q:=
 K9.ext' (keyedC.inj (keyOf_choice hp) (by rw [h]; exact keyOf_choice hq))
def heldR (v:Value):Option (DataW Value × List MemPlace):=some (.held v,[])
def Plans (w:World) (b N:Nat) (S:K9→Prop) (val:K9→Nat→Int):Prop:=
 ∃ D:DataW Value,w.ownsMap Try.prog 112 heldR b N D∧(∀ p,S p→p.ok)∧(∀ p,p.ok→(has D (keyL p)=true↔S p))∧(∀ p,S p→D.atKey (keyL p) .nil = .held (planV (val p)))
theorem Plans.below {w w':World} {b N:Nat} {S:K9→Prop} {val:K9→Nat→Int} (h:Plans w b N S val) (hb:Below w.heap.size w w'):Plans w' b N S val:=by
 obtain ⟨D,⟨es,clock,hm,F,hs,hD⟩,h1⟩:=h
 exact ⟨D,⟨es,clock,(hb.block b (Array.getElem?_eq_some_iff.1 hm).1).trans hm,F,hs,hD⟩,h1⟩
theorem Plans.block {w w':World} {b N:Nat} {S:K9→Prop} {val:K9→Nat→Int} (h:Plans w b N S val) (hb:w'.heap[b]? = w.heap[b]?):Plans w' b N S val:=by
 obtain ⟨D,⟨es,clock,hm,F,hs,hD⟩,h1⟩:=h
 exact ⟨D,⟨es,clock,hb.trans hm,F,hs,hD⟩,h1⟩
theorem Plans.lt {w:World} {b N:Nat} {S:K9→Prop} {val:K9→Nat→Int} (h:Plans w b N S val):b<w.heap.size:=by
 obtain ⟨D,h,_⟩:=h
 exact h.lt
theorem Plans.congr {w:World} {b N:Nat} {S S':K9→Prop} {val:K9→Nat→Int} (h:Plans w b N S val) (hS : ∀ p,S p↔S' p):Plans w b N S' val:=by
 have:S=S':=by funext p; exact propext (hS p)
 rwa [← this]
theorem plans_made (w:World) (val:K9→Nat→Int):Plans (w.alloc (.map #[] 0)) w.heap.size 0 (fun _=>False) val:=
 ⟨_,World.ownsMap_made w _ _ _,fun _ h=>h.elim,fun p _=>⟨fun h=>by simp [has_eq] at h,fun h=>h.elim⟩,fun _ h=>h.elim⟩
theorem plans_put {D:DataW Value} {S:K9→Prop} {val:K9→Nat→Int} {q:K9} (hm:IsMap D) (h1 : ∀ p,S p→p.ok) (h2 : ∀ p,p.ok→(has D (keyL p)=true↔S p)) (h3 : ∀ p,S p→D.atKey (keyL p) .nil = .held (planV (val p))) (hq:q.ok) :
 (∀ p,(S p∨p=q)→p.ok)∧(∀ p,p.ok→(has (D.put (keyL q) (.held (planV (val q)))) (keyL p)=true↔(S p∨p=q))) ∧
 (∀ p,(S p∨p=q)→(D.put (keyL q) (.held (planV (val q)))).atKey (keyL p) .nil = .held (planV (val p))):=by
 refine ⟨?_,?_,?_⟩
 ·rintro p (h | rfl)
  ·exact h1 p h
  ·exact hq
 ·intro p hp
  by_cases e:p=q
  ·subst e
   simp [has_put_same hm (keyedC.key (keyOf_choice hq))]
  ·have hne:keyL p ≠ keyL q:=fun h=>e (keyL_inj hp hq h)
   rw [has_put_other hne]
   simp [e,h2 p hp]
 ·intro p hp
  by_cases e:p=q
  ·subst e
   exact atKey_put_same hm (keyedC.key (keyOf_choice hq)) _ _
  ·have hS:S p:=hp.resolve_right e
   have hne:keyL p ≠ keyL q:=fun h=>e (keyL_inj (h1 p hS) hq h)
   rw [atKey_put_other hne]
   exact h3 p hS
theorem left_cut {left:Lit→Bool} {p q:K9} (hp:p.ok) (hq:q.ok):(left (keyL p) && !(keyL p).sameKey (keyL q))=true↔(left (keyL p)=true∧p ≠ q):=by
 by_cases e:p=q
 ·subst e
  simp [WideAt.sameKey_self (keyedC.key (keyOf_choice hp))]
 ·have hne:keyL p ≠ keyL q:=fun h=>e (keyL_inj hp hq h)
  simp [sameKey_ne hne,e]
end Go.Proofs.Ytkbbhihndigmeaa

namespace Go.Proofs.Ytkbbhihndigmeaa
open Go Go.RowKit Go.Maps Go.Shelf
attribute [local go_sem] Oper.semAt_some
def Come (S:K9→Prop) (left:Lit→Bool) (ss:List K9):Prop:=
 (∀ p,p ∈ ss→S p)∧(∀ p,S p→p ∈ ss∨left (keyL p)=true)∧(∀ p,p.ok→left (keyL p)=true→S p)
theorem come_step {S:K9→Prop} {left:Lit→Bool} {ss:List K9} {q:K9} (h1 : ∀ p,S p→p.ok) (h:Come S left ss) (hq:q.ok) (hl:left (keyL q)=true):Come S (fun z=>left z && !z.sameKey (keyL q)) (ss ++ [q]):=by
 obtain ⟨a1,a2,a3⟩:=h
 refine ⟨fun p hp => ?_,fun p hp => ?_,fun p hp hl'=>a3 p hp ((left_cut hp hq).1 hl').1⟩
 ·rcases List.mem_append.1 hp with hp | hp
  ·exact a1 p hp
  ·obtain rfl:p=q:=by simpa using hp
   exact a3 p hq hl
 ·by_cases e:p=q
  ·exact .inl (by simp [e])
  ·rcases a2 p hp with h | h
   ·exact .inl (List.mem_append.2 (.inl h))
   ·exact .inr ((left_cut (h1 p hp) hq).2 ⟨h,e⟩)
set_option maxHeartbeats 1000000 in
theorem mvalues_c (b:Nat) (w:World) :
 Calls Try.prog 87 #[.map (some b)] w fun e w'=>e = .returned (.func (.func 96) #[] #[.pointer (some ⟨w.heap.size,0,none⟩)])∧w.alloc (.cells #[.map (some b)] 109)=w':=by
 go_enter Try.func87,Try.ntmps87
 go_wp2_with fail
 go_ret
 exact ⟨rfl,rfl⟩
set_option maxRecDepth 100000 in
set_option maxHeartbeats 4000000 in
theorem mvalues_gives (Bm b N:Nat) (S:K9→Prop) (val:K9→Nat→Int) (w:World) (hm:RowIs w Bm #[.map (some b)] 109) (hV:Plans w b N S val) :
 SeqGives Fence.wide 1 Try.prog 96 #[.pointer (some ⟨Bm,0,none⟩)] (fun x=>planV (val x)) (fun ss=>(∀ p,p ∈ ss↔S p)∧ss.length≤N) N w:=by
 intro l J W hW hJ hY h0
 obtain ⟨D,hown,s1,s2,s3⟩:=hV.below hW
 have hsz:=hown.size_le
 have hm0:W.cell? ⟨Bm,0,none⟩=some (.map (some b)):=(RowIs.below hm hW).cell 0
 have HJ:=Lib.hid hJ
 have HY:=Lib.hid hY
 have H1:=Lib.hid s1
 have H2:=Lib.hid s2
 have H0:=Lib.hid h0
 have H3:=Lib.hid s3
 clear hJ hY s1 s2 s3 h0 hV hm hW
 show CallsIn Fence.wide 1 Try.prog 96 #[.func (.yield l) #[] #[], .pointer (some ⟨Bm,0,none⟩)] W _
 refine callsIn_of_wp Try.func96 rfl trivial ?_ rfl
 simp only [Try.ntmps96,List.size_toArray,List.length_cons,List.length_nil,Nat.reduceAdd,Nat.reduceSub,Array.replicate_succ,Array.replicate_zero,List.push_toArray,List.append_toArray,List.nil_append,List.cons_append]
 gi_wp2_with (first
  | (gi_at_range; refine wpListIn_range_own _ rfl _ 109 rfl 112 77 keyedC Try.underlying109 heldR b N _ rfl hown ?_; intro w0 hrg0 hg0 hs0)
  | fail)
 try go_frame
 gi_loopw [7] (fun _ wr=> ∃ (left:Lit→Bool) (cnt:Nat) (ss:List K9),wr.ranges Try.prog 112 heldR b W.heap.size N D left cnt∧ss.length+cnt≤N∧Come S left ss∧J ss wr)
  (fun _ wr=>wr.rangeLeft b W.heap.size)
 case atStart=>
  exact ⟨_,_,[],hrg0,by simpa using hsz,⟨fun p hp=>by simp at hp,fun p hp=> .inr ((H2.out p (H1.out p hp)).2 hp),fun p hp h=>(H2.out p hp).1 h⟩,HJ.out [] W w0 none H0.out hg0 (fun r e=>by cases e)⟩
 case round=>
  obtain ⟨left,cnt,ss,hrg,hcs,hC,hJs⟩:=hrel
  gi_wp2_with (first
   | (gi_at_next; refine wpListIn_next_ranges _ rfl _ rfl 112 keyedC heldR k9V (id:Value→Value) (fun key kl hk=>by obtain ⟨p,hp,_⟩:=keyOf_inv hk; exact ⟨p,hp⟩) (fun v y hy=>⟨v,rfl⟩) b W.heap.size N _ _ _ rfl hrg ?_ ?_)
   | fail)
  ·intro hc0 hl0
   gi_wp2
   go_end0
   refine ⟨⟨_,rfl⟩,ss,⟨fun p=>⟨hC.1 p,fun hp => ?_⟩,by omega⟩,hJs⟩
   rcases hC.2.1 p hp with h | h
   ·exact h
   ·rw [hl0] at h; cases h
  ·intro x c kl yd yp w1 cnt1 hkey hlk hv hat hrg1 hlt hg1 hs1 hen
   obtain ⟨q,hq,hok,rfl⟩:=keyOf_inv hkey
   obtain rfl:=K9.ext' hq
   have hSx:S x:=hC.2.2 x hok hlk
   obtain rfl:c=planV (val x):=by
    have e1:=H3.out x hSx
    rw [hat] at e1
    simp [heldR] at hv
    rw [← hv.1] at e1
    simpa using e1
   have hJ1:J ss w1:=HJ.out ss wr w1 (some W.heap.size) hJs hg1 (fun r e=>by cases e; exact ⟨Nat.le_refl _,hrg.iter_walk⟩)
   obtain ⟨W2,hW2⟩ : ∃ W2,w1.alloc (.cells (planRow (val x)) 77)=W2:=⟨_,rfl⟩
   have hrg2:W2.ranges Try.prog 112 heldR b W.heap.size N D (fun z=>left z && !z.sameKey (keyL x)) cnt1:=by rw [← hW2]; exact hrg1.alloc _
   have hJ2:J ss W2:=by rw [← hW2]; exact HJ.out ss w1 _ none hJ1 (World.grownBy_alloc w1 _ none) (fun r e=>by cases e)
   have hrow:RowIs W2 w1.heap.size (planRow (val x)) 77:=by rw [← hW2]; exact heap_new_at _ _ _ rfl
   obtain ⟨fn,tmps,assign,body,hy,hR⟩:=HY.out ss x W2 hJ2 (by omega)
   obtain ⟨⟨d0,d1,d2,d3⟩,dz⟩:=row4 hrow
   have HC:=Lib.hid hC
   have Hrg2:=Lib.hid hrg2
   have Hlt:=Lib.hid (show cnt1<wr.rangeLeft b W.heap.size by rw [hrg.left_eq]; exact hlt)
   have Hlk:=Lib.hid hlk
   have Hcs:=Lib.hid (show (ss ++ [x]).length+cnt1≤N by simp; omega)
   clear hq hg1 hat hrow hrg2 hrg hlt hrg1 hkey hv hrg0 hg0 hown hs1 hs0 hlk hJ1 hJ2 hJs hC hcs
   try dsimp only at hy
   gi_wp2
   refine hR.mono ?_
   rintro e W3 ⟨rfl,hJ3,hk3⟩
   clear d0 d1 d2 d3 dz hW2
   gi_wp2
   have hrg3:=Hrg2.out.of_walks hk3
   go_roundw
   case rel=>exact ⟨_,cnt1,ss ++ [x],hrg3,Hcs.out,come_step H1.out HC.out hok Hlk.out,hJ3⟩
   case measure=>rw [hrg3.left_eq]; exact Hlt.out
end Go.Proofs.Ytkbbhihndigmeaa

namespace Go.Proofs.Ytkbbhihndigmeaa
open Go Go.RowKit
def goesOn {α : Type} (I:List α → World→Prop) (xs:List α) (A:World):Exit→Act→World→Prop
 | .normal,_,B=>KeepsOthers A B∧I xs B
 | _,_,_=>False
theorem wpIn_rangeG {α : Type} {n:Nat} {P:Program} {g:Operand} {ps:Array Tmp} {assign body:Code} {Q:Exit→Act→World→Prop} {a:Act} {w:World} {gf:Nat} {lb:Array Value} {enc : α → Value} {S:List α → Prop} {N:Nat}
 (hg:a.eval g = .func (.func gf) #[] lb) (eg : ∀ args w,(callFunc gf args).run P w = .ok (.enter gf args) w)
 (hseq:SeqGives Fence.wide 1 P gf lb enc S N w) (hps:ps.size=1)
 (I:List α → World→Prop) (hI:OwnFrom w.heap.size I) (h0:I [] w)
 (Ax : α → Act→World→Prop) (hAx : ∀ x a' A o,w.heap.size+2≤A.heap.size→Ax x a' A→Ax x a' (A.putObj (w.heap.size+1) o))
 (hassign : ∀ (l:Nat) (x : α) (A:World) (T:Act→World→Prop),w.heap.size+2≤A.heap.size→(∀ a' A',A.grownBy A' none→Ax x a' A'→T a' A') →
   assign.wpIn (Fence.wide.inRound l) n P (Exit.then T (fun _ _ _=>False)) { tmps:=(ps.zip #[enc x]).foldl (fun t (p,v)=>t.setIfInBounds p v) a.tmps,defers:=[] } A)
 (hbody : ∀ (l:Nat) (pre:List α) (x : α) (a':Act) (A:World),w.heap.size+2≤A.heap.size→I pre A→Ax x a' A→pre.length<N→body.wpIn (Fence.wide.inRound l) n P (goesOn I (pre ++ [x]) A) a' A)
 (hdone : ∀ (L:List α) (B:World),w.heap.size+2≤B.heap.size→S L→I L B→B.heap[w.heap.size]? = some (.deferred (some []))→Q .normal { a with defers:= { target:= .collected w.heap.size,args := #[] } :: a.defers } B) :
 (Code.rangeFunc g ps assign body).wpIn Fence.wide n P Q a w:=by
 refine wpIn_rangeFunc fun fn _ => ?_
 obtain ⟨b,hb⟩ : ∃ b,w.heap.size=b:=⟨_,rfl⟩
 obtain ⟨record,hrec⟩ : ∃ record:LoopState→Option Code→Loop,record=fun st pe=> { state:=st,pending:=pe,fn,tmps:=a.tmps,params:=ps,assign,body,defers:=b } := ⟨_,rfl⟩
 obtain ⟨W,hW⟩ : ∃ W,(w.alloc (.deferred (some []))).alloc (.loop (record .ready none))=W:=⟨_,rfl⟩
 have hWl:W.heap[b+1]? = some (.loop (record .ready none)):=by
  rw [← hW, ← hb]
  have:=World.alloc_heap_new (w.alloc (.deferred (some []))) (.loop (record .ready none))
  rwa [World.size_alloc] at this
 have hWd:W.heap[b]? = some (.deferred (some [])):=by
  rw [← hW, ← hb]
  exact (Below.heap_alloc _ _ _ (by simp)).trans (World.alloc_heap_new w _)
 have hWz:W.heap.size=b+2:=by rw [← hW]; simp [hb]
 have hWb:Below w.heap.size w W:=by
  rw [← hW]
  exact ((Below.refl _ w).alloc (Nat.le_refl _) _).alloc (by simp) _
 have hWI:I [] W:=by rw [← hW]; exact hI.alloc _ (hI.alloc _ h0)
 rw [hb] at hI hAx hassign hbody hdone
 let J:List α → World→Prop:=fun k A=>I k A∧A.heap[b+1]? = some (.loop (record .ready none))∧A.heap[b]? = some (.deferred (some []))∧b+2≤A.heap.size
 refine ⟨b+1,[{ target:= .collected b,args := #[] }],W, { target:= .fn (.func gf) lb,args := #[.func (.yield (b+1)) #[] #[]] },W,gf, #[.func (.yield (b+1)) #[] #[]] ++ lb,W,?_,?_,fun _ _=>trivial,?_,fun h=>by simp [Fence.wide] at h,?_⟩
 ·rw [← hW,hrec, ← hb]
  exact run_enterLoop_outer _ _ _ _ _
 ·simp only [resolve,hg]
  simp [go_sem]
 ·simp [invoke,go_sem,eg]
 refine callsIn_wide.2 ((callsIn_wide.1 (hseq (b+1) J W hWb ?_ ?_ ⟨hWI,hWl,hWd,by omega⟩)).mono ?_)
 ·rintro k A B row ⟨h1,h2,h3,h4⟩ hAB hr
  have hw : ∀ r,row=some r → ∃ o:Obj,A.heap[r]? = some o∧o.isWalk=true:=fun r e=>(hr r e).2
  exact ⟨hI k A B row h1 hAB (fun r e=>by obtain ⟨q,o,ho,hw⟩:=hr r e; exact ⟨by omega,o,ho,Obj.not_cells_of_walk hw⟩),(grownBy_keeps hAB hw h2 rfl).trans h2,(grownBy_keeps hAB hw h3 rfl).trans h3,Nat.le_trans h4 hAB.size⟩
 ·rintro pre x A ⟨h1,h2,h3,h4⟩ hlen
  have hy:=run_yield (P:=P) (args := #[enc x]) h2 (by rw [hrec]; simp [hps])
  rw [hrec] at hy
  refine ⟨fn,_,assign,body,hy,round_any (n:=n) rfl (roundIn_of_wpIn trivial (hassign _ x A _ h4 ?_))⟩
  intro a' A' hAA hax
  have hno : ∀ r,(none:Option Nat)=some r → ∃ o:Obj,A.heap[r]? = some o∧o.isWalk=true:=fun r e=>by cases e
  have hz':=hAA.size
  have h2':A'.heap[b+1]? = some (.loop (record .ready none)):=(grownBy_keeps hAA hno h2 rfl).trans h2
  have h3':A'.heap[b]? = some (.deferred (some [])):=(grownBy_keeps hAA hno h3 rfl).trans h3
  have h1':I pre A':=hI pre A A' none h1 hAA (fun r e=>by cases e)
  refine ⟨_,run_beginRound h2' (by rw [hrec]),?_⟩
  obtain ⟨C,hC⟩ : ∃ C,A'.putObj (b+1) (.loop { record .ready none with state:= .busy })=C:=⟨_,rfl⟩
  have hC2:C.heap[b+1]? = some (.loop { record .ready none with state:= .busy }):=by rw [← hC]; exact World.putObj_heap_same (by omega)
  have hC3:C.heap[b]? = some (.deferred (some [])):=by rw [← hC]; exact (World.putObj_heap_other (by omega)).trans h3'
  have hCz:C.heap.size=A'.heap.size:=by rw [← hC]; simp
  have hCI:I pre C:=by rw [← hC]; exact hI.putObj _ h1' (by omega) h2' rfl
  have hCx:Ax x a' C:=by rw [← hC]; exact hAx x a' A' _ (by omega) hax
  have hAC:KeepsWalks A C:=by
   rw [← hC]
   exact (KeepsWalks.of_grownBy hAA (fun j o e=>by cases e)).trans (KeepsWalks.putObj _ h2' rfl)
  rw [hC]
  refine wpIn_mono (hbody _ pre x a' C (by omega) hCI hCx hlen) ?_
  intro e a3 B hp
  cases e with
  | normal=>
    obtain ⟨hs,hi⟩:=hp
    have g2:=hs.same _ _ hC2 rfl
    have g3:=hs.same _ _ hC3 rfl
    have hBz:=hs.size
    have hr:=run_endRound (P:=P) none g2
    rw [hrec] at hr
    refine ⟨_,_,hr,rfl,⟨hI.putObj _ hi (by omega) g2 rfl,?_,(World.putObj_heap_other (by omega)).trans g3,by simp; omega⟩,(hAC.trans hs.walks).trans (KeepsWalks.putObj _ g2 rfl)⟩
    rw [World.putObj_heap_same (by omega),hrec]
    rfl
  | ret=>exact hp.elim
  | exit id=>exact hp.elim
  | goto t=>exact hp.elim
  | panic ch=>exact hp.elim
  | outgrown=>exact hp.elim
 ·rintro e B ⟨⟨v,rfl⟩,L,hS,h1,h2,h3,h4⟩
  refine ⟨none,_,(by have:=run_endLoop (P:=P) h2 (by rw [hrec]; simp); rw [hrec] at this; exact this),?_⟩
  have:=hdone L (B.putObj (b+1) (.loop (record .exhausted none))) (by simp; omega) hS (hI.putObj _ h1 (by omega) h2 rfl) ((World.putObj_heap_other (by omega)).trans h3)
  rw [hrec] at this
  exact this
end Go.Proofs.Ytkbbhihndigmeaa

namespace Go.Proofs.Ytkbbhihndigmeaa
open Go Go.RowKit Go.Shelf
attribute [local go_sem] Oper.semAt_some
def bestStep {α : Type} (lt : α → α → Bool) (o:Option α) (x : α):Option α := match o with
 | none=>some x
 | some y=>if lt x y then some x else some y
def bestS {α : Type} (lt : α → α → Bool) (l:List α):Option α := l.foldl (bestStep lt) none
theorem bestS_add {α : Type} (lt : α → α → Bool) (l:List α) (x : α):bestS lt (l ++ [x])=bestStep lt (bestS lt l) x:=by
 unfold bestS
 rw [List.foldl_append]
 rfl
def keptV {α : Type} (val : α → Nat→Int) (o:Option α):Nat→Int:=match o with
 | none=>fun _=>0
 | some x=>val x
theorem row4f {w:World} {b:Nat} {p:Nat→Int} {T:TypeId} (h:RowIs w b (planRow p) T) :
 w.frozen? ⟨b,0,none⟩=false∧w.frozen? ⟨b,1,none⟩=false∧w.frozen? ⟨b,2,none⟩=false∧w.frozen? ⟨b,3,none⟩=false:=
 ⟨h.frozen 0,h.frozen 1,h.frozen 2,h.frozen 3⟩
def put4 (w:World) (b:Nat) (p:Nat→Int):World:=
 (((w.setCell ⟨b,0,none⟩ (.int .i64 (p 0))).setCell ⟨b,1,none⟩ (.int .i64 (p 1))).setCell ⟨b,2,none⟩ (.int .i64 (p 2))).setCell ⟨b,3,none⟩ (.int .i64 (p 3))
theorem put4_row {w:World} {b:Nat} {g:Nat→Int} {T:TypeId} (h:RowIs w b (planRow g) T) (p:Nat→Int):RowIs (put4 w b p) b (planRow p) T:=by
 have:=(((h.set 0 (.int .i64 (p 0))).set 1 (.int .i64 (p 1))).set 2 (.int .i64 (p 2))).set 3 (.int .i64 (p 3))
 simpa [put4,planRow] using this
theorem put4_below {w:World} {b B:Nat} (h:B≤b) (p:Nat→Int):Below B w (put4 w b p):=
 ((((Below.refl B w).setCell (p:=⟨b,0,none⟩) h _).setCell (p:=⟨b,1,none⟩) h _).setCell (p:=⟨b,2,none⟩) h _).setCell (p:=⟨b,3,none⟩) h _
theorem put4_other {w:World} {b k:Nat} (h:k ≠ b) (p:Nat→Int):(put4 w b p).heap[k]? = w.heap[k]? := by
 unfold put4
 rw [Below.heap_setCell _ _ _ _ h,Below.heap_setCell _ _ _ _ h,Below.heap_setCell _ _ _ _ h,Below.heap_setCell _ _ _ _ h]
theorem put4_keeps (w:World) (b:Nat) (p:Nat→Int):KeepsOthers w (put4 w b p):=
 (((KeepsOthers.setCell _ _ _).trans (KeepsOthers.setCell _ _ _)).trans (KeepsOthers.setCell _ _ _)).trans (KeepsOthers.setCell _ _ _)
theorem keeps_below {A B:World} (h:Below A.heap.size A B):KeepsOthers A B:=
 ⟨h.size,fun k _ hk _=>(h.block k (Array.getElem?_eq_some_iff.1 hk).1).trans hk⟩
def Keeping {α : Type} (lt : α → α → Bool) (val : α → Nat→Int) (w:World) (bfv:Value) (pre:List α) (A:World):Prop:=
 Below w.heap.size w A∧RowIs A w.heap.size #[bfv] 115∧RowIs A (w.heap.size+1) (planRow fun _=>0) 77 ∧
  RowIs A (w.heap.size+2) (planRow (keptV val (bestS lt pre))) 77∧RowIs A (w.heap.size+3) #[.bool (bestS lt pre).isSome] 4
theorem keeping_own {α : Type} (lt : α → α → Bool) (val : α → Nat→Int) (w:World) (bfv:Value) (B:Nat) (hB:w.heap.size≤B):OwnFrom B (Keeping lt val w bfv):=by
 rintro s W W' row ⟨h1,h2,h3,h4,h5⟩ hg hrow
 have hrow' : ∀ r,row=some r → ∃ o:Obj,W.heap[r]? = some o∧o.isCells=false:=fun r e=>(hrow r e).2
 exact ⟨h1.grown hg h1.size (fun k e=>Nat.le_trans hB (hrow k e).1),(grownBy_keeps_cells hg hrow' h2 rfl).trans h2,(grownBy_keeps_cells hg hrow' h3 rfl).trans h3,(grownBy_keeps_cells hg hrow' h4 rfl).trans h4,(grownBy_keeps_cells hg hrow' h5 rfl).trans h5⟩
set_option maxRecDepth 100000 in
set_option maxHeartbeats 4000000 in
theorem bestSeq_c {α : Type} (gf:Nat) (glb:Array Value) (S:List α → Prop) (N:Nat) (val : α → Nat→Int) (bf:Nat) (bfirst blb:Array Value) (lt : α → α → Bool) (w:World)
 (hG:SeqGives Fence.wide 1 Try.prog gf glb (fun x=>planV (val x)) S N w) (eg : ∀ args w,(callFunc gf args).run Try.prog w = .ok (.enter gf args) w) (eb : ∀ args w,(callFunc bf args).run Try.prog w = .ok (.enter bf args) w)
 (hbt : ∀ W,Below w.heap.size w W → ∀ x y : α,Calls Try.prog bf (bfirst ++ #[planV (val x),planV (val y)] ++ blb) W fun e w'=>e = .returned (.bool (lt x y))∧Below W.heap.size W w') :
 Calls Try.prog 86 #[.func (.func gf) #[] glb, .func (.func bf) bfirst blb] w fun e w'=> ∃ L,S L∧e = .returned (.tuple #[planV (keptV val (bestS lt L)), .bool (bestS lt L).isSome])∧Below w.heap.size w w':=by
 obtain ⟨W,hW⟩ : ∃ W,(((w.alloc (.cells #[.func (.func bf) bfirst blb] 115)).alloc (.cells #[.int .i64 0, .int .i64 0, .int .i64 0, .int .i64 0] 77)).alloc (.cells #[.int .i64 0, .int .i64 0, .int .i64 0, .int .i64 0] 77)).alloc (.cells #[.bool false] 4)=W:=⟨_,rfl⟩
 have hB0:Below w.heap.size w W:=by rw [← hW]; exact Below.alloc1 (Below.alloc1 (Below.alloc1 (Below.alloc1 (Below.refl _ _) _ (Nat.le_refl _)) _ (Nat.le_refl _)) _ (Nat.le_refl _)) _ (Nat.le_refl _)
 have h3:RowIs W w.heap.size #[.func (.func bf) bfirst blb] 115:=by rw [← hW]; exact RowIs.alloc (RowIs.alloc (RowIs.alloc (heap_new_at _ _ _ rfl) _) _) _
 have h4:RowIs W (w.heap.size+1) (planRow fun _=>0) 77:=by rw [← hW]; exact RowIs.alloc (RowIs.alloc (heap_new_at _ _ _ (by simp)) _) _
 have h6:RowIs W (w.heap.size+2) (planRow fun _=>0) 77:=by rw [← hW]; exact RowIs.alloc (heap_new_at _ _ _ (by simp)) _
 have h7:RowIs W (w.heap.size+3) #[.bool false] 4:=by rw [← hW]; exact heap_new_at _ _ _ (by simp)
 have hzW:W.heap.size=w.heap.size+4:=by rw [← hW]; simp
 have c7:W.cell? ⟨w.heap.size+3,0,none⟩=some (.bool false):=h7.cell 0
 have z7:=h7.frozen 0
 have zz7:w.heap.size+3<W.heap.size:=by omega
 have H3:=Lib.hid h3
 have H4:=Lib.hid h4
 have H6:=Lib.hid h6
 have H7:=Lib.hid h7
 have HzW:=Lib.hid hzW
 have HB0:=Lib.hid hB0
 have HG:=Lib.hid hG
 have Hbt:=Lib.hid hbt
 clear h3 h4 h6 h7 hzW hB0 hG hbt
 refine (callsIn_wide (n:=1)).1 ?_
 refine callsIn_of_wp_marks Try.func86 rfl trivial ?_ rfl
 simp only [Try.ntmps86,List.size_toArray,List.length_cons,List.length_nil,Nat.reduceAdd,Nat.reduceSub,Array.replicate_succ,Array.replicate_zero,List.push_toArray,List.append_toArray,List.nil_append,List.cons_append]
 gi_wp2_with fail
 obtain ⟨W2,hW2⟩ : ∃ W2,W.setCell ⟨w.heap.size+3,0,none⟩ (.bool false)=W2:=⟨_,rfl⟩
 have hb2:Below (w.heap.size+3) W W2:=by rw [← hW2]; exact (Below.refl _ _).setCell (p:=⟨w.heap.size+3,0,none⟩) (Nat.le_refl _) _
 have hf2:RowIs W2 (w.heap.size+3) #[.bool false] 4:=by rw [← hW2]; exact H7.out.set 0 (.bool false)
 have hzW2:W2.heap.size=w.heap.size+4:=by rw [← hW2]; simp [World.setCell,HzW.out]
 have hB2:Below w.heap.size w W2:=HB0.out.trans (hb2.mono (by omega))
 have h32:=(hb2.block w.heap.size (by omega)).trans H3.out
 have h42:=(hb2.block (w.heap.size+1) (by omega)).trans H4.out
 have h62:=(hb2.block (w.heap.size+2) (by omega)).trans H6.out
 have hG2:=HG.out.later hB2
 rw [hW2]
 clear hW2 hW c7 z7
 refine wpIn_rangeG (gf:=gf) (lb:=glb) rfl eg hG2 rfl (Keeping lt val w (.func (.func bf) bfirst blb)) (keeping_own _ _ _ _ _ (by omega)) ⟨hB2,h32,h42,h62,hf2⟩
  (fun x a' A=> ∃ Bx,w.heap.size+6≤Bx∧RowIs A Bx (planRow (val x)) 77 ∧
    a' = { tmps := #[.func (.func gf) #[] glb, .func (.func bf) bfirst blb,undef, .pointer (some ⟨w.heap.size,0,none⟩), .pointer (some ⟨w.heap.size+1,0,none⟩), .bool false, .pointer (some ⟨w.heap.size+1+1,0,none⟩), .pointer (some ⟨w.heap.size+1+1+1,0,none⟩), .pointer (some ⟨Bx,0,none⟩), .func (.func gf) #[] glb,planV (val x),undef,undef,undef,undef,undef,undef,undef,undef,undef,undef,undef],defers:=[] })
  (fun x a' A o hA h=>by
    obtain ⟨Bx,h1,h2,h3⟩:=h
    exact ⟨Bx,h1,(World.putObj_heap_other (by omega)).trans h2,h3⟩)
  ?assign ?body ?done
 case assign=>
  intro lx x A T hA hT
  gi_wp2
  exact hT _ _ (World.grownBy_alloc A _ none) ⟨A.heap.size,by omega,heap_new_at _ _ _ rfl,rfl⟩
 case body=>
  rintro lx pre x a' A hA ⟨g1,g2,g3,g4,g5⟩ ⟨Bx,hBx,hx,rfl⟩ hlen
  have hst:=bestS_add lt pre x
  have f0:A.cell? ⟨w.heap.size+3,0,none⟩=some (.bool (bestS lt pre).isSome):=g5.cell 0
  have f1:=g5.frozen 0
  have b0:A.cell? ⟨w.heap.size,0,none⟩=some (.func (.func bf) bfirst blb):=g2.cell 0
  have z3:w.heap.size+3<A.heap.size:=by omega
  have z0:w.heap.size<A.heap.size:=by omega
  obtain ⟨⟨x0,x1,x2,x3⟩,xz⟩:=row4 hx
  obtain ⟨⟨k0,k1,k2,k3⟩,kz⟩:=row4 g4
  obtain ⟨l0,l1,l2,l3⟩:=row4f g4
  have hfin : ∀ (A':World) (f:Bool),Below A.heap.size A A'→RowIs A' (w.heap.size+3) #[.bool f] 4 → ∀ a,bestS lt (pre ++ [x])=some x→goesOn (Keeping lt val w (.func (.func bf) bfirst blb)) (pre ++ [x]) A .normal a ((put4 A' (w.heap.size+2) (val x)).setCell ⟨w.heap.size+3,0,none⟩ (.bool true)):=by
   intro A' f hA' hr a hs
   have hb:Below (w.heap.size+2) A ((put4 A' (w.heap.size+2) (val x)).setCell ⟨w.heap.size+3,0,none⟩ (.bool true)):=((hA'.mono (by omega)).trans (put4_below (Nat.le_refl _) (val x))).setCell (p:=⟨w.heap.size+3,0,none⟩) (Nat.le_succ _) _
   have hsame : ∀ i,i<A.heap.size→i ≠ w.heap.size+2→i ≠ w.heap.size+3→((put4 A' (w.heap.size+2) (val x)).setCell ⟨w.heap.size+3,0,none⟩ (.bool true)).heap[i]? = A.heap[i]? := fun i h1 h2 h3=>by
    rw [Below.heap_setCell _ _ _ _ h3,put4_other h2]
    exact hA'.block i h1
   refine ⟨((keeps_below hA').trans (put4_keeps _ _ _)).trans (KeepsOthers.setCell _ _ _),g1.trans (hb.mono (by omega)),(hsame _ (by omega) (by omega) (by omega)).trans g2,(hsame _ (by omega) (by omega) (by omega)).trans g3,?_,?_⟩
   ·rw [hs]
    exact (Below.heap_setCell _ _ _ _ (by simp)).trans (put4_row ((hA'.block _ (by omega)).trans g4) (val x))
   ·rw [hs]
    exact RowIs.set (w:=put4 A' (w.heap.size+2) (val x)) ((put4_other (by omega) (val x)).trans hr) 0 (.bool true)
  have Hfin:=Lib.hid hfin
  have G1:=Lib.hid g1
  have G2:=Lib.hid g2
  have G3:=Lib.hid g3
  have G4:=Lib.hid g4
  have G5:=Lib.hid g5
  have Hst:=Lib.hid hst
  have Hx:=Lib.hid hx
  clear hfin g1 g2 g3 g4 g5 hst hx h32 h42 h62 hf2 hb2 hB2 hG2
  cases hb:bestS lt pre with
  | none=>
    have Hb:=Lib.hid hb
    rw [hb] at f0
    clear hb
    have hs:bestS lt (pre ++ [x])=some x:=by rw [Hst.out,Hb.out]; rfl
    have Hs:=Lib.hid hs
    clear hs
    gi_wp2_with fail
    refine ⟨fun _ h=>(by cases h),?_⟩
    gi_wp2_with fail
    exact Hfin.out A _ (Below.refl _ _) G5.out _ Hs.out
  | some y=>
    have Hb:=Lib.hid hb
    rw [hb] at f0 k0 k1 k2 k3
    simp only [keptV] at k0 k1 k2 k3
    clear hb
    have hc:=Hbt.out A G1.out x y
    rw [Array.append_assoc] at hc
    cases hlt:lt x y with
    | true=>
      have hs:bestS lt (pre ++ [x])=some x:=by rw [Hst.out,Hb.out]; simp [bestStep,hlt]
      rw [hlt] at hc
      have Hs:=Lib.hid hs
      have Hc:=Lib.hid hc
      clear hc hs hlt
      gi_wp2_with fail
      refine ⟨trivial,?_⟩
      refine (CallsIn.inRound lx (callsIn_wide.2 Hc.out)).mono ?_
      rintro e A1 ⟨rfl,hb1⟩
      clear x0 x1 x2 x3 xz k0 k1 k2 k3 kz l0 l1 l2 l3 f0 f1 b0 z3 z0
      have hz1:=hb1.size
      have g5:=(hb1.block (w.heap.size+3) (by omega)).trans G5.out
      have hx1:=(hb1.block Bx (by have:=Hx.out.lt; omega)).trans Hx.out
      have hk1:=(hb1.block (w.heap.size+2) (by omega)).trans G4.out
      obtain ⟨⟨x0,x1,x2,x3⟩,xz⟩:=row4 hx1
      obtain ⟨⟨k0,k1,k2,k3⟩,kz⟩:=row4 hk1
      obtain ⟨l0,l1,l2,l3⟩:=row4f hk1
      have f0:A1.cell? ⟨w.heap.size+3,0,none⟩=some (.bool (bestS lt pre).isSome):=RowIs.cell g5 0
      have f1:=RowIs.frozen g5 0
      have z3:w.heap.size+3<A1.heap.size:=by omega
      have HG5:=Lib.hid g5
      clear g5 hx1 hk1
      gi_wp2_with fail
      exact Hfin.out A1 _ hb1 HG5.out _ Hs.out
    | false=>
      have hs:bestS lt (pre ++ [x])=some y:=by rw [Hst.out,Hb.out]; simp [bestStep,hlt]
      rw [hlt] at hc
      have Hs:=Lib.hid hs
      have Hc:=Lib.hid hc
      clear hc hs hlt
      gi_wp2_with fail
      refine ⟨trivial,?_⟩
      refine (CallsIn.inRound lx (callsIn_wide.2 Hc.out)).mono ?_
      rintro e A1 ⟨rfl,hb1⟩
      have hz1:=hb1.size
      gi_wp2_with fail
      exact ⟨keeps_below hb1,G1.out.trans (hb1.mono (by omega)),(hb1.block _ (by omega)).trans G2.out,(hb1.block _ (by omega)).trans G3.out,by rw [Hs.out, ← Hb.out]; exact (hb1.block _ (by omega)).trans G4.out,by rw [Hs.out]; have:=(hb1.block _ (by omega)).trans G5.out; rw [Hb.out] at this; exact this⟩
 case done=>
  rintro L B hBz hS ⟨g1,g2,g3,g4,g5⟩ hK
  have f0:B.cell? ⟨w.heap.size+3,0,none⟩=some (.bool (bestS lt L).isSome):=g5.cell 0
  have z3:w.heap.size+3<B.heap.size:=by omega
  obtain ⟨q,hq⟩ : ∃ q,keptV val (bestS lt L)=q:=⟨_,rfl⟩
  rw [hq] at g4
  obtain ⟨⟨k0,k1,k2,k3⟩,kz⟩:=row4 g4
  obtain ⟨⟨y0,y1,y2,y3⟩,yz⟩:=row4 g3
  obtain ⟨l0,l1,l2,l3⟩:=row4f g3
  have G1:=Lib.hid g1
  have G3:=Lib.hid g3
  have HK':=Lib.hid hK
  have Hq:=Lib.hid hq
  clear g1 g2 g3 g4 g5 hK hq h32 h42 h62 hf2 hb2 hB2 hG2
  dsimp only
  gi_wp2_with fail
  refine (wpIn_wide (n:=1)).2 ?_
  go_region
  gi_wp2_with fail
  obtain ⟨U,hU⟩ : ∃ U,(((B.setCell ⟨w.heap.size+1,0,none⟩ (.int .i64 (q 0))).setCell ⟨w.heap.size+1,1,none⟩ (.int .i64 (q 1))).setCell ⟨w.heap.size+1,2,none⟩ (.int .i64 (q 2))).setCell ⟨w.heap.size+1,3,none⟩ (.int .i64 (q 3))=U:=⟨_,rfl⟩
  have hUp:put4 B (w.heap.size+1) q=U:=hU
  have hr0:RowIs U (w.heap.size+1) (planRow q) 77:=by rw [← hUp]; exact put4_row G3.out _
  have hb0:Below w.heap.size w U:=by rw [← hUp]; exact G1.out.trans (put4_below (Nat.le_succ _) _)
  have hK1:U.heap[W2.heap.size]? = some (.deferred (some [])):=by rw [← hUp,put4_other (by omega)]; exact HK'.out
  rw [hU]
  clear hU hUp
  have hr1:RowIs U.drew (w.heap.size+1) (planRow q) 77:=hr0
  have hb1:Below w.heap.size w U.drew:=hb0.drew
  have hK2:U.drew.heap[W2.heap.size]? = some (.deferred (some [])):=hK1
  clear hr0 hb0 hK1
  generalize U.drew=U2 at hr1 hb1 hK2 ⊢
  refine ⟨by simp, .inl ⟨_,_,rfl,run_takeDeferred hK2,?_⟩⟩
  have hr:RowIs (U2.putObj W2.heap.size (.deferred none)) (w.heap.size+1) (planRow q) 77:=(World.putObj_heap_other (by omega)).trans hr1
  have hb:Below w.heap.size w (U2.putObj W2.heap.size (.deferred none)):=hb1.trans (below_put _ (by omega))
  generalize U2.putObj W2.heap.size (.deferred none)=V at hr hb ⊢
  obtain ⟨⟨q0,q1,q2,q3⟩,_⟩:=row4 hr
  exact ⟨.tuple #[planV q, .bool (bestS lt L).isSome],by simp [results,Try.results86,go_sem,q0,q1,q2,q3],L,hS,by rw [Hq.out],hb⟩
end Go.Proofs.Ytkbbhihndigmeaa

namespace Go.Proofs.Ytkbbhihndigmeaa
open Go Go.RowKit
def ltB (a b c d:Int):Bool:=decide (a*d<c*b)
theorem rat_parts (n:Int) {d:Int} (hd:0<d) : ∃ g:Int,0<g∧n=ratN n d*g∧d=ratD n d*g∧Int.gcd (ratN n d) (ratD n d)=1:=by
 have hg:=gcd_bd n d hd
 refine ⟨Int.gcd n d,hg.1,?_,?_,?_⟩
 ·exact (Int.tdiv_mul_cancel (Int.gcd_dvd_left _ _)).symm
 ·exact (Int.ediv_mul_cancel (Int.gcd_dvd_right _ _)).symm
 ·unfold ratN ratD
  rw [Int.tdiv_eq_ediv_of_dvd (Int.gcd_dvd_left _ _)]
  exact Int.gcd_ediv_gcd_ediv_gcd (by omega)
theorem ratD_pos (n:Int) {d:Int} (hd:0<d):0<ratD n d:=by
 obtain ⟨g,hg,_,h,_⟩:=rat_parts n hd
 rcases Int.lt_or_le 0 (ratD n d) with h' | h'
 ·exact h'
 ·have:=Int.mul_le_mul_of_nonneg_right h' (Int.le_of_lt hg)
  omega
theorem dvd_of_cross {a b a' b':Int} (hc:Int.gcd a b=1) (h:a*b'=a'*b):b ∣ b':=by
 have h1:b.natAbs ∣ a.natAbs*b'.natAbs:=by
  rw [← Int.natAbs_mul,h,Int.natAbs_mul]
  exact Nat.dvd_mul_left _ _
 have h2:Nat.Coprime b.natAbs a.natAbs:=by
  unfold Nat.Coprime
  rw [Nat.gcd_comm]
  exact hc
 exact Int.natAbs_dvd_natAbs.1 (h2.dvd_of_dvd_mul_left h1)
theorem same_in {n d n' d' a b a' b' g g':Int} (hg:0<g) (hg':0<g') (e1:n=a*g) (e2:d=b*g) (e1':n'=a'*g') (e2':d'=b'*g') (hc:Int.gcd a b=1) (hc':Int.gcd a' b'=1) (p:0<b) (p':0<b') (h:n*d'=n'*d):a=a'∧b=b':=by
 have hx:a*b'=a'*b:=by
  have h1:(a*b')*(g*g')=(a'*b)*(g*g'):=by
   rw [e1,e2',e1',e2] at h
   grind
  have hgg:0<g*g':=Int.mul_pos hg hg'
  exact Int.eq_of_mul_eq_mul_right (by omega) h1
 have d1:=dvd_of_cross hc hx
 have d2:=dvd_of_cross hc' hx.symm
 have eb:b=b':=by
  have l1:=Int.le_of_dvd p' d1
  have l2:=Int.le_of_dvd p d2
  omega
 subst eb
 exact ⟨Int.eq_of_mul_eq_mul_right (by omega) hx,rfl⟩
theorem rat_same {n d n' d':Int} (hd:0<d) (hd':0<d') (h:n*d'=n'*d):ratN n d=ratN n' d'∧ratD n d=ratD n' d':=by
 obtain ⟨g,hg,e1,e2,hc⟩:=rat_parts n hd
 obtain ⟨g',hg',e1',e2',hc'⟩:=rat_parts n' hd'
 exact same_in hg hg' e1 e2 e1' e2' hc hc' (ratD_pos n hd) (ratD_pos n' hd') h
theorem ltB_rat {n d n' d':Int} (hd:0<d) (hd':0<d'):ltB (ratN n d) (ratD n d) (ratN n' d') (ratD n' d')=decide (n*d'<n'*d):=by
 obtain ⟨g,hg,e1,e2,_⟩:=rat_parts n hd
 obtain ⟨g',hg',e1',e2',_⟩:=rat_parts n' hd'
 obtain ⟨a,ha⟩ : ∃ a,ratN n d=a:=⟨_,rfl⟩
 obtain ⟨b,hb⟩ : ∃ b,ratD n d=b:=⟨_,rfl⟩
 obtain ⟨a',ha'⟩ : ∃ a,ratN n' d'=a:=⟨_,rfl⟩
 obtain ⟨b',hb'⟩ : ∃ b,ratD n' d'=b:=⟨_,rfl⟩
 rw [ha,hb,ha',hb']
 rw [ha] at e1
 rw [hb] at e2
 rw [ha'] at e1'
 rw [hb'] at e2'
 have hgg:0<g*g':=Int.mul_pos hg hg'
 unfold ltB
 have h1:n*d'=(a*b')*(g*g'):=by rw [e1,e2']; grind
 have h2:n'*d=(a'*b)*(g*g'):=by rw [e1',e2]; grind
 rw [h1,h2]
 by_cases h:a*b'<a'*b
 ·rw [decide_eq_true h,decide_eq_true (Int.mul_lt_mul_of_pos_right h hgg)]
 ·rw [decide_eq_false h,decide_eq_false]
  have:=Int.mul_le_mul_of_nonneg_right (Int.not_lt.1 h) (Int.le_of_lt hgg)
  omega
end Go.Proofs.Ytkbbhihndigmeaa

namespace Go.Proofs.Ytkbbhihndigmeaa
open Go Go.RowKit
theorem inB_within (g:Nat→Int) : ∀ n,allB (inB g) n=withinB 0 100000000 g n
 | 0=>rfl
 | n+1=>by rw [allB,withinB,inB_within g n]; rfl
theorem pad_in {g:Nat→Int} {m:Nat} (i:Nat) (hi:i<m):padF g m i=g i:=if_pos hi
theorem sumI_same {g h:Nat→Int} : ∀ {n:Nat},(∀ i,i<n→g i=h i)→sumI g n=sumI h n
 | 0,_=>rfl
 | n+1,e=>by rw [sumI,sumI,sumI_same (fun i hi=>e i (by omega)),e n (by omega)]
theorem sumI_zero {g:Nat→Int} : ∀ {n:Nat},(∀ i,i<n→0≤g i)→sumI g n=0 → ∀ i,i<n→g i=0
 | 0,_,_,i,hi=>absurd hi (Nat.not_lt_zero _)
 | n+1,h,hs,i,hi=>by
   rw [sumI] at hs
   have h1 : ∀ k,k≤n→0≤sumI g k:=by
    intro k
    induction k with
    | zero=>exact fun _=>Int.le_refl _
    | succ k ih=>exact fun hk=>by rw [sumI]; have:=ih (by omega); have:=h k (by omega); omega
   have h2:=h n (by omega)
   have h3:=h1 n (Nat.le_refl _)
   by_cases e:i=n
   ·subst e; omega
   ·exact sumI_zero (n:=n) (fun i hi=>h i (by omega)) (by omega) i (by omega)
theorem dotN_zeroL {p g:Nat→Int} : ∀ {n:Nat},(∀ i,i<n→p i=0)→dotN p g n=0
 | 0,_=>rfl
 | n+1,h=>by rw [dotN,dotN_zeroL (fun i hi=>h i (by omega)),h n (by omega)]; simp
def zeroB5 (g:Nat→Int):Bool:=g 0==0 && (g 1==0 && (g 2==0 && (g 3==0 && g 4==0)))
theorem zero_sums {f:Nat→Row3} {m n:Nat} {p:Nat→Int} (hO:Okay m n f) (hb : ∀ i,i<m→0≤p i∧p i≤100000000):zeroB5 (lossF f n p m)=decide (sumI p m=0):=by
 have h4:=loss_sum (p:=p) hO
 by_cases h:sumI p m=0
 ·have hz:=sumI_zero (fun i hi=>(hb i hi).1) h
  have h0 : ∀ j,lossF f n p m j=0:=fun j=>by
   unfold lossF
   by_cases h1:j<n
   ·rw [if_pos h1]; exact dotN_zeroL hz
   ·rw [if_neg h1]
    by_cases h2:j=4
    ·rw [if_pos h2,h]
    ·rw [if_neg h2]
  simp [zeroB5,h0,h]
 ·have:(lossF f n p m 4==0)=false:=by rw [h4]; simpa using h
  simp [zeroB5,this,h]
def planP (len m:Nat) (g:Nat→Int) (i:Nat):Int:=if planE len m g=0 then padF g m i else 0
abbrev planR (p:Nat→Int) (e:Int):Value:= .tuple #[planV p, .int .i64 e]
theorem planP_no {len m:Nat} {g:Nat→Int} (h:planE len m g ≠ 0):planP len m g=fun _=>0:=funext fun _=>if_neg h
theorem planP_yes {len m:Nat} {g:Nat→Int} (h:planE len m g=0):planP len m g=padF g m:=funext fun _=>if_pos h
set_option maxHeartbeats 8000000 in
theorem newPlan_c (a:Option Addr) (m n cap:Nat) (f:Nat→Row3) (pa:Option Addr) (len pcap:Nat) (g:Nat→Int) (w:World) (hf:Tab w a m f) (hO:Okay m n f) (hp:Ints w pa len g) (hl:len≤1048576) :
 Calls Try.prog 62 #[tabV a m cap, .slice pa len pcap] w fun e w'=>e = .returned (planR (planP len m g) (planE len m g))∧Below w.heap.size w w':=by
 obtain ⟨W,hW⟩ : ∃ W,(w.alloc (.cells #[.slice a m cap] 73)).alloc (.cells #[.int .i64 0, .int .i64 0, .int .i64 0, .int .i64 0] 77)=W:=⟨_,rfl⟩
 have hB:Below w.heap.size w W:=by rw [← hW]; exact Below.alloc1 (Below.alloc1 (Below.refl _ _) _ (Nat.le_refl _)) _ (Nat.le_refl _)
 have hR:RowIs W w.heap.size #[.slice a m cap] 73:=by rw [← hW]; exact RowIs.alloc (heap_new_at _ _ _ rfl) _
 have hQ:RowIs W (w.heap.size+1) (planRow fun _=>0) 77:=by rw [← hW]; exact heap_new_at _ _ _ (by simp)
 have r0:W.cell? ⟨w.heap.size,0,none⟩=some (.slice a m cap):=RowIs.cell hR 0
 have rz:=hR.lt
 have HF:=Lib.hid (fun (x:World) (h:Below w.heap.size w x)=>hf.below h)
 have HB:=Lib.hid hB
 have hm4:=hO.m4
 by_cases h1:len=m
 ·subst h1
  have t0:(((len:Nat):Int) != ((len:Nat):Int))=false:=by simp
  have HI:=Lib.hid (within64_c 0 100000000 pa len pcap g W (Cells.below hp hB) hl)
  cases h2:allB (inB g) len with
  | false=>
    have hE:planE len len g=3:=by unfold planE; rw [if_pos rfl,h2]; rfl
    rw [planP_no (by rw [hE]; decide),hE]
    rw [← inB_within,h2] at HI
    obtain ⟨⟨q0,q1,q2,q3⟩,qz⟩:=row4 hQ
    have z0:=RowIs.frozen hQ 0
    have z1:=RowIs.frozen hQ 1
    have z2:=RowIs.frozen hQ 2
    have z3:=RowIs.frozen hQ 3
    have HQ:=Lib.hid hQ
    clear hf hO hp hB hR hQ h2 hE
    go_enter Try.func62,Try.ntmps62
    go_wp2_with fail
    refine HI.out.mono ?_
    rintro e w1 ⟨rfl,rfl⟩
    clear HI hW
    go_wp2_with fail
    have hY:=(((HQ.out.set 0 (.int .i64 0)).set 1 (.int .i64 0)).set 2 (.int .i64 0)).set 3 (.int .i64 0)
    have y0:=RowIs.cell hY 0
    have y1:=RowIs.cell hY 1
    have y2:=RowIs.cell hY 2
    have y3:=RowIs.cell hY 3
    simp at y0 y1 y2 y3
    refine bodyPost_ret (v:=planR (fun _=>0) 3) (by simp [results,Try.results62,go_sem,y0,y1,y2,y3]) rfl ⟨rfl,?_⟩
    repeat (first | exact HB.out | (show w.heap.size≤w.heap.size+1; omega) | (refine Below.setCell ?_ ?_ _))
  | true=>
    have hin:=inB_all h2
    obtain ⟨V,hV⟩ : ∃ V,W.alloc (.cells #[.int .i64 0, .int .i64 0, .int .i64 0, .int .i64 0] 77)=V:=⟨_,rfl⟩
    have hVb:Below W.heap.size W V:=by rw [← hV]; exact Below.alloc1 (Below.refl _ _) _ (Nat.le_refl _)
    have hVr:RowIs V W.heap.size #[.int .i64 0, .int .i64 0, .int .i64 0, .int .i64 0] 77:=by rw [← hV]; exact heap_new_at _ _ _ rfl
    obtain ⟨V2,hcopy,hV2r,hV2b⟩:=copy4 V W.heap.size pa len pcap g _ ((Cells.below hp hB).below hVb) hm4 hVr
    have hV2B:=hVb.trans hV2b
    have vz:=hVr.lt
    obtain ⟨X,hX⟩ : ∃ X,V2.alloc (.cells #[.int .i64 0, .int .i64 0, .int .i64 0, .int .i64 0, .int .i64 0] 100)=X:=⟨_,rfl⟩
    have hXb:Below V2.heap.size V2 X:=by rw [← hX]; exact Below.alloc1 (Below.refl _ _) _ (Nat.le_refl _)
    have hXr:RowIs X V2.heap.size #[.int .i64 0, .int .i64 0, .int .i64 0, .int .i64 0, .int .i64 0] 100:=by rw [← hX]; exact heap_new_at _ _ _ rfl
    have v2z:=hV2b.size
    have hWX:Below W.heap.size W X:=hV2B.trans (hXb.mono (by omega))
    have hpb : ∀ i,i<len→0≤padF g len i∧padF g len i≤100000000:=fun i hi=>by rw [pad_in i hi]; exact hin i hi
    have HW:=Lib.hid (weigh_c a len n cap V2.heap.size W.heap.size f (padF g len) _ _ _ _ _ _ X (fun x h=>hf.below (hB.trans ((hWX.trans h).mono hB.size))) (by omega) hWX.size hO hpb hXr)
    have hzs:=zero_sums (f:=f) hO hpb
    rw [sumI_same (h:=g) (n:=len) (fun i hi=>pad_in i hi)] at hzs
    have hRX:=hR.below hWX
    have hQX:=hQ.below hWX
    have hPX:=hV2r.below hXb
    have x0:X.cell? ⟨w.heap.size,0,none⟩=some (.slice a len cap):=RowIs.cell hRX 0
    have xz:=hRX.lt
    obtain ⟨⟨p0,p1,p2,p3⟩,pz⟩:=row4 hPX
    have HRX:=Lib.hid hRX
    have HQX:=Lib.hid hQX
    have HPX:=Lib.hid hPX
    have HWX:=Lib.hid hWX
    have Hzs:=Lib.hid hzs
    rw [← inB_within,h2] at HI
    have hV2z:w.heap.size+1<V2.heap.size:=by have:=hQ.lt; omega
    have HE:=Lib.hid (show planE len len g=if sumI g len=0 then 2 else 0 by unfold planE; rw [if_pos rfl,if_pos h2])
    have vzW:=hB.size
    have hWlt:=hQ.lt
    have hVz:V.heap.size=W.heap.size+1:=by rw [← hV]; simp
    clear hf hO hp hB hR hQ h2 hVb hVr hV2r hV2b hV2B hXb hXr hWX hpb hzs hRX hQX hPX hin
    obtain ⟨h,hh⟩ : ∃ h,lossF f n (padF g len) len=h:=⟨_,rfl⟩
    rw [hh] at HW Hzs
    clear hh
    have heq:=fun w=>eqLosses (h 0) (h 1) (h 2) (h 3) (h 4) w
    have hz5:(h 0==0 && (h 1==0 && (h 2==0 && (h 3==0 && h 4==0))))=decide (sumI g len=0):=Hzs.out
    by_cases h3:sumI g len=0
    ·have hE:planE len len g=2:=by rw [HE.out,if_pos h3]
     rw [planP_no (by rw [hE]; decide),hE]
     simp only [hz5,decide_eq_true h3] at heq
     clear h3 hz5 Hzs HE hE
     go_enter Try.func62,Try.ntmps62
     go_wp2_with fail
     refine HI.out.mono ?_
     rintro e w1 ⟨rfl,rfl⟩
     clear HI hW
     go_wp2_with fail
     refine HW.out.mono ?_
     rintro e w2 ⟨rfl,hs2,hg2⟩
     obtain ⟨⟨g0,g1,g2,g3,g4⟩,gz⟩:=row5 hs2
     have hQ2:RowIs w2 (w.heap.size+1) (planRow fun _=>0) 77:=(hg2.block _ HQX.out.lt (fun h=>by have:=Option.some.inj h; omega)).trans HQX.out
     obtain ⟨⟨q0,q1,q2,q3⟩,qz⟩:=row4 hQ2
     have z0:=RowIs.frozen hQ2 0
     have z1:=RowIs.frozen hQ2 1
     have z2:=RowIs.frozen hQ2 2
     have z3:=RowIs.frozen hQ2 3
     have hb2:=(HWX.out.mono vzW).trans (below_of_grown hg2 (B:=w.heap.size) (by omega) (by have:=HWX.out.size; omega))
     have HB2:=Lib.hid (HB.out.trans hb2)
     have HQ2:=Lib.hid hQ2
     clear HW hs2 hg2 hQ2 hb2 x0 p0 p1 p2 p3 hcopy hX hV
     go_wp2_with fail
     have hY:=(((HQ2.out.set 0 (.int .i64 0)).set 1 (.int .i64 0)).set 2 (.int .i64 0)).set 3 (.int .i64 0)
     have y0:=RowIs.cell hY 0
     have y1:=RowIs.cell hY 1
     have y2:=RowIs.cell hY 2
     have y3:=RowIs.cell hY 3
     simp at y0 y1 y2 y3
     refine bodyPost_ret (v:=planR (fun _=>0) 2) (by simp [results,Try.results62,go_sem,y0,y1,y2,y3]) rfl ⟨rfl,?_⟩
     repeat (first | exact HB2.out | (show w.heap.size≤w.heap.size+1; omega) | (refine Below.setCell ?_ ?_ _))
    ·have hE:planE len len g=0:=by rw [HE.out,if_neg h3]
     rw [planP_yes hE,hE]
     simp only [hz5,decide_eq_false h3] at heq
     clear h3 hz5 Hzs HE hE
     go_enter Try.func62,Try.ntmps62
     go_wp2_with fail
     refine HI.out.mono ?_
     rintro e w1 ⟨rfl,rfl⟩
     clear HI hW
     go_wp2_with fail
     refine HW.out.mono ?_
     rintro e w2 ⟨rfl,hs2,hg2⟩
     obtain ⟨⟨g0,g1,g2,g3,g4⟩,gz⟩:=row5 hs2
     have hQ2:RowIs w2 (w.heap.size+1) (planRow fun _=>0) 77:=(hg2.block _ HQX.out.lt (fun h=>by have:=Option.some.inj h; omega)).trans HQX.out
     have hP2:RowIs w2 W.heap.size (planRow (padF g len)) 77:=(hg2.block _ HPX.out.lt (fun h=>by have:=Option.some.inj h; omega)).trans HPX.out
     obtain ⟨⟨q0,q1,q2,q3⟩,qz⟩:=row4 hQ2
     obtain ⟨⟨s0,s1,s2,s3⟩,sz⟩:=row4 hP2
     have z0:=RowIs.frozen hQ2 0
     have z1:=RowIs.frozen hQ2 1
     have z2:=RowIs.frozen hQ2 2
     have z3:=RowIs.frozen hQ2 3
     have hb2:=(HWX.out.mono vzW).trans (below_of_grown hg2 (B:=w.heap.size) (by omega) (by have:=HWX.out.size; omega))
     have HB2:=Lib.hid (HB.out.trans hb2)
     have HQ2:=Lib.hid hQ2
     clear HW hs2 hg2 hQ2 hP2 hb2 x0 p0 p1 p2 p3 hcopy hX hV
     go_wp2_with fail
     have hY:=(((HQ2.out.set 0 (.int .i64 (padF g len 0))).set 1 (.int .i64 (padF g len 1))).set 2 (.int .i64 (padF g len 2))).set 3 (.int .i64 (padF g len 3))
     have y0:=RowIs.cell hY 0
     have y1:=RowIs.cell hY 1
     have y2:=RowIs.cell hY 2
     have y3:=RowIs.cell hY 3
     simp at y0 y1 y2 y3
     refine bodyPost_ret (v:=planR (padF g len) 0) (by simp [results,Try.results62,go_sem,y0,y1,y2,y3]) rfl ⟨rfl,?_⟩
     repeat (first | exact HB2.out | (show w.heap.size≤w.heap.size+1; omega) | (refine Below.setCell ?_ ?_ _))
 ·have t0:(((len:Nat):Int) != ((m:Nat):Int))=true:=by simp; omega
  have hE:planE len m g=15:=if_neg h1
  rw [planP_no (by rw [hE]; decide),hE]
  obtain ⟨⟨q0,q1,q2,q3⟩,qz⟩:=row4 hQ
  have z0:=RowIs.frozen hQ 0
  have z1:=RowIs.frozen hQ 1
  have z2:=RowIs.frozen hQ 2
  have z3:=RowIs.frozen hQ 3
  have HQ:=Lib.hid hQ
  clear hf hO hp hB hR hQ h1 hE
  go_enter Try.func62,Try.ntmps62
  go_wp2_with fail
  have hY:=(((HQ.out.set 0 (.int .i64 0)).set 1 (.int .i64 0)).set 2 (.int .i64 0)).set 3 (.int .i64 0)
  have y0:=RowIs.cell hY 0
  have y1:=RowIs.cell hY 1
  have y2:=RowIs.cell hY 2
  have y3:=RowIs.cell hY 3
  simp at y0 y1 y2 y3
  refine bodyPost_ret (v:=planR (fun _=>0) 15) (by simp [results,Try.results62,go_sem,y0,y1,y2,y3]) rfl ⟨rfl,?_⟩
  repeat (first | exact HB.out | (show w.heap.size≤w.heap.size+1; omega) | (refine Below.setCell ?_ ?_ _))
end Go.Proofs.Ytkbbhihndigmeaa

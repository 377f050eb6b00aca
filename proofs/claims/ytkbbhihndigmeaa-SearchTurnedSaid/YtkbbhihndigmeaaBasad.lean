/- Ranges over functions that yield what they make: an iterator that only makes new blocks, and yields things that lie in the world as an encoding says. It imports nothing of the program. -/
import Derived.RangeFuncNested
import Derived.RangeFuncCalls
import Derived.RangeFuncLeaves
import Derived.Test.YtkbbhihndigmeaaBasaa
import Derived.Test.YtkbbhihndigmeaaBasac
import Derived.Test.YtkbbhihndigmeaaProg
import Derived.ArgAppend
import Derived.Laws.OwnMore
import Derived.OwnWalkIn
import Derived.Maps.AppendAt
namespace Go.Proofs.Ytkbbhihndigmeaa
open Go Go.RowKit
structure Still (r:Nat) (p:World→Prop):Prop where
 grow : ∀ A B,p A→Below A.heap.size A B→p B
 put : ∀ A o o',A.heap[r]? = some (.loop o)→p A→p (A.putObj r (.loop o'))
theorem Still.and {r:Nat} {p q:World→Prop} (h:Still r p) (k:Still r q):Still r fun A=>p A∧q A:=
 ⟨fun A B hA hB=>⟨h.grow A B hA.1 hB,k.grow A B hA.2 hB⟩,fun A o o' hr hA=>⟨h.put A o o' hr hA.1,k.put A o o' hr hA.2⟩⟩
theorem Still.pure {r:Nat} (p:Prop):Still r fun _=>p:=⟨fun _ _ h _=>h,fun _ _ _ _ h=>h⟩
theorem Still.ex {r:Nat} {β : Sort _} {p : β → World→Prop} (h : ∀ x,Still r (p x)):Still r fun A=> ∃ x,p x A:=
 ⟨fun A B ⟨x,hx⟩ hB=>⟨x,(h x).grow A B hx hB⟩,fun A o o' hr ⟨x,hx⟩=>⟨x,(h x).put A o o' hr hx⟩⟩
theorem Still.all {r:Nat} {β : Sort _} {p : β → World→Prop} (h : ∀ x,Still r (p x)):Still r fun A=> ∀ x,p x A:=
 ⟨fun A B hx hB x=>(h x).grow A B (hx x) hB,fun A o o' hr hx x=>(h x).put A o o' hr (hx x)⟩
theorem Still.or {r:Nat} {p q:World→Prop} (h:Still r p) (k:Still r q):Still r fun A=>p A∨q A:=
 ⟨fun A B hA hB=>hA.imp (h.grow A B · hB) (k.grow A B · hB),fun A o o' hr hA=>hA.imp (h.put A o o' hr) (k.put A o o' hr)⟩
theorem Still.row {r:Nat} (b:Nat) (c:Array Value) (e:TypeId) (m:Nat × Nat):Still r fun A=>A.heap[b]? = some (.cells c e m):=
 ⟨fun A B hA hB=>(hB.block b (Array.getElem?_eq_some_iff.1 hA).1).trans hA,
  fun A o o' hr hA=>(World.putObj_heap_other (fun e=>by subst e; rw [hr] at hA; cases hA)).trans hA⟩
theorem Still.size {r:Nat} (b:Nat):Still r fun A=>b≤A.heap.size:=
 ⟨fun _ _ hA hB=>Nat.le_trans hA hB.size,fun A o o' _ hA=>by simpa using hA⟩
theorem Still.above {r:Nat} (b:Nat):Still r fun A=>b<A.heap.size:=
 ⟨fun _ _ hA hB=>Nat.lt_of_lt_of_le hA hB.size,fun A o o' _ hA=>by simpa using hA⟩
theorem Still.below {r:Nat} (B:Nat) (w:World) (hr:B≤r):Still r fun A=>Below B w A∧B≤A.heap.size:=
 ⟨fun A B' hA hB=>⟨hA.1.trans (hB.mono hA.2),Nat.le_trans hA.2 hB.size⟩,fun A o o' _ hA=>⟨hA.1.trans (below_put _ hr),by simpa using hA.2⟩⟩
theorem Still.cell {r:Nat} (b o:Nat) (v:Value):Still r fun A=>b<A.heap.size∧A.cell? ⟨b,o,none⟩=some v:=
 ⟨fun A B hA hB=>⟨Nat.lt_of_lt_of_le hA.1 hB.size,(hB.cell (p:=⟨b,o,none⟩) hA.1).trans hA.2⟩,fun A x x' hr hA=>by
  refine ⟨by simpa using hA.1,?_⟩
  have hn:b ≠ r:=fun e=>by
   subst e
   have:=hA.2
   simp [World.cell?,hr] at this
  have:(A.putObj r (.loop x')).heap[b]? = A.heap[b]? := World.putObj_heap_other hn
  exact (World.cell?_of_block (a:=⟨b,o,none⟩) this).trans hA.2⟩
theorem Still.cells {r:Nat} (a:Option Addr) (n:Nat) (f:Nat→Value):Still r fun A=>Cells A a n f:=
 ⟨fun A B hA hB=>hA.below hB,fun A x x' hr hA=>by
  rcases hA with h | ⟨b,off,rfl,hlt,hc⟩
  ·exact .inl h
  ·refine .inr ⟨b,off,rfl,by simpa using hlt,fun i hi => ?_⟩
   exact ((Still.cell (r:=r) b (off+i) (f i)).put A x x' hr ⟨hlt,hc i hi⟩).2⟩
theorem Still.mono {r:Nat} {p q:World→Prop} (h:Still r p) (e : ∀ A,p A↔q A):Still r q:=
 ⟨fun A B hA hB=>(e B).1 (h.grow A B ((e A).2 hA) hB),fun A o o' hr hA=>(e _).1 (h.put A o o' hr ((e A).2 hA))⟩
def GivesA {α : Type} (P:Program) (gf:Nat) (first lb:Array Value) (K:Nat→Prop) (L:List α) (Enc:World → α → Array Value→Prop) (w:World):Prop:=
 ∀ (l:Nat) (J Jx:Nat→World→Prop) (W:World),
   (∀ k,K k→k<w.heap.size∧W.heap[k]? = w.heap[k]?)→w.heap.size≤W.heap.size →
   (∀ k A B,J k A→Below A.heap.size A B→J k B)→(∀ k A B,Jx k A→Below A.heap.size A B→Jx k B) →
   (∀ k (h:k<L.length) A vs,W.heap.size≤A.heap.size→J k A→Enc A L[k] vs→YieldAt Fence.wide 0 P l vs A fun e B=>(e = .returned (.bool true)∧J (k+1) B∧Spares K W.heap.size A B)∨(e = .returned (.bool false)∧Jx (k+1) B∧Spares K W.heap.size A B)) →
   J 0 W →
   Calls P gf (first ++ #[.func (.yield l) #[] #[]] ++ lb) W fun e B=>(∃ v,e = .returned v)∧(J L.length B ∨ ∃ k,Jx k B)
theorem GivesA.later {α : Type} {P:Program} {gf:Nat} {first lb:Array Value} {K:Nat→Prop} {L:List α} {Enc:World → α → Array Value→Prop} {w w':World} (h:GivesA P gf first lb K L Enc w) (hK : ∀ k,K k→k<w.heap.size)
 (hs:w.heap.size≤w'.heap.size) (hb : ∀ k,K k→w'.heap[k]? = w.heap[k]?):GivesA P gf first lb K L Enc w':=
 fun l J Jx W hW hz hJ hJx hY h0=>h l J Jx W (fun k hk=>⟨hK k hk,(hW k hk).2.trans (hb k hk)⟩) (Nat.le_trans hs hz) hJ hJx hY h0
theorem wpIn_rangeA {α : Type} {n:Nat} {P:Program} {g:Operand} {ps:Array Tmp} {assign body:Code} {Q:Exit→Act→World→Prop} {a:Act} {w:World} {gf:Nat} {first lb:Array Value} {K:Nat→Prop} {L:List α} {Enc:World → α → Array Value→Prop}
 (hg:a.eval g = .func (.func gf) first lb) (eg : ∀ args w,(callFunc gf args).run P w = .ok (.enter gf args) w)
 (hseq:GivesA P gf first lb K L Enc w) (hK : ∀ k,K k→k<w.heap.size) (hps : ∀ A x vs,Enc A x vs→vs.size=ps.size) (hE : ∀ x vs,Still (w.heap.size+1) fun A=>Enc A x vs)
 (I:Nat→World→Prop) (Ix:Code→Nat→World→Prop) (hI : ∀ k,Still (w.heap.size+1) (I k)) (hIx : ∀ c k,Still (w.heap.size+1) (Ix c k)) (h0:I 0 w)
 (Ax:Nat→Array Value→Act→World→Prop) (hAx : ∀ k vs a',Still (w.heap.size+1) (Ax k vs a'))
 (hassign : ∀ (l k:Nat) (hk:k<L.length) (A:World) (vs:Array Value) (T:Act→World→Prop),w.heap.size+2≤A.heap.size→I k A→Enc A L[k] vs→(∀ a' A',Below A.heap.size A A'→Ax k vs a' A'→T a' A') →
   assign.wpIn (Fence.wide.inRound l) n P (Exit.then T (fun _ _ _=>False)) { tmps:=(ps.zip vs).foldl (fun t (p,v)=>t.setIfInBounds p v) a.tmps,defers:=[] } A)
 (hbody : ∀ (l k:Nat) (hk:k<L.length) (vs:Array Value) (a':Act) (A:World),w.heap.size+2≤A.heap.size→I k A→Enc A L[k] vs→Ax k vs a' A→body.wpIn (Fence.wide.inRound l) n P (roundQ K w.heap.size I Ix k A) a' A)
 (hdone : ∀ B:World,w.heap.size+2≤B.heap.size→I L.length B→B.heap[w.heap.size]? = some (.deferred (some []))→Q .normal { a with defers:= { target:= .collected w.heap.size,args := #[] } :: a.defers } B)
 (hstop : ∀ (c:Code) (k:Nat) (B:World),w.heap.size+2≤B.heap.size→Ix c k B→B.heap[w.heap.size]? = some (.deferred (some []))→c.wpIn Fence.wide n P Q { a with defers:= { target:= .collected w.heap.size,args := #[] } :: a.defers } B) :
 (Code.rangeFunc g ps assign body).wpIn Fence.wide n P Q a w:=by
 refine wpIn_rangeFunc fun fn _ => ?_
 obtain ⟨b,hb⟩ : ∃ b,w.heap.size=b:=⟨_,rfl⟩
 obtain ⟨record,hrec⟩ : ∃ record:LoopState→Option Code→Loop,record=fun st pe=> { state:=st,pending:=pe,fn,tmps:=a.tmps,params:=ps,assign,body,defers:=b } := ⟨_,rfl⟩
 obtain ⟨W,hW⟩ : ∃ W,(w.alloc (.deferred (some []))).alloc (.loop (record .ready none))=W:=⟨_,rfl⟩
 have hWl:W.heap[b+1]? = some (.loop (record .ready none)):=by
  rw [← hW, ← hb]
  have:=World.alloc_heap_new (w.alloc (.deferred (some []))) (.loop (record .ready none))
  rwa [World.size_alloc] at this
 have hWd:W.heap[b]? = some (.deferred (some [])):=by
  rw [← hW, ← hb]
  exact (Below.heap_alloc _ _ _ (by simp)).trans (World.alloc_heap_new w _)
 have hWz:W.heap.size=b+2:=by rw [← hW]; simp [hb]
 have hWb:Below b w W:=by
  rw [← hW, ← hb]
  exact ((Below.refl _ w).alloc (Nat.le_refl _) _).alloc (by simp) _
 have hI0:I 0 W:=(hI 0).grow w W h0 (by rw [hb]; exact hWb)
 rw [hb] at hI hIx hAx hE hassign hbody hdone hstop hK
 -- what lies between two rounds
 let J:Nat→World→Prop:=fun k A=>I k A∧A.heap[b+1]? = some (.loop (record .ready none))∧A.heap[b]? = some (.deferred (some []))∧b+2≤A.heap.size
 let Jx:Nat→World→Prop:=fun k A=> ∃ c,Ix c k A∧A.heap[b+1]? = some (.loop (record .done (some c)))∧A.heap[b]? = some (.deferred (some []))∧b+2≤A.heap.size
 refine ⟨b+1,[{ target:= .collected b,args := #[] }],W, { target:= .fn (.func gf) lb,args:=first ++ #[.func (.yield (b+1)) #[] #[]] },W,gf,first ++ #[.func (.yield (b+1)) #[] #[]] ++ lb,W,?_,?_,fun _ _=>trivial,?_,fun h=>by simp [Fence.wide] at h,?_⟩
 ·rw [← hW,hrec, ← hb]
  exact run_enterLoop_outer _ _ _ _ _
 ·simp only [resolve,hg]
  simp [go_sem]
 ·simp [invoke,go_sem,eg]
 refine callsIn_wide.2 ((hseq (b+1) J Jx W ?_ (by omega) ?_ ?_ ?_ ?_).mono ?_)
 ·intro k hk
  have:=hK k hk
  exact ⟨by omega,hWb.block k this⟩
 ·rintro k A B ⟨h1,h2,h3,h4⟩ hAB
  exact ⟨(hI k).grow A B h1 hAB,(hAB.block _ (by omega)).trans h2,(hAB.block _ (by omega)).trans h3,Nat.le_trans h4 hAB.size⟩
 ·rintro k A B ⟨c,h1,h2,h3,h4⟩ hAB
  exact ⟨c,(hIx c k).grow A B h1 hAB,(hAB.block _ (by omega)).trans h2,(hAB.block _ (by omega)).trans h3,Nat.le_trans h4 hAB.size⟩
 ·rintro k hk A vs _ ⟨h1,h2,h3,h4⟩ hvs
  have hy:=run_yield (P:=P) (args:=vs) h2 (by rw [hrec]; exact hps A _ vs hvs)
  rw [hrec] at hy
  refine ⟨fn,_,assign,body,hy,round_any (n:=n) rfl (roundIn_of_wpIn trivial (hassign _ k hk A vs _ h4 h1 hvs ?_))⟩
  intro a' A' hAA hax
  have hz':=hAA.size
  have h2':A'.heap[b+1]? = some (.loop (record .ready none)):=(hAA.block _ (by omega)).trans h2
  have h3':A'.heap[b]? = some (.deferred (some [])):=(hAA.block _ (by omega)).trans h3
  refine ⟨_,run_beginRound h2' (by rw [hrec]),?_⟩
  obtain ⟨C,hC⟩ : ∃ C,A'.putObj (b+1) (.loop { record .ready none with state:= .busy })=C:=⟨_,rfl⟩
  have hC2:C.heap[b+1]? = some (.loop { record .ready none with state:= .busy }):=by rw [← hC]; exact World.putObj_heap_same (by omega)
  have hC3:C.heap[b]? = some (.deferred (some [])):=by rw [← hC]; exact (World.putObj_heap_other (by omega)).trans h3'
  have hCz:C.heap.size=A'.heap.size:=by rw [← hC]; simp
  have hCI:I k C:=by
   rw [← hC]
   exact (hI k).put _ _ _ h2' ((hI k).grow _ _ h1 hAA)
  have hCE:Enc C L[k] vs:=by
   rw [← hC]
   exact (hE _ vs).put _ _ _ h2' ((hE _ vs).grow _ _ hvs hAA)
  have hCx:Ax k vs a' C:=by rw [← hC]; exact (hAx k vs a').put _ _ _ h2' hax
  have hKb : ¬ K (b+1):=fun h=>by have:=hK _ h; omega
  have hAC:Spares K (b+2) A C:=by
   rw [← hC]
   exact (Spares.of_below hAA).trans (Spares.put _ hKb (by omega))
  rw [hC]
  refine wpIn_mono (hbody _ k hk vs a' C (by omega) hCI hCE hCx) ?_
  have fin : ∀ (jump:Option Code) (B:World),Spares K b C B →
   ∃ B',(Instr.endRound (b+1) jump).run P B = .ok (.bool jump.isNone) B'∧B'.heap[b+1]? = some (.loop (record (if jump.isNone then .ready else .done) jump))∧B'.heap[b]? = some (.deferred (some [])) ∧
     b+2≤B'.heap.size∧(∃ o o',B.heap[b+1]? = some (.loop o)∧B'=B.putObj (b+1) (.loop o'))∧Spares K (b+2) A B':=fun jump B hCB=>by
   have hBz:=hCB.size
   have g2:B.heap[b+1]? = some (.loop { record .ready none with state:= .busy }):=(hCB.block _ (by omega) (.inr (by omega))).trans hC2
   have g3:B.heap[b]? = some (.deferred (some [])):=(hCB.block _ (by omega) (.inr (by omega))).trans hC3
   have hr:=run_endRound (P:=P) jump g2
   rw [hrec] at hr
   refine ⟨_,hr,?_,(World.putObj_heap_other (by omega)).trans g3,by simp; omega,⟨_,_,g2,rfl⟩,?_⟩
   ·rw [World.putObj_heap_same (by omega),hrec]
   ·exact hAC.trans ((hCB.mono (fun k h=> .inl h) (by omega)).trans (Spares.put _ hKb (by omega)))
  intro e a3 B hp
  cases e with
  | normal=>
    obtain ⟨hs,hi⟩:=hp
    obtain ⟨B',hr,f1,f2,f3,⟨o,o',f4,f6⟩,f5⟩:=fin none B hs
    exact ⟨_,_,hr, .inl ⟨rfl,⟨by rw [f6]; exact (hI _).put _ _ _ f4 hi,f1,f2,f3⟩,by rw [hWz]; exact f5⟩⟩
  | ret=>
    obtain ⟨hs,hi⟩:=hp
    obtain ⟨B',hr,f1,f2,f3,⟨o,o',f4,f6⟩,f5⟩:=fin (some .ret) B hs
    exact ⟨_,_,hr, .inr ⟨rfl,⟨.ret,by rw [f6]; exact (hIx _ _).put _ _ _ f4 hi,f1,f2,f3⟩,by rw [hWz]; exact f5⟩⟩
  | exit id=>
    obtain ⟨hs,hi⟩:=hp
    obtain ⟨B',hr,f1,f2,f3,⟨o,o',f4,f6⟩,f5⟩:=fin (some (.exit id)) B hs
    exact ⟨_,_,hr, .inr ⟨rfl,⟨.exit id,by rw [f6]; exact (hIx _ _).put _ _ _ f4 hi,f1,f2,f3⟩,by rw [hWz]; exact f5⟩⟩
  | goto t=>
    obtain ⟨hs,hi⟩:=hp
    obtain ⟨B',hr,f1,f2,f3,⟨o,o',f4,f6⟩,f5⟩:=fin (some (.goto t)) B hs
    exact ⟨_,_,hr, .inr ⟨rfl,⟨.goto t,by rw [f6]; exact (hIx _ _).put _ _ _ f4 hi,f1,f2,f3⟩,by rw [hWz]; exact f5⟩⟩
  | panic ch=>exact hp.elim
  | outgrown=>exact hp.elim
 ·exact ⟨hI0,hWl,hWd,by omega⟩
 ·rintro e B ⟨⟨v,rfl⟩,(⟨h1,h2,h3,h4⟩ | ⟨k,c,h1,h2,h3,h4⟩)⟩
  ·refine ⟨none,_,(by have:=run_endLoop (P:=P) h2 (by rw [hrec]; simp); rw [hrec] at this; exact this),?_⟩
   have:=hdone (B.putObj (b+1) (.loop (record .exhausted none))) (by simp; omega) ((hI _).put _ _ _ h2 h1) ((World.putObj_heap_other (by omega)).trans h3)
   simpa [hrec] using this
  ·refine ⟨some c,_,(by have:=run_endLoop (P:=P) h2 (by rw [hrec]; simp); rw [hrec] at this; exact this),?_⟩
   have:=hstop c k (B.putObj (b+1) (.loop (record .exhausted (some c)))) (by simp; omega) ((hIx _ _).put _ _ _ h2 h1) ((World.putObj_heap_other (by omega)).trans h3)
   simpa [hrec] using this
end Go.Proofs.Ytkbbhihndigmeaa

namespace Go.Proofs.Ytkbbhihndigmeaa
open Go Go.RowKit
theorem RowIs.frozen {w:World} {b:Nat} {c:Array Value} {e:TypeId} (h:RowIs w b c e) (j:Nat):w.frozen? ⟨b,j,none⟩=false:=by
 simp [World.frozen?,h]
theorem RowIs.set {w:World} {b:Nat} {c:Array Value} {e:TypeId} (h:RowIs w b c e) (j:Nat) (v:Value):RowIs (w.setCell ⟨b,j,none⟩ v) b (c.setIfInBounds j v) e:=by
 simp only [RowIs,World.setCell,Array.getElem?_modify]
 simp only [RowIs] at h
 simp [h]
theorem RowIs.other {w:World} {b b':Nat} {c:Array Value} {e:TypeId} (h:RowIs w b c e) (j:Nat) (v:Value) (hn:b' ≠ b):RowIs (w.setCell ⟨b',j,none⟩ v) b c e:=by
 rw [RowIs,Below.heap_setCell _ _ _ _ (fun e=>hn e.symm)]; exact h
theorem RowIs.alloc {w:World} {b:Nat} {c:Array Value} {e:TypeId} (h:RowIs w b c e) (o:Obj):RowIs (w.alloc o) b c e:=by
 have hb:=(Array.getElem?_eq_some_iff.1 h).1
 rw [RowIs,Below.heap_alloc _ _ _ hb]; exact h
theorem RowIs.below {w w':World} {b:Nat} {c:Array Value} {e:TypeId} (h:RowIs w b c e) (hb:Below w.heap.size w w'):RowIs w' b c e:=(hb.block b (Array.getElem?_eq_some_iff.1 h).1).trans h
theorem RowIs.lt {w:World} {b:Nat} {c:Array Value} {e:TypeId} (h:RowIs w b c e):b<w.heap.size:=(Array.getElem?_eq_some_iff.1 h).1
theorem RowIs.drew {w:World} {b:Nat} {c:Array Value} {e:TypeId} (h:RowIs w b c e):RowIs w.drew b c e:=h
def putL (w:World) (b:Nat):Nat→List Value→World
 | _,[]=>w
 | o,v :: l=>putL (w.setCell ⟨b,o,none⟩ v) b (o+1) l
def setL (c:Array Value):Nat→List Value→Array Value
 | _,[]=>c
 | o,v :: l=>setL (c.setIfInBounds o v) (o+1) l
theorem putL_row {T:TypeId} {b:Nat} {w:World} {c:Array Value} {o:Nat} {l:List Value} : RowIs w b c T→RowIs (putL w b o l) b (setL c o l) T:=by
 induction l generalizing w c o with
 | nil=>exact id
 | cons v l ih=>exact fun h=>ih (h.set o v)
theorem putL_below {b B:Nat} (h:B≤b) : ∀ {w:World} {o:Nat} {l:List Value},Below B w (putL w b o l)
 | w,_,[]=>Below.refl B w
 | w,o,v :: _=>((Below.refl B w).setCell (p:=⟨b,o,none⟩) h v).trans (putL_below h)
theorem putL_other {b k:Nat} (h:k ≠ b) : ∀ {w:World} {o:Nat} {l:List Value},(putL w b o l).heap[k]? = w.heap[k]?
 | _,_,[]=>rfl
 | w,o,v :: _=>(putL_other h (w:=w.setCell ⟨b,o,none⟩ v)).trans (Below.heap_setCell _ _ _ _ h)
theorem putL_size {b:Nat} : ∀ {w:World} {o:Nat} {l:List Value},(putL w b o l).heap.size=w.heap.size
 | _,_,[]=>rfl
 | w,o,v :: _=>(putL_size (w:=w.setCell ⟨b,o,none⟩ v)).trans (by simp [World.setCell])
end Go.Proofs.Ytkbbhihndigmeaa

namespace Go.Proofs.Ytkbbhihndigmeaa
open Go Go.RowKit
structure Lst (A:World) (x:List Nat) (p:Option Addr) (cap:Nat):Prop where
 cells:Ints A p x.length fun i=>((x.getD i 0:Nat):Int)
 room:x.length≤cap
 fit:cap≤9223372036854775807
 nil:p=none→x.length=0∧cap=0
theorem Lst.below {A B:World} {x:List Nat} {p:Option Addr} {cap:Nat} (h:Lst A x p cap) (hb:Below A.heap.size A B):Lst B x p cap:=⟨Cells.below h.cells hb,h.room,h.fit,h.nil⟩
theorem Lst.still {r:Nat} (x:List Nat) (p:Option Addr) (cap:Nat):Still r fun A=>Lst A x p cap:=
 (((Still.cells p x.length _).and (Still.pure (x.length≤cap∧cap≤9223372036854775807∧(p=none→x.length=0∧cap=0)))).mono fun _=>⟨fun ⟨h1,h2,h3,h4⟩=>⟨h1,h2,h3,h4⟩,fun h=>⟨h.cells,h.room,h.fit,h.nil⟩⟩)
theorem lst_nil {A:World} : Lst A [] none 0:=⟨.inl rfl,Nat.le_refl _,by omega,fun _=>⟨rfl,rfl⟩⟩
theorem Lst.block {A B:World} {x:List Nat} {p:Option Addr} {cap:Nat} (h:Lst A x p cap) (hz:A.heap.size≤B.heap.size) (hb : ∀ b off,p=some ⟨b,off,none⟩→b<A.heap.size→B.heap[b]? = A.heap[b]?):Lst B x p cap:=by
 refine ⟨?_,h.room,h.fit,h.nil⟩
 rcases h.cells with h0 | ⟨b,off,rfl,hlt,hc⟩
 ·exact .inl h0
 ·exact .inr ⟨b,off,rfl,Nat.lt_of_lt_of_le hlt hz,fun i hi=>(World.cell?_of_block (a:=⟨b,_,none⟩) (hb b off rfl hlt)).trans (hc i hi)⟩
theorem Lst.others {A B:World} {x:List Nat} {p:Option Addr} {cap b1 b2:Nat} (h:Lst A x p cap) (hz:A.heap.size≤B.heap.size) (hb : ∀ i,i<A.heap.size→i ≠ b1→i ≠ b2→B.heap[i]? = A.heap[i]?)
 (h1 : ∀ o n,A.cell? ⟨b1,o,none⟩ ≠ some (.int .i64 n)) (h2 : ∀ o n,A.cell? ⟨b2,o,none⟩ ≠ some (.int .i64 n)):Lst B x p cap:=by
 refine ⟨?_,h.room,h.fit,h.nil⟩
 rcases h.cells with h0 | ⟨b,off,rfl,hlt,hc⟩
 ·exact .inl h0
 ·by_cases hx:x.length=0
  ·exact .inl hx
  ·have c0:=hc 0 (by omega)
   have e:=hb b hlt (fun e=>by subst e; exact h1 _ _ c0) (fun e=>by subst e; exact h2 _ _ c0)
   exact .inr ⟨b,off,rfl,Nat.lt_of_lt_of_le hlt hz,fun i hi=>(World.cell?_of_block (a:=⟨b,_,none⟩) e).trans (hc i hi)⟩
theorem row_noint {w:World} {b:Nat} {v:Value} {e:TypeId} (h:RowIs w b #[v] e) (hv : ∀ n,v ≠ .int .i64 n) (o:Nat) (n:Int):w.cell? ⟨b,o,none⟩ ≠ some (.int .i64 n):=by
 rw [h.cell o]
 cases o with
 | zero=>intro e; exact hv n (by simpa using e)
 | succ o=>simp
theorem infoInt:(Try.prog.info? 3).map (fun i=>(i.zero,i.size,i.bytes))=some (some (.int .i64 0),1,8):=by kernel_rfl
theorem info_parts1 {o:Option TypeInfo} {z:Value} {s b:Nat} (h:o.map (fun i=>(i.zero,i.size,i.bytes))=some (some z,s,b)) : ∃ i,o=some i∧i.zero=some z∧i.size=s∧i.bytes=b:=by
 cases o with
 | none=>cases h
 | some i=>
   simp only [Option.map_some,Option.some.injEq,Prod.mk.injEq] at h
   exact ⟨i,rfl,h.1,h.2.1,h.2.2⟩
theorem wpListIn_append_run {F:Fence} {n:Nat} {P:Program} {w w':World} {ops:Array Oper} {rest:List Oper} {o:Oper} {a:Act} {Q:Exit→Act→World→Prop} {v1 v2 v:Value}
 (hw:Region.wanted o (yielded ops a.tmps)=true) (s x:Operand) (t:TypeId) (hop:o.op=Op.call { callee:=Callee.builtin Builtin.append,args := #[s,x],argTypes := #[t,t] })
 (hs:a.eval s=v1) (hx:a.eval x=v2) (hrun:(Builtin.append_ #[t,t] o.type #[v1,v2]).run P w = .ok v w') (hK:wpListIn F n P ops Q rest (a.put o.dst v) w'):wpListIn F n P ops Q (o :: rest) a w:=by
 refine wpListIn_step fun K hK' => ?_
 rw [if_pos hw]
 unfold Oper.wpIn
 refine ⟨?_,?_⟩
 ·simp [Oper.about,hop,resolve,Target.leads,Sem.run_pure]
 ·rw [Oper.semAt_plain F _ _ (by rw [hop]; intro c hc'; cases hc')]
  simp [execOp,hop,resolve,invoke,builtin,hs,hx,hrun,Result.andThen]
  exact hK' _ _ hK
theorem wpList_append_run {P:Program} {w w':World} {ops:Array Oper} {rest:List Oper} {o:Oper} {a:Act} {Q:Exit→Act→World→Prop} {v1 v2 v:Value}
 (hw:Region.wanted o (yielded ops a.tmps)=true) (s x:Operand) (t:TypeId) (hop:o.op=Op.call { callee:=Callee.builtin Builtin.append,args := #[s,x],argTypes := #[t,t] })
 (hs:a.eval s=v1) (hx:a.eval x=v2) (hrun:(Builtin.append_ #[t,t] o.type #[v1,v2]).run P w = .ok v w') (hK:wpList P ops Q rest (a.put o.dst v) w'):wpList P ops Q (o :: rest) a w:=by
 refine wpList_step fun K hK' => ?_
 rw [if_pos hw]
 unfold Oper.wp
 simp [execOp,hop,resolve,invoke,builtin,hs,hx,hrun,Result.andThen]
 exact hK' _ _ hK
def natL (x:List Nat):List Value:=x.map fun i:Nat=>Value.int .i64 (i:Int)
theorem lst_of_own {w:World} {base g cap n:Nat} {x:List Nat} (hn:n=x.length) (h:w.ownsRow base 3 1 (.slice (some ⟨g,0,none⟩) n cap) n (natL x)):Lst w x (some ⟨g,0,none⟩) cap:=by
 have hlt:=h.lt g rfl
 rcases h.2 with ⟨h',_⟩ | ⟨g',cap',cur,h',_,hg,h1,h2,h3,h4⟩
 ·cases h'
 ·simp only [Value.slice.injEq,Option.some.injEq,Addr.mk.injEq,and_true,true_and] at h'
  obtain ⟨rfl,rfl⟩:=h'
  refine ⟨.inr ⟨g,0,rfl,hlt.2,fun i hi => ?_⟩,by omega,by unfold maxLen at h2; omega,fun e=>by cases e⟩
  have:=h.cellAt i (by rw [hn]; omega)
  rw [Nat.zero_add,this]
  simp [natL,List.getD,hi]
theorem append_lst {A:World} {x:List Nat} {p:Option Addr} {cap:Nat} (h:Lst A x p cap) (b i:Nat) (hb:RowIs A b #[.int .i64 (i:Int)] 3) (hx:x.length≤1048576) :
 ∃ g cap' B,(Builtin.append_ #[42,42] 42 #[.slice p x.length x.length, .slice (some ⟨b,0,none⟩) 1 1]).run Try.prog A = .ok (.slice (some ⟨g,0,none⟩) (x.length+1) cap') B∧A.heap.size≤g∧Lst B (x ++ [i]) (some ⟨g,0,none⟩) cap'∧Below A.heap.size A B:=by
 obtain ⟨i0,hi,hi0,hi1,hi2⟩:=info_parts1 infoInt
 have hnews : ∀ j u,[Value.int .i64 (i:Int)][j]? = some u→A.cell? ((⟨b,0,none⟩:Addr).add j)=some u:=fun j u hj=>by
  cases j with
  | zero=>
    rw [← hj]
    exact (hb.cell 0)
  | succ j=>simp at hj
 have hlen:(natL x).length=x.length*1:=by simp [natL]
 have hold : ∀ a,p=some a → ∀ j u,(natL x)[j]? = some u→A.cell? (a.add j)=some u:=fun a e j u hj=>by
  have hjx:j<x.length:=by
   have:=(List.getElem?_eq_some_iff.1 hj).1
   simpa [natL] using this
  obtain ⟨b',off,e',hlt,hc⟩:=Cells.at h.cells j hjx
  rw [e'] at e
  cases e
  have hv:u=Value.int .i64 ((x.getD j 0:Nat):Int):=by
   simp [natL,List.getElem?_eq_getElem hjx] at hj
   rw [← hj]; simp [List.getD,hjx]
  rw [hv,Addr.add_lit]
  exact hc j hjx
 have fin : ∀ v' w',w'.ownsRow A.heap.size 3 1 v' (x.length+1) (natL x ++ [Value.int .i64 (i:Int)])→A.grownBy w' none →
  ∃ g cap',v' = .slice (some ⟨g,0,none⟩) (x.length+1) cap'∧A.heap.size≤g∧Lst w' (x ++ [i]) (some ⟨g,0,none⟩) cap'∧Below A.heap.size A w':=fun v' w' hown hgr=>by
  have hown2:=hown
  rcases hown2.2 with ⟨_,h0⟩ | ⟨g,cap',cur,hv,hbase,_⟩
  ·omega
  ·subst hv
   refine ⟨g,cap',rfl,hbase,lst_of_own (base:=A.heap.size) (n:=x.length+1) (by simp) ?_,⟨hgr.os,hgr.tape,hgr.output,hgr.size,fun k hk=>hgr.block k hk (by simp)⟩⟩
   have:natL (x ++ [i])=natL x ++ [Value.int .i64 (i:Int)]:=by simp [natL]
   rw [this]
   exact hown
 cases p with
 | some a=>
   obtain ⟨v',w',hrun,h1,h2⟩:=run_append_arg_grows (P:=Try.prog) A 42 42 3 i0 (.int .i64 0) 1 8 Try.underlying42 hi hi0 hi1 hi2 rfl (by decide) a x.length x.length (natL x) hlen (hold a rfl) ⟨b,0,none⟩ 1 1 [.int .i64 (i:Int)] rfl hnews (by omega) (by unfold maxLen; omega) (by omega)
   obtain ⟨g,cap',rfl,h3,h4,h5⟩:=fin v' w' h1 h2
   exact ⟨g,cap',w',hrun,h3,h4,h5⟩
 | none=>
   obtain ⟨h0, -⟩:=h.nil rfl
   obtain rfl:x=[]:=List.eq_nil_of_length_eq_zero h0
   obtain ⟨v',w',hrun,h1,h2,_⟩:=run_append_own (P:=Try.prog) A A.heap.size 42 42 3 i0 (.int .i64 0) 1 8 Try.underlying42 hi hi0 hi1 hi2 rfl (by decide) (.slice none 0 0) 0 [] (World.ownsRow_nil A _ _ _) ⟨b,0,none⟩ 1 1 [.int .i64 (i:Int)] rfl hnews (by intro u hu; simp at hu; subst hu; rfl) (by unfold maxLen; omega) (by omega) (Nat.le_refl _)
   obtain ⟨g,cap',rfl,h3,h4,h5⟩:=fin v' w' (by simpa [natL] using h1) h2
   exact ⟨g,cap',w',hrun,h3,h4,h5⟩
end Go.Proofs.Ytkbbhihndigmeaa

namespace Go.Proofs.Ytkbbhihndigmeaa
open Go Go.RowKit
def OwnV (e:TypeId) (A:World) (B:Nat) (xs:List Value) (v:Value):Prop:=A.ownsRow B e 1 v xs.length xs
theorem ownV_nil (e:TypeId) (A:World) (B:Nat):OwnV e A B [] (.slice none 0 0):=World.ownsRow_nil _ _ _ _
theorem OwnV.alloc {e:TypeId} {A:World} {B:Nat} {x:List Value} {v:Value} (h:OwnV e A B x v) (o:Obj):OwnV e (A.alloc o) B x v:=World.ownsRow.alloc h o
theorem OwnV.block {e:TypeId} {A A':World} {B:Nat} {x:List Value} {v:Value} (h:OwnV e A B x v) (hb : ∀ g,v.ownBlock=some g→A'.heap[g]? = A.heap[g]?):OwnV e A' B x v:=by
 obtain ⟨h1,h2⟩:=h
 refine ⟨h1,?_⟩
 rcases h2 with h2 | ⟨g,cap,cur,hv,hB,hg,h3⟩
 ·exact .inl h2
 ·exact .inr ⟨g,cap,cur,hv,hB,(hb g (by rw [hv]; rfl)).trans hg,h3⟩
theorem OwnV.lt {e:TypeId} {A:World} {B:Nat} {x:List Value} {v:Value} (h:OwnV e A B x v) {g:Nat} (hg:v.ownBlock=some g):B≤g∧g<A.heap.size:=World.ownsRow.lt h g hg
theorem OwnV.below {e:TypeId} {A A':World} {B:Nat} {x:List Value} {v:Value} (h:OwnV e A B x v) (hb:Below A.heap.size A A'):OwnV e A' B x v:=h.block fun _ hg=>hb.block _ (h.lt hg).2
theorem OwnV.base {e:TypeId} {A:World} {B B':Nat} {x:List Value} {v:Value} (h:OwnV e A B x v) (hB:B'≤B):OwnV e A B' x v:=by
 obtain ⟨h1,h2⟩:=h
 refine ⟨h1,?_⟩
 rcases h2 with h2 | ⟨g,cap,cur,hv,hb,h3⟩
 ·exact .inl h2
 ·exact .inr ⟨g,cap,cur,hv,Nat.le_trans hB hb,h3⟩
theorem OwnV.row {e:TypeId} {A:World} {B:Nat} {x:List Value} {v:Value} (h:OwnV e A B x v) {g:Nat} (hg:v.ownBlock=some g) : ∃ cur,A.heap[g]? = some (.cells cur e (0,0)):=by
 rcases h.2 with ⟨hv,_⟩ | ⟨g',cap,cur,hv,_,hgb,_⟩
 ·subst hv; cases hg
 ·subst hv; cases hg; exact ⟨cur,hgb⟩
theorem OwnV.form {e:TypeId} {A:World} {B:Nat} {x:List Value} {v:Value} (h:OwnV e A B x v) : ∃ p cap,v = .slice p x.length cap∧x.length≤cap∧cap≤9223372036854775807∧(p=none→x.length=0∧cap=0)∧(∀ (k:Nat) (f:Nat→Value),k=x.length→(∀ i,i<k→x[i]? = some (f i))→Cells A p k f)∧(∀ b off,p=some ⟨b,off,none⟩→off=0∧B≤b∧b<A.heap.size):=by
 have hlt:=fun g=>h.lt (g:=g)
 rcases h.2 with ⟨hv,h0⟩ | ⟨g,cap,cur,hv,hB,hg,h1,h2,_⟩
 ·exact ⟨none,0,by rw [h0]; exact hv,by omega,by omega,fun _=>⟨h0,rfl⟩,fun k f hk _=> .inl (by omega),fun _ _ e=>by cases e⟩
 ·subst hv
  have hl:=hlt g rfl
  refine ⟨some ⟨g,0,none⟩,cap,rfl,h1,by unfold maxLen at h2; omega,fun e=>(by cases e),fun k f hk hf=> .inr ⟨g,0,rfl,hl.2,fun i hi => ?_⟩,fun b off e=>by cases e; exact ⟨rfl,hl⟩⟩
  have:=World.ownsRow.cellAt h i (by omega)
  rw [Nat.zero_add,this,hf i hi]
theorem OwnV.other {e:TypeId} {A A':World} {B bb:Nat} {x:List Value} {v:Value} {c:Array Value} {T:TypeId} (h:OwnV e A B x v) (hg:A.grownBy A' v.ownBlock) (hr:RowIs A bb c T) (hT:T ≠ e):RowIs A' bb c T:=by
 refine (hg.block bb hr.lt ?_).trans hr
 intro hv
 obtain ⟨cur,hc⟩:=h.row hv.symm
 rw [hr] at hc
 cases hc
 exact hT rfl
theorem OwnV.keep {e e':TypeId} {A A':World} {B B':Nat} {x y:List Value} {v u:Value} (h:OwnV e A B x v) (hg:A.grownBy A' v.ownBlock) (k:OwnV e' A B' y u) (hT:e' ≠ e):OwnV e' A' B' y u:=k.block fun g hu=>by
 refine hg.block g (k.lt hu).2 fun hv => ?_
 obtain ⟨c1,h1⟩:=h.row hv.symm
 obtain ⟨c2,h2⟩:=k.row hu
 rw [h1] at h2
 cases h2
 exact hT rfl
theorem OwnV.far {e:TypeId} {A:World} {B bb o:Nat} {x:List Value} {v u:Value} {c:Array Value} {T:TypeId} (h:OwnV e A B x v) (hr:RowIs A bb c T) (hT:T ≠ e):OwnV e (A.setCell ⟨bb,o,none⟩ u) B x v:=h.block fun g hg=>by
 refine Below.heap_setCell _ _ _ _ fun hb => ?_
 have hb':g=bb:=hb
 subst hb'
 obtain ⟨cur,hc⟩:=h.row hg
 rw [hr] at hc
 cases hc
 exact hT rfl
theorem ownV_loop {e:TypeId} {A:World} {B r:Nat} {x:List Value} {v:Value} {o o':Loop} (h:OwnV e A B x v) (ho:A.heap[r]? = some (.loop o)):OwnV e (A.putObj r (.loop o')) B x v:=h.block fun g hg=>World.putObj_heap_other fun hb=>by
 subst hb
 obtain ⟨cur,hc⟩:=h.row hg
 rw [ho] at hc; cases hc
theorem ownV_still {r:Nat} (e:TypeId) (B:Nat) (x:List Value) (v:Value):Still r fun A=>OwnV e A B x v:=⟨fun _ _ h hb=>h.below hb,fun _ _ _ ho h=>ownV_loop h ho⟩
section
variable {P:Program} {ts e:TypeId} {i0:TypeInfo} {z:Value} {bytes:Nat} (ht:P.underlying ts=some (.slice e)) (hi:P.info? e=some i0) (hz:i0.zero=some z) (hs:i0.size=1) (hby:i0.bytes=bytes) (hzs:z.cells.size=1) (hb24:bytes≤100)
include ht hi hz hs hby hzs hb24
theorem own_app1 {ty:TypeId} {A:World} {B:Nat} {xs:List Value} {v:Value} (h:OwnV e A B xs v) (u:Value) (b:Nat) (hb:A.cell? ⟨b,0,none⟩=some u) (h1:u.oneCell'=true) (hB:B≤A.heap.size) (hx:xs.length≤1048576) :
 ∃ v' A',(Builtin.append_ #[ts,ts] ty #[v, .slice (some ⟨b,0,none⟩) 1 1]).run P A = .ok v' A'∧OwnV e A' B (xs ++ [u]) v'∧A.grownBy A' v.ownBlock∧Below B A A'∧(v'.ownBlock=v.ownBlock∨v'.ownBlock=some A.heap.size):=by
 have hnews : ∀ j w,[u][j]? = some w→A.cell? ((⟨b,0,none⟩:Addr).add j)=some w:=fun j w hj=>by
  cases j with
  | zero=>rw [← hj]; exact hb
  | succ j=>simp at hj
 obtain ⟨v',A',hrun,r1,r2, -,r3⟩:=run_append_own_at (P:=P) (w:=A) B ts ty e i0 z 1 bytes ht hi hz hs hby hzs (by omega) v xs.length xs h ⟨b,0,none⟩ 1 1 [u] rfl hnews (by intro w hw; simp at hw; subst hw; exact h1) (by unfold maxLen; omega) (by
  have:(xs.length+1)*bytes≤1048577*100:=Nat.mul_le_mul (by omega) hb24
  omega) hB
 refine ⟨v',A',hrun,?_,r2,⟨r2.os,r2.tape,r2.output,r2.size,fun k hk=>r2.block k (by omega) ?_⟩,r3⟩
 ·unfold OwnV
  rw [List.length_append]
  exact r1
 ·intro he
  have:=(h.lt he.symm).1
  omega
end
theorem info_one {o:Option TypeInfo} {z:Value} {s b:Nat} (h:o.map (fun i=>(i.zero,i.size,i.bytes))=some (some z,s,b)) : ∃ i,o=some i∧i.zero=some z∧i.size=s∧i.bytes=b:=by
 cases o with
 | none=>cases h
 | some i=>
   simp only [Option.map_some,Option.some.injEq,Prod.mk.injEq] at h
   exact ⟨i,rfl,h.1,h.2.1,h.2.2⟩
theorem info64:(Try.prog.info? 2).map (fun i=>(i.zero,i.size,i.bytes))=some (some (.int .i64 0),1,8):=by kernel_rfl
theorem infoS64:(Try.prog.info? 25).map (fun i=>(i.zero,i.size,i.bytes))=some (some (.slice none 0 0),1,24):=by kernel_rfl
theorem app64 {A:World} {B:Nat} {xs:List Value} {v:Value} (h:OwnV 2 A B xs v) (u:Value) (b:Nat) (hb:A.cell? ⟨b,0,none⟩=some u) (h1:u.oneCell'=true) (hB:B≤A.heap.size) (hx:xs.length≤1048576) :
 ∃ v' A',(Builtin.append_ #[25,25] 25 #[v, .slice (some ⟨b,0,none⟩) 1 1]).run Try.prog A = .ok v' A'∧OwnV 2 A' B (xs ++ [u]) v'∧A.grownBy A' v.ownBlock∧Below B A A'∧(v'.ownBlock=v.ownBlock∨v'.ownBlock=some A.heap.size):=by
 obtain ⟨i0,hi,h2,h3,h4⟩:=info_one info64
 exact own_app1 Try.underlying25 hi h2 h3 h4 rfl (by omega) h u b hb h1 hB hx
theorem appS64 {A:World} {B:Nat} {xs:List Value} {v:Value} (h:OwnV 25 A B xs v) (u:Value) (b:Nat) (hb:A.cell? ⟨b,0,none⟩=some u) (h1:u.oneCell'=true) (hB:B≤A.heap.size) (hx:xs.length≤1048576) :
 ∃ v' A',(Builtin.append_ #[22,22] 22 #[v, .slice (some ⟨b,0,none⟩) 1 1]).run Try.prog A = .ok v' A'∧OwnV 25 A' B (xs ++ [u]) v'∧A.grownBy A' v.ownBlock∧Below B A A'∧(v'.ownBlock=v.ownBlock∨v'.ownBlock=some A.heap.size):=by
 obtain ⟨i0,hi,h2,h3,h4⟩:=info_one infoS64
 exact own_app1 Try.underlying22 hi h2 h3 h4 rfl (by omega) h u b hb h1 hB hx
end Go.Proofs.Ytkbbhihndigmeaa

namespace Go.Proofs.Ytkbbhihndigmeaa
open Go Go.RowKit
def sumI (g:Nat→Int):Nat→Int
 | 0=>0
 | k+1=>sumI g k+g k
def inB (g:Nat→Int) (i:Nat):Bool:=decide (0≤g i∧g i≤100000000)
def planE (len many:Nat) (g:Nat→Int):Int:=if len=many then (if allB (inB g) many=true then (if sumI g many=0 then 2 else 0) else 3) else 15
theorem sumI_bound {g:Nat→Int} {n:Nat} (h : ∀ i,i<n→0≤g i∧g i≤100000000) : ∀ k,k≤n→0≤sumI g k∧sumI g k≤100000000*k
 | 0,_=>⟨Int.le_refl _,by simp [sumI]⟩
 | k+1,hk=>by
   have h1:=sumI_bound h k (by omega)
   have h2:=h k (by omega)
   rw [sumI]
   omega
theorem inB_all {g:Nat→Int} {n:Nat} (h:allB (inB g) n=true) : ∀ i,i<n→0≤g i∧g i≤100000000:=fun i hi=>by
 have:=(allB_iff _ _).1 h i hi
 simpa [inB] using this
set_option maxHeartbeats 2000000 in
theorem rSum_c (a:Option Addr) (n cap:Nat) (g:Nat→Int) (w:World) (hf:Ints w a n g) (hn:n≤1048576) (hb : ∀ i,i<n→0≤g i∧g i≤100000000) :
 Calls Try.prog 80 #[.slice a n cap] w fun e w'=>e = .returned (.int .i64 (sumI g n))∧w=w':=by
 have HF:=Lib.hid hf
 have HS:=Lib.hid (sumI_bound hb)
 have Hb:=Lib.hid hb
 clear hf hb
 go_enter Try.func80,Try.ntmps80
 go_wp2
 go_loop [3,4] (fun s i=> ∃ k:Nat,k≤n∧i = .int .i64 k∧s = .int .i64 (sumI g k)) (fun _ i=>n-(intOf i).toNat)
 case atStart=>exact ⟨0,Nat.zero_le _,rfl,rfl⟩
 case round=>
  obtain ⟨k,hk,rfl,rfl⟩:=hrel
  by_cases hlt:k<n
  ·obtain ⟨b,off,rfl,hbs,hc⟩:=Cells.at HF.out k hlt
   have hck:=hc k hlt
   clear hc
   have h1:=HS.out k hk
   have h2:=Hb.out k hlt
   have hw:IntKind.i64.wrap (sumI g k+g k)=sumI g k+g k:=IntWalk.i64_in _ (by omega)
   clear h1 h2
   go_wp2
   go_round
   case rel=>exact ⟨k+1,by omega,by go_num,rfl⟩
   case measure=>simp [intOf]; omega
  ·obtain rfl:k=n:=by omega
   go_wp2
   go_ret
   exact ⟨rfl,rfl⟩
set_option maxHeartbeats 4000000 in
theorem rplanError_c (a:Option Addr) (n cap many:Nat) (g:Nat→Int) (w:World) (hf:Ints w a n g) (hn:n≤1048576) (hm:many≤1048576) :
 Calls Try.prog 64 #[.slice a n cap, .int .i64 many] w fun e w'=>e = .returned (.int .i64 (planE n many g))∧w=w':=by
 by_cases h:n=many
 ·subst h
  have t0:(((n:Nat):Int) != ((n:Nat):Int))=false:=by simp
  have HF:=Lib.hid hf
  have HS:=Lib.hid (fun hb=>rSum_c a n cap g w hf hn hb)
  clear hf
  go_enter Try.func64,Try.ntmps64
  go_wp2
  go_loop [5] (fun i=> ∃ k:Nat,k≤n∧i = .int .i64 k∧allB (inB g) k=true) (fun i=>n-(intOf i).toNat)
  case atStart=>exact ⟨0,Nat.zero_le _,rfl,rfl⟩
  case round=>
   obtain ⟨k,hk,rfl,ho⟩:=hrel
   have Ho:=Lib.hid ho
   clear ho
   by_cases hlt:k<n
   ·obtain ⟨b,off,rfl,hbs,hc⟩:=Cells.at HF.out k hlt
    have hck:=hc k hlt
    clear hc
    by_cases h1:g k<0
    ·have Ev:=Lib.hid (show planE n n g=3 by unfold planE; rw [if_pos rfl,allB_no hlt (show inB g k=false from decide_eq_false (by omega))]; rfl)
     go_wp2
     go_ret
     exact ⟨by rw [Ev.out]; rfl,rfl⟩
    by_cases h2:100000000<g k
    ·have Ev:=Lib.hid (show planE n n g=3 by unfold planE; rw [if_pos rfl,allB_no hlt (show inB g k=false from decide_eq_false (by omega))]; rfl)
     go_wp2
     go_ret
     exact ⟨by rw [Ev.out]; rfl,rfl⟩
    go_wp2
    go_round
    case rel=>exact ⟨k+1,by omega,by go_num,by rw [allB,Ho.out,Bool.true_and,inB]; simp; omega⟩
    case measure=>simp [intOf]; omega
   ·obtain rfl:k=n:=by omega
    have HS2:=Lib.hid (HS.out (inB_all Ho.out))
    by_cases h3:sumI g k=0
    ·have Ev:=Lib.hid (show planE k k g=2 by unfold planE; rw [if_pos rfl,if_pos Ho.out,if_pos h3])
     rw [h3] at HS2
     clear h3
     go_wp2_with fail
     refine HS2.out.mono ?_
     rintro e w1 ⟨rfl,rfl⟩
     go_wp2_with fail
     go_ret
     exact ⟨by rw [Ev.out]; rfl,rfl⟩
    ·have Ev:=Lib.hid (show planE k k g=0 by unfold planE; rw [if_pos rfl,if_pos Ho.out,if_neg h3])
     have t3:(sumI g k==0)=false:=by simpa using h3
     clear h3
     go_wp2_with fail
     refine HS2.out.mono ?_
     rintro e w1 ⟨rfl,rfl⟩
     go_wp2_with fail
     go_ret
     exact ⟨by rw [Ev.out]; rfl,rfl⟩
 ·have t0:(((n:Nat):Int) != ((many:Nat):Int))=true:=by simp; omega
  have Ev:=Lib.hid (show planE n many g=15 from if_neg h)
  clear h
  go_enter Try.func64,Try.ntmps64
  go_wp2
  go_ret
  exact ⟨by rw [Ev.out]; rfl,rfl⟩
end Go.Proofs.Ytkbbhihndigmeaa

namespace Go.Proofs.Ytkbbhihndigmeaa
def dotN (r q:Nat→Int):Nat→Int
 | 0=>0
 | n+1=>dotN r q n+r n*q n
theorem dotN_add (r s q:Nat→Int) : ∀ n,dotN (fun j=>r j+s j) q n=dotN r q n+dotN s q n
 | 0=>rfl
 | n+1=>by rw [dotN,dotN,dotN,dotN_add r s q n,Int.add_mul]; omega
theorem dotN_mul (c:Int) (r q:Nat→Int) : ∀ n,dotN (fun j=>c*r j) q n=c*dotN r q n
 | 0=>by simp [dotN]
 | n+1=>by rw [dotN,dotN,dotN_mul c r q n,Int.mul_add,Int.mul_assoc]
theorem dotN_scale (c:Int) (r q:Nat→Int) : ∀ n,dotN r (fun j=>c*q j) n=c*dotN r q n
 | 0=>by simp [dotN]
 | n+1=>by rw [dotN,dotN,dotN_scale c r q n,Int.mul_add, ← Int.mul_assoc, ← Int.mul_assoc,Int.mul_comm (r n) c]
theorem dotN_same {r q s:Nat→Int} : ∀ {n:Nat},(∀ j,j<n→q j=s j)→dotN r q n=dotN r s n
 | 0,_=>rfl
 | n+1,e=>by rw [dotN,dotN,dotN_same (fun j hj=>e j (by omega)),e n (by omega)]
inductive Cone (rows:List (Nat→Int)):(Nat→Int)→Prop
 | row {r:Nat→Int} : r ∈ rows→Cone rows r
 | add {u v:Nat→Int} : Cone rows u→Cone rows v→Cone rows (fun j=>u j+v j)
 | mul {u:Nat→Int} {c:Int} : 0<c→Cone rows u→Cone rows (fun j=>c*u j)
theorem Cone.into {rows rows':List (Nat→Int)} {v:Nat→Int} (h:Cone rows v) (hr : ∀ r,r ∈ rows→Cone rows' r):Cone rows' v:=by
 induction h with
 | row h=>exact hr _ h
 | add _ _ h1 h2=>exact .add h1 h2
 | mul hc _ h1=>exact .mul hc h1
theorem Cone.least {rows:List (Nat→Int)} {v:Nat→Int} {n:Nat} (h:Cone rows v) (hr : ∀ r,r ∈ rows→0≤r n):0≤v n:=by
 induction h with
 | row h=>exact hr _ h
 | add _ _ h1 h2=>exact Int.add_nonneg h1 h2
 | mul hc _ h1=>exact Int.mul_nonneg (Int.le_of_lt hc) h1
def fLt (x y:Int × Int):Prop:=x.1*y.2<y.1*x.2
def fLe (x y:Int × Int):Prop:=x.1*y.2≤y.1*x.2
theorem fLe_trans {x y z:Int × Int} (hx:0<x.2) (hy:0<y.2) (hz:0<z.2) (h1:fLe x y) (h2:fLe y z):fLe x z:=by
 unfold fLe at *
 have a1:=Int.mul_le_mul_of_nonneg_right h1 (Int.le_of_lt hz)
 have a2:=Int.mul_le_mul_of_nonneg_right h2 (Int.le_of_lt hx)
 refine Int.le_of_mul_le_mul_right (a:=y.2) ?_ hy
 grind
theorem fLt_of_le_lt {x y z:Int × Int} (hx:0<x.2) (hy:0<y.2) (hz:0<z.2) (h1:fLe x y) (h2:fLt y z):fLt x z:=by
 unfold fLe at h1
 unfold fLt at *
 have a1:=Int.mul_le_mul_of_nonneg_right h1 (Int.le_of_lt hz)
 have a2:=Int.mul_lt_mul_of_pos_right h2 hx
 refine Int.lt_of_mul_lt_mul_right (a:=y.2) ?_ (Int.le_of_lt hy)
 grind
theorem fLt_of_lt_le {x y z:Int × Int} (hx:0<x.2) (hy:0<y.2) (hz:0<z.2) (h1:fLt x y) (h2:fLe y z):fLt x z:=by
 unfold fLe at h2
 unfold fLt at *
 have a1:=Int.mul_lt_mul_of_pos_right h1 hz
 have a2:=Int.mul_le_mul_of_nonneg_right h2 (Int.le_of_lt hx)
 refine Int.lt_of_mul_lt_mul_right (a:=y.2) ?_ (Int.le_of_lt hy)
 grind
theorem f_max : ∀ (l:List (Int × Int)) (x:Int × Int),(∀ y,y ∈ x :: l→0<y.2) → ∃ m,m ∈ x :: l ∧ ∀ y,y ∈ x :: l→fLe y m
 | [],x,_=>⟨x,by simp,fun y hy=>by rw [List.mem_singleton.1 hy]; unfold fLe; omega⟩
 | z :: l,x,h=>by
   obtain ⟨m,hm,hle⟩:=f_max l z (fun y hy=>h y (List.mem_cons_of_mem _ hy))
   have hx:=h x (by simp)
   have hmp:=h m (List.mem_cons_of_mem _ hm)
   by_cases hc:fLe x m
   ·exact ⟨m,List.mem_cons_of_mem _ hm,fun y hy=>by
      rcases List.mem_cons.1 hy with rfl | hy
      ·exact hc
      ·exact hle y hy⟩
   ·have hc':fLe m x:=by unfold fLe at *; omega
    exact ⟨x,by simp,fun y hy=>by
     rcases List.mem_cons.1 hy with rfl | hy
     ·unfold fLe; omega
     ·exact fLe_trans (h y (List.mem_cons_of_mem _ hy)) hmp hx (hle y hy) hc'⟩
theorem f_min : ∀ (l:List (Int × Int)) (x:Int × Int),(∀ y,y ∈ x :: l→0<y.2) → ∃ m,m ∈ x :: l ∧ ∀ y,y ∈ x :: l→fLe m y
 | [],x,_=>⟨x,by simp,fun y hy=>by rw [List.mem_singleton.1 hy]; unfold fLe; omega⟩
 | z :: l,x,h=>by
   obtain ⟨m,hm,hle⟩:=f_min l z (fun y hy=>h y (List.mem_cons_of_mem _ hy))
   have hx:=h x (by simp)
   have hmp:=h m (List.mem_cons_of_mem _ hm)
   by_cases hc:fLe m x
   ·exact ⟨m,List.mem_cons_of_mem _ hm,fun y hy=>by
      rcases List.mem_cons.1 hy with rfl | hy
      ·exact hc
      ·exact hle y hy⟩
   ·have hc':fLe x m:=by unfold fLe at *; omega
    exact ⟨x,by simp,fun y hy=>by
     rcases List.mem_cons.1 hy with rfl | hy
     ·unfold fLe; omega
     ·exact fLe_trans hx hmp (h y (List.mem_cons_of_mem _ hy)) hc' (hle y hy)⟩
theorem f_between (lo up:List (Int × Int)) (l0:Int × Int) (h1 : ∀ y,y ∈ l0 :: lo→0<y.2) (h2 : ∀ y,y ∈ up→0<y.2) (h : ∀ x,x ∈ l0 :: lo → ∀ y,y ∈ up→fLt x y) :
 ∃ z:Int × Int,0<z.2∧(∀ x,x ∈ l0 :: lo→fLt x z) ∧ ∀ y,y ∈ up→fLt z y:=by
 obtain ⟨m,hm,hle⟩:=f_max lo l0 h1
 have hm2:=h1 m hm
 cases up with
 | nil=>
   have hz:fLt m (m.1+m.2,m.2):=by unfold fLt; simp only []; exact Int.mul_lt_mul_of_pos_right (by omega) hm2
   exact ⟨(m.1+m.2,m.2),hm2,fun x hx=>fLt_of_le_lt (h1 x hx) hm2 hm2 (hle x hx) hz,fun y hy=>absurd hy List.not_mem_nil⟩
 | cons u0 up=>
   obtain ⟨k,hk,hle2⟩:=f_min up u0 h2
   have hk2:=h2 k hk
   have hmk:=h m hm k hk
   have hz2:(0:Int)<m.2+k.2:=by omega
   have a1:fLt m (m.1+k.1,m.2+k.2):=by unfold fLt at *; simp only []; grind
   have a2:fLt (m.1+k.1,m.2+k.2) k:=by unfold fLt at *; simp only []; grind
   exact ⟨(m.1+k.1,m.2+k.2),hz2,fun x hx=>fLt_of_le_lt (h1 x hx) hm2 hz2 (hle x hx) a1,fun y hy=>fLt_of_lt_le hz2 hk2 (h2 y hy) a2 (hle2 y hy)⟩
theorem ville : ∀ (n:Nat) (rows:List (Nat→Int)),(∃ q:Nat→Int,(∀ j,0≤q j) ∧ ∀ r,r ∈ rows→dotN r q n<0) ∨ ∃ v,Cone rows v ∧ ∀ j,j<n→0≤v j
 | 0,rows=>by
   cases rows with
   | nil=>exact .inl ⟨fun _=>0,fun _=>Int.le_refl _,fun r hr=>absurd hr List.not_mem_nil⟩
   | cons r rows=>exact .inr ⟨r, .row (by simp),fun j hj=>absurd hj (Nat.not_lt_zero _)⟩
 | n+1,rows=>by
   let P:=rows.filter fun r=>decide (0<r n)
   let N:=rows.filter fun r=>decide (r n<0)
   let G:=rows.filter fun r=>decide (0≤r n)
   let new:=G ++ P.flatMap fun r=>N.map fun s=>fun j=>(- s n)*r j+r n*s j
   have hP : ∀ r,r ∈ P↔r ∈ rows∧0<r n:=fun r=>by simp [P]
   have hN : ∀ r,r ∈ N↔r ∈ rows∧r n<0:=fun r=>by simp [N]
   have hG : ∀ r,r ∈ G↔r ∈ rows∧0≤r n:=fun r=>by simp [G]
   have hnew : ∀ t,t ∈ new↔t ∈ G ∨ ∃ r,r ∈ P ∧ ∃ s,s ∈ N∧t=fun j=>(- s n)*r j+r n*s j:=fun t=>by
    simp only [new,List.mem_append,List.mem_flatMap,List.mem_map]
    exact ⟨fun h=>h.imp id fun ⟨r,h1,s,h2,h3⟩=>⟨r,h1,s,h2,h3.symm⟩,fun h=>h.imp id fun ⟨r,h1,s,h2,h3⟩=>⟨r,h1,s,h2,h3.symm⟩⟩
   rcases ville n new with ⟨q,hq0,hq⟩ | ⟨v,hv,hv0⟩
   ·left
    obtain ⟨z,hz2,hz1,hz3⟩:=f_between (N.map fun s=>(dotN s q n, - s n)) (P.map fun r=>(- dotN r q n,r n)) (0,1)
     (fun y hy=>by
       rcases List.mem_cons.1 hy with rfl | hy
       ·decide
       ·obtain ⟨s,hs,rfl⟩:=List.mem_map.1 hy
        have:=((hN s).1 hs).2
        simp only []; omega)
     (fun y hy=>by
       obtain ⟨r,hr,rfl⟩:=List.mem_map.1 hy
       exact ((hP r).1 hr).2)
     (fun x hx y hy=>by
       obtain ⟨r,hr,rfl⟩:=List.mem_map.1 hy
       have hr2:=(hP r).1 hr
       rcases List.mem_cons.1 hx with rfl | hx
       ·have:=hq r ((hnew r).2 (.inl ((hG r).2 ⟨hr2.1,Int.le_of_lt hr2.2⟩)))
        unfold fLt; simp only []; omega
       ·obtain ⟨s,hs,rfl⟩:=List.mem_map.1 hx
        have h:=hq _ ((hnew _).2 (.inr ⟨r,hr,s,hs,rfl⟩))
        rw [dotN_add (fun j=>(- s n)*r j) (fun j=>r n*s j),dotN_mul,dotN_mul] at h
        unfold fLt; simp only []; grind)
    have hz0:0<z.1:=by
     have:=hz1 (0,1) (by simp)
     unfold fLt at this; simp only [] at this; omega
    refine ⟨fun j=>if j=n then z.1 else z.2*q j,fun j => ?_,fun r hr => ?_⟩
    ·show 0≤if j=n then z.1 else z.2*q j
     by_cases h:j=n
     ·rw [if_pos h]; omega
     ·rw [if_neg h]; exact Int.mul_nonneg (Int.le_of_lt hz2) (hq0 j)
    ·rw [dotN,if_pos rfl,dotN_same (s:=fun j=>z.2*q j) (fun j hj=>if_neg (by omega)),dotN_scale]
     by_cases h1:0<r n
     ·have h:=hz3 _ (List.mem_map.2 ⟨r,(hP r).2 ⟨hr,h1⟩,rfl⟩)
      unfold fLt at h; simp only [] at h; grind
     ·by_cases h2:r n<0
      ·have h:=hz1 _ (List.mem_cons_of_mem _ (List.mem_map.2 ⟨r,(hN r).2 ⟨hr,h2⟩,rfl⟩))
       unfold fLt at h; simp only [] at h; grind
      ·have h0:r n=0:=by omega
       have h:=hq r ((hnew r).2 (.inl ((hG r).2 ⟨hr,by omega⟩)))
       rw [h0,Int.zero_mul,Int.add_zero]
       have h3:=Int.mul_lt_mul_of_pos_left h hz2
       omega
   ·right
    refine ⟨v,hv.into fun t ht => ?_,fun j hj => ?_⟩
    ·rcases (hnew t).1 ht with h | ⟨r,hr,s,hs,rfl⟩
     ·exact .row ((hG t).1 h).1
     ·have hr2:=(hP r).1 hr
      have hs2:=(hN s).1 hs
      exact .add (.mul (by omega) (.row hr2.1)) (.mul hr2.2 (.row hs2.1))
    ·by_cases h:j=n
     ·subst h
      refine hv.least fun t ht => ?_
      rcases (hnew t).1 ht with h | ⟨r,hr,s,hs,rfl⟩
      ·exact ((hG t).1 h).2
      ·show 0≤(- s j)*r j+r j*s j
       grind
     ·exact hv0 j (by omega)
end Go.Proofs.Ytkbbhihndigmeaa

namespace Go.Proofs.Ytkbbhihndigmeaa
def altSum (h:Nat→Int):Nat→Int
 | 0=>0
 | k+1=>altSum h k+(if k % 2=0 then h k else-h k)
theorem altSum_same {h g:Nat→Int} : ∀ {n:Nat},(∀ k,k<n→h k=g k)→altSum h n=altSum g n
 | 0,_=>rfl
 | n+1,e=>by rw [altSum,altSum,altSum_same (fun k hk=>e k (by omega)),e n (by omega)]
def detP:List (Nat→Int)→List Nat→Int
 | [],_=>1
 | r :: rs,c=>altSum (fun k=>r (c.getD k 0)*detP rs (c.eraseIdx k)) c.length
def detR:List (List Int)→Nat→Int
 | _,0=>1
 | t,n+1=>altSum (fun k=>(t.headD []).getD k 0*detR (t.tail.map fun r=>r.eraseIdx k) n) (n+1)
theorem detP_R : ∀ (rows:List (Nat→Int)) (c:List Nat),c.length=rows.length→detP rows c=detR (rows.map fun r=>c.map r) rows.length
 | [],c,_=>by simp [detP,detR]
 | r :: rs,c,h=>by
   simp only [List.length_cons] at h
   rw [detP,List.length_cons,detR,h]
   refine altSum_same fun k hk => ?_
   have hk2:k<c.length:=by omega
   have e1:(((r :: rs).map fun r=>c.map r).headD []).getD k 0=r (c.getD k 0):=by
    simp [List.getD_eq_getElem?_getD,List.getElem?_eq_getElem hk2]
   have e2:(((r :: rs).map fun r=>c.map r).tail.map fun r=>r.eraseIdx k)=rs.map fun r=>(c.eraseIdx k).map r:=by
    simp only [List.map_cons,List.tail_cons,List.map_map]
    refine List.map_congr_left fun x _ => ?_
    show (c.map x).eraseIdx k=(c.eraseIdx k).map x
    simp [List.eraseIdx_eq_take_drop_succ]
   rw [e1,e2,detP_R rs (c.eraseIdx k) (by rw [List.length_eraseIdx,if_pos hk2]; omega)]
def diffL:List Int→List Int
 | []=>[]
 | x :: l=>l.map fun y=>y-x
def partP (t:List (List Int)) (i n:Nat):Int:=detR (t.set i (List.replicate n 1)) n
def partR (t:List (List Int)) (i n:Nat):Int:=(if i % 2=0 then 1 else -1)*detR ((t.eraseIdx i).map diffL) (n-1)
theorem part1 (a:Int):partP [[a]] 0 1=partR [[a]] 0 1:=by simp [partP,partR,detR,altSum]
theorem part2 (a b c d:Int) (i:Nat) (hi:i<2):partP [[a,b],[c,d]] i 2=partR [[a,b],[c,d]] i 2:=by
 obtain rfl | rfl:i=0∨i=1:=by omega
 all_goals (simp [partP,partR,detR,altSum,diffL]; try omega)
theorem part3 (a b c d e f g h k:Int) (i:Nat) (hi:i<3):partP [[a,b,c],[d,e,f],[g,h,k]] i 3=partR [[a,b,c],[d,e,f],[g,h,k]] i 3:=by
 obtain rfl | rfl | rfl:i=0∨i=1∨i=2:=by omega
 all_goals (simp [partP,partR,detR,altSum,diffL]; try grind)
theorem part4 (a b c d e f g h k l m n o p q r:Int) (i:Nat) (hi:i<4):partP [[a,b,c,d],[e,f,g,h],[k,l,m,n],[o,p,q,r]] i 4=partR [[a,b,c,d],[e,f,g,h],[k,l,m,n],[o,p,q,r]] i 4:=by
 obtain rfl | rfl | rfl | rfl:i=0∨i=1∨i=2∨i=3:=by omega
 all_goals (simp [partP,partR,detR,altSum,diffL]; try grind)
end Go.Proofs.Ytkbbhihndigmeaa

namespace Go.Proofs.Ytkbbhihndigmeaa
theorem altSum_neg (h:Nat→Int) : ∀ n,altSum (fun k=> - h k) n = - altSum h n
 | 0=>rfl
 | n+1=>by
   rw [altSum,altSum,altSum_neg h n]
   split <;> omega
theorem altSum_mul (c:Int) (h:Nat→Int) : ∀ n,altSum (fun k=>c*h k) n=c*altSum h n
 | 0=>by simp [altSum]
 | n+1=>by
   rw [altSum,altSum,altSum_mul c h n,Int.mul_add]
   split
   ·rfl
   ·rw [Int.mul_neg]
theorem detP_swap (a b:Nat→Int) (rs:List (Nat→Int)) (c:List Nat) (hc:c.length=rs.length+2) (h:rs.length≤3):detP (b :: a :: rs) c = - detP (a :: b :: rs) c:=by
 match c,hc with
 | [x,y],_=>simp [detP,altSum]; grind
 | [x,y,z],_=>simp [detP,altSum]; grind
 | [x,y,z,u],_=>simp [detP,altSum]; grind
 | [x,y,z,u,v],_=>simp [detP,altSum]; grind
 | [_],hc=>simp at hc
 | [],hc=>simp at hc
 | x :: y :: z :: u :: v :: t :: c,hc=>simp at hc; omega
theorem detP_perm {r s:List (Nat→Int)} (h:r.Perm s):r.length≤5 → ∃ e:Int,(e=1∨e = -1) ∧ ∀ c:List Nat,c.length=r.length→detP s c=e*detP r c:=by
 induction h with
 | nil=>exact fun _=>⟨1, .inl rfl,fun c _=>by omega⟩
 | cons x h ih=>
   intro hl
   simp only [List.length_cons] at hl
   obtain ⟨e,he,h2⟩:=ih (by omega)
   refine ⟨e,he,fun c hc => ?_⟩
   rw [detP,detP, ← altSum_mul]
   refine altSum_same fun k hk => ?_
   rw [h2 _ (by rw [List.length_eraseIdx,if_pos hk,hc]; simp), ← Int.mul_assoc, ← Int.mul_assoc,Int.mul_comm (x _) e]
 | swap a b l=>
   intro hl
   simp only [List.length_cons] at hl
   exact ⟨-1, .inr rfl,fun c hc=>by rw [detP_swap b a l c (by simpa using hc) (by omega)]; omega⟩
 | trans h1 h2 ih1 ih2=>
   intro hl
   obtain ⟨e1,a1,b1⟩:=ih1 hl
   obtain ⟨e2,a2,b2⟩:=ih2 (by rw [← h1.length_eq]; exact hl)
   refine ⟨e2*e1,?_,fun c hc=>by rw [b2 c (by rw [hc,h1.length_eq]),b1 c hc,Int.mul_assoc]⟩
   rcases a1 with rfl | rfl <;> rcases a2 with rfl | rfl <;> simp
theorem detP_twice {r:Nat→Int} {rs:List (Nat→Int)} (h:r ∈ rs) (hl:rs.length≤4) {c:List Nat} (hc:c.length=rs.length+1):detP (r :: rs) c=0:=by
 obtain ⟨s,t,rfl⟩:=List.append_of_mem h
 simp only [List.length_append,List.length_cons] at hl hc
 have hp:(r :: r :: (s ++ t)).Perm (r :: (s ++ r :: t)):= .cons r List.perm_middle.symm
 obtain ⟨e, -,h2⟩:=detP_perm hp (by simp; omega)
 rw [h2 c (by simp; omega)]
 have h3:=detP_swap r r (s ++ t) c (by simp; omega) (by simp; omega)
 rw [show detP (r :: r :: (s ++ t)) c=0 by omega,Int.mul_zero]
theorem dotN_addr (r u v:Nat→Int) : ∀ n,dotN r (fun j=>u j+v j) n=dotN r u n+dotN r v n
 | 0=>rfl
 | n+1=>by rw [dotN,dotN,dotN,dotN_addr r u v n,Int.mul_add]; omega
theorem dotN_negr (r u:Nat→Int) : ∀ n,dotN r (fun j=> - u j) n = - dotN r u n
 | 0=>rfl
 | n+1=>by rw [dotN,dotN,dotN_negr r u n,Int.mul_neg]; omega
theorem dotN_zero (r:Nat→Int) : ∀ n,dotN r (fun _=>0) n=0
 | 0=>rfl
 | n+1=>by rw [dotN,dotN_zero r n]; simp
theorem dotN_alt (r:Nat→Int) (g:Nat→Nat→Int) (N:Nat) : ∀ n,dotN r (fun x=>altSum (fun k=>g k x) n) N=altSum (fun k=>dotN r (g k) N) n
 | 0=>dotN_zero r N
 | n+1=>by
   rw [altSum, ← dotN_alt r g N n]
   by_cases h:n % 2=0
   ·simp only [altSum,if_pos h]
    exact dotN_addr r (fun x=>altSum (fun k=>g k x) n) (g n) N
   ·simp only [altSum,if_neg h]
    rw [← dotN_negr]
    exact dotN_addr r (fun x=>altSum (fun k=>g k x) n) (fun x=> - g n x) N
theorem dotN_one (r:Nat→Int) (c:Nat) (d:Int) : ∀ N,dotN r (fun x=>if c=x then d else 0) N=if c<N then r c*d else 0
 | 0=>rfl
 | N+1=>by
   rw [dotN,dotN_one r c d N]
   by_cases h:c=N
   ·subst h
    rw [if_neg (by omega),if_pos rfl,if_pos (by omega)]
    omega
   ·rw [if_neg h]
    by_cases h2:c<N
    ·rw [if_pos h2,if_pos (by omega)]; omega
    ·rw [if_neg h2,if_neg (by omega)]; simp
def cram (G:List (Nat→Int)) (c:List Nat) (x:Nat):Int:=altSum (fun k=>if c.getD k 0=x then detP G (c.eraseIdx k) else 0) c.length
theorem cram_dot (r:Nat→Int) (G:List (Nat→Int)) (c:List Nat) (N:Nat) (hc : ∀ x,x ∈ c→x<N):dotN r (cram G c) N=detP (r :: G) c:=by
 unfold cram
 rw [dotN_alt,detP]
 refine altSum_same fun k hk => ?_
 rw [dotN_one,if_pos (hc _ (by simp [List.getD_eq_getElem?_getD,List.getElem?_eq_getElem hk]))]
theorem cram_out {G:List (Nat→Int)} {c:List Nat} {x:Nat} (h : ¬ x ∈ c):cram G c x=0:=by
 unfold cram
 rw [altSum_same (g:=fun _=>0) fun k hk=>if_neg fun e=>h (by rw [← e]; simp [List.getD_eq_getElem?_getD,List.getElem?_eq_getElem hk])]
 have:=altSum_mul 0 (fun _=>0) c.length
 simpa using this
theorem altSum_first (h:Nat→Int) : ∀ n,(∀ k,0<k→k<n+1→h k=0)→altSum h (n+1)=h 0
 | 0,_=>by simp [altSum]
 | n+1,e=>by rw [altSum,altSum_first h n (fun k h1 h2=>e k h1 (by omega)),e (n+1) (by omega) (by omega)]; simp
theorem cram_head {G:List (Nat→Int)} {S:List Nat} {l:Nat} (h : ¬ l ∈ S):cram G (l :: S) l=detP G S:=by
 unfold cram
 rw [List.length_cons,altSum_first]
 ·simp
 ·intro k hk hk2
  obtain ⟨k,rfl⟩ : ∃ m,k=m+1:=⟨k-1,by omega⟩
  have hlt:k<S.length:=by omega
  refine if_neg fun e=>h (by rw [← e]; simp [List.getD_eq_getElem?_getD,List.getElem?_eq_getElem hlt])
theorem nodup_len {S T:List Nat} (h:S.Nodup) (hs : ∀ x,x ∈ S→x ∈ T):S.length≤T.length:=by
 induction S generalizing T with
 | nil=>exact Nat.zero_le _
 | cons a S ih=>
   obtain ⟨h1,h2⟩:=List.nodup_cons.1 h
   obtain ⟨u,v,rfl⟩:=List.append_of_mem (hs a (by simp))
   have h3:=ih (T:=u ++ v) h2 fun x hx=>by
    have h4:=hs x (List.mem_cons_of_mem _ hx)
    have hne:x ≠ a:=fun e=>h1 (e ▸ hx)
    simp only [List.mem_append,List.mem_cons] at h4 ⊢
    rcases h4 with h4 | h4 | h4
    ·exact .inl h4
    ·exact absurd h4 hne
    ·exact .inr h4
   simp only [List.length_append,List.length_cons] at h3 ⊢
   omega
theorem free_one {S:List Nat} {N:Nat} (h:S.length<N) : ∃ l,l<N ∧ ¬ l ∈ S:=by
 refine Classical.byContradiction fun hno => ?_
 have h1:=nodup_len (S:=List.range N) (T:=S) List.nodup_range fun x hx=>Classical.byContradiction fun h2=>hno ⟨x,List.mem_range.1 hx,h2⟩
 rw [List.length_range] at h1
 omega
theorem rank (F:Nat→Nat→Int) (C:List Nat) (hC:C.Nodup) (k:Nat) (hk:k≤4) :
 (∃ G S:List Nat,G.Sublist C∧G.length=k∧S.length=k∧(∀ c,c ∈ S→c<k+1)∧detP (G.map F) S ≠ 0) ∨
   ∃ (y z:Nat→Int) (l m:Nat),l<k+1∧m<k+1∧y l ≠ 0∧y m=0∧z m ≠ 0∧z l=0 ∧ ∀ j,j ∈ C→dotN (F j) y (k+1)=0∧dotN (F j) z (k+1)=0:=by
 refine Classical.byContradiction fun hno => ?_
 have all : ∀ s,s≤k → ∃ G S:List Nat,G.Sublist C∧G.length=s∧S.length=s∧(∀ c,c ∈ S→c<k+1)∧detP (G.map F) S ≠ 0:=by
  intro s
  induction s with
  | zero=>exact fun _=>⟨[],[],List.nil_sublist _,rfl,rfl,by simp,by simp [detP]⟩
  | succ s ih=>
    intro hs
    obtain ⟨G,S,hG,hGl,hSl,hSN,hdet⟩:=ih (by omega)
    refine Classical.byContradiction fun hnone=>hno (.inr ?_)
    have hzero : ∀ l,l<k+1 → ∀ j,j ∈ C→dotN (F j) (cram (G.map F) (l :: S)) (k+1)=0:=fun l hl j hj=>by
     have hlS : ∀ c,c ∈ l :: S→c<k+1:=fun c hc=>by
      rcases List.mem_cons.1 hc with rfl | hc
      ·exact hl
      ·exact hSN c hc
     rw [cram_dot _ _ _ _ hlS]
     by_cases hjG:j ∈ G
     ·exact detP_twice (List.mem_map_of_mem hjG) (by rw [List.length_map]; omega) (by rw [List.length_map,List.length_cons]; omega)
     ·have hGn:G.Nodup:=hC.sublist hG
      have hp:(C.filter fun x=>x=j || G.contains x).Perm (j :: G):=by
       refine (List.perm_ext_iff_of_nodup (hC.sublist List.filter_sublist) (List.nodup_cons.2 ⟨hjG,hGn⟩)).2 fun x => ?_
       simp only [List.mem_filter,Bool.or_eq_true,decide_eq_true_eq,List.contains_iff_mem,List.mem_cons]
       refine ⟨fun h=>h.2,fun h=>⟨?_,h⟩⟩
       rcases h with rfl | h
       ·exact hj
       ·exact hG.subset h
      obtain ⟨e,he,h2⟩:=detP_perm (hp.map F) (by rw [List.length_map,hp.length_eq,List.length_cons]; omega)
      have h3:=h2 (l :: S) (by rw [List.length_map,hp.length_eq,List.length_cons,List.length_cons]; omega)
      rw [List.map_cons] at h3
      rw [h3]
      refine Classical.byContradiction fun hne=>hnone ⟨_,l :: S,List.filter_sublist,by rw [hp.length_eq,List.length_cons]; omega,by rw [List.length_cons]; omega,hlS,fun h0=>hne (by rw [h0,Int.mul_zero])⟩
    obtain ⟨l,hl,hlS⟩:=free_one (S:=S) (N:=k+1) (by omega)
    obtain ⟨m,hm,hmS⟩:=free_one (S:=l :: S) (N:=k+1) (by rw [List.length_cons]; omega)
    simp only [List.mem_cons,not_or] at hmS
    refine ⟨cram (G.map F) (l :: S),cram (G.map F) (m :: S),l,m,hl,hm,?_,?_,?_,?_,fun j hj=>⟨hzero l hl j hj,hzero m hm j hj⟩⟩
    ·rw [cram_head hlS]; exact hdet
    ·exact cram_out (by simp only [List.mem_cons,not_or]; exact hmS)
    ·rw [cram_head hmS.2]; exact hdet
    ·exact cram_out (by simp only [List.mem_cons,not_or]; exact ⟨fun e=>hmS.1 e.symm,hlS⟩)
 exact hno (.inl (all k (Nat.le_refl _)))
end Go.Proofs.Ytkbbhihndigmeaa

/- Ranges over functions, one in the round of another one. It imports nothing of the program. -/
import Derived.RangeFuncNested
import Derived.RangeFuncCalls
import Derived.RangeFuncLeaves
import Derived.Test.YtkbbhihndigmeaaBasaa
import Derived.Test.YtkbbhihndigmeaaBasac
import Derived.Test.YtkbbhihndigmeaaBasad
import Derived.RangeFuncBound
import Derived.Shelf.Abstract
import Derived.Shelf.RegionOpen
import Derived.OwnWalkIn
import Derived.TacticsInMore
import Derived.LoopNIn
import Derived.LoopIn
import Derived.Scope
import Derived.Test.YtkbbhihndigmeaaProg
import Derived.Test.YtkbbhihndigmeaaBasag
import Derived.Test.YtkbbhihndigmeaaBasai
namespace Go.Proofs.Ytkbbhihndigmeaa
open Go Go.RowKit
theorem wpIn_rangeAH {α : Type} {n:Nat} {P:Program} {g:Operand} {ps:Array Tmp} {assign body:Code} {Q:Exit→Act→World→Prop} {a:Act} {w:World} {gf:Nat} {first lb:Array Value} {K:Nat→Prop} {L:List α} {Enc:World → α → Array Value→Prop}
 (hg:a.eval g = .func (.func gf) first lb) (eg : ∀ args w,(callFunc gf args).run P w = .ok (.enter gf args) w)
 (hseq:GivesA P gf first lb K L Enc w) (hK : ∀ k,K k→k<w.heap.size) (hps : ∀ A x vs,Enc A x vs→vs.size=ps.size) (hE : ∀ x vs,Still (w.heap.size+1) fun A=>Enc A x vs)
 (I:Nat→World→Prop) (Ix:Code→Nat→World→Prop) (hI : ∀ k,Still (w.heap.size+1) (I k)) (hIx : ∀ c k,Still (w.heap.size+1) (Ix c k)) (h0:I 0 w)
 (Ax:Nat→Array Value→Act→World→Prop) (hAx : ∀ k vs a',Still (w.heap.size+1) (Ax k vs a'))
 (hassign : ∀ (l k:Nat) (hk:k<L.length) (A:World) (vs:Array Value) (T:Act→World→Prop),w.heap.size+2≤A.heap.size→I k A→Enc A L[k] vs→(∀ a' A',Below A.heap.size A A'→Ax k vs a' A'→T a' A') →
   assign.wpIn (Fence.wide.inRound l) n P (Exit.then T (fun _ _ _=>False)) { tmps:=(ps.zip vs).foldl (fun t (p,v)=>t.setIfInBounds p v) a.tmps,defers:=[] } A)
 (hbody : ∀ (l k:Nat) (hk:k<L.length) (vs:Array Value) (a':Act) (A:World),l=w.heap.size+1→(∃ r:Loop,A.heap[l]? = some (.loop r))→w.heap.size+2≤A.heap.size→I k A→Enc A L[k] vs→Ax k vs a' A→body.wpIn (Fence.wide.inRound l) n P (roundQ K w.heap.size I Ix k A) a' A)
 (hdone : ∀ B:World,w.heap.size+2≤B.heap.size→I L.length B→B.heap[w.heap.size]? = some (.deferred (some []))→Q .normal { a with defers:= { target:= .collected w.heap.size,args := #[] } :: a.defers } B)
 (hstop : ∀ (c:Code) (k:Nat) (B:World),w.heap.size+2≤B.heap.size→Ix c k B→B.heap[w.heap.size]? = some (.deferred (some []))→c.wpIn Fence.wide n P Q { a with defers:= { target:= .collected w.heap.size,args := #[] } :: a.defers } B) :
 (Code.rangeFunc g ps assign body).wpIn Fence.wide n P Q a w:=by
 refine wpIn_rangeFunc fun fn _ => ?_
 obtain ⟨b,hb⟩ : ∃ b,w.heap.size=b:=⟨_,rfl⟩
 obtain ⟨record,hrec⟩ : ∃ record:LoopState→Option Code→Loop,record=fun st pe=> { state:=st,pending:=pe,fn,tmps:=a.tmps,params:=ps,assign,body,defers:=b } := ⟨_,rfl⟩
 obtain ⟨W,hW⟩ : ∃ W,(w.alloc (.deferred (some []))).alloc (.loop (record .ready none))=W:=⟨_,rfl⟩
 have hWl:W.heap[b+1]? = some (.loop (record .ready none)):=by
  rw [← hW, ← hb]
  have:=World.alloc_heap_new (w.alloc (.deferred (some []))) (.loop (record .ready none))
  rwa [World.size_alloc] at this
 have hWd:W.heap[b]? = some (.deferred (some [])):=by
  rw [← hW, ← hb]
  exact (Below.heap_alloc _ _ _ (by simp)).trans (World.alloc_heap_new w _)
 have hWz:W.heap.size=b+2:=by rw [← hW]; simp [hb]
 have hWb:Below b w W:=by
  rw [← hW, ← hb]
  exact ((Below.refl _ w).alloc (Nat.le_refl _) _).alloc (by simp) _
 have hI0:I 0 W:=(hI 0).grow w W h0 (by rw [hb]; exact hWb)
 rw [hb] at hI hIx hAx hE hassign hbody hdone hstop hK
 -- what lies between two rounds
 let J:Nat→World→Prop:=fun k A=>I k A∧A.heap[b+1]? = some (.loop (record .ready none))∧A.heap[b]? = some (.deferred (some []))∧b+2≤A.heap.size
 let Jx:Nat→World→Prop:=fun k A=> ∃ c,Ix c k A∧A.heap[b+1]? = some (.loop (record .done (some c)))∧A.heap[b]? = some (.deferred (some []))∧b+2≤A.heap.size
 refine ⟨b+1,[{ target:= .collected b,args := #[] }],W, { target:= .fn (.func gf) lb,args:=first ++ #[.func (.yield (b+1)) #[] #[]] },W,gf,first ++ #[.func (.yield (b+1)) #[] #[]] ++ lb,W,?_,?_,fun _ _=>trivial,?_,fun h=>by simp [Fence.wide] at h,?_⟩
 ·rw [← hW,hrec, ← hb]
  exact run_enterLoop_outer _ _ _ _ _
 ·simp only [resolve,hg]
  simp [go_sem]
 ·simp [invoke,go_sem,eg]
 refine callsIn_wide.2 ((hseq (b+1) J Jx W ?_ (by omega) ?_ ?_ ?_ ?_).mono ?_)
 ·intro k hk
  have:=hK k hk
  exact ⟨by omega,hWb.block k this⟩
 ·rintro k A B ⟨h1,h2,h3,h4⟩ hAB
  exact ⟨(hI k).grow A B h1 hAB,(hAB.block _ (by omega)).trans h2,(hAB.block _ (by omega)).trans h3,Nat.le_trans h4 hAB.size⟩
 ·rintro k A B ⟨c,h1,h2,h3,h4⟩ hAB
  exact ⟨c,(hIx c k).grow A B h1 hAB,(hAB.block _ (by omega)).trans h2,(hAB.block _ (by omega)).trans h3,Nat.le_trans h4 hAB.size⟩
 ·rintro k hk A vs _ ⟨h1,h2,h3,h4⟩ hvs
  have hy:=run_yield (P:=P) (args:=vs) h2 (by rw [hrec]; exact hps A _ vs hvs)
  rw [hrec] at hy
  refine ⟨fn,_,assign,body,hy,round_any (n:=n) rfl (roundIn_of_wpIn trivial (hassign _ k hk A vs _ h4 h1 hvs ?_))⟩
  intro a' A' hAA hax
  have hz':=hAA.size
  have h2':A'.heap[b+1]? = some (.loop (record .ready none)):=(hAA.block _ (by omega)).trans h2
  have h3':A'.heap[b]? = some (.deferred (some [])):=(hAA.block _ (by omega)).trans h3
  refine ⟨_,run_beginRound h2' (by rw [hrec]),?_⟩
  obtain ⟨C,hC⟩ : ∃ C,A'.putObj (b+1) (.loop { record .ready none with state:= .busy })=C:=⟨_,rfl⟩
  have hC2:C.heap[b+1]? = some (.loop { record .ready none with state:= .busy }):=by rw [← hC]; exact World.putObj_heap_same (by omega)
  have hC3:C.heap[b]? = some (.deferred (some [])):=by rw [← hC]; exact (World.putObj_heap_other (by omega)).trans h3'
  have hCz:C.heap.size=A'.heap.size:=by rw [← hC]; simp
  have hCI:I k C:=by
   rw [← hC]
   exact (hI k).put _ _ _ h2' ((hI k).grow _ _ h1 hAA)
  have hCE:Enc C L[k] vs:=by
   rw [← hC]
   exact (hE _ vs).put _ _ _ h2' ((hE _ vs).grow _ _ hvs hAA)
  have hCx:Ax k vs a' C:=by rw [← hC]; exact (hAx k vs a').put _ _ _ h2' hax
  have hKb : ¬ K (b+1):=fun h=>by have:=hK _ h; omega
  have hAC:Spares K (b+2) A C:=by
   rw [← hC]
   exact (Spares.of_below hAA).trans (Spares.put _ hKb (by omega))
  rw [hC]
  refine wpIn_mono (hbody _ k hk vs a' C rfl ⟨_,hC2⟩ (by omega) hCI hCE hCx) ?_
  have fin : ∀ (jump:Option Code) (B:World),Spares K b C B →
   ∃ B',(Instr.endRound (b+1) jump).run P B = .ok (.bool jump.isNone) B'∧B'.heap[b+1]? = some (.loop (record (if jump.isNone then .ready else .done) jump))∧B'.heap[b]? = some (.deferred (some [])) ∧
     b+2≤B'.heap.size∧(∃ o o',B.heap[b+1]? = some (.loop o)∧B'=B.putObj (b+1) (.loop o'))∧Spares K (b+2) A B':=fun jump B hCB=>by
   have hBz:=hCB.size
   have g2:B.heap[b+1]? = some (.loop { record .ready none with state:= .busy }):=(hCB.block _ (by omega) (.inr (by omega))).trans hC2
   have g3:B.heap[b]? = some (.deferred (some [])):=(hCB.block _ (by omega) (.inr (by omega))).trans hC3
   have hr:=run_endRound (P:=P) jump g2
   rw [hrec] at hr
   refine ⟨_,hr,?_,(World.putObj_heap_other (by omega)).trans g3,by simp; omega,⟨_,_,g2,rfl⟩,?_⟩
   ·rw [World.putObj_heap_same (by omega),hrec]
   ·exact hAC.trans ((hCB.mono (fun k h=> .inl h) (by omega)).trans (Spares.put _ hKb (by omega)))
  intro e a3 B hp
  cases e with
  | normal=>
    obtain ⟨hs,hi⟩:=hp
    obtain ⟨B',hr,f1,f2,f3,⟨o,o',f4,f6⟩,f5⟩:=fin none B hs
    exact ⟨_,_,hr, .inl ⟨rfl,⟨by rw [f6]; exact (hI _).put _ _ _ f4 hi,f1,f2,f3⟩,by rw [hWz]; exact f5⟩⟩
  | ret=>
    obtain ⟨hs,hi⟩:=hp
    obtain ⟨B',hr,f1,f2,f3,⟨o,o',f4,f6⟩,f5⟩:=fin (some .ret) B hs
    exact ⟨_,_,hr, .inr ⟨rfl,⟨.ret,by rw [f6]; exact (hIx _ _).put _ _ _ f4 hi,f1,f2,f3⟩,by rw [hWz]; exact f5⟩⟩
  | exit id=>
    obtain ⟨hs,hi⟩:=hp
    obtain ⟨B',hr,f1,f2,f3,⟨o,o',f4,f6⟩,f5⟩:=fin (some (.exit id)) B hs
    exact ⟨_,_,hr, .inr ⟨rfl,⟨.exit id,by rw [f6]; exact (hIx _ _).put _ _ _ f4 hi,f1,f2,f3⟩,by rw [hWz]; exact f5⟩⟩
  | goto t=>
    obtain ⟨hs,hi⟩:=hp
    obtain ⟨B',hr,f1,f2,f3,⟨o,o',f4,f6⟩,f5⟩:=fin (some (.goto t)) B hs
    exact ⟨_,_,hr, .inr ⟨rfl,⟨.goto t,by rw [f6]; exact (hIx _ _).put _ _ _ f4 hi,f1,f2,f3⟩,by rw [hWz]; exact f5⟩⟩
  | panic ch=>exact hp.elim
  | outgrown=>exact hp.elim
 ·exact ⟨hI0,hWl,hWd,by omega⟩
 ·rintro e B ⟨⟨v,rfl⟩,(⟨h1,h2,h3,h4⟩ | ⟨k,c,h1,h2,h3,h4⟩)⟩
  ·refine ⟨none,_,(by have:=run_endLoop (P:=P) h2 (by rw [hrec]; simp); rw [hrec] at this; exact this),?_⟩
   have:=hdone (B.putObj (b+1) (.loop (record .exhausted none))) (by simp; omega) ((hI _).put _ _ _ h2 h1) ((World.putObj_heap_other (by omega)).trans h3)
   simpa [hrec] using this
  ·refine ⟨some c,_,(by have:=run_endLoop (P:=P) h2 (by rw [hrec]; simp); rw [hrec] at this; exact this),?_⟩
   have:=hstop c k (B.putObj (b+1) (.loop (record .exhausted (some c)))) (by simp; omega) ((hIx _ _).put _ _ _ h2 h1) ((World.putObj_heap_other (by omega)).trans h3)
   simpa [hrec] using this
theorem wpIn_rangeAN {α : Type} {n:Nat} {P:Program} {g:Operand} {ps:Array Tmp} {assign body:Code} {Q:Exit→Act→World→Prop} {a:Act} {w:World} {gf:Nat} {first lb:Array Value} {K:Nat→Prop} {L:List α} {Enc:World → α → Array Value→Prop} {l₀:Nat} {r₀:Loop} (hl₀:w.heap[l₀]? = some (.loop r₀))
 (hg:a.eval g = .func (.func gf) first lb) (eg : ∀ args w,(callFunc gf args).run P w = .ok (.enter gf args) w)
 (hseq:GivesA P gf first lb K L Enc w) (hK : ∀ k,K k→k<w.heap.size) (hps : ∀ A x vs,Enc A x vs→vs.size=ps.size) (hE : ∀ x vs,Still (w.heap.size) fun A=>Enc A x vs)
 (I:Nat→World→Prop) (Ix:Code→Nat→World→Prop) (hI : ∀ k,Still (w.heap.size) (I k)) (hIx : ∀ c k,Still (w.heap.size) (Ix c k)) (h0:I 0 w)
 (Ax:Nat→Array Value→Act→World→Prop) (hAx : ∀ k vs a',Still (w.heap.size) (Ax k vs a'))
 (hassign : ∀ (l k:Nat) (hk:k<L.length) (A:World) (vs:Array Value) (T:Act→World→Prop),w.heap.size+1≤A.heap.size→I k A→Enc A L[k] vs→(∀ a' A',Below A.heap.size A A'→Ax k vs a' A'→T a' A') →
   assign.wpIn (Fence.wide.inRound l) n P (Exit.then T (fun _ _ _=>False)) { tmps:=(ps.zip vs).foldl (fun t (p,v)=>t.setIfInBounds p v) a.tmps,defers:=[] } A)
 (hbody : ∀ (l k:Nat) (hk:k<L.length) (vs:Array Value) (a':Act) (A:World),w.heap.size+1≤A.heap.size→I k A→Enc A L[k] vs→Ax k vs a' A→body.wpIn (Fence.wide.inRound l) n P (roundQ K w.heap.size I Ix k A) a' A)
 (hdone : ∀ B:World,w.heap.size+1≤B.heap.size→I L.length B→Q .normal a B)
 (hstop : ∀ (c:Code) (k:Nat) (B:World),w.heap.size+1≤B.heap.size→Ix c k B→c.wpIn (Fence.wide.inRound l₀) n P Q a B) :
 (Code.rangeFunc g ps assign body).wpIn (Fence.wide.inRound l₀) n P Q a w:=by
 refine wpIn_rangeFunc fun fn _ => ?_
 obtain ⟨b,hb⟩ : ∃ b,w.heap.size=b:=⟨_,rfl⟩
 obtain ⟨record,hrec⟩ : ∃ record:LoopState→Option Code→Loop,record=fun st pe=> { state:=st,pending:=pe,fn,tmps:=a.tmps,params:=ps,assign,body,defers:=r₀.defers } := ⟨_,rfl⟩
 obtain ⟨W,hW⟩ : ∃ W,w.alloc (.loop (record .ready none))=W:=⟨_,rfl⟩
 have hWl:W.heap[b]? = some (.loop (record .ready none)):=by
  rw [← hW, ← hb]
  exact World.alloc_heap_new w _
 have hWz:W.heap.size=b+1:=by rw [← hW]; simp [hb]
 have hWb:Below b w W:=by
  rw [← hW, ← hb]
  exact (Below.refl _ w).alloc (Nat.le_refl _) _
 have hI0:I 0 W:=(hI 0).grow w W h0 (by rw [hb]; exact hWb)
 rw [hb] at hI hIx hAx hE hassign hbody hdone hstop hK
 -- what lies between two rounds
 let J:Nat→World→Prop:=fun k A=>I k A∧A.heap[b]? = some (.loop (record .ready none))∧b+1≤A.heap.size
 let Jx:Nat→World→Prop:=fun k A=> ∃ c,Ix c k A∧A.heap[b]? = some (.loop (record .done (some c)))∧b+1≤A.heap.size
 refine ⟨b,[],W, { target:= .fn (.func gf) lb,args:=first ++ #[.func (.yield b) #[] #[]] },W,gf,first ++ #[.func (.yield b) #[] #[]] ++ lb,W,?_,?_,fun _ _=>trivial,?_,fun h=>by simp [Fence.wide,Fence.inRound] at h,?_⟩
 ·rw [← hW,hrec, ← hb]
  exact run_enterLoop_inner hl₀ _ _ _ _ _
 ·simp only [resolve,hg]
  simp [go_sem]
 ·simp [invoke,go_sem,eg]
 refine CallsIn.inRound l₀ (callsIn_wide.2 ((hseq b J Jx W ?_ (by omega) ?_ ?_ ?_ ?_).mono ?_))
 ·intro k hk
  have:=hK k hk
  exact ⟨by omega,hWb.block k this⟩
 ·rintro k A B ⟨h1,h2,h4⟩ hAB
  exact ⟨(hI k).grow A B h1 hAB,(hAB.block _ (by omega)).trans h2,Nat.le_trans h4 hAB.size⟩
 ·rintro k A B ⟨c,h1,h2,h4⟩ hAB
  exact ⟨c,(hIx c k).grow A B h1 hAB,(hAB.block _ (by omega)).trans h2,Nat.le_trans h4 hAB.size⟩
 ·rintro k hk A vs _ ⟨h1,h2,h4⟩ hvs
  have hy:=run_yield (P:=P) (args:=vs) h2 (by rw [hrec]; exact hps A _ vs hvs)
  rw [hrec] at hy
  refine ⟨fn,_,assign,body,hy,round_any (n:=n) rfl (roundIn_of_wpIn trivial (hassign _ k hk A vs _ h4 h1 hvs ?_))⟩
  intro a' A' hAA hax
  have hz':=hAA.size
  have h2':A'.heap[b]? = some (.loop (record .ready none)):=(hAA.block _ (by omega)).trans h2
  refine ⟨_,run_beginRound h2' (by rw [hrec]),?_⟩
  obtain ⟨C,hC⟩ : ∃ C,A'.putObj (b) (.loop { record .ready none with state:= .busy })=C:=⟨_,rfl⟩
  have hC2:C.heap[b]? = some (.loop { record .ready none with state:= .busy }):=by rw [← hC]; exact World.putObj_heap_same (by omega)
  have hCz:C.heap.size=A'.heap.size:=by rw [← hC]; simp
  have hCI:I k C:=by
   rw [← hC]
   exact (hI k).put _ _ _ h2' ((hI k).grow _ _ h1 hAA)
  have hCE:Enc C L[k] vs:=by
   rw [← hC]
   exact (hE _ vs).put _ _ _ h2' ((hE _ vs).grow _ _ hvs hAA)
  have hCx:Ax k vs a' C:=by rw [← hC]; exact (hAx k vs a').put _ _ _ h2' hax
  have hKb : ¬ K (b):=fun h=>by have:=hK _ h; omega
  have hAC:Spares K (b+1) A C:=by
   rw [← hC]
   exact (Spares.of_below hAA).trans (Spares.put _ hKb (by omega))
  rw [hC]
  refine wpIn_mono (hbody _ k hk vs a' C (by omega) hCI hCE hCx) ?_
  have fin : ∀ (jump:Option Code) (B:World),Spares K b C B →
   ∃ B',(Instr.endRound (b) jump).run P B = .ok (.bool jump.isNone) B'∧B'.heap[b]? = some (.loop (record (if jump.isNone then .ready else .done) jump)) ∧
     b+1≤B'.heap.size∧(∃ o o',B.heap[b]? = some (.loop o)∧B'=B.putObj (b) (.loop o'))∧Spares K (b+1) A B':=fun jump B hCB=>by
   have hBz:=hCB.size
   have g2:B.heap[b]? = some (.loop { record .ready none with state:= .busy }):=(hCB.block _ (by omega) (.inr (by omega))).trans hC2
   have hr:=run_endRound (P:=P) jump g2
   rw [hrec] at hr
   refine ⟨_,hr,?_,by simp; omega,⟨_,_,g2,rfl⟩,?_⟩
   ·rw [World.putObj_heap_same (by omega),hrec]
   ·exact hAC.trans ((hCB.mono (fun k h=> .inl h) (by omega)).trans (Spares.put _ hKb (by omega)))
  intro e a3 B hp
  cases e with
  | normal=>
    obtain ⟨hs,hi⟩:=hp
    obtain ⟨B',hr,f1,f3,⟨o,o',f4,f6⟩,f5⟩:=fin none B hs
    exact ⟨_,_,hr, .inl ⟨rfl,⟨by rw [f6]; exact (hI _).put _ _ _ f4 hi,f1,f3⟩,by rw [hWz]; exact f5⟩⟩
  | ret=>
    obtain ⟨hs,hi⟩:=hp
    obtain ⟨B',hr,f1,f3,⟨o,o',f4,f6⟩,f5⟩:=fin (some .ret) B hs
    exact ⟨_,_,hr, .inr ⟨rfl,⟨.ret,by rw [f6]; exact (hIx _ _).put _ _ _ f4 hi,f1,f3⟩,by rw [hWz]; exact f5⟩⟩
  | exit id=>
    obtain ⟨hs,hi⟩:=hp
    obtain ⟨B',hr,f1,f3,⟨o,o',f4,f6⟩,f5⟩:=fin (some (.exit id)) B hs
    exact ⟨_,_,hr, .inr ⟨rfl,⟨.exit id,by rw [f6]; exact (hIx _ _).put _ _ _ f4 hi,f1,f3⟩,by rw [hWz]; exact f5⟩⟩
  | goto t=>
    obtain ⟨hs,hi⟩:=hp
    obtain ⟨B',hr,f1,f3,⟨o,o',f4,f6⟩,f5⟩:=fin (some (.goto t)) B hs
    exact ⟨_,_,hr, .inr ⟨rfl,⟨.goto t,by rw [f6]; exact (hIx _ _).put _ _ _ f4 hi,f1,f3⟩,by rw [hWz]; exact f5⟩⟩
  | panic ch=>exact hp.elim
  | outgrown=>exact hp.elim
 ·exact ⟨hI0,hWl,by omega⟩
 ·rintro e B ⟨⟨v,rfl⟩,(⟨h1,h2,h4⟩ | ⟨k,c,h1,h2,h4⟩)⟩
  ·refine ⟨none,_,(by have:=run_endLoop (P:=P) h2 (by rw [hrec]; simp); rw [hrec] at this; exact this),?_⟩
   have:=hdone (B.putObj (b) (.loop (record .exhausted none))) (by simp; omega) ((hI _).put _ _ _ h2 h1)
   simpa [hrec] using this
  ·refine ⟨some c,_,(by have:=run_endLoop (P:=P) h2 (by rw [hrec]; simp); rw [hrec] at this; exact this),?_⟩
   have:=hstop c k (B.putObj (b) (.loop (record .exhausted (some c)))) (by simp; omega) ((hIx _ _).put _ _ _ h2 h1)
   simpa [hrec] using this
end Go.Proofs.Ytkbbhihndigmeaa

namespace Go.Proofs.Ytkbbhihndigmeaa
open Go Go.RowKit Go.Shelf
attribute [local go_sem] Oper.semAt_some
def growL (F:List Nat→Nat→Bool) (n:Nat):Nat→List Nat→List (List Nat)
 | 0,b=>[b]
 | r+1,b=>b :: (List.range n).flatMap fun i=>if F b i then growL F n r (b ++ [i]) else []
def kidsL (F:List Nat→Nat→Bool) (n:Nat):Nat→List Nat→Nat→List (List Nat)
 | 0,_,_=>[]
 | r+1,b,k=>(List.range k).flatMap fun i=>if F b i then growL F n r (b ++ [i]) else []
theorem growL_kids (F:List Nat→Nat→Bool) (n r:Nat) (b:List Nat):growL F n r b=b :: kidsL F n r b n:=by cases r <;> rfl
theorem kidsL_zero (F:List Nat→Nat→Bool) (n r:Nat) (b:List Nat):kidsL F n r b 0=[]:=by cases r <;> rfl
theorem kidsL_no {F:List Nat→Nat→Bool} {n r:Nat} {b:List Nat} {k:Nat} (h:F b k=false):kidsL F n r b (k+1)=kidsL F n r b k:=by
 cases r with
 | zero=>rfl
 | succ r=>simp [kidsL,List.range_succ,List.flatMap_append,h]
theorem kidsL_yes {F:List Nat→Nat→Bool} {n r:Nat} {b:List Nat} {k:Nat} (h:F b k=true):kidsL F n (r+1) b (k+1)=kidsL F n (r+1) b k ++ growL F n r (b ++ [k]):=by
 simp [kidsL,List.range_succ,List.flatMap_append,h]
theorem kidsL_pre {F:List Nat→Nat→Bool} {n r:Nat} {b:List Nat} {j:Nat} : ∀ {k},j≤k→kidsL F n r b j <+: kidsL F n r b k
 | 0,h=>by obtain rfl:j=0:=by omega
           exact List.prefix_refl _
 | k+1,h=>by
   by_cases e:j=k+1
   ·subst e; exact List.prefix_refl _
   ·refine (kidsL_pre (k:=k) (by omega)).trans ?_
    cases r with
    | zero=>exact List.prefix_refl _
    | succ r=>
      cases hF:F b k
      ·rw [kidsL_no hF]; exact List.prefix_refl _
      ·rw [kidsL_yes hF]; exact List.prefix_append _ _
theorem pre_drop {α : Type} {a b L:List α} {pos:Nat} (h:(a ++ b) <+: L.drop pos):b <+: L.drop (pos+a.length):=by
 obtain ⟨t,ht⟩:=h
 refine ⟨t,?_⟩
 rw [← List.drop_drop, ← ht,List.append_assoc,List.drop_left]
theorem pre_head {α : Type} {x : α} {a L:List α} {pos:Nat} (h:(x :: a) <+: L.drop pos) : ∃ hl:pos<L.length,L[pos]=x:=by
 obtain ⟨t,ht⟩:=h
 have h1:pos<L.length:=by
  have:=congrArg List.length ht
  simp at this
  omega
 refine ⟨h1,?_⟩
 have:(L.drop pos)[0]? = some x:=by rw [← ht]; rfl
 rw [List.getElem?_drop,Nat.add_zero,List.getElem?_eq_getElem h1] at this
 exact Option.some.inj this
set_option maxRecDepth 100000 in
set_option maxHeartbeats 4000000 in
theorem grow_c (ff:Nat) (ffirst flb:Array Value) (F:List Nat→Nat→Bool) (n M:Nat) (Good:List Nat→Prop) (K:Nat→Prop) (D:Nat) (W0:World) (lr:Nat) (J Jx:Nat→World→Prop) (L:List (List Nat))
 (hn:n≤1048576) (hM:M≤1048576) (ef : ∀ args w,(callFunc ff args).run Try.prog w = .ok (.enter ff args) w)
 (hstep : ∀ b i,Good b→i<n→F b i=true→Good (b ++ [i])∧b.length<M)
 (hfit : ∀ A x p cap i,Spares K D W0 A→D≤A.heap.size→Lst A x p cap→Good x→i<n→Calls Try.prog ff (ffirst ++ #[.slice p x.length cap, .int .i64 (i:Nat)] ++ flb) A fun e w'=>e = .returned (.bool (F x i))∧Below A.heap.size A w')
 (hJ : ∀ k A B,J k A→Below A.heap.size A B→J k B)
 (hY : ∀ k (h:k<L.length) A p cap,D≤A.heap.size→J k A→Lst A L[k] p cap→(∀ bb off,p=some ⟨bb,off,none⟩→D≤bb)→YieldAt Fence.wide 0 Try.prog lr #[.slice p L[k].length cap] A fun e B=>(e = .returned (.bool true)∧J (k+1) B∧Spares K D A B)∨(e = .returned (.bool false)∧Jx (k+1) B∧Spares K D A B)) :
 ∀ r b,r+b.length=M→Good b → ∀ p cap A pos,Lst A b p cap→(∀ bb off,p=some ⟨bb,off,none⟩→D≤bb)→Spares K D W0 A→D≤A.heap.size→J pos A→growL F n r b <+: L.drop pos →
   Calls Try.prog 114 #[.slice p b.length cap, .int .i64 n, .func (.func ff) ffirst flb, .func (.yield lr) #[] #[]] A fun e B=>((e = .returned (.bool true)∧J (pos+(growL F n r b).length) B)∨(e = .returned (.bool false) ∧ ∃ k,Jx k B))∧Spares K D A B:=by
 have Hstep:=Lib.hid hstep
 have Hfit:=Lib.hid hfit
 have HJ:=Lib.hid hJ
 have HY:=Lib.hid hY
 clear hstep hfit hJ hY
 intro r
 induction r using Nat.strongRecOn with
 | _ r ih=>
   intro b hb hgood p cap A pos hL hp hS hDA hj hpre
   rw [growL_kids] at hpre ⊢
   obtain ⟨hpos,hhead⟩:=pre_head hpre
   have hyy:=HY.out pos hpos A p cap hDA hj (by rw [hhead]; exact hL) hp
   rw [hhead] at hyy
   obtain ⟨fn,tmps,assign,body,hy,hR⟩:=hyy
   try dsimp only at hy
   have HR:=Lib.hid hR
   have HL:=Lib.hid hL
   have Hp:=Lib.hid hp
   have HS:=Lib.hid hS
   have Hpre:=Lib.hid hpre
   have IH:=Lib.hid ih
   have hroom:=hL.room
   have hcap:=hL.fit
   clear hR hL hp hS hpre hj ih
   refine (callsIn_wide (n:=1)).1 ?_
   refine callsIn_of_wp Try.func114 rfl trivial ?_ rfl
   simp only [Try.ntmps114,List.size_toArray,List.length_cons,List.length_nil,Nat.reduceAdd,Nat.reduceSub,Array.replicate_succ,Array.replicate_zero,List.push_toArray,List.append_toArray,List.nil_append,List.cons_append]
   gi_wp2
   refine HR.out.mono ?_
   rintro e A1 (⟨rfl,hJ1,hS1⟩ | ⟨rfl,hJx1,hS1⟩)
   ·clear hy
    gi_wp2
    gi_loopw [18] (fun s wr=> ∃ k:Nat,k≤n∧s = .int .i64 k∧J (pos+1+(kidsL F n r b k).length) wr∧Spares K D A wr) (fun s _=>n-(intOf s).toNat)
    case atStart=>exact ⟨0,Nat.zero_le _,rfl,by rw [kidsL_zero]; exact hJ1,hS1⟩
    case round=>
     obtain ⟨k,hk,rfl,hj,hsp⟩:=hrel
     have hDr:D≤wr.heap.size:=Nat.le_trans hDA hsp.size
     have hLr:Lst wr b p cap:=HL.out.block hsp.size fun bb off e hlt=>hsp.block bb hlt (.inr (Hp.out bb off e))
     have hSr:=HS.out.trans hsp
     by_cases hlt:k<n
     ·have hc:=Hfit.out wr b p cap k hSr hDr hLr hgood hlt
      rw [Array.append_assoc] at hc
      have Hc:=Lib.hid hc
      have Hj:=Lib.hid hj
      have Hsp:=Lib.hid hsp
      have HLr:=Lib.hid hLr
      clear hc hj hsp hLr hSr hJ1 hS1
      cases hF:F b k with
      | false=>
        rw [hF] at Hc
        have HF:=Lib.hid hF
        clear hF
        gi_wp2
        refine ⟨trivial,(callsIn_wide.2 Hc.out).mono ?_⟩
        rintro e A2 ⟨rfl,hb2⟩
        gi_wp2
        refine ⟨trivial,?_⟩
        gi_wp2
        go_roundw
        case rel=>exact ⟨k+1,by omega,by go_num,by rw [kidsL_no HF.out]; exact HJ.out _ _ _ Hj.out hb2,Hsp.out.trans (Spares.of_below hb2)⟩
        case measure=>simp [intOf]; omega
      | true=>
        rw [hF] at Hc
        have HF:=Lib.hid hF
        clear hF
        gi_wp2
        refine ⟨trivial,(callsIn_wide.2 Hc.out).mono ?_⟩
        rintro e A2 ⟨rfl,hb2⟩
        have hL2:=HLr.out.below hb2
        obtain ⟨V,hV⟩ : ∃ V,A2.alloc (.cells #[.int .i64 (k:Int)] 3)=V:=⟨_,rfl⟩
        have hBV:Below A2.heap.size A2 V:=by rw [← hV]; exact Below.alloc1 (Below.refl _ _) _ (Nat.le_refl _)
        have hRV:RowIs V A2.heap.size #[.int .i64 (k:Int)] 3:=by rw [← hV]; exact heap_new_at _ _ _ rfl
        obtain ⟨g,cap',B,hrun,hgz,hLB,hBB⟩:=append_lst (hL2.below hBV) A2.heap.size k hRV (by omega)
        have HLB:=Lib.hid hLB
        clear hL2 hRV hLB
        gi_wp2_with (gi_at_builtin; refine wpListIn_append_run rfl _ _ 42 rfl rfl rfl hrun ?_)
        have hstep:=Hstep.out b k hgood hlt HF.out
        obtain ⟨r',rfl⟩ : ∃ r',r=r'+1:=⟨r-1,by omega⟩
        have hbelow:Below wr.heap.size wr B:=(hb2.trans (hBV.mono hb2.size)).trans (hBB.mono (Nat.le_trans hb2.size hBV.size))
        have hgD:D≤g:=Nat.le_trans hDr (Nat.le_trans (Nat.le_trans hb2.size hBV.size) hgz)
        have hpre:growL F n r' (b ++ [k]) <+: L.drop (pos+1+(kidsL F n (r'+1) b k).length):=by
         have h1:=kidsL_pre (F:=F) (n:=n) (r:=r'+1) (b:=b) (show k+1≤n by omega)
         rw [kidsL_yes HF.out] at h1
         have h2:((b :: kidsL F n (r'+1) b k) ++ growL F n r' (b ++ [k])) <+: L.drop pos:=by
          obtain ⟨t,ht⟩:=h1
          refine List.IsPrefix.trans ⟨t,?_⟩ Hpre.out
          rw [← ht]
          simp
         have h3:=pre_drop h2
         rwa [show pos+(b :: kidsL F n (r'+1) b k).length=pos+1+(kidsL F n (r'+1) b k).length by simp; omega] at h3
        have hi:=IH.out r' (by omega) (b ++ [k]) (by simp; omega) hstep.1 (some ⟨g,0,none⟩) cap' B (pos+1+(kidsL F n (r'+1) b k).length) HLB.out (fun bb off e=>by cases e; exact hgD) ((HS.out.trans Hsp.out).trans (Spares.of_below hbelow)) (Nat.le_trans hDr hbelow.size) (HJ.out _ _ _ Hj.out hbelow) hpre
        rw [show (b ++ [k]).length=b.length+1 by simp] at hi
        refine ⟨trivial,(callsIn_wide.2 hi).mono ?_⟩
        rintro e B2 ⟨(⟨rfl,hJ2⟩ | ⟨rfl,hJx2⟩),hS2⟩
        ·clear hi hpre hrun hV
         gi_wp2
         go_roundw
         case rel=>exact ⟨k+1,by omega,by go_num,by rw [kidsL_yes HF.out,List.length_append, ← Nat.add_assoc]; exact hJ2,(Hsp.out.trans (Spares.of_below hbelow)).trans hS2⟩
         case measure=>simp [intOf]; omega
        ·clear hi hpre hrun hV
         gi_wp2
         refine bodyPost_ret (v:= .bool false) (by simp [results,Try.results114,go_sem]) rfl ⟨.inr ⟨rfl,hJx2⟩,(Hsp.out.trans (Spares.of_below hbelow)).trans hS2⟩
     ·obtain rfl:k=n:=by omega
      gi_wp2
      refine bodyPost_ret (v:= .bool true) (by simp [results,Try.results114,go_sem]) rfl ⟨.inl ⟨rfl,by rw [show pos+((kidsL F k r b k).length+1)=pos+1+(kidsL F k r b k).length by omega]; exact hj⟩,hsp⟩
   ·clear hy
    gi_wp2
    refine bodyPost_ret (v:= .bool false) (by simp [results,Try.results114,go_sem]) rfl ⟨.inr ⟨rfl,_,hJx1⟩,hS1⟩
end Go.Proofs.Ytkbbhihndigmeaa

namespace Go.Proofs.Ytkbbhihndigmeaa
open Go Go.RowKit Go.Shelf
attribute [local go_sem] Oper.semAt_some
def LstV (B0:Nat) (A:World) (x:List Nat) (vs:Array Value):Prop:= ∃ p cap,vs = #[.slice p x.length cap]∧Lst A x p cap ∧ ∀ b off,p=some ⟨b,off,none⟩→B0≤b
set_option maxRecDepth 100000 in
set_option maxHeartbeats 4000000 in
theorem grown_gives (ff:Nat) (ffirst flb:Array Value) (F:List Nat→Nat→Bool) (n M:Nat) (Good:List Nat→Prop) (K:Nat→Prop) (bn:Nat) (w:World) (B0:Nat) (hB0:B0≤w.heap.size)
 (hn:n≤1048576) (hM:M≤1048576) (ef : ∀ args w,(callFunc ff args).run Try.prog w = .ok (.enter ff args) w)
 (hN:RowIs w bn #[.int .i64 n] 3) (hF:RowIs w (bn+1) #[.func (.func ff) ffirst flb] 59) (hK:K bn∧K (bn+1)) (hg0:Good [])
 (hstep : ∀ b i,Good b→i<n→F b i=true→Good (b ++ [i])∧b.length<M)
 (hfit : ∀ A x p cap i,(∀ k,K k→A.heap[k]? = w.heap[k]?)→w.heap.size≤A.heap.size→Lst A x p cap→Good x→i<n→Calls Try.prog ff (ffirst ++ #[.slice p x.length cap, .int .i64 (i:Nat)] ++ flb) A fun e w'=>e = .returned (.bool (F x i))∧Below A.heap.size A w') :
 GivesA Try.prog 113 #[] #[.pointer (some ⟨bn,0,none⟩), .pointer (some ⟨bn+1,0,none⟩)] K (growL F n M []) (LstV B0) w:=by
 intro lr J Jx W hW hz hJ hJx hY h0
 have hNW:RowIs W bn _ _:=(hW bn hK.1).2.trans hN
 have hFW:RowIs W (bn+1) _ _:=(hW (bn+1) hK.2).2.trans hF
 have c0:W.cell? ⟨bn,0,none⟩=some (.int .i64 n):=hNW.cell 0
 have c1:W.cell? ⟨bn+1,0,none⟩=some (.func (.func ff) ffirst flb):=hFW.cell 0
 have z0:=hNW.lt
 have z1:=hFW.lt
 have hgr:=grow_c ff ffirst flb F n M Good K W.heap.size W lr J Jx (growL F n M []) hn hM ef hstep
  (fun A x p cap i hsp hzA hL hg hi=>hfit A x p cap i (fun k hk=>(hsp.block k (by have:=(hW k hk).1; omega) (.inl hk)).trans (hW k hk).2) (by omega) hL hg hi)
  hJ (fun k h A p cap hzA hj hL hp=>hY k h A #[.slice p (growL F n M [])[k].length cap] hzA hj ⟨p,cap,rfl,hL,fun b off e=>Nat.le_trans (Nat.le_trans hB0 hz) (hp b off e)⟩)
  M [] rfl hg0 none 0 W 0 lst_nil (fun _ _ e=>by cases e) (Spares.refl _ _ _) (Nat.le_refl _) h0 (List.prefix_refl _)
 have HG:=Lib.hid hgr
 clear hgr hfit hstep hJ hJx hY h0 hW hN hF hNW hFW
 refine (callsIn_wide (n:=1)).1 ?_
 show CallsIn Fence.wide 1 Try.prog 113 #[.func (.yield lr) #[] #[], .pointer (some ⟨bn,0,none⟩), .pointer (some ⟨bn+1,0,none⟩)] W _
 refine callsIn_of_wp Try.func113 rfl trivial ?_ rfl
 simp only [Try.ntmps113,List.size_toArray,List.length_cons,List.length_nil,Nat.reduceAdd,Nat.reduceSub,Array.replicate_succ,Array.replicate_zero,List.push_toArray,List.append_toArray,List.nil_append,List.cons_append]
 gi_wp2
 refine ⟨trivial,(callsIn_wide.2 HG.out).mono ?_⟩
 rintro e B ⟨(⟨rfl,hJ2⟩ | ⟨rfl,hJx2⟩),hS2⟩
 ·gi_wp2
  go_end0
  exact ⟨⟨_,rfl⟩, .inl (by simpa using hJ2)⟩
 ·gi_wp2
  go_end0
  exact ⟨⟨_,rfl⟩, .inr hJx2⟩
theorem grown_c (n:Nat) (ff:Nat) (ffirst flb:Array Value) (w:World) :
 Calls Try.prog 110 #[.int .i64 n, .func (.func ff) ffirst flb] w fun e w'=>e = .returned (.func (.func 113) #[] #[.pointer (some ⟨w.heap.size,0,none⟩), .pointer (some ⟨w.heap.size+1,0,none⟩)])∧(w.alloc (.cells #[.int .i64 n] 3)).alloc (.cells #[.func (.func ff) ffirst flb] 59)=w':=by
 go_enter Try.func110,Try.ntmps110
 go_wp2_with fail
 go_ret
 exact ⟨by simp,rfl⟩
def riseB (F:List Nat→Nat→Bool) (x:List Nat) (i:Nat):Bool:=(decide (x.length=0) || decide (x.getD (x.length-1) 0<i)) && F x i
set_option maxHeartbeats 1000000 in
theorem rise_c (ff:Nat) (ffirst flb:Array Value) (F:List Nat→Nat→Bool) (bf:Nat) (p:Option Addr) (cap:Nat) (x:List Nat) (i:Nat) (w:World) (ef : ∀ args w,(callFunc ff args).run Try.prog w = .ok (.enter ff args) w)
 (hL:Lst w x p cap) (hx:x.length≤1048576) (hF:RowIs w bf #[.func (.func ff) ffirst flb] 59)
 (hfit:((x.length=0)∨x.getD (x.length-1) 0<i)→Calls Try.prog ff (ffirst ++ #[.slice p x.length cap, .int .i64 (i:Nat)] ++ flb) w fun e w'=>e = .returned (.bool (F x i))∧Below w.heap.size w w') :
 Calls Try.prog 111 #[.slice p x.length cap, .int .i64 (i:Nat), .pointer (some ⟨bf,0,none⟩)] w fun e w'=>e = .returned (.bool (riseB F x i))∧Below w.heap.size w w':=by
 have c0:w.cell? ⟨bf,0,none⟩=some (.func (.func ff) ffirst flb):=hF.cell 0
 have z0:=hF.lt
 obtain ⟨r,hr⟩ : ∃ r,riseB F x i=r:=⟨_,rfl⟩
 rw [hr]
 have HR:=Lib.hid hr
 clear hr
 by_cases h0:x.length=0
 ·have hc:=hfit (.inl h0)
  rw [Array.append_assoc] at hc
  have Hc:=Lib.hid hc
  have hr2:F x i=r:=by rw [← HR.out]; simp [riseB,h0]
  rw [hr2] at Hc
  have t0:((x.length:Int)==0)=true:=by rw [h0]; rfl
  have H0:=Lib.hid h0
  clear hc h0 hr2
  go_enter Try.func111,Try.ntmps111
  go_wp2_with fail
  refine Hc.out.mono ?_
  rintro e w1 ⟨rfl,hb1⟩
  go_wp2_with fail
  go_ret
  exact ⟨rfl,hb1⟩
 ·have t0:((x.length:Int)==0)=false:=beq_false_of_ne (by omega)
  obtain ⟨b,off,rfl,hlt,hcs⟩:=Cells.at hL.cells (x.length-1) (by omega)
  have e0:w.cell? ⟨b,off+(x.length-1),none⟩=some (.int .i64 ((x.getD (x.length-1) 0:Nat):Int)):=hcs (x.length-1) (by omega)
  have hw1:IntKind.i64.wrap ((x.length:Int)-1)=((x.length-1:Nat):Int):=by rw [IntWalk.i64_in _ (by omega)]; omega
  clear hcs
  obtain ⟨m,hm⟩ : ∃ m,x.length-1=m:=⟨_,rfl⟩
  obtain ⟨z,hz⟩ : ∃ z,x.getD m 0=z:=⟨_,rfl⟩
  rw [hm] at hw1 e0 hfit
  rw [hz] at e0 hfit
  have hmx:m<x.length:=by omega
  by_cases h1:z<i
  ·have hc:=hfit (.inr h1)
   rw [Array.append_assoc] at hc
   have Hc:=Lib.hid hc
   have hr2:F x i=r:=by rw [← HR.out]; simp only [riseB,hm,hz,h1,decide_true,Bool.or_true,Bool.true_and]
   rw [hr2] at Hc
   have t1:decide ((z:Int)<(i:Int))=true:=decide_eq_true (by omega)
   clear hc hr2 hfit
   go_enter Try.func111,Try.ntmps111
   go_wp2_with fail
   refine Hc.out.mono ?_
   rintro e w1 ⟨rfl,hb1⟩
   go_wp2_with fail
   go_ret
   exact ⟨rfl,hb1⟩
  ·have hr2:r=false:=by rw [← HR.out]; simp only [riseB,hm,hz,h1,h0,decide_false,Bool.or_false,Bool.false_and]
   subst hr2
   have t1:decide ((z:Int)<(i:Int))=false:=decide_eq_false (by omega)
   clear hfit
   go_enter Try.func111,Try.ntmps111
   go_wp2_with fail
   go_ret
   exact ⟨rfl,Below.refl _ _⟩
theorem lists_c (n:Nat) (ff:Nat) (ffirst flb:Array Value) (w:World) :
 Calls Try.prog 103 #[.int .i64 n, .func (.func ff) ffirst flb] w fun e w'=>e = .returned (.func (.func 113) #[] #[.pointer (some ⟨w.heap.size+1,0,none⟩), .pointer (some ⟨w.heap.size+1+1,0,none⟩)])∧((w.alloc (.cells #[.func (.func ff) ffirst flb] 59)).alloc (.cells #[.int .i64 n] 3)).alloc (.cells #[.func (.func 111) #[] #[.pointer (some ⟨w.heap.size,0,none⟩)]] 59)=w':=by
 go_enter Try.func103,Try.ntmps103
 go_wp2_with fail
 refine (grown_c n 111 #[] #[.pointer (some ⟨w.heap.size,0,none⟩)] _).mono ?_
 rintro e w1 ⟨rfl,rfl⟩
 go_wp2_with fail
 go_ret
 exact ⟨by simp,by simp⟩
def Rising (n:Nat) (x:List Nat):Prop:=x.Pairwise (· < ·) ∧ ∀ i ∈ x,i<n
theorem rising_len {n:Nat} {x:List Nat} (h:Rising n x):x.length≤n:=by
 have : ∀ (x:List Nat) (m:Nat),x.Pairwise (· < ·)→(∀ i ∈ x,m≤i∧i<n)→x.length+m≤n∨x=[]:=fun x=>by
  induction x with
  | nil=>exact fun _ _ _=> .inr rfl
  | cons a x ih=>
    intro m hp hi
    have h1:=List.pairwise_cons.1 hp
    have ha:=hi a List.mem_cons_self
    rcases ih (a+1) h1.2 (fun i hm=>⟨h1.1 i hm,(hi i (List.mem_cons_of_mem _ hm)).2⟩) with h2 | h2
    ·simp; omega
    ·subst h2; simp; omega
 rcases this x 0 h.1 (fun i hi=>⟨Nat.zero_le _,h.2 i hi⟩) with h1 | h1
 ·omega
 ·subst h1; simp
theorem rising_add {F:List Nat→Nat→Bool} {n:Nat} {x:List Nat} {i:Nat} (h:Rising n x) (hi:i<n) (hF:riseB F x i=true):Rising n (x ++ [i]):=by
 simp only [riseB,Bool.and_eq_true,Bool.or_eq_true,decide_eq_true_eq] at hF
 refine ⟨List.pairwise_append.2 ⟨h.1,List.pairwise_singleton _ _,fun a ha b hb => ?_⟩,fun j hj => ?_⟩
 ·rw [List.mem_singleton.1 hb]
  have hlen:0<x.length:=List.length_pos_of_mem ha
  have hlast:=hF.1.resolve_left (by omega)
  obtain ⟨k,hk,rfl⟩:=List.getElem_of_mem ha
  have e:x.getD (x.length-1) 0=x[x.length-1]:=by rw [List.getD_eq_getElem?_getD,List.getElem?_eq_getElem (by omega:x.length-1<x.length)]; rfl
  rw [e] at hlast
  by_cases c:k=x.length-1
  ·subst c; exact hlast
  ·have:=List.pairwise_iff_getElem.1 h.1 k (x.length-1) hk (by omega) (by omega)
   omega
 ·rcases List.mem_append.1 hj with hj | hj
  ·exact h.2 j hj
  ·rw [List.mem_singleton.1 hj]; exact hi
def listsL (F:List Nat→Nat→Bool) (n:Nat):List (List Nat):=growL (riseB F) n n []
theorem lists_gives (ff:Nat) (ffirst flb:Array Value) (F:List Nat→Nat→Bool) (n:Nat) (K:Nat→Prop) (bn:Nat) (w:World) (B0:Nat) (hB0:B0≤w.heap.size)
 (hn:n≤1048576) (ef : ∀ args w,(callFunc ff args).run Try.prog w = .ok (.enter ff args) w)
 (hF:RowIs w bn #[.func (.func ff) ffirst flb] 59) (hN:RowIs w (bn+1) #[.int .i64 n] 3) (hR:RowIs w (bn+1+1) #[.func (.func 111) #[] #[.pointer (some ⟨bn,0,none⟩)]] 59) (hK:K bn∧K (bn+1)∧K (bn+1+1))
 (hfit : ∀ A x p cap i,(∀ k,K k→A.heap[k]? = w.heap[k]?)→w.heap.size≤A.heap.size→Lst A x p cap→Rising n x→i<n→((x.length=0)∨x.getD (x.length-1) 0<i)→Calls Try.prog ff (ffirst ++ #[.slice p x.length cap, .int .i64 (i:Nat)] ++ flb) A fun e w'=>e = .returned (.bool (F x i))∧Below A.heap.size A w') :
 GivesA Try.prog 113 #[] #[.pointer (some ⟨bn+1,0,none⟩), .pointer (some ⟨bn+1+1,0,none⟩)] K (listsL F n) (LstV B0) w:=
 grown_gives 111 #[] #[.pointer (some ⟨bn,0,none⟩)] (riseB F) n n (Rising n) K (bn+1) w B0 hB0 hn hn (enters_of Try.func111 (by kernel_rfl) rfl) hN hR ⟨hK.2.1,hK.2.2⟩ ⟨List.Pairwise.nil,fun _ h=>absurd h List.not_mem_nil⟩
  (fun b i hb hi hF=>by
    have h1:=rising_add hb hi hF
    have h2:=rising_len h1
    simp at h2
    exact ⟨h1,by omega⟩)
  (fun A x p cap i hkeep hz hL hx hi=>by
    have hFA:RowIs A bn #[.func (.func ff) ffirst flb] 59:=(hkeep bn hK.1).trans hF
    have:=rise_c ff ffirst flb F bn p cap x i A ef hL (by have:=rising_len hx; omega) hFA (fun h=>hfit A x p cap i hkeep hz hL hx hi h)
    simpa using this)
end Go.Proofs.Ytkbbhihndigmeaa

namespace Go.Proofs.Ytkbbhihndigmeaa
open Go Go.RowKit Go.Shelf
theorem oneI:(Try.prog.info? 3).map (·.size)=some 1:=by kernel_rfl
theorem four_cases (x:List Nat) (h:x.length≤4):x=[]∨(∃ a,x=[a])∨(∃ a b,x=[a,b])∨(∃ a b c,x=[a,b,c]) ∨ ∃ a b c d,x=[a,b,c,d]:=by
 match x,h with
 | [],_=>exact .inl rfl
 | [a],_=>exact .inr (.inl ⟨a,rfl⟩)
 | [a,b],_=>exact .inr (.inr (.inl ⟨a,b,rfl⟩))
 | [a,b,c],_=>exact .inr (.inr (.inr (.inl ⟨a,b,c,rfl⟩)))
 | [a,b,c,d],_=>exact .inr (.inr (.inr (.inr ⟨a,b,c,d,rfl⟩)))
theorem rows_splice (k:Nat) (x:List Nat) (h:x.length≤4):splice (chRow k [] []).toList 1 ((List.range x.length).map fun i=>Value.int .i64 ((x.getD i 0:Nat):Int))=(chRow k x []).toList:=by
 rcases four_cases x h with rfl | ⟨a,rfl⟩ | ⟨a,b,rfl⟩ | ⟨a,b,c,rfl⟩ | ⟨a,b,c,d,rfl⟩ <;> simp [splice,natI,List.range_succ]
theorem cols_splice (k:Nat) (R x:List Nat) (h:x.length≤4):splice (chRow k R []).toList 5 ((List.range x.length).map fun i=>Value.int .i64 ((x.getD i 0:Nat):Int))=(chRow k R x).toList:=by
 rcases four_cases x h with rfl | ⟨a,rfl⟩ | ⟨a,b,rfl⟩ | ⟨a,b,c,rfl⟩ | ⟨a,b,c,d,rfl⟩ <;> simp [splice,natI,List.range_succ]
theorem copy_ch (w:World) (g at_:Nat) (p:Option Addr) (cap:Nat) (x:List Nat) (xs ys:Array Value) (t:TypeId) (hx:Lst w x p cap) (hl:x.length≤4) (hg:RowIs w g xs t)
 (hs:splice xs.toList at_ ((List.range x.length).map fun i=>Value.int .i64 ((x.getD i 0:Nat):Int))=ys.toList) (h9:xs.size=9) (ha:at_+4≤9) :
 ∃ w',(Builtin.copy_ #[42,42] 3 #[.slice (some ⟨g,at_,none⟩) 4 4, .slice p x.length cap]).run Try.prog w = .ok (.int .i64 x.length) w'∧RowIs w' g ys t∧Below g w w':=by
 have hmin:Nat.min x.length 4=x.length:=by show min x.length 4=x.length; omega
 obtain ⟨xl,rfl⟩ : ∃ xl:List Value,xs=xl.toArray:=⟨xs.toList,by simp⟩
 by_cases h0:x.length=0
 ·rw [h0] at hs ⊢
  refine ⟨w,run_copy_none (P:=Try.prog) w _ _ _ _ _ _ _ _ _ _ Try.underlying42 oneI (by simp),?_,Below.refl _ _⟩
  have:ys=xl.toArray:=by
   have:ys.toList=xl:=by rw [← hs]; simp [splice]
   rw [← this]
  rw [this]
  exact hg
 ·obtain ⟨bb,off,rfl,hbs,hc⟩:=Cells.at hx.cells 0 (by omega)
  have:=run_copy_row (P:=Try.prog) w 42 42 3 3 g at_ 4 4 ⟨bb,off,none⟩ x.length cap xl.toArray t ((List.range x.length).map fun i=>Value.int .i64 ((x.getD i 0:Nat):Int)) Try.underlying42 oneI hg (by simp [hmin])
   (fun j v hv=>by
     simp only [List.getElem?_map,Option.map_eq_some_iff] at hv
     obtain ⟨i,hi,rfl⟩:=hv
     have hj:j<x.length:=by
      have:=(List.getElem?_eq_some_iff.1 hi).1
      simpa using this
     have hij:i=j:=by
      rw [List.getElem?_range hj] at hi
      exact (Option.some.inj hi).symm
     subst hij
     have:=hc i hj
     unfold Addr.add
     split
     ·simp_all
     ·exact this)
   (by simp at h9 ⊢; omega) (by simp [Value.oneCell'])
  have e:(xl.toArray.toList.take at_ ++ ((List.range x.length).map fun i=>Value.int .i64 ((x.getD i 0:Nat):Int)) ++ xl.toArray.toList.drop (at_+((List.range x.length).map fun i=>Value.int .i64 ((x.getD i 0:Nat):Int)).length)).toArray=ys:=by
   rw [List.append_assoc]
   show (splice xl.toArray.toList at_ _).toArray=ys
   rw [hs]
  rw [e] at this
  refine ⟨_,this.trans ?_,setRow_heap w g xl.toArray ys t (0,0) hg,below_setRow (Below.refl _ _) (Nat.le_refl _) _⟩
  rw [show ((List.range x.length).map fun i=>Value.int .i64 ((x.getD i 0:Nat):Int)).length=x.length by simp]
  rfl
end Go.Proofs.Ytkbbhihndigmeaa

/- Contracts of layer 3: all choices (the program). -/
import Derived.RangeFuncBound
import Derived.Shelf.Abstract
import Derived.Shelf.RegionOpen
import Derived.OwnWalkIn
import Derived.TacticsInMore
import Derived.LoopNIn
import Derived.LoopIn
import Derived.Scope
import Derived.Test.YtkbbhihndigmeaaProg
import Derived.Test.YtkbbhihndigmeaaBasaa
import Derived.Test.YtkbbhihndigmeaaBasak
import Derived.Test.YtkbbhihndigmeaaBasag
import Derived.Test.YtkbbhihndigmeaaBasai
import Derived.WalkKit
import Derived.Deep.CutRange
import Derived.Deep.Quiet
import Derived.Test.YtkbbhihndigmeaaBasaj
import Derived.Test.YtkbbhihndigmeaaBasah
namespace Go.Proofs.Ytkbbhihndigmeaa
open Go Go.RowKit Go.Shelf
attribute [local go_sem] Oper.semAt_some
def allT (_:List Nat) (_:Nat):Bool:=true
def choG (n:Nat) (R:List Nat):List (List Nat × List Nat):=((listsL allT n).filter fun G=>decide (G.length=R.length)).map fun G=>(R,G)
def choL (m n:Nat):List (List Nat × List Nat):=(listsL allT m).flatMap (choG n)
def choA (m n i:Nat):List (List Nat × List Nat):=((listsL allT m).take i).flatMap (choG n)
def choB (n:Nat) (R:List Nat) (j:Nat):List (List Nat × List Nat):=(((listsL allT n).take j).filter fun G=>decide (G.length=R.length)).map fun G=>(R,G)
theorem choA_more {m n i:Nat} (hi:i<(listsL allT m).length):choA m n (i+1)=choA m n i ++ choG n (listsL allT m)[i]:=by
 unfold choA
 rw [List.take_succ_eq_append_getElem hi,List.flatMap_append]
 simp
theorem choB_all (n:Nat) (R:List Nat):choB n R (listsL allT n).length=choG n R:=by unfold choB choG; rw [List.take_length]
theorem choB_no {n j:Nat} {R:List Nat} (hj:j<(listsL allT n).length) (h:(listsL allT n)[j].length ≠ R.length):choB n R (j+1)=choB n R j:=by
 unfold choB
 rw [List.take_succ_eq_append_getElem hj,List.filter_append]
 simp [h]
theorem choB_yes {n j:Nat} {R:List Nat} (hj:j<(listsL allT n).length) (h:(listsL allT n)[j].length=R.length):choB n R (j+1)=choB n R j ++ [(R,(listsL allT n)[j])]:=by
 unfold choB
 rw [List.take_succ_eq_append_getElem hj,List.filter_append]
 simp [h]
theorem choA_all (m n:Nat):choA m n (listsL allT m).length=choL m n:=by unfold choA choL; rw [List.take_length]
theorem cho_at {m n i j:Nat} (hi:i<(listsL allT m).length) (hj:j<(listsL allT n).length) (h:(listsL allT n)[j].length=(listsL allT m)[i].length) :
 ∃ hk:(choA m n i).length+(choB n (listsL allT m)[i] j).length<(choL m n).length,(choL m n)[(choA m n i).length+(choB n (listsL allT m)[i] j).length]=((listsL allT m)[i],(listsL allT n)[j]):=by
 have hp:choA m n i ++ choB n (listsL allT m)[i] j ++ [((listsL allT m)[i],(listsL allT n)[j])] <+: choL m n:=by
  rw [List.append_assoc, ← choB_yes hj h]
  have h1:choB n (listsL allT m)[i] (j+1) <+: choG n (listsL allT m)[i]:=by
   rw [← choB_all]
   unfold choB
   rw [List.take_length]
   exact ((List.take_prefix _ _).filter _).map _
  have h2:choA m n (i+1) <+: choL m n:=by
   unfold choA choL
   obtain ⟨t,ht⟩:=List.take_prefix (i+1) (listsL allT m)
   exact ⟨t.flatMap (choG n),by rw [← List.flatMap_append,ht]⟩
  rw [choA_more hi] at h2
  obtain ⟨t,ht⟩:=h1
  have h3:choA m n i ++ choB n (listsL allT m)[i] (j+1) <+: choA m n i ++ choG n (listsL allT m)[i]:=⟨t,by rw [List.append_assoc,ht]⟩
  exact List.IsPrefix.trans h3 h2
 obtain ⟨t,ht⟩:=hp
 have hl:(choA m n i).length+(choB n (listsL allT m)[i] j).length=(choA m n i ++ choB n (listsL allT m)[i] j).length:=by simp
 have hk:(choA m n i).length+(choB n (listsL allT m)[i] j).length<(choL m n).length:=by rw [← ht]; simp
 refine ⟨hk,?_⟩
 have e:(choL m n)[(choA m n i).length+(choB n (listsL allT m)[i] j).length]? = some ((listsL allT m)[i],(listsL allT n)[j]):=by
  rw [← ht,List.append_assoc,hl,List.getElem?_append_right (Nat.le_refl _)]
  simp
 rw [List.getElem?_eq_getElem hk] at e
 exact Option.some.inj e
theorem roundIn_inRound3 {F:Fence} {m:Nat} {P:Program} {l:Nat} {f:FuncId} {tmps:Array Value} {assign body:Code} {w:World} {R:Ending→World→Prop} (l':Nat) (h:RoundIn F m P l f tmps assign body w R):RoundIn (F.inRound l') m P l f tmps assign body w R:=h
theorem cho_at2 {m n i j:Nat} {R G:List Nat} (hi:i<(listsL allT m).length) (hj:j<(listsL allT n).length) (eR:(listsL allT m)[i]=R) (eG:(listsL allT n)[j]=G) (h:G.length=R.length) :
 ∃ hk:(choA m n i).length+(choB n R j).length<(choL m n).length,(choL m n)[(choA m n i).length+(choB n R j).length]=(R,G):=by
 subst eR eG
 exact cho_at hi hj h
theorem growL_good {F:List Nat→Nat→Bool} {n:Nat} {Good:List Nat→Prop} (hstep : ∀ b i,Good b→i<n→F b i=true→Good (b ++ [i])) : ∀ (r:Nat) (b:List Nat),Good b → ∀ x,x ∈ growL F n r b→Good x
 | 0,b,hb,x,hx=>by rw [growL,List.mem_singleton] at hx; rw [hx]; exact hb
 | r+1,b,hb,x,hx=>by
   rw [growL,List.mem_cons,List.mem_flatMap] at hx
   rcases hx with rfl | ⟨i,hi,hx⟩
   ·exact hb
   ·rw [List.mem_range] at hi
    by_cases hF:F b i=true
    ·rw [if_pos hF] at hx
     exact growL_good hstep r _ (hstep b i hb hi hF) x hx
    ·rw [if_neg hF] at hx
     cases hx
theorem lists_rising {F:List Nat→Nat→Bool} {n:Nat} {x:List Nat} (h:x ∈ listsL F n):Rising n x:=
 growL_good (Good:=Rising n) (fun _ _ hb hi hF=>rising_add hb hi hF) n [] ⟨List.Pairwise.nil,fun _ h=>absurd h List.not_mem_nil⟩ x h
theorem anyIndex_c (v u:Value) (w:World):Calls Try.prog 104 #[v,u] w fun e w'=>e = .returned (.bool true)∧Below w.heap.size w w':=by
 go_enter Try.func104,Try.ntmps104
 go_wp2_with fail
 go_ret
 exact ⟨rfl,Below.refl _ _⟩
theorem Spares.still {r:Nat} {K:Nat→Prop} {D:Nat} {C:World} (hr:C.heap.size≤r):Still r fun A=>Spares K D C A:=
 ⟨fun A B h hb=>⟨Nat.le_trans h.size hb.size,fun k hk hK=>(hb.block k (Nat.lt_of_lt_of_le hk h.size)).trans (h.block k hk hK)⟩,
  fun A o o' _ h=>⟨by simpa using h.size,fun k hk hK=>(World.putObj_heap_other (by omega)).trans (h.block k hk hK)⟩⟩
def KB (b k:Nat):Prop:=k=b∨k=b+1∨k=b+1+1
theorem lists_any (n b:Nat) (w:World) (B0:Nat) (hB0:B0≤w.heap.size) (hn:n≤4) (hF:RowIs w b #[.func (.func 104) #[] #[]] 59) (hN:RowIs w (b+1) #[.int .i64 n] 3) (hR:RowIs w (b+1+1) #[.func (.func 111) #[] #[.pointer (some ⟨b,0,none⟩)]] 59) :
 GivesA Try.prog 113 #[] #[.pointer (some ⟨b+1,0,none⟩), .pointer (some ⟨b+1+1,0,none⟩)] (KB b) (listsL allT n) (LstV B0) w:=
 lists_gives 104 #[] #[] allT n (KB b) b w B0 hB0 (by omega) (enters_of Try.func104 (by kernel_rfl) rfl) hF hN hR ⟨.inl rfl, .inr (.inl rfl), .inr (.inr rfl)⟩ fun A x p cap i _ _ _ _ _ _=>anyIndex_c _ _ A
def KT (a:Option Addr) (k:Nat):Prop:= ∃ off,a=some ⟨k,off,none⟩
theorem LstV.still (r B0:Nat) (x:List Nat) (vs:Array Value):Still r fun A=>LstV B0 A x vs:=Still.ex fun p=>Still.ex fun cap=>(Still.pure (vs = #[.slice p x.length cap])).and ((Lst.still x p cap).and (Still.pure (∀ b off,p=some ⟨b,off,none⟩→B0≤b)))
theorem width2_c (hb off m n cap:Nat) (fa:Option Addr) (fc:Nat) (w:World) (h:w.cell? ⟨hb,off,none⟩=some (.slice fa n fc)) (hm:0<m) :
 Calls Try.prog 82 #[tabV (some ⟨hb,off,none⟩) m cap] w fun e w'=>e = .returned (.int .i64 n)∧Below w.heap.size w w':=by
 have h1:(0:Int)<(m:Int):=by omega
 have hz:hb<w.heap.size:=by
  refine Nat.lt_of_not_le fun h2 => ?_
  simp [World.cell?,Array.getElem?_eq_none h2] at h
 go_enter Try.func82,Try.ntmps82
 go_wp2
 go_ret
 exact ⟨rfl,Below.alloc1 (Below.refl _ _) _ (Nat.le_refl _)⟩
set_option maxRecDepth 100000 in
set_option maxHeartbeats 16000000 in
theorem choices_gives (a:Option Addr) (m n cap:Nat) (f:Nat→Row3) (w:World) (hf:Tab w a m f) (hO:Okay m n f) :
 Gives Try.prog 97 #[tabV a m cap] #[] (KT a) ((choL m n).map fun c => #[chV c.1.length c.1 c.2]) w:=by
 intro l J Jx W hW hz hJ hJx hY h0
 have hm0:0<m:=hO.m1
 obtain ⟨hb,off,rfl,hbs,hc⟩:=Tab.at hf 0 hm0
 have hhd:hb<W.heap.size∧W.cell? ⟨hb,off,none⟩=some (.slice (f 0).a n (f 0).cap):=by
  have h1:=hc 0 hm0
  rw [Nat.add_zero,hO.len 0 hm0] at h1
  exact ⟨Nat.lt_of_lt_of_le hbs hz,(World.cell?_of_block (a:=⟨hb,off,none⟩) (hW hb ⟨off,rfl⟩).2).trans h1⟩
 clear hc hf hW
 refine (callsIn_wide (n:=1)).1 ?_
 show CallsIn Fence.wide 1 Try.prog 97 #[tabV (some ⟨hb,off,none⟩) m cap, .func (.yield l) #[] #[]] W _
 refine callsIn_of_wp_marks Try.func97 rfl trivial ?_ rfl
 simp only [Try.ntmps97,List.size_toArray,List.length_cons,List.length_nil,Nat.reduceAdd,Nat.reduceSub,Array.replicate_succ,Array.replicate_zero,List.push_toArray,List.append_toArray,List.nil_append,List.cons_append]
 gi_wp2_with (first
  | (refine ⟨trivial,?_⟩; gi_at_call 103; refine (callsIn_wide.2 (lists_c m 104 #[] #[] _)).mono ?_; rintro e w1 ⟨rfl,hw1⟩)
  | fail)
 obtain ⟨D,hD⟩ : ∃ D,W.heap.size=D:=⟨_,rfl⟩
 obtain ⟨U,hU⟩ : ∃ U,(W.alloc (.cells #[.slice (some ⟨hb,off,none⟩) m cap] 73)).alloc (.cells #[.func (.yield l) #[] #[]] 126)=U:=⟨_,rfl⟩
 have hUb:Below D W U:=by rw [← hD, ← hU]; exact Below.alloc1 (Below.alloc1 (Below.refl _ _) _ (Nat.le_refl _)) _ (Nat.le_refl _)
 have hU1:RowIs U D #[.slice (some ⟨hb,off,none⟩) m cap] 73:=by rw [← hU, ← hD]; exact RowIs.alloc (heap_new_at _ _ _ rfl) _
 have hU2:RowIs U (D+1) #[.func (.yield l) #[] #[]] 126:=by rw [← hU, ← hD]; exact heap_new_at _ _ _ (by simp)
 have hUz:U.heap.size=D+1+1:=by rw [← hU, ← hD]; simp
 simp only [World.size_alloc,hD] at hw1 ⊢
 rw [hU] at hw1
 have hw1b:Below U.heap.size U w1:=by rw [← hw1]; exact Below.alloc1 (Below.alloc1 (Below.alloc1 (Below.refl _ _) _ (Nat.le_refl _)) _ (Nat.le_refl _)) _ (Nat.le_refl _)
 have hk1:RowIs w1 (D+1+1) #[.func (.func 104) #[] #[]] 59:=by rw [← hw1]; exact RowIs.alloc (RowIs.alloc (heap_new_at _ _ _ hUz) _) _
 have hk2:RowIs w1 (D+1+1+1) #[.int .i64 m] 3:=by rw [← hw1]; exact RowIs.alloc (heap_new_at _ _ _ (by simp [hUz])) _
 have hk3:RowIs w1 (D+1+1+1+1) #[.func (.func 111) #[] #[.pointer (some ⟨D+1+1,0,none⟩)]] 59:=by rw [← hw1]; exact heap_new_at _ _ _ (by simp [hUz])
 have hWw1:Below D W w1:=hUb.trans (hw1b.mono (by omega))
 have hLi:=lists_any m (D+1+1) w1 D (by have:=hWw1.size; omega) hO.m4 hk1 hk2 hk3
 rw [hD] at hhd hJ hJx hY
 have h01:J 0 w1:=hJ 0 W w1 h0 hWw1
 have hfac:RowIs w1 D #[.slice (some ⟨hb,off,none⟩) m cap] 73∧RowIs w1 (D+1) #[.func (.yield l) #[] #[]] 126∧hb<D∧w1.cell? ⟨hb,off,none⟩=some (.slice (f 0).a n (f 0).cap):=⟨hU1.below hw1b,hU2.below hw1b,hhd.1,(hWw1.cell (p:=⟨hb,off,none⟩) hhd.1).trans hhd.2⟩
 have hz1:D+5=w1.heap.size:=by rw [← hw1]; simp [hUz]
 have HJ:=Lib.hid hJ
 have HJx:=Lib.hid hJx
 have HY:=Lib.hid hY
 have HO:=Lib.hid hO
 have HLi:=Lib.hid hLi
 have Hfac:=Lib.hid hfac
 have H01:=Lib.hid h01
 have hm4:=hO.m4
 have hn4:=hO.n4
 clear hJ hJx hY hhd hUb hU1 hU2 hUz hU hw1 hw1b hk1 hk2 hk3 hWw1 hLi h01 hfac hO h0 hz hbs hD
 refine wpIn_rangeAH (gf:=113) (first := #[]) (lb := #[.pointer (some ⟨D+1+1+1,0,none⟩), .pointer (some ⟨D+1+1+1+1,0,none⟩)]) rfl (enters_of Try.func113 (by kernel_rfl) rfl) HLi.out (fun k hk=>by rcases hk with h | h | h <;> omega) (fun A x vs hx=>by obtain ⟨p,c,rfl,_⟩:=hx; rfl) (fun x vs=>LstV.still _ _ x vs)
  (fun k A=>J (choA m n k).length A∧D≤A.heap.size∧RowIs A D #[.slice (some ⟨hb,off,none⟩) m cap] 73∧RowIs A (D+1) #[.func (.yield l) #[] #[]] 126∧A.cell? ⟨hb,off,none⟩=some (.slice (f 0).a n (f 0).cap))
  (fun c k A=>c = .ret∧(∃ k,Jx k A)∧D≤A.heap.size)
  ?hI ?hIx ⟨by simpa [choA] using H01.out,by omega,Hfac.out.1,Hfac.out.2.1,Hfac.out.2.2.2⟩
  (fun k vs a' A=> ∃ Bx p c,w1.heap.size+2≤Bx∧vs = #[.slice p ((listsL allT m).getD k []).length c]∧(Lst A ((listsL allT m).getD k []) p c ∧ ∀ b off,p=some ⟨b,off,none⟩→D≤b)∧RowIs A Bx #[.slice p ((listsL allT m).getD k []).length c] 42 ∧
    a' = { tmps := #[tabV (some ⟨hb,off,none⟩) m cap, .func (.yield l) #[] #[], .pointer (some ⟨D,0,none⟩), .pointer (some ⟨D+1,0,none⟩), .pointer (some ⟨Bx,0,none⟩),undef,undef, .pointer (some ⟨D,0,none⟩), .pointer (some ⟨D,0,none⟩), .slice (some ⟨hb,off,none⟩) m cap, .int .i64 m, .func (.func 113) #[] #[.pointer (some ⟨D+1+1+1,0,none⟩), .pointer (some ⟨D+1+1+1+1,0,none⟩)], .slice p ((listsL allT m).getD k []).length c,undef,undef,undef,undef,undef,undef,undef,undef,undef,undef,undef,undef,undef,undef,undef,undef,undef,undef,undef,undef,undef,undef,undef,undef],defers:=[] })
  ?hAx ?assign ?body ?done ?stop
 case hI=>
  exact fun k=>⟨fun A B ⟨h1,h2,h3,h4,h5⟩ hAB=>⟨HJ.out _ A B h1 (hAB.mono h2),Nat.le_trans h2 hAB.size,h3.below hAB,h4.below hAB,(hAB.cell (p:=⟨hb,off,none⟩) (by show hb<A.heap.size; have:=Hfac.out.2.2.1; omega)).trans h5⟩,
   fun A o o' _ ⟨h1,h2,h3,h4,h5⟩=>⟨HJ.out _ A _ h1 (below_put _ (by omega)),by simpa using h2,(World.putObj_heap_other (by omega)).trans h3,(World.putObj_heap_other (by omega)).trans h4,(World.cell?_of_block (a:=⟨hb,off,none⟩) (World.putObj_heap_other (by show hb ≠ w1.heap.size+1; have:=Hfac.out.2.2.1; omega))).trans h5⟩⟩
 case hIx=>
  exact fun c k=>⟨fun A B ⟨h1,⟨q,h2⟩,h3⟩ hAB=>⟨h1,⟨q,HJx.out _ A B h2 (hAB.mono h3)⟩,Nat.le_trans h3 hAB.size⟩,fun A o o' _ ⟨h1,⟨q,h2⟩,h3⟩=>⟨h1,⟨q,HJx.out _ A _ h2 (below_put _ (by omega))⟩,by simpa using h3⟩⟩
 case hAx=>
  exact fun k vs a'=>Still.ex fun Bx=>Still.ex fun p=>Still.ex fun c=>(Still.pure _).and ((Still.pure _).and (((Lst.still _ _ _).and (Still.pure _)).and ((Still.row _ _ _ _).and (Still.pure _))))
 case assign=>
  intro lx k hk A vs T hA hI hvs hT
  obtain ⟨p,c,rfl,hL⟩:=hvs
  have e:(listsL allT m)[k]=(listsL allT m).getD k []:=by rw [List.getD_eq_getElem?_getD,List.getElem?_eq_getElem hk]; rfl
  rw [e] at hL ⊢
  obtain ⟨R,hR⟩ : ∃ R,(listsL allT m).getD k []=R:=⟨_,rfl⟩
  rw [hR] at hL hT ⊢
  gi_wp2
  exact hT _ _ (Below.alloc1 (Below.refl _ _) _ (Nat.le_refl _)) ⟨A.heap.size,p,c,hA,by rw [e,hR],⟨hL.1.below (Below.alloc1 (Below.refl _ _) _ (Nat.le_refl _)),hL.2⟩,heap_new_at _ _ _ rfl,rfl⟩
 case body=>
  rintro lx k hk vs a' A hlx ⟨r0,hr0⟩ hA ⟨i1,i2,i3,i4,i5⟩ hvs ⟨Bx,p,c,hBx,rfl,hL,hx,rfl⟩
  have ek:(listsL allT m)[k]=(listsL allT m).getD k []:=by rw [List.getD_eq_getElem?_getD,List.getElem?_eq_getElem hk]; rfl
  obtain ⟨R,hR⟩ : ∃ R,(listsL allT m).getD k []=R:=⟨_,rfl⟩
  rw [hR] at ek hL hx ⊢
  have hRm:R.length≤4:=by
   have:=rising_len (lists_rising (ek ▸ List.getElem_mem hk:R ∈ listsL allT m))
   omega
  have d0:A.cell? ⟨D,0,none⟩=some (.slice (some ⟨hb,off,none⟩) m cap):=RowIs.cell i3 0
  have dz:=i3.lt
  have HWd:=Lib.hid (width2_c hb off m n cap _ _ A i5 hm0)
  have HI1:=Lib.hid i1
  have HI3:=Lib.hid i3
  have HI4:=Lib.hid i4
  have HI5:=Lib.hid i5
  have HR0:=Lib.hid hr0
  have HL:=Lib.hid hL
  have HX:=Lib.hid hx
  have Hek:=Lib.hid ek
  clear i1 i3 i4 i5 hr0 hvs hL hx ek
  gi_wp2_with (first
   | (refine ⟨trivial,?_⟩; gi_at_call 82; refine (CallsIn.inRound lx (callsIn_wide.2 HWd.out)).mono ?_; rintro e A2 ⟨rfl,hA2⟩)
   | (refine ⟨trivial,?_⟩; gi_at_call 103; refine (CallsIn.inRound lx (callsIn_wide.2 (lists_c n 104 #[] #[] _))).mono ?_; rintro e A3 ⟨rfl,hA3⟩)
   | fail)
  obtain ⟨E,hE⟩ : ∃ E,A2.heap.size=E:=⟨_,rfl⟩
  rw [hE] at hA3 ⊢
  have hA3b:Below A2.heap.size A2 A3:=by rw [← hA3]; exact Below.alloc1 (Below.alloc1 (Below.alloc1 (Below.refl _ _) _ (Nat.le_refl _)) _ (Nat.le_refl _)) _ (Nat.le_refl _)
  have hk1:RowIs A3 E #[.func (.func 104) #[] #[]] 59:=by rw [← hA3]; exact RowIs.alloc (RowIs.alloc (heap_new_at _ _ _ hE) _) _
  have hk2:RowIs A3 (E+1) #[.int .i64 n] 3:=by rw [← hA3]; exact RowIs.alloc (heap_new_at _ _ _ (by simp [hE])) _
  have hk3:RowIs A3 (E+1+1) #[.func (.func 111) #[] #[.pointer (some ⟨E,0,none⟩)]] 59:=by rw [← hA3]; exact heap_new_at _ _ _ (by simp [hE])
  have hAA:Below A.heap.size A A3:=hA2.trans (hA3b.mono hA2.size)
  have hAz:A.heap.size≤A3.heap.size:=hAA.size
  have hEz:E+3=A3.heap.size:=by rw [← hA3]; simp [hE]
  have HLj:=Lib.hid (lists_any n E A3 D (by omega) hn4 hk1 hk2 hk3)
  have hj3:J (choA m n k).length A3:=HJ.out _ _ _ HI1.out (hAA.mono i2)
  have hs3:Spares (KT (some ⟨hb,off,none⟩)) D A A3:=Spares.of_below hAA
  have HA3:=Lib.hid hA3
  have HJ3:=Lib.hid hj3
  have HS3:=Lib.hid hs3
  have HR3 : ∃ r:Loop,A3.heap[lx]? = some (.loop r):=⟨r0,(hAA.block lx (by omega)).trans HR0.out⟩
  obtain ⟨r3,hr3⟩:=HR3
  have HlD:=Lib.hid Hfac.out.2.2.1
  have hDE:D≤E:=by have:=hA2.size; omega
  clear hA3 hA3b hk1 hk2 hk3 hj3 hs3 hA2 hE HLi H01
  refine wpIn_rangeAN (gf:=113) (first := #[]) (lb := #[.pointer (some ⟨E+1,0,none⟩), .pointer (some ⟨E+1+1,0,none⟩)]) hr3 rfl (enters_of Try.func113 (by kernel_rfl) rfl) HLj.out (fun q hq=>by rcases hq with h | h | h <;> omega) (fun A x vs hx=>by obtain ⟨p,c,rfl,_⟩:=hx; rfl) (fun x vs=>LstV.still _ _ x vs)
   (fun j B=>J ((choA m n k).length+(choB n R j).length) B∧Spares (KT (some ⟨hb,off,none⟩)) D A B)
   (fun c j B=>c = .ret∧(∃ q,Jx q B)∧Spares (KT (some ⟨hb,off,none⟩)) D A B)
   ?hI2 ?hIx2 ⟨by simpa [choB] using HJ3.out,HS3.out⟩
   (fun j vs a' B=> ∃ p2 c2,vs = #[.slice p2 ((listsL allT n).getD j []).length c2]∧Lst B ((listsL allT n).getD j []) p2 c2 ∧
     a' = { tmps := #[tabV (some ⟨hb,off,none⟩) m cap, .func (.yield l) #[] #[], .pointer (some ⟨D,0,none⟩), .pointer (some ⟨D+1,0,none⟩), .pointer (some ⟨Bx,0,none⟩), .slice p2 ((listsL allT n).getD j []).length c2,undef, .pointer (some ⟨D,0,none⟩), .pointer (some ⟨D,0,none⟩), .slice (some ⟨hb,off,none⟩) m cap, .int .i64 m, .func (.func 113) #[] #[.pointer (some ⟨D+1+1+1,0,none⟩), .pointer (some ⟨D+1+1+1+1,0,none⟩)], .slice p R.length c,tabV (some ⟨hb,off,none⟩) m cap, .int .i64 n, .func (.func 113) #[] #[.pointer (some ⟨E+1,0,none⟩), .pointer (some ⟨E+1+1,0,none⟩)], .slice p2 ((listsL allT n).getD j []).length c2,undef,undef,undef,undef,undef,undef,undef,undef,undef,undef,undef,undef,undef,undef,undef,undef,undef,undef,undef,undef],defers:=[] })
   ?hAx2 ?assign2 ?body2 ?done2 ?stop2
  case hI2=>
   exact fun j=>⟨fun B C ⟨h1,h2⟩ hBC=>⟨HJ.out _ B C h1 (hBC.mono (Nat.le_trans i2 h2.size)),h2.trans (Spares.of_below hBC)⟩,
    fun B o o' _ ⟨h1,h2⟩=>⟨HJ.out _ B _ h1 (below_put _ (by omega)),(Spares.still hAz).put _ _ _ (by assumption) h2⟩⟩
  case hIx2=>
   exact fun c j=>⟨fun B C ⟨h1,⟨q,h2⟩,h3⟩ hBC=>⟨h1,⟨q,HJx.out _ B C h2 (hBC.mono (Nat.le_trans i2 h3.size))⟩,h3.trans (Spares.of_below hBC)⟩,
    fun B o o' _ ⟨h1,⟨q,h2⟩,h3⟩=>⟨h1,⟨q,HJx.out _ B _ h2 (below_put _ (by omega))⟩,(Spares.still hAz).put _ _ _ (by assumption) h3⟩⟩
  case hAx2=>
   exact fun k vs a'=>Still.ex fun p=>Still.ex fun c=>(Still.pure _).and ((Lst.still _ _ _).and (Still.pure _))
  case assign2=>
   intro ly j hj B vs T hB hI hvs hT
   obtain ⟨p2,c2,rfl,hL2,_⟩:=hvs
   have e:(listsL allT n)[j]=(listsL allT n).getD j []:=by rw [List.getD_eq_getElem?_getD,List.getElem?_eq_getElem hj]; rfl
   rw [e] at hL2 ⊢
   obtain ⟨G,hG⟩ : ∃ G,(listsL allT n).getD j []=G:=⟨_,rfl⟩
   rw [hG] at hL2 hT ⊢
   gi_wp2
   exact hT _ _ (Below.refl _ _) ⟨p2,c2,by rw [e,hG],hL2,rfl⟩
  case body2=>
   rintro ly j hj vs a' B hB ⟨hJB,hSB⟩ hvs ⟨p2,c2,rfl,hL2,rfl⟩
   clear hvs
   have ej:(listsL allT n)[j]=(listsL allT n).getD j []:=by rw [List.getD_eq_getElem?_getD,List.getElem?_eq_getElem hj]; rfl
   obtain ⟨G,hG⟩ : ∃ G,(listsL allT n).getD j []=G:=⟨_,rfl⟩
   rw [hG] at ej hL2 ⊢
   have hGn:G.length≤4:=by
    have:=rising_len (lists_rising (ej ▸ List.getElem_mem hj:G ∈ listsL allT n))
    omega
   have hx:RowIs B Bx #[.slice p R.length c] 42:=(hSB.block Bx HX.out.lt (.inr (by omega))).trans HX.out
   have hL:Lst B R p c:=HL.out.1.block hSB.size fun bb off e hlt=>hSB.block bb hlt (.inr (HL.out.2 bb off e))
   have h4:RowIs B (D+1) #[.func (.yield l) #[] #[]] 126:=(hSB.block _ HI4.out.lt (.inr (by omega))).trans HI4.out
   have hDB:D≤B.heap.size:=Nat.le_trans i2 hSB.size
   have c4:B.cell? ⟨Bx,0,none⟩=some (.slice p R.length c):=hx.cell 0
   have hBxz:=hx.lt
   by_cases hlen:G.length=R.length
   ·have t0:((G.length:Int)==(R.length:Int))=true:=by rw [hlen]; exact beq_self_eq_true _
    obtain ⟨V,hV⟩ : ∃ V,B.alloc (.cells (chRow R.length [] []) 112)=V:=⟨_,rfl⟩
    have hVb:Below B.heap.size B V:=by rw [← hV]; exact Below.alloc1 (Below.refl _ _) _ (Nat.le_refl _)
    have hVr:RowIs V B.heap.size (chRow R.length [] []) 112:=by rw [← hV]; exact heap_new_at _ _ _ rfl
    obtain ⟨Z,hZ⟩ : ∃ Z,B.heap.size=Z:=⟨_,rfl⟩
    rw [hZ] at hVr hVb hDB hBxz
    have hVz:V.heap.size=Z+1:=by rw [← hV, ← hZ]; simp
    have v4:V.cell? ⟨Bx,0,none⟩=some (.slice p R.length c):=(hVb.cell (p:=⟨Bx,0,none⟩) (by show Bx<Z; omega)).trans c4
    have hlc : ∀ x:Later V,x.w.cell? ⟨Bx,0,none⟩=some (.slice p R.length c):=fun x=>(x.h.cell (p:=⟨Bx,0,none⟩) (by show Bx<V.heap.size; omega)).trans v4
    have HJB:=Lib.hid hJB
    have HSB:=Lib.hid hSB
    have Hej:=Lib.hid ej
    have Hlen:=Lib.hid hlen
    have HVb:=Lib.hid hVb
    have HVr:=Lib.hid hVr
    have HLB:=Lib.hid hL
    have HL2:=Lib.hid hL2
    have H4:=Lib.hid h4
    have Hc4:=Lib.hid c4
    have Hx:=Lib.hid hx
    have HZ:=Lib.hid hZ
    clear hJB hSB ej hlen hVb hVr hL hL2 h4 hx v4
    gi_wp2_with fail
    rw [show B.alloc (.cells #[.int .i64 (R.length:Int), .int .i64 0, .int .i64 0, .int .i64 0, .int .i64 0, .int .i64 0, .int .i64 0, .int .i64 0, .int .i64 0] 112)=V from hV]
    clear hV c4 hZ
    refine wpIn_region_later_tailR 3 (by kernel_rfl) (by kernel_rfl) (by kernel_rfl) (by rintro ⟨_,_,h⟩; exact h) ?_
    simp only [List.take_succ_cons,List.take_zero,List.drop_succ_cons,List.drop_zero]
    repeat (go_big_quiet_step (fail))
    refine wpQuiet_nil ?_
    clear hlc
    rintro ⟨X0,hb0⟩
    dsimp only
    have hVX0:Below Z V X0:=hb0.mono (by omega)
    have hBX0:Below Z B X0:=HVb.out.trans hVX0
    have hBX0':Below B.heap.size B X0:=by rw [HZ.out]; exact hBX0
    obtain ⟨X1,hc1,hX1,hb1⟩:=copy_ch X0 Z 1 p c R _ (chRow R.length R []) _ (HLB.out.below hBX0') hRm (HVr.out.below hb0) (rows_splice _ R hRm) rfl (by omega)
    have hBX:Below Z B X1:=hBX0.trans hb1
    have hBX':Below B.heap.size B X1:=by rw [HZ.out]; exact hBX
    obtain ⟨X2,hc2,hX2,hb2⟩:=copy_ch X1 Z 5 p2 c2 G _ (chRow R.length R G) _ (HL2.out.below hBX') hGn hX1 (cols_splice _ R G hGn) rfl (by omega)
    have hB2:Below Z B X2:=hBX.trans hb2
    have hB2':Below B.heap.size B X2:=by rw [HZ.out]; exact hB2
    have x3:X2.cell? ⟨D+1,0,none⟩=some (.func (.yield l) #[] #[]):=((H4.out.below hB2'):RowIs X2 (D+1) _ _).cell 0
    have y0:=hX2.cell 0
    have y1:=hX2.cell 1
    have y2:=hX2.cell 2
    have y3:=hX2.cell 3
    have y4:=hX2.cell 4
    have y5:=hX2.cell 5
    have y6:=hX2.cell 6
    have y7:=hX2.cell 7
    have y8:=hX2.cell 8
    simp at y0 y1 y2 y3 y4 y5 y6 y7 y8
    have xz:=hX2.lt
    obtain ⟨hkk,hat⟩:=cho_at2 hk hj Hek.out Hej.out Hlen.out
    have hJX:=HJ.out _ _ _ HJB.out (hB2.mono hDB)
    have hyy:=HY.out ((choA m n k).length+(choB n R j).length) (by rw [List.length_map]; exact hkk) X2 (Nat.le_trans hDB (by have:=hB2'.size; omega)) hJX
    rw [List.getElem_map,hat] at hyy
    obtain ⟨fn,tmps,assign,body,hy,hR⟩:=hyy
    replace hR:=roundIn_inRound3 ly hR
    try dsimp only at hy
    have HR:=Lib.hid hR
    have HB2:=Lib.hid hB2'
    clear hR hB2 hB2' hX1 hX2 hb0 hb1 hb2 hBX hBX' hBX0 hBX0' hVX0 hJX hat
    go_wp2_with fail
    gi_wp2_with fail
    refine HR.out.mono ?_
    rintro e X3 (⟨rfl,hJ3,hS3⟩ | ⟨rfl,hJx3,hS3⟩)
    ·gi_wp2_with fail
     exact ⟨(Spares.of_below HB2.out).trans (hS3.mono (fun q hq=> .inr (by rcases hq with h | h | h <;> omega)) (by omega)),by rw [choB_yes hj (by rw [Hej.out]; exact Hlen.out),List.length_append]; exact hJ3,(HSB.out.trans (Spares.of_below HB2.out)).trans hS3⟩
    ·gi_wp2_with fail
     exact ⟨(Spares.of_below HB2.out).trans (hS3.mono (fun q hq=> .inr (by rcases hq with h | h | h <;> omega)) (by omega)),rfl,⟨_,hJx3⟩,(HSB.out.trans (Spares.of_below HB2.out)).trans hS3⟩
   ·have t0:((G.length:Int)==(R.length:Int))=false:=beq_false_of_ne (by omega)
    have HJB:=Lib.hid hJB
    have HSB:=Lib.hid hSB
    have Hej:=Lib.hid ej
    have Hlen:=Lib.hid hlen
    clear hJB hSB ej hlen hL hL2 h4 hx
    gi_wp2_with fail
    exact ⟨Spares.refl _ _ _,by rw [choB_no hj (by rw [Hej.out]; exact Hlen.out)]; exact HJB.out,HSB.out⟩
  case done2=>
   intro B hB ⟨hJB,hSB⟩
   exact ⟨hSB.mono (fun q hq=> .inr (by rcases hq with h | h | h <;> omega)) (by omega),by rw [choA_more hk, ← choB_all,Hek.out,List.length_append]; exact hJB,by have:=hSB.size; omega,(hSB.block _ (by omega) (.inr (by omega))).trans HI3.out,(hSB.block _ (by have:=HI4.out.lt; omega) (.inr (by omega))).trans HI4.out,(World.cell?_of_block (a:=⟨hb,off,none⟩) (hSB.block hb (by have:=HlD.out; omega) (.inl ⟨off,rfl⟩))).trans HI5.out⟩
  case stop2=>
   rintro c j B hB ⟨rfl,hq,hSB⟩
   gi_wp2
   exact ⟨hSB.mono (fun q hq=> .inr (by rcases hq with h | h | h <;> omega)) (by omega),rfl,hq,by have:=hSB.size; omega⟩
 case done=>
  rintro B hBz ⟨hJB,hKB,_⟩ hK
  gi_wp2
  refine ⟨by simp, .inl ⟨_,_,rfl,run_takeDeferred hK,?_⟩⟩
  refine ⟨_,results_none rfl _ _ _,⟨_,rfl⟩, .inl ?_⟩
  have hJL:=HJ.out _ _ _ hJB (below_put (D:=D) (r:=w1.heap.size) (.deferred none) (by omega))
  simpa [choA_all] using hJL
 case stop=>
  rintro cd k B hBz ⟨rfl,⟨k',hJx'⟩,hDB⟩ hK
  gi_wp2
  refine ⟨by simp, .inl ⟨_,_,rfl,run_takeDeferred hK,?_⟩⟩
  exact ⟨_,results_none rfl _ _ _,⟨_,rfl⟩, .inr ⟨k',HJx.out _ _ _ hJx' (below_put (D:=D) (r:=w1.heap.size) (.deferred none) (by omega))⟩⟩
end Go.Proofs.Ytkbbhihndigmeaa

namespace Go.Proofs.Ytkbbhihndigmeaa
open Go Go.RowKit Go.Shelf
structure Few (m:Nat) (p:Nat→Int):Prop where
 part : ∀ i,i<m→0≤p i∧p i≤24000000
 some_:sumI p m ≠ 0
theorem Few.in8 {m:Nat} {p:Nat→Int} (h:Few m p) : ∀ i,i<m→0≤p i∧p i≤100000000:=fun i hi=>by
 have:=h.part i hi
 omega
theorem Few.pos {m:Nat} {p:Nat→Int} (h:Few m p):0<sumI p m:=sum_pos h.in8 h.some_
theorem few_sum {m:Nat} {p:Nat→Int} (h : ∀ i,i<m→0≤p i∧p i≤24000000) : ∀ k,k≤m→sumI p k≤24000000*(k:Int)
 | 0,_=>by simp [sumI]
 | k+1,hk=>by
   have h1:=few_sum h k (by omega)
   have h2:=h k (by omega)
   rw [sumI]
   omega
theorem few_dot {p g:Nat→Int} {m:Nat} (hp : ∀ i,i<m→0≤p i∧p i≤24000000) (hg : ∀ i,i<m → -100≤g i∧g i≤100) : ∀ k,k≤m → -2400000000*(k:Int)≤dotN p g k∧dotN p g k≤2400000000*(k:Int)
 | 0,_=>by simp [dotN]
 | k+1,hk=>by
   have h1:=few_dot hp hg k (by omega)
   have h2 : -2400000000≤p k*g k∧p k*g k≤2400000000:=by
    have a:=hp k (by omega)
    have b:=hg k (by omega)
    have l1:=Int.mul_le_mul_of_nonneg_left b.1 a.1
    have l2:=Int.mul_le_mul_of_nonneg_left b.2 a.1
    omega
   rw [dotN]
   omega
theorem few_sure {f:Nat→Row3} {m n:Nat} {p:Nat→Int} (hO:Okay m n f) (h:Few m p):(-9600000000≤sureN f m n p∧sureN f m n p≤9600000000)∧sumI p m≤96000000:=by
 have h4:=hO.m4
 refine ⟨leastF_bd hO.n1 fun j hj => ?_,?_⟩
 ·have h1:=few_dot (g:=fun i=>lossA f i j) h.part (fun i hi=>hO.num i hi j hj) m (Nat.le_refl _)
  unfold ag
  omega
 ·have:=few_sum h.part m (Nat.le_refl _)
  omega
theorem ratD_le (n:Int) {d:Int} (hd:0<d):ratD n d≤d:=by
 obtain ⟨g,hg,_,h,_⟩:=rat_parts n hd
 have hp:=ratD_pos n hd
 have:=Int.mul_le_mul_of_nonneg_left (show (1:Int)≤g by omega) (Int.le_of_lt hp)
 omega
theorem rat_mul_bd {n d n' d':Int} (hn : -9600000000≤n∧n≤9600000000) (hd':0<d') (hd:d'≤96000000) : -921600000000000000≤ratN n d*ratD n' d'∧ratN n d*ratD n' d'≤921600000000000000:=by
 have h1 : -9600000000≤ratN n d∧ratN n d≤9600000000:=tdiv_bd hn
 have h2:=ratD_le n' hd'
 have h3:=ratD_pos n' hd'
 have l1:=Int.mul_le_mul_of_nonneg_right h1.1 (Int.le_of_lt h3)
 have l2:=Int.mul_le_mul_of_nonneg_right h1.2 (Int.le_of_lt h3)
 omega
set_option maxHeartbeats 400000 in
theorem below_c (a b c d:Int) (w:World) (ha : -1152921504606846976≤a*d) (ha':a*d≤1152921504606846976) (hc : -1152921504606846976≤c*b) (hc':c*b≤1152921504606846976) :
 Calls Try.prog 107 #[.agg #[.int .i64 a, .int .i64 b], .agg #[.int .i64 c, .int .i64 d]] w fun e w'=>e = .returned (.bool (ltB a b c d))∧Below w.heap.size w w':=by
 have hw1:wrap64 (a*d)=a*d:=IntWalk.wrap64_in _ ⟨by omega,by omega⟩
 have hw2:wrap64 (c*b)=c*b:=IntWalk.wrap64_in _ ⟨by omega,by omega⟩
 go_enter Try.func107,Try.ntmps107
 go_wp2
 go_ret
 exact ⟨rfl,((Below.refl _ _).alloc (Nat.le_refl _) _).alloc (by simp) _⟩
def surerB (f:Nat→Row3) (m n:Nat) (p q:Nat→Int):Bool:=decide (sureN f m n q*sumI p m<sureN f m n p*sumI q m)
set_option maxHeartbeats 1000000 in
theorem surer_c (a:Option Addr) (m n cap:Nat) (f:Nat→Row3) (p q:Nat→Int) (w:World) (hf:Tab w a m f) (hO:Okay m n f) (hp:Few m p) (hq:Few m q) :
 Calls Try.prog 99 #[tabV a m cap,planV p,planV q] w fun e w'=>e = .returned (.bool (surerB f m n p q))∧Below w.heap.size w w':=by
 obtain ⟨W,hW⟩ : ∃ W,((w.alloc (.cells #[.slice a m cap] 73)).alloc (.cells #[.int .i64 (p 0), .int .i64 (p 1), .int .i64 (p 2), .int .i64 (p 3)] 77)).alloc (.cells #[.int .i64 (q 0), .int .i64 (q 1), .int .i64 (q 2), .int .i64 (q 3)] 77)=W:=⟨_,rfl⟩
 have hB:Below w.heap.size w W:=by rw [← hW]; exact Below.alloc1 (Below.alloc1 (Below.alloc1 (Below.refl _ _) _ (Nat.le_refl _)) _ (Nat.le_refl _)) _ (Nat.le_refl _)
 have hD:RowIs W w.heap.size #[.slice a m cap] 73:=by rw [← hW]; exact RowIs.alloc (RowIs.alloc (heap_new_at _ _ _ rfl) _) _
 have hP:RowIs W (w.heap.size+1) (planRow p) 77:=by rw [← hW]; exact RowIs.alloc (heap_new_at _ _ _ (by simp)) _
 have hQ:RowIs W (w.heap.size+1+1) (planRow q) 77:=by rw [← hW]; exact heap_new_at _ _ _ (by simp)
 have d0:W.cell? ⟨w.heap.size,0,none⟩=some (.slice a m cap):=hD.cell 0
 have dz:=hD.lt
 obtain ⟨⟨p0,p1,p2,p3⟩,pz⟩:=row4 hP
 obtain ⟨⟨q0,q1,q2,q3⟩,qz⟩:=row4 hQ
 have H1:=Lib.hid (fun x:Later W=>sure_c a m n cap f q x.w ((hf.below hB).below x.h) hO hq.in8 hq.some_)
 have H2:=Lib.hid (fun x:Later W=>sure_c a m n cap f p x.w ((hf.below hB).below x.h) hO hp.in8 hp.some_)
 have bp:=few_sure hO hp
 have bq:=few_sure hO hq
 have b1:=rat_mul_bd (d:=sumI q m) (n':=sureN f m n p) bq.1 hp.pos bp.2
 have b2:=rat_mul_bd (d:=sumI p m) (n':=sureN f m n q) bp.1 hq.pos bq.2
 have hbe:=ltB_rat (n:=sureN f m n q) (n':=sureN f m n p) hq.pos hp.pos
 have H3:=Lib.hid (fun x:Later W=>below_c (ratN (sureN f m n q) (sumI q m)) (ratD (sureN f m n q) (sumI q m)) (ratN (sureN f m n p) (sumI p m)) (ratD (sureN f m n p) (sumI p m)) x.w (by omega) (by omega) (by omega) (by omega))
 rw [hbe] at H3
 have hsb:surerB f m n p q=decide (sureN f m n q*sumI p m<sureN f m n p*sumI q m):=rfl
 rw [← hsb] at H3
 clear hsb
 have HB:=Lib.hid hB
 have hlc:=fun (x:Later W)=>later_cell x
 clear hf hO hp hq hB hD hP hQ bp bq b1 b2 hbe
 go_enter Try.func99,Try.ntmps99
 go_wp2_with fail
 refine wp_region_later (by kernel_rfl) (by kernel_rfl) ?_
 repeat (go_big_quiet_step ((first | (with_reducible refine calls_later (H1.out _)) | (with_reducible refine calls_later (H2.out _)) | (with_reducible refine calls_later (H3.out _)))))
 refine wpQuiet_nil ?_
 rintro ⟨w1,hb1⟩
 clear hlc
 go_wp2_with fail
 go_ret
 exact ⟨rfl,HB.out.trans (hb1.mono HB.out.size)⟩
end Go.Proofs.Ytkbbhihndigmeaa

namespace Go.Proofs.Ytkbbhihndigmeaa
open Go Go.RowKit Go.Shelf
theorem cho_mem {m n:Nat} {c:List Nat × List Nat} : c ∈ choL m n↔c.1 ∈ listsL allT m∧c.2 ∈ listsL allT n∧c.2.length=c.1.length:=by
 unfold choL choG
 simp only [List.mem_flatMap,List.mem_map,List.mem_filter,decide_eq_true_eq]
 constructor
 ·rintro ⟨R,hR,G,⟨hG,hl⟩,rfl⟩
  exact ⟨hR,hG,hl⟩
 ·rintro ⟨h1,h2,h3⟩
  exact ⟨c.1,h1,c.2,⟨h2,h3⟩,rfl⟩
theorem cho_facts {m n:Nat} {c:List Nat × List Nat} (hm:m≤4) (h:c ∈ choL m n):(∀ i ∈ c.1,i<m)∧(∀ i ∈ c.2,i<n)∧c.2.length=c.1.length∧c.1.length≤4:=by
 obtain ⟨h1,h2,h3⟩:=cho_mem.1 h
 have r1:=lists_rising h1
 have r2:=lists_rising h2
 have:=rising_len r1
 exact ⟨r1.2,r2.2,h3,by omega⟩
theorem natI_inj {x y:List Nat} (hl:x.length=y.length) (h4:x.length≤4) (h0:natI x 0=natI y 0) (h1:natI x 1=natI y 1) (h2:natI x 2=natI y 2) (h3:natI x 3=natI y 3):x=y:=by
 apply List.ext_getElem hl
 intro i hi hi'
 have e:natI x i=natI y i:=by
  have:i=0∨i=1∨i=2∨i=3:=by omega
  rcases this with rfl | rfl | rfl | rfl <;> assumption
 unfold natI at e
 rw [List.getD_eq_getElem?_getD,List.getD_eq_getElem?_getD,List.getElem?_eq_getElem hi,List.getElem?_eq_getElem hi'] at e
 have e2:((x[i]:Nat):Int)=((y[i]:Nat):Int):=by simpa using e
 omega
theorem k9_inj {m n:Nat} {c d:List Nat × List Nat} (hm:m≤4) (hc:c ∈ choL m n) (hd:d ∈ choL m n) (h:k9 c=k9 d):c=d:=by
 obtain ⟨_,_,c3,c4⟩:=cho_facts hm hc
 obtain ⟨_,_,d3,d4⟩:=cho_facts hm hd
 unfold k9 at h
 injection h with h0 h1 h2 h3 h4 h5 h6 h7 h8
 have hl:c.1.length=d.1.length:=by omega
 exact Prod.ext (natI_inj hl c4 h1 h2 h3 h4) (natI_inj (by omega) (by omega) h5 h6 h7 h8)
theorem natI_ok {n:Nat} {x:List Nat} (hx : ∀ i ∈ x,i<n) (hm:n≤4) (i:Nat):InC (natI x i):=by
 have:x.getD i 0≤4:=by
  rw [List.getD_eq_getElem?_getD]
  by_cases h:i<x.length
  ·rw [List.getElem?_eq_getElem h]
   have:=hx _ (List.getElem_mem h)
   simp; omega
  ·rw [List.getElem?_eq_none (by omega)]; simp
 unfold natI InC
 omega
theorem k9_ok {m n:Nat} {c:List Nat × List Nat} (hm:m≤4) (hn:n≤4) (h:c ∈ choL m n):(k9 c).ok:=by
 obtain ⟨h1,h2,_,h4⟩:=cho_facts hm h
 have a:=natI_ok h1 hm
 have b:=natI_ok h2 hn
 exact ⟨by unfold InC k9; dsimp only; omega,a 0,a 1,a 2,a 3,b 0,b 1,b 2,b 3⟩
theorem putR_out {R:List Nat} {y:Nat→Int} {i:Nat} (hi:i ∉ R) : ∀ k,k≤R.length→putR R y k i=0
 | 0,_=>rfl
 | k+1,hk=>by
   have hm:R.getD k 0 ∈ R:=getD_mem hk
   rw [putR,if_neg (fun e=>hi (by rw [e]; exact hm)),putR_out hi k (by omega)]
theorem planQ_out {f:Nat→Row3} {m:Nat} {R G:List Nat} (hR : ∀ i ∈ R,i<m) {i:Nat} (hi:m≤i):planQ f R G i=0:=by
 unfold planQ quoP rawP
 rw [putR_out (fun h=>by have:=hR i h; omega) _ (Nat.le_refl _)]
 simp
theorem few_found {f:Nat→Row3} {m n:Nat} {c:List Nat × List Nat} (hO:Okay m n f) (hc:c ∈ choL m n) (h:foundB f c.1 c.2=true):Few m (planQ f c.1 c.2):=by
 obtain ⟨h1,h2,h3,h4⟩:=cho_facts hO.m4 hc
 simp only [foundB,Bool.and_eq_true,decide_eq_true_eq,Bool.not_eq_true'] at h
 have hp : ∀ i,i<m→0≤planQ f c.1 c.2 i∧planQ f c.1 c.2 i≤24000000:=fun i hi=>by
  have a:=leastF_le (planQ f c.1 c.2) 4 i (by have:=hO.m4; omega)
  have b:=planQ_bd hO h1 h2 h3 h4 i
  have:leastP (planQ f c.1 c.2)=leastF (planQ f c.1 c.2) 4:=rfl
  omega
 refine ⟨hp,fun hs => ?_⟩
 have hz:=sumI_zero (fun i hi=>(hp i hi).1) hs
 have hall : ∀ i,planQ f c.1 c.2 i=0:=fun i=>by
  by_cases hi:i<m
  ·exact hz i hi
  ·exact planQ_out h1 (by omega)
 have:zeroB4 (planQ f c.1 c.2)=true:=by simp [zeroB4,hall]
 rw [this] at h
 exact absurd h.2 (by decide)
def Fnd (f:Nat→Row3) (m n:Nat) (p:K9):Prop:= ∃ c ∈ choL m n,foundB f c.1 c.2=true∧k9 c=p
open Classical in
noncomputable def valP (f:Nat→Row3) (m n:Nat) (p:K9):Nat→Int:=if h:Fnd f m n p then planQ f (Classical.choose h).1 (Classical.choose h).2 else fun i=>if i=0 then 1 else 0
theorem valP_k9 {f:Nat→Row3} {m n:Nat} {c:List Nat × List Nat} (hm:m≤4) (hc:c ∈ choL m n) (h:foundB f c.1 c.2=true):valP f m n (k9 c)=planQ f c.1 c.2:=by
 have hF:Fnd f m n (k9 c):=⟨c,hc,h,rfl⟩
 unfold valP
 rw [dif_pos hF]
 obtain ⟨h1,_,h3⟩:=Classical.choose_spec hF
 rw [k9_inj hm h1 hc h3]
theorem unit_few {m:Nat} (hm:1≤m):Few m fun i=>if i=0 then 1 else 0:=by
 refine ⟨fun i _=>by split <;> omega,?_⟩
 have : ∀ k,1≤k→sumI (fun i=>if i=0 then 1 else 0) k=1:=fun k hk=>by
  induction k with
  | zero=>omega
  | succ k ih=>
    rw [sumI]
    by_cases h:k=0
    ·subst h; rfl
    ·rw [ih (by omega),if_neg h]; rfl
 rw [this m hm]
 decide
theorem valP_few {f:Nat→Row3} {m n:Nat} (hO:Okay m n f) (p:K9):Few m (valP f m n p):=by
 unfold valP
 split
 ·rename_i h
  obtain ⟨h1,h2,_⟩:=Classical.choose_spec h
  exact few_found hO h1 h2
 ·exact unit_few hO.m1
theorem fold_max {α : Type} {lt : α → α → Bool} (htr : ∀ x y z,lt z x=true→lt x y=true→lt z y=true) (hir : ∀ x,lt x x=false) :
 ∀ (L seen:List α) (o:Option α),(o=none→seen=[])→(∀ x,o=some x→x ∈ seen ∧ ∀ y ∈ seen,lt y x=false) →
   (L.foldl (bestStep lt) o=none→seen ++ L=[]) ∧ ∀ x,L.foldl (bestStep lt) o=some x→x ∈ seen ++ L ∧ ∀ y ∈ seen ++ L,lt y x=false
 | [],seen,o,h1,h2=>by simpa using ⟨h1,h2⟩
 | a :: L,seen,o,h1,h2=>by
   have:=fold_max htr hir L (seen ++ [a]) (bestStep lt o a) (fun e=>by
    cases o with
    | none=>simp [bestStep] at e
    | some y=>simp only [bestStep] at e; split at e <;> cases e) (fun x e=>by
    cases o with
    | none=>
      simp only [bestStep,Option.some.injEq] at e
      subst e
      rw [h1 rfl]
      exact ⟨by simp,fun y hy=>by simp at hy; rw [hy]; exact hir _⟩
    | some y=>
      obtain ⟨g1,g2⟩:=h2 y rfl
      simp only [bestStep] at e
      split at e
      ·rename_i hlt
       obtain rfl:=Option.some.inj e
       refine ⟨by simp,fun z hz => ?_⟩
       rcases List.mem_append.1 hz with hz | hz
       ·cases hzx:lt z a with
        | false=>rfl
        | true=>have:=htr _ _ _ hzx hlt; rw [g2 z hz] at this; cases this
       ·simp at hz; rw [hz]; exact hir _
      ·rename_i hlt
       obtain rfl:=Option.some.inj e
       refine ⟨List.mem_append.2 (.inl g1),fun z hz => ?_⟩
       rcases List.mem_append.1 hz with hz | hz
       ·exact g2 z hz
       ·simp at hz; rw [hz]; simpa using hlt)
   simpa using this
theorem bestS_max {α : Type} {lt : α → α → Bool} (htr : ∀ x y z,lt z x=true→lt x y=true→lt z y=true) (hir : ∀ x,lt x x=false) (L:List α) :
 (bestS lt L=none→L=[]) ∧ ∀ x,bestS lt L=some x→x ∈ L ∧ ∀ y ∈ L,lt y x=false:=by
 have:=fold_max htr hir L [] none (fun _=>rfl) (fun x e=>by cases e)
 simpa [bestS] using this
theorem frac_trans {a b c x y z:Int} (ha:0<x) (hb:0<y) (hc:0<z) (h1:a*z<c*x) (h2:b*x<a*y):b*z<c*y:=by
 have l1:=Int.mul_lt_mul_of_pos_right h1 hb
 have l2:=Int.mul_lt_mul_of_pos_right h2 hc
 have e1:a*z*y=a*y*z:=by ac_rfl
 have e2:b*x*z=b*z*x:=by ac_rfl
 have e3:c*x*y=c*y*x:=by ac_rfl
 rw [e1,e3] at l1
 rw [e2] at l2
 exact Int.lt_of_mul_lt_mul_right (Int.lt_trans l2 l1) (Int.le_of_lt ha)
theorem surer_trans {f:Nat→Row3} {m n:Nat} {p q r:Nat→Int} (hp:Few m p) (hq:Few m q) (hr:Few m r) (h1:surerB f m n r p=true) (h2:surerB f m n p q=true):surerB f m n r q=true:=by
 simp only [surerB,decide_eq_true_eq] at h1 h2 ⊢
 exact frac_trans hp.pos hq.pos hr.pos h1 h2
theorem surer_irr (f:Nat→Row3) (m n:Nat) (p:Nat→Int):surerB f m n p p=false:=by simp [surerB]
def Bst (f:Nat→Row3) (m n:Nat) (p:K9):Prop:=Fnd f m n p ∧ ∀ q,Fnd f m n q→surerB f m n (valP f m n q) (valP f m n p)=false
theorem kept_best {f:Nat→Row3} {m n:Nat} (hO:Okay m n f) {L:List K9} {s:K9} (hL : ∀ p,p ∈ L↔Fnd f m n p) (h:bestS (fun x y=>surerB f m n (valP f m n x) (valP f m n y)) L=some s):Bst f m n s:=by
 have:=(bestS_max (lt:=fun x y=>surerB f m n (valP f m n x) (valP f m n y)) (fun x y z h1 h2=>surer_trans (valP_few hO x) (valP_few hO y) (valP_few hO z) h1 h2) (fun x=>surer_irr _ _ _ _) L).2 s h
 exact ⟨(hL s).1 this.1,fun q hq=>this.2 q ((hL q).2 hq)⟩
theorem rat_cross {n d n' d':Int} (hd:0<d) (hd':0<d'):(ratN n d=ratN n' d'∧ratD n d=ratD n' d')↔n*d'=n'*d:=by
 constructor
 ·rintro ⟨h1,h2⟩
  obtain ⟨g,_,e1,e2,_⟩:=rat_parts n hd
  obtain ⟨g',_,e1',e2',_⟩:=rat_parts n' hd'
  rw [h1] at e1
  rw [h2] at e2
  obtain ⟨x,hx⟩ : ∃ x,ratN n' d'=x:=⟨_,rfl⟩
  obtain ⟨y,hy⟩ : ∃ y,ratD n' d'=y:=⟨_,rfl⟩
  rw [hx] at e1 e1'
  rw [hy] at e2 e2'
  rw [e1,e2,e1',e2']
  ac_rfl
 ·exact rat_same hd hd'
theorem best_same {f:Nat→Row3} {m n:Nat} {p s:K9} (hO:Okay m n f) (hs:Bst f m n s) (hp:Fnd f m n p) :
 (ratN (sureN f m n (valP f m n p)) (sumI (valP f m n p) m)=ratN (sureN f m n (valP f m n s)) (sumI (valP f m n s) m)∧ratD (sureN f m n (valP f m n p)) (sumI (valP f m n p) m)=ratD (sureN f m n (valP f m n s)) (sumI (valP f m n s) m))↔Bst f m n p:=by
 have fp:=valP_few hO p
 have fs:=valP_few hO s
 rw [rat_cross fp.pos fs.pos]
 have h1:=hs.2 p hp
 simp only [surerB,decide_eq_false_iff_not,Int.not_lt] at h1
 constructor
 ·intro e
  refine ⟨hp,fun q hq => ?_⟩
  have fq:=valP_few hO q
  cases hc:surerB f m n (valP f m n q) (valP f m n p) with
  | false=>rfl
  | true=>
    exfalso
    have h2:=hs.2 q hq
    simp only [surerB,decide_eq_true_eq] at hc
    simp only [surerB,decide_eq_false_iff_not,Int.not_lt] at h2
    have l1:=Int.mul_lt_mul_of_pos_right hc fs.pos
    have l2:=Int.mul_le_mul_of_nonneg_right h2 (Int.le_of_lt fp.pos)
    obtain ⟨a,ha⟩ : ∃ a,sureN f m n (valP f m n p)=a:=⟨_,rfl⟩
    obtain ⟨b,hb⟩ : ∃ a,sureN f m n (valP f m n q)=a:=⟨_,rfl⟩
    obtain ⟨c,hc'⟩ : ∃ a,sureN f m n (valP f m n s)=a:=⟨_,rfl⟩
    obtain ⟨x,hx⟩ : ∃ a,sumI (valP f m n p) m=a:=⟨_,rfl⟩
    obtain ⟨y,hy⟩ : ∃ a,sumI (valP f m n q) m=a:=⟨_,rfl⟩
    obtain ⟨z,hz⟩ : ∃ a,sumI (valP f m n s) m=a:=⟨_,rfl⟩
    rw [ha,hb,hx,hy,hz] at l1
    rw [hb,hc',hx,hy,hz] at l2
    rw [ha,hc',hx,hz] at e
    have e1:a*y*z=a*z*y:=by ac_rfl
    have e2:c*y*x=c*x*y:=by ac_rfl
    have e3:b*x*z=b*z*x:=by ac_rfl
    rw [e1,e,e3] at l1
    rw [e2] at l2
    omega
 ·rintro ⟨_,h2⟩
  have:=h2 s hs.1
  simp only [surerB,decide_eq_false_iff_not,Int.not_lt] at this
  omega
end Go.Proofs.Ytkbbhihndigmeaa

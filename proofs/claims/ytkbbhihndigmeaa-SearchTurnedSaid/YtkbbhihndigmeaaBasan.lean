/- Contracts of layer 3: the greatest of plans; a best plan. -/
import Derived.Shelf.Abstract
import Derived.Shelf.RegionOpen
import Derived.WalkKit
import Derived.Deep.CutRange
import Derived.Deep.Quiet
import Derived.LoopN
import Derived.Test.YtkbbhihndigmeaaProg
import Derived.Test.YtkbbhihndigmeaaBasaa
import Derived.Test.YtkbbhihndigmeaaBasag
import Derived.Test.YtkbbhihndigmeaaBasam
import Derived.Test.YtkbbhihndigmeaaBasad
import Derived.Maps.RangeWalk
import Derived.Laws.IdiomRangeMap
import Derived.Test.YtkbbhihndigmeaaBasaf
namespace Go.Proofs.Ytkbbhihndigmeaa
open Go Go.RowKit Go.Shelf
def cmpI (x y:Int):Int:=if x<y then -1 else if y<x then 1 else 0
def lexI (p q:Nat→Int) (i:Nat):Nat→Int
 | 0=>0
 | r+1=>if cmpI (p i) (q i)=0 then lexI p q (i+1) r else cmpI (p i) (q i)
theorem isNaN_c (x:Int) (w:World):Calls Try.prog 108 #[.int .i64 x] w fun e w'=>e = .returned (.bool false)∧w=w':=by
 go_enter Try.func108,Try.ntmps108
 go_wp2_with fail
 go_ret
 exact ⟨by simp,rfl⟩
set_option maxHeartbeats 1000000 in
theorem cmp_c (x y:Int) (w:World):Calls Try.prog 100 #[.int .i64 x, .int .i64 y] w fun e w'=>e = .returned (.int .i64 (cmpI x y))∧w=w':=by
 obtain ⟨r,hr⟩ : ∃ r,cmpI x y=r:=⟨_,rfl⟩
 rw [hr]
 by_cases h1:x<y
 ·have t1:decide (x<y)=true:=decide_eq_true h1
  have hr2:r = -1:=by rw [← hr,cmpI,if_pos h1]
  subst hr2
  clear hr
  go_enter Try.func100,Try.ntmps100
  go_wp2_with (go_at_call 108; refine (isNaN_c _ _).mono ?_; rintro e w1 ⟨rfl,rfl⟩)
  go_ret
  exact ⟨rfl,rfl⟩
 ·have t1:decide (x<y)=false:=decide_eq_false h1
  by_cases h2:y<x
  ·have t2:decide (x > y)=true:=decide_eq_true h2
   have t3:decide (y<x)=true:=decide_eq_true h2
   have hr2:r=1:=by rw [← hr,cmpI,if_neg h1,if_pos h2]
   subst hr2
   clear hr
   go_enter Try.func100,Try.ntmps100
   go_wp2_with (go_at_call 108; refine (isNaN_c _ _).mono ?_; rintro e w1 ⟨rfl,rfl⟩)
   go_ret
   exact ⟨rfl,rfl⟩
  ·have t3:decide (y<x)=false:=decide_eq_false h2
   have hr2:r=0:=by rw [← hr,cmpI,if_neg h1,if_neg h2]
   subst hr2
   clear hr
   go_enter Try.func100,Try.ntmps100
   go_wp2_with (go_at_call 108; refine (isNaN_c _ _).mono ?_; rintro e w1 ⟨rfl,rfl⟩)
   go_ret
   exact ⟨rfl,rfl⟩
theorem planRow_get (p:Nat→Int) (k:Nat) (hk:k<4):(planRow p)[k]? = some (.int .i64 (p k)):=by
 match k,hk with
 | 0,_=>rfl
 | 1,_=>rfl
 | 2,_=>rfl
 | 3,_=>rfl
set_option maxHeartbeats 1000000 in
theorem compare_c (b1 b2:Nat) (p q:Nat→Int) (T1 T2:TypeId) (w:World) (h1:RowIs w b1 (planRow p) T1) (h2:RowIs w b2 (planRow q) T2) :
 Calls Try.prog 90 #[.slice (some ⟨b1,0,none⟩) 4 4, .slice (some ⟨b2,0,none⟩) 4 4] w fun e w'=>e = .returned (.int .i64 (lexI p q 0 4))∧w=w':=by
 have H1:=Lib.hid h1
 have H2:=Lib.hid h2
 clear h1 h2
 go_enter Try.func90,Try.ntmps90
 go_wp2_with fail
 go_loopw [11] (fun i wr=> ∃ k:Nat,k≤4∧i = .int .i64 k∧lexI p q 0 4=lexI p q k (4-k)∧w=wr) (fun i _=>4-(intOf i).toNat)
 case atStart=>exact ⟨0,Nat.zero_le _,rfl,rfl,by simp⟩
 case round=>
  obtain ⟨k,hk,rfl,hl,rfl⟩:=hrel
  by_cases hlt:k<4
  ·have c1:w.cell? ⟨b1,k,none⟩=some (.int .i64 (p k)):=(H1.out.cell k).trans (planRow_get p k hlt)
   have c2:w.cell? ⟨b2,k,none⟩=some (.int .i64 (q k)):=(H2.out.cell k).trans (planRow_get q k hlt)
   have z1:=H1.out.lt
   have z2:=H2.out.lt
   have t1:(k:Int)<4:=by omega
   have t2:decide ((k:Int)<4)=true:=decide_eq_true (by omega)
   have t3:decide ((4:Int)≤(k:Int))=false:=decide_eq_false (by omega)
   have hs:lexI p q k (4-k)=if cmpI (p k) (q k)=0 then lexI p q (k+1) (4-(k+1)) else cmpI (p k) (q k):=by
    rw [show 4-k=(4-(k+1))+1 by omega,lexI]
   have HL:=Lib.hid (hl.trans hs)
   clear hl hs
   by_cases h0:cmpI (p k) (q k)=0
   ·have HC:=cmp_c (p k) (q k)
    rw [h0] at HC
    have HC2:=Lib.hid HC
    have H0:=Lib.hid h0
    clear HC h0
    go_wp2_with (first | (go_at_call 100; refine (HC2.out _).mono ?_; rintro e w1 ⟨rfl,rfl⟩) | fail)
    go_roundw
    case rel=>exact ⟨k+1,by omega,by go_num,by rw [HL.out,if_pos H0.out],by simp⟩
    case measure=>simp [intOf]; omega
   ·obtain ⟨c,hc⟩ : ∃ c,cmpI (p k) (q k)=c:=⟨_,rfl⟩
    have HC:=cmp_c (p k) (q k)
    rw [hc] at HC h0
    have hll:=HL.out
    rw [hc,if_neg h0] at hll
    have HL2:=Lib.hid hll
    have HC2:=Lib.hid HC
    have t0:(c==0)=false:=beq_false_of_ne h0
    clear HC h0 hc hll HL
    go_wp2_with (first | (go_at_call 100; refine (HC2.out _).mono ?_; rintro e w1 ⟨rfl,rfl⟩) | fail)
    go_ret
    exact ⟨by rw [HL2.out]; rfl,by simp⟩
  ·obtain rfl:k=4:=by omega
   have HL:=Lib.hid (show lexI p q 0 4=0 from hl)
   clear hl
   go_wp2_with fail
   go_ret
   exact ⟨by rw [HL.out]; rfl,by simp⟩
def greaterB (p q:Nat→Int):Bool:=decide (0<lexI p q 0 4)
set_option maxHeartbeats 1000000 in
theorem greater_c (p q:Nat→Int) (w:World):Calls Try.prog 89 #[planV p,planV q] w fun e w'=>e = .returned (.bool (greaterB p q))∧Below w.heap.size w w':=by
 obtain ⟨W,hW⟩ : ∃ W,(w.alloc (.cells #[.int .i64 (p 0), .int .i64 (p 1), .int .i64 (p 2), .int .i64 (p 3)] 77)).alloc (.cells #[.int .i64 (q 0), .int .i64 (q 1), .int .i64 (q 2), .int .i64 (q 3)] 77)=W:=⟨_,rfl⟩
 have hB:Below w.heap.size w W:=by rw [← hW]; exact Below.alloc1 (Below.alloc1 (Below.refl _ _) _ (Nat.le_refl _)) _ (Nat.le_refl _)
 have hP:RowIs W w.heap.size (planRow p) 77:=by rw [← hW]; exact RowIs.alloc (heap_new_at _ _ _ rfl) _
 have hQ:RowIs W (w.heap.size+1) (planRow q) 77:=by rw [← hW]; exact heap_new_at _ _ _ (by simp)
 have H1:=Lib.hid (fun x:Later W=>compare_c w.heap.size (w.heap.size+1) p q _ _ x.w (hP.below x.h) (hQ.below x.h))
 have pz:=hP.lt
 have qz:=hQ.lt
 obtain ⟨⟨p0,p1,p2,p3⟩,_⟩:=row4 hP
 obtain ⟨⟨q0,q1,q2,q3⟩,_⟩:=row4 hQ
 obtain ⟨r,hr⟩ : ∃ r,lexI p q 0 4=r:=⟨_,rfl⟩
 unfold greaterB
 rw [hr] at H1 ⊢
 have HB:=Lib.hid hB
 have hlc:=fun (x:Later W)=>later_cell x
 clear hB hP hQ hr
 go_enter Try.func89,Try.ntmps89
 go_wp2_with fail
 refine wp_region_later (by kernel_rfl) (by kernel_rfl) ?_
 repeat (go_big_quiet_step ((with_reducible refine calls_later_same (H1.out _))))
 refine wpQuiet_nil ?_
 rintro ⟨w1,hb1⟩
 clear hlc
 go_wp2_with fail
 go_ret
 exact ⟨rfl,HB.out.trans (hb1.mono HB.out.size)⟩
end Go.Proofs.Ytkbbhihndigmeaa

namespace Go.Proofs.Ytkbbhihndigmeaa
open Go Go.RowKit Go.Shelf
theorem best_exists {f:Nat→Row3} {m n:Nat} (hO:Okay m n f) {L:List K9} (hL : ∀ p,p ∈ L↔Fnd f m n p) : ∃ s,Bst f m n s:=by
 cases hs:bestS (fun p q=>surerB f m n (valP f m n p) (valP f m n q)) L with
 | none=>
   exfalso
   obtain ⟨p,hp⟩:=exists_found hO
   have:=(bestS_max (lt:=fun x y=>surerB f m n (valP f m n x) (valP f m n y)) (fun x y z h1 h2=>surer_trans (valP_few hO x) (valP_few hO y) (valP_few hO z) h1 h2) (fun x=>surer_irr _ _ _ _) L).1 hs
   have hm:=(hL p).2 hp
   rw [this] at hm
   cases hm
 | some s=>exact ⟨s,kept_best hO hL hs⟩
theorem best_exists' {f:Nat→Row3} {m n:Nat} (hO:Okay m n f) : ∃ s,Bst f m n s:=by
 classical
 refine best_exists hO (L:=(((choL m n).filter fun c=>foundB f c.1 c.2).map k9)) fun p => ?_
 rw [List.mem_map]
 constructor
 ·rintro ⟨c,hc,rfl⟩
  rw [List.mem_filter] at hc
  exact ⟨c,hc.1,hc.2,rfl⟩
 ·rintro ⟨c,h1,h2,h3⟩
  exact ⟨c,List.mem_filter.2 ⟨h1,h2⟩,h3⟩
theorem bestS_mem0 {α : Type} (lt : α → α → Bool) : ∀ (l:List α) (o:Option α),(∀ y,l.foldl (bestStep lt) o=some y→o=some y∨y ∈ l)∧(l.foldl (bestStep lt) o=none→o=none∧l=[])
 | [],o=>⟨fun y h=> .inl h,fun h=>⟨h,rfl⟩⟩
 | x :: l,o=>by
   obtain ⟨h1,h2⟩:=bestS_mem0 lt l (bestStep lt o x)
   refine ⟨fun y h => ?_,fun h => ?_⟩
   ·rcases h1 y h with h | h
    ·cases o with
     | none=>simp only [bestStep,Option.some.injEq] at h; exact .inr (by simp [h])
     | some z=>
       simp only [bestStep] at h
       split at h
       ·simp only [Option.some.injEq] at h; exact .inr (by simp [h])
       ·exact .inl h
    ·exact .inr (by simp [h])
   ·have:=(h2 h).1
    cases o with
    | none=>simp [bestStep] at this
    | some z=>simp only [bestStep] at this; split at this <;> cases this
set_option maxHeartbeats 1000000 in
theorem bestPlan_c (a:Option Addr) (m n cap:Nat) (f:Nat→Row3) (w:World) (hf:Tab w a m f) (hO:Okay m n f) :
 Calls Try.prog 70 #[tabV a m cap] w fun e w'=> ∃ s,Bst f m n s∧e = .returned (planV (valP f m n s))∧Below w.heap.size w w':=by
 obtain ⟨W,hW⟩ : ∃ W,(w.alloc (.cells #[.slice a m cap] 73)).alloc (.cells #[.int .i64 0, .int .i64 0, .int .i64 0, .int .i64 0] 77)=W:=⟨_,rfl⟩
 have hB:Below w.heap.size w W:=by rw [← hW]; exact Below.alloc1 (Below.alloc1 (Below.refl _ _) _ (Nat.le_refl _)) _ (Nat.le_refl _)
 have hD:RowIs W w.heap.size #[.slice a m cap] 73:=by rw [← hW]; exact RowIs.alloc (heap_new_at _ _ _ rfl) _
 have hR:RowIs W (w.heap.size+1) (planRow fun _=>0) 77:=by rw [← hW]; exact heap_new_at _ _ _ (by simp)
 have d0:W.cell? ⟨w.heap.size,0,none⟩=some (.slice a m cap):=hD.cell 0
 have dz:=hD.lt
 have HBp:=Lib.hid (bestPlans_c a m n cap f W (hf.below hB) hO)
 have HB:=Lib.hid hB
 have HR:=Lib.hid hR
 have Hf:=Lib.hid hf
 have HO:=Lib.hid hO
 clear hB hD hR hf hO
 go_enter Try.func70,Try.ntmps70
 go_wp2_with fail
 refine HBp.out.mono ?_
 rintro e w1 ⟨b,N,rfl,hP,_,hb1⟩
 have HP:=Lib.hid hP
 have Hb1:=Lib.hid hb1
 clear hP hb1
 go_wp2_with fail
 refine (mvalues_c b w1).mono ?_
 rintro e w2 ⟨rfl,hw2⟩
 have hb2:Below w1.heap.size w1 w2:=by rw [← hw2]; exact Below.alloc1 (Below.refl _ _) _ (Nat.le_refl _)
 have hr2:RowIs w2 w1.heap.size #[.map (some b)] 109:=by rw [← hw2]; exact heap_new_at _ _ _ rfl
 have HBs:=Lib.hid (bestSeq_c (α := K9) 96 #[.pointer (some ⟨w1.heap.size,0,none⟩)] _ N (valP f m n) 89 #[] #[] (fun p q=>greaterB (valP f m n p) (valP f m n q)) w2 (mvalues_gives w1.heap.size b N (Bst f m n) (valP f m n) w2 hr2 (HP.out.below hb2))
  (enters_of Try.func96 (by kernel_rfl) rfl) (enters_of Try.func89 (by kernel_rfl) rfl) (fun V _ p q=>by
    have:=greater_c (valP f m n p) (valP f m n q) V
    simpa using this))
 have hb12:Below W.heap.size W w2:=Hb1.out.trans (hb2.mono Hb1.out.size)
 have Hb12:=Lib.hid hb12
 clear hw2 hb2 hr2 hb12
 go_wp2_with fail
 refine HBs.out.mono ?_
 rintro e w3 ⟨L,⟨hL,_⟩,rfl,hb3⟩
 have hs : ∃ s,Bst f m n s∧keptV (valP f m n) (bestS (fun p q=>greaterB (valP f m n p) (valP f m n q)) L)=valP f m n s:=by
  have hmem:=bestS_mem0 (fun p q=>greaterB (valP f m n p) (valP f m n q)) L none
  cases hk:bestS (fun p q=>greaterB (valP f m n p) (valP f m n q)) L with
  | none=>
    exfalso
    obtain ⟨s,hs⟩:=best_exists' HO.out
    have:=(hmem.2 hk).2
    have hm:=(hL s).2 hs
    rw [this] at hm
    cases hm
  | some s=>
    rcases hmem.1 s hk with h | h
    ·cases h
    ·exact ⟨s,(hL s).1 h,rfl⟩
 obtain ⟨s,hs,hk⟩:=hs
 rw [hk]
 obtain ⟨bb,hbb⟩ : ∃ bb,(bestS (fun p q=>greaterB (valP f m n p) (valP f m n q)) L).isSome=bb:=⟨_,rfl⟩
 rw [hbb]
 obtain ⟨p,hp⟩ : ∃ p,valP f m n s=p:=⟨_,rfl⟩
 have Hp:=Lib.hid hp
 rw [hp]
 have HS:=Lib.hid hs
 have hb13:Below W.heap.size W w3:=Hb12.out.trans (hb3.mono Hb12.out.size)
 have hr3:=HR.out.below hb13
 obtain ⟨⟨q0,q1,q2,q3⟩,qz⟩:=row4 hr3
 obtain ⟨g0,g1,g2,g3⟩:=row4f hr3
 have HR3:=Lib.hid hr3
 have HB3:=Lib.hid (HB.out.trans (hb13.mono HB.out.size))
 clear hk hs hL hb3 hb13 hr3 hbb hp
 go_wp2_with fail
 obtain ⟨U,hU⟩ : ∃ U,(put4 w3 (w.heap.size+1) p).alloc (.cells #[.int .i64 (p 0), .int .i64 (p 1), .int .i64 (p 2), .int .i64 (p 3)] 77)=U:=⟨_,rfl⟩
 have hUr:RowIs U (w.heap.size+1) (planRow p) 77:=by rw [← hU]; exact (put4_row HR3.out p).alloc _
 have hUb:Below w.heap.size w U:=by rw [← hU]; exact Below.alloc1 (HB3.out.trans (put4_below (Nat.le_succ _) p)) _ (Nat.le_refl _)
 obtain ⟨⟨u0,u1,u2,u3⟩,_⟩:=row4 hUr
 unfold put4 at hU
 rw [hU]
 exact bodyPost_ret (v:=planV p) (by simp [results,Try.results70,go_sem,u0,u1,u2,u3]) rfl ⟨s,HS.out,by rw [Hp.out],hUb⟩
theorem copy_out {w:World} {g b m:Nat} {p:Nat→Int} {T T2:TypeId} (hm:m≤4) (hg:RowIs w g (rowA m fun _=>0) T) (hp:RowIs w b (planRow p) T2) :
 ∃ w',(Builtin.copy_ #[25,25] 3 #[.slice (some ⟨g,0,none⟩) m m, .slice (some ⟨b,0,none⟩) 4 4]).run Try.prog w = .ok (.int .i64 (m:Int)) w'∧RowIs w' g (rowA m p) T∧Below g w w':=by
 have hmin:Nat.min 4 m=m:=by show min 4 m=m; omega
 have hlen:((List.range m).map fun i=>Value.int .i64 (p i)).length=m:=by simp
 have hrun:=run_copy_row (P:=Try.prog) w 25 25 3 2 g 0 m m ⟨b,0,none⟩ 4 4 (rowA m fun _=>0) T ((List.range m).map fun i=>Value.int .i64 (p i)) Try.underlying25 one64 hg (by rw [hmin,hlen])
  (fun j v hv=>by
    simp only [List.getElem?_map,Option.map_eq_some_iff] at hv
    obtain ⟨i,hi,rfl⟩:=hv
    have hj:j<m:=by
     have:=(List.getElem?_eq_some_iff.1 hi).1
     simpa using this
    have hij:i=j:=by
     rw [List.getElem?_range hj] at hi
     exact (Option.some.inj hi).symm
    subst hij
    rw [Addr.add_lit,Nat.zero_add]
    exact (hp.cell i).trans (planRow_get p i (by omega)))
  (by simp [rowA]) (by simp [Value.oneCell'])
 have e:((rowA m fun _=>0).toList.take 0 ++ ((List.range m).map fun i=>Value.int .i64 (p i)) ++ (rowA m fun _=>0).toList.drop (0+((List.range m).map fun i=>Value.int .i64 (p i)).length)).toArray=rowA m p:=by
  rw [hlen]
  simp [rowA]
 rw [e,hlen] at hrun
 exact ⟨_,hrun,setRow_heap w g _ _ T (0,0) hg,below_setRow (Below.refl _ _) (Nat.le_refl _) _⟩
theorem handOver_c (a:Option Addr) (m n cap:Nat) (f:Nat→Row3) (p:Nat→Int) (w:World) (hO:Okay m n f) :
 Calls Try.prog 72 #[tabV a m cap,planV p] w fun e w'=> ∃ g,w.heap.size≤g∧e = .returned (.slice (some ⟨g,0,none⟩) m m)∧RowIs w' g (rowA m p) 2∧Below w.heap.size w w':=by
 obtain ⟨W,hW⟩ : ∃ W,(w.alloc (.cells #[.slice a m cap] 73)).alloc (.cells #[.int .i64 (p 0), .int .i64 (p 1), .int .i64 (p 2), .int .i64 (p 3)] 77)=W:=⟨_,rfl⟩
 have hB:Below w.heap.size w W:=by rw [← hW]; exact Below.alloc1 (Below.alloc1 (Below.refl _ _) _ (Nat.le_refl _)) _ (Nat.le_refl _)
 have hD:RowIs W w.heap.size #[.slice a m cap] 73:=by rw [← hW]; exact RowIs.alloc (heap_new_at _ _ _ rfl) _
 have hP:RowIs W (w.heap.size+1) (planRow p) 77:=by rw [← hW]; exact heap_new_at _ _ _ (by simp)
 have d0:W.cell? ⟨w.heap.size,0,none⟩=some (.slice a m cap):=hD.cell 0
 have dz:=hD.lt
 have pz:=hP.lt
 have mk:=make_row64 m hO.m4 W
 obtain ⟨V,hV⟩ : ∃ V,W.alloc (.cells (rowA m fun _=>0) 2)=V:=⟨_,rfl⟩
 rw [hV] at mk
 have hVb:Below W.heap.size W V:=by rw [← hV]; exact Below.alloc1 (Below.refl _ _) _ (Nat.le_refl _)
 have hVr:RowIs V W.heap.size (rowA m fun _=>0) 2:=by rw [← hV]; exact heap_new_at _ _ _ rfl
 obtain ⟨X,hcopy,hX,hXb⟩:=copy_out hO.m4 hVr (hP.below hVb)
 have pz2:w.heap.size+1<V.heap.size:=by have:=hVb.size; omega
 have HX:=Lib.hid hX
 have HXb:=Lib.hid ((hB.trans (hVb.mono hB.size)).trans (hXb.mono hB.size))
 have HB:=Lib.hid hB
 have hm64:(m:Int)≤4:=by have:=hO.m4; omega
 clear hB hD hP hV hVb hVr hX hXb hO
 go_enter Try.func72,Try.ntmps72
 go_wp2_with fail
 go_ret
 exact ⟨W.heap.size,HB.out.size,rfl,HX.out,HXb.out⟩
end Go.Proofs.Ytkbbhihndigmeaa

namespace Go.Proofs.Ytkbbhihndigmeaa
open Go Go.RowKit
def Own (A:World) (B:Nat) (x:List Nat) (v:Value):Prop:=A.ownsRow B 3 1 v x.length (natL x)
theorem own_nil (A:World) (B:Nat):Own A B [] (.slice none 0 0):=World.ownsRow_nil _ _ _ _
theorem Own.alloc {A:World} {B:Nat} {x:List Nat} {v:Value} (h:Own A B x v) (o:Obj):Own (A.alloc o) B x v:=World.ownsRow.alloc h o
theorem Own.below {A A':World} {B:Nat} {x:List Nat} {v:Value} (h:Own A B x v) (hb:Below A.heap.size A A'):Own A' B x v:=by
 obtain ⟨h1,h2⟩:=h
 refine ⟨h1,?_⟩
 rcases h2 with h2 | ⟨g,cap,cur,hv,hB,hg,h3⟩
 ·exact .inl h2
 ·exact .inr ⟨g,cap,cur,hv,hB,(hb.block g (Array.getElem?_eq_some_iff.1 hg).1).trans hg,h3⟩
theorem Own.lst {A:World} {B:Nat} {x:List Nat} {v:Value} (h:Own A B x v) : ∃ p cap,v = .slice p x.length cap∧Lst A x p cap ∧ ∀ b off,p=some ⟨b,off,none⟩→B≤b:=by
 rcases h.2 with ⟨hv,h0⟩ | ⟨g,cap,cur,hv,hB,_⟩
 ·obtain rfl:x=[]:=List.eq_nil_of_length_eq_zero h0
  exact ⟨none,0,hv,lst_nil,fun _ _ e=>by cases e⟩
 ·refine ⟨some ⟨g,0,none⟩,cap,hv,?_,fun b off e=>by cases e; exact hB⟩
  subst hv
  exact lst_of_own rfl h
theorem Own.other {A A':World} {B bb:Nat} {x:List Nat} {v:Value} {c:Array Value} {T:TypeId} (h:Own A B x v) (hg:A.grownBy A' v.ownBlock) (hr:RowIs A bb c T) (hT:T ≠ 3):RowIs A' bb c T:=by
 refine (hg.block bb hr.lt ?_).trans hr
 rcases h.2 with ⟨hv,_⟩ | ⟨g,cap,cur,hv,hB,hgb,_⟩
 ·subst hv; simp [Value.ownBlock]
 ·subst hv
  intro e
  have:bb=g:=by simpa [Value.ownBlock] using e
  subst this
  rw [hr] at hgb
  cases hgb
  exact hT rfl
theorem own_loop {A:World} {B r:Nat} {x:List Nat} {v:Value} {o o':Loop} (h:Own A B x v) (ho:A.heap[r]? = some (.loop o)):Own (A.putObj r (.loop o')) B x v:=by
 obtain ⟨h1,h2⟩:=h
 refine ⟨h1,?_⟩
 rcases h2 with h2 | ⟨g,cap,cur,hv,hB,hg,h3⟩
 ·exact .inl h2
 ·exact .inr ⟨g,cap,cur,hv,hB,(World.putObj_heap_other (fun e=>by subst e; rw [ho] at hg; cases hg)).trans hg,h3⟩
theorem own_put {A:World} {B r:Nat} {x:List Nat} {v:Value} {ds o:Option (List Deferred)} (h:Own A B x v) (ho:A.heap[r]? = some (.deferred ds)):Own (A.putObj r (.deferred o)) B x v:=by
 obtain ⟨h1,h2⟩:=h
 refine ⟨h1,?_⟩
 rcases h2 with h2 | ⟨g,cap,cur,hv,hB,hg,h3⟩
 ·exact .inl h2
 ·exact .inr ⟨g,cap,cur,hv,hB,(World.putObj_heap_other (fun e=>by subst e; rw [ho] at hg; cases hg)).trans hg,h3⟩
theorem own_still {r:Nat} (B:Nat) (x:List Nat) (v:Value):Still r fun A=>Own A B x v:=⟨fun _ _ h hb=>h.below hb,fun _ _ _ ho h=>own_loop h ho⟩
theorem Own.far {A:World} {B bb:Nat} {x:List Nat} {v u:Value} {c:Array Value} {T:TypeId} (h:Own A B x v) (hr:RowIs A bb c T) (hT:T ≠ 3):Own (A.setCell ⟨bb,0,none⟩ u) B x v:=by
 obtain ⟨h1,h2⟩:=h
 refine ⟨h1,?_⟩
 rcases h2 with h2 | ⟨g,cap,cur,hv,hB,hg,h3⟩
 ·exact .inl h2
 ·refine .inr ⟨g,cap,cur,hv,hB,(Below.heap_setCell _ _ _ _ (fun e => ?_)).trans hg,h3⟩
  have e':g=bb:=e
  subst e'
  rw [hr] at hg
  cases hg
  exact hT rfl
theorem Own.walk {A A':World} {B bb:Nat} {x:List Nat} {v:Value} {o:Obj} (h:Own A B x v) (hg:A.grownBy A' v.ownBlock) (ho:A.heap[bb]? = some o) (hn:o.isCells=false):A'.heap[bb]? = some o:=by
 refine (hg.block bb (Array.getElem?_eq_some_iff.1 ho).1 ?_).trans ho
 rcases h.2 with ⟨hv,_⟩ | ⟨g,cap,cur,hv,hB,hgb,_⟩
 ·subst hv; simp [Value.ownBlock]
 ·subst hv
  intro e
  have:bb=g:=by simpa [Value.ownBlock] using e
  subst this
  rw [ho] at hgb
  cases hgb
  cases hn
theorem Own.append {A:World} {B:Nat} {x:List Nat} {v:Value} (h:Own A B x v) (b i:Nat) (hb:RowIs A b #[.int .i64 (i:Int)] 3) (hB:B≤A.heap.size) (hx:x.length≤1048576) :
 ∃ v' A',(Builtin.append_ #[42,42] 42 #[v, .slice (some ⟨b,0,none⟩) 1 1]).run Try.prog A = .ok v' A'∧Own A' B (x ++ [i]) v'∧A.grownBy A' v.ownBlock∧Below B A A':=by
 obtain ⟨i0,hi,hi0,hi1,hi2⟩:=info_parts1 infoInt
 have hnews : ∀ j u,[Value.int .i64 (i:Int)][j]? = some u→A.cell? ((⟨b,0,none⟩:Addr).add j)=some u:=fun j u hj=>by
  cases j with
  | zero=>rw [← hj]; exact (hb.cell 0)
  | succ j=>simp at hj
 obtain ⟨v',w',hrun,h1,h2,_⟩:=run_append_own (P:=Try.prog) A B 42 42 3 i0 (.int .i64 0) 1 8 Try.underlying42 hi hi0 hi1 hi2 rfl (by decide) v x.length (natL x) h ⟨b,0,none⟩ 1 1 [.int .i64 (i:Int)] rfl hnews (by intro u hu; simp at hu; subst hu; rfl) (by unfold maxLen; omega) (by omega) hB
 refine ⟨v',w',hrun,?_,h2,⟨h2.os,h2.tape,h2.output,h2.size,fun k hk=>h2.block k (by omega) ?_⟩⟩
 ·have e:natL (x ++ [i])=natL x ++ [Value.int .i64 (i:Int)]:=by simp [natL]
  unfold Own
  rw [e,List.length_append]
  exact h1
 ·intro e
  have:=(h.lt k e.symm).1
  omega
end Go.Proofs.Ytkbbhihndigmeaa

namespace Go.Proofs.Ytkbbhihndigmeaa
open Go Go.RowKit Go.Shelf
def worstK (f:Nat→Row3) (m n:Nat) (p:Nat→Int) (k:Nat):List Nat:=(List.range k).filter fun j=>decide (ag (lossA f) p m j=sureN f m n p)
theorem worstK_no {f:Nat→Row3} {m n:Nat} {p:Nat→Int} {k:Nat} (e : ¬ ag (lossA f) p m k=sureN f m n p):worstK f m n p (k+1)=worstK f m n p k:=by simp [worstK,List.range_succ,e]
theorem worstK_yes {f:Nat→Row3} {m n:Nat} {p:Nat→Int} {k:Nat} (e:ag (lossA f) p m k=sureN f m n p):worstK f m n p (k+1)=worstK f m n p k ++ [k]:=by simp [worstK,List.range_succ,e]
theorem worstK_len (f:Nat→Row3) (m n:Nat) (p:Nat→Int) (k:Nat):(worstK f m n p k).length≤k:=by
 have:=List.length_filter_le (fun j=>decide (ag (lossA f) p m j=sureN f m n p)) (List.range k)
 simpa [worstK] using this
theorem ints_row {w:World} {b s n:Nat} {h:Nat→Int} {T:TypeId} (hr:RowIs w b (rowA s h) T) (hn:n≤s):Ints w (some ⟨b,0,none⟩) n h:=
 .inr ⟨b,0,rfl,hr.lt,fun i hi=>by rw [Nat.zero_add]; exact (hr.cell i).trans (rowA_get s h i (by omega))⟩
set_option maxRecDepth 100000 in
set_option maxHeartbeats 4000000 in
theorem worst_c (a:Option Addr) (m n cap:Nat) (f:Nat→Row3) (p:Nat→Int) (w:World) (hf:Tab w a m f) (hO:Okay m n f) (hb : ∀ i,i<m→0≤p i∧p i≤100000000) :
 Calls Try.prog 74 #[tabV a m cap,planV p] w fun e w'=> ∃ x c,e = .returned (.slice x (worstK f m n p n).length c)∧Lst w' (worstK f m n p n) x c∧Below w.heap.size w w':=by
 obtain ⟨W,hW⟩ : ∃ W,((w.alloc (.cells #[.slice a m cap] 73)).alloc (.cells #[.int .i64 (p 0), .int .i64 (p 1), .int .i64 (p 2), .int .i64 (p 3)] 77)).alloc (.cells #[.int .i64 0, .int .i64 0, .int .i64 0, .int .i64 0, .int .i64 0] 100)=W:=⟨_,rfl⟩
 have hB:Below w.heap.size w W:=by rw [← hW]; exact Below.alloc1 (Below.alloc1 (Below.alloc1 (Below.refl _ _) _ (Nat.le_refl _)) _ (Nat.le_refl _)) _ (Nat.le_refl _)
 have hD:RowIs W w.heap.size #[.slice a m cap] 73:=by rw [← hW]; exact RowIs.alloc (RowIs.alloc (heap_new_at _ _ _ rfl) _) _
 have hP:RowIs W (w.heap.size+1) (planRow p) 77:=by rw [← hW]; exact RowIs.alloc (heap_new_at _ _ _ (by simp)) _
 have hS:RowIs W (w.heap.size+1+1) #[.int .i64 0, .int .i64 0, .int .i64 0, .int .i64 0, .int .i64 0] 100:=by rw [← hW]; exact heap_new_at _ _ _ (by simp)
 have d0:W.cell? ⟨w.heap.size,0,none⟩=some (.slice a m cap):=hD.cell 0
 have dz:=hD.lt
 obtain ⟨⟨p0,p1,p2,p3⟩,pz⟩:=row4 hP
 have HWe:=Lib.hid (weigh_c a m n cap (w.heap.size+1+1) w.heap.size f p _ _ _ _ _ _ W (fun x h=>hf.below (hB.trans h)) (by omega) (by omega) hO hb hS)
 have HWd:=Lib.hid (fun (x:World) (h:Below w.heap.size w x)=>width_c a m n cap f x (hf.below h) hO.m1 (hO.len 0 hO.m1))
 have HB:=Lib.hid hB
 have HD:=Lib.hid hD
 have hn4:=hO.n4
 have hn1:=hO.n1
 have hleast:=loss_least (p:=p) hO
 have hloss : ∀ j,j<n→lossF f n p m j=ag (lossA f) p m j:=fun j hj=>if_pos hj
 obtain ⟨g,hg⟩ : ∃ g,lossF f n p m=g:=⟨_,rfl⟩
 rw [hg] at HWe hleast hloss
 have Hle:=Lib.hid hleast
 have Hlo:=Lib.hid hloss
 clear hB hD hP hS hf hO hb hleast hloss hg
 go_enter Try.func74,Try.ntmps74
 go_wp2_with fail
 refine HWe.out.mono ?_
 rintro e w1 ⟨rfl,hr1,hg1⟩
 have hB1:Below w.heap.size w w1:=HB.out.grown hg1 HB.out.size (fun k e=>by cases e; omega)
 have hD1:RowIs w1 w.heap.size #[.slice a m cap] 73:=(hg1.block _ HD.out.lt (fun h=>by have:=Option.some.inj h; omega)).trans HD.out
 have d1:w1.cell? ⟨w.heap.size,0,none⟩=some (.slice a m cap):=hD1.cell 0
 have d1z:=hD1.lt
 have HR1:=Lib.hid hr1
 have HB1:=Lib.hid hB1
 clear hr1 hg1 hB1 hD1 hW d0 dz p0 p1 p2 p3 pz
 go_wp2_with fail
 refine (HWd.out _ HB1.out).mono ?_
 rintro e w2 ⟨rfl,hb2⟩
 have HR2:=Lib.hid (HR1.out.below hb2)
 have HB2:=Lib.hid (HB1.out.trans (hb2.mono HB1.out.size))
 have jn:(n:Int)≤5:=by omega
 have jn2:n≤5:=by omega
 clear hb2
 go_wp2_with fail
 go_loopw [7,18] (fun c i wr=> ∃ k:Nat,k≤n∧i = .int .i64 k∧Own wr w2.heap.size (worstK f m n p k) c∧Below w2.heap.size w2 wr) (fun _ i _=>n-(intOf i).toNat)
 case atStart=>exact ⟨0,Nat.zero_le _,rfl,own_nil _ _,Below.refl _ _⟩
 case round=>
  obtain ⟨k,hk,rfl,hown,hbb⟩:=hrel
  have hR:=HR2.out.below hbb
  by_cases hlt:k<n
  ·have c1:wr.cell? ⟨w.heap.size+1+1,k,none⟩=some (.int .i64 (g k)):=(hR.cell k).trans (rowA_get 5 g k (by omega))
   have z1:=hR.lt
   have HM:=Lib.hid (min64_c (some ⟨w.heap.size+1+1,0,none⟩) n 5 g wr (ints_row hR jn2) hn1 (by omega))
   have t2:decide ((k:Int)<(n:Int))=true:=decide_eq_true (by omega)
   have t1:(k:Int)<(n:Int):=by omega
   by_cases he:g k=leastF g n
   ·have t3:(g k==leastF g n)=true:=by rw [he]; exact beq_self_eq_true _
    have hyes:=worstK_yes (f:=f) (m:=m) (n:=n) (p:=p) (k:=k) (by rw [← Hlo.out k hlt,he,Hle.out])
    obtain ⟨X,hX⟩ : ∃ X,wr.alloc (.cells #[.int .i64 (k:Int)] 3)=X:=⟨_,rfl⟩
    have hXb:Below wr.heap.size wr X:=by rw [← hX]; exact Below.alloc1 (Below.refl _ _) _ (Nat.le_refl _)
    have hXr:RowIs X wr.heap.size #[.int .i64 (k:Int)] 3:=by rw [← hX]; exact heap_new_at _ _ _ rfl
    have hXo:=hown.below hXb
    have hkl:=worstK_len f m n p k
    obtain ⟨v',A',hrun,hown',hgr,hbA⟩:=hXo.append wr.heap.size k hXr (Nat.le_trans hbb.size hXb.size) (by omega)
    have Hown':=Lib.hid hown'
    have Hbb:=Lib.hid ((hbb.trans (hXb.mono hbb.size)).trans hbA)
    have Hyes:=Lib.hid hyes
    clear hXb hXr hXo hown hown' hgr hbA hbb hR he hyes
    go_wp2_with (first
     | (refine (HM.out).mono ?_; rintro e w3 ⟨rfl,rfl⟩)
     | (at_builtin; refine wpList_append_run rfl _ _ 42 rfl rfl rfl hrun ?_)
     | fail)
    go_roundw
    case rel=>exact ⟨k+1,by omega,by go_num,by rw [Hyes.out]; exact Hown'.out,Hbb.out⟩
    case measure=>simp [intOf]; omega
   ·have t3:(g k==leastF g n)=false:=beq_false_of_ne he
    have hno:=worstK_no (f:=f) (m:=m) (n:=n) (p:=p) (k:=k) (by rw [← Hlo.out k hlt, ← Hle.out]; exact he)
    have Hown:=Lib.hid hown
    have Hbb:=Lib.hid hbb
    have Hno:=Lib.hid hno
    clear hown hbb hR he hno
    go_wp2_with (first
     | (refine (HM.out).mono ?_; rintro e w3 ⟨rfl,rfl⟩)
     | fail)
    go_roundw
    case rel=>exact ⟨k+1,by omega,by go_num,by rw [Hno.out]; exact Hown.out,Hbb.out⟩
    case measure=>simp [intOf]; omega
  ·obtain rfl:k=n:=by omega
   obtain ⟨q,qc,rfl,hL,_⟩:=hown.lst
   have HL:=Lib.hid hL
   have Hbb:=Lib.hid hbb
   have t2:decide ((k:Int)<(k:Int))=false:=decide_eq_false (by omega)
   clear hL hbb hR hown
   go_wp2_with fail
   go_ret
   exact ⟨q,qc,rfl,HL.out,HB2.out.trans (Hbb.out.mono HB2.out.size)⟩
end Go.Proofs.Ytkbbhihndigmeaa

namespace Go.Proofs.Ytkbbhihndigmeaa
open Go Go.RowKit Go.Shelf Go.Maps
theorem found_nonneg {f:Nat→Row3} {R G:List Nat} (h:foundB f R G=true) {i:Nat} (hi:i<4):0≤planQ f R G i:=by
 simp only [foundB,Bool.and_eq_true,decide_eq_true_eq] at h
 have a:=leastF_le (planQ f R G) 4 i hi
 have:leastP (planQ f R G)=leastF (planQ f R G) 4:=rfl
 omega
theorem valP_bd4 {f:Nat→Row3} {m n:Nat} (hO:Okay m n f) (p:K9) (i:Nat) (hi:i<4):0≤valP f m n p i∧valP f m n p i≤24000000:=by
 unfold valP
 split
 ·rename_i h
  obtain ⟨hc,hf,_⟩:=Classical.choose_spec h
  obtain ⟨h1,h2,h3,h4⟩:=cho_facts hO.m4 hc
  exact ⟨found_nonneg hf hi,(planQ_bd hO h1 h2 h3 h4 i).2⟩
 ·dsimp only
  split <;> omega
theorem index_plan (p:Nat→Int) (k:Nat) (hk:k<4) (w:World):(Instr.index 77 (.agg #[.int .i64 (p 0), .int .i64 (p 1), .int .i64 (p 2), .int .i64 (p 3)]) (.int .i64 (k:Int))).run Try.prog w = .ok (.int .i64 (p k)) w:=by
 have h : ∀ a b c d:Value,(Instr.index 77 (.agg #[a,b,c,d]) (.int .i64 0)).run Try.prog w = .ok a w∧(Instr.index 77 (.agg #[a,b,c,d]) (.int .i64 1)).run Try.prog w = .ok b w∧(Instr.index 77 (.agg #[a,b,c,d]) (.int .i64 2)).run Try.prog w = .ok c w∧(Instr.index 77 (.agg #[a,b,c,d]) (.int .i64 3)).run Try.prog w = .ok d w:=fun a b c d=>⟨by kernel_rfl,by kernel_rfl,by kernel_rfl,by kernel_rfl⟩
 obtain ⟨h0,h1,h2,h3⟩:=h (.int .i64 (p 0)) (.int .i64 (p 1)) (.int .i64 (p 2)) (.int .i64 (p 3))
 match k,hk with
 | 0,_=>exact h0
 | 1,_=>exact h1
 | 2,_=>exact h2
 | 3,_=>exact h3
def sumV (val:K9→Nat→Int) (ss:List K9) (i:Nat):Int:=(ss.map fun x=>val x i).sum
theorem sumV_add (val:K9→Nat→Int) (ss:List K9) (x:K9) (i:Nat):sumV val (ss ++ [x]) i=sumV val ss i+val x i:=by simp [sumV]
theorem sumV_bd {val:K9→Nat→Int} {i:Nat} (h : ∀ x,0≤val x i∧val x i≤24000000) : ∀ ss,0≤sumV val ss i∧sumV val ss i≤24000000*(ss.length:Int)
 | []=>by simp [sumV]
 | x :: ss=>by
   have h1:=h x
   have h2:=sumV_bd h ss
   unfold sumV at h2 ⊢
   rw [List.map_cons,List.sum_cons,List.length_cons]
   omega
theorem sumV_pos {val:K9→Nat→Int} {i:Nat} (h : ∀ x,0≤val x i∧val x i≤24000000) : ∀ ss,0<sumV val ss i ↔ ∃ x ∈ ss,0<val x i
 | []=>by simp [sumV]
 | x :: ss=>by
   have h1:=h x
   have h2:=sumV_pos h ss
   have h3:=(sumV_bd h ss).1
   unfold sumV at h2 h3 ⊢
   rw [List.map_cons,List.sum_cons]
   constructor
   ·intro h
    by_cases hx:0<val x i
    ·exact ⟨x,List.mem_cons_self,hx⟩
    ·obtain ⟨y,hy,hp⟩:=h2.1 (by omega)
     exact ⟨y,List.mem_cons_of_mem _ hy,hp⟩
   ·rintro ⟨y,hy,hp⟩
    rcases List.mem_cons.1 hy with rfl | hy
    ·omega
    ·have:=h2.2 ⟨y,hy,hp⟩
     omega
def usedK (S:Nat→Int) (k:Nat):List Nat:=(List.range k).filter fun i=>decide (0<S i)
theorem usedK_no {S:Nat→Int} {k:Nat} (e : ¬ 0<S k):usedK S (k+1)=usedK S k:=by simp [usedK,List.range_succ,e]
theorem usedK_yes {S:Nat→Int} {k:Nat} (e:0<S k):usedK S (k+1)=usedK S k ++ [k]:=by simp [usedK,List.range_succ,e]
theorem usedK_len (S:Nat→Int) (k:Nat):(usedK S k).length≤k:=by
 have:=List.length_filter_le (fun i=>decide (0<S i)) (List.range k)
 simpa [usedK] using this
def midV (val:K9→Nat→Int) (ss:List K9) (x:K9) (k i:Nat):Int:=if i<k then sumV val ss i+val x i else sumV val ss i
theorem plan_rowA (p:Nat→Int):planRow p=rowA 4 p:=by simp [rowA,List.range_succ]
set_option maxRecDepth 100000 in
set_option maxHeartbeats 8000000 in
theorem used_c (a:Option Addr) (m n cap:Nat) (f:Nat→Row3) (w:World) (hf:Tab w a m f) (hO:Okay m n f) :
 Calls Try.prog 76 #[tabV a m cap] w fun e w'=> ∃ ss,(∀ p,p ∈ ss↔Bst f m n p) ∧ ∃ x c,e = .returned (.slice x (usedK (sumV (valP f m n) ss) 4).length c)∧Lst w' (usedK (sumV (valP f m n) ss) 4) x c∧Below w.heap.size w w':=by
 obtain ⟨W,hW⟩ : ∃ W,(w.alloc (.cells #[.slice a m cap] 73)).alloc (.cells #[.int .i64 0, .int .i64 0, .int .i64 0, .int .i64 0] 77)=W:=⟨_,rfl⟩
 have hB:Below w.heap.size w W:=by rw [← hW]; exact Below.alloc1 (Below.alloc1 (Below.refl _ _) _ (Nat.le_refl _)) _ (Nat.le_refl _)
 have hD:RowIs W w.heap.size #[.slice a m cap] 73:=by rw [← hW]; exact RowIs.alloc (heap_new_at _ _ _ rfl) _
 have hM:RowIs W (w.heap.size+1) (planRow fun _=>0) 77:=by rw [← hW]; exact heap_new_at _ _ _ (by simp)
 have d0:W.cell? ⟨w.heap.size,0,none⟩=some (.slice a m cap):=hD.cell 0
 have dz:=hD.lt
 have HBp:=Lib.hid (bestPlans_c a m n cap f W (hf.below hB) hO)
 have HB:=Lib.hid hB
 have HM:=Lib.hid hM
 have HV:=Lib.hid (fun (x:K9) (i:Nat) (hi:i<4)=>valP_bd4 (n:=n) hO x i hi)
 obtain ⟨val,hval⟩ : ∃ val,valP f m n=val:=⟨_,rfl⟩
 rw [hval] at HV HBp ⊢
 clear hB hD hM hf hO hval
 go_enter Try.func76,Try.ntmps76
 go_wp2_with fail
 refine HBp.out.mono ?_
 rintro e w1 ⟨b,N,rfl,hP,hN,hb1⟩
 have hM1:=HM.out.below hb1
 have hbW:W.heap.size≤w1.heap.size:=hb1.size
 obtain ⟨Dm,hown,s1,s2,s3⟩:=hP
 have S1:=Lib.hid s1
 have S2:=Lib.hid s2
 have S3:=Lib.hid s3
 have hsz:=hown.size_le
 have hbl:=hown.lt
 have HM1:=Lib.hid hM1
 have HB1:=Lib.hid (HB.out.trans (hb1.mono HB.out.size))
 clear s1 s2 s3 hM1 hb1
 go_wp2_with (first
  | (at_range; refine wpList_range_own _ rfl _ 109 rfl 112 77 keyedC Try.underlying109 heldR b N _ rfl hown ?_; intro w0 hrg0 hg0 hs0)
  | fail)
 try go_frame
 have hw0b:Below w1.heap.size w1 w0:=⟨hg0.os,hg0.tape,hg0.output,hg0.size,fun k hk=>hg0.block k hk (by simp)⟩
 have HM0:=Lib.hid (HM1.out.below hw0b)
 have HB0:=Lib.hid (HB1.out.trans (hw0b.mono HB1.out.size))
 have hne:w.heap.size+1 ≠ b:=by
  rintro rfl
  obtain ⟨es,clock,hb,_⟩:=hown
  rw [HM1.out] at hb
  cases hb
 have hR1:w.heap.size+1<w1.heap.size:=HM1.out.lt
 go_loopw [14] (fun _ wr=> ∃ (left:Lit→Bool) (cnt:Nat) (ss:List K9),wr.ranges Try.prog 112 heldR b w1.heap.size N Dm left cnt∧ss.length+cnt≤N∧Come (Bst f m n) left ss∧RowIs wr (w.heap.size+1) (planRow (sumV val ss)) 77∧Below w.heap.size w wr)
  (fun _ wr=>wr.rangeLeft b w1.heap.size)
 case atStart=>
  exact ⟨_,_,[],hrg0,by simpa using hsz,⟨fun p hp=>by simp at hp,fun p hp=> .inr ((S2.out p (S1.out p hp)).2 hp),fun p hp h=>(S2.out p hp).1 h⟩,HM0.out,HB0.out⟩
 case round=>
  obtain ⟨left,cnt,ss,hrg,hcs,hC,hMr,hBr⟩:=hrel
  go_wp2_with (first
   | (at_next; refine wpList_next_ranges _ rfl _ rfl 112 keyedC heldR k9V (id:Value→Value) (fun key kl hk=>by obtain ⟨p,hp,_⟩:=keyOf_inv hk; exact ⟨p,hp⟩) (fun v y hy=>⟨v,rfl⟩) b w1.heap.size N _ _ _ rfl hrg ?_ ?_)
   | fail)
  ·intro hc0 hl0
   have hss : ∀ p,p ∈ ss↔Bst f m n p:=fun p=>⟨hC.1 p,fun hp=>by
    rcases hC.2.1 p hp with h | h
    ·exact h
    ·rw [hl0] at h; cases h⟩
   obtain ⟨T,hT⟩ : ∃ T,sumV val ss=T:=⟨_,rfl⟩
   rw [hT] at hMr
   have HSS:=Lib.hid (show ∃ ss,(∀ p,p ∈ ss↔Bst f m n p)∧sumV val ss=T from ⟨ss,hss,hT⟩)
   obtain ⟨⟨p0,p1,p2,p3⟩,pz⟩:=row4 hMr
   have HBr:=Lib.hid hBr
   clear hss hC hrg hcs hMr hBr hT
   go_wp2
   have hbw:w.heap.size≤wr.heap.size:=HBr.out.size
   go_loopw [8,31] (fun c i wi=> ∃ k:Nat,k≤4∧i = .int .i64 k∧Own wi wr.heap.size (usedK T k) c∧Below wr.heap.size wr wi) (fun _ i _=>4-(intOf i).toNat)
   case atStart=>exact ⟨0,Nat.zero_le _,rfl,own_nil _ _,Below.refl _ _⟩
   case round=>
    obtain ⟨k,hk,rfl,hown,hbb⟩:=hrel
    by_cases hlt:k<4
    ·have t1:(k:Int)<4:=by omega
     have t2:decide ((k:Int)<4)=true:=decide_eq_true (by omega)
     have hix:=index_plan T k hlt
     have hkl:=usedK_len T k
     by_cases he:0<T k
     ·have t3:decide (T k > 0)=true:=decide_eq_true he
      have t4:decide (0<T k)=true:=decide_eq_true he
      have hyes:=usedK_yes he
      obtain ⟨X,hX⟩ : ∃ X,wr.alloc (.cells #[.int .i64 (k:Int)] 3)=X:=⟨_,rfl⟩
      have hXb:Below wr.heap.size wr X:=by rw [← hX]; exact Below.alloc1 (Below.refl _ _) _ (Nat.le_refl _)
      have hXr:RowIs X wr.heap.size #[.int .i64 (k:Int)] 3:=by rw [← hX]; exact heap_new_at _ _ _ rfl
      have hXo:=hown.below hXb
      obtain ⟨v',A',hrun,hown',hgr,hbA⟩:=hXo.append wr.heap.size k hXr (Nat.le_trans hbb.size hXb.size) (by omega)
      have Hown':=Lib.hid hown'
      have Hbb:=Lib.hid ((hbb.trans (hXb.mono hbb.size)).trans hbA)
      have Hyes:=Lib.hid hyes
      clear hXb hXr hXo hown hown' hgr hbA hbb he hyes
      go_wp2_with (first
       | (at_builtin; refine wpList_append_run rfl _ _ 42 rfl rfl rfl hrun ?_)
       | fail)
      go_roundw
      case rel=>exact ⟨k+1,by omega,by go_num,by rw [Hyes.out]; exact Hown'.out,Hbb.out⟩
      case measure=>simp [intOf]; omega
     ·have t3:decide (T k > 0)=false:=decide_eq_false he
      have t4:decide (0<T k)=false:=decide_eq_false he
      have hno:=usedK_no he
      have Hown:=Lib.hid hown
      have Hbb:=Lib.hid hbb
      have Hno:=Lib.hid hno
      clear hown hbb he hno
      go_wp2_with fail
      go_roundw
      case rel=>exact ⟨k+1,by omega,by go_num,by rw [Hno.out]; exact Hown.out,Hbb.out⟩
      case measure=>simp [intOf]; omega
    ·obtain rfl:k=4:=by omega
     obtain ⟨q,qc,rfl,hL,_⟩:=hown.lst
     have HL:=Lib.hid hL
     have Hbb:=Lib.hid hbb
     have t2:decide ((4:Int)<4)=false:=by decide
     clear hL hbb hown
     go_wp2_with fail
     go_ret
     obtain ⟨ss,h1,h2⟩:=HSS.out
     exact ⟨ss,h1,q,qc,by rw [h2]; rfl,by rw [h2]; exact HL.out,HBr.out.trans (Hbb.out.mono hbw)⟩
  ·intro x c kl yd yp w2 cnt1 hkey hlk hv hat hrg1 hlt hg1 hs1 hen
   obtain ⟨q,hq,hok,rfl⟩:=keyOf_inv hkey
   obtain rfl:=K9.ext' hq
   have hSx:Bst f m n x:=hC.2.2 x hok hlk
   obtain rfl:c=planV (val x):=by
    have e1:=S3.out x hSx
    rw [hat] at e1
    simp [heldR] at hv
    rw [← hv.1] at e1
    simpa using e1
   obtain ⟨V,hV⟩ : ∃ V,w2.alloc (.cells (planRow (val x)) 77)=V:=⟨_,rfl⟩
   have hVb:Below w2.heap.size w2 V:=by rw [← hV]; exact Below.alloc1 (Below.refl _ _) _ (Nat.le_refl _)
   have hrV:V.ranges Try.prog 112 heldR b w1.heap.size N Dm (fun z=>left z && !z.sameKey (keyL x)) cnt1:=by rw [← hV]; exact hrg1.alloc _
   have hM2:RowIs w2 (w.heap.size+1) (planRow (sumV val ss)) 77:=(hg1.block _ hMr.lt (fun h=>by have:=Option.some.inj h; omega)).trans hMr
   have hMV:=hM2.below hVb
   have hBV:Below w.heap.size w V:=(hBr.grown hg1 hBr.size (fun k e=>by cases e; omega)).trans (hVb.mono (by have:=hBr.size; omega))
   have v5:RowIs V w2.heap.size (planRow (val x)) 77:=by rw [← hV]; exact heap_new_at _ _ _ rfl
   obtain ⟨⟨p0,p1,p2,p3⟩,pz⟩:=row4 v5
   have HC:=Lib.hid hC
   have HrV:=Lib.hid hrV
   have HMV:=Lib.hid hMV
   have HBV:=Lib.hid hBV
   have Hlt:=Lib.hid (show cnt1<wr.rangeLeft b w1.heap.size by rw [hrg.left_eq]; exact hlt)
   have Hlk:=Lib.hid hlk
   have Hok:=Lib.hid hok
   have Hcs:=Lib.hid (show (ss ++ [x]).length+cnt1≤N by simp; omega)
   have hbd : ∀ i,i<4→0≤sumV val ss i∧sumV val ss i≤240000000000000:=fun i hi=>by
    have:=sumV_bd (val:=val) (i:=i) (fun x=>HV.out x i hi) ss
    omega
   have Hbd:=Lib.hid hbd
   clear hq hg1 hat hrg hlt hrg1 hkey hv hrg0 hg0 hown hs1 hs0 hlk hC hrV hMV hBV v5 hok hSx hVb hM2 hMr hBr hcs hbd
   go_wp2_with fail
   go_loopw [19] (fun i wi=> ∃ k:Nat,k≤4∧i = .int .i64 k∧RowIs wi (w.heap.size+1) (rowA 4 (midV val ss x k)) 77∧V.grownBy wi (some (w.heap.size+1))) (fun i _=>4-(intOf i).toNat)
   case atStart=>exact ⟨0,Nat.zero_le _,rfl,by rw [← plan_rowA]; exact HMV.out,grown_refl _ _⟩
   case round=>
    obtain ⟨k,hk,rfl,hr,hg⟩:=hrel
    by_cases hlt:k<4
    ·have c1:wr.cell? ⟨w.heap.size+1,k,none⟩=some (.int .i64 (sumV val ss k)):=(hr.cell k).trans ((rowA_get 4 _ k hlt).trans (by unfold midV; rw [if_neg (Nat.lt_irrefl _)]))
     have f1:=hr.frozen k
     have z1:=hr.lt
     have bd1:=Hbd.out k hlt
     have bd2:=HV.out x k hlt
     have hw1:IntKind.i64.wrap (sumV val ss k+val x k)=sumV val ss k+val x k:=IntWalk.i64_in _ (by omega)
     have t1:(k:Int)<4:=by omega
     have t2:decide ((k:Int)<4)=true:=decide_eq_true (by omega)
     have hix:=index_plan (val x) k hlt
     have hset:=rowA_set 4 (midV val ss x k) (midV val ss x (k+1)) k (sumV val ss k+val x k) (by unfold midV; rw [if_pos (by omega)]) (fun j _ hj=>by unfold midV; by_cases h:j<k; { rw [if_pos h,if_pos (by omega)] }; { rw [if_neg h,if_neg (by omega)] })
     have Hr:=Lib.hid hr
     have Hg:=Lib.hid hg
     have Hset:=Lib.hid hset
     clear hr hg hset bd1 bd2
     go_wp2_with fail
     go_roundw
     case rel=>exact ⟨k+1,by omega,by go_num,by rw [← Hset.out]; exact (Hr.out.set k _),grown_set Hg.out k _⟩
     case measure=>simp [intOf]; omega
    ·obtain rfl:k=4:=by omega
     have hrow:RowIs wr (w.heap.size+1) (planRow (sumV val (ss ++ [x]))) 77:=by
      rw [plan_rowA]
      rw [show rowA 4 (sumV val (ss ++ [x]))=rowA 4 (midV val ss x 4) from rowA_same fun i hi=>by unfold midV; rw [if_pos hi,sumV_add]]
      exact hr
     have hrg2:=HrV.out.kept hg (fun h=>hne (Option.some.inj h).symm) (fun h=>by have:=Option.some.inj h; omega)
     have Hrow:=Lib.hid hrow
     have Hrg2:=Lib.hid hrg2
     have HB2:=Lib.hid (HBV.out.grown hg HBV.out.size (fun k e=>by cases e; omega))
     have t2:decide ((4:Int)<4)=false:=by decide
     clear hr hg hrow hrg2
     go_wp2_with fail
     go_roundw
     case rel=>exact ⟨_,cnt1,ss ++ [x],Hrg2.out,Hcs.out,come_step (fun p h=>S1.out p h) HC.out Hok.out Hlk.out,Hrow.out,HB2.out⟩
     case measure=>rw [Hrg2.out.left_eq]; exact Hlt.out
end Go.Proofs.Ytkbbhihndigmeaa

namespace Go.Proofs.Ytkbbhihndigmeaa
open Go Go.RowKit Go.Shelf
open Classical in
noncomputable def usedQ (f:Nat→Row3) (m n:Nat):List Nat:=(List.range 4).filter fun i=>decide (∃ s,Bst f m n s∧0<valP f m n s i)
open Classical in
theorem usedQ_eq {f:Nat→Row3} {m n:Nat} (hO:Okay m n f) {ss:List K9} (h : ∀ p,p ∈ ss↔Bst f m n p):usedK (sumV (valP f m n) ss) 4=usedQ f m n:=by
 unfold usedK usedQ
 apply List.filter_congr
 intro i hi
 rw [List.mem_range] at hi
 rw [Bool.eq_iff_iff,decide_eq_true_eq,decide_eq_true_eq,sumV_pos (fun x=>valP_bd4 hO x i hi)]
 constructor
 ·rintro ⟨x,h1,h2⟩
  exact ⟨x,(h x).1 h1,h2⟩
 ·rintro ⟨x,h1,h2⟩
  exact ⟨x,(h x).2 h1,h2⟩
theorem usedQ_c (a:Option Addr) (m n cap:Nat) (f:Nat→Row3) (w:World) (hf:Tab w a m f) (hO:Okay m n f) :
 Calls Try.prog 76 #[tabV a m cap] w fun e w'=>(∃ x c,e = .returned (.slice x (usedQ f m n).length c)∧Lst w' (usedQ f m n) x c)∧Below w.heap.size w w':=by
 refine (used_c a m n cap f w hf hO).mono ?_
 rintro e w' ⟨ss,h,x,c,rfl,h1,h2⟩
 rw [usedQ_eq hO h] at h1 ⊢
 exact ⟨⟨x,c,rfl,h1⟩,h2⟩
end Go.Proofs.Ytkbbhihndigmeaa

namespace Go.Proofs.Ytkbbhihndigmeaa
def Surely (A:Nat→Nat→Int) (m n:Nat) (x:Nat→Int) (v s:Int):Prop:=(∀ i,i<m→0≤x i)∧0<tot x m ∧ ∀ j,j<n→v*tot x m≤s*ag A x m j
def Bounds (A:Nat→Nat→Int) (m n:Nat) (q:Nat→Int) (v s:Int):Prop:=(∀ j,j<n→0≤q j)∧0<tot q n ∧ ∀ i,i<m→s*dotN q (fun j=>A i j) n≤v*tot q n
def ValIs (A:Nat→Nat→Int) (m n:Nat) (v s:Int):Prop:=0<s∧(∃ x,Surely A m n x v s) ∧ ∃ q,Bounds A m n q v s
theorem weak2 {A:Nat→Nat→Int} {m n:Nat} {x q:Nat→Int} {v s v' s':Int} (hs:0<s) (hs':0<s') (hx:Surely A m n x v s) (hq:Bounds A m n q v' s'):v*s'≤v'*s:=
 weak hx.1 hx.2.1 hq.1 hq.2.1 hs hs' hx.2.2 hq.2.2
theorem ValIs.one {A:Nat→Nat→Int} {m n:Nat} {v s v' s':Int} (h:ValIs A m n v s) (h':ValIs A m n v' s'):v*s'=v'*s:=by
 obtain ⟨hs,⟨x,hx⟩,q,hq⟩:=h
 obtain ⟨hs',⟨x',hx'⟩,q',hq'⟩:=h'
 have a:=weak2 hs hs' hx hq'
 have b:=weak2 hs' hs hx' hq
 omega
theorem Surely.le {A:Nat→Nat→Int} {m n:Nat} {x:Nat→Int} {v s v' s':Int} (h:Surely A m n x v s) (hs:0<s) (hs':0<s') (e:v'*s≤v*s'):Surely A m n x v' s':=by
 refine ⟨h.1,h.2.1,fun j hj => ?_⟩
 have h3:=Int.mul_le_mul_of_nonneg_left (h.2.2 j hj) (Int.le_of_lt hs')
 have h4:=Int.mul_le_mul_of_nonneg_right e (Int.le_of_lt h.2.1)
 obtain ⟨T,hT⟩ : ∃ T,tot x m=T:=⟨_,rfl⟩
 obtain ⟨g,hg⟩ : ∃ g,ag A x m j=g:=⟨_,rfl⟩
 rw [hT,hg] at h3
 rw [hT] at h4
 rw [hT,hg]
 refine Int.le_of_mul_le_mul_right (a:=s) ?_ hs
 grind
theorem Bounds.le {A:Nat→Nat→Int} {m n:Nat} {q:Nat→Int} {v s v' s':Int} (h:Bounds A m n q v s) (hs:0<s) (hs':0<s') (e:v*s'≤v'*s):Bounds A m n q v' s':=by
 refine ⟨h.1,h.2.1,fun i hi => ?_⟩
 have h3:=Int.mul_le_mul_of_nonneg_left (h.2.2 i hi) (Int.le_of_lt hs')
 have h4:=Int.mul_le_mul_of_nonneg_right e (Int.le_of_lt h.2.1)
 obtain ⟨T,hT⟩ : ∃ T,tot q n=T:=⟨_,rfl⟩
 obtain ⟨g,hg⟩ : ∃ g,dotN q (fun j=>A i j) n=g:=⟨_,rfl⟩
 rw [hT,hg] at h3
 rw [hT] at h4
 rw [hT,hg]
 refine Int.le_of_mul_le_mul_right (a:=s) ?_ hs
 grind
theorem ValIs.eq {A:Nat→Nat→Int} {m n:Nat} {v s v' s':Int} (h:ValIs A m n v s) (hs':0<s') (e:v*s'=v'*s):ValIs A m n v' s':=by
 obtain ⟨hs,⟨x,hx⟩,q,hq⟩:=h
 exact ⟨hs',⟨x,hx.le hs hs' (by omega)⟩,q,hq.le hs hs' (by omega)⟩
theorem val_exists (A:Nat→Nat→Int) {m n:Nat} (hm0:0<m) (hm:m≤4) (hn0:0<n) (hn:n≤4) :
 ∃ v s,ValIs A m n v s ∧ ∃ R G e,Choice A m n R G e∧Surely A m n (planC A R G e) v s:=by
 obtain ⟨R,G,e,C,D,e',v,s,h1,h2,h3,h4,h5⟩:=both_sides A m n hm0 hm hn0 hn
 have hx:Surely A m n (planC A R G e) v s:=⟨h1.plan.1,h1.plan.2,h4⟩
 exact ⟨v,s,⟨h3,⟨_,hx⟩,_,h2.plan.1,h2.plan.2,h5⟩,R,G,e,h1,hx⟩
theorem val_best {A:Nat→Nat→Int} {m n:Nat} (hm0:0<m) (hm:m≤4) (hn0:0<n) (hn:n≤4) {x:Nat→Int} {w:Int} (hx:Surely A m n x w (tot x m))
 (hb : ∀ R G e,Choice A m n R G e → ∀ v s,0<s→Surely A m n (planC A R G e) v s→v*tot x m≤w*s):ValIs A m n w (tot x m):=by
 obtain ⟨v,s,hv,R,G,e,hc,hs⟩:=val_exists A hm0 hm hn0 hn
 obtain ⟨h0,_,q,hq⟩:=id hv
 have a:=hb R G e hc v s h0 hs
 have b:=weak2 hx.2.1 h0 hx hq
 exact hv.eq hx.2.1 (by omega)
theorem flip_flip (A:Nat→Nat→Int):flip (flip A)=A:=funext fun i=>funext fun j=>by unfold flip; omega
theorem ag_flip (A:Nat→Nat→Int) (q:Nat→Int) (n i:Nat):ag (flip A) q n i = - dotN q (fun j=>A i j) n:=by
 unfold ag flip
 exact dotN_neg1 q _ n
theorem surely_flip {A:Nat→Nat→Int} {m n:Nat} {q:Nat→Int} {v s:Int} : Surely (flip A) n m q (-v) s↔Bounds A m n q v s:=by
 unfold Surely Bounds
 refine and_congr Iff.rfl (and_congr Iff.rfl (forall_congr' fun i=>forall_congr' fun _ => ?_))
 rw [ag_flip,Int.neg_mul,Int.mul_neg]
 omega
theorem ValIs.flip {A:Nat→Nat→Int} {m n:Nat} {v s:Int} (h:ValIs A m n v s):ValIs (flip A) n m (-v) s:=by
 obtain ⟨hs,⟨x,hx⟩,q,hq⟩:=h
 refine ⟨hs,⟨q,surely_flip.2 hq⟩,x,?_⟩
 rw [← surely_flip,flip_flip,Int.neg_neg]
 exact hx
theorem ValIs.unflip {A:Nat→Nat→Int} {m n:Nat} {v s:Int} (h:ValIs (Go.Proofs.Ytkbbhihndigmeaa.flip A) n m v s):ValIs A m n (-v) s:=by
 have:=h.flip
 rwa [flip_flip] at this
theorem dotN_at {x y f g:Nat→Int} : ∀ {m:Nat},(∀ i,i<m→x i=y i)→(∀ i,i<m→f i=g i)→dotN x f m=dotN y g m
 | 0,_,_=>rfl
 | m+1,h1,h2=>by rw [dotN,dotN,dotN_at (fun i hi=>h1 i (by omega)) (fun i hi=>h2 i (by omega)),h1 m (by omega),h2 m (by omega)]
theorem Surely.at {A B:Nat→Nat→Int} {m n:Nat} {x y:Nat→Int} {v s:Int} (h:Surely A m n x v s) (e : ∀ i,i<m → ∀ j,j<n→A i j=B i j) (ex : ∀ i,i<m→x i=y i):Surely B m n y v s:=by
 have ht:tot y m=tot x m:=dotN_at (fun i hi=>(ex i hi).symm) fun _ _=>rfl
 refine ⟨fun i hi=>by rw [← ex i hi]; exact h.1 i hi,by rw [ht]; exact h.2.1,fun j hj => ?_⟩
 have:ag B y m j=ag A x m j:=dotN_at (fun i hi=>(ex i hi).symm) fun i hi=>(e i hi j hj).symm
 rw [ht,this]
 exact h.2.2 j hj
theorem Bounds.at {A B:Nat→Nat→Int} {m n:Nat} {q p:Nat→Int} {v s:Int} (h:Bounds A m n q v s) (e : ∀ i,i<m → ∀ j,j<n→A i j=B i j) (eq : ∀ j,j<n→q j=p j):Bounds B m n p v s:=by
 rw [← surely_flip] at h ⊢
 exact h.at (fun j hj i hi=>by unfold Go.Proofs.Ytkbbhihndigmeaa.flip; rw [e i hi j hj]) eq
theorem ValIs.at {A B:Nat→Nat→Int} {m n:Nat} {v s:Int} (h:ValIs A m n v s) (e : ∀ i,i<m → ∀ j,j<n→A i j=B i j):ValIs B m n v s:=by
 obtain ⟨hs,⟨x,hx⟩,q,hq⟩:=h
 exact ⟨hs,⟨x,hx.at e fun _ _=>rfl⟩,q,hq.at e fun _ _=>rfl⟩
end Go.Proofs.Ytkbbhihndigmeaa

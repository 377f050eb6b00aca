/- Contracts of layer 3: the plan of a choice (the program). -/
import Derived.Deep.RegionWith
import Derived.Shelf.Abstract
import Derived.Shelf.RegionOpen
import Derived.Test.YtkbbhihndigmeaaProg
import Derived.Test.YtkbbhihndigmeaaBasaa
import Derived.Test.YtkbbhihndigmeaaBasaf
import Derived.Test.YtkbbhihndigmeaaBasag
import Derived.Test.YtkbbhihndigmeaaBasah
import Derived.Test.YtkbbhihndigmeaaBasac
namespace Go.Proofs.Ytkbbhihndigmeaa
open Go Go.RowKit Go.Shelf
def natI (x:List Nat) (i:Nat):Int:=((x.getD i 0:Nat):Int)
abbrev chV (k:Nat) (R G:List Nat):Value:= .agg #[.int .i64 (k:Int), .int .i64 (natI R 0), .int .i64 (natI R 1), .int .i64 (natI R 2), .int .i64 (natI R 3), .int .i64 (natI G 0), .int .i64 (natI G 1), .int .i64 (natI G 2), .int .i64 (natI G 3)]
abbrev chRow (k:Nat) (R G:List Nat):Array Value := #[.int .i64 (k:Int), .int .i64 (natI R 0), .int .i64 (natI R 1), .int .i64 (natI R 2), .int .i64 (natI R 3), .int .i64 (natI G 0), .int .i64 (natI G 1), .int .i64 (natI G 2), .int .i64 (natI G 3)]
theorem chRow_r (k:Nat) (R G:List Nat) (i:Nat) (hi:i<4):(chRow k R G)[1+i]? = some (.int .i64 (natI R i)):=by
 match i,hi with
 | 0,_=>rfl
 | 1,_=>rfl
 | 2,_=>rfl
 | 3,_=>rfl
theorem chRow_g (k:Nat) (R G:List Nat) (i:Nat) (hi:i<4):(chRow k R G)[5+i]? = some (.int .i64 (natI G i)):=by
 match i,hi with
 | 0,_=>rfl
 | 1,_=>rfl
 | 2,_=>rfl
 | 3,_=>rfl
theorem ch_lst {w:World} {b k:Nat} {R G:List Nat} {T:TypeId} (h:RowIs w b (chRow k R G) T) (hl:G.length≤4):Lst w G (some ⟨b,5,none⟩) 4:=
 ⟨.inr ⟨b,5,rfl,h.lt,fun i hi=>(h.cell (5+i)).trans (chRow_g k R G i (by omega))⟩,hl,by omega,fun e=>by cases e⟩
theorem make_rows2 (s:Nat) (hs:s≤4) (w:World):(Instr.makeSlice 22 (.int .i64 (s:Int)) (.int .i64 (s:Int))).run Try.prog w = .ok (.slice (some ⟨w.heap.size,0,none⟩) s s) (w.alloc (.cells (Array.replicate s (Value.slice none 0 0)) 25)):=make_rows s hs w
def startV (f:Nat→Row3) (R:List Nat) (k i:Nat):Value:=if i<k then hdV (chosenF f R i) else .slice none 0 0
theorem putR_row (R:List Nat) (y:Nat→Int) (k:Nat):(planRow (putR R y k)).setIfInBounds (R.getD k 0) (.int .i64 (y k))=planRow (putR R y (k+1))∨4≤R.getD k 0:=by
 by_cases h:R.getD k 0<4
 ·left
  obtain ⟨r,hr⟩ : ∃ r,R.getD k 0=r:=⟨_,rfl⟩
  simp only [putR,hr] at h ⊢
  have:r=0∨r=1∨r=2∨r=3:=by omega
  rcases this with rfl | rfl | rfl | rfl <;> simp
 ·right; omega
def quoK (p:Nat→Int) (k i:Nat):Int:=if i<k then quoP p i else p i
theorem quoK_row (p:Nat→Int) (k:Nat) (hk:k<4):(planRow (quoK p k)).setIfInBounds k (.int .i64 (quoP p k))=planRow (quoK p (k+1)):=by
 have:k=0∨k=1∨k=2∨k=3:=by omega
 rcases this with rfl | rfl | rfl | rfl <;> simp [quoK]
theorem row_ints4 {w:World} {b:Nat} {p:Nat→Int} {T:TypeId} (h:RowIs w b (planRow p) T):Ints w (some ⟨b,0,none⟩) 4 p:= .inr ⟨b,0,rfl,h.lt,fun i hi=>by rw [Nat.zero_add]; exact (h.cell i).trans (planRow_at p i hi)⟩
set_option maxRecDepth 100000 in
set_option maxHeartbeats 32000000 in
theorem planOf_c (a:Option Addr) (m n cap:Nat) (f:Nat→Row3) (k:Nat) (R G:List Nat) (w:World) (hf:Tab w a m f) (hO:Okay m n f) (hR : ∀ i ∈ R,i<m) (hG : ∀ i ∈ G,i<n) (hkk:R.length=k) (hl:G.length=k) (hk:k≤4) :
 Calls Try.prog 98 #[tabV a m cap,chV k R G] w fun e w'=>e = .returned (.tuple #[planV (planQ f R G), .bool (foundB f R G)])∧Below w.heap.size w w':=by
 obtain ⟨W,hW⟩ : ∃ W,((w.alloc (.cells #[.slice a m cap] 73)).alloc (.cells #[.int .i64 (k:Int), .int .i64 (natI R 0), .int .i64 (natI R 1), .int .i64 (natI R 2), .int .i64 (natI R 3), .int .i64 (natI G 0), .int .i64 (natI G 1), .int .i64 (natI G 2), .int .i64 (natI G 3)] 112)).alloc (.cells #[.int .i64 0, .int .i64 0, .int .i64 0, .int .i64 0] 77)=W:=⟨_,rfl⟩
 have hB:Below w.heap.size w W:=by rw [← hW]; exact Below.alloc1 (Below.alloc1 (Below.alloc1 (Below.refl _ _) _ (Nat.le_refl _)) _ (Nat.le_refl _)) _ (Nat.le_refl _)
 have hD:RowIs W w.heap.size #[.slice a m cap] 73:=by rw [← hW]; exact RowIs.alloc (RowIs.alloc (heap_new_at _ _ _ rfl) _) _
 have hC:RowIs W (w.heap.size+1) (chRow k R G) 112:=by rw [← hW]; exact RowIs.alloc (heap_new_at _ _ _ (by simp)) _
 have hQ:RowIs W (w.heap.size+1+1) (planRow fun _=>0) 77:=by rw [← hW]; exact heap_new_at _ _ _ (by simp)
 have d0:W.cell? ⟨w.heap.size,0,none⟩=some (.slice a m cap):=RowIs.cell hD 0
 have dz:=hD.lt
 have e0:W.cell? ⟨w.heap.size+1,0,none⟩=some (.int .i64 (k:Int)):=RowIs.cell hC 0
 have ez:=hC.lt
 have mk:=make_rows k hk
 obtain ⟨V,hV⟩ : ∃ V,W.alloc (.cells (Array.replicate k (Value.slice none 0 0)) 25)=V:=⟨_,rfl⟩
 have hVb:Below W.heap.size W V:=by rw [← hV]; exact Below.alloc1 (Below.refl _ _) _ (Nat.le_refl _)
 have hVr:RowIs V W.heap.size (Array.replicate k (Value.slice none 0 0)) 25:=by rw [← hV]; exact heap_new_at _ _ _ rfl
 obtain ⟨C,hCe⟩ : ∃ C,W.heap.size=C:=⟨_,rfl⟩
 rw [hCe] at hVr hVb
 have hCz:C=w.heap.size+3:=by rw [← hCe, ← hW]; simp
 have HF:=Lib.hid (fun (x:World) (h:Below w.heap.size w x)=>hf.below h)
 have HVr:=Lib.hid (show RowIs V C (rowV k (startV f R 0)) 25 by
  rw [replicate_rowV] at hVr
  rw [show rowV k (startV f R 0)=rowV k (fun _=>Value.slice none 0 0) from rowV_same fun i _=>if_neg (Nat.not_lt_zero i)]
  exact hVr)
 have HV3:=Lib.hid (show RowIs V w.heap.size #[.slice a m cap] 73∧RowIs V (w.heap.size+1) (chRow k R G) 112∧RowIs V (w.heap.size+1+1) (planRow fun _=>0) 77∧Below w.heap.size w V from ⟨(hVb.block _ (by omega)).trans hD,(hVb.block _ (by omega)).trans hC,(hVb.block _ (by omega)).trans hQ,hB.trans (hVb.mono (by omega))⟩)
 have hVz:C<V.heap.size:=by rw [← hV, ← hCe]; simp
 have hC3:w.heap.size+2<C:=by omega
 have HO:=Lib.hid hO
 have HR:=Lib.hid hR
 have HG:=Lib.hid hG
 have hm4:=hO.m4
 have hn4:=hO.n4
 have hn1:0<n:=hO.n1
 clear hf hO hB hD hC hQ hVb hVr hR hG hCz
 go_enter Try.func98,Try.ntmps98
 go_wp2_with fail
 clear mk hV hW d0 e0
 go_loopw [18] (fun x wr=> ∃ i:Nat,i≤k∧x = .int .i64 i∧RowIs wr C (rowV k (startV f R i)) 25∧RowIs wr w.heap.size #[.slice a m cap] 73∧RowIs wr (w.heap.size+1) (chRow k R G) 112∧RowIs wr (w.heap.size+1+1) (planRow fun _=>0) 77∧Below w.heap.size w wr) (fun x _=>k-(intOf x).toNat)
 case atStart=>exact ⟨0,Nat.zero_le _,rfl,HVr.out,HV3.out.1,HV3.out.2.1,HV3.out.2.2.1,HV3.out.2.2.2⟩
 case round=>
  obtain ⟨i,hi,rfl,hr,hd,hc,hq,hb⟩:=hrel
  by_cases hlt:i<k
  ·obtain ⟨r,hr0⟩ : ∃ r,R.getD i 0=r:=⟨_,rfl⟩
   have hrm:r<m:=by rw [← hr0]; exact HR.out _ (getD_mem (by omega))
   obtain ⟨b,off,rfl,hbs,hcs⟩:=Tab.at (HF.out wr hb) r hrm
   have c1:=hcs r hrm
   have d0:wr.cell? ⟨w.heap.size,0,none⟩=some (.slice (some ⟨b,off,none⟩) m cap):=RowIs.cell hd 0
   have dz:=hd.lt
   have e1:wr.cell? ⟨w.heap.size+1,1+i,none⟩=some (.int .i64 (r:Int)):=by rw [← hr0]; exact (RowIs.cell hc (1+i)).trans (chRow_r k R G i (by omega))
   have ez:=hc.lt
   have c4:wr.cell? ⟨C,i,none⟩=some (.slice none 0 0):=((RowIs.cell hr i).trans (rowV_get _ _ i hlt)).trans (by unfold startV; rw [if_neg (Nat.lt_irrefl _)])
   have c5:=RowIs.frozen hr i
   have cz:=hr.lt
   have hset:=rowV_set k (startV f R i) (startV f R (i+1)) i (.slice (f r).a (f r).n (f r).cap) (by unfold startV chosenF; rw [if_pos (by omega),hr0]; rfl) (fun j _ hj=>by unfold startV; by_cases h:j<i; { rw [if_pos h,if_pos (by omega)] }; { rw [if_neg h,if_neg (by omega)] })
   have Hr:=Lib.hid hr
   have Hd:=Lib.hid hd
   have Hc:=Lib.hid hc
   have Hq:=Lib.hid hq
   have Hb:=Lib.hid hb
   have Hset:=Lib.hid hset
   have i4:i<4:=by omega
   have i5:(i:Int)<4:=by omega
   clear hr hd hc hq hb hset hcs hr0
   go_wp2_with fail
   go_region
   all_goals
    go_wp2_with fail
    go_roundw
    case rel=>exact ⟨i+1,by omega,by go_num,by rw [← Hset.out]; exact (Hr.out.set i _),Hd.out.other i _ (by omega),Hc.out.other i _ (by omega),Hq.out.other i _ (by omega),(Hb.out.setCell (p:=⟨C,i,none⟩) (by show w.heap.size≤C; omega) _).drew⟩
    case measure=>simp [intOf]; omega
  ·obtain rfl:i=k:=by omega
   have hr':RowIs wr C (rowV i fun j=>hdV (chosenF f R j)) 25:=by rw [← rowV_same (h:=startV f R i) fun j hj=>if_pos hj]; exact hr
   obtain ⟨X,hX⟩ : ∃ X,wr.alloc (.cells #[.int .i64 0, .int .i64 0, .int .i64 0, .int .i64 0] 77)=X:=⟨_,rfl⟩
   have hXb:Below wr.heap.size wr X:=by rw [← hX]; exact Below.alloc1 (Below.refl _ _) _ (Nat.le_refl _)
   have hXp:RowIs X wr.heap.size (planRow (putR R (partI f R G) 0)) 77:=by rw [← hX]; exact heap_new_at _ _ _ rfl
   obtain ⟨P,hP⟩ : ∃ P,wr.heap.size=P:=⟨_,rfl⟩
   have hCP:C<P:=by rw [← hP]; exact hr.lt
   rw [hP] at hXb hXp
   have hX5:=Lib.hid (show RowIs X C (rowV i fun j=>hdV (chosenF f R j)) 25∧RowIs X w.heap.size #[.slice a m cap] 73∧RowIs X (w.heap.size+1) (chRow i R G) 112∧RowIs X (w.heap.size+1+1) (planRow fun _=>0) 77∧Below w.heap.size w X from ⟨(hXb.block _ (by omega)).trans hr',(hXb.block _ (by omega)).trans hd,(hXb.block _ (by omega)).trans hc,(hXb.block _ (by omega)).trans hq,hb.trans (hXb.mono (by omega))⟩)
   have HXp:=Lib.hid hXp
   have hXz:P<X.heap.size:=hXp.lt
   clear hr hr' hd hc hq hb hXb hXp
   go_wp2_with fail
   clear hX hP
   go_loopw [36] (fun x wr=> ∃ j:Nat,j≤i∧x = .int .i64 j∧RowIs wr P (planRow (putR R (partI f R G) j)) 77∧RowIs wr C (rowV i fun j=>hdV (chosenF f R j)) 25∧RowIs wr w.heap.size #[.slice a m cap] 73∧RowIs wr (w.heap.size+1) (chRow i R G) 112∧RowIs wr (w.heap.size+1+1) (planRow fun _=>0) 77∧Below w.heap.size w wr∧P<wr.heap.size) (fun x _=>i-(intOf x).toNat)
   case atStart=>exact ⟨0,Nat.zero_le _,rfl,HXp.out,hX5.out.1,hX5.out.2.1,hX5.out.2.2.1,hX5.out.2.2.2.1,hX5.out.2.2.2.2,hXz⟩
   case round=>
    obtain ⟨j,hj,rfl,hp,hr,hd,hc,hq,hb,hPz⟩:=hrel
    by_cases hlt:j<i
    ·obtain ⟨r,hr0⟩ : ∃ r,R.getD j 0=r:=⟨_,rfl⟩
     have hrm:r<m:=by rw [← hr0]; exact HR.out _ (getD_mem (by omega))
     have c1:wr.cell? ⟨C,j,none⟩=some (.slice (f r).a n (f r).cap):=by
      refine ((RowIs.cell hr j).trans (rowV_get _ _ j hlt)).trans ?_
      unfold chosenF hdV
      rw [hr0,HO.out.len r hrm]
     have cz:=hr.lt
     obtain ⟨Y,hY⟩ : ∃ Y,wr.alloc (.cells #[.int .i64 1] 2)=Y:=⟨_,rfl⟩
     have hYb:Below wr.heap.size wr Y:=by rw [← hY]; exact Below.alloc1 (Below.refl _ _) _ (Nat.le_refl _)
     have hYr:RowIs Y wr.heap.size #[.int .i64 1] 2:=by rw [← hY]; exact heap_new_at _ _ _ rfl
     have HRp:=Lib.hid (repeat_c wr.heap.size n _ Y hYr hn1 hn4)
     have Hp:=Lib.hid hp
     have Hr:=Lib.hid hr
     have Hd:=Lib.hid hd
     have Hc:=Lib.hid hc
     have Hq:=Lib.hid hq
     have Hb:=Lib.hid hb
     have HYb:=Lib.hid hYb
     have Hr0:=Lib.hid hr0
     clear hp hr hd hc hq hb hYb hYr hr0
     go_wp2_with fail
     refine HRp.out.mono ?_
     rintro e w2 ⟨⟨L,rfl,hL⟩,hb2⟩
     have hbz:=HYb.out.trans (hb2.mono HYb.out.size)
     clear hY HRp c1
     have hr2:=Hr.out.below hbz
     have c4:w2.cell? ⟨C,j,none⟩=some (.slice (f r).a n (f r).cap):=by
      refine ((RowIs.cell hr2 j).trans (rowV_get _ _ j hlt)).trans ?_
      unfold chosenF hdV
      rw [Hr0.out,HO.out.len r hrm]
     have c5:=RowIs.frozen hr2 j
     have cz2:=hr2.lt
     obtain ⟨Z,hZ⟩ : ∃ Z,w2.setCell ⟨C,j,none⟩ (.slice (some ⟨L,0,none⟩) n n)=Z:=⟨_,rfl⟩
     obtain ⟨F,hF⟩ : ∃ F:Nat→Row3,(fun s=>if s=j then onesR L n else chosenF f R s)=F:=⟨_,rfl⟩
     have hset:=rowV_set i (fun s=>hdV (chosenF f R s)) (fun s=>hdV (F s)) j (.slice (some ⟨L,0,none⟩) n n) (by rw [← hF]; simp [onesR,hdV]) (fun s _ hs=>by rw [← hF]; simp [hs])
     have hrZ:RowIs Z C (rowV i fun s=>hdV (F s)) 25:=by rw [← hZ, ← hset]; exact hr2.set j _
     have hLC:L ≠ C:=fun h=>by
      have e:=Option.some.inj (hr2.symm.trans (h ▸ hL:RowIs w2 C (rowA n fun _=>1) 2))
      injection e with _ h2 _
      exact absurd h2 (by decide)
     have hLZ:RowIs Z L (rowA n fun _=>1) 2:=by rw [← hZ]; exact hL.other j _ (fun h=>hLC h.symm)
     have hbZ:Below w.heap.size w Z:=by rw [← hZ]; exact (Hb.out.trans (hbz.mono (by omega))).setCell (p:=⟨C,j,none⟩) (by show w.heap.size≤C; omega) _
     have hpZ:RowIs Z P (planRow (putR R (partI f R G) j)) 77:=by rw [← hZ]; exact (Hp.out.below hbz).other j _ (by omega)
     have hdZ:RowIs Z w.heap.size #[.slice a m cap] 73:=by rw [← hZ]; exact (Hd.out.below hbz).other j _ (by omega)
     have hcZ:RowIs Z (w.heap.size+1) (chRow i R G) 112:=by rw [← hZ]; exact (Hc.out.below hbz).other j _ (by omega)
     have hqZ:RowIs Z (w.heap.size+1+1) (planRow fun _=>0) 77:=by rw [← hZ]; exact (Hq.out.below hbz).other j _ (by omega)
     have hzZ:P<Z.heap.size:=hpZ.lt
     have hM:Mild i n F:=fun s hs=>by
      rw [← hF]
      by_cases e:s=j
      ·simp only [if_pos e]
       exact ⟨rfl,fun _ _=>⟨show (-100:Int)≤1 by decide,show (1:Int)≤100 by decide⟩⟩
      ·simp only [if_neg e]
       have:R.getD s 0<m:=HR.out _ (getD_mem (by omega))
       exact ⟨HO.out.len _ this,HO.out.num _ this⟩
     have hdet:detP (rowsL F i) G=partI f R G j:=by
      rw [← hF,rowsL_set]
      unfold partI
      rw [hkk]
      rfl
     have HD:=Lib.hid (fun (x:Later Z)=>determinant_c i (some ⟨C,0,none⟩) i n F (some ⟨w.heap.size+1,5,none⟩) 4 G x.w hk (tab_rowV (hrZ.below x.h) fun s hs=>by
      rw [← hF]
      by_cases e:s=j
      ·simp only [if_pos e]
       exact rowA_ints (hLZ.below x.h)
      ·simp only [if_neg e]
       have h3:R.getD s 0<m:=HR.out _ (getD_mem (by omega))
       exact ((HF.out Z hbZ).below x.h).2 _ h3) (Nat.le_refl _) (by omega) hM (ch_lst (hcZ.below x.h) (by omega)) hl HG.out)
     rw [hdet] at HD
     obtain ⟨dt,hdt⟩ : ∃ dt,partI f R G j=dt:=⟨_,rfl⟩
     rw [hdt] at HD
     have e1:Z.cell? ⟨w.heap.size+1,1+j,none⟩=some (.int .i64 (r:Int)):=by rw [← Hr0.out]; exact (RowIs.cell hcZ (1+j)).trans (chRow_r i R G j (by omega))
     have e0:Z.cell? ⟨w.heap.size+1,0,none⟩=some (.int .i64 (i:Int)):=RowIs.cell hcZ 0
     have ez:=hcZ.lt
     have HpZ:=Lib.hid hpZ
     have HrZ:=Lib.hid hrZ
     have HdZ:=Lib.hid hdZ
     have HcZ:=Lib.hid hcZ
     have HqZ:=Lib.hid hqZ
     have HbZ:=Lib.hid hbZ
     have HFe:=Lib.hid hF
     have Hdt:=Lib.hid hdt
     have j4:j<4:=by omega
     have j5:(j:Int)<4:=by omega
     have r4:r<4:=by omega
     have r5:(r:Int)<4:=by omega
     have i4:(i:Int)≤4:=by omega
     clear hset hrZ hLZ hbZ hpZ hdZ hcZ hqZ hM hdet hdt hL hb2 hbz hr2 hF hLC
     go_wp2_with fail
     clear hZ c4 c5
     have hlc:=fun (x:Later Z)=>later_cell x
     refine wp_region_later_tail 11 (by kernel_rfl) (by kernel_rfl) ?_
     simp only [List.take_succ_cons,List.take_zero,List.drop_succ_cons,List.drop_zero]
     repeat (go_big_quiet_step ((with_reducible refine calls_later (HD.out _))))
     refine wpQuiet_nil ?_
     clear hlc e1 e0 HD
     rintro ⟨w3,hb3⟩
     dsimp only
     have hp3:=HpZ.out.below hb3
     have p0:w3.cell? ⟨P,r,none⟩=some (.int .i64 (putR R (partI f R G) j r)):=(RowIs.cell hp3 r).trans (planRow_at _ r r4)
     have p1:=RowIs.frozen hp3 r
     have pz:=hp3.lt
     have hr3:=HrZ.out.below hb3
     have hrow:=(putR_row R (partI f R G) j).resolve_right (by rw [Hr0.out]; omega)
     rw [Hr0.out,Hdt.out] at hrow
     obtain ⟨Z3,hZ3⟩ : ∃ Z3,w3.setCell ⟨P,r,none⟩ (.int .i64 dt)=Z3:=⟨_,rfl⟩
     have hp4:RowIs Z3 P (planRow (putR R (partI f R G) (j+1))) 77:=by rw [← hZ3, ← hrow]; exact hp3.set r _
     have hr4:RowIs Z3 C (rowV i fun s=>hdV (F s)) 25:=by rw [← hZ3]; exact hr3.other r _ (by omega)
     have hd4:RowIs Z3 w.heap.size #[.slice a m cap] 73:=by rw [← hZ3]; exact (HdZ.out.below hb3).other r _ (by omega)
     have hc4:RowIs Z3 (w.heap.size+1) (chRow i R G) 112:=by rw [← hZ3]; exact (HcZ.out.below hb3).other r _ (by omega)
     have hq4:RowIs Z3 (w.heap.size+1+1) (planRow fun _=>0) 77:=by rw [← hZ3]; exact (HqZ.out.below hb3).other r _ (by omega)
     have hb4:Below w.heap.size w Z3:=by rw [← hZ3]; exact (bup HbZ.out hb3).setCell (p:=⟨P,r,none⟩) (by show w.heap.size≤P; omega) _
     have c4:Z3.cell? ⟨C,j,none⟩=some (.slice (some ⟨L,0,none⟩) n n):=by
      refine ((RowIs.cell hr4 j).trans (rowV_get _ _ j hlt)).trans ?_
      rw [← HFe.out]
      simp [onesR,hdV]
     have c5:=RowIs.frozen hr4 j
     have cz4:=hr4.lt
     have hset2:=rowV_set i (fun s=>hdV (F s)) (fun s=>hdV (chosenF f R s)) j (.slice (f r).a (f r).n (f r).cap) (by unfold chosenF hdV; rw [Hr0.out]) (fun s _ hs=>by rw [← HFe.out]; simp [hs])
     have Hp4:=Lib.hid hp4
     have Hr4:=Lib.hid hr4
     have Hd4:=Lib.hid hd4
     have Hc4:=Lib.hid hc4
     have Hq4:=Lib.hid hq4
     have Hb4:=Lib.hid hb4
     have Hset2:=Lib.hid hset2
     have Hn:=Lib.hid (HO.out.len r hrm)
     clear hp3 hr3 hrow hp4 hr4 hd4 hc4 hq4 hb4 hset2 hb3
     go_wp2_with fail
     go_roundw
     case rel=>
      refine ⟨j+1,by omega,by go_num,Hp4.out.other j _ (by omega),?_,Hd4.out.other j _ (by omega),Hc4.out.other j _ (by omega),Hq4.out.other j _ (by omega),Hb4.out.setCell (p:=⟨C,j,none⟩) (by show w.heap.size≤C; omega) _,by have:=Hp4.out.lt; simpa using this⟩
      have h9:=Hr4.out.set j (.slice (f r).a (f r).n (f r).cap)
      rw [Hset2.out,Hn.out] at h9
      exact h9
     case measure=>simp [intOf]; omega
    ·obtain rfl:j=i:=by omega
     have hraw:putR R (partI f R G) j=rawP f R G:=by unfold rawP; rw [hkk]
     rw [hraw] at hp
     obtain ⟨p,hpe⟩ : ∃ p,rawP f R G=p:=⟨_,rfl⟩
     have hpb : ∀ s, -24000000≤p s∧p s≤24000000:=fun s=>by rw [← hpe]; exact rawP_bd HO.out HR.out HG.out (by omega) (by omega) s
     have HQ:=Lib.hid (show planQ f R G=quoP p by unfold planQ; rw [hpe])
     rw [hpe] at hp
     have HD:=Lib.hid (divisor_c (some ⟨P,0,none⟩) 4 4 p wr (row_ints4 hp) (by omega) fun s _=>by have:=hpb s; omega)
     obtain ⟨d,hde⟩ : ∃ d,divF p 4=d:=⟨_,rfl⟩
     have hd1:1≤d:=by rw [← hde]; exact div_pos p
     have hd2:d≤24000000:=by
      rw [← hde]
      have:=gcdF_bd p 24000000 4 fun i _=>by have:=hpb i; omega
      unfold divF; omega
     rw [hde] at HD
     have HM:=Lib.hid (fun (x:World) (h:Below wr.heap.size wr x)=>min64_c (some ⟨P,0,none⟩) 4 4 p x (row_ints4 (hp.below h)) (by omega) (by omega))
     obtain ⟨q,hqe⟩ : ∃ q,leastF p 4=q:=⟨_,rfl⟩
     rw [hqe] at HM
     have pz:=hp.lt
     have Hp:=Lib.hid hp
     have Hq:=Lib.hid hq
     have Hb:=Lib.hid hb
     have Hpb:=Lib.hid hpb
     have Hby:=Lib.hid (show byP p=if q<0 then -d else d by unfold byP leastP; rw [hqe,hde])
     clear hp hr hd hc hq hb hpb hpe hde hqe hraw
     go_wp2_with fail
     refine HD.out.mono ?_
     rintro e w1 ⟨rfl,z,hz⟩
     have hb1:Below wr.heap.size wr w1:=by rw [hz]; exact below_drewN (Below.refl _ _) z
     have pz1:=(Hp.out.below hb1).lt
     have Hb1:=Lib.hid hb1
     have HM1:=Lib.hid (HM.out w1 hb1)
     clear hz hb1 HD HM
     go_wp2_with fail
     refine HM1.out.mono ?_
     rintro e w2 ⟨rfl,rfl⟩
     clear HM1
     by_cases hq0:q<0
     ·have hnd:IntKind.i64.wrap (-d) = -d:=IntWalk.i64_in _ (by omega)
      have HB:=Lib.hid (show byP p = -d by rw [Hby.out,if_pos hq0])
      have hB0:(-d==0)=false:=beq_false_of_ne (by omega)
      have hB1:d ≠ 0:=by omega
      go_wp2_with fail
      clear hnd
      go_loopw [71] (fun x wr=> ∃ s:Nat,s≤4∧x = .int .i64 s∧RowIs wr P (planRow (quoK p s)) 77∧RowIs wr (w.heap.size+1+1) (planRow fun _=>0) 77∧Below w.heap.size w wr) (fun x _=>4-(intOf x).toNat)
      case atStart=>exact ⟨0,by omega,rfl,Hp.out.below Hb1.out,Hq.out.below Hb1.out,Hb.out.trans (Hb1.out.mono Hb.out.size)⟩
      case round=>
       obtain ⟨s,hs,rfl,hp,hq,hb⟩:=hrel
       by_cases hlt:s<4
       ·have c0:wr.cell? ⟨P,s,none⟩=some (.int .i64 (p s)):=((RowIs.cell hp s).trans (planRow_at _ s hlt)).trans (by unfold quoK; rw [if_neg (Nat.lt_irrefl _)])
        have c1:=RowIs.frozen hp s
        have cz:=hp.lt
        have htd:=tdiv_bd (b:=d) (Hpb.out s)
        have hw:IntKind.i64.wrap (-(p s).tdiv d) = -(p s).tdiv d:=IntWalk.i64_in _ (by omega)
        have hrow:=quoK_row p s hlt
        have hqs:quoP p s = -(p s).tdiv d:=by unfold quoP; rw [HB.out,Int.tdiv_neg]
        rw [hqs] at hrow
        have Hp2:=Lib.hid hp
        have Hq2:=Lib.hid hq
        have Hb2:=Lib.hid hb
        have Hrow:=Lib.hid hrow
        have s5:(s:Int)<4:=by omega
        clear hp hq hb hrow hqs htd
        go_wp2_with fail
        go_roundw
        case rel=>exact ⟨s+1,by omega,by go_num,by rw [← Hrow.out]; exact Hp2.out.set s _,Hq2.out.other s _ (by omega),Hb2.out.setCell (p:=⟨P,s,none⟩) (by show w.heap.size≤P; omega) _⟩
        case measure=>simp [intOf]; omega
       ·obtain rfl:s=4:=by omega
        have hpq:RowIs wr P (planRow (quoP p)) 77:=hp
        obtain ⟨v,hv⟩ : ∃ v,quoP p=v:=⟨_,rfl⟩
        rw [hv] at hpq
        have HM2:=Lib.hid (fun (x:World) (h:RowIs x P (planRow v) 77)=>min64_c (some ⟨P,0,none⟩) 4 4 v x (row_ints4 h) (by omega) (by omega))
        obtain ⟨m2,hm2⟩ : ∃ m2,leastF v 4=m2:=⟨_,rfl⟩
        rw [hm2] at HM2
        obtain ⟨z4,hz4⟩ : ∃ z4,zeroB4 v=z4:=⟨_,rfl⟩
        have heq : ∀ w,(Op.equalIn 10000 77 (.agg #[.int .i64 (v 0), .int .i64 (v 1), .int .i64 (v 2), .int .i64 (v 3)]) (.agg #[.int .i64 0, .int .i64 0, .int .i64 0, .int .i64 0])).run Try.prog w = .ok z4 w:=fun w=>by rw [← hz4]; exact eqPlan _ _ _ _ w
        have hres:planQ f R G=v:=by rw [HQ.out,hv]
        have hfo:foundB f R G=(decide (0≤m2) && !z4):=by unfold foundB leastP; rw [hres,hm2,hz4]
        obtain ⟨⟨g0,g1,g2,g3⟩,gz⟩:=row4 hpq
        obtain ⟨⟨q0,q1,q2,q3⟩,qz⟩:=row4 hq
        have Hpq:=Lib.hid hpq
        have Hq2:=Lib.hid hq
        have Hb2:=Lib.hid hb
        have Hres:=Lib.hid hres
        have Hfo:=Lib.hid hfo
        clear hp hpq hq hb hv hm2 hz4 hres hfo
        cases t0:decide (0≤m2) with
        | false=>
          have Hm0:=Lib.hid t0
          have hFC : ∀ y,Below wr.heap.size wr y→RowIs y P (planRow v) 77:=fun y hy=>Hpq.out.below hy
          go_wp2_with fail
          refine wp_region_runF (C:=fun y=>RowIs y P (planRow v) 77) (fun y=>Below wr.heap.size wr y) (by kernel_rfl) (stable_below wr) (Below.refl _ _) ?_
          change Run _ _ _ _ _ 11 _ _ _
          refine run_takeG (i:=0) (planV v) rfl (by kernel_rfl) (by kernel_rfl) (by kernel_rfl) hFC (quiet_yes _ (by rfl) fun y hy=>(by obtain ⟨⟨g0,g1,g2,g3⟩,gz⟩:=row4 hy; go_simp)) ?_
          simp only [puts]
          refine run_takeG (i:=1) (.slice (some ⟨P,0,none⟩) 4 4) rfl (by kernel_rfl) (by kernel_rfl) (by kernel_rfl) hFC (quiet_yes _ (by rfl) fun y hy=>(by obtain ⟨⟨g0,g1,g2,g3⟩,gz⟩:=row4 hy; go_simp)) ?_
          simp only [puts]
          refine run_takeG (i:=2) (.int .i64 m2) rfl (by kernel_rfl) (by kernel_rfl) (by kernel_rfl) hFC (quiet_of_walk rfl rfl (by show 83<90; decide) fun y hy K hK=>by
           simp only [List.getElem_toArray,List.getElem_cons_zero,List.getElem_cons_succ]
           have hm:=fun (x:Later y)=>HM2.out x.w (RowIs.below hy x.h)
           go_big_quiet_step ((with_reducible refine calls_later_same (hm _)))
           exact wpQuiet_nil hK) ?_
          simp only [puts]
          refine run_takeG (i:=3) (.bool false) rfl (by kernel_rfl) (by kernel_rfl) (by kernel_rfl) hFC (quiet_yes _ (by rfl) fun y hy=>(by go_simp)) ?_
          simp only [puts]
          refine run_takeG (i:=4) (.bool false) rfl (by kernel_rfl) (by kernel_rfl) (by kernel_rfl) hFC (quiet_yes _ (by rfl) fun y hy=>(by go_simp)) ?_
          simp only [puts]
          refine run_takeG (i:=5) undef rfl (by kernel_rfl) (by kernel_rfl) (by kernel_rfl) hFC (quiet_no (by rfl)) ?_
          simp only [puts]
          refine run_takeG (i:=6) undef rfl (by kernel_rfl) (by kernel_rfl) (by kernel_rfl) hFC (quiet_no (by rfl)) ?_
          simp only [puts]
          refine run_takeG (i:=7) undef rfl (by kernel_rfl) (by kernel_rfl) (by kernel_rfl) hFC (quiet_no (by rfl)) ?_
          simp only [puts]
          refine run_takeG (i:=8) (.bool false) rfl (by kernel_rfl) (by kernel_rfl) (by kernel_rfl) hFC (quiet_yes _ (by rfl) fun y hy=>(by go_simp)) ?_
          simp only [puts]
          refine run_only (i:=9) (by kernel_rfl) (at_store (fun y=>RowIs y P (planRow v) 77∧RowIs y (w.heap.size+1+1) (planRow v) 77∧Below w.heap.size w y) rfl rfl (fun y y1 h hb=>⟨h.1.below hb,h.2.1.below hb,h.2.2.trans (hb.mono h.2.2.size)⟩) (fun y h=>h.1) (fun y hy => ?_) ?_)
          ·have hq3:=Hq2.out.below hy
           obtain ⟨⟨q0,q1,q2,q3⟩,qz⟩:=row4 hq3
           have y0:=RowIs.frozen hq3 0
           have y1:=RowIs.frozen hq3 1
           have y2:=RowIs.frozen hq3 2
           have y3:=RowIs.frozen hq3 3
           refine ⟨(((y.setCell ⟨w.heap.size+1+1,0,none⟩ (.int .i64 (v 0))).setCell ⟨w.heap.size+1+1,1,none⟩ (.int .i64 (v 1))).setCell ⟨w.heap.size+1+1,2,none⟩ (.int .i64 (v 2))).setCell ⟨w.heap.size+1+1,3,none⟩ (.int .i64 (v 3)),(by go_simp),?_⟩
           refine ⟨((((hFC y hy).other 0 _ (by omega)).other 1 _ (by omega)).other 2 _ (by omega)).other 3 _ (by omega),(((hq3.set 0 (.int .i64 (v 0))).set 1 (.int .i64 (v 1))).set 2 (.int .i64 (v 2))).set 3 (.int .i64 (v 3)),?_⟩
           repeat (first | exact (Hb2.out.trans (hy.mono Hb2.out.size)) | (show w.heap.size≤w.heap.size+1+1; omega) | (refine Below.setCell ?_ ?_ _))
          simp only [puts]
          refine run_quiet (i:=10) (.bool false) (by kernel_rfl) rfl rfl (fun y _=>by go_simp) ?_
          simp only [puts]
          refine ⟨by kernel_rfl,fun y hy => ?_⟩
          obtain ⟨-,h2,h3⟩:=hy
          obtain ⟨⟨x0,x1,x2,x3⟩,xz⟩:=row4 h2
          have H3:=Lib.hid h3
          clear h2 h3
          go_wp2_with fail
          exact bodyPost_ret (v:= .tuple #[planV v, .bool false]) (by simp [results,Try.results98,go_sem,x0,x1,x2,x3]) rfl ⟨by rw [Hres.out,Hfo.out,Hm0.out]; rfl,H3.out⟩
        | true=>
          have Hm0:=Lib.hid t0
          have hFC : ∀ y,Below wr.heap.size wr y→RowIs y P (planRow v) 77:=fun y hy=>Hpq.out.below hy
          go_wp2_with fail
          refine wp_region_runF (C:=fun y=>RowIs y P (planRow v) 77) (fun y=>Below wr.heap.size wr y) (by kernel_rfl) (stable_below wr) (Below.refl _ _) ?_
          change Run _ _ _ _ _ 11 _ _ _
          refine run_takeG (i:=0) (planV v) rfl (by kernel_rfl) (by kernel_rfl) (by kernel_rfl) hFC (quiet_yes _ (by rfl) fun y hy=>(by obtain ⟨⟨g0,g1,g2,g3⟩,gz⟩:=row4 hy; go_simp)) ?_
          simp only [puts]
          refine run_takeG (i:=1) (.slice (some ⟨P,0,none⟩) 4 4) rfl (by kernel_rfl) (by kernel_rfl) (by kernel_rfl) hFC (quiet_yes _ (by rfl) fun y hy=>(by obtain ⟨⟨g0,g1,g2,g3⟩,gz⟩:=row4 hy; go_simp)) ?_
          simp only [puts]
          refine run_takeG (i:=2) (.int .i64 m2) rfl (by kernel_rfl) (by kernel_rfl) (by kernel_rfl) hFC (quiet_of_walk rfl rfl (by show 83<90; decide) fun y hy K hK=>by
           simp only [List.getElem_toArray,List.getElem_cons_zero,List.getElem_cons_succ]
           have hm:=fun (x:Later y)=>HM2.out x.w (RowIs.below hy x.h)
           go_big_quiet_step ((with_reducible refine calls_later_same (hm _)))
           exact wpQuiet_nil hK) ?_
          simp only [puts]
          refine run_takeG (i:=3) (.bool true) rfl (by kernel_rfl) (by kernel_rfl) (by kernel_rfl) hFC (quiet_yes _ (by rfl) fun y hy=>(by go_simp)) ?_
          simp only [puts]
          refine run_takeG (i:=4) (.bool true) rfl (by kernel_rfl) (by kernel_rfl) (by kernel_rfl) hFC (quiet_yes _ (by rfl) fun y hy=>(by go_simp)) ?_
          simp only [puts]
          refine run_takeG (i:=5) (planV v) rfl (by kernel_rfl) (by kernel_rfl) (by kernel_rfl) hFC (quiet_yes _ (by rfl) fun y hy=>(by obtain ⟨⟨g0,g1,g2,g3⟩,gz⟩:=row4 hy; go_simp)) ?_
          simp only [puts]
          refine run_takeG (i:=6) (planV fun _=>0) rfl (by kernel_rfl) (by kernel_rfl) (by kernel_rfl) hFC (quiet_yes _ (by rfl) fun y hy=>(by go_simp)) ?_
          simp only [puts]
          refine run_takeG (i:=7) (.bool (!z4)) rfl (by kernel_rfl) (by kernel_rfl) (by kernel_rfl) hFC (quiet_yes _ (by rfl) fun y hy=>(by go_simp)) ?_
          simp only [puts]
          refine run_takeG (i:=8) (.bool (!z4)) rfl (by kernel_rfl) (by kernel_rfl) (by kernel_rfl) hFC (quiet_yes _ (by rfl) fun y hy=>(by go_simp)) ?_
          simp only [puts]
          refine run_only (i:=9) (by kernel_rfl) (at_store (fun y=>RowIs y P (planRow v) 77∧RowIs y (w.heap.size+1+1) (planRow v) 77∧Below w.heap.size w y) rfl rfl (fun y y1 h hb=>⟨h.1.below hb,h.2.1.below hb,h.2.2.trans (hb.mono h.2.2.size)⟩) (fun y h=>h.1) (fun y hy => ?_) ?_)
          ·have hq3:=Hq2.out.below hy
           obtain ⟨⟨q0,q1,q2,q3⟩,qz⟩:=row4 hq3
           have y0:=RowIs.frozen hq3 0
           have y1:=RowIs.frozen hq3 1
           have y2:=RowIs.frozen hq3 2
           have y3:=RowIs.frozen hq3 3
           refine ⟨(((y.setCell ⟨w.heap.size+1+1,0,none⟩ (.int .i64 (v 0))).setCell ⟨w.heap.size+1+1,1,none⟩ (.int .i64 (v 1))).setCell ⟨w.heap.size+1+1,2,none⟩ (.int .i64 (v 2))).setCell ⟨w.heap.size+1+1,3,none⟩ (.int .i64 (v 3)),(by go_simp),?_⟩
           refine ⟨((((hFC y hy).other 0 _ (by omega)).other 1 _ (by omega)).other 2 _ (by omega)).other 3 _ (by omega),(((hq3.set 0 (.int .i64 (v 0))).set 1 (.int .i64 (v 1))).set 2 (.int .i64 (v 2))).set 3 (.int .i64 (v 3)),?_⟩
           repeat (first | exact (Hb2.out.trans (hy.mono Hb2.out.size)) | (show w.heap.size≤w.heap.size+1+1; omega) | (refine Below.setCell ?_ ?_ _))
          simp only [puts]
          refine run_quiet (i:=10) (.bool (!z4)) (by kernel_rfl) rfl rfl (fun y _=>by go_simp) ?_
          simp only [puts]
          refine ⟨by kernel_rfl,fun y hy => ?_⟩
          obtain ⟨-,h2,h3⟩:=hy
          obtain ⟨⟨x0,x1,x2,x3⟩,xz⟩:=row4 h2
          have H3:=Lib.hid h3
          clear h2 h3
          go_wp2_with fail
          exact bodyPost_ret (v:= .tuple #[planV v, .bool (!z4)]) (by simp [results,Try.results98,go_sem,x0,x1,x2,x3]) rfl ⟨by rw [Hres.out,Hfo.out,Hm0.out]; rfl,H3.out⟩
     ·obtain ⟨B,hB⟩ : ∃ B,d=B:=⟨_,rfl⟩
      subst hB
      have HB:=Lib.hid (show byP p=d by rw [Hby.out,if_neg hq0])
      have hB0:(d==0)=false:=beq_false_of_ne (by omega)
      have hB1:d ≠ 0:=by omega
      go_wp2_with fail
      go_loopw [71] (fun x wr=> ∃ s:Nat,s≤4∧x = .int .i64 s∧RowIs wr P (planRow (quoK p s)) 77∧RowIs wr (w.heap.size+1+1) (planRow fun _=>0) 77∧Below w.heap.size w wr) (fun x _=>4-(intOf x).toNat)
      case atStart=>exact ⟨0,by omega,rfl,Hp.out.below Hb1.out,Hq.out.below Hb1.out,Hb.out.trans (Hb1.out.mono Hb.out.size)⟩
      case round=>
       obtain ⟨s,hs,rfl,hp,hq,hb⟩:=hrel
       by_cases hlt:s<4
       ·have c0:wr.cell? ⟨P,s,none⟩=some (.int .i64 (p s)):=((RowIs.cell hp s).trans (planRow_at _ s hlt)).trans (by unfold quoK; rw [if_neg (Nat.lt_irrefl _)])
        have c1:=RowIs.frozen hp s
        have cz:=hp.lt
        have htd:=tdiv_bd (b:=d) (Hpb.out s)
        have hw:IntKind.i64.wrap ((p s).tdiv d)=(p s).tdiv d:=IntWalk.i64_in _ (by omega)
        have hrow:=quoK_row p s hlt
        have hqs:quoP p s=(p s).tdiv d:=by unfold quoP; rw [HB.out]
        rw [hqs] at hrow
        have Hp2:=Lib.hid hp
        have Hq2:=Lib.hid hq
        have Hb2:=Lib.hid hb
        have Hrow:=Lib.hid hrow
        have s5:(s:Int)<4:=by omega
        clear hp hq hb hrow hqs htd
        go_wp2_with fail
        go_roundw
        case rel=>exact ⟨s+1,by omega,by go_num,by rw [← Hrow.out]; exact Hp2.out.set s _,Hq2.out.other s _ (by omega),Hb2.out.setCell (p:=⟨P,s,none⟩) (by show w.heap.size≤P; omega) _⟩
        case measure=>simp [intOf]; omega
       ·obtain rfl:s=4:=by omega
        have hpq:RowIs wr P (planRow (quoP p)) 77:=hp
        obtain ⟨v,hv⟩ : ∃ v,quoP p=v:=⟨_,rfl⟩
        rw [hv] at hpq
        have HM2:=Lib.hid (fun (x:World) (h:RowIs x P (planRow v) 77)=>min64_c (some ⟨P,0,none⟩) 4 4 v x (row_ints4 h) (by omega) (by omega))
        obtain ⟨m2,hm2⟩ : ∃ m2,leastF v 4=m2:=⟨_,rfl⟩
        rw [hm2] at HM2
        obtain ⟨z4,hz4⟩ : ∃ z4,zeroB4 v=z4:=⟨_,rfl⟩
        have heq : ∀ w,(Op.equalIn 10000 77 (.agg #[.int .i64 (v 0), .int .i64 (v 1), .int .i64 (v 2), .int .i64 (v 3)]) (.agg #[.int .i64 0, .int .i64 0, .int .i64 0, .int .i64 0])).run Try.prog w = .ok z4 w:=fun w=>by rw [← hz4]; exact eqPlan _ _ _ _ w
        have hres:planQ f R G=v:=by rw [HQ.out,hv]
        have hfo:foundB f R G=(decide (0≤m2) && !z4):=by unfold foundB leastP; rw [hres,hm2,hz4]
        obtain ⟨⟨g0,g1,g2,g3⟩,gz⟩:=row4 hpq
        obtain ⟨⟨q0,q1,q2,q3⟩,qz⟩:=row4 hq
        have Hpq:=Lib.hid hpq
        have Hq2:=Lib.hid hq
        have Hb2:=Lib.hid hb
        have Hres:=Lib.hid hres
        have Hfo:=Lib.hid hfo
        clear hp hpq hq hb hv hm2 hz4 hres hfo
        cases t0:decide (0≤m2) with
        | false=>
          have Hm0:=Lib.hid t0
          have hFC : ∀ y,Below wr.heap.size wr y→RowIs y P (planRow v) 77:=fun y hy=>Hpq.out.below hy
          go_wp2_with fail
          refine wp_region_runF (C:=fun y=>RowIs y P (planRow v) 77) (fun y=>Below wr.heap.size wr y) (by kernel_rfl) (stable_below wr) (Below.refl _ _) ?_
          change Run _ _ _ _ _ 11 _ _ _
          refine run_takeG (i:=0) (planV v) rfl (by kernel_rfl) (by kernel_rfl) (by kernel_rfl) hFC (quiet_yes _ (by rfl) fun y hy=>(by obtain ⟨⟨g0,g1,g2,g3⟩,gz⟩:=row4 hy; go_simp)) ?_
          simp only [puts]
          refine run_takeG (i:=1) (.slice (some ⟨P,0,none⟩) 4 4) rfl (by kernel_rfl) (by kernel_rfl) (by kernel_rfl) hFC (quiet_yes _ (by rfl) fun y hy=>(by obtain ⟨⟨g0,g1,g2,g3⟩,gz⟩:=row4 hy; go_simp)) ?_
          simp only [puts]
          refine run_takeG (i:=2) (.int .i64 m2) rfl (by kernel_rfl) (by kernel_rfl) (by kernel_rfl) hFC (quiet_of_walk rfl rfl (by show 83<90; decide) fun y hy K hK=>by
           simp only [List.getElem_toArray,List.getElem_cons_zero,List.getElem_cons_succ]
           have hm:=fun (x:Later y)=>HM2.out x.w (RowIs.below hy x.h)
           go_big_quiet_step ((with_reducible refine calls_later_same (hm _)))
           exact wpQuiet_nil hK) ?_
          simp only [puts]
          refine run_takeG (i:=3) (.bool false) rfl (by kernel_rfl) (by kernel_rfl) (by kernel_rfl) hFC (quiet_yes _ (by rfl) fun y hy=>(by go_simp)) ?_
          simp only [puts]
          refine run_takeG (i:=4) (.bool false) rfl (by kernel_rfl) (by kernel_rfl) (by kernel_rfl) hFC (quiet_yes _ (by rfl) fun y hy=>(by go_simp)) ?_
          simp only [puts]
          refine run_takeG (i:=5) undef rfl (by kernel_rfl) (by kernel_rfl) (by kernel_rfl) hFC (quiet_no (by rfl)) ?_
          simp only [puts]
          refine run_takeG (i:=6) undef rfl (by kernel_rfl) (by kernel_rfl) (by kernel_rfl) hFC (quiet_no (by rfl)) ?_
          simp only [puts]
          refine run_takeG (i:=7) undef rfl (by kernel_rfl) (by kernel_rfl) (by kernel_rfl) hFC (quiet_no (by rfl)) ?_
          simp only [puts]
          refine run_takeG (i:=8) (.bool false) rfl (by kernel_rfl) (by kernel_rfl) (by kernel_rfl) hFC (quiet_yes _ (by rfl) fun y hy=>(by go_simp)) ?_
          simp only [puts]
          refine run_only (i:=9) (by kernel_rfl) (at_store (fun y=>RowIs y P (planRow v) 77∧RowIs y (w.heap.size+1+1) (planRow v) 77∧Below w.heap.size w y) rfl rfl (fun y y1 h hb=>⟨h.1.below hb,h.2.1.below hb,h.2.2.trans (hb.mono h.2.2.size)⟩) (fun y h=>h.1) (fun y hy => ?_) ?_)
          ·have hq3:=Hq2.out.below hy
           obtain ⟨⟨q0,q1,q2,q3⟩,qz⟩:=row4 hq3
           have y0:=RowIs.frozen hq3 0
           have y1:=RowIs.frozen hq3 1
           have y2:=RowIs.frozen hq3 2
           have y3:=RowIs.frozen hq3 3
           refine ⟨(((y.setCell ⟨w.heap.size+1+1,0,none⟩ (.int .i64 (v 0))).setCell ⟨w.heap.size+1+1,1,none⟩ (.int .i64 (v 1))).setCell ⟨w.heap.size+1+1,2,none⟩ (.int .i64 (v 2))).setCell ⟨w.heap.size+1+1,3,none⟩ (.int .i64 (v 3)),(by go_simp),?_⟩
           refine ⟨((((hFC y hy).other 0 _ (by omega)).other 1 _ (by omega)).other 2 _ (by omega)).other 3 _ (by omega),(((hq3.set 0 (.int .i64 (v 0))).set 1 (.int .i64 (v 1))).set 2 (.int .i64 (v 2))).set 3 (.int .i64 (v 3)),?_⟩
           repeat (first | exact (Hb2.out.trans (hy.mono Hb2.out.size)) | (show w.heap.size≤w.heap.size+1+1; omega) | (refine Below.setCell ?_ ?_ _))
          simp only [puts]
          refine run_quiet (i:=10) (.bool false) (by kernel_rfl) rfl rfl (fun y _=>by go_simp) ?_
          simp only [puts]
          refine ⟨by kernel_rfl,fun y hy => ?_⟩
          obtain ⟨-,h2,h3⟩:=hy
          obtain ⟨⟨x0,x1,x2,x3⟩,xz⟩:=row4 h2
          have H3:=Lib.hid h3
          clear h2 h3
          go_wp2_with fail
          exact bodyPost_ret (v:= .tuple #[planV v, .bool false]) (by simp [results,Try.results98,go_sem,x0,x1,x2,x3]) rfl ⟨by rw [Hres.out,Hfo.out,Hm0.out]; rfl,H3.out⟩
        | true=>
          have Hm0:=Lib.hid t0
          have hFC : ∀ y,Below wr.heap.size wr y→RowIs y P (planRow v) 77:=fun y hy=>Hpq.out.below hy
          go_wp2_with fail
          refine wp_region_runF (C:=fun y=>RowIs y P (planRow v) 77) (fun y=>Below wr.heap.size wr y) (by kernel_rfl) (stable_below wr) (Below.refl _ _) ?_
          change Run _ _ _ _ _ 11 _ _ _
          refine run_takeG (i:=0) (planV v) rfl (by kernel_rfl) (by kernel_rfl) (by kernel_rfl) hFC (quiet_yes _ (by rfl) fun y hy=>(by obtain ⟨⟨g0,g1,g2,g3⟩,gz⟩:=row4 hy; go_simp)) ?_
          simp only [puts]
          refine run_takeG (i:=1) (.slice (some ⟨P,0,none⟩) 4 4) rfl (by kernel_rfl) (by kernel_rfl) (by kernel_rfl) hFC (quiet_yes _ (by rfl) fun y hy=>(by obtain ⟨⟨g0,g1,g2,g3⟩,gz⟩:=row4 hy; go_simp)) ?_
          simp only [puts]
          refine run_takeG (i:=2) (.int .i64 m2) rfl (by kernel_rfl) (by kernel_rfl) (by kernel_rfl) hFC (quiet_of_walk rfl rfl (by show 83<90; decide) fun y hy K hK=>by
           simp only [List.getElem_toArray,List.getElem_cons_zero,List.getElem_cons_succ]
           have hm:=fun (x:Later y)=>HM2.out x.w (RowIs.below hy x.h)
           go_big_quiet_step ((with_reducible refine calls_later_same (hm _)))
           exact wpQuiet_nil hK) ?_
          simp only [puts]
          refine run_takeG (i:=3) (.bool true) rfl (by kernel_rfl) (by kernel_rfl) (by kernel_rfl) hFC (quiet_yes _ (by rfl) fun y hy=>(by go_simp)) ?_
          simp only [puts]
          refine run_takeG (i:=4) (.bool true) rfl (by kernel_rfl) (by kernel_rfl) (by kernel_rfl) hFC (quiet_yes _ (by rfl) fun y hy=>(by go_simp)) ?_
          simp only [puts]
          refine run_takeG (i:=5) (planV v) rfl (by kernel_rfl) (by kernel_rfl) (by kernel_rfl) hFC (quiet_yes _ (by rfl) fun y hy=>(by obtain ⟨⟨g0,g1,g2,g3⟩,gz⟩:=row4 hy; go_simp)) ?_
          simp only [puts]
          refine run_takeG (i:=6) (planV fun _=>0) rfl (by kernel_rfl) (by kernel_rfl) (by kernel_rfl) hFC (quiet_yes _ (by rfl) fun y hy=>(by go_simp)) ?_
          simp only [puts]
          refine run_takeG (i:=7) (.bool (!z4)) rfl (by kernel_rfl) (by kernel_rfl) (by kernel_rfl) hFC (quiet_yes _ (by rfl) fun y hy=>(by go_simp)) ?_
          simp only [puts]
          refine run_takeG (i:=8) (.bool (!z4)) rfl (by kernel_rfl) (by kernel_rfl) (by kernel_rfl) hFC (quiet_yes _ (by rfl) fun y hy=>(by go_simp)) ?_
          simp only [puts]
          refine run_only (i:=9) (by kernel_rfl) (at_store (fun y=>RowIs y P (planRow v) 77∧RowIs y (w.heap.size+1+1) (planRow v) 77∧Below w.heap.size w y) rfl rfl (fun y y1 h hb=>⟨h.1.below hb,h.2.1.below hb,h.2.2.trans (hb.mono h.2.2.size)⟩) (fun y h=>h.1) (fun y hy => ?_) ?_)
          ·have hq3:=Hq2.out.below hy
           obtain ⟨⟨q0,q1,q2,q3⟩,qz⟩:=row4 hq3
           have y0:=RowIs.frozen hq3 0
           have y1:=RowIs.frozen hq3 1
           have y2:=RowIs.frozen hq3 2
           have y3:=RowIs.frozen hq3 3
           refine ⟨(((y.setCell ⟨w.heap.size+1+1,0,none⟩ (.int .i64 (v 0))).setCell ⟨w.heap.size+1+1,1,none⟩ (.int .i64 (v 1))).setCell ⟨w.heap.size+1+1,2,none⟩ (.int .i64 (v 2))).setCell ⟨w.heap.size+1+1,3,none⟩ (.int .i64 (v 3)),(by go_simp),?_⟩
           refine ⟨((((hFC y hy).other 0 _ (by omega)).other 1 _ (by omega)).other 2 _ (by omega)).other 3 _ (by omega),(((hq3.set 0 (.int .i64 (v 0))).set 1 (.int .i64 (v 1))).set 2 (.int .i64 (v 2))).set 3 (.int .i64 (v 3)),?_⟩
           repeat (first | exact (Hb2.out.trans (hy.mono Hb2.out.size)) | (show w.heap.size≤w.heap.size+1+1; omega) | (refine Below.setCell ?_ ?_ _))
          simp only [puts]
          refine run_quiet (i:=10) (.bool (!z4)) (by kernel_rfl) rfl rfl (fun y _=>by go_simp) ?_
          simp only [puts]
          refine ⟨by kernel_rfl,fun y hy => ?_⟩
          obtain ⟨-,h2,h3⟩:=hy
          obtain ⟨⟨x0,x1,x2,x3⟩,xz⟩:=row4 h2
          have H3:=Lib.hid h3
          clear h2 h3
          go_wp2_with fail
          exact bodyPost_ret (v:= .tuple #[planV v, .bool (!z4)]) (by simp [results,Try.results98,go_sem,x0,x1,x2,x3]) rfl ⟨by rw [Hres.out,Hfo.out,Hm0.out]; rfl,H3.out⟩
end Go.Proofs.Ytkbbhihndigmeaa

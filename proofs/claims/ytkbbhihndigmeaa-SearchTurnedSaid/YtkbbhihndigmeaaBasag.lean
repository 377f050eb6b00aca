/- Contracts of layer 3: the least loss of a plan, and of what it is sure (the program). -/
import Derived.Test.YtkbbhihndigmeaaProg
import Derived.Test.YtkbbhihndigmeaaBasaa
import Derived.Test.YtkbbhihndigmeaaBasad
import Derived.Test.YtkbbhihndigmeaaBasaf
import Derived.Test.YtkbbhihndigmeaaBasac
import Derived.Deep.RegionHeld3
import Derived.Test.YtkbbhihndigmeaaBasae
import Derived.Laws.CopyOwn
import Derived.ArgAppend
import Derived.Deep.Upon
import Derived.Maps.AppendAt
import Derived.Shelf.Abstract
import Derived.Shelf.RegionOpen
import Derived.Conc.Own4
namespace Go.Proofs.Ytkbbhihndigmeaa
open Go Go.RowKit
set_option maxHeartbeats 1000000 in
theorem min64_c (a:Option Addr) (n cap:Nat) (g:Nat→Int) (w:World) (hg:Ints w a n g) (hn:0<n) (hl:n≤1048576) :
 Calls Try.prog 73 #[.slice a n cap] w fun e w'=>e = .returned (.int .i64 (leastF g n))∧w=w':=by
 obtain ⟨b,off,rfl,hbs,hc⟩:=Cells.at hg 0 hn
 have c0:w.cell? ⟨b,off,none⟩=some (.int .i64 (g 0)):=hc 0 hn
 have t1 : ¬ ((n:Int)<1):=by omega
 have HC:=Lib.hid hc
 have e1:leastF g 1=g 0:=by simp [leastF]
 have E1:=Lib.hid e1
 clear hc hg e1
 go_enter Try.func73,Try.ntmps73
 go_wp2
 go_loop [3,4] (fun m i=> ∃ k:Nat,0<k∧k≤n∧i = .int .i64 k∧m = .int .i64 (leastF g k)) (fun _ i=>n-(intOf i).toNat)
 case atStart=>exact ⟨1,by omega,by omega,rfl,by rw [E1.out]⟩
 case round=>
  obtain ⟨k,hk0,hk,rfl,rfl⟩:=hrel
  by_cases hlt:k<n
  ·have ck:=HC.out k hlt
   have e2:=leastF_if g k
   obtain ⟨x,hx⟩ : ∃ x,leastF g (k+1)=x:=⟨_,rfl⟩
   have e3:min (leastF g k) (g k)=x:=hx
   rw [hx] at e2
   have Hx:=Lib.hid hx
   clear hx
   go_wp2
   go_round
   case rel=>exact ⟨k+1,by omega,by omega,by go_num,by rw [Hx.out]⟩
   case measure=>simp [intOf]; omega
  ·obtain rfl:k=n:=by omega
   go_wp2
   go_ret
   exact ⟨rfl,rfl⟩
theorem width_c (a:Option Addr) (m n cap:Nat) (f:Nat→Row3) (w:World) (hf:Tab w a m f) (hm:0<m) (hn:(f 0).n=n) :
 Calls Try.prog 82 #[tabV a m cap] w fun e w'=>e = .returned (.int .i64 n)∧Below w.heap.size w w':=by
 obtain ⟨b,off,rfl,hbs,hc⟩:=Tab.at hf 0 hm
 have c0:=hc 0 hm
 rw [Nat.add_zero,hn] at c0
 have h1:(0:Int)<(m:Int):=by omega
 clear hc hf
 go_enter Try.func82,Try.ntmps82
 go_wp2
 go_ret
 exact ⟨rfl,Below.alloc1 (Below.refl _ _) _ (Nat.le_refl _)⟩
abbrev sumsV (g:Nat→Int):Value:= .agg #[.int .i64 (g 0), .int .i64 (g 1), .int .i64 (g 2), .int .i64 (g 3), .int .i64 (g 4)]
theorem rowA5 (g:Nat→Int):rowA 5 g = #[.int .i64 (g 0), .int .i64 (g 1), .int .i64 (g 2), .int .i64 (g 3), .int .i64 (g 4)]:=rfl
set_option maxHeartbeats 4000000 in
theorem least_c (a:Option Addr) (m n cap:Nat) (f:Nat→Row3) (g:Nat→Int) (w:World) (hf:Tab w a m f) (hO:Okay m n f) (h1 : -4611686018427387904≤leastF g n) (h2:leastF g n≤4611686018427387904) (h3:0<g 4) (h4:g 4≤4611686018427387904) :
 Calls Try.prog 84 #[tabV a m cap,sumsV g] w fun e w'=>e = .returned (ratV (leastF g n) (g 4))∧Below w.heap.size w w':=by
 obtain ⟨W,hW⟩ : ∃ W,((w.alloc (.cells #[.slice a m cap] 73)).alloc (.cells #[.int .i64 (g 0), .int .i64 (g 1), .int .i64 (g 2), .int .i64 (g 3), .int .i64 (g 4)] 100)).alloc (.cells #[.int .i64 0, .int .i64 0] 30)=W:=⟨_,rfl⟩
 have hB:Below w.heap.size w W:=by rw [← hW]; exact Below.alloc1 (Below.alloc1 (Below.alloc1 (Below.refl _ _) _ (Nat.le_refl _)) _ (Nat.le_refl _)) _ (Nat.le_refl _)
 have hR:RowIs W w.heap.size #[.slice a m cap] 73:=by rw [← hW]; exact RowIs.alloc (RowIs.alloc (heap_new_at _ _ _ rfl) _) _
 have hG:RowIs W (w.heap.size+1) (rowA 5 g) 100:=by rw [← hW]; exact RowIs.alloc (heap_new_at _ _ _ (by simp)) _
 have hQ:RowIs W (w.heap.size+1+1) #[.int .i64 0, .int .i64 0] 30:=by rw [← hW]; exact heap_new_at _ _ _ (by simp)
 have hn0:0<n:=hO.n1
 have hn4:=hO.n4
 have H1:=Lib.hid (fun (x:Later W)=>width_c a m n cap f x.w ((hf.below hB).below x.h) hO.m1 (hO.len 0 hO.m1))
 have H2:=Lib.hid (fun (x:Later W)=>min64_c (some ⟨w.heap.size+1,0,none⟩) n 5 g x.w ((rowA_ints (hG.below x.h)).imp (fun h=>by omega) (fun ⟨b,o,e,hl,hc⟩=>⟨b,o,e,hl,fun i hi=>hc i (by omega)⟩)) hn0 (by omega))
 obtain ⟨N,hN⟩ : ∃ N,leastF g n=N:=⟨_,rfl⟩
 rw [hN] at H2 h1 h2 ⊢
 have H3:=Lib.hid (fun (x:Later W)=>ratio_c N (g 4) x.w h1 h2 h3 h4)
 have r0:W.cell? ⟨w.heap.size,0,none⟩=some (.slice a m cap):=RowIs.cell hR 0
 have rz:=hR.lt
 have g4:W.cell? ⟨w.heap.size+1,4,none⟩=some (.int .i64 (g 4)):=(RowIs.cell hG 4).trans rfl
 have gz:=hG.lt
 have HQ:=Lib.hid hQ
 have HB:=Lib.hid hB
 obtain ⟨x,hx⟩ : ∃ x,ratN N (g 4)=x:=⟨_,rfl⟩
 obtain ⟨y,hy⟩ : ∃ y,ratD N (g 4)=y:=⟨_,rfl⟩
 unfold ratV at H3 ⊢
 rw [hx,hy] at H3 ⊢
 clear hf hO hR hG hQ hB hN h1 h2 h3 h4 hx hy
 go_enter Try.func84,Try.ntmps84
 have j1:(n:Int)≤5:=by omega
 have j2:n≤5:=by omega
 go_wp2_with fail
 have hlc:=fun (x:Later W)=>later_cell x
 refine wp_region_later_tail 7 (by kernel_rfl) (by kernel_rfl) ?_
 simp only [List.take_succ_cons,List.take_zero,List.drop_succ_cons,List.drop_zero]
 repeat (go_big_quiet_step ((first | (with_reducible refine calls_later (H1.out _)) | (with_reducible refine calls_later_same (H2.out _)) | (with_reducible refine calls_later (H3.out _)))))
 refine wpQuiet_nil ?_
 clear hlc H1 H2 H3 r0 g4
 rintro ⟨w1,hb1⟩
 have hQ1:=HQ.out.below hb1
 have q0:=RowIs.cell hQ1 0
 have q1:=RowIs.cell hQ1 1
 have z0:=RowIs.frozen hQ1 0
 have z1:=RowIs.frozen hQ1 1
 have qz:=hQ1.lt
 simp at q0 q1
 have HB1:=Lib.hid (bup HB.out hb1)
 have HQ1:=Lib.hid hQ1
 clear hQ1
 dsimp only
 clear hb1
 go_wp2_with fail
 have hQ4:=(HQ1.out.set 0 (.int .i64 x)).set 1 (.int .i64 y)
 have y0:=RowIs.cell hQ4 0
 have y1:=RowIs.cell hQ4 1
 simp at y0 y1
 exact bodyPost_ret (v:= .agg #[.int .i64 x, .int .i64 y]) (by simp [results,Try.results84,go_sem,y0,y1]) rfl ⟨rfl,(HB1.out.setCell (p:=⟨w.heap.size+1+1,0,none⟩) (by show w.heap.size≤w.heap.size+1+1; omega) _).setCell (p:=⟨w.heap.size+1+1,1,none⟩) (by show w.heap.size≤w.heap.size+1+1; omega) _⟩
theorem negative_c (x y:Int) (w:World) (h1 : -4611686018427387904≤x) (h2:x≤4611686018427387904) :
 Calls Try.prog 66 #[.agg #[.int .i64 x, .int .i64 y]] w fun e w'=>e = .returned (.agg #[.int .i64 (-x), .int .i64 y])∧Below w.heap.size w w':=by
 have hw:IntKind.i64.wrap (-x) = -x:=IntWalk.i64_in _ (by omega)
 go_enter Try.func66,Try.ntmps66
 go_wp2
 refine bodyPost_ret (v:= .agg #[.int .i64 (-x), .int .i64 y]) (by simp [results,Try.results66,go_sem]) rfl ⟨rfl,?_⟩
 repeat (first | exact Below.refl _ _ | exact Nat.le_refl _ | (show w.heap.size≤w.heap.size+1; omega) | (refine Below.setCell ?_ ?_ _) | (refine Below.alloc1 ?_ _ (Nat.le_refl _)))
end Go.Proofs.Ytkbbhihndigmeaa

namespace Go.Proofs.Ytkbbhihndigmeaa
open Go Go.RowKit
theorem loss_least {f:Nat→Row3} {m n:Nat} {p:Nat→Int} (hO:Okay m n f):leastF (lossF f n p m) n=sureN f m n p:=leastF_same hO.n1 fun _ hj=>if_pos hj
theorem loss_sum {f:Nat→Row3} {m n:Nat} {p:Nat→Int} (hO:Okay m n f):lossF f n p m 4=sumI p m:=by
 unfold lossF
 rw [if_neg (by have:=hO.n4; omega),if_pos rfl]
theorem sureN_bd {f:Nat→Row3} {m n:Nat} {p:Nat→Int} (hO:Okay m n f) (hb : ∀ i,i<m→0≤p i∧p i≤100000000) : -40000000000≤sureN f m n p∧sureN f m n p≤40000000000:=leastF_bd hO.n1 (ag_bd hO hb)
theorem sum_bd {m:Nat} {p:Nat→Int} (hm:m≤4) (hb : ∀ i,i<m→0≤p i∧p i≤100000000):sumI p m≤400000000:=by
 have:=sumI_bound hb m (Nat.le_refl _)
 omega
theorem row5 {w:World} {b:Nat} {g:Nat→Int} {T:TypeId} (h:RowIs w b (rowA 5 g) T) :
 (w.cell? ⟨b,0,none⟩=some (.int .i64 (g 0))∧w.cell? ⟨b,1,none⟩=some (.int .i64 (g 1))∧w.cell? ⟨b,2,none⟩=some (.int .i64 (g 2))∧w.cell? ⟨b,3,none⟩=some (.int .i64 (g 3))∧w.cell? ⟨b,4,none⟩=some (.int .i64 (g 4)))∧b<w.heap.size:=
 ⟨⟨h.cell 0,h.cell 1,h.cell 2,h.cell 3,h.cell 4⟩,h.lt⟩
theorem row4 {w:World} {b:Nat} {p:Nat→Int} {T:TypeId} (h:RowIs w b (planRow p) T) :
 (w.cell? ⟨b,0,none⟩=some (.int .i64 (p 0))∧w.cell? ⟨b,1,none⟩=some (.int .i64 (p 1))∧w.cell? ⟨b,2,none⟩=some (.int .i64 (p 2))∧w.cell? ⟨b,3,none⟩=some (.int .i64 (p 3)))∧b<w.heap.size:=
 ⟨⟨h.cell 0,h.cell 1,h.cell 2,h.cell 3⟩,h.lt⟩
set_option maxHeartbeats 4000000 in
theorem sure_c (a:Option Addr) (m n cap:Nat) (f:Nat→Row3) (p:Nat→Int) (w:World) (hf:Tab w a m f) (hO:Okay m n f) (hb : ∀ i,i<m→0≤p i∧p i≤100000000) (hs:sumI p m ≠ 0) :
 Calls Try.prog 63 #[tabV a m cap,planV p] w fun e w'=>e = .returned (ratV (sureN f m n p) (sumI p m))∧Below w.heap.size w w':=by
 obtain ⟨W,hW⟩ : ∃ W,(((w.alloc (.cells #[.slice a m cap] 73)).alloc (.cells #[.int .i64 (p 0), .int .i64 (p 1), .int .i64 (p 2), .int .i64 (p 3)] 77)).alloc (.cells #[.int .i64 0, .int .i64 0] 30)).alloc (.cells #[.int .i64 0, .int .i64 0, .int .i64 0, .int .i64 0, .int .i64 0] 100)=W:=⟨_,rfl⟩
 have hB:Below w.heap.size w W:=by rw [← hW]; exact Below.alloc1 (Below.alloc1 (Below.alloc1 (Below.alloc1 (Below.refl _ _) _ (Nat.le_refl _)) _ (Nat.le_refl _)) _ (Nat.le_refl _)) _ (Nat.le_refl _)
 have hR:RowIs W w.heap.size #[.slice a m cap] 73:=by rw [← hW]; exact RowIs.alloc (RowIs.alloc (RowIs.alloc (heap_new_at _ _ _ rfl) _) _) _
 have hP:RowIs W (w.heap.size+1) (planRow p) 77:=by rw [← hW]; exact RowIs.alloc (RowIs.alloc (heap_new_at _ _ _ (by simp)) _) _
 have hQ:RowIs W (w.heap.size+1+1) #[.int .i64 0, .int .i64 0] 30:=by rw [← hW]; exact RowIs.alloc (heap_new_at _ _ _ (by simp)) _
 have hS:RowIs W (w.heap.size+1+1+1) #[.int .i64 0, .int .i64 0, .int .i64 0, .int .i64 0, .int .i64 0] 100:=by rw [← hW]; exact heap_new_at _ _ _ (by simp)
 have HW:=Lib.hid (weigh_c a m n cap (w.heap.size+1+1+1) w.heap.size f p _ _ _ _ _ _ W (fun x h=>hf.below (hB.trans h)) (by omega) hB.size hO hb hS)
 have hbd:=sureN_bd hO hb
 have hsp:=sum_pos hb hs
 have hsb:=sum_bd hO.m4 hb
 have H1:=Lib.hid (fun (x:World) (h:Tab x a m f)=>least_c a m n cap f (lossF f n p m) x h hO (by rw [loss_least hO]; omega) (by rw [loss_least hO]; omega) (by rw [loss_sum hO]; omega) (by rw [loss_sum hO]; omega))
 rw [loss_least hO,loss_sum hO] at H1
 obtain ⟨r0, -⟩:W.cell? ⟨w.heap.size,0,none⟩=some (.slice a m cap)∧True:=⟨RowIs.cell hR 0,trivial⟩
 have rz:=hR.lt
 obtain ⟨⟨p0,p1,p2,p3⟩,pz⟩:=row4 hP
 have HF:=Lib.hid (fun (x:World) (h:Below w.heap.size w x)=>hf.below h)
 have HR:=Lib.hid hR
 have HQ:=Lib.hid hQ
 have HB:=Lib.hid hB
 obtain ⟨x,hx⟩ : ∃ x,ratN (sureN f m n p) (sumI p m)=x:=⟨_,rfl⟩
 obtain ⟨y,hy⟩ : ∃ y,ratD (sureN f m n p) (sumI p m)=y:=⟨_,rfl⟩
 unfold ratV at H1 ⊢
 rw [hx,hy] at H1 ⊢
 clear hf hO hb hs hB hR hP hQ hS hbd hsp hsb hx hy
 go_enter Try.func63,Try.ntmps63
 go_wp2_with fail
 refine HW.out.mono ?_
 rintro e w1 ⟨rfl,hs1,hg1⟩
 have hb1:=below_of_grown hg1 (B:=w.heap.size) (by omega) HB.out.size
 have hR1:RowIs w1 w.heap.size #[.slice a m cap] 73:=(hg1.block _ HR.out.lt (fun h=>by have:=Option.some.inj h; omega)).trans HR.out
 have hQ1:RowIs w1 (w.heap.size+1+1) #[.int .i64 0, .int .i64 0] 30:=(hg1.block _ HQ.out.lt (fun h=>by have:=Option.some.inj h; omega)).trans HQ.out
 have s0:w1.cell? ⟨w.heap.size,0,none⟩=some (.slice a m cap):=RowIs.cell hR1 0
 have sz:=hR1.lt
 obtain ⟨⟨g0,g1,g2,g3,g4⟩,gz⟩:=row5 hs1
 have HB1:=Lib.hid (HB.out.trans hb1)
 have HQ1:=Lib.hid hQ1
 clear hW HW hs1 hg1 hb1 hR1 hQ1 r0 rz p0 p1 p2 p3 pz
 go_wp2_with fail
 refine (H1.out w1 (HF.out w1 HB1.out)).mono ?_
 rintro e w2 ⟨rfl,hb2⟩
 have hQ2:=HQ1.out.below hb2
 have q0:=RowIs.cell hQ2 0
 have q1:=RowIs.cell hQ2 1
 have z0:=RowIs.frozen hQ2 0
 have z1:=RowIs.frozen hQ2 1
 have qz:=hQ2.lt
 simp at q0 q1
 have HB2:=Lib.hid (bup HB1.out hb2)
 have HQ2:=Lib.hid hQ2
 clear hQ2 hb2 g0 g1 g2 g3 g4 s0
 go_wp2_with fail
 have hQ4:=(HQ2.out.set 0 (.int .i64 x)).set 1 (.int .i64 y)
 have y0:=RowIs.cell hQ4 0
 have y1:=RowIs.cell hQ4 1
 simp at y0 y1
 exact bodyPost_ret (v:= .agg #[.int .i64 x, .int .i64 y]) (by simp [results,Try.results63,go_sem,y0,y1]) rfl ⟨rfl,(HB2.out.setCell (p:=⟨w.heap.size+1+1,0,none⟩) (by show w.heap.size≤w.heap.size+1+1; omega) _).setCell (p:=⟨w.heap.size+1+1,1,none⟩) (by show w.heap.size≤w.heap.size+1+1; omega) _⟩
end Go.Proofs.Ytkbbhihndigmeaa

namespace Go.Proofs.Ytkbbhihndigmeaa
open Go Go.RowKit
set_option maxHeartbeats 400000 in
theorem within_c (lo hi:Int) (a:Option Addr) (len cap:Nat) (f:Nat→Int) (w:World) (hf:Ints w a len f) (hl:len≤1048576) :
 Calls Try.prog 68 #[.int .i64 lo, .int .i64 hi, .slice a len cap] w fun e w'=>e = .returned (.bool (withinB lo hi f len))∧w=w':=by
 go_enter Try.func68,Try.ntmps68
 go_wp2
 go_loop [11] (fun i=> ∃ k:Nat,k≤len∧i = .int .i64 k∧withinB lo hi f k=true) (fun i=>len-(intOf i).toNat)
 case atStart=>exact ⟨0,Nat.zero_le _,rfl,rfl⟩
 case round=>
  obtain ⟨k,hk,rfl,ho⟩:=hrel
  have Ho:=Lib.hid ho
  clear ho
  by_cases hlt:k<len
  ·obtain ⟨b,off,rfl,hbs,hc⟩:=Cells.at hf k hlt
   have hck:=hc k hlt
   clear hc
   by_cases h1:f k<lo
   ·go_wp2
    go_ret
    exact ⟨ret_b (within_no lo hi f k len hlt (.inl h1)).symm,rfl⟩
   by_cases h2:hi<f k
   ·go_wp2
    go_ret
    exact ⟨ret_b (within_no lo hi f k len hlt (.inr h2)).symm,rfl⟩
   go_wp2
   go_round
   case rel=>exact ⟨k+1,by omega,by go_num,by simp only [withinB,Ho.out,Bool.true_and]; simp; omega⟩
   case measure=>simp [intOf]; omega
  ·go_wp2
   go_ret
   exact ⟨ret_b (by obtain rfl:k=len:=by omega
                    exact Ho.out.symm),rfl⟩
set_option maxHeartbeats 400000 in
theorem within64_c (lo hi:Int) (a:Option Addr) (len cap:Nat) (f:Nat→Int) (w:World) (hf:Ints w a len f) (hl:len≤1048576) :
 Calls Try.prog 69 #[.int .i64 lo, .int .i64 hi, .slice a len cap] w fun e w'=>e = .returned (.bool (withinB lo hi f len))∧w=w':=by
 go_enter Try.func69,Try.ntmps69
 go_wp2
 go_loop [11] (fun i=> ∃ k:Nat,k≤len∧i = .int .i64 k∧withinB lo hi f k=true) (fun i=>len-(intOf i).toNat)
 case atStart=>exact ⟨0,Nat.zero_le _,rfl,rfl⟩
 case round=>
  obtain ⟨k,hk,rfl,ho⟩:=hrel
  have Ho:=Lib.hid ho
  clear ho
  by_cases hlt:k<len
  ·obtain ⟨b,off,rfl,hbs,hc⟩:=Cells.at hf k hlt
   have hck:=hc k hlt
   clear hc
   by_cases h1:f k<lo
   ·go_wp2
    go_ret
    exact ⟨ret_b (within_no lo hi f k len hlt (.inl h1)).symm,rfl⟩
   by_cases h2:hi<f k
   ·go_wp2
    go_ret
    exact ⟨ret_b (within_no lo hi f k len hlt (.inr h2)).symm,rfl⟩
   go_wp2
   go_round
   case rel=>exact ⟨k+1,by omega,by go_num,by simp only [withinB,Ho.out,Bool.true_and]; simp; omega⟩
   case measure=>simp [intOf]; omega
  ·go_wp2
   go_ret
   exact ⟨ret_b (by obtain rfl:k=len:=by omega
                    exact Ho.out.symm),rfl⟩
theorem within1 (x lo hi:Int):withinB lo hi (fun i=>[x].getD i 0) 1=decide (lo≤x∧x≤hi):=by simp [withinB]
theorem within1_c (lo hi x:Int) (w:World) (s:Nat) (hs:w.heap.size=s) (T:TypeId) :
 Calls Try.prog 68 #[.int .i64 lo, .int .i64 hi, .slice (some ⟨s,0,none⟩) 1 1] (w.alloc (.cells #[.int .i64 x] T)) fun e w'=>e = .returned (.bool (decide (lo≤x∧x≤hi)))∧w.alloc (.cells #[.int .i64 x] T)=w':=by
 subst hs
 have hi1:=ints_new w T (0,0) [x]
 have:=within_c lo hi (some ⟨w.heap.size,0,none⟩) 1 1 (fun i=>[x].getD i 0) _ hi1 (by omega)
 rw [within1] at this
 exact this
theorem allB_within (g:Nat→Int) (n:Nat):allB (fun j=>decide (-100≤g j∧g j≤100)) n=withinB (-100) 100 g n:=by
 induction n with
 | zero=>rfl
 | succ n ih=>rw [allB,withinB,ih]
set_option maxHeartbeats 8000000 in
theorem CheckTable_c (a:Option Addr) (n cap:Nat) (f:Nat→Row3) (w:World) (hf:Tab w a n f) (hn:n≤1048576) (hr : ∀ i,i<n→(f i).n≤1048576) :
 Calls Try.prog 23 #[tabV a n cap] w fun e w'=>e = .returned (.int .i64 (tableE n f))∧Below w.heap.size w w':=by
 obtain ⟨W,hW⟩ : ∃ W,w.alloc (.cells #[.slice a n cap] 24)=W:=⟨_,rfl⟩
 have hB:Below w.heap.size w W:=by rw [← hW]; exact Below.alloc1 (Below.refl _ _) _ (Nat.le_refl _)
 have hR:RowIs W w.heap.size #[.slice a n cap] 24:=by rw [← hW]; exact heap_new_at _ _ _ rfl
 have r0:W.cell? ⟨w.heap.size,0,none⟩=some (.slice a n cap):=RowIs.cell hR 0
 have rz:w.heap.size<W.heap.size:=(Array.getElem?_eq_some_iff.1 hR).1
 have HF:=Lib.hid (hf.below hB)
 have HB:=Lib.hid hB
 clear hf hB
 obtain ⟨X,hX⟩ : ∃ X,W.alloc (.cells #[.int .i64 (n:Int)] 3)=X:=⟨_,rfl⟩
 have hXb:Below W.heap.size W X:=by rw [← hX]; exact Below.alloc1 (Below.refl _ _) _ (Nat.le_refl _)
 have k1:=within1_c 1 4 (n:Int) W _ rfl 3
 rw [hX] at k1
 have HXb:=Lib.hid hXb
 have x0:X.cell? ⟨w.heap.size,0,none⟩=some (.slice a n cap):=(hXb.cell (p:=⟨w.heap.size,0,none⟩) rz).trans r0
 have xz:w.heap.size<X.heap.size:=Nat.lt_of_lt_of_le rz hXb.size
 have K1:=Lib.hid k1
 clear hXb k1 hR
 cases h1:decide (1≤(n:Int)∧(n:Int)≤4) with
 | false=>
   rw [h1] at K1
   have ev:tableE n f=6:=tableE_len (by have:=of_decide_eq_false h1; omega)
   rw [ev]
   clear h1 ev
   go_enter Try.func23,Try.ntmps23
   go_wp2_with fail
   refine K1.out.mono ?_
   rintro e w1 ⟨rfl,rfl⟩
   go_wp2_with fail
   go_ret
   exact ⟨rfl,bup HB.out HXb.out⟩
 | true=>
   rw [h1] at K1
   have h11:1≤n∧n≤4:=by have:=of_decide_eq_true h1; omega
   clear h1
   go_enter Try.func23,Try.ntmps23
   go_wp2_with fail
   refine K1.out.mono ?_
   rintro e w1 ⟨rfl,rfl⟩
   clear K1
   go_wp2_with fail
   go_loopw [18] (fun i wr=> ∃ k:Nat,k≤n∧i = .int .i64 k∧allB (lenB f) k=true∧Below W.heap.size W wr) (fun i _=>n-(intOf i).toNat)
   case atStart=>exact ⟨0,Nat.zero_le _,rfl,rfl,HXb.out⟩
   case round=>
    obtain ⟨k,hk,rfl,ho,hbw⟩:=hrel
    have Ho:=Lib.hid ho
    have Hbw:=Lib.hid hbw
    have hT:=HF.out.below hbw
    have s0:wr.cell? ⟨w.heap.size,0,none⟩=some (.slice a n cap):=(hbw.cell (p:=⟨w.heap.size,0,none⟩) rz).trans r0
    have sz:w.heap.size<wr.heap.size:=Nat.lt_of_lt_of_le rz hbw.size
    obtain ⟨b,off,rfl,hbs,hc⟩:=Tab.at hT 0 (by omega)
    have hk0:0<n:=by omega
    have HCk:=Lib.hid hc
    have HT:=Lib.hid hT
    clear ho hbw hc hT
    by_cases hlt:k<n
    ·have hck:=HCk.out k hlt
     obtain ⟨Y,hY⟩ : ∃ Y,wr.alloc (.cells #[.int .i64 ((f k).n:Int)] 3)=Y:=⟨_,rfl⟩
     have hYb:Below wr.heap.size wr Y:=by rw [← hY]; exact Below.alloc1 (Below.refl _ _) _ (Nat.le_refl _)
     have k1:=within1_c 1 4 ((f k).n:Int) wr _ rfl 3
     rw [hY] at k1
     have K1:=Lib.hid k1
     have HYb:=Lib.hid hYb
     clear k1 hYb
     cases h1:decide (1≤((f k).n:Int)∧((f k).n:Int)≤4) with
     | false=>
       rw [h1] at K1
       have ev:tableE n f=6:=tableE_row hlt (by have:=of_decide_eq_false h1; omega)
       have Ev:=Lib.hid ev
       clear h1 ev
       go_wp2_with fail
       refine K1.out.mono ?_
       rintro e w1 ⟨rfl,rfl⟩
       go_wp2_with fail
       go_ret
       exact ⟨by rw [Ev.out]; rfl,bup HB.out (bup Hbw.out HYb.out)⟩
     | true=>
       rw [h1] at K1
       have Hl:=Lib.hid (show lenB f k=true from decide_eq_true (by have:=of_decide_eq_true h1; omega))
       clear h1
       go_wp2_with fail
       refine K1.out.mono ?_
       rintro e w1 ⟨rfl,rfl⟩
       go_wp2_with fail
       go_roundw
       case rel=>exact ⟨k+1,by omega,by go_num,by rw [allB,Ho.out,Hl.out]; rfl,bup Hbw.out HYb.out⟩
       case measure=>simp [intOf]; omega
    ·obtain rfl:k=n:=by omega
     have hck0:=HCk.out 0 hk0
     rw [Nat.add_zero] at hck0
     go_wp2
     go_loop [31] (fun i=> ∃ j:Nat,j≤k∧i = .int .i64 j∧allB (sameB f) j=true) (fun i=>k-(intOf i).toNat)
     case atStart=>exact ⟨0,Nat.zero_le _,rfl,rfl⟩
     case round=>
      obtain ⟨j,hj,rfl,ho⟩:=hrel
      have Hs:=Lib.hid ho
      clear ho
      by_cases hlt:j<k
      ·have hck:=HCk.out j hlt
       by_cases h2:(f j).n=(f 0).n
       ·have t0:((((f j).n:Nat):Int) != (((f 0).n:Nat):Int))=false:=by simp [h2]
        have Hq:=Lib.hid (show sameB f j=true from decide_eq_true h2)
        clear h2
        go_wp2
        go_round
        case rel=>exact ⟨j+1,by omega,by go_num,by rw [allB,Hs.out,Hq.out]; rfl⟩
        case measure=>simp [intOf]; omega
       ·have Ev:=Lib.hid (show tableE k f=15 from tableE_same h11 Ho.out hlt h2)
        have t0:((((f j).n:Nat):Int) != (((f 0).n:Nat):Int))=true:=by simp; omega
        clear h2
        go_wp2
        go_ret
        exact ⟨by rw [Ev.out]; rfl,bup HB.out Hbw.out⟩
      ·obtain rfl:j=k:=by omega
       clear hck0
       go_wp2
       go_loop [47] (fun i=> ∃ r:Nat,r≤j∧i = .int .i64 r∧allB (numB f) r=true) (fun i=>j-(intOf i).toNat)
       case atStart=>exact ⟨0,Nat.zero_le _,rfl,rfl⟩
       case round=>
        obtain ⟨r,hr2,rfl,ho⟩:=hrel
        have Hn:=Lib.hid ho
        clear ho
        by_cases hlt:r<j
        ·have hck:=HCk.out r hlt
         have hw:=within64_c (-100) 100 (f r).a (f r).n (f r).cap (f r).g wr (HT.out.2 r hlt) (hr r hlt)
         rw [← allB_within] at hw
         have HW:=Lib.hid hw
         clear hw
         cases h2:numB f r with
         | true=>
           rw [show allB (fun j=>decide (-100≤(f r).g j∧(f r).g j≤100)) (f r).n=true from h2] at HW
           have Hq:=Lib.hid h2
           clear h2
           go_wp2_with fail
           refine HW.out.mono ?_
           rintro e w1 ⟨rfl,rfl⟩
           go_wp2_with fail
           go_round
           case rel=>exact ⟨r+1,by omega,by go_num,by rw [allB,Hn.out,Hq.out]; rfl⟩
           case measure=>simp [intOf]; omega
         | false=>
           rw [show allB (fun j=>decide (-100≤(f r).g j∧(f r).g j≤100)) (f r).n=false from h2] at HW
           have Ev:=Lib.hid (show tableE j f=3 by unfold tableE; rw [if_pos h11,if_pos Ho.out,if_pos Hs.out,allB_no hlt h2]; rfl)
           clear h2
           go_wp2_with fail
           refine HW.out.mono ?_
           rintro e w1 ⟨rfl,rfl⟩
           go_wp2_with fail
           go_ret
           exact ⟨by rw [Ev.out]; rfl,bup HB.out Hbw.out⟩
        ·obtain rfl:r=j:=by omega
         have Ev:=Lib.hid (show tableE r f=0 from tableE_yes h11 Ho.out Hs.out Hn.out)
         go_wp2
         go_ret
         exact ⟨by rw [Ev.out]; rfl,bup HB.out Hbw.out⟩
end Go.Proofs.Ytkbbhihndigmeaa

namespace Go.Proofs.Ytkbbhihndigmeaa
open Go Go.RowKit
theorem step_append_known {P:Program} {w w':World} {ops:Array Oper} {o:Oper} {a:Act} {K:Act→World→Prop} {Q:Exit→Act→World→Prop} {E:Prop} {v1 v2 v:Value} (hgd:o.guard=none) (s x:Operand) (t:TypeId)
 (hop:o.op = .call { callee:= .builtin .append,args := #[s,x],argTypes := #[t,t] }) (hs:a.eval s=v1) (hx:a.eval x=v2) (hrun:(Builtin.append_ #[t,t] o.type #[v1,v2]).run P w = .ok v w') (hK:K (a.put o.dst v) w') :
 if Region.wanted o (yielded ops a.tmps)=true then Oper.wp P o a w K Q else E:=by
 have hw:Region.wanted o (yielded ops a.tmps)=true:=by simp [Region.wanted,hgd]
 rw [if_pos hw]
 unfold Oper.wp
 simp [execOp,hop,resolve,invoke,builtin,hs,hx,hrun,Result.andThen]
 exact hK
theorem rowL_at {w:World} {L:Nat} {vs:List Value} {T:TypeId} (h:RowIs w L vs.toArray T) (j:Nat) (hj:j<vs.length):w.cell? ⟨L,j,none⟩=some (vs.getD j undef):=by
 rw [h.cell j,List.getElem?_toArray,List.getElem?_eq_getElem hj,List.getD_eq_getElem?_getD,List.getElem?_eq_getElem hj]
 rfl
theorem ownV_row {w:World} {L B n:Nat} {vs:List Value} {T:TypeId} (h:RowIs w L vs.toArray T) (hn:vs.length=n) (hB:B≤L) (hm:n≤1048576):OwnV T w B vs (.slice (some ⟨L,0,none⟩) n n):=by
 subst hn
 exact ⟨by simp, .inr ⟨L,vs.length,vs.toArray,rfl,hB,h,Nat.le_refl _,by unfold maxLen; omega,by simp,by simp⟩⟩
structure Cols (w:World) (f:Nat→Row3) (L D n:Nat) (c:Nat→Nat) (vs:List Value):Prop where
 len:vs.length=n
 row:RowIs w L vs.toArray 25
 own : ∀ j,j<n→OwnV 2 w D (colL f j (c j)) (vs.getD j undef)
 apart : ∀ j k b,j<n→k<n→(vs.getD j undef).ownBlock=some b→(vs.getD k undef).ownBlock=some b→j=k
theorem Cols.below {w w':World} {f:Nat→Row3} {L D n:Nat} {c:Nat→Nat} {vs:List Value} (h:Cols w f L D n c vs) (hb:Below w.heap.size w w'):Cols w' f L D n c vs:=⟨h.len,h.row.below hb,fun j hj=>(h.own j hj).below hb,h.apart⟩
theorem Cols.same {w:World} {f:Nat→Row3} {L D n:Nat} {c d:Nat→Nat} {vs:List Value} (h:Cols w f L D n c vs) (e : ∀ j,j<n→c j=d j):Cols w f L D n d vs:=⟨h.len,h.row,fun j hj=>e j hj ▸ h.own j hj,h.apart⟩
theorem getD_set {vs:List Value} {j k:Nat} {v d:Value} (hj:j<vs.length):(vs.set j v).getD k d=if k=j then v else vs.getD k d:=by
 rw [List.getD_eq_getElem?_getD,List.getD_eq_getElem?_getD,List.getElem?_set]
 by_cases h:j=k
 ·subst h
  simp [hj]
 ·rw [if_neg h,if_neg fun e=>h e.symm]
theorem Cols.step {w A:World} {f:Nat→Row3} {L D n:Nat} {c:Nat→Nat} {vs:List Value} (h:Cols w f L D n c vs) {j:Nat} (hj:j<n) {v:Value} (hg:w.grownBy A (vs.getD j undef).ownBlock) (ho:OwnV 2 A D (colL f j (c j+1)) v) (hv:v.ownBlock=(vs.getD j undef).ownBlock∨v.ownBlock=some w.heap.size) :
 RowIs A L vs.toArray 25∧Cols (A.setCell ⟨L,j,none⟩ v) f L D n (fun i=>if i=j then c j+1 else c i) (vs.set j v):=by
 have hr:RowIs A L vs.toArray 25:=(h.own j hj).other hg h.row (by decide)
 have hjl:j<vs.length:=by rw [h.len]; exact hj
 have hnew : ∀ i,i<n→i ≠ j → ∀ b,(vs.getD i undef).ownBlock=some b→v.ownBlock=some b→False:=fun i hi hij b h1 h2=>by
  rcases hv with h3 | h3
  ·rw [h3] at h2
   exact hij (h.apart i j b hi hj h1 h2)
  ·rw [h3] at h2
   have:=((h.own i hi).lt h1).2
   have:=Option.some.inj h2
   omega
 refine ⟨hr,by rw [List.length_set]; exact h.len,?_,fun i hi => ?_,fun i k b hi hk h1 h2 => ?_⟩
 ·have:=hr.set j v
  rw [List.setIfInBounds_toArray] at this
  exact this
 ·rw [getD_set hjl]
  by_cases e:i=j
  ·subst e
   rw [if_pos rfl,if_pos rfl]
   exact ho.far hr (by decide)
  ·rw [if_neg e,if_neg e]
   refine (OwnV.block (h.own i hi) fun g hgi=>hg.block g ((h.own i hi).lt hgi).2 fun he=>e ?_).far hr (by decide)
   exact h.apart i j g hi hj hgi he.symm
 ·rw [getD_set hjl] at h1 h2
  by_cases e1:i=j
  ·by_cases e2:k=j
   ·rw [e1,e2]
   ·rw [if_pos e1] at h1
    rw [if_neg e2] at h2
    exact (hnew k hk e2 b h2 h1).elim
  ·by_cases e2:k=j
   ·rw [if_neg e1] at h1
    rw [if_pos e2] at h2
    exact (hnew i hi e1 b h1 h2).elim
   ·rw [if_neg e1] at h1
    rw [if_neg e2] at h2
    exact h.apart i k b hi hk h1 h2
theorem Cols.far {w:World} {f:Nat→Row3} {L D n:Nat} {c:Nat→Nat} {vs:List Value} (h:Cols w f L D n c vs) {bb o:Nat} {u:Value} {cs:Array Value} {T:TypeId} (hr:RowIs w bb cs T) (hT:T ≠ 2) (hb:bb ≠ L):Cols (w.setCell ⟨bb,o,none⟩ u) f L D n c vs:=
 ⟨h.len,h.row.other o u hb,fun j hj=>(h.own j hj).far hr hT,h.apart⟩
theorem Cols.drew {w:World} {f:Nat→Row3} {L D n:Nat} {c:Nat→Nat} {vs:List Value} (h:Cols w f L D n c vs):Cols w.drew f L D n c vs:=h.below (Below.drew (Below.refl _ _))
theorem Cols.other {w A:World} {f:Nat→Row3} {L D n:Nat} {c:Nat→Nat} {vs:List Value} (h:Cols w f L D n c vs) {j:Nat} (hj:j<n) (hg:w.grownBy A (vs.getD j undef).ownBlock) {bb:Nat} {cs:Array Value} {T:TypeId} (hr:RowIs w bb cs T) (hT:T ≠ 2):RowIs A bb cs T:=(h.own j hj).other hg hr hT
theorem make_rows : ∀ (s:Nat) (_:s≤4) (w:World),(Instr.makeSlice 22 (.int .i64 (s:Int)) (.int .i64 (s:Int))).run Try.prog w = .ok (.slice (some ⟨w.heap.size,0,none⟩) s s) (w.alloc (.cells (Array.replicate s (Value.slice none 0 0)) 25))
 | 0,_,w=>by
   have h:(Instr.makeSlice 22 (.int .i64 0) (.int .i64 0)).run Try.prog w = .ok (.slice (some ⟨w.heap.size,0,none⟩) 0 0) (w.alloc (.cells (Array.replicate 0 (Value.slice none 0 0)) 25)):=by kernel_rfl
   exact h
 | 1,_,w=>by
   have h:(Instr.makeSlice 22 (.int .i64 1) (.int .i64 1)).run Try.prog w = .ok (.slice (some ⟨w.heap.size,0,none⟩) 1 1) (w.alloc (.cells (Array.replicate 1 (Value.slice none 0 0)) 25)):=by kernel_rfl
   exact h
 | 2,_,w=>by
   have h:(Instr.makeSlice 22 (.int .i64 2) (.int .i64 2)).run Try.prog w = .ok (.slice (some ⟨w.heap.size,0,none⟩) 2 2) (w.alloc (.cells (Array.replicate 2 (Value.slice none 0 0)) 25)):=by kernel_rfl
   exact h
 | 3,_,w=>by
   have h:(Instr.makeSlice 22 (.int .i64 3) (.int .i64 3)).run Try.prog w = .ok (.slice (some ⟨w.heap.size,0,none⟩) 3 3) (w.alloc (.cells (Array.replicate 3 (Value.slice none 0 0)) 25)):=by kernel_rfl
   exact h
 | 4,_,w=>by
   have h:(Instr.makeSlice 22 (.int .i64 4) (.int .i64 4)).run Try.prog w = .ok (.slice (some ⟨w.heap.size,0,none⟩) 4 4) (w.alloc (.cells (Array.replicate 4 (Value.slice none 0 0)) 25)):=by kernel_rfl
   exact h
 | n+5,h,_=>absurd h (by omega)
theorem cols_start {w:World} {f:Nat→Row3} {L D n:Nat} (h:RowIs w L (Array.replicate n (Value.slice none 0 0)) 25):Cols w f L D n (fun _=>0) (List.replicate n (Value.slice none 0 0)):=by
 rw [← List.toArray_replicate] at h
 refine ⟨by simp,h,fun j hj => ?_,fun j k b hj _ h1 _ => ?_⟩
 ·have e:(List.replicate n (Value.slice none 0 0)).getD j undef = .slice none 0 0:=by simp [List.getD,hj]
  rw [e]
  exact ownV_nil _ _ _
 ·have e:(List.replicate n (Value.slice none 0 0)).getD j undef = .slice none 0 0:=by simp [List.getD,hj]
  rw [e] at h1
  cases h1
theorem cols_tab {w:World} {f:Nat→Row3} {L D n m:Nat} {vs:List Value} (h:Cols w f L D n (fun _=>m) vs) (hL:L≤D) (hn:n≤4) :
 ∃ f',Tab w (some ⟨L,0,none⟩) n f'∧(∀ j,j<n→(f' j).n=m) ∧ ∀ j,(f' j).g=fun i=> - (f i).g j:=by
 obtain ⟨p,c,f',e1, -, -,h3,h4,h5⟩:=tab_own h.len (ownV_row h.row h.len (Nat.le_refl L) (by omega)) fun j hj=>(h.own j hj).base hL
 simp only [Value.slice.injEq,true_and] at e1
 obtain ⟨rfl,rfl⟩:=e1
 exact ⟨f',h3,h4,h5⟩
set_option maxHeartbeats 4000000 in
theorem newDesks_no_c (a:Option Addr) (m cap:Nat) (f:Nat→Row3) (w:World) (hf:Tab w a m f) (hm:m≤1048576) (hr : ∀ i,i<m→(f i).n≤1048576) (hE:tableE m f ≠ 0) :
 Calls Try.prog 61 #[tabV a m cap] w fun e w'=>e = .returned (.tuple #[tabV none 0 0,tabV none 0 0, .int .i64 (tableE m f)])∧Below w.heap.size w w':=by
 obtain ⟨W,hW⟩ : ∃ W,((w.alloc (.cells #[.slice a m cap] 24)).alloc (.cells #[.slice none 0 0] 73)).alloc (.cells #[.slice none 0 0] 73)=W:=⟨_,rfl⟩
 have hB:Below w.heap.size w W:=by rw [← hW]; exact Below.alloc1 (Below.alloc1 (Below.alloc1 (Below.refl _ _) _ (Nat.le_refl _)) _ (Nat.le_refl _)) _ (Nat.le_refl _)
 have hR:RowIs W w.heap.size #[.slice a m cap] 24:=by rw [← hW]; exact RowIs.alloc (RowIs.alloc (heap_new_at _ _ _ rfl) _) _
 have hS:RowIs W (w.heap.size+1) #[.slice none 0 0] 73:=by rw [← hW]; exact RowIs.alloc (heap_new_at _ _ _ (by simp)) _
 have hQ:RowIs W (w.heap.size+1+1) #[.slice none 0 0] 73:=by rw [← hW]; exact heap_new_at _ _ _ (by simp)
 have r0:W.cell? ⟨w.heap.size,0,none⟩=some (.slice a m cap):=RowIs.cell hR 0
 have rz:=hR.lt
 have HC:=Lib.hid (CheckTable_c a m cap f W (hf.below hB) hm hr)
 have t0:(tableE m f != 0)=true:=by simpa using hE
 obtain ⟨E,hE2⟩ : ∃ E,tableE m f=E:=⟨_,rfl⟩
 rw [hE2] at HC t0 ⊢
 have HS:=Lib.hid hS
 have HQ:=Lib.hid hQ
 have HB:=Lib.hid hB
 clear hf hB hR hS hQ hE hE2
 go_enter Try.func61,Try.ntmps61
 go_wp2_with fail
 refine HC.out.mono ?_
 rintro e w1 ⟨rfl,hb1⟩
 clear hW HC
 have hS1:=HS.out.below hb1
 have hQ1:=HQ.out.below hb1
 have s0:=RowIs.cell hS1 0
 have s1:=RowIs.frozen hS1 0
 have sz:=hS1.lt
 have q0:=RowIs.cell hQ1 0
 have q1:=RowIs.frozen hQ1 0
 have qz:=hQ1.lt
 simp at s0 q0
 have HB1:=Lib.hid (bup HB.out hb1)
 have HS1:=Lib.hid hS1
 have HQ1:=Lib.hid hQ1
 clear hS1 hQ1 hb1
 go_wp2_with fail
 have y1:=RowIs.cell ((HS1.out.set 0 (.slice none 0 0)).other (b':=w.heap.size+1+1) 0 (.slice none 0 0) (by omega)) 0
 have y2:=RowIs.cell ((HQ1.out.other (b':=w.heap.size+1) 0 (.slice none 0 0) (by omega)).set 0 (.slice none 0 0)) 0
 simp at y1 y2
 exact bodyPost_ret (v:= .tuple #[tabV none 0 0,tabV none 0 0, .int .i64 E]) (by simp [results,Try.results61,go_sem,y1,y2]) rfl ⟨rfl,(HB1.out.setCell (p:=⟨w.heap.size+1,0,none⟩) (by show w.heap.size≤w.heap.size+1; omega) _).setCell (p:=⟨w.heap.size+1+1,0,none⟩) (by show w.heap.size≤w.heap.size+1+1; omega) _⟩
end Go.Proofs.Ytkbbhihndigmeaa

namespace Go.Proofs.Ytkbbhihndigmeaa
open Go Go.RowKit
theorem eq64 (d:Nat) (x y:Int) (w:World):(Op.equalIn (d+1) 2 (.int .i64 x) (.int .i64 y)).run Try.prog w = .ok (x==y) w:=by
 simp [Op.equalIn,run_underlying Try.underlying2]
theorem size64 (w:World):(sizeOf 2).run Try.prog w = .ok 1 w:=by kernel_rfl
set_option maxRecDepth 100000 in
theorem eqLosses (x0 x1 x2 x3 x4:Int) (w:World) :
 (Op.equalIn 10000 100 (.agg #[.int .i64 x0, .int .i64 x1, .int .i64 x2, .int .i64 x3, .int .i64 x4]) (.agg #[.int .i64 0, .int .i64 0, .int .i64 0, .int .i64 0, .int .i64 0])).run Try.prog w = .ok (x0==0 && (x1==0 && (x2==0 && (x3==0 && x4==0)))) w:=by
 rw [show (10000:Nat)=9999+1 from rfl]
 unfold Op.equalIn
 have e9 : ∀ (x y:Int) (w:World),(Op.equalIn 9999 2 (.int .i64 x) (.int .i64 y)).run Try.prog w = .ok (x==y) w:=fun x y w=>eq64 9998 x y w
 have p0 : ∀ (a b c d e:Value) (w:World),(part 2 #[a,b,c,d,e] 0).run Try.prog w = .ok a w:=fun _ _ _ _ _ _=>by kernel_rfl
 have p1 : ∀ (a b c d e:Value) (w:World),(part 2 #[a,b,c,d,e] 1).run Try.prog w = .ok b w:=fun _ _ _ _ _ _=>by kernel_rfl
 have p2 : ∀ (a b c d e:Value) (w:World),(part 2 #[a,b,c,d,e] 2).run Try.prog w = .ok c w:=fun _ _ _ _ _ _=>by kernel_rfl
 have p3 : ∀ (a b c d e:Value) (w:World),(part 2 #[a,b,c,d,e] 3).run Try.prog w = .ok d w:=fun _ _ _ _ _ _=>by kernel_rfl
 have p4 : ∀ (a b c d e:Value) (w:World),(part 2 #[a,b,c,d,e] 4).run Try.prog w = .ok e w:=fun _ _ _ _ _ _=>by kernel_rfl
 simp [run_underlying Try.underlying100]
 rw [show List.range' 0 5=[0,1,2,3,4] from rfl]
 cases h0:(x0==0) <;> cases h1:(x1==0) <;> cases h2:(x2==0) <;> cases h3:(x3==0) <;> cases h4:(x4==0) <;> simp [p0,p1,p2,p3,p4,e9,h0,h1,h2,h3,h4]
set_option maxRecDepth 100000 in
theorem eqPlan (x0 x1 x2 x3:Int) (w:World) :
 (Op.equalIn 10000 77 (.agg #[.int .i64 x0, .int .i64 x1, .int .i64 x2, .int .i64 x3]) (.agg #[.int .i64 0, .int .i64 0, .int .i64 0, .int .i64 0])).run Try.prog w = .ok (x0==0 && (x1==0 && (x2==0 && x3==0))) w:=by
 rw [show (10000:Nat)=9999+1 from rfl]
 unfold Op.equalIn
 have e9 : ∀ (x y:Int) (w:World),(Op.equalIn 9999 2 (.int .i64 x) (.int .i64 y)).run Try.prog w = .ok (x==y) w:=fun x y w=>eq64 9998 x y w
 have p0 : ∀ (a b c d:Value) (w:World),(part 2 #[a,b,c,d] 0).run Try.prog w = .ok a w:=fun _ _ _ _ _=>by kernel_rfl
 have p1 : ∀ (a b c d:Value) (w:World),(part 2 #[a,b,c,d] 1).run Try.prog w = .ok b w:=fun _ _ _ _ _=>by kernel_rfl
 have p2 : ∀ (a b c d:Value) (w:World),(part 2 #[a,b,c,d] 2).run Try.prog w = .ok c w:=fun _ _ _ _ _=>by kernel_rfl
 have p3 : ∀ (a b c d:Value) (w:World),(part 2 #[a,b,c,d] 3).run Try.prog w = .ok d w:=fun _ _ _ _ _=>by kernel_rfl
 simp [run_underlying Try.underlying77]
 rw [show List.range' 0 4=[0,1,2,3] from rfl]
 cases h0:(x0==0) <;> cases h1:(x1==0) <;> cases h2:(x2==0) <;> cases h3:(x3==0) <;> simp [p0,p1,p2,p3,e9,h0,h1,h2,h3]
def padF (f:Nat→Int) (n:Nat) (i:Nat):Int:=if i<n then f i else 0
theorem one64:(Try.prog.info? 2).map (·.size)=some 1:=by kernel_rfl
theorem pad_splice (f:Nat→Int) (n:Nat) (h:n≤4) :
 splice [Value.int .i64 0, .int .i64 0, .int .i64 0, .int .i64 0] 0 ((List.range n).map fun i=>Value.int .i64 (f i))=[Value.int .i64 (padF f n 0), .int .i64 (padF f n 1), .int .i64 (padF f n 2), .int .i64 (padF f n 3)]:=by
 have:n=0∨n=1∨n=2∨n=3∨n=4:=by omega
 rcases this with rfl | rfl | rfl | rfl | rfl <;> simp [splice,padF,List.range_succ]
theorem copy4 (w:World) (g:Nat) (b:Option Addr) (n cap:Nat) (f:Nat→Int) (t:TypeId) (hf:Ints w b n f) (hn:n≤4) (hg:RowIs w g #[.int .i64 0, .int .i64 0, .int .i64 0, .int .i64 0] t) :
 ∃ w',(Builtin.copy_ #[25,25] 3 #[.slice (some ⟨g,0,none⟩) 4 4, .slice b n cap]).run Try.prog w = .ok (.int .i64 n) w'∧RowIs w' g (planRow (padF f n)) t∧Below g w w':=by
 have hs:=pad_splice f n hn
 have hmin:Nat.min n 4=n:=by show min n 4=n; omega
 by_cases h0:n=0
 ·subst h0
  refine ⟨w,run_copy_none (P:=Try.prog) w _ _ _ _ _ _ _ _ _ _ Try.underlying25 one64 (by simp),?_,Below.refl _ _⟩
  simpa [padF,planRow] using hg
 ·obtain ⟨bb,off,rfl,hbs,hc⟩:=Cells.at hf 0 (by omega)
  have:=run_copy_row (P:=Try.prog) w 25 25 3 2 g 0 4 4 ⟨bb,off,none⟩ n cap #[.int .i64 0, .int .i64 0, .int .i64 0, .int .i64 0] t ((List.range n).map fun i=>Value.int .i64 (f i)) Try.underlying25 one64 hg (by simp [hmin])
   (fun j v hv=>by
     simp only [List.getElem?_map,Option.map_eq_some_iff] at hv
     obtain ⟨i,hi,rfl⟩:=hv
     have hj:j<n:=by
      have:=(List.getElem?_eq_some_iff.1 hi).1
      simpa using this
     have hij:i=j:=by
      rw [List.getElem?_range hj] at hi
      exact (Option.some.inj hi).symm
     subst hij
     have:=hc i hj
     unfold Addr.add
     split
     ·simp_all
     ·exact this)
   (by simp; omega) (by simp [Value.oneCell'])
  have hr:=setRow_heap w g _ ((#[Value.int .i64 0, .int .i64 0, .int .i64 0, .int .i64 0].toList.take 0 ++ ((List.range n).map fun i=>Value.int .i64 (f i)) ++ #[Value.int .i64 0, .int .i64 0, .int .i64 0, .int .i64 0].toList.drop (0+((List.range n).map fun i=>Value.int .i64 (f i)).length)).toArray) t (0,0) hg
  have hlen:((List.range n).map fun i=>Value.int .i64 (f i)).length=n:=by simp
  refine ⟨_,this.trans ?_,hr.trans ?_,below_setRow (Below.refl _ _) (Nat.le_refl _) _⟩
  ·rw [hlen]; rfl
  ·simp only [splice] at hs
   rw [List.append_assoc,hs]
end Go.Proofs.Ytkbbhihndigmeaa

namespace Go.Proofs.Ytkbbhihndigmeaa
open Go Go.RowKit
theorem natL_at {w:World} {x:List Nat} {b off cap:Nat} (h:Lst w x (some ⟨b,off,none⟩) cap) (i:Nat) (hi:i<x.length):w.cell? ⟨b,off+i,none⟩=some (.int .i64 (x[i]:Int)):=by
 obtain ⟨b',off',e,hlt,hc⟩:=Cells.at h.cells i hi
 cases e
 have:=hc i hi
 rw [this]
 simp [List.getD,hi]
theorem lst_drop {w:World} {x:List Nat} {b off cap k:Nat} (h:Lst w x (some ⟨b,off,none⟩) cap) (j:Nat) (u:Value) (hj:(natL (x.drop k))[j]? = some u):w.cell? ((⟨b,off+k,none⟩:Addr).add j)=some u:=by
 have hlt:k+j<x.length:=by
  have:=(List.getElem?_eq_some_iff.1 hj).1
  simp [natL] at this
  omega
 simp [natL,hlt] at hj
 rw [← hj,Addr.add_lit]
 have:=natL_at h (k+j) hlt
 rw [Nat.add_assoc]
 exact this
theorem lst_take {w:World} {x:List Nat} {b off cap k:Nat} (h:Lst w x (some ⟨b,off,none⟩) cap) (j:Nat) (u:Value) (hj:(natL (x.take k))[j]? = some u):w.cell? ((⟨b,off,none⟩:Addr).add j)=some u:=by
 have hlt:j<x.length∧j<k:=by
  have:=(List.getElem?_eq_some_iff.1 hj).1
  simp [natL] at this
  omega
 simp [natL,hlt.1,hlt.2] at hj
 rw [← hj,Addr.add_lit]
 exact natL_at h j hlt.1
theorem append_rest {A:World} {x:List Nat} {b off cap k c2:Nat} {src:Option Addr} (h:Lst A x (some ⟨b,off,none⟩) cap) (hk:k<x.length) (hx:x.length≤1048576) (hs:k+1<x.length→src=some ⟨b,off+(k+1),none⟩) :
 ∃ q c B,(Builtin.append_ #[42,42] 42 #[.slice (some ⟨b,off,none⟩) k k, .slice src (x.length-(k+1)) c2]).run Try.prog A = .ok (.slice q (x.length-1) c) B∧Lst B (x.eraseIdx k) q c∧Below A.heap.size A B:=by
 obtain ⟨i0,hi,hi0,hi1,hi2⟩:=info_parts1 infoInt
 have hlen:(x.eraseIdx k).length=x.length-1:=by rw [List.length_eraseIdx,if_pos hk]
 by_cases hl:x.length-(k+1)=0
 ·rw [hl]
  have hke:x.length-1=k:=by omega
  rw [hke]
  have hfc : ∀ w:World,(Builtin.firstCells i0.size 0 (.slice src 0 c2)).run Try.prog w = .ok #[] w:=fun w=>by
   cases src <;> simp [Builtin.firstCells,loadCells,loadCellsFrom]
  refine ⟨_,k,A,run_append_nothing A 42 42 42 3 i0 Try.underlying42 hi (some ⟨b,off,none⟩) k k (Nat.le_refl _) _ ⟨.inl ⟨3,Try.underlying42⟩,fun w'=>rfl,hfc _,hfc _,by simp,by simp⟩,?_,Below.refl _ _⟩
  have e:x.eraseIdx k=x.take k:=by rw [List.eraseIdx_eq_take_drop_succ,List.drop_eq_nil_of_le (by omega),List.append_nil]
  rw [e]
  have hb:b<A.heap.size:=by obtain ⟨b',off',e,hlt,_⟩:=Cells.at h.cells k hk; cases e; exact hlt
  refine ⟨.inr ⟨b,off,rfl,hb,fun i hi => ?_⟩,by simp; omega,by omega,fun e=>by cases e⟩
  have hik:i<k∧i<x.length:=by simp at hi; omega
  rw [natL_at h i hik.2]
  simp [List.getD,hik.1,hik.2]
 ·rw [hs (by omega)]
  obtain ⟨v',w',hrun,h1,h2⟩:=run_append_arg_grows (P:=Try.prog) A 42 42 3 i0 (.int .i64 0) 1 8 Try.underlying42 hi hi0 hi1 hi2 rfl (by decide) ⟨b,off,none⟩ k k (natL (x.take k)) (by simp [natL]; omega) (fun j u=>lst_take h j u) ⟨b,off+(k+1),none⟩ (x.length-(k+1)) c2 (natL (x.drop (k+1))) (by simp [natL]) (fun j u=>lst_drop h j u) (by omega) (by unfold maxLen; omega) (by omega)
  have e:natL (x.take k) ++ natL (x.drop (k+1))=natL (x.eraseIdx k):=by rw [List.eraseIdx_eq_take_drop_succ]; simp [natL]
  rw [e,show k+(x.length-(k+1))=x.length-1 by omega] at h1
  rcases h1.2 with ⟨_,h0⟩ | ⟨g,cap',cur,hv,hbase,_⟩
  ·omega
  ·subst hv
   exact ⟨_,cap',w',hrun,lst_of_own hlen.symm h1,⟨h2.os,h2.tape,h2.output,h2.size,fun k hk=>h2.block k hk (by simp)⟩⟩
set_option maxRecDepth 100000 in
set_option maxHeartbeats 4000000 in
theorem without_c (x:List Nat) (p:Option Addr) (cap k:Nat) (w:World) (h:Lst w x p cap) (hk:k<x.length) (hx:x.length≤1048576) :
 Calls Try.prog 94 #[.slice p x.length cap, .int .i64 (k:Nat)] w fun e w'=>(∃ q c,e = .returned (.slice q (x.length-1) c)∧Lst w' (x.eraseIdx k) q c)∧Below w.heap.size w w':=by
 obtain ⟨b,off,rfl,hlt,hc⟩:=Cells.at h.cells k hk
 have hroom:=h.room
 have hfit:=h.fit
 have hw1:IntKind.i64.wrap ((k:Int)+1)=((k+1:Nat):Int):=by rw [IntWalk.i64_in _ (by omega)]; omega
 have j1:(k:Int)≤(cap:Int):=by omega
 have j2:k≤cap:=by omega
 have j3:(k:Int)+1≤(x.length:Int):=by omega
 have j4:k+1≤x.length:=by omega
 have j5:((k+1:Nat):Int)≤(x.length:Int):=by omega
 have j6:((k+1:Nat):Int)≤(cap:Int):=by omega
 have H:=Lib.hid h
 clear h hc
 go_enter Try.func94,Try.ntmps94
 go_wp2_with fail
 refine wp_region_later_tail 8 (by kernel_rfl) (by kernel_rfl) ?_
 simp only [List.take_succ_cons,List.take_zero,List.drop_succ_cons,List.drop_zero]
 repeat (go_big_quiet_step (fail))
 refine wpQuiet_nil ?_
 rintro ⟨w1,hb1⟩
 dsimp only
 obtain ⟨q,c,B,hrun,hL,hb2⟩:=append_rest (src:=if cap=k+1 then some ⟨b,off,none⟩ else some ⟨b,off+(k+1),none⟩) (c2:=cap-(k+1)) (H.out.below hb1) hk hx (fun h=>if_neg (by omega))
 have HL:=Lib.hid hL
 have Hb2:=Lib.hid (bup hb1 hb2)
 clear hL hb2
 go_wp2_with (at_builtin; refine wpList_append_run rfl _ _ 42 rfl rfl rfl hrun ?_)
 all_goals
  go_ret
  exact ⟨⟨q,c,rfl,HL.out⟩,Hb2.out⟩
end Go.Proofs.Ytkbbhihndigmeaa

namespace Go.Proofs.Ytkbbhihndigmeaa
open Go Go.RowKit Go.Shelf
def rowsL:(Nat→Row3)→Nat→List (Nat→Int)
 | _,0=>[]
 | f,k+1=>(f 0).g :: rowsL (fun i=>f (i+1)) k
theorem rowsL_len : ∀ (f:Nat→Row3) (k:Nat),(rowsL f k).length=k
 | _,0=>rfl
 | f,k+1=>by rw [rowsL,List.length_cons,rowsL_len]
def detB:Nat→Int
 | 0=>1
 | k+1=>100*((k:Int)+1)*detB k
def Mild (k n:Nat) (f:Nat→Row3):Prop:= ∀ i,i<k→(f i).n=n ∧ ∀ j,j<n → -100≤(f i).g j∧(f i).g j≤100
theorem Mild.tail {k n:Nat} {f:Nat→Row3} (h:Mild (k+1) n f):Mild k n fun i=>f (i+1):=fun i hi=>h (i+1) (by omega)
theorem mul_ab {a b A B:Int} (ha : -A≤a∧a≤A) (hb : -B≤b∧b≤B) (hA:0≤A) : -(A*B)≤a*b∧a*b≤A*B:=by
 have hB:0≤B:=by omega
 have h1:(a*b).natAbs≤A.natAbs*B.natAbs:=by
  rw [Int.natAbs_mul]
  exact Nat.mul_le_mul (by omega) (by omega)
 have h2:((A.natAbs*B.natAbs:Nat):Int)=A*B:=by
  rw [Int.natCast_mul,Int.natAbs_of_nonneg hA,Int.natAbs_of_nonneg hB]
 omega
theorem detB_pos : ∀ k,0<detB k
 | 0=>by decide
 | k+1=>by
   have:=detB_pos k
   unfold detB
   exact Int.mul_pos (by omega) this
theorem altSum_bd {h:Nat→Int} {B:Int} : ∀ {n:Nat},(∀ k,k<n → -B≤h k∧h k≤B) → ∀ j,j≤n → -(B*j)≤altSum h j∧altSum h j≤B*j
 | n,hb,0,_=>by simp [altSum]
 | n,hb,j+1,hj=>by
   have h1:=altSum_bd hb j (by omega)
   have h2:=hb j (by omega)
   rw [altSum,show B*((j+1:Nat):Int)=B*j+B by rw [Int.natCast_add,Int.mul_add]; simp]
   split <;> omega
def termP (f:Nat→Row3) (k:Nat) (x:List Nat) (j:Nat):Int:=(f 0).g (x.getD j 0)*detP (rowsL (fun i=>f (i+1)) k) (x.eraseIdx j)
theorem detP_rows (f:Nat→Row3) (k:Nat) (x:List Nat):detP (rowsL f (k+1)) x=altSum (termP f k x) x.length:=by rw [rowsL,detP]; rfl
theorem detP_bd : ∀ (k n:Nat) (f:Nat→Row3) (x:List Nat),Mild k n f→x.length=k→(∀ i ∈ x,i<n) → -(detB k)≤detP (rowsL f k) x∧detP (rowsL f k) x≤detB k
 | 0,_,_,_,_,_,_=>by simp [rowsL,detP,detB]
 | k+1,n,f,x,hm,hx,hn=>by
   rw [detP_rows,hx]
   have h1 : ∀ j,j<k+1 → -(100*detB k)≤termP f k x j∧termP f k x j≤100*detB k:=fun j hj=>by
    have hjx:j<x.length:=by omega
    have hxj:x.getD j 0 ∈ x:=by rw [List.getD_eq_getElem?_getD,List.getElem?_eq_getElem hjx]; exact List.getElem_mem hjx
    exact mul_ab ((hm 0 (by omega)).2 _ (hn _ hxj)) (detP_bd k n _ _ hm.tail (by rw [List.length_eraseIdx,if_pos hjx]; omega) fun i hi=>hn i (List.mem_of_mem_eraseIdx hi)) (by decide)
   have h2:=altSum_bd h1 (k+1) (Nat.le_refl _)
   have e:100*detB k*((k+1:Nat):Int)=detB (k+1):=by
    rw [show detB (k+1)=100*((k:Int)+1)*detB k from rfl]
    generalize detB k=d
    grind
   rw [e] at h2
   exact h2
theorem detB_4 {k:Nat} (h:k≤4):detB k≤2400000000:=by
 have:k=0∨k=1∨k=2∨k=3∨k=4:=by omega
 rcases this with rfl | rfl | rfl | rfl | rfl <;> decide
def signI (j:Nat):Int:=if j % 2=0 then 1 else -1
theorem signI_next (j:Nat):signI (j+1) = - signI j:=by unfold signI; split <;> split <;> omega
theorem altSum_sign (h:Nat→Int) (j:Nat):altSum h (j+1)=altSum h j+signI j*h j:=by
 rw [altSum]
 unfold signI
 split <;> omega
theorem tab_tail {w:World} {b off m:Nat} {f:Nat→Row3} (h:Tab w (some ⟨b,off,none⟩) (m+1) f) (a:Option Addr) (ha:0<m→a=some ⟨b,off+1,none⟩):Tab w a m fun i=>f (i+1):=by
 refine ⟨?_,fun i hi=>h.2 (i+1) (by omega)⟩
 by_cases hm:m=0
 ·exact .inl hm
 ·rw [ha (by omega)]
  obtain ⟨b',off',e,hlt,hc⟩:=Tab.at h 0 (by omega)
  cases e
  exact .inr ⟨b,off+1,rfl,hlt,fun i hi=>by have:=hc (i+1) (by omega); rwa [show off+(i+1)=off+1+i by omega] at this⟩
end Go.Proofs.Ytkbbhihndigmeaa

namespace Go.Proofs.Ytkbbhihndigmeaa
open Go Go.RowKit Go.Shelf
set_option maxRecDepth 100000 in
set_option maxHeartbeats 16000000 in
theorem determinant_c : ∀ (k:Nat) (a:Option Addr) (cap n:Nat) (f:Nat→Row3) (p:Option Addr) (xcap:Nat) (x:List Nat) (w:World),k≤4→Tab w a k f→k≤cap→cap≤9223372036854775807→Mild k n f→Lst w x p xcap→x.length=k→(∀ i ∈ x,i<n) →
 Calls Try.prog 106 #[.slice a k cap, .slice p k xcap] w fun e w'=>e = .returned (.int .i64 (detP (rowsL f k) x))∧Below w.heap.size w w':=by
 intro k
 induction k with
 | zero=>
   intro a cap n f p xcap x w _ _ _ _ _ _ _ _
   have e:detP (rowsL f 0) x=1:=rfl
   rw [e]
   go_enter Try.func106,Try.ntmps106
   go_wp2
   go_ret
   exact ⟨rfl,Below.refl _ _⟩
 | succ k ih=>
   intro a cap n f p xcap x w hk hf hcap hcap2 hM hL hx hn
   obtain ⟨b,off,rfl,hbs,hc⟩:=Tab.at hf 0 (by omega)
   have HF:=Lib.hid hf
   have HM:=Lib.hid hM
   have HL:=Lib.hid hL
   have Hn:=Lib.hid hn
   have hroom:=hL.room
   have hfit:=hL.fit
   obtain ⟨xb,xo,rfl,hxs,hxc⟩:=Cells.at hL.cells 0 (by omega)
   have Hx:=Lib.hid hx
   have Hxc:=Lib.hid hxc
   have t0 : ¬ ((k:Int)+1=0):=by omega
   rw [detP_rows,hx]
   have hterm : ∀ j,j<k+1 → -(100*detB k)≤termP f k x j∧termP f k x j≤100*detB k:=fun j hj=>by
    have hjx:j<x.length:=by omega
    have hxj:x.getD j 0 ∈ x:=by rw [List.getD_eq_getElem?_getD,List.getElem?_eq_getElem hjx]; exact List.getElem_mem hjx
    exact mul_ab ((hM 0 (by omega)).2 _ (hn _ hxj)) (detP_bd k n _ _ hM.tail (by rw [List.length_eraseIdx,if_pos hjx]; omega) fun i hi=>hn i (List.mem_of_mem_eraseIdx hi)) (by decide)
   have hdk:detB k≤2400000000:=detB_4 (by omega)
   have HT:=Lib.hid hterm
   have HA:=Lib.hid (fun j hj=>altSum_bd hterm j hj)
   have Hd:=Lib.hid hdk
   have Hp:=Lib.hid (detB_pos k)
   have HI:=Lib.hid ih
   clear hf hM hL hn hc hxc hterm hdk ih hx
   go_enter Try.func106,Try.ntmps106
   go_wp2_with fail
   go_loopw [5,6,14] (fun s g i wr=> ∃ j:Nat,j≤k+1∧i = .int .i64 j∧s = .int .i64 (altSum (termP f k x) j)∧g = .int .i64 (signI j)∧Below w.heap.size w wr) (fun _ _ i _=>k+1-(intOf i).toNat)
   case atStart=>exact ⟨0,Nat.zero_le _,rfl,rfl,rfl,Below.refl _ _⟩
   case round=>
    obtain ⟨j,hj,rfl,rfl,rfl,hb⟩:=hrel
    by_cases hlt:j<k+1
    ·obtain ⟨c,hcx⟩ : ∃ c,x.getD j 0=c:=⟨_,rfl⟩
     have hjx:j<x.length:=by rw [Hx.out]; exact hlt
     have hcm:c ∈ x:=by rw [← hcx,List.getD_eq_getElem?_getD,List.getElem?_eq_getElem hjx]; exact List.getElem_mem hjx
     have hcn:c<n:=Hn.out c hcm
     have xc:wr.cell? ⟨xb,xo+j,none⟩=some (.int .i64 (c:Int)):=by
      rw [← hcx]
      exact (hb.cell (p:=⟨xb,xo+j,none⟩) hxs).trans (Hxc.out j hjx)
     obtain ⟨b',off',he,hbs',hc⟩:=Tab.at (HF.out.below hb) 0 (by omega)
     obtain ⟨rfl,rfl⟩:b'=b∧off'=off:=by injection he with he; injection he with h1 h2 _; exact ⟨h1.symm,h2.symm⟩
     have c0:=hc 0 (by omega)
     rw [Nat.add_zero,(HM.out 0 (by omega)).1] at c0
     obtain ⟨rb,ro,hra,hrs,hrc⟩:=Cells.at ((HF.out.below hb).2 0 (by omega)) c (by rw [(HM.out 0 (by omega)).1]; exact hcn)
     have c1:=hrc c (by rw [(HM.out 0 (by omega)).1]; exact hcn)
     rw [hra] at c0
     have hg:=(HM.out 0 (by omega)).2 c hcn
     obtain ⟨g,hgg⟩ : ∃ g,(f 0).g c=g:=⟨_,rfl⟩
     have hA:=HA.out j hj
     have hA1:=HA.out (j+1) (by omega)
     have hTj:=HT.out j hlt
     have hsg:signI j=1∨signI j = -1:=by unfold signI; split <;> simp
     have hdet:=detP_bd k n (fun i=>f (i+1)) (x.eraseIdx j) HM.out.tail (by rw [List.length_eraseIdx,if_pos hjx,Hx.out]; omega) fun i hi=>Hn.out i (List.mem_of_mem_eraseIdx hi)
     have hterm:termP f k x j=g*detP (rowsL (fun i=>f (i+1)) k) (x.eraseIdx j):=by unfold termP; rw [hcx,hgg]
     obtain ⟨dd,hdd⟩ : ∃ dd,detP (rowsL (fun i=>f (i+1)) k) (x.eraseIdx j)=dd:=⟨_,rfl⟩
     rw [hdd] at hterm hdet
     rw [hgg] at c1 hg
     have hbd:(100*detB k)*((k:Int)+1)≤1200000000000:=by
      have h1:=Hd.out
      have h2:=Hp.out
      have:=Int.mul_le_mul (show 100*detB k≤240000000000 by omega) (show (k:Int)+1≤5 by omega) (by omega) (by omega)
      omega
     have hj1:100*detB k*(j:Int)≤(100*detB k)*((k:Int)+1):=Int.mul_le_mul_of_nonneg_left (by omega) (by have:=Hp.out; omega)
     have hj2:100*detB k*((j+1:Nat):Int)≤(100*detB k)*((k:Int)+1):=Int.mul_le_mul_of_nonneg_left (by omega) (by have:=Hp.out; omega)
     have w1:IntKind.i64.wrap (signI j*g)=signI j*g:=IntWalk.i64_in _ (by rcases hsg with h | h <;> rw [h] <;> omega)
     have e2:signI j*g*dd=signI j*termP f k x j:=by rw [hterm,Int.mul_assoc]
     have w2:IntKind.i64.wrap (signI j*g*dd)=signI j*termP f k x j:=by rw [e2]; exact IntWalk.i64_in _ (by have:=Hd.out; rcases hsg with h | h <;> rw [h] <;> omega)
     have w3:IntKind.i64.wrap (altSum (termP f k x) j+signI j*termP f k x j)=altSum (termP f k x) (j+1):=by rw [← altSum_sign]; exact IntWalk.i64_in _ (by omega)
     have w4:IntKind.i64.wrap (-signI j)=signI (j+1):=by rw [signI_next]; exact IntWalk.i64_in _ (by rcases hsg with h | h <;> rw [h] <;> omega)
     obtain ⟨ta,hta⟩ : ∃ ta:Option Addr,(if cap=1 then (some ⟨b',off',none⟩:Option Addr) else some ⟨b',off'+1,none⟩)=ta:=⟨_,rfl⟩
     have hW1:=fun (y:World) (hy:Below wr.heap.size wr y)=>without_c x (some ⟨xb,xo,none⟩) xcap j y (HL.out.below (hb.trans (hy.mono hb.size))) hjx (by rw [Hx.out]; omega)
     rw [Hx.out,Nat.add_sub_cancel] at hW1
     have hW2:=fun (y:World) (q:Option Addr) (qc:Nat) (hy:Below wr.heap.size wr y) (hq:Lst y (x.eraseIdx j) q qc)=>HI.out ta (cap-1) n (fun i=>f (i+1)) q qc (x.eraseIdx j) y (by omega) (tab_tail (HF.out.below (hb.trans (hy.mono hb.size))) ta (fun hk0=>by rw [← hta,if_neg (by omega)])) (by omega) (by omega) HM.out.tail hq (by rw [List.length_eraseIdx,if_pos hjx,Hx.out]; omega) fun i hi=>Hn.out i (List.mem_of_mem_eraseIdx hi)
     rw [hdd] at hW2
     have HW1:=Lib.hid hW1
     have HW2:=Lib.hid hW2
     have Hb:=Lib.hid hb
     have hcell : ∀ y,Below wr.heap.size wr y→y.cell? ⟨b',off',none⟩=some (.slice (some ⟨rb,ro,none⟩) n (f 0).cap)∧y.cell? ⟨rb,ro+c,none⟩=some (.int .i64 g):=fun y hy=>⟨(hy.cell (p:=⟨b',off',none⟩) hbs').trans c0,(hy.cell (p:=⟨rb,ro+c,none⟩) hrs).trans c1⟩
     have hFC : ∀ y,Below wr.heap.size wr y→Below wr.heap.size wr y∧y.cell? ⟨b',off',none⟩=some (.slice (some ⟨rb,ro,none⟩) n (f 0).cap)∧y.cell? ⟨rb,ro+c,none⟩=some (.int .i64 g):=fun y hy=>⟨hy,hcell y hy⟩
     have i1:(1:Int)≤(k:Int)+1:=by omega
     have i2:(c:Int)<(n:Int):=by omega
     clear hA hA1 hTj hdet hterm hbd hj1 hj2 e2 hc hrc he hg hW1 hW2 hb
     go_wp2_with fail
     refine RC.wp_region_runF (C:=fun y=>Below wr.heap.size wr y∧y.cell? ⟨b',off',none⟩=some (.slice (some ⟨rb,ro,none⟩) n (f 0).cap)∧y.cell? ⟨rb,ro+c,none⟩=some (.int .i64 g)) (fun y=>Below wr.heap.size wr y) (by kernel_rfl) (stable_below wr) (Below.refl _ _) ?_
     change RC.Run _ _ _ _ _ 18 _ _ _
     refine RC.run_take (i:=0) (.int .i64 (altSum (termP f k x) j)) rfl (by kernel_rfl) (by kernel_rfl) (by kernel_rfl) rfl hFC (fun y hy=>by obtain ⟨-,q0,q1⟩:=hy; go_simp) ?_
     simp only [puts]
     refine RC.run_take (i:=1) (.int .i64 (signI j)) rfl (by kernel_rfl) (by kernel_rfl) (by kernel_rfl) rfl hFC (fun y hy=>by obtain ⟨-,q0,q1⟩:=hy; go_simp) ?_
     simp only [puts]
     refine RC.run_take (i:=2) (.slice (some ⟨b',off',none⟩) (k+1) cap) rfl (by kernel_rfl) (by kernel_rfl) (by kernel_rfl) rfl hFC (fun y hy=>by obtain ⟨-,q0,q1⟩:=hy; go_simp) ?_
     simp only [puts]
     refine RC.run_take (i:=3) (.pointer (some ⟨b',off',none⟩)) rfl (by kernel_rfl) (by kernel_rfl) (by kernel_rfl) rfl hFC (fun y hy=>by obtain ⟨-,q0,q1⟩:=hy; go_simp) ?_
     simp only [puts]
     refine RC.run_take (i:=4) (.slice (some ⟨rb,ro,none⟩) n (f 0).cap) rfl (by kernel_rfl) (by kernel_rfl) (by kernel_rfl) rfl hFC (fun y hy=>by obtain ⟨-,q0,q1⟩:=hy; go_simp) ?_
     simp only [puts]
     refine RC.run_take (i:=5) (.int .i64 (c:Int)) rfl (by kernel_rfl) (by kernel_rfl) (by kernel_rfl) rfl hFC (fun y hy=>by obtain ⟨-,q0,q1⟩:=hy; go_simp) ?_
     simp only [puts]
     refine RC.run_take (i:=6) (.pointer (some ⟨rb,ro+c,none⟩)) rfl (by kernel_rfl) (by kernel_rfl) (by kernel_rfl) rfl hFC (fun y hy=>by obtain ⟨-,q0,q1⟩:=hy; go_simp) ?_
     simp only [puts]
     refine RC.run_take (i:=7) (.int .i64 g) rfl (by kernel_rfl) (by kernel_rfl) (by kernel_rfl) rfl hFC (fun y hy=>by obtain ⟨-,q0,q1⟩:=hy; go_simp) ?_
     simp only [puts]
     refine RC.run_take (i:=8) (.int .i64 (signI j*g)) rfl (by kernel_rfl) (by kernel_rfl) (by kernel_rfl) rfl hFC (fun y hy=>by obtain ⟨-,q0,q1⟩:=hy; go_simp) ?_
     simp only [puts]
     refine RC.run_take (i:=9) (.slice (some ⟨b',off',none⟩) (k+1) cap) rfl (by kernel_rfl) (by kernel_rfl) (by kernel_rfl) rfl hFC (fun y hy=>by obtain ⟨-,q0,q1⟩:=hy; go_simp) ?_
     simp only [puts]
     refine RC.run_take (i:=10) (.slice ta k (cap-1)) rfl (by kernel_rfl) (by kernel_rfl) (by kernel_rfl) rfl hFC (fun y hy=>by obtain ⟨-,q0,q1⟩:=hy; go_simp) ?_
     simp only [puts]
     refine RC.run_take (i:=11) (.slice (some ⟨xb,xo,none⟩) (k+1) xcap) rfl (by kernel_rfl) (by kernel_rfl) (by kernel_rfl) rfl hFC (fun y hy=>by obtain ⟨-,q0,q1⟩:=hy; go_simp) ?_
     simp only [puts]
     refine RC.run_take (i:=12) (.int .i64 (j:Int)) rfl (by kernel_rfl) (by kernel_rfl) (by kernel_rfl) rfl hFC (fun y hy=>by obtain ⟨-,q0,q1⟩:=hy; go_simp) ?_
     simp only [puts]
     refine RC.run_only (i:=13) (by kernel_rfl) (RC.at_call (fun u y=>Below wr.heap.size wr y ∧ ∃ q qc,u = .slice q k qc∧Lst y (x.eraseIdx j) q qc) rfl rfl (fun u y y1 h hb=>⟨h.1.trans (hb.mono h.1.size),h.2.imp fun q h2=>h2.imp fun qc h3=>⟨h3.1,h3.2.below hb⟩⟩) (fun u y h=>hFC y h.1) (fun y hy => ?_) ?_)
     ·refine ⟨_, #[.slice (some ⟨xb,xo,none⟩) (k+1) xcap, .int .i64 (j:Int)],(Go.Conc.run_call_body (fn:=Try.f94) rfl Try.func94 (by kernel_rfl) (by kernel_rfl)).trans (by simp [Act.eval]),(HW1.out y hy).mono ?_⟩
      rintro e y1 ⟨⟨q,qc,rfl,hq⟩,hb1⟩
      exact ⟨_,rfl,hy.trans (hb1.mono hy.size),q,qc,rfl,hq⟩
     rintro u ⟨y0, -,q,qc,rfl, -⟩
     simp only [puts]
     refine RC.run_only (i:=14) (by kernel_rfl) (RC.at_call (fun u y=>u = .int .i64 dd∧Below wr.heap.size wr y) rfl rfl (fun u y y1 h hb=>⟨h.1,h.2.trans (hb.mono h.2.size)⟩) (fun u y h=>hFC y h.2) (fun y hy => ?_) ?_)
     ·obtain ⟨h1,q',qc',e1,h2⟩:=hy
      simp only [Value.slice.injEq,true_and] at e1
      obtain ⟨rfl,rfl⟩:=e1
      refine ⟨_, #[.slice ta k (cap-1), .slice q k qc],(Go.Conc.run_call_body (fn:=Try.f106) rfl Try.func106 (by kernel_rfl) (by kernel_rfl)).trans (by simp [Act.eval]),(HW2.out y q qc h1 h2).mono ?_⟩
      rintro e y1 ⟨rfl,hb1⟩
      exact ⟨_,rfl,rfl,h1.trans (hb1.mono h1.size)⟩
     rintro u ⟨y0,rfl, -⟩
     simp only [puts]
     refine RC.run_mono _ _ _ (fun y=>Below wr.heap.size wr y) _ (fun y h=>h.2) ?_
     refine RC.run_quiet (i:=15) (.int .i64 (signI j*termP f k x j)) (by kernel_rfl) rfl rfl (fun y _=>by go_simp) ?_
     simp only [puts]
     refine RC.run_quiet (i:=16) (.int .i64 (altSum (termP f k x) (j+1))) (by kernel_rfl) rfl rfl (fun y _=>by go_simp) ?_
     simp only [puts]
     refine RC.run_quiet (i:=17) (.int .i64 (altSum (termP f k x) (j+1))) (by kernel_rfl) rfl rfl (fun y _=>by go_simp) ?_
     simp only [puts]
     refine ⟨by kernel_rfl,fun y hy => ?_⟩
     have Hy:=Lib.hid (Hb.out.trans (hy.mono Hb.out.size))
     clear hy
     go_wp2_with fail
     go_roundw
     case rel=>exact ⟨j+1,by omega,by go_num,rfl,rfl,Hy.out⟩
     case measure=>simp [intOf]; omega
    ·obtain rfl:j=k+1:=by omega
     go_wp2_with fail
     go_ret
     exact ⟨rfl,hb⟩
end Go.Proofs.Ytkbbhihndigmeaa

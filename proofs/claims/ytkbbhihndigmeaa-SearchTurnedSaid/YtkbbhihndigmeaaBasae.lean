/- Plain mathematics: a plan that can be moved along a line becomes one with fewer rows, or more columns that are the worst, and no worse. It uses nothing of the program but words. -/
import Derived.Test.YtkbbhihndigmeaaProg
import Derived.Test.YtkbbhihndigmeaaBasad
import Derived.Test.YtkbbhihndigmeaaBasaa
namespace Go.Proofs.Ytkbbhihndigmeaa
def tot (x:Nat→Int) (m:Nat):Int:=dotN x (fun _=>1) m
def ag (A:Nat→Nat→Int) (x:Nat→Int) (m j:Nat):Int:=dotN x (fun i=>A i j) m
def supp (x:Nat→Int) (m:Nat):List Nat:=(List.range m).filter fun i=>decide (x i ≠ 0)
def tight (A:Nat→Nat→Int) (x:Nat→Int) (m n:Nat):List Nat:=(List.range n).filter fun j=>decide (∀ l,l<n→ag A x m j≤ag A x m l)
theorem supp_iff {x:Nat→Int} {m i:Nat} : i ∈ supp x m↔i<m∧x i ≠ 0:=by simp [supp]
theorem tight_iff {A:Nat→Nat→Int} {x:Nat→Int} {m n j:Nat} : j ∈ tight A x m n↔j<n ∧ ∀ l,l<n→ag A x m j≤ag A x m l:=by simp [tight]
theorem supp_nodup (x:Nat→Int) (m:Nat):(supp x m).Nodup:=List.nodup_range.sublist List.filter_sublist
theorem tight_nodup (A:Nat→Nat→Int) (x:Nat→Int) (m n:Nat):(tight A x m n).Nodup:=List.nodup_range.sublist List.filter_sublist
theorem dotN_mull (c:Int) (x f:Nat→Int) (m:Nat):dotN (fun i=>c*x i) f m=c*dotN x f m:=dotN_mul c x f m
theorem dotN_lin (p q:Int) (x d f:Nat→Int) (m:Nat):dotN (fun i=>q*x i+p*d i) f m=q*dotN x f m+p*dotN d f m:=by
 rw [dotN_add (fun i=>q*x i) (fun i=>p*d i),dotN_mul,dotN_mul]
theorem tot_neg {d:Nat→Int} : ∀ {m:Nat},tot d m=0→(∃ i,i<m∧d i ≠ 0) → ∃ i,i<m∧d i<0
 | m,h,⟨i,hi,hd⟩=>by
   refine Classical.byContradiction fun hno => ?_
   have h0 : ∀ i,i<m→0≤d i:=fun i hi=>Int.not_lt.1 fun h=>hno ⟨i,hi,h⟩
   have : ∀ k,k≤m→0≤dotN d (fun _=>1) k ∧ ∀ i,i<k→d i≤dotN d (fun _=>1) k:=by
    intro k
    induction k with
    | zero=>exact fun _=>⟨Int.le_refl _,fun i hi=>absurd hi (Nat.not_lt_zero _)⟩
    | succ k ih=>
      intro hk
      obtain ⟨a1,a2⟩:=ih (by omega)
      have a3:=h0 k (by omega)
      refine ⟨by rw [dotN]; omega,fun i hi => ?_⟩
      rw [dotN]
      by_cases e:i=k
      ·subst e; omega
      ·have:=a2 i (by omega); omega
   have h1:=(this m (Nat.le_refl _)).2 i hi
   have h2:=h0 i hi
   unfold tot at h
   omega
theorem moved (A:Nat→Nat→Int) (m n:Nat) (x d:Nat→Int) (th:Int) (j0:Nat) (hx : ∀ i,i<m→0≤x i) (hj0:j0 ∈ tight A x m n) (hd0 : ∀ i,i<m→x i=0→d i=0) (hdt:tot d m=0) (hd : ∃ i,i<m∧d i ≠ 0) (hag : ∀ j,j ∈ tight A x m n→ag A d m j=th) :
 ∃ (p q:Int),0<p∧0<q∧(∀ i,i<m→0≤q*x i+p*d i)∧(∀ j,j<n→q*ag A x m j0+p*th≤q*ag A x m j+p*ag A d m j) ∧
   ((∃ i,i<m∧x i ≠ 0∧q*x i+p*d i=0) ∨ ∃ j,j<n ∧ ¬ j ∈ tight A x m n∧q*ag A x m j+p*ag A d m j=q*ag A x m j0+p*th):=by
 obtain ⟨hj0n,hmin⟩:=tight_iff.1 hj0
 let L1:=((List.range m).filter fun i=>decide (d i<0)).map fun i=>(x i, - d i)
 let L2:=((List.range n).filter fun j=>decide (ag A d m j<th)).map fun j=>(ag A x m j-ag A x m j0,th-ag A d m j)
 have h1 : ∀ y,y ∈ L1 ↔ ∃ i,(i<m∧d i<0)∧(x i, - d i)=y:=fun y=>by simp [L1]
 have h2 : ∀ y,y ∈ L2 ↔ ∃ j,(j<n∧ag A d m j<th)∧(ag A x m j-ag A x m j0,th-ag A d m j)=y:=fun y=>by simp [L2]
 obtain ⟨i0,hi0,hd1⟩:=tot_neg hdt hd
 have hpos : ∀ y,y ∈ (x i0, - d i0) :: (L1 ++ L2)→0<y.2:=fun y hy=>by
  rcases List.mem_cons.1 hy with rfl | hy
  ·show 0 < - d i0; omega
  ·rcases List.mem_append.1 hy with hy | hy
   ·obtain ⟨i,⟨_,h⟩,rfl⟩:=(h1 y).1 hy
    show 0 < - d i; omega
   ·obtain ⟨j,⟨_,h⟩,rfl⟩:=(h2 y).1 hy
    show 0<th-ag A d m j; omega
 obtain ⟨⟨p,q⟩,hpq,hle⟩:=f_min (L1 ++ L2) (x i0, - d i0) hpos
 have hq:0<q:=hpos _ hpq
 have hle1 : ∀ i,i<m→d i<0→p*(- d i)≤x i*q:=fun i hi h=>hle _ (List.mem_cons_of_mem _ (List.mem_append_left _ ((h1 _).2 ⟨i,⟨hi,h⟩,rfl⟩)))
 have hle2 : ∀ j,j<n→ag A d m j<th→p*(th-ag A d m j)≤(ag A x m j-ag A x m j0)*q:=fun j hj h=>hle _ (List.mem_cons_of_mem _ (List.mem_append_right _ ((h2 _).2 ⟨j,⟨hj,h⟩,rfl⟩)))
 have hcase:(∃ i,(i<m∧d i<0)∧(x i, - d i)=(p,q)) ∨ ∃ j,(j<n∧ag A d m j<th)∧(ag A x m j-ag A x m j0,th-ag A d m j)=(p,q):=by
  rcases List.mem_cons.1 hpq with h | h
  ·exact .inl ⟨i0,⟨hi0,hd1⟩,h.symm⟩
  ·rcases List.mem_append.1 h with h | h
   ·exact .inl ((h1 _).1 h)
   ·exact .inr ((h2 _).1 h)
 have hp:0<p:=by
  rcases hcase with ⟨i,⟨hi,h⟩,e⟩ | ⟨j,⟨hj,h⟩,e⟩
  ·injection e with e1 e2
   have h3:=hx i hi
   have h4:x i ≠ 0:=fun h5=>by have:=hd0 i hi h5; omega
   omega
  ·injection e with e1 e2
   have h3:=hmin j hj
   have h4:ag A x m j ≠ ag A x m j0:=fun h5=>by
    have:=hag j (tight_iff.2 ⟨hj,fun l hl=>by rw [h5]; exact hmin l hl⟩)
    omega
   omega
 refine ⟨p,q,hp,hq,fun i hi => ?_,fun j hj => ?_,?_⟩
 ·by_cases h:d i<0
  ·have:=hle1 i hi h
   grind
  ·have a1:=Int.mul_nonneg (Int.le_of_lt hq) (hx i hi)
   have a2:=Int.mul_nonneg (Int.le_of_lt hp) (Int.not_lt.1 h)
   omega
 ·by_cases h:ag A d m j<th
  ·have:=hle2 j hj h
   grind
  ·have a1:=Int.mul_le_mul_of_nonneg_left (hmin j hj) (Int.le_of_lt hq)
   have a2:=Int.mul_le_mul_of_nonneg_left (Int.not_lt.1 h) (Int.le_of_lt hp)
   omega
 ·rcases hcase with ⟨i,⟨hi,h⟩,e⟩ | ⟨j,⟨hj,h⟩,e⟩
  ·injection e with e1 e2
   exact .inl ⟨i,hi,fun h5=>by have:=hd0 i hi h5; omega,by rw [← e1, ← e2]; grind⟩
  ·injection e with e1 e2
   refine .inr ⟨j,hj,fun h5=>by have:=hag j h5; omega,by rw [← e1, ← e2]; grind⟩
end Go.Proofs.Ytkbbhihndigmeaa

namespace Go.Proofs.Ytkbbhihndigmeaa
open Go Go.RowKit
structure Okay (m n:Nat) (f:Nat→Row3):Prop where
 m1:1≤m
 m4:m≤4
 n1:1≤n
 n4:n≤4
 len : ∀ i,i<m→(f i).n=n
 num : ∀ i,i<m → ∀ j,j<n → -100≤(f i).g j∧(f i).g j≤100
theorem okay_of {m:Nat} {f:Nat→Row3} (h:tableE m f=0):Okay m (f 0).n f:=by
 obtain ⟨⟨h1,h2⟩,⟨h3,h4⟩,h5,h6⟩:=table_ok h
 exact ⟨h1,h2,h3,h4,h5,h6⟩
theorem okay_is {m n:Nat} {f:Nat→Row3} (h:Okay m n f):tableE m f=0:=by
 have h0:(f 0).n=n:=h.len 0 (by have:=h.m1; omega)
 unfold tableE
 rw [if_pos ⟨h.m1,h.m4⟩,if_pos ((allB_iff _ _).2 fun i hi=>by simp [lenB,h.len i hi,h.n1,h.n4]),if_pos ((allB_iff _ _).2 fun i hi=>by simp [sameB,h.len i hi,h0]),if_pos ((allB_iff _ _).2 fun i hi=>by
  unfold numB
  rw [allB_iff]
  intro j hj
  rw [h.len i hi] at hj
  have:=h.num i hi j hj
  simp; omega)]
abbrev lossA (f:Nat→Row3) (i j:Nat):Int:=(f i).g j
def rowA (s:Nat) (h:Nat→Int):Array Value:=((List.range s).map fun i=>Value.int .i64 (h i)).toArray
theorem rowA_get (s:Nat) (h:Nat→Int) (j:Nat) (hj:j<s):(rowA s h)[j]? = some (.int .i64 (h j)):=by simp [rowA,hj]
theorem rowA_set (s:Nat) (h g:Nat→Int) (j:Nat) (v:Int) (hv:v=g j) (hg : ∀ i,i<s→i ≠ j→g i=h i):(rowA s h).setIfInBounds j (.int .i64 v)=rowA s g:=by
 apply Array.ext_getElem?
 intro i
 simp only [rowA,Array.getElem?_setIfInBounds]
 by_cases e:j=i
 ·subst e
  by_cases hj:j<s
  ·simp [hj,hv]
  ·simp [hj]
 ·by_cases hi:i<s
  ·simp [e,hi,hg i hi (fun h=>e h.symm)]
  ·simp [e,hi]
theorem rowA_same {s:Nat} {h g:Nat→Int} (e : ∀ i,i<s→h i=g i):rowA s h=rowA s g:=by
 apply Array.ext_getElem?
 intro i
 by_cases hi:i<s
 ·rw [rowA_get s h i hi,rowA_get s g i hi,e i hi]
 ·simp [rowA,hi]
theorem rowA_ints {w:World} {b s:Nat} {h:Nat→Int} {T:TypeId} (hr:RowIs w b (rowA s h) T):Ints w (some ⟨b,0,none⟩) s h:=
 .inr ⟨b,0,rfl,hr.lt,fun i hi=>by rw [Nat.zero_add]; exact (hr.cell i).trans (rowA_get s h i hi)⟩
theorem make_row64 : ∀ (s:Nat) (_:s≤4) (w:World),(Instr.makeSlice 25 (.int .i64 (s:Int)) (.int .i64 (s:Int))).run Try.prog w = .ok (.slice (some ⟨w.heap.size,0,none⟩) s s) (w.alloc (.cells (rowA s fun _=>0) 2))
 | 0,_,w=>by
   have h:(Instr.makeSlice 25 (.int .i64 0) (.int .i64 0)).run Try.prog w = .ok (.slice (some ⟨w.heap.size,0,none⟩) 0 0) (w.alloc (.cells (rowA 0 fun _=>0) 2)):=by kernel_rfl
   exact h
 | 1,_,w=>by
   have h:(Instr.makeSlice 25 (.int .i64 1) (.int .i64 1)).run Try.prog w = .ok (.slice (some ⟨w.heap.size,0,none⟩) 1 1) (w.alloc (.cells (rowA 1 fun _=>0) 2)):=by kernel_rfl
   exact h
 | 2,_,w=>by
   have h:(Instr.makeSlice 25 (.int .i64 2) (.int .i64 2)).run Try.prog w = .ok (.slice (some ⟨w.heap.size,0,none⟩) 2 2) (w.alloc (.cells (rowA 2 fun _=>0) 2)):=by kernel_rfl
   exact h
 | 3,_,w=>by
   have h:(Instr.makeSlice 25 (.int .i64 3) (.int .i64 3)).run Try.prog w = .ok (.slice (some ⟨w.heap.size,0,none⟩) 3 3) (w.alloc (.cells (rowA 3 fun _=>0) 2)):=by kernel_rfl
   exact h
 | 4,_,w=>by
   have h:(Instr.makeSlice 25 (.int .i64 4) (.int .i64 4)).run Try.prog w = .ok (.slice (some ⟨w.heap.size,0,none⟩) 4 4) (w.alloc (.cells (rowA 4 fun _=>0) 2)):=by kernel_rfl
   exact h
 | n+5,h,_=>absurd h (by omega)
theorem prod_bd {p x:Int} (h1:0≤p) (h2:p≤100000000) (h3 : -100≤x) (h4:x≤100) : -10000000000≤p*x∧p*x≤10000000000:=by
 have a1:=Int.mul_le_mul_of_nonneg_left h4 h1
 have a2:=Int.mul_le_mul_of_nonneg_left h3 h1
 omega
theorem dot_bd {p g:Nat→Int} {m:Nat} (hp : ∀ i,i<m→0≤p i∧p i≤100000000) (hg : ∀ i,i<m → -100≤g i∧g i≤100) : ∀ k,k≤m → -10000000000*(k:Int)≤dotN p g k∧dotN p g k≤10000000000*(k:Int)
 | 0,_=>by simp [dotN]
 | k+1,hk=>by
   have h1:=dot_bd hp hg k (by omega)
   have h2:=prod_bd (hp k (by omega)).1 (hp k (by omega)).2 (hg k (by omega)).1 (hg k (by omega)).2
   rw [dotN]
   omega
theorem dotN_sum1 (g:Nat→Int) : ∀ n,dotN g (fun _=>1) n=sumI g n
 | 0=>rfl
 | n+1=>by rw [dotN,sumI,dotN_sum1 g n,Int.mul_one]
theorem tot_sumI (g:Nat→Int) (n:Nat):tot g n=sumI g n:=dotN_sum1 g n
def agK (f:Nat→Row3) (p:Nat→Int) (i k j:Nat):Int:=if j<k then ag (lossA f) p (i+1) j else ag (lossA f) p i j
set_option maxHeartbeats 8000000 in
theorem rAgainst_c (a:Option Addr) (m n cap:Nat) (f:Nat→Row3) (pa:Option Addr) (pcap:Nat) (p:Nat→Int) (w:World) (hf:Tab w a m f) (hO:Okay m n f) (hp:Ints w pa m p) (hb : ∀ i,i<m→0≤p i∧p i≤100000000) :
 Calls Try.prog 75 #[tabV a m cap, .slice pa m pcap] w fun e w'=> ∃ b,e = .returned (.slice (some ⟨b,0,none⟩) n n)∧RowIs w' b (rowA n (ag (lossA f) p m)) 2∧w.heap.size<b∧Below w.heap.size w w':=by
 obtain ⟨W,hW⟩ : ∃ W,w.alloc (.cells #[.slice a m cap] 24)=W:=⟨_,rfl⟩
 have hB:Below w.heap.size w W:=by rw [← hW]; exact Below.alloc1 (Below.refl _ _) _ (Nat.le_refl _)
 have hR:RowIs W w.heap.size #[.slice a m cap] 24:=by rw [← hW]; exact heap_new_at _ _ _ rfl
 have r0:W.cell? ⟨w.heap.size,0,none⟩=some (.slice a m cap):=RowIs.cell hR 0
 have rz:w.heap.size<W.heap.size:=hR.lt
 have hm0:0<m:=hO.m1
 obtain ⟨b,off,rfl,hbs,hc⟩:=Tab.at (hf.below hB) 0 hm0
 have hck0:W.cell? ⟨b,off,none⟩=some (.slice (f 0).a n (f 0).cap):=by have:=hc 0 hm0; rwa [hO.len 0 hm0] at this
 have HF:=Lib.hid (hf.below hB)
 have HP:=Lib.hid (Cells.below hp hB)
 have HB:=Lib.hid hB
 have HO:=Lib.hid hO
 have Hb:=Lib.hid hb
 have HD:=Lib.hid (fun j (hj:j<n)=>dot_bd (g:=fun i=>lossA f i j) hb (fun i hi=>hO.num i hi j hj))
 have mk:=make_row64 n hO.n4
 obtain ⟨V,hV⟩ : ∃ V,W.alloc (.cells (rowA n fun _=>0) 2)=V:=⟨_,rfl⟩
 have hVr:RowIs V W.heap.size (rowA n fun _=>0) 2:=by rw [← hV]; exact heap_new_at _ _ _ rfl
 have hVb:Below W.heap.size W V:=by rw [← hV]; exact Below.alloc1 (Below.refl _ _) _ (Nat.le_refl _)
 have HVr:=Lib.hid hVr
 have HVb:=Lib.hid hVb
 have hm4:=hO.m4
 have hn4:=hO.n4
 clear hR hf hB hp hO hb hc hVr hVb
 go_enter Try.func75,Try.ntmps75
 go_wp2
 clear mk hV hW hck0
 go_loopw [6] (fun i wr=> ∃ k:Nat,k≤m∧i = .int .i64 k∧RowIs wr W.heap.size (rowA n (ag (lossA f) p k)) 2∧Below W.heap.size W wr) (fun i _=>m-(intOf i).toNat)
 case atStart=>exact ⟨0,Nat.zero_le _,rfl,HVr.out,HVb.out⟩
 case round=>
  obtain ⟨i,hi,rfl,hr,hbw⟩:=hrel
  have Hr:=Lib.hid hr
  have Hbw:=Lib.hid hbw
  clear hr hbw
  by_cases hlt:i<m
  ·go_wp2
   go_loopw [7] (fun j wi=> ∃ k:Nat,k≤n∧j = .int .i64 k∧RowIs wi W.heap.size (rowA n (agK f p i k)) 2∧Below W.heap.size W wi) (fun j _=>n-(intOf j).toNat)
   case atStart=>exact ⟨0,Nat.zero_le _,rfl,by rw [show agK f p i 0=ag (lossA f) p i from funext fun j=>if_neg (Nat.not_lt_zero _)]; exact Hr.out,Hbw.out⟩
   case round=>
    obtain ⟨k,hk,rfl,hri,hbi⟩:=hrel
    by_cases hlk:k<n
    ·obtain ⟨b',off',he,hbs',hc⟩:=Tab.at (HF.out.below hbi) i hlt
     obtain ⟨rfl,rfl⟩:b'=b∧off'=off:=by injection he with he; injection he with h1 h2 _; exact ⟨h1.symm,h2.symm⟩
     have c1:=hc i hlt
     rw [HO.out.len i hlt] at c1
     obtain ⟨rb,ro,hra,hrs,hrc⟩:=Cells.at ((HF.out.below hbi).2 i hlt) k (by rw [HO.out.len i hlt]; exact hlk)
     have c2:=hrc k (by rw [HO.out.len i hlt]; exact hlk)
     rw [hra] at c1
     obtain ⟨pb,po,rfl,hps,hpc⟩:=Cells.at (Cells.below HP.out hbi) i hlt
     have c3:=hpc i hlt
     have c4:wr.cell? ⟨W.heap.size,k,none⟩=some (.int .i64 (ag (lossA f) p i k)):=((RowIs.cell hri k).trans (rowA_get _ _ k hlk)).trans (by unfold agK; rw [if_neg (Nat.lt_irrefl _)])
     have c5:wr.frozen? ⟨W.heap.size,k,none⟩=false:=RowIs.frozen hri k
     have c0:wr.cell? ⟨w.heap.size,0,none⟩=some (.slice (some ⟨b',off',none⟩) m cap):=(hbi.cell (p:=⟨w.heap.size,0,none⟩) rz).trans r0
     have b1:=prod_bd (Hb.out i hlt).1 (Hb.out i hlt).2 (HO.out.num i hlt k hlk).1 (HO.out.num i hlt k hlk).2
     have b2:=HD.out k hlk i (by omega)
     have hw1:IntKind.i64.wrap (p i*(f i).g k)=p i*(f i).g k:=IntWalk.i64_in _ (by omega)
     have hw2:IntKind.i64.wrap (ag (lossA f) p i k+p i*(f i).g k)=ag (lossA f) p i k+p i*(f i).g k:=IntWalk.i64_in _ (by unfold ag; omega)
     have hset:=rowA_set n (agK f p i k) (agK f p i (k+1)) k (ag (lossA f) p i k+p i*(f i).g k) (by unfold agK; rw [if_pos (by omega)]; rfl) (fun j _ hj=>by unfold agK; by_cases h:j<k; { rw [if_pos h,if_pos (by omega)] }; { rw [if_neg h,if_neg (by omega)] })
     have Hri:=Lib.hid hri
     have Hbi:=Lib.hid hbi
     have Hset:=Lib.hid hset
     have hz1:w.heap.size<wr.heap.size:=Nat.lt_of_lt_of_le rz hbi.size
     have hz2:W.heap.size<wr.heap.size:=hri.lt
     clear hri hbi hset hc hrc hpc b1 b2 he
     go_wp2
     go_region
     all_goals
      go_wp2
      go_roundw
      case rel=>exact ⟨k+1,by omega,by go_num,by rw [← Hset.out]; exact (Hri.out.set k _),(Hbi.out.setCell (p:=⟨W.heap.size,k,none⟩) (Nat.le_refl _) _).drew⟩
      case measure=>simp [intOf]; omega
    ·obtain rfl:k=n:=by omega
     have Hri:=Lib.hid hri
     have Hbi:=Lib.hid hbi
     clear hri hbi
     go_wp2
     go_roundw
     case rel=>exact ⟨i+1,by omega,by go_num,by rw [← rowA_same (h:=agK f p i k) (fun j hj=>if_pos hj)]; exact Hri.out,Hbi.out⟩
     case measure=>simp [intOf]; omega
  ·obtain rfl:i=m:=by omega
   go_wp2
   go_ret
   exact ⟨_,rfl,Hr.out,rz,bup HB.out Hbw.out⟩
end Go.Proofs.Ytkbbhihndigmeaa

namespace Go.Proofs.Ytkbbhihndigmeaa
open Go Go.RowKit
theorem gcd_step (a b:Int) (ha:0≤a) (hb:0<b):Int.gcd b (a % b)=Int.gcd a b:=by
 obtain ⟨m,rfl⟩:=Int.eq_ofNat_of_zero_le ha
 obtain ⟨n,rfl⟩:=Int.eq_ofNat_of_zero_le (Int.le_of_lt hb)
 show Nat.gcd _ _=Nat.gcd _ _
 rw [← Int.natCast_emod]
 simp only [Int.natAbs_natCast]
 rw [Nat.gcd_comm m n,Nat.gcd_rec n m,Nat.gcd_comm]
set_option maxHeartbeats 4000000 in
theorem rBy_c (n d:Int) (w:World) (hn : -4611686018427387904≤n) (hn':n≤4611686018427387904) (hd:0<d) (hd':d≤4611686018427387904) :
 Calls Try.prog 54 #[.int .i64 n, .int .i64 d] w fun e w'=>e = .returned (ratV n d)∧Below w.heap.size w w':=by
 obtain ⟨g0,g1⟩:=gcd_bd n d hd
 unfold ratV ratN ratD
 obtain ⟨g,hG⟩ : ∃ g:Int,(Int.gcd n d:Int)=g:=⟨_,rfl⟩
 rw [hG] at g0 g1 ⊢
 have hmn:(Int.gcd (max n (-n)) d:Int)=g:=by
  rw [← hG]
  rcases Int.le_total 0 n with h | h
  ·rw [Int.max_eq_left (by omega)]
  ·rw [Int.max_eq_right (by omega)]; simp [Int.gcd]
 have HG:=Lib.hid hmn
 clear hG hmn
 obtain ⟨W,hW⟩ : ∃ W,w.alloc (.cells #[.int .i64 0, .int .i64 0] 30)=W:=⟨_,rfl⟩
 have hB:Below w.heap.size w W:=by rw [← hW]; exact Below.alloc1 (Below.refl _ _) _ (Nat.le_refl _)
 have hR:W.heap[w.heap.size]? = some (.cells #[.int .i64 0, .int .i64 0] 30 (0,0)):=by rw [← hW]; exact heap_new_at _ _ _ rfl
 have HB:=Lib.hid hB
 have HR:=Lib.hid hR
 clear hB hR
 by_cases h:0≤n
 all_goals
  have hmx:(Int.gcd n d:Int)=g∧(Int.gcd (-n) d:Int)=g:=by
   have:=HG.out
   rcases Int.le_total 0 n with h | h
   ·rw [Int.max_eq_left (by omega)] at this
    exact ⟨this,by rw [← this]; simp [Int.gcd]⟩
   ·rw [Int.max_eq_right (by omega)] at this
    exact ⟨by rw [← this]; simp [Int.gcd],this⟩
  have HM:=Lib.hid hmx
  clear hmx HG
  go_enter Try.func54,Try.ntmps54
  go_wp2_with fail
  all_goals try (exfalso; omega)
  go_loopw [5,6] (fun x y wr=> ∃ (p q:Int) (m:Nat),0≤p∧0≤q∧p≤4611686018427387904∧q≤4611686018427387904∧x = .int .i64 p∧y = .int .i64 q∧(Int.gcd p q:Int)=g∧wr=W.drewN m) (fun _ y _=>(intOf y).toNat)
  case atStart=>first | exact ⟨n,d,0,by omega,by omega,by omega,by omega,rfl,rfl,HM.out.1,rfl⟩ | exact ⟨-n,d,0,by omega,by omega,by omega,by omega,rfl,rfl,HM.out.2,rfl⟩
  case round=>
   obtain ⟨p,q,m,hp,hq,hp',hq',rfl,rfl,hg,rfl⟩:=hrel
   have Hg:=Lib.hid hg
   clear hg
   by_cases h0:q=0
   ·subst h0
    have hpg:p=g:=by rw [← Hg.out]; simp [Int.gcd,Int.natAbs_of_nonneg hp]
    clear Hg hp hp' hq hq'
    subst hpg
    obtain ⟨V,hV⟩ : ∃ V,W.drewN m=V:=⟨_,rfl⟩
    have hVb:Below W.heap.size W V:=by rw [← hV]; exact below_drewN (Below.refl _ _) _
    have hVr:V.heap[w.heap.size]? = some (.cells #[.int .i64 0, .int .i64 0] 30 (0,0)):=(hVb.block _ (Array.getElem?_eq_some_iff.1 HR.out).1).trans HR.out
    have HVr:=Lib.hid hVr
    have HVb:=Lib.hid (bup HB.out hVb)
    rw [hV]
    clear hV hVb hVr
    have hVr:=HVr.out
    have hVz:w.heap.size<V.heap.size:=(Array.getElem?_eq_some_iff.1 hVr).1
    have c0:V.cell? ⟨w.heap.size,0,none⟩=some (.int .i64 0):=by simp [World.cell?,hVr]
    have c1:V.cell? ⟨w.heap.size,1,none⟩=some (.int .i64 0):=by simp [World.cell?,hVr]
    have f0:V.frozen? ⟨w.heap.size,0,none⟩=false:=by simp [World.frozen?,hVr]
    have f1:V.frozen? ⟨w.heap.size,1,none⟩=false:=by simp [World.frozen?,hVr]
    go_wp2_with fail
    go_region
    all_goals
     go_wp2
     refine bodyPost_ret (v:= .agg #[.int .i64 (n.tdiv p), .int .i64 (d / p)]) (by simp [results,Try.results54,go_sem,Int.tdiv_eq_ediv_of_nonneg, *]) rfl ⟨rfl,?_⟩
     repeat (first | exact HVb.out | exact Nat.le_refl _ | (refine Below.setCell ?_ ?_ _) | (refine Below.drew ?_) | (refine below_drewN ?_ _))
   ·have hqn:(q != 0)=true:=by simpa using h0
    have hq0:0<q:=by omega
    have hm0:=Int.emod_nonneg p h0
    have hm1:=Int.emod_lt_of_pos p hq0
    have Hs:=Lib.hid (gcd_step p q hp hq0)
    go_wp2
    go_quiet (fail)
    go_wp2
    go_roundw
    case rel=>exact ⟨q,p % q,_,hq,hm0,hq',by omega,rfl,rfl,by rw [Hs.out,Hg.out],drewN_drewN _ _ _⟩
    case measure=>simp [intOf]; omega
end Go.Proofs.Ytkbbhihndigmeaa

namespace Go.Proofs.Ytkbbhihndigmeaa
open Go Go.RowKit
def leastF (g:Nat→Int):Nat→Int
 | 0=>g 0
 | k+1=>min (leastF g k) (g k)
theorem leastF_if (g:Nat→Int) (k:Nat):(if g k<leastF g k then g k else leastF g k)=leastF g (k+1):=by
 rw [leastF]
 split <;> omega
theorem leastF_le (g:Nat→Int) : ∀ n j,j<n→leastF g n≤g j
 | 0,j,h=>absurd h (Nat.not_lt_zero _)
 | n+1,j,h=>by
   rw [leastF]
   by_cases e:j=n
   ·subst e; omega
   ·have:=leastF_le g n j (by omega); omega
theorem leastF_is (g:Nat→Int) : ∀ n,0<n → ∃ j,j<n∧leastF g n=g j
 | 0,h=>absurd h (Nat.lt_irrefl _)
 | 1,_=>⟨0,by omega,by simp [leastF]⟩
 | n+2,_=>by
   obtain ⟨j,hj,e⟩:=leastF_is g (n+1) (by omega)
   rw [leastF]
   by_cases h:leastF g (n+1)≤g (n+1)
   ·exact ⟨j,by omega,by rw [Int.min_eq_left h]; exact e⟩
   ·exact ⟨n+1,by omega,Int.min_eq_right (by omega)⟩
theorem leastF_bd {g:Nat→Int} {lo hi:Int} {n:Nat} (hn:0<n) (h : ∀ j,j<n→lo≤g j∧g j≤hi):lo≤leastF g n∧leastF g n≤hi:=by
 obtain ⟨j,hj,e⟩:=leastF_is g n hn
 rw [e]; exact h j hj
theorem leastF_same {g h:Nat→Int} {n:Nat} (hn:0<n) (e : ∀ j,j<n→g j=h j):leastF g n=leastF h n:=by
 have k : ∀ k,k≤n→leastF g k=leastF h k:=by
  intro k
  induction k with
  | zero=>exact fun _=>e 0 hn
  | succ k ih=>exact fun hk=>by rw [leastF,leastF,ih (by omega),e k (by omega)]
 exact k n (Nat.le_refl _)
theorem ag_bd {f:Nat→Row3} {m n:Nat} {p:Nat→Int} (hO:Okay m n f) (hb : ∀ i,i<m→0≤p i∧p i≤100000000) (j:Nat) (hj:j<n) : -40000000000≤ag (lossA f) p m j∧ag (lossA f) p m j≤40000000000:=by
 have h:=dot_bd (g:=fun i=>lossA f i j) hb (fun i hi=>hO.num i hi j hj) m (Nat.le_refl _)
 have:=hO.m4
 unfold ag
 omega
abbrev sureN (f:Nat→Row3) (m n:Nat) (p:Nat→Int):Int:=leastF (ag (lossA f) p m) n
theorem sum_pos {p:Nat→Int} {m:Nat} (hb : ∀ i,i<m→0≤p i∧p i≤100000000) (hs:sumI p m ≠ 0):0<sumI p m:=by
 have:=sumI_bound hb m (Nat.le_refl _)
 omega
set_option maxHeartbeats 4000000 in
theorem rSureOf_c (a:Option Addr) (m n cap:Nat) (f:Nat→Row3) (pa:Option Addr) (pcap:Nat) (p:Nat→Int) (w:World) (hf:Tab w a m f) (hO:Okay m n f) (hp:Ints w pa m p) (hb : ∀ i,i<m→0≤p i∧p i≤100000000) (hs:sumI p m ≠ 0) :
 Calls Try.prog 65 #[tabV a m cap, .slice pa m pcap] w fun e w'=>e = .returned (ratV (sureN f m n p) (sumI p m))∧Below w.heap.size w w':=by
 obtain ⟨W,hW⟩ : ∃ W,(w.alloc (.cells #[.slice a m cap] 24)).alloc (.cells #[.int .i64 0, .int .i64 0] 30)=W:=⟨_,rfl⟩
 have hB:Below w.heap.size w W:=by rw [← hW]; exact Below.alloc1 (Below.alloc1 (Below.refl _ _) _ (Nat.le_refl _)) _ (Nat.le_refl _)
 have hR:RowIs W w.heap.size #[.slice a m cap] 24:=by rw [← hW]; exact RowIs.alloc (heap_new_at _ _ _ rfl) _
 have hQ:RowIs W (w.heap.size+1) #[.int .i64 0, .int .i64 0] 30:=by rw [← hW]; exact heap_new_at _ _ _ (by simp)
 have r0:W.cell? ⟨w.heap.size,0,none⟩=some (.slice a m cap):=RowIs.cell hR 0
 have rz:w.heap.size<W.heap.size:=hR.lt
 have hA:=rAgainst_c a m n cap f pa pcap p W (hf.below hB) hO (Cells.below hp hB) hb
 have HA:=Lib.hid hA
 have HF:=Lib.hid (hf.below hB)
 have HP:=Lib.hid (Cells.below hp hB)
 have HB:=Lib.hid hB
 have HQ:=Lib.hid hQ
 have HO:=Lib.hid hO
 have Hb:=Lib.hid hb
 have Hp:=Lib.hid (sum_pos hb hs)
 have hm4:=hO.m4
 have hn1:0<n:=hO.n1
 have hn4:=hO.n4
 obtain ⟨g,hg⟩ : ∃ g,ag (lossA f) p m=g:=⟨_,rfl⟩
 have hgb : ∀ j,j<n → -40000000000≤g j∧g j≤40000000000:=by rw [← hg]; exact ag_bd hO hb
 have Hgb:=Lib.hid hgb
 unfold sureN
 rw [hg] at HA ⊢
 clear hf hB hR hp hO hb hs hQ hA hg hgb
 go_enter Try.func65,Try.ntmps65
 go_wp2_with fail
 refine HA.out.mono ?_
 rintro e w1 ⟨b,rfl,hr1,hbz,hb1⟩
 have c0:w1.cell? ⟨b,0,none⟩=some (.int .i64 (g 0)):=(RowIs.cell hr1 0).trans (rowA_get _ _ 0 hn1)
 have cz:=hr1.lt
 have Hr1:=Lib.hid hr1
 have Hb1:=Lib.hid hb1
 clear hr1 hb1 HA hW
 go_wp2_with fail
 clear c0
 go_loop [6,7] (fun s i=> ∃ k:Nat,k≤n∧i = .int .i64 k∧s = .int .i64 (leastF g k)) (fun _ i=>n-(intOf i).toNat)
 case atStart=>exact ⟨0,Nat.zero_le _,rfl,rfl⟩
 case round=>
  obtain ⟨k,hk,rfl,rfl⟩:=hrel
  by_cases hlt:k<n
  ·have ck:w1.cell? ⟨b,k,none⟩=some (.int .i64 (g k)):=(RowIs.cell Hr1.out k).trans (rowA_get _ _ k hlt)
   have e1:=leastF_if g k
   obtain ⟨x,hx⟩ : ∃ x,leastF g (k+1)=x:=⟨_,rfl⟩
   have e2:min (leastF g k) (g k)=x:=hx
   rw [hx] at e1
   have Hx:=Lib.hid hx
   clear hx
   go_wp2
   go_round
   case rel=>exact ⟨k+1,by omega,by go_num,by rw [Hx.out]⟩
   case measure=>simp [intOf]; omega
  ·obtain rfl:k=n:=by omega
   have hl:=leastF_bd hn1 Hgb.out
   have hsb:=(sumI_bound Hb.out m (Nat.le_refl _)).2
   have HS:=Lib.hid (rSum_c pa m pcap p w1 (Cells.below HP.out Hb1.out) (by omega) Hb.out)
   have HY:=Lib.hid (fun x:World=>rBy_c (leastF g k) (sumI p m) x (by omega) (by omega) Hp.out (by omega))
   clear hl hsb
   go_wp2_with fail
   refine HS.out.mono ?_
   rintro e w2 ⟨rfl,rfl⟩
   go_wp2_with fail
   refine (HY.out _).mono ?_
   rintro e w3 ⟨rfl,hb3⟩
   have hQ3:=(HQ.out.below Hb1.out).below hb3
   have q0:=RowIs.cell hQ3 0
   have q1:=RowIs.cell hQ3 1
   have z0:=RowIs.frozen hQ3 0
   have z1:=RowIs.frozen hQ3 1
   have qz:=hQ3.lt
   simp at q0 q1
   have HB3:=Lib.hid (bup HB.out (bup Hb1.out hb3))
   have HQ3:=Lib.hid hQ3
   clear hQ3 hb3
   go_wp2_with fail
   have hQ4:=(HQ3.out.set 0 (.int .i64 (ratN (leastF g k) (sumI p m)))).set 1 (.int .i64 (ratD (leastF g k) (sumI p m)))
   have y0:=RowIs.cell hQ4 0
   have y1:=RowIs.cell hQ4 1
   simp at y0 y1
   refine bodyPost_ret (v:=ratV (leastF g k) (sumI p m)) (by simp [results,Try.results65,go_sem,y0,y1]) rfl ⟨rfl,(HB3.out.setCell (p:=⟨w.heap.size+1,0,none⟩) (by show w.heap.size≤w.heap.size+1; omega) _).setCell (p:=⟨w.heap.size+1,1,none⟩) (by show w.heap.size≤w.heap.size+1; omega) _⟩
end Go.Proofs.Ytkbbhihndigmeaa

namespace Go.Proofs.Ytkbbhihndigmeaa
open Go Go.RowKit
def colL (f:Nat→Row3) (j i:Nat):List Value:=(List.range i).map fun i=> .int .i64 (- (f i).g j)
theorem colL_len (f:Nat→Row3) (j i:Nat):(colL f j i).length=i:=by simp [colL]
theorem colL_more (f:Nat→Row3) (j i:Nat):colL f j (i+1)=colL f j i ++ [.int .i64 (- (f i).g j)]:=by simp [colL,List.range_succ]
theorem getD_snoc {L:List Value} {v d:Value} {k:Nat} (hL:L.length=k):(L ++ [v]).getD k d=v ∧ ∀ j,j<k→(L ++ [v]).getD j d=L.getD j d:=by
 subst hL
 refine ⟨by simp [List.getD],fun j hj => ?_⟩
 simp [List.getD,List.getElem?_append_left hj]
theorem tab_own {w:World} {B n m:Nat} {L:List Value} {v:Value} {f:Nat→Row3} (hL:L.length=n) (hv:OwnV 25 w B L v) (hr : ∀ j,j<n→OwnV 2 w B (colL f j m) (L.getD j undef)) :
 ∃ p cap f',v = .slice p n cap∧n≤cap∧cap≤9223372036854775807∧Tab w p n f'∧(∀ j,j<n→(f' j).n=m) ∧ ∀ j,(f' j).g=fun i=> - (f i).g j:=by
 classical
 have hx : ∀ j,∃ R:Row3,R.n=m∧R.g=(fun i=> - (f i).g j)∧(j<n→L.getD j undef = .slice R.a R.n R.cap∧Ints w R.a R.n R.g):=fun j=>by
  by_cases hj:j<n
  ·obtain ⟨p,cap,h1,h2,h3,h4,h5,h6⟩:=(hr j hj).form
   rw [colL_len] at h1
   refine ⟨⟨p,m,cap,fun i=> - (f i).g j⟩,rfl,rfl,fun _=>⟨h1,h5 m _ (colL_len f j m).symm fun i hi => ?_⟩⟩
   simp [colL,hi]
  ·exact ⟨⟨none,m,0,fun i=> - (f i).g j⟩,rfl,rfl,fun h=>absurd h hj⟩
 obtain ⟨p,cap,h1,h2,h3,h4,h5,h6⟩:=hv.form
 rw [hL] at h1 h2
 refine ⟨p,cap,fun j=>Classical.choose (hx j),h1,h2,h3,⟨h5 n _ hL.symm fun i hi => ?_,fun i hi => ?_⟩,fun j _=>(Classical.choose_spec (hx j)).1,fun j=>(Classical.choose_spec (hx j)).2.1⟩
 ·obtain ⟨e1,e2,e3⟩:=Classical.choose_spec (hx i)
  have:=(e3 hi).1
  rw [← this,List.getD_eq_getElem?_getD,List.getElem?_eq_getElem (by omega)]
  rfl
 ·obtain ⟨e1,e2,e3⟩:=Classical.choose_spec (hx i)
  exact (e3 hi).2
set_option maxRecDepth 100000 in
set_option maxHeartbeats 8000000 in
theorem rTurned_c (a:Option Addr) (m n cap:Nat) (f:Nat→Row3) (w:World) (hf:Tab w a m f) (hO:Okay m n f) :
 Calls Try.prog 53 #[tabV a m cap] w fun e w'=>(∃ p c f',e = .returned (tabV p n c)∧n≤c∧c≤9223372036854775807∧Tab w' p n f'∧(∀ j,j<n→(f' j).n=m) ∧ ∀ j,(f' j).g=fun i=> - (f i).g j)∧Below w.heap.size w w':=by
 obtain ⟨W,hW⟩ : ∃ W,((w.alloc (.cells #[.slice a m cap] 24)).alloc (.cells #[.slice none 0 0] 24)).alloc (.cells #[.slice none 0 0] 24)=W:=⟨_,rfl⟩
 have hB:Below w.heap.size w W:=by rw [← hW]; exact Below.alloc1 (Below.alloc1 (Below.alloc1 (Below.refl _ _) _ (Nat.le_refl _)) _ (Nat.le_refl _)) _ (Nat.le_refl _)
 have hR:RowIs W w.heap.size #[.slice a m cap] 24:=by rw [← hW]; exact RowIs.alloc (RowIs.alloc (heap_new_at _ _ _ rfl) _) _
 have hQ:RowIs W (w.heap.size+1) #[.slice none 0 0] 24:=by rw [← hW]; exact RowIs.alloc (heap_new_at _ _ _ (by simp)) _
 have hS:RowIs W (w.heap.size+1+1) #[.slice none 0 0] 24:=by rw [← hW]; exact heap_new_at _ _ _ (by simp)
 obtain ⟨D,hD⟩ : ∃ D,W.heap.size=D:=⟨_,rfl⟩
 obtain ⟨b0,hb0⟩ : ∃ b0,w.heap.size=b0:=⟨_,rfl⟩
 have hDz:D=b0+3:=by rw [← hD, ← hW, ← hb0]; simp
 have HF:=Lib.hid (fun (x:World) (h:Below w.heap.size w x)=>hf.below h)
 have HR:=Lib.hid hR
 have HQ:=Lib.hid hQ
 have HS:=Lib.hid hS
 have HB:=Lib.hid hB
 have HO:=Lib.hid hO
 have Hb0:=Lib.hid hb0
 have HDz:=Lib.hid hDz
 have hm0:0<m:=hO.m1
 have hm4:=hO.m4
 have hn4:=hO.n4
 clear hf hO hQ hS hR hB hb0 hDz
 go_enter Try.func53,Try.ntmps53
 go_wp2_with fail
 clear hW
 go_loopw [4] (fun i wr=> ∃ k:Nat,k≤n∧i = .int .i64 k ∧ ∃ L v,L.length=k∧OwnV 25 wr D L v∧(∀ j,j<k→OwnV 2 wr D (colL f j m) (L.getD j undef))∧RowIs wr (w.heap.size+1+1) #[v] 24∧RowIs wr w.heap.size #[.slice a m cap] 24∧RowIs wr (w.heap.size+1) #[.slice none 0 0] 24∧Below w.heap.size w wr) (fun i _=>n-(intOf i).toNat)
 case atStart=>exact ⟨0,Nat.zero_le _,rfl,[],_,rfl,ownV_nil _ _ _,fun j hj=>absurd hj (Nat.not_lt_zero _),HS.out,HR.out,HQ.out,HB.out⟩
 case round=>
  obtain ⟨k,hk,rfl,L,v,hL,hv,hrows,hs,hr,hq,hb⟩:=hrel
  have r0:wr.cell? ⟨w.heap.size,0,none⟩=some (.slice a m cap):=RowIs.cell hr 0
  have rz:w.heap.size<wr.heap.size:=hr.lt
  obtain ⟨b,off,rfl,hbs,hc⟩:=Tab.at (HF.out wr hb) 0 hm0
  have c0:=hc 0 hm0
  rw [Nat.add_zero,HO.out.len 0 hm0] at c0
  have Hs:=Lib.hid hs
  have Hr:=Lib.hid hr
  have Hq:=Lib.hid hq
  have Hv:=Lib.hid hv
  have Hb:=Lib.hid hb
  have Hrows:=Lib.hid hrows
  have HL:=Lib.hid hL
  clear hs hr hq hv hb hrows hL hc
  by_cases hlt:k<n
  ·obtain ⟨X,hX⟩ : ∃ X:World,X=wr:=⟨_,rfl⟩
   subst hX
   go_wp2
   clear r0 c0
   go_loopw [5,6] (fun x i wr=> ∃ (j:Nat) (u:Value),j≤m∧i = .int .i64 j∧x=u∧OwnV 2 wr X.heap.size (colL f k j) u∧Below X.heap.size X wr) (fun _ i _=>m-(intOf i).toNat)
   case atStart=>exact ⟨0,_,Nat.zero_le _,rfl,rfl,ownV_nil _ _ _,Below.refl _ _⟩
   case round=>
    obtain ⟨j,_,hj,rfl,rfl,hu,hbx⟩:=hrel
    have hr2:=Hr.out.below hbx
    have r0:wr.cell? ⟨w.heap.size,0,none⟩=some (.slice (some ⟨b,off,none⟩) m cap):=RowIs.cell hr2 0
    have rz2:w.heap.size<wr.heap.size:=hr2.lt
    have hb2:Below w.heap.size w wr:=Hb.out.trans (hbx.mono (by have:=rz; omega))
    by_cases hlj:j<m
    ·have hT:=HF.out wr hb2
     obtain ⟨b',off',he,hbs',hc⟩:=Tab.at hT j hlj
     obtain ⟨rfl,rfl⟩:b'=b∧off'=off:=by injection he with he; injection he with h1 h2 _; exact ⟨h1.symm,h2.symm⟩
     have c1:=hc j hlj
     rw [HO.out.len j hlj] at c1
     obtain ⟨rb,ro,hra,hrs,hrc⟩:=Cells.at (hT.2 j hlj) k (by rw [HO.out.len j hlj]; exact hlt)
     have c2:=hrc k (by rw [HO.out.len j hlj]; exact hlt)
     rw [hra] at c1
     have hx:=HO.out.num j hlj k hlt
     have hw:IntKind.i64.wrap (-(f j).g k) = -(f j).g k:=IntWalk.i64_in _ (by omega)
     obtain ⟨Y,hY⟩ : ∃ Y,wr.alloc (.cells #[.int .i64 (-(f j).g k)] 2)=Y:=⟨_,rfl⟩
     have hyb:Below wr.heap.size wr Y:=by rw [← hY]; exact Below.alloc1 (Below.refl _ _) _ (Nat.le_refl _)
     have hyr:RowIs Y wr.heap.size #[.int .i64 (-(f j).g k)] 2:=by rw [← hY]; exact heap_new_at _ _ _ rfl
     obtain ⟨u',Z,hrun,ho,hgz,hbz, -⟩:=app64 (hu.below hyb) (.int .i64 (-(f j).g k)) wr.heap.size (hyr.cell 0) rfl (Nat.le_trans hbx.size hyb.size) (by rw [colL_len]; omega)
     rw [← colL_more] at ho
     have Ho:=Lib.hid ho
     have Hbz:=Lib.hid (hbx.trans ((hyb.mono hbx.size).trans hbz))
     clear hu hbx hr2 hb2 hT he hc hrc hx hyb hyr ho hgz hbz
     go_wp2_with (at_builtin; refine wpList_append_run rfl _ _ 25 rfl rfl rfl hrun ?_)
     clear hrun
     go_roundw
     case rel=>exact ⟨j+1,_,by omega,by go_num,rfl,Ho.out,Hbz.out⟩
     case measure=>simp [intOf]; omega
    ·obtain rfl:j=m:=by omega
     have hs2:=Hs.out.below hbx
     have s0:wr.cell? ⟨w.heap.size+1+1,0,none⟩=some v:=RowIs.cell hs2 0
     obtain ⟨vp,vc,hvf, -⟩:=Hv.out.form
     have hsz:w.heap.size+1+1<wr.heap.size:=hs2.lt
     obtain ⟨up,uc,huf, -⟩:=hu.form
     rw [colL_len] at huf
     rw [HL.out] at hvf
     obtain ⟨Y,hY⟩ : ∃ Y,wr.alloc (.cells #[u5] 25)=Y:=⟨_,rfl⟩
     have hyb:Below wr.heap.size wr Y:=by rw [← hY]; exact Below.alloc1 (Below.refl _ _) _ (Nat.le_refl _)
     have hyr:RowIs Y wr.heap.size #[u5] 25:=by rw [← hY]; exact heap_new_at _ _ _ rfl
     have hXY:Below X.heap.size X Y:=hbx.trans (hyb.mono hbx.size)
     have hDX:D≤X.heap.size:=by have:=Hs.out.lt; rw [HDz.out, ← Hb0.out]; omega
     obtain ⟨v',Z,hrun,ho,hgz,hbz, -⟩:=appS64 (Hv.out.below hXY) u5 wr.heap.size (hyr.cell 0) (by rw [huf]; rfl) (Nat.le_trans hDX hXY.size) (by rw [HL.out]; omega)
     have hvY:=Hv.out.below hXY
     have hsZ:=hvY.other hgz (hs2.below hyb) (by decide)
     have hrZ:=hvY.other hgz (hr2.below hyb) (by decide)
     have hqZ:=hvY.other hgz ((Hq.out.below hbx).below hyb) (by decide)
     have huZ:=hvY.keep hgz (hu.below hyb) (by decide)
     have hlZ : ∀ l,l<k→OwnV 2 Z D (colL f l j) (L.getD l undef):=fun l hl=>hvY.keep hgz ((Hrows.out l hl).below hXY) (by decide)
     have hbZ:Below w.heap.size w Z:=(hb2.trans (hyb.mono (by omega))).trans (hbz.mono (by rw [HDz.out, ← Hb0.out]; omega))
     have hfz:Z.frozen? ⟨w.heap.size+1+1,0,none⟩=false:=hsZ.frozen 0
     have hcz:Z.cell? ⟨w.heap.size+1+1,0,none⟩=some v:=hsZ.cell 0
     have hzz:w.heap.size+1+1<Z.heap.size:=hsZ.lt
     have HsZ:=Lib.hid hsZ
     have HrZ:=Lib.hid hrZ
     have HqZ:=Lib.hid hqZ
     have HuZ:=Lib.hid (huZ.base hDX)
     have HlZ:=Lib.hid hlZ
     have HbZ:=Lib.hid hbZ
     have Ho:=Lib.hid ho
     clear hu hbx hr2 hb2 hs2 hyb hyr hXY hvY hsZ hrZ hqZ huZ hlZ hbZ ho hgz hbz hDX
     obtain ⟨np,nc,hnf, -⟩:=Ho.out.form
     rw [show (L ++ [u5]).length=k+1 by simp [HL.out]] at hnf
     subst hnf
     subst hvf
     subst huf
     go_wp2_with (at_builtin; refine wpList_append_run rfl _ _ 22 rfl rfl rfl hrun ?_)
     clear hrun
     go_roundw
     case rel=>
      have hg:=getD_snoc (v:= .slice up j uc) (d:=undef) HL.out
      refine ⟨k+1,by omega,by go_num,L ++ [.slice up j uc], .slice np (k+1) nc,by simp [HL.out],?_,?_,HsZ.out.set 0 _,HrZ.out.other 0 _ (by omega),HqZ.out.other 0 _ (by omega),HbZ.out.setCell (p:=⟨w.heap.size+1+1,0,none⟩) (by show w.heap.size≤w.heap.size+1+1; omega) _⟩
      ·exact Ho.out.far HsZ.out (by decide)
      ·intro l hl
       by_cases e:l=k
       ·subst e
        rw [hg.1]
        exact HuZ.out.far HsZ.out (by decide)
       ·rw [hg.2 l (by omega)]
        exact (HlZ.out l (by omega)).far HsZ.out (by decide)
     case measure=>simp [intOf]; omega
  ·obtain rfl:k=n:=by omega
   obtain ⟨p,c,hvf, -⟩:=Hv.out.form
   rw [HL.out] at hvf
   subst hvf
   have s0:wr.cell? ⟨w.heap.size+1+1,0,none⟩=some (.slice p k c):=RowIs.cell Hs.out 0
   have sz:w.heap.size+1+1<wr.heap.size:=Hs.out.lt
   have q0:wr.cell? ⟨w.heap.size+1,0,none⟩=some (.slice none 0 0):=RowIs.cell Hq.out 0
   have z0:wr.frozen? ⟨w.heap.size+1,0,none⟩=false:=RowIs.frozen Hq.out 0
   have qz:w.heap.size+1<wr.heap.size:=Hq.out.lt
   go_wp2_with fail
   have hq2:=Hq.out.set 0 (.slice p k c)
   have y0:=RowIs.cell hq2 0
   simp at y0
   obtain ⟨p',c',f',e1,h1,h2,h3,h4,h5⟩:=tab_own HL.out (Hv.out.far (bb:=w.heap.size+1) (o:=0) (u:= .slice p k c) Hq.out (by decide)) fun j hj=>(Hrows.out j hj).far (bb:=w.heap.size+1) (o:=0) (u:= .slice p k c) Hq.out (by decide)
   simp only [Value.slice.injEq,true_and] at e1
   obtain ⟨rfl,rfl⟩:=e1
   exact bodyPost_ret (v:=tabV p k c) (by simp [results,Try.results53,go_sem,y0]) rfl ⟨⟨p,c,f',rfl,h1,h2,h3,h4,h5⟩,Hb.out.setCell (p:=⟨w.heap.size+1,0,none⟩) (by show w.heap.size≤w.heap.size+1; omega) _⟩
end Go.Proofs.Ytkbbhihndigmeaa

namespace Go.Proofs.Ytkbbhihndigmeaa
def tabM (M:Nat→Nat→Int) (k:Nat):List (List Int):=(List.range k).map fun a=>(List.range k).map fun b=>M a b
def formM (M:Nat→Nat→Int) (k:Nat) (b s:Nat):Int:=if s<k then M s b else -1
def formsM (M:Nat→Nat→Int) (k:Nat):List (Nat→Int):=(List.range k).map (formM M k)
theorem detP_cols (rows:List (Nat→Int)) (u:List Nat) (a b:Nat) (v:List Nat) (h:(u ++ a :: b :: v).length=rows.length) (hl:rows.length≤4):detP rows (u ++ b :: a :: v) = - detP rows (u ++ a :: b :: v):=by
 match rows,u,v,h with
 | [p,q],[],[],_=>simp [detP,altSum]; grind
 | [p,q,r],[],[x],_=>simp [detP,altSum]; grind
 | [p,q,r],[x],[],_=>simp [detP,altSum]; grind
 | [p,q,r,s],[],[x,y],_=>simp [detP,altSum]; grind
 | [p,q,r,s],[x],[y],_=>simp [detP,altSum]; grind
 | [p,q,r,s],[x,y],[],_=>simp [detP,altSum]; grind
 | [],u,v,h=>simp at h
 | [_],u,v,h=>simp at h; omega
 | [_,_],_ :: u,v,h=>simp at h; omega
 | [_,_],u,_ :: v,h=>simp at h; omega
 | [_,_,_],[],[],h=>simp at h
 | [_,_,_],[],_ :: _ :: v,h=>simp at h
 | [_,_,_],[_],_ :: v,h=>simp at h
 | [_,_,_],_ :: _ :: u,v,h=>simp at h; omega
 | [_,_,_,_],[],[],h=>simp at h
 | [_,_,_,_],[],[_],h=>simp at h
 | [_,_,_,_],[],_ :: _ :: _ :: v,h=>simp at h
 | [_,_,_,_],[_],[],h=>simp at h
 | [_,_,_,_],[_],_ :: _ :: v,h=>simp at h
 | [_,_,_,_],[_,_],_ :: v,h=>simp at h
 | [_,_,_,_],_ :: _ :: _ :: u,v,h=>simp at h; omega
 | _ :: _ :: _ :: _ :: _ :: rows,u,v,h=>simp at hl
theorem detP_colperm (rows:List (Nat→Int)) (hl:rows.length≤4) {c d:List Nat} (h:c.Perm d) : ∀ u:List Nat,(u ++ c).length=rows.length → ∃ e:Int,(e=1∨e = -1)∧detP rows (u ++ d)=e*detP rows (u ++ c):=by
 induction h with
 | nil=>exact fun u _=>⟨1, .inl rfl,by omega⟩
 | cons x h ih=>
   intro u hu
   obtain ⟨e,he,h2⟩:=ih (u ++ [x]) (by simpa using hu)
   exact ⟨e,he,by simpa using h2⟩
 | swap a b l=>exact fun u hu=>⟨-1, .inr rfl,by rw [detP_cols rows u b a l hu hl]; omega⟩
 | trans h1 h2 ih1 ih2=>
   intro u hu
   obtain ⟨e1,a1,b1⟩:=ih1 u hu
   obtain ⟨e2,a2,b2⟩:=ih2 u (by simpa [h1.length_eq] using hu)
   refine ⟨e2*e1,?_,by rw [b2,b1,Int.mul_assoc]⟩
   rcases a1 with rfl | rfl <;> rcases a2 with rfl | rfl <;> simp
theorem detP_coltwice (rows:List (Nat→Int)) (hl:rows.length≤4) {c:List Nat} (h:c.length=rows.length) (hd : ¬ c.Nodup):detP rows c=0:=by
 have : ∃ a v,(a :: a :: v).Perm c:=by
  clear h
  induction c with
  | nil=>exact absurd List.nodup_nil hd
  | cons x c ih=>
    by_cases hx:x ∈ c
    ·obtain ⟨s,t,rfl⟩:=List.append_of_mem hx
     exact ⟨x,s ++ t, .cons x List.perm_middle.symm⟩
    ·obtain ⟨a,v,hp⟩:=ih fun hn=>hd (List.nodup_cons.2 ⟨hx,hn⟩)
     exact ⟨a,x :: v,((List.perm_middle (l₁:=[a,a]) (l₂:=v) (a:=x))).trans (.cons x hp)⟩
 obtain ⟨a,v,hp⟩:=this
 obtain ⟨e, -,h2⟩:=detP_colperm rows hl hp [] (by rw [List.nil_append,hp.length_eq,h])
 have h3:=detP_cols rows [] a a v (by rw [List.nil_append,hp.length_eq,h]) hl
 simp only [List.nil_append] at h2 h3
 rw [h2,show detP rows (a :: a :: v)=0 by omega,Int.mul_zero]
theorem det_part (M:Nat→Nat→Int) (k i:Nat) (hk:k≤4) (hi:i<k):detP (formsM M k) ((List.range (k+1)).eraseIdx i)=(if (k-i) % 2=0 then 1 else -1)*partP (tabM M k) i k:=by
 obtain rfl | rfl | rfl | rfl:k=1∨k=2∨k=3∨k=4:=by omega
 ·obtain rfl:i=0:=by omega
  simp [formsM,formM,tabM,partP,detP,detR,altSum,List.range_succ]
 ·obtain rfl | rfl:i=0∨i=1:=by omega
  all_goals (simp [formsM,formM,tabM,partP,detP,detR,altSum,List.range_succ]; try grind)
 ·obtain rfl | rfl | rfl:i=0∨i=1∨i=2:=by omega
  all_goals (simp [formsM,formM,tabM,partP,detP,detR,altSum,List.range_succ]; try grind)
 ·obtain rfl | rfl | rfl | rfl:i=0∨i=1∨i=2∨i=3:=by omega
  all_goals (simp [formsM,formM,tabM,partP,detP,detR,altSum,List.range_succ]; try grind)
def sumPart (M:Nat→Nat→Int) (k:Nat) (b:Nat):Nat→Int
 | 0=>0
 | i+1=>sumPart M k b i+M i b*partP (tabM M k) i k
theorem det_last (M:Nat→Nat→Int) (k b:Nat) (hk:k≤4) (hb:b<k):sumPart M k b k=detP (formsM M k) (List.range k):=by
 obtain rfl | rfl | rfl | rfl:k=1∨k=2∨k=3∨k=4:=by omega
 ·obtain rfl:b=0:=by omega
  simp [sumPart,formsM,formM,tabM,partP,detP,detR,altSum,List.range_succ]
 ·obtain rfl | rfl:b=0∨b=1:=by omega
  all_goals (simp [sumPart,formsM,formM,tabM,partP,detP,detR,altSum,List.range_succ]; try grind)
 ·obtain rfl | rfl | rfl:b=0∨b=1∨b=2:=by omega
  all_goals (simp [sumPart,formsM,formM,tabM,partP,detP,detR,altSum,List.range_succ]; try grind)
 ·obtain rfl | rfl | rfl | rfl:b=0∨b=1∨b=2∨b=3:=by omega
  all_goals (simp [sumPart,formsM,formM,tabM,partP,detP,detR,altSum,List.range_succ]; try grind)
theorem part_det (M:Nat→Nat→Int) (k:Nat) (hk:k≤4) (hk1:1≤k) (h : ∀ i,i<k→partP (tabM M k) i k=0) (S:List Nat) (hS:S.length=k) (hN : ∀ c,c ∈ S→c<k+1):detP (formsM M k) S=0:=by
 have hfl:(formsM M k).length=k:=by simp [formsM]
 by_cases hd:S.Nodup
 ·obtain ⟨l,hl,hlS⟩:=free_one (S:=S) (N:=k+1) (by omega)
  have hp:((List.range (k+1)).eraseIdx l).Perm S:=by
   have h1:(List.range (k+1)).Perm (l :: S):=by
    refine (List.perm_ext_iff_of_nodup List.nodup_range (List.nodup_cons.2 ⟨hlS,hd⟩)).2 fun x => ?_
    simp only [List.mem_range,List.mem_cons]
    refine ⟨fun hx => ?_,fun hx => ?_⟩
    ·refine Classical.byContradiction fun hno => ?_
     simp only [not_or] at hno
     have h2:=nodup_len (S:=x :: l :: S) (T:=List.range (k+1)) (List.nodup_cons.2 ⟨by simp only [List.mem_cons,not_or]; exact hno,List.nodup_cons.2 ⟨hlS,hd⟩⟩) fun y hy=>by
      rw [List.mem_range]
      rcases List.mem_cons.1 hy with rfl | hy
      ·exact hx
      ·rcases List.mem_cons.1 hy with rfl | hy
       ·exact hl
       ·exact hN y hy
     simp only [List.length_cons,List.length_range] at h2
     omega
    ·rcases hx with rfl | hx
     ·exact hl
     ·exact hN x hx
   have h3:(l :: (List.range (k+1)).eraseIdx l).Perm (List.range (k+1)):=by
    have e3:List.range (k+1)=(List.range (k+1)).take l ++ l :: (List.range (k+1)).drop (l+1):=by
     have e4:=List.drop_eq_getElem_cons (l:=List.range (k+1)) (i:=l) (by simpa using hl)
     rw [List.getElem_range] at e4
     rw [← e4,List.take_append_drop]
    rw [List.eraseIdx_eq_take_drop_succ]
    refine List.perm_middle.symm.trans ?_
    rw [← e3]
   exact (List.perm_cons l).1 (h3.trans h1)
  obtain ⟨e, -,h2⟩:=detP_colperm (formsM M k) (by omega) hp [] (by rw [List.nil_append,hp.length_eq,hS,hfl])
  simp only [List.nil_append] at h2
  rw [h2]
  by_cases hlk:l<k
  ·rw [det_part M k l hk hlk,h l hlk]
   simp
  ·obtain rfl:l=k:=by omega
   have e1:(List.range (l+1)).eraseIdx l=List.range l:=by
    rw [List.range_succ,List.eraseIdx_append_of_length_le (by simp)]
    simp
   have e2 : ∀ i,i≤l→sumPart M l 0 i=0:=by
    intro i
    induction i with
    | zero=>exact fun _=>rfl
    | succ i ih=>exact fun hi=>by rw [sumPart,ih (by omega),h i (by omega)]; simp
   rw [e1, ← det_last M l 0 hk (by omega),e2 l (Nat.le_refl _),Int.mul_zero]
 ·exact detP_coltwice _ (by omega) (by rw [hS,hfl]) hd
theorem part_even (M:Nat→Nat→Int) (k b c:Nat) (hk:k≤4) (hb:b<k) (hc:c<k):sumPart M k b k=sumPart M k c k:=by
 rw [det_last M k b hk hb,det_last M k c hk hc]
end Go.Proofs.Ytkbbhihndigmeaa

namespace Go.Proofs.Ytkbbhihndigmeaa
theorem uniq_det (M:Nat→Nat→Int) (x:Nat→Int) (t:Int) (k a b:Nat) (hk:k≤4) (ha:a<k) (hb:b<k) (hab:a ≠ b) :
 x a*partP (tabM M k) b k-x b*partP (tabM M k) a k=detR (((tabM M k).set b (List.replicate k 1)).set a ((List.range k).map fun c=>dotN x (fun i=>M i c) k-t)) k:=by
 obtain rfl | rfl | rfl | rfl:k=1∨k=2∨k=3∨k=4:=by omega
 ·omega
 ·obtain rfl | rfl:a=0∨a=1:=by omega
  all_goals (obtain rfl | rfl:b=0∨b=1:=by omega)
  all_goals (first | (exfalso; exact hab rfl) | (simp [dotN,tabM,partP,detR,altSum,List.range_succ]; grind))
 ·obtain rfl | rfl | rfl:a=0∨a=1∨a=2:=by omega
  all_goals (obtain rfl | rfl | rfl:b=0∨b=1∨b=2:=by omega)
  all_goals (first | (exfalso; exact hab rfl) | (simp [dotN,tabM,partP,detR,altSum,List.range_succ]; grind))
 ·obtain rfl | rfl | rfl | rfl:a=0∨a=1∨a=2∨a=3:=by omega
  all_goals (obtain rfl | rfl | rfl | rfl:b=0∨b=1∨b=2∨b=3:=by omega)
  all_goals (first | (exfalso; exact hab rfl) | (simp [dotN,tabM,partP,detR,altSum,List.range_succ]; grind))
theorem det_zero (M:Nat→Nat→Int) (k a b:Nat) (hk:k≤4) (ha:a<k) (hb:b<k):detR (((tabM M k).set b (List.replicate k 1)).set a (List.replicate k 0)) k=0:=by
 obtain rfl | rfl | rfl | rfl:k=1∨k=2∨k=3∨k=4:=by omega
 ·obtain rfl:a=0:=by omega
  obtain rfl:b=0:=by omega
  simp [tabM,detR,altSum,List.range_succ]
 ·obtain rfl | rfl:a=0∨a=1:=by omega
  all_goals (obtain rfl | rfl:b=0∨b=1:=by omega)
  all_goals (simp [tabM,detR,altSum,List.range_succ])
 ·obtain rfl | rfl | rfl:a=0∨a=1∨a=2:=by omega
  all_goals (obtain rfl | rfl | rfl:b=0∨b=1∨b=2:=by omega)
  all_goals (simp [tabM,detR,altSum,List.range_succ])
 ·obtain rfl | rfl | rfl | rfl:a=0∨a=1∨a=2∨a=3:=by omega
  all_goals (obtain rfl | rfl | rfl | rfl:b=0∨b=1∨b=2∨b=3:=by omega)
  all_goals (simp [tabM,detR,altSum,List.range_succ])
theorem uniq (M:Nat→Nat→Int) (x:Nat→Int) (t:Int) (k:Nat) (hk:k≤4) (h : ∀ c,c<k→dotN x (fun i=>M i c) k=t) {a b:Nat} (ha:a<k) (hb:b<k):x a*partP (tabM M k) b k=x b*partP (tabM M k) a k:=by
 by_cases hab:a=b
 ·rw [hab]
 ·have h1:=uniq_det M x t k a b hk ha hb hab
  have e:((List.range k).map fun c=>dotN x (fun i=>M i c) k-t)=List.replicate k 0:=by
   refine List.ext_getElem (by simp) fun i h2 _ => ?_
   simp only [List.length_map,List.length_range] at h2
   simp [h i h2]
  rw [e,det_zero M k a b hk ha hb] at h1
  omega
end Go.Proofs.Ytkbbhihndigmeaa

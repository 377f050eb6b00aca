/- Contracts of layer 3: the document's plan of a choice of rows and columns. Written by tools/reven.py. -/
import Derived.Shelf.Abstract
import Derived.Shelf.RegionOpen
import Derived.Test.YtkbbhihndigmeaaProg
import Derived.Test.YtkbbhihndigmeaaBasaa
import Derived.Test.YtkbbhihndigmeaaBasac
import Derived.Test.YtkbbhihndigmeaaBasad
import Derived.Test.YtkbbhihndigmeaaBasap
import Derived.Test.YtkbbhihndigmeaaBasae
import Derived.Test.YtkbbhihndigmeaaBasaf
import Derived.Test.YtkbbhihndigmeaaBasar
namespace Go.Proofs.Ytkbbhihndigmeaa
open Go Go.RowKit Go.Shelf
def lowN (P:Nat→Int):Nat→Int
 | 0=>0
 | i+1=>min (lowN P i) (P i)
def highN (P:Nat→Int):Nat→Int
 | 0=>0
 | i+1=>max (highN P i) (P i)
theorem low_spec (P:Nat→Int) : ∀ k,lowN P k≤0∧(lowN P k<0 ↔ ∃ a,a<k∧P a<0) ∧ ∀ B,0≤B→(∀ a,a<k → -B≤P a) → -B≤lowN P k
 | 0=>⟨Int.le_refl _,⟨fun h=>absurd h (Int.lt_irrefl 0),fun ⟨a,ha,_⟩=>absurd ha (Nat.not_lt_zero _)⟩,fun B hB _=>by show -B≤0; omega⟩
 | k+1=>by
   obtain ⟨h1,h2,h3⟩:=low_spec P k
   rw [lowN]
   refine ⟨by omega,⟨fun h => ?_,fun ⟨a,ha,hp⟩ => ?_⟩,fun B hB h => ?_⟩
   ·by_cases hp:P k<0
    ·exact ⟨k,by omega,hp⟩
    ·obtain ⟨a,ha,hp⟩:=h2.1 (by omega)
     exact ⟨a,by omega,hp⟩
   ·by_cases e:a=k
    ·subst e; omega
    ·have:=h2.2 ⟨a,by omega,hp⟩; omega
   ·have:=h3 B hB fun a ha=>h a (by omega)
    have:=h k (by omega)
    omega
theorem high_spec (P:Nat→Int) : ∀ k,0≤highN P k∧(0<highN P k ↔ ∃ a,a<k∧0<P a) ∧ ∀ B,0≤B→(∀ a,a<k→P a≤B)→highN P k≤B
 | 0=>⟨Int.le_refl _,⟨fun h=>absurd h (Int.lt_irrefl 0),fun ⟨a,ha,_⟩=>absurd ha (Nat.not_lt_zero _)⟩,fun B hB _=>hB⟩
 | k+1=>by
   obtain ⟨h1,h2,h3⟩:=high_spec P k
   rw [highN]
   refine ⟨by omega,⟨fun h => ?_,fun ⟨a,ha,hp⟩ => ?_⟩,fun B hB h => ?_⟩
   ·by_cases hp:0<P k
    ·exact ⟨k,by omega,hp⟩
    ·obtain ⟨a,ha,hp⟩:=h2.1 (by omega)
     exact ⟨a,by omega,hp⟩
   ·by_cases e:a=k
    ·subst e; omega
    ·have:=h2.2 ⟨a,by omega,hp⟩; omega
   ·have:=h3 B hB fun a ha=>h a (by omega)
    have:=h k (by omega)
    omega
def absI (x:Int):Int:=max x (-x)
section
variable {A:Nat→Nat→Int} {m n:Nat} {R G:List Nat}
theorem even_no (h:(lowN (partsOf A R G) R.length<0∧0<highN (partsOf A R G) R.length)∨(lowN (partsOf A R G) R.length=0∧highN (partsOf A R G) R.length=0)) : ¬ ∃ e,Choice A m n R G e:=by
 obtain ⟨l1,l2, -⟩:=low_spec (partsOf A R G) R.length
 obtain ⟨g1,g2, -⟩:=high_spec (partsOf A R G) R.length
 rintro ⟨e, -, -, -, -,he,hp,a,ha,hne⟩
 rcases h with ⟨h1,h2⟩ | ⟨h1,h2⟩
 ·obtain ⟨b,hb,hb2⟩:=l2.1 h1
  obtain ⟨c,hc,hc2⟩:=g2.1 h2
  have k1:=hp b hb
  have k2:=hp c hc
  rcases he with rfl | rfl <;> omega
 ·rcases Int.lt_trichotomy (partsOf A R G a) 0 with h | h | h
  ·have:=l2.2 ⟨a,ha,h⟩; omega
  ·exact hne h
  ·have:=g2.2 ⟨a,ha,h⟩; omega
theorem even_yes (hR:R.Sublist (List.range m)) (hG:G.Sublist (List.range n)) (hl:G.length=R.length) (h0:0<R.length) (h : ¬ ((lowN (partsOf A R G) R.length<0∧0<highN (partsOf A R G) R.length)∨(lowN (partsOf A R G) R.length=0∧highN (partsOf A R G) R.length=0))) : ∃ e,Choice A m n R G e ∧ ∀ i,inj R (fun a=>absI (partsOf A R G a)) R.length i=planC A R G e i:=by
 obtain ⟨l1,l2, -⟩:=low_spec (partsOf A R G) R.length
 obtain ⟨g1,g2, -⟩:=high_spec (partsOf A R G) R.length
 have hi : ∀ (y z:Nat→Int),(∀ a,a<R.length→y a=z a) → ∀ k,k≤R.length → ∀ i,inj R y k i=inj R z k i:=fun y z e k=>by
  induction k with
  | zero=>exact fun _ _=>rfl
  | succ k ih=>exact fun hk i=>by rw [inj,inj,ih (by omega) i,e k (by omega)]
 by_cases hn:lowN (partsOf A R G) R.length<0
 ·have hg : ¬ 0<highN (partsOf A R G) R.length:=fun h2=>h (.inl ⟨hn,h2⟩)
  have hall : ∀ a,a<R.length→partsOf A R G a≤0:=fun a ha=>Int.not_lt.1 fun h2=>hg (g2.2 ⟨a,ha,h2⟩)
  obtain ⟨a,ha,hp⟩:=l2.1 hn
  refine ⟨-1,⟨hR,hG,hl,h0, .inr rfl,fun a ha=>by have:=hall a ha; omega,a,ha,by omega⟩,fun i=>hi _ _ (fun a ha => ?_) _ (Nat.le_refl _) i⟩
  have:=hall a ha
  unfold absI
  omega
 ·have hg:0<highN (partsOf A R G) R.length:=by
    refine Classical.byContradiction fun h2=>h (.inr ⟨by omega,by omega⟩)
  have hall : ∀ a,a<R.length→0≤partsOf A R G a:=fun a ha=>Int.not_lt.1 fun h2=>hn (l2.2 ⟨a,ha,h2⟩)
  obtain ⟨a,ha,hp⟩:=g2.1 hg
  refine ⟨1,⟨hR,hG,hl,h0, .inl rfl,fun a ha=>by have:=hall a ha; omega,a,ha,by omega⟩,fun i=>hi _ _ (fun a ha => ?_) _ (Nat.le_refl _) i⟩
  have:=hall a ha
  unfold absI
  omega
end
theorem inj_step {R:List Nat} (hR:R.Nodup) (y:Nat→Int) {k m:Nat} (hk:k<R.length):(rowA m (inj R y k)).setIfInBounds (R.getD k 0) (.int .i64 (y k))=rowA m (inj R y (k+1)):=by
 refine rowA_set m _ _ _ _ ?_ fun i _ hi => ?_
 ·rw [inj,inj_out (fun s hs he=>by have:=getD_inj hR (by omega) (by omega) he; omega),if_pos rfl]
  omega
 ·rw [inj,if_neg (fun h=>hi h.symm)]
  omega
theorem near_diff {m n:Nat} {f:Nat→Row3} {R G:List Nat} (hO:Okay m n f) (hR : ∀ i ∈ R,i<m) (hG : ∀ j ∈ G,j<n) (hl:G.length=R.length) (i:Nat):Near (R.length-1) (diffN (lossM (lossA f) R G) i):=by
 intro a ha b hb
 have hs:skip i a<R.length:=by have:=skip_lt (c:=i) ha; omega
 have h1:=hO.num _ (hR _ (getD_mem hs)) _ (hG _ (getD_mem (by omega:b+1<G.length)))
 have h2:=hO.num _ (hR _ (getD_mem hs)) _ (hG _ (getD_mem (by omega:0<G.length)))
 unfold diffN lossM lossA
 omega
set_option maxRecDepth 100000 in
set_option maxHeartbeats 16000000 in
theorem rEven_c (a:Option Addr) (m n cap:Nat) (f:Nat→Row3) (R G:List Nat) (pr pc:Option Addr) (cr cc:Nat) (w:World) (hf:Tab w a m f) (hO:Okay m n f) (hR:Lst w R pr cr) (hG:Lst w G pc cc) (hRs:R.Sublist (List.range m)) (hGs:G.Sublist (List.range n)) (hl:G.length=R.length) (h0:0<R.length) :
 Calls Try.prog 101 #[tabV a m cap, .slice pr R.length cr, .slice pc R.length cc] w fun e w'=>(((∀ s,¬ Choice (lossA f) m n R G s)∧e = .returned (.slice none 0 0)) ∨ ∃ s,Choice (lossA f) m n R G s ∧ ∃ g,e = .returned (.slice (some ⟨g,0,none⟩) m m)∧w.heap.size≤g∧RowIs w' g (rowA m (planC (lossA f) R G s)) 2)∧Below w.heap.size w w':=by
 have hRn:R.Nodup:=List.nodup_range.sublist hRs
 have hRm : ∀ i ∈ R,i<m:=fun i hi=>List.mem_range.1 (hRs.subset hi)
 have hGn : ∀ i ∈ G,i<n:=fun i hi=>List.mem_range.1 (hGs.subset hi)
 have hkm:R.length≤m:=by have:=hRs.length_le; simpa using this
 have hm4:=hO.m4
 have mk:=make_row64 m hm4
 obtain ⟨W,hW⟩ : ∃ W,w.alloc (.cells #[.slice a m cap] 24)=W:=⟨_,rfl⟩
 have hB:Below w.heap.size w W:=by rw [← hW]; exact Below.alloc1 (Below.refl _ _) _ (Nat.le_refl _)
 have hRw:RowIs W w.heap.size #[.slice a m cap] 24:=by rw [← hW]; exact heap_new_at _ _ _ rfl
 have r0:W.cell? ⟨w.heap.size,0,none⟩=some (.slice a m cap):=RowIs.cell hRw 0
 have rz:w.heap.size<W.heap.size:=hRw.lt
 have hWz:W.heap.size=w.heap.size+1:=by rw [← hW]; simp
 obtain ⟨V,hV⟩ : ∃ V,W.alloc (.cells (rowA m fun _=>0) 2)=V:=⟨_,rfl⟩
 have hVb:Below W.heap.size W V:=by rw [← hV]; exact Below.alloc1 (Below.refl _ _) _ (Nat.le_refl _)
 have HVr:=Lib.hid (show RowIs V W.heap.size (rowA m fun _=>0) 2 by rw [← hV]; exact heap_new_at _ _ _ rfl)
 have HVt:=Lib.hid (RowIs.below hRw hVb)
 have HVb:=Lib.hid (bup hB hVb)
 obtain ⟨g0,hg0⟩ : ∃ g0,W.heap.size=g0:=⟨_,rfl⟩
 have Hg0:=Lib.hid (hg0.symm.trans hWz)
 obtain ⟨b,off,rfl,hbs, -⟩:=Tab.at hf 0 hO.m1
 have HT:=Lib.hid (tabC hf)
 have HF:=Lib.hid hf
 have HO:=Lib.hid hO
 have HRl:=Lib.hid hR
 have HGl:=Lib.hid hG
 have HRm:=Lib.hid hRm
 have HGn:=Lib.hid hGn
 have HRn:=Lib.hid hRn
 obtain ⟨rb,ro,hpr,hrc⟩:=lstC hR h0
 obtain ⟨cb,co,hpc,hcc⟩:=lstC hG (by omega)
 subst hpr hpc
 have HRc:=Lib.hid hrc
 have HGc:=Lib.hid hcc
 obtain ⟨P,hP⟩ : ∃ P,partsOf (lossA f) R G=P:=⟨_,rfl⟩
 obtain ⟨M,hM⟩ : ∃ M,lossM (lossA f) R G=M:=⟨_,rfl⟩
 have hPN : ∀ i,i<R.length→P i=signI i*detN (R.length-1) (diffN M i):=fun i hi=>by rw [← hP, ← hM]; exact parts_N _ _ _ _ (by omega) hi
 have hnear : ∀ i,Near (R.length-1) (diffN M i):=fun i=>by rw [← hM]; exact near_diff hO hRm hGn hl i
 have hPb : ∀ i,i<R.length → -48000000≤P i∧P i≤48000000:=fun i hi=>by
  have h1:=detN_bd _ _ (hnear i)
  have h2:=dB_3 (show R.length-1≤3 by omega)
  rw [hPN i hi]
  have hsg:signI i=1∨signI i = -1:=by unfold signI; split <;> simp
  rcases hsg with h | h <;> rw [h] <;> omega
 have hMn : ∀ c j,c<R.length→j<R.length → -100≤M c j∧M c j≤100:=fun c j hc hj=>by
  rw [← hM]
  exact hO.num _ (hRm _ (getD_mem hc)) _ (hGn _ (getD_mem (by omega)))
 have hMg : ∀ c j,M c j=(f (R.getD c 0)).g (G.getD j 0):=fun c j=>by rw [← hM]; rfl
 have HE1:=Lib.hid (fun h=>even_no (A:=lossA f) (m:=m) (n:=n) (R:=R) (G:=G) h)
 have HE2:=Lib.hid (fun h=>even_yes (A:=lossA f) hRs hGs hl h0 h)
 rw [hP] at HE1 HE2
 have HPN:=Lib.hid hPN
 have HPb:=Lib.hid hPb
 have Hnear:=Lib.hid hnear
 have HMn:=Lib.hid hMn
 have HMg:=Lib.hid hMg
 obtain ⟨kk,hkk⟩ : ∃ kk,R.length=kk:=⟨_,rfl⟩
 have Hkk:=Lib.hid hkk
 have Hkg:=Lib.hid (hl.trans hkk)
 rw [hkk] at h0 hkm HPN HPb Hnear HMn HE1 HE2
 rw [hkk]
 clear hf hO hR hG hrc hcc hRm hGn hPN hPb hnear hMn hMg hl hkk hP hM hRw hB hVb hWz hRn hRs hGs
 go_enter Try.func101,Try.ntmps101
 go_wp2_with fail
 clear mk hV hW r0 rz
 rw [hg0] at HVr
 go_loopw [8,9,10,11] (fun s lo hi i wr=> ∃ k:Nat,k≤kk∧i = .int .i64 k∧s = .int .i64 (signI k)∧lo = .int .i64 (lowN P k)∧hi = .int .i64 (highN P k)∧RowIs wr g0 (rowA m (inj R (fun q=>absI (P q)) k)) 2∧RowIs wr w.heap.size #[.slice (some ⟨b,off,none⟩) m cap] 24∧Below w.heap.size w wr) (fun _ _ _ i _=>kk-(intOf i).toNat)
 case atStart=>exact ⟨0,Nat.zero_le _,rfl,rfl,rfl,rfl,HVr.out,HVt.out,HVb.out⟩
 case round=>
  obtain ⟨i,hi,rfl,rfl,rfl,rfl,hrow,hbox,hb⟩:=hrel
  have Hrow:=Lib.hid hrow
  have Hbox:=Lib.hid hbox
  have Hb:=Lib.hid hb
  clear hrow hbox hb
  by_cases hlt:i<kk
  ·obtain ⟨X,hX⟩ : ∃ X:World,X=wr:=⟨_,rfl⟩
   subst hX
   go_wp2_with fail
   go_loopw [12,13] (fun x q wr=> ∃ (c:Nat) (L:List Value) (v:Value),c≤kk∧q = .int .i64 c∧x=v∧L.length=(if c≤i then c else c-1)∧OwnV 25 wr X.heap.size L v∧(∀ l,l<L.length→OwnV 2 wr X.heap.size (numL (diffN M i l) (kk-1)) (L.getD l undef))∧Below X.heap.size X wr) (fun _ q _=>kk-(intOf q).toNat)
   case atStart=>exact ⟨0,[],_,Nat.zero_le _,rfl,rfl,rfl,ownV_nil _ _ _,fun l hl=>absurd hl (Nat.not_lt_zero _),Below.refl _ _⟩
   case round=>
    obtain ⟨c,L,v,hc,rfl,rfl,hL,hv,hrows,hbx⟩:=hrel
    have HL:=Lib.hid hL
    have Hv:=Lib.hid hv
    have Hrows:=Lib.hid hrows
    have Hbx:=Lib.hid hbx
    clear hL hv hrows hbx
    by_cases hlc:c<kk
    ·obtain ⟨Y,hY⟩ : ∃ Y:World,Y=wr:=⟨_,rfl⟩
     subst hY
     go_wp2_with fail
     go_loopw [14,15] (fun x q wr=> ∃ (j:Nat) (u:Value),j≤kk-1∧q = .int .i64 (j+1)∧x=u∧OwnV 2 wr Y.heap.size (numL (fun q=>M c (q+1)-M c 0) j) u∧Below Y.heap.size Y wr) (fun _ q _=>kk-(intOf q).toNat)
     case atStart=>exact ⟨0,_,Nat.zero_le _,rfl,rfl,ownV_nil _ _ _,Below.refl _ _⟩
     case round=>
      obtain ⟨j,u,hj,rfl,rfl,hu,hby⟩:=hrel
      have hbX:Below X.heap.size X wr:=Hbx.out.trans (hby.mono Hbx.out.size)
      have HbX:=Lib.hid hbX
      have hr2:=Hbox.out.below hbX
      have rz:=Hbox.out.lt
      have hb2:Below w.heap.size w wr:=Hb.out.trans (hbX.mono (by omega))
      by_cases hlj:j+1<kk
      ·skip
       obtain ⟨r,hr⟩ : ∃ r,R.getD c 0=r:=⟨_,rfl⟩
       obtain ⟨s1,hs1⟩ : ∃ s1,G.getD (j+1) 0=s1:=⟨_,rfl⟩
       obtain ⟨s0,hs0⟩ : ∃ s0,G.getD 0 0=s0:=⟨_,rfl⟩
       have hrm:r<m:=by rw [← hr]; exact HRm.out _ (getD_mem (by rw [Hkk.out]; exact hlc))
       have hs1n:s1<n:=by rw [← hs1]; exact HGn.out _ (getD_mem (by rw [Hkg.out]; exact hlj))
       have hs0n:s0<n:=by rw [← hs0]; exact HGn.out _ (getD_mem (by rw [Hkg.out]; exact h0))
       obtain ⟨lb,lo,hla,hlc2⟩:=rowCs HF.out r hrm (by rw [HO.out.len r hrm]; omega)
       rw [HO.out.len r hrm] at hlc2
       have hfn:=HO.out.len r hrm
       obtain ⟨icap,hicap⟩ : ∃ icap,(f r).cap=icap:=⟨_,rfl⟩
       have hx1:=HMg.out c (j+1)
       have hx0:=HMg.out c 0
       rw [hr,hs1] at hx1
       rw [hr,hs0] at hx0
       obtain ⟨x1,hx1'⟩ : ∃ x1,M c (j+1)=x1:=⟨_,rfl⟩
       obtain ⟨x0,hx0'⟩ : ∃ x0,M c 0=x0:=⟨_,rfl⟩
       have hn1:=HMn.out c (j+1) hlc hlj
       have hn0:=HMn.out c 0 hlc h0
       rw [hx1'] at hx1 hn1
       rw [hx0'] at hx0 hn0
       obtain ⟨up,uc,huf, -⟩:=hu.form
       rw [numL_len] at huf
       subst huf
       have hcell : ∀ y,Below w.heap.size w y→y.cell? ⟨b,off+r,none⟩=some (.slice (some ⟨lb,lo,none⟩) n icap)∧y.cell? ⟨lb,lo+s1,none⟩=some (.int .i64 x1)∧y.cell? ⟨lb,lo+s0,none⟩=some (.int .i64 x0)∧y.cell? ⟨rb,ro+c,none⟩=some (.int .i64 (r:Int))∧y.cell? ⟨cb,co+(j+1),none⟩=some (.int .i64 (s1:Int))∧y.cell? ⟨cb,co,none⟩=some (.int .i64 (s0:Int)):=fun y hy=>by
        have h1:=HT.out y hy r hrm
        rw [hfn,hla,hicap] at h1
        have h2:=hlc2 y hy s1 hs1n
        rw [← hx1] at h2
        have h2':=hlc2 y hy s0 hs0n
        rw [← hx0] at h2'
        have h3:=HRc.out y hy c (by rw [Hkk.out]; exact hlc)
        rw [hr] at h3
        have h4:=HGc.out y hy (j+1) (by rw [Hkg.out]; exact hlj)
        rw [hs1] at h4
        have h5:=HGc.out y hy 0 (by rw [Hkg.out]; exact h0)
        rw [hs0] at h5
        exact ⟨h1,h2,h2',h3,h4,h5⟩
       have hbox : ∀ y,Below wr.heap.size wr y→y.cell? ⟨w.heap.size,0,none⟩=some (.slice (some ⟨b,off,none⟩) m cap):=fun y hy=>RowIs.cell (hr2.below hy) 0
       have hFC2 : ∀ y,Below wr.heap.size wr y→Below w.heap.size w y:=fun y hy=>hb2.trans (hy.mono hb2.size)
       have Hu:=Lib.hid hu
       have Hby:=Lib.hid hby
       have i1:(c:Int)<(kk:Int):=by omega
       have i2:(j:Int)+1<(kk:Int):=by omega
       have i3:(r:Int)<(m:Int):=by omega
       have i4:(s1:Int)<(n:Int):=by omega
       have i5:(s0:Int)<(n:Int):=by omega
       have i6:(0:Int)≤(j:Int)+1:=by omega
       have i7:(0:Int)<(kk:Int):=by omega
       have w1:IntKind.i64.wrap (x1-x0)=x1-x0:=IntWalk.i64_in _ (by omega)
       clear hu hby hb2 hr2 hlc2 hla hbX hx1 hx0
       go_wp2_with fail
       refine RC.wp_region_runF (C:=fun y=>y.cell? ⟨w.heap.size,0,none⟩=some (.slice (some ⟨b,off,none⟩) m cap)∧Below w.heap.size w y) (fun y=>Below wr.heap.size wr y) (by kernel_rfl) (stable_below wr) (Below.refl _ _) ?_
       change RC.Run _ _ _ _ _ 32 _ _ _
       refine RC.run_take (i:=0) (.slice up j uc) rfl (by kernel_rfl) (by kernel_rfl) (by kernel_rfl) rfl (fun y hy=>⟨hbox y hy,hFC2 y hy⟩) (fun y hy=>by obtain ⟨q0,q5⟩:=hy; obtain ⟨q1,q2,q2b,q3,q4,q4b⟩:=hcell y q5; go_simp) ?_
       simp only [puts]
       refine RC.run_take (i:=1) (.pointer (some ⟨w.heap.size,0,none⟩)) rfl (by kernel_rfl) (by kernel_rfl) (by kernel_rfl) rfl (fun y hy=>⟨hbox y hy,hFC2 y hy⟩) (fun y hy=>by obtain ⟨q0,q5⟩:=hy; obtain ⟨q1,q2,q2b,q3,q4,q4b⟩:=hcell y q5; go_simp) ?_
       simp only [puts]
       refine RC.run_take (i:=2) (.slice (some ⟨b,off,none⟩) m cap) rfl (by kernel_rfl) (by kernel_rfl) (by kernel_rfl) rfl (fun y hy=>⟨hbox y hy,hFC2 y hy⟩) (fun y hy=>by obtain ⟨q0,q5⟩:=hy; obtain ⟨q1,q2,q2b,q3,q4,q4b⟩:=hcell y q5; go_simp) ?_
       simp only [puts]
       refine RC.run_take (i:=3) (.slice (some ⟨rb,ro,none⟩) kk cr) rfl (by kernel_rfl) (by kernel_rfl) (by kernel_rfl) rfl (fun y hy=>⟨hbox y hy,hFC2 y hy⟩) (fun y hy=>by obtain ⟨q0,q5⟩:=hy; obtain ⟨q1,q2,q2b,q3,q4,q4b⟩:=hcell y q5; go_simp) ?_
       simp only [puts]
       refine RC.run_take (i:=4) (.int .i64 (c:Int)) rfl (by kernel_rfl) (by kernel_rfl) (by kernel_rfl) rfl (fun y hy=>⟨hbox y hy,hFC2 y hy⟩) (fun y hy=>by obtain ⟨q0,q5⟩:=hy; obtain ⟨q1,q2,q2b,q3,q4,q4b⟩:=hcell y q5; go_simp) ?_
       simp only [puts]
       refine RC.run_take (i:=5) (.pointer (some ⟨rb,ro+c,none⟩)) rfl (by kernel_rfl) (by kernel_rfl) (by kernel_rfl) rfl (fun y hy=>⟨hbox y hy,hFC2 y hy⟩) (fun y hy=>by obtain ⟨q0,q5⟩:=hy; obtain ⟨q1,q2,q2b,q3,q4,q4b⟩:=hcell y q5; go_simp) ?_
       simp only [puts]
       refine RC.run_take (i:=6) (.int .i64 (r:Int)) rfl (by kernel_rfl) (by kernel_rfl) (by kernel_rfl) rfl (fun y hy=>⟨hbox y hy,hFC2 y hy⟩) (fun y hy=>by obtain ⟨q0,q5⟩:=hy; obtain ⟨q1,q2,q2b,q3,q4,q4b⟩:=hcell y q5; go_simp) ?_
       simp only [puts]
       refine RC.run_take (i:=7) (.pointer (some ⟨b,off+r,none⟩)) rfl (by kernel_rfl) (by kernel_rfl) (by kernel_rfl) rfl (fun y hy=>⟨hbox y hy,hFC2 y hy⟩) (fun y hy=>by obtain ⟨q0,q5⟩:=hy; obtain ⟨q1,q2,q2b,q3,q4,q4b⟩:=hcell y q5; go_simp) ?_
       simp only [puts]
       refine RC.run_take (i:=8) (.slice (some ⟨lb,lo,none⟩) n icap) rfl (by kernel_rfl) (by kernel_rfl) (by kernel_rfl) rfl (fun y hy=>⟨hbox y hy,hFC2 y hy⟩) (fun y hy=>by obtain ⟨q0,q5⟩:=hy; obtain ⟨q1,q2,q2b,q3,q4,q4b⟩:=hcell y q5; go_simp) ?_
       simp only [puts]
       refine RC.run_take (i:=9) (.slice (some ⟨cb,co,none⟩) kk cc) rfl (by kernel_rfl) (by kernel_rfl) (by kernel_rfl) rfl (fun y hy=>⟨hbox y hy,hFC2 y hy⟩) (fun y hy=>by obtain ⟨q0,q5⟩:=hy; obtain ⟨q1,q2,q2b,q3,q4,q4b⟩:=hcell y q5; go_simp) ?_
       simp only [puts]
       refine RC.run_take (i:=10) (.int .i64 ((j:Int)+1)) rfl (by kernel_rfl) (by kernel_rfl) (by kernel_rfl) rfl (fun y hy=>⟨hbox y hy,hFC2 y hy⟩) (fun y hy=>by obtain ⟨q0,q5⟩:=hy; obtain ⟨q1,q2,q2b,q3,q4,q4b⟩:=hcell y q5; go_simp) ?_
       simp only [puts]
       refine RC.run_take (i:=11) (.pointer (some ⟨cb,co+(j+1),none⟩)) rfl (by kernel_rfl) (by kernel_rfl) (by kernel_rfl) rfl (fun y hy=>⟨hbox y hy,hFC2 y hy⟩) (fun y hy=>by obtain ⟨q0,q5⟩:=hy; obtain ⟨q1,q2,q2b,q3,q4,q4b⟩:=hcell y q5; go_simp) ?_
       simp only [puts]
       refine RC.run_take (i:=12) (.int .i64 (s1:Int)) rfl (by kernel_rfl) (by kernel_rfl) (by kernel_rfl) rfl (fun y hy=>⟨hbox y hy,hFC2 y hy⟩) (fun y hy=>by obtain ⟨q0,q5⟩:=hy; obtain ⟨q1,q2,q2b,q3,q4,q4b⟩:=hcell y q5; go_simp) ?_
       simp only [puts]
       refine RC.run_take (i:=13) (.pointer (some ⟨lb,lo+s1,none⟩)) rfl (by kernel_rfl) (by kernel_rfl) (by kernel_rfl) rfl (fun y hy=>⟨hbox y hy,hFC2 y hy⟩) (fun y hy=>by obtain ⟨q0,q5⟩:=hy; obtain ⟨q1,q2,q2b,q3,q4,q4b⟩:=hcell y q5; go_simp) ?_
       simp only [puts]
       refine RC.run_take (i:=14) (.int .i64 x1) rfl (by kernel_rfl) (by kernel_rfl) (by kernel_rfl) rfl (fun y hy=>⟨hbox y hy,hFC2 y hy⟩) (fun y hy=>by obtain ⟨q0,q5⟩:=hy; obtain ⟨q1,q2,q2b,q3,q4,q4b⟩:=hcell y q5; go_simp) ?_
       simp only [puts]
       refine RC.run_take (i:=15) (.pointer (some ⟨w.heap.size,0,none⟩)) rfl (by kernel_rfl) (by kernel_rfl) (by kernel_rfl) rfl (fun y hy=>⟨hbox y hy,hFC2 y hy⟩) (fun y hy=>by obtain ⟨q0,q5⟩:=hy; obtain ⟨q1,q2,q2b,q3,q4,q4b⟩:=hcell y q5; go_simp) ?_
       simp only [puts]
       refine RC.run_take (i:=16) (.slice (some ⟨b,off,none⟩) m cap) rfl (by kernel_rfl) (by kernel_rfl) (by kernel_rfl) rfl (fun y hy=>⟨hbox y hy,hFC2 y hy⟩) (fun y hy=>by obtain ⟨q0,q5⟩:=hy; obtain ⟨q1,q2,q2b,q3,q4,q4b⟩:=hcell y q5; go_simp) ?_
       simp only [puts]
       refine RC.run_take (i:=17) (.slice (some ⟨rb,ro,none⟩) kk cr) rfl (by kernel_rfl) (by kernel_rfl) (by kernel_rfl) rfl (fun y hy=>⟨hbox y hy,hFC2 y hy⟩) (fun y hy=>by obtain ⟨q0,q5⟩:=hy; obtain ⟨q1,q2,q2b,q3,q4,q4b⟩:=hcell y q5; go_simp) ?_
       simp only [puts]
       refine RC.run_take (i:=18) (.int .i64 (c:Int)) rfl (by kernel_rfl) (by kernel_rfl) (by kernel_rfl) rfl (fun y hy=>⟨hbox y hy,hFC2 y hy⟩) (fun y hy=>by obtain ⟨q0,q5⟩:=hy; obtain ⟨q1,q2,q2b,q3,q4,q4b⟩:=hcell y q5; go_simp) ?_
       simp only [puts]
       refine RC.run_take (i:=19) (.pointer (some ⟨rb,ro+c,none⟩)) rfl (by kernel_rfl) (by kernel_rfl) (by kernel_rfl) rfl (fun y hy=>⟨hbox y hy,hFC2 y hy⟩) (fun y hy=>by obtain ⟨q0,q5⟩:=hy; obtain ⟨q1,q2,q2b,q3,q4,q4b⟩:=hcell y q5; go_simp) ?_
       simp only [puts]
       refine RC.run_take (i:=20) (.int .i64 (r:Int)) rfl (by kernel_rfl) (by kernel_rfl) (by kernel_rfl) rfl (fun y hy=>⟨hbox y hy,hFC2 y hy⟩) (fun y hy=>by obtain ⟨q0,q5⟩:=hy; obtain ⟨q1,q2,q2b,q3,q4,q4b⟩:=hcell y q5; go_simp) ?_
       simp only [puts]
       refine RC.run_take (i:=21) (.pointer (some ⟨b,off+r,none⟩)) rfl (by kernel_rfl) (by kernel_rfl) (by kernel_rfl) rfl (fun y hy=>⟨hbox y hy,hFC2 y hy⟩) (fun y hy=>by obtain ⟨q0,q5⟩:=hy; obtain ⟨q1,q2,q2b,q3,q4,q4b⟩:=hcell y q5; go_simp) ?_
       simp only [puts]
       refine RC.run_take (i:=22) (.slice (some ⟨lb,lo,none⟩) n icap) rfl (by kernel_rfl) (by kernel_rfl) (by kernel_rfl) rfl (fun y hy=>⟨hbox y hy,hFC2 y hy⟩) (fun y hy=>by obtain ⟨q0,q5⟩:=hy; obtain ⟨q1,q2,q2b,q3,q4,q4b⟩:=hcell y q5; go_simp) ?_
       simp only [puts]
       refine RC.run_take (i:=23) (.slice (some ⟨cb,co,none⟩) kk cc) rfl (by kernel_rfl) (by kernel_rfl) (by kernel_rfl) rfl (fun y hy=>⟨hbox y hy,hFC2 y hy⟩) (fun y hy=>by obtain ⟨q0,q5⟩:=hy; obtain ⟨q1,q2,q2b,q3,q4,q4b⟩:=hcell y q5; go_simp) ?_
       simp only [puts]
       refine RC.run_take (i:=24) (.pointer (some ⟨cb,co,none⟩)) rfl (by kernel_rfl) (by kernel_rfl) (by kernel_rfl) rfl (fun y hy=>⟨hbox y hy,hFC2 y hy⟩) (fun y hy=>by obtain ⟨q0,q5⟩:=hy; obtain ⟨q1,q2,q2b,q3,q4,q4b⟩:=hcell y q5; go_simp) ?_
       simp only [puts]
       refine RC.run_take (i:=25) (.int .i64 (s0:Int)) rfl (by kernel_rfl) (by kernel_rfl) (by kernel_rfl) rfl (fun y hy=>⟨hbox y hy,hFC2 y hy⟩) (fun y hy=>by obtain ⟨q0,q5⟩:=hy; obtain ⟨q1,q2,q2b,q3,q4,q4b⟩:=hcell y q5; go_simp) ?_
       simp only [puts]
       refine RC.run_take (i:=26) (.pointer (some ⟨lb,lo+s0,none⟩)) rfl (by kernel_rfl) (by kernel_rfl) (by kernel_rfl) rfl (fun y hy=>⟨hbox y hy,hFC2 y hy⟩) (fun y hy=>by obtain ⟨q0,q5⟩:=hy; obtain ⟨q1,q2,q2b,q3,q4,q4b⟩:=hcell y q5; go_simp) ?_
       simp only [puts]
       refine RC.run_take (i:=27) (.int .i64 x0) rfl (by kernel_rfl) (by kernel_rfl) (by kernel_rfl) rfl (fun y hy=>⟨hbox y hy,hFC2 y hy⟩) (fun y hy=>by obtain ⟨q0,q5⟩:=hy; obtain ⟨q1,q2,q2b,q3,q4,q4b⟩:=hcell y q5; go_simp) ?_
       simp only [puts]
       refine RC.run_take (i:=28) (.int .i64 (x1-x0)) rfl (by kernel_rfl) (by kernel_rfl) (by kernel_rfl) rfl (fun y hy=>⟨hbox y hy,hFC2 y hy⟩) (fun y hy=>by obtain ⟨q0,q5⟩:=hy; obtain ⟨q1,q2,q2b,q3,q4,q4b⟩:=hcell y q5; go_simp) ?_
       simp only [puts]
       refine RC.run_only (i:=29) (by kernel_rfl) (RC.at_make (w0:=wr) (t:=68) (z:= .cells #[.int .i64 (x1-x0)] 2 (0,0)) (fun q=> .slice (some ⟨q,0,none⟩) 1 1) (fun _=>False) sl1_inj rfl rfl rfl (fun y _=>by go_simp) (fun y h=>h.size) (fun _ _ _ h=>h.elim) ?_)
       intro d1 hd1 _
       simp only [Act.put,List.setIfInBounds_toArray,List.set_cons_zero,List.set_cons_succ]
       have hboxX : ∀ y,Below Y.heap.size Y y→y.cell? ⟨w.heap.size,0,none⟩=some (.slice (some ⟨b,off,none⟩) m cap):=fun y hy=>RowIs.cell (Hbox.out.below (Hbx.out.trans (hy.mono Hbx.out.size))) 0
       have hBX : ∀ y,Below Y.heap.size Y y→Below w.heap.size w y:=fun y hy=>Hb.out.trans ((Hbx.out.trans (hy.mono Hbx.out.size)).mono (by omega))
       refine RC.run_only (i:=30) (by kernel_rfl) (RC.at_upd (fun v y=>OwnV 2 y Y.heap.size (numL (fun q=>M c (q+1)-M c 0) j ++ [.int .i64 (x1-x0)]) v∧Below Y.heap.size Y y) rfl rfl (fun v y y1 h hb=>⟨h.1.below hb,h.2.trans (hb.mono h.2.size)⟩) (fun v y h=>⟨hboxX y h.2,hBX y h.2⟩) (fun y hy => ?_) ?_)
       ·obtain ⟨g1,g2⟩:=hy
        have hvY:=Hu.out.below g1
        have c4:y.cell? ⟨d1,0,none⟩=some (.int .i64 (x1-x0)):=RowIs.cell g2 0
        obtain ⟨v',Z,hrun,ho, -,hbz, -⟩:=app64 hvY (.int .i64 (x1-x0)) d1 c4 rfl (Nat.le_trans Hby.out.size g1.size) (by rw [numL_len]; omega)
        exact ⟨v',Z,exec_app _ _ _ rfl _ _ rfl rfl hrun,ho,(Hby.out.trans (g1.mono Hby.out.size)).trans hbz⟩
       intro v2 hv2
       simp only [puts]
       refine RC.run_quiet (i:=31) (v2) (by kernel_rfl) rfl rfl (fun y hy=>by go_simp) ?_
       simp only [puts]
       refine ⟨by kernel_rfl,fun y hy => ?_⟩
       obtain ⟨h1,h2⟩:=hy
       have hnm:numL (fun q=>M c (q+1)-M c 0) j ++ [.int .i64 (x1-x0)]=numL (fun q=>M c (q+1)-M c 0) (j+1):=by rw [numL_more,hx1',hx0']
       rw [hnm] at h1
       have H1:=Lib.hid h1
       have H2:=Lib.hid h2
       clear h1 h2 hcell hbox hFC2 hboxX hBX hv2 hnm
       go_wp2_with fail
       go_roundw
       case rel=>exact ⟨j+1,v2,by omega,by go_num,rfl,H1.out,H2.out⟩
       case measure=>simp [intOf]; omega
      ·obtain rfl:j=kk-1:=by omega
       have Hu:=Lib.hid hu
       have Hby:=Lib.hid hby
       clear hu hby hr2 hb2 hbX
       by_cases hci:c=i
       ·subst hci
        have t1:((c:Int) != (c:Int))=false:=by simp
        go_wp2_with fail
        go_roundw
        case rel=>
         refine ⟨c+1,L,u12,by omega,by go_num,rfl,?_,Hv.out.below Hby.out,fun l hl=>(Hrows.out l hl).below Hby.out,HbX.out⟩
         rw [HL.out,if_pos (Nat.le_refl _),if_neg (by omega)]
         omega
        case measure=>simp [intOf]; omega
       ·have t1:((c:Int) != (i:Int))=true:=by simp; omega
        obtain ⟨up,uc,huf, -⟩:=Hu.out.form
        rw [numL_len] at huf
        obtain ⟨vp,vc,hvf, -⟩:=Hv.out.form
        obtain ⟨Z,hZ⟩ : ∃ Z,wr.alloc (.cells #[u14] 25)=Z:=⟨_,rfl⟩
        have hyb:Below wr.heap.size wr Z:=by rw [← hZ]; exact Below.alloc1 (Below.refl _ _) _ (Nat.le_refl _)
        have hyr:RowIs Z wr.heap.size #[u14] 25:=by rw [← hZ]; exact heap_new_at _ _ _ rfl
        have hYZ:Below Y.heap.size Y Z:=Hby.out.trans (hyb.mono Hby.out.size)
        have hxy:=Hbx.out.size
        have hLl:L.length≤4:=by rw [HL.out]; split <;> omega
        obtain ⟨v',Q,hrun,ho,hgz,hbz, -⟩:=appS64 (Hv.out.below hYZ) u14 wr.heap.size (hyr.cell 0) (by rw [huf]; rfl) (Nat.le_trans hxy hYZ.size) (by omega)
        have hvZ:=Hv.out.below hYZ
        have huQ:=hvZ.keep hgz (Hu.out.below hyb) (by decide)
        have hlQ : ∀ l,l<L.length→OwnV 2 Q X.heap.size (numL (diffN M i l) (kk-1)) (L.getD l undef):=fun l hl=>hvZ.keep hgz ((Hrows.out l hl).below hYZ) (by decide)
        have HbQ:=Lib.hid ((HbX.out.trans (hyb.mono HbX.out.size)).trans hbz)
        have HuQ:=Lib.hid (huQ.base hxy)
        have HlQ:=Lib.hid hlQ
        have Ho:=Lib.hid ho
        clear hyb hyr hYZ hvZ huQ hlQ ho hgz hbz
        obtain ⟨np,nc,hnf, -⟩:=Ho.out.form
        rw [show (L ++ [u14]).length=L.length+1 by simp] at hnf
        subst hnf
        subst hvf
        subst huf
        go_wp2_with (at_builtin; refine wpList_append_run rfl _ _ 22 rfl rfl rfl hrun ?_)
        clear hrun hZ
        go_roundw
        case rel=>
         have hg:=getD_snoc (v:= .slice up (kk-1) uc) (d:=undef) (rfl:L.length=L.length)
         have hlen:L.length=if c<i then c else c-1:=by rw [HL.out]; split <;> split <;> omega
         refine ⟨c+1,L ++ [.slice up (kk-1) uc],_,by omega,by go_num,rfl,?_,Ho.out,fun l hl => ?_,HbQ.out⟩
         ·rw [List.length_append,hlen]
          show _+1=_
          split <;> split <;> omega
         ·rw [List.length_append] at hl
          by_cases e:l=L.length
          ·rw [e,hg.1,numL_same (h:=fun q=>M c (q+1)-M c 0) fun q _ => ?_]
           ·exact HuQ.out
           ·have hsk:skip i L.length=c:=by
              rw [hlen]
              unfold skip
              by_cases hx:c<i
              ·rw [if_pos hx,if_pos hx]
              ·rw [if_neg hx,if_neg (by omega)]
               omega
            unfold diffN
            rw [hsk]
          ·have hl':l<L.length:=by have:l<L.length+1:=hl; omega
           rw [hg.2 l hl']
           exact HlQ.out l hl'
        case measure=>simp [intOf]; omega
    ·obtain rfl:c=kk:=by omega
     have hLk:L.length=c-1:=by rw [HL.out,if_neg (by omega)]
     obtain ⟨p,rc,f',hvf,q1,q2,hT2,q3,q4,q5⟩:=tab_ownG hLk Hv.out fun l hl=>Hrows.out l (by omega)
     subst hvf
     have hlf:lossA f'=diffN M i:=funext fun l=>q4 l
     have hD:=rDet_c (c-1) p rc f' wr (by omega) hT2 q1 (fun l _=>q3 l) (fun l _=>q5 l) (by rw [hlf]; exact Hnear.out i)
     rw [hlf] at hD
     have HD:=Lib.hid hD
     have hPi:=HPN.out i hlt
     have hPb:=HPb.out i hlt
     obtain ⟨dd,hdd⟩ : ∃ dd,detN (c-1) (diffN M i)=dd:=⟨_,rfl⟩
     rw [hdd] at hPi HD
     have hr2:=Hrow.out.below Hbx.out
     have hx2:=Hbox.out.below Hbx.out
     have hgz:g0<X.heap.size:=Hrow.out.lt
     obtain ⟨r,hr⟩ : ∃ r,R.getD i 0=r:=⟨_,rfl⟩
     have hrm:r<m:=by rw [← hr]; exact HRm.out _ (getD_mem (by rw [Hkk.out]; exact hlt))
     have hb2:Below w.heap.size w wr:=Hb.out.trans (Hbx.out.mono (by have:=Hbox.out.lt; omega))
     have hR1:=HRc.out
     have hst:=inj_step HRn.out (fun q=>absI (P q)) (m:=m) (show i<R.length by rw [Hkk.out]; exact hlt)
     rw [hr] at hst
     obtain ⟨s,hs⟩ : ∃ s,P i=s:=⟨_,rfl⟩
     rw [hs] at hst
     have Hst:=Lib.hid hst
     have hlo:min (lowN P i) s=lowN P (i+1):=by rw [← hs]; rfl
     have hlo2:(if s<lowN P i then s else lowN P i)=lowN P (i+1):=by rw [← hlo]; split <;> omega
     have hhi:max (highN P i) s=highN P (i+1):=by rw [← hs]; rfl
     have hhi2:(if highN P i<s then s else highN P i)=highN P (i+1):=by rw [← hhi]; split <;> omega
     have hab:max s (-s)=absI s:=rfl
     have hab2:(if s < -s then -s else s)=absI s:=by rw [← hab]; split <;> omega
     rw [hs] at hPi hPb
     have hsg:signI i=1∨signI i = -1:=by unfold signI; split <;> simp
     have w1:IntKind.i64.wrap (signI i*dd)=s:=by rw [hPi]; exact IntWalk.i64_in _ (by omega)
     have w2:IntKind.i64.wrap (-s) = -s:=IntWalk.i64_in _ (by omega)
     have w3:IntKind.i64.wrap (-signI i)=signI (i+1):=by rw [signI_next]; exact IntWalk.i64_in _ (by rcases hsg with h | h <;> rw [h] <;> omega)
     have i1:(r:Int)<(m:Int):=by omega
     have Hr2:=Lib.hid hr2
     have Hx2:=Lib.hid hx2
     have Hb2:=Lib.hid hb2
     clear hPi hPb hsg hD hr2 hx2 hb2 hst hT2 hlf
     go_wp2_with fail
     refine HD.out.mono ?_
     rintro e y1 ⟨rfl,hb1⟩
     have hr3:=Hr2.out.below hb1
     have c0:=hr3.cell r
     rw [rowA_get _ _ _ hrm] at c0
     have f0:=hr3.frozen r
     have z0:=hr3.lt
     have c3:=hR1 y1 (Hb2.out.trans (hb1.mono Hb2.out.size)) i (by rw [Hkk.out]; exact hlt)
     rw [hr] at c3
     have Hr3:=Lib.hid hr3
     have Hx3:=Lib.hid (Hx2.out.below hb1)
     have Hb3:=Lib.hid (Hb2.out.trans (hb1.mono Hb2.out.size))
     clear hr3 hb1 hR1
     go_wp2_with fail
     go_roundw
     case rel=>
      refine ⟨i+1,by omega,by go_num,rfl,rfl,rfl,?_,Hx3.out.other r _ (by rw [Hg0.out]; omega),Hb3.out.setCell (p:=⟨g0,r,none⟩) (by show w.heap.size≤g0; rw [Hg0.out]; omega) _⟩
      have:=Hr3.out.set r (.int .i64 (absI s))
      rw [Hst.out] at this
      exact this
     case measure=>simp [intOf]; omega
  ·obtain rfl:i=kk:=by omega
   obtain ⟨l1, -, -⟩:=low_spec P i
   obtain ⟨g1, -, -⟩:=high_spec P i
   obtain ⟨lo,hlo⟩ : ∃ lo,lowN P i=lo:=⟨_,rfl⟩
   obtain ⟨hi',hhi⟩ : ∃ hi',highN P i=hi':=⟨_,rfl⟩
   rw [hlo,hhi] at HE1 HE2
   rw [hlo] at l1 ⊢
   rw [hhi] at g1 ⊢
   clear hlo hhi
   by_cases hE:(lo<0∧0<hi')∨(lo=0∧hi'=0)
   ·have HN:=Lib.hid (fun s hs=>HE1.out hE ⟨s,hs⟩)
    rcases hE with ⟨h1,h2⟩ | ⟨rfl,rfl⟩
    ·have t1:decide (lo<0)=true:=by simpa using h1
     have t2:decide (0<hi')=true:=by simpa using h2
     go_wp2_with fail
     go_ret
     exact ⟨.inl ⟨HN.out,rfl⟩,Hb.out⟩
    ·go_wp2_with fail
     go_ret
     exact ⟨.inl ⟨HN.out,rfl⟩,Hb.out⟩
   ·obtain ⟨e,hc,he⟩:=HE2.out hE
    have HC:=Lib.hid hc
    have hrow2:RowIs wr g0 (rowA m (planC (lossA f) R G e)) 2:=by rw [← rowA_same fun j _=>he j]; rw [← Hkk.out] at Hrow; rw [← Hkk.out]; exact Hrow.out
    have Hrow2:=Lib.hid hrow2
    have hcase:(lo<0∧hi'=0)∨(lo=0∧0<hi'):=by omega
    clear hc he hrow2
    rcases hcase with ⟨h1,rfl⟩ | ⟨rfl,h2⟩
    ·have t1:decide (lo<0)=true:=by simpa using h1
     have t3:(lo==0)=false:=by simp; omega
     go_wp2_with fail
     go_ret
     exact ⟨.inr ⟨e,HC.out,g0,rfl,by rw [Hg0.out]; omega,Hrow2.out⟩,Hb.out⟩
    ·have t3:(hi'==0)=false:=by simp; omega
     go_wp2_with fail
     go_ret
     exact ⟨.inr ⟨e,HC.out,g0,rfl,by rw [Hg0.out]; omega,Hrow2.out⟩,Hb.out⟩
end Go.Proofs.Ytkbbhihndigmeaa

/- Contracts of layer 3: the first row that can be left out, by the document. -/
import Derived.WalkKit
import Derived.Deep.Quiet
import Derived.LoopN
import Derived.Test.YtkbbhihndigmeaaProg
import Derived.Test.YtkbbhihndigmeaaBasaa
import Derived.Test.YtkbbhihndigmeaaBasae
import Derived.Test.YtkbbhihndigmeaaBasap
import Derived.Test.YtkbbhihndigmeaaBasao
namespace Go.Proofs.Ytkbbhihndigmeaa
open Go Go.RowKit
theorem cellLt {w:World} {b o:Nat} {v:Value} (h:w.cell? ⟨b,o,none⟩=some v):b<w.heap.size:=by
 refine Nat.lt_of_not_le fun h2 => ?_
 simp [World.cell?,Array.getElem?_eq_none h2] at h
theorem all_more {n:Nat} (p:Nat→Bool):(List.range (n+1)).all p=((List.range n).all p && p n):=by simp [List.range_succ]
theorem any_more {n:Nat} (p:Nat→Bool):(List.range (n+1)).any p=((List.range n).any p || p n):=by simp [List.range_succ]
set_option maxRecDepth 100000 in
set_option maxHeartbeats 16000000 in
theorem rSpare_c (a:Option Addr) (m n cap:Nat) (f:Nat→Row3) (w:World) (hf:Tab w a m f) (hO:Okay m n f) :
 Calls Try.prog 52 #[tabV a m cap] w fun e w'=>e = .returned (.int .i64 (spareZ (lossA f) m n))∧Below w.heap.size w w':=by
 obtain ⟨W,hW⟩ : ∃ W,w.alloc (.cells #[.slice a m cap] 24)=W:=⟨_,rfl⟩
 have hB:Below w.heap.size w W:=by rw [← hW]; exact Below.alloc1 (Below.refl _ _) _ (Nat.le_refl _)
 have hR:RowIs W w.heap.size #[.slice a m cap] 24:=by rw [← hW]; exact heap_new_at _ _ _ rfl
 obtain ⟨b,off,rfl,hbs, -⟩:=Tab.at hf 0 hO.m1
 have HT:=Lib.hid (fun (y:World) (hy:Below W.heap.size W y)=>tabC hf y (hB.trans (hy.mono hB.size)))
 have HRc:=Lib.hid (fun i (hi:i<m)=>rowCs hf i hi (by rw [hO.len i hi]; exact hO.n1))
 have HO:=Lib.hid hO
 have HR:=Lib.hid hR
 have HB:=Lib.hid hB
 have hm0:0<m:=hO.m1
 have hn0:0<n:=hO.n1
 have hm4:=hO.m4
 have hn4:=hO.n4
 have hbW:b<W.heap.size:=Nat.lt_of_lt_of_le hbs hB.size
 clear hf hO hR hB hbs
 go_enter Try.func52,Try.ntmps52
 go_wp2_with fail
 clear hW
 go_loopw [3] (fun q wr=> ∃ i:Nat,i≤m∧q = .int .i64 i∧(∀ i',i'<i→((List.range m).any fun o=>spareB (lossA f) n i' o)=false)∧Below W.heap.size W wr) (fun q _=>m-(intOf q).toNat)
 case atStart=>exact ⟨0,Nat.zero_le _,rfl,fun i' h=>absurd h (Nat.not_lt_zero _),Below.refl _ _⟩
 case round=>
  obtain ⟨i,hi,rfl,hno,hb⟩:=hrel
  have Hno:=Lib.hid hno
  have Hb:=Lib.hid hb
  clear hno hb
  have r0:wr.cell? ⟨w.heap.size,0,none⟩=some (.slice (some ⟨b,off,none⟩) m cap):=RowIs.cell (HR.out.below Hb.out) 0
  have rz:w.heap.size<wr.heap.size:=(HR.out.below Hb.out).lt
  by_cases hlt:i<m
  ·obtain ⟨X,hX⟩ : ∃ X:World,X=wr:=⟨_,rfl⟩
   subst hX
   go_wp2_with fail
   go_loopw [4,5,6,7] (fun q _ _ _ wr=> ∃ o:Nat,o≤m∧q = .int .i64 o∧(∀ o',o'<o→spareB (lossA f) n i o'=false)∧Below W.heap.size W wr) (fun q _ _ _ _=>m-(intOf q).toNat)
   case atStart=>exact ⟨0,Nat.zero_le _,rfl,fun i' h=>absurd h (Nat.not_lt_zero _),Hb.out⟩
   case round=>
    clear r0 rz Hb
    obtain ⟨o,ho,rfl,hso,hb⟩:=hrel
    have Hso:=Lib.hid hso
    have Hb:=Lib.hid hb
    clear hso hb
    have r0:wr.cell? ⟨w.heap.size,0,none⟩=some (.slice (some ⟨b,off,none⟩) m cap):=RowIs.cell (HR.out.below Hb.out) 0
    have rz:w.heap.size<wr.heap.size:=(HR.out.below Hb.out).lt
    by_cases hlo:o<m
    ·obtain ⟨Y,hY⟩ : ∃ Y:World,Y=wr:=⟨_,rfl⟩
     subst hY
     obtain ⟨nf,hnf⟩ : ∃ nf:Nat→Bool,(fun k=>(List.range k).all fun k=>decide (lossA f i k≤lossA f o k))=nf:=⟨_,rfl⟩
     obtain ⟨mf,hmf⟩ : ∃ mf:Nat→Bool,(fun k=>(List.range k).any fun k=>decide (lossA f i k<lossA f o k))=mf:=⟨_,rfl⟩
     have hn1:nf 0=true:=by rw [← hnf]; rfl
     have hm1:mf 0=false:=by rw [← hmf]; rfl
     have hn2 : ∀ k,nf (k+1)=(nf k && decide (lossA f i k≤lossA f o k)):=fun k=>by rw [← hnf]; exact all_more _
     have hm2 : ∀ k,mf (k+1)=(mf k || decide (lossA f i k<lossA f o k)):=fun k=>by rw [← hmf]; exact any_more _
     have hsp:spareB (lossA f) n i o=(decide (o ≠ i) && (nf n && (mf n || decide (o<i)))):=by rw [← hnf, ← hmf]; rfl
     have Hn1:=Lib.hid hn1
     have Hm1:=Lib.hid hm1
     have Hn2:=Lib.hid hn2
     have Hm2:=Lib.hid hm2
     have Hsp:=Lib.hid hsp
     clear hn1 hm1 hn2 hm2 hsp hnf hmf
     go_wp2_with fail
     go_loopw [5,6,7] (fun x y q wr=> ∃ k:Nat,k≤n∧q = .int .i64 k∧x = .bool (nf k)∧y = .bool (mf k)∧Below W.heap.size W wr) (fun _ _ q _=>n-(intOf q).toNat)
     case atStart=>exact ⟨0,Nat.zero_le _,rfl,by rw [Hn1.out],by rw [Hm1.out],Hb.out⟩
     case round=>
      clear r0 rz Hb
      obtain ⟨k,hk,rfl,rfl,rfl,hb⟩:=hrel
      have Hb:=Lib.hid hb
      have r0:wr.cell? ⟨w.heap.size,0,none⟩=some (.slice (some ⟨b,off,none⟩) m cap):=RowIs.cell (HR.out.below Hb.out) 0
      have rz:w.heap.size<wr.heap.size:=(HR.out.below Hb.out).lt
      have bz:b<wr.heap.size:=Nat.lt_of_lt_of_le hbW hb.size
      have c00:=HT.out wr hb 0 hm0
      rw [Nat.add_zero,HO.out.len 0 hm0] at c00
      have hbw:=HB.out.trans (hb.mono HB.out.size)
      by_cases hlk:k<n
      ·have c0i:=HT.out wr hb i hlt
       have c0o:=HT.out wr hb o hlo
       rw [HO.out.len i hlt] at c0i
       rw [HO.out.len o hlo] at c0o
       obtain ⟨ib,io,hia,hic⟩:=HRc.out i hlt
       obtain ⟨ob,oo,hoa,hoc⟩:=HRc.out o hlo
       have ci:=hic wr hbw k (by rw [HO.out.len i hlt]; exact hlk)
       have co:=hoc wr hbw k (by rw [HO.out.len o hlo]; exact hlk)
       have ciz:=cellLt ci
       have coz:=cellLt co
       rw [hia] at c0i
       rw [hoa] at c0o
       obtain ⟨gi,hgi⟩ : ∃ g,lossA f i k=g:=⟨_,rfl⟩
       obtain ⟨go,hgo⟩ : ∃ g,lossA f o k=g:=⟨_,rfl⟩
       have e1:(f i).g k=gi:=hgi
       have e2:(f o).g k=go:=hgo
       rw [e1] at ci
       rw [e2] at co
       have hn3:=Hn2.out k
       have hm3:=Hm2.out k
       rw [hgi,hgo] at hn3 hm3
       have Hn3:=Lib.hid hn3
       have Hm3:=Lib.hid hm3
       obtain ⟨icap,hic'⟩ : ∃ icap,(f i).cap=icap:=⟨_,rfl⟩
       obtain ⟨ocap,hoc'⟩ : ∃ ocap,(f o).cap=ocap:=⟨_,rfl⟩
       rw [hic'] at c0i
       rw [hoc'] at c0o
       obtain ⟨nb,hnb⟩ : ∃ nb,nf k=nb:=⟨_,rfl⟩
       obtain ⟨mb,hmb⟩ : ∃ mb,mf k=mb:=⟨_,rfl⟩
       have Hnb:=Lib.hid hnb
       have Hmb:=Lib.hid hmb
       rw [hnb,hmb]
       clear hia hoa hic hoc hgi hgo e1 e2 hn3 hm3 hic' hoc' hnb hmb hb hbw
       obtain ⟨x1,x2,hx1,hx2⟩ : ∃ x1 x2,decide (gi≤go)=x1∧decide (gi<go)=x2:=⟨_,_,rfl,rfl⟩
       have Hx1:=Lib.hid hx1
       have Hx2:=Lib.hid hx2
       cases nb <;> cases mb <;> cases x1 <;> cases x2
       all_goals
        go_wp2_with fail
        go_quiet (fail)
        go_wp2_with fail
        go_quiet (fail)
        clear c00 c0i c0o ci co ciz coz r0 rz bz hx1 hx2
        go_wp2_with fail
        go_roundw
        case rel=>exact ⟨k+1,by omega,by go_num,by rw [Hn3.out,Hnb.out,Hx1.out]; rfl,by rw [Hm3.out,Hmb.out,Hx2.out]; rfl,below_drewN Hb.out _⟩
        case measure=>simp [intOf]; omega
      ·obtain rfl:k=n:=by omega
       obtain ⟨nb,hnb⟩ : ∃ nb,nf k=nb:=⟨_,rfl⟩
       obtain ⟨mb,hmb⟩ : ∃ mb,mf k=mb:=⟨_,rfl⟩
       have Hnb:=Lib.hid hnb
       have Hmb:=Lib.hid hmb
       rw [hnb,hmb]
       obtain ⟨x1,x2,hx1,hx2⟩ : ∃ x1 x2,((o:Int) != (i:Int))=x1∧decide ((o:Int)<(i:Int))=x2:=⟨_,_,rfl,rfl⟩
       have h1:decide (o ≠ i)=x1:=by rw [← hx1,Bool.eq_iff_iff]; simp; omega
       have h2:decide (o<i)=x2:=by rw [← hx2,Bool.eq_iff_iff]; simp
       have hsp:=Hsp.out
       rw [hnb,hmb,h1,h2] at hsp
       have HS:=Lib.hid hsp
       clear hnb hmb h1 hsp hb hbw hx2
       have Hdone:=Lib.hid (fun (hs:spareB (lossA f) k i o=true)=>show spareZ (lossA f) m k=(i:Int) by
        unfold spareZ spareO
        rw [find_some hlt (by rw [List.any_eq_true]; exact ⟨o,List.mem_range.2 hlo,hs⟩) Hno.out])
       cases x1 <;> cases nb <;> cases mb <;> cases x2
       all_goals go_wp2_with fail
       all_goals
        first
        | (have hd:=Lib.hid (Hdone.out HS.out)
           go_ret
           exact ⟨by rw [hd.out]; rfl,HB.out.trans (Hb.out.mono HB.out.size)⟩)
        | (go_roundw
           case rel=>
            refine ⟨o+1,by omega,by go_num,fun o' h' => ?_,Hb.out⟩
            by_cases e:o'=o
            ·subst e; exact HS.out
            ·exact Hso.out o' (by omega)
           case measure=>simp [intOf]; omega)
    ·obtain rfl:o=m:=by omega
     have hN:((List.range o).any fun q=>spareB (lossA f) n i q)=false:=by
      rw [List.any_eq_false]
      intro q hq
      rw [Hso.out q (List.mem_range.1 hq)]
      decide
     have HN:=Lib.hid hN
     clear hN
     go_wp2_with fail
     go_roundw
     case rel=>
      refine ⟨i+1,by omega,by go_num,fun i' h' => ?_,Hb.out⟩
      by_cases e:i'=i
      ·subst e; exact HN.out
      ·exact Hno.out i' (by omega)
     case measure=>simp [intOf]; omega
  ·obtain rfl:i=m:=by omega
   have hN:spareZ (lossA f) i n = -1:=by
    unfold spareZ spareO
    rw [find_none Hno.out]
   have HN:=Lib.hid hN
   clear hN
   go_wp2_with fail
   go_ret
   exact ⟨by rw [HN.out]; rfl,HB.out.trans (Hb.out.mono HB.out.size)⟩
end Go.Proofs.Ytkbbhihndigmeaa

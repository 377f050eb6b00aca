/- A table whose rows, and columns, come in another order: what SearchTurned builds. -/
import Derived.Shelf.Abstract
import Derived.Test.YtkbbhihndigmeaaQtdab
import Derived.Test.YtkbbhihndigmeaaQtdaa
import Derived.Shelf.RegionOpen
import Derived.Conc.Own4
import Derived.Test.YtkbbhihndigmeaaBasab
import Derived.Test.YtkbbhihndigmeaaBasac
import Derived.Test.YtkbbhihndigmeaaBasba
namespace Go.Proofs.Ytkbbhihndigmeaa
open Go Go.RowKit Go.Shelf
def valR4 (s:Nat) (F:Nat→Value):Array Value:=((List.range s).map F).toArray
theorem valR4_get (s:Nat) (F:Nat→Value) (j:Nat) (hj:j<s):(valR4 s F)[j]? = some (F j):=by simp [valR4,hj]
theorem valR4_set (s:Nat) (F:Nat→Value) (j:Nat) (v:Value):(valR4 s F).setIfInBounds j v=valR4 s (fun i=>if i=j then v else F i):=by
 refine Array.ext_getElem? fun i => ?_
 rw [Array.getElem?_setIfInBounds]
 by_cases hi:i<s
 ·rw [valR4_get s F i hi,valR4_get s _ i hi]
  by_cases e:j=i
  ·subst e
   simp [valR4,hi]
  ·rw [if_neg e,if_neg (Ne.symm e)]
 ·have h1:(valR4 s F)[i]? = none:=by simp [valR4]; omega
  have h2:(valR4 s fun i=>if i=j then v else F i)[i]? = none:=by simp [valR4]; omega
  rw [h1,h2]
  by_cases e:j=i
  ·subst e
   rw [if_pos rfl,if_neg (by simp [valR4]; omega)]
  ·rw [if_neg e]
theorem make_rowsS : ∀ (s:Nat) (_:s≤4) (w:World),(Instr.makeSlice 22 (.int .i64 (s:Int)) (.int .i64 (s:Int))).run Try.prog w = .ok (.slice (some ⟨w.heap.size,0,none⟩) s s) (w.alloc (.cells (valR4 s fun _=> .slice none 0 0) 25))
 | 0,_,w=>by
   have h:(Instr.makeSlice 22 (.int .i64 0) (.int .i64 0)).run Try.prog w = .ok (.slice (some ⟨w.heap.size,0,none⟩) 0 0) (w.alloc (.cells (valR4 0 fun _=> .slice none 0 0) 25)):=by kernel_rfl
   exact h
 | 1,_,w=>by
   have h:(Instr.makeSlice 22 (.int .i64 1) (.int .i64 1)).run Try.prog w = .ok (.slice (some ⟨w.heap.size,0,none⟩) 1 1) (w.alloc (.cells (valR4 1 fun _=> .slice none 0 0) 25)):=by kernel_rfl
   exact h
 | 2,_,w=>by
   have h:(Instr.makeSlice 22 (.int .i64 2) (.int .i64 2)).run Try.prog w = .ok (.slice (some ⟨w.heap.size,0,none⟩) 2 2) (w.alloc (.cells (valR4 2 fun _=> .slice none 0 0) 25)):=by kernel_rfl
   exact h
 | 3,_,w=>by
   have h:(Instr.makeSlice 22 (.int .i64 3) (.int .i64 3)).run Try.prog w = .ok (.slice (some ⟨w.heap.size,0,none⟩) 3 3) (w.alloc (.cells (valR4 3 fun _=> .slice none 0 0) 25)):=by kernel_rfl
   exact h
 | 4,_,w=>by
   have h:(Instr.makeSlice 22 (.int .i64 4) (.int .i64 4)).run Try.prog w = .ok (.slice (some ⟨w.heap.size,0,none⟩) 4 4) (w.alloc (.cells (valR4 4 fun _=> .slice none 0 0) 25)):=by kernel_rfl
   exact h
 | _+5,h,_=>by omega
theorem tab_rows {w:World} {R0 m n:Nat} {F:Nat→Value} {G:Nat→Nat→Int} (h0:RowIs w R0 (valR4 m F) 25) (h : ∀ r,r<m → ∃ bb,F r = .slice (some ⟨bb,0,none⟩) n n∧RowIs w bb (rowA n (G r)) 2) : ∃ fy:Nat→Row3,Tab w (some ⟨R0,0,none⟩) m fy∧(∀ r,(fy r).n=n) ∧ ∀ r,(fy r).g=G r:=by
 classical
 have hx : ∀ r,∃ R:Row3,R.n=n∧R.g=G r∧(r<m→F r = .slice R.a R.n R.cap∧Ints w R.a R.n R.g):=fun r=>by
  by_cases hr:r<m
  ·obtain ⟨bb,h1,h2⟩:=h r hr
   exact ⟨⟨some ⟨bb,0,none⟩,n,n,G r⟩,rfl,rfl,fun _=>⟨h1,rowA_ints h2⟩⟩
  ·exact ⟨⟨none,n,n,G r⟩,rfl,rfl,fun h=>absurd h hr⟩
 refine ⟨fun r=>Classical.choose (hx r),⟨.inr ⟨R0,0,rfl,h0.lt,fun i hi => ?_⟩,fun i hi=>((Classical.choose_spec (hx i)).2.2 hi).2⟩,fun r=>(Classical.choose_spec (hx r)).1,fun r=>(Classical.choose_spec (hx r)).2.1⟩
 rw [Nat.zero_add,h0.cell i,valR4_get m F i hi,((Classical.choose_spec (hx i)).2.2 hi).1]
def AllR (w:World) (m n:Nat) (F:Nat→Value) (G:Nat→Nat→Int):Prop:= ∀ r,r<m → ∃ bb,F r = .slice (some ⟨bb,0,none⟩) n n∧RowIs w bb (rowA n (G r)) 2
theorem AllR.below {w w':World} {m n:Nat} {F:Nat→Value} {G:Nat→Nat→Int} (h:AllR w m n F G) (hb:Below w.heap.size w w'):AllR w' m n F G:=fun r hr=>(h r hr).imp fun _ h=>⟨h.1,h.2.below hb⟩
theorem row_ne {w:World} {b b':Nat} {c c':Array Value} {T T':TypeId} (h:RowIs w b c T) (h':RowIs w b' c' T') (hT:T ≠ T'):b ≠ b':=fun e=>by
 subst e
 have h2:some (Obj.cells c T (0,0))=some (Obj.cells c' T' (0,0)):=h.symm.trans h'
 injection h2 with h2
 injection h2 with _ h3 _
 exact hT h3
def turnG (f:Nat→Row3) (m n k1 k2 r q:Nat):Int:=(f ((r+(m-k1)) % m)).g ((q+(n-k2)) % n)
theorem turned_okay {f g:Nat→Row3} {m n k1 k2:Nat} (hO:Okay m n f) (h1 : ∀ r,(g r).n=n) (h2 : ∀ r,(g r).g=turnG f m n k1 k2 r):Okay m n g:=
 ⟨hO.m1,hO.m4,hO.n1,hO.n4,fun i _=>h1 i,fun i _ j _=>by rw [h2]; exact hO.num _ (Nat.mod_lt _ hO.m1) _ (Nat.mod_lt _ hO.n1)⟩
theorem turned_at {f g:Nat→Row3} {m n k1 k2:Nat} (hk1:k1<m) (hk2:k2<n) (h2 : ∀ r,(g r).g=turnG f m n k1 k2 r) : ∀ i,i<m → ∀ j,j<n→lossA g ((i+k1) % m) ((j+k2) % n)=lossA f i j:=fun i hi j hj=>by
 show (g _).g _=(f i).g j
 rw [h2]
 unfold turnG
 rw [(rot_turn hk1).forth i hi,(rot_turn hk2).forth j hj]
theorem turned_val {f g:Nat→Row3} {m n k1 k2:Nat} (hO:Okay m n f) (hk1:k1<m) (hk2:k2<n) (h2 : ∀ r,(g r).g=turnG f m n k1 k2 r):valOf (lossA g) m n=valOf (lossA f) m n:=
 (val_same (valOf_is hO) (turn_val (rot_turn hk1) (rot_turn hk2) (turned_at hk1 hk2 h2) (valOf_is hO))).symm
theorem list_turned {m k b:Nat} {p:Nat→Bool} {x:List Nat} (hm:m≤4) (hk:k<m) (hb : ∀ r,r<4→bitB b r=x.any fun l=>(l+k) % m==r) (hx:Rising m x) (h : ∀ i,i<m→((i+k) % m ∈ (List.range m).filter p↔i ∈ x)):(List.range m).filter p=bitsL b m:=by
 unfold bitsL
 refine List.filter_congr fun r hr => ?_
 have hrm:=List.mem_range.1 hr
 obtain ⟨k1,k2⟩:=(rot_turn hk).back r hrm
 have h2:=h _ k1
 rw [k2,List.mem_filter,List.mem_range] at h2
 rw [hb r (by omega),Bool.eq_iff_iff,List.any_eq_true]
 constructor
 ·intro hp
  exact ⟨_,h2.1 ⟨hrm,hp⟩,by rw [beq_iff_eq]; exact k2⟩
 ·rintro ⟨l,hl,he⟩
  rw [beq_iff_eq] at he
  have hlm:=hx.2 l hl
  have h3:=(rot_turn hk).forth l hlm
  simp only [he] at h3
  rw [h3] at h2
  exact (h2.2 hl).2
theorem used_turned {f g:Nat→Row3} {m n k1 k2 b:Nat} {x:List Nat} (hO:Okay m n f) (hG:Okay m n g) (hk1:k1<m) (hk2:k2<n) (h2 : ∀ r,(g r).g=turnG f m n k1 k2 r) (hx:usedC (lossA f) m n=x) (hb : ∀ r,r<4→bitB b r=x.any fun l=>(l+k1) % m==r):usedC (lossA g) m n=bitsL b m:=by
 have hr:Rising m x:=by rw [← hx]; exact used_rising _ _ _
 exact list_turned hO.m4 hk1 hb hr fun i hi=>by
  have:=turn_used hO hG (rot_turn hk1) (rot_turn hk2) (turned_at hk1 hk2 h2) i hi
  rw [hx] at this
  exact this
theorem used_turned2 {f g:Nat→Row3} {m n k1 k2 b:Nat} {x:List Nat} (hO:Okay m n f) (hG:Okay m n g) (hk1:k1<m) (hk2:k2<n) (h2 : ∀ r,(g r).g=turnG f m n k1 k2 r) (hx:usedC (flip (lossA f)) n m=x) (hb : ∀ r,r<4→bitB b r=x.any fun l=>(l+k2) % n==r):usedC (flip (lossA g)) n m=bitsL b n:=by
 have hr:Rising n x:=by rw [← hx]; exact used_rising _ _ _
 have a1:=okay_turn hO (f':=fun j=>turnF f m j) (fun _ _=>rfl) fun _=>rfl
 have a2:=okay_turn hG (f':=fun j=>turnF g m j) (fun _ _=>rfl) fun _=>rfl
 have e1:=turn_loss f m
 have e2:=turn_loss g m
 exact list_turned hO.n4 hk2 hb hr fun j hj=>by
  have:=turn_used a1 a2 (rot_turn hk2) (rot_turn hk1) (by rw [e1,e2]; exact turn_flip (turned_at hk1 hk2 h2)) j hj
  rw [e1,e2,hx] at this
  exact this
end Go.Proofs.Ytkbbhihndigmeaa

namespace Go.Proofs.Ytkbbhihndigmeaa
open Go Go.RowKit Go.Shelf
theorem ints_refl (n:Nat) (f:Nat→Int):intsB n f n f=true:=
 intsB_yes fun _ _=>rfl
set_option maxRecDepth 100000 in
set_option maxHeartbeats 16000000 in
theorem law_turned_c (a:Option Addr) (m cap:Nat) (f:Nat→Row3) (z yy:Int) (w:World) (hf:Tab w a m f) (hz:0≤z∧z≤255) (hy:0≤yy∧yy≤255) :
 Calls Try.prog 13 #[tabV a m cap, .int .u8 z, .int .u8 yy] w fun e w'=>e = .returned (.bool true)∧Below w.heap.size w w':=by
 obtain ⟨W,hW⟩ : ∃ W,w.alloc (.cells #[.slice a m cap] 24)=W:=⟨_,rfl⟩
 have hB:Below w.heap.size w W:=by rw [← hW]; exact Below.alloc1 (Below.refl _ _) _ (Nat.le_refl _)
 have R1:=Lib.hid (show RowIs W w.heap.size #[.slice a m cap] 24 by rw [← hW]; exact heap_new_at _ _ _ rfl)
 have H1:=Lib.hid (hf.below hB)
 have B1:=Lib.hid hB
 clear hf hB
 cases hT:fineB m f with
 | false=>
   have HF:=Lib.hid hT
   clear hT
   go_enter Try.func13,Try.ntmps13
   have cc1:W.cell? ⟨w.heap.size,0,none⟩=some (.slice a m cap):=RowIs.cell R1.out 0
   have zz2:w.heap.size<W.heap.size:=RowIs.lt R1.out
   go_wp2_with fail
   clear cc1 zz2 hW
   refine (fine_c a m cap f _ H1.out).mono ?_
   rintro e w3 ⟨rfl,hbq⟩
   replace R1:=Lib.hid (RowIs.below R1.out hbq)
   replace H1:=Lib.hid (H1.out.below hbq)
   replace B1:=Lib.hid (bup B1.out hbq)
   clear hbq
   rw [HF.out]
   have cc4:w3.cell? ⟨w.heap.size,0,none⟩=some (.slice a m cap):=RowIs.cell R1.out 0
   have zz5:w.heap.size<w3.heap.size:=RowIs.lt R1.out
   go_wp2_with fail
   clear cc4 zz5
   refine (works_c _).mono ?_
   rintro e w6 ⟨rfl,hbq⟩
   go_wp2_with fail
   go_ret
   exact ⟨rfl,bup B1.out hbq⟩
 | true=>
   have HF:=Lib.hid hT
   have hE:tableE m f=0:=of_decide_eq_true hT
   have hO:=okay_of hE
   obtain ⟨n,hn⟩ : ∃ n,(f 0).n=n:=⟨_,rfl⟩
   rw [hn] at hO
   have hm4:=hO.m4
   have hm1:=hO.m1
   have hn4:=hO.n4
   have hn1:=hO.n1
   have hm2:m≤1048576:=by omega
   have hr2 : ∀ i,i<m→(f i).n≤1048576:=fun i hi=>by rw [hO.len i hi]; omega
   have KO:=Lib.hid hO
   have RR:=Lib.hid hr2
   have HN:=Lib.hid hn
   have KE:=Lib.hid hE
   obtain ⟨tb,ofs,ha0,htb, -⟩:=Tab.at H1.out 0 (by omega)
   subst ha0
   obtain ⟨v1,hv1⟩ : ∃ v1,(valOf (lossA f) m n).1=v1:=⟨_,rfl⟩
   obtain ⟨v2,hv2⟩ : ∃ v2,(valOf (lossA f) m n).2=v2:=⟨_,rfl⟩
   have V1:=Lib.hid hv1
   have V2:=Lib.hid hv2
   clear hE hT hO hr2 hn hv1 hv2
   obtain ⟨k1,hk1⟩ : ∃ jr:Nat,z % (m:Int)=jr:=⟨(z % (m:Int)).toNat,by have:=Int.emod_nonneg z (show (m:Int) ≠ 0 by omega); omega⟩
   have hkm:k1<m:=by have:=Int.emod_lt_of_pos z (show (0:Int)<(m:Int) by omega); omega
   obtain ⟨k2,hk2⟩ : ∃ jc:Nat,yy % (n:Int)=jc:=⟨(yy % (n:Int)).toNat,by have:=Int.emod_nonneg yy (show (n:Int) ≠ 0 by omega); omega⟩
   have hkn:k2<n:=by have:=Int.emod_lt_of_pos yy (show (0:Int)<(n:Int) by omega); omega
   have htr:Int.tmod z (m:Int)=k1:=by rw [Int.tmod_eq_emod_of_nonneg hz.1]; exact hk1
   have htc:Int.tmod yy (n:Int)=k2:=by rw [Int.tmod_eq_emod_of_nonneg hy.1]; exact hk2
   have hmz : ¬ m=0:=by omega
   have hnz : ¬ n=0:=by omega
   have hmi : ¬ (m:Int)=0:=by omega
   have hni : ¬ (n:Int)=0:=by omega
   have HK1:=Lib.hid hk1
   have HK2:=Lib.hid hk2
   have HT1:=Lib.hid htr
   have HT2:=Lib.hid htc
   clear hk1 hk2 htr htc
   obtain ⟨LA,hLA⟩ : ∃ LA,usedC (lossA f) m n=LA:=⟨_,rfl⟩
   obtain ⟨LB,hLB⟩ : ∃ LB,usedC (flip (lossA f)) n m=LB:=⟨_,rfl⟩
   have hsa:=used_rising (lossA f) m n
   have hsb:=used_rising (flip (lossA f)) n m
   rw [hLA] at hsa
   rw [hLB] at hsb
   have hqa:=rising_len hsa
   have hqb:=rising_len hsb
   have SA:=Lib.hid hsa
   have SB:=Lib.hid hsb
   have EA:=Lib.hid hLA
   have EB:=Lib.hid hLB
   clear hsa hsb hLA hLB
   go_enter Try.func13,Try.ntmps13
   have cc7:W.cell? ⟨w.heap.size,0,none⟩=some (.slice (some ⟨tb,ofs,none⟩) m cap):=RowIs.cell R1.out 0
   have zz8:w.heap.size<W.heap.size:=RowIs.lt R1.out
   go_wp2_with fail
   clear cc7 zz8 hW
   refine (fine_c (some ⟨tb,ofs,none⟩) m cap f _ H1.out).mono ?_
   rintro e w9 ⟨rfl,hbq⟩
   replace R1:=Lib.hid (RowIs.below R1.out hbq)
   replace H1:=Lib.hid (H1.out.below hbq)
   replace B1:=Lib.hid (bup B1.out hbq)
   clear hbq
   rw [HF.out]
   have cc10:w9.cell? ⟨w.heap.size,0,none⟩=some (.slice (some ⟨tb,ofs,none⟩) m cap):=RowIs.cell R1.out 0
   have zz11:w.heap.size<w9.heap.size:=RowIs.lt R1.out
   obtain ⟨rw12,rz13⟩:w9.cell? ⟨tb,ofs,none⟩=some (.slice (f 0).a n (f 0).cap)∧tb<w9.heap.size:=by
    obtain ⟨b2,o2,e2,hz2,hc2⟩:=Tab.at H1.out 0 (by omega)
    obtain ⟨rfl,rfl⟩:b2=tb∧o2=ofs:=by injection e2 with he; injection he with h1 h2 _; exact ⟨h1.symm,h2.symm⟩
    have:=hc2 0 (by omega)
    rw [Nat.add_zero,HN.out] at this
    exact ⟨this,hz2⟩
   have hlc14:=fun (x:Later w9)=>later_cell x
   go_wp2_with fail
   refine wp_region_later (by kernel_rfl) (by kernel_rfl) ?_
   repeat (go_big_quiet_step (fail))
   refine wpQuiet_nil ?_
   clear hlc14
   clear cc10 zz11 rw12 rz13
   rintro ⟨w15,hbl16⟩
   replace R1:=Lib.hid (RowIs.below R1.out hbl16)
   replace H1:=Lib.hid (H1.out.below hbl16)
   replace B1:=Lib.hid (bup B1.out hbl16)
   have cc17:w15.cell? ⟨w.heap.size,0,none⟩=some (.slice (some ⟨tb,ofs,none⟩) m cap):=RowIs.cell R1.out 0
   have zz18:w.heap.size<w15.heap.size:=RowIs.lt R1.out
   go_wp2_with fail
   clear hbl16 cc17 zz18
   refine (value_c (some ⟨tb,ofs,none⟩) m n cap f _ H1.out KO.out).mono ?_
   rintro e w19 ⟨hres,hbq⟩
   obtain ⟨gr,xr,gk,xk,hbr,hbc,rfl,hrr,hrk⟩:=hres
   rw [V1.out,V2.out]
   replace R1:=Lib.hid (RowIs.below R1.out hbq)
   replace H1:=Lib.hid (H1.out.below hbq)
   replace B1:=Lib.hid (bup B1.out hbq)
   clear hbq
   have BR1:=Lib.hid hbr
   have BC1:=Lib.hid hbc
   have Ggr:=Lib.hid hrr
   have Ggk:=Lib.hid hrk
   clear hbr hbc hrr hrk
   obtain ⟨Y20,hY20⟩ : ∃ Y20,w19.alloc (.cells #[.int .i64 v1, .int .i64 v2] 30)=Y20:=⟨_,rfl⟩
   have hb21:Below w19.heap.size w19 Y20:=by rw [← hY20]; exact Below.alloc1 (Below.refl _ _) _ (Nat.le_refl _)
   have hr22:RowIs Y20 w19.heap.size #[.int .i64 v1, .int .i64 v2] 30:=by rw [← hY20]; exact heap_new_at _ _ _ rfl
   replace R1:=Lib.hid (RowIs.below R1.out hb21)
   replace H1:=Lib.hid (H1.out.below hb21)
   replace Ggr:=Lib.hid (RowIs.below Ggr.out hb21)
   replace Ggk:=Lib.hid (RowIs.below Ggk.out hb21)
   replace B1:=Lib.hid (bup B1.out hb21)
   have QV:=Lib.hid hr22
   clear hb21 hr22
   have cc23:Y20.cell? ⟨w.heap.size,0,none⟩=some (.slice (some ⟨tb,ofs,none⟩) m cap):=RowIs.cell R1.out 0
   have zz24:w.heap.size<Y20.heap.size:=RowIs.lt R1.out
   have hsm:=val_small KO.out BR1.out
   rw [V1.out,V2.out] at hsm
   have VS:=Lib.hid hsm
   clear hsm
   go_wp2_with fail
   clear hY20 cc23 zz24
   refine (rTurned_c (some ⟨tb,ofs,none⟩) m n cap f _ H1.out KO.out).mono ?_
   rintro e w25 ⟨⟨p,c,f2,rfl, -, -,hT,hl,hg⟩,hbq⟩
   replace R1:=Lib.hid (RowIs.below R1.out hbq)
   replace H1:=Lib.hid (H1.out.below hbq)
   replace Ggr:=Lib.hid (RowIs.below Ggr.out hbq)
   replace Ggk:=Lib.hid (RowIs.below Ggk.out hbq)
   replace QV:=Lib.hid (RowIs.below QV.out hbq)
   replace B1:=Lib.hid (bup B1.out hbq)
   have HX:=Lib.hid hT
   have KX:=Lib.hid (okay_turn KO.out hl hg)
   have LF:=Lib.hid (loss_turn hg)
   have hvf:=val_flip KO.out
   rw [V1.out,V2.out, ← loss_turn hg] at hvf
   have XV:=Lib.hid hvf
   have FN:=Lib.hid hl
   clear hT hl hg hbq hvf
   obtain ⟨Y26,hY26⟩ : ∃ Y26,w25.alloc (.cells #[.slice p n c] 24)=Y26:=⟨_,rfl⟩
   have hb27:Below w25.heap.size w25 Y26:=by rw [← hY26]; exact Below.alloc1 (Below.refl _ _) _ (Nat.le_refl _)
   have hr28:RowIs Y26 w25.heap.size #[.slice p n c] 24:=by rw [← hY26]; exact heap_new_at _ _ _ rfl
   replace R1:=Lib.hid (RowIs.below R1.out hb27)
   replace H1:=Lib.hid (H1.out.below hb27)
   replace Ggr:=Lib.hid (RowIs.below Ggr.out hb27)
   replace Ggk:=Lib.hid (RowIs.below Ggk.out hb27)
   replace QV:=Lib.hid (RowIs.below QV.out hb27)
   replace HX:=Lib.hid (HX.out.below hb27)
   replace B1:=Lib.hid (bup B1.out hb27)
   have RX:=Lib.hid hr28
   clear hb27 hr28
   have cc29:Y26.cell? ⟨w.heap.size,0,none⟩=some (.slice (some ⟨tb,ofs,none⟩) m cap):=RowIs.cell R1.out 0
   have zz30:w.heap.size<Y26.heap.size:=RowIs.lt R1.out
   have cc31:Y26.cell? ⟨w25.heap.size,0,none⟩=some (.slice p n c):=RowIs.cell RX.out 0
   have zz32:w25.heap.size<Y26.heap.size:=RowIs.lt RX.out
   have RX2:=Lib.hid (fun (j:Nat) (hj:j<n)=>show (f2 j).n≤1048576 by rw [FN.out j hj]; omega)
   have EX:=Lib.hid (okay_is KX.out)
   go_wp2_with fail
   clear hY26 cc29 zz30 cc31 zz32
   refine (value_c p n m c f2 _ HX.out KX.out).mono ?_
   rintro e w33 ⟨hres,hbq⟩
   obtain ⟨gr2,xr2,gk2,xk2, -, -,rfl, -, -⟩:=hres
   rw [XV.out]
   replace R1:=Lib.hid (RowIs.below R1.out hbq)
   replace H1:=Lib.hid (H1.out.below hbq)
   replace Ggr:=Lib.hid (RowIs.below Ggr.out hbq)
   replace Ggk:=Lib.hid (RowIs.below Ggk.out hbq)
   replace QV:=Lib.hid (RowIs.below QV.out hbq)
   replace HX:=Lib.hid (HX.out.below hbq)
   replace RX:=Lib.hid (RowIs.below RX.out hbq)
   replace B1:=Lib.hid (bup B1.out hbq)
   clear hbq
   have NQ:=Lib.hid (show w19.heap.size ≠ w33.heap.size from Nat.ne_of_lt (RowIs.lt QV.out))
   have NW:=Lib.hid (show w.heap.size≤w33.heap.size from B1.out.size)
   obtain ⟨Y34,hY34⟩ : ∃ Y34,w33.alloc (.cells #[.int .i64 (-v1), .int .i64 v2] 30)=Y34:=⟨_,rfl⟩
   have hb35:Below w33.heap.size w33 Y34:=by rw [← hY34]; exact Below.alloc1 (Below.refl _ _) _ (Nat.le_refl _)
   have hr36:RowIs Y34 w33.heap.size #[.int .i64 (-v1), .int .i64 v2] 30:=by rw [← hY34]; exact heap_new_at _ _ _ rfl
   replace R1:=Lib.hid (RowIs.below R1.out hb35)
   replace H1:=Lib.hid (H1.out.below hb35)
   replace Ggr:=Lib.hid (RowIs.below Ggr.out hb35)
   replace Ggk:=Lib.hid (RowIs.below Ggk.out hb35)
   replace QV:=Lib.hid (RowIs.below QV.out hb35)
   replace HX:=Lib.hid (HX.out.below hb35)
   replace RX:=Lib.hid (RowIs.below RX.out hb35)
   replace B1:=Lib.hid (bup B1.out hb35)
   have QW:=Lib.hid hr36
   clear hb35 hr36
   have cc37:Y34.cell? ⟨w.heap.size,0,none⟩=some (.slice (some ⟨tb,ofs,none⟩) m cap):=RowIs.cell R1.out 0
   have zz38:w.heap.size<Y34.heap.size:=RowIs.lt R1.out
   have cc39:Y34.cell? ⟨w25.heap.size,0,none⟩=some (.slice p n c):=RowIs.cell RX.out 0
   have zz40:w25.heap.size<Y34.heap.size:=RowIs.lt RX.out
   have NU:=Lib.hid (show w33.heap.size<Y34.heap.size from RowIs.lt QW.out)
   go_wp2_with fail
   clear hY34 cc37 zz38 cc39 zz40
   refine (UsedF_v (some ⟨tb,ofs,none⟩) m cap f _ H1.out hm2 RR.out).mono ?_
   rintro e w41 ⟨hres,hbq⟩
   obtain ⟨xa,ca,xb,cb,rfl,hla,hlb⟩:=hres.elim (fun h=>absurd KE.out h.1) (fun h=>h.2)
   rw [HN.out,EA.out] at hla
   rw [HN.out,EB.out] at hlb
   rw [HN.out,EA.out,EB.out]
   replace R1:=Lib.hid (RowIs.below R1.out hbq)
   replace H1:=Lib.hid (H1.out.below hbq)
   replace Ggr:=Lib.hid (RowIs.below Ggr.out hbq)
   replace Ggk:=Lib.hid (RowIs.below Ggk.out hbq)
   replace QV:=Lib.hid (RowIs.below QV.out hbq)
   replace HX:=Lib.hid (HX.out.below hbq)
   replace RX:=Lib.hid (RowIs.below RX.out hbq)
   replace QW:=Lib.hid (RowIs.below QW.out hbq)
   replace B1:=Lib.hid (bup B1.out hbq)
   clear hbq hres
   have HA:=Lib.hid hla
   have HB0:=Lib.hid hlb
   clear hla hlb
   have cc42:w41.cell? ⟨w.heap.size,0,none⟩=some (.slice (some ⟨tb,ofs,none⟩) m cap):=RowIs.cell R1.out 0
   have zz43:w.heap.size<w41.heap.size:=RowIs.lt R1.out
   have cc44:w41.cell? ⟨w25.heap.size,0,none⟩=some (.slice p n c):=RowIs.cell RX.out 0
   have zz45:w25.heap.size<w41.heap.size:=RowIs.lt RX.out
   go_wp2_with fail
   clear cc42 zz43 cc44 zz45
   refine (UsedF_v p n c f2 _ HX.out (by omega) RX2.out).mono ?_
   rintro e w46 ⟨hres,hbq⟩
   obtain ⟨xc,cc,xd,cd,rfl,hla,hlb⟩:=hres.elim (fun h=>absurd EX.out h.1) (fun h=>h.2)
   rw [FN.out 0 (by omega),LF.out,EB.out] at hla
   rw [FN.out 0 (by omega),LF.out,flip_flip,EA.out] at hlb
   rw [FN.out 0 (by omega),LF.out,flip_flip,EA.out,EB.out]
   replace R1:=Lib.hid (RowIs.below R1.out hbq)
   replace H1:=Lib.hid (H1.out.below hbq)
   replace Ggr:=Lib.hid (RowIs.below Ggr.out hbq)
   replace Ggk:=Lib.hid (RowIs.below Ggk.out hbq)
   replace QV:=Lib.hid (RowIs.below QV.out hbq)
   replace HX:=Lib.hid (HX.out.below hbq)
   replace RX:=Lib.hid (RowIs.below RX.out hbq)
   replace QW:=Lib.hid (RowIs.below QW.out hbq)
   replace HA:=Lib.hid (HA.out.below hbq)
   replace HB0:=Lib.hid (HB0.out.below hbq)
   replace B1:=Lib.hid (bup B1.out hbq)
   clear hbq hres
   have HC:=Lib.hid hla
   have HD:=Lib.hid hlb
   clear hla hlb
   obtain ⟨sm1,sm2,sm3,sm4, -, -⟩:=VS.out
   have hng:IntKind.i64.wrap (-v1) = -v1:=IntWalk.i64_in _ (by omega)
   clear sm1 sm2 sm3 sm4
   have CBY:=Lib.hid (fun (x:World)=>by_c (-v1) v2 x)
   have CI1:=fun (x:World) (h:Below w46.heap.size w46 x)=>Ints_c xa LA.length ca (natI LA) xd LA.length cd (natI LA) x (LstN.below HA.out h).1.cells (LstN.below HD.out h).1.cells (by omega)
   simp only [ints_refl] at CI1
   replace CI1:=Lib.hid CI1
   have CI2:=fun (x:World) (h:Below w46.heap.size w46 x)=>Ints_c xb LB.length cb (natI LB) xc LB.length cc (natI LB) x (LstN.below HB0.out h).1.cells (LstN.below HC.out h).1.cells (by omega)
   simp only [ints_refl] at CI2
   replace CI2:=Lib.hid CI2
   have eq47 : ∀ x,(Op.equalIn 10000 30 (.agg #[.int .i64 (-v1), .int .i64 v2]) (.agg #[.int .i64 (-v1), .int .i64 v2])).run Try.prog x = .ok true x:=fun x=>(eqRat (-v1) v2 (-v1) v2 x).trans (by simp)
   have cc48:w46.cell? ⟨w19.heap.size,0,none⟩=some (.int .i64 v1):=RowIs.cell QV.out 0
   have cc49:w46.cell? ⟨w19.heap.size,1,none⟩=some (.int .i64 v2):=RowIs.cell QV.out 1
   have zz50:w19.heap.size<w46.heap.size:=RowIs.lt QV.out
   have cc51:w46.cell? ⟨w33.heap.size,0,none⟩=some (.int .i64 (-v1)):=RowIs.cell QW.out 0
   have cc52:w46.cell? ⟨w33.heap.size,1,none⟩=some (.int .i64 v2):=RowIs.cell QW.out 1
   have zz53:w33.heap.size<w46.heap.size:=RowIs.lt QW.out
   have hlc54:=fun (x:Later w46)=>later_cell x
   go_wp2_with fail
   refine wp_region_later (by kernel_rfl) (by kernel_rfl) ?_
   repeat (go_big_quiet_step ((first | (with_reducible refine calls_later (CBY.out _)) | (with_reducible refine calls_later (CI1.out _ (Later.h _))) | (with_reducible refine calls_later (CI2.out _ (Later.h _))))))
   refine wpQuiet_nil ?_
   clear hlc54
   clear eq47 cc48 cc49 zz50 cc51 cc52 zz53
   rintro ⟨w55,hbl56⟩
   replace R1:=Lib.hid (RowIs.below R1.out hbl56)
   replace H1:=Lib.hid (H1.out.below hbl56)
   replace Ggr:=Lib.hid (RowIs.below Ggr.out hbl56)
   replace Ggk:=Lib.hid (RowIs.below Ggk.out hbl56)
   replace QV:=Lib.hid (RowIs.below QV.out hbl56)
   replace HX:=Lib.hid (HX.out.below hbl56)
   replace RX:=Lib.hid (RowIs.below RX.out hbl56)
   replace QW:=Lib.hid (RowIs.below QW.out hbl56)
   replace HA:=Lib.hid (HA.out.below hbl56)
   replace HB0:=Lib.hid (HB0.out.below hbl56)
   replace HC:=Lib.hid (HC.out.below hbl56)
   replace HD:=Lib.hid (HD.out.below hbl56)
   replace B1:=Lib.hid (bup B1.out hbl56)
   clear CBY CI1 CI2 hng
   have cc57:w55.cell? ⟨w.heap.size,0,none⟩=some (.slice (some ⟨tb,ofs,none⟩) m cap):=RowIs.cell R1.out 0
   have zz58:w.heap.size<w55.heap.size:=RowIs.lt R1.out
   have cc59:w55.cell? ⟨w25.heap.size,0,none⟩=some (.slice p n c):=RowIs.cell RX.out 0
   have zz60:w25.heap.size<w55.heap.size:=RowIs.lt RX.out
   have hpr:proofR n f2 n xk m xr=(-v1,v2,0):=by
    have h1:=BC1.out.sure
    have h2:BestR (flip (lossA f2)) m n xr:=by rw [LF.out,flip_flip]; exact BR1.out
    rw [← LF.out] at h1
    rw [proof_val KX.out h1 (best_bounds KX.out h2) (fun i hi=>by have:=(BC1.out.few i hi).2; omega) (fun i hi=>by have:=(BR1.out.few i hi).2; omega),XV.out]
   have KR:=Lib.hid hpr
   clear hpr
   have C61:=CheckProof_c p n c f2 (some ⟨gk,0,none⟩) n n xk (some ⟨gr,0,none⟩) m m xr w55 HX.out (by omega) RX2.out (rowA_ints Ggk.out) (by omega) (rowA_ints Ggr.out) hm2
   rw [KR.out] at C61
   replace C61:=Lib.hid C61
   go_wp2_with fail
   clear hbl56 cc57 zz58 cc59 zz60
   refine (C61.out).mono ?_
   rintro e w62 ⟨rfl,hbq⟩
   replace R1:=Lib.hid (RowIs.below R1.out hbq)
   replace H1:=Lib.hid (H1.out.below hbq)
   replace Ggr:=Lib.hid (RowIs.below Ggr.out hbq)
   replace Ggk:=Lib.hid (RowIs.below Ggk.out hbq)
   replace QV:=Lib.hid (RowIs.below QV.out hbq)
   replace HX:=Lib.hid (HX.out.below hbq)
   replace RX:=Lib.hid (RowIs.below RX.out hbq)
   replace QW:=Lib.hid (RowIs.below QW.out hbq)
   replace HA:=Lib.hid (HA.out.below hbq)
   replace HB0:=Lib.hid (HB0.out.below hbq)
   replace HC:=Lib.hid (HC.out.below hbq)
   replace HD:=Lib.hid (HD.out.below hbq)
   replace B1:=Lib.hid (bup B1.out hbq)
   clear hbq
   clear C61
   obtain ⟨Y63,hY63⟩ : ∃ Y63,w62.alloc (.cells #[.int .i64 (-v1), .int .i64 v2] 30)=Y63:=⟨_,rfl⟩
   have hb64:Below w62.heap.size w62 Y63:=by rw [← hY63]; exact Below.alloc1 (Below.refl _ _) _ (Nat.le_refl _)
   have hr65:RowIs Y63 w62.heap.size #[.int .i64 (-v1), .int .i64 v2] 30:=by rw [← hY63]; exact heap_new_at _ _ _ rfl
   replace R1:=Lib.hid (RowIs.below R1.out hb64)
   replace H1:=Lib.hid (H1.out.below hb64)
   replace Ggr:=Lib.hid (RowIs.below Ggr.out hb64)
   replace Ggk:=Lib.hid (RowIs.below Ggk.out hb64)
   replace QV:=Lib.hid (RowIs.below QV.out hb64)
   replace HX:=Lib.hid (HX.out.below hb64)
   replace RX:=Lib.hid (RowIs.below RX.out hb64)
   replace QW:=Lib.hid (RowIs.below QW.out hb64)
   replace HA:=Lib.hid (HA.out.below hb64)
   replace HB0:=Lib.hid (HB0.out.below hb64)
   replace HC:=Lib.hid (HC.out.below hb64)
   replace HD:=Lib.hid (HD.out.below hb64)
   replace B1:=Lib.hid (bup B1.out hb64)
   have QP:=Lib.hid hr65
   clear hb64 hr65
   have cc66:Y63.cell? ⟨w.heap.size,0,none⟩=some (.slice (some ⟨tb,ofs,none⟩) m cap):=RowIs.cell R1.out 0
   have zz67:w.heap.size<Y63.heap.size:=RowIs.lt R1.out
   have cc68:Y63.cell? ⟨w25.heap.size,0,none⟩=some (.slice p n c):=RowIs.cell RX.out 0
   have zz69:w25.heap.size<Y63.heap.size:=RowIs.lt RX.out
   have cc70:Y63.cell? ⟨w33.heap.size,0,none⟩=some (.int .i64 (-v1)):=RowIs.cell QW.out 0
   have cc71:Y63.cell? ⟨w33.heap.size,1,none⟩=some (.int .i64 v2):=RowIs.cell QW.out 1
   have zz72:w33.heap.size<Y63.heap.size:=RowIs.lt QW.out
   have cc73:Y63.cell? ⟨w62.heap.size,0,none⟩=some (.int .i64 (-v1)):=RowIs.cell QP.out 0
   have cc74:Y63.cell? ⟨w62.heap.size,1,none⟩=some (.int .i64 v2):=RowIs.cell QP.out 1
   have zz75:w62.heap.size<Y63.heap.size:=RowIs.lt QP.out
   have eq76 : ∀ x,(Op.equalIn 10000 30 (.agg #[.int .i64 (-v1), .int .i64 v2]) (.agg #[.int .i64 (-v1), .int .i64 v2])).run Try.prog x = .ok true x:=fun x=>(eqRat (-v1) v2 (-v1) v2 x).trans (by simp)
   have hTC : ∀ x,Below Y63.heap.size Y63 x→tb<x.heap.size ∧ ∀ i,i<m→x.cell? ⟨tb,ofs+i,none⟩=some (.slice (f i).a n (f i).cap):=fun x hx=>by
    obtain ⟨b2,o2,e2,hz2,hc2⟩:=Tab.at (H1.out.below hx) 0 (by omega)
    obtain ⟨rfl,rfl⟩:b2=tb∧o2=ofs:=by injection e2 with he; injection he with h1 h2 _; exact ⟨h1.symm,h2.symm⟩
    exact ⟨hz2,fun i hi=>by rw [hc2 i hi,KO.out.len i hi]⟩
   have hRC : ∀ i,i<m → ∃ rb ro,(f i).a=some ⟨rb,ro,none⟩ ∧ ∀ x,Below Y63.heap.size Y63 x→rb<x.heap.size ∧ ∀ q,q<n→x.cell? ⟨rb,ro+q,none⟩=some (.int .i64 ((f i).g q)):=fun i hi=>by
    obtain ⟨rb,ro,hra,hrz, -⟩:=Cells.at (H1.out.2 i hi) 0 (by rw [KO.out.len i hi]; omega)
    refine ⟨rb,ro,hra,fun x hx => ?_⟩
    obtain ⟨b2,o2,e2,hz2,hc2⟩:=Cells.at ((H1.out.below hx).2 i hi) 0 (by rw [KO.out.len i hi]; omega)
    obtain ⟨rfl,rfl⟩:b2=rb∧o2=ro:=by rw [hra] at e2; injection e2 with he; injection he with h1 h2 _; exact ⟨h1.symm,h2.symm⟩
    exact ⟨hz2,fun q hq=>hc2 q (by rw [KO.out.len i hi]; exact hq)⟩
   have HTC:=Lib.hid hTC
   have HRC:=Lib.hid hRC
   clear hTC hRC
   have hmk:=make_rowsS m hm4
   obtain ⟨Y,hY⟩ : ∃ Y,(Y63.alloc (.cells (valR4 m fun _=> .slice none 0 0) 25)).alloc (.cells #[.slice (some ⟨Y63.heap.size,0,none⟩) m m] 24)=Y:=⟨_,rfl⟩
   have BY:=Lib.hid (show Below Y63.heap.size Y63 Y by rw [← hY]; exact Below.alloc1 (Below.alloc1 (Below.refl _ _) _ (Nat.le_refl _)) _ (Nat.le_refl _))
   have RV:=Lib.hid (show RowIs Y (Y63.heap.size) (valR4 m fun _=> .slice none 0 0) 25 by rw [← hY]; exact RowIs.alloc (heap_new_at _ _ _ rfl) _)
   have RW:=Lib.hid (show RowIs Y (Y63.heap.size+1) #[.slice (some ⟨Y63.heap.size,0,none⟩) m m] 24 by rw [← hY]; exact heap_new_at _ _ _ (by simp))
   go_wp2_with fail
   clear hY63 cc66 zz67 cc68 zz69 cc70 cc71 zz72 cc73 cc74 zz75 eq76 hY
   clear hmk
   go_loopw [27] (fun c wr=> ∃ a:Nat,a≤m∧c = .int .i64 a ∧ ∃ F:Nat→Value,RowIs wr (Y63.heap.size) (valR4 m F) 25∧(∀ l,l<a → ∃ bb,F ((l+k1) % m) = .slice (some ⟨bb,0,none⟩) n n∧RowIs wr bb (rowA n (fun q=>(f l).g ((q+(n-k2)) % n))) 2)∧RowIs wr (Y63.heap.size+1) #[.slice (some ⟨Y63.heap.size,0,none⟩) m m] 24∧Below Y63.heap.size Y63 wr) (fun c _=>m-(intOf c).toNat)
   case atStart=>exact ⟨0,Nat.zero_le _,rfl,_,RV.out,fun l hl=>absurd hl (Nat.not_lt_zero _),RW.out,BY.out⟩
   case round=>
    obtain ⟨a,ha,rfl,F,hR0,hrows,hbx,hb⟩:=hrel
    have HR0:=Lib.hid hR0
    have HRS:=Lib.hid hrows
    have HBX:=Lib.hid hbx
    have HB:=Lib.hid hb
    clear hR0 hrows hbx hb
    by_cases hlt:a<m
    ·obtain ⟨X,hX⟩ : ∃ X:World,X=wr:=⟨_,rfl⟩
     subst hX
     have hmk:=make_row64 n hn4
     obtain ⟨Z,hZ⟩ : ∃ Z,X.alloc (.cells (rowA n fun _=>0) 2)=Z:=⟨_,rfl⟩
     have BZ:=Lib.hid (show Below X.heap.size X Z by rw [← hZ]; exact Below.alloc1 (Below.refl _ _) _ (Nat.le_refl _))
     have RZ:=Lib.hid (show RowIs Z X.heap.size (rowA n (fun q=>if (q+(n-k2)) % n<0 then (f a).g ((q+(n-k2)) % n) else 0)) 2 by rw [← hZ,show rowA n (fun q=>if (q+(n-k2)) % n<0 then (f a).g ((q+(n-k2)) % n) else 0)=rowA n fun _=>0 from rowA_same fun i _=>if_neg (Nat.not_lt_zero _)]; exact heap_new_at _ _ _ rfl)
     go_wp2_with fail
     clear hZ hmk
     go_loopw [29] (fun c wr=> ∃ j:Nat,j≤n∧c = .int .i64 j∧RowIs wr X.heap.size (rowA n (fun q=>if (q+(n-k2)) % n<j then (f a).g ((q+(n-k2)) % n) else 0)) 2∧Below X.heap.size X wr) (fun c _=>n-(intOf c).toNat)
     case atStart=>exact ⟨0,Nat.zero_le _,rfl,RZ.out,BZ.out⟩
     case round=>
      obtain ⟨j,hj,rfl,hrow,hbw⟩:=hrel
      have HRW:=Lib.hid hrow
      have HBW:=Lib.hid hbw
      clear hrow hbw
      by_cases hlj:j<n
      ·skip
       obtain ⟨rb,ro,hra,hrc⟩:=HRC.out a hlt
       have HRD:=Lib.hid hrc
       clear hrc
       obtain ⟨l0,hl0⟩ : ∃ l0,(f a).g j=l0:=⟨_,rfl⟩
       have HL0:=Lib.hid hl0
       clear hl0
       obtain ⟨q0,hq0⟩ : ∃ q0,(j+k2) % n=q0:=⟨_,rfl⟩
       have hqn:q0<n:=by rw [← hq0]; exact Nat.mod_lt _ (by omega)
       have hwj:IntKind.i64.wrap ((j:Int)+(k2:Int))=(j:Int)+(k2:Int):=IntWalk.i64_in _ (by omega)
       have hqe:((j:Int)+(k2:Int)) % (n:Int)=(q0:Int):=by rw [← hq0]; exact (Int.natCast_emod (j+k2) n).symm
       have hqt:Int.tmod ((j:Int)+(k2:Int)) (n:Int)=(q0:Int):=by rw [← hq0]; exact (Int.ofNat_tmod (j+k2) n).symm
       have HQ0:=Lib.hid hq0
       clear hq0
       have hwy:IntKind.i64.wrap yy=yy:=IntWalk.i64_in _ (by omega)
       go_wp2_with fail
       refine wp_region_runF (C:=fun y=>Below X.heap.size X y) (fun y=>Below X.heap.size X y∧RowIs y X.heap.size (rowA n (fun q=>if (q+(n-k2)) % n<j then (f a).g ((q+(n-k2)) % n) else 0)) 2) (by kernel_rfl) (fun _ _ h hb=>⟨h.1.trans (hb.mono h.1.size),h.2.below hb⟩) ⟨HBW.out,HRW.out⟩ ?_
       change Run _ _ _ _ _ 19 _ _ _
       refine run_take (i:=0) (.slice (some ⟨X.heap.size,0,none⟩) n n) rfl (by kernel_rfl) (by kernel_rfl) (by kernel_rfl) rfl (fun y h=>h.1) (fun y hy=>by go_simp) ?_
       simp only [puts]
       refine run_take (i:=1) (.int .i64 j) rfl (by kernel_rfl) (by kernel_rfl) (by kernel_rfl) rfl (fun y h=>h.1) (fun y hy=>by go_simp) ?_
       simp only [puts]
       refine run_take (i:=2) (.int .u8 yy) rfl (by kernel_rfl) (by kernel_rfl) (by kernel_rfl) rfl (fun y h=>h.1) (fun y hy=>by go_simp) ?_
       simp only [puts]
       refine run_take (i:=3) (.int .i64 yy) rfl (by kernel_rfl) (by kernel_rfl) (by kernel_rfl) rfl (fun y h=>h.1) (fun y hy=>by go_simp) ?_
       simp only [puts]
       refine run_take (i:=4) (.int .i64 n) rfl (by kernel_rfl) (by kernel_rfl) (by kernel_rfl) rfl (fun y h=>h.1) (fun y hy=>by go_simp) ?_
       simp only [puts]
       refine run_take (i:=5) (.int .i64 k2) rfl (by kernel_rfl) (by kernel_rfl) (by kernel_rfl) rfl (fun y h=>h.1) (fun y hy=>by have hw:=bup HB.out hy; have k0:=R1.out.below hw; have c0:=RowIs.cell k0 0; have cz:=RowIs.lt k0; obtain ⟨z1,e1⟩:=HTC.out y hw; have e2:=e1 a hlt; rw [hra] at e2; clear e1; obtain ⟨z2,e3⟩:=HRD.out y hw; have e4:=e3 j hlj; rw [HL0.out] at e4; clear e3; have t1:=HK2.out; have t2:=HT2.out; go_simp) ?_
       simp only [puts]
       refine run_take (i:=6) (.int .i64 ((j:Int)+(k2:Int))) rfl (by kernel_rfl) (by kernel_rfl) (by kernel_rfl) rfl (fun y h=>h.1) (fun y hy=>by go_simp) ?_
       simp only [puts]
       refine run_take (i:=7) (.int .i64 n) rfl (by kernel_rfl) (by kernel_rfl) (by kernel_rfl) rfl (fun y h=>h.1) (fun y hy=>by go_simp) ?_
       simp only [puts]
       refine run_take (i:=8) (.int .i64 q0) rfl (by kernel_rfl) (by kernel_rfl) (by kernel_rfl) rfl (fun y h=>h.1) (fun y hy=>by go_simp) ?_
       simp only [puts]
       refine run_take (i:=9) (.pointer (some ⟨w.heap.size,0,none⟩)) rfl (by kernel_rfl) (by kernel_rfl) (by kernel_rfl) rfl (fun y h=>h.1) (fun y hy=>by have hw:=bup HB.out hy; have k0:=R1.out.below hw; have c0:=RowIs.cell k0 0; have cz:=RowIs.lt k0; obtain ⟨z1,e1⟩:=HTC.out y hw; have e2:=e1 a hlt; rw [hra] at e2; clear e1; obtain ⟨z2,e3⟩:=HRD.out y hw; have e4:=e3 j hlj; rw [HL0.out] at e4; clear e3; have t1:=HK2.out; have t2:=HT2.out; go_simp) ?_
       simp only [puts]
       refine run_take (i:=10) (.slice (some ⟨tb,ofs,none⟩) m cap) rfl (by kernel_rfl) (by kernel_rfl) (by kernel_rfl) rfl (fun y h=>h.1) (fun y hy=>by have hw:=bup HB.out hy; have k0:=R1.out.below hw; have c0:=RowIs.cell k0 0; have cz:=RowIs.lt k0; obtain ⟨z1,e1⟩:=HTC.out y hw; have e2:=e1 a hlt; rw [hra] at e2; clear e1; obtain ⟨z2,e3⟩:=HRD.out y hw; have e4:=e3 j hlj; rw [HL0.out] at e4; clear e3; have t1:=HK2.out; have t2:=HT2.out; go_simp) ?_
       simp only [puts]
       refine run_take (i:=11) (.int .i64 a) rfl (by kernel_rfl) (by kernel_rfl) (by kernel_rfl) rfl (fun y h=>h.1) (fun y hy=>by go_simp) ?_
       simp only [puts]
       refine run_take (i:=12) (.pointer (some ⟨tb,ofs+a,none⟩)) rfl (by kernel_rfl) (by kernel_rfl) (by kernel_rfl) rfl (fun y h=>h.1) (fun y hy=>by have hw:=bup HB.out hy; have k0:=R1.out.below hw; have c0:=RowIs.cell k0 0; have cz:=RowIs.lt k0; obtain ⟨z1,e1⟩:=HTC.out y hw; have e2:=e1 a hlt; rw [hra] at e2; clear e1; obtain ⟨z2,e3⟩:=HRD.out y hw; have e4:=e3 j hlj; rw [HL0.out] at e4; clear e3; have t1:=HK2.out; have t2:=HT2.out; go_simp) ?_
       simp only [puts]
       refine run_take (i:=13) (.slice (some ⟨rb,ro,none⟩) n (f a).cap) rfl (by kernel_rfl) (by kernel_rfl) (by kernel_rfl) rfl (fun y h=>h.1) (fun y hy=>by have hw:=bup HB.out hy; have k0:=R1.out.below hw; have c0:=RowIs.cell k0 0; have cz:=RowIs.lt k0; obtain ⟨z1,e1⟩:=HTC.out y hw; have e2:=e1 a hlt; rw [hra] at e2; clear e1; obtain ⟨z2,e3⟩:=HRD.out y hw; have e4:=e3 j hlj; rw [HL0.out] at e4; clear e3; have t1:=HK2.out; have t2:=HT2.out; go_simp) ?_
       simp only [puts]
       refine run_take (i:=14) (.int .i64 j) rfl (by kernel_rfl) (by kernel_rfl) (by kernel_rfl) rfl (fun y h=>h.1) (fun y hy=>by go_simp) ?_
       simp only [puts]
       refine run_take (i:=15) (.pointer (some ⟨rb,ro+j,none⟩)) rfl (by kernel_rfl) (by kernel_rfl) (by kernel_rfl) rfl (fun y h=>h.1) (fun y hy=>by have hw:=bup HB.out hy; have k0:=R1.out.below hw; have c0:=RowIs.cell k0 0; have cz:=RowIs.lt k0; obtain ⟨z1,e1⟩:=HTC.out y hw; have e2:=e1 a hlt; rw [hra] at e2; clear e1; obtain ⟨z2,e3⟩:=HRD.out y hw; have e4:=e3 j hlj; rw [HL0.out] at e4; clear e3; have t1:=HK2.out; have t2:=HT2.out; go_simp) ?_
       simp only [puts]
       refine run_take (i:=16) (.int .i64 l0) rfl (by kernel_rfl) (by kernel_rfl) (by kernel_rfl) rfl (fun y h=>h.1) (fun y hy=>by have hw:=bup HB.out hy; have k0:=R1.out.below hw; have c0:=RowIs.cell k0 0; have cz:=RowIs.lt k0; obtain ⟨z1,e1⟩:=HTC.out y hw; have e2:=e1 a hlt; rw [hra] at e2; clear e1; obtain ⟨z2,e3⟩:=HRD.out y hw; have e4:=e3 j hlj; rw [HL0.out] at e4; clear e3; have t1:=HK2.out; have t2:=HT2.out; go_simp) ?_
       simp only [puts]
       refine run_take (i:=17) (.pointer (some ⟨X.heap.size,q0,none⟩)) rfl (by kernel_rfl) (by kernel_rfl) (by kernel_rfl) rfl (fun y h=>h.1) (fun y hy=>by go_simp) ?_
       simp only [puts]
       refine run_store (i:=18) (fun y=>Below X.heap.size X y∧RowIs y X.heap.size (rowA n (fun q=>if (q+(n-k2)) % n<(j+1) then (f a).g ((q+(n-k2)) % n) else 0)) 2) (by kernel_rfl) rfl rfl (fun y y1 h hb=>⟨h.1.trans (hb.mono h.1.size),h.2.below hb⟩) (fun y h=>h.1) (fun y hy => ?_) ?_
       ·obtain ⟨h1,h2⟩:=hy
        have c0:=h2.cell q0
        rw [rowA_get n _ q0 hqn] at c0
        have f0:=h2.frozen q0
        have z0:=h2.lt
        refine ⟨y.setCell ⟨X.heap.size,q0,none⟩ (.int .i64 l0),by go_simp,h1.setCell (p:=⟨X.heap.size,q0,none⟩) (Nat.le_refl _) _,?_⟩
        rw [← rowA_set n (fun q=>if (q+(n-k2)) % n<j then (f a).g ((q+(n-k2)) % n) else 0) (fun q=>if (q+(n-k2)) % n<(j+1) then (f a).g ((q+(n-k2)) % n) else 0) q0 l0 ?_ ?_]
        ·exact h2.set q0 _
        ·have hf:=(rot_turn hkn).forth j hlj
         simp only [HQ0.out] at hf
         rw [hf,if_pos (Nat.lt_succ_self j),HL0.out]
        ·intro r hr hne
         have hbk:=(rot_turn hkn).back r hr
         have h5:(r+(n-k2)) % n ≠ j:=fun e=>hne (by rw [e,HQ0.out] at hbk; exact hbk.2.symm)
         by_cases h6:(r+(n-k2)) % n<j
         ·rw [if_pos h6,if_pos (by omega)]
         ·rw [if_neg h6,if_neg (by omega)]
       simp only [puts]
       refine ⟨by kernel_rfl,fun y hy => ?_⟩
       have HY2:=Lib.hid hy
       clear hy
       go_wp2_with fail
       go_roundw
       case rel=>exact ⟨j+1,by omega,by go_num,HY2.out.2,HY2.out.1⟩
       case measure=>simp [intOf]; omega
      ·obtain rfl:n=j:=by omega
       obtain ⟨r0,hr0⟩ : ∃ r0,(a+k1) % m=r0:=⟨_,rfl⟩
       have hrm:r0<m:=by rw [← hr0]; exact Nat.mod_lt _ (by omega)
       have hwa:IntKind.i64.wrap ((a:Int)+(k1:Int))=(a:Int)+(k1:Int):=IntWalk.i64_in _ (by omega)
       have hre:((a:Int)+(k1:Int)) % (m:Int)=(r0:Int):=by rw [← hr0]; exact (Int.natCast_emod (a+k1) m).symm
       have hrt:Int.tmod ((a:Int)+(k1:Int)) (m:Int)=(r0:Int):=by rw [← hr0]; exact (Int.ofNat_tmod (a+k1) m).symm
       have HRE:=Lib.hid hr0
       clear hr0
       have hwz:IntKind.i64.wrap z=z:=IntWalk.i64_in _ (by omega)
       have hfull:rowA n (fun q=>if (q+(n-k2)) % n<n then (f a).g ((q+(n-k2)) % n) else 0)=rowA n (fun q=>(f a).g ((q+(n-k2)) % n)):=rowA_same fun i _=>if_pos (Nat.mod_lt _ (by omega))
       have HRF:=Lib.hid (show RowIs wr X.heap.size (rowA n (fun q=>(f a).g ((q+(n-k2)) % n))) 2 by rw [← hfull]; exact HRW.out)
       clear hfull
       have HBXw:=Lib.hid (HBX.out.below HBW.out)
       have HR0w:=Lib.hid (HR0.out.below HBW.out)
       have hRSw:(∀ l,l<a → ∃ bb,F ((l+k1) % m) = .slice (some ⟨bb,0,none⟩) n n∧RowIs wr bb (rowA n (fun q=>(f l).g ((q+(n-k2)) % n))) 2):=fun l hl=>(HRS.out l hl).imp fun bb h=>⟨h.1,h.2.below HBW.out⟩
       have HRSw:=Lib.hid hRSw
       clear hRSw
       have HBw:=Lib.hid (bup HB.out HBW.out)
       have hne0 : ∀ l,l<a → ∀ bb,RowIs wr bb (rowA n (fun q=>(f l).g ((q+(n-k2)) % n))) 2→Y63.heap.size ≠ bb:=fun l _ bb h=>row_ne HR0w.out h (by decide)
       have HNE:=Lib.hid hne0
       clear hne0
       go_wp2_with fail
       refine wp_region_runF (C:=fun y=>RowIs y (Y63.heap.size+1) #[.slice (some ⟨Y63.heap.size,0,none⟩) m m] 24) (fun y=>Below wr.heap.size wr y) (by kernel_rfl) (stable_below wr) (Below.refl _ _) ?_
       change Run _ _ _ _ _ 13 _ _ _
       refine run_take (i:=0) (.pointer (some ⟨(Y63.heap.size+1),0,none⟩)) rfl (by kernel_rfl) (by kernel_rfl) (by kernel_rfl) rfl (fun y h=>HBXw.out.below h) (fun y hy=>by have c0:=RowIs.cell hy 0; have cz:=RowIs.lt hy; have t1:=HK1.out; have t2:=HT1.out; go_simp) ?_
       simp only [puts]
       refine run_take (i:=1) (.slice (some ⟨Y63.heap.size,0,none⟩) m m) rfl (by kernel_rfl) (by kernel_rfl) (by kernel_rfl) rfl (fun y h=>HBXw.out.below h) (fun y hy=>by have c0:=RowIs.cell hy 0; have cz:=RowIs.lt hy; have t1:=HK1.out; have t2:=HT1.out; go_simp) ?_
       simp only [puts]
       refine run_take (i:=2) (.int .i64 a) rfl (by kernel_rfl) (by kernel_rfl) (by kernel_rfl) rfl (fun y h=>HBXw.out.below h) (fun y hy=>by have c0:=RowIs.cell hy 0; have cz:=RowIs.lt hy; have t1:=HK1.out; have t2:=HT1.out; go_simp) ?_
       simp only [puts]
       refine run_take (i:=3) (.int .u8 z) rfl (by kernel_rfl) (by kernel_rfl) (by kernel_rfl) rfl (fun y h=>HBXw.out.below h) (fun y hy=>by have c0:=RowIs.cell hy 0; have cz:=RowIs.lt hy; have t1:=HK1.out; have t2:=HT1.out; go_simp) ?_
       simp only [puts]
       refine run_take (i:=4) (.int .i64 z) rfl (by kernel_rfl) (by kernel_rfl) (by kernel_rfl) rfl (fun y h=>HBXw.out.below h) (fun y hy=>by have c0:=RowIs.cell hy 0; have cz:=RowIs.lt hy; have t1:=HK1.out; have t2:=HT1.out; go_simp) ?_
       simp only [puts]
       refine run_take (i:=5) (.int .i64 m) rfl (by kernel_rfl) (by kernel_rfl) (by kernel_rfl) rfl (fun y h=>HBXw.out.below h) (fun y hy=>by have c0:=RowIs.cell hy 0; have cz:=RowIs.lt hy; have t1:=HK1.out; have t2:=HT1.out; go_simp) ?_
       simp only [puts]
       refine run_take (i:=6) (.int .i64 k1) rfl (by kernel_rfl) (by kernel_rfl) (by kernel_rfl) rfl (fun y h=>HBXw.out.below h) (fun y hy=>by have c0:=RowIs.cell hy 0; have cz:=RowIs.lt hy; have t1:=HK1.out; have t2:=HT1.out; go_simp) ?_
       simp only [puts]
       refine run_take (i:=7) (.int .i64 ((a:Int)+(k1:Int))) rfl (by kernel_rfl) (by kernel_rfl) (by kernel_rfl) rfl (fun y h=>HBXw.out.below h) (fun y hy=>by have c0:=RowIs.cell hy 0; have cz:=RowIs.lt hy; have t1:=HK1.out; have t2:=HT1.out; go_simp) ?_
       simp only [puts]
       refine run_take (i:=8) (.int .i64 m) rfl (by kernel_rfl) (by kernel_rfl) (by kernel_rfl) rfl (fun y h=>HBXw.out.below h) (fun y hy=>by have c0:=RowIs.cell hy 0; have cz:=RowIs.lt hy; have t1:=HK1.out; have t2:=HT1.out; go_simp) ?_
       simp only [puts]
       refine run_take (i:=9) (.int .i64 r0) rfl (by kernel_rfl) (by kernel_rfl) (by kernel_rfl) rfl (fun y h=>HBXw.out.below h) (fun y hy=>by have c0:=RowIs.cell hy 0; have cz:=RowIs.lt hy; have t1:=HK1.out; have t2:=HT1.out; go_simp) ?_
       simp only [puts]
       refine run_take (i:=10) (.slice (some ⟨X.heap.size,0,none⟩) n n) rfl (by kernel_rfl) (by kernel_rfl) (by kernel_rfl) rfl (fun y h=>HBXw.out.below h) (fun y hy=>by have c0:=RowIs.cell hy 0; have cz:=RowIs.lt hy; have t1:=HK1.out; have t2:=HT1.out; go_simp) ?_
       simp only [puts]
       refine run_take (i:=11) (.pointer (some ⟨Y63.heap.size,r0,none⟩)) rfl (by kernel_rfl) (by kernel_rfl) (by kernel_rfl) rfl (fun y h=>HBXw.out.below h) (fun y hy=>by have c0:=RowIs.cell hy 0; have cz:=RowIs.lt hy; have t1:=HK1.out; have t2:=HT1.out; go_simp) ?_
       simp only [puts]
       refine run_store (i:=12) (fun y=> ∃ F:Nat→Value,RowIs y (Y63.heap.size) (valR4 m F) 25∧(∀ l,l<(a+1) → ∃ bb,F ((l+k1) % m) = .slice (some ⟨bb,0,none⟩) n n∧RowIs y bb (rowA n (fun q=>(f l).g ((q+(n-k2)) % n))) 2)∧RowIs y (Y63.heap.size+1) #[.slice (some ⟨Y63.heap.size,0,none⟩) m m] 24∧Below Y63.heap.size Y63 y) (by kernel_rfl) rfl rfl (fun y y1 ⟨F,h0,h1,h2,h3⟩ hb=>⟨F,h0.below hb,fun l hl=>(h1 l hl).imp fun bb h=>⟨h.1,h.2.below hb⟩,h2.below hb,h3.trans (hb.mono h3.size)⟩) (fun y ⟨_,_,_,h,_⟩=>h) (fun y hy => ?_) ?_
       ·have h0:=HR0w.out.below hy
        have c0:=h0.cell r0
        rw [valR4_get m F r0 hrm] at c0
        have f0:=h0.frozen r0
        have z0:=h0.lt
        refine ⟨y.setCell ⟨Y63.heap.size,r0,none⟩ (.slice (some ⟨X.heap.size,0,none⟩) n n),by go_simp,fun i=>if i=r0 then .slice (some ⟨X.heap.size,0,none⟩) n n else F i,by rw [← valR4_set]; exact h0.set r0 _,fun l hl => ?_,(HBXw.out.below hy).other r0 _ (by omega),(bup HBw.out hy).setCell (p:=⟨Y63.heap.size,r0,none⟩) (Nat.le_refl _) _⟩
        by_cases hla:l=a
        ·subst hla
         exact ⟨X.heap.size,if_pos HRE.out,(HRF.out.below hy).other r0 _ (row_ne HR0w.out HRF.out (by decide))⟩
        ·obtain ⟨bb,e1,e2⟩:=HRSw.out l (by omega)
         refine ⟨bb,?_,(e2.below hy).other r0 _ (HNE.out l (by omega) bb e2)⟩
         have hn3:(l+k1) % m ≠ r0:=fun e=>by
          have i1:=(rot_turn hkm).forth l (by omega)
          have i2:=(rot_turn hkm).forth a hlt
          simp only [e] at i1
          simp only [HRE.out] at i2
          omega
         show (if (l+k1) % m=r0 then _ else F ((l+k1) % m))=_
         rw [if_neg hn3,e1]
       simp only [puts]
       refine ⟨by kernel_rfl,fun y hy => ?_⟩
       have HY2:=Lib.hid hy
       clear hy
       go_wp2_with fail
       go_roundw
       case rel=>exact ⟨a+1,by omega,by go_num,HY2.out⟩
       case measure=>simp [intOf]; omega
    ·obtain rfl:m=a:=by omega
     have hall : ∀ r,r<m → ∃ bb,F r = .slice (some ⟨bb,0,none⟩) n n∧RowIs wr bb (rowA n (turnG f m n k1 k2 r)) 2:=fun r hr=>by
      obtain ⟨b1,b2⟩:=(rot_turn hkm).back r hr
      obtain ⟨bb,e1,e2⟩:=HRS.out _ b1
      rw [b2] at e1
      exact ⟨bb,e1,e2⟩
     have HAL:=Lib.hid (show AllR wr m n F (turnG f m n k1 k2) from hall)
     obtain ⟨fy,hty,hyn,hyg⟩:=tab_rows HR0.out hall
     have HTY:=Lib.hid hty
     have HYN:=Lib.hid hyn
     have HYG:=Lib.hid hyg
     have KY:=Lib.hid (turned_okay KO.out hyn hyg)
     have hyv:=turned_val KO.out hkm hkn hyg
     have hyv2:valOf (lossA fy) m n=(v1,v2):=by rw [hyv, ← V1.out, ← V2.out]
     have YV:=Lib.hid hyv2
     have hb:=HB.out
     have hbq:w33.heap.size<Y63.heap.size:=RowIs.lt QW.out
     have HBQ:=Lib.hid hbq
     clear hall hty hyn hyg hyv hyv2 HRS HB HTC HRC RV RW BY hbq
     replace R1:=Lib.hid (RowIs.below R1.out hb)
     replace H1:=Lib.hid (H1.out.below hb)
     replace Ggr:=Lib.hid (RowIs.below Ggr.out hb)
     replace Ggk:=Lib.hid (RowIs.below Ggk.out hb)
     replace QV:=Lib.hid (RowIs.below QV.out hb)
     replace HX:=Lib.hid (HX.out.below hb)
     replace RX:=Lib.hid (RowIs.below RX.out hb)
     replace QW:=Lib.hid (RowIs.below QW.out hb)
     replace HA:=Lib.hid (HA.out.below hb)
     replace HB0:=Lib.hid (HB0.out.below hb)
     replace HC:=Lib.hid (HC.out.below hb)
     replace HD:=Lib.hid (HD.out.below hb)
     replace QP:=Lib.hid (RowIs.below QP.out hb)
     replace B1:=Lib.hid (bup B1.out hb)
     clear hb
     have cc77:wr.cell? ⟨(Y63.heap.size+1),0,none⟩=some (.slice (some ⟨Y63.heap.size,0,none⟩) m m):=RowIs.cell HBX.out 0
     have zz78:(Y63.heap.size+1)<wr.heap.size:=RowIs.lt HBX.out
     go_wp2_with fail
     clear cc77 zz78
     refine (value_c (some ⟨Y63.heap.size,0,none⟩) m n m fy _ HTY.out KY.out).mono ?_
     rintro e w79 ⟨hres,hbq⟩
     obtain ⟨gr3,xr3,gk3,xk3, -, -,rfl, -, -⟩:=hres
     rw [YV.out]
     replace R1:=Lib.hid (RowIs.below R1.out hbq)
     replace H1:=Lib.hid (H1.out.below hbq)
     replace Ggr:=Lib.hid (RowIs.below Ggr.out hbq)
     replace Ggk:=Lib.hid (RowIs.below Ggk.out hbq)
     replace QV:=Lib.hid (RowIs.below QV.out hbq)
     replace HX:=Lib.hid (HX.out.below hbq)
     replace RX:=Lib.hid (RowIs.below RX.out hbq)
     replace QW:=Lib.hid (RowIs.below QW.out hbq)
     replace HA:=Lib.hid (HA.out.below hbq)
     replace HB0:=Lib.hid (HB0.out.below hbq)
     replace HC:=Lib.hid (HC.out.below hbq)
     replace HD:=Lib.hid (HD.out.below hbq)
     replace QP:=Lib.hid (RowIs.below QP.out hbq)
     replace HR0:=Lib.hid (RowIs.below HR0.out hbq)
     replace HBX:=Lib.hid (RowIs.below HBX.out hbq)
     replace HTY:=Lib.hid (HTY.out.below hbq)
     replace HAL:=Lib.hid (HAL.out.below hbq)
     replace B1:=Lib.hid (bup B1.out hbq)
     clear hbq
     have cc80:w79.cell? ⟨w33.heap.size,0,none⟩=some (.int .i64 (-v1)):=RowIs.cell QW.out 0
     have cc81:w79.cell? ⟨w33.heap.size,1,none⟩=some (.int .i64 v2):=RowIs.cell QW.out 1
     have zz82:w33.heap.size<w79.heap.size:=RowIs.lt QW.out
     have fz83:w79.frozen? ⟨w33.heap.size,0,none⟩=false:=RowIs.frozen QW.out 0
     have fz84:w79.frozen? ⟨w33.heap.size,1,none⟩=false:=RowIs.frozen QW.out 1
     have cc85:w79.cell? ⟨(Y63.heap.size+1),0,none⟩=some (.slice (some ⟨Y63.heap.size,0,none⟩) m m):=RowIs.cell HBX.out 0
     have zz86:(Y63.heap.size+1)<w79.heap.size:=RowIs.lt HBX.out
     obtain ⟨V,hV⟩ : ∃ V,(w79.setCell ⟨w33.heap.size,0,none⟩ (.int .i64 v1)).setCell ⟨w33.heap.size,1,none⟩ (.int .i64 v2)=V:=⟨_,rfl⟩
     have hbl : ∀ b,b ≠ w33.heap.size→V.heap[b]? = w79.heap[b]? := fun b hb=>by rw [← hV]; exact (Below.heap_setCell _ _ _ _ hb).trans (Below.heap_setCell _ _ _ _ hb)
     have hsz:V.heap.size=w79.heap.size:=by rw [← hV]; simp
     have q1:RowIs V (w33.heap.size) #[.int .i64 v1, .int .i64 v2] 30:=by rw [← hV]; exact (QW.out.set 0 (.int .i64 v1)).set 1 (.int .i64 v2)
     have q2:RowIs V (w19.heap.size) #[.int .i64 v1, .int .i64 v2] 30:=(hbl _ NQ.out).trans QV.out
     have q3:RowIs V (Y63.heap.size+1) #[.slice (some ⟨Y63.heap.size,0,none⟩) m m] 24:=(hbl _ (by have:=HBQ.out; omega)).trans HBX.out
     have q4:RowIs V (Y63.heap.size) (valR4 m F) 25:=(hbl _ (by have:=HBQ.out; omega)).trans HR0.out
     have q5 : ∀ r,r<m → ∃ bb,F r = .slice (some ⟨bb,0,none⟩) n n∧RowIs V bb (rowA n (turnG f m n k1 k2 r)) 2:=fun r hr=>by
      obtain ⟨bb,e1,e2⟩:=HAL.out r hr
      exact ⟨bb,e1,(hbl _ (row_ne e2 QW.out (by decide))).trans e2⟩
     obtain ⟨fy2,hty,hyn,hyg⟩:=tab_rows q4 q5
     have q6:Lst V LA xa ca:=HA.out.1.block (by omega) fun b off e _=>hbl b (fun h=>by have:=HA.out.2 b off e; have:=NU.out; omega)
     have q7:Lst V LB xb cb:=HB0.out.1.block (by omega) fun b off e _=>hbl b (fun h=>by have:=HB0.out.2 b off e; have:=NU.out; omega)
     have hbV:Below w.heap.size w V:=by rw [← hV]; exact (B1.out.setCell (p:=⟨w33.heap.size,0,none⟩) NW.out _).setCell (p:=⟨w33.heap.size,1,none⟩) NW.out _
     replace QW:=Lib.hid q1
     replace QV:=Lib.hid q2
     replace HBX:=Lib.hid q3
     have HY2:=Lib.hid hty
     have KY2:=Lib.hid (turned_okay KO.out hyn hyg)
     have YN2:=Lib.hid hyn
     have YG2:=Lib.hid hyg
     have HA2:=Lib.hid q6
     have HB2:=Lib.hid q7
     replace B1:=Lib.hid hbV
     clear hbl hsz q1 q2 q3 q4 q5 q6 q7 hbV hty hyn hyg
     have cc87:V.cell? ⟨(Y63.heap.size+1),0,none⟩=some (.slice (some ⟨Y63.heap.size,0,none⟩) m m):=RowIs.cell HBX.out 0
     have zz88:(Y63.heap.size+1)<V.heap.size:=RowIs.lt HBX.out
     have RY:=Lib.hid (fun (r:Nat) (_:r<m)=>show (fy2 r).n≤1048576 by rw [YN2.out]; omega)
     have EY:=Lib.hid (okay_is KY2.out)
     obtain ⟨LC,hLC⟩ : ∃ LC,usedC (lossA fy2) m n=LC:=⟨_,rfl⟩
     obtain ⟨LD,hLD⟩ : ∃ LD,usedC (flip (lossA fy2)) n m=LD:=⟨_,rfl⟩
     have hc1:=rising_len (used_rising (lossA fy2) m n)
     have hd1:=rising_len (used_rising (flip (lossA fy2)) n m)
     rw [hLC] at hc1
     rw [hLD] at hd1
     have EC:=Lib.hid hLC
     have ED:=Lib.hid hLD
     clear hLC hLD
     go_wp2_with fail
     clear cc80 cc81 zz82 fz83 fz84 cc85 zz86 hV cc87 zz88
     refine (Used_v (some ⟨Y63.heap.size,0,none⟩) m m fy2 _ HY2.out hm2 RY.out).mono ?_
     rintro e w89 ⟨hres,hbq⟩
     obtain ⟨xe,ce,xf,cf,rfl,hla,hlb⟩:=hres.elim (fun h=>absurd EY.out h.1) (fun h=>h.2)
     rw [YN2.out,EC.out] at hla
     rw [YN2.out,ED.out] at hlb
     rw [YN2.out,EC.out,ED.out]
     replace QW:=Lib.hid (RowIs.below QW.out hbq)
     replace QV:=Lib.hid (RowIs.below QV.out hbq)
     replace HBX:=Lib.hid (RowIs.below HBX.out hbq)
     replace HY2:=Lib.hid (HY2.out.below hbq)
     replace HA2:=Lib.hid (HA2.out.below hbq)
     replace HB2:=Lib.hid (HB2.out.below hbq)
     replace B1:=Lib.hid (bup B1.out hbq)
     clear hbq hres
     have HLC:=Lib.hid hla
     have HLD:=Lib.hid hlb
     clear hla hlb
     have cc90:w89.cell? ⟨w19.heap.size,0,none⟩=some (.int .i64 v1):=RowIs.cell QV.out 0
     have cc91:w89.cell? ⟨w19.heap.size,1,none⟩=some (.int .i64 v2):=RowIs.cell QV.out 1
     have zz92:w19.heap.size<w89.heap.size:=RowIs.lt QV.out
     have cc93:w89.cell? ⟨w33.heap.size,0,none⟩=some (.int .i64 v1):=RowIs.cell QW.out 0
     have cc94:w89.cell? ⟨w33.heap.size,1,none⟩=some (.int .i64 v2):=RowIs.cell QW.out 1
     have zz95:w33.heap.size<w89.heap.size:=RowIs.lt QW.out
     have eq96 : ∀ x,(Op.equalIn 10000 30 (.agg #[.int .i64 v1, .int .i64 v2]) (.agg #[.int .i64 v1, .int .i64 v2])).run Try.prog x = .ok true x:=fun x=>(eqRat v1 v2 v1 v2 x).trans (by simp)
     have hwz:IntKind.i64.wrap z=z:=IntWalk.i64_in _ (by omega)
     have hwy:IntKind.i64.wrap yy=yy:=IntWalk.i64_in _ (by omega)
     have t1:=HK1.out
     have t2:=HK2.out
     have t3:=HT1.out
     have t4:=HT2.out
     go_wp2_with fail
     clear cc90 cc91 zz92 cc93 cc94 zz95 eq96
     refine (moved_c LA xa ca k1 m _ HA2.out SA.out hkm hm4).mono ?_
     rintro e w97 ⟨⟨xm,cm,b,hb,rfl,hlm⟩,hbq⟩
     replace QW:=Lib.hid (RowIs.below QW.out hbq)
     replace QV:=Lib.hid (RowIs.below QV.out hbq)
     replace HBX:=Lib.hid (RowIs.below HBX.out hbq)
     replace HY2:=Lib.hid (HY2.out.below hbq)
     replace HA2:=Lib.hid (HA2.out.below hbq)
     replace HB2:=Lib.hid (HB2.out.below hbq)
     replace HLC:=Lib.hid (HLC.out.below hbq)
     replace HLD:=Lib.hid (HLD.out.below hbq)
     replace B1:=Lib.hid (bup B1.out hbq)
     clear hbq
     have HM:=Lib.hid hlm
     have he:LC=bitsL b m:=by rw [← EC.out]; exact used_turned KO.out KY2.out hkm hkn YG2.out EA.out hb
     have HEE:=Lib.hid he
     clear hlm hb he
     have hbl4:(bitsL b m).length≤4:=by rw [← HEE.out]; omega
     have hI:=Ints_c xe LC.length ce (natI LC) xm (bitsL b m).length cm (natI (bitsL b m)) w97 HLC.out.cells HM.out.cells (by omega)
     rw [show intsB LC.length (natI LC) (bitsL b m).length (natI (bitsL b m))=true by rw [← HEE.out]; exact ints_refl _ _] at hI
     have HI:=Lib.hid hI
     clear hI
     go_wp2_with fail
     refine (HI.out).mono ?_
     rintro e w98 ⟨rfl,hbq⟩
     replace QW:=Lib.hid (RowIs.below QW.out hbq)
     replace QV:=Lib.hid (RowIs.below QV.out hbq)
     replace HBX:=Lib.hid (RowIs.below HBX.out hbq)
     replace HY2:=Lib.hid (HY2.out.below hbq)
     replace HA2:=Lib.hid (HA2.out.below hbq)
     replace HB2:=Lib.hid (HB2.out.below hbq)
     replace HLC:=Lib.hid (HLC.out.below hbq)
     replace HLD:=Lib.hid (HLD.out.below hbq)
     replace HM:=Lib.hid (HM.out.below hbq)
     replace B1:=Lib.hid (bup B1.out hbq)
     clear hbq
     clear HI HM HEE hbl4
     go_wp2_with fail
     refine (moved_c LB xb cb k2 n _ HB2.out SB.out hkn hn4).mono ?_
     rintro e w99 ⟨⟨xm,cm,b,hb,rfl,hlm⟩,hbq⟩
     replace QW:=Lib.hid (RowIs.below QW.out hbq)
     replace QV:=Lib.hid (RowIs.below QV.out hbq)
     replace HBX:=Lib.hid (RowIs.below HBX.out hbq)
     replace HY2:=Lib.hid (HY2.out.below hbq)
     replace HA2:=Lib.hid (HA2.out.below hbq)
     replace HB2:=Lib.hid (HB2.out.below hbq)
     replace HLC:=Lib.hid (HLC.out.below hbq)
     replace HLD:=Lib.hid (HLD.out.below hbq)
     replace B1:=Lib.hid (bup B1.out hbq)
     clear hbq
     have HM:=Lib.hid hlm
     have he:LD=bitsL b n:=by rw [← ED.out]; exact used_turned2 KO.out KY2.out hkm hkn YG2.out EB.out hb
     have HEE:=Lib.hid he
     clear hlm hb he
     have hbl4:(bitsL b n).length≤4:=by rw [← HEE.out]; omega
     have hI:=Ints_c xf LD.length cf (natI LD) xm (bitsL b n).length cm (natI (bitsL b n)) w99 HLD.out.cells HM.out.cells (by omega)
     rw [show intsB LD.length (natI LD) (bitsL b n).length (natI (bitsL b n))=true by rw [← HEE.out]; exact ints_refl _ _] at hI
     have HI:=Lib.hid hI
     clear hI
     go_wp2_with fail
     refine (HI.out).mono ?_
     rintro e w100 ⟨rfl,hbq⟩
     replace QW:=Lib.hid (RowIs.below QW.out hbq)
     replace QV:=Lib.hid (RowIs.below QV.out hbq)
     replace HBX:=Lib.hid (RowIs.below HBX.out hbq)
     replace HY2:=Lib.hid (HY2.out.below hbq)
     replace HA2:=Lib.hid (HA2.out.below hbq)
     replace HB2:=Lib.hid (HB2.out.below hbq)
     replace HLC:=Lib.hid (HLC.out.below hbq)
     replace HLD:=Lib.hid (HLD.out.below hbq)
     replace HM:=Lib.hid (HM.out.below hbq)
     replace B1:=Lib.hid (bup B1.out hbq)
     clear hbq
     clear HI HM HEE hbl4
     go_wp2_with fail
     refine (works_c _).mono ?_
     rintro e w101 ⟨rfl,hbq⟩
     go_wp2_with fail
     go_ret
     exact ⟨rfl,bup B1.out hbq⟩
end Go.Proofs.Ytkbbhihndigmeaa

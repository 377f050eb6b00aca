/- For whatever arguments, the law SearchPure returns true, and each argument reads behind the call as it read before. No condition. -/
import Derived.Shelf.Abstract
import Derived.Shelf.RegionOpen
import Derived.Conc.Own4
import Derived.Test.YtkbbhihndigmeaaQpuaa
import Derived.Test.YtkbbhihndigmeaaBasab
import Derived.Test.YtkbbhihndigmeaaBasac
import Derived.Test.YtkbbhihndigmeaaBasba
import Derived.Test.YtkbbhihndigmeaaRows
import Derived.ProofKit
namespace Go.Proofs.Ytkbbhihndigmeaa
open Go Go.RowKit Go.Shelf
theorem cutD2 {p:Prop} (H:Nat→Nat→World→Prop) {Q2:Nat→Nat→World→Prop} (main:(∀ a b y,H a b y→Q2 a b y)→p) (fin : ∀ a b y,H a b y→Q2 a b y):p:=main fin
set_option maxRecDepth 100000 in
set_option maxHeartbeats 16000000 in
theorem law_pure_c (a:Option Addr) (m cap:Nat) (f:Nat→Row3) (z y:Int) (w:World) (hf:Tab w a m f) (hz:0≤z∧z≤255) (hy:0≤y∧y≤255) :
 Calls Try.prog 8 #[tabV a m cap, .int .u8 z, .int .u8 y] w fun e w'=>e = .returned (.bool true)∧Below w.heap.size w w':=by
 obtain ⟨W,hW⟩ : ∃ W,w.alloc (.cells #[.slice a m cap] 24)=W:=⟨_,rfl⟩
 have hB:Below w.heap.size w W:=by rw [← hW]; exact Below.alloc1 (Below.refl _ _) _ (Nat.le_refl _)
 have R1:=Lib.hid (show RowIs W w.heap.size #[.slice a m cap] 24 by rw [← hW]; exact heap_new_at _ _ _ rfl)
 have H1:=Lib.hid (hf.below hB)
 have B1:=Lib.hid hB
 clear hf hB
 cases hT:fineB m f with
 | false=>
   have HF:=Lib.hid hT
   clear hT
   go_enter Try.func8,Try.ntmps8
   have cc1:W.cell? ⟨w.heap.size,0,none⟩=some (.slice a m cap):=RowIs.cell R1.out 0
   have zz2:w.heap.size<W.heap.size:=RowIs.lt R1.out
   go_wp2_with fail
   clear cc1 zz2 hW
   refine (fine_c a m cap f _ H1.out).mono ?_
   rintro e w3 ⟨rfl,hbq⟩
   replace R1:=Lib.hid (RowIs.below R1.out hbq)
   replace H1:=Lib.hid (H1.out.below hbq)
   replace B1:=Lib.hid (bup B1.out hbq)
   clear hbq
   rw [HF.out]
   have cc4:w3.cell? ⟨w.heap.size,0,none⟩=some (.slice a m cap):=RowIs.cell R1.out 0
   have zz5:w.heap.size<w3.heap.size:=RowIs.lt R1.out
   go_wp2_with fail
   clear cc4 zz5
   refine (works_c _).mono ?_
   rintro e w6 ⟨rfl,hbq⟩
   go_wp2_with fail
   go_ret
   exact ⟨rfl,bup B1.out hbq⟩
 | true=>
   have HF:=Lib.hid hT
   have hE:tableE m f=0:=of_decide_eq_true hT
   have hO:=okay_of hE
   obtain ⟨n,hn⟩ : ∃ n,(f 0).n=n:=⟨_,rfl⟩
   rw [hn] at hO
   have hm4:=hO.m4
   have hm1:=hO.m1
   have hn4:=hO.n4
   have hn1:=hO.n1
   have hm2:m≤1048576:=by omega
   have hr2 : ∀ i,i<m→(f i).n≤1048576:=fun i hi=>by rw [hO.len i hi]; omega
   have KO:=Lib.hid hO
   have RR:=Lib.hid hr2
   have HN:=Lib.hid hn
   have KE:=Lib.hid hE
   obtain ⟨tb,ofs,ha0,htb, -⟩:=Tab.at H1.out 0 (by omega)
   subst ha0
   obtain ⟨v1,hv1⟩ : ∃ v1,(valOf (lossA f) m n).1=v1:=⟨_,rfl⟩
   obtain ⟨v2,hv2⟩ : ∃ v2,(valOf (lossA f) m n).2=v2:=⟨_,rfl⟩
   have V1:=Lib.hid hv1
   have V2:=Lib.hid hv2
   clear hE hT hO hr2 hn hv1 hv2
   obtain ⟨jr,hjr⟩ : ∃ jr:Nat,z % (m:Int)=jr:=⟨(z % (m:Int)).toNat,by have:=Int.emod_nonneg z (show (m:Int) ≠ 0 by omega); omega⟩
   have hjm:jr<m:=by have:=Int.emod_lt_of_pos z (show (0:Int)<(m:Int) by omega); omega
   obtain ⟨jc,hjc⟩ : ∃ jc:Nat,y % (n:Int)=jc:=⟨(y % (n:Int)).toNat,by have:=Int.emod_nonneg y (show (n:Int) ≠ 0 by omega); omega⟩
   have hjn:jc<n:=by have:=Int.emod_lt_of_pos y (show (0:Int)<(n:Int) by omega); omega
   have htr:Int.tmod z (m:Int)=jr:=by rw [Int.tmod_eq_emod_of_nonneg hz.1]; exact hjr
   have htc:Int.tmod y (n:Int)=jc:=by rw [Int.tmod_eq_emod_of_nonneg hy.1]; exact hjc
   have hmz : ¬ m=0:=by omega
   have hnz : ¬ n=0:=by omega
   have hmi : ¬ (m:Int)=0:=by omega
   have hni : ¬ (n:Int)=0:=by omega
   have HJR:=Lib.hid hjr
   have HJC:=Lib.hid hjc
   go_enter Try.func8,Try.ntmps8
   have cc7:W.cell? ⟨w.heap.size,0,none⟩=some (.slice (some ⟨tb,ofs,none⟩) m cap):=RowIs.cell R1.out 0
   have zz8:w.heap.size<W.heap.size:=RowIs.lt R1.out
   go_wp2_with fail
   clear cc7 zz8 hW
   refine (fine_c (some ⟨tb,ofs,none⟩) m cap f _ H1.out).mono ?_
   rintro e w9 ⟨rfl,hbq⟩
   replace R1:=Lib.hid (RowIs.below R1.out hbq)
   replace H1:=Lib.hid (H1.out.below hbq)
   replace B1:=Lib.hid (bup B1.out hbq)
   clear hbq
   rw [HF.out]
   have cc10:w9.cell? ⟨w.heap.size,0,none⟩=some (.slice (some ⟨tb,ofs,none⟩) m cap):=RowIs.cell R1.out 0
   have zz11:w.heap.size<w9.heap.size:=RowIs.lt R1.out
   obtain ⟨rw12,rz13⟩:w9.cell? ⟨tb,ofs,none⟩=some (.slice (f 0).a n (f 0).cap)∧tb<w9.heap.size:=by
    obtain ⟨b2,o2,e2,hz2,hc2⟩:=Tab.at H1.out 0 (by omega)
    obtain ⟨rfl,rfl⟩:b2=tb∧o2=ofs:=by injection e2 with he; injection he with h1 h2 _; exact ⟨h1.symm,h2.symm⟩
    have:=hc2 0 (by omega)
    rw [Nat.add_zero,HN.out] at this
    exact ⟨this,hz2⟩
   have hlc14:=fun (x:Later w9)=>later_cell x
   go_wp2_with fail
   refine wp_region_later (by kernel_rfl) (by kernel_rfl) ?_
   repeat (go_big_quiet_step (fail))
   refine wpQuiet_nil ?_
   clear hlc14
   clear cc10 zz11 rw12 rz13
   rintro ⟨w15,hbl16⟩
   replace R1:=Lib.hid (RowIs.below R1.out hbl16)
   replace H1:=Lib.hid (H1.out.below hbl16)
   replace B1:=Lib.hid (bup B1.out hbl16)
   have cc17:w15.cell? ⟨w.heap.size,0,none⟩=some (.slice (some ⟨tb,ofs,none⟩) m cap):=RowIs.cell R1.out 0
   have zz18:w.heap.size<w15.heap.size:=RowIs.lt R1.out
   go_wp2_with fail
   clear hbl16 cc17 zz18
   refine (value_c (some ⟨tb,ofs,none⟩) m n cap f _ H1.out KO.out).mono ?_
   rintro e w19 ⟨hres,hbq⟩
   obtain ⟨gr,xr,gk,xk,hbr,hbc,rfl,hrr,hrk⟩:=hres
   rw [V1.out,V2.out]
   replace R1:=Lib.hid (RowIs.below R1.out hbq)
   replace H1:=Lib.hid (H1.out.below hbq)
   replace B1:=Lib.hid (bup B1.out hbq)
   clear hbq
   have BR1:=Lib.hid hbr
   have BC1:=Lib.hid hbc
   have Ggr:=Lib.hid hrr
   have Ggk:=Lib.hid hrk
   clear hbr hbc hrr hrk
   obtain ⟨Y20,hY20⟩ : ∃ Y20,w19.alloc (.cells #[.int .i64 v1, .int .i64 v2] 30)=Y20:=⟨_,rfl⟩
   have hb21:Below w19.heap.size w19 Y20:=by rw [← hY20]; exact Below.alloc1 (Below.refl _ _) _ (Nat.le_refl _)
   have hr22:RowIs Y20 w19.heap.size #[.int .i64 v1, .int .i64 v2] 30:=by rw [← hY20]; exact heap_new_at _ _ _ rfl
   replace R1:=Lib.hid (RowIs.below R1.out hb21)
   replace H1:=Lib.hid (H1.out.below hb21)
   replace Ggr:=Lib.hid (RowIs.below Ggr.out hb21)
   replace Ggk:=Lib.hid (RowIs.below Ggk.out hb21)
   replace B1:=Lib.hid (bup B1.out hb21)
   have QV:=Lib.hid hr22
   clear hb21 hr22
   have cc23:Y20.cell? ⟨w.heap.size,0,none⟩=some (.slice (some ⟨tb,ofs,none⟩) m cap):=RowIs.cell R1.out 0
   have zz24:w.heap.size<Y20.heap.size:=RowIs.lt R1.out
   obtain ⟨v,hv,hP, -⟩:=pure_named (some ⟨tb,ofs,none⟩) m cap f hm2 RR.out
   replace hv:=hv.elim (fun h=>absurd KE.out h.1) (fun h=>h.2)
   rw [HN.out] at hv
   have HPU:=Lib.hid hP
   clear hP
   have hmk1:=make_row64 m hm4
   have hmk2:=make_row64 n hn4
   have MK1:=Lib.hid hmk1
   have MK2:=Lib.hid hmk2
   clear hmk1 hmk2
   rcases hv with ⟨rfl,hno⟩ | ⟨i,k,hi,hk,hp,hf1,hf2,rfl⟩
   ·skip
    go_wp2_with fail
    clear hY20 cc23 zz24
    refine (HPU.out _ H1.out).mono ?_
    rintro e w25 ⟨rfl,hbq⟩
    replace R1:=Lib.hid (RowIs.below R1.out hbq)
    replace H1:=Lib.hid (H1.out.below hbq)
    replace Ggr:=Lib.hid (RowIs.below Ggr.out hbq)
    replace Ggk:=Lib.hid (RowIs.below Ggk.out hbq)
    replace QV:=Lib.hid (RowIs.below QV.out hbq)
    replace B1:=Lib.hid (bup B1.out hbq)
    clear hbq
    clear HPU
    have cc26:w25.cell? ⟨w.heap.size,0,none⟩=some (.slice (some ⟨tb,ofs,none⟩) m cap):=RowIs.cell R1.out 0
    have zz27:w.heap.size<w25.heap.size:=RowIs.lt R1.out
    have KP0:=no_pure KO.out hjm hjn (by rw [← pure_same hjm hjn]; exact hno jr hjm jc hjn)
    have KP:=Lib.hid KP0
    clear KP0 hno
    have hlc28:=fun (x:Later w25)=>later_cell x
    go_wp2_with fail
    refine wp_region_later (by kernel_rfl) (by kernel_rfl) ?_
    repeat (go_big_quiet_step (fail))
    refine wpQuiet_nil ?_
    clear hlc28
    clear cc26 zz27
    rintro ⟨w29,hbl30⟩
    replace R1:=Lib.hid (RowIs.below R1.out hbl30)
    replace H1:=Lib.hid (H1.out.below hbl30)
    replace Ggr:=Lib.hid (RowIs.below Ggr.out hbl30)
    replace Ggk:=Lib.hid (RowIs.below Ggk.out hbl30)
    replace QV:=Lib.hid (RowIs.below QV.out hbl30)
    replace B1:=Lib.hid (bup B1.out hbl30)
    have ti : ¬ m≤jr:=by omega
    have tk : ¬ n≤jc:=by omega
    have ti2:decide ((m:Int)≤(jr:Int))=false:=decide_eq_false (by omega)
    have tk2:decide ((n:Int)≤(jc:Int))=false:=decide_eq_false (by omega)
    go_wp2_with fail
    clear hbl30
    have mk1:=MK1.out
    have mk2:=MK2.out
    apply cutD2 (fun b d y=>Below w29.heap.size w29 y∧RowIs y b (rowA m fun _=>0) 2∧RowIs y d (rowA n fun _=>0) 2∧b ≠ d∧w29.heap.size≤b∧w29.heap.size≤d)
    case main=>
     intro fin
     refine wp_region_runF (C:=fun y=>Below w29.heap.size w29 y) (fun y=>Below w29.heap.size w29 y) (by kernel_rfl) (stable_below w29) (Below.refl _ _) ?_
     change Run _ _ _ _ _ 6 _ _ _
     refine run_take (i:=0) (.int .i64 m) rfl (by kernel_rfl) (by kernel_rfl) (by kernel_rfl) rfl (fun y h=>h) (fun y hy=>by go_simp) ?_
     simp only [puts]
     refine run_take (i:=2) (.int .i64 n) rfl (by kernel_rfl) (by kernel_rfl) (by kernel_rfl) rfl (fun y h=>h) (fun y hy=>by go_simp) ?_
     simp only [puts]
     refine run_both (i:=1) (j:=3) (by kernel_rfl) ?_ ?_
     ·skip
      refine at_make (w0:=w29) (t:=78) (z:= .cells (rowA m fun _=>0) 2 (0,0)) (fun q=> .slice (some ⟨q,0,none⟩) m m) (fun _=>False) slice_inj rfl rfl rfl (fun y _=>by go_simp) (fun y h=>h.size) (fun _ _ _ h=>h.elim) ?_
      intro b hb _
      simp only [puts]
      refine run_take (i:=4) (.slice (some ⟨b,0,none⟩) m m) rfl (by kernel_rfl) (by kernel_rfl) (by kernel_rfl) rfl (fun y h=>h.1) (fun y hy=>by go_simp) ?_
      simp only [puts]
      refine run_only (i:=3) (by kernel_rfl) (at_make (w0:=w29) (t:=80) (z:= .cells (rowA n fun _=>0) 2 (0,0)) (fun q=> .slice (some ⟨q,0,none⟩) n n) (fun q=>q=b) slice_inj rfl rfl rfl (fun y _=>by go_simp) (fun y h=>h.1.size) (fun y h q e=>by subst e; exact heap_size_lt h.2) ?_)
      intro d hd hne
      simp only [puts]
      refine run_take (i:=5) (.slice (some ⟨d,0,none⟩) n n) rfl (by kernel_rfl) (by kernel_rfl) (by kernel_rfl) rfl (fun y h=>h.1.1) (fun y hy=>by go_simp) ?_
      simp only [puts]
      exact ⟨by kernel_rfl,fun y hy=>fin b d y ⟨hy.1.1,hy.1.2,hy.2,fun e=>hne e.symm,hb,hd⟩⟩
     ·skip
      refine at_make (w0:=w29) (t:=80) (z:= .cells (rowA n fun _=>0) 2 (0,0)) (fun q=> .slice (some ⟨q,0,none⟩) n n) (fun _=>False) slice_inj rfl rfl rfl (fun y _=>by go_simp) (fun y h=>h.size) (fun _ _ _ h=>h.elim) ?_
      intro d hd _
      simp only [puts]
      refine run_only (i:=1) (by kernel_rfl) (at_make (w0:=w29) (t:=78) (z:= .cells (rowA m fun _=>0) 2 (0,0)) (fun q=> .slice (some ⟨q,0,none⟩) m m) (fun q=>q=d) slice_inj rfl rfl rfl (fun y _=>by go_simp) (fun y h=>h.1.size) (fun y h q e=>by subst e; exact heap_size_lt h.2) ?_)
      intro b hb hne
      simp only [puts]
      refine run_take (i:=4) (.slice (some ⟨b,0,none⟩) m m) rfl (by kernel_rfl) (by kernel_rfl) (by kernel_rfl) rfl (fun y h=>h.1.1) (fun y hy=>by go_simp) ?_
      simp only [puts]
      refine run_take (i:=5) (.slice (some ⟨d,0,none⟩) n n) rfl (by kernel_rfl) (by kernel_rfl) (by kernel_rfl) rfl (fun y h=>h.1.1) (fun y hy=>by go_simp) ?_
      simp only [puts]
      exact ⟨by kernel_rfl,fun y hy=>fin b d y ⟨hy.1.1,hy.2,hy.1.2,fun e=>hne e,hb,hd⟩⟩
    case fin=>
     rintro b d w31 ⟨hbq,hrb,hrd,hne,hb0,hd0⟩
     clear mk1 mk2
     have cb:=RowIs.cell hrb jr
     rw [rowA_get m _ jr (by omega)] at cb
     have cd:=RowIs.cell hrd jc
     rw [rowA_get n _ jc (by omega)] at cd
     have fb:=RowIs.frozen hrb jr
     have fd:=RowIs.frozen hrd jc
     have zb:=RowIs.lt hrb
     have zd:=RowIs.lt hrd
     obtain ⟨V,hV⟩ : ∃ V,(w31.setCell ⟨b,jr,none⟩ (.int .i64 1)).setCell ⟨d,jc,none⟩ (.int .i64 1)=V:=⟨_,rfl⟩
     have hbV:Below w29.heap.size w29 V:=hbq.trans (by rw [← hV]; exact ((Below.refl _ _).setCell (p:=⟨b,jr,none⟩) hb0 _).setCell (p:=⟨d,jc,none⟩) hd0 _)
     have hrb2:RowIs V b (rowA m (unitP jr)) 2:=by rw [← hV, ← row_zero]; exact (hrb.set jr _).other jc _ (fun e=>hne e.symm)
     have hrd2:RowIs V d (rowA n (unitP jc)) 2:=by rw [← hV, ← row_zero]; exact (hrd.other jr _ hne).set jc _
     replace R1:=Lib.hid (RowIs.below R1.out hbV)
     replace H1:=Lib.hid (H1.out.below hbV)
     replace Ggr:=Lib.hid (RowIs.below Ggr.out hbV)
     replace Ggk:=Lib.hid (RowIs.below Ggk.out hbV)
     replace QV:=Lib.hid (RowIs.below QV.out hbV)
     replace B1:=Lib.hid (bup B1.out hbV)
     have HBR:=Lib.hid hrb2
     have HDR:=Lib.hid hrd2
     clear hrb2 hrd2 hbV hbq hrb hrd hb0 hd0
     have cc32:V.cell? ⟨w.heap.size,0,none⟩=some (.slice (some ⟨tb,ofs,none⟩) m cap):=RowIs.cell R1.out 0
     have zz33:w.heap.size<V.heap.size:=RowIs.lt R1.out
     have C34:=CheckProof_c (some ⟨tb,ofs,none⟩) m cap f (some ⟨b,0,none⟩) m m (unitP jr) (some ⟨d,0,none⟩) n n (unitP jc) V H1.out hm2 RR.out (rowA_ints HBR.out) hm2 (rowA_ints HDR.out) (by omega)
     rw [KP.out] at C34
     replace C34:=Lib.hid C34
     go_wp2_with fail
     clear cc32 zz33 cb cd fb fd zb zd hne hV
     refine (C34.out).mono ?_
     rintro e w35 ⟨rfl,hbq⟩
     replace R1:=Lib.hid (RowIs.below R1.out hbq)
     replace H1:=Lib.hid (H1.out.below hbq)
     replace Ggr:=Lib.hid (RowIs.below Ggr.out hbq)
     replace Ggk:=Lib.hid (RowIs.below Ggk.out hbq)
     replace QV:=Lib.hid (RowIs.below QV.out hbq)
     replace HBR:=Lib.hid (RowIs.below HBR.out hbq)
     replace HDR:=Lib.hid (RowIs.below HDR.out hbq)
     replace B1:=Lib.hid (bup B1.out hbq)
     clear hbq
     clear C34
     obtain ⟨Y36,hY36⟩ : ∃ Y36,w35.alloc (.cells #[.int .i64 0, .int .i64 0] 30)=Y36:=⟨_,rfl⟩
     have hr38:RowIs Y36 w35.heap.size #[.int .i64 0, .int .i64 0] 30:=by rw [← hY36]; exact heap_new_at _ _ _ rfl
     obtain ⟨Z37,hZ37⟩ : ∃ Z37,(Y36.setCell ⟨w35.heap.size,0,none⟩ (.int .i64 0)).setCell ⟨w35.heap.size,1,none⟩ (.int .i64 0)=Z37:=⟨_,rfl⟩
     have hbz:Below w35.heap.size w35 Z37:=by rw [← hZ37, ← hY36]; exact ((Below.alloc1 (Below.refl _ _) _ (Nat.le_refl _)).setCell (p:=⟨w35.heap.size,0,none⟩) (Nat.le_refl _) _).setCell (p:=⟨w35.heap.size,1,none⟩) (Nat.le_refl _) _
     have hrz:RowIs Z37 w35.heap.size #[.int .i64 0, .int .i64 0] 30:=by rw [← hZ37]; exact (hr38.set 0 (.int .i64 0)).set 1 (.int .i64 0)
     have hr38a:=hr38.cell 0
     have hr38b:=hr38.cell 1
     have hr38c:=hr38.frozen 0
     have hr38d:=hr38.frozen 1
     have hr38e:=hr38.lt
     simp at hr38a hr38b
     clear hr38
     replace R1:=Lib.hid (RowIs.below R1.out hbz)
     replace H1:=Lib.hid (H1.out.below hbz)
     replace Ggr:=Lib.hid (RowIs.below Ggr.out hbz)
     replace Ggk:=Lib.hid (RowIs.below Ggk.out hbz)
     replace QV:=Lib.hid (RowIs.below QV.out hbz)
     replace HBR:=Lib.hid (RowIs.below HBR.out hbz)
     replace HDR:=Lib.hid (RowIs.below HDR.out hbz)
     replace B1:=Lib.hid (bup B1.out hbz)
     have QP:=Lib.hid hrz
     clear hbz hrz
     have cc39:Z37.cell? ⟨w.heap.size,0,none⟩=some (.slice (some ⟨tb,ofs,none⟩) m cap):=RowIs.cell R1.out 0
     have zz40:w.heap.size<Z37.heap.size:=RowIs.lt R1.out
     go_wp2_with fail
     clear hY36 hZ37 hr38a hr38b hr38c hr38d hr38e cc39 zz40
     refine (works_c _).mono ?_
     rintro e w41 ⟨rfl,hbq⟩
     go_wp2_with fail
     go_ret
     exact ⟨rfl,bup B1.out hbq⟩
   ·skip
    rw [pure_same hi hk] at hp
    have hvv:=pure_val hi hk hp
    have hpp:=pure_proof KO.out hi hk hp
    have e1:lossA f i k=v1:=by rw [← V1.out,hvv]
    have e2:v2=1:=by rw [← V2.out,hvv]
    rw [e1, ← e2] at hpp
    have KP:=Lib.hid hpp
    have HPB:=Lib.hid hp
    have HLE:=Lib.hid e1
    have HL2:=Lib.hid e2
    clear hpp hp hvv e1 e2
    go_wp2_with fail
    clear hY20 cc23 zz24
    refine (HPU.out _ H1.out).mono ?_
    rintro e w42 ⟨rfl,hbq⟩
    replace R1:=Lib.hid (RowIs.below R1.out hbq)
    replace H1:=Lib.hid (H1.out.below hbq)
    replace Ggr:=Lib.hid (RowIs.below Ggr.out hbq)
    replace Ggk:=Lib.hid (RowIs.below Ggk.out hbq)
    replace QV:=Lib.hid (RowIs.below QV.out hbq)
    replace B1:=Lib.hid (bup B1.out hbq)
    clear hbq
    clear HPU
    have cc43:w42.cell? ⟨w.heap.size,0,none⟩=some (.slice (some ⟨tb,ofs,none⟩) m cap):=RowIs.cell R1.out 0
    have zz44:w.heap.size<w42.heap.size:=RowIs.lt R1.out
    have ti : ¬ m≤i:=by omega
    have tk : ¬ n≤k:=by omega
    have ti2:decide ((m:Int)≤(i:Int))=false:=decide_eq_false (by omega)
    have tk2:decide ((n:Int)≤(k:Int))=false:=decide_eq_false (by omega)
    go_wp2_with fail
    clear cc43 zz44
    have mk1:=MK1.out
    have mk2:=MK2.out
    apply cutD2 (fun b d y=>Below w42.heap.size w42 y∧RowIs y b (rowA m fun _=>0) 2∧RowIs y d (rowA n fun _=>0) 2∧b ≠ d∧w42.heap.size≤b∧w42.heap.size≤d)
    case main=>
     intro fin
     refine wp_region_runF (C:=fun y=>Below w42.heap.size w42 y) (fun y=>Below w42.heap.size w42 y) (by kernel_rfl) (stable_below w42) (Below.refl _ _) ?_
     change Run _ _ _ _ _ 6 _ _ _
     refine run_take (i:=0) (.int .i64 m) rfl (by kernel_rfl) (by kernel_rfl) (by kernel_rfl) rfl (fun y h=>h) (fun y hy=>by go_simp) ?_
     simp only [puts]
     refine run_take (i:=2) (.int .i64 n) rfl (by kernel_rfl) (by kernel_rfl) (by kernel_rfl) rfl (fun y h=>h) (fun y hy=>by go_simp) ?_
     simp only [puts]
     refine run_both (i:=1) (j:=3) (by kernel_rfl) ?_ ?_
     ·skip
      refine at_make (w0:=w42) (t:=78) (z:= .cells (rowA m fun _=>0) 2 (0,0)) (fun q=> .slice (some ⟨q,0,none⟩) m m) (fun _=>False) slice_inj rfl rfl rfl (fun y _=>by go_simp) (fun y h=>h.size) (fun _ _ _ h=>h.elim) ?_
      intro b hb _
      simp only [puts]
      refine run_take (i:=4) (.slice (some ⟨b,0,none⟩) m m) rfl (by kernel_rfl) (by kernel_rfl) (by kernel_rfl) rfl (fun y h=>h.1) (fun y hy=>by go_simp) ?_
      simp only [puts]
      refine run_only (i:=3) (by kernel_rfl) (at_make (w0:=w42) (t:=80) (z:= .cells (rowA n fun _=>0) 2 (0,0)) (fun q=> .slice (some ⟨q,0,none⟩) n n) (fun q=>q=b) slice_inj rfl rfl rfl (fun y _=>by go_simp) (fun y h=>h.1.size) (fun y h q e=>by subst e; exact heap_size_lt h.2) ?_)
      intro d hd hne
      simp only [puts]
      refine run_take (i:=5) (.slice (some ⟨d,0,none⟩) n n) rfl (by kernel_rfl) (by kernel_rfl) (by kernel_rfl) rfl (fun y h=>h.1.1) (fun y hy=>by go_simp) ?_
      simp only [puts]
      exact ⟨by kernel_rfl,fun y hy=>fin b d y ⟨hy.1.1,hy.1.2,hy.2,fun e=>hne e.symm,hb,hd⟩⟩
     ·skip
      refine at_make (w0:=w42) (t:=80) (z:= .cells (rowA n fun _=>0) 2 (0,0)) (fun q=> .slice (some ⟨q,0,none⟩) n n) (fun _=>False) slice_inj rfl rfl rfl (fun y _=>by go_simp) (fun y h=>h.size) (fun _ _ _ h=>h.elim) ?_
      intro d hd _
      simp only [puts]
      refine run_only (i:=1) (by kernel_rfl) (at_make (w0:=w42) (t:=78) (z:= .cells (rowA m fun _=>0) 2 (0,0)) (fun q=> .slice (some ⟨q,0,none⟩) m m) (fun q=>q=d) slice_inj rfl rfl rfl (fun y _=>by go_simp) (fun y h=>h.1.size) (fun y h q e=>by subst e; exact heap_size_lt h.2) ?_)
      intro b hb hne
      simp only [puts]
      refine run_take (i:=4) (.slice (some ⟨b,0,none⟩) m m) rfl (by kernel_rfl) (by kernel_rfl) (by kernel_rfl) rfl (fun y h=>h.1.1) (fun y hy=>by go_simp) ?_
      simp only [puts]
      refine run_take (i:=5) (.slice (some ⟨d,0,none⟩) n n) rfl (by kernel_rfl) (by kernel_rfl) (by kernel_rfl) rfl (fun y h=>h.1.1) (fun y hy=>by go_simp) ?_
      simp only [puts]
      exact ⟨by kernel_rfl,fun y hy=>fin b d y ⟨hy.1.1,hy.2,hy.1.2,fun e=>hne e,hb,hd⟩⟩
    case fin=>
     rintro b d w45 ⟨hbq,hrb,hrd,hne,hb0,hd0⟩
     clear mk1 mk2
     have cb:=RowIs.cell hrb i
     rw [rowA_get m _ i (by omega)] at cb
     have cd:=RowIs.cell hrd k
     rw [rowA_get n _ k (by omega)] at cd
     have fb:=RowIs.frozen hrb i
     have fd:=RowIs.frozen hrd k
     have zb:=RowIs.lt hrb
     have zd:=RowIs.lt hrd
     obtain ⟨V,hV⟩ : ∃ V,(w45.setCell ⟨b,i,none⟩ (.int .i64 1)).setCell ⟨d,k,none⟩ (.int .i64 1)=V:=⟨_,rfl⟩
     have hbV:Below w42.heap.size w42 V:=hbq.trans (by rw [← hV]; exact ((Below.refl _ _).setCell (p:=⟨b,i,none⟩) hb0 _).setCell (p:=⟨d,k,none⟩) hd0 _)
     have hrb2:RowIs V b (rowA m (unitP i)) 2:=by rw [← hV, ← row_zero]; exact (hrb.set i _).other k _ (fun e=>hne e.symm)
     have hrd2:RowIs V d (rowA n (unitP k)) 2:=by rw [← hV, ← row_zero]; exact (hrd.other i _ hne).set k _
     replace R1:=Lib.hid (RowIs.below R1.out hbV)
     replace H1:=Lib.hid (H1.out.below hbV)
     replace Ggr:=Lib.hid (RowIs.below Ggr.out hbV)
     replace Ggk:=Lib.hid (RowIs.below Ggk.out hbV)
     replace QV:=Lib.hid (RowIs.below QV.out hbV)
     replace B1:=Lib.hid (bup B1.out hbV)
     have HBR:=Lib.hid hrb2
     have HDR:=Lib.hid hrd2
     clear hrb2 hrd2 hbV hbq hrb hrd hb0 hd0
     have cc46:V.cell? ⟨w.heap.size,0,none⟩=some (.slice (some ⟨tb,ofs,none⟩) m cap):=RowIs.cell R1.out 0
     have zz47:w.heap.size<V.heap.size:=RowIs.lt R1.out
     have C48:=CheckProof_c (some ⟨tb,ofs,none⟩) m cap f (some ⟨b,0,none⟩) m m (unitP i) (some ⟨d,0,none⟩) n n (unitP k) V H1.out hm2 RR.out (rowA_ints HBR.out) hm2 (rowA_ints HDR.out) (by omega)
     rw [KP.out] at C48
     replace C48:=Lib.hid C48
     go_wp2_with fail
     clear cc46 zz47 cb cd fb fd zb zd hne hV
     refine (C48.out).mono ?_
     rintro e w49 ⟨rfl,hbq⟩
     replace R1:=Lib.hid (RowIs.below R1.out hbq)
     replace H1:=Lib.hid (H1.out.below hbq)
     replace Ggr:=Lib.hid (RowIs.below Ggr.out hbq)
     replace Ggk:=Lib.hid (RowIs.below Ggk.out hbq)
     replace QV:=Lib.hid (RowIs.below QV.out hbq)
     replace HBR:=Lib.hid (RowIs.below HBR.out hbq)
     replace HDR:=Lib.hid (RowIs.below HDR.out hbq)
     replace B1:=Lib.hid (bup B1.out hbq)
     clear hbq
     clear C48
     obtain ⟨Y50,hY50⟩ : ∃ Y50,w49.alloc (.cells #[.int .i64 v1, .int .i64 v2] 30)=Y50:=⟨_,rfl⟩
     have hb51:Below w49.heap.size w49 Y50:=by rw [← hY50]; exact Below.alloc1 (Below.refl _ _) _ (Nat.le_refl _)
     have hr52:RowIs Y50 w49.heap.size #[.int .i64 v1, .int .i64 v2] 30:=by rw [← hY50]; exact heap_new_at _ _ _ rfl
     replace R1:=Lib.hid (RowIs.below R1.out hb51)
     replace H1:=Lib.hid (H1.out.below hb51)
     replace Ggr:=Lib.hid (RowIs.below Ggr.out hb51)
     replace Ggk:=Lib.hid (RowIs.below Ggk.out hb51)
     replace QV:=Lib.hid (RowIs.below QV.out hb51)
     replace HBR:=Lib.hid (RowIs.below HBR.out hb51)
     replace HDR:=Lib.hid (RowIs.below HDR.out hb51)
     replace B1:=Lib.hid (bup B1.out hb51)
     have QP:=Lib.hid hr52
     clear hb51 hr52
     have cc53:Y50.cell? ⟨w.heap.size,0,none⟩=some (.slice (some ⟨tb,ofs,none⟩) m cap):=RowIs.cell R1.out 0
     have zz54:w.heap.size<Y50.heap.size:=RowIs.lt R1.out
     have cc55:Y50.cell? ⟨w19.heap.size,0,none⟩=some (.int .i64 v1):=RowIs.cell QV.out 0
     have cc56:Y50.cell? ⟨w19.heap.size,1,none⟩=some (.int .i64 v2):=RowIs.cell QV.out 1
     have zz57:w19.heap.size<Y50.heap.size:=RowIs.lt QV.out
     have cc58:Y50.cell? ⟨w49.heap.size,0,none⟩=some (.int .i64 v1):=RowIs.cell QP.out 0
     have cc59:Y50.cell? ⟨w49.heap.size,1,none⟩=some (.int .i64 v2):=RowIs.cell QP.out 1
     have zz60:w49.heap.size<Y50.heap.size:=RowIs.lt QP.out
     have eq61 : ∀ x,(Op.equalIn 10000 30 (.agg #[.int .i64 v1, .int .i64 v2]) (.agg #[.int .i64 v1, .int .i64 v2])).run Try.prog x = .ok true x:=fun x=>(eqRat v1 v2 v1 v2 x).trans (by simp)
     obtain ⟨l0,hl0⟩ : ∃ l0,lossA f i k=l0:=⟨_,rfl⟩
     have L0_E:=Lib.hid hl0
     obtain ⟨rc62t,rc62z,rc62rb,rc62ro,rc62c⟩:Y50.cell? ⟨tb,ofs+i,none⟩=some (.slice (f i).a n (f i).cap)∧tb<Y50.heap.size ∧ ∃ rb ro,(f i).a=some ⟨rb,ro,none⟩∧rb<Y50.heap.size∧Y50.cell? ⟨rb,ro+k,none⟩=some (.int .i64 l0):=by
      obtain ⟨b2,o2,e2,hz2,hc2⟩:=Tab.at H1.out 0 (by omega)
      obtain ⟨rfl,rfl⟩:b2=tb∧o2=ofs:=by injection e2 with he; injection he with h1 h2 _; exact ⟨h1.symm,h2.symm⟩
      obtain ⟨rb,ro,hra,hrz,hrc⟩:=Cells.at (H1.out.2 i (by omega)) k (by rw [KO.out.len i (by omega)]; omega)
      refine ⟨by rw [hc2 i (by omega),KO.out.len i (by omega)],hz2,rb,ro,hra,hrz,?_⟩
      rw [hrc k (by rw [KO.out.len i (by omega)]; omega), ← hl0]
     obtain ⟨rc62e,rc62w,rc62v⟩:=rc62c
     rw [rc62e] at rc62t
     clear rc62e hl0
     have CBY:=Lib.hid (fun (x:World)=>by_c l0 1 x)
     have HLV:=Lib.hid (show v1=l0∧v2=1 from ⟨by rw [← HLE.out,L0_E.out],HL2.out⟩)
     have CP:=fun (x:World) (h:Below Y50.heap.size Y50 x)=>rIsPure_c (some ⟨tb,ofs,none⟩) m n cap f i k x (H1.out.below h) KO.out hi hk
     rw [HPB.out] at CP
     replace CP:=Lib.hid CP
     have eq63 : ∀ x,(Op.equalIn 10000 30 (.agg #[.int .i64 v1, .int .i64 v2]) (.agg #[.int .i64 l0, .int .i64 1])).run Try.prog x = .ok true x:=fun x=>(eqRat v1 v2 l0 1 x).trans (by simp [HLV.out.1,HLV.out.2])
     have hlc64:=fun (x:Later Y50)=>later_cell x
     go_wp2_with fail
     refine wp_region_later (by kernel_rfl) (by kernel_rfl) ?_
     repeat (go_big_quiet_step ((first | (with_reducible refine calls_later (CBY.out _)) | (with_reducible refine calls_later (CP.out _ (Later.h _))))))
     refine wpQuiet_nil ?_
     clear hlc64
     clear hY50 cc53 zz54 cc55 cc56 zz57 cc58 cc59 zz60 eq61 rc62t rc62z rc62w rc62v eq63
     rintro ⟨w65,hbl66⟩
     replace R1:=Lib.hid (RowIs.below R1.out hbl66)
     replace H1:=Lib.hid (H1.out.below hbl66)
     replace Ggr:=Lib.hid (RowIs.below Ggr.out hbl66)
     replace Ggk:=Lib.hid (RowIs.below Ggk.out hbl66)
     replace QV:=Lib.hid (RowIs.below QV.out hbl66)
     replace HBR:=Lib.hid (RowIs.below HBR.out hbl66)
     replace HDR:=Lib.hid (RowIs.below HDR.out hbl66)
     replace QP:=Lib.hid (RowIs.below QP.out hbl66)
     replace B1:=Lib.hid (bup B1.out hbl66)
     clear CBY CP
     cases hq:isPureB f m n jr jc with
     | false=>
       have HPQ:=Lib.hid hq
       clear hq
       have cc67:w65.cell? ⟨w.heap.size,0,none⟩=some (.slice (some ⟨tb,ofs,none⟩) m cap):=RowIs.cell R1.out 0
       have zz68:w.heap.size<w65.heap.size:=RowIs.lt R1.out
       have hlc69:=fun (x:Later w65)=>later_cell x
       go_wp2_with fail
       refine wp_region_later (by kernel_rfl) (by kernel_rfl) ?_
       repeat (go_big_quiet_step (fail))
       refine wpQuiet_nil ?_
       clear hlc69
       clear hbl66 cc67 zz68
       rintro ⟨w70,hbl71⟩
       replace R1:=Lib.hid (RowIs.below R1.out hbl71)
       replace H1:=Lib.hid (H1.out.below hbl71)
       replace Ggr:=Lib.hid (RowIs.below Ggr.out hbl71)
       replace Ggk:=Lib.hid (RowIs.below Ggk.out hbl71)
       replace QV:=Lib.hid (RowIs.below QV.out hbl71)
       replace HBR:=Lib.hid (RowIs.below HBR.out hbl71)
       replace HDR:=Lib.hid (RowIs.below HDR.out hbl71)
       replace QP:=Lib.hid (RowIs.below QP.out hbl71)
       replace B1:=Lib.hid (bup B1.out hbl71)
       have cc72:w70.cell? ⟨w.heap.size,0,none⟩=some (.slice (some ⟨tb,ofs,none⟩) m cap):=RowIs.cell R1.out 0
       have zz73:w.heap.size<w70.heap.size:=RowIs.lt R1.out
       have CP2:=fun (x:World) (h:Below w70.heap.size w70 x)=>rIsPure_c (some ⟨tb,ofs,none⟩) m n cap f jr jc x (H1.out.below h) KO.out hjm hjn
       rw [HPQ.out] at CP2
       replace CP2:=Lib.hid CP2
       have hlc74:=fun (x:Later w70)=>later_cell x
       go_wp2_with fail
       refine wp_region_later (by kernel_rfl) (by kernel_rfl) ?_
       repeat (go_big_quiet_step ((first | (with_reducible refine calls_later (CP2.out _ (Later.h _))) | (with_reducible refine calls_later (works_c _)))))
       refine wpQuiet_nil ?_
       clear hlc74
       clear hbl71 cc72 zz73
       rintro ⟨w75,hbl76⟩
       replace R1:=Lib.hid (RowIs.below R1.out hbl76)
       replace H1:=Lib.hid (H1.out.below hbl76)
       replace Ggr:=Lib.hid (RowIs.below Ggr.out hbl76)
       replace Ggk:=Lib.hid (RowIs.below Ggk.out hbl76)
       replace QV:=Lib.hid (RowIs.below QV.out hbl76)
       replace HBR:=Lib.hid (RowIs.below HBR.out hbl76)
       replace HDR:=Lib.hid (RowIs.below HDR.out hbl76)
       replace QP:=Lib.hid (RowIs.below QP.out hbl76)
       replace B1:=Lib.hid (bup B1.out hbl76)
       go_wp2_with fail
       go_ret
       exact ⟨rfl,B1.out⟩
     | true=>
       rw [← pure_same hjm hjn] at hq
       have hfo:i<jr∨i=jr∧k≤jc:=by
        by_cases h1:jr<i
        ·rw [hf1 jr h1 jc hjn] at hq
         cases hq
        ·by_cases h2:i<jr
         ·exact .inl h2
         ·obtain rfl:i=jr:=by omega
          by_cases h3:jc<k
          ·rw [hf2 jc h3] at hq
           cases hq
          ·exact .inr ⟨rfl,by omega⟩
       rw [pure_same hjm hjn] at hq
       have hl1:=pure_val hjm hjn hq
       have hl2:lossA f jr jc=lossA f i k:=by
        have:=pure_val hi hk HPB.out
        rw [hl1] at this
        exact congrArg Prod.fst this
       rcases hfo with hfo | ⟨rfl,hfo⟩
       ·skip
        have HPQ:=Lib.hid hq
        clear hq
        have cc77:w65.cell? ⟨w.heap.size,0,none⟩=some (.slice (some ⟨tb,ofs,none⟩) m cap):=RowIs.cell R1.out 0
        have zz78:w.heap.size<w65.heap.size:=RowIs.lt R1.out
        have hlc79:=fun (x:Later w65)=>later_cell x
        go_wp2_with fail
        refine wp_region_later (by kernel_rfl) (by kernel_rfl) ?_
        repeat (go_big_quiet_step (fail))
        refine wpQuiet_nil ?_
        clear hlc79
        clear hbl66 cc77 zz78
        rintro ⟨w80,hbl81⟩
        replace R1:=Lib.hid (RowIs.below R1.out hbl81)
        replace H1:=Lib.hid (H1.out.below hbl81)
        replace Ggr:=Lib.hid (RowIs.below Ggr.out hbl81)
        replace Ggk:=Lib.hid (RowIs.below Ggk.out hbl81)
        replace QV:=Lib.hid (RowIs.below QV.out hbl81)
        replace HBR:=Lib.hid (RowIs.below HBR.out hbl81)
        replace HDR:=Lib.hid (RowIs.below HDR.out hbl81)
        replace QP:=Lib.hid (RowIs.below QP.out hbl81)
        replace B1:=Lib.hid (bup B1.out hbl81)
        have cc82:w80.cell? ⟨w.heap.size,0,none⟩=some (.slice (some ⟨tb,ofs,none⟩) m cap):=RowIs.cell R1.out 0
        have zz83:w.heap.size<w80.heap.size:=RowIs.lt R1.out
        have CP2:=fun (x:World) (h:Below w80.heap.size w80 x)=>rIsPure_c (some ⟨tb,ofs,none⟩) m n cap f jr jc x (H1.out.below h) KO.out hjm hjn
        rw [HPQ.out] at CP2
        replace CP2:=Lib.hid CP2
        obtain ⟨l1,hl1⟩ : ∃ l1,lossA f i k=l1:=⟨_,rfl⟩
        have L1_E:=Lib.hid hl1
        obtain ⟨rc84t,rc84z,rc84rb,rc84ro,rc84c⟩:w80.cell? ⟨tb,ofs+i,none⟩=some (.slice (f i).a n (f i).cap)∧tb<w80.heap.size ∧ ∃ rb ro,(f i).a=some ⟨rb,ro,none⟩∧rb<w80.heap.size∧w80.cell? ⟨rb,ro+k,none⟩=some (.int .i64 l1):=by
         obtain ⟨b2,o2,e2,hz2,hc2⟩:=Tab.at H1.out 0 (by omega)
         obtain ⟨rfl,rfl⟩:b2=tb∧o2=ofs:=by injection e2 with he; injection he with h1 h2 _; exact ⟨h1.symm,h2.symm⟩
         obtain ⟨rb,ro,hra,hrz,hrc⟩:=Cells.at (H1.out.2 i (by omega)) k (by rw [KO.out.len i (by omega)]; omega)
         refine ⟨by rw [hc2 i (by omega),KO.out.len i (by omega)],hz2,rb,ro,hra,hrz,?_⟩
         rw [hrc k (by rw [KO.out.len i (by omega)]; omega), ← hl1]
        obtain ⟨rc84e,rc84w,rc84v⟩:=rc84c
        rw [rc84e] at rc84t
        clear rc84e hl1
        obtain ⟨l2,hl2⟩ : ∃ l2,lossA f jr jc=l2:=⟨_,rfl⟩
        have L2_E:=Lib.hid hl2
        obtain ⟨rc85t,rc85z,rc85rb,rc85ro,rc85c⟩:w80.cell? ⟨tb,ofs+jr,none⟩=some (.slice (f jr).a n (f jr).cap)∧tb<w80.heap.size ∧ ∃ rb ro,(f jr).a=some ⟨rb,ro,none⟩∧rb<w80.heap.size∧w80.cell? ⟨rb,ro+jc,none⟩=some (.int .i64 l2):=by
         obtain ⟨b2,o2,e2,hz2,hc2⟩:=Tab.at H1.out 0 (by omega)
         obtain ⟨rfl,rfl⟩:b2=tb∧o2=ofs:=by injection e2 with he; injection he with h1 h2 _; exact ⟨h1.symm,h2.symm⟩
         obtain ⟨rb,ro,hra,hrz,hrc⟩:=Cells.at (H1.out.2 jr (by omega)) jc (by rw [KO.out.len jr (by omega)]; omega)
         refine ⟨by rw [hc2 jr (by omega),KO.out.len jr (by omega)],hz2,rb,ro,hra,hrz,?_⟩
         rw [hrc jc (by rw [KO.out.len jr (by omega)]; omega), ← hl2]
        obtain ⟨rc85e,rc85w,rc85v⟩:=rc85c
        rw [rc85e] at rc85t
        clear rc85e hl2
        have hll:l2=l1:=by rw [← L1_E.out, ← L2_E.out]; exact hl2
        have g1:decide (i<jr)=true:=decide_eq_true hfo
        have g2:decide ((i:Int)<(jr:Int))=true:=decide_eq_true (by omega)
        subst hll
        have hlc86:=fun (x:Later w80)=>later_cell x
        go_wp2_with fail
        refine wp_region_later (by kernel_rfl) (by kernel_rfl) ?_
        repeat (go_big_quiet_step ((first | (with_reducible refine calls_later (CP2.out _ (Later.h _))) | (with_reducible refine calls_later (works_c _)))))
        refine wpQuiet_nil ?_
        clear hlc86
        clear hbl81 cc82 zz83 rc84t rc84z rc84w rc84v rc85t rc85z rc85w rc85v
        rintro ⟨w87,hbl88⟩
        replace R1:=Lib.hid (RowIs.below R1.out hbl88)
        replace H1:=Lib.hid (H1.out.below hbl88)
        replace Ggr:=Lib.hid (RowIs.below Ggr.out hbl88)
        replace Ggk:=Lib.hid (RowIs.below Ggk.out hbl88)
        replace QV:=Lib.hid (RowIs.below QV.out hbl88)
        replace HBR:=Lib.hid (RowIs.below HBR.out hbl88)
        replace HDR:=Lib.hid (RowIs.below HDR.out hbl88)
        replace QP:=Lib.hid (RowIs.below QP.out hbl88)
        replace B1:=Lib.hid (bup B1.out hbl88)
        go_wp2_with fail
        go_ret
        exact ⟨rfl,B1.out⟩
       ·skip
        have HPQ:=Lib.hid hq
        clear hq
        have cc89:w65.cell? ⟨w.heap.size,0,none⟩=some (.slice (some ⟨tb,ofs,none⟩) m cap):=RowIs.cell R1.out 0
        have zz90:w.heap.size<w65.heap.size:=RowIs.lt R1.out
        have hlc91:=fun (x:Later w65)=>later_cell x
        go_wp2_with fail
        refine wp_region_later (by kernel_rfl) (by kernel_rfl) ?_
        repeat (go_big_quiet_step (fail))
        refine wpQuiet_nil ?_
        clear hlc91
        clear hbl66 cc89 zz90
        rintro ⟨w92,hbl93⟩
        replace R1:=Lib.hid (RowIs.below R1.out hbl93)
        replace H1:=Lib.hid (H1.out.below hbl93)
        replace Ggr:=Lib.hid (RowIs.below Ggr.out hbl93)
        replace Ggk:=Lib.hid (RowIs.below Ggk.out hbl93)
        replace QV:=Lib.hid (RowIs.below QV.out hbl93)
        replace HBR:=Lib.hid (RowIs.below HBR.out hbl93)
        replace HDR:=Lib.hid (RowIs.below HDR.out hbl93)
        replace QP:=Lib.hid (RowIs.below QP.out hbl93)
        replace B1:=Lib.hid (bup B1.out hbl93)
        have cc94:w92.cell? ⟨w.heap.size,0,none⟩=some (.slice (some ⟨tb,ofs,none⟩) m cap):=RowIs.cell R1.out 0
        have zz95:w.heap.size<w92.heap.size:=RowIs.lt R1.out
        have CP2:=fun (x:World) (h:Below w92.heap.size w92 x)=>rIsPure_c (some ⟨tb,ofs,none⟩) m n cap f i jc x (H1.out.below h) KO.out hjm hjn
        rw [HPQ.out] at CP2
        replace CP2:=Lib.hid CP2
        obtain ⟨l1,hl1⟩ : ∃ l1,lossA f i k=l1:=⟨_,rfl⟩
        have L1_E:=Lib.hid hl1
        obtain ⟨rc96t,rc96z,rc96rb,rc96ro,rc96c⟩:w92.cell? ⟨tb,ofs+i,none⟩=some (.slice (f i).a n (f i).cap)∧tb<w92.heap.size ∧ ∃ rb ro,(f i).a=some ⟨rb,ro,none⟩∧rb<w92.heap.size∧w92.cell? ⟨rb,ro+k,none⟩=some (.int .i64 l1):=by
         obtain ⟨b2,o2,e2,hz2,hc2⟩:=Tab.at H1.out 0 (by omega)
         obtain ⟨rfl,rfl⟩:b2=tb∧o2=ofs:=by injection e2 with he; injection he with h1 h2 _; exact ⟨h1.symm,h2.symm⟩
         obtain ⟨rb,ro,hra,hrz,hrc⟩:=Cells.at (H1.out.2 i (by omega)) k (by rw [KO.out.len i (by omega)]; omega)
         refine ⟨by rw [hc2 i (by omega),KO.out.len i (by omega)],hz2,rb,ro,hra,hrz,?_⟩
         rw [hrc k (by rw [KO.out.len i (by omega)]; omega), ← hl1]
        obtain ⟨rc96e,rc96w,rc96v⟩:=rc96c
        rw [rc96e] at rc96t
        clear hl1
        obtain ⟨l2,hl2⟩ : ∃ l2,lossA f i jc=l2:=⟨_,rfl⟩
        have L2_E:=Lib.hid hl2
        obtain ⟨rc97t,rc97z,rc97rb,rc97ro,rc97c⟩:w92.cell? ⟨tb,ofs+i,none⟩=some (.slice (f i).a n (f i).cap)∧tb<w92.heap.size ∧ ∃ rb ro,(f i).a=some ⟨rb,ro,none⟩∧rb<w92.heap.size∧w92.cell? ⟨rb,ro+jc,none⟩=some (.int .i64 l2):=by
         obtain ⟨b2,o2,e2,hz2,hc2⟩:=Tab.at H1.out 0 (by omega)
         obtain ⟨rfl,rfl⟩:b2=tb∧o2=ofs:=by injection e2 with he; injection he with h1 h2 _; exact ⟨h1.symm,h2.symm⟩
         obtain ⟨rb,ro,hra,hrz,hrc⟩:=Cells.at (H1.out.2 i (by omega)) jc (by rw [KO.out.len i (by omega)]; omega)
         refine ⟨by rw [hc2 i (by omega),KO.out.len i (by omega)],hz2,rb,ro,hra,hrz,?_⟩
         rw [hrc jc (by rw [KO.out.len i (by omega)]; omega), ← hl2]
        obtain ⟨rc97e,rc97w,rc97v⟩:=rc97c
        obtain ⟨rfl,rfl⟩:rc97rb=rc96rb∧rc97ro=rc96ro:=by
         have hh:=rc97e.symm.trans rc96e
         injection hh with hh
         injection hh with h1 h2 _
         exact ⟨h1,h2⟩
        clear rc96e rc97t
        clear rc97e hl2
        have hll:l2=l1:=by rw [← L1_E.out, ← L2_E.out]; exact hl2
        have g1:decide (i<i)=false:=decide_eq_false (Nat.lt_irrefl _)
        have g2:decide ((i:Int)<(i:Int))=false:=decide_eq_false (by omega)
        have g3:decide (k≤jc)=true:=decide_eq_true hfo
        have g4:decide ((k:Int)≤(jc:Int))=true:=decide_eq_true (by omega)
        subst hll
        have hlc98:=fun (x:Later w92)=>later_cell x
        go_wp2_with fail
        refine wp_region_later (by kernel_rfl) (by kernel_rfl) ?_
        repeat (go_big_quiet_step ((first | (with_reducible refine calls_later (CP2.out _ (Later.h _))) | (with_reducible refine calls_later (works_c _)))))
        refine wpQuiet_nil ?_
        clear hlc98
        clear hbl93 cc94 zz95 rc96t rc96z rc96w rc96v rc97z rc97w rc97v
        rintro ⟨w99,hbl100⟩
        replace R1:=Lib.hid (RowIs.below R1.out hbl100)
        replace H1:=Lib.hid (H1.out.below hbl100)
        replace Ggr:=Lib.hid (RowIs.below Ggr.out hbl100)
        replace Ggk:=Lib.hid (RowIs.below Ggk.out hbl100)
        replace QV:=Lib.hid (RowIs.below QV.out hbl100)
        replace HBR:=Lib.hid (RowIs.below HBR.out hbl100)
        replace HDR:=Lib.hid (RowIs.below HDR.out hbl100)
        replace QP:=Lib.hid (RowIs.below QP.out hbl100)
        replace B1:=Lib.hid (bup B1.out hbl100)
        go_wp2_with fail
        go_ret
        exact ⟨rfl,B1.out⟩
end Go.Proofs.Ytkbbhihndigmeaa

namespace Go.Proofs.Ytkbbhihndigmeaa
open Go Go.RowKit Go.ChangeShapes Go.WideShapes Go.ChangeAt
theorem own_pure:ownKnob Try.prog.godebug = .none:=by kernel_rfl
theorem laidOut_pure:laidOutB Try.prog=true:=by kernel_rfl
set_option maxRecDepth 100000 in
theorem pure_lifted (os:Os) (started:os.Started) (H:Type) (enc:TypeId × Value→H) :
 ReturnsInHanded {} Try.checked os 8 .any (Rows.searchPureSpec.pre6 enc Try.prog Try.f8 Rows.searchPureRow.domain false) (Rows.searchPureSpec.post enc Try.prog Try.f8 false true false false):=by
 refine returnsInHanded_of_change (C:=Try.checked) own_pure started (by kernel_rfl) Try.func8
  (ChangeSpec.witness6 (enc:=enc) (C:=Try.checked) false ⟨#[], #[.agg #[.slice .none 0 0], .int .u8 0, .int .u8 0],[]⟩ 8 (by kernel_rfl) (by kernel_rfl) (by kernel_rfl) (by kernel_rfl)) ?_
 intro W base args ds gs before hval0 hW hcnd _
 have hval : ∀ (j:Nat) t v,Try.f8.params[j]? = some t→args[j]? = some v→Value.okWide Try.prog W .any base t v:=hval0
 have hW':=hW
 obtain ⟨p,q,hA0,hV,rfl,hfz,hnd⟩:=hW
 have hA:DataW.TrodAll enc Try.prog W 0 (fun _=>true) true Try.f8.params.toList args.toList ds p:=hA0
 rw [Try.params8] at hA hval
 obtain ⟨v0,vs0,d0,ds0,p0,q0,hargs,rfl,rfl,h0,r0⟩:=trodAll_cons hA
 obtain ⟨v1,vs1,d1,ds1,p1,q1,rfl,rfl,rfl,h1,r1⟩:=trodAll_cons r0
 obtain ⟨v2,vs2,d2,ds2,p2,q2,rfl,rfl,rfl,h2,r2⟩:=trodAll_cons r1
 obtain ⟨rfl,rfl,rfl⟩:=trodAll_nil r2
 obtain rfl:args = #[v0,v1,v2]:=by cases args; simp_all
 obtain ⟨rfl,rfl⟩:=trodVars_none hV
 obtain ⟨a0,m0,cap0,f0,rfl,hT0⟩:=open_table (hval 0 24 v0 rfl rfl) h0
 obtain ⟨z1,hz1,_,_,hw1⟩:=open_int Try.underlying5 (hval 1 5 v1 rfl rfl) h1
 obtain ⟨z2,hz2,_,_,hw2⟩:=open_int Try.underlying5 (hval 2 5 v2 rfl rfl) h2
 subst hz1 hz2
 refine (law_pure_c a0 m0 cap0 f0 z1 z2 W hT0 (wfu8 hw1) (wfu8 hw2)).mono fun e W' ⟨he,hb⟩ => ?_
 subst he
 have hlt:=hW'.lt
 simp only [List.append_nil,List.mem_append] at hlt
 refine ⟨_,rfl,_,_,_,[],p0 ++ (p1 ++ (p2 ++ [])),[],hW',trodAll_mk1 (shut_bool Try.underlying4 true),?_,rfl,hb.frame _,fun h=>Bool.noConfusion h⟩
 exact trodAll_cons_mk (Below.trod laidOut_pure (by kernel_rfl) (of_decide_eq_true (by kernel_rfl)) h0 hb fun x hx=>hlt x (by simp [hx])) (trodAll_cons_mk (Below.trod laidOut_pure (by kernel_rfl) (of_decide_eq_true (by kernel_rfl)) h1 hb fun x hx=>hlt x (by simp [hx])) (trodAll_cons_mk (Below.trod laidOut_pure (by kernel_rfl) (of_decide_eq_true (by kernel_rfl)) h2 hb fun x hx=>hlt x (by simp [hx])) trodAll_mk0))
theorem pure_holds:Rows.SearchPureSaid:=
 OpenClaim.holds_of_wide 8 Try.f8 rfl rfl rfl rfl rfl rfl rfl ⟨rfl,rfl,rfl,rfl,rfl⟩ rfl rfl rfl rfl rfl (by kernel_rfl) Try.func8 (by kernel_rfl)
  (of_decide_eq_true (by kernel_rfl)) (by unfold Func.isWrapper; first | (rw [if_pos (by decide +kernel)]; kernel_rfl) | (rw [if_neg (by decide +kernel)]; exact ⟨rfl,rfl⟩))
  (fun os started H enc _=>pure_lifted os started H enc)
end Go.Proofs.Ytkbbhihndigmeaa

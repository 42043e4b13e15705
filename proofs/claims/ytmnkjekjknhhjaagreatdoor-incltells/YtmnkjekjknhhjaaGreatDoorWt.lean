import Derived.Test.YtmnkjekjknhhjaaGreatDoorWs
import Derived.Test.YtmnkjekjknhhjaaGreatDoorXl
namespace Go.Proofs.YtmnkjekjknhhjaaGreatDoor
open Go.ChangeShapes Go.WideShapes Go.ChangeAt Go.RowKit Go.Maps
set_option maxRecDepth 100000 in
set_option maxHeartbeats 4000000 in
theorem zmV {mp:Option Addr} {M:Mr} (w:World) (HM0:MrAt w 41 mp M) (aa:Option Addr) (ac:Nat) (ba:Option Addr) (bc:Nat) (a b:List Lin) (RA:Lins w aa ac a) (RB:Lins w ba bc b) (ha:Thin a) (hb:Thin b) {B S:Int} (hm:Mbs B S M) (hB:B≤1000000) (h0:0≤S) (f:Nat) (hf:B-S<(f:Int)) (res:Bool×List Int×Int×Mr) (hr:zaM f b a M=some res) :
  Calls Tryz.prog 19 #[.pointer mp,.slice aa a.length ac,.slice ba b.length bc] w (zsy 41 mp res w):=by
 have hla:=RA.le
 have hlb:=RB.le
 have Z0:=zaC aa ac a w RA
 rw [zan.2 ha.rise] at Z0
 have Z1:=fun W (h:Below w.heap.size w W)=>zaC ba bc b W (RB.below h)
 rw [zan.2 hb.rise] at Z1
 have HRA:Hid (∀ V,MK mp w V→Lins V aa ac a):=dq (fun V k=>Lins.mk HM0 mtR k RA)
 have HRB:Hid (∀ V,MK mp w V→Lins V ba bc b):=dq (fun V k=>Lins.mk HM0 mtR k RB)
 have HMM:=dq HM0
 have HA:=dq ha
 have HB:=dq hb
 have HMB:=dq hm
 have HR:=dq hr
 have HBB:Hid (B≤1000000∧0≤S∧B-S<(f:Int)):=dq ⟨hB,h0,hf⟩
 generalize hna:a.length=na at hla Z0 ⊢
 generalize hnb:b.length=nb at hlb Z1 ⊢
 have HNA:=dq hna
 have HNB:=dq hnb
 have HZ0:=dq Z0
 have HZ1:=dq Z1
 clear Z0 Z1 RA RB HM0 ha hb hm hr hna hnb hB h0 hf
 go_enter Tryz.func19,Tryz.ntmps19
 go_wp2_with (fail)
 refine HZ0.out.mono ?_
 rintro e w1 ⟨rfl,b1⟩
 have HB1:=dq b1
 clear b1 HZ0
 go_wp2_with (fail)
 refine (HZ1.out w1 HB1.out).mono ?_
 rintro e w2 ⟨rfl,b2⟩
 have HB2:=dq (HB1.out.trans (b2.mono HB1.out.size))
 have HM2:=dq (HMM.out.below HB2.out)
 have HK2:Hid (MK mp w w2):=dq (Kept.of_below HB2.out)
 have HR2:Hid (zaM f b (a.drop 0) M=some res):=dq (by rw [List.drop_zero];exact HR.out)
 clear b2 HZ1 HB1 HB2 HR
 go_wp2
 go_loopw [24] (fun iv wr=>∃ (i:Nat) (Mi:Mr),i≤na∧iv=.int .i64 i∧Hid (MrAt wr 41 mp Mi)∧Hid (MK mp w wr)∧Hid (Mbs B S Mi)∧Hid (zaM f b (a.drop i) Mi=some res)) (fun iv _=>na-(intOf iv).toNat)
 case atStart=>exact ⟨0,M,Nat.zero_le _,rfl,HM2,HK2,HMB,HR2⟩
 case round=>
  clear HM2 HK2 HR2
  obtain ⟨i,Mi,hi,rfl,HMi,HK,HMb,HRi⟩:=hrel
  by_cases hlt:i<na
  ·have hia:i<a.length:=by rw [HNA.out];exact hlt
   obtain ⟨g,xb,xd,pb,pd,e1,q0,q1,B0,P0⟩:=(HRA.out _ HK.out).at (k:=i) hia
   subst e1
   have hbl:=B0.le
   have hpl:=P0.le
   have hst:=HRi.out
   rw [zod hia] at hst
   obtain ⟨s,hs,hs1,hs2⟩:=ziO hst
   obtain ⟨s',hs',hq,hmb⟩:=zeK (zab a i) b HMb.out HBB.out.2.2
   rw [hs] at hs'
   injection hs' with hs'
   subst hs'
   have hqb:s.q.length≤1000000000:=by have:=HBB.out;omega
   have bb:=below_alloc wr (.cells #[.slice xb (zab a i).base.length xd,.slice pb (zab a i).ps.length pd] 53)
   have HK3:Hid (MK mp w (wr.alloc (.cells #[.slice xb (zab a i).base.length xd,.slice pb (zab a i).ps.length pd] 53))):=dq (HK.out.then bb)
   have Z:=ztT mp xb pb ba xd pd bc Mi a b i (zab a i) (none:Mr) (dq rfl) (dq rfl) HA HB (dq hia) s f (dq hs) hqb _ (dq (HMi.out.below bb)) (dq (B0.below bb)) (dq (P0.below bb)) (dq (HRB.out _ HK3.out))
   have HMS:=dq hmb
   have HS1:=dq hs1
   have HS2:=dq hs2
   have HSO:=dq (zgW hs)
   rw [HNB.out] at Z
   generalize (zab a i).base.length=u at q0 hbl Z HK3
   generalize (zab a i).ps.length=v at q1 hpl Z HK3
   have HZ:=dq Z
   have i1:(0:Int)≤(i:Int):=by omega
   have i2:(i:Int)<(na:Int):=by omega
   clear B0 P0 bb Z hs hst hs1 hs2 hq hmb hqb hia
   go_wp2_with (fail)
   refine HZ.out.mono ?_
   clear HZ
   rintro e W4 ⟨a4,c4,rfl,B4,m4,k4⟩
   have HK4:=dq (HK3.out.and k4)
   have HM4:=dq m4
   have HB4:=dq B4
   have hl4:=B4.le
   clear B4 m4 k4 HK3
   obtain ⟨sok,sw,se,sm,sq⟩:=s
   dsimp only at HMS HS1 HS2 HM4 HB4 hl4 HSO ⊢
   generalize hswl:sw.length=swl at hl4 ⊢
   have HSW:=dq hswl
   clear hswl
   cases sok with
   | true=>
    have he:=HSO.out rfl
    have HR5:=dq (HS1.out rfl)
    subst he
    go_wp2
    go_roundw
    case rel=>exact ⟨i+1,sm,by omega,by go_num,HM4,HK4,HMS,HR5⟩
    case measure=>simp [intOf];omega
   | false=>
    have hre:=HS2.out rfl
    have HF:Hid (zsy 41 mp res w (.returned (.tuple #[.bool false,.slice a4 swl c4,.int .i64 se])) W4):=dq (by
     rw [hre,←HSW.out]
     exact ⟨a4,c4,rfl,HB4.out,HM4.out,HK4.out⟩)
    clear hre
    cases hse:decide (se=0) with
    | true=>
     have he0:se=0:=of_decide_eq_true hse
     subst he0
     go_wp2
     exact bodyPost_ret (v:=.tuple #[.bool false,.slice a4 swl c4,.int .i64 0]) (by simp [results,Tryz.results19,go_sem]) rfl HF.out
    | false=>
     have he0:¬se=0:=of_decide_eq_false hse
     have heb:(se != 0)=true:=by simp [he0]
     go_wp2
     exact bodyPost_ret (v:=.tuple #[.bool false,.slice a4 swl c4,.int .i64 se]) (by simp [results,Tryz.results19,go_sem]) rfl HF.out
  ·obtain rfl:i=na:=by omega
   have HF:Hid (zsy 41 mp res w (.returned (.tuple #[.bool true,.slice none 0 0,.int .i64 0])) wr):=dq (by
    have h:=HRi.out
    rw [←HNA.out,List.drop_length] at h
    unfold zaM at h
    injection h with h
    rw [←h]
    exact ⟨none,0,rfl,Bag.nil _,HMi.out,HK.out⟩)
   go_wp2
   exact bodyPost_ret (v:=.tuple #[.bool true,.slice none 0 0,.int .i64 0]) (by simp [results,Tryz.results19,go_sem]) rfl HF.out
set_option maxRecDepth 100000 in
set_option maxHeartbeats 4000000 in
theorem zuU {mp:Option Addr} {M:Mr} (w:World) (HM0:MrAt w 41 mp M) (aa:Option Addr) (ac:Nat) (ba:Option Addr) (bc:Nat) (a b:List Lin) (RA:Lins w aa ac a) (RB:Lins w ba bc b) (ha:Thin a) (hb:Thin b) {B S:Int} (hm:Mbs B S M) (hB:B≤1000000) (h0:0≤S) (f:Nat) (hf:B-S<(f:Int)) (res:Bool×Int×Mr) (hr:zmd f M a b=some res) :
  Calls Tryz.prog 22 #[.pointer mp,.slice aa a.length ac,.slice ba b.length bc] w (zub 41 mp res w):=by
 have hla:=RA.le
 have hlb:=RB.le
 obtain ⟨r1,hr1,hm1⟩:=zbe (b:=b) hf a M hm
 obtain ⟨r2,hr2,_⟩:=zbe (b:=a) hf b r1.2.2.2 hm1
 have Z1:=zmV w HM0 aa ac ba bc a b RA RB ha hb hm hB h0 f hf r1 hr1
 have HZ2:Hid (∀ V,MK mp w V→MrAt V 41 mp r1.2.2.2→Calls Tryz.prog 19 #[.pointer mp,.slice ba b.length bc,.slice aa a.length ac] V (zsy 41 mp r2 V)):=dq (fun V k m=>
  zmV V m ba bc aa ac b a (Lins.mk HM0 mtR k RB) (Lins.mk HM0 mtR k RA) hb ha hm1 hB h0 f hf r2 hr2)
 have HYES:Hid (r1.1=true→res=(r2.1,r2.2.2.1,r2.2.2.2)):=dq (fun h=>by
  unfold zmd at hr
  rw [hr1] at hr
  dsimp only at hr
  rw [if_pos h,hr2] at hr
  injection hr with hr
  exact hr.symm)
 have HNO:Hid (r1.1=false→res=(false,r1.2.2.1,r1.2.2.2)):=dq (fun h=>by
  unfold zmd at hr
  rw [hr1] at hr
  dsimp only at hr
  rw [if_neg (by rw [h];simp)] at hr
  injection hr with hr
  exact hr.symm)
 have HO1:=dq (zc3 a M r1 hr1)
 have HO2:=dq (zc3 b _ r2 hr2)
 generalize a.length=na at hla Z1 HZ2 ⊢
 generalize b.length=nb at hlb Z1 HZ2 ⊢
 have HZ1:=dq Z1
 clear Z1 RA RB HM0 ha hb hm hr hr1 hm1 hr2 hB h0 hf
 obtain ⟨ok1,v1,e1,M1⟩:=r1
 obtain ⟨ok2,v2,e2,M2⟩:=r2
 dsimp only at HZ1 HZ2 HYES HNO HO1 HO2
 go_enter Tryz.func22,Tryz.ntmps22
 go_wp2_with (fail)
 refine HZ1.out.mono ?_
 clear HZ1
 rintro e W1 ⟨a1,c1,rfl,B1,m1,k1⟩
 have HM1:=dq m1
 have HK1:=dq k1
 have hl1:=B1.le
 dsimp only at hl1 HM1 ⊢
 generalize v1.length=l1 at hl1 ⊢
 clear B1 m1 k1
 cases ok1 with
 | false=>
  have HF:Hid (zub 41 mp res w (.returned (.tuple #[.bool false,.int .i64 e1])) W1):=dq (by
   rw [HNO.out rfl]
   exact ⟨rfl,HM1.out,HK1.out⟩)
  cases hse:decide (e1=0) with
  | true=>
   have he0:e1=0:=of_decide_eq_true hse
   subst he0
   go_wp2
   exact bodyPost_ret (v:=.tuple #[.bool false,.int .i64 0]) (by simp [results,Tryz.results22,go_sem]) rfl HF.out
  | false=>
   have he0:¬e1=0:=of_decide_eq_false hse
   have heb:(e1 != 0)=true:=by simp [he0]
   go_wp2
   exact bodyPost_ret (v:=.tuple #[.bool false,.int .i64 e1]) (by simp [results,Tryz.results22,go_sem]) rfl HF.out
 | true=>
  have he1:=HO1.out rfl
  subst he1
  have hres:=HYES.out rfl
  have HZ:=dq (HZ2.out W1 HK1.out HM1.out)
  clear HZ2 HYES HNO
  go_wp2_with (fail)
  refine HZ.out.mono ?_
  clear HZ
  rintro e W2 ⟨a2,c2,rfl,B2,m2,k2⟩
  have HF:Hid (zub 41 mp res w (.returned (.tuple #[.bool ok2,.int .i64 e2])) W2):=dq (by
   rw [hres]
   exact ⟨rfl,m2,HK1.out.and k2⟩)
  have hl2:=B2.le
  dsimp only at hl2 ⊢
  generalize v2.length=l2 at hl2 ⊢
  clear B2 m2 k2 hres
  cases ok2 with
  | true=>
   have he2:=HO2.out rfl
   subst he2
   go_wp2
   exact bodyPost_ret (v:=.tuple #[.bool true,.int .i64 0]) (by simp [results,Tryz.results22,go_sem]) rfl HF.out
  | false=>
   go_wp2
   exact bodyPost_ret (v:=.tuple #[.bool false,.int .i64 e2]) (by simp [results,Tryz.results22,go_sem]) rfl HF.out
end Go.Proofs.YtmnkjekjknhhjaaGreatDoor

import Derived.Test.YtmnkjekjknhhjaaGreatDoorNf
import Derived.Test.YtmnkjekjknhhjaaGreatDoorMe
import Derived.Test.YtmnkjekjknhhjaaGreatDoorJa
namespace Go.Proofs.YtmnkjekjknhhjaaGreatDoor
open Go.ChangeShapes Go.WideShapes Go.ChangeAt Go.RowKit
set_option maxRecDepth 100000 in
set_option maxHeartbeats 4000000 in
theorem zun (mp a b:Option Addr) (c d:Nat) (M:Mr) (s t:List Lin) (w:World) (h0:MrAt w 41 mp M) (hM:M≠none) (R:Lins w a c s) (S:Lins w b d t) (hs:s.length*t.length≤100000000000) (hp:∀ i j,(zab s i).ps.length+(zab t j).ps.length≤100000000000) :
  Calls Tryz.prog 67 #[.pointer mp,.slice a s.length c,.slice b t.length d] w (zep 41 mp (zfi M s t) w):=by
 have hle:=R.le
 have hle':=S.le
 have Z:=zaC a c s w R
 generalize hn:s.length=n at hle hs Z ⊢
 generalize hm:t.length=m at hle' hs ⊢
 have HN:=dq hn
 have HM:=dq hm
 have HR:=dq R
 have HS:=dq S
 have HMM:=dq h0
 have HPS:=dq hp
 have HFIT:=dq hs
 have HNM:=dq hM
 generalize hv:zam s=v at Z
 have HV:=dq hv
 have HZ:=dq Z
 clear R S hn hm Z hv hp h0
 go_enter Tryz.func67,Tryz.ntmps67
 go_wp2_with (fail)
 refine HZ.out.mono ?_
 rintro e w1 ⟨rfl,b1⟩
 have HB1:=dq b1
 clear b1 HZ
 cases v with
 | false=>
  have HF:Hid (zep 41 mp (zfi M s t) w (.returned (.tuple #[.slice none 0 0,.int .i64 1])) w1):=dq (zbu (zss (.inl HV.out)) (HMM.out.below HB1.out) ((MK.refl mp w).then HB1.out))
  go_wp2
  exact bodyPost_ret (v:=.tuple #[.slice none 0 0,.int .i64 1]) (by simp [results,Tryz.results67,go_sem]) rfl HF.out
 | true=>
  have Z:=zaC b d t w1 (HS.out.below HB1.out)
  rw [HM.out] at Z
  generalize hv:zam t=v at Z
  have HV2:=dq hv
  have HZ:=dq Z
  clear Z hv
  go_wp2_with (fail)
  refine HZ.out.mono ?_
  rintro e w2 ⟨rfl,b2⟩
  have HB2:=dq (HB1.out.trans (b2.mono HB1.out.size))
  clear b2 HZ HB1
  cases v with
  | false=>
   have HF:Hid (zep 41 mp (zfi M s t) w (.returned (.tuple #[.slice none 0 0,.int .i64 1])) w2):=dq (zbu (zss (.inr HV2.out)) (HMM.out.below HB2.out) ((MK.refl mp w).then HB2.out))
   go_wp2
   exact bodyPost_ret (v:=.tuple #[.slice none 0 0,.int .i64 1]) (by simp [results,Tryz.results67,go_sem]) rfl HF.out
  | true=>
   have hmul:=zrz HFIT.out
   have Z:Calls Tryz.prog _ #[.pointer mp,.int .i64 ((n*m:Nat):Int)] w2 _:=zkg mp M _ _ (HMM.out.below HB2.out) HNM.out
   unfold zch at Z
   generalize hq:spendM M ((n*m:Nat):Int)=q at Z
   have HQ:Hid (spendM M ((s.length*t.length:Nat):Int)=q):=dq (by rw [HN.out,HM.out];exact hq)
   clear hq
   obtain ⟨v,M1⟩:=q
   have HZ:=dq Z
   clear Z
   generalize hnm:((n*m:Nat):Int)=nm at hmul HZ
   go_wp2_with (fail)
   refine HZ.out.mono ?_
   rintro e w3 ⟨rfl,m3,k3⟩
   clear hmul hnm HZ
   have HK3:=dq (((MK.refl mp w).then HB2.out).and k3)
   have HR3:=dq ((HR.out.below HB2.out).mk (HMM.out.below HB2.out) (by unfold MT;decide) k3)
   have HS3:=dq ((HS.out.below HB2.out).mk (HMM.out.below HB2.out) (by unfold MT;decide) k3)
   have HM3:=dq m3
   have HSZ:Hid (w.heap.size≤w3.heap.size):=dq HK3.out.size
   clear m3 k3 HB2
   cases v with
   | false=>
    have HF:Hid (zep 41 mp (zfi M s t) w (.returned (.tuple #[.slice none 0 0,.int .i64 7])) w3):=dq (zbu (zul HV.out HV2.out HQ.out rfl) HM3.out HK3.out)
    go_wp2
    exact bodyPost_ret (v:=.tuple #[.slice none 0 0,.int .i64 7]) (by simp [results,Tryz.results67,go_sem]) rfl HF.out
   | true=>
    clear HR HS HMM
    go_wp2
    go_loopw [6,7,8,35] (fun r er al i wr=>∃ (k:Nat) (oa:Option Addr) (oc:Nat) (ls:List Lb),k≤n∧r=.slice none 0 0∧er=.int .i64 0∧al=.slice oa (k*m) oc∧i=.int .i64 k∧Hid (AccN zry w3 oa oc (k*m) ls wr)∧Hid (lins ls=zbs (s.take k) t)∧Hid (∀ i j,i<k→j<m→za6 (zab s i) (zab t j)=true)) (fun _ _ _ i _=>n-(intOf i).toNat)
    case atStart=>exact ⟨0,none,0,[],Nat.zero_le _,rfl,rfl,by rw [Nat.zero_mul],rfl,dq (by rw [Nat.zero_mul];exact AccN.nil _ _),dq rfl,dq (fun i j h=>by omega)⟩
    case round=>
     obtain ⟨k,oa,oc,ls,hk,rfl,rfl,rfl,rfl,HT,HA,HG⟩:=hrel
     have hlo:=HT.out.row.row.le
     rw [HT.out.num] at hlo
     have hkm:k*m≤n*m:=Nat.mul_le_mul_right m hk
     have hfit:=HFIT.out
     by_cases hlt:k<n
     ·obtain ⟨g,b1,d1,p1,q1,e1,c0',c1',r1,t1⟩:=HR3.out.at (k:=k) (by rw [HN.out];exact hlt)
      have c0:=(HT.out.bel.cell (p:=⟨g,k*2,none⟩) (HR3.out.lt e1)).trans c0'
      have c1:=(HT.out.bel.cell (p:=⟨g,k*2+1,none⟩) (HR3.out.lt e1)).trans c1'
      clear c0' c1'
      have HTK:=dq (zor (t:=t) (k:=k) (s:=s) (by rw [HN.out];exact hlt))
      have hkm1:(k+1)*m≤n*m:=Nat.mul_le_mul_right m hlt
      rw [Nat.add_mul,Nat.one_mul] at hkm1
      generalize hx:zab s k=x at c0 c1 r1 t1 HTK
      have HX:=dq hx
      have bb:=below_alloc wr (.cells #[.slice b1 x.base.length d1,.slice p1 x.ps.length q1] 53)
      have HTW:=dq (HT.out.below zcK bb)
      have L:=Lies.new wr 53 [.slice b1 x.base.length d1,.slice p1 x.ps.length q1]
      have HXM:=dq (And.intro r1 t1)
      have HNE:Hid (oa≠some ⟨wr.heap.size,0,none⟩):=dq (fun e=>Nat.lt_irrefl _ (HT.out.row.row.lt e))
      have hl0:=r1.le
      have hl1:=t1.le
      generalize hu0:x.base.length=u0 at c0 L HTW HXM hl0
      generalize hu1:x.ps.length=u1 at c1 L HTW HXM hl1
      have HU0:=dq hu0
      have HU1:=dq hu1
      have HL:=dq L
      clear L hx hu0 hu1 r1 t1 bb
      subst e1
      go_upto_region 9 with (fail)
      clear c0 c1 HT
      generalize wr.alloc (.cells #[.slice b1 u0 d1,.slice p1 u1 q1] 53)=W at HTW HL ⊢
      generalize wr.heap.size=gb at HL HNE ⊢
      go_wp2
      go_loopw [6,7,8,41] (fun r er al i wr=>∃ (j:Nat) (oa:Option Addr) (oc:Nat) (ls:List Lb),j≤m∧r=.slice none 0 0∧er=.int .i64 0∧al=.slice oa (k*m+j) oc∧i=.int .i64 j∧Hid (AccN zry w3 oa oc (k*m+j) ls wr)∧Hid (Lies wr gb 53 [.slice b1 u0 d1,.slice p1 u1 q1]∧oa≠some ⟨gb,0,none⟩)∧Hid (lins ls=zbs (s.take k) t++(t.take j).map (fun y=>zaB x y))∧Hid (∀ j',j'<j→za6 x (zab t j')=true)) (fun _ _ _ i _=>m-(intOf i).toNat)
      case atStart=>exact ⟨0,oa,oc,ls,Nat.zero_le _,rfl,rfl,rfl,rfl,HTW,dq ⟨HL.out,HNE.out⟩,dq (by rw [HA.out];simp),dq (fun i h=>by omega)⟩
      case round=>
       obtain ⟨j,ob,od,ks,hj,rfl,rfl,rfl,rfl,HT,HW,HA2,HG2⟩:=hrel
       have hlo:=HT.out.row.row.le
       rw [HT.out.num] at hlo
       by_cases hlt2:j<m
       ·obtain ⟨g2,b2,d2,p2,q2,e2,c0,c1,r2,t2⟩:=(HS3.out.below HT.out.bel).at (k:=j) (by rw [HM.out];exact hlt2)
        have HTJ:Hid ((t.take (j+1)).map (fun y=>zaB x y)=(t.take j).map (fun y=>zaB x y)++[zaB x (zab t j)]):=dq (by rw [zgM (by rw [HM.out];exact hlt2)];simp)
        have hpl:=HPS.out k j
        rw [HX.out,HU1.out] at hpl
        generalize hy:zab t j=y at c0 c1 r2 t2 HTJ hpl
        have HY:=dq hy
        have bb:=below_alloc wr (.cells #[.slice b2 y.base.length d2,.slice p2 y.ps.length q2] 53)
        have HTV:=dq (HT.out.below zcK bb)
        have L2:=Lies.new wr 53 [.slice b2 y.base.length d2,.slice p2 y.ps.length q2]
        have L1:=HW.out.1.alloc (.cells #[.slice b2 y.base.length d2,.slice p2 y.ps.length q2] 53)
        have HBW:=dq bb
        have Z:=zok b1 p1 b2 p2 d1 q1 d2 q2 x y _ (HXM.out.1.below HTV.out.bel) (HXM.out.2.below HTV.out.bel) (r2.below bb) (t2.below bb) (by rw [HU1.out];exact hpl)
        rw [HU0.out,HU1.out] at Z
        have hl2:=r2.le
        have hl3:=t2.le
        generalize hv:za6 x y=v at Z
        have HVV:=dq hv
        generalize y.base.length=u2 at c0 L2 L1 HTV HBW Z hl2
        generalize y.ps.length=u3 at c1 L2 L1 HTV HBW Z hl3
        have HZ:=dq Z
        have HLX:=dq L1
        have HLY:=dq L2
        have HNV:Hid (ob≠some ⟨gb,0,none⟩):=dq HW.out.2
        clear Z L1 L2 hy hv r2 t2 bb hpl
        subst e2
        go_upto_region 12 with (fail)
        clear c0 c1 HT HW
        generalize wr.alloc (.cells #[.slice b2 u2 d2,.slice p2 u3 q2] 53)=V at HTV HBW HLX HLY HZ ⊢
        generalize wr.heap.size=gv at HLY ⊢
        have k0:=HLX.out.cell 0
        have k1:=HLX.out.cell 1
        have j0:=HLY.out.cell 0
        have j1:=HLY.out.cell 1
        simp only [List.getElem?_cons_zero,List.getElem?_cons_succ] at k0 k1 j0 j1
        go_wp2_with (fail)
        refine HZ.out.mono ?_
        rintro e w4 ⟨a3,c3,pa3,pc3,he,B3,P3,bw⟩
        clear HZ k0 k1 j0 j1
        have HT4:=dq (HTV.out.below zcK bw)
        have HL4:=dq (HLX.out.below bw HLX.out.lt)
        have hz0:=B3.le
        have sz:w3.heap.size≤V.heap.size:=HTV.out.bel.size
        have HMEM:Hid ((Bag w4 a3 c3 (zaB x y).base∧Bags w4 pa3 pc3 (zaB x y).ps)∧zry w4 w3.heap.size ⟨a3,c3,pa3,pc3,zaB x y⟩):=dq ⟨⟨B3,P3⟩,trivial⟩
        have hz1:=HMEM.out.1.2.le
        clear B3 P3 bw sz HTV HBW HLX HLY
        generalize hu4:(zaB x y).base.length=u4 at hz0 he
        generalize hu5:(zaB x y).ps.length=u5 at hz1 he
        have HU4:=dq hu4
        have HU5:=dq hu5
        clear hu4 hu5
        subst he
        have ba:=below_alloc w4 (.cells #[.slice a3 u4 c3,.slice pa3 u5 pc3] 53)
        have HT5:=dq (HT4.out.below zcK ba)
        have HL5:=dq (HL4.out.below ba HL4.out.lt)
        have HM5:=dq (And.intro (HMEM.out.1.1.below ba) (HMEM.out.1.2.below ba))
        have HN5:=dq (zcK.below HMEM.out.2 ba)
        have HLW:=dq (Lies.new w4 53 [.slice a3 u4 c3,.slice pa3 u5 pc3])
        clear ba HMEM HT4 HL4
        go_upto_region 13 with (fail)
        generalize w4.alloc (.cells #[.slice a3 u4 c3,.slice pa3 u5 pc3] 53)=V5 at HT5 HL5 HM5 HN5 HLW ⊢
        generalize w4.heap.size=gw at HLW ⊢
        cases v with
        | false=>
         have HK:Hid (zbD s t=false):=dq (by
          rw [←Bool.not_eq_true,zlj]
          intro h
          have:=h k j (by rw [HN.out];exact hlt) (by rw [HM.out];exact hlt2)
          rw [HX.out,HY.out,HVV.out] at this
          exact Bool.false_ne_true this)
         have HF:Hid (zep 41 mp (zfi M s t) w (.returned (.tuple #[.slice none 0 0,.int .i64 3])) V5):=dq (zbu (zum HV.out HV2.out HQ.out rfl HK.out) (HM3.out.below HT5.out.bel) (HK3.out.then HT5.out.bel))
         go_wp2
         exact bodyPost_ret (v:=.tuple #[.slice none 0 0,.int .i64 3]) (by simp [results,Tryz.results67,go_sem]) rfl HF.out
        | true=>
         obtain ⟨a6,c6,w6,hr,T6,G6⟩:=HT5.out.push zcK 23 Tryz.underlying23 (by omega) ⟨a3,c3,pa3,pc3,zaB x y⟩ u4 u5 HU4.out HU5.out HM5.out HN5.out
         have e6:k*m+j+1=k*m+(j+1):=by omega
         rw [e6] at hr T6
         have HT6:=dq T6
         have HW6:=dq (G6 gb _ HL5.out HNV.out)
         have HA6:Hid (lins (ks++[⟨a3,c3,pa3,pc3,zaB x y⟩])=zbs (s.take k) t++(t.take (j+1)).map (fun y=>zaB x y)):=dq (by
          rw [HTJ.out,←List.append_assoc,←HA2.out];simp [lins])
         have HG6:Hid (∀ j',j'<j+1→za6 x (zab t j')=true):=dq (fun j' hj'=>by
          by_cases e:j'=j
          ·rw [e,HY.out];exact HVV.out
          ·exact HG2.out j' (by omega))
         have x0:=HLW.out.cell 0
         have x1:=HLW.out.cell 1
         simp only [List.getElem?_cons_zero,List.getElem?_cons_succ] at x0 x1
         clear T6 G6
         go_wp2_with (at_builtin;refine Lib.wpList_append_run _ rfl _ _ _ _ rfl _ _ rfl rfl _ _ hr ?_)
         go_roundw
         case rel=>exact ⟨j+1,a6,c6,_,by omega,rfl,rfl,rfl,by go_num,HT6,HW6,HA6,HG6⟩
         case measure=>simp [intOf];omega
       ·obtain rfl:j=m:=by omega
        have HA7:Hid (lins ks=zbs (s.take (k+1)) t):=dq (by
         rw [HTK.out,HA2.out,List.take_of_length_le (l:=t) (by rw [HM.out];exact Nat.le_refl _)])
        have e7:k*j+j=(k+1)*j:=by rw [Nat.add_mul,Nat.one_mul]
        have HT7:Hid (AccN zry w3 ob od ((k+1)*j) ks wr):=dq (by rw [←e7];exact HT.out)
        have HG7:Hid (∀ i' j',i'<k+1→j'<j→za6 (zab s i') (zab t j')=true):=dq (fun i' j' hi hj=>by
         by_cases e:i'=k
         ·rw [e,HX.out];exact HG2.out j' hj
         ·exact HG.out i' j' (by omega) hj)
        rw [e7]
        go_wp2
        go_roundw
        case rel=>exact ⟨k+1,ob,od,ks,by omega,rfl,rfl,rfl,by go_num,HT7,HA7,HG7⟩
        case measure=>simp [intOf];omega
     ·obtain rfl:k=n:=by omega
      have HAA:Hid (lins ls=zbs s t):=dq (by have:=HA.out;rwa [List.take_of_length_le (by rw [HN.out];exact Nat.le_refl _)] at this)
      have HOK:Hid (zbD s t=true):=dq (zlj.2 (fun i j hi hj=>HG.out i j (by rw [HN.out] at hi;exact hi) (by rw [HM.out] at hj;exact hj)))
      have HZ:=dq (zje oa oc (zbs s t) wr ⟨ls,HAA.out,HT.out.row⟩ (by rw [←HAA.out,zaG,HT.out.num];exact hfit) (fun q=>by
       have hq:zab (zbs s t) q=⟨[],[]⟩∨zab (zbs s t) q∈zbs s t:=by
        unfold zab
        rw [List.getD_eq_getElem?_getD]
        by_cases h:q<(zbs s t).length
        ·right;rw [List.getElem?_eq_getElem h];exact List.getElem_mem h
        ·left;rw [List.getElem?_eq_none (by omega)];rfl
       rcases hq with hq | hq
       ·rw [hq];exact Nat.zero_le _
       ·obtain ⟨x,hx,y,hy,e⟩:=zj9.1 hq
        rw [e]
        obtain ⟨i,hi,rfl⟩:=List.getElem_of_mem hx
        obtain ⟨j,hj,rfl⟩:=List.getElem_of_mem hy
        have e1:zab s i=s[i]:=by simp [zab,List.getD,hi]
        have e2:zab t j=t[j]:=by simp [zab,List.getD,hj]
        have h1:=HPS.out i j
        have h2:=HG.out i j (by rw [HN.out] at hi;exact hi) (by rw [HM.out] at hj;exact hj)
        rw [e1,e2] at h1 h2
        exact Nat.le_trans (zmu h2) h1))
      have hl:(zbs s t).length=k*m:=by rw [←HAA.out,zaG,HT.out.num]
      rw [hl] at HZ
      go_wp2_with (fail)
      refine HZ.out.mono ?_
      rintro e w4 ⟨a4,c4,o,h4,rfl,B4,F4,bb⟩
      have hlo4:=B4.row.le
      have hol:(ofS (zbs s t)).length=o.length:=by rw [←h4,zaG]
      rw [hol]
      have HF:Hid (zep 41 mp (zfi M s t) w (.returned (.tuple #[.slice a4 o.length c4,.int .i64 0])) w4):=dq (by
       have e1:lins o=zmj s t:=by rw [h4,zmw (zlc HOK.out)];rfl
       rw [zst HV.out HV2.out HQ.out rfl HOK.out]
       have bx:Below w3.heap.size w3 w4:=HT.out.bel.trans (bb.mono HT.out.bel.size)
       exact ⟨a4,c4,o,e1,by rw [←e1,zaG],B4,F4.mono (Nat.le_trans HSZ.out HT.out.bel.size),fun _ _=>trivial,HM3.out.below bx,HK3.out.then bx⟩)
      generalize ofSOk (zbs s t)=okv
      generalize o.length=q at HF hlo4 ⊢
      clear B4 F4 bb h4 HZ hol
      go_wp2
      exact bodyPost_ret (v:=.tuple #[.slice a4 q c4,.int .i64 0]) (by simp [results,Tryz.results67,go_sem]) rfl HF.out
end Go.Proofs.YtmnkjekjknhhjaaGreatDoor
namespace Go.Proofs.YtmnkjekjknhhjaaGreatDoor
open Go.ChangeShapes Go.WideShapes Go.ChangeAt Go.RowKit
theorem zll (t1 t2 ty:TypeId) (hu:Tryz.prog.underlying t1=some (.slice 53)) (hv:Tryz.prog.underlying t2=some (.slice 53)) (a:Option Addr) (c n:Nat) (xs:List Value) (w:World) (R:Row2 w a c n xs) (b:Option Addr) (d m:Nat) (ys:List Value) (R':Row2 w b d m ys) (h1:∀ u∈ys,u.oneCell'=true) (hb:n+m≤1000000000000) :
  ∃ v w',(Builtin.append_ #[t1,t2] ty #[.slice a n c,.slice b m d]).run Tryz.prog w=.ok v w'∧Appends2 a n m xs ys w v w':=by
 have e:(Builtin.append_ #[t1,t2] ty #[.slice a n c,.slice b m d]).run Tryz.prog w=(Builtin.append_ #[t1,t1] ty #[.slice a n c,.slice b m d]).run Tryz.prog w:=by
  simp [Builtin.append_,run_underlying hu,run_underlying hv]
 rw [e]
 exact zrx t1 ty hu a c n xs w R b d m ys R' h1 hb
theorem zrA (w:World):Calls Tryz.prog 64 #[] w (fun e w'=>∃ a c,e=.returned (.slice a 1 c)∧AccN zry w a c 1 [⟨none,0,none,0,⟨[],[]⟩⟩] w'):=by
 have HF:Hid (AccN zry w (some ⟨w.heap.size,0,none⟩) 1 1 [⟨none,0,none,0,⟨[],[]⟩⟩] (w.alloc (.cells #[.slice none 0 0,.slice none 0 0] 53))):=dq ⟨below_alloc _ _,⟨zeX (V:=w) ⟨none,0,none,0,⟨[],[]⟩⟩ 0 0 rfl rfl,fun l h=>by
  obtain rfl:=List.mem_singleton.1 h
  exact ⟨Bag.nil _,Bags.nil _⟩⟩,rfl,fun g e=>by injection e with e;injection e with e;omega,fun l h=>trivial⟩
 go_enter Tryz.func64,Tryz.ntmps64
 go_wp2
 go_ret
 exact ⟨_,_,rfl,HF.out⟩
theorem zsW {M:Mr} {s t:List Lin} (h:M≠none):(zfi M s t).2.2≠none:=by
 unfold zfi
 split
 ·split
  ·split
   ·exact zdF h
   ·exact zdF h
  ·exact zdF h
 ·exact h
def zkh (s:List Lin) (w:World) (e:Ending) (w':World):Prop:=
 ∃ a c,e=.returned (.slice a s.length c)∧Lins w' a c s∧From w.heap.size a∧Below w.heap.size w w'
set_option maxRecDepth 100000 in
set_option maxHeartbeats 2000000 in
theorem zrB (a b:Option Addr) (c d:Nat) (s t:List Lin) (w:World) (R:Lins w a c s) (S:Lins w b d t) (hs:s.length+t.length≤100000000000) (hp:∀ k,(zab (s++t) k).ps.length≤100000000000) :
  Calls Tryz.prog 66 #[.slice a s.length c,.slice b t.length d] w (zkh (zaT s t) w):=by
 have hle:=R.le
 have hle':=S.le
 have Z:=zaC a c s w R
 generalize hn:s.length=n at hle hs Z ⊢
 generalize hm:t.length=m at hle' hs ⊢
 have HN:=dq hn
 have HM:=dq hm
 have HR:=dq R
 have HS:=dq S
 have HPS:=dq hp
 generalize hv:zam s=v at Z
 have HV:=dq hv
 have HZ:=dq Z
 clear R S hn hm Z hv hp
 go_enter Tryz.func66,Tryz.ntmps66
 go_wp2_with (fail)
 refine HZ.out.mono ?_
 rintro e w1 ⟨rfl,b1⟩
 have HB1:=dq b1
 clear b1 HZ
 cases v with
 | false=>
  have HF:Hid (zkh (zaT s t) w (.returned (.slice none 0 0)) w1):=dq ⟨none,0,by unfold zaT;rw [HV.out];rfl,by unfold zaT;rw [HV.out];exact Lins.nil _,From.none _,HB1.out⟩
  go_wp2
  go_ret
  exact HF.out
 | true=>
  have Z:=zaC b d t w1 (HS.out.below HB1.out)
  rw [HM.out] at Z
  generalize hv:zam t=v at Z
  have HV2:=dq hv
  have HZ:=dq Z
  clear Z hv
  go_wp2_with (fail)
  refine HZ.out.mono ?_
  rintro e w2 ⟨rfl,b2⟩
  have HB2:=dq (HB1.out.trans (b2.mono HB1.out.size))
  clear b2 HZ HB1
  cases v with
  | false=>
   have HF:Hid (zkh (zaT s t) w (.returned (.slice none 0 0)) w2):=dq ⟨none,0,by unfold zaT;rw [HV.out,HV2.out];rfl,by unfold zaT;rw [HV.out,HV2.out];exact Lins.nil _,From.none _,HB2.out⟩
   go_wp2
   go_ret
   exact HF.out
  | true=>
   have HU:Hid (zaT s t=ofS (s++t)):=dq (by
    have g:zdO (s++t):=znt (zan.1 HV.out).1 (zan.1 HV2.out).1
    rw [zmw g];unfold zaT;rw [HV.out,HV2.out];rfl)
   obtain ⟨ps,hps,P⟩:=HR.out.below HB2.out
   obtain ⟨qs,hqs,Q⟩:=HS.out.below HB2.out
   have lp:ps.length=n:=by rw [←zaG,hps,HN.out]
   have lq:qs.length=m:=by rw [←zaG,hqs,HM.out]
   have P1:=P.row
   rw [lp] at P1
   obtain ⟨v1,w3,hr1,A1⟩:=zll 23 24 23 Tryz.underlying23 Tryz.underlying24 none 0 0 [] w2 (Row2.nil _) a c n (zaF ps) P1 (zdD _) (by omega)
   obtain ⟨B1,F1⟩:=A1.below (B:=w.heap.size) HB2.out.size (From.none _)
   obtain ⟨a3,c3,rfl,r3,k3,f3⟩:=A1
   have F1:=F1 _ _ _ rfl
   have b23:Below w2.heap.size w2 w3:=k3.below (fun g e=>by cases e) (Nat.le_refl _)
   have Q3:=(Q.below b23).row
   rw [lq] at Q3
   rw [Nat.zero_add] at hr1 r3
   rw [List.nil_append] at r3
   obtain ⟨v2,w4,hr2,A2⟩:=zll 23 24 23 Tryz.underlying23 Tryz.underlying24 a3 c3 n (zaF ps) w3 r3 b d m (zaF qs) Q3 (zdD _) (by omega)
   obtain ⟨B2,F2⟩:=A2.below (B:=w.heap.size) (Nat.le_trans HB2.out.size b23.size) F1
   obtain ⟨a4,c4,rfl,r4,k4,f4⟩:=A2
   have F2:=F2 _ _ _ rfl
   have hL:Lins w4 a4 c4 (s++t):=⟨ps++qs,by rw [←hps,←hqs];simp [lins],by rw [List.length_append,lp,lq,zf3];exact r4,fun l hl=>by
    rcases List.mem_append.1 hl with hl | hl
    ·exact zen r3 k4 ⟨(P.each l hl).1.below b23,(P.each l hl).2.below b23⟩
    ·exact zen r3 k4 ⟨(Q.each l hl).1.below b23,(Q.each l hl).2.below b23⟩⟩
   have HB4:=dq ((HB2.out.trans B1).trans B2)
   have Z:=zje a4 c4 (s++t) w4 hL (by rw [List.length_append,HN.out,HM.out];exact hs) HPS.out
   rw [List.length_append,HN.out,HM.out] at Z
   have HZ:=dq Z
   have hl4:=r4.le
   have hl3:=r3.le
   clear Z hL P Q P1 Q3 r3 r4 k3 k4 f3 f4 F1 F2 B1 B2 b23 lp lq hps hqs
   go_wp2_with (first | (at_builtin;refine Lib.wpList_append_run _ rfl _ _ _ _ rfl _ _ rfl rfl _ _ hr1 ?_) | (at_builtin;refine Lib.wpList_append_run _ rfl _ _ _ _ rfl _ _ rfl rfl _ _ hr2 ?_))
   refine HZ.out.mono ?_
   rintro e w5 ⟨a5,c5,ls,h5,rfl,P5,F5,b5⟩
   have hl5:=P5.row.le
   rw [←zaG,h5] at hl5
   have HF:Hid (zkh (zaT s t) w (.returned (.slice a5 (ofS (s++t)).length c5)) w5):=dq (by
    rw [HU.out]
    exact ⟨a5,c5,rfl,⟨ls,h5,P5⟩,F5.mono HB4.out.size,HB4.out.trans (b5.mono HB4.out.size)⟩)
   generalize (ofS (s++t)).length=q at HF hl5 ⊢
   generalize ofSOk (s++t)=okv
   clear P5 F5 b5 h5 HZ
   go_wp2
   go_ret
   exact HF.out
theorem Bgs.mkM {w w':World} {T:TypeId} {mp:Option Addr} {M:Mr} (h:MrAt w T mp M) (hT:MT T) (k:MK mp w w') {a:Option Addr} {c:Nat} {qs:List Bg} (r:Bgs w a c qs):Bgs w' a c qs:=
 ⟨r.row.kept k (fun _ e=>zcD h hT.2.1 r.row e),fun p hp=>(r.each p hp).kept k (fun _ e=>zaV h hT.1 (r.each p hp) e)⟩
set_option maxRecDepth 100000 in
set_option maxHeartbeats 4000000 in
theorem zsX (mp a:Option Addr) (c:Nat) (M:Mr) (s:List Lin) (w:World) (h0:MrAt w 41 mp M) (hM:M≠none) (R:Lins w a c s) (hs:s.length≤100000000000) :
  Calls Tryz.prog 68 #[.pointer mp,.slice a s.length c] w (zep 41 mp (zbS M s) w):=by
 have hle:=R.le
 have Z:=zaC a c s w R
 generalize hn:s.length=n at hle hs Z ⊢
 have HN:=dq hn
 have HR:=dq R
 have HMM:=dq h0
 have HNM:=dq hM
 generalize hv:zam s=v at Z
 have HV:=dq hv
 have HZ:=dq Z
 clear R hn Z hv h0
 go_enter Tryz.func68,Tryz.ntmps68
 go_wp2_with (fail)
 refine HZ.out.mono ?_
 rintro e w1 ⟨rfl,b1⟩
 have HB1:=dq b1
 clear b1 HZ
 cases v with
 | false=>
  have HF:Hid (zep 41 mp (zbS M s) w (.returned (.tuple #[.slice none 0 0,.int .i64 1])) w1):=dq (zbu (zpL (.inl HV.out)) (HMM.out.below HB1.out) ((MK.refl mp w).then HB1.out))
  go_wp2
  exact bodyPost_ret (v:=.tuple #[.slice none 0 0,.int .i64 1]) (by simp [results,Tryz.results68,go_sem]) rfl HF.out
 | true=>
  have HR3:=dq (HR.out.below HB1.out)
  have HMM1:=dq (HMM.out.below HB1.out)
  have HK1:=dq ((MK.refl mp w).then HB1.out)
  clear HR HMM HB1
  go_wp2
  go_loopw [4,5,6,16] (fun r er al i wr=>∃ (k:Nat) (qa:Option Addr) (qc:Nat) (qs:List Bg),k≤n∧r=.slice none 0 0∧er=.int .i64 0∧al=.slice qa k qc∧i=.int .i64 k∧Hid (AccB w1 qa qc k qs wr)∧Hid (zd6 qs=zax (s.take k))∧Hid (∀ j,j<k→zb0 (zab s j)=true)) (fun _ _ _ i _=>n-(intOf i).toNat)
  case atStart=>exact ⟨0,none,0,[],Nat.zero_le _,rfl,rfl,rfl,rfl,dq (AccB.nil _),dq rfl,dq (fun j h=>by omega)⟩
  case round=>
   obtain ⟨k,qa,qc,qs,hk,rfl,rfl,rfl,rfl,HT,HA,HG⟩:=hrel
   have hlo:=HT.out.row.le
   rw [HT.out.num] at hlo
   by_cases hlt:k<n
   ·skip
    obtain ⟨g,b,d,pb,pd,e1,c0,c1,r1,t1⟩:=(HR3.out.below HT.out.bel).at (k:=k) (by rw [HN.out];exact hlt)
    have HTK:=dq (zmy (s:=s) (k:=k) (by rw [HN.out];exact hlt))
    generalize hx:zab s k=x at c0 c1 r1 t1 HTK
    have HX:=dq hx
    have bb:=below_alloc wr (.cells #[.slice b x.base.length d,.slice pb x.ps.length pd] 53)
    have HTW:=dq (HT.out.below bb)
    have L:=Lies.new wr 53 [.slice b x.base.length d,.slice pb x.ps.length pd]
    have HXM:=dq (And.intro (r1.below bb) (t1.below bb))
    have hl0:=r1.le
    have hl1:=t1.le
    generalize hu0:x.base.length=u0 at c0 L HTW HXM hl0
    generalize hu1:x.ps.length=u1 at c1 L HTW HXM hl1
    have HU0:=dq hu0
    have HU1:=dq hu1
    have HL:=dq L
    clear L hx hu0 hu1 r1 t1 bb
    subst e1
    go_upto_region 7 with (fail)
    clear c0 c1 HT
    generalize wr.alloc (.cells #[.slice b u0 d,.slice pb u1 pd] 53)=W at HTW HL HXM ⊢
    generalize wr.heap.size=gb at HL ⊢
    have q0:=HL.out.cell 0
    have q1:=HL.out.cell 1
    simp only [List.getElem?_cons_zero,List.getElem?_cons_succ] at q0 q1
    have Z:=zo9 b pb d pd x W HXM.out.1 HXM.out.2
    rw [HU0.out,HU1.out] at Z
    generalize hv:zb0 x=v at Z
    have HVV:=dq hv
    have HZ:=dq Z
    clear Z hv
    go_wp2_with (fail)
    refine HZ.out.mono ?_
    rintro e W2 ⟨rfl,bw⟩
    have HT2:=dq (HTW.out.below bw)
    have HL2:=dq (HL.out.below bw HL.out.lt)
    have HX2:=dq (HXM.out.1.below bw)
    clear bw HZ HTW q0 q1
    cases v with
    | false=>
     have HK:Hid (zaK s=false):=dq (by
      rw [←Bool.not_eq_true,zjf]
      intro h
      have:=h k (by rw [HN.out];exact hlt)
      rw [HX.out,HVV.out] at this
      exact Bool.false_ne_true this)
     have HF:Hid (zep 41 mp (zbS M s) w (.returned (.tuple #[.slice none 0 0,.int .i64 1])) W2):=dq (zbu (zpL (.inr HK.out)) (HMM1.out.below HT2.out.bel) (HK1.out.then HT2.out.bel))
     go_wp2
     exact bodyPost_ret (v:=.tuple #[.slice none 0 0,.int .i64 1]) (by simp [results,Tryz.results68,go_sem]) rfl HF.out
    | true=>
     have q0:=HL2.out.cell 0
     simp only [List.getElem?_cons_zero] at q0
     obtain ⟨a6,c6,w6,hr,T6⟩:=HT2.out.push HX2.out HU0.out (by omega)
     have HT6:=dq T6
     have HA6:Hid (zd6 (qs++[⟨b,d,x.base⟩])=zax (s.take (k+1))):=dq (by rw [HTK.out,←HA.out];simp [zd6])
     have HG6:Hid (∀ j,j<k+1→zb0 (zab s j)=true):=dq (fun j hj=>by
      by_cases e:j=k
      ·rw [e,HX.out];exact HVV.out
      ·exact HG.out j (by omega))
     clear T6
     go_wp2_with (at_builtin;refine Lib.wpList_append_run _ rfl _ _ _ _ rfl _ _ rfl rfl _ _ hr ?_)
     go_roundw
     case rel=>exact ⟨k+1,a6,c6,_,by omega,rfl,rfl,rfl,by go_num,HT6,HA6,HG6⟩
     case measure=>simp [intOf];omega
   ·obtain rfl:k=n:=by omega
    have HAA:Hid (zd6 qs=zax s):=dq (by have:=HA.out;rwa [List.take_of_length_le (by rw [HN.out];exact Nat.le_refl _)] at this)
    have HGD:Hid (zdO s):=dq (zan.1 HV.out).1
    have HV2:Hid (zaK s=true):=dq (zjf.2 (fun j hj=>HG.out j (by rw [HN.out] at hj;exact hj)))
    have hmw:=HMM1.out.below HT.out.bel
    have Z:Calls Tryz.prog _ #[.pointer mp,.int .i64 ((k:Nat):Int)] wr _:=zkg mp M _ _ hmw HNM.out
    unfold zch at Z
    generalize hq:spendM M ((k:Nat):Int)=q at Z
    have HQ:Hid (spendM M ((s.length:Nat):Int)=q):=dq (by rw [HN.out];exact hq)
    have HMW0:=dq hmw
    clear hq hmw
    obtain ⟨v,M1⟩:=q
    have HZ:=dq Z
    clear Z
    go_wp2_with (fail)
    refine HZ.out.mono ?_
    rintro e w3 ⟨rfl,m3,k3⟩
    clear HZ
    have HKW:=dq ((HK1.out.then HT.out.bel).and k3)
    have HROW:=dq (HT.out.row.mkM HMW0.out (by unfold MT;decide) k3)
    have HNUM:=dq HT.out.num
    have HMW:=dq m3
    clear m3 k3 HT
    cases v with
    | false=>
     have HF:Hid (zep 41 mp (zbS M s) w (.returned (.tuple #[.slice none 0 0,.int .i64 7])) w3):=dq (zbu (zsV HV.out HV2.out HQ.out rfl) HMW.out HKW.out)
     go_wp2
     exact bodyPost_ret (v:=.tuple #[.slice none 0 0,.int .i64 7]) (by simp [results,Tryz.results68,go_sem]) rfl HF.out
    | true=>
     have Z:=zpa none qa 0 qc [] (zax s) w3 (Bag.nil _) ⟨qs,HAA.out,HROW.out⟩ (Nat.zero_le _) (zlk HGD.out) (by rw [←HAA.out,zcE,HNUM.out];exact hs)
     rw [show (zax s).length=k by rw [←HAA.out,zcE,HNUM.out]] at Z
     have HZ:=dq Z
     clear Z
     go_wp2_with (fail)
     refine HZ.out.mono ?_
     rintro e w5 ⟨a3,c3,pa3,pc3,he,B3,P3,bw⟩
     have SZ:w.heap.size≤w3.heap.size:=HKW.out.size
     have HMEM:Hid ((Bag w5 a3 c3 (zbh [] (zax s)).base∧Bags w5 pa3 pc3 (zbh [] (zax s)).ps)∧zry w5 w.heap.size ⟨a3,c3,pa3,pc3,zbh [] (zax s)⟩):=dq ⟨⟨B3,P3⟩,trivial⟩
     have HM5:=dq (HMW.out.below bw)
     have HK5:=dq (HKW.out.then bw)
     have hz0:=B3.le
     have hz1:=HMEM.out.1.2.le
     clear B3 P3 bw HZ
     generalize hx:zbh [] (zax s)=x at he HMEM hz0 hz1
     have HX:=dq hx
     generalize hu4:x.base.length=u4 at hz0 he
     generalize hu5:x.ps.length=u5 at hz1 he
     have HU4:=dq hu4
     have HU5:=dq hu5
     clear hu4 hu5 hx
     subst he
     have HF:Hid (zep 41 mp (zbS M s) w (.returned (.tuple #[.slice (some ⟨w5.heap.size+1,0,none⟩) 1 1,.int .i64 0])) ((w5.alloc (.cells #[.slice a3 u4 c3,.slice pa3 u5 pc3] 53)).alloc (.cells #[.slice a3 u4 c3,.slice pa3 u5 pc3] 53))):=dq (by
      have b1:=below_alloc w5 (.cells #[.slice a3 u4 c3,.slice pa3 u5 pc3] 53)
      have b2:=b1.alloc b1.size (.cells #[.slice a3 u4 c3,.slice pa3 u5 pc3] 53)
      have rn:=zeX (V:=w5.alloc (.cells #[.slice a3 u4 c3,.slice pa3 u5 pc3] 53)) ⟨a3,c3,pa3,pc3,x⟩ u4 u5 HU4.out HU5.out
      rw [show (w5.alloc (.cells #[.slice a3 u4 c3,.slice pa3 u5 pc3] 53)).heap.size=w5.heap.size+1 by simp] at rn
      rw [zpM HV.out HV2.out HQ.out rfl,HX.out]
      have hsz:=HK5.out.size
      refine ⟨_,_,[⟨a3,c3,pa3,pc3,x⟩],rfl,rfl,⟨rn,fun l hl=>?_⟩,fun g e=>?_,fun l hl=>?_,HM5.out.below b2,HK5.out.then b2⟩
      ·obtain rfl:=List.mem_singleton.1 hl
       exact ⟨HMEM.out.1.1.below b2,HMEM.out.1.2.below b2⟩
      ·injection e with e;injection e with e;omega
      ·obtain rfl:=List.mem_singleton.1 hl
       exact zcK.below HMEM.out.2 b2)
     go_wp2
     exact bodyPost_ret (v:=.tuple #[.slice (some ⟨w5.heap.size+1,0,none⟩) 1 1,.int .i64 0]) (by simp [results,Tryz.results68,go_sem]) rfl HF.out
end Go.Proofs.YtmnkjekjknhhjaaGreatDoor

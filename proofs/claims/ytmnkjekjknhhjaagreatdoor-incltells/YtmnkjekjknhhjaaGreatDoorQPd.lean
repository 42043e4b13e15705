import Derived.Test.YtmnkjekjknhhjaaGreatDoorQPc
import Derived.StillTailTactics
import Derived.Deep.CutBlock
import Derived.Deep.DeepCutAuto
import Derived.Deep.CutRange
namespace Go.Proofs.YtmnkjekjknhhjaaGreatDoor.Q
open Go.ChangeShapes Go.WideShapes Go.ChangeAt Go.RowKit
theorem PM.c0 {B:Nat} {w0 w:World} {gp go gs:Nat} {ns:List Nd} {os:List Int} {sl:List Bool} {pa oa sa:Option Addr} {pc oc sc:Nat} (h:PM B w0 w gp go gs ns os sl pa pc oa oc sa sc) {m q r:Nat} (hm:ns.length=m) (hq:os.length=q) (hr:sl.length=r) :
  w.cell? ⟨gp,0,none⟩=some (.slice pa m pc)∧w.cell? ⟨go,0,none⟩=some (.slice oa q oc)∧w.cell? ⟨gs,0,none⟩=some (.slice sa r sc):=by
 subst hm hq hr;exact ⟨h.p.cell 0,h.o.cell 0,h.s.cell 0⟩
theorem ze3 {w:World} {a:Option Addr} {c:Nat} {xs:List Int} (h:Ins w a c xs) {j:Nat} {z:Int} (hz:xs[j]? = some z):∃ g,a=some ⟨g,0,none⟩∧w.cell? ⟨g,j,none⟩=some (.int .i64 z):=by
 obtain ⟨hj,rfl⟩:=List.getElem?_eq_some_iff.1 hz
 obtain ⟨g,e,p⟩:=h.there hj
 exact ⟨g,e,by have:=p.c0;rwa [Nat.mul_one] at this⟩
theorem ze4 {w:World} {a:Option Addr} {c:Nat} {xs:List Bool} (h:Bls w a c xs) {j:Nat} (hj:j<xs.length):∃ g,a=some ⟨g,0,none⟩∧w.cell? ⟨g,j,none⟩=some (.bool (xs.getD j false)):=by
 obtain ⟨g,e,p⟩:=h.there hj
 exact ⟨g,e,by have:=p.c0;rw [Nat.mul_one] at this;rw [this,List.getD_eq_getElem?_getD,List.getElem?_eq_getElem hj];rfl⟩
theorem zdQ {w w':World} {a:Option Addr} {zs:List Int} {k:Nat} (h:RowAt w a zs k) (b:Below w.heap.size w w'):RowAt w' a zs k:=by
 obtain ⟨g,off,e,hc,hg,h1,h2⟩:=h
 exact ⟨g,off,e,(b.cell (p:=⟨g,_,none⟩) hg).trans hc,Nat.lt_of_lt_of_le hg b.size,h1,h2⟩
theorem zda (fl:List Pr) (L:Nat) (h:L=fl.length) (z:Int) (b:Bool):(fl.map (·.1)).take L++[z]=(fl++[(z,b)]).map (·.1):=by
 subst h
 rw [show fl.length=(fl.map (·.1)).length from (List.length_map ..).symm,List.take_length]
 simp
theorem zp4 (z:Int) (c:Int) (hc:1≤c) (h0 : -9223372036854775808≤z) (h1:z≤9223372036854775807) : -9223372036854775808≤z.tdiv c∧z.tdiv c≤9223372036854775807:=by
 by_cases h:0≤z
 ·rw [Int.tdiv_eq_ediv_of_nonneg h]
  have:=Int.ediv_nonneg h (show 0≤c by omega)
  have:=Int.ediv_le_self c h
  omega
 ·have e:z = -(-z):=by omega
  rw [e,Int.neg_tdiv,Int.tdiv_eq_ediv_of_nonneg (by omega)]
  have:=Int.ediv_nonneg (show 0≤-z by omega) (show 0≤c by omega)
  have:=Int.ediv_le_self c (show 0≤-z by omega)
  omega
def zs7 (w:World) (g:Nat):Nat:=match w.cell? ⟨g,0,none⟩ with | some (.slice _ n _)=>n | _=>0
theorem zkq {B:Nat} {w0 w:World} {gp go gs:Nat} {ns:List Nd} {fl:List Pr} {sl:List Bool} (h:PL B w0 w gp go gs ns fl sl):zs7 w go=fl.length:=by
 obtain ⟨⟨pa,pc,oa,oc,sa,sc,M⟩,_⟩:=h
 unfold zs7
 rw [(M.c0 rfl rfl rfl).2.1]
 simp
theorem PL.opn {B:Nat} {w0 w:World} {gp go gs:Nat} {ns:List Nd} {fl:List Pr} {sl:List Bool} (h:PL B w0 w gp go gs ns fl sl):∃ a c,w.cell? ⟨go,0,none⟩=some (.slice a fl.length c):=by
 obtain ⟨⟨pa,pc,oa,oc,sa,sc,M⟩,_⟩:=h
 exact ⟨oa,oc,by have:=(M.c0 rfl rfl rfl).2.1;rwa [List.length_map] at this⟩
theorem PL.done {B:Nat} {w0 w:World} {gp go gs:Nat} {ns:List Nd} {fl:List Pr} {sl:List Bool} (h:PL B w0 w gp go gs ns fl sl) (h1:fl.length=1):chkB ns 4=true∧1≤ns.length∧ns.length≤24:=by
 have hf:=h.2.few
 refine ⟨?_,?_,by omega⟩
 ·unfold chkB
  rw [h.2.chk,decide_eq_true (by omega)]
  match fl,h1 with
  | [p],_=>rfl
 ·cases ns with
  | nil=>have:=h.2.chk;injection this with this;subst this;simp at h1
  | cons x r=>simp
def Sh (k:Nat) (ns:List Nd):Prop:=ns.length≤k∧∀ x∈ns,x.kind=3→x.a≤5
theorem Sh.add {k:Nat} {ns:List Nd} (h:Sh k ns) (x:Nd) (hx:x.kind=3→x.a≤5):Sh (k+1) (ns++[x]):=
 ⟨by rw [List.length_append];have:=h.1;simp;omega,fun y hy=>by
  rcases List.mem_append.1 hy with hy | hy
  ·exact h.2 y hy
  ·obtain rfl:=List.mem_singleton.1 hy
   exact hx⟩
theorem Sh.mono {k l:Nat} {ns:List Nd} (h:Sh k ns) (hl:k≤l):Sh l ns:=⟨Nat.le_trans h.1 hl,h.2⟩
def Sh2 (k:Nat) (ns:List Nd):Prop:=∃ A B,ns=A++B∧Sh k A∧∀ x∈B,x.kind=4∨x.kind=5
theorem Sh2.of {k:Nat} {ns:List Nd} (h:Sh k ns):Sh2 k ns:=⟨ns,[],by simp,h,fun x hx=>by simp at hx⟩
theorem Sh2.add {k:Nat} {ns:List Nd} (h:Sh2 k ns) (x:Nd) (hx:x.kind=4∨x.kind=5):Sh2 k (ns++[x]):=by
 obtain ⟨A,B,e,hA,hB⟩:=h
 subst e
 refine ⟨A,B++[x],by rw [List.append_assoc],hA,fun y hy=>?_⟩
 rcases List.mem_append.1 hy with hy | hy
 ·exact hB y hy
 ·obtain rfl:=List.mem_singleton.1 hy
  exact hx
def zlu (k:Nat) (w:World) (e:Ending) (w':World):Prop:=
 ∃ a c ns,e=.returned (.slice a ns.length c)∧Nds w' a c ns∧chkB ns 4=true∧1≤ns.length∧ns.length≤24∧(∀ x∈ns,x.name=emp)∧(∀ g,a=some ⟨g,0,none⟩→w.heap.size≤g)∧Below w.heap.size w w'∧Sh2 k ns
set_option maxRecDepth 100000 in
set_option maxHeartbeats 128000000 in
theorem pattern_sh (a:Option Addr) (len cap:Nat) (zs:List Int) (w:World) (hlen:len≤9223372036854775807) (HR:Hid (∀ k,k<len→RowAt w a zs k)) :
  Calls Tryz.prog 36 #[.slice a len cap] w (zlu (max 1 len) w):=by
 have H0:Hid (PL w.heap.size w (((w.alloc (.cells #[.slice none 0 0] 69)).alloc (.cells #[.slice none 0 0] 22)).alloc (.cells #[.slice none 0 0] 106)) w.heap.size (w.heap.size+1) (w.heap.size+1+1) [] [] []):=dq (by
  have L1:=Lies.new w 69 [.slice none 0 0]
  have L2:=Lies.newAt (w.alloc (.cells #[.slice none 0 0] 69)) 22 [.slice none 0 0] (g:=w.heap.size+1) (by simp)
  have L3:=Lies.newAt ((w.alloc (.cells #[.slice none 0 0] 69)).alloc (.cells #[.slice none 0 0] 22)) 106 [.slice none 0 0] (g:=w.heap.size+1+1) (by simp)
  exact ⟨⟨none,0,none,0,none,0,(L1.alloc _).alloc _,L2.alloc _,L3,Nds.nil _,Ins.nil _,Bls.nil _,Nat.le_refl _,by omega,by omega,(fun _ e=>nomatch e),(fun _ e=>nomatch e),(fun _ e=>nomatch e),(((Below.refl _ _).alloc (Nat.le_refl _) _).alloc (by simp) _).alloc (by simp;omega) _⟩,PG.nil⟩)
 have HFIN:Hid (∀ w' ns pa pc,Nds w' pa pc ns→chkB ns 4=true→1≤ns.length→ns.length≤24→(∀ x∈ns,x.name=emp)→(∀ g,pa=some ⟨g,0,none⟩→w.heap.size≤g)→Below w.heap.size w w'→Sh2 (max 1 len) ns→zlu (max 1 len) w (.returned (.slice pa ns.length pc)) w'):=dq (fun w' ns pa pc h1 h2 h3 h4 h5 h6 h7 h8=>⟨pa,pc,ns,rfl,h1,h2,h3,h4,h5,h6,h7,h8⟩)
 have HSH0:Hid (Sh 0 ([]:List Nd)):=dq ⟨Nat.le_refl _,fun x hx=>by simp at hx⟩
 go_enter Tryz.func36,Tryz.ntmps36
 go_upto_block 0 with (fail)
 go_cut [8] (fun _ wx=>∃ (ns:List Nd) (fl:List Pr) (sl:List Bool),Hid (PL w.heap.size w wx w.heap.size (w.heap.size+1) (w.heap.size+1+1) ns fl sl)∧Hid (Sh len ns))
 case first=>
  go_wp2_with (fail)
  go_loopw [8,9,10,11,12,13,14,22] (fun _ _ _ _ _ _ _ i wr=>∃ (k:Nat) (ns:List Nd) (fl:List Pr) (sl:List Bool),k≤len∧i=.int .i64 k∧Hid (PL w.heap.size w wr w.heap.size (w.heap.size+1) (w.heap.size+1+1) ns fl sl)∧Hid (Sh k ns)) (fun _ _ _ _ _ _ _ i _=>len-(intOf i).toNat)
  case atStart=>exact ⟨0,_,_,_,Nat.zero_le _,rfl,H0,HSH0⟩
  case round=>
   clear H0 HSH0
   obtain ⟨k,ns,fl,sl,hk,rfl,HPL,HSH⟩:=hrel
   by_cases hlt:k<len
   ·obtain ⟨q,hq⟩:∃ q,q=ns.length:=⟨_,rfl⟩
    obtain ⟨L,hL⟩:∃ L,L=fl.length:=⟨_,rfl⟩
    have HQ:=dq hq
    have HL:=dq hL
    clear hq hL
    obtain ⟨⟨pa,pc,oa,oc,sa,sc,M⟩,G⟩:=HPL.out
    have cells:=M.c0 (m:=q) (q:=L) (r:=q) HQ.out.symm (by rw [List.length_map];exact HL.out.symm) (by rw [G.sln];exact HQ.out.symm)
    obtain ⟨p0,o0,s0⟩:=cells
    have hfew:=G.few
    rw [←HQ.out,←HL.out] at hfew
    have HM:=dq M
    have HG:=dq G
    clear M G
    obtain ⟨b,off,ha,hc,hbl,z1,z2⟩:=zdQ (HR.out k hlt) HM.out.bel
    subst ha
    generalize zs.getD k 0=z at hc z1 z2
    by_cases hfull:23≤q+L
    ·have hfi:(23:Int)≤(q:Int)+(L:Int):=by omega
     go_wp2
     go_meet
     exact ⟨ns,fl,sl,HPL,dq (HSH.out.mono hk)⟩
    ·have hfi:¬(23:Int)≤(q:Int)+(L:Int):=by omega
     obtain ⟨kk,hkk⟩:∃ kk:Nat,z % 16=(kk:Int):=⟨(z % 16).toNat,by omega⟩
     have hk16:kk<16:=by omega
     have CW:Hid (∀ W,Calls Tryz.prog 10 #[.int .i64 z,.int .i64 16] W fun e w'=>e=.returned (.int .i64 kk)∧W=w'):=dq (fun W=>by have:=within_mod z 16 W (by omega) (by omega) z1 z2;rw [show ((16:Nat):Int)=16 from rfl,hkk] at this;exact this)
     obtain ⟨tn,htn⟩:∃ tn:Nat,(z.tdiv 64) % 4=(tn:Int):=⟨((z.tdiv 64) % 4).toNat,by omega⟩
     have hb64:=zp4 z 64 (by omega) z1 z2
     have hb16:=zp4 z 16 (by omega) z1 z2
     have htn4:tn<4:=by omega
     have CW4:Hid (∀ W,Calls Tryz.prog 10 #[.int .i64 (z.tdiv 64),.int .i64 4] W fun e w'=>e=.returned (.int .i64 tn)∧W=w'):=dq (fun W=>by have:=within_mod (z.tdiv 64) 4 W (by omega) (by omega) hb64.1 hb64.2;rw [show ((4:Nat):Int)=4 from rfl,htn] at this;exact this)
     obtain ⟨tm,htm⟩:∃ tm:Nat,(z.tdiv 16) % 5=(tm:Int):=⟨((z.tdiv 16) % 5).toNat,by omega⟩
     have htm5:tm<5:=by omega
     have CW5:Hid (∀ W,Calls Tryz.prog 10 #[.int .i64 (z.tdiv 16),.int .i64 5] W fun e w'=>e=.returned (.int .i64 tm)∧W=w'):=dq (fun W=>by have:=within_mod (z.tdiv 16) 5 W (by omega) (by omega) hb16.1 hb16.2;rw [show ((5:Nat):Int)=5 from rfl,htm] at this;exact this)
     clear hkk htn htm hb64 hb16
     have HSTX:∃ stB:Bool,stB=(match fl.getLast? with | some e=>e.2 | none=>false):=⟨_,rfl⟩
     obtain ⟨stB,hstB⟩:=HSTX
     have HST:=dq hstB
     clear hstB
     go_wp2_with (fail)
     refine (CW.out _).mono ?_
     rintro e w1 ⟨rfl,rfl⟩
     go_upto_region 15 with (fail)
     go_cut [49] from 23 to 136 (fun v wx=>v=.bool (decide (kk<2∧2≤L))∧wr=wx)
     case first=>
      by_cases hk2:kk<2
      ·have t2:(kk:Int)<2:=by omega
       by_cases hL2:2≤L
       ·have u2:(2:Int)≤(L:Int):=by omega
        go_wp2
        go_meet
        exact ⟨by simp [hk2,hL2],rfl⟩
       ·have u2:¬(2:Int)≤(L:Int):=by omega
        go_wp2
        go_meet
        exact ⟨by simp [hL2],rfl⟩
      ·have t2:¬(kk:Int)<2:=by omega
       go_wp2
       go_meet
       exact ⟨by simp [hk2],rfl⟩
     case rest=>
      obtain ⟨rfl,rfl⟩:=hcut
      go_upto_if 49 with (fail)
      go_cut [49] from 23 to 136 (fun v wx=>v=.bool (decide (kk<4∧2≤L))∧wr=wx)
      case first=>
       by_cases hL2:2≤L
       ·have u2:(2:Int)≤(L:Int):=by omega
        rcases (show kk<2∨kk=2∨kk=3∨3<kk from by omega) with h | h | h | h
        ·have hd:decide (kk<2∧2≤L)=true:=by simp [h,hL2]
         go_wp2
         go_meet
         exact ⟨by simp [hL2];omega,rfl⟩
        ·subst h
         go_wp2
         go_meet
         exact ⟨by simp [hL2],rfl⟩
        ·subst h
         go_wp2
         go_meet
         exact ⟨by simp [hL2],rfl⟩
        ·have hd:decide (kk<2∧2≤L)=false:=by simp;omega
         have a1:((kk:Int)==2)=false:=by simp;omega
         have a2:((kk:Int)==3)=false:=by simp;omega
         have a3:¬(kk:Int)=2:=by omega
         have a4:¬(kk:Int)=3:=by omega
         go_wp2
         go_meet
         exact ⟨by simp;omega,rfl⟩
       ·have u2:¬(2:Int)≤(L:Int):=by omega
        have hd:decide (kk<2∧2≤L)=false:=by simp [hL2]
        rcases (show kk=2∨kk=3∨(¬kk=2∧¬kk=3) from by omega) with h | h | ⟨h,h'⟩
        ·subst h
         go_wp2
         go_meet
         exact ⟨by simp [hL2],rfl⟩
        ·subst h
         go_wp2
         go_meet
         exact ⟨by simp [hL2],rfl⟩
        ·have a1:((kk:Int)==2)=false:=by simp;omega
         have a2:((kk:Int)==3)=false:=by simp;omega
         have a3:¬(kk:Int)=2:=by omega
         have a4:¬(kk:Int)=3:=by omega
         go_wp2
         go_meet
         exact ⟨by simp [hL2],rfl⟩
      case rest=>
       obtain ⟨rfl,rfl⟩:=hcut
       by_cases hA:kk<4∧2≤L
       ·obtain ⟨hA1,hA2⟩:=hA
        obtain ⟨F,⟨pi,ps⟩,⟨qi,qs⟩,hF⟩:=last_two (fl:=fl) (by rw [←HL.out];omega)
        obtain ⟨m,hm⟩:∃ m,m=F.length:=⟨_,rfl⟩
        have hLm:L=m+2:=by rw [HL.out,hF,hm];simp
        subst hLm
        obtain ⟨jp,e1,e2,e3⟩:=HG.out.tie (pi,ps) (by rw [hF];simp)
        obtain ⟨jq,f1,f2,f3⟩:=HG.out.tie (qi,qs) (by rw [hF];simp)
        simp only at e1 e3 f1 f3
        subst e1 f1
        obtain ⟨g,hoa,d0⟩:=ze3 HM.out.ins (j:=m) (z:=(jp:Int)) (by rw [hF,hm];simp)
        obtain ⟨g',hoa',d1⟩:=ze3 HM.out.ins (j:=m+1) (z:=(jq:Int)) (by rw [hF,hm];simp)
        rw [hoa] at hoa'
        injection hoa' with hoa';injection hoa' with hoa'
        subst hoa'
        obtain ⟨gb,hsa,b0⟩:=ze4 HM.out.bls (j:=jp) (by rw [HG.out.sln];exact e2)
        obtain ⟨gb',hsa',b1⟩:=ze4 HM.out.bls (j:=jq) (by rw [HG.out.sln];exact f2)
        rw [hsa] at hsa'
        injection hsa' with hsa';injection hsa' with hsa'
        subst hsa'
        rw [e3] at b0
        rw [f3] at b1
        rw [←HQ.out] at e2 f2
        have hjp:(jp:Int)<(q:Int):=by omega
        have hjq:(jq:Int)<(q:Int):=by omega
        have hw1:IntKind.i64.wrap ((m:Int)+1)=(m:Int)+1:=IntWalk.i64_in _ (by omega)
        have hw0:IntKind.i64.wrap (m:Int)=(m:Int):=IntWalk.i64_in _ (by omega)
        have ht1:((m:Int)+1).toNat=m+1:=by omega
        have hp1:(0:Int)≤(m:Int)+1:=by omega
        have hp0:(0:Int)≤(m:Int):=by omega
        have hlt1:((m:Int)+1)<(m:Int)+2:=by omega
        have hlt0:(m:Int)<(m:Int)+2:=by omega
        have hge2:(2:Int)≤(m:Int)+2:=by omega
        subst hoa hsa
        have HF:=dq hF
        have HMF:=dq hm
        clear hF hm
        have hd:decide (kk<4∧2≤m+2)=true:=by simp [hA1]
        have hkq:(0:Int)≤(kk:Int):=by omega
        cases ps with
        | true=>
         have CA:=dq (fun W (kd:Int) (hm:PM w.heap.size w W w.heap.size (w.heap.size+1) (w.heap.size+1+1) ns (fl.map (·.1)) sl pa pc (some ⟨g,0,none⟩) oc (some ⟨gb,0,none⟩) sc)=>zb2 w.heap.size w W w.heap.size (w.heap.size+1) (w.heap.size+1+1) ns (fl.map (·.1)) sl ⟨pa,pc,some ⟨g,0,none⟩,oc,some ⟨gb,0,none⟩,sc,hm⟩ m 2 (by rw [List.length_map];exact HL.out.symm) (by rw [←HQ.out];omega) (by rw [List.length_map,←HL.out];omega) (by rw [HG.out.sln,←HQ.out];omega) kd (jp:Int) (jq:Int) 0 ⟨#[]⟩ true)
         have HNX:Hid (∀ W kd,(kd=4∨kd=5)→zoy w.heap.size w W w.heap.size (w.heap.size+1) (w.heap.size+1+1) (ns++[⟨kd,(jp:Int),(jq:Int),0,⟨#[]⟩⟩]) ((fl.map (·.1)).take m++[(ns.length:Int)]) (sl++[true])→PL w.heap.size w W w.heap.size (w.heap.size+1) (w.heap.size+1+1) (ns++[⟨kd,(jp:Int),(jq:Int),0,⟨#[]⟩⟩]) (F++[((ns.length:Int),true)]) (sl++[true])):=dq (fun W kd hkd h=>by
          have e:(fl.map (·.1)).take m++[(ns.length:Int)]=(F++[((ns.length:Int),true)]).map (·.1):=by rw [HF.out,HMF.out];simp
          rw [e] at h
          have G:=HG.out
          rw [HF.out] at G
          exact ⟨h,G.two kd hkd⟩)
         go_wp2_with (fail)
         go_quiet (fail)
         clear hw0 hw1
         go_wp2_with (fail)
         refine (CA.out _ _ (HM.out.drewN _)).mono ?_
         rintro e w2 ⟨rfl,R2⟩
         have HN:=dq (HNX.out w2 _ (by omega) R2)
         clear R2
         go_wp2_with (fail)
         go_roundw
         case rel=>exact ⟨k+1,_,_,_,by omega,by go_num,HN,dq (HSH.out.add _ (by first | (intro h;exact absurd h (by decide)) | (intro _;show (1:Int)+(tm:Int)≤5;omega) | (intro _;show (1:Int)≤5;decide) | (intro h;dsimp only at h;omega)))⟩
         case measure=>simp [intOf];omega
        | false=>
         have CA:=dq (fun W (kd:Int) (hm:PM w.heap.size w W w.heap.size (w.heap.size+1) (w.heap.size+1+1) ns (fl.map (·.1)) sl pa pc (some ⟨g,0,none⟩) oc (some ⟨gb,0,none⟩) sc)=>zb2 w.heap.size w W w.heap.size (w.heap.size+1) (w.heap.size+1+1) ns (fl.map (·.1)) sl ⟨pa,pc,some ⟨g,0,none⟩,oc,some ⟨gb,0,none⟩,sc,hm⟩ m 2 (by rw [List.length_map];exact HL.out.symm) (by rw [←HQ.out];omega) (by rw [List.length_map,←HL.out];omega) (by rw [HG.out.sln,←HQ.out];omega) kd (jp:Int) (jq:Int) 0 ⟨#[]⟩ qs)
         have HNX:Hid (∀ W kd,(kd=4∨kd=5)→zoy w.heap.size w W w.heap.size (w.heap.size+1) (w.heap.size+1+1) (ns++[⟨kd,(jp:Int),(jq:Int),0,⟨#[]⟩⟩]) ((fl.map (·.1)).take m++[(ns.length:Int)]) (sl++[qs])→PL w.heap.size w W w.heap.size (w.heap.size+1) (w.heap.size+1+1) (ns++[⟨kd,(jp:Int),(jq:Int),0,⟨#[]⟩⟩]) (F++[((ns.length:Int),qs)]) (sl++[qs])):=dq (fun W kd hkd h=>by
          have e:(fl.map (·.1)).take m++[(ns.length:Int)]=(F++[((ns.length:Int),qs)]).map (·.1):=by rw [HF.out,HMF.out];simp
          rw [e] at h
          have G:=HG.out
          rw [HF.out] at G
          exact ⟨h,G.two kd hkd⟩)
         go_wp2_with (fail)
         go_quiet (fail)
         clear hw0 hw1
         go_wp2_with (fail)
         refine (CA.out _ _ (HM.out.drewN _)).mono ?_
         rintro e w2 ⟨rfl,R2⟩
         have HN:=dq (HNX.out w2 _ (by omega) R2)
         clear R2
         go_wp2_with (fail)
         go_roundw
         case rel=>exact ⟨k+1,_,_,_,by omega,by go_num,HN,dq (HSH.out.add _ (by first | (intro h;exact absurd h (by decide)) | (intro _;show (1:Int)+(tm:Int)≤5;omega) | (intro _;show (1:Int)≤5;decide) | (intro h;dsimp only at h;omega)))⟩
         case measure=>simp [intOf];omega
       ·have hd:decide (kk<4∧2≤L)=false:=by simpa using hA
        go_upto_region 21 with (fail)
        go_cut [98] from 23 to 136 (fun v wx=>v=.bool (decide (kk<6∧1≤L∧stB=false))∧∃ n0,wx=wr.drewN n0)
        case first=>
         by_cases hk6:kk<6
         ·have t6:decide ((kk:Int)<6)=true:=by simp;omega
          have t6':(kk:Int)<6:=by omega
          by_cases hL1:1≤L
          ·have u1:decide ((1:Int)≤(L:Int))=true:=by simp;omega
           obtain ⟨F,⟨pi,ps⟩,hF⟩:=last_one (fl:=fl) (by rw [←HL.out];omega)
           obtain ⟨m,hm⟩:∃ m,m=F.length:=⟨_,rfl⟩
           have hLm:L=m+1:=by rw [HL.out,hF,hm];simp
           obtain ⟨jp,e1,e2,e3⟩:=HG.out.tie (pi,ps) (by rw [hF];simp)
           simp only at e1 e3
           subst e1
           have hst:stB=ps:=by rw [HST.out,hF];simp
           obtain ⟨g,hoa,d0⟩:=ze3 HM.out.ins (j:=m) (z:=(jp:Int)) (by rw [hF,hm];simp)
           obtain ⟨gb,hsa,b0⟩:=ze4 HM.out.bls (j:=jp) (by rw [HG.out.sln];exact e2)
           rw [e3] at b0
           rw [←HQ.out] at e2
           have hjp:(jp:Int)<(q:Int):=by omega
           have hw0:IntKind.i64.wrap (m:Int)=(m:Int):=IntWalk.i64_in _ (by omega)
           have hp0:(0:Int)≤(m:Int):=by omega
           have hlt0:(m:Int)<(m:Int)+1:=by omega
           have hg1:(1:Int)≤(m:Int)+1:=by omega
           have hg1b:decide ((1:Int)≤(m:Int)+1)=true:=by simp;omega
           subst hoa hsa hLm hst
           have HF:=dq hF
           have HMF:=dq hm
           clear hF hm
           cases stB with
           | true=>
            go_quiet (fail)
            go_wp2
            go_meet
            exact ⟨by simp,_,rfl⟩
           | false=>
            go_quiet (fail)
            go_wp2
            go_meet
            exact ⟨by simp [hk6],_,rfl⟩
          ·obtain rfl:L=0:=by omega
           go_quiet (fail)
           go_wp2
           go_meet
           exact ⟨by simp,_,rfl⟩
         ·have t6:decide ((kk:Int)<6)=false:=by simp;omega
          go_quiet (fail)
          go_wp2
          go_meet
          exact ⟨by simp [hk6],_,rfl⟩
        case rest=>
         obtain ⟨rfl,n0,rfl⟩:=hcut
         by_cases hS:kk<6∧1≤L∧stB=false
         ·have hd2:decide (kk<6∧1≤L∧stB=false)=true:=by simpa using hS
          obtain ⟨F,⟨pi,ps⟩,hF⟩:=last_one (fl:=fl) (by rw [←HL.out];omega)
          obtain ⟨m,hm⟩:∃ m,m=F.length:=⟨_,rfl⟩
          have hLm:L=m+1:=by rw [HL.out,hF,hm];simp
          obtain ⟨jp,e1,e2,e3⟩:=HG.out.tie (pi,ps) (by rw [hF];simp)
          simp only at e1 e3
          subst e1
          obtain ⟨g,hoa,d0⟩:=ze3 HM.out.ins (j:=m) (z:=(jp:Int)) (by rw [hF,hm];simp)
          obtain ⟨gb,hsa,b0⟩:=ze4 HM.out.bls (j:=jp) (by rw [HG.out.sln];exact e2)
          rw [e3] at b0
          rw [←HQ.out] at e2
          have hjp:(jp:Int)<(q:Int):=by omega
          have hw0:IntKind.i64.wrap (m:Int)=(m:Int):=IntWalk.i64_in _ (by omega)
          have hp0:(0:Int)≤(m:Int):=by omega
          have hlt0:(m:Int)<(m:Int)+1:=by omega
          subst hoa hsa
          have HF:=dq hF
          have HMF:=dq hm
          clear hF hm
          have hst:stB=ps:=by rw [HST.out,HF.out];simp
          obtain rfl:ps=false:=by rw [←hst];exact hS.2.2
          subst hLm
          have CA:=dq (fun W (hm:PM w.heap.size w W w.heap.size (w.heap.size+1) (w.heap.size+1+1) ns (fl.map (·.1)) sl pa pc (some ⟨g,0,none⟩) oc (some ⟨gb,0,none⟩) sc)=>zb2 w.heap.size w W w.heap.size (w.heap.size+1) (w.heap.size+1+1) ns (fl.map (·.1)) sl ⟨pa,pc,some ⟨g,0,none⟩,oc,some ⟨gb,0,none⟩,sc,hm⟩ m 1 (by rw [List.length_map];exact HL.out.symm) (by rw [←HQ.out];omega) (by rw [List.length_map,←HL.out];omega) (by rw [HG.out.sln,←HQ.out];omega) 6 (jp:Int) 0 0 ⟨#[]⟩ true)
          have HNX:Hid (∀ W,zoy w.heap.size w W w.heap.size (w.heap.size+1) (w.heap.size+1+1) (ns++[⟨6,(jp:Int),0,0,⟨#[]⟩⟩]) ((fl.map (·.1)).take m++[(ns.length:Int)]) (sl++[true])→PL w.heap.size w W w.heap.size (w.heap.size+1) (w.heap.size+1+1) (ns++[⟨6,(jp:Int),0,0,⟨#[]⟩⟩]) (F++[((ns.length:Int),true)]) (sl++[true])):=dq (fun W h=>by
           have e:(fl.map (·.1)).take m++[(ns.length:Int)]=(F++[((ns.length:Int),true)]).map (·.1):=by rw [HF.out,HMF.out];simp
           rw [e] at h
           have G:=HG.out
           rw [HF.out] at G
           exact ⟨h,G.star (by rw [←HQ.out,←HMF.out];omega)⟩)
          clear hw0
          go_wp2_with (fail)
          refine (CA.out _ (HM.out.drewN _)).mono ?_
          rintro e w2 ⟨rfl,R2⟩
          have HN:=dq (HNX.out w2 R2)
          clear R2
          go_wp2_with (fail)
          go_roundw
          case rel=>exact ⟨k+1,_,_,_,by omega,by go_num,HN,dq (HSH.out.add _ (by first | (intro h;exact absurd h (by decide)) | (intro _;show (1:Int)+(tm:Int)≤5;omega) | (intro _;show (1:Int)≤5;decide) | (intro h;dsimp only at h;omega)))⟩
          case measure=>simp [intOf];omega
         ·have hd2:decide (kk<6∧1≤L∧stB=false)=false:=by simpa using hS
          by_cases h6:kk=6
          ·subst h6
           have CA:=dq (fun W (hm:PM w.heap.size w W w.heap.size (w.heap.size+1) (w.heap.size+1+1) ns (fl.map (·.1)) sl pa pc (oa) oc (sa) sc)=>zb2 w.heap.size w W w.heap.size (w.heap.size+1) (w.heap.size+1+1) ns (fl.map (·.1)) sl ⟨pa,pc,oa,oc,sa,sc,hm⟩ L 0 (by rw [List.length_map];exact HL.out.symm) (by rw [←HQ.out];omega) (by rw [List.length_map,←HL.out];omega) (by rw [HG.out.sln,←HQ.out];omega) 1 0 0 0 ⟨#[]⟩ false)
           have HNX:Hid (∀ W,zoy w.heap.size w W w.heap.size (w.heap.size+1) (w.heap.size+1+1) (ns++[⟨1,0,0,0,⟨#[]⟩⟩]) ((fl.map (·.1)).take L++[(ns.length:Int)]) (sl++[false])→PL w.heap.size w W w.heap.size (w.heap.size+1) (w.heap.size+1+1) (ns++[⟨1,0,0,0,⟨#[]⟩⟩]) (fl++[((ns.length:Int),false)]) (sl++[false])):=dq (fun W h=>by
            have e:(fl.map (·.1)).take L++[(ns.length:Int)]=(fl++[((ns.length:Int),false)]).map (·.1):=zda fl _ HL.out _ _
            rw [e] at h
            exact ⟨h,HG.out.leaf _ rfl (by simp) rfl rfl (by rw [←HQ.out,←HL.out];omega)⟩)
           go_wp2_with (fail)
           refine (CA.out _ (HM.out.drewN _)).mono ?_
           rintro e w2 ⟨rfl,R2⟩
           have HN:=dq (HNX.out w2 R2)
           clear R2
           go_wp2_with (fail)
           go_roundw
           case rel=>exact ⟨k+1,_,_,_,by omega,by go_num,HN,dq (HSH.out.add _ (by first | (intro h;exact absurd h (by decide)) | (intro _;show (1:Int)+(tm:Int)≤5;omega) | (intro _;show (1:Int)≤5;decide) | (intro h;dsimp only at h;omega)))⟩
           case measure=>simp [intOf];omega
          ·have h6b:((kk:Int)==6)=false:=by simp;omega
           have h6c:¬(kk:Int)=6:=by omega
           by_cases h7:kk=7
           ·subst h7
            have CA:=dq (fun W (hm:PM w.heap.size w W w.heap.size (w.heap.size+1) (w.heap.size+1+1) ns (fl.map (·.1)) sl pa pc (oa) oc (sa) sc)=>zb2 w.heap.size w W w.heap.size (w.heap.size+1) (w.heap.size+1+1) ns (fl.map (·.1)) sl ⟨pa,pc,oa,oc,sa,sc,hm⟩ L 0 (by rw [List.length_map];exact HL.out.symm) (by rw [←HQ.out];omega) (by rw [List.length_map,←HL.out];omega) (by rw [HG.out.sln,←HQ.out];omega) 2 0 0 0 ⟨#[]⟩ false)
            have HNX:Hid (∀ W,zoy w.heap.size w W w.heap.size (w.heap.size+1) (w.heap.size+1+1) (ns++[⟨2,0,0,0,⟨#[]⟩⟩]) ((fl.map (·.1)).take L++[(ns.length:Int)]) (sl++[false])→PL w.heap.size w W w.heap.size (w.heap.size+1) (w.heap.size+1+1) (ns++[⟨2,0,0,0,⟨#[]⟩⟩]) (fl++[((ns.length:Int),false)]) (sl++[false])):=dq (fun W h=>by
             have e:(fl.map (·.1)).take L++[(ns.length:Int)]=(fl++[((ns.length:Int),false)]).map (·.1):=zda fl _ HL.out _ _
             rw [e] at h
             exact ⟨h,HG.out.leaf _ rfl (by simp) rfl rfl (by rw [←HQ.out,←HL.out];omega)⟩)
            go_wp2_with (fail)
            refine (CA.out _ (HM.out.drewN _)).mono ?_
            rintro e w2 ⟨rfl,R2⟩
            have HN:=dq (HNX.out w2 R2)
            clear R2
            go_wp2_with (fail)
            go_roundw
            case rel=>exact ⟨k+1,_,_,_,by omega,by go_num,HN,dq (HSH.out.add _ (by first | (intro h;exact absurd h (by decide)) | (intro _;show (1:Int)+(tm:Int)≤5;omega) | (intro _;show (1:Int)≤5;decide) | (intro h;dsimp only at h;omega)))⟩
            case measure=>simp [intOf];omega
           ·have h7b:((kk:Int)==7)=false:=by simp;omega
            have h7c:¬(kk:Int)=7:=by omega
            by_cases h13:13<kk
            ·have hgt:(13:Int)<(kk:Int):=by omega
             have CA:=dq (fun W (hm:PM w.heap.size w W w.heap.size (w.heap.size+1) (w.heap.size+1+1) ns (fl.map (·.1)) sl pa pc (oa) oc (sa) sc)=>zb2 w.heap.size w W w.heap.size (w.heap.size+1) (w.heap.size+1+1) ns (fl.map (·.1)) sl ⟨pa,pc,oa,oc,sa,sc,hm⟩ L 0 (by rw [List.length_map];exact HL.out.symm) (by rw [←HQ.out];omega) (by rw [List.length_map,←HL.out];omega) (by rw [HG.out.sln,←HQ.out];omega) 3 (1+(tm:Int)) 0 (tn:Int) ⟨#[]⟩ false)
             have HNX:Hid (∀ W,zoy w.heap.size w W w.heap.size (w.heap.size+1) (w.heap.size+1+1) (ns++[⟨3,(1+(tm:Int)),0,(tn:Int),⟨#[]⟩⟩]) ((fl.map (·.1)).take L++[(ns.length:Int)]) (sl++[false])→PL w.heap.size w W w.heap.size (w.heap.size+1) (w.heap.size+1+1) (ns++[⟨3,(1+(tm:Int)),0,(tn:Int),⟨#[]⟩⟩]) (fl++[((ns.length:Int),false)]) (sl++[false])):=dq (fun W h=>by
              have e:(fl.map (·.1)).take L++[(ns.length:Int)]=(fl++[((ns.length:Int),false)]).map (·.1):=zda fl _ HL.out _ _
              rw [e] at h
              exact ⟨h,HG.out.leaf _ rfl (by simp) (by simp [rightB];omega) rfl (by rw [←HQ.out,←HL.out];omega)⟩)
             go_wp2_with (fail)
             refine (CW5.out _).mono ?_
             rintro e w1 ⟨rfl,rfl⟩
             go_wp2_with (fail)
             refine (CW4.out _).mono ?_
             rintro e w1 ⟨rfl,rfl⟩
             go_wp2_with (fail)
             refine (CA.out _ (HM.out.drewN _)).mono ?_
             rintro e w2 ⟨rfl,R2⟩
             have HN:=dq (HNX.out w2 R2)
             clear R2
             go_wp2_with (fail)
             go_roundw
             case rel=>exact ⟨k+1,_,_,_,by omega,by go_num,HN,dq (HSH.out.add _ (by first | (intro h;exact absurd h (by decide)) | (intro _;show (1:Int)+(tm:Int)≤5;omega) | (intro _;show (1:Int)≤5;decide) | (intro h;dsimp only at h;omega)))⟩
             case measure=>simp [intOf];omega
            ·have hgt:¬(13:Int)<(kk:Int):=by omega
             have CA:=dq (fun W (hm:PM w.heap.size w W w.heap.size (w.heap.size+1) (w.heap.size+1+1) ns (fl.map (·.1)) sl pa pc (oa) oc (sa) sc)=>zb2 w.heap.size w W w.heap.size (w.heap.size+1) (w.heap.size+1+1) ns (fl.map (·.1)) sl ⟨pa,pc,oa,oc,sa,sc,hm⟩ L 0 (by rw [List.length_map];exact HL.out.symm) (by rw [←HQ.out];omega) (by rw [List.length_map,←HL.out];omega) (by rw [HG.out.sln,←HQ.out];omega) 3 1 0 (tn:Int) ⟨#[]⟩ false)
             have HNX:Hid (∀ W,zoy w.heap.size w W w.heap.size (w.heap.size+1) (w.heap.size+1+1) (ns++[⟨3,1,0,(tn:Int),⟨#[]⟩⟩]) ((fl.map (·.1)).take L++[(ns.length:Int)]) (sl++[false])→PL w.heap.size w W w.heap.size (w.heap.size+1) (w.heap.size+1+1) (ns++[⟨3,1,0,(tn:Int),⟨#[]⟩⟩]) (fl++[((ns.length:Int),false)]) (sl++[false])):=dq (fun W h=>by
              have e:(fl.map (·.1)).take L++[(ns.length:Int)]=(fl++[((ns.length:Int),false)]).map (·.1):=zda fl _ HL.out _ _
              rw [e] at h
              exact ⟨h,HG.out.leaf _ rfl (by simp) (by simp [rightB];omega) rfl (by rw [←HQ.out,←HL.out];omega)⟩)
             go_wp2_with (fail)
             refine (CW4.out _).mono ?_
             rintro e w1 ⟨rfl,rfl⟩
             go_wp2_with (fail)
             refine (CA.out _ (HM.out.drewN _)).mono ?_
             rintro e w2 ⟨rfl,R2⟩
             have HN:=dq (HNX.out w2 R2)
             clear R2
             go_wp2_with (fail)
             go_roundw
             case rel=>exact ⟨k+1,_,_,_,by omega,by go_num,HN,dq (HSH.out.add _ (by first | (intro h;exact absurd h (by decide)) | (intro _;show (1:Int)+(tm:Int)≤5;omega) | (intro _;show (1:Int)≤5;decide) | (intro h;dsimp only at h;omega)))⟩
             case measure=>simp [intOf];omega
   ·go_wp2
    go_meet
    exact ⟨ns,fl,sl,HPL,dq (HSH.out.mono hk)⟩
 case rest=>
  clear H0 HSH0
  obtain ⟨ns,fl,sl,HPL,HSH⟩:=hcut
  obtain ⟨xa,xc,o1⟩:=HPL.out.opn
  obtain ⟨L0,hL0⟩:∃ L,L=fl.length:=⟨_,rfl⟩
  rw [←hL0] at o1
  have HL0:=dq hL0
  clear hL0
  go_upto_if 139 with (fail)
  go_cut [140] (fun _ wx=>∃ (ns:List Nd) (fl:List Pr) (sl:List Bool),1≤fl.length∧Hid (PL w.heap.size w wx w.heap.size (w.heap.size+1) (w.heap.size+1+1) ns fl sl)∧Hid (Sh2 (max 1 len) ns))
  case first=>
   by_cases hz:L0=0
   ·subst hz
    have hfl:fl=[]:=List.eq_nil_of_length_eq_zero HL0.out.symm
    subst hfl
    have hns:ns=[]:=HPL.out.2.non rfl
    subst hns
    have HSL:Hid (sl=[]):=dq (List.eq_nil_of_length_eq_zero HPL.out.2.sln)
    have CA:=dq (zb2 w.heap.size w wc w.heap.size (w.heap.size+1) (w.heap.size+1+1) [] [] sl HPL.out.1 0 0 rfl (by simp) (by simp) (by rw [HSL.out];simp) 2 0 0 0 ⟨#[]⟩ false)
    have HNX:Hid (∀ W,zoy w.heap.size w W w.heap.size (w.heap.size+1) (w.heap.size+1+1) ([]++[⟨2,0,0,0,⟨#[]⟩⟩]) (([]:List Int).take 0++[(([]:List Nd).length:Int)]) (sl++[false])→PL w.heap.size w W w.heap.size (w.heap.size+1) (w.heap.size+1+1) ([]++[⟨2,0,0,0,⟨#[]⟩⟩]) ([]++[((([]:List Nd).length:Int),false)]) (sl++[false])):=dq (fun W h=>
     ⟨h,HPL.out.2.leaf ⟨2,0,0,0,⟨#[]⟩⟩ rfl (by simp) rfl rfl (by simp)⟩)
    go_wp2_with (fail)
    refine CA.out.mono ?_
    rintro e w2 ⟨rfl,R2⟩
    have HN:=dq (HNX.out w2 R2)
    clear R2
    go_wp2
    go_meet
    exact ⟨_,_,_,by simp,HN,dq (Sh2.of (((show Sh 0 ([]:List Nd) from ⟨Nat.le_refl _,fun x hx=>by simp at hx⟩).add _ (fun h=>absurd h (by decide))).mono (by omega)))⟩
   ·have hz':¬(L0:Int)=0:=by omega
    have hz2:((L0:Int)==0)=false:=by simp;omega
    have h1:1≤fl.length:=by rw [←HL0.out];omega
    clear hz
    go_wp2
    go_meet
    exact ⟨ns,fl,sl,h1,HPL,dq (Sh2.of (HSH.out.mono (by omega)))⟩
  case rest=>
   clear HPL HL0 o1 HSH
   obtain ⟨ns,fl,sl,h1,HPL,HSH⟩:=hcut
   have HONE:=dq h1
   have HFEW:Hid (0+fl.length≤30):=dq (by have:=HPL.out.2.few;omega)
   clear h1
   go_wp2_with (fail)
   go_loopw [15,16,17,18] (fun i _ _ _ wr=>∃ (j:Nat) (ns:List Nd) (fl:List Pr) (sl:List Bool),i=.int .i64 j∧j+fl.length≤30∧1≤fl.length∧Hid (PL w.heap.size w wr w.heap.size (w.heap.size+1) (w.heap.size+1+1) ns fl sl)∧Hid (Sh2 (max 1 len) ns)) (fun _ _ _ _ wr=>zs7 wr (w.heap.size+1))
   case atStart=>exact ⟨0,_,_,_,rfl,HFEW.out,HONE.out,HPL,HSH⟩
   case round=>
    clear HPL HFEW HONE HSH
    obtain ⟨j,ns,fl,sl,rfl,hj,h1,HPL,HSH⟩:=hrel
    have HLA:=dq (zkq HPL.out)
    obtain ⟨q,hq⟩:∃ q,q=ns.length:=⟨_,rfl⟩
    obtain ⟨L,hL⟩:∃ L,L=fl.length:=⟨_,rfl⟩
    have HQ:=dq hq
    have HL:=dq hL
    clear hq hL
    rw [←HL.out] at hj h1
    obtain ⟨⟨pa,pc,oa,oc,sa,sc,M⟩,G⟩:=HPL.out
    have cells:=M.c0 (m:=q) (q:=L) (r:=q) HQ.out.symm (by rw [List.length_map];exact HL.out.symm) (by rw [G.sln];exact HQ.out.symm)
    obtain ⟨p0,o0,s0⟩:=cells
    have hfew:=G.few
    rw [←HQ.out,←HL.out] at hfew
    have HM:=dq M
    have HG:=dq G
    clear M G
    by_cases hmore:1<L
    ·have hmi:(1:Int)<(L:Int):=by omega
     obtain ⟨F,⟨pi,ps⟩,⟨qi,qs⟩,hF⟩:=last_two (fl:=fl) (by rw [←HL.out];omega)
     obtain ⟨m,hm⟩:∃ m,m=F.length:=⟨_,rfl⟩
     have hLm:L=m+2:=by rw [HL.out,hF,hm];simp
     subst hLm
     obtain ⟨jp,e1,e2,e3⟩:=HG.out.tie (pi,ps) (by rw [hF];simp)
     obtain ⟨jq,f1,f2,f3⟩:=HG.out.tie (qi,qs) (by rw [hF];simp)
     simp only at e1 e3 f1 f3
     subst e1 f1
     obtain ⟨g,hoa,d0⟩:=ze3 HM.out.ins (j:=m) (z:=(jp:Int)) (by rw [hF,hm];simp)
     obtain ⟨g',hoa',d1⟩:=ze3 HM.out.ins (j:=m+1) (z:=(jq:Int)) (by rw [hF,hm];simp)
     rw [hoa] at hoa'
     injection hoa' with hoa';injection hoa' with hoa'
     subst hoa'
     obtain ⟨gb,hsa,b0⟩:=ze4 HM.out.bls (j:=jp) (by rw [HG.out.sln];exact e2)
     obtain ⟨gb',hsa',b1⟩:=ze4 HM.out.bls (j:=jq) (by rw [HG.out.sln];exact f2)
     rw [hsa] at hsa'
     injection hsa' with hsa';injection hsa' with hsa'
     subst hsa'
     rw [e3] at b0
     rw [f3] at b1
     rw [←HQ.out] at e2 f2
     have hjp:(jp:Int)<(q:Int):=by omega
     have hjq:(jq:Int)<(q:Int):=by omega
     have hw1:IntKind.i64.wrap ((m:Int)+1)=(m:Int)+1:=IntWalk.i64_in _ (by omega)
     have hw0:IntKind.i64.wrap (m:Int)=(m:Int):=IntWalk.i64_in _ (by omega)
     have ht1:((m:Int)+1).toNat=m+1:=by omega
     have hp1:(0:Int)≤(m:Int)+1:=by omega
     have hp0:(0:Int)≤(m:Int):=by omega
     have hlt1:((m:Int)+1)<(m:Int)+2:=by omega
     have hlt0:(m:Int)<(m:Int)+2:=by omega
     subst hoa hsa
     have HRR:Hid (∀ k,k<len→RowAt wr a zs k):=dq (fun k hk=>zdQ (HR.out k hk) HM.out.bel)
     have CAT:=dq (fun W (h:Hid (∀ k,k<len→RowAt W a zs k))=>zuS a len cap zs j W h)
     have hat:=zp3 a len zs j wr HRR
     obtain ⟨az,haz⟩:∃ az,az=atZ zs len j:=⟨_,rfl⟩
     rw [←haz] at CAT hat
     obtain ⟨k2,hk2⟩:∃ k2:Nat,az % 2=(k2:Int):=⟨(az % 2).toNat,by omega⟩
     have hk22:k2<2:=by omega
     have CW:Hid (∀ W,Calls Tryz.prog 10 #[.int .i64 az,.int .i64 2] W fun e w'=>e=.returned (.int .i64 k2)∧W=w'):=dq (fun W=>by have:=within_mod az 2 W (by omega) (by omega) hat.1 hat.2;rw [show ((2:Nat):Int)=2 from rfl,hk2] at this;exact this)
     have HF:=dq hF
     have HMF:=dq hm
     clear haz hF hm hk2
     cases ps with
     | true=>
      have CA:=dq (fun W (hm:PM w.heap.size w W w.heap.size (w.heap.size+1) (w.heap.size+1+1) ns (fl.map (·.1)) sl pa pc (some ⟨g,0,none⟩) oc (some ⟨gb,0,none⟩) sc)=>zb2 w.heap.size w W w.heap.size (w.heap.size+1) (w.heap.size+1+1) ns (fl.map (·.1)) sl ⟨pa,pc,some ⟨g,0,none⟩,oc,some ⟨gb,0,none⟩,sc,hm⟩ m 2 (by rw [List.length_map,←HL.out]) (by rw [←HQ.out];omega) (by rw [List.length_map,←HL.out];omega) (by rw [HG.out.sln,←HQ.out];omega) (4+(k2:Int)) (jp:Int) (jq:Int) 0 ⟨#[]⟩ true)
      have HNX:Hid (∀ W,zoy w.heap.size w W w.heap.size (w.heap.size+1) (w.heap.size+1+1) (ns++[⟨4+(k2:Int),(jp:Int),(jq:Int),0,⟨#[]⟩⟩]) ((fl.map (·.1)).take m++[(ns.length:Int)]) (sl++[true])→PL w.heap.size w W w.heap.size (w.heap.size+1) (w.heap.size+1+1) (ns++[⟨4+(k2:Int),(jp:Int),(jq:Int),0,⟨#[]⟩⟩]) (F++[((ns.length:Int),true)]) (sl++[true])):=dq (fun W h=>by
       have e:(fl.map (·.1)).take m++[(ns.length:Int)]=(F++[((ns.length:Int),true)]).map (·.1):=by rw [HF.out,HMF.out];simp
       rw [e] at h
       have G:=HG.out
       rw [HF.out] at G
       exact ⟨h,G.two (4+(k2:Int)) (by omega)⟩)
      have HFL:Hid ((F++[((ns.length:Int),true)]).length=m+1):=dq (by rw [HMF.out];simp)
      go_wp2_with (fail)
      go_quiet (fail)
      go_wp2_with (fail)
      refine wp_region_still_tail 19 (by kernel_rfl) (by kernel_rfl) ?_
      change wpStill _ _ (wr.drewN nq).drew (fun a'=>wpList _ _ _ _ a' (wr.drewN nq).drew) _ _
      have HMW:Hid (PM w.heap.size w (wr.drewN nq).drew w.heap.size (w.heap.size+1) (w.heap.size+1+1) ns (fl.map (·.1)) sl pa pc (some ⟨g,0,none⟩) oc (some ⟨gb,0,none⟩) sc):=dq ((HM.out.drewN nq).drew)
      have HRW:Hid (∀ k,k<len→RowAt (wr.drewN nq).drew a zs k):=dq (fun k hk=>zdQ (HRR.out k hk) (zad _ wr (nq+1)))
      have v0:(wr.drewN nq).drew.cell? ⟨w.heap.size+1+1,0,none⟩=some (.slice (some ⟨gb,0,none⟩) q sc):=s0
      have v1:(wr.drewN nq).drew.cell? ⟨gb,jp,none⟩=some (.bool true):=b0
      have v2:(wr.drewN nq).drew.cell? ⟨gb,jq,none⟩=some (.bool qs):=b1
      have hwk:IntKind.i64.wrap (4+(k2:Int))=4+(k2:Int):=IntWalk.i64_in _ (by omega)
      clear p0 o0 s0 d0 d1 b0 b1 HM HRR
      generalize (wr.drewN nq).drew=W at HMW HRW v0 v1 v2 ⊢
      simp only [List.take_succ_cons,List.take_zero,List.drop_succ_cons,List.drop_zero]
      repeat still_step
      still_call ((CAT.out W HRW).mono (fun _ _ ⟨a,b⟩=>⟨a,b.symm⟩))
      repeat still_step
      still_call ((CW.out W).mono (fun _ _ ⟨a,b⟩=>⟨a,b.symm⟩))
      repeat still_step
      refine wpStill_nil ?_
      clear hwk hw1 hw0
      go_wp2_with (fail)
      refine (CA.out W HMW.out).mono ?_
      rintro e w2 ⟨rfl,R2⟩
      have HN:=dq (HNX.out w2 R2)
      have HLA2:=dq (zkq HN.out)
      clear R2
      go_wp2_with (fail)
      go_roundw
      case rel=>exact ⟨j+1,_,_,_,by go_num,by rw [HFL.out];omega,by rw [HFL.out];omega,HN,dq (HSH.out.add _ (by show (4+(k2:Int))=4∨(4+(k2:Int))=5;omega))⟩
      case measure=>rw [HLA2.out,HLA.out,HFL.out,←HL.out];omega
     | false=>
      have CA:=dq (fun W (hm:PM w.heap.size w W w.heap.size (w.heap.size+1) (w.heap.size+1+1) ns (fl.map (·.1)) sl pa pc (some ⟨g,0,none⟩) oc (some ⟨gb,0,none⟩) sc)=>zb2 w.heap.size w W w.heap.size (w.heap.size+1) (w.heap.size+1+1) ns (fl.map (·.1)) sl ⟨pa,pc,some ⟨g,0,none⟩,oc,some ⟨gb,0,none⟩,sc,hm⟩ m 2 (by rw [List.length_map,←HL.out]) (by rw [←HQ.out];omega) (by rw [List.length_map,←HL.out];omega) (by rw [HG.out.sln,←HQ.out];omega) (4+(k2:Int)) (jp:Int) (jq:Int) 0 ⟨#[]⟩ qs)
      have HNX:Hid (∀ W,zoy w.heap.size w W w.heap.size (w.heap.size+1) (w.heap.size+1+1) (ns++[⟨4+(k2:Int),(jp:Int),(jq:Int),0,⟨#[]⟩⟩]) ((fl.map (·.1)).take m++[(ns.length:Int)]) (sl++[qs])→PL w.heap.size w W w.heap.size (w.heap.size+1) (w.heap.size+1+1) (ns++[⟨4+(k2:Int),(jp:Int),(jq:Int),0,⟨#[]⟩⟩]) (F++[((ns.length:Int),qs)]) (sl++[qs])):=dq (fun W h=>by
       have e:(fl.map (·.1)).take m++[(ns.length:Int)]=(F++[((ns.length:Int),qs)]).map (·.1):=by rw [HF.out,HMF.out];simp
       rw [e] at h
       have G:=HG.out
       rw [HF.out] at G
       exact ⟨h,G.two (4+(k2:Int)) (by omega)⟩)
      have HFL:Hid ((F++[((ns.length:Int),qs)]).length=m+1):=dq (by rw [HMF.out];simp)
      go_wp2_with (fail)
      go_quiet (fail)
      go_wp2_with (fail)
      refine wp_region_still_tail 19 (by kernel_rfl) (by kernel_rfl) ?_
      change wpStill _ _ (wr.drewN nq).drew (fun a'=>wpList _ _ _ _ a' (wr.drewN nq).drew) _ _
      have HMW:Hid (PM w.heap.size w (wr.drewN nq).drew w.heap.size (w.heap.size+1) (w.heap.size+1+1) ns (fl.map (·.1)) sl pa pc (some ⟨g,0,none⟩) oc (some ⟨gb,0,none⟩) sc):=dq ((HM.out.drewN nq).drew)
      have HRW:Hid (∀ k,k<len→RowAt (wr.drewN nq).drew a zs k):=dq (fun k hk=>zdQ (HRR.out k hk) (zad _ wr (nq+1)))
      have v0:(wr.drewN nq).drew.cell? ⟨w.heap.size+1+1,0,none⟩=some (.slice (some ⟨gb,0,none⟩) q sc):=s0
      have v1:(wr.drewN nq).drew.cell? ⟨gb,jp,none⟩=some (.bool false):=b0
      have v2:(wr.drewN nq).drew.cell? ⟨gb,jq,none⟩=some (.bool qs):=b1
      have hwk:IntKind.i64.wrap (4+(k2:Int))=4+(k2:Int):=IntWalk.i64_in _ (by omega)
      clear p0 o0 s0 d0 d1 b0 b1 HM HRR
      generalize (wr.drewN nq).drew=W at HMW HRW v0 v1 v2 ⊢
      simp only [List.take_succ_cons,List.take_zero,List.drop_succ_cons,List.drop_zero]
      repeat still_step
      still_call ((CAT.out W HRW).mono (fun _ _ ⟨a,b⟩=>⟨a,b.symm⟩))
      repeat still_step
      still_call ((CW.out W).mono (fun _ _ ⟨a,b⟩=>⟨a,b.symm⟩))
      repeat still_step
      refine wpStill_nil ?_
      clear hwk hw1 hw0
      go_wp2_with (fail)
      refine (CA.out W HMW.out).mono ?_
      rintro e w2 ⟨rfl,R2⟩
      have HN:=dq (HNX.out w2 R2)
      have HLA2:=dq (zkq HN.out)
      clear R2
      go_wp2_with (fail)
      go_roundw
      case rel=>exact ⟨j+1,_,_,_,by go_num,by rw [HFL.out];omega,by rw [HFL.out];omega,HN,dq (HSH.out.add _ (by show (4+(k2:Int))=4∨(4+(k2:Int))=5;omega))⟩
      case measure=>rw [HLA2.out,HLA.out,HFL.out,←HL.out];omega
    ·have hmi:¬(1:Int)<(L:Int):=by omega
     have HD:=dq (HPL.out.done (by rw [←HL.out];omega))
     obtain ⟨nn,hnn⟩:∃ nn,nn=ns.length:=⟨_,rfl⟩
     go_wp2
     go_ret
     rw [HQ.out]
     exact HFIN.out _ ns pa pc HM.out.nds HD.out.1 HD.out.2.1 HD.out.2.2 HG.out.nam HM.out.ap HM.out.bel HSH.out
end Go.Proofs.YtmnkjekjknhhjaaGreatDoor.Q

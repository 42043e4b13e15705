import Derived.Test.YtmnkjekjknhhjaaGreatDoorQCe
namespace Go.Proofs.YtmnkjekjknhhjaaGreatDoor.Q
open Go.ChangeShapes Go.WideShapes Go.ChangeAt Go.RowKit
theorem zaL {a b:Bool} (h:a=b):Ending.returned (.bool a)=.returned (.bool b):=by rw [h]
def chkOut (w:World) (ns:List Nd) (tags:Int) (e:Ending) (w':World):Prop:=e=.returned (.bool (chkB ns tags))∧Below w.heap.size w w'
theorem zox (n:Nat):madeCells #[Value.bool false] n=(zc6 (List.replicate n false)).toArray:=by
 apply Array.ext
 ·simp [madeCells,zc6]
 ·intro i h1 h2
  simp [madeCells,zc6,Nat.mod_one]
set_option maxRecDepth 100000 in
set_option maxHeartbeats 16000000 in
theorem checkPat_any (ns:List Nd) (tags:Int) (a:Option Addr) (c:Nat) (w:World) (N:NodesAt w a ns) (hm:ns.length≤1000000) :
  Calls Tryz.prog 62 #[.slice a ns.length c,.int .i64 tags] w (chkOut w ns tags):=by
 have HN:=dq N
 clear N
 obtain ⟨n,hn⟩:∃ n,n=ns.length:=⟨_,rfl⟩
 rw [←hn] at hm ⊢
 have HL:=dq hn
 by_cases h01:n=0
 ·have HV:Hid (chkB ns tags=false):=dq (by
   have:ns=[]:=List.eq_nil_of_length_eq_zero (by omega)
   subst this;rfl)
  subst h01
  clear hn
  go_enter Tryz.func62,Tryz.ntmps62
  go_wp2
  go_ret
  exact ⟨zaL HV.out.symm,Below.refl _ _⟩
 by_cases h24:n≤24
 ·have HO:Hid (∀ r,oneB (chkL tags 0 ns [])=r→chkB ns tags=r):=dq (fun r h=>by unfold chkB;rw [←hn,decide_eq_true h24,Bool.true_and];exact h)
  have h24':¬(24:Int)<(n:Int):=by omega
  have h1':¬(n:Int)<1:=by omega
  have hmk:=run_make_row' (P:=Tryz.prog) 106 4 (.bool false) 1 Tryz.underlying106 Tryz.info4 rfl .i64 .i64 n (by omega) (by omega)
  rw [zox] at hmk
  have H0:Hid (RefSt w (w.alloc (.cells (zc6 (List.replicate n false)).toArray 4)) ns tags 0 [] none 0 w.heap.size (List.replicate n false)):=dq
   ⟨Ins.nil _,(fun _ e=>nomatch e),Lies.new w 4 _,Nat.le_refl _,(Below.refl _ _).alloc (Nat.le_refl _) _,rfl,Nat.le_refl _,by rw [List.length_replicate,hn],(fun e he=>by cases he),fun j _=>by rw [List.getD_eq_getElem?_getD,List.getElem?_replicate];split<;>rfl⟩
  clear hn
  have hg0:w.heap.size<w.heap.size+1:=by omega
  go_enter Tryz.func62,Tryz.ntmps62
  go_wp2_with (fail)
  go_loopw [4,5,7,8,9,23] (fun _ f _ _ _ i wr=>∃ (k:Nat) (fl:List Pr) (fa:Option Addr) (fc:Nat) (sl:List Bool),k≤n∧i=.int .i64 k∧f=.slice fa fl.length fc∧Hid (RefSt w wr ns tags k fl fa fc w.heap.size sl)) (fun _ _ _ _ _ i _=>n-(intOf i).toNat)
  case atStart=>exact ⟨0,[],none,0,_,Nat.zero_le _,rfl,rfl,H0⟩
  case round=>
   clear H0 hmk
   obtain ⟨k,fl,fa,fc,sl,hk,rfl,rfl,HS⟩:=hrel
   by_cases hlt:k<n
   ·have hkn:k<ns.length:=by have:=HL.out;omega
    obtain ⟨gb,off,hga,p,hgb⟩:=HN.out.below HS.out.bel k hkn
    subst hga
    have c0:=p.c0
    have c1:=p.c1
    have c2:=p.c2
    have c3:=p.c3
    have c4:=p.c4
    have hq:=zus (tags:=tags) (fl:=fl) hkn
    rw [HS.out.eq] at hq
    have HQ:=dq hq
    have hle:=HS.out.ins.le
    rw [List.length_map] at hle
    have hlk:=HS.out.len
    have hsl:sl.length=n:=by rw [HS.out.sln,HL.out]
    have HX:=dq (zpX HS.out.stars HS.out.ins)
    clear p hq
    generalize ns[k]=y at c0 c1 c2 c3 c4 HQ
    obtain ⟨yk,ya,yb,yn,nm⟩:=y
    simp only at c0 c1 c2 c3 c4
    have HB1:Hid (Below w.heap.size w (wr.alloc (.cells #[.int .i64 yk,.int .i64 ya,.int .i64 yb,.int .i64 yn,.string nm] 102))):=dq (HS.out.bel.alloc HS.out.bel.size _)
    have HI1:Hid (Ins (wr.alloc (.cells #[.int .i64 yk,.int .i64 ya,.int .i64 yb,.int .i64 yn,.string nm] 102)) fa fc (fl.map (·.1))):=dq (HS.out.ins.alloc _)
    have HS1:Hid (Lies (wr.alloc (.cells #[.int .i64 yk,.int .i64 ya,.int .i64 yb,.int .i64 yn,.string nm] 102)) w.heap.size 4 (zc6 sl)):=dq (HS.out.stars.alloc _)
    by_cases k12:yk=1∨yk=2
    ·have hst:=step_leaf (tags:=tags) (k:=k) fl (y:=⟨yk,ya,yb,yn,nm⟩) (by unfold partsK;simp only;rw [if_neg (by omega),if_neg (by omega)]) (by simp only;omega)
     have hrb:rightB ⟨yk,ya,yb,yn,nm⟩ tags []=(decide (ya=0) && (decide (yb=0) && decide (yn=0))):=by unfold rightB;exact if_pos k12
     rw [hrb] at hst
     by_cases hall:ya=0∧yb=0∧yn=0
     ·obtain ⟨ha,hb,hnn⟩:=hall
      have HQY:=dq (znF HQ.out (hst.1 (by simp [ha,hb,hnn])))
      have HML:Hid (fl.length≤(fl.map (·.1)).length):=dq (by rw [List.length_map];omega)
      have HMF:Hid (fl.length≤fl.length):=dq (by omega)
      have HT1:Hid (((fl.map (·.1)).take fl.length).length≤1000000):=dq (by rw [List.length_take,List.length_map];omega)
      have HTL:Hid (fl.length=((fl.map (·.1)).take fl.length).length):=dq (by rw [List.length_take,List.length_map];omega)
      have HTF:Hid ((fl.take fl.length).length=fl.length):=dq (by rw [List.length_take];omega)
      clear hst hrb HQ
      subst ha hb hnn
      rcases k12 with rfl | rfl
      ·go_wp2_with (fail)
       go_quiet (fail)
       have HB2:Hid (Below w.heap.size w ((wr.alloc (.cells #[.int .i64 1,.int .i64 0,.int .i64 0,.int .i64 0,.string nm] 102)).drewN nq)):=dq (HB1.out.trans (zad _ _ _))
       have HI2:Hid (Ins ((wr.alloc (.cells #[.int .i64 1,.int .i64 0,.int .i64 0,.int .i64 0,.string nm] 102)).drewN nq) fa fc (fl.map (·.1))):=dq HI1.out
       have HS2:Hid (Lies ((wr.alloc (.cells #[.int .i64 1,.int .i64 0,.int .i64 0,.int .i64 0,.string nm] 102)).drewN nq) w.heap.size 4 (zc6 sl)):=dq HS1.out
       clear HB1 HI1 HS1
       generalize (wr.alloc (.cells #[.int .i64 1,.int .i64 0,.int .i64 0,.int .i64 0,.string nm] 102)).drewN nq=V at HB2 HI2 HS2 ⊢
       go_wp2_with (at_builtin;refine za8 _ rfl _ _ rfl fa fc fl.length _ rfl rfl ((fl.map (·.1)).take fl.length) (k:Int) (Ins.alloc (HI2.out.cut HML.out) _) (Lies.new V 3 (zaR (k:Int))) HT1.out HTL.out ?_;intro a' c' w5 T5 K5 O5;(have HT5:=dq T5);(have HK5:=dq K5);(have HO5:=dq O5);clear T5 K5 O5)
       go_roundw
       case rel=>exact ⟨k+1,fl.take fl.length++[((k:Int),false)],a',c',sl,by omega,by go_num,by rw [List.length_append,HTF.out];rfl,dq (RefSt.next (W:=_) HS.out HB2.out HS2.out HT5.out HK5.out HO5.out HX.out HMF.out HQY.out (HS.out.rest k (Nat.le_refl _)) (fun _ _=>rfl) rfl)⟩
       case measure=>simp [intOf];omega
      ·go_wp2_with (fail)
       go_quiet (fail)
       have HB2:Hid (Below w.heap.size w ((wr.alloc (.cells #[.int .i64 2,.int .i64 0,.int .i64 0,.int .i64 0,.string nm] 102)).drewN nq)):=dq (HB1.out.trans (zad _ _ _))
       have HI2:Hid (Ins ((wr.alloc (.cells #[.int .i64 2,.int .i64 0,.int .i64 0,.int .i64 0,.string nm] 102)).drewN nq) fa fc (fl.map (·.1))):=dq HI1.out
       have HS2:Hid (Lies ((wr.alloc (.cells #[.int .i64 2,.int .i64 0,.int .i64 0,.int .i64 0,.string nm] 102)).drewN nq) w.heap.size 4 (zc6 sl)):=dq HS1.out
       clear HB1 HI1 HS1
       generalize (wr.alloc (.cells #[.int .i64 2,.int .i64 0,.int .i64 0,.int .i64 0,.string nm] 102)).drewN nq=V at HB2 HI2 HS2 ⊢
       go_wp2_with (at_builtin;refine za8 _ rfl _ _ rfl fa fc fl.length _ rfl rfl ((fl.map (·.1)).take fl.length) (k:Int) (Ins.alloc (HI2.out.cut HML.out) _) (Lies.new V 3 (zaR (k:Int))) HT1.out HTL.out ?_;intro a' c' w5 T5 K5 O5;(have HT5:=dq T5);(have HK5:=dq K5);(have HO5:=dq O5);clear T5 K5 O5)
       go_roundw
       case rel=>exact ⟨k+1,fl.take fl.length++[((k:Int),false)],a',c',sl,by omega,by go_num,by rw [List.length_append,HTF.out];rfl,dq (RefSt.next (W:=_) HS.out HB2.out HS2.out HT5.out HK5.out HO5.out HX.out HMF.out HQY.out (HS.out.rest k (Nat.le_refl _)) (fun _ _=>rfl) rfl)⟩
       case measure=>simp [intOf];omega
     ·have HQN:=dq (zd4 HQ.out (hst.2 (by
       by_cases ha:ya=0<;>by_cases hb:yb=0<;>by_cases hc:yn=0<;>simp [ha,hb,hc]<;>exact hall ⟨ha,hb,hc⟩)))
      clear hst hrb HQ
      have hall':¬ya=0∨(ya=0∧¬yb=0)∨(ya=0∧yb=0∧¬yn=0):=by omega
      clear hall
      rcases hall' with h1 | ⟨h1,h2⟩ | ⟨h1,h2,h3⟩
      all_goals
       rcases k12 with rfl | rfl
       all_goals
        (try subst h1)
        (try subst h2)
        go_wp2
        go_ret
        exact ⟨zaL (HO.out _ (by rw [HQN.out];rfl)).symm,by first | exact HB1.out | exact HB1.out.trans (zad _ _ _)⟩
    ·have hne1:¬yk=1:=by omega
     have hne2:¬yk=2:=by omega
     clear k12
     by_cases k3:yk=3
     ·subst k3
      have hst:=step_leaf (tags:=tags) (k:=k) fl (y:=⟨3,ya,yb,yn,nm⟩) rfl (by simp)
      have hrb:rightB ⟨3,ya,yb,yn,nm⟩ tags []=(decide (0≤yn) && (decide (yn<tags) && (decide (1≤ya) && (decide (ya≤999999999) && decide (yb=0))))):=rfl
      rw [hrb] at hst
      by_cases hall:0≤yn∧yn<tags∧1≤ya∧ya≤999999999∧yb=0
      ·obtain ⟨h1,h2,h3,h4,h5⟩:=hall
       have HQY:=dq (znF HQ.out (hst.1 (by simp [h1,h2,h3,h4,h5])))
       have h2':¬tags≤yn:=by omega
       have h3':¬ya<1:=by omega
       have h4':¬999999999<ya:=by omega
       have HML:Hid (fl.length≤(fl.map (·.1)).length):=dq (by rw [List.length_map];omega)
       have HMF:Hid (fl.length≤fl.length):=dq (by omega)
       have HT1:Hid (((fl.map (·.1)).take fl.length).length≤1000000):=dq (by rw [List.length_take,List.length_map];omega)
       have HTL:Hid (fl.length=((fl.map (·.1)).take fl.length).length):=dq (by rw [List.length_take,List.length_map];omega)
       have HTF:Hid ((fl.take fl.length).length=fl.length):=dq (by rw [List.length_take];omega)
       clear hst hrb HQ
       subst h5
       go_wp2_with (fail)
       go_quiet (fail)
       have HB2:Hid (Below w.heap.size w ((wr.alloc (.cells #[.int .i64 3,.int .i64 ya,.int .i64 0,.int .i64 yn,.string nm] 102)).drewN nq)):=dq (HB1.out.trans (zad _ _ _))
       have HI2:Hid (Ins ((wr.alloc (.cells #[.int .i64 3,.int .i64 ya,.int .i64 0,.int .i64 yn,.string nm] 102)).drewN nq) fa fc (fl.map (·.1))):=dq HI1.out
       have HS2:Hid (Lies ((wr.alloc (.cells #[.int .i64 3,.int .i64 ya,.int .i64 0,.int .i64 yn,.string nm] 102)).drewN nq) w.heap.size 4 (zc6 sl)):=dq HS1.out
       clear HB1 HI1 HS1
       generalize (wr.alloc (.cells #[.int .i64 3,.int .i64 ya,.int .i64 0,.int .i64 yn,.string nm] 102)).drewN nq=V at HB2 HI2 HS2 ⊢
       go_wp2_with (at_builtin;refine za8 _ rfl _ _ rfl fa fc fl.length _ rfl rfl ((fl.map (·.1)).take fl.length) (k:Int) (Ins.alloc (HI2.out.cut HML.out) _) (Lies.new V 3 (zaR (k:Int))) HT1.out HTL.out ?_;intro a' c' w5 T5 K5 O5;(have HT5:=dq T5);(have HK5:=dq K5);(have HO5:=dq O5);clear T5 K5 O5)
       go_roundw
       case rel=>exact ⟨k+1,fl.take fl.length++[((k:Int),false)],a',c',sl,by omega,by go_num,by rw [List.length_append,HTF.out];rfl,dq (RefSt.next (W:=_) HS.out HB2.out HS2.out HT5.out HK5.out HO5.out HX.out HMF.out HQY.out (HS.out.rest k (Nat.le_refl _)) (fun _ _=>rfl) rfl)⟩
       case measure=>simp [intOf];omega
      ·have HQN:=dq (zd4 HQ.out (hst.2 (by
        by_cases h1:0≤yn<;>by_cases h2:yn<tags<;>by_cases h3:1≤ya<;>by_cases h4:ya≤999999999<;>by_cases h5:yb=0<;>simp [h1,h2,h3,h4,h5]<;>exact hall ⟨h1,h2,h3,h4,h5⟩)))
       clear hst hrb HQ
       have hall':yn<0∨(0≤yn∧tags≤yn)∨(0≤yn∧¬tags≤yn∧ya<1)∨(0≤yn∧¬tags≤yn∧¬ya<1∧999999999<ya)∨(0≤yn∧¬tags≤yn∧¬ya<1∧¬999999999<ya∧¬yb=0):=by omega
       clear hall
       rcases hall' with h1 | ⟨h1,h2⟩ | ⟨h1,h2,h3⟩ | ⟨h1,h2,h3,h4⟩ | ⟨h1,h2,h3,h4,h5⟩
       rotate_left 4
       ·have h5b:(yb != 0)=true:=by simp [h5]
        have h5c:(yb==0)=false:=by simp [h5]
        go_wp2
        go_ret
        exact ⟨zaL (HO.out _ (by rw [HQN.out];rfl)).symm,by first | exact HB1.out | exact HB1.out.trans (zad _ _ _)⟩
       all_goals
        go_wp2
        go_ret
        exact ⟨zaL (HO.out _ (by rw [HQN.out];rfl)).symm,by first | exact HB1.out | exact HB1.out.trans (zad _ _ _)⟩
     ·by_cases k45:yk=4∨yk=5
      ·by_cases hs2:fl.length<2
       ·have HQN:=dq (zd4 HQ.out (step_short (by unfold partsK;simp only;rw [if_pos k45];exact hs2)))
        have hs2':decide ((fl.length:Int)<2)=true:=by simp;omega
        rcases k45 with rfl | rfl
        all_goals
         go_wp2
         go_ret
         exact ⟨zaL (HO.out _ (by rw [HQN.out];rfl)).symm,by first | exact HB1.out | exact HB1.out.trans (zad _ _ _)⟩
       ·obtain ⟨F,⟨pi,ps⟩,⟨qi,qs⟩,hF⟩:=last_two (fl:=fl) (by omega)
        have hst:=step_two (tags:=tags) (k:=k) (y:=⟨yk,ya,yb,yn,nm⟩) F ⟨pi,ps⟩ ⟨qi,qs⟩ k45
        rw [←hF] at hst
        simp only at hst
        obtain ⟨m,hmF⟩:∃ m,m=F.length:=⟨_,rfl⟩
        have hL:fl.length=m+2:=by rw [hF,hmF];simp
        rw [←hmF] at hst
        obtain ⟨jp,e1,e2,e3⟩:=HS.out.tie (pi,ps) (by rw [hF];simp)
        obtain ⟨jq,f1,f2,f3⟩:=HS.out.tie (qi,qs) (by rw [hF];simp)
        simp only at e1 e3 f1 f3
        subst e1 f1
        have hmapL:(fl.map (·.1)).length=m+2:=by rw [List.length_map,hL]
        have hgp:(fl.map (·.1))[m]? = some (jp:Int):=by simp [hF,hmF]
        have hgq:(fl.map (·.1))[m+1]? = some (jq:Int):=by simp [hF,hmF]
        have hlm:m+2≤24:=by omega
        have HML:Hid (m≤(fl.map (·.1)).length):=dq (by rw [List.length_map];omega)
        have HMF:Hid (m≤fl.length):=dq (by omega)
        have HT1:Hid (((fl.map (·.1)).take m).length≤1000000):=dq (by rw [List.length_take,List.length_map];omega)
        have HTL:Hid (m=((fl.map (·.1)).take m).length):=dq (by rw [List.length_take,List.length_map];omega)
        have HTF:Hid ((fl.take m).length=m):=dq (by rw [List.length_take];omega)
        have HFL:=dq hL
        have hns:decide (((m:Int)+2)<2)=false:=by simp;omega
        clear hF hmF
        rw [hL]
        have hsn2:¬((m:Int)+2<2):=by omega
        by_cases hn0:yn=0
        ·subst hn0
         obtain ⟨g,hfa,r1⟩:=HI1.out.there (j:=m+1) (by omega)
         obtain ⟨g',hfa',r0⟩:=HI1.out.there (j:=m) (by omega)
         rw [hfa] at hfa'
         injection hfa' with hfa';injection hfa' with hfa'
         subst hfa'
         have hb0:=r0.c0
         have hb1:=r1.c0
         rw [(List.getElem?_eq_some_iff.1 hgp).2,Nat.mul_one] at hb0
         rw [(List.getElem?_eq_some_iff.1 hgq).2,Nat.mul_one] at hb1
         have hlt1:((m:Int)+1)<(m:Int)+2:=by omega
         have hlt0:(m:Int)<(m:Int)+2:=by omega
         have hw1:IntKind.i64.wrap ((m:Int)+1)=(m:Int)+1:=IntWalk.i64_in _ (by omega)
         have hw0:IntKind.i64.wrap (m:Int)=(m:Int):=IntWalk.i64_in _ (by omega)
         have ht1:((m:Int)+1).toNat=m+1:=by omega
         have hp1:(0:Int)≤(m:Int)+1:=by omega
         have hp0:(0:Int)≤(m:Int):=by omega
         subst hfa
         by_cases hbq:yb=(jq:Int)
         ·subst hbq
          by_cases hap:ya=(jp:Int)
          ·subst hap
           have HQY:=dq (znF HQ.out (hst.trans (if_pos ⟨rfl,rfl,rfl⟩)))
           clear hst HQ hgp hgq
           rcases k45 with rfl | rfl
           ·cases ps with
            | true=>
             have HN1:Hid (Lies (wr.alloc (.cells #[.int .i64 4,.int .i64 (jp:Int),.int .i64 (jq:Int),.int .i64 0,.string nm] 102)) wr.heap.size 102 [.int .i64 4,.int .i64 (jp:Int),.int .i64 (jq:Int),.int .i64 0,.string nm]):=dq (Lies.new wr 102 _)
             go_wp2_with (fail)
             generalize wr.alloc (.cells #[.int .i64 4,.int .i64 (jp:Int),.int .i64 (jq:Int),.int .i64 0,.string nm] 102)=V at HB1 HI1 HS1 HN1 hb0 hb1 ⊢
             generalize wr.heap.size=nb at HN1 ⊢
             have n1:=HN1.out.cell 1
             have n2:=HN1.out.cell 2
             simp only [List.getElem?_cons_zero,List.getElem?_cons_succ] at n1 n2
             go_quiet (fail)
             have sp:=zaA HS1.out (j:=jp) (by omega)
             have sq:=zaA HS1.out (j:=jq) (by omega)
             rw [e3] at sp
             rw [f3] at sq
             have hjp:(jp:Int)<(n:Int):=by omega
             have hjq:(jq:Int)<(n:Int):=by omega
             have sk:=zaA HS1.out (j:=k) (by omega)
             have fz:=HS1.out.frozen k
             have HB2:Hid (Below w.heap.size w ((V.drewN nq).setCell ⟨w.heap.size,k,none⟩ (.bool true))):=dq ((HB1.out.trans (zad _ _ _)).setCell (Nat.le_refl _) _)
             have HI2:Hid (Ins ((V.drewN nq).setCell ⟨w.heap.size,k,none⟩ (.bool true)) (some ⟨g,0,none⟩) fc (fl.map (·.1))):=dq (Ins.kept (w:=V.drewN nq) HI1.out ((Kept.refl (fun x=>x=w.heap.size) (V.drewN nq)).setCell (fun _=>rfl) _) (fun g' e e2=>HX.out (by rw [e,e2])))
             have HS2:Hid (Lies ((V.drewN nq).setCell ⟨w.heap.size,k,none⟩ (.bool true)) w.heap.size 4 (zc6 (sl.set k true))):=dq (((Lies.drewN HS1.out nq).set k _).to (zes sl k _))
             have hkk:(k:Int)<(n:Int):=by omega
             clear HB1 HI1 HS1 HN1
             go_wp2_with (at_builtin;refine za8 _ rfl _ _ rfl (some ⟨g,0,none⟩) fc m _ rfl rfl ((fl.map (·.1)).take m) (k:Int) (Ins.alloc (HI2.out.cut HML.out) _) (Lies.newAt ((V.drewN nq).setCell ⟨w.heap.size,k,none⟩ (.bool true)) 3 (zaR (k:Int)) (by simp)) HT1.out HTL.out ?_;intro a' c' w5 T5 K5 O5;(have HT5:=dq T5);(have HK5:=dq K5);(have HO5:=dq O5);clear T5 K5 O5)
             go_roundw
             case rel=>exact ⟨k+1,fl.take m++[((k:Int),true)],a',c',sl.set k true,by omega,by go_num,by rw [List.length_append,HTF.out];rfl,dq (RefSt.next (W:=_) HS.out HB2.out HS2.out HT5.out HK5.out HO5.out HX.out HMF.out HQY.out (zbz sl k _ (by omega)) (fun j hj=>zbm sl k j _ hj) (List.length_set ..))⟩
             case measure=>simp [intOf];omega
            | false=>
             have HN1:Hid (Lies (wr.alloc (.cells #[.int .i64 4,.int .i64 (jp:Int),.int .i64 (jq:Int),.int .i64 0,.string nm] 102)) wr.heap.size 102 [.int .i64 4,.int .i64 (jp:Int),.int .i64 (jq:Int),.int .i64 0,.string nm]):=dq (Lies.new wr 102 _)
             go_wp2_with (fail)
             generalize wr.alloc (.cells #[.int .i64 4,.int .i64 (jp:Int),.int .i64 (jq:Int),.int .i64 0,.string nm] 102)=V at HB1 HI1 HS1 HN1 hb0 hb1 ⊢
             generalize wr.heap.size=nb at HN1 ⊢
             have n1:=HN1.out.cell 1
             have n2:=HN1.out.cell 2
             simp only [List.getElem?_cons_zero,List.getElem?_cons_succ] at n1 n2
             go_quiet (fail)
             have sp:=zaA HS1.out (j:=jp) (by omega)
             have sq:=zaA HS1.out (j:=jq) (by omega)
             rw [e3] at sp
             rw [f3] at sq
             have hjp:(jp:Int)<(n:Int):=by omega
             have hjq:(jq:Int)<(n:Int):=by omega
             have sk:=zaA HS1.out (j:=k) (by omega)
             have fz:=HS1.out.frozen k
             have HB2:Hid (Below w.heap.size w ((V.drewN nq).setCell ⟨w.heap.size,k,none⟩ (.bool qs))):=dq ((HB1.out.trans (zad _ _ _)).setCell (Nat.le_refl _) _)
             have HI2:Hid (Ins ((V.drewN nq).setCell ⟨w.heap.size,k,none⟩ (.bool qs)) (some ⟨g,0,none⟩) fc (fl.map (·.1))):=dq (Ins.kept (w:=V.drewN nq) HI1.out ((Kept.refl (fun x=>x=w.heap.size) (V.drewN nq)).setCell (fun _=>rfl) _) (fun g' e e2=>HX.out (by rw [e,e2])))
             have HS2:Hid (Lies ((V.drewN nq).setCell ⟨w.heap.size,k,none⟩ (.bool qs)) w.heap.size 4 (zc6 (sl.set k qs))):=dq (((Lies.drewN HS1.out nq).set k _).to (zes sl k _))
             have hkk:(k:Int)<(n:Int):=by omega
             clear HB1 HI1 HS1 HN1
             go_wp2_with (at_builtin;refine za8 _ rfl _ _ rfl (some ⟨g,0,none⟩) fc m _ rfl rfl ((fl.map (·.1)).take m) (k:Int) (Ins.alloc (HI2.out.cut HML.out) _) (Lies.newAt ((V.drewN nq).setCell ⟨w.heap.size,k,none⟩ (.bool qs)) 3 (zaR (k:Int)) (by simp)) HT1.out HTL.out ?_;intro a' c' w5 T5 K5 O5;(have HT5:=dq T5);(have HK5:=dq K5);(have HO5:=dq O5);clear T5 K5 O5)
             go_roundw
             case rel=>exact ⟨k+1,fl.take m++[((k:Int),qs)],a',c',sl.set k qs,by omega,by go_num,by rw [List.length_append,HTF.out];rfl,dq (RefSt.next (W:=_) HS.out HB2.out HS2.out HT5.out HK5.out HO5.out HX.out HMF.out HQY.out (zbz sl k _ (by omega)) (fun j hj=>zbm sl k j _ hj) (List.length_set ..))⟩
             case measure=>simp [intOf];omega
           ·cases ps with
            | true=>
             have HN1:Hid (Lies (wr.alloc (.cells #[.int .i64 5,.int .i64 (jp:Int),.int .i64 (jq:Int),.int .i64 0,.string nm] 102)) wr.heap.size 102 [.int .i64 5,.int .i64 (jp:Int),.int .i64 (jq:Int),.int .i64 0,.string nm]):=dq (Lies.new wr 102 _)
             go_wp2_with (fail)
             generalize wr.alloc (.cells #[.int .i64 5,.int .i64 (jp:Int),.int .i64 (jq:Int),.int .i64 0,.string nm] 102)=V at HB1 HI1 HS1 HN1 hb0 hb1 ⊢
             generalize wr.heap.size=nb at HN1 ⊢
             have n1:=HN1.out.cell 1
             have n2:=HN1.out.cell 2
             simp only [List.getElem?_cons_zero,List.getElem?_cons_succ] at n1 n2
             go_quiet (fail)
             have sp:=zaA HS1.out (j:=jp) (by omega)
             have sq:=zaA HS1.out (j:=jq) (by omega)
             rw [e3] at sp
             rw [f3] at sq
             have hjp:(jp:Int)<(n:Int):=by omega
             have hjq:(jq:Int)<(n:Int):=by omega
             have sk:=zaA HS1.out (j:=k) (by omega)
             have fz:=HS1.out.frozen k
             have HB2:Hid (Below w.heap.size w ((V.drewN nq).setCell ⟨w.heap.size,k,none⟩ (.bool true))):=dq ((HB1.out.trans (zad _ _ _)).setCell (Nat.le_refl _) _)
             have HI2:Hid (Ins ((V.drewN nq).setCell ⟨w.heap.size,k,none⟩ (.bool true)) (some ⟨g,0,none⟩) fc (fl.map (·.1))):=dq (Ins.kept (w:=V.drewN nq) HI1.out ((Kept.refl (fun x=>x=w.heap.size) (V.drewN nq)).setCell (fun _=>rfl) _) (fun g' e e2=>HX.out (by rw [e,e2])))
             have HS2:Hid (Lies ((V.drewN nq).setCell ⟨w.heap.size,k,none⟩ (.bool true)) w.heap.size 4 (zc6 (sl.set k true))):=dq (((Lies.drewN HS1.out nq).set k _).to (zes sl k _))
             have hkk:(k:Int)<(n:Int):=by omega
             clear HB1 HI1 HS1 HN1
             go_wp2_with (at_builtin;refine za8 _ rfl _ _ rfl (some ⟨g,0,none⟩) fc m _ rfl rfl ((fl.map (·.1)).take m) (k:Int) (Ins.alloc (HI2.out.cut HML.out) _) (Lies.newAt ((V.drewN nq).setCell ⟨w.heap.size,k,none⟩ (.bool true)) 3 (zaR (k:Int)) (by simp)) HT1.out HTL.out ?_;intro a' c' w5 T5 K5 O5;(have HT5:=dq T5);(have HK5:=dq K5);(have HO5:=dq O5);clear T5 K5 O5)
             go_roundw
             case rel=>exact ⟨k+1,fl.take m++[((k:Int),true)],a',c',sl.set k true,by omega,by go_num,by rw [List.length_append,HTF.out];rfl,dq (RefSt.next (W:=_) HS.out HB2.out HS2.out HT5.out HK5.out HO5.out HX.out HMF.out HQY.out (zbz sl k _ (by omega)) (fun j hj=>zbm sl k j _ hj) (List.length_set ..))⟩
             case measure=>simp [intOf];omega
            | false=>
             have HN1:Hid (Lies (wr.alloc (.cells #[.int .i64 5,.int .i64 (jp:Int),.int .i64 (jq:Int),.int .i64 0,.string nm] 102)) wr.heap.size 102 [.int .i64 5,.int .i64 (jp:Int),.int .i64 (jq:Int),.int .i64 0,.string nm]):=dq (Lies.new wr 102 _)
             go_wp2_with (fail)
             generalize wr.alloc (.cells #[.int .i64 5,.int .i64 (jp:Int),.int .i64 (jq:Int),.int .i64 0,.string nm] 102)=V at HB1 HI1 HS1 HN1 hb0 hb1 ⊢
             generalize wr.heap.size=nb at HN1 ⊢
             have n1:=HN1.out.cell 1
             have n2:=HN1.out.cell 2
             simp only [List.getElem?_cons_zero,List.getElem?_cons_succ] at n1 n2
             go_quiet (fail)
             have sp:=zaA HS1.out (j:=jp) (by omega)
             have sq:=zaA HS1.out (j:=jq) (by omega)
             rw [e3] at sp
             rw [f3] at sq
             have hjp:(jp:Int)<(n:Int):=by omega
             have hjq:(jq:Int)<(n:Int):=by omega
             have sk:=zaA HS1.out (j:=k) (by omega)
             have fz:=HS1.out.frozen k
             have HB2:Hid (Below w.heap.size w ((V.drewN nq).setCell ⟨w.heap.size,k,none⟩ (.bool qs))):=dq ((HB1.out.trans (zad _ _ _)).setCell (Nat.le_refl _) _)
             have HI2:Hid (Ins ((V.drewN nq).setCell ⟨w.heap.size,k,none⟩ (.bool qs)) (some ⟨g,0,none⟩) fc (fl.map (·.1))):=dq (Ins.kept (w:=V.drewN nq) HI1.out ((Kept.refl (fun x=>x=w.heap.size) (V.drewN nq)).setCell (fun _=>rfl) _) (fun g' e e2=>HX.out (by rw [e,e2])))
             have HS2:Hid (Lies ((V.drewN nq).setCell ⟨w.heap.size,k,none⟩ (.bool qs)) w.heap.size 4 (zc6 (sl.set k qs))):=dq (((Lies.drewN HS1.out nq).set k _).to (zes sl k _))
             have hkk:(k:Int)<(n:Int):=by omega
             clear HB1 HI1 HS1 HN1
             go_wp2_with (at_builtin;refine za8 _ rfl _ _ rfl (some ⟨g,0,none⟩) fc m _ rfl rfl ((fl.map (·.1)).take m) (k:Int) (Ins.alloc (HI2.out.cut HML.out) _) (Lies.newAt ((V.drewN nq).setCell ⟨w.heap.size,k,none⟩ (.bool qs)) 3 (zaR (k:Int)) (by simp)) HT1.out HTL.out ?_;intro a' c' w5 T5 K5 O5;(have HT5:=dq T5);(have HK5:=dq K5);(have HO5:=dq O5);clear T5 K5 O5)
             go_roundw
             case rel=>exact ⟨k+1,fl.take m++[((k:Int),qs)],a',c',sl.set k qs,by omega,by go_num,by rw [List.length_append,HTF.out];rfl,dq (RefSt.next (W:=_) HS.out HB2.out HS2.out HT5.out HK5.out HO5.out HX.out HMF.out HQY.out (zbz sl k _ (by omega)) (fun j hj=>zbm sl k j _ hj) (List.length_set ..))⟩
             case measure=>simp [intOf];omega
          ·have HQN:=dq (zd4 HQ.out (hst.trans (if_neg (fun h=>hap h.1))))
           have ha1:((jp:Int)==ya)=false:=by simp;omega
           have ha2:((jp:Int) != ya)=true:=by simp;omega
           clear hst HQ hgp hgq
           rcases k45 with rfl | rfl
           ·have HN1:Hid (Lies (wr.alloc (.cells #[.int .i64 4,.int .i64 ya,.int .i64 (jq:Int),.int .i64 0,.string nm] 102)) wr.heap.size 102 [.int .i64 4,.int .i64 ya,.int .i64 (jq:Int),.int .i64 0,.string nm]):=dq (Lies.new wr 102 _)
            go_wp2_with (fail)
            generalize wr.alloc (.cells #[.int .i64 4,.int .i64 ya,.int .i64 (jq:Int),.int .i64 0,.string nm] 102)=V at HB1 HI1 HS1 HN1 hb0 hb1 ⊢
            generalize wr.heap.size=nb at HN1 ⊢
            have n1:=HN1.out.cell 1
            have n2:=HN1.out.cell 2
            simp only [List.getElem?_cons_zero,List.getElem?_cons_succ] at n1 n2
            go_quiet (fail)
            go_wp2
            go_ret
            exact ⟨zaL (HO.out _ (by rw [HQN.out];rfl)).symm,by first | exact HB1.out | exact HB1.out.trans (zad _ _ _)⟩
           ·have HN1:Hid (Lies (wr.alloc (.cells #[.int .i64 5,.int .i64 ya,.int .i64 (jq:Int),.int .i64 0,.string nm] 102)) wr.heap.size 102 [.int .i64 5,.int .i64 ya,.int .i64 (jq:Int),.int .i64 0,.string nm]):=dq (Lies.new wr 102 _)
            go_wp2_with (fail)
            generalize wr.alloc (.cells #[.int .i64 5,.int .i64 ya,.int .i64 (jq:Int),.int .i64 0,.string nm] 102)=V at HB1 HI1 HS1 HN1 hb0 hb1 ⊢
            generalize wr.heap.size=nb at HN1 ⊢
            have n1:=HN1.out.cell 1
            have n2:=HN1.out.cell 2
            simp only [List.getElem?_cons_zero,List.getElem?_cons_succ] at n1 n2
            go_quiet (fail)
            go_wp2
            go_ret
            exact ⟨zaL (HO.out _ (by rw [HQN.out];rfl)).symm,by first | exact HB1.out | exact HB1.out.trans (zad _ _ _)⟩
         ·have HQN:=dq (zd4 HQ.out (hst.trans (if_neg (fun h=>hbq h.2.1))))
          have ha1:((jq:Int)==yb)=false:=by simp;omega
          have ha2:((jq:Int) != yb)=true:=by simp;omega
          clear hst HQ hgp hgq
          rcases k45 with rfl | rfl
          ·have HN1:Hid (Lies (wr.alloc (.cells #[.int .i64 4,.int .i64 ya,.int .i64 yb,.int .i64 0,.string nm] 102)) wr.heap.size 102 [.int .i64 4,.int .i64 ya,.int .i64 yb,.int .i64 0,.string nm]):=dq (Lies.new wr 102 _)
           go_wp2_with (fail)
           generalize wr.alloc (.cells #[.int .i64 4,.int .i64 ya,.int .i64 yb,.int .i64 0,.string nm] 102)=V at HB1 HI1 HS1 HN1 hb0 hb1 ⊢
           generalize wr.heap.size=nb at HN1 ⊢
           have n1:=HN1.out.cell 1
           have n2:=HN1.out.cell 2
           simp only [List.getElem?_cons_zero,List.getElem?_cons_succ] at n1 n2
           go_quiet (fail)
           go_wp2
           go_ret
           exact ⟨zaL (HO.out _ (by rw [HQN.out];rfl)).symm,by first | exact HB1.out | exact HB1.out.trans (zad _ _ _)⟩
          ·have HN1:Hid (Lies (wr.alloc (.cells #[.int .i64 5,.int .i64 ya,.int .i64 yb,.int .i64 0,.string nm] 102)) wr.heap.size 102 [.int .i64 5,.int .i64 ya,.int .i64 yb,.int .i64 0,.string nm]):=dq (Lies.new wr 102 _)
           go_wp2_with (fail)
           generalize wr.alloc (.cells #[.int .i64 5,.int .i64 ya,.int .i64 yb,.int .i64 0,.string nm] 102)=V at HB1 HI1 HS1 HN1 hb0 hb1 ⊢
           generalize wr.heap.size=nb at HN1 ⊢
           have n1:=HN1.out.cell 1
           have n2:=HN1.out.cell 2
           simp only [List.getElem?_cons_zero,List.getElem?_cons_succ] at n1 n2
           go_quiet (fail)
           go_wp2
           go_ret
           exact ⟨zaL (HO.out _ (by rw [HQN.out];rfl)).symm,by first | exact HB1.out | exact HB1.out.trans (zad _ _ _)⟩
        ·have HQN:=dq (zd4 HQ.out (hst.trans (if_neg (fun h=>hn0 h.2.2))))
         clear hgp hgq hst
         rcases k45 with rfl | rfl
         all_goals
          go_wp2
          go_ret
          exact ⟨zaL (HO.out _ (by rw [HQN.out];rfl)).symm,by first | exact HB1.out | exact HB1.out.trans (zad _ _ _)⟩
      ·have hne4:¬yk=4:=by omega
       have hne5:¬yk=5:=by omega
       clear k45
       by_cases k6:yk=6
       ·subst k6
        by_cases hs1:fl.length<1
        ·have HQN:=dq (zd4 HQ.out (step_short (by unfold partsK;exact hs1)))
         have hs1':decide ((fl.length:Int)<1)=true:=by simp;omega
         go_wp2
         go_ret
         exact ⟨zaL (HO.out _ (by rw [HQN.out];rfl)).symm,by first | exact HB1.out | exact HB1.out.trans (zad _ _ _)⟩
        ·obtain ⟨F,⟨pi,ps⟩,hF⟩:=last_one (fl:=fl) (by omega)
         have hst:=step_star (tags:=tags) (k:=k) (y:=⟨6,ya,yb,yn,nm⟩) F ⟨pi,ps⟩ rfl
         rw [←hF] at hst
         simp only at hst
         obtain ⟨m,hmF⟩:∃ m,m=F.length:=⟨_,rfl⟩
         have hL:fl.length=m+1:=by rw [hF,hmF];simp
         rw [←hmF] at hst
         obtain ⟨jp,e1,e2,e3⟩:=HS.out.tie (pi,ps) (by rw [hF];simp)
         simp only at e1 e3
         subst e1
         have hmapL:(fl.map (·.1)).length=m+1:=by rw [List.length_map,hL]
         have hgp:(fl.map (·.1))[m]? = some (jp:Int):=by simp [hF,hmF]
         have hlm:m+1≤24:=by omega
         have HML:Hid (m≤(fl.map (·.1)).length):=dq (by rw [List.length_map];omega)
         have HMF:Hid (m≤fl.length):=dq (by omega)
         have HT1:Hid (((fl.map (·.1)).take m).length≤1000000):=dq (by rw [List.length_take,List.length_map];omega)
         have HTL:Hid (m=((fl.map (·.1)).take m).length):=dq (by rw [List.length_take,List.length_map];omega)
         have HTF:Hid ((fl.take m).length=m):=dq (by rw [List.length_take];omega)
         have HFL:=dq hL
         clear hF hmF
         rw [hL]
         have hsn1:¬((m:Int)+1<1):=by omega
         by_cases hn0:yn=0
         ·subst hn0
          by_cases hb0':yb=0
          ·subst hb0'
           obtain ⟨g,hfa,r0⟩:=HI1.out.there (j:=m) (by omega)
           have hb0:=r0.c0
           rw [(List.getElem?_eq_some_iff.1 hgp).2,Nat.mul_one] at hb0
           have hlt0:(m:Int)<(m:Int)+1:=by omega
           have hw0:IntKind.i64.wrap (m:Int)=(m:Int):=IntWalk.i64_in _ (by omega)
           have hp0:(0:Int)≤(m:Int):=by omega
           subst hfa
           by_cases hap:ya=(jp:Int)
           ·subst hap
            have hjp:(jp:Int)<(n:Int):=by omega
            cases ps with
            | true=>
             have HQN:=dq (zd4 HQ.out (hst.trans (if_neg (fun h=>by cases h.1))))
             have sp:=zaA HS1.out (j:=jp) (by omega)
             rw [e3] at sp
             have HN1:Hid (Lies (wr.alloc (.cells #[.int .i64 6,.int .i64 (jp:Int),.int .i64 0,.int .i64 0,.string nm] 102)) wr.heap.size 102 [.int .i64 6,.int .i64 (jp:Int),.int .i64 0,.int .i64 0,.string nm]):=dq (Lies.new wr 102 _)
             clear hst HQ hgp
             go_wp2_with (fail)
             generalize wr.alloc (.cells #[.int .i64 6,.int .i64 (jp:Int),.int .i64 0,.int .i64 0,.string nm] 102)=V at HB1 HI1 HS1 HN1 hb0 sp ⊢
             generalize wr.heap.size=nb at HN1 ⊢
             have n1:=HN1.out.cell 1
             have n2:=HN1.out.cell 2
             simp only [List.getElem?_cons_zero,List.getElem?_cons_succ] at n1 n2
             go_quiet (fail)
             go_wp2
             go_ret
             exact ⟨zaL (HO.out _ (by rw [HQN.out];rfl)).symm,by first | exact HB1.out | exact HB1.out.trans (zad _ _ _)⟩
            | false=>
             have HQY:=dq (znF HQ.out (hst.trans (if_pos ⟨rfl,rfl,rfl,rfl⟩)))
             clear hst HQ hgp
             have HN1:Hid (Lies (wr.alloc (.cells #[.int .i64 6,.int .i64 (jp:Int),.int .i64 0,.int .i64 0,.string nm] 102)) wr.heap.size 102 [.int .i64 6,.int .i64 (jp:Int),.int .i64 0,.int .i64 0,.string nm]):=dq (Lies.new wr 102 _)
             go_wp2_with (fail)
             generalize wr.alloc (.cells #[.int .i64 6,.int .i64 (jp:Int),.int .i64 0,.int .i64 0,.string nm] 102)=V at HB1 HI1 HS1 HN1 hb0 ⊢
             generalize wr.heap.size=nb at HN1 ⊢
             have n1:=HN1.out.cell 1
             have n2:=HN1.out.cell 2
             simp only [List.getElem?_cons_zero,List.getElem?_cons_succ] at n1 n2
             go_quiet (fail)
             have sp:=zaA HS1.out (j:=jp) (by omega)
             rw [e3] at sp
             have sk:=zaA HS1.out (j:=k) (by omega)
             have fz:=HS1.out.frozen k
             have HB2:Hid (Below w.heap.size w ((V.drewN nq).setCell ⟨w.heap.size,k,none⟩ (.bool true))):=dq ((HB1.out.trans (zad _ _ _)).setCell (Nat.le_refl _) _)
             have HI2:Hid (Ins ((V.drewN nq).setCell ⟨w.heap.size,k,none⟩ (.bool true)) (some ⟨g,0,none⟩) fc (fl.map (·.1))):=dq (Ins.kept (w:=V.drewN nq) HI1.out ((Kept.refl (fun x=>x=w.heap.size) (V.drewN nq)).setCell (fun _=>rfl) _) (fun g' e e2=>HX.out (by rw [e,e2])))
             have HS2:Hid (Lies ((V.drewN nq).setCell ⟨w.heap.size,k,none⟩ (.bool true)) w.heap.size 4 (zc6 (sl.set k true))):=dq (((Lies.drewN HS1.out nq).set k _).to (zes sl k _))
             have hkk:(k:Int)<(n:Int):=by omega
             clear HB1 HI1 HS1 HN1
             go_wp2_with (at_builtin;refine za8 _ rfl _ _ rfl (some ⟨g,0,none⟩) fc m _ rfl rfl ((fl.map (·.1)).take m) (k:Int) (Ins.alloc (HI2.out.cut HML.out) _) (Lies.newAt ((V.drewN nq).setCell ⟨w.heap.size,k,none⟩ (.bool true)) 3 (zaR (k:Int)) (by simp)) HT1.out HTL.out ?_;intro a' c' w5 T5 K5 O5;(have HT5:=dq T5);(have HK5:=dq K5);(have HO5:=dq O5);clear T5 K5 O5)
             go_roundw
             case rel=>exact ⟨k+1,fl.take m++[((k:Int),true)],a',c',sl.set k true,by omega,by go_num,by rw [List.length_append,HTF.out];rfl,dq (RefSt.next (W:=_) HS.out HB2.out HS2.out HT5.out HK5.out HO5.out HX.out HMF.out HQY.out (zbz sl k _ (by omega)) (fun j hj=>zbm sl k j _ hj) (List.length_set ..))⟩
             case measure=>simp [intOf];omega
           ·have HQN:=dq (zd4 HQ.out (hst.trans (if_neg (fun h=>hap h.2.1))))
            have ha1:((jp:Int)==ya)=false:=by simp;omega
            have ha2:((jp:Int) != ya)=true:=by simp;omega
            clear hst HQ hgp
            have HN1:Hid (Lies (wr.alloc (.cells #[.int .i64 6,.int .i64 ya,.int .i64 0,.int .i64 0,.string nm] 102)) wr.heap.size 102 [.int .i64 6,.int .i64 ya,.int .i64 0,.int .i64 0,.string nm]):=dq (Lies.new wr 102 _)
            go_wp2_with (fail)
            generalize wr.alloc (.cells #[.int .i64 6,.int .i64 ya,.int .i64 0,.int .i64 0,.string nm] 102)=V at HB1 HI1 HS1 HN1 hb0 ⊢
            generalize wr.heap.size=nb at HN1 ⊢
            have n1:=HN1.out.cell 1
            have n2:=HN1.out.cell 2
            simp only [List.getElem?_cons_zero,List.getElem?_cons_succ] at n1 n2
            go_quiet (fail)
            go_wp2
            go_ret
            exact ⟨zaL (HO.out _ (by rw [HQN.out];rfl)).symm,by first | exact HB1.out | exact HB1.out.trans (zad _ _ _)⟩
          ·have HQN:=dq (zd4 HQ.out (hst.trans (if_neg (fun h=>hb0' h.2.2.1))))
           have hb1':(yb==0)=false:=by simp [hb0']
           have hb2':(yb != 0)=true:=by simp [hb0']
           clear hst HQ hgp
           go_wp2
           go_ret
           exact ⟨zaL (HO.out _ (by rw [HQN.out];rfl)).symm,by first | exact HB1.out | exact HB1.out.trans (zad _ _ _)⟩
         ·have HQN:=dq (zd4 HQ.out (hst.trans (if_neg (fun h=>hn0 h.2.2.2))))
          have hb1':(yn==0)=false:=by simp [hn0]
          have hb2':(yn != 0)=true:=by simp [hn0]
          clear hst HQ hgp
          go_wp2
          go_ret
          exact ⟨zaL (HO.out _ (by rw [HQN.out];rfl)).symm,by first | exact HB1.out | exact HB1.out.trans (zad _ _ _)⟩
       ·have HQN:Hid (chkL tags 0 ns []=none):=dq (zd4 HQ.out (by
         unfold chkStep
         have hp:partsK yk=0:=by unfold partsK;rw [if_neg (by omega),if_neg k6]
         simp only [hp]
         rw [if_neg (by omega),Nat.sub_zero,List.drop_length]
         have:rightB ⟨yk,ya,yb,yn,nm⟩ tags []=false:=by unfold rightB;simp only;rw [if_neg (by omega),if_neg k3]
         rw [this];simp))
        go_wp2
        go_ret
        exact ⟨zaL (HO.out _ (by rw [HQN.out];rfl)).symm,by first | exact HB1.out | exact HB1.out.trans (zad _ _ _)⟩
   ·obtain rfl:k=n:=by omega
    have HE:Hid (chkL tags 0 ns []=some fl):=dq (by rw [←HS.out.eq,HL.out,List.drop_length];rfl)
    by_cases h1:fl.length=1
    ·have HV:Hid (chkB ns tags=true):=dq (HO.out _ (by
      rw [HE.out]
      match fl,h1 with
      | [p],_=>rfl))
     have h1':(fl.length:Int)=1:=by omega
     clear h1
     go_wp2
     go_ret
     exact ⟨zaL HV.out.symm,HS.out.bel⟩
    ·have HV:Hid (chkB ns tags=false):=dq (HO.out _ (by
      rw [HE.out]
      match fl,h1 with
      | [],_=>rfl
      | _::_::_,_=>rfl))
     have h1':((fl.length:Int)==1)=false:=by simp;omega
     go_wp2
     go_ret
     exact ⟨zaL HV.out.symm,HS.out.bel⟩
 ·have HV:Hid (chkB ns tags=false):=dq (by unfold chkB;rw [←hn,decide_eq_false h24,Bool.false_and])
  have h24':(24:Int)<(n:Int):=by omega
  have h1':¬(n:Int)<1:=by omega
  clear hn
  go_enter Tryz.func62,Tryz.ntmps62
  go_wp2
  go_ret
  exact ⟨zaL HV.out.symm,Below.refl _ _⟩
end Go.Proofs.YtmnkjekjknhhjaaGreatDoor.Q

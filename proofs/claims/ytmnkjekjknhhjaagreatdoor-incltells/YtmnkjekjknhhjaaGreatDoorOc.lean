import Derived.Test.YtmnkjekjknhhjaaGreatDoorNn
namespace Go.Proofs.YtmnkjekjknhhjaaGreatDoor
open Go.ChangeShapes Go.WideShapes Go.ChangeAt Go.RowKit
def setAt (es:List (List Lin)) (a:Int):List Lin:=es.getD a.toNat []
def zau (M:Mr) (es:List (List Lin)) (kd na nb nn:Int):List Lin×Int×Mr:=
 if kd=2 then (zmv,0,M)
 else if kd=3 then ([⟨zc5 nn na,[]⟩],0,M)
 else if kd=4 then (zaT (setAt es na) (setAt es nb),0,M)
 else if kd=5 then zfi M (setAt es na) (setAt es nb)
 else if kd=6 then zbS M (setAt es na)
 else ([],0,M)
def zaU:List Q.Nd→Mr→List (List Lin)→List (List Lin)×Int×Mr
 | [],M,es=>(es,0,M)
 | x::r,M,es=>
  if (spendM M 1).1=true then
   (if (zau (spendM M 1).2 es x.kind x.a x.b x.n).2.1=0 then zaU r (zau (spendM M 1).2 es x.kind x.a x.b x.n).2.2 (es++[(zau (spendM M 1).2 es x.kind x.a x.b x.n).1])
    else ([],(zau (spendM M 1).2 es x.kind x.a x.b x.n).2.1,(zau (spendM M 1).2 es x.kind x.a x.b x.n).2.2))
  else ([],7,(spendM M 1).2)
theorem zdG (M:Mr) (es:List (List Lin)):zaU [] M es=(es,0,M):=rfl
theorem zbv (x:Q.Nd) (r:List Q.Nd) (M:Mr) (es:List (List Lin)):zaU (x::r) M es =
  if (spendM M 1).1=true then
   (if (zau (spendM M 1).2 es x.kind x.a x.b x.n).2.1=0 then zaU r (zau (spendM M 1).2 es x.kind x.a x.b x.n).2.2 (es++[(zau (spendM M 1).2 es x.kind x.a x.b x.n).1])
    else ([],(zau (spendM M 1).2 es x.kind x.a x.b x.n).2.1,(zau (spendM M 1).2 es x.kind x.a x.b x.n).2.2))
  else ([],7,(spendM M 1).2):=rfl
def zgN (M:Mr) (ns:List Q.Nd) (T:Int):List Lin×Int×Mr:=
 if 0≤T∧T≤12∧Q.chkB ns T=true then
  (if (zaU ns M []).2.1=0 then ((zaU ns M []).1.getD (ns.length-1) [],0,(zaU ns M []).2.2) else ([],(zaU ns M []).2.1,(zaU ns M []).2.2))
 else ([],1,M)
theorem zid {M M':Mr} {ns:List Q.Nd} {T q:Int} {l:List (List Lin)} (h:0≤T∧T≤12∧Q.chkB ns T=true) (e:zaU ns M []=(l,q,M')) (hq:q≠0):zgN M ns T=([],q,M'):=by
 unfold zgN
 rw [if_pos h,e,if_neg hq]
theorem zhG {M M':Mr} {ns:List Q.Nd} {T:Int} {l:List (List Lin)} (h:0≤T∧T≤12∧Q.chkB ns T=true) (e:zaU ns M []=(l,0,M')):zgN M ns T=(l.getD (ns.length-1) [],0,M'):=by
 unfold zgN
 rw [if_pos h,e,if_pos rfl]
def zsY (T:TypeId) (mp:Option Addr) (r:List Lin×Int×Mr) (w:World) (e:Ending) (w':World):Prop:=
 ∃ a c,e=.returned (.tuple #[.slice a r.1.length c,.int .i64 r.2.1])∧Lins w' a c r.1∧MrAt w' T mp r.2.2∧MK mp w w'
theorem zjh {T:TypeId} {mp:Option Addr} {r:List Lin×Int×Mr} {q:Int} {M:Mr} {w w':World} (h:r=([],q,M)) (m:MrAt w' T mp M) (k:MK mp w w'):zsY T mp r w (.returned (.tuple #[.slice none 0 0,.int .i64 q])) w':=by
 subst h
 exact ⟨none,0,rfl,Lins.nil _,m,k⟩
theorem zgb {T:Int} {ns:List Q.Nd} (h:Q.chkB ns T=true) {k:Nat} (hk:k<ns.length) {fl:List (Int×Bool)} (hf:Q.chkL T 0 (ns.take k) []=some fl) :
  ∃ fl',Q.chkStep T k ns[k] fl=some fl'∧Q.chkL T 0 (ns.take (k+1)) []=some fl':=by
 have h2:Q.chkL T 0 ns []≠none:=by
  intro e
  unfold Q.chkB at h
  rw [e] at h
  simp [Q.oneB] at h
 have e1:=zkm T (ns.take (k+1)) (ns.drop (k+1)) 0 []
 rw [List.take_append_drop] at e1
 have e2:=zkm T (ns.take k) [ns[k]] 0 []
 rw [←List.take_succ_eq_append_getElem hk,hf] at e2
 have hl:(ns.take k).length=k:=by rw [List.length_take];omega
 rw [hl] at e2
 cases hs:Q.chkStep T k ns[k] fl with
 | none=>
  exfalso
  have e3:Q.chkL T 0 (ns.take (k+1)) []=none:=by
   rw [e2]
   show Q.chkL T (0+k) [ns[k]] fl=none
   unfold Q.chkL
   rw [Nat.zero_add,hs]
  rw [e3] at e1
  exact h2 e1
 | some fl'=>
  refine ⟨fl',rfl,?_⟩
  rw [e2]
  show Q.chkL T (0+k) [ns[k]] fl=some fl'
  unfold Q.chkL
  rw [Nat.zero_add,hs]
  rfl
theorem zcM {T:Int} {k:Nat} {x:Q.Nd} {fl fl':List (Int×Bool)} (h:Q.chkStep T k x fl=some fl') :
  ((x.kind=1∨x.kind=2)∧fl'=fl++[((k:Int),false)])∨
  (x.kind=3∧0≤x.n∧x.n<T∧1≤x.a∧x.a≤999999999∧fl'=fl++[((k:Int),false)])∨
  ((x.kind=4∨x.kind=5)∧∃ F p q,fl=F++[p,q]∧x.a=p.1∧x.b=q.1∧fl'=F++[((k:Int),p.2 || q.2)])∨
  (x.kind=6∧∃ F p,fl=F++[p]∧x.a=p.1∧fl'=F++[((k:Int),true)]):=by
 by_cases h45:x.kind=4∨x.kind=5
 ·have hp:Q.partsK x.kind=2:=by unfold Q.partsK;rw [if_pos h45]
  by_cases hl:fl.length<2
  ·rw [Q.step_short (by rw [hp];exact hl)] at h;cases h
  ·obtain ⟨F,p,q,rfl⟩:=Q.last_two (fl:=fl) (by omega)
   rw [Q.step_two F p q h45] at h
   split at h
   ·next hh=>
    refine .inr (.inr (.inl ⟨h45,F,p,q,rfl,hh.1,hh.2.1,?_⟩))
    injection h with h
    rw [←h];simp
   ·cases h
 ·by_cases h6:x.kind=6
  ·have hp:Q.partsK x.kind=1:=by unfold Q.partsK;rw [if_neg h45,if_pos h6]
   by_cases hl:fl.length<1
   ·rw [Q.step_short (by rw [hp];exact hl)] at h;cases h
   ·obtain ⟨F,p,rfl⟩:=Q.last_one (fl:=fl) (by omega)
    rw [Q.step_star F p h6] at h
    split at h
    ·next hh=>
     refine .inr (.inr (.inr ⟨h6,F,p,rfl,hh.2.1,?_⟩))
     injection h with h
     rw [←h];simp
    ·cases h
  ·have hp:Q.partsK x.kind=0:=by unfold Q.partsK;rw [if_neg h45,if_neg h6]
   obtain ⟨s1,s2⟩:=Q.step_leaf (tags:=T) (k:=k) (y:=x) fl hp h6
   cases hr:Q.rightB x T [] with
   | false=>rw [s2 hr] at h;cases h
   | true=>
    have e:=s1 hr
    rw [h] at e
    injection e with e
    rw [List.take_length] at e
    unfold Q.rightB at hr
    by_cases h12:x.kind=1∨x.kind=2
    ·exact .inl ⟨h12,e⟩
    ·rw [if_neg h12] at hr
     by_cases h3:x.kind=3
     ·rw [if_pos h3] at hr
      simp only [Bool.and_eq_true,decide_eq_true_eq] at hr
      exact .inr (.inl ⟨h3,hr.1,hr.2.1,hr.2.2.1,hr.2.2.2.1,e⟩)
     ·rw [if_neg h3] at hr;cases hr
set_option maxRecDepth 100000 in
set_option maxHeartbeats 16000000 in
theorem zsZ (T:Int) (mp a:Option Addr) (c:Nat) (ns:List Q.Nd) (M:Mr) (w:World) (h0:MrAt w 41 mp M) (hM:M≠none) (P:Q.Nds w a c ns) (hc:Q.chkB ns T=true) (hT0:0≤T) (hT1:T≤12) (h1:1≤ns.length) (h24:ns.length≤24) :
  Calls Tryz.prog 35 #[.pointer mp,.slice a ns.length c,.int .i64 T] w (zsY 41 mp (zgN M ns T) w):=by
 have HCT:Hid (0≤T∧T≤12∧Q.chkB ns T=true):=dq ⟨hT0,by omega,hc⟩
 have hle:=P.le
 have Z:=Q.checkPat_any ns T a c w P.at (by omega)
 unfold Q.chkOut at Z
 rw [hc] at Z
 generalize hn:ns.length=n at hle Z h1 h24 ⊢
 have HN:=dq hn
 have HP:=dq P
 have HC:=dq hc
 have HMM:=dq h0
 have HNM:=dq hM
 have HZ:=dq Z
 clear P hc hn h0 hM Z
 go_enter Tryz.func35,Tryz.ntmps35
 go_wp2_with (fail)
 refine HZ.out.mono ?_
 rintro e w1 ⟨rfl,b1⟩
 have HP1:=dq (HP.out.below b1)
 have HS1:Hid (NoSt w mp none 0 0 [] [] M w1):=dq ⟨(MK.refl mp w).then b1,Row.nil _ _,fun e h=>by simp at h,rfl,From.none _,HMM.out.below b1,HNM.out,trivial,fun e h=>by simp at h⟩
 clear b1 HZ HP HMM
 go_wp2
 go_loopw [6,7,8,27] (fun r er l i wr=>∃ (k:Nat) (la:Option Addr) (lc:Nat) (es:List Sx) (fl:List (Int×Bool)) (Mi:Mr),k≤n∧r=.slice none 0 0∧er=.int .i64 0∧l=.slice la k lc∧i=.int .i64 k∧Hid (NoSt w mp la lc k es fl Mi wr)∧Hid (Q.chkL T 0 (ns.take k) []=some fl)∧Hid (Q.Nds wr a c ns)∧Hid (zaU ns M []=zaU (ns.drop k) Mi (sxs es))) (fun _ _ _ i _=>n-(intOf i).toNat)
 case atStart=>exact ⟨0,none,0,[],[],M,Nat.zero_le _,rfl,rfl,rfl,rfl,HS1,dq rfl,HP1,dq rfl⟩
 case round=>
  obtain ⟨k,la,lc,es,fl,Mi,hk,rfl,rfl,rfl,rfl,HT,HF,HD,HGG⟩:=hrel
  have hlo:=HT.out.row.le
  rw [zic,HT.out.num] at hlo
  by_cases hlt:k<n
  ·have hk':k<ns.length:=by rw [HN.out];exact hlt
   obtain ⟨fl',hst,hf'⟩:=zgb HC.out hk' HF.out
   have HKN:=dq (zcM hst)
   have HF':=dq hf'
   obtain ⟨g,rfl,X⟩:=HD.out.there hk'
   have x0:=X.c0
   have x1:=X.c1
   have x2:=X.c2
   have x3:=X.c3
   have x4:=X.c4
   have hgo:=HGG.out
   rw [List.drop_eq_getElem_cons hk',zbv] at hgo
   clear X hst hf'
   generalize (ns[k]).kind=kd at x0 HKN hgo
   generalize (ns[k]).a=na at x1 HKN hgo
   generalize (ns[k]).b=nb at x2 HKN hgo
   generalize (ns[k]).n=nn at x3 HKN hgo
   generalize (ns[k]).name=nm at x4
   have bb:=below_alloc wr (.cells #[.int .i64 kd,.int .i64 na,.int .i64 nb,.int .i64 nn,.string nm] 102)
   have HTW:=dq (HT.out.below bb)
   have HDW:=dq (HD.out.below bb)
   have HL:=dq (Lies.new wr 102 [.int .i64 kd,.int .i64 na,.int .i64 nb,.int .i64 nn,.string nm])
   clear bb hk'
   go_upto_region 7 with (fail)
   clear x0 x1 x2 x3 x4 HT HD
   generalize wr.alloc (.cells #[.int .i64 kd,.int .i64 na,.int .i64 nb,.int .i64 nn,.string nm] 102)=W at HTW HDW HL ⊢
   generalize wr.heap.size=gb at HL ⊢
   have Z:Calls Tryz.prog _ #[.pointer mp,.int .i64 1] W _:=zkg mp Mi 1 W HTW.out.met HTW.out.some
   unfold zch at Z
   have HNE:=dq (zdF (n:=1) HTW.out.some)
   generalize spendM Mi 1=q at Z HNE hgo
   obtain ⟨v,M1⟩:=q
   dsimp only at hgo
   have HGO:=dq hgo
   clear hgo
   have HZ:=dq Z
   clear Z
   go_wp2_with (fail)
   refine HZ.out.mono ?_
   rintro e W2 ⟨rfl,m2,k2⟩
   have HT2:=dq (HTW.out.turn k2 m2 HNE.out)
   have gne:∀ {X:List Value},Lies W gb 102 X→mp≠some ⟨gb,0,none⟩:=fun l e2=>by
    rcases HTW.out.met.form with h | ⟨b,h,cs,l2⟩
    ·rw [h] at e2;cases e2
    ·rw [h] at e2;injection e2 with e2;injection e2 with e2;subst e2
     exact l.other l2 (by decide) rfl
   have HL2:=dq (HL.out.kept k2 (gne HL.out))
   have HD2:Hid (Q.Nds W2 (some ⟨g,0,none⟩) c ns):=dq (HDW.out.kept k2 (fun g' eg e2=>by
    rcases HTW.out.met.form with h | ⟨b,h,cs,l2⟩
    ·rw [h] at e2;cases e2
    ·rcases HDW.out with ⟨h3,_⟩ | ⟨g3,sp,h3,_,_,_,l3⟩
     ·cases h3
     ·rw [h3] at eg;injection eg with eg;injection eg with eg;subst eg
      rw [h] at e2;injection e2 with e2;injection e2 with e2;subst e2
      exact Lies.other l2 l3 (by decide) rfl))
   clear m2 k2 HZ gne HTW HDW HL
   cases v with
   | false=>
    have HO:=dq (zjh (q:=7) (zid HCT.out (HGO.out.trans (if_neg Bool.false_ne_true)) (by decide)) HT2.out.met HT2.out.mks)
    go_wp2
    exact bodyPost_ret (v:=.tuple #[.slice none 0 0,.int .i64 7]) (by simp [results,Tryz.results35,go_sem]) rfl HO.out
   | true=>
    have y0:W2.cell? ⟨gb,0,none⟩=some (.int .i64 kd):=HL2.out.cell 0
    have y1:W2.cell? ⟨gb,1,none⟩=some (.int .i64 na):=HL2.out.cell 1
    have y2:W2.cell? ⟨gb,2,none⟩=some (.int .i64 nb):=HL2.out.cell 2
    have y3:W2.cell? ⟨gb,3,none⟩=some (.int .i64 nn):=HL2.out.cell 3
    have hk24:k<24:=by omega
    go_upto_block 2 with (fail)
    go_cut [11,12] from 36 to 89 (fun p er wx=>∃ (sa:Option Addr) (sc q:Nat) (e0:Int) (x:List Lin) (M':Mr),p=.slice sa q sc∧er=.int .i64 e0∧Hid (x.length=q)∧Hid (Lins wx sa sc x)∧Hid (MrAt wx 41 mp M'∧M'≠none)∧Hid (MK mp W2 wx)∧Hid (e0=0→Stk (sxs es++[x]) fl' (k+1)∧Good 24 x)∧Hid ((x,e0,M')=zau M1 (sxs es) kd na nb nn))
    case first=>
     rcases HKN.out with ⟨rfl | rfl,hfl⟩ | ⟨rfl,h2,h3,h4,h5,hfl⟩ | ⟨h45,F,p,q,hF,hp,hq,hfl⟩ | ⟨rfl,F,p,hF,hp,hfl⟩
     ·have HO:Hid (Stk (sxs es++[[]]) fl' (k+1)∧Good 24 []):=dq (by rw [hfl];exact zeY HT2.out.stk (by rw [zdx,HT2.out.num]) hk24 (zny 1))
      clear hfl
      go_wp2
      go_meet
      exact ⟨none,0,0,0,[],M1,rfl,rfl,dq rfl,dq (Lins.nil _),dq ⟨HT2.out.met,HT2.out.some⟩,dq (MK.refl _ _),dq (fun _=>HO.out),dq (by simp [zau])⟩
     ·have HO:Hid (Stk (sxs es++[zmv]) fl' (k+1)∧Good 24 zmv):=dq (by rw [hfl];exact zeY HT2.out.stk (by rw [zdx,HT2.out.num]) hk24 (znz 1))
      clear hfl
      go_wp2_with (fail)
      refine (zrA _).mono ?_
      rintro e w3 ⟨sa,sc,rfl,A3⟩
      have HA3:=dq A3
      clear A3
      go_wp2
      go_meet
      exact ⟨sa,sc,1,0,zmv,M1,rfl,rfl,dq rfl,dq ⟨_,rfl,HA3.out.row⟩,dq ⟨HT2.out.met.below HA3.out.bel,HT2.out.some⟩,dq ((MK.refl _ _).then HA3.out.bel),dq (fun _=>HO.out),dq (by simp [zau])⟩
     ·have HO:Hid (Stk (sxs es++[[⟨zc5 nn na,[]⟩]]) fl' (k+1)∧Good 24 [⟨zc5 nn na,[]⟩]):=dq (by rw [hfl];exact zeY HT2.out.stk (by rw [zdx,HT2.out.num]) hk24 (zki h2 (by omega) h4 h5))
      have HX:Hid (([⟨zc5 nn na,[]⟩],0,M1)=zau M1 (sxs es) 3 na nb nn):=dq (by simp [zau])
      clear hfl h2 h3 h4 h5
      have HZ:=dq (zsA nn na W2)
      go_wp2_with (fail)
      refine HZ.out.mono ?_
      rintro e w3 ⟨ba,bc,rfl,B3,_,b3⟩
      have HB3:=dq B3
      have Hb3:=dq b3
      have hlb:=B3.le
      clear B3 b3 HZ
      generalize hob:zc5 nn na=ob at HB3 hlb HO HX ⊢
      generalize hol:ob.length=ol at hlb ⊢
      have HOL:=dq hol
      clear hob hol
      go_wp2
      go_meet
      have bx:=below_alloc w3 (.cells #[.slice ba ol bc,.slice none 0 0] 53)
      have rn:=zeX (V:=w3) ⟨ba,bc,none,0,⟨ob,[]⟩⟩ ol 0 HOL.out rfl
      exact ⟨_,1,1,0,[⟨ob,[]⟩],M1,rfl,rfl,dq rfl,dq ⟨[⟨ba,bc,none,0,⟨ob,[]⟩⟩],rfl,rn,fun l hl=>by
       obtain rfl:=List.mem_singleton.1 hl
       exact ⟨HB3.out.below bx,Bags.nil _⟩⟩,dq ⟨(HT2.out.met.below Hb3.out).below bx,HT2.out.some⟩,dq (((MK.refl _ _).then Hb3.out).then bx),dq (fun _=>HO.out),HX⟩
     ·have hstk:=HT2.out.stk
      rw [hF] at hstk
      obtain ⟨u,wa,wb,i,j,huv,SF,hi,hil,gi,hj,hjl,gj⟩:=zln hstk
      rw [hi] at hp
      rw [hj] at hq
      subst hp;subst hq
      obtain ⟨gl,ai,ci,rfl,hgl,di,Li⟩:=HT2.out.at hil
      obtain ⟨gl',aj,cj,e2,_,dj,Lj⟩:=HT2.out.at hjl
      injection e2 with e2;injection e2 with e2;subst e2
      rw [zdx,HT2.out.num] at hil hjl
      have HSF:=dq SF
      have HGI:=dq gi
      have HGJ:=dq gj
      have HLI:=dq Li
      have HLJ:=dq Lj
      have HFL:=dq hfl
      have ltb:=HL2.out.lt
      have b0:Below W2.heap.size W2 W2.drew:=⟨rfl,rfl,rfl,Nat.le_refl _,fun _ _=>rfl⟩
      have hi1:=gi.few
      have hj1:=gj.few
      have hab:wa+wb≤24:=by omega
      have pa:=zaD (show wa≤24 by omega)
      have pb:=zaD (show wb≤24 by omega)
      have hpi:∀ t,(zab ((sxs es).getD i []) t).ps.length≤2 ^ wa:=fun t=>by
       unfold zab
       rw [List.getD_eq_getElem?_getD]
       by_cases ht:t<((sxs es).getD i []).length
       ·rw [List.getElem?_eq_getElem ht];exact (gi.each _ (List.getElem_mem ht)).few
       ·rw [List.getElem?_eq_none (by omega)];exact Nat.zero_le _
      have hpj:∀ t,(zab ((sxs es).getD j []) t).ps.length≤2 ^ wb:=fun t=>by
       unfold zab
       rw [List.getD_eq_getElem?_getD]
       by_cases ht:t<((sxs es).getD j []).length
       ·rw [List.getElem?_eq_getElem ht];exact (gj.each _ (List.getElem_mem ht)).few
       ·rw [List.getElem?_eq_none (by omega)];exact Nat.zero_le _
      have hpij:∀ t,(zab ((sxs es).getD i []++(sxs es).getD j []) t).ps.length≤100000000000:=fun t=>by
       unfold zab
       rw [List.getD_eq_getElem?_getD]
       by_cases ht:t<((sxs es).getD i []++(sxs es).getD j []).length
       ·rw [List.getElem?_eq_getElem ht]
        rcases List.mem_append.1 (List.getElem_mem ht) with hm | hm
        ·have:=(gi.each _ hm).few
         simp only [Option.getD_some]
         omega
        ·have:=(gj.each _ hm).few
         simp only [Option.getD_some]
         omega
       ·rw [List.getElem?_eq_none (by omega)];exact Nat.zero_le _
      rcases h45 with rfl | rfl
      ·have Z:=zrB ai aj ci cj _ _ W2.drew (Li.below b0) (Lj.below b0) (by omega) hpij
       have HO:Hid (Stk (sxs es++[zaT ((sxs es).getD i []) ((sxs es).getD j [])]) fl' (k+1)∧Good 24 (zaT ((sxs es).getD i []) ((sxs es).getD j []))):=dq (by rw [hfl];exact zeZ SF (by rw [zdx,HT2.out.num]) (by omega) hk24 (znA gi gj))
       generalize hun:zaT ((sxs es).getD i []) ((sxs es).getD j [])=un at Z HO
       have HX:Hid ((un,0,M1)=zau M1 (sxs es) 4 (i:Int) (j:Int) nn):=dq (by rw [←hun];simp [zau,setAt])
       clear hun
       have hbi:=Li.le
       have hbj:=Lj.le
       generalize ((sxs es).getD i []).length=li at Z di hbi
       generalize ((sxs es).getD j []).length=lj at Z dj hbj
       have HZ:=dq Z
       clear Z hF hfl SF gi gj Li Lj hi hj huv hstk hi1 hj1 pa pb hpi hpj hpij b0
       have i1:(0:Int)≤(i:Int):=by omega
       have i2:(i:Int)<(k:Int):=by omega
       have j1:(0:Int)≤(j:Int):=by omega
       have j2:(j:Int)<(k:Int):=by omega
       go_upto_region 17 with (fail)
       go_region_held3 (fun w'=>w'.cell? ⟨gb,1,none⟩=some (.int .i64 i)∧w'.cell? ⟨gb,2,none⟩=some (.int .i64 j)∧w'.cell? ⟨gl,i,none⟩=some (.slice ai li ci)∧w'.cell? ⟨gl,j,none⟩=some (.slice aj lj cj))
        (first | (exact ⟨y1,y2,di,dj⟩) | (exact ⟨z1,z2,zi,zj⟩) | go_keep)
        (first
         | (go_at_call 66;refine HZ.out.mono ?_;rintro e w3 ⟨a3,c3,rfl,L3,F3,b3⟩;(replace b3:Below W2.heap.size W2 w3:=undrew b3);(have z1:=(b3.cell (p:=⟨gb,1,none⟩) ltb).trans y1);(have z2:=(b3.cell (p:=⟨gb,2,none⟩) ltb).trans y2);(have zi:=(b3.cell (p:=⟨gl,i,none⟩) hgl).trans di);(have zj:=(b3.cell (p:=⟨gl,j,none⟩) hgl).trans dj);(have hb3:=L3.le)))
       have HL3:=dq L3
       have Hb3:=dq b3
       clear L3 b3 F3 z1 z2 zi zj di dj y0 y1 y2 y3
       generalize hul:un.length=ul at hb3 ⊢
       have HUL:=dq hul
       clear hul
       go_wp2
       go_meet
       exact ⟨a3,c3,ul,0,un,M1,rfl,rfl,HUL,HL3,dq ⟨HT2.out.met.below Hb3.out,HT2.out.some⟩,dq ((MK.refl _ _).then Hb3.out),dq (fun _=>HO.out),HX⟩
      ·have gc:=znB gi gj (by omega)
       have Z:=zun mp ai aj ci cj M1 _ _ W2.drew (HT2.out.met.below b0) HT2.out.some (Li.below b0) (Lj.below b0) (Nat.le_trans (Nat.mul_le_mul hi1 hj1) (by rw [←Nat.pow_add];have:=zaD hab;omega)) (fun s t=>by have:=hpi s;have:=hpj t;omega)
       have HO:Hid ((zfi M1 ((sxs es).getD i []) ((sxs es).getD j [])).2.1=0→Stk (sxs es++[(zfi M1 ((sxs es).getD i []) ((sxs es).getD j [])).1]) fl' (k+1)∧Good 24 (zfi M1 ((sxs es).getD i []) ((sxs es).getD j [])).1):=dq (fun h=>by rw [hfl,zmz h];exact zeZ SF (by rw [zdx,HT2.out.num]) (by omega) hk24 gc.2)
       have HNE2:=dq (zsW (s:=(sxs es).getD i []) (t:=(sxs es).getD j []) HT2.out.some)
       generalize hr:zfi M1 ((sxs es).getD i []) ((sxs es).getD j [])=r at Z HO HNE2
       have HX:Hid (r=zau M1 (sxs es) 5 (i:Int) (j:Int) nn):=dq (by rw [←hr];simp [zau,setAt])
       clear hr
       obtain ⟨un,e0,M2⟩:=r
       have hbi:=Li.le
       have hbj:=Lj.le
       generalize ((sxs es).getD i []).length=li at Z di hbi
       generalize ((sxs es).getD j []).length=lj at Z dj hbj
       have HZ:=dq Z
       clear Z hF hfl SF gi gj Li Lj hi hj huv hstk hi1 hj1 pa pb hpi hpj hpij gc b0
       have i1:(0:Int)≤(i:Int):=by omega
       have i2:(i:Int)<(k:Int):=by omega
       have j1:(0:Int)≤(j:Int):=by omega
       have j2:(j:Int)<(k:Int):=by omega
       have nb1:mp≠some ⟨gb,0,none⟩:=fun e2=>by
        rcases HT2.out.met.form with h | ⟨b,h,cs,l2⟩
        ·rw [h] at e2;cases e2
        ·rw [h] at e2;injection e2 with e2;injection e2 with e2;subst e2
         exact HL2.out.other l2 (by decide) rfl
       have nb2:mp≠some ⟨gl,0,none⟩:=zjg HT2.out.met (by decide) HT2.out.row rfl
       go_upto_region 19 with (fail)
       go_region_held3 (fun w'=>w'.cell? ⟨gb,1,none⟩=some (.int .i64 i)∧w'.cell? ⟨gb,2,none⟩=some (.int .i64 j)∧w'.cell? ⟨gl,i,none⟩=some (.slice ai li ci)∧w'.cell? ⟨gl,j,none⟩=some (.slice aj lj cj))
        (first | (exact ⟨y1,y2,di,dj⟩) | (exact ⟨z1,z2,zi,zj⟩) | go_keep)
        (first
         | (go_at_call 67;refine HZ.out.mono ?_;rintro e w3 ⟨a3,c3,ls,hls,rfl,L3,F3,_,m3,k3⟩;(replace k3:MK mp W2 w3:=⟨k3.os,k3.tape,k3.output,k3.size,k3.block⟩);(have z1:=(zaW k3 (p:=⟨gb,1,none⟩) ltb nb1).trans y1);(have z2:=(zaW k3 (p:=⟨gb,2,none⟩) ltb nb1).trans y2);(have zi:=(zaW k3 (p:=⟨gl,i,none⟩) hgl nb2).trans di);(have zj:=(zaW k3 (p:=⟨gl,j,none⟩) hgl nb2).trans dj);(have hb3:=L3.row.le);(have HL3:Hid (Lins w3 a3 c3 un):=dq ⟨ls,hls,L3⟩);(have hul:ls.length=un.length:=by rw [←zaG,hls])))
       have Hm3:=dq m3
       have Hk3:=dq k3
       rw [hul] at hb3
       clear L3 k3 m3 F3 z1 z2 zi zj di dj y0 y1 y2 y3 hls hul
       generalize hul:un.length=ul at hb3 ⊢
       have HUL:=dq hul
       clear hul
       go_wp2
       go_meet
       exact ⟨a3,c3,ul,e0,un,M2,rfl,rfl,HUL,HL3,dq ⟨Hm3.out,HNE2.out⟩,Hk3,HO,HX⟩
     ·have hstk:=HT2.out.stk
      rw [hF] at hstk
      obtain ⟨u,wa,i,huv,SF,hi,hil,gi⟩:=znE hstk
      rw [hi] at hp
      subst hp
      obtain ⟨gl,ai,ci,rfl,hgl,di,Li⟩:=HT2.out.at hil
      rw [zdx,HT2.out.num] at hil
      have hi1:=gi.few
      have pa:=zaD (show wa≤24 by omega)
      have Z:=zsX mp ai ci M1 _ W2 HT2.out.met HT2.out.some Li (by omega)
      have HO:Hid ((zbS M1 ((sxs es).getD i [])).2.1=0→Stk (sxs es++[(zbS M1 ((sxs es).getD i [])).1]) fl' (k+1)∧Good 24 (zbS M1 ((sxs es).getD i [])).1):=dq (fun h=>by rw [hfl,znC h];exact zeZ SF (by rw [zdx,HT2.out.num]) (by omega) hk24 (zlm gi))
      have HNE2:Hid ((zbS M1 ((sxs es).getD i [])).2.2≠none):=dq (by
       unfold zbS
       split
       ·split
        ·exact zdF HT2.out.some
        ·exact zdF HT2.out.some
       ·exact HT2.out.some)
      generalize hr:zbS M1 ((sxs es).getD i [])=r at Z HO HNE2
      have HX:Hid (r=zau M1 (sxs es) 6 (i:Int) nb nn):=dq (by rw [←hr];simp [zau,setAt])
      clear hr
      obtain ⟨un,e0,M2⟩:=r
      have hbi:=Li.le
      generalize ((sxs es).getD i []).length=li at Z di hbi
      have HZ:=dq Z
      clear Z hF hfl SF gi Li hi huv hstk hi1 pa
      have i1:(0:Int)≤(i:Int):=by omega
      have i2:(i:Int)<(k:Int):=by omega
      go_wp2_with (fail)
      refine HZ.out.mono ?_
      rintro e w3 ⟨a3,c3,ls,hls,rfl,L3,F3,_,m3,k3⟩
      have hb3:=L3.row.le
      have HL3:Hid (Lins w3 a3 c3 un):=dq ⟨ls,hls,L3⟩
      have hul:ls.length=un.length:=by rw [←zaG,hls]
      have Hm3:=dq m3
      have Hk3:=dq k3
      rw [hul] at hb3
      clear L3 k3 m3 F3 di y0 y1 y2 y3 hls hul HZ
      generalize hul:un.length=ul at hb3 ⊢
      have HUL:=dq hul
      clear hul
      go_wp2
      go_meet
      exact ⟨a3,c3,ul,e0,un,M2,rfl,rfl,HUL,HL3,dq ⟨Hm3.out,HNE2.out⟩,Hk3,HO,HX⟩
    case rest=>
     obtain ⟨sa,sc,q,e0,x,M2,rfl,rfl,HQ,HLX,HMX,HKX,HSX,HNX⟩:=hcut
     have hgo:=HGO.out
     first | rw [if_pos trivial] at hgo | rw [if_pos rfl] at hgo
     rw [←HNX.out] at hgo
     dsimp only at hgo
     have HGP:=dq hgo
     clear hgo
     have HT3:=dq (HT2.out.turn HKX.out HMX.out.1 HMX.out.2)
     have HD3:Hid (Q.Nds wc (some ⟨g,0,none⟩) c ns):=dq (HD2.out.kept HKX.out (fun g' eg e2=>by
      rcases HT2.out.met.form with h | ⟨b,h,cs,l2⟩
      ·rw [h] at e2;cases e2
      ·rcases HD2.out with ⟨h3,_⟩ | ⟨g3,sp,h3,_,_,_,l3⟩
       ·cases h3
       ·rw [h3] at eg;injection eg with eg;injection eg with eg;subst eg
        rw [h] at e2;injection e2 with e2;injection e2 with e2;subst e2
        exact Lies.other l2 l3 (by decide) rfl))
     clear y0 y1 y2 y3
     by_cases h3:e0=0
     ·subst h3
      have hsx:=HSX.out rfl
      obtain ⟨a4,c4,w4,hr,T4,K4⟩:=HT3.out.push hk24 ⟨sa,sc,x⟩ q HQ.out HLX.out hsx.1 hsx.2
      have HT4:=dq T4
      have HD4:Hid (Q.Nds w4 (some ⟨g,0,none⟩) c ns):=dq (HD3.out.kept K4 (fun g' eg e2=>by
       rcases HT3.out.row with ⟨h,_⟩ | ⟨g2,sp2,h,_,_,l2⟩
       ·rw [h] at e2;cases e2
       ·rcases HD3.out with ⟨h3,_⟩ | ⟨g3,sp,h3,_,_,_,l3⟩
        ·cases h3
        ·rw [h3] at eg;injection eg with eg;injection eg with eg;subst eg
         rw [h] at e2;injection e2 with e2;injection e2 with e2;subst e2
         exact Lies.other l2 l3 (by decide) rfl))
      clear T4 hsx K4
      go_wp2_with (at_builtin;refine Lib.wpList_append_run _ rfl _ _ _ _ rfl _ _ rfl rfl _ _ hr ?_)
      go_roundw
      case rel=>exact ⟨k+1,a4,c4,_,fl',M2,by omega,rfl,rfl,rfl,by go_num,HT4,HF',HD4,dq (by have h:=HGP.out;rw [if_pos rfl] at h;rw [h];simp [sxs])⟩
      case measure=>simp [intOf];omega
     ·have HO:=dq (zjh (q:=e0) (zid HCT.out (HGP.out.trans (if_neg h3)) h3) HT3.out.met HT3.out.mks)
      have h4:(e0==0)=false:=by simpa using h3
      go_wp2
      exact bodyPost_ret (v:=.tuple #[.slice none 0 0,.int .i64 e0]) (by simp [results,Tryz.results35,go_sem]) rfl HO.out
  ·obtain rfl:k=n:=by omega
   obtain ⟨N,rfl⟩:∃ N,k=N+1:=⟨k-1,by omega⟩
   obtain ⟨gl,ai,ci,rfl,hgl,di,Li⟩:=HT.out.at (i:=N) (by rw [zdx,HT.out.num];omega)
   have hng:zgN M ns T=((sxs es).getD N [],0,Mi):=by
    have h:=HGG.out
    rw [List.drop_of_length_le (by rw [HN.out];omega)] at h
    have e:=zhG HCT.out (h.trans (zdG Mi (sxs es)))
    rw [HN.out] at e
    exact e
   have HNG:=dq hng
   clear hng
   have HL:=dq Li
   have hll:=Li.le
   generalize (sxs es).getD N []=x at di HNG HL hll
   have HO:Hid (zsY 41 mp (zgN M ns T) w (.returned (.tuple #[.slice ai x.length ci,.int .i64 0])) wr):=dq (by rw [HNG.out];exact ⟨ai,ci,rfl,HL.out,HT.out.met,HT.out.mks⟩)
   generalize x.length=q at di HO hll
   have hw1:IntKind.i64.wrap ((N:Int)+1-1)=(N:Int):=by rw [Int.add_sub_cancel];exact IntWalk.i64_in _ (by omega)
   have i1:(0:Int)≤(N:Int):=by omega
   have i2:(N:Int)<(N:Int)+1:=by omega
   clear Li
   go_wp2
   exact bodyPost_ret (v:=.tuple #[.slice ai q ci,.int .i64 0]) (by simp [results,Tryz.results35,go_sem]) rfl HO.out
end Go.Proofs.YtmnkjekjknhhjaaGreatDoor
namespace Go.Proofs.YtmnkjekjknhhjaaGreatDoor
open Go.ChangeShapes Go.WideShapes Go.ChangeAt Go.RowKit
theorem zji:∀ (A B:List Q.Nd) (M M':Mr) (es es':List (List Lin)),zaU A M es=(es',0,M')→zaU (A++B) M es=zaU B M' es'
 | [],B,M,M',es,es',h=>by
  rw [zdG] at h
  injection h with h1 h2
  injection h2 with _ h3
  subst h1;subst h3
  rfl
 | x::A,B,M,M',es,es',h=>by
  rw [zbv] at h
  rw [List.cons_append,zbv]
  by_cases h1:(spendM M 1).1=true
  ·rw [if_pos h1] at h ⊢
   by_cases h2:(zau (spendM M 1).2 es x.kind x.a x.b x.n).2.1=0
   ·rw [if_pos h2] at h ⊢
    exact zji A B _ M' _ es' h
   ·rw [if_neg h2] at h
    injection h with _ h3
    injection h3 with h4 _
    exact absurd h4 h2
  ·rw [if_neg h1] at h
   injection h with _ h3
   injection h3 with h4 _
   exact absurd h4 (by decide)
def zbi (es:List (List Lin)) (kd na nb:Int):Int:=
 if kd=5 then (((setAt es na).length*(setAt es nb).length:Nat):Int) else if kd=6 then (((setAt es na).length:Nat):Int) else 0
theorem zlo (es:List (List Lin)) (kd na nb:Int):0≤zbi es kd na nb:=by
 unfold zbi
 split
 ·omega
 ·split<;>omega
theorem zkn {B S n:Int} (h:n≤B-S) (h0:0≤n):spendM (some (B,S,false)) n=(true,some (B,S+n,false)):=by
 obtain ⟨h1,h2⟩:=zpD h
 show (zh7 B S n false,some (B,next B S n false,!zh7 B S n false))=_
 rw [h1,h2,show max n 0=n by omega]
 rfl
theorem zmA {B S n:Int} (h:¬n≤B-S):spendM (some (B,S,false)) n=(false,some (B,S,true)):=by
 have h1:zh7 B S n false=false:=by unfold zh7;simp [h]
 have h2:next B S n false=S:=by unfold next;rw [h1];rfl
 show (zh7 B S n false,some (B,next B S n false,!zh7 B S n false))=_
 rw [h1,h2]
 rfl
theorem zos {es:List (List Lin)} {kd na nb nn:Int} {x:List Lin} (h:zau none es kd na nb nn=(x,0,none)) (B S:Int) :
  (zbi es kd na nb≤B-S→zau (some (B,S,false)) es kd na nb nn=(x,0,some (B,S+zbi es kd na nb,false)))∧
  (¬zbi es kd na nb≤B-S→0≤B-S→zau (some (B,S,false)) es kd na nb nn=([],7,some (B,S,true))):=by
 by_cases h5:kd=5
 ·subst h5
  have e:∀ M,zau M es 5 na nb nn=zfi M (setAt es na) (setAt es nb):=fun _=>by simp [zau]
  have ec:zbi es 5 na nb=(((setAt es na).length*(setAt es nb).length:Nat):Int):=by simp [zbi]
  rw [e none] at h
  rw [e (some (B,S,false)),ec]
  generalize setAt es na=s at h ⊢
  generalize setAt es nb=t at h ⊢
  unfold zfi at h ⊢
  by_cases h1:(zam s && zam t)=true
  ·rw [if_pos h1] at h ⊢
   rw [show (spendM none ((s.length*t.length:Nat):Int))=(true,none) from rfl,if_pos rfl] at h
   by_cases h3:zbD s t=true
   ·rw [if_pos h3] at h
    injection h with hx _
    refine ⟨fun hn=>?_,fun hn _=>?_⟩
    ·rw [zkn hn (by omega),if_pos rfl,if_pos h3,hx];rfl
    ·rw [zmA hn,if_neg Bool.false_ne_true];rfl
   ·rw [if_neg h3] at h
    injection h with _ h4
    injection h4 with h4 _
    exact absurd h4 (by decide)
  ·rw [if_neg h1] at h
   injection h with _ h4
   injection h4 with h4 _
   exact absurd h4 (by decide)
 ·by_cases h6:kd=6
  ·subst h6
   have e:∀ M,zau M es 6 na nb nn=zbS M (setAt es na):=fun _=>by simp [zau]
   have ec:zbi es 6 na nb=(((setAt es na).length:Nat):Int):=by simp [zbi]
   rw [e none] at h
   rw [e (some (B,S,false)),ec]
   generalize setAt es na=s at h ⊢
   unfold zbS at h ⊢
   by_cases h1:(zam s && zaK s)=true
   ·rw [if_pos h1] at h ⊢
    rw [show (spendM none ((s.length:Nat):Int))=(true,none) from rfl,if_pos rfl] at h
    injection h with hx _
    refine ⟨fun hn=>?_,fun hn _=>?_⟩
    ·rw [zkn hn (by omega),if_pos rfl,hx];rfl
    ·rw [zmA hn,if_neg Bool.false_ne_true];rfl
   ·rw [if_neg h1] at h
    injection h with _ h4
    injection h4 with h4 _
    exact absurd h4 (by decide)
  ·have ec:zbi es kd na nb=0:=by unfold zbi;rw [if_neg h5,if_neg h6]
   rw [ec]
   have e:∀ M,zau M es kd na nb nn=((zau none es kd na nb nn).1,0,M):=fun M=>by
    unfold zau
    split
    ·rfl
    ·split
     ·rfl
     ·split
      ·rfl
      ·rfl
   refine ⟨fun _=>?_,fun hn h0=>absurd h0 (by omega)⟩
   rw [e (some (B,S,false)),h,Int.add_zero];rfl
def zbl:List Q.Nd→List (List Lin)→Int
 | [],_=>0
 | x::r,es=>1+zbi es x.kind x.a x.b+zbl r (es++[(zau none es x.kind x.a x.b x.n).1])
theorem zjj:∀ (ns:List Q.Nd) (es:List (List Lin)),(ns.length:Int)≤zbl ns es
 | [],_=>by simp [zbl]
 | x::r,es=>by
  have:=zjj r (es++[(zau none es x.kind x.a x.b x.n).1])
  have:=zlo es x.kind x.a x.b
  show ((r.length+1:Nat):Int)≤1+zbi es x.kind x.a x.b+zbl r (es++[(zau none es x.kind x.a x.b x.n).1])
  omega
theorem zd3 {x:Q.Nd} {r:List Q.Nd} {es es':List (List Lin)} (h:zaU (x::r) none es=(es',0,none)) :
  zau none es x.kind x.a x.b x.n=((zau none es x.kind x.a x.b x.n).1,0,none)∧zaU r none (es++[(zau none es x.kind x.a x.b x.n).1])=(es',0,none):=by
 rw [zbv x r none es,show spendM none 1=(true,none) from rfl,if_pos rfl] at h
 dsimp only at h
 by_cases h2:(zau none es x.kind x.a x.b x.n).2.1=0
 ·rw [if_pos h2] at h
  have h3:(zau none es x.kind x.a x.b x.n).2.2=none:=by
   unfold zau zfi zbS
   repeat' split
   all_goals rfl
  refine ⟨?_,by rw [h3] at h;exact h⟩
  exact Prod.ext rfl (Prod.ext h2 h3)
 ·rw [if_neg h2] at h
  injection h with _ h4
  injection h4 with h4 _
  exact absurd h4 h2
theorem zie:∀ (ns:List Q.Nd) (es es':List (List Lin)),zaU ns none es=(es',0,none)→∀ (B S:Int),0≤B-S→
  (zbl ns es≤B-S→zaU ns (some (B,S,false)) es=(es',0,some (B,S+zbl ns es,false)))∧
  (¬zbl ns es≤B-S→∃ S',zaU ns (some (B,S,false)) es=([],7,some (B,S',true)))
 | [],es,es',h,B,S,h0=>by
  refine ⟨fun _=>?_,fun hn=>absurd h0 hn⟩
  rw [zdG none es] at h
  injection h with h1 _
  subst h1
  rw [zdG (some (B,S,false)) es]
  show _=(_,0,some (B,S+0,false))
  rw [Int.add_zero];rfl
 | x::r,es,es',h,B,S,h0=>by
  obtain ⟨h1,h2⟩:=zd3 h
  have hc:=zlo es x.kind x.a x.b
  have hr:=zjj r (es++[(zau none es x.kind x.a x.b x.n).1])
  have ec:zbl (x::r) es=1+zbi es x.kind x.a x.b+zbl r (es++[(zau none es x.kind x.a x.b x.n).1]):=rfl
  rw [ec]
  by_cases g1:(1:Int)≤B-S
  ·rw [zbv x r (some (B,S,false)) es,zkn g1 (by omega),if_pos rfl]
   dsimp only
   obtain ⟨k1,k2⟩:=zos h1 B (S+1)
   by_cases g2:zbi es x.kind x.a x.b≤B-(S+1)
   ·rw [k1 g2]
    dsimp only
    rw [if_pos rfl]
    obtain ⟨m1,m2⟩:=zie r _ es' h2 B (S+1+zbi es x.kind x.a x.b) (by omega)
    refine ⟨fun hle=>?_,fun hn=>m2 (by omega)⟩
    rw [m1 (by omega),show S+1+zbi es x.kind x.a x.b+zbl r (es++[(zau none es x.kind x.a x.b x.n).1])=S+(1+zbi es x.kind x.a x.b+zbl r (es++[(zau none es x.kind x.a x.b x.n).1])) by omega]
   ·rw [k2 g2 (by omega)]
    refine ⟨fun hle=>absurd hle (by omega),fun _=>⟨S+1,?_⟩⟩
    dsimp only
    rw [if_neg (by decide)];rfl
  ·refine ⟨fun hle=>absurd hle (by omega),fun _=>⟨S,?_⟩⟩
   rw [zbv x r (some (B,S,false)) es,zmA g1,if_neg Bool.false_ne_true];rfl
end Go.Proofs.YtmnkjekjknhhjaaGreatDoor
namespace Go.Proofs.YtmnkjekjknhhjaaGreatDoor
open Go.ChangeShapes Go.WideShapes Go.ChangeAt Go.RowKit
theorem ze0 {s:List Lin}:zaK s=true↔∀ x∈s,rightLin x=true∧x.ps=[]:=by
 unfold zaK
 rw [List.all_eq_true]
 constructor
 ·intro h x hx
  have:=h x hx
  unfold zb0 at this
  rw [Bool.and_eq_true,List.isEmpty_iff] at this
  exact this
 ·intro h x hx
  obtain ⟨h1,h2⟩:=h x hx
  unfold zb0
  rw [h1,h2];rfl
theorem zlp {s t:List Lin} (hs:zcH s) (ht:zcH t) (h:zaK s=true) (g:zaK t=true):zaK (zaT s t)=true:=by
 rw [ze0] at h g ⊢
 intro x hx
 rcases ((zf2 hs ht).2.1 x).1 hx with hx | hx
 ·exact h x hx
 ·exact g x hx
theorem zot {s t:List Lin} (hok:zbD s t=true) (h:zaK s=true) (g:zaK t=true):zaK (zmj s t)=true:=by
 rw [ze0] at h g ⊢
 intro x hx
 obtain ⟨c1,c2,_⟩:=zhF hok
 obtain ⟨p,hp,q,hq,rfl⟩:=(c2 x).1 hx
 refine ⟨c1.1 _ hx,List.eq_nil_of_length_eq_zero ?_⟩
 have hc:za6 p q=true:=List.all_eq_true.1 hok (p,q) (zb1.2 ⟨hp,hq⟩)
 have:=zmu hc
 rw [(h p hp).2,(g q hq).2] at this
 simpa using this
def StP (es:List (List Lin)) (fl:List (Int×Bool)):Prop:=∀ p∈fl,∃ j:Nat,p.1=(j:Int)∧j<es.length∧(p.2=false→zaK (es.getD j [])=true)
theorem zrD {es:List (List Lin)} {fl:List (Int×Bool)} (y:List Lin) (h:StP es fl):StP (es++[y]) fl:=fun p hp=>by
 obtain ⟨j,h1,h2,h3⟩:=h p hp
 refine ⟨j,h1,by simp;omega,fun hf=>?_⟩
 have:(es++[y]).getD j []=es.getD j []:=by
  rw [List.getD_eq_getElem?_getD,List.getD_eq_getElem?_getD,List.getElem?_append_left h2]
 rw [this];exact h3 hf
theorem ze1 {es:List (List Lin)} {F:List (Int×Bool)} {k:Nat} {y:List Lin} {b:Bool} (h:StP es F) (hl:es.length=k) (hb:b=false→zaK y=true):StP (es++[y]) (F++[((k:Int),b)]):=fun p hp=>by
 rcases List.mem_append.1 hp with hp | hp
 ·exact zrD y h p hp
 ·obtain rfl:=List.mem_singleton.1 hp
  subst hl
  exact ⟨es.length,rfl,by simp,fun hf=>by simpa using hb hf⟩
theorem zlq {es:List (List Lin)} {F G:List (Int×Bool)} (h:StP es (F++G)):StP es F:=fun p hp=>h p (List.mem_append_left _ hp)
theorem zpO {es:List (List Lin)} {fl:List (Int×Bool)} (h:StP es fl) {p:Int×Bool} (hp:p∈fl) {i:Nat} (e:p.1=(i:Int)) (hf:p.2=false):zaK (es.getD i [])=true:=by
 obtain ⟨j,h1,_,h3⟩:=h p hp
 have:i=j:=by omega
 subst this
 exact h3 hf
theorem zpP {s t:List Lin} (hs:zcH s) (ht:zcH t) (hok:zbD s t=true):zfi none s t=(zmj s t,0,none):=zst (zan.2 hs) (zan.2 ht) rfl rfl hok
theorem zou {s:List Lin} (hs:zcH s) (hp:zaK s=true):zbS none s=([zbh [] (zax s)],0,none):=zpM (zan.2 hs) hp rfl rfl
section
variable (M:Mr) (es:List (List Lin)) (a b n:Int)
theorem zuo:zau M es 1 a b n=([],0,M):=by simp [zau]
theorem zup:zau M es 2 a b n=(zmv,0,M):=by simp [zau]
theorem zuq:zau M es 3 a b n=([⟨zc5 n a,[]⟩],0,M):=by simp [zau]
theorem zs0 (i j:Nat):zau M es 4 (i:Int) (j:Int) n=(zaT (es.getD i []) (es.getD j []),0,M):=by simp [zau,setAt]
theorem zs1 (i j:Nat):zau M es 5 (i:Int) (j:Int) n=zfi M (es.getD i []) (es.getD j []):=by simp [zau,setAt]
theorem zur (i:Nat):zau M es 6 (i:Int) b n=zbS M (es.getD i []):=by simp [zau,setAt]
end
theorem zko {u:Nat} {s:List Lin} (h:Good u s):s.length≤2 ^ u:=h.few
theorem zif {T:Int} (hT:T≤12) {es:List (List Lin)} {fl fl':List (Int×Bool)} {k:Nat} {x:Q.Nd} (hs:Q.chkStep T k x fl=some fl') (S:Stk es fl k) (P:StP es fl) (hl:es.length=k) (hk:k<24) :
  ∃ y,zau none es x.kind x.a x.b x.n=(y,0,none)∧Stk (es++[y]) fl' (k+1)∧Good 24 y∧StP (es++[y]) fl'∧zbi es x.kind x.a x.b≤16777216:=by
 rcases zcM hs with ⟨h12,hfl⟩ | ⟨h3,n0,n1,a0,a1,hfl⟩ | ⟨h45,F,p,q,hF,hp,hq,hfl⟩ | ⟨h6,F,p,hF,hp,hfl⟩
 ·rcases h12 with h1 | h2
  ·obtain ⟨s1,s2⟩:=zeY (b:=false) S hl hk (zny 1)
   rw [h1,hfl]
   exact ⟨[],zuo none es _ _ _,s1,s2,ze1 P hl (fun _=>rfl),by simp [zbi]⟩
  ·obtain ⟨s1,s2⟩:=zeY (b:=false) S hl hk (znz 1)
   rw [h2,hfl]
   exact ⟨zmv,zup none es _ _ _,s1,s2,ze1 P hl (fun _=>by rw [ze0];intro x hx;obtain rfl:=List.mem_singleton.1 hx;exact ⟨za7,rfl⟩),by simp [zbi]⟩
 ·have g:=zki n0 (show x.n<12 by omega) a0 a1
  obtain ⟨s1,s2⟩:=zeY (b:=false) S hl hk g
  rw [h3,hfl]
  exact ⟨_,zuq none es _ _ _,s1,s2,ze1 P hl (fun _=>by
   rw [ze0];intro z hz
   have:=g.rise.1 z hz
   obtain rfl:=List.mem_singleton.1 hz
   exact ⟨this,rfl⟩),by simp [zbi]⟩
 ·have S':=S
  have P':=P
  rw [hF] at S' P'
  obtain ⟨u,a,b,i,j,huv,SF,hi,hil,gi,hj,hjl,gj⟩:=zln S'
  rw [hi] at hp
  rw [hj] at hq
  have hab:a+b≤24:=by omega
  have pp:p.2=false→zaK (es.getD i [])=true:=fun hf=>zpO P' (List.mem_append_right _ (by simp)) hi hf
  have pq:q.2=false→zaK (es.getD j [])=true:=fun hf=>zpO P' (List.mem_append_right _ (by simp)) hj hf
  have PF:=zlq P'
  rcases h45 with h4 | h5
  ·obtain ⟨s1,s2⟩:=zeZ (b:=p.2 || q.2) (v:=a+b+1) SF hl (by omega) hk (znA gi gj)
   rw [h4,hp,hq,hfl]
   refine ⟨zaT (es.getD i []) (es.getD j []),zs0 none es _ i j,s1,s2,ze1 PF hl (fun hb=>?_),by simp [zbi]⟩
   rw [Bool.or_eq_false_iff] at hb
   exact zlp gi.rise gj.rise (pp hb.1) (pq hb.2)
  ·obtain ⟨ok,gc⟩:=znB gi gj (by omega)
   obtain ⟨s1,s2⟩:=zeZ (b:=p.2 || q.2) (v:=a+b+1) SF hl (by omega) hk gc
   rw [h5,hp,hq,hfl]
   refine ⟨zmj (es.getD i []) (es.getD j []),?_,s1,s2,ze1 PF hl (fun hb=>?_),?_⟩
   ·exact (zs1 none es _ i j).trans (zpP gi.rise gj.rise ok)
   ·rw [Bool.or_eq_false_iff] at hb
    exact zot ok (pp hb.1) (pq hb.2)
   ·have e:zbi es 5 (i:Int) (j:Int)=(((es.getD i []).length*(es.getD j []).length:Nat):Int):=by simp [zbi,setAt]
    rw [e]
    have m:=Nat.mul_le_mul (zko gi) (zko gj)
    rw [←Nat.pow_add] at m
    have:=zaD hab
    have h24:(2:Nat) ^ 24=16777216:=by decide
    omega
 ·have S':=S
  have P':=P
  rw [hF] at S' P' hs
  obtain ⟨u,a,i,huv,SF,hi,hil,gi⟩:=znE S'
  rw [hi] at hp
  have hpf:p.2=false:=by
   rw [Q.step_star F p h6] at hs
   split at hs
   ·next hh=>exact hh.1
   ·cases hs
  have pp:=zpO P' (List.mem_append_right _ (by simp)) hi hpf
  obtain ⟨s1,s2⟩:=zeZ (b:=true) (v:=a+1) SF hl (by omega) hk (zlm gi)
  rw [h6,hp,hfl]
  refine ⟨[zbh [] (zax (es.getD i []))],?_,s1,s2,ze1 (zlq P') hl (fun hb=>nomatch hb),?_⟩
  ·exact (zur none es _ _ i).trans (zou gi.rise pp)
  ·have e:zbi es 6 (i:Int) x.b=(((es.getD i []).length:Nat):Int):=by simp [zbi,setAt]
   rw [e]
   have:=zko gi
   have:=zaD (show a≤24 by omega)
   have h24:(2:Nat) ^ 24=16777216:=by decide
   omega
theorem zfL {A:List Q.Nd} {x:Q.Nd} {M:Mr} {es es':List (List Lin)} (h:zaU A M es=(es',0,none)) {y:List Lin} (hy:zau none es' x.kind x.a x.b x.n=(y,0,none)):zaU (A++[x]) M es=(es'++[y],0,none):=by
 rw [zji A [x] M none es es' h,zbv x [] none es',show spendM none 1=(true,none) from rfl,if_pos rfl]
 dsimp only
 rw [hy]
 dsimp only
 rw [if_pos rfl]
 rfl
theorem zig:∀ (A:List Q.Nd) (x:Q.Nd) (es es':List (List Lin)),zaU A none es=(es',0,none)→zbl (A++[x]) es=zbl A es+1+zbi es' x.kind x.a x.b
 | [],x,es,es',h=>by
  rw [zdG none es] at h
  injection h with h1 _
  subst h1
  show 1+zbi es x.kind x.a x.b+0=0+1+zbi es x.kind x.a x.b
  omega
 | z::A,x,es,es',h=>by
  obtain ⟨_,h2⟩:=zd3 h
  have ih:=zig A x _ es' h2
  show 1+zbi es z.kind z.a z.b+zbl (A++[x]) (es++[(zau none es z.kind z.a z.b z.n).1])=1+zbi es z.kind z.a z.b+zbl A (es++[(zau none es z.kind z.a z.b z.n).1])+1+zbi es' x.kind x.a x.b
  omega
theorem zlr {T:Int} (hT:T≤12) {ns:List Q.Nd} (hc:Q.chkB ns T=true) (h24:ns.length≤24):∀ k,k≤ns.length→∃ es fl,zaU (ns.take k) none []=(es,0,none)∧es.length=k∧Q.chkL T 0 (ns.take k) []=some fl∧Stk es fl k∧StP es fl∧(∀ e∈es,Good 24 e)∧zbl (ns.take k) []≤(k:Int)*16777217
 | 0,_=>⟨[],[],rfl,rfl,rfl,trivial,fun p h=>by simp at h,fun e h=>by simp at h,by show (0:Int)≤_;omega⟩
 | k+1,hk=>by
  obtain ⟨es,fl,e1,e2,e3,e4,e5,e6,e7⟩:=zlr hT hc h24 k (by omega)
  have hk':k<ns.length:=by omega
  obtain ⟨fl',hs,hf'⟩:=zgb hc hk' e3
  obtain ⟨y,n1,n2,n3,n4,n5⟩:=zif hT hs e4 e5 e2 (by omega)
  refine ⟨es++[y],fl',?_,by simp [e2],hf',n2,n4,fun e he=>?_,?_⟩
  ·rw [List.take_succ_eq_append_getElem hk']
   exact zfL e1 n1
  ·rcases List.mem_append.1 he with he | he
   ·exact e6 e he
   ·obtain rfl:=List.mem_singleton.1 he
    exact n3
  ·rw [List.take_succ_eq_append_getElem hk',zig _ _ _ _ e1]
   omega
theorem zov {T:Int} (h0:0≤T) (hT:T≤12) {ns:List Q.Nd} (hc:Q.chkB ns T=true) (h1:1≤ns.length) (h24:ns.length≤24) :
  ∃ es,zaU ns none []=(es,0,none)∧es.length=ns.length∧zgN none ns T=(es.getD (ns.length-1) [],0,none)∧Good 24 (es.getD (ns.length-1) [])∧zbl ns []≤24*16777217:=by
 obtain ⟨es,fl,e1,e2,_,_,_,e6,e7⟩:=zlr hT hc h24 ns.length (Nat.le_refl _)
 rw [List.take_length] at e1 e7
 refine ⟨es,e1,e2,zhG ⟨h0,by omega,hc⟩ e1,?_,by omega⟩
 have hlt:ns.length-1<es.length:=by omega
 rw [List.getD_eq_getElem?_getD,List.getElem?_eq_getElem hlt]
 exact e6 _ (List.getElem_mem hlt)
theorem zmB {T:Int} (h0:0≤T) (hT:T≤12) {ns:List Q.Nd} (hc:Q.chkB ns T=true) (h1:1≤ns.length) (h24:ns.length≤24) {B:Int} (hB:0≤B) :
  (zbl ns []≤B→zgN (some (B,0,false)) ns T=((zgN none ns T).1,0,some (B,zbl ns [],false)))∧
  (¬zbl ns []≤B→∃ S',zgN (some (B,0,false)) ns T=([],7,some (B,S',true))):=by
 obtain ⟨es,e1,e2,e3,_,_⟩:=zov h0 hT hc h1 h24
 obtain ⟨g1,g2⟩:=zie ns [] es e1 B 0 (by omega)
 refine ⟨fun hle=>?_,fun hn=>?_⟩
 ·have g:=g1 (by omega)
  rw [Int.zero_add] at g
  rw [zhG ⟨h0,by omega,hc⟩ g,e3];rfl
 ·obtain ⟨S',g⟩:=g2 (by omega)
  exact ⟨S',zid ⟨h0,by omega,hc⟩ g (by decide)⟩
end Go.Proofs.YtmnkjekjknhhjaaGreatDoor
namespace Go.Proofs.YtmnkjekjknhhjaaGreatDoor
open Go.ChangeShapes Go.WideShapes Go.ChangeAt Go.RowKit
theorem zrE {T:Int} {ns:List Q.Nd} {x:Q.Nd} {fl:List (Int×Bool)} (h:Q.chkL T 0 (ns++[x]) []=some fl):∃ F b,fl=F++[((ns.length:Int),b)]:=by
 rw [Q.chkL_snoc] at h
 cases h1:Q.chkL T 0 ns [] with
 | none=>rw [h1] at h;cases h
 | some fl1=>
  rw [h1] at h
  simp only [Nat.zero_add] at h
  rcases zcM h with ⟨_,e⟩ | ⟨_,_,_,_,_,e⟩ | ⟨_,F,p,q,_,_,_,e⟩ | ⟨_,F,p,_,_,e⟩
  ·exact ⟨_,_,e⟩
  ·exact ⟨_,_,e⟩
  ·exact ⟨_,_,e⟩
  ·exact ⟨_,_,e⟩
theorem zs2 {T:Int} {ns:List Q.Nd} (hc:Q.chkB ns T=true):1≤ns.length∧ns.length≤24∧∃ b,Q.chkL T 0 ns []=some [(((ns.length-1:Nat):Int),b)]:=by
 unfold Q.chkB at hc
 rw [Bool.and_eq_true] at hc
 obtain ⟨h24,h1⟩:=hc
 have h24:=of_decide_eq_true h24
 rcases List.eq_nil_or_concat ns with rfl | ⟨A,x,rfl⟩
 ·exact absurd (show false=true from h1) Bool.false_ne_true
 ·cases hf:Q.chkL T 0 (A++[x]) [] with
  | none=>rw [List.concat_eq_append,hf] at h1;exact absurd h1 (by decide)
  | some fl=>
   obtain ⟨F,b,rfl⟩:=zrE hf
   rw [List.concat_eq_append] at h24 h1 ⊢
   rw [hf] at h1 ⊢
   refine ⟨by simp,h24,b,?_⟩
   cases F with
   | nil=>simp
   | cons p F=>
    exfalso
    cases F with
    | nil=>exact absurd h1 (by simp [Q.oneB])
    | cons q F=>exact absurd h1 (by simp [Q.oneB])
end Go.Proofs.YtmnkjekjknhhjaaGreatDoor

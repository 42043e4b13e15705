import Derived.Test.YtmnkjekjknhhjaaGreatDoorEg
import Derived.Test.YtmnkjekjknhhjaaGreatDoorI
import Derived.Test.YtmnkjekjknhhjaaGreatDoorDe
namespace Go.Proofs.YtmnkjekjknhhjaaGreatDoor
open Go.ChangeShapes Go.WideShapes Go.ChangeAt Go.RowKit
set_option maxRecDepth 100000 in
set_option maxHeartbeats 4000000 in
theorem zok (a pa a' pa':Option Addr) (c pc c' pc':Nat) (x y:Lin) (w:World) (R:Bag w a c x.base) (P:Bags w pa pc x.ps) (R':Bag w a' c' y.base) (P':Bags w pa' pc' y.ps) (hs:x.ps.length+y.ps.length≤100000000000) :
  Calls Tryz.prog 98 #[.agg #[.slice a x.base.length c,.slice pa x.ps.length pc],.agg #[.slice a' y.base.length c',.slice pa' y.ps.length pc']] w (zhA (zaB x y) (za6 x y) w):=by
 have hle:=P.le
 have hle':=P'.le
 obtain ⟨ps,hps,P⟩:=P
 obtain ⟨qs,hqs,P'⟩:=P'
 obtain ⟨n,hn⟩:∃ n,n=x.base.length:=⟨_,rfl⟩
 obtain ⟨m,hm⟩:∃ m,m=x.ps.length:=⟨_,rfl⟩
 obtain ⟨n',hn'⟩:∃ n,n=y.base.length:=⟨_,rfl⟩
 obtain ⟨m',hm'⟩:∃ m,m=y.ps.length:=⟨_,rfl⟩
 have HS:Hid (CatSt w w.heap.size a pa a' pa' c n pc m c' n' pc' m' x y ps qs (((w.alloc (.cells #[.slice a n c,.slice pa m pc] 53)).alloc (.cells #[.slice a' n' c',.slice pa' m' pc'] 53)).alloc (.cells #[.slice none 0 0,.slice none 0 0] 53))):=dq (by
  have b1:=below_alloc w (.cells #[.slice a n c,.slice pa m pc] 53)
  have b2:=below_alloc (w.alloc (.cells #[.slice a n c,.slice pa m pc] 53)) (.cells #[.slice a' n' c',.slice pa' m' pc'] 53)
  have b3:=below_alloc ((w.alloc (.cells #[.slice a n c,.slice pa m pc] 53)).alloc (.cells #[.slice a' n' c',.slice pa' m' pc'] 53)) (.cells #[.slice none 0 0,.slice none 0 0] 53)
  have l1:=Lies.new w 53 [.slice a n c,.slice pa m pc]
  have l2:=Lies.new (w.alloc (.cells #[.slice a n c,.slice pa m pc] 53)) 53 [.slice a' n' c',.slice pa' m' pc']
  have l3:=Lies.new ((w.alloc (.cells #[.slice a n c,.slice pa m pc] 53)).alloc (.cells #[.slice a' n' c',.slice pa' m' pc'] 53)) 53 [.slice none 0 0,.slice none 0 0]
  exact ⟨(b1.trans (b2.mono b1.size)).trans (b3.mono (Nat.le_trans b1.size b2.size)),(l1.alloc _).alloc _,by simpa using l2.alloc _,by simpa using l3,((R.below b1).below b2).below b3,((P.below b1).below b2).below b3,((R'.below b1).below b2).below b3,((P'.below b1).below b2).below b3,rfl⟩)
 rw [←hm] at hle hs
 rw [←hm'] at hle' hs
 rw [←hn,←hm,←hn',←hm']
 have HN:=dq hn.symm
 have HM:=dq hm.symm
 have HN':=dq hn'.symm
 have HM':=dq hm'.symm
 have HPS:=dq hps
 have HP0:Hid (Bags w pa pc x.ps):=dq ⟨ps,hps,P⟩
 have HP1:Hid (Bags w pa' pc' y.ps):=dq ⟨qs,hqs,P'⟩
 have HQS:=dq hqs
 clear R P R' P' hn hm hn' hm' hps hqs
 go_enter Tryz.func98,Tryz.ntmps98
 go_wp2_with (fail)
 generalize ((w.alloc (.cells #[.slice a n c,.slice pa m pc] 53)).alloc (.cells #[.slice a' n' c',.slice pa' m' pc'] 53)).alloc (.cells #[.slice none 0 0,.slice none 0 0] 53)=W at HS ⊢
 generalize hgb:w.heap.size=gb at HS ⊢
 have HG4:Hid (w.heap.size≤gb+1+1):=dq (by omega)
 clear hgb
 have Z:=za5 a pa c pc x W HS.out.bx ⟨ps,HPS.out,HS.out.px⟩
 rw [HN.out,HM.out] at Z
 refine Z.mono ?_
 rintro e w1 ⟨rfl,b1⟩
 clear Z
 have HS1:=dq (HS.out.below b1)
 clear b1 HS
 have y0:=HS1.out.y0
 have y1:=HS1.out.y1
 have z0:=HS1.out.z0
 have z1:=HS1.out.z1
 cases hx:rightLin x with
 | false=>
  have HL:=dq (zsC (y:=y) hx)
  clear hx
  obtain ⟨e0,e1,eb⟩:=OfP.zeros _ _ rfl HS1.out.bel HS1.out.lz HG4.out
  have HF:=dq (zbf HL.out.2 HL.out.1 eb)
  have HE0:=dq e0
  have HE1:=dq e1
  have f0:=HS1.out.lz.frozen 0
  have f1:=HS1.out.lz.frozen 1
  clear e0 e1 eb
  go_wp2
  generalize (w1.setCell ⟨gb+1+1,0,none⟩ (.slice none 0 0)).setCell ⟨gb+1+1,1,none⟩ (.slice none 0 0)=WF at HE0 HE1 HF ⊢
  have e0:=HE0.out
  have e1:=HE1.out
  exact bodyPost_ret (v:=.tuple #[.agg #[.slice none 0 0,.slice none 0 0],.bool false]) (by simp [results,Tryz.results98,go_sem,e0,e1]) rfl HF.out
 | true=>
  have HRX:=dq hx
  clear hx
  have Z:=za5 a' pa' c' pc' y w1 HS1.out.bY ⟨qs,HQS.out,HS1.out.py⟩
  rw [HN'.out,HM'.out] at Z
  go_wp2_with (fail)
  refine Z.mono ?_
  rintro e w2 ⟨rfl,b2⟩
  clear Z y0 y1 z0 z1
  have HS2:=dq (HS1.out.below b2)
  clear b2 HS1
  have x0:=HS2.out.x0
  have y0:=HS2.out.y0
  have z0:=HS2.out.z0
  have z1:=HS2.out.z1
  have f0:=HS2.out.lz.frozen 0
  have f1:=HS2.out.lz.frozen 1
  cases hy:rightLin y with
  | false=>
   have HL:=dq (zsD (x:=x) hy)
   clear hy
   obtain ⟨e0,e1,eb⟩:=OfP.zeros _ _ rfl HS2.out.bel HS2.out.lz HG4.out
   have HF:=dq (zbf HL.out.2 HL.out.1 eb)
   have HE0:=dq e0
   have HE1:=dq e1
   clear e0 e1 eb
   go_wp2
   generalize (w2.setCell ⟨gb+1+1,0,none⟩ (.slice none 0 0)).setCell ⟨gb+1+1,1,none⟩ (.slice none 0 0)=WF at HE0 HE1 HF ⊢
   have e0:=HE0.out
   have e1:=HE1.out
   exact bodyPost_ret (v:=.tuple #[.agg #[.slice none 0 0,.slice none 0 0],.bool false]) (by simp [results,Tryz.results98,go_sem,e0,e1]) rfl HF.out
  | true=>
   have HRY:=dq hy
   clear hy
   have Z:=zrq a a' c c' x.base y.base w2 HS2.out.bx HS2.out.bY
   rw [HN.out,HN'.out] at Z
   have HZ:=dq Z
   clear Z
   go_wp2_with (fail)
   refine HZ.out.mono ?_
   rintro e w3 ⟨a3,c3,rfl,r3,g3,b3⟩
   clear HZ x0 y0 z0 z1 f0 f1
   have HS3:=dq (HS2.out.below b3)
   have hle3:=r3.le
   have HR3:=dq r3
   generalize hn3:(zbp x.base y.base).length=n3 at hle3 ⊢
   have HN3:=dq hn3
   generalize hv:zaz x.base y.base=v
   have HV:=dq hv
   clear b3 r3 g3 HS2 hn3 hv
   have x1:=HS3.out.x1
   have y1:=HS3.out.y1
   have z0:=HS3.out.z0
   have z1:=HS3.out.z1
   have f0:=HS3.out.lz.frozen 0
   have f1:=HS3.out.lz.frozen 1
   cases v
   ·have HL:=dq (zsE HV.out)
    obtain ⟨e0,e1,eb⟩:=OfP.zeros _ _ rfl HS3.out.bel HS3.out.lz HG4.out
    have HF:=dq (zbf HL.out.2 HL.out.1 eb)
    have HE0:=dq e0
    have HE1:=dq e1
    clear e0 e1 eb
    go_wp2
    generalize (w3.setCell ⟨gb+1+1,0,none⟩ (.slice none 0 0)).setCell ⟨gb+1+1,1,none⟩ (.slice none 0 0)=WF at HE0 HE1 HF ⊢
    have e0:=HE0.out
    have e1:=HE1.out
    exact bodyPost_ret (v:=.tuple #[.agg #[.slice none 0 0,.slice none 0 0],.bool false]) (by simp [results,Tryz.results98,go_sem,e0,e1]) rfl HF.out
   ·have HC:Hid (za6 x y=true∧zaB x y=⟨zbp x.base y.base,zaj (zaj [] x.ps) y.ps⟩):=dq (by
     have h1:za6 x y=true:=by simp [za6,HRX.out,HRY.out,HV.out]
     have h2:zbp x.base y.base=addT x.base y.base:=by simp [zbp,HV.out]
     exact ⟨h1,by rw [zfG h1,h2]⟩)
    have b4:=below_alloc w3 (.cells #[.slice a3 n3 c3,.slice none 0 0] 53)
    have HT:Hid (OfSt w (gb+1+1) w3.heap.size a3 c3 n3 (zbp x.base y.base) none 0 0 (zaj [] (x.ps.take 0)) (w3.alloc (.cells #[.slice a3 n3 c3,.slice none 0 0] 53))):=dq
     ⟨HS3.out.bel.trans (b4.mono HS3.out.bel.size),HS3.out.lz.alloc _,Lies.new w3 _ _,HR3.out.below b4,Bags.nil _,HN3.out,rfl,HG4.out,HS3.out.bel.size,by have:=HS3.out.lz.lt;omega⟩
    have HLY:=dq (HS3.out.ly.alloc (.cells #[.slice a3 n3 c3,.slice none 0 0] 53))
    have hne:gb+1≠w3.heap.size:=by have:=HS3.out.ly.lt;omega
    have x1':=(HS3.out.lx.alloc (.cells #[.slice a3 n3 c3,.slice none 0 0] 53)).cell 1
    simp only [List.getElem?_cons_zero,List.getElem?_cons_succ] at x1'
    clear b4 x1 y1 z0 z1 f0 f1 HR3
    go_wp2
    clear x1'
    generalize w3.alloc (.cells #[.slice a3 n3 c3,.slice none 0 0] 53)=W4 at HT HLY ⊢
    generalize w3.heap.size=g8 at HT hne ⊢
    go_loopw [38] (fun i wr=>∃ (k:Nat) (qa:Option Addr) (qc qm:Nat),k≤m∧qm≤0+k∧i=.int .i64 k∧Hid (OfSt w (gb+1+1) g8 a3 c3 n3 (zbp x.base y.base) qa qc qm (zaj [] (x.ps.take k)) wr)∧Hid (Lies wr (gb+1) 53 [.slice a' n' c',.slice pa' m' pc'])) (fun i _=>m-(intOf i).toNat)
    case atStart=>exact ⟨0,none,0,0,by omega,by omega,rfl,HT,HLY⟩
    case round=>
     clear HT HLY
     obtain ⟨k,qa,qc,qm,hk,hqm,rfl,HT,HLY⟩:=hrel
     by_cases hlt:k<m
     ·obtain ⟨gp,b,d,epa,hc,hbag⟩:=(HP0.out.below HT.out.bel).at (k:=k) (by rw [HM.out];exact hlt)
      obtain ⟨p,hp⟩:∃ p,p=x.ps.getD k []:=⟨_,rfl⟩
      have HTS:Hid (x.ps.take (k+1)=x.ps.take k++[p]):=dq (by rw [hp];exact zeP (by rw [HM.out];exact hlt))
      have hsh:=zfC (zai.1 HRX.out).2.1 k
      rw [←hp] at hc hbag hsh
      have Z:=zj3 qa b qc d (zaj [] (x.ps.take k)) p wr HT.out.ps hbag (by rw [HT.out.num];omega) hsh
      generalize hl:p.length=l at hc hsh Z
      rw [HT.out.num] at Z
      have HZ:=dq Z
      have k1:=HT.out.c1
      clear Z hp hbag hl
      subst epa
      go_wp2_with (fail)
      refine HZ.out.mono ?_
      rintro e w4 ⟨a4,c4,rfl,r4,b4⟩
      clear HZ k1 hc
      have HT3:=dq (HT.out.below b4)
      generalize hm4:(zdz p (zaj [] (x.ps.take k))).length=m4
      have hq4:m4≤qm+1:=by
       have:=zj7 p (zaj [] (x.ps.take k))
       have h2:=HT.out.num
       omega
      have HT4:Hid (OfSt w (gb+1+1) g8 a3 c3 n3 (zbp x.base y.base) a4 c4 m4 (zaj [] (x.ps.take (k+1))) (w4.setCell ⟨g8,1,none⟩ (.slice a4 m4 c4))):=dq (by
       have:=HT3.out.store r4 hm4
       rwa [HTS.out,zdM])
      have HLY4:=dq ((HLY.out.below b4 HLY.out.lt).far (p:=⟨g8,1,none⟩) hne (.slice a4 m4 c4))
      have k1:=HT3.out.c1
      have z1:=HT3.out.z6 1
      clear hm4 r4 b4
      go_wp2
      go_roundw
      case rel=>exact ⟨k+1,a4,c4,m4,by omega,by omega,by go_num,HT4,HLY4⟩
      case measure=>simp [intOf];omega
     ·obtain rfl:m=k:=by omega
      have hall:x.ps.take m=x.ps:=List.take_of_length_le (by rw [HM.out];exact Nat.le_refl _)
      rw [hall] at HT
      have y1:=HLY.out.cell 1
      simp only [List.getElem?_cons_zero,List.getElem?_cons_succ] at y1
      clear hall
      go_wp2
      clear y1
      go_loopw [51] (fun i wr=>∃ (k:Nat) (qa:Option Addr) (qc qm:Nat),k≤m'∧qm≤m+k∧i=.int .i64 k∧Hid (OfSt w (gb+1+1) g8 a3 c3 n3 (zbp x.base y.base) qa qc qm (zaj (zaj [] x.ps) (y.ps.take k)) wr)) (fun i _=>m'-(intOf i).toNat)
      case atStart=>exact ⟨0,qa,qc,qm,by omega,by omega,rfl,HT⟩
      case round=>
       clear HT
       obtain ⟨k,qa,qc,qm,hk,hqm,rfl,HT⟩:=hrel
       by_cases hlt:k<m'
       ·obtain ⟨gp,b,d,epa,hc,hbag⟩:=(HP1.out.below HT.out.bel).at (k:=k) (by rw [HM'.out];exact hlt)
        obtain ⟨p,hp⟩:∃ p,p=y.ps.getD k []:=⟨_,rfl⟩
        have HTS:Hid (y.ps.take (k+1)=y.ps.take k++[p]):=dq (by rw [hp];exact zeP (by rw [HM'.out];exact hlt))
        have hsh:=zfC (zai.1 HRY.out).2.1 k
        rw [←hp] at hc hbag hsh
        have Z:=zj3 qa b qc d (zaj (zaj [] x.ps) (y.ps.take k)) p wr HT.out.ps hbag (by rw [HT.out.num];omega) hsh
        generalize hl:p.length=l at hc hsh Z
        rw [HT.out.num] at Z
        have HZ:=dq Z
        have k1:=HT.out.c1
        clear Z hp hbag hl
        subst epa
        go_wp2_with (fail)
        refine HZ.out.mono ?_
        rintro e w4 ⟨a4,c4,rfl,r4,b4⟩
        clear HZ k1 hc
        have HT3:=dq (HT.out.below b4)
        generalize hm4:(zdz p (zaj (zaj [] x.ps) (y.ps.take k))).length=m4
        have hq4:m4≤qm+1:=by
         have:=zj7 p (zaj (zaj [] x.ps) (y.ps.take k))
         have h2:=HT.out.num
         omega
        have HT4:Hid (OfSt w (gb+1+1) g8 a3 c3 n3 (zbp x.base y.base) a4 c4 m4 (zaj (zaj [] x.ps) (y.ps.take (k+1))) (w4.setCell ⟨g8,1,none⟩ (.slice a4 m4 c4))):=dq (by
         have:=HT3.out.store r4 hm4
         rwa [HTS.out,zdM])
        have k1:=HT3.out.c1
        have z1:=HT3.out.z6 1
        clear hm4 r4 b4
        go_wp2
        go_roundw
        case rel=>exact ⟨k+1,a4,c4,m4,by omega,by omega,by go_num,HT4⟩
        case measure=>simp [intOf];omega
       ·obtain rfl:m'=k:=by omega
        have hall:y.ps.take m'=y.ps:=List.take_of_length_le (by rw [HM'.out];exact Nat.le_refl _)
        rw [hall] at HT
        obtain ⟨e0,e1,eB,eP,eb⟩:=HT.out.full
        have HF:=dq (zfB HC.out.2 HC.out.1 HN3.out HT.out.num eB eP eb)
        have HE0:=dq e0
        have HE1:=dq e1
        have q0:=HT.out.c0
        have q1:=HT.out.c1
        have d0:=HT.out.d0
        have d1:=HT.out.d1
        have z0:=HT.out.z4 0
        have z1:=HT.out.z4 1
        clear e0 e1 eB eP eb hall
        go_wp2
        generalize (wr.setCell ⟨gb+1+1,0,none⟩ (.slice a3 n3 c3)).setCell ⟨gb+1+1,1,none⟩ (.slice qa qm qc)=WF at HE0 HE1 HF ⊢
        have e0:=HE0.out
        have e1:=HE1.out
        exact bodyPost_ret (v:=.tuple #[.agg #[.slice a3 n3 c3,.slice qa qm qc],.bool true]) (by simp [results,Tryz.results98,go_sem,e0,e1]) rfl HF.out
end Go.Proofs.YtmnkjekjknhhjaaGreatDoor

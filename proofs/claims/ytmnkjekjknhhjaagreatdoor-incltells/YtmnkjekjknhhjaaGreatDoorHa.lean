import Derived.Test.YtmnkjekjknhhjaaGreatDoorFc
import Derived.Deep.RegionLaw
namespace Go.Proofs.YtmnkjekjknhhjaaGreatDoor
open Go.ChangeShapes Go.WideShapes Go.ChangeAt Go.RowKit
set_option maxRecDepth 100000 in
theorem step_append_run {P:Program} (w:World) {ops:Array Oper} {o:Oper} {a:Act} {K:Act→World→Prop} {Q:Exit→Act→World→Prop} {E:Prop} (hgd:o.guard=none) (s x:Operand) (t tn:TypeId)
  (ho:o.op=.call {callee:=.builtin .append,args:=#[s,x],argTypes:=#[t,tn]}) (vs vx:Value) (hs:a.eval s=vs) (hx:a.eval x=vx)
  (v':Value) (w':World) (hr:(Builtin.append_ #[t,tn] o.type #[vs,vx]).run P w=.ok v' w') (h:K (a.put o.dst v') w') :
  if Region.wanted o (yielded ops a.tmps)=true then Oper.wp P o a w K Q else E:=by
 have hw:Region.wanted o (yielded ops a.tmps)=true:=by simp [Region.wanted,hgd]
 rw [if_pos hw]
 exact Lib.wp_append_run w s x t tn ho vs vx hs hx v' w' hr h
section
variable {W0 W W':World} {A:Option (Option Addr×Nat×List Value)} {Z:Option Nat} {T:Option (Nat×List Value)}
end
end Go.Proofs.YtmnkjekjknhhjaaGreatDoor
namespace Go.Proofs.YtmnkjekjknhhjaaGreatDoor
open Go.ChangeShapes Go.WideShapes Go.ChangeAt Go.RowKit
section
variable {w W W':World} {g4:Nat} {a pa pa':Option Addr} {c n pc m pc' m':Nat} {nb:List Int} {ps ps':List Bg}
theorem OfP.app' (h:OfP w g4 a c n nb pa pc m ps W) {b:Option Addr} {d l:Nat} {ys:List Int} (R:Bag W b d ys) (hl:ys.length=l) (f:From w.heap.size b) (hs:m≤100000000000) :
  ∃ a2 c2 w2,(Builtin.append_ #[51,51] 51 #[.slice pa m pc,.slice (some ⟨W.heap.size,0,none⟩) 1 1]).run Tryz.prog (W.alloc (.cells #[.slice b l d] 31))=.ok (.slice a2 (m+1) c2) w2∧
   Lies w2 g4 53 [.slice a n c,.slice pa m pc]∧OfP w g4 a c n nb a2 c2 (m+1) (ps++[⟨b,d,ys⟩]) (w2.setCell ⟨g4,1,none⟩ (.slice a2 (m+1) c2))∧
   ∀ g cs,Lies W g 53 cs→g≠g4→Lies (w2.setCell ⟨g4,1,none⟩ (.slice a2 (m+1) c2)) g 53 cs:=by
 obtain ⟨a2,c2,w2,hr,q2,k2,f2⟩:=zuZ pa pc m ps W h.row h.num b d l ys R hl hs
 obtain ⟨f3,b3⟩:=f2 w.heap.size h.bel.size h.op
 have l2:=h.l4.kept k2 (h.l4.apartRow h.row.row)
 refine ⟨a2,c2,w2,hr,l2,OfP.put (h.bel.trans b3) l2 (h.base.kept k2 (fun _ e=>h.base.apart h.row.row e)) q2 h.len (by simp [h.num]) h.h4 h.oa f3 ?_,fun g cs l hne=>?_⟩
 ·intro p hp
  rcases List.mem_append.1 hp with hp | hp
  ·exact h.each p hp
  ·rw [List.mem_singleton.1 hp];exact f
 ·exact (l.kept k2 (l.apartRow h.row.row)).far hne _
end
structure CpS (w:World) (g2 g3:Nat) (a:Option Addr) (c n:Nat) (nb:List Int) (pa:Option Addr) (pc m:Nat) (ps:List Bg) (W:World):Prop where
 p:OfP w g3 a c n nb pa pc m ps W
 l2:Lies W g2 53 [.slice none 0 0,.slice none 0 0]
 ne:g2≠g3
 h2:w.heap.size≤g2
theorem CpS.below {w W W':World} {g2 g3:Nat} {a pa:Option Addr} {c n pc m:Nat} {nb:List Int} {ps:List Bg} (h:CpS w g2 g3 a c n nb pa pc m ps W) (k:Below W.heap.size W W'):CpS w g2 g3 a c n nb pa pc m ps W':=
 ⟨h.p.below k,h.l2.below k h.l2.lt,h.ne,h.h2⟩
theorem CpS.full {w W:World} {g2 g3:Nat} {a pa:Option Addr} {c n pc m:Nat} {nb:List Int} {ps:List Bg} (h:CpS w g2 g3 a c n nb pa pc m ps W) {x:Lin} (hx:x=⟨nb,zd6 ps⟩) :
  ((W.setCell ⟨g2,0,none⟩ (.slice a n c)).setCell ⟨g2,1,none⟩ (.slice pa m pc)).cell? ⟨g2,0,none⟩=some (.slice a n c)∧
  ((W.setCell ⟨g2,0,none⟩ (.slice a n c)).setCell ⟨g2,1,none⟩ (.slice pa m pc)).cell? ⟨g2,1,none⟩=some (.slice pa m pc)∧
  zk5 x w (.returned (.agg #[.slice a n c,.slice pa m pc])) ((W.setCell ⟨g2,0,none⟩ (.slice a n c)).setCell ⟨g2,1,none⟩ (.slice pa m pc)):=by
 have l1:Lies (W.setCell ⟨g2,0,none⟩ (.slice a n c)) g2 53 [.slice a n c,.slice none 0 0]:=h.l2.set 0 _
 have l2:Lies ((W.setCell ⟨g2,0,none⟩ (.slice a n c)).setCell ⟨g2,1,none⟩ (.slice pa m pc)) g2 53 [.slice a n c,.slice pa m pc]:=l1.set 1 _
 have k1:=zeO W g2 0 (.slice a n c)
 have k2:=zeO (W.setCell ⟨g2,0,none⟩ (.slice a n c)) g2 1 (.slice pa m pc)
 subst hx
 refine ⟨l2.cell 0,l2.cell 1,a,c,pa,pc,?_,(h.p.base.far h.l2 k1).far l1 k2,⟨ps,rfl,(h.p.row.far h.l2 k1).far l1 k2⟩,(h.p.bel.setCell h.h2 _).setCell h.h2 _⟩
 rw [h.p.len,zcE,h.p.num]
set_option maxRecDepth 100000 in
set_option maxHeartbeats 4000000 in
theorem zmq (a pa:Option Addr) (c pc:Nat) (x:Lin) (w:World) (R:Bag w a c x.base) (P:Bags w pa pc x.ps) (hb:x.base.length≤1000) (hps:∀ j,(x.ps.getD j []).length≤1000) (hm:x.ps.length≤100000000000) :
  Calls Tryz.prog 129 #[.agg #[.slice a x.base.length c,.slice pa x.ps.length pc]] w (zk5 x w):=by
 have hle:=P.le
 have hle':=R.le
 obtain ⟨n0,hn0⟩:∃ n,n=x.base.length:=⟨_,rfl⟩
 obtain ⟨m,hm0⟩:∃ m,m=x.ps.length:=⟨_,rfl⟩
 rw [←hn0] at hle' hb ⊢
 rw [←hm0] at hle hm ⊢
 have HN:=dq hn0.symm
 have HM:=dq hm0.symm
 have HP:=dq P
 have HPL:=dq hps
 have bA:Below w.heap.size w ((w.alloc (.cells #[.slice a n0 c,.slice pa m pc] 53)).alloc (.cells #[.slice none 0 0,.slice none 0 0] 53)):=((Below.refl _ _).alloc (Nat.le_refl _) _).alloc (by simp) _
 have l2:Lies ((w.alloc (.cells #[.slice a n0 c,.slice pa m pc] 53)).alloc (.cells #[.slice none 0 0,.slice none 0 0] 53)) (w.heap.size+1) 53 [.slice none 0 0,.slice none 0 0]:=by
  have:=Lies.new (w.alloc (.cells #[.slice a n0 c,.slice pa m pc] 53)) 53 [.slice none 0 0,.slice none 0 0]
  simpa using this
 have l1:Lies ((w.alloc (.cells #[.slice a n0 c,.slice pa m pc] 53)).alloc (.cells #[.slice none 0 0,.slice none 0 0] 53)) w.heap.size 53 [.slice a n0 c,.slice pa m pc]:=(Lies.new w 53 [.slice a n0 c,.slice pa m pc]).alloc _
 have k0:((w.alloc (.cells #[.slice a n0 c,.slice pa m pc] 53)).alloc (.cells #[.slice none 0 0,.slice none 0 0] 53)).cell? ⟨w.heap.size,0,none⟩=some (.slice a n0 c):=l1.cell 0
 obtain ⟨v,w3,hr,a1,c1,e,r1,f1,b1⟩:=zcw 31 31 Tryz.underlying31 a c x.base ((w.alloc (.cells #[.slice a n0 c,.slice pa m pc] 53)).alloc (.cells #[.slice none 0 0,.slice none 0 0] 53)) (R.below bA) (by rw [←hn0];omega)
 injection e with e
 subst e
 rw [←hn0] at hr
 have b3:=below_alloc w3 (.cells #[.slice a1 n0 c1,.slice none 0 0] 53)
 have k1:(w3.alloc (.cells #[.slice a1 n0 c1,.slice none 0 0] 53)).cell? ⟨w.heap.size,1,none⟩=some (.slice pa m pc):=((l1.below b1 l1.lt).alloc _).cell 1
 have lt2:w.heap.size+1<w3.heap.size:=(l2.below b1 l2.lt).lt
 have HS:Hid (CpS w (w.heap.size+1) w3.heap.size a1 c1 n0 x.base none 0 0 [] (w3.alloc (.cells #[.slice a1 n0 c1,.slice none 0 0] 53))):=dq
  ⟨⟨(bA.trans (b1.mono bA.size)).alloc (Nat.le_trans bA.size b1.size) _,Lies.new w3 _ _,r1.below b3,Bgs.nil _,hn0.symm,rfl,Nat.le_trans bA.size b1.size,From.mono (fun g e=>f1 g e) bA.size,From.none _,fun p hp=>by simp at hp⟩,
   (l2.below b1 l2.lt).alloc _,by omega,by omega⟩
 clear R P hn0 hm0 hps bA l1 l2 r1 f1 b1 b3
 go_enter Tryz.func129,Tryz.ntmps129
 go_wp2_with (at_builtin;refine Lib.wpList_append_run _ rfl _ _ _ _ rfl _ _ rfl rfl _ _ hr ?_)
 clear k0 hr
 generalize w3.alloc (.cells #[.slice a1 n0 c1,.slice none 0 0] 53)=W0 at HS k1 ⊢
 generalize w3.heap.size=g3 at HS lt2 ⊢
 generalize hg1:w.heap.size=g1 at k1 lt2 ⊢
 have HG1:=dq hg1
 rw [hg1] at HS
 clear hg1
 generalize g1+1=g2 at HS lt2 ⊢
 go_loopw [13] (fun i wr=>∃ (k:Nat) (qa:Option Addr) (qc:Nat) (qs:List Bg),k≤m∧i=.int .i64 k∧Hid (CpS w g2 g3 a1 c1 n0 x.base qa qc k qs wr)∧Hid (zd6 qs=x.ps.take k)) (fun i _=>m-(intOf i).toNat)
 case atStart=>exact ⟨0,none,0,[],by omega,rfl,HS,dq (by simp [zd6])⟩
 case round=>
  clear HS k1
  obtain ⟨k,qa,qc,qs,hk,rfl,HT,HW⟩:=hrel
  by_cases hlt:k<m
  ·obtain ⟨gp,b,d,epa,hc,hbag⟩:=(HP.out.below HT.out.p.bel).at (k:=k) (by rw [HM.out];exact hlt)
   obtain ⟨xs,hxs⟩:∃ xs,xs=x.ps.getD k []:=⟨_,rfl⟩
   have hsh:=HPL.out k
   rw [←hxs] at hc hbag hsh
   have bd:Below wr.heap.size wr wr.drew:=⟨rfl,rfl,rfl,Nat.le_refl _,fun _ _=>rfl⟩
   have T0:=HT.out.below bd
   obtain ⟨v,V1,hr1,a2,c2,e,r2,f2,b2⟩:=zcw 31 31 Tryz.underlying31 b d xs wr.drew (hbag.below bd) (by omega)
   injection e with e
   subst e
   have T1:=T0.below b2
   obtain ⟨l,hl⟩:∃ l,xs.length=l:=⟨_,rfl⟩
   obtain ⟨a3,c3,w3,hr3,l3,T3,o3⟩:=T1.p.app' r2 hl (From.mono (fun g e=>f2 g e) T0.p.bel.size) (by omega)
   have HT3:Hid (CpS w g2 g3 a1 c1 n0 x.base a3 c3 (k+1) (qs++[⟨a2,c2,xs⟩]) (w3.setCell ⟨g3,1,none⟩ (.slice a3 (k+1) c3))):=dq ⟨T3,o3 g2 _ T1.l2 T1.ne,T1.ne,T1.h2⟩
   have HW3:Hid (zd6 (qs++[⟨a2,c2,xs⟩])=x.ps.take (k+1)):=dq (by
    have hk':k<x.ps.length:=by rw [HM.out];exact hlt
    have e1:zd6 (qs++[⟨a2,c2,xs⟩])=zd6 qs++[xs]:=by simp [zd6]
    have e2:x.ps.getD k []=x.ps[k]:=by simp [List.getD,hk']
    rw [e1,HW.out,List.take_succ_eq_append_getElem hk',hxs,e2])
   rw [hl] at hc hr1
   have d0:=T0.p.l4.cell 1
   have d1:=T1.p.l4.cell 1
   have d2:=(T1.p.l4.alloc (.cells #[.slice a2 l c2] 31)).cell 1
   have d3:=l3.cell 1
   simp only [List.getElem?_cons_zero,List.getElem?_cons_succ] at d0 d1 d2 d3
   have z3:=l3.frozen 1
   clear T0 T1 T3 o3 l3 r2 f2 b2 hbag hxs hl
   subst epa
   go_wp2_with (fail)
   go_region_law (first
    | (refine step_append_run _ (by rfl) _ _ _ _ (by rfl) _ _ (by rfl) (by rfl) _ _ hr1 ?_)
    | (refine step_append_run _ (by rfl) _ _ _ _ (by rfl) _ _ (by rfl) (by rfl) _ _ hr3 ?_))
   all_goals
    go_wp2
    go_roundw
    case rel=>exact ⟨k+1,a3,c3,_,by omega,by go_num,HT3,HW3⟩
    case measure=>simp [intOf];omega
  ·obtain rfl:m=k:=by omega
   have hx:x=⟨x.base,zd6 qs⟩:=by
    have:=HW.out
    rw [List.take_of_length_le (by rw [HM.out];exact Nat.le_refl _)] at this
    rw [this]
   obtain ⟨e0,e1,eF⟩:=HT.out.full hx
   have HE0:=dq e0
   have HE1:=dq e1
   have HF:=dq eF
   have d0:=HT.out.p.l4.cell 0
   have d1:=HT.out.p.l4.cell 1
   have y0:=HT.out.l2.cell 0
   have y1:=HT.out.l2.cell 1
   simp only [List.getElem?_cons_zero,List.getElem?_cons_succ] at d0 d1 y0 y1
   have z0:=HT.out.l2.frozen 0
   have z1:=HT.out.l2.frozen 1
   clear hx e0 e1 eF
   go_wp2
   generalize (wr.setCell ⟨g2,0,none⟩ (.slice a1 n0 c1)).setCell ⟨g2,1,none⟩ (.slice qa m qc)=WF at HE0 HE1 HF ⊢
   have e0:=HE0.out
   have e1:=HE1.out
   exact bodyPost_ret (v:=.agg #[.slice a1 n0 c1,.slice qa m qc]) (by simp [results,Tryz.results129,go_sem,e0,e1]) rfl HF.out
end Go.Proofs.YtmnkjekjknhhjaaGreatDoor

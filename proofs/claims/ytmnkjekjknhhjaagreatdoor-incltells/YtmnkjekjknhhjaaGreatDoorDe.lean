import Derived.Test.YtmnkjekjknhhjaaGreatDoorC
namespace Go.Proofs.YtmnkjekjknhhjaaGreatDoor
open Go.ChangeShapes Go.WideShapes Go.ChangeAt Go.RowKit
def zna (b:List Int):List (List Int)→Nat
 | []=>0
 | x::r=>if cmpL x b<0 then zna b r+1 else 0
theorem zmo {b:List Int}:∀ {l:List (List Int)} {k:Nat},k≤l.length→(∀ j,j<k→cmpL (l.getD j []) b<0)→(k<l.length→¬cmpL (l.getD k []) b<0)→zna b l=k
 | [],k,hk,_,_=>by simp at hk;simp [zna,hk]
 | x::r,k,hk,h1,h2=>by
  unfold zna
  cases k with
  | zero=>rw [if_neg (by simpa using h2 (by simp))]
  | succ k=>
   rw [if_pos (by simpa using h1 0 (by omega)),zmo (l:=r) (k:=k) (by simpa using hk) (fun j hj=>by simpa using h1 (j+1) (by omega)) (fun h=>by simpa using h2 (by simpa using h))]
theorem znb {b:List Int}:∀ {l:List (List Int)},zna b l<l.length→cmpL (l.getD (zna b l) []) b=0→zdz b l=l
 | [],h,_=>by simp at h
 | x::r,h,e=>by
  unfold zna at h e
  unfold zdz
  split at h
  ·next hx=>
   rw [if_pos hx]
   rw [if_pos hx] at e
   rw [znb (l:=r) (by simpa using h) (by simpa using e)]
  ·next hx=>
   rw [if_neg hx] at e
   rw [if_neg hx,if_pos (by simpa using e)]
theorem zmp {b:List Int}:∀ {l:List (List Int)},(zna b l<l.length→cmpL (l.getD (zna b l) []) b≠0)→zdz b l=l.take (zna b l)++[b]++l.drop (zna b l)
 | [],_=>by simp [zdz,zna]
 | x::r,h=>by
  unfold zna at h ⊢
  unfold zdz
  split
  ·next hx=>
   rw [if_pos hx] at h
   rw [zmp (l:=r) (fun hl=>by simpa using h (by simpa using hl))]
   simp
  ·next hx=>
   rw [if_neg hx] at h
   have:=h (by simp)
   rw [if_neg (by simpa using this)]
   simp
def zhS (xss:List (List Int)) (w:World) (e:Ending) (w':World):Prop:=
 ∃ a c,e=.returned (.slice a xss.length c)∧Bags w' a c xss∧Below w.heap.size w w'
theorem Row.take {w:World} {t:TypeId} {a:Option Addr} {c:Nat} {xs:List Value} (h:Row w t a c xs) (k:Nat):Row w t a c (xs.take k):=by
 rcases h with ⟨e1,e2,rfl⟩ | ⟨g,sp,e,hc,hm,l⟩
 ·exact .inl ⟨e1,e2,by simp⟩
 ·refine .inr ⟨g,xs.drop k++sp,e,?_,hm,l.to ?_⟩
  ·rw [List.length_append,List.length_take,List.length_drop,hc];omega
  ·rw [←List.append_assoc,List.take_append_drop]
theorem Appends.below {e:TypeId} {a:Option Addr} {xs ys:List Value} {w w':World} {v:Value} (h:Appends e a xs ys w v w') {B:Nat} (hB:B≤w.heap.size) (hf:From B a):Below B w w'∧∀ a' n c',v=.slice a' n c'→From B a':=by
 obtain ⟨a',c',rfl,r,k,f⟩:=h
 refine ⟨k.below (fun g e=>hf g e) hB,fun a2 n c2 e g h=>?_⟩
 injection e with e
 subst e
 rcases f g h with h | h
 ·exact hf g h
 ·omega
theorem Row.new1 (w:World) (t:TypeId) (v:Value):Row (w.alloc (.cells #[v] t)) t (some ⟨w.heap.size,0,none⟩) 1 [v]:=
 .inr ⟨_,[],rfl,rfl,by omega,Lies.new w t [v]⟩
def zu3 (a:Option Addr) (m k:Nat) (src:Option Addr) (d:Nat):Prop:=
 (a=none∧m=k∧src=none∧d=0)∨∃ g ad,a=some ⟨g,0,none⟩∧src=some ad∧(k<m→ad=⟨g,k,none⟩)
set_option maxRecDepth 100000 in
theorem zhz (a a':Option Addr) (c c' k d:Nat) (src:Option Addr) (xss:List (List Int)) (ys:List Int) (w W:World) (HB:Below w.heap.size w W) (P:Bags W a c xss) (R:Bag W a' c' ys) (hx:xss.length≤200000000000) (hy:ys.length≤1000) (hk:k≤xss.length)
  (T:zu3 a xss.length k src d) (hp:zdz ys xss=xss.take k++[ys]++xss.drop k) :
  ∃ a1 c1 w1 ab cb w2 a2 c2 w4 v5 w5,
   (Builtin.append_ #[51,51] 51 #[.slice none 0 0,.slice a k c]).run Tryz.prog W=.ok (.slice a1 k c1) w1∧
   (Builtin.append_ #[31,31] 31 #[.slice none 0 0,.slice a' ys.length c']).run Tryz.prog w1=.ok (.slice ab ys.length cb) w2∧
   (Builtin.append_ #[51,51] 51 #[.slice a1 k c1,.slice (some ⟨w2.heap.size,0,none⟩) 1 1]).run Tryz.prog (w2.alloc (.cells #[.slice ab ys.length cb] 31))=.ok (.slice a2 (k+1) c2) w4∧
   (Builtin.append_ #[51,51] 51 #[.slice a2 (k+1) c2,.slice src (xss.length-k) d]).run Tryz.prog w4=.ok v5 w5∧
   zhS (zdz ys xss) w (.returned v5) w5:=by
 obtain ⟨ps,rfl,P⟩:=P
 rw [zcE] at hk hx T ⊢
 have hk1:(zgF (ps.take k)).length=k:=by rw [zc9,List.length_take];omega
 have hk2:(zgF (ps.drop k)).length=ps.length-k:=by rw [zc9,List.length_drop]
 have rt:Row W 31 a c (zgF (ps.take k)):=by
  have:=P.row.take k
  unfold zgF at this ⊢
  rwa [←List.map_take] at this
 obtain ⟨v1,w1,hr1,A1⟩:=zjZ 51 51 31 Tryz.underlying51 Tryz.infoBag none 0 0 [] W (Row.nil _ _) rfl a c k (zgF (ps.take k)) rt hk1.symm (zm7 _) (by rw [hk1];simp;omega)
 obtain ⟨b1,f1⟩:=A1.below (Nat.le_refl _) (From.none _)
 obtain ⟨a1,c1,rfl,r1,k1,_⟩:=A1
 have f1:=f1 _ _ _ rfl
 simp only [List.length_nil,Nat.zero_add,List.nil_append] at hr1 r1
 rw [hk1] at hr1
 obtain ⟨vb,w2,hr2,ab,cb,eb,rb,fb,b2⟩:=zcw 31 31 Tryz.underlying31 a' c' ys w1 (R.below b1) (by omega)
 injection eb with eb
 subst eb
 have b3:Below w2.heap.size w2 (w2.alloc (.cells #[.slice ab ys.length cb] 31)):=below_alloc _ _
 obtain ⟨v2,w4,hr3,A2⟩:=zjZ 51 51 31 Tryz.underlying51 Tryz.infoBag a1 c1 k (zgF (ps.take k)) (w2.alloc (.cells #[.slice ab ys.length cb] 31)) ((r1.below b2).below b3) hk1.symm
  (some ⟨w2.heap.size,0,none⟩) 1 1 [.slice ab ys.length cb] (Row.new1 _ _ _) rfl (by simp [Value.oneCell']) (by rw [hk1];simp;omega)
 have bW:Below w.heap.size w (w2.alloc (.cells #[.slice ab ys.length cb] 31)):=((HB.trans (b1.mono HB.size)).trans (b2.mono (Nat.le_trans HB.size b1.size))).trans (b3.mono (Nat.le_trans HB.size (Nat.le_trans b1.size b2.size)))
 obtain ⟨b4,f2⟩:=A2.below bW.size (f1.mono HB.size)
 obtain ⟨a2,c2,rfl,r2,k2,_⟩:=A2
 have f2:=f2 _ _ _ rfl
 have hl2:(zgF (ps.take k)).length+[Value.slice ab ys.length cb].length=k+1:=by rw [hk1];rfl
 rw [hl2] at hr3
 have bW4:=bW.trans b4
 have hb2:Bag w4 ab cb ys:=by
  have h0:Bag (w2.alloc (.cells #[.slice ab ys.length cb] 31)) ab cb ys:=rb.below b3
  exact h0.kept k2 (fun g e=>h0.apart ((r1.below b2).below b3) e)
 have R4:∃ v5 w5,(Builtin.append_ #[51,51] 51 #[.slice a2 (k+1) c2,.slice src (ps.length-k) d]).run Tryz.prog w4=.ok v5 w5∧Appends 31 a2 (zgF (ps.take k)++[.slice ab ys.length cb]) (zgF (ps.drop k)) w4 v5 w5:=by
  have hl:k+1=(zgF (ps.take k)++[Value.slice ab ys.length cb]).length:=by rw [List.length_append,hk1];rfl
  rcases T with ⟨ha,hm,rfl,rfl⟩ | ⟨g,ad,ha,rfl,had⟩
  ·have e0:zgF (ps.drop k)=[]:=by rw [←hm];simp [zgF]
   rw [e0,hm,Nat.sub_self]
   exact zhR 51 51 31 Tryz.underlying51 Tryz.infoBag a2 c2 (k+1) _ w4 r2 hl
  ·refine zi4 51 51 31 Tryz.underlying51 Tryz.infoBag a2 c2 (k+1) _ w4 r2 hl ad (ps.length-k) d (zgF (ps.drop k)) hk2.symm ?_ (zm7 _) (by rw [←hl,hk2];omega)
   intro j u hj
   have hj':=(List.getElem?_eq_some_iff.1 hj).1
   rw [hk2] at hj'
   rw [had (by omega),Addr.add_lit]
   have hW:W.cell? ⟨g,k+j,none⟩=some u:=by
    obtain ⟨g',e',hc'⟩:=P.row.there (i:=k+j) (by rw [zc9];omega)
    rw [ha] at e'
    injection e' with e'
    injection e' with e'
    subst e'
    rw [hc',←hj]
    unfold zgF
    rw [List.map_drop,List.getElem?_drop,List.getElem?_eq_getElem]
   have bb:Below W.heap.size W w4:=((b1.trans (b2.mono b1.size)).trans (b3.mono (Nat.le_trans b1.size b2.size))).trans (k2.below (fun g e=>f1 g e) (Nat.le_trans b1.size (Nat.le_trans b2.size b3.size)))
   exact (bb.cell (p:=⟨g,k+j,none⟩) (P.row.lt ha)).trans hW
 obtain ⟨v5,w5,hr4,A3⟩:=R4
 obtain ⟨b5,f3⟩:=A3.below bW4.size f2
 obtain ⟨a3,c3,rfl,r3,k3,_⟩:=A3
 refine ⟨a1,c1,w1,ab,cb,w2,a2,c2,w4,_,w5,hr1,hr2,hr3,hr4,a3,c3,?_,?_,bW4.trans b5⟩
 ·rw [hp]
  simp only [List.length_append,hk1,hk2,List.length_take,List.length_drop,zcE,List.length_cons,List.length_nil]
  rw [Nat.min_eq_left hk]
 ·refine ⟨ps.take k++[⟨ab,cb,ys⟩]++ps.drop k,?_,?_,?_⟩
  ·rw [hp];simp [zd6,List.map_take,List.map_drop]
  ·have:zgF (ps.take k++[⟨ab,cb,ys⟩]++ps.drop k)=zgF (ps.take k)++[.slice ab ys.length cb]++zgF (ps.drop k):=by simp [zgF,Bg.val]
   rw [this]
   exact r3
  ·have old:∀ p∈ps,Bag w5 p.a p.c p.xs:=fun p hp=>by
    have bb:Below W.heap.size W w4:=((b1.trans (b2.mono b1.size)).trans (b3.mono (Nat.le_trans b1.size b2.size))).trans (k2.below (fun g e=>f1 g e) (Nat.le_trans b1.size (Nat.le_trans b2.size b3.size)))
    have h4:=(P.each p hp).below bb
    exact h4.kept k3 (fun g e=>h4.apart r2 e)
   intro p hp
   rw [List.mem_append,List.mem_append] at hp
   rcases hp with (hp | hp) | hp
   ·exact old p (List.mem_of_mem_take hp)
   ·obtain rfl:=List.mem_singleton.1 hp
    exact hb2.kept k3 (fun g e=>hb2.apart r2 e)
   ·exact old p (List.mem_of_mem_drop hp)
end Go.Proofs.YtmnkjekjknhhjaaGreatDoor
namespace Go.Proofs.YtmnkjekjknhhjaaGreatDoor
open Go.ChangeShapes Go.WideShapes Go.ChangeAt Go.RowKit
set_option maxHeartbeats 1000000 in
set_option maxRecDepth 100000 in
theorem zsB (a':Option Addr) (c':Nat) (ys:List Int) (w:World) (R:Bag w a' c' ys) (hy:ys.length≤1000) :
  Calls Tryz.prog 130 #[.slice none 0 0,.slice a' ys.length c'] w (zhS (zdz ys []) w):=by
 have hle:=R.le
 obtain ⟨a1,c1,w3,ab,cb,w4,a2,c2,w5,v6,w6,hr1,hr2,hr3,hr4,HF⟩:=zhz none a' 0 c' 0 0 none [] ys w w (Below.refl _ _) (Bags.nil w) R (by simp) hy (by simp) (.inl ⟨rfl,rfl,rfl,rfl⟩) (by simp [zdz])
 have HFin:=dq HF
 clear HF R
 generalize ys.length=n at hle hr2 hr3 ⊢
 simp only [List.length_nil,Nat.sub_self,Nat.zero_add] at hr3 hr4
 go_enter Tryz.func130,Tryz.ntmps130
 go_wp2
 go_loop [5] (fun i=>i=.int .i64 0) (fun _=>0)
 case atStart=>rfl
 case round=>
  obtain rfl:=hrel
  go_wp2_with (at_builtin;first | refine Lib.wpList_append_run (o:=⟨some 39,_,_,_,_,_⟩) _ rfl _ _ _ _ rfl _ _ rfl rfl _ _ hr1 ?_ | refine Lib.wpList_append_run (o:=⟨some 42,_,_,_,_,_⟩) _ rfl _ _ _ _ rfl _ _ rfl rfl _ _ hr2 ?_ | refine Lib.wpList_append_run (o:=⟨some 44,_,_,_,_,_⟩) _ rfl _ _ _ _ rfl _ _ rfl rfl _ _ hr3 ?_ | refine Lib.wpList_append_run (o:=⟨some 49,_,_,_,_,_⟩) _ rfl _ _ _ _ rfl _ _ rfl rfl _ _ hr4 ?_)
  go_ret
  exact HFin.out
set_option maxRecDepth 100000 in
set_option maxHeartbeats 2000000 in
theorem zrk (g:Nat) (a':Option Addr) (c c':Nat) (xss:List (List Int)) (ys:List Int) (w:World) (P:Bags w (some ⟨g,0,none⟩) c xss) (R:Bag w a' c' ys) (hx:xss.length≤200000000000) (hy:ys.length≤1000) :
  Calls Tryz.prog 130 #[.slice (some ⟨g,0,none⟩) xss.length c,.slice a' ys.length c'] w (zhS (zdz ys xss) w):=by
 have hle:=P.le
 have hle':=R.le
 obtain ⟨m,hm⟩:∃ m,m=xss.length:=⟨_,rfl⟩
 obtain ⟨n,hn⟩:∃ n,n=ys.length:=⟨_,rfl⟩
 have hx':=hx
 rw [←hm] at hle hx' ⊢
 rw [←hn] at hle' ⊢
 have HM:=dq hm.symm
 have HY:=dq hn.symm
 have HP:=dq P
 have HR:=dq R
 clear hm hn P R
 go_enter Tryz.func130,Tryz.ntmps130
 go_wp2
 go_loopw [5] (fun i wr=>∃ k:Nat,k≤m∧i=.int .i64 k∧Hid (Below w.heap.size w wr)∧Hid (∀ j,j<k→cmpL (xss.getD j []) ys<0)) (fun i _=>m-(intOf i).toNat)
 case atStart=>exact ⟨0,Nat.zero_le _,rfl,dq (Below.refl _ _),dq (fun j h=>by omega)⟩
 case round=>
  obtain ⟨k,hk,rfl,HW,HE⟩:=hrel
  by_cases hlt:k<m
  ·obtain ⟨g',b,d,eg,hc,hbag⟩:=(HP.out.below HW.out).at (k:=k) (by rw [HM.out];exact hlt)
   injection eg with eg
   injection eg with eg
   subst eg
   have Z:=zoh b a' d c' (xss.getD k []) ys wr hbag (HR.out.below HW.out)
   generalize hl:(xss.getD k []).length=l at hc Z
   have hll:=hbag.le
   rw [hl] at hll
   rw [HY.out] at Z
   have HK:=dq hbag
   have HL:=dq hl
   have HZ:=dq Z
   clear Z hbag hl
   go_wp2_with (fail)
   refine HZ.out.mono ?_
   rintro e w2 ⟨rfl,b2⟩
   clear HZ
   have hc2:w2.cell? ⟨g,k,none⟩=some (.slice b l d):=(b2.cell (p:=⟨g,k,none⟩) ((HP.out.below HW.out).lt rfl)).trans hc
   have HW2:Hid (Below w.heap.size w w2):=dq (HW.out.trans (b2.mono HW.out.size))
   have HK2:=dq (HK.out.below b2)
   clear b2 hc
   generalize hv:cmpL (xss.getD k []) ys=v
   have HV:=dq hv
   clear hv
   by_cases hneg:v<0
   ·go_wp2
    go_round
    case rel=>exact ⟨k+1,by omega,by go_num,HW2,dq (fun j hj=>by
     by_cases e:j=k
     ·rw [e,HV.out];exact hneg
     ·exact HE.out j (by omega))⟩
    case measure=>simp [intOf];omega
   ·have HSP:Hid (zna ys xss=k):=dq (zmo (by rw [HM.out];exact hk) HE.out (fun _=>by rw [HV.out];exact hneg))
    have Z:=zoh b a' d c' (xss.getD k []) ys w2 HK2.out (HR.out.below HW2.out)
    rw [HY.out,HL.out,HV.out] at Z
    have HZ:=dq Z
    clear Z
    go_wp2_with (fail)
    refine HZ.out.mono ?_
    rintro e w7 ⟨rfl,b2⟩
    clear HZ
    have HW7:Hid (Below w.heap.size w w7):=dq (HW2.out.trans (b2.mono HW2.out.size))
    clear b2
    by_cases h0:v=0
    ·have HPU:Hid (zdz ys xss=xss):=dq (znb (by rw [HSP.out,HM.out];exact hlt) (by rw [HSP.out,HV.out];exact h0))
     have HFin:Hid (zhS (zdz ys xss) w (.returned (.slice (some ⟨g,0,none⟩) m c)) w7):=dq ⟨_,_,by rw [HPU.out,HM.out],by rw [HPU.out];exact HP.out.below HW7.out,HW7.out⟩
     subst h0
     go_wp2
     go_ret
     exact HFin.out
    ·have HPU:Hid (zdz ys xss=xss.take k++[ys]++xss.drop k):=dq (by
      have:=zmp (b:=ys) (l:=xss) (fun h=>by rw [HSP.out,HV.out];exact h0)
      rwa [HSP.out] at this)
     have hkc:k<c:=by omega
     clear hc2
     obtain ⟨a1,c1,w3,ab,cb,w4,a2,c2,w5,v6,w6,hr1,hr2,hr3,hr4,HF⟩:=zhz (some ⟨g,0,none⟩) a' c c' k (c-k) (some ⟨g,k,none⟩) xss ys w w7 HW7.out (HP.out.below HW7.out) (HR.out.below HW7.out) hx hy (by rw [HM.out];exact hk) (.inr ⟨g,_,rfl,rfl,fun h=>rfl⟩) HPU.out
     rw [HM.out] at hr4
     rw [HY.out] at hr2 hr3
     have HFin:=dq HF
     clear HF
     go_wp2_with (at_builtin;first | refine Lib.wpList_append_run (o:=⟨some 39,_,_,_,_,_⟩) _ rfl _ _ _ _ rfl _ _ rfl rfl _ _ hr1 ?_ | refine Lib.wpList_append_run (o:=⟨some 42,_,_,_,_,_⟩) _ rfl _ _ _ _ rfl _ _ rfl rfl _ _ hr2 ?_ | refine Lib.wpList_append_run (o:=⟨some 44,_,_,_,_,_⟩) _ rfl _ _ _ _ rfl _ _ rfl rfl _ _ hr3 ?_ | refine Lib.wpList_append_run (o:=⟨some 49,_,_,_,_,_⟩) _ rfl _ _ _ _ rfl _ _ rfl rfl _ _ hr4 ?_)
     go_ret
     exact HFin.out
  ·obtain rfl:k=m:=by omega
   have HPU:Hid (zdz ys xss=xss.take k++[ys]++xss.drop k):=dq (by
    have e:=zmo (b:=ys) (l:=xss) (k:=k) (by rw [HM.out];exact Nat.le_refl _) HE.out (fun h=>by rw [HM.out] at h;omega)
    have:=zmp (b:=ys) (l:=xss) (fun h=>by rw [e,HM.out] at h;omega)
    rwa [e] at this)
   by_cases hkc:k<c
   ·obtain ⟨a1,c1,w3,ab,cb,w4,a2,c2,w5,v6,w6,hr1,hr2,hr3,hr4,HF⟩:=zhz (some ⟨g,0,none⟩) a' c c' k (c-k) (some ⟨g,k,none⟩) xss ys w wr HW.out (HP.out.below HW.out) (HR.out.below HW.out) hx hy (by rw [HM.out];exact hk) (.inr ⟨g,_,rfl,rfl,fun h=>rfl⟩) HPU.out
    rw [HM.out] at hr4
    rw [HY.out] at hr2 hr3
    have HFin:=dq HF
    clear HF
    rw [Nat.sub_self] at hr4
    go_wp2_with (at_builtin;first | refine Lib.wpList_append_run (o:=⟨some 39,_,_,_,_,_⟩) _ rfl _ _ _ _ rfl _ _ rfl rfl _ _ hr1 ?_ | refine Lib.wpList_append_run (o:=⟨some 42,_,_,_,_,_⟩) _ rfl _ _ _ _ rfl _ _ rfl rfl _ _ hr2 ?_ | refine Lib.wpList_append_run (o:=⟨some 44,_,_,_,_,_⟩) _ rfl _ _ _ _ rfl _ _ rfl rfl _ _ hr3 ?_ | refine Lib.wpList_append_run (o:=⟨some 49,_,_,_,_,_⟩) _ rfl _ _ _ _ rfl _ _ rfl rfl _ _ hr4 ?_)
    go_ret
    exact HFin.out
   ·obtain rfl:k=c:=by omega
    obtain ⟨a1,c1,w3,ab,cb,w4,a2,c2,w5,v6,w6,hr1,hr2,hr3,hr4,HF⟩:=zhz (some ⟨g,0,none⟩) a' k c' k 0 (some ⟨g,0,none⟩) xss ys w wr HW.out (HP.out.below HW.out) (HR.out.below HW.out) hx hy (by rw [HM.out];exact hk) (.inr ⟨g,_,rfl,rfl,fun h=>by rw [HM.out] at h;omega⟩) HPU.out
    rw [HM.out] at hr4
    rw [HY.out] at hr2 hr3
    have HFin:=dq HF
    clear HF
    rw [Nat.sub_self] at hr4
    go_wp2_with (at_builtin;first | refine Lib.wpList_append_run (o:=⟨some 39,_,_,_,_,_⟩) _ rfl _ _ _ _ rfl _ _ rfl rfl _ _ hr1 ?_ | refine Lib.wpList_append_run (o:=⟨some 42,_,_,_,_,_⟩) _ rfl _ _ _ _ rfl _ _ rfl rfl _ _ hr2 ?_ | refine Lib.wpList_append_run (o:=⟨some 44,_,_,_,_,_⟩) _ rfl _ _ _ _ rfl _ _ rfl rfl _ _ hr3 ?_ | refine Lib.wpList_append_run (o:=⟨some 49,_,_,_,_,_⟩) _ rfl _ _ _ _ rfl _ _ rfl rfl _ _ hr4 ?_)
    go_ret
    exact HFin.out
set_option maxRecDepth 100000 in
theorem zj3 (a a':Option Addr) (c c':Nat) (xss:List (List Int)) (ys:List Int) (w:World) (P:Bags w a c xss) (R:Bag w a' c' ys) (hx:xss.length≤200000000000) (hy:ys.length≤1000) :
  Calls Tryz.prog 130 #[.slice a xss.length c,.slice a' ys.length c'] w (zhS (zdz ys xss) w):=by
 have P':=P
 obtain ⟨ps,rfl,hr,_⟩:=P'
 rcases hr with ⟨rfl,rfl,h⟩ | ⟨g,_,rfl,_⟩
 ·obtain rfl:ps=[]:=List.map_eq_nil_iff.1 h
  exact zsB a' c' ys w R hy
 ·exact zrk g a' c c' _ ys w P R hx hy
end Go.Proofs.YtmnkjekjknhhjaaGreatDoor
namespace Go.Proofs.YtmnkjekjknhhjaaGreatDoor
open Go.ChangeShapes Go.WideShapes Go.ChangeAt Go.RowKit
def zhA (x:Lin) (ok:Bool) (w:World) (e:Ending) (w':World):Prop:=
 ∃ a c pa pc,e=.returned (.tuple #[.agg #[.slice a x.base.length c,.slice pa x.ps.length pc],.bool ok])∧Bag w' a c x.base∧Bags w' pa pc x.ps∧Below w.heap.size w w'
def zk5 (x:Lin) (w:World) (e:Ending) (w':World):Prop:=
 ∃ a c pa pc,e=.returned (.agg #[.slice a x.base.length c,.slice pa x.ps.length pc])∧Bag w' a c x.base∧Bags w' pa pc x.ps∧Below w.heap.size w w'
section
variable {w w' W:World} {a:Option Addr} {c g:Nat} {xs:List Int} {ps:List Bg} {xss:List (List Int)} {cs:List Value}
theorem Bag.far (h:Bag w a c xs) (l:Lies w g 53 cs) (k:Kept (fun i=>i=g) w w'):Bag w' a c xs:=by
 refine h.kept k fun g' e e2=>?_
 subst e2
 rcases h with ⟨h,_⟩ | ⟨g1,sp,h,_,_,l1⟩
 ·rw [h] at e;cases e
 ·rw [h] at e;injection e with e;injection e with e;subst e
  exact l1.other l (by decide) rfl
theorem Bgs.far (h:Bgs w a c ps) (l:Lies w g 53 cs) (k:Kept (fun i=>i=g) w w'):Bgs w' a c ps:=by
 refine ⟨h.row.kept k fun g' e e2=>?_,fun p hp=>(h.each p hp).far l k⟩
 subst e2
 rcases h.row with ⟨h,_⟩ | ⟨g1,sp,h,_,_,l1⟩
 ·rw [h] at e;cases e
 ·rw [h] at e;injection e with e;injection e with e;subst e
  exact l1.other l (by decide) rfl
theorem Bags.far (h:Bags w a c xss) (l:Lies w g 53 cs) (k:Kept (fun i=>i=g) w w'):Bags w' a c xss:=by
 obtain ⟨ps,e,h⟩:=h
 exact ⟨ps,e,h.far l k⟩
end
theorem zeO (w:World) (g o:Nat) (u:Value):Kept (fun i=>i=g) w (w.setCell ⟨g,o,none⟩ u):=(Kept.refl (fun i=>i=g) w).setCell (p:=⟨g,o,none⟩) (fun _=>rfl) u
structure OfSt (w:World) (g4 g6:Nat) (a:Option Addr) (c n:Nat) (nb:List Int) (pa:Option Addr) (pc m:Nat) (acc:List (List Int)) (W:World):Prop where
 bel:Below w.heap.size w W
 l4:Lies W g4 53 [.slice none 0 0,.slice none 0 0]
 l6:Lies W g6 53 [.slice a n c,.slice pa m pc]
 base:Bag W a c nb
 ps:Bags W pa pc acc
 len:nb.length=n
 num:acc.length=m
 h4:w.heap.size≤g4
 h6:w.heap.size≤g6
 ne:g4≠g6
section
variable {w W W':World} {g4 g6:Nat} {a pa pa':Option Addr} {c n pc m pc' m':Nat} {nb:List Int} {acc acc':List (List Int)}
theorem OfSt.below (h:OfSt w g4 g6 a c n nb pa pc m acc W) (k:Below W.heap.size W W'):OfSt w g4 g6 a c n nb pa pc m acc W':=
 ⟨h.bel.trans (k.mono h.bel.size),h.l4.below k h.l4.lt,h.l6.below k h.l6.lt,h.base.below k,h.ps.below k,h.len,h.num,h.h4,h.h6,h.ne⟩
theorem OfSt.store (h:OfSt w g4 g6 a c n nb pa pc m acc W) (p:Bags W pa' pc' acc') (e:acc'.length=m'):OfSt w g4 g6 a c n nb pa' pc' m' acc' (W.setCell ⟨g6,1,none⟩ (.slice pa' m' pc')):=by
 have k:=zeO W g6 1 (.slice pa' m' pc')
 exact ⟨h.bel.setCell h.h6 _,h.l4.far (p:=⟨g6,1,none⟩) h.ne _,(h.l6.set 1 _).to rfl,h.base.far h.l6 k,p.far h.l6 k,h.len,e,h.h4,h.h6,h.ne⟩
theorem OfSt.c0 (h:OfSt w g4 g6 a c n nb pa pc m acc W):W.cell? ⟨g6,0,none⟩=some (.slice a n c):=h.l6.cell 0
theorem OfSt.c1 (h:OfSt w g4 g6 a c n nb pa pc m acc W):W.cell? ⟨g6,1,none⟩=some (.slice pa m pc):=h.l6.cell 1
theorem OfSt.d0 (h:OfSt w g4 g6 a c n nb pa pc m acc W):W.cell? ⟨g4,0,none⟩=some (.slice none 0 0):=h.l4.cell 0
theorem OfSt.d1 (h:OfSt w g4 g6 a c n nb pa pc m acc W):W.cell? ⟨g4,1,none⟩=some (.slice none 0 0):=h.l4.cell 1
theorem OfSt.z4 (h:OfSt w g4 g6 a c n nb pa pc m acc W) (j:Nat):W.frozen? ⟨g4,j,none⟩=false:=h.l4.frozen j
theorem OfSt.z6 (h:OfSt w g4 g6 a c n nb pa pc m acc W) (j:Nat):W.frozen? ⟨g6,j,none⟩=false:=h.l6.frozen j
theorem OfSt.full (h:OfSt w g4 g6 a c n nb pa pc m acc W) :
  ((W.setCell ⟨g4,0,none⟩ (.slice a n c)).setCell ⟨g4,1,none⟩ (.slice pa m pc)).cell? ⟨g4,0,none⟩=some (.slice a n c)∧
  ((W.setCell ⟨g4,0,none⟩ (.slice a n c)).setCell ⟨g4,1,none⟩ (.slice pa m pc)).cell? ⟨g4,1,none⟩=some (.slice pa m pc)∧
  Bag ((W.setCell ⟨g4,0,none⟩ (.slice a n c)).setCell ⟨g4,1,none⟩ (.slice pa m pc)) a c nb∧
  Bags ((W.setCell ⟨g4,0,none⟩ (.slice a n c)).setCell ⟨g4,1,none⟩ (.slice pa m pc)) pa pc acc∧
  Below w.heap.size w ((W.setCell ⟨g4,0,none⟩ (.slice a n c)).setCell ⟨g4,1,none⟩ (.slice pa m pc)):=by
 have l1:Lies (W.setCell ⟨g4,0,none⟩ (.slice a n c)) g4 53 [.slice a n c,.slice none 0 0]:=h.l4.set 0 _
 have l2:Lies ((W.setCell ⟨g4,0,none⟩ (.slice a n c)).setCell ⟨g4,1,none⟩ (.slice pa m pc)) g4 53 [.slice a n c,.slice pa m pc]:=l1.set 1 _
 have k1:=zeO W g4 0 (.slice a n c)
 have k2:=zeO (W.setCell ⟨g4,0,none⟩ (.slice a n c)) g4 1 (.slice pa m pc)
 exact ⟨l2.cell 0,l2.cell 1,(h.base.far h.l4 k1).far l1 k2,(h.ps.far h.l4 k1).far l1 k2,(h.bel.setCell h.h4 _).setCell h.h4 _⟩
theorem OfSt.none4 (h:OfSt w g4 g6 a c n nb pa pc m acc W) :
  ((W.setCell ⟨g4,0,none⟩ (.slice none 0 0)).setCell ⟨g4,1,none⟩ (.slice none 0 0)).cell? ⟨g4,0,none⟩=some (.slice none 0 0)∧
  ((W.setCell ⟨g4,0,none⟩ (.slice none 0 0)).setCell ⟨g4,1,none⟩ (.slice none 0 0)).cell? ⟨g4,1,none⟩=some (.slice none 0 0)∧
  Below w.heap.size w ((W.setCell ⟨g4,0,none⟩ (.slice none 0 0)).setCell ⟨g4,1,none⟩ (.slice none 0 0)):=by
 have l1:Lies (W.setCell ⟨g4,0,none⟩ (.slice none 0 0)) g4 53 [.slice none 0 0,.slice none 0 0]:=h.l4.set 0 _
 have l2:Lies ((W.setCell ⟨g4,0,none⟩ (.slice none 0 0)).setCell ⟨g4,1,none⟩ (.slice none 0 0)) g4 53 [.slice none 0 0,.slice none 0 0]:=l1.set 1 _
 exact ⟨l2.cell 0,l2.cell 1,(h.bel.setCell h.h4 _).setCell h.h4 _⟩
end
theorem zbf {x:Lin} {ok:Bool} {w w':World} (hx:x=⟨[],[]⟩) (ho:ok=false) (b:Below w.heap.size w w'):zhA x ok w (.returned (.tuple #[.agg #[.slice none 0 0,.slice none 0 0],.bool false])) w':=by
 subst hx;subst ho
 exact ⟨none,0,none,0,rfl,Bag.nil _,Bags.nil _,b⟩
theorem zfB {x:Lin} {ok:Bool} {w w':World} {a pa:Option Addr} {c n pc m:Nat} {nb:List Int} {acc:List (List Int)} (hx:x=⟨nb,acc⟩) (ho:ok=true) (hn:nb.length=n) (hm:acc.length=m) (B:Bag w' a c nb) (P:Bags w' pa pc acc) (b:Below w.heap.size w w') :
  zhA x ok w (.returned (.tuple #[.agg #[.slice a n c,.slice pa m pc],.bool true])) w':=by
 subst hx;subst ho;subst hn;subst hm
 exact ⟨a,c,pa,pc,rfl,B,P,b⟩
theorem zdL (l:List (List Int)) (p:List Int):zaN (l++[p])=zaN l++(if normL p=[] then [] else [normL p]):=by
 unfold zaN
 rw [List.map_append,List.filter_append]
 by_cases h:normL p=[]<;>simp [h]
theorem zdM (l ps:List (List Int)) (b:List Int):zaj l (ps++[b])=zdz b (zaj l ps):=by
 unfold zaj;rw [List.foldl_append];rfl
theorem zeP {l:List (List Int)} {k:Nat} (hk:k<l.length):l.take (k+1)=l.take k++[l.getD k []]:=by
 rw [List.take_succ_eq_append_getElem hk];simp [List.getD,hk]
theorem zi8 (l:List (List Int)):(zaN l).length≤l.length:=by
 unfold zaN
 have:=List.length_filter_le (fun p:List Int=>decide (p≠[])) (l.map normL)
 rwa [List.length_map] at this
theorem zi9 (l:List Int):(normL l).length≤12:=(zac.1 (zgJ l)).1
theorem zrl {b:List Int} {ps:List (List Int)} (h:zfg b=true):zmi b ps=false∧zbh b ps=⟨[],[]⟩:=by
 have e:zmi b ps=false:=by simp [zmi,h]
 exact ⟨e,by unfold zbh;rw [e];rfl⟩
theorem znc {b:List Int} {ps:List (List Int)} {k:Nat} (hk:k<ps.length) (h:zfg (ps.getD k [])=true):zmi b ps=false∧zbh b ps=⟨[],[]⟩:=by
 have e:zmi b ps=false:=by
  have hm:ps.getD k []∈ps:=by simp [List.getD,hk]
  simp only [zmi,Bool.and_eq_false_iff]
  right
  rw [←Bool.not_eq_true,List.all_eq_true]
  intro h2
  have:=h2 _ hm
  rw [h] at this
  cases this
 exact ⟨e,by unfold zbh;rw [e];rfl⟩
theorem znd {b:List Int} {ps:List (List Int)} (h:zfg b=false) (hp:∀ j,j<ps.length→zfg (ps.getD j [])=false):zmi b ps=true∧zbh b ps=⟨normL b,zaj [] (zaN ps)⟩:=by
 have e:zmi b ps=true:=by
  simp only [zmi,h,Bool.not_false,Bool.true_and,List.all_eq_true]
  intro p hp'
  obtain ⟨j,hj,rfl⟩:=List.getElem_of_mem hp'
  have:=hp j hj
  simp [List.getD,hj] at this
  rw [this];rfl
 exact ⟨e,by unfold zbh;rw [if_pos e]⟩
end Go.Proofs.YtmnkjekjknhhjaaGreatDoor
namespace Go.Proofs.YtmnkjekjknhhjaaGreatDoor
open Go.ChangeShapes Go.WideShapes Go.ChangeAt Go.RowKit
set_option maxRecDepth 100000 in
set_option maxHeartbeats 4000000 in
theorem zpa (a pa:Option Addr) (c pc:Nat) (b:List Int) (ps:List (List Int)) (w:World) (R:Bag w a c b) (P:Bags w pa pc ps) (hb:b.length≤1000) (hps:∀ j,(ps.getD j []).length≤1000) (hl:ps.length≤100000000000) :
  Calls Tryz.prog 100 #[.slice a b.length c,.slice pa ps.length pc] w (zhA (zbh b ps) (zmi b ps) w):=by
 have hle:=P.le
 have hle':=R.le
 obtain ⟨n0,hn0⟩:∃ n,n=b.length:=⟨_,rfl⟩
 obtain ⟨m,hm⟩:∃ m,m=ps.length:=⟨_,rfl⟩
 have B0:Below w.heap.size w (w.alloc (.cells #[.slice none 0 0,.slice none 0 0] 53)):=below_alloc _ _
 have HB0:=dq B0
 have HL4:Hid (Lies (w.alloc (.cells #[.slice none 0 0,.slice none 0 0] 53)) w.heap.size 53 [.slice none 0 0,.slice none 0 0]):=dq (Lies.new w _ _)
 have HRB:=dq (R.below B0)
 have HP:=dq P
 have HPL:=dq hps
 have HZ:=dq (zkZ a c b _ (R.below B0) hb)
 rw [←hm] at hle hl ⊢
 rw [←hn0] at hle' hb HZ ⊢
 have HN0:=dq hn0.symm
 have HM:=dq hm.symm
 clear R P hn0 hm B0 hps
 go_enter Tryz.func100,Tryz.ntmps100
 go_wp2_with (fail)
 generalize w.alloc (.cells #[.slice none 0 0,.slice none 0 0] 53)=W0 at HB0 HL4 HRB HZ ⊢
 generalize hg4:w.heap.size=g4 at HL4 ⊢
 have HG4:=dq hg4
 clear hg4
 refine HZ.out.mono ?_
 rintro e w1 ⟨a1,c1,rfl,r1,f1,b1⟩
 clear HZ
 have hle3:=r1.le
 have HLO:=dq (zmn b)
 generalize hn1:(normL b).length=n1 at hle3 ⊢
 have HN1:=dq hn1
 have b2:Below w1.heap.size w1 (w1.alloc (.cells #[.slice a1 n1 c1,.slice none 0 0] 53)):=below_alloc _ _
 have HS:Hid (OfSt w g4 w1.heap.size a1 c1 n1 (normL b) none 0 0 (zaj [] (zaN (ps.take 0))) (w1.alloc (.cells #[.slice a1 n1 c1,.slice none 0 0] 53))):=dq
  ⟨(HB0.out.trans (b1.mono HB0.out.size)).trans (b2.mono (Nat.le_trans HB0.out.size b1.size)),(HL4.out.below b1 HL4.out.lt).alloc _,Lies.new w1 _ _,r1.below b2,Bags.nil _,hn1,rfl,by rw [HG4.out];exact Nat.le_refl _,Nat.le_trans HB0.out.size b1.size,by have:=HL4.out.lt;have:=b1.size;omega⟩
 have HRB1:=dq ((HRB.out.below b1).below b2)
 clear r1 f1 b1 b2 hn1 HRB
 by_cases h0:n1=0
 ·have HNI:Hid (normL b=[]):=dq (List.eq_nil_of_length_eq_zero (by rw [HN1.out];exact h0))
  have Z:=zj1 a c b _ HRB1.out
  rw [HN0.out] at Z
  have HZ:=dq Z
  clear Z
  obtain rfl:=h0
  go_wp2_with (fail)
  generalize w1.alloc (.cells #[.slice a1 0 c1,.slice none 0 0] 53)=W1 at HS HRB1 HZ ⊢
  generalize w1.heap.size=g6 at HS ⊢
  refine HZ.out.mono ?_
  rintro e w' ⟨rfl,rfl⟩
  clear HZ
  cases hz:zk0 b with
  | false=>
   have HL:Hid (zmi b ps=false∧zbh b ps=⟨[],[]⟩):=dq (zrl (by rw [HLO.out,HNI.out,hz];rfl))
   clear hz
   obtain ⟨e0,e1,eb⟩:=HS.out.none4
   have HF:=dq (zbf HL.out.2 HL.out.1 eb)
   have HE0:=dq e0
   have HE1:=dq e1
   have d0:=HS.out.d0
   have d1:=HS.out.d1
   have z0:=HS.out.z4 0
   have z1:=HS.out.z4 1
   clear e0 e1 eb
   go_wp2
   generalize (W1.setCell ⟨g4,0,none⟩ (.slice none 0 0)).setCell ⟨g4,1,none⟩ (.slice none 0 0)=WF at HE0 HE1 HF ⊢
   have e0:=HE0.out
   have e1:=HE1.out
   exact bodyPost_ret (v:=.tuple #[.agg #[.slice none 0 0,.slice none 0 0],.bool false]) (by simp [results,Tryz.results100,go_sem,e0,e1]) rfl HF.out
  | true=>
   have HLB:Hid (zfg b=false):=dq (by rw [HLO.out,hz];simp)
   clear hz HRB1
   go_wp2
   go_loopw [25] (fun i wr=>∃ (k:Nat) (qa:Option Addr) (qc qm:Nat),k≤m∧i=.int .i64 k∧Hid (OfSt w g4 g6 a1 c1 0 (normL b) qa qc qm (zaj [] (zaN (ps.take k))) wr)∧Hid (∀ j,j<k→zfg (ps.getD j [])=false)) (fun i _=>m-(intOf i).toNat)
   case atStart=>exact ⟨0,none,0,0,Nat.zero_le _,rfl,HS,dq (fun j h=>by omega)⟩
   case round=>
    obtain ⟨k,qa,qc,qm,hk,rfl,HT,HE⟩:=hrel
    by_cases hlt:k<m
    ·obtain ⟨g,pb,pd,rfl,hc,hbag⟩:=(HP.out.below HT.out.bel).at (k:=k) (by rw [HM.out];exact hlt)
     have hpl:(ps.getD k []).length≤1000:=HPL.out k
     have HTS:=dq (zeP (l:=ps) (k:=k) (by rw [HM.out];exact hlt))
     have HA:=dq (zi8 (ps.take k))
     have HTK:Hid ((ps.take k).length=k):=dq (by rw [List.length_take,HM.out];omega)
     generalize hp:ps.getD k []=p at hc hbag hpl HTS
     have HPP:=dq hp
     have hle2:=hbag.le
     have Z:=zkZ pb pd p wr hbag hpl
     have HBG:=dq hbag
     generalize hlp:p.length=lp at hc Z hle2
     have HLP:=dq hlp
     have HZ:=dq Z
     clear Z hbag hp hlp
     go_wp2_with (fail)
     refine HZ.out.mono ?_
     rintro e w2 ⟨a2,c2,rfl,r2,f2,b2⟩
     clear HZ
     have HT2:=dq (HT.out.below b2)
     have HB2:=dq (HBG.out.below b2)
     have hle3:=r2.le
     have hs:=zi9 p
     have HLO:=dq (zmn p)
     generalize hn2:(normL p).length=n2 at hle3 hs ⊢
     have HN2:=dq hn2
     have HR2:=dq r2
     clear r2 f2 b2 hn2 hc
     by_cases h0:n2=0
     ·have HNI:Hid (normL p=[]):=dq (List.eq_nil_of_length_eq_zero (by rw [HN2.out];exact h0))
      have Z:=zj1 pb pd p w2 HB2.out
      rw [HLP.out] at Z
      have HZ:=dq Z
      clear Z
      rw [h0]
      clear h0
      go_wp2_with (fail)
      refine HZ.out.mono ?_
      rintro e w' ⟨rfl,rfl⟩
      clear HZ
      cases hz:zk0 p with
      | false=>
       have HL:Hid (zmi b ps=false∧zbh b ps=⟨[],[]⟩):=dq (znc (k:=k) (by rw [HM.out];exact hlt) (by rw [HPP.out,HLO.out,HNI.out,hz];rfl))
       clear hz
       obtain ⟨e0,e1,eb⟩:=HT2.out.none4
       have HF:=dq (zbf HL.out.2 HL.out.1 eb)
       have HE0:=dq e0
       have HE1:=dq e1
       have d0:=HT2.out.d0
       have d1:=HT2.out.d1
       have z0:=HT2.out.z4 0
       have z1:=HT2.out.z4 1
       clear e0 e1 eb
       go_wp2
       generalize (w2.setCell ⟨g4,0,none⟩ (.slice none 0 0)).setCell ⟨g4,1,none⟩ (.slice none 0 0)=WF at HE0 HE1 HF ⊢
       have e0:=HE0.out
       have e1:=HE1.out
       exact bodyPost_ret (v:=.tuple #[.agg #[.slice none 0 0,.slice none 0 0],.bool false]) (by simp [results,Tryz.results100,go_sem,e0,e1]) rfl HF.out
      | true=>
       have HL:Hid (zfg p=false):=dq (by rw [HLO.out,hz];simp)
       clear hz
       have HT3:Hid (OfSt w g4 g6 a1 c1 0 (normL b) qa qc qm (zaj [] (zaN (ps.take (k+1)))) w2):=dq (by
        rw [HTS.out,zdL,HNI.out,if_pos rfl,List.append_nil];exact HT2.out)
       go_wp2
       go_roundw
       case rel=>exact ⟨k+1,qa,qc,qm,by omega,by go_num,HT3,dq (fun j hj=>by
        by_cases e:j=k
        ·rw [e,HPP.out];exact HL.out
        ·exact HE.out j (by omega))⟩
       case measure=>simp [intOf];omega
     ·have HNI:Hid (normL p≠[]):=dq (fun e=>h0 (by rw [←HN2.out,e];rfl))
      have HL:Hid (zfg p=false):=dq (by
       rw [HLO.out]
       have:=HNI.out
       cases h:normL p with
       | nil=>exact absurd h this
       | cons _ _=>rfl)
      have hl0:((n2:Int)==0)=false:=by simp;omega
      have hl1:0<n2:=by omega
      have k1:=HT2.out.c1
      have Z:=zj3 qa a2 qc c2 (zaj [] (zaN (ps.take k))) (normL p) w2 HT2.out.ps HR2.out (by have:=zcC (zaN (ps.take k)) [];have h1:=HA.out;have h2:=HTK.out;rw [List.length_nil] at this;omega) (by rw [HN2.out];omega)
      rw [HT2.out.num,HN2.out] at Z
      have HZ:=dq Z
      clear Z
      go_wp2_with (fail)
      refine HZ.out.mono ?_
      rintro e w3 ⟨a3,c3,rfl,r3,b3⟩
      clear HZ k1
      have HT3:=dq (HT2.out.below b3)
      have HR3:=dq r3
      clear r3 b3
      generalize hm3:(zdz (normL p) (zaj [] (zaN (ps.take k)))).length=m3
      have HT4:Hid (OfSt w g4 g6 a1 c1 0 (normL b) a3 c3 m3 (zaj [] (zaN (ps.take (k+1)))) (w3.setCell ⟨g6,1,none⟩ (.slice a3 m3 c3))):=dq (by
       have:=HT3.out.store HR3.out hm3
       rwa [HTS.out,zdL,if_neg HNI.out,zdM])
      have k1:=HT3.out.c1
      have z1:=HT3.out.z6 1
      clear hm3
      go_wp2
      go_roundw
      case rel=>exact ⟨k+1,a3,c3,m3,by omega,by go_num,HT4,dq (fun j hj=>by
       by_cases e:j=k
       ·rw [e,HPP.out];exact HL.out
       ·exact HE.out j (by omega))⟩
      case measure=>simp [intOf];omega
    ·obtain ⟨e0,e1,eB,eP,eb⟩:=HT.out.full
     have HL:Hid (zmi b ps=true∧zbh b ps=⟨normL b,zaj [] (zaN (ps.take k))⟩):=dq (by
      have h:=znd (b:=b) (ps:=ps) HLB.out (fun j hj=>HE.out j (by rw [HM.out] at hj;omega))
      rwa [List.take_of_length_le (by rw [HM.out];omega)])
     have HF:=dq (zfB HL.out.2 HL.out.1 HT.out.len HT.out.num eB eP eb)
     have HE0:=dq e0
     have HE1:=dq e1
     have k0:=HT.out.c0
     have k1:=HT.out.c1
     have d0:=HT.out.d0
     have d1:=HT.out.d1
     have z0:=HT.out.z4 0
     have z1:=HT.out.z4 1
     clear e0 e1 eb eB eP
     go_wp2
     generalize (wr.setCell ⟨g4,0,none⟩ (.slice a1 0 c1)).setCell ⟨g4,1,none⟩ (.slice qa qm qc)=WF at HE0 HE1 HF ⊢
     have e0:=HE0.out
     have e1:=HE1.out
     exact bodyPost_ret (v:=.tuple #[.agg #[.slice a1 0 c1,.slice qa qm qc],.bool true]) (by simp [results,Tryz.results100,go_sem,e0,e1]) rfl HF.out
 ·have HLB:Hid (zfg b=false):=dq (by
   rw [HLO.out]
   cases h:normL b with
   | nil=>exact absurd (by rw [←HN1.out,h];rfl) h0
   | cons _ _=>rfl)
  have hl0:((n1:Int)==0)=false:=by simp;omega
  go_wp2
  generalize w1.alloc (.cells #[.slice a1 n1 c1,.slice none 0 0] 53)=W1 at HS HRB1 ⊢
  generalize w1.heap.size=g6 at HS ⊢
  clear HRB1
  go_loopw [25] (fun i wr=>∃ (k:Nat) (qa:Option Addr) (qc qm:Nat),k≤m∧i=.int .i64 k∧Hid (OfSt w g4 g6 a1 c1 n1 (normL b) qa qc qm (zaj [] (zaN (ps.take k))) wr)∧Hid (∀ j,j<k→zfg (ps.getD j [])=false)) (fun i _=>m-(intOf i).toNat)
  case atStart=>exact ⟨0,none,0,0,Nat.zero_le _,rfl,HS,dq (fun j h=>by omega)⟩
  case round=>
   obtain ⟨k,qa,qc,qm,hk,rfl,HT,HE⟩:=hrel
   by_cases hlt:k<m
   ·obtain ⟨g,pb,pd,rfl,hc,hbag⟩:=(HP.out.below HT.out.bel).at (k:=k) (by rw [HM.out];exact hlt)
    have hpl:(ps.getD k []).length≤1000:=HPL.out k
    have HTS:=dq (zeP (l:=ps) (k:=k) (by rw [HM.out];exact hlt))
    have HA:=dq (zi8 (ps.take k))
    have HTK:Hid ((ps.take k).length=k):=dq (by rw [List.length_take,HM.out];omega)
    generalize hp:ps.getD k []=p at hc hbag hpl HTS
    have HPP:=dq hp
    have hle2:=hbag.le
    have Z:=zkZ pb pd p wr hbag hpl
    have HBG:=dq hbag
    generalize hlp:p.length=lp at hc Z hle2
    have HLP:=dq hlp
    have HZ:=dq Z
    clear Z hbag hp hlp
    go_wp2_with (fail)
    refine HZ.out.mono ?_
    rintro e w2 ⟨a2,c2,rfl,r2,f2,b2⟩
    clear HZ
    have HT2:=dq (HT.out.below b2)
    have HB2:=dq (HBG.out.below b2)
    have hle3:=r2.le
    have hs:=zi9 p
    have HLO:=dq (zmn p)
    generalize hn2:(normL p).length=n2 at hle3 hs ⊢
    have HN2:=dq hn2
    have HR2:=dq r2
    clear r2 f2 b2 hn2 hc
    by_cases h0:n2=0
    ·have HNI:Hid (normL p=[]):=dq (List.eq_nil_of_length_eq_zero (by rw [HN2.out];exact h0))
     have Z:=zj1 pb pd p w2 HB2.out
     rw [HLP.out] at Z
     have HZ:=dq Z
     clear Z
     rw [h0]
     clear h0
     go_wp2_with (fail)
     refine HZ.out.mono ?_
     rintro e w' ⟨rfl,rfl⟩
     clear HZ
     cases hz:zk0 p with
     | false=>
      have HL:Hid (zmi b ps=false∧zbh b ps=⟨[],[]⟩):=dq (znc (k:=k) (by rw [HM.out];exact hlt) (by rw [HPP.out,HLO.out,HNI.out,hz];rfl))
      clear hz
      obtain ⟨e0,e1,eb⟩:=HT2.out.none4
      have HF:=dq (zbf HL.out.2 HL.out.1 eb)
      have HE0:=dq e0
      have HE1:=dq e1
      have d0:=HT2.out.d0
      have d1:=HT2.out.d1
      have z0:=HT2.out.z4 0
      have z1:=HT2.out.z4 1
      clear e0 e1 eb
      go_wp2
      generalize (w2.setCell ⟨g4,0,none⟩ (.slice none 0 0)).setCell ⟨g4,1,none⟩ (.slice none 0 0)=WF at HE0 HE1 HF ⊢
      have e0:=HE0.out
      have e1:=HE1.out
      exact bodyPost_ret (v:=.tuple #[.agg #[.slice none 0 0,.slice none 0 0],.bool false]) (by simp [results,Tryz.results100,go_sem,e0,e1]) rfl HF.out
     | true=>
      have HL:Hid (zfg p=false):=dq (by rw [HLO.out,hz];simp)
      clear hz
      have HT3:Hid (OfSt w g4 g6 a1 c1 n1 (normL b) qa qc qm (zaj [] (zaN (ps.take (k+1)))) w2):=dq (by
       rw [HTS.out,zdL,HNI.out,if_pos rfl,List.append_nil];exact HT2.out)
      go_wp2
      go_roundw
      case rel=>exact ⟨k+1,qa,qc,qm,by omega,by go_num,HT3,dq (fun j hj=>by
       by_cases e:j=k
       ·rw [e,HPP.out];exact HL.out
       ·exact HE.out j (by omega))⟩
      case measure=>simp [intOf];omega
    ·have HNI:Hid (normL p≠[]):=dq (fun e=>h0 (by rw [←HN2.out,e];rfl))
     have HL:Hid (zfg p=false):=dq (by
      rw [HLO.out]
      have:=HNI.out
      cases h:normL p with
      | nil=>exact absurd h this
      | cons _ _=>rfl)
     have hl0:((n2:Int)==0)=false:=by simp;omega
     have hl1:0<n2:=by omega
     have k1:=HT2.out.c1
     have Z:=zj3 qa a2 qc c2 (zaj [] (zaN (ps.take k))) (normL p) w2 HT2.out.ps HR2.out (by have:=zcC (zaN (ps.take k)) [];have h1:=HA.out;have h2:=HTK.out;rw [List.length_nil] at this;omega) (by rw [HN2.out];omega)
     rw [HT2.out.num,HN2.out] at Z
     have HZ:=dq Z
     clear Z
     go_wp2_with (fail)
     refine HZ.out.mono ?_
     rintro e w3 ⟨a3,c3,rfl,r3,b3⟩
     clear HZ k1
     have HT3:=dq (HT2.out.below b3)
     have HR3:=dq r3
     clear r3 b3
     generalize hm3:(zdz (normL p) (zaj [] (zaN (ps.take k)))).length=m3
     have HT4:Hid (OfSt w g4 g6 a1 c1 n1 (normL b) a3 c3 m3 (zaj [] (zaN (ps.take (k+1)))) (w3.setCell ⟨g6,1,none⟩ (.slice a3 m3 c3))):=dq (by
      have:=HT3.out.store HR3.out hm3
      rwa [HTS.out,zdL,if_neg HNI.out,zdM])
     have k1:=HT3.out.c1
     have z1:=HT3.out.z6 1
     clear hm3
     go_wp2
     go_roundw
     case rel=>exact ⟨k+1,a3,c3,m3,by omega,by go_num,HT4,dq (fun j hj=>by
      by_cases e:j=k
      ·rw [e,HPP.out];exact HL.out
      ·exact HE.out j (by omega))⟩
     case measure=>simp [intOf];omega
   ·obtain ⟨e0,e1,eB,eP,eb⟩:=HT.out.full
    have HL:Hid (zmi b ps=true∧zbh b ps=⟨normL b,zaj [] (zaN (ps.take k))⟩):=dq (by
     have h:=znd (b:=b) (ps:=ps) HLB.out (fun j hj=>HE.out j (by rw [HM.out] at hj;omega))
     rwa [List.take_of_length_le (by rw [HM.out];omega)])
    have HF:=dq (zfB HL.out.2 HL.out.1 HT.out.len HT.out.num eB eP eb)
    have HE0:=dq e0
    have HE1:=dq e1
    have k0:=HT.out.c0
    have k1:=HT.out.c1
    have d0:=HT.out.d0
    have d1:=HT.out.d1
    have z0:=HT.out.z4 0
    have z1:=HT.out.z4 1
    clear e0 e1 eb eB eP
    go_wp2
    generalize (wr.setCell ⟨g4,0,none⟩ (.slice a1 n1 c1)).setCell ⟨g4,1,none⟩ (.slice qa qm qc)=WF at HE0 HE1 HF ⊢
    have e0:=HE0.out
    have e1:=HE1.out
    exact bodyPost_ret (v:=.tuple #[.agg #[.slice a1 n1 c1,.slice qa qm qc],.bool true]) (by simp [results,Tryz.results100,go_sem,e0,e1]) rfl HF.out
end Go.Proofs.YtmnkjekjknhhjaaGreatDoor
namespace Go.Proofs.YtmnkjekjknhhjaaGreatDoor
open Go.ChangeShapes Go.WideShapes Go.ChangeAt Go.RowKit
theorem RowAt.below {w w':World} {a:Option Addr} {zs:List Int} {k:Nat} (h:RowAt w a zs k) (b:Below w.heap.size w w'):RowAt w' a zs k:=by
 obtain ⟨bk,off,e,hc,hb,h1,h2⟩:=h
 exact ⟨bk,off,e,(b.cell (p:=⟨bk,off+k,none⟩) hb).trans hc,Nat.lt_of_lt_of_le hb b.size,h1,h2⟩
def zuQ (w:World) (e:Ending) (w':World):Prop:=∃ n:Int,-9223372036854775808≤n∧n≤9223372036854775807∧e=.returned (.int .i64 n)∧w=w'
def Came (w:World) (a:Option Addr) (len cap:Nat) (zs:List Int):Prop:=
 len≤9223372036854775807∧(a=none→len=0∧cap=0)∧len≤cap∧len≤zs.length∧∀ k,k<len→RowAt w a zs k
theorem Came.below {w w':World} {a:Option Addr} {len cap:Nat} {zs:List Int} (h:Came w a len cap zs) (b:Below w.heap.size w w'):Came w' a len cap zs:=
 ⟨h.1,h.2.1,h.2.2.1,h.2.2.2.1,fun k hk=>(h.2.2.2.2 k hk).below b⟩
theorem zuh (a:Option Addr) (len cap:Nat) (zs:List Int) (k:Nat) (w:World) (h:Came w a len cap zs) (hk:k≤1000) :
  Calls Tryz.prog 37 #[.slice a len cap,.int .i64 k] w (zuQ w):=by
 have hlen:=h.1
 have HR:=dq h.2.2.2.2
 clear h
 have h0:¬((k:Int)<0):=by omega
 by_cases hlt:k<len
 ·obtain ⟨b,off,rfl,hc,hb,h1,h2⟩:=HR.out k hlt
  generalize zs.getD k 0=z at hc h1 h2
  go_enter Tryz.func37,Tryz.ntmps37
  go_wp2
  go_ret
  exact ⟨z,h1,h2,rfl,rfl⟩
 ·go_enter Tryz.func37,Tryz.ntmps37
  go_wp2
  go_ret
  exact ⟨0,by omega,by omega,rfl,rfl⟩
def Four (vs:List Int):Prop:=vs.length=4∧∀ j,0≤vs.getD j 0∧vs.getD j 0≤39
theorem zpb:Four (tab 4 (fun _=>0)):=by
 refine ⟨zaw _ _,fun j=>?_⟩
 by_cases hj:j<4
 ·rw [zd0 hj];omega
 ·rw [zfZ (by omega)];omega
theorem Four.set {vs:List Int} (h:Four vs) (k:Nat) {z:Int} (h0:0≤z) (h1:z≤39):Four (vs.set k z):=by
 refine ⟨by rw [List.length_set];exact h.1,fun j=>?_⟩
 have:=h.2 j
 rw [List.getD_eq_getElem?_getD,List.getElem?_set]
 by_cases e:k=j
 ·rw [if_pos e]
  by_cases hl:k<vs.length
  ·rw [if_pos hl];exact ⟨h0,h1⟩
  ·rw [if_neg hl];simp
 ·rw [if_neg e,←List.getD_eq_getElem?_getD];exact this
theorem Four.small {vs:List Int} (h:Four vs):Small 39 (normL vs):=by
 have hc:=zfo vs
 have hr:zaa (trimL vs)=true:=zcx (by rw [zbo];have:=h.1;omega) (fun j _=>by rw [zcF];have:=h.2 j;omega) zf0
 rw [zeQ hr]
 exact ⟨hr,by rw [zbo];have:=h.1;omega,fun j=>by rw [zcF];exact (h.2 j).2⟩
end Go.Proofs.YtmnkjekjknhhjaaGreatDoor
namespace Go.Proofs.YtmnkjekjknhhjaaGreatDoor
open Go.ChangeShapes Go.WideShapes Go.ChangeAt Go.RowKit
set_option maxRecDepth 100000 in
theorem zuZ (a:Option Addr) (c m:Nat) (ps:List Bg) (W:World) (P:Bgs W a c ps) (hm:ps.length=m) (b:Option Addr) (d n:Nat) (ys:List Int) (R:Bag W b d ys) (hn:ys.length=n) (hs:m≤100000000000) :
  ∃ a2 c2 w2,(Builtin.append_ #[51,51] 51 #[.slice a m c,.slice (some ⟨W.heap.size,0,none⟩) 1 1]).run Tryz.prog (W.alloc (.cells #[.slice b n d] 31))=.ok (.slice a2 (m+1) c2) w2∧
   Bgs w2 a2 c2 (ps++[⟨b,d,ys⟩])∧Kept (fun g=>a=some ⟨g,0,none⟩) W w2∧(∀ B,B≤W.heap.size→From B a→From B a2∧Below B W w2):=by
 subst hm
 subst hn
 have b3:Below W.heap.size W (W.alloc (.cells #[.slice b ys.length d] 31)):=below_alloc _ _
 have r3:=P.row.below b3
 obtain ⟨v2,w2,hr,A2⟩:=zjZ 51 51 31 Tryz.underlying51 Tryz.infoBag a c ps.length (zgF ps) (W.alloc (.cells #[.slice b ys.length d] 31)) r3 (zc9 ps).symm
  (some ⟨W.heap.size,0,none⟩) 1 1 [.slice b ys.length d] (Row.new1 _ _ _) rfl (by simp [Value.oneCell']) (by rw [zc9];simp;omega)
 have A2':=A2
 obtain ⟨a2,c2,rfl,r2,k2,f2⟩:=A2
 have e1:(zgF ps).length+[Value.slice b ys.length d].length=ps.length+1:=by rw [zc9];rfl
 rw [e1] at hr
 have k0:Kept (fun g=>a=some ⟨g,0,none⟩) W w2:=(Kept.of_below b3).trans k2 (fun _ _ h=>h)
 refine ⟨a2,c2,w2,hr,⟨?_,?_⟩,k0,fun B hB hf=>?_⟩
 ·have:zgF (ps++[⟨b,d,ys⟩])=zgF ps++[.slice b ys.length d]:=by simp [zgF,Bg.val]
  rw [this]
  exact r2
 ·intro p hp
  rcases List.mem_append.1 hp with hp | hp
  ·exact P.keptEach k0 p hp
  ·obtain rfl:=List.mem_singleton.1 hp
   have h0:Bag (W.alloc (.cells #[.slice b ys.length d] 31)) b d ys:=R.below b3
   exact h0.kept k2 (fun g e=>h0.apart r3 e)
 ·obtain ⟨bb,ff⟩:=A2'.below (B:=B) (Nat.le_trans hB b3.size) hf
  exact ⟨ff _ _ _ rfl,(b3.mono hB).trans bb⟩
end Go.Proofs.YtmnkjekjknhhjaaGreatDoor

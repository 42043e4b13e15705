import Derived.Test.YtmnkjekjknhhjaaGreatDoorMc
import Derived.Test.YtmnkjekjknhhjaaGreatDoorHa
import Derived.Deep.RegionHeld3
import Derived.Deep.CutBlock
import Derived.Deep.DeepCutAuto
import Derived.Deep.CutRange
namespace Go.Proofs.YtmnkjekjknhhjaaGreatDoor
open Go.ChangeShapes Go.WideShapes Go.ChangeAt Go.RowKit
def zfh (b:Lin):List Lin→Nat
 | []=>0
 | x::r=>if zak x b<0 then zfh b r+1 else 0
theorem zeV (x:Lin) (r:List Lin):zab (x::r) 0=x:=rfl
theorem zeW (x:Lin) (r:List Lin) (k:Nat):zab (x::r) (k+1)=zab r k:=by simp [zab,List.getD]
theorem zka {b:Lin}:∀ {l:List Lin} {k:Nat},k≤l.length→(∀ j,j<k→zak (zab l j) b<0)→(k<l.length→¬zak (zab l k) b<0)→zfh b l=k
 | [],k,hk,_,_=>by simp at hk;simp [zfh,hk]
 | x::r,k,hk,h1,h2=>by
  unfold zfh
  cases k with
  | zero=>rw [if_neg (by simpa [zeV] using h2 (by simp))]
  | succ k=>
   rw [if_pos (by simpa [zeV] using h1 0 (by omega)),zka (l:=r) (k:=k) (by simpa using hk) (fun j hj=>by simpa [zeW] using h1 (j+1) (by omega)) (fun h=>by simpa [zeW] using h2 (by simpa using h))]
theorem zld {b:Lin}:∀ {l:List Lin},zfh b l<l.length→zak (zab l (zfh b l)) b=0→zf1 b l=l
 | [],h,_=>by simp at h
 | x::r,h,e=>by
  unfold zfh at h e
  unfold zf1
  split at h
  ·next hx=>
   rw [if_pos hx]
   rw [if_pos hx,zeW] at e
   rw [zld (l:=r) (by simpa using h) e]
  ·next hx=>
   rw [if_neg hx,zeV] at e
   rw [if_neg hx,if_pos e]
theorem znv {b:Lin}:∀ {l:List Lin},(zfh b l<l.length→zak (zab l (zfh b l)) b≠0)→zf1 b l=l.take (zfh b l)++[b]++l.drop (zfh b l)
 | [],_=>by simp [zf1,zfh]
 | x::r,h=>by
  unfold zfh at h ⊢
  unfold zf1
  split
  ·next hx=>
   rw [if_pos hx] at h
   rw [znv (l:=r) (fun hl=>by simpa [zeW] using h (by simpa using hl))]
   simp
  ·next hx=>
   rw [if_neg hx] at h
   have:=h (by simp)
   rw [zeV] at this
   rw [if_neg this]
   simp
theorem zgL:∀ (ls:List Lb) (k:Nat),(zaF ls).take (k*2)=zaF (ls.take k)
 | [],k=>by simp [zaF]
 | l::r,0=>by simp [zaF]
 | l::r,k+1=>by
  have e:zaF (l::r)=l.cells++zaF r:=rfl
  have e2:zaF ((l::r).take (k+1))=l.cells++zaF (r.take k):=rfl
  have hl:l.cells.length=2:=rfl
  rw [e,e2,←zgL r k,List.take_append,hl,List.take_of_length_le (by rw [hl];omega)]
  congr 2
  omega
theorem zjc:∀ (ls:List Lb) (k:Nat),(zaF ls).drop (k*2)=zaF (ls.drop k)
 | [],k=>by simp [zaF]
 | l::r,0=>by simp
 | l::r,k+1=>by
  have e:zaF (l::r)=l.cells++zaF r:=rfl
  have e2:(l::r).drop (k+1)=r.drop k:=rfl
  have hl:l.cells.length=2:=rfl
  rw [e,e2,←zjc r k,List.drop_append,hl,List.drop_of_length_le (by rw [hl];omega),List.nil_append]
  congr 1
  omega
theorem Row2.cut {w:World} {a:Option Addr} {c n:Nat} {xs:List Value} (h:Row2 w a c n xs) {k:Nat} (hk:k≤n):Row2 w a c k (xs.take (k*2)):=by
 obtain ⟨h0,h⟩:=h
 have hl:(xs.take (k*2)).length=k*2:=by rw [List.length_take];omega
 refine ⟨hl,?_⟩
 rcases h with ⟨h1,h2,h3⟩ | ⟨g,sp,e,h1,h2,h3,l⟩
 ·exact .inl ⟨h1,h2,by omega⟩
 ·refine .inr ⟨g,xs.drop (k*2)++sp,e,?_,by omega,h3,l.to (by rw [←List.append_assoc,List.take_append_drop])⟩
  rw [hl,List.length_append,List.length_drop];omega
theorem zeX {V:World} (l:Lb) (n m:Nat) (hn:l.x.base.length=n) (hm:l.x.ps.length=m):Row2 (V.alloc (.cells #[.slice l.a n l.c,.slice l.pa m l.pc] 53)) (some ⟨V.heap.size,0,none⟩) 1 1 (zaF [l]):=by
 subst hn;subst hm
 exact ⟨rfl,.inr ⟨V.heap.size,[],rfl,rfl,Nat.le_refl _,by omega,(Lies.new V 53 l.cells).to (by simp [zaF])⟩⟩
theorem Row2.apart {w:World} {a:Option Addr} {c n:Nat} {xs:List Value} (r:Row2 w a c n xs) {b:Option Addr} {d:Nat} {ys:List Int} (h:Bag w b d ys) {g:Nat} (e:b=some ⟨g,0,none⟩):a≠some ⟨g,0,none⟩:=by
 intro e2
 rcases h with ⟨h1,_⟩ | ⟨g1,sp,h1,_,_,l1⟩
 ·rw [h1] at e;cases e
 ·rw [h1] at e;injection e with e;injection e with e;subst e
  obtain ⟨_,r⟩:=r
  rcases r with ⟨h2,_⟩ | ⟨g2,sp2,h2,_,_,_,l2⟩
  ·rw [h2] at e2;cases e2
  ·rw [h2] at e2;injection e2 with e2;injection e2 with e2;subst e2
   exact l1.other l2 (by decide) rfl
theorem Row2.apartB {w:World} {a:Option Addr} {c n:Nat} {xs:List Value} (r:Row2 w a c n xs) {b:Option Addr} {d:Nat} {vs:List Value} (h:Row w 31 b d vs) {g:Nat} (e:b=some ⟨g,0,none⟩):a≠some ⟨g,0,none⟩:=by
 intro e2
 rcases h with ⟨h1,_⟩ | ⟨g1,sp,h1,_,_,l1⟩
 ·rw [h1] at e;cases e
 ·rw [h1] at e;injection e with e;injection e with e;subst e
  obtain ⟨_,r⟩:=r
  rcases r with ⟨h2,_⟩ | ⟨g2,sp2,h2,_,_,_,l2⟩
  ·rw [h2] at e2;cases e2
  ·rw [h2] at e2;injection e2 with e2;injection e2 with e2;subst e2
   exact l1.other l2 (by decide) rfl
theorem zen {w w':World} {a:Option Addr} {c n:Nat} {xs:List Value} (r:Row2 w a c n xs) (k:Kept (fun g=>a=some ⟨g,0,none⟩) w w') {b pb:Option Addr} {d pd:Nat} {x:Lin} (h:Bag w b d x.base∧Bags w pb pd x.ps):Bag w' b d x.base∧Bags w' pb pd x.ps:=by
 refine ⟨h.1.kept k (fun g e=>r.apart h.1 e),?_⟩
 obtain ⟨ps,hw,P⟩:=h.2
 exact ⟨ps,hw,P.row.kept k (fun g e=>r.apartB P.row e),fun p hp=>(P.each p hp).kept k (fun g e=>r.apart (P.each p hp) e)⟩
structure OsSt (w:World) (oa:Option Addr) (oc m:Nat) (ls:List Lb) (W:World):Prop where
 bel:Below w.heap.size w W
 row:Lbs W oa oc ls
 num:ls.length=m
 own:From w.heap.size oa
theorem OsSt.below {w W W':World} {oa:Option Addr} {oc m:Nat} {ls:List Lb} (h:OsSt w oa oc m ls W) (k:Below W.heap.size W W'):OsSt w oa oc m ls W':=
 ⟨h.bel.trans (k.mono h.bel.size),h.row.below k,h.num,h.own⟩
def zuR (a:Option Addr) (m k:Nat) (src:Option Addr) (d:Nat):Prop:=
 (a=none∧m=k∧src=none∧d=0)∨∃ g ad,a=some ⟨g,0,none⟩∧src=some ad∧(k<m→ad=⟨g,k*2,none⟩)
theorem OsSt.rest {w W:World} {oa:Option Addr} {oc m:Nat} {ls:List Lb} (h:OsSt w oa oc m ls W) {k d:Nat} {src:Option Addr} (hk:k≤m) (hm:m≤100000000000) (T:zuR oa m k src d) :
  ∃ ra rc w1,(Builtin.append_ #[24,24] 24 #[.slice none 0 0,.slice src (m-k) d]).run Tryz.prog W=.ok (.slice ra (m-k) rc) w1∧
   Row2 w1 ra rc (m-k) (zaF (ls.drop k))∧From W.heap.size ra∧Below W.heap.size W w1:=by
 have hl:(zaF (ls.drop k)).length=(m-k)*2:=by rw [zh2,List.length_drop,h.num]
 have R:∃ v w',(Builtin.append_ #[24,24] 24 #[.slice none 0 0,.slice src (m-k) d]).run Tryz.prog W=.ok v w'∧Appends2 none 0 (m-k) [] (zaF (ls.drop k)) W v w':=by
  rcases T with ⟨_,hm,rfl,rfl⟩ | ⟨g,ad,ha,rfl,had⟩
  ·subst hm
   have e:zaF (ls.drop m)=[]:=List.eq_nil_of_length_eq_zero (by rw [hl];omega)
   rw [e,Nat.sub_self]
   exact zel 24 24 Tryz.underlying24 none 0 0 [] W (Row2.nil W)
  ·refine zcJ 24 24 Tryz.underlying24 none 0 0 [] W (Row2.nil W) ad (m-k) d (zaF (ls.drop k)) hl (fun j u hj=>?_) (zdD _) (by omega)
   have hj':=(List.getElem?_eq_some_iff.1 hj).1
   rw [had (by omega),Addr.add_lit]
   rw [←zjc,List.getElem?_drop] at hj
   obtain ⟨g',e',hc⟩:=h.row.row.cell hj
   rw [ha] at e';injection e' with e';injection e' with e';subst e'
   exact hc
 obtain ⟨v,w1,hr,A⟩:=R
 obtain ⟨bb,ff⟩:=A.below (B:=W.heap.size) (Nat.le_refl _) (From.none _)
 obtain ⟨ra,rc,rfl,r,_,_⟩:=A
 rw [Nat.zero_add] at hr r
 rw [List.nil_append] at r
 exact ⟨ra,rc,w1,hr,r,ff _ _ _ rfl,bb⟩
theorem OsSt.ins {w W V:World} {oa:Option Addr} {oc m:Nat} {ls:List Lb} (h:OsSt w oa oc m ls W) {k:Nat} (hk:k≤m) (hm:m≤100000000000) {ra:Option Addr} {rc:Nat} (b:Below W.heap.size W V) (hr:Row2 V ra rc (m-k) (zaF (ls.drop k))) (fr:From W.heap.size ra) (l:Lb) (n q:Nat) (hn:l.x.base.length=n) (hq:l.x.ps.length=q) (hl:Bag V l.a l.c l.x.base∧Bags V l.pa l.pc l.x.ps) :
  ∃ a2 c2 w4 a5 c5 w5,(Builtin.append_ #[24,24] 24 #[.slice oa k oc,.slice (some ⟨V.heap.size,0,none⟩) 1 1]).run Tryz.prog (V.alloc (.cells #[.slice l.a n l.c,.slice l.pa q l.pc] 53))=.ok (.slice a2 (k+1) c2) w4∧
   (Builtin.append_ #[24,24] 24 #[.slice a2 (k+1) c2,.slice ra (m-k) rc]).run Tryz.prog w4=.ok (.slice a5 (m+1) c5) w5∧
   OsSt w a5 c5 (m+1) (ls.take k++[l]++ls.drop k) w5∧
   (∀ g cs,Lies W g 53 cs→oa≠some ⟨g,0,none⟩→Lies w4 g 53 cs∧Lies w5 g 53 cs):=by
 have b1:=below_alloc V (.cells #[.slice l.a n l.c,.slice l.pa q l.pc] 53)
 have h1:=(h.below b).below b1
 have b01:=b.trans (b1.mono b.size)
 have rk:Row2 (V.alloc (.cells #[.slice l.a n l.c,.slice l.pa q l.pc] 53)) oa oc k (zaF (ls.take k)):=by
  have:=h1.row.row.cut (k:=k) (by rw [h.num];exact hk)
  rwa [zgL] at this
 have rn:=zeX (V:=V) l n q hn hq
 obtain ⟨v2,w4,hr2,A2⟩:=zcJ 24 24 Tryz.underlying24 oa oc k (zaF (ls.take k)) _ rk ⟨V.heap.size,0,none⟩ 1 1 (zaF [l]) rfl (fun j u hj=>by
  obtain ⟨g',e',hc⟩:=rn.cell hj
  injection e' with e';injection e' with e';subst e'
  rw [Addr.add_lit,Nat.zero_add];exact hc) (zdD _) (by omega)
 obtain ⟨B2,F2⟩:=A2.below (B:=w.heap.size) h1.bel.size h.own
 obtain ⟨a2,c2,rfl,r2,k2,f2⟩:=A2
 have F2:=F2 _ _ _ rfl
 have ltra:∀ g,ra=some ⟨g,0,none⟩→oa≠some ⟨g,0,none⟩:=fun g e e2=>by
  have h3:=fr g e
  have h4:=h.row.row.lt e2
  omega
 have hr4:Row2 w4 ra rc (m-k) (zaF (ls.drop k)):=(hr.below b1).kept k2 (fun g e=>ltra g e)
 have hdl:(zaF (ls.drop k)).length=(m-k)*2:=by rw [zh2,List.length_drop,h.num]
 have R3:∃ v5 w5,(Builtin.append_ #[24,24] 24 #[.slice a2 (k+1) c2,.slice ra (m-k) rc]).run Tryz.prog w4=.ok v5 w5∧Appends2 a2 (k+1) (m-k) (zaF (ls.take k)++zaF [l]) (zaF (ls.drop k)) w4 v5 w5:=by
  obtain ⟨q0,qq⟩:=hr4
  rcases qq with ⟨rfl,rfl,e0⟩ | ⟨g,sp,rfl,q1,q2,q3,lq⟩
  ·have e1:zaF (ls.drop k)=[]:=List.eq_nil_of_length_eq_zero (by omega)
   rw [e1,e0]
   exact zel 24 24 Tryz.underlying24 a2 c2 (k+1) _ w4 r2
  ·refine zcJ 24 24 Tryz.underlying24 a2 c2 (k+1) _ w4 r2 ⟨g,0,none⟩ (m-k) rc (zaF (ls.drop k)) hdl (fun j u hj=>?_) (zdD _) (by omega)
   rw [Addr.add_lit,Nat.zero_add,lq.cell,List.getElem?_append_left (List.getElem?_eq_some_iff.1 hj).1]
   exact hj
 obtain ⟨v5,w5,hr5,A5⟩:=R3
 obtain ⟨B5,F5⟩:=A5.below (B:=w.heap.size) (Nat.le_trans h1.bel.size B2.size) F2
 obtain ⟨a5,c5,rfl,r5,k5,f5⟩:=A5
 have F5:=F5 _ _ _ rfl
 have e5:k+1+(m-k)=m+1:=by omega
 rw [e5] at hr5 r5
 have hlen:(ls.take k++[l]++ls.drop k).length=m+1:=by
  rw [List.length_append,List.length_append,List.length_take,List.length_drop,h.num];simp;omega
 refine ⟨a2,c2,w4,a5,c5,w5,hr2,hr5,⟨(h1.bel.trans B2).trans B5,⟨?_,?_⟩,hlen,F5⟩,fun g cs lg hg=>?_⟩
 ·rw [hlen,zf3,zf3];exact r5
 ·have old:∀ p∈ls,Bag w5 p.a p.c p.x.base∧Bags w5 p.pa p.pc p.x.ps:=fun p hp=>zen r2 k5 (zen rk k2 (h1.row.each p hp))
  intro p hp
  rw [List.mem_append,List.mem_append] at hp
  rcases hp with (hp | hp) | hp
  ·exact old p (List.mem_of_mem_take hp)
  ·obtain rfl:=List.mem_singleton.1 hp
   exact zen r2 k5 (zen rk k2 ⟨hl.1.below b1,hl.2.below b1⟩)
  ·exact old p (List.mem_of_mem_drop hp)
 ·have l1:=(lg.below b lg.lt).alloc (.cells #[.slice l.a n l.c,.slice l.pa q l.pc] 53)
  have l4:=l1.kept k2 hg
  refine ⟨l4,l4.kept k5 (fun e=>?_)⟩
  rcases f2 g e with h3 | h3
  ·exact hg h3
  ·have:=lg.lt
   have:=b01.size
   omega
end Go.Proofs.YtmnkjekjknhhjaaGreatDoor
namespace Go.Proofs.YtmnkjekjknhhjaaGreatDoor
open Go.ChangeShapes Go.WideShapes Go.ChangeAt Go.RowKit
def zkb:Oper:=⟨some 18,.move (.tmp 7),3,"ref.go:318",#[],none⟩
def zkc:Oper:=⟨some 19,.move (.tmp 4),24,"ref.go:318",#[],none⟩
def zkd:Oper:=⟨some 20,.call {callee:=.builtin .len,args:=#[.tmp 19],argTypes:=#[24]},3,"ref.go:318",#[⟨1,.data⟩],none⟩
def zke:Oper:=⟨some 21,.binOp .lss 3 (.tmp 18) (.tmp 20) 3,4,"ref.go:318",#[⟨0,.data⟩,⟨2,.data⟩],none⟩
def zkf:Oper:=⟨some 22,.move (.tmp 21),4,"ref.go:318",#[⟨3,.data⟩],none⟩
def zle:Oper:=⟨some 23,.move (.tmp 4),24,"ref.go:318",#[⟨4,.guard⟩],some (4,true)⟩
def zlf:Oper:=⟨some 24,.move (.tmp 7),3,"ref.go:318",#[⟨4,.guard⟩],some (4,true)⟩
def zlg:Oper:=⟨some 25,.indexAddr 24 (.tmp 23) (.tmp 24),0,"ref.go:318",#[⟨5,.data⟩,⟨6,.data⟩,⟨4,.guard⟩],some (4,true)⟩
def zlh:Oper:=⟨some 26,.load 53 (.tmp 25),53,"ref.go:318",#[⟨7,.data⟩,⟨4,.guard⟩],some (4,true)⟩
def zli:Oper:=⟨some 27,.load 53 (.tmp 6),53,"ref.go:318",#[⟨4,.guard⟩],some (4,true)⟩
def zgZ:Oper:=⟨some 28,.call {callee:=.value (.func 80),args:=#[.tmp 26,.tmp 27],argTypes:=#[53,53]},3,"ref.go:318",#[⟨8,.data⟩,⟨9,.data⟩,⟨4,.chain⟩,⟨4,.guard⟩],some (4,true)⟩
def zg0:Oper:=⟨some 29,.binOp .lss 3 (.tmp 28) (.const (.int .i64 0)) 3,4,"ref.go:318",#[⟨10,.data⟩,⟨4,.guard⟩],some (4,true)⟩
def zf4:Oper:=⟨some 30,.pick (.tmp 22) (.tmp 29) (.const (.bool false)),4,"ref.go:318",#[⟨4,.data⟩,⟨11,.data⟩],none⟩
def zf5:Oper:=⟨some 33,.move (.tmp 7),3,"ref.go:321",#[],none⟩
def zf6:Oper:=⟨some 34,.move (.tmp 4),24,"ref.go:321",#[],none⟩
def zf7:Oper:=⟨some 35,.call {callee:=.builtin .len,args:=#[.tmp 34],argTypes:=#[24]},3,"ref.go:321",#[⟨1,.data⟩],none⟩
def zf8:Oper:=⟨some 36,.binOp .lss 3 (.tmp 33) (.tmp 35) 3,4,"ref.go:321",#[⟨0,.data⟩,⟨2,.data⟩],none⟩
def zf9:Oper:=⟨some 37,.move (.tmp 36),4,"ref.go:321",#[⟨3,.data⟩],none⟩
def zg1:Oper:=⟨some 38,.move (.tmp 4),24,"ref.go:321",#[⟨4,.guard⟩],some (4,true)⟩
def zg2:Oper:=⟨some 39,.move (.tmp 7),3,"ref.go:321",#[⟨4,.guard⟩],some (4,true)⟩
def zg3:Oper:=⟨some 40,.indexAddr 24 (.tmp 38) (.tmp 39),0,"ref.go:321",#[⟨5,.data⟩,⟨6,.data⟩,⟨4,.guard⟩],some (4,true)⟩
def zg4:Oper:=⟨some 41,.load 53 (.tmp 40),53,"ref.go:321",#[⟨7,.data⟩,⟨4,.guard⟩],some (4,true)⟩
def zg5:Oper:=⟨some 42,.load 53 (.tmp 6),53,"ref.go:321",#[⟨4,.guard⟩],some (4,true)⟩
def zg6:Oper:=⟨some 43,.call {callee:=.value (.func 80),args:=#[.tmp 41,.tmp 42],argTypes:=#[53,53]},3,"ref.go:321",#[⟨8,.data⟩,⟨9,.data⟩,⟨4,.chain⟩,⟨4,.guard⟩],some (4,true)⟩
def zg7:Oper:=⟨some 44,.binOp .eql 3 (.tmp 43) (.const (.int .i64 0)) 3,4,"ref.go:321",#[⟨10,.data⟩,⟨4,.guard⟩],some (4,true)⟩
def zga:Oper:=⟨some 45,.pick (.tmp 37) (.tmp 44) (.const (.bool false)),4,"ref.go:321",#[⟨4,.data⟩,⟨11,.data⟩],none⟩
def zpu:Oper:=⟨some 50,.move (.tmp 4),24,"ref.go:325",#[],none⟩
def zpv:Oper:=⟨some 51,.move (.tmp 7),3,"ref.go:325",#[],none⟩
def zpw:Oper:=⟨some 52,.slice 24 (.tmp 50) none (some (.tmp 51)) none,24,"ref.go:325",#[⟨0,.data⟩,⟨1,.data⟩],none⟩
def zpx:Oper:=⟨some 53,.load 53 (.tmp 6),53,"ref.go:325",#[],none⟩
def zpy:Oper:=⟨some 57,.move (.tmp 8),24,"ref.go:325",#[],none⟩
def zpz:Oper:=⟨some 54,.call {callee:=.value (.func 129),args:=#[.tmp 53],argTypes:=#[53]},53,"ref.go:325",#[⟨3,.data⟩],none⟩
def zpA:Oper:=⟨some 55,.buildSlice 24 1 #[(0,.tmp 54)],24,"ref.go:325",#[⟨4,.data⟩],none⟩
def zso:Oper:=⟨some 56,.call {callee:=.builtin .append,args:=#[.tmp 52,.tmp 55],argTypes:=#[24,24]},24,"ref.go:325",#[⟨2,.data⟩,⟨5,.data⟩,⟨4,.chain⟩],none⟩
def zsp:Oper:=⟨some 58,.call {callee:=.builtin .append,args:=#[.tmp 56,.tmp 57],argTypes:=#[24,24]},24,"ref.go:325",#[⟨6,.data⟩,⟨7,.data⟩,⟨6,.chain⟩],none⟩
def zpB:Oper:=⟨some 4,.assign (.tmp 58),24,"ref.go:325",#[⟨8,.data⟩,⟨8,.chain⟩,⟨0,.phase⟩,⟨1,.phase⟩,⟨2,.phase⟩,⟨3,.phase⟩,⟨4,.phase⟩,⟨5,.phase⟩,⟨6,.phase⟩,⟨7,.phase⟩,⟨8,.phase⟩],none⟩
def zpC (s:List Lin) (ok:Bool) (w:World) (e:Ending) (w':World):Prop:=
 ∃ a c ls,lins ls=s∧e=.returned (.tuple #[.slice a s.length c,.bool ok])∧Lbs w' a c ls∧From w.heap.size a∧Below w.heap.size w w'
theorem zjd {l:List Lin} {k:Nat} (hk:k<l.length):l.take (k+1)=l.take k++[zab l k]:=by
 rw [List.take_succ_eq_append_getElem hk];simp [zab,List.getD,hk]
set_option maxRecDepth 100000 in
set_option maxHeartbeats 16000000 in
theorem zje (a:Option Addr) (c:Nat) (s:List Lin) (w:World) (R:Lins w a c s) (hs:s.length≤100000000000) (hps:∀ k,(zab s k).ps.length≤100000000000) :
  Calls Tryz.prog 97 #[.slice a s.length c] w (zpC (ofS s) (ofSOk s) w):=by
 have hle:=R.le
 obtain ⟨n,hn⟩:∃ n,n=s.length:=⟨_,rfl⟩
 rw [←hn] at hle hs ⊢
 have HN:=dq hn.symm
 have HR:=dq R
 have HPS:=dq hps
 clear R hn hps
 go_enter Tryz.func97,Tryz.ntmps97
 go_wp2
 go_loopw [2,3,4,11] (fun r ok out i wr=>∃ (k:Nat) (oa:Option Addr) (oc m:Nat) (ls:List Lb),k≤n∧m≤k∧r=.slice none 0 0∧ok=.bool false∧out=.slice oa m oc∧i=.int .i64 k∧Hid (OsSt w oa oc m ls wr)∧Hid (lins ls=zaI [] (s.take k))∧Hid (∀ j,j<k→rightLin (zab s j)=true)) (fun _ _ _ i _=>n-(intOf i).toNat)
 case atStart=>exact ⟨0,none,0,0,[],by omega,by omega,rfl,rfl,rfl,rfl,dq ⟨Below.refl _ _,Lbs.nil _,rfl,From.none _⟩,dq rfl,dq (fun j h=>by omega)⟩
 case round=>
  obtain ⟨k,oa,oc,m,ls,hk,hmk,rfl,rfl,rfl,rfl,HT,HA,HG⟩:=hrel
  have hlo:=HT.out.row.row.le
  rw [HT.out.num] at hlo
  by_cases hlt:k<n
  ·obtain ⟨g,b,d,pb,pd,e1,c0,c1,r1,t1⟩:=(HR.out.below HT.out.bel).at (k:=k) (by rw [HN.out];exact hlt)
   generalize hu0:(zab s k).base.length=u0 at c0
   generalize hu1:(zab s k).ps.length=u1 at c1
   have HU0:=dq hu0
   have HU1:=dq hu1
   have bb:=below_alloc wr (.cells #[.slice b u0 d,.slice pb u1 pd] 53)
   have HTW:=dq (HT.out.below bb)
   have HLW:=dq (Lies.new wr 53 [.slice b u0 d,.slice pb u1 pd])
   have HXW:=dq (r1.below bb)
   have HPW:=dq (t1.below bb)
   have HNE:Hid (oa≠some ⟨wr.heap.size,0,none⟩):=dq (fun e=>Nat.lt_irrefl _ (HT.out.row.row.lt e))
   have Z:=za5 b pb d pd (zab s k) _ HXW.out HPW.out
   rw [hu0,hu1] at Z
   generalize hv:rightLin (zab s k)=v at Z
   have HV:=dq hv
   have HZ:=dq Z
   clear Z r1 t1 bb hu0 hu1 hv HT
   subst e1
   go_wp2_with (fail)
   clear c0 c1
   generalize wr.alloc (.cells ([.slice b u0 d,.slice pb u1 pd]:List Value).toArray 53)=W at HTW HLW HXW HPW HZ ⊢
   generalize wr.heap.size=gb at HLW HNE ⊢
   refine HZ.out.mono ?_
   rintro e w1 ⟨rfl,bw⟩
   have HT1:=dq (HTW.out.below bw)
   have HLB:=dq (HLW.out.below bw HLW.out.lt)
   have HX1:=dq (HXW.out.below bw)
   have HP1:=dq (HPW.out.below bw)
   clear HZ HTW HLW HXW HPW bw
   cases v
   ·have E:Hid (zpC (ofS s) (ofSOk s) w (.returned (.tuple #[.slice none 0 0,.bool false])) w1):=dq (by
     have h1:ofSOk s=false:=by
      rw [←Bool.not_eq_true,zh1]
      intro h
      have h2:=h (zab s k) (by simp [zab,List.getD,HN.out,hlt])
      rw [HV.out] at h2
      cases h2
     have h2:ofS s=[]:=by unfold ofS;rw [h1];rfl
     rw [h1,h2]
     exact ⟨none,0,[],rfl,rfl,Lbs.nil _,From.none _,HT1.out.bel⟩)
    go_wp2
    go_ret2
    exact E.out
   ·have HGX:=dq (zai.1 HV.out)
    go_upto_block 2 with (fail)
    go_cut [7] from 12 to 59 (fun p wx=>∃ j:Nat,j≤m∧p=.int .i64 j∧Hid (Below w1.heap.size w1 wx)∧Hid (zfh (zab s k) (lins ls)=j))
    case first=>
     go_wp2_with (fail)
     go_loopw [7] (fun i wr=>∃ j:Nat,j≤m∧i=.int .i64 j∧Hid (Below w1.heap.size w1 wr)∧Hid (∀ t,t<j→zak (zab (lins ls) t) (zab s k)<0)) (fun i _=>m-(intOf i).toNat)
     case atStart=>exact ⟨0,by omega,rfl,dq (Below.refl _ _),dq (fun t h=>by omega)⟩
     case round=>
      obtain ⟨j,hj,rfl,HBV,HLT⟩:=hrel
      have HT2:=dq (HT1.out.below HBV.out)
      have HL2:=dq (HLB.out.below HBV.out HLB.out.lt)
      have HX2:=dq (HX1.out.below HBV.out)
      have HP2:=dq (HP1.out.below HBV.out)
      have bd:Below wr.heap.size wr wr.drew:=⟨rfl,rfl,rfl,Nat.le_refl _,fun _ _=>rfl⟩
      by_cases hjm:j<m
      ·obtain ⟨go,b2,d2,pb2,pd2,e2,c0',c1',r2,t2⟩:=(show Lins wr oa oc (lins ls) from ⟨ls,rfl,HT2.out.row⟩).at (k:=j) (by rw [zaG,HT2.out.num];exact hjm)
       have ltg:=HT2.out.row.row.lt e2
       have k0:=HL2.out.cell 0
       have k1:=HL2.out.cell 1
       simp only [List.getElem?_cons_zero,List.getElem?_cons_succ] at k0 k1
       have ltb:=HL2.out.lt
       have Z:=zdw b2 pb2 b pb d2 pd2 d pd (zab (lins ls) j) (zab s k) wr.drew (r2.below bd) (t2.below bd) (HX2.out.below bd) (HP2.out.below bd)
       rw [HU0.out,HU1.out] at Z
       generalize (zab (lins ls) j).base.length=u2 at c0' Z
       generalize (zab (lins ls) j).ps.length=u3 at c1' Z
       generalize hcv:zak (zab (lins ls) j) (zab s k)=cv at Z
       have HCV:=dq hcv
       have HZ:=dq Z
       have HOA:=dq e2
       clear Z r2 t2 hcv
       have q5:j<oc:=by omega
       subst e2
       by_cases hneg:cv<0
       ·have q7:decide (cv<0)=true:=by simpa using hneg
        have HLT2:Hid (∀ t,t<j+1→zak (zab (lins ls) t) (zab s k)<0):=dq (fun t ht=>by
         by_cases e:t=j
         ·rw [e,HCV.out];exact hneg
         ·exact HLT.out t (by omega))
        go_wp2_with (fail)
        refine wp_region_held_drew (S:=fun w'=>Below wr.heap.size wr w') (by kernel_rfl) bd (fun hHeld=>?_)
        clear hHeld
        refine tkY 0 zkb (v:=?_) rfl bd ?_ ?_
        rotate_left
        ·intro w hSw
         simp only [zkb];go_simp
         try with_reducible rfl
        try simp only [zkb,Act.put,pA,pB,pC]
        refine tkY 1 zkc (v:=?_) rfl bd ?_ ?_
        rotate_left
        ·intro w hSw
         simp only [zkc];go_simp
         try with_reducible rfl
        try simp only [zkc,Act.put,pA,pB,pC]
        refine tkY 2 zkd (v:=?_) rfl bd ?_ ?_
        rotate_left
        ·intro w hSw
         simp only [zkd];go_simp
         try with_reducible rfl
        try simp only [zkd,Act.put,pA,pB,pC]
        refine tkY 3 zke (v:=?_) rfl bd ?_ ?_
        rotate_left
        ·intro w hSw
         simp only [zke];go_simp
         try with_reducible rfl
        try simp only [zke,Act.put,pA,pB,pC]
        refine tkY 4 zkf (v:=?_) rfl bd ?_ ?_
        rotate_left
        ·intro w hSw
         simp only [zkf];go_simp
         try with_reducible rfl
        try simp only [zkf,Act.put,pA,pB,pC]
        refine tkY 5 zle (v:=?_) rfl bd ?_ ?_
        rotate_left
        ·intro w hSw
         simp only [zle];go_simp
         try with_reducible rfl
        try simp only [zle,Act.put,pA,pB,pC]
        refine tkY 6 zlf (v:=?_) rfl bd ?_ ?_
        rotate_left
        ·intro w hSw
         simp only [zlf];go_simp
         try with_reducible rfl
        try simp only [zlf,Act.put,pA,pB,pC]
        refine tkY 7 zlg (v:=?_) rfl bd ?_ ?_
        rotate_left
        ·intro w hSw
         simp only [zlg];go_simp
         try with_reducible rfl
        try simp only [zlg,Act.put,pA,pB,pC]
        refine tkY 8 zlh (v:=?_) rfl bd ?_ ?_
        rotate_left
        ·intro w hSw
         have f1:=(hSw.cell (p:=⟨gb,0,none⟩) ltb).trans k0
         have f2:=(hSw.cell (p:=⟨gb,1,none⟩) ltb).trans k1
         have f3:=(hSw.cell (p:=⟨go,j*2,none⟩) ltg).trans c0'
         have f4:=(hSw.cell (p:=⟨go,j*2+1,none⟩) ltg).trans c1'
         simp only [zlh];go_simp
         try with_reducible rfl
        try simp only [zlh,Act.put,pA,pB,pC]
        refine tkY 9 zli (v:=?_) rfl bd ?_ ?_
        rotate_left
        ·intro w hSw
         have f1:=(hSw.cell (p:=⟨gb,0,none⟩) ltb).trans k0
         have f2:=(hSw.cell (p:=⟨gb,1,none⟩) ltb).trans k1
         have f3:=(hSw.cell (p:=⟨go,j*2,none⟩) ltg).trans c0'
         have f4:=(hSw.cell (p:=⟨go,j*2+1,none⟩) ltg).trans c1'
         simp only [zli];go_simp
         try with_reducible rfl
        try simp only [zli,Act.put,pA,pB,pC]
        refine wpAnyH_ready (rs:=[10]) (by kernel_rfl) (by simp) ?_
        refine AllReadyH.cons (o:=zgZ) rfl (fun K hK=>?_) AllReadyH.nil
        simp only [zgZ];go_simp
        refine HZ.out.mono ?_
        rintro e w3 ⟨rfl,b3⟩
        have b4:Below wr.heap.size wr w3:=undrew b3
        go_wp2_with (fail)
        refine hK.out _ _ b4 (fun hHeld=>?_)
        clear hK K hHeld
        try simp only [zgZ,Act.put,pA,pB,pC]
        refine tkY 11 zg0 (v:=?_) rfl b4 ?_ ?_
        rotate_left
        ·intro w hSw
         simp only [zg0];go_simp
         try with_reducible rfl
        try simp only [zg0,Act.put,pA,pB,pC]
        refine tkY 12 zf4 (v:=?_) rfl b4 ?_ ?_
        rotate_left
        ·intro w hSw
         simp only [zf4];go_simp
         try with_reducible rfl
        try simp only [zf4,Act.put,pA,pB,pC]
        refine wpAnyH_done (by kernel_rfl) ?_ _
        have HB3:=dq (HBV.out.trans (b4.mono HBV.out.size))
        clear b3 b4 HZ
        clear c0' c1' k0 k1 bd
        go_wp2
        go_roundw
        case rel=>exact ⟨j+1,by omega,by go_num,HB3,HLT2⟩
        case measure=>simp [intOf];omega
       ·have q7:decide (cv<0)=false:=by simpa using hneg
        have HSP:Hid (zfh (zab s k) (lins ls)=j):=dq (zka (by rw [zaG,HT2.out.num];omega) HLT.out (fun _=>by rw [HCV.out];exact hneg))
        go_wp2_with (fail)
        refine wp_region_held_drew (S:=fun w'=>Below wr.heap.size wr w') (by kernel_rfl) bd (fun hHeld=>?_)
        clear hHeld
        refine tkY 0 zkb (v:=?_) rfl bd ?_ ?_
        rotate_left
        ·intro w hSw
         simp only [zkb];go_simp
         try with_reducible rfl
        try simp only [zkb,Act.put,pA,pB,pC]
        refine tkY 1 zkc (v:=?_) rfl bd ?_ ?_
        rotate_left
        ·intro w hSw
         simp only [zkc];go_simp
         try with_reducible rfl
        try simp only [zkc,Act.put,pA,pB,pC]
        refine tkY 2 zkd (v:=?_) rfl bd ?_ ?_
        rotate_left
        ·intro w hSw
         simp only [zkd];go_simp
         try with_reducible rfl
        try simp only [zkd,Act.put,pA,pB,pC]
        refine tkY 3 zke (v:=?_) rfl bd ?_ ?_
        rotate_left
        ·intro w hSw
         simp only [zke];go_simp
         try with_reducible rfl
        try simp only [zke,Act.put,pA,pB,pC]
        refine tkY 4 zkf (v:=?_) rfl bd ?_ ?_
        rotate_left
        ·intro w hSw
         simp only [zkf];go_simp
         try with_reducible rfl
        try simp only [zkf,Act.put,pA,pB,pC]
        refine tkY 5 zle (v:=?_) rfl bd ?_ ?_
        rotate_left
        ·intro w hSw
         simp only [zle];go_simp
         try with_reducible rfl
        try simp only [zle,Act.put,pA,pB,pC]
        refine tkY 6 zlf (v:=?_) rfl bd ?_ ?_
        rotate_left
        ·intro w hSw
         simp only [zlf];go_simp
         try with_reducible rfl
        try simp only [zlf,Act.put,pA,pB,pC]
        refine tkY 7 zlg (v:=?_) rfl bd ?_ ?_
        rotate_left
        ·intro w hSw
         simp only [zlg];go_simp
         try with_reducible rfl
        try simp only [zlg,Act.put,pA,pB,pC]
        refine tkY 8 zlh (v:=?_) rfl bd ?_ ?_
        rotate_left
        ·intro w hSw
         have f1:=(hSw.cell (p:=⟨gb,0,none⟩) ltb).trans k0
         have f2:=(hSw.cell (p:=⟨gb,1,none⟩) ltb).trans k1
         have f3:=(hSw.cell (p:=⟨go,j*2,none⟩) ltg).trans c0'
         have f4:=(hSw.cell (p:=⟨go,j*2+1,none⟩) ltg).trans c1'
         simp only [zlh];go_simp
         try with_reducible rfl
        try simp only [zlh,Act.put,pA,pB,pC]
        refine tkY 9 zli (v:=?_) rfl bd ?_ ?_
        rotate_left
        ·intro w hSw
         have f1:=(hSw.cell (p:=⟨gb,0,none⟩) ltb).trans k0
         have f2:=(hSw.cell (p:=⟨gb,1,none⟩) ltb).trans k1
         have f3:=(hSw.cell (p:=⟨go,j*2,none⟩) ltg).trans c0'
         have f4:=(hSw.cell (p:=⟨go,j*2+1,none⟩) ltg).trans c1'
         simp only [zli];go_simp
         try with_reducible rfl
        try simp only [zli,Act.put,pA,pB,pC]
        refine wpAnyH_ready (rs:=[10]) (by kernel_rfl) (by simp) ?_
        refine AllReadyH.cons (o:=zgZ) rfl (fun K hK=>?_) AllReadyH.nil
        simp only [zgZ];go_simp
        refine HZ.out.mono ?_
        rintro e w3 ⟨rfl,b3⟩
        have b4:Below wr.heap.size wr w3:=undrew b3
        go_wp2_with (fail)
        refine hK.out _ _ b4 (fun hHeld=>?_)
        clear hK K hHeld
        try simp only [zgZ,Act.put,pA,pB,pC]
        refine tkY 11 zg0 (v:=?_) rfl b4 ?_ ?_
        rotate_left
        ·intro w hSw
         simp only [zg0];go_simp
         try with_reducible rfl
        try simp only [zg0,Act.put,pA,pB,pC]
        refine tkY 12 zf4 (v:=?_) rfl b4 ?_ ?_
        rotate_left
        ·intro w hSw
         simp only [zf4];go_simp
         try with_reducible rfl
        try simp only [zf4,Act.put,pA,pB,pC]
        refine wpAnyH_done (by kernel_rfl) ?_ _
        have HB3:=dq (HBV.out.trans (b4.mono HBV.out.size))
        clear b3 b4 HZ
        clear c0' c1' k0 k1 bd
        go_wp2
        go_meet
        exact ⟨j,by omega,rfl,HB3,HSP⟩
      ·obtain rfl:m=j:=by omega
       have HSP:Hid (zfh (zab s k) (lins ls)=m):=dq (zka (by rw [zaG,HT2.out.num];omega) HLT.out (fun h=>by rw [zaG,HT2.out.num] at h;omega))
       go_wp2_with (fail)
       refine wp_region_held_drew (S:=fun w'=>Below wr.heap.size wr w') (by kernel_rfl) bd (fun hHeld=>?_)
       clear hHeld
       refine tkY 0 zkb (v:=?_) rfl bd ?_ ?_
       rotate_left
       ·intro w hSw
        simp only [zkb];go_simp
        try with_reducible rfl
       try simp only [zkb,Act.put,pA,pB,pC]
       refine tkY 1 zkc (v:=?_) rfl bd ?_ ?_
       rotate_left
       ·intro w hSw
        simp only [zkc];go_simp
        try with_reducible rfl
       try simp only [zkc,Act.put,pA,pB,pC]
       refine tkY 2 zkd (v:=?_) rfl bd ?_ ?_
       rotate_left
       ·intro w hSw
        simp only [zkd];go_simp
        try with_reducible rfl
       try simp only [zkd,Act.put,pA,pB,pC]
       refine tkY 3 zke (v:=?_) rfl bd ?_ ?_
       rotate_left
       ·intro w hSw
        simp only [zke];go_simp
        try with_reducible rfl
       try simp only [zke,Act.put,pA,pB,pC]
       refine tkY 4 zkf (v:=?_) rfl bd ?_ ?_
       rotate_left
       ·intro w hSw
        simp only [zkf];go_simp
        try with_reducible rfl
       try simp only [zkf,Act.put,pA,pB,pC]
       refine tkN 5 zle rfl bd ?_
       try simp only [zle,Act.put,pA,pB,pC]
       refine tkN 6 zlf rfl bd ?_
       try simp only [zlf,Act.put,pA,pB,pC]
       refine tkN 7 zlg rfl bd ?_
       try simp only [zlg,Act.put,pA,pB,pC]
       refine tkN 8 zlh rfl bd ?_
       try simp only [zlh,Act.put,pA,pB,pC]
       refine tkN 9 zli rfl bd ?_
       try simp only [zli,Act.put,pA,pB,pC]
       refine tkN 10 zgZ rfl bd ?_
       try simp only [zgZ,Act.put,pA,pB,pC]
       refine tkN 11 zg0 rfl bd ?_
       try simp only [zg0,Act.put,pA,pB,pC]
       refine tkY 12 zf4 (v:=?_) rfl bd ?_ ?_
       rotate_left
       ·intro w hSw
        simp only [zf4];go_simp
        try with_reducible rfl
       try simp only [zf4,Act.put,pA,pB,pC]
       refine wpAnyH_done (by kernel_rfl) ?_ _
       have HB3:=dq (HBV.out.trans (bd.mono HBV.out.size))
       clear bd
       go_wp2
       go_meet
       exact ⟨m,by omega,rfl,HB3,HSP⟩
    case rest=>
     obtain ⟨j,hj,rfl,HBV,HSP⟩:=hcut
     obtain ⟨dup,hdup⟩:∃ dup:Bool,dup=(decide (j<m) && decide (zak (zab (lins ls) j) (zab s k)=0)):=⟨_,rfl⟩
     have HDU:=dq hdup
     clear hdup
     go_upto_region 10 with (fail)
     go_cut [45] from 12 to 59 (fun p wx=>p=.bool dup∧Hid (Below w1.heap.size w1 wx))
     case first=>
      generalize wc=wr at HBV ⊢
      have HT2:=dq (HT1.out.below HBV.out)
      have HL2:=dq (HLB.out.below HBV.out HLB.out.lt)
      have HX2:=dq (HX1.out.below HBV.out)
      have HP2:=dq (HP1.out.below HBV.out)
      have bd:Below wr.heap.size wr wr.drew:=⟨rfl,rfl,rfl,Nat.le_refl _,fun _ _=>rfl⟩
      by_cases hjm:j<m
      ·obtain ⟨go,b2,d2,pb2,pd2,e2,c0',c1',r2,t2⟩:=(show Lins wr oa oc (lins ls) from ⟨ls,rfl,HT2.out.row⟩).at (k:=j) (by rw [zaG,HT2.out.num];exact hjm)
       have ltg:=HT2.out.row.row.lt e2
       have k0:=HL2.out.cell 0
       have k1:=HL2.out.cell 1
       simp only [List.getElem?_cons_zero,List.getElem?_cons_succ] at k0 k1
       have ltb:=HL2.out.lt
       have Z:=zdw b2 pb2 b pb d2 pd2 d pd (zab (lins ls) j) (zab s k) wr.drew (r2.below bd) (t2.below bd) (HX2.out.below bd) (HP2.out.below bd)
       rw [HU0.out,HU1.out] at Z
       generalize (zab (lins ls) j).base.length=u2 at c0' Z
       generalize (zab (lins ls) j).ps.length=u3 at c1' Z
       generalize hcv:zak (zab (lins ls) j) (zab s k)=cv at Z
       have HCV:=dq hcv
       have HZ:=dq Z
       have HOA:=dq e2
       clear Z r2 t2 hcv
       have q5:j<oc:=by omega
       subst e2
       have HDUP:Hid (dup=decide (cv=0)):=dq (by rw [HDU.out,HCV.out];simp [hjm])
       by_cases h0:cv=0
       ·subst h0
        have q8:Hid (dup=true):=dq (by rw [HDUP.out];rfl)
        refine wp_region_held_drew (S:=fun w'=>Below wr.heap.size wr w') (by kernel_rfl) bd (fun hHeld=>?_)
        clear hHeld
        refine tkY 0 zf5 (v:=?_) rfl bd ?_ ?_
        rotate_left
        ·intro w hSw
         simp only [zf5];go_simp
         try with_reducible rfl
        try simp only [zf5,Act.put,pA,pB,pC]
        refine tkY 1 zf6 (v:=?_) rfl bd ?_ ?_
        rotate_left
        ·intro w hSw
         simp only [zf6];go_simp
         try with_reducible rfl
        try simp only [zf6,Act.put,pA,pB,pC]
        refine tkY 2 zf7 (v:=?_) rfl bd ?_ ?_
        rotate_left
        ·intro w hSw
         simp only [zf7];go_simp
         try with_reducible rfl
        try simp only [zf7,Act.put,pA,pB,pC]
        refine tkY 3 zf8 (v:=?_) rfl bd ?_ ?_
        rotate_left
        ·intro w hSw
         simp only [zf8];go_simp
         try with_reducible rfl
        try simp only [zf8,Act.put,pA,pB,pC]
        refine tkY 4 zf9 (v:=?_) rfl bd ?_ ?_
        rotate_left
        ·intro w hSw
         simp only [zf9];go_simp
         try with_reducible rfl
        try simp only [zf9,Act.put,pA,pB,pC]
        refine tkY 5 zg1 (v:=?_) rfl bd ?_ ?_
        rotate_left
        ·intro w hSw
         simp only [zg1];go_simp
         try with_reducible rfl
        try simp only [zg1,Act.put,pA,pB,pC]
        refine tkY 6 zg2 (v:=?_) rfl bd ?_ ?_
        rotate_left
        ·intro w hSw
         simp only [zg2];go_simp
         try with_reducible rfl
        try simp only [zg2,Act.put,pA,pB,pC]
        refine tkY 7 zg3 (v:=?_) rfl bd ?_ ?_
        rotate_left
        ·intro w hSw
         simp only [zg3];go_simp
         try with_reducible rfl
        try simp only [zg3,Act.put,pA,pB,pC]
        refine tkY 8 zg4 (v:=?_) rfl bd ?_ ?_
        rotate_left
        ·intro w hSw
         have f1:=(hSw.cell (p:=⟨gb,0,none⟩) ltb).trans k0
         have f2:=(hSw.cell (p:=⟨gb,1,none⟩) ltb).trans k1
         have f3:=(hSw.cell (p:=⟨go,j*2,none⟩) ltg).trans c0'
         have f4:=(hSw.cell (p:=⟨go,j*2+1,none⟩) ltg).trans c1'
         simp only [zg4];go_simp
         try with_reducible rfl
        try simp only [zg4,Act.put,pA,pB,pC]
        refine tkY 9 zg5 (v:=?_) rfl bd ?_ ?_
        rotate_left
        ·intro w hSw
         have f1:=(hSw.cell (p:=⟨gb,0,none⟩) ltb).trans k0
         have f2:=(hSw.cell (p:=⟨gb,1,none⟩) ltb).trans k1
         have f3:=(hSw.cell (p:=⟨go,j*2,none⟩) ltg).trans c0'
         have f4:=(hSw.cell (p:=⟨go,j*2+1,none⟩) ltg).trans c1'
         simp only [zg5];go_simp
         try with_reducible rfl
        try simp only [zg5,Act.put,pA,pB,pC]
        refine wpAnyH_ready (rs:=[10]) (by kernel_rfl) (by simp) ?_
        refine AllReadyH.cons (o:=zg6) rfl (fun K hK=>?_) AllReadyH.nil
        simp only [zg6];go_simp
        refine HZ.out.mono ?_
        rintro e w3 ⟨rfl,b3⟩
        have b4:Below wr.heap.size wr w3:=undrew b3
        go_wp2_with (fail)
        refine hK.out _ _ b4 (fun hHeld=>?_)
        clear hK K hHeld
        try simp only [zg6,Act.put,pA,pB,pC]
        refine tkY 11 zg7 (v:=?_) rfl b4 ?_ ?_
        rotate_left
        ·intro w hSw
         simp only [zg7];go_simp
         try with_reducible rfl
        try simp only [zg7,Act.put,pA,pB,pC]
        refine tkY 12 zga (v:=?_) rfl b4 ?_ ?_
        rotate_left
        ·intro w hSw
         simp only [zga];go_simp
         try with_reducible rfl
        try simp only [zga,Act.put,pA,pB,pC]
        refine wpAnyH_done (by kernel_rfl) ?_ _
        have HB3:=dq (HBV.out.trans (b4.mono HBV.out.size))
        clear b3 b4 HZ
        clear c0' c1' k0 k1 bd
        go_wp2
        go_meet
        exact ⟨by rw [q8.out],HB3⟩
       ·have q7:(cv==0)=false:=by simpa using h0
        have q8:Hid (dup=false):=dq (by rw [HDUP.out];simpa using h0)
        refine wp_region_held_drew (S:=fun w'=>Below wr.heap.size wr w') (by kernel_rfl) bd (fun hHeld=>?_)
        clear hHeld
        refine tkY 0 zf5 (v:=?_) rfl bd ?_ ?_
        rotate_left
        ·intro w hSw
         simp only [zf5];go_simp
         try with_reducible rfl
        try simp only [zf5,Act.put,pA,pB,pC]
        refine tkY 1 zf6 (v:=?_) rfl bd ?_ ?_
        rotate_left
        ·intro w hSw
         simp only [zf6];go_simp
         try with_reducible rfl
        try simp only [zf6,Act.put,pA,pB,pC]
        refine tkY 2 zf7 (v:=?_) rfl bd ?_ ?_
        rotate_left
        ·intro w hSw
         simp only [zf7];go_simp
         try with_reducible rfl
        try simp only [zf7,Act.put,pA,pB,pC]
        refine tkY 3 zf8 (v:=?_) rfl bd ?_ ?_
        rotate_left
        ·intro w hSw
         simp only [zf8];go_simp
         try with_reducible rfl
        try simp only [zf8,Act.put,pA,pB,pC]
        refine tkY 4 zf9 (v:=?_) rfl bd ?_ ?_
        rotate_left
        ·intro w hSw
         simp only [zf9];go_simp
         try with_reducible rfl
        try simp only [zf9,Act.put,pA,pB,pC]
        refine tkY 5 zg1 (v:=?_) rfl bd ?_ ?_
        rotate_left
        ·intro w hSw
         simp only [zg1];go_simp
         try with_reducible rfl
        try simp only [zg1,Act.put,pA,pB,pC]
        refine tkY 6 zg2 (v:=?_) rfl bd ?_ ?_
        rotate_left
        ·intro w hSw
         simp only [zg2];go_simp
         try with_reducible rfl
        try simp only [zg2,Act.put,pA,pB,pC]
        refine tkY 7 zg3 (v:=?_) rfl bd ?_ ?_
        rotate_left
        ·intro w hSw
         simp only [zg3];go_simp
         try with_reducible rfl
        try simp only [zg3,Act.put,pA,pB,pC]
        refine tkY 8 zg4 (v:=?_) rfl bd ?_ ?_
        rotate_left
        ·intro w hSw
         have f1:=(hSw.cell (p:=⟨gb,0,none⟩) ltb).trans k0
         have f2:=(hSw.cell (p:=⟨gb,1,none⟩) ltb).trans k1
         have f3:=(hSw.cell (p:=⟨go,j*2,none⟩) ltg).trans c0'
         have f4:=(hSw.cell (p:=⟨go,j*2+1,none⟩) ltg).trans c1'
         simp only [zg4];go_simp
         try with_reducible rfl
        try simp only [zg4,Act.put,pA,pB,pC]
        refine tkY 9 zg5 (v:=?_) rfl bd ?_ ?_
        rotate_left
        ·intro w hSw
         have f1:=(hSw.cell (p:=⟨gb,0,none⟩) ltb).trans k0
         have f2:=(hSw.cell (p:=⟨gb,1,none⟩) ltb).trans k1
         have f3:=(hSw.cell (p:=⟨go,j*2,none⟩) ltg).trans c0'
         have f4:=(hSw.cell (p:=⟨go,j*2+1,none⟩) ltg).trans c1'
         simp only [zg5];go_simp
         try with_reducible rfl
        try simp only [zg5,Act.put,pA,pB,pC]
        refine wpAnyH_ready (rs:=[10]) (by kernel_rfl) (by simp) ?_
        refine AllReadyH.cons (o:=zg6) rfl (fun K hK=>?_) AllReadyH.nil
        simp only [zg6];go_simp
        refine HZ.out.mono ?_
        rintro e w3 ⟨rfl,b3⟩
        have b4:Below wr.heap.size wr w3:=undrew b3
        go_wp2_with (fail)
        refine hK.out _ _ b4 (fun hHeld=>?_)
        clear hK K hHeld
        try simp only [zg6,Act.put,pA,pB,pC]
        refine tkY 11 zg7 (v:=?_) rfl b4 ?_ ?_
        rotate_left
        ·intro w hSw
         simp only [zg7];go_simp
         try with_reducible rfl
        try simp only [zg7,Act.put,pA,pB,pC]
        refine tkY 12 zga (v:=?_) rfl b4 ?_ ?_
        rotate_left
        ·intro w hSw
         simp only [zga];go_simp
         try with_reducible rfl
        try simp only [zga,Act.put,pA,pB,pC]
        refine wpAnyH_done (by kernel_rfl) ?_ _
        have HB3:=dq (HBV.out.trans (b4.mono HBV.out.size))
        clear b3 b4 HZ
        clear c0' c1' k0 k1 bd
        go_wp2
        go_meet
        exact ⟨by rw [q8.out],HB3⟩
      ·have q8:Hid (dup=false):=dq (by rw [HDU.out];simp [hjm])
       obtain rfl:m=j:=by omega
       refine wp_region_held_drew (S:=fun w'=>Below wr.heap.size wr w') (by kernel_rfl) bd (fun hHeld=>?_)
       clear hHeld
       refine tkY 0 zf5 (v:=?_) rfl bd ?_ ?_
       rotate_left
       ·intro w hSw
        simp only [zf5];go_simp
        try with_reducible rfl
       try simp only [zf5,Act.put,pA,pB,pC]
       refine tkY 1 zf6 (v:=?_) rfl bd ?_ ?_
       rotate_left
       ·intro w hSw
        simp only [zf6];go_simp
        try with_reducible rfl
       try simp only [zf6,Act.put,pA,pB,pC]
       refine tkY 2 zf7 (v:=?_) rfl bd ?_ ?_
       rotate_left
       ·intro w hSw
        simp only [zf7];go_simp
        try with_reducible rfl
       try simp only [zf7,Act.put,pA,pB,pC]
       refine tkY 3 zf8 (v:=?_) rfl bd ?_ ?_
       rotate_left
       ·intro w hSw
        simp only [zf8];go_simp
        try with_reducible rfl
       try simp only [zf8,Act.put,pA,pB,pC]
       refine tkY 4 zf9 (v:=?_) rfl bd ?_ ?_
       rotate_left
       ·intro w hSw
        simp only [zf9];go_simp
        try with_reducible rfl
       try simp only [zf9,Act.put,pA,pB,pC]
       refine tkN 5 zg1 rfl bd ?_
       try simp only [zg1,Act.put,pA,pB,pC]
       refine tkN 6 zg2 rfl bd ?_
       try simp only [zg2,Act.put,pA,pB,pC]
       refine tkN 7 zg3 rfl bd ?_
       try simp only [zg3,Act.put,pA,pB,pC]
       refine tkN 8 zg4 rfl bd ?_
       try simp only [zg4,Act.put,pA,pB,pC]
       refine tkN 9 zg5 rfl bd ?_
       try simp only [zg5,Act.put,pA,pB,pC]
       refine tkN 10 zg6 rfl bd ?_
       try simp only [zg6,Act.put,pA,pB,pC]
       refine tkN 11 zg7 rfl bd ?_
       try simp only [zg7,Act.put,pA,pB,pC]
       refine tkY 12 zga (v:=?_) rfl bd ?_ ?_
       rotate_left
       ·intro w hSw
        simp only [zga];go_simp
        try with_reducible rfl
       try simp only [zga,Act.put,pA,pB,pC]
       refine wpAnyH_done (by kernel_rfl) ?_ _
       have HB3:=dq (HBV.out.trans (bd.mono HBV.out.size))
       clear bd
       go_wp2
       go_meet
       exact ⟨by rw [q8.out],HB3⟩
     case rest=>
      obtain ⟨rfl,HBV⟩:=hcut
      generalize wc=wr at HBV ⊢
      have HT2:=dq (HT1.out.below HBV.out)
      have HL2:=dq (HLB.out.below HBV.out HLB.out.lt)
      have HX2:=dq (HX1.out.below HBV.out)
      have HP2:=dq (HP1.out.below HBV.out)
      have bd:Below wr.heap.size wr wr.drew:=⟨rfl,rfl,rfl,Nat.le_refl _,fun _ _=>rfl⟩
      cases dup
      ·have HNW:Hid (zf1 (zab s k) (lins ls)=(lins ls).take j++[zab s k]++(lins ls).drop j):=dq (by
        have:=znv (b:=zab s k) (l:=lins ls) (fun h=>by
         rw [HSP.out] at h ⊢
         rw [zaG,HT2.out.num] at h
         have h2:=HDU.out
         intro h3
         rw [h3] at h2
         simp [h] at h2)
        rwa [HSP.out] at this)
       go_upto_region 11 with (fail)
       go_cut [8] from 12 to 59 (fun p wx=>∃ (ra:Option Addr) (rc:Nat),p=.slice ra (m-j) rc∧Hid (Row2 wx ra rc (m-j) (zaF (ls.drop j)))∧Hid (From wr.heap.size ra)∧Hid (Below wr.heap.size wr wx))
       case first=>
        clear bd
        have hfm:=HT2.out.row.row.form
        rcases hfm with rfl | ⟨go,rfl⟩
        ·have hz:=HT2.out.row.row
         have hz2:oc=0∧m=0:=by
          rcases hz.2 with ⟨_,h1,h2⟩ | ⟨_,_,h1,_⟩
          ·exact ⟨h1,by rw [HT2.out.num] at h2;exact h2⟩
          ·cases h1
         obtain ⟨rfl,rfl⟩:=hz2
         obtain rfl:j=0:=by omega
         clear hz
         obtain ⟨ra,rc,w6,hr6,R6,F6,b6⟩:=HT2.out.rest (k:=0) (d:=0) (src:=none) hj (by omega) (.inl ⟨rfl,rfl,rfl,rfl⟩)
         rw [Nat.sub_self] at hr6 R6
         have HR6:=dq R6
         have HF6:=dq F6
         have HB6:=dq b6
         clear R6 F6 b6
         go_wp2_with (at_builtin;refine Lib.wpList_append_run _ rfl _ _ _ _ rfl _ _ rfl rfl _ _ hr6 ?_)
         go_meet
         exact ⟨ra,rc,rfl,HR6,HF6,HB6⟩
        ·by_cases hcj:oc=j
         ·obtain rfl:j=m:=by omega
          obtain rfl:oc=j:=hcj
          obtain ⟨ra,rc,w6,hr6,R6,F6,b6⟩:=HT2.out.rest (k:=oc) (d:=0) (src:=(some ⟨go,0,none⟩)) hj (by omega) (.inr ⟨go,_,rfl,rfl,fun h=>by omega⟩)
          rw [Nat.sub_self] at hr6 R6
          have HR6:=dq R6
          have HF6:=dq F6
          have HB6:=dq b6
          clear R6 F6 b6
          go_wp2_with (at_builtin;refine Lib.wpList_append_run _ rfl _ _ _ _ rfl _ _ rfl rfl _ _ hr6 ?_)
          go_meet
          exact ⟨ra,rc,by rw [Nat.sub_self],by rw [Nat.sub_self];exact HR6,HF6,HB6⟩
         ·have hcj2:j<oc:=by omega
          obtain ⟨ra,rc,w6,hr6,R6,F6,b6⟩:=HT2.out.rest (k:=j) (d:=(oc-j)) (src:=(some ⟨go,j*2,none⟩)) hj (by omega) (.inr ⟨go,_,rfl,rfl,fun _=>rfl⟩)
          have HR6:=dq R6
          have HF6:=dq F6
          have HB6:=dq b6
          clear R6 F6 b6
          go_wp2_with (at_builtin;refine Lib.wpList_append_run _ rfl _ _ _ _ rfl _ _ rfl rfl _ _ hr6 ?_)
          go_meet
          exact ⟨ra,rc,rfl,HR6,HF6,HB6⟩
       case rest=>
        clear bd
        obtain ⟨ra,rc,rfl,HR6,HF6,HB6⟩:=hcut
        generalize wc=V6 at HR6 HB6 ⊢
        have HL6:=dq (HL2.out.below HB6.out HL2.out.lt)
        have k0:=HL6.out.cell 0
        have k1:=HL6.out.cell 1
        simp only [List.getElem?_cons_zero,List.getElem?_cons_succ] at k0 k1
        have bd:Below V6.heap.size V6 V6.drew:=⟨rfl,rfl,rfl,Nat.le_refl _,fun _ _=>rfl⟩
        have Z:=zmq b pb d pd (zab s k) V6.drew ((HX2.out.below HB6.out).below bd) ((HP2.out.below HB6.out).below bd) (by have:=(zac.1 HGX.out.1).1;omega) (zfC HGX.out.2.1) (HPS.out k)
        rw [HU0.out,HU1.out] at Z
        have HZ:=dq Z
        have q1:(0:Int)≤(j:Int):=by omega
        have q2:(j:Int)≤(oc:Int):=by omega
        have q3:j≤oc:=by omega
        clear Z bd
        go_wp2_with (fail)
        refine wp_region_held_drew (S:=fun w'=>w'.cell? ⟨gb,0,none⟩=some (.slice b u0 d)∧w'.cell? ⟨gb,1,none⟩=some (.slice pb u1 pd)) (by kernel_rfl) ⟨k0,k1⟩ (fun hHeld=>?_)
        clear hHeld
        refine tkY 0 zpu (v:=?_) rfl ⟨k0,k1⟩ ?_ ?_
        rotate_left
        ·intro w hSw
         simp only [zpu];go_simp
         try with_reducible rfl
        try simp only [zpu,Act.put,pA,pB,pC]
        refine tkY 1 zpv (v:=?_) rfl ⟨k0,k1⟩ ?_ ?_
        rotate_left
        ·intro w hSw
         simp only [zpv];go_simp
         try with_reducible rfl
        try simp only [zpv,Act.put,pA,pB,pC]
        refine tkY 2 zpw (v:=?_) rfl ⟨k0,k1⟩ ?_ ?_
        rotate_left
        ·intro w hSw
         simp only [zpw];go_simp
         try with_reducible rfl
        try simp only [zpw,Act.put,pA,pB,pC]
        refine tkY 3 zpx (v:=?_) rfl ⟨k0,k1⟩ ?_ ?_
        rotate_left
        ·intro w hSw
         obtain ⟨f1,f2⟩:=hSw
         simp only [zpx];go_simp
         try with_reducible rfl
        try simp only [zpx,Act.put,pA,pB,pC]
        refine tkY 7 zpy (v:=?_) rfl ⟨k0,k1⟩ ?_ ?_
        rotate_left
        ·intro w hSw
         simp only [zpy];go_simp
         try with_reducible rfl
        try simp only [zpy,Act.put,pA,pB,pC]
        refine wpAnyH_ready (rs:=[4]) (by kernel_rfl) (by simp) ?_
        refine AllReadyH.cons (o:=zpz) rfl (fun K hK=>?_) AllReadyH.nil
        simp only [zpz];go_simp
        refine HZ.out.mono ?_
        rintro e w7 ⟨al,cl,pl,ql,rfl,rl,tl,b7⟩
        rw [HU0.out,HU1.out]
        have b67:Below V6.heap.size V6 w7:=undrew b7
        obtain ⟨a2,c2,w8,a5,c5,w9,hr8,hr9,T9,o9⟩:=HT2.out.ins hj (by omega) (HB6.out.trans (b67.mono HB6.out.size)) (HR6.out.below b67) HF6.out ⟨al,cl,pl,ql,zab s k⟩ u0 u1 HU0.out HU1.out ⟨rl,tl⟩
        obtain ⟨l8,l9⟩:=o9 gb _ HL2.out HNE.out
        have HT9:=dq T9
        have m0:=(HL6.out.below b67 HL6.out.lt).cell 0
        have m1:=(HL6.out.below b67 HL6.out.lt).cell 1
        have n0:=((HL6.out.below b67 HL6.out.lt).alloc (.cells #[.slice al u0 cl,.slice pl u1 ql] 53)).cell 0
        have n1:=((HL6.out.below b67 HL6.out.lt).alloc (.cells #[.slice al u0 cl,.slice pl u1 ql] 53)).cell 1
        have s0:=l8.cell 0
        have s1:=l8.cell 1
        have t0:=l9.cell 0
        have t1:=l9.cell 1
        simp only [List.getElem?_cons_zero,List.getElem?_cons_succ] at m0 m1 n0 n1 s0 s1 t0 t1
        clear rl tl b7 T9 o9 l8 l9 HZ
        go_wp2_with (fail)
        refine hK.out _ _ ⟨m0,m1⟩ (fun hHeld=>?_)
        clear hK K hHeld
        try simp only [zpz,Act.put,pA,pB,pC]
        refine wpAnyH_ready (rs:=[5]) (by kernel_rfl) (by simp) ?_
        refine AllReadyH.cons (o:=zpA) rfl (fun K hK=>?_) AllReadyH.nil
        simp only [zpA];go_simp
        refine hK.out _ _ ⟨n0,n1⟩ (fun hHeld=>?_)
        clear hK K hHeld
        try simp only [zpA,Act.put,pA,pB,pC]
        refine wpAnyH_ready (rs:=[6]) (by kernel_rfl) (by simp) ?_
        refine AllReadyH.cons (o:=zso) rfl (fun K hK=>?_) AllReadyH.nil
        refine step_append_run _ rfl _ _ _ _ rfl _ _ rfl rfl _ _ hr8 ?_
        refine hK.out _ _ ⟨s0,s1⟩ (fun hHeld=>?_)
        clear hK K hHeld
        try simp only [zso,Act.put,pA,pB,pC]
        refine wpAnyH_ready (rs:=[8]) (by kernel_rfl) (by simp) ?_
        refine AllReadyH.cons (o:=zsp) rfl (fun K hK=>?_) AllReadyH.nil
        refine step_append_run _ rfl _ _ _ _ rfl _ _ rfl rfl _ _ hr9 ?_
        refine hK.out _ _ ⟨t0,t1⟩ (fun hHeld=>?_)
        clear hK K hHeld
        try simp only [zsp,Act.put,pA,pB,pC]
        refine tkY 9 zpB (v:=?_) rfl ⟨t0,t1⟩ ?_ ?_
        rotate_left
        ·intro w hSw
         simp only [zpB];go_simp
         try with_reducible rfl
        try simp only [zpB,Act.put,pA,pB,pC]
        refine wpAnyH_done (by kernel_rfl) ?_ _
        clear m0 m1 n0 n1 s0 s1 t0 t1 hr8 hr9
        have HA2:Hid (lins (ls.take j++[⟨al,cl,pl,ql,zab s k⟩]++ls.drop j)=zaI [] (s.take (k+1))):=dq (by
         rw [zjd (by rw [HN.out];exact hlt),zgX,←HA.out,HNW.out]
         simp [lins,List.map_take,List.map_drop])
        have HG2:Hid (∀ i,i<k+1→rightLin (zab s i)=true):=dq (fun i hi=>by
         by_cases e:i=k
         ·rw [e];exact HV.out
         ·exact HG.out i (by omega))
        go_wp2
        go_roundw
        case rel=>exact ⟨k+1,a5,c5,m+1,_,by omega,by omega,rfl,rfl,rfl,by go_num,HT9,HA2,HG2⟩
        case measure=>simp [intOf];omega
      ·have HA2:Hid (lins ls=zaI [] (s.take (k+1))):=dq (by
        have h2:=HDU.out
        have h3:=h2.symm
        simp only [Bool.and_eq_true,decide_eq_true_eq] at h3
        have:=zld (b:=zab s k) (l:=lins ls) (by rw [HSP.out,zaG,HT2.out.num];exact h3.1) (by rw [HSP.out];exact h3.2)
        rw [zjd (by rw [HN.out];exact hlt),zgX,←HA.out,this])
       have HG2:Hid (∀ i,i<k+1→rightLin (zab s i)=true):=dq (fun i hi=>by
        by_cases e:i=k
        ·rw [e];exact HV.out
        ·exact HG.out i (by omega))
       clear bd
       go_wp2
       go_roundw
       case rel=>exact ⟨k+1,oa,oc,m,ls,by omega,by omega,rfl,rfl,rfl,by go_num,HT2,HA2,HG2⟩
       case measure=>simp [intOf];omega
  ·have E:Hid (zpC (ofS s) (ofSOk s) w (.returned (.tuple #[.slice oa m oc,.bool true])) wr):=dq (by
    have g:zdO s:=fun x hx=>by
     obtain ⟨j,hj,rfl⟩:=List.getElem_of_mem hx
     have:=HG.out j (by rw [HN.out] at hj;omega)
     simpa [zab,List.getD,hj] using this
    have e2:ofS s=lins ls:=by
     rw [zmw g,HA.out,List.take_of_length_le (by rw [HN.out];omega)]
    rw [zh1.2 g,e2]
    exact ⟨oa,oc,ls,rfl,by rw [zaG,HT.out.num],HT.out.row,HT.out.own,HT.out.bel⟩)
   go_wp2
   go_ret2
   exact E.out
end Go.Proofs.YtmnkjekjknhhjaaGreatDoor

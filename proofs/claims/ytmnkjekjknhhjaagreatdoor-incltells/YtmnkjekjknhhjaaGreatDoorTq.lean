import Derived.Test.YtmnkjekjknhhjaaGreatDoorTe
import Derived.Test.YtmnkjekjknhhjaaGreatDoorMc
import Derived.Deep.RegionHeld3
import Derived.Deep.CutBlock
import Derived.Deep.DeepCutAuto
import Derived.Deep.CutRange
import Derived.Laws.Bits64b
import Derived.Laws.Shifts
import Derived.Lib.RabinKarpLaws
import Derived.Laws.CopyOwn
import Derived.Deep.RegionLaw
import Derived.Test.YtmnkjekjknhhjaaGreatDoorNl
namespace Go.Proofs.YtmnkjekjknhhjaaGreatDoor
open Go.ChangeShapes Go.WideShapes Go.ChangeAt Go.RowKit
theorem za3 {s:List It} {k:Nat} (h:k<s.length):itAt s k=s[k]:=by simp [itAt,List.getD,h]
def UpI (s:List It) (k:Nat):Prop:=∀ j,j<k→zah (itAt s j)=true∧(0<j→cmpI (itAt s (j-1)) (itAt s j)<0)
theorem zrP {x:It} {r:List It}:UpI (x::r) (r.length+1)↔zah x=true∧(0<r.length→cmpI x (itAt r 0)<0)∧UpI r r.length:=by
 have e0:itAt (x::r) 0=x:=rfl
 have e1:∀ j,itAt (x::r) (j+1)=itAt r j:=fun j=>by simp [itAt,List.getD]
 constructor
 ·intro h
  refine ⟨?_,fun hp=>?_,fun j hj=>?_⟩
  ·have:=(h 0 (by omega)).1
   rwa [e0] at this
  ·have:=(h 1 (by omega)).2 (by omega)
   rw [show (1:Nat)-1=0 from rfl,e0,show (1:Nat)=0+1 from rfl,e1] at this
   exact this
  ·have:=h (j+1) (by omega)
   rw [e1] at this
   refine ⟨this.1,fun hp=>?_⟩
   have h2:=this.2 (by omega)
   obtain ⟨i,rfl⟩:∃ i,j=i+1:=⟨j-1,by omega⟩
   rw [show i+1+1-1=i+1 from rfl,e1] at h2
   exact h2
 ·rintro ⟨h1,h2,h3⟩ j hj
  cases j with
  | zero=>rw [e0];exact ⟨h1,fun h=>by omega⟩
  | succ j=>
   rw [e1]
   have:=h3 j (by omega)
   refine ⟨this.1,fun _=>?_⟩
   cases j with
   | zero=>exact h2 (by omega)
   | succ i=>
    have h4:=this.2 (by omega)
    rw [show i+1+1-1=i+1 from rfl,e1]
    exact h4
theorem zha:∀ (s:List It),zci s=true↔UpI s s.length
 | []=>by simp [zci,UpI]
 | x::r=>by
  rw [List.length_cons,zrP,←zha r]
  cases r with
  | nil=>simp [zci]
  | cons y q=>
   have e:zci (x::y::q)=(zah x && decide (cmpI x y<0) && zci (y::q)):=rfl
   rw [e,Bool.and_eq_true,Bool.and_eq_true,decide_eq_true_eq]
   have e0:itAt (y::q) 0=y:=rfl
   rw [e0]
   constructor
   ·rintro ⟨⟨h1,h2⟩,h3⟩;exact ⟨h1,fun _=>h2,h3⟩
   ·rintro ⟨h1,h2,h3⟩;exact ⟨⟨h1,h2 (by simp)⟩,h3⟩
theorem zb3 {s:List Lin} {l:List It}:zaq s l=true↔zam s=true∧(∀ i,i<l.length→0≤(itAt l i).j∧(itAt l i).j<(s.length:Int))∧UpI l l.length:=by
 unfold zaq
 rw [Bool.and_eq_true,Bool.and_eq_true,zha,List.all_eq_true,and_assoc]
 have e:(∀ x∈l,(decide (0≤x.j) && decide (x.j<(s.length:Int)))=true)↔∀ i,i<l.length→0≤(itAt l i).j∧(itAt l i).j<(s.length:Int):=by
  constructor
  ·intro h i hi
   have:=h _ (List.getElem_mem hi)
   rw [za3 hi]
   simpa using this
  ·intro h x hx
   obtain ⟨i,hi,rfl⟩:=List.getElem_of_mem hx
   have:=h i hi
   rw [za3 hi] at this
   simpa using this
 rw [e]
end Go.Proofs.YtmnkjekjknhhjaaGreatDoor
namespace Go.Proofs.YtmnkjekjknhhjaaGreatDoor
open Go.ChangeShapes Go.WideShapes Go.ChangeAt Go.RowKit
theorem zlA:∀ (l:List Int) (b:Int),packN (l++[b])=packN l+b % 2*2 ^ l.length
 | [],b=>by rw [List.nil_append,za2,zew];simp
 | x::r,b=>by
  have ih:=zlA r b
  rw [List.cons_append,za2,ih,za2,List.length_cons,Int.pow_succ,Int.mul_add,←Int.mul_assoc]
  have e:2*(b % 2)*2 ^ r.length=b % 2*(2 ^ r.length*2):=by rw [Int.mul_comm 2 (b % 2),Int.mul_assoc,Int.mul_comm 2]
  rw [e]
  omega
theorem zim {xs:List Int} {k:Nat} (hk:k<xs.length):packN (xs.take (k+1))=packN (xs.take k)+xs.getD k 0 % 2*2 ^ k:=by
 have e:(xs.take k).length=k:=by rw [List.length_take];omega
 rw [List.take_succ_eq_append_getElem hk,zlA,e,zaY hk]
theorem zku {xs:List Int} {n:Nat} (hn:xs.length=n):tab n (fun j=>if j<n then xs.getD j 0/2 else 0)=zdI xs:=by
 subst hn
 refine zhC (by rw [zaw,zgd]) (fun j hj=>?_)
 rw [zaw] at hj
 rw [zd0 hj,if_pos hj,zhJ]
theorem zmH {x v:Int} {k:Nat} (hk:k≤12) (h0:0≤x) (h1:x<2 ^ k) (v0:0≤v) (v1:v≤1152921504606846976) :
  bits .or .u64 x (IntKind.u64.wrap (IntKind.u64.wrap (bits .and .i64 v 1)*2 ^ k))=x+v % 2*2 ^ k:=by
 obtain ⟨a,rfl⟩:∃ a:Nat,x=a:=⟨x.toNat,by omega⟩
 obtain ⟨b,rfl⟩:∃ b:Nat,v=b:=⟨v.toNat,by omega⟩
 have hp:(2:Nat) ^ k≤4096:=Nat.pow_le_pow_right (by omega) hk
 have ha:a<2 ^ k:=by
  have e:((2 ^ k:Nat):Int)=(2:Int) ^ k:=by simp
  omega
 have hb2:b % 2≤1:=by omega
 have hm:b % 2*2 ^ k≤1*4096:=Nat.mul_le_mul hb2 hp
 rw [Go.Proofs.and_one b (by omega)]
 have e1:IntKind.u64.wrap ((b % 2:Nat):Int)=((b % 2:Nat):Int):=by rw [IntKind.wrap_u64];omega
 have e2:((b % 2:Nat):Int)*2 ^ k=((b % 2*2 ^ k:Nat):Int):=by simp
 have e3:IntKind.u64.wrap ((b % 2*2 ^ k:Nat):Int)=((b % 2*2 ^ k:Nat):Int):=by rw [IntKind.wrap_u64];omega
 rw [e1,e2,e3,bits_or_u64_nat a _ (by omega) (by omega)]
 have e4:a ||| b % 2*2 ^ k=b % 2*2 ^ k+a:=by
  rw [Nat.or_comm,←Nat.shiftLeft_eq,Nat.shiftLeft_add_eq_or_of_lt ha]
 rw [e4]
 have e5:((b:Int) % 2)=((b % 2:Nat):Int):=by omega
 rw [e5,e2]
 omega
theorem zex (w:List Int) (d:Nat):(zaJ w d).length=w.length:=by unfold zaJ;rw [List.length_map]
theorem zey (w:List Int) (d t:Nat):(zaJ w d).getD t 0=w.getD t 0/2 ^ d:=by
 unfold zaJ
 rw [List.getD_eq_getElem?_getD,List.getD_eq_getElem?_getD,List.getElem?_map]
 cases w[t]? with
 | none=>simp
 | some v=>rfl
theorem zlB {v:Int} {d:Nat} (v0:0≤v) (v1:v≤1152921504606846976):0≤v/2 ^ d∧v/2 ^ d≤1152921504606846976:=by
 have hp:(0:Int)<2 ^ d:=Int.pow_pos (by omega)
 have h1:=Int.ediv_nonneg v0 (Int.le_of_lt hp)
 have h2:=Int.ediv_le_self (2 ^ d) v0
 omega
set_option maxRecDepth 100000 in
set_option maxHeartbeats 2000000 in
theorem zoB (a:Option Addr) (c:Nat) (xs:List Int) (d:Int) (w:World) (R:Bag w a c xs) :
  Calls Tryz.prog 50 #[.slice a xs.length c,.int .i64 d] w (fun e w'=>e=.returned (.int .u64 (letterN xs d))∧Below w.heap.size w w'):=by
 have hle:=R.le
 have Z:=zaS a c xs w R
 have HLN:Hid (letterN xs d=if zaa xs=true∧0≤d∧d≤62 then packN (zaJ xs d.toNat) else 0):=dq rfl
 generalize hn:xs.length=n at hle Z ⊢
 have HN:=dq hn
 have HR:=dq R
 generalize hv:zaa xs=v at Z HLN
 have HV:=dq hv
 have HZ:=dq Z
 clear R hn Z hv
 generalize letterN xs d=ln at HLN ⊢
 cases v with
 | false=>
  have E:Hid (ln=0):=dq (by rw [HLN.out];simp)
  go_enter Tryz.func50,Tryz.ntmps50
  go_wp2_with (fail)
  refine HZ.out.mono ?_
  rintro e _ ⟨rfl,rfl⟩
  go_wp2
  go_ret
  exact ⟨by rw [E.out];try rfl,Below.refl _ _⟩
 | true=>
  by_cases h0:d<0
  ·have E:Hid (ln=0):=dq (by rw [HLN.out,if_neg (by omega)])
   go_enter Tryz.func50,Tryz.ntmps50
   go_wp2_with (fail)
   refine HZ.out.mono ?_
   rintro e _ ⟨rfl,rfl⟩
   go_wp2
   go_ret
   exact ⟨by rw [E.out];try rfl,Below.refl _ _⟩
  ·by_cases h62:62<d
   ·have E:Hid (ln=0):=dq (by rw [HLN.out,if_neg (by omega)])
    go_enter Tryz.func50,Tryz.ntmps50
    go_wp2_with (fail)
    refine HZ.out.mono ?_
    rintro e _ ⟨rfl,rfl⟩
    go_wp2
    go_ret
    exact ⟨by rw [E.out];try rfl,Below.refl _ _⟩
   ·obtain ⟨d,rfl⟩:∃ j:Nat,d=j:=⟨d.toNat,by omega⟩
    have E:Hid (ln=packN (zaJ xs d)):=dq (by rw [HLN.out,if_pos ⟨by first | trivial | rfl,by omega,by omega⟩];rfl)
    have hl12:=(zac.1 HV.out).1
    rw [HN.out] at hl12
    clear HLN
    go_enter Tryz.func50,Tryz.ntmps50
    go_wp2_with (fail)
    refine HZ.out.mono ?_
    rintro e _ ⟨rfl,rfl⟩
    clear HZ
    go_wp2
    go_loopw [5,21] (fun x i wr=>∃ k:Nat,k≤n∧i=.int .i64 k∧x=.int .u64 (packN ((zaJ xs d).take k))∧w=wr) (fun _ i _=>n-(intOf i).toNat)
    case atStart=>exact ⟨0,Nat.zero_le _,rfl,rfl,rfl⟩
    case round=>
     obtain ⟨k,hk,rfl,rfl,rfl⟩:=hrel
     by_cases hlt:k<n
     ·have hk':k<xs.length:=by rw [HN.out];exact hlt
      obtain ⟨g,rfl,hc⟩:=HR.out.at hk'
      have hb:=zae HV.out k
      have hdl:(zaJ xs d).length=xs.length:=zex xs d
      have hpt:=zim (xs:=zaJ xs d) (k:=k) (by rw [hdl];exact hk')
      have hpb:=zbw ((zaJ xs d).take k)
      have el:((zaJ xs d).take k).length=k:=by rw [List.length_take,hdl];omega
      rw [el] at hpb
      have hdv:=zlB (d:=d) hb.1 hb.2
      have hor:=zmH (k:=k) (by omega) hpb.1 hpb.2 hdv.1 hdv.2
      rw [zey] at hpt
      rw [←hpt] at hor
      generalize xs.getD k 0=v at hc hb hor hdv
      generalize packN ((zaJ xs d).take k)=pk at hor
      clear hpt hpb hk' el hdl
      have i1:(0:Int)≤(k:Int):=by omega
      have i2:(k:Int)<(n:Int):=by omega
      go_wp2
      go_roundw
      case rel=>exact ⟨k+1,by omega,by go_num,by first | rw [hor] | rfl,by first | rfl | trivial⟩
      case measure=>simp [intOf];omega
     ·obtain rfl:k=n:=by omega
      have htk:(zaJ xs d).take k=zaJ xs d:=by rw [←HN.out,←zex xs d];exact List.take_length
      rw [htk]
      go_wp2
      go_ret
      exact ⟨by rw [E.out];try rfl,Below.refl _ _⟩
theorem zkv {w w':World} {a a' b:Option Addr} {c c' d:Nat} {ls:List Ib} {x:It} (h:Ibs w a c ls) (hx:Bag w b d x.c) (k:Kept (fun g=>a=some ⟨g,0,none⟩) w w') (p:Nat)
  (r:RowI w' a' c' (ls.length+1) (zay (ls.take p++⟨b,d,x⟩::ls.drop p))):Its w' a' c' ((its ls).take p++x::(its ls).drop p):=by
 have hl:(ls.take p++(⟨b,d,x⟩:Ib)::ls.drop p).length=ls.length+1:=by
  rw [List.length_append,List.length_cons,List.length_take,List.length_drop];omega
 refine ⟨ls.take p++⟨b,d,x⟩::ls.drop p,by simp [its],by rw [hl];exact r,?_⟩
 have hap:∀ (b:Option Addr) (d:Nat) (xs:List Int),Bag w b d xs→Bag w' b d xs:=by
  intro b d xs hb
  refine hb.kept k (fun g e e2=>?_)
  rcases h.row.2 with ⟨h1,_⟩ | ⟨g',sp,h1,_,_,_,l⟩
  ·rw [h1] at e2;cases e2
  ·rw [h1] at e2;injection e2 with e2;injection e2 with e2;subst e2
   rcases hb with ⟨h2,_⟩ | ⟨g2,sp2,h2,_,_,l2⟩
   ·rw [h2] at e;cases e
   ·rw [h2] at e;injection e with e;injection e with e;subst e
    exact l.other l2 (by decide) rfl
 intro l hl
 rcases List.mem_append.1 hl with hl | hl
 ·exact hap _ _ _ (h.each l (List.mem_of_mem_take hl))
 ·rcases List.mem_cons.1 hl with rfl | hl
  ·exact hap _ _ _ hx
  ·exact hap _ _ _ (h.each l (List.mem_of_mem_drop hl))
end Go.Proofs.YtmnkjekjknhhjaaGreatDoor
namespace Go.Proofs.YtmnkjekjknhhjaaGreatDoor
open Go.ChangeShapes Go.WideShapes Go.ChangeAt Go.RowKit
def zbE:Oper:=⟨some 17,.fieldAddr 111 (.tmp 6) 0,0,"ref.go:467",#[],none⟩
def zbF:Oper:=⟨some 18,.load 3 (.tmp 17),3,"ref.go:467",#[⟨0,.data⟩],none⟩
def zbG:Oper:=⟨some 19,.binOp .lss 3 (.tmp 18) (.const (.int .i64 0)) 3,4,"ref.go:467",#[⟨1,.data⟩],none⟩
def zbH:Oper:=⟨some 20,.move (.tmp 19),4,"ref.go:467",#[⟨2,.data⟩],none⟩
def zb9:Oper:=⟨some 21,.fieldAddr 111 (.tmp 6) 0,0,"ref.go:467",#[⟨3,.guard⟩],some (3,false)⟩
def zca:Oper:=⟨some 22,.load 3 (.tmp 21),3,"ref.go:467",#[⟨4,.data⟩,⟨3,.guard⟩],some (3,false)⟩
def zcb:Oper:=⟨some 23,.move (.tmp 0),24,"ref.go:467",#[⟨3,.guard⟩],some (3,false)⟩
def zcc:Oper:=⟨some 24,.call {callee:=.builtin .len,args:=#[.tmp 23],argTypes:=#[24]},3,"ref.go:467",#[⟨6,.data⟩,⟨3,.guard⟩],some (3,false)⟩
def zcd:Oper:=⟨some 25,.binOp .geq 3 (.tmp 22) (.tmp 24) 3,4,"ref.go:467",#[⟨5,.data⟩,⟨7,.data⟩,⟨3,.guard⟩],some (3,false)⟩
def zbI:Oper:=⟨some 26,.pick (.tmp 20) (.const (.bool true)) (.tmp 25),4,"ref.go:467",#[⟨3,.data⟩,⟨8,.data⟩],none⟩
def zbJ:Oper:=⟨some 27,.move (.tmp 26),4,"ref.go:467",#[⟨9,.data⟩,⟨3,.chain⟩],none⟩
def zcn:Oper:=⟨some 28,.fieldAddr 111 (.tmp 6) 1,0,"ref.go:467",#[⟨10,.guard⟩],some (10,false)⟩
def zco:Oper:=⟨some 29,.load 31 (.tmp 28),31,"ref.go:467",#[⟨11,.data⟩,⟨10,.guard⟩],some (10,false)⟩
def zcp:Oper:=⟨some 30,.call {callee:=.value (.func 47),args:=#[.tmp 29],argTypes:=#[31]},4,"ref.go:467",#[⟨12,.data⟩,⟨10,.chain⟩,⟨10,.guard⟩],some (10,false)⟩
def zcq:Oper:=⟨some 31,.unOp .not 4 (.tmp 30),4,"ref.go:467",#[⟨13,.data⟩,⟨10,.guard⟩],some (10,false)⟩
def zbK:Oper:=⟨some 32,.pick (.tmp 27) (.const (.bool true)) (.tmp 31),4,"ref.go:467",#[⟨10,.data⟩,⟨14,.data⟩],none⟩
def zbL:Oper:=⟨some 33,.move (.tmp 32),4,"ref.go:467",#[⟨15,.data⟩,⟨13,.chain⟩],none⟩
def zcS:Oper:=⟨some 34,.move (.tmp 5),3,"ref.go:467",#[⟨16,.guard⟩],some (16,false)⟩
def zcT:Oper:=⟨some 35,.binOp .gtr 3 (.tmp 34) (.const (.int .i64 0)) 3,4,"ref.go:467",#[⟨17,.data⟩,⟨16,.guard⟩],some (16,false)⟩
def zcU:Oper:=⟨some 36,.move (.tmp 35),4,"ref.go:467",#[⟨18,.data⟩,⟨16,.chain⟩,⟨16,.guard⟩],some (16,false)⟩
def zdc:Oper:=⟨some 37,.move (.tmp 1),77,"ref.go:467",#[⟨19,.guard⟩],some (19,true)⟩
def zdd:Oper:=⟨some 38,.move (.tmp 5),3,"ref.go:467",#[⟨19,.guard⟩],some (19,true)⟩
def zde:Oper:=⟨some 39,.binOp .sub 3 (.tmp 38) (.const (.int .i64 1)) 3,3,"ref.go:467",#[⟨21,.data⟩,⟨19,.guard⟩],some (19,true)⟩
def zdf:Oper:=⟨some 40,.indexAddr 77 (.tmp 37) (.tmp 39),0,"ref.go:467",#[⟨20,.data⟩,⟨22,.data⟩,⟨19,.guard⟩],some (19,true)⟩
def zdg:Oper:=⟨some 41,.load 111 (.tmp 40),111,"ref.go:467",#[⟨23,.data⟩,⟨19,.guard⟩],some (19,true)⟩
def zdh:Oper:=⟨some 42,.load 111 (.tmp 6),111,"ref.go:467",#[⟨19,.guard⟩],some (19,true)⟩
def zdi:Oper:=⟨some 43,.call {callee:=.value (.func 116),args:=#[.tmp 41,.tmp 42],argTypes:=#[111,111]},4,"ref.go:467",#[⟨24,.data⟩,⟨25,.data⟩,⟨19,.chain⟩,⟨19,.guard⟩],some (19,true)⟩
def zdj:Oper:=⟨some 44,.unOp .not 4 (.tmp 43),4,"ref.go:467",#[⟨26,.data⟩,⟨19,.guard⟩],some (19,true)⟩
def zcV:Oper:=⟨some 45,.pick (.tmp 36) (.tmp 44) (.const (.bool false)),4,"ref.go:467",#[⟨19,.data⟩,⟨27,.data⟩,⟨16,.guard⟩],some (16,false)⟩
def zbM:Oper:=⟨some 46,.pick (.tmp 33) (.const (.bool true)) (.tmp 45),4,"ref.go:467",#[⟨16,.data⟩,⟨28,.data⟩],none⟩
theorem zeA (a b:Option Addr) (c d n m:Nat) (x y:It) (w:World) (hn:x.c.length=n) (hm:y.c.length=m) (R:Bag w a c x.c) (S:Bag w b d y.c) :
  Calls Tryz.prog 116 #[.agg #[.int .i64 x.j,.slice a n c],.agg #[.int .i64 y.j,.slice b m d]] w (TellsB (ltI x y) w):=by
 have b1:=below_alloc w (.cells #[.int .i64 x.j,.slice a n c] 111)
 have b2:=below_alloc (w.alloc (.cells #[.int .i64 x.j,.slice a n c] 111)) (.cells #[.int .i64 y.j,.slice b m d] 111)
 have HB:=dq (b1.trans (b2.mono b1.size))
 have HX:Hid (Lies ((w.alloc (.cells #[.int .i64 x.j,.slice a n c] 111)).alloc (.cells #[.int .i64 y.j,.slice b m d] 111)) w.heap.size 111 [.int .i64 x.j,.slice a n c]):=dq ((Lies.new w 111 [.int .i64 x.j,.slice a n c]).alloc _)
 have HY:Hid (Lies ((w.alloc (.cells #[.int .i64 x.j,.slice a n c] 111)).alloc (.cells #[.int .i64 y.j,.slice b m d] 111)) (w.heap.size+1) 111 [.int .i64 y.j,.slice b m d]):=dq (by
  have:=Lies.new (w.alloc (.cells #[.int .i64 x.j,.slice a n c] 111)) 111 [.int .i64 y.j,.slice b m d]
  simpa using this)
 have HZ:Hid (∀ V,Below w.heap.size w V→Calls Tryz.prog 115 #[.slice a n c,.slice b m d] V (Tells (cmpL x.c y.c) V)):=dq (fun V h=>by
  have Z:=zoh a b c d x.c y.c V (R.below h) (S.below h)
  rwa [hn,hm] at Z)
 have HE:Hid (ltI x y=(decide (x.j<y.j) || (decide (x.j=y.j) && decide (cmpL x.c y.c<0)))):=dq rfl
 clear R S hn hm b1 b2
 generalize x.j=j1 at *
 generalize y.j=j2 at *
 generalize cmpL x.c y.c=z at *
 go_enter Tryz.func116,Tryz.ntmps116
 go_upto_region 1 with (fail)
 have HZ2:=dq (HZ.out _ HB.out)
 generalize (w.alloc (.cells #[.int .i64 j1,.slice a n c] 111)).alloc (.cells #[.int .i64 j2,.slice b m d] 111)=W at HB HX HY HZ2 ⊢
 generalize hg:w.heap.size=gb at HX HY ⊢
 have HG:=dq hg
 clear hg HZ
 have x0:W.cell? ⟨gb,0,none⟩=some (.int .i64 j1):=HX.out.cell 0
 have x1:W.cell? ⟨gb,1,none⟩=some (.slice a n c):=HX.out.cell 1
 have y0:W.cell? ⟨gb+1,0,none⟩=some (.int .i64 j2):=HY.out.cell 0
 have y1:W.cell? ⟨gb+1,1,none⟩=some (.slice b m d):=HY.out.cell 1
 by_cases h1:j1<j2
 ·have E:Hid (ltI x y=true):=dq (by rw [HE.out];simp [h1])
  go_wp2
  go_ret
  exact ⟨by rw [E.out];try rfl,HB.out⟩
 ·by_cases h2:j1=j2
  ·have h2b:(j1==j2)=true:=by simp [h2]
   by_cases h3:z<0
   ·have E:Hid (ltI x y=true):=dq (by rw [HE.out];simp [h2,h3])
    go_wp2_with (fail)
    refine HZ2.out.mono ?_
    rintro e w3 ⟨rfl,b3⟩
    have HB3:=dq (HB.out.trans (b3.mono HB.out.size))
    clear b3 x0 x1 y0 y1
    go_wp2
    go_ret
    exact ⟨by rw [E.out];try rfl,HB3.out⟩
   ·have E:Hid (ltI x y=false):=dq (by rw [HE.out];simp [h1,h3])
    have h3b:decide (z<0)=false:=by simpa using h3
    go_wp2_with (fail)
    refine HZ2.out.mono ?_
    rintro e w3 ⟨rfl,b3⟩
    have HB3:=dq (HB.out.trans (b3.mono HB.out.size))
    clear b3 x0 x1 y0 y1
    go_wp2
    go_ret
    exact ⟨by rw [E.out];try rfl,HB3.out⟩
  ·have h2b:(j1==j2)=false:=by simp [h2]
   have E:Hid (ltI x y=false):=dq (by rw [HE.out];simp [h1,h2])
   go_wp2
   go_ret
   exact ⟨by rw [E.out];try rfl,HB.out⟩
set_option maxRecDepth 100000 in
set_option maxHeartbeats 4000000 in
theorem zi0 (sa a:Option Addr) (sc c:Nat) (s:List Lin) (l:List It) (w:World) (R0:Lins w sa sc s) (R:Its w a c l) :
  Calls Tryz.prog 81 #[.slice sa s.length sc,.slice a l.length c] w (TellsB (zaq s l) w):=by
 have hle:=R.le
 have hle0:=R0.le
 have Z:=zaC sa sc s w R0
 have HIF:=dq (zb3 (s:=s) (l:=l))
 generalize hn:l.length=n at hle HIF ⊢
 generalize hm:s.length=m at hle0 Z HIF ⊢
 have HN:=dq hn
 have HM:=dq hm
 have HR:=dq R
 generalize hv:zam s=v at Z HIF
 have HZ:=dq Z
 clear R R0 hn hm Z hv
 go_enter Tryz.func81,Tryz.ntmps81
 go_wp2_with (fail)
 refine HZ.out.mono ?_
 rintro e w1 ⟨rfl,b1⟩
 have HB:=dq b1
 clear b1 HZ
 cases v with
 | false=>
  have E:Hid (zaq s l=false):=dq (by rw [←Bool.not_eq_true,HIF.out];exact fun h=>Bool.false_ne_true h.1)
  go_wp2
  go_ret
  exact ⟨by rw [E.out];try rfl,HB.out⟩
 | true=>
  go_wp2
  go_loopw [4,12] (fun r i wr=>∃ k:Nat,k≤n∧r=.bool false∧i=.int .i64 k∧Hid (Below w.heap.size w wr)∧Hid (∀ j,j<k→0≤(itAt l j).j∧(itAt l j).j<(m:Int))∧Hid (UpI l k)) (fun _ i _=>n-(intOf i).toNat)
  case atStart=>exact ⟨0,Nat.zero_le _,rfl,rfl,HB,dq (fun j h=>by omega),dq (fun j h=>by omega)⟩
  case round=>
   clear HB
   obtain ⟨k,hk,rfl,rfl,HB,HJ,HE⟩:=hrel
   by_cases hlt:k<n
   ·have HRW:=dq (HR.out.below HB.out)
    obtain ⟨g,b,d,e1,c0,c1,B1⟩:=HRW.out.at (k:=k) (by rw [HN.out];exact hlt)
    have hbl:=B1.le
    generalize hu:(itAt l k).c.length=u at c1 hbl
    have HU:=dq hu
    clear hu
    generalize hj:(itAt l k).j=j at c0
    have HJV:=dq hj
    clear hj
    have bb:=below_alloc wr (.cells #[.int .i64 j,.slice b u d] 111)
    have HB2:=dq (HB.out.trans (bb.mono HB.out.size))
    have HL:=dq (Lies.new wr 111 [.int .i64 j,.slice b u d])
    have HRW2:=dq (HRW.out.below bb)
    have HX:=dq (B1.below bb)
    clear B1 bb
    subst e1
    go_upto_region 6 with (fail)
    clear c0 c1
    generalize wr.alloc (.cells #[.int .i64 j,.slice b u d] 111)=W at HB2 HL HRW2 HX ⊢
    generalize wr.heap.size=gb at HL ⊢
    clear HB HRW
    have HB:=HB2
    clear HB2
    have k0:=HL.out.cell 0
    have k1:=HL.out.cell 1
    simp only [List.getElem?_cons_zero,List.getElem?_cons_succ] at k0 k1
    have ltb:=HL.out.lt
    have ltg:=HRW2.out.lt rfl
    have bd:Below W.heap.size W W.drew:=⟨rfl,rfl,rfl,Nat.le_refl _,fun _ _=>rfl⟩
    have ZR:Hid (∀ V,Below W.heap.size W V→Calls Tryz.prog 47 #[.slice b u d] V (TellsB (zaa (itAt l k).c) V)):=dq (fun V h=>by
     have Z:=zaS b d (itAt l k).c V (HX.out.below h)
     rw [HU.out] at Z
     exact Z.mono (fun e w' h=>by obtain ⟨h1,h2⟩:=h;subst h2;exact ⟨h1,Below.refl _ _⟩))
    generalize hv:zaa (itAt l k).c=v at ZR
    have HV:=dq hv
    clear hv
    have hbad:¬(0≤j∧j<(m:Int)∧v=true∧(0<k→ltI (itAt l (k-1)) (itAt l k)=true))→Hid (zaq s l=false):=fun h=>dq (by
     rw [←Bool.not_eq_true,HIF.out]
     rintro ⟨_,h2,h3⟩
     have a1:=h2 k hlt
     have a2:=h3 k hlt
     rw [HJV.out] at a1
     refine h ⟨a1.1,a1.2,?_,fun h0=>?_⟩
     ·rw [←HV.out];exact a2.1
     ·exact (zdy (h3 (k-1) (by omega)).1 a2.1).2 (a2.2 h0))
    by_cases hj0:j<0
    ·have E:=hbad (by omega)
     have hj0b:decide (j<0)=true:=by simpa using hj0
     clear hbad
     refine wp_region_held_drew (S:=fun w'=>Below W.heap.size W w') (by kernel_rfl) bd (fun hHeld=>?_)
     clear hHeld
     refine tkY 0 zbE (v:=?_) rfl bd ?_ ?_
     rotate_left
     ·intro w hSw
      simp only [zbE];go_simp
      try with_reducible rfl
     try simp only [zbE,Act.put,pA,pB,pC]
     refine tkY 1 zbF (v:=?_) rfl bd ?_ ?_
     rotate_left
     ·intro w hSw
      have f1:=(hSw.cell (p:=⟨gb,0,none⟩) ltb).trans k0
      have f2:=(hSw.cell (p:=⟨gb,1,none⟩) ltb).trans k1
      simp only [zbF];go_simp
      try with_reducible rfl
     try simp only [zbF,Act.put,pA,pB,pC]
     refine tkY 2 zbG (v:=?_) rfl bd ?_ ?_
     rotate_left
     ·intro w hSw
      simp only [zbG];go_simp
      try with_reducible rfl
     try simp only [zbG,Act.put,pA,pB,pC]
     refine tkY 3 zbH (v:=?_) rfl bd ?_ ?_
     rotate_left
     ·intro w hSw
      simp only [zbH];go_simp
      try with_reducible rfl
     try simp only [zbH,Act.put,pA,pB,pC]
     refine tkN 4 zb9 rfl bd ?_
     try simp only [zb9,Act.put,pA,pB,pC]
     refine tkN 5 zca rfl bd ?_
     try simp only [zca,Act.put,pA,pB,pC]
     refine tkN 6 zcb rfl bd ?_
     try simp only [zcb,Act.put,pA,pB,pC]
     refine tkN 7 zcc rfl bd ?_
     try simp only [zcc,Act.put,pA,pB,pC]
     refine tkN 8 zcd rfl bd ?_
     try simp only [zcd,Act.put,pA,pB,pC]
     refine tkY 9 zbI (v:=?_) rfl bd ?_ ?_
     rotate_left
     ·intro w hSw
      simp only [zbI];go_simp
      try with_reducible rfl
     try simp only [zbI,Act.put,pA,pB,pC]
     refine tkY 10 zbJ (v:=?_) rfl bd ?_ ?_
     rotate_left
     ·intro w hSw
      simp only [zbJ];go_simp
      try with_reducible rfl
     try simp only [zbJ,Act.put,pA,pB,pC]
     refine tkN 11 zcn rfl bd ?_
     try simp only [zcn,Act.put,pA,pB,pC]
     refine tkN 12 zco rfl bd ?_
     try simp only [zco,Act.put,pA,pB,pC]
     refine tkN 13 zcp rfl bd ?_
     try simp only [zcp,Act.put,pA,pB,pC]
     refine tkN 14 zcq rfl bd ?_
     try simp only [zcq,Act.put,pA,pB,pC]
     refine tkY 15 zbK (v:=?_) rfl bd ?_ ?_
     rotate_left
     ·intro w hSw
      simp only [zbK];go_simp
      try with_reducible rfl
     try simp only [zbK,Act.put,pA,pB,pC]
     refine tkY 16 zbL (v:=?_) rfl bd ?_ ?_
     rotate_left
     ·intro w hSw
      simp only [zbL];go_simp
      try with_reducible rfl
     try simp only [zbL,Act.put,pA,pB,pC]
     refine tkN 17 zcS rfl bd ?_
     try simp only [zcS,Act.put,pA,pB,pC]
     refine tkN 18 zcT rfl bd ?_
     try simp only [zcT,Act.put,pA,pB,pC]
     refine tkN 19 zcU rfl bd ?_
     try simp only [zcU,Act.put,pA,pB,pC]
     refine tkN 20 zdc rfl bd ?_
     try simp only [zdc,Act.put,pA,pB,pC]
     refine tkN 21 zdd rfl bd ?_
     try simp only [zdd,Act.put,pA,pB,pC]
     refine tkN 22 zde rfl bd ?_
     try simp only [zde,Act.put,pA,pB,pC]
     refine tkN 23 zdf rfl bd ?_
     try simp only [zdf,Act.put,pA,pB,pC]
     refine tkN 24 zdg rfl bd ?_
     try simp only [zdg,Act.put,pA,pB,pC]
     refine tkN 25 zdh rfl bd ?_
     try simp only [zdh,Act.put,pA,pB,pC]
     refine tkN 26 zdi rfl bd ?_
     try simp only [zdi,Act.put,pA,pB,pC]
     refine tkN 27 zdj rfl bd ?_
     try simp only [zdj,Act.put,pA,pB,pC]
     refine tkN 28 zcV rfl bd ?_
     try simp only [zcV,Act.put,pA,pB,pC]
     refine tkY 29 zbM (v:=?_) rfl bd ?_ ?_
     rotate_left
     ·intro w hSw
      simp only [zbM];go_simp
      try with_reducible rfl
     try simp only [zbM,Act.put,pA,pB,pC]
     refine wpAnyH_done (by kernel_rfl) ?_ _
     have HB3:=dq (HB.out.trans (bd.mono HB.out.size))
     clear ltb ltg bd ZR k0 k1
     go_wp2
     go_ret
     exact ⟨by rw [E.out];try rfl,HB3.out⟩
    ·have hj0b:decide (j<0)=false:=by simpa using hj0
     by_cases hjm:(m:Int)≤j
     ·have E:=hbad (by omega)
      have hjmb:decide ((m:Int)≤j)=true:=by simpa using hjm
      clear hbad
      refine wp_region_held_drew (S:=fun w'=>Below W.heap.size W w') (by kernel_rfl) bd (fun hHeld=>?_)
      clear hHeld
      refine tkY 0 zbE (v:=?_) rfl bd ?_ ?_
      rotate_left
      ·intro w hSw
       simp only [zbE];go_simp
       try with_reducible rfl
      try simp only [zbE,Act.put,pA,pB,pC]
      refine tkY 1 zbF (v:=?_) rfl bd ?_ ?_
      rotate_left
      ·intro w hSw
       have f1:=(hSw.cell (p:=⟨gb,0,none⟩) ltb).trans k0
       have f2:=(hSw.cell (p:=⟨gb,1,none⟩) ltb).trans k1
       simp only [zbF];go_simp
       try with_reducible rfl
      try simp only [zbF,Act.put,pA,pB,pC]
      refine tkY 2 zbG (v:=?_) rfl bd ?_ ?_
      rotate_left
      ·intro w hSw
       simp only [zbG];go_simp
       try with_reducible rfl
      try simp only [zbG,Act.put,pA,pB,pC]
      refine tkY 3 zbH (v:=?_) rfl bd ?_ ?_
      rotate_left
      ·intro w hSw
       simp only [zbH];go_simp
       try with_reducible rfl
      try simp only [zbH,Act.put,pA,pB,pC]
      refine tkY 4 zb9 (v:=?_) rfl bd ?_ ?_
      rotate_left
      ·intro w hSw
       simp only [zb9];go_simp
       try with_reducible rfl
      try simp only [zb9,Act.put,pA,pB,pC]
      refine tkY 5 zca (v:=?_) rfl bd ?_ ?_
      rotate_left
      ·intro w hSw
       have f1:=(hSw.cell (p:=⟨gb,0,none⟩) ltb).trans k0
       have f2:=(hSw.cell (p:=⟨gb,1,none⟩) ltb).trans k1
       simp only [zca];go_simp
       try with_reducible rfl
      try simp only [zca,Act.put,pA,pB,pC]
      refine tkY 6 zcb (v:=?_) rfl bd ?_ ?_
      rotate_left
      ·intro w hSw
       simp only [zcb];go_simp
       try with_reducible rfl
      try simp only [zcb,Act.put,pA,pB,pC]
      refine tkY 7 zcc (v:=?_) rfl bd ?_ ?_
      rotate_left
      ·intro w hSw
       simp only [zcc];go_simp
       try with_reducible rfl
      try simp only [zcc,Act.put,pA,pB,pC]
      refine tkY 8 zcd (v:=?_) rfl bd ?_ ?_
      rotate_left
      ·intro w hSw
       simp only [zcd];go_simp
       try with_reducible rfl
      try simp only [zcd,Act.put,pA,pB,pC]
      refine tkY 9 zbI (v:=?_) rfl bd ?_ ?_
      rotate_left
      ·intro w hSw
       simp only [zbI];go_simp
       try with_reducible rfl
      try simp only [zbI,Act.put,pA,pB,pC]
      refine tkY 10 zbJ (v:=?_) rfl bd ?_ ?_
      rotate_left
      ·intro w hSw
       simp only [zbJ];go_simp
       try with_reducible rfl
      try simp only [zbJ,Act.put,pA,pB,pC]
      refine tkN 11 zcn rfl bd ?_
      try simp only [zcn,Act.put,pA,pB,pC]
      refine tkN 12 zco rfl bd ?_
      try simp only [zco,Act.put,pA,pB,pC]
      refine tkN 13 zcp rfl bd ?_
      try simp only [zcp,Act.put,pA,pB,pC]
      refine tkN 14 zcq rfl bd ?_
      try simp only [zcq,Act.put,pA,pB,pC]
      refine tkY 15 zbK (v:=?_) rfl bd ?_ ?_
      rotate_left
      ·intro w hSw
       simp only [zbK];go_simp
       try with_reducible rfl
      try simp only [zbK,Act.put,pA,pB,pC]
      refine tkY 16 zbL (v:=?_) rfl bd ?_ ?_
      rotate_left
      ·intro w hSw
       simp only [zbL];go_simp
       try with_reducible rfl
      try simp only [zbL,Act.put,pA,pB,pC]
      refine tkN 17 zcS rfl bd ?_
      try simp only [zcS,Act.put,pA,pB,pC]
      refine tkN 18 zcT rfl bd ?_
      try simp only [zcT,Act.put,pA,pB,pC]
      refine tkN 19 zcU rfl bd ?_
      try simp only [zcU,Act.put,pA,pB,pC]
      refine tkN 20 zdc rfl bd ?_
      try simp only [zdc,Act.put,pA,pB,pC]
      refine tkN 21 zdd rfl bd ?_
      try simp only [zdd,Act.put,pA,pB,pC]
      refine tkN 22 zde rfl bd ?_
      try simp only [zde,Act.put,pA,pB,pC]
      refine tkN 23 zdf rfl bd ?_
      try simp only [zdf,Act.put,pA,pB,pC]
      refine tkN 24 zdg rfl bd ?_
      try simp only [zdg,Act.put,pA,pB,pC]
      refine tkN 25 zdh rfl bd ?_
      try simp only [zdh,Act.put,pA,pB,pC]
      refine tkN 26 zdi rfl bd ?_
      try simp only [zdi,Act.put,pA,pB,pC]
      refine tkN 27 zdj rfl bd ?_
      try simp only [zdj,Act.put,pA,pB,pC]
      refine tkN 28 zcV rfl bd ?_
      try simp only [zcV,Act.put,pA,pB,pC]
      refine tkY 29 zbM (v:=?_) rfl bd ?_ ?_
      rotate_left
      ·intro w hSw
       simp only [zbM];go_simp
       try with_reducible rfl
      try simp only [zbM,Act.put,pA,pB,pC]
      refine wpAnyH_done (by kernel_rfl) ?_ _
      have HB3:=dq (HB.out.trans (bd.mono HB.out.size))
      clear ltb ltg bd ZR k0 k1
      go_wp2
      go_ret
      exact ⟨by rw [E.out];try rfl,HB3.out⟩
     ·have hjmb:decide ((m:Int)≤j)=false:=by simpa using hjm
      have HJ2:Hid (∀ i,i<k+1→0≤(itAt l i).j∧(itAt l i).j<(m:Int)):=dq (fun i hi=>by
       by_cases e:i=k
       ·rw [e,HJV.out];omega
       ·exact HJ.out i (by omega))
      cases v with
      | false=>
       have E:=hbad (fun h=>Bool.false_ne_true h.2.2.1)
       clear hbad
       refine wp_region_held_drew (S:=fun w'=>Below W.heap.size W w') (by kernel_rfl) bd (fun hHeld=>?_)
       clear hHeld
       refine tkY 0 zbE (v:=?_) rfl bd ?_ ?_
       rotate_left
       ·intro w hSw
        simp only [zbE];go_simp
        try with_reducible rfl
       try simp only [zbE,Act.put,pA,pB,pC]
       refine tkY 1 zbF (v:=?_) rfl bd ?_ ?_
       rotate_left
       ·intro w hSw
        have f1:=(hSw.cell (p:=⟨gb,0,none⟩) ltb).trans k0
        have f2:=(hSw.cell (p:=⟨gb,1,none⟩) ltb).trans k1
        simp only [zbF];go_simp
        try with_reducible rfl
       try simp only [zbF,Act.put,pA,pB,pC]
       refine tkY 2 zbG (v:=?_) rfl bd ?_ ?_
       rotate_left
       ·intro w hSw
        simp only [zbG];go_simp
        try with_reducible rfl
       try simp only [zbG,Act.put,pA,pB,pC]
       refine tkY 3 zbH (v:=?_) rfl bd ?_ ?_
       rotate_left
       ·intro w hSw
        simp only [zbH];go_simp
        try with_reducible rfl
       try simp only [zbH,Act.put,pA,pB,pC]
       refine tkY 4 zb9 (v:=?_) rfl bd ?_ ?_
       rotate_left
       ·intro w hSw
        simp only [zb9];go_simp
        try with_reducible rfl
       try simp only [zb9,Act.put,pA,pB,pC]
       refine tkY 5 zca (v:=?_) rfl bd ?_ ?_
       rotate_left
       ·intro w hSw
        have f1:=(hSw.cell (p:=⟨gb,0,none⟩) ltb).trans k0
        have f2:=(hSw.cell (p:=⟨gb,1,none⟩) ltb).trans k1
        simp only [zca];go_simp
        try with_reducible rfl
       try simp only [zca,Act.put,pA,pB,pC]
       refine tkY 6 zcb (v:=?_) rfl bd ?_ ?_
       rotate_left
       ·intro w hSw
        simp only [zcb];go_simp
        try with_reducible rfl
       try simp only [zcb,Act.put,pA,pB,pC]
       refine tkY 7 zcc (v:=?_) rfl bd ?_ ?_
       rotate_left
       ·intro w hSw
        simp only [zcc];go_simp
        try with_reducible rfl
       try simp only [zcc,Act.put,pA,pB,pC]
       refine tkY 8 zcd (v:=?_) rfl bd ?_ ?_
       rotate_left
       ·intro w hSw
        simp only [zcd];go_simp
        try with_reducible rfl
       try simp only [zcd,Act.put,pA,pB,pC]
       refine tkY 9 zbI (v:=?_) rfl bd ?_ ?_
       rotate_left
       ·intro w hSw
        simp only [zbI];go_simp
        try with_reducible rfl
       try simp only [zbI,Act.put,pA,pB,pC]
       refine tkY 10 zbJ (v:=?_) rfl bd ?_ ?_
       rotate_left
       ·intro w hSw
        simp only [zbJ];go_simp
        try with_reducible rfl
       try simp only [zbJ,Act.put,pA,pB,pC]
       refine tkY 11 zcn (v:=?_) rfl bd ?_ ?_
       rotate_left
       ·intro w hSw
        simp only [zcn];go_simp
        try with_reducible rfl
       try simp only [zcn,Act.put,pA,pB,pC]
       refine tkY 12 zco (v:=?_) rfl bd ?_ ?_
       rotate_left
       ·intro w hSw
        have f1:=(hSw.cell (p:=⟨gb,0,none⟩) ltb).trans k0
        have f2:=(hSw.cell (p:=⟨gb,1,none⟩) ltb).trans k1
        simp only [zco];go_simp
        try with_reducible rfl
       try simp only [zco,Act.put,pA,pB,pC]
       refine wpAnyH_ready (rs:=[13]) (by kernel_rfl) (by simp) ?_
       refine AllReadyH.cons (o:=zcp) rfl (fun K hK=>?_) AllReadyH.nil
       simp only [zcp];go_simp
       refine (ZR.out _ bd).mono ?_
       rintro e V1 ⟨rfl,d1⟩
       have b1:Below W.heap.size W V1:=bd.trans (d1.mono bd.size)
       go_wp2_with (fail)
       refine hK.out _ _ b1 (fun hHeld=>?_)
       clear hK K hHeld
       try simp only [zcp,Act.put,pA,pB,pC]
       refine tkY 14 zcq (v:=?_) rfl b1 ?_ ?_
       rotate_left
       ·intro w hSw
        simp only [zcq];go_simp
        try with_reducible rfl
       try simp only [zcq,Act.put,pA,pB,pC]
       refine tkY 15 zbK (v:=?_) rfl b1 ?_ ?_
       rotate_left
       ·intro w hSw
        simp only [zbK];go_simp
        try with_reducible rfl
       try simp only [zbK,Act.put,pA,pB,pC]
       refine tkY 16 zbL (v:=?_) rfl b1 ?_ ?_
       rotate_left
       ·intro w hSw
        simp only [zbL];go_simp
        try with_reducible rfl
       try simp only [zbL,Act.put,pA,pB,pC]
       refine tkN 17 zcS rfl b1 ?_
       try simp only [zcS,Act.put,pA,pB,pC]
       refine tkN 18 zcT rfl b1 ?_
       try simp only [zcT,Act.put,pA,pB,pC]
       refine tkN 19 zcU rfl b1 ?_
       try simp only [zcU,Act.put,pA,pB,pC]
       refine tkN 20 zdc rfl b1 ?_
       try simp only [zdc,Act.put,pA,pB,pC]
       refine tkN 21 zdd rfl b1 ?_
       try simp only [zdd,Act.put,pA,pB,pC]
       refine tkN 22 zde rfl b1 ?_
       try simp only [zde,Act.put,pA,pB,pC]
       refine tkN 23 zdf rfl b1 ?_
       try simp only [zdf,Act.put,pA,pB,pC]
       refine tkN 24 zdg rfl b1 ?_
       try simp only [zdg,Act.put,pA,pB,pC]
       refine tkN 25 zdh rfl b1 ?_
       try simp only [zdh,Act.put,pA,pB,pC]
       refine tkN 26 zdi rfl b1 ?_
       try simp only [zdi,Act.put,pA,pB,pC]
       refine tkN 27 zdj rfl b1 ?_
       try simp only [zdj,Act.put,pA,pB,pC]
       refine tkN 28 zcV rfl b1 ?_
       try simp only [zcV,Act.put,pA,pB,pC]
       refine tkY 29 zbM (v:=?_) rfl b1 ?_ ?_
       rotate_left
       ·intro w hSw
        simp only [zbM];go_simp
        try with_reducible rfl
       try simp only [zbM,Act.put,pA,pB,pC]
       refine wpAnyH_done (by kernel_rfl) ?_ _
       have HB3:=dq (HB.out.trans (b1.mono HB.out.size))
       clear ltb ltg bd ZR k0 k1
       go_wp2
       go_ret
       exact ⟨by rw [E.out];try rfl,HB3.out⟩
      | true=>
       by_cases h0:k=0
       ·subst h0
        have HE2:Hid (UpI l 1):=dq (fun i hi=>by
         obtain rfl:i=0:=by omega
         exact ⟨HV.out,fun h=>by omega⟩)
        clear hbad
        refine wp_region_held_drew (S:=fun w'=>Below W.heap.size W w') (by kernel_rfl) bd (fun hHeld=>?_)
        clear hHeld
        refine tkY 0 zbE (v:=?_) rfl bd ?_ ?_
        rotate_left
        ·intro w hSw
         simp only [zbE];go_simp
         try with_reducible rfl
        try simp only [zbE,Act.put,pA,pB,pC]
        refine tkY 1 zbF (v:=?_) rfl bd ?_ ?_
        rotate_left
        ·intro w hSw
         have f1:=(hSw.cell (p:=⟨gb,0,none⟩) ltb).trans k0
         have f2:=(hSw.cell (p:=⟨gb,1,none⟩) ltb).trans k1
         simp only [zbF];go_simp
         try with_reducible rfl
        try simp only [zbF,Act.put,pA,pB,pC]
        refine tkY 2 zbG (v:=?_) rfl bd ?_ ?_
        rotate_left
        ·intro w hSw
         simp only [zbG];go_simp
         try with_reducible rfl
        try simp only [zbG,Act.put,pA,pB,pC]
        refine tkY 3 zbH (v:=?_) rfl bd ?_ ?_
        rotate_left
        ·intro w hSw
         simp only [zbH];go_simp
         try with_reducible rfl
        try simp only [zbH,Act.put,pA,pB,pC]
        refine tkY 4 zb9 (v:=?_) rfl bd ?_ ?_
        rotate_left
        ·intro w hSw
         simp only [zb9];go_simp
         try with_reducible rfl
        try simp only [zb9,Act.put,pA,pB,pC]
        refine tkY 5 zca (v:=?_) rfl bd ?_ ?_
        rotate_left
        ·intro w hSw
         have f1:=(hSw.cell (p:=⟨gb,0,none⟩) ltb).trans k0
         have f2:=(hSw.cell (p:=⟨gb,1,none⟩) ltb).trans k1
         simp only [zca];go_simp
         try with_reducible rfl
        try simp only [zca,Act.put,pA,pB,pC]
        refine tkY 6 zcb (v:=?_) rfl bd ?_ ?_
        rotate_left
        ·intro w hSw
         simp only [zcb];go_simp
         try with_reducible rfl
        try simp only [zcb,Act.put,pA,pB,pC]
        refine tkY 7 zcc (v:=?_) rfl bd ?_ ?_
        rotate_left
        ·intro w hSw
         simp only [zcc];go_simp
         try with_reducible rfl
        try simp only [zcc,Act.put,pA,pB,pC]
        refine tkY 8 zcd (v:=?_) rfl bd ?_ ?_
        rotate_left
        ·intro w hSw
         simp only [zcd];go_simp
         try with_reducible rfl
        try simp only [zcd,Act.put,pA,pB,pC]
        refine tkY 9 zbI (v:=?_) rfl bd ?_ ?_
        rotate_left
        ·intro w hSw
         simp only [zbI];go_simp
         try with_reducible rfl
        try simp only [zbI,Act.put,pA,pB,pC]
        refine tkY 10 zbJ (v:=?_) rfl bd ?_ ?_
        rotate_left
        ·intro w hSw
         simp only [zbJ];go_simp
         try with_reducible rfl
        try simp only [zbJ,Act.put,pA,pB,pC]
        refine tkY 11 zcn (v:=?_) rfl bd ?_ ?_
        rotate_left
        ·intro w hSw
         simp only [zcn];go_simp
         try with_reducible rfl
        try simp only [zcn,Act.put,pA,pB,pC]
        refine tkY 12 zco (v:=?_) rfl bd ?_ ?_
        rotate_left
        ·intro w hSw
         have f1:=(hSw.cell (p:=⟨gb,0,none⟩) ltb).trans k0
         have f2:=(hSw.cell (p:=⟨gb,1,none⟩) ltb).trans k1
         simp only [zco];go_simp
         try with_reducible rfl
        try simp only [zco,Act.put,pA,pB,pC]
        refine wpAnyH_ready (rs:=[13]) (by kernel_rfl) (by simp) ?_
        refine AllReadyH.cons (o:=zcp) rfl (fun K hK=>?_) AllReadyH.nil
        simp only [zcp];go_simp
        refine (ZR.out _ bd).mono ?_
        rintro e V1 ⟨rfl,d1⟩
        have b1:Below W.heap.size W V1:=bd.trans (d1.mono bd.size)
        go_wp2_with (fail)
        refine hK.out _ _ b1 (fun hHeld=>?_)
        clear hK K hHeld
        try simp only [zcp,Act.put,pA,pB,pC]
        refine tkY 14 zcq (v:=?_) rfl b1 ?_ ?_
        rotate_left
        ·intro w hSw
         simp only [zcq];go_simp
         try with_reducible rfl
        try simp only [zcq,Act.put,pA,pB,pC]
        refine tkY 15 zbK (v:=?_) rfl b1 ?_ ?_
        rotate_left
        ·intro w hSw
         simp only [zbK];go_simp
         try with_reducible rfl
        try simp only [zbK,Act.put,pA,pB,pC]
        refine tkY 16 zbL (v:=?_) rfl b1 ?_ ?_
        rotate_left
        ·intro w hSw
         simp only [zbL];go_simp
         try with_reducible rfl
        try simp only [zbL,Act.put,pA,pB,pC]
        refine tkY 17 zcS (v:=?_) rfl b1 ?_ ?_
        rotate_left
        ·intro w hSw
         simp only [zcS];go_simp
         try with_reducible rfl
        try simp only [zcS,Act.put,pA,pB,pC]
        refine tkY 18 zcT (v:=?_) rfl b1 ?_ ?_
        rotate_left
        ·intro w hSw
         simp only [zcT];go_simp
         try with_reducible rfl
        try simp only [zcT,Act.put,pA,pB,pC]
        refine tkY 19 zcU (v:=?_) rfl b1 ?_ ?_
        rotate_left
        ·intro w hSw
         simp only [zcU];go_simp
         try with_reducible rfl
        try simp only [zcU,Act.put,pA,pB,pC]
        refine tkN 20 zdc rfl b1 ?_
        try simp only [zdc,Act.put,pA,pB,pC]
        refine tkN 21 zdd rfl b1 ?_
        try simp only [zdd,Act.put,pA,pB,pC]
        refine tkN 22 zde rfl b1 ?_
        try simp only [zde,Act.put,pA,pB,pC]
        refine tkN 23 zdf rfl b1 ?_
        try simp only [zdf,Act.put,pA,pB,pC]
        refine tkN 24 zdg rfl b1 ?_
        try simp only [zdg,Act.put,pA,pB,pC]
        refine tkN 25 zdh rfl b1 ?_
        try simp only [zdh,Act.put,pA,pB,pC]
        refine tkN 26 zdi rfl b1 ?_
        try simp only [zdi,Act.put,pA,pB,pC]
        refine tkN 27 zdj rfl b1 ?_
        try simp only [zdj,Act.put,pA,pB,pC]
        refine tkY 28 zcV (v:=?_) rfl b1 ?_ ?_
        rotate_left
        ·intro w hSw
         simp only [zcV];go_simp
         try with_reducible rfl
        try simp only [zcV,Act.put,pA,pB,pC]
        refine tkY 29 zbM (v:=?_) rfl b1 ?_ ?_
        rotate_left
        ·intro w hSw
         simp only [zbM];go_simp
         try with_reducible rfl
        try simp only [zbM,Act.put,pA,pB,pC]
        refine wpAnyH_done (by kernel_rfl) ?_ _
        have HB3:=dq (HB.out.trans (b1.mono HB.out.size))
        clear ltb ltg bd ZR k0 k1
        go_wp2
        go_roundw
        case rel=>exact ⟨1,by omega,rfl,by go_num,HB3,HJ2,HE2⟩
        case measure=>simp [intOf];omega
       ·obtain ⟨i,rfl⟩:∃ i,k=i+1:=⟨k-1,by omega⟩
        obtain ⟨g2,b2,d2,e2,c0',c1',B2⟩:=HRW2.out.at (k:=i) (by rw [HN.out];omega)
        injection e2 with e2;injection e2 with e2
        subst e2
        have hbl2:=B2.le
        generalize hu2:(itAt l i).c.length=u2 at c1' hbl2
        have ZL:Hid (∀ V,Below W.heap.size W V→Calls Tryz.prog 116 #[.agg #[.int .i64 (itAt l i).j,.slice b2 u2 d2],.agg #[.int .i64 j,.slice b u d]] V (TellsB (ltI (itAt l i) (itAt l (i+1))) V)):=dq (fun V h=>by
         have Z:=zeA b2 b d2 d u2 u (itAt l i) (itAt l (i+1)) V hu2 HU.out (B2.below h) (HX.out.below h)
         rwa [HJV.out] at Z)
        generalize (itAt l i).j=j2 at c0' ZL
        generalize hcv:ltI (itAt l i) (itAt l (i+1))=cv at ZL
        have HCV:=dq hcv
        clear B2 hu2 hcv h0
        have q1:(0:Int)<(i:Int)+1:=by omega
        have q2:IntKind.i64.wrap (i:Int)=(i:Int):=IntWalk.i64_in _ (by omega)
        have q3:(0:Int)≤(i:Int):=by omega
        have q4:(i:Int)<(n:Int):=by omega
        have q5:i<n:=by omega
        cases cv with
        | true=>
         have HE2:Hid (UpI l (i+1+1)):=dq (fun z hz=>by
          by_cases e:z=i+1
          ·subst e
           refine ⟨HV.out,fun _=>?_⟩
           rw [show i+1-1=i from rfl]
           exact (zdy (HE.out i (by omega)).1 HV.out).1 HCV.out
          ·exact HE.out z (by omega))
         clear hbad
         refine wp_region_held_drew (S:=fun w'=>Below W.heap.size W w') (by kernel_rfl) bd (fun hHeld=>?_)
         clear hHeld
         refine tkY 0 zbE (v:=?_) rfl bd ?_ ?_
         rotate_left
         ·intro w hSw
          simp only [zbE];go_simp
          try with_reducible rfl
         try simp only [zbE,Act.put,pA,pB,pC]
         refine tkY 1 zbF (v:=?_) rfl bd ?_ ?_
         rotate_left
         ·intro w hSw
          have f1:=(hSw.cell (p:=⟨gb,0,none⟩) ltb).trans k0
          have f2:=(hSw.cell (p:=⟨gb,1,none⟩) ltb).trans k1
          have f3:=(hSw.cell (p:=⟨g,i*2,none⟩) ltg).trans c0'
          have f4:=(hSw.cell (p:=⟨g,i*2+1,none⟩) ltg).trans c1'
          simp only [zbF];go_simp
          try with_reducible rfl
         try simp only [zbF,Act.put,pA,pB,pC]
         refine tkY 2 zbG (v:=?_) rfl bd ?_ ?_
         rotate_left
         ·intro w hSw
          simp only [zbG];go_simp
          try with_reducible rfl
         try simp only [zbG,Act.put,pA,pB,pC]
         refine tkY 3 zbH (v:=?_) rfl bd ?_ ?_
         rotate_left
         ·intro w hSw
          simp only [zbH];go_simp
          try with_reducible rfl
         try simp only [zbH,Act.put,pA,pB,pC]
         refine tkY 4 zb9 (v:=?_) rfl bd ?_ ?_
         rotate_left
         ·intro w hSw
          simp only [zb9];go_simp
          try with_reducible rfl
         try simp only [zb9,Act.put,pA,pB,pC]
         refine tkY 5 zca (v:=?_) rfl bd ?_ ?_
         rotate_left
         ·intro w hSw
          have f1:=(hSw.cell (p:=⟨gb,0,none⟩) ltb).trans k0
          have f2:=(hSw.cell (p:=⟨gb,1,none⟩) ltb).trans k1
          have f3:=(hSw.cell (p:=⟨g,i*2,none⟩) ltg).trans c0'
          have f4:=(hSw.cell (p:=⟨g,i*2+1,none⟩) ltg).trans c1'
          simp only [zca];go_simp
          try with_reducible rfl
         try simp only [zca,Act.put,pA,pB,pC]
         refine tkY 6 zcb (v:=?_) rfl bd ?_ ?_
         rotate_left
         ·intro w hSw
          simp only [zcb];go_simp
          try with_reducible rfl
         try simp only [zcb,Act.put,pA,pB,pC]
         refine tkY 7 zcc (v:=?_) rfl bd ?_ ?_
         rotate_left
         ·intro w hSw
          simp only [zcc];go_simp
          try with_reducible rfl
         try simp only [zcc,Act.put,pA,pB,pC]
         refine tkY 8 zcd (v:=?_) rfl bd ?_ ?_
         rotate_left
         ·intro w hSw
          simp only [zcd];go_simp
          try with_reducible rfl
         try simp only [zcd,Act.put,pA,pB,pC]
         refine tkY 9 zbI (v:=?_) rfl bd ?_ ?_
         rotate_left
         ·intro w hSw
          simp only [zbI];go_simp
          try with_reducible rfl
         try simp only [zbI,Act.put,pA,pB,pC]
         refine tkY 10 zbJ (v:=?_) rfl bd ?_ ?_
         rotate_left
         ·intro w hSw
          simp only [zbJ];go_simp
          try with_reducible rfl
         try simp only [zbJ,Act.put,pA,pB,pC]
         refine tkY 11 zcn (v:=?_) rfl bd ?_ ?_
         rotate_left
         ·intro w hSw
          simp only [zcn];go_simp
          try with_reducible rfl
         try simp only [zcn,Act.put,pA,pB,pC]
         refine tkY 12 zco (v:=?_) rfl bd ?_ ?_
         rotate_left
         ·intro w hSw
          have f1:=(hSw.cell (p:=⟨gb,0,none⟩) ltb).trans k0
          have f2:=(hSw.cell (p:=⟨gb,1,none⟩) ltb).trans k1
          have f3:=(hSw.cell (p:=⟨g,i*2,none⟩) ltg).trans c0'
          have f4:=(hSw.cell (p:=⟨g,i*2+1,none⟩) ltg).trans c1'
          simp only [zco];go_simp
          try with_reducible rfl
         try simp only [zco,Act.put,pA,pB,pC]
         refine wpAnyH_ready (rs:=[13]) (by kernel_rfl) (by simp) ?_
         refine AllReadyH.cons (o:=zcp) rfl (fun K hK=>?_) AllReadyH.nil
         simp only [zcp];go_simp
         refine (ZR.out _ bd).mono ?_
         rintro e V1 ⟨rfl,d1⟩
         have b1:Below W.heap.size W V1:=bd.trans (d1.mono bd.size)
         go_wp2_with (fail)
         refine hK.out _ _ b1 (fun hHeld=>?_)
         clear hK K hHeld
         try simp only [zcp,Act.put,pA,pB,pC]
         refine tkY 14 zcq (v:=?_) rfl b1 ?_ ?_
         rotate_left
         ·intro w hSw
          simp only [zcq];go_simp
          try with_reducible rfl
         try simp only [zcq,Act.put,pA,pB,pC]
         refine tkY 15 zbK (v:=?_) rfl b1 ?_ ?_
         rotate_left
         ·intro w hSw
          simp only [zbK];go_simp
          try with_reducible rfl
         try simp only [zbK,Act.put,pA,pB,pC]
         refine tkY 16 zbL (v:=?_) rfl b1 ?_ ?_
         rotate_left
         ·intro w hSw
          simp only [zbL];go_simp
          try with_reducible rfl
         try simp only [zbL,Act.put,pA,pB,pC]
         refine tkY 17 zcS (v:=?_) rfl b1 ?_ ?_
         rotate_left
         ·intro w hSw
          simp only [zcS];go_simp
          try with_reducible rfl
         try simp only [zcS,Act.put,pA,pB,pC]
         refine tkY 18 zcT (v:=?_) rfl b1 ?_ ?_
         rotate_left
         ·intro w hSw
          simp only [zcT];go_simp
          try with_reducible rfl
         try simp only [zcT,Act.put,pA,pB,pC]
         refine tkY 19 zcU (v:=?_) rfl b1 ?_ ?_
         rotate_left
         ·intro w hSw
          simp only [zcU];go_simp
          try with_reducible rfl
         try simp only [zcU,Act.put,pA,pB,pC]
         refine tkY 20 zdc (v:=?_) rfl b1 ?_ ?_
         rotate_left
         ·intro w hSw
          simp only [zdc];go_simp
          try with_reducible rfl
         try simp only [zdc,Act.put,pA,pB,pC]
         refine tkY 21 zdd (v:=?_) rfl b1 ?_ ?_
         rotate_left
         ·intro w hSw
          simp only [zdd];go_simp
          try with_reducible rfl
         try simp only [zdd,Act.put,pA,pB,pC]
         refine tkY 22 zde (v:=?_) rfl b1 ?_ ?_
         rotate_left
         ·intro w hSw
          simp only [zde];go_simp
          try with_reducible rfl
         try simp only [zde,Act.put,pA,pB,pC]
         refine tkY 23 zdf (v:=?_) rfl b1 ?_ ?_
         rotate_left
         ·intro w hSw
          simp only [zdf];go_simp
          try with_reducible rfl
         try simp only [zdf,Act.put,pA,pB,pC]
         refine tkY 24 zdg (v:=?_) rfl b1 ?_ ?_
         rotate_left
         ·intro w hSw
          have f1:=(hSw.cell (p:=⟨gb,0,none⟩) ltb).trans k0
          have f2:=(hSw.cell (p:=⟨gb,1,none⟩) ltb).trans k1
          have f3:=(hSw.cell (p:=⟨g,i*2,none⟩) ltg).trans c0'
          have f4:=(hSw.cell (p:=⟨g,i*2+1,none⟩) ltg).trans c1'
          simp only [zdg];go_simp
          try with_reducible rfl
         try simp only [zdg,Act.put,pA,pB,pC]
         refine tkY 25 zdh (v:=?_) rfl b1 ?_ ?_
         rotate_left
         ·intro w hSw
          have f1:=(hSw.cell (p:=⟨gb,0,none⟩) ltb).trans k0
          have f2:=(hSw.cell (p:=⟨gb,1,none⟩) ltb).trans k1
          have f3:=(hSw.cell (p:=⟨g,i*2,none⟩) ltg).trans c0'
          have f4:=(hSw.cell (p:=⟨g,i*2+1,none⟩) ltg).trans c1'
          simp only [zdh];go_simp
          try with_reducible rfl
         try simp only [zdh,Act.put,pA,pB,pC]
         refine wpAnyH_ready (rs:=[26]) (by kernel_rfl) (by simp) ?_
         refine AllReadyH.cons (o:=zdi) rfl (fun K hK=>?_) AllReadyH.nil
         simp only [zdi];go_simp
         refine (ZL.out _ b1).mono ?_
         rintro e V2 ⟨rfl,d2⟩
         have b2:Below W.heap.size W V2:=b1.trans (d2.mono b1.size)
         go_wp2_with (fail)
         refine hK.out _ _ b2 (fun hHeld=>?_)
         clear hK K hHeld
         try simp only [zdi,Act.put,pA,pB,pC]
         refine tkY 27 zdj (v:=?_) rfl b2 ?_ ?_
         rotate_left
         ·intro w hSw
          simp only [zdj];go_simp
          try with_reducible rfl
         try simp only [zdj,Act.put,pA,pB,pC]
         refine tkY 28 zcV (v:=?_) rfl b2 ?_ ?_
         rotate_left
         ·intro w hSw
          simp only [zcV];go_simp
          try with_reducible rfl
         try simp only [zcV,Act.put,pA,pB,pC]
         refine tkY 29 zbM (v:=?_) rfl b2 ?_ ?_
         rotate_left
         ·intro w hSw
          simp only [zbM];go_simp
          try with_reducible rfl
         try simp only [zbM,Act.put,pA,pB,pC]
         refine wpAnyH_done (by kernel_rfl) ?_ _
         have HB3:=dq (HB.out.trans (b2.mono HB.out.size))
         clear ltb ltg bd ZR ZL k0 k1 c0' c1'
         go_wp2
         go_roundw
         case rel=>exact ⟨i+1+1,by omega,rfl,by go_num,HB3,HJ2,HE2⟩
         case measure=>simp [intOf];omega
        | false=>
         have E:=hbad (fun h=>by
          have:=h.2.2.2 (by omega)
          rw [show i+1-1=i from rfl,HCV.out] at this
          exact Bool.false_ne_true this)
         clear hbad
         refine wp_region_held_drew (S:=fun w'=>Below W.heap.size W w') (by kernel_rfl) bd (fun hHeld=>?_)
         clear hHeld
         refine tkY 0 zbE (v:=?_) rfl bd ?_ ?_
         rotate_left
         ·intro w hSw
          simp only [zbE];go_simp
          try with_reducible rfl
         try simp only [zbE,Act.put,pA,pB,pC]
         refine tkY 1 zbF (v:=?_) rfl bd ?_ ?_
         rotate_left
         ·intro w hSw
          have f1:=(hSw.cell (p:=⟨gb,0,none⟩) ltb).trans k0
          have f2:=(hSw.cell (p:=⟨gb,1,none⟩) ltb).trans k1
          have f3:=(hSw.cell (p:=⟨g,i*2,none⟩) ltg).trans c0'
          have f4:=(hSw.cell (p:=⟨g,i*2+1,none⟩) ltg).trans c1'
          simp only [zbF];go_simp
          try with_reducible rfl
         try simp only [zbF,Act.put,pA,pB,pC]
         refine tkY 2 zbG (v:=?_) rfl bd ?_ ?_
         rotate_left
         ·intro w hSw
          simp only [zbG];go_simp
          try with_reducible rfl
         try simp only [zbG,Act.put,pA,pB,pC]
         refine tkY 3 zbH (v:=?_) rfl bd ?_ ?_
         rotate_left
         ·intro w hSw
          simp only [zbH];go_simp
          try with_reducible rfl
         try simp only [zbH,Act.put,pA,pB,pC]
         refine tkY 4 zb9 (v:=?_) rfl bd ?_ ?_
         rotate_left
         ·intro w hSw
          simp only [zb9];go_simp
          try with_reducible rfl
         try simp only [zb9,Act.put,pA,pB,pC]
         refine tkY 5 zca (v:=?_) rfl bd ?_ ?_
         rotate_left
         ·intro w hSw
          have f1:=(hSw.cell (p:=⟨gb,0,none⟩) ltb).trans k0
          have f2:=(hSw.cell (p:=⟨gb,1,none⟩) ltb).trans k1
          have f3:=(hSw.cell (p:=⟨g,i*2,none⟩) ltg).trans c0'
          have f4:=(hSw.cell (p:=⟨g,i*2+1,none⟩) ltg).trans c1'
          simp only [zca];go_simp
          try with_reducible rfl
         try simp only [zca,Act.put,pA,pB,pC]
         refine tkY 6 zcb (v:=?_) rfl bd ?_ ?_
         rotate_left
         ·intro w hSw
          simp only [zcb];go_simp
          try with_reducible rfl
         try simp only [zcb,Act.put,pA,pB,pC]
         refine tkY 7 zcc (v:=?_) rfl bd ?_ ?_
         rotate_left
         ·intro w hSw
          simp only [zcc];go_simp
          try with_reducible rfl
         try simp only [zcc,Act.put,pA,pB,pC]
         refine tkY 8 zcd (v:=?_) rfl bd ?_ ?_
         rotate_left
         ·intro w hSw
          simp only [zcd];go_simp
          try with_reducible rfl
         try simp only [zcd,Act.put,pA,pB,pC]
         refine tkY 9 zbI (v:=?_) rfl bd ?_ ?_
         rotate_left
         ·intro w hSw
          simp only [zbI];go_simp
          try with_reducible rfl
         try simp only [zbI,Act.put,pA,pB,pC]
         refine tkY 10 zbJ (v:=?_) rfl bd ?_ ?_
         rotate_left
         ·intro w hSw
          simp only [zbJ];go_simp
          try with_reducible rfl
         try simp only [zbJ,Act.put,pA,pB,pC]
         refine tkY 11 zcn (v:=?_) rfl bd ?_ ?_
         rotate_left
         ·intro w hSw
          simp only [zcn];go_simp
          try with_reducible rfl
         try simp only [zcn,Act.put,pA,pB,pC]
         refine tkY 12 zco (v:=?_) rfl bd ?_ ?_
         rotate_left
         ·intro w hSw
          have f1:=(hSw.cell (p:=⟨gb,0,none⟩) ltb).trans k0
          have f2:=(hSw.cell (p:=⟨gb,1,none⟩) ltb).trans k1
          have f3:=(hSw.cell (p:=⟨g,i*2,none⟩) ltg).trans c0'
          have f4:=(hSw.cell (p:=⟨g,i*2+1,none⟩) ltg).trans c1'
          simp only [zco];go_simp
          try with_reducible rfl
         try simp only [zco,Act.put,pA,pB,pC]
         refine wpAnyH_ready (rs:=[13]) (by kernel_rfl) (by simp) ?_
         refine AllReadyH.cons (o:=zcp) rfl (fun K hK=>?_) AllReadyH.nil
         simp only [zcp];go_simp
         refine (ZR.out _ bd).mono ?_
         rintro e V1 ⟨rfl,d1⟩
         have b1:Below W.heap.size W V1:=bd.trans (d1.mono bd.size)
         go_wp2_with (fail)
         refine hK.out _ _ b1 (fun hHeld=>?_)
         clear hK K hHeld
         try simp only [zcp,Act.put,pA,pB,pC]
         refine tkY 14 zcq (v:=?_) rfl b1 ?_ ?_
         rotate_left
         ·intro w hSw
          simp only [zcq];go_simp
          try with_reducible rfl
         try simp only [zcq,Act.put,pA,pB,pC]
         refine tkY 15 zbK (v:=?_) rfl b1 ?_ ?_
         rotate_left
         ·intro w hSw
          simp only [zbK];go_simp
          try with_reducible rfl
         try simp only [zbK,Act.put,pA,pB,pC]
         refine tkY 16 zbL (v:=?_) rfl b1 ?_ ?_
         rotate_left
         ·intro w hSw
          simp only [zbL];go_simp
          try with_reducible rfl
         try simp only [zbL,Act.put,pA,pB,pC]
         refine tkY 17 zcS (v:=?_) rfl b1 ?_ ?_
         rotate_left
         ·intro w hSw
          simp only [zcS];go_simp
          try with_reducible rfl
         try simp only [zcS,Act.put,pA,pB,pC]
         refine tkY 18 zcT (v:=?_) rfl b1 ?_ ?_
         rotate_left
         ·intro w hSw
          simp only [zcT];go_simp
          try with_reducible rfl
         try simp only [zcT,Act.put,pA,pB,pC]
         refine tkY 19 zcU (v:=?_) rfl b1 ?_ ?_
         rotate_left
         ·intro w hSw
          simp only [zcU];go_simp
          try with_reducible rfl
         try simp only [zcU,Act.put,pA,pB,pC]
         refine tkY 20 zdc (v:=?_) rfl b1 ?_ ?_
         rotate_left
         ·intro w hSw
          simp only [zdc];go_simp
          try with_reducible rfl
         try simp only [zdc,Act.put,pA,pB,pC]
         refine tkY 21 zdd (v:=?_) rfl b1 ?_ ?_
         rotate_left
         ·intro w hSw
          simp only [zdd];go_simp
          try with_reducible rfl
         try simp only [zdd,Act.put,pA,pB,pC]
         refine tkY 22 zde (v:=?_) rfl b1 ?_ ?_
         rotate_left
         ·intro w hSw
          simp only [zde];go_simp
          try with_reducible rfl
         try simp only [zde,Act.put,pA,pB,pC]
         refine tkY 23 zdf (v:=?_) rfl b1 ?_ ?_
         rotate_left
         ·intro w hSw
          simp only [zdf];go_simp
          try with_reducible rfl
         try simp only [zdf,Act.put,pA,pB,pC]
         refine tkY 24 zdg (v:=?_) rfl b1 ?_ ?_
         rotate_left
         ·intro w hSw
          have f1:=(hSw.cell (p:=⟨gb,0,none⟩) ltb).trans k0
          have f2:=(hSw.cell (p:=⟨gb,1,none⟩) ltb).trans k1
          have f3:=(hSw.cell (p:=⟨g,i*2,none⟩) ltg).trans c0'
          have f4:=(hSw.cell (p:=⟨g,i*2+1,none⟩) ltg).trans c1'
          simp only [zdg];go_simp
          try with_reducible rfl
         try simp only [zdg,Act.put,pA,pB,pC]
         refine tkY 25 zdh (v:=?_) rfl b1 ?_ ?_
         rotate_left
         ·intro w hSw
          have f1:=(hSw.cell (p:=⟨gb,0,none⟩) ltb).trans k0
          have f2:=(hSw.cell (p:=⟨gb,1,none⟩) ltb).trans k1
          have f3:=(hSw.cell (p:=⟨g,i*2,none⟩) ltg).trans c0'
          have f4:=(hSw.cell (p:=⟨g,i*2+1,none⟩) ltg).trans c1'
          simp only [zdh];go_simp
          try with_reducible rfl
         try simp only [zdh,Act.put,pA,pB,pC]
         refine wpAnyH_ready (rs:=[26]) (by kernel_rfl) (by simp) ?_
         refine AllReadyH.cons (o:=zdi) rfl (fun K hK=>?_) AllReadyH.nil
         simp only [zdi];go_simp
         refine (ZL.out _ b1).mono ?_
         rintro e V2 ⟨rfl,d2⟩
         have b2:Below W.heap.size W V2:=b1.trans (d2.mono b1.size)
         go_wp2_with (fail)
         refine hK.out _ _ b2 (fun hHeld=>?_)
         clear hK K hHeld
         try simp only [zdi,Act.put,pA,pB,pC]
         refine tkY 27 zdj (v:=?_) rfl b2 ?_ ?_
         rotate_left
         ·intro w hSw
          simp only [zdj];go_simp
          try with_reducible rfl
         try simp only [zdj,Act.put,pA,pB,pC]
         refine tkY 28 zcV (v:=?_) rfl b2 ?_ ?_
         rotate_left
         ·intro w hSw
          simp only [zcV];go_simp
          try with_reducible rfl
         try simp only [zcV,Act.put,pA,pB,pC]
         refine tkY 29 zbM (v:=?_) rfl b2 ?_ ?_
         rotate_left
         ·intro w hSw
          simp only [zbM];go_simp
          try with_reducible rfl
         try simp only [zbM,Act.put,pA,pB,pC]
         refine wpAnyH_done (by kernel_rfl) ?_ _
         have HB3:=dq (HB.out.trans (b2.mono HB.out.size))
         clear ltb ltg bd ZR ZL k0 k1 c0' c1'
         go_wp2
         go_ret
         exact ⟨by rw [E.out];try rfl,HB3.out⟩
   ·have E:Hid (zaq s l=true):=dq (HIF.out.2 ⟨by first | trivial | rfl,fun i hi=>HJ.out i (by omega),fun i hi=>HE.out i (by omega)⟩)
    go_wp2
    go_ret
    exact ⟨by rw [E.out];try rfl,HB.out⟩
end Go.Proofs.YtmnkjekjknhhjaaGreatDoor
namespace Go.Proofs.YtmnkjekjknhhjaaGreatDoor
open Go.ChangeShapes Go.WideShapes Go.ChangeAt Go.RowKit
def zqc (xs:List Int) (n:Nat) (w:World) (e:Ending) (w':World):Prop:=∃ a c,e=.returned (.tuple #[.int .u64 (zao xs),.slice a n c])∧Bag w' a c (halfL xs)∧From w.heap.size a∧Below w.heap.size w w'
set_option maxRecDepth 100000 in
set_option maxHeartbeats 2000000 in
theorem zjo (a:Option Addr) (c:Nat) (xs:List Int) (w:World) (R:Bag w a c xs) (hx:zaa xs=true) :
  Calls Tryz.prog 83 #[.slice a xs.length c] w (zqc xs (halfL xs).length w):=by
 have hl12:=(zac.1 hx).1
 have hle:=R.le
 have HLT:Hid (∀ g,a=some ⟨g,0,none⟩→g<w.heap.size):=dq (fun g e=>R.lt e)
 have HHT:=dq (zku (xs:=xs) rfl)
 have HNL:Hid (halfL xs=normL (zdI xs)):=dq rfl
 generalize hn:xs.length=n at hle hl12 HHT ⊢
 have HN:=dq hn
 have HR:=dq R
 have HRT:=dq hx
 have HTL:Hid ((zdI xs).length=n):=dq ((zgd xs).trans hn)
 clear R hn hx
 go_enter Tryz.func83,Tryz.ntmps83
 go_wp2_with (at_make;refine zar _ rfl _ _ rfl _ _ n rfl rfl (by omega) (by omega) (by omega) ?_)
 intro w1 r1 b1
 have HR1:=dq (HR.out.below b1)
 have HO:Hid (Bag w1 (some ⟨w.heap.size,0,none⟩) n (tab n (fun j=>if j<0 then xs.getD j 0/2 else 0))):=dq (by simpa using r1)
 have HB:=dq b1
 clear r1 b1 HR
 generalize hgw:w.heap.size=gw at HO HLT ⊢
 have HGW:=dq hgw
 clear hgw
 go_wp2
 go_loopw [4,13] (fun x i wr=>∃ k:Nat,k≤n∧i=.int .i64 k∧x=.int .u64 (packN (xs.take k))∧Hid (Bag wr (some ⟨gw,0,none⟩) n (tab n (fun j=>if j<k then xs.getD j 0/2 else 0)))∧Hid (Bag wr a c xs)∧Hid (Below w.heap.size w wr)) (fun _ i _=>n-(intOf i).toNat)
 case atStart=>exact ⟨0,Nat.zero_le _,rfl,rfl,HO,HR1,HB⟩
 case round=>
  clear HO HR1 HB
  obtain ⟨k,hk,rfl,rfl,HO,HR1,HB⟩:=hrel
  by_cases hlt:k<n
  ·have hk':k<xs.length:=by rw [HN.out];exact hlt
   obtain ⟨g,e1,hc⟩:=HR1.out.at hk'
   have hga:=HLT.out g e1
   subst e1
   have hb:=zae HRT.out k
   have hpt:=zim hk'
   have hpb:=zbw (xs.take k)
   have el:(xs.take k).length=k:=by rw [List.length_take];omega
   rw [el] at hpb
   have hor:=zmH (k:=k) (by omega) hpb.1 hpb.2 hb.1 hb.2
   rw [←hpt] at hor
   obtain ⟨g0,e0,hc0⟩:=HO.out.at (k:=k) (by rw [zaw];exact hlt)
   injection e0 with e0;injection e0 with e0
   subst e0
   have hfz:=HO.out.frozen k
   have O2:=HO.out.set (j:=k) (by rw [zaw];exact hlt) (xs.getD k 0/2)
   have e2:(tab n (fun j=>if j<k then xs.getD j 0/2 else 0)).set k (xs.getD k 0/2)=tab n (fun j=>if j<k+1 then xs.getD j 0/2 else 0):=by
    rw [zfD]
    refine zbk (fun j hj=>?_)
    by_cases hjk:j=k
    ·subst hjk;simp
    ·by_cases hj2:j<k
     ·rw [if_neg hjk,if_pos hj2,if_pos (by omega)]
     ·rw [if_neg hjk,if_neg hj2,if_neg (by omega)]
   rw [e2] at O2
   have kx:Kept (fun i=>i=gw) wr (wr.setCell ⟨gw,k,none⟩ (.int .i64 (xs.getD k 0/2))):=(Kept.refl (fun i=>i=gw) wr).setCell (p:=⟨gw,k,none⟩) (fun _=>rfl) _
   have HO2:=dq O2
   have HR2:=dq (HR1.out.kept kx (fun g' e e2=>by injection e with e;injection e with e;omega))
   have HB2:Hid (Below w.heap.size w (wr.setCell ⟨gw,k,none⟩ (.int .i64 (xs.getD k 0/2)))):=dq (HB.out.setCell (p:=⟨gw,k,none⟩) (by have:=HGW.out;show w.heap.size≤gw;omega) _)
   generalize xs.getD k 0=v at hc hb hor HO2 HR2 HB2
   generalize packN (xs.take k)=pk at hor
   clear hpt hpb hk' O2 kx e2 HO HR1 HB el
   have i1:(0:Int)≤(k:Int):=by omega
   have i2:(k:Int)<(n:Int):=by omega
   have hq:v.tdiv 2=v/2:=Int.tdiv_eq_ediv_of_nonneg hb.1
   go_wp2
   go_roundw
   case rel=>exact ⟨k+1,by omega,by go_num,by first | rw [hor] | rfl,HO2,HR2,HB2⟩
   case measure=>simp [intOf];omega
  ·obtain rfl:k=n:=by omega
   have htk:xs.take k=xs:=by rw [←HN.out];exact List.take_length
   rw [htk]
   have O2:=HO.out
   rw [HHT.out] at O2
   have Z:=zkZ (some ⟨gw,0,none⟩) k (zdI xs) wr O2 (by rw [HTL.out];omega)
   rw [HTL.out,←HNL.out] at Z
   have HZ:=dq Z
   clear Z O2 HO
   go_wp2_with (fail)
   refine HZ.out.mono ?_
   rintro e w3 ⟨a3,c3,rfl,B3,f3,b3⟩
   have hs:=HB.out.size
   have HF:Hid (zqc xs (halfL xs).length w (.returned (.tuple #[.int .u64 (packN xs),.slice a3 (halfL xs).length c3])) w3):=dq ⟨a3,c3,rfl,B3,fun g e=>Nat.le_trans hs (f3 g e),HB.out.trans (b3.mono hs)⟩
   generalize hq:(halfL xs).length=hl
   have HQL:=dq hq
   clear hq
   clear B3 f3 b3 HZ
   go_wp2
   exact bodyPost_ret (v:=.tuple #[.int .u64 (packN xs),.slice a3 hl c3]) (by simp [results,Tryz.results83,go_sem]) rfl (by have h:=HF.out;rw [HQL.out] at h ⊢;exact h)
theorem zqd (m k:Nat) (hm:m<4294967296):bits BinOp.and IntKind.i64 ((m:Int)/2 ^ k) 1=((m/2 ^ k % 2:Nat):Int):=by
 have e:(m:Int)/2 ^ k=((m/2 ^ k:Nat):Int):=by simp
 have h:=Nat.div_le_self m (2 ^ k)
 rw [e,Go.Proofs.and_one _ (by omega)]
def zmI (o:Option (List Int)) (w:World) (e:Ending) (w':World):Prop:=
 match o with
 | none=>e=.returned (.tuple #[.slice none 0 0,.bool false])∧Below w.heap.size w w'
 | some x=>∃ a c,e=.returned (.tuple #[.slice a x.length c,.bool true])∧Bag w' a c x∧zaa x=true∧From w.heap.size a∧Below w.heap.size w w'
theorem zmJ {ps:List (List Int)} {k:Nat} (hk:k<ps.length) (c:List Int) (m:Nat):chosenL c (ps.drop k) m=if m % 2=1 then (if zaz c (ps.getD k [])=true then chosenL (addT c (ps.getD k [])) (ps.drop (k+1)) (m/2) else none) else chosenL c (ps.drop (k+1)) (m/2):=by
 have e:ps.getD k []=ps[k]:=by simp [List.getD,hk]
 rw [List.drop_eq_getElem_cons hk,e]
 rfl
set_option maxRecDepth 100000 in
set_option maxHeartbeats 4000000 in
theorem zjp (a pa:Option Addr) (c pc:Nat) (cs:List Int) (ps:List (List Int)) (m:Nat) (w:World) (R:Bag w a c cs) (P:Bags w pa pc ps) (hr:zaa cs=true) (hn20:ps.length≤20) (hm:m<4294967296) :
  Calls Tryz.prog 82 #[.slice a cs.length c,.slice pa ps.length pc,.int .i64 (m:Int)] w (zmI (chosenL cs ps m) w):=by
 have hle:=R.le
 have hlp:=P.le
 have hl12:=(zac.1 hr).1
 obtain ⟨v,w1,hrun,a1,c1,e1,r1,f1,b1⟩:=zcw 31 31 Tryz.underlying31 a c cs w R (by omega)
 injection e1 with e1
 subst e1
 have HP:=dq (P.below b1)
 generalize hn:ps.length=n at hlp hn20 ⊢
 have HN:=dq hn
 have H0:Hid (Bag w1 a1 c1 cs):=dq r1
 have HF0:Hid (From w.heap.size a1):=dq f1
 have HB0:=dq b1
 have HRI:=dq hr
 have hl0:=r1.le
 have HC0:Hid (chosenL cs ps m=chosenL cs (ps.drop 0) (m/2 ^ 0)):=dq (by simp)
 have HL0:Hid (cs.length≤12):=dq hl12
 generalize chosenL cs ps m=q at HC0 ⊢
 clear R P hn r1 f1 b1 hr hl12
 generalize hcl:cs.length=cl at hrun hl0 hle ⊢
 have HCL:=dq hcl
 clear hcl
 go_enter Tryz.func82,Tryz.ntmps82
 go_wp2_with (at_builtin;refine Lib.wpList_append_run _ rfl _ _ _ _ rfl _ _ rfl rfl _ _ hrun ?_)
 go_loopw [8,17] (fun o i wr=>∃ (k:Nat) (oa:Option Addr) (oc:Nat) (out:List Int) (ol:Nat),k≤n∧i=.int .i64 k∧o=.slice oa ol oc∧Hid (out.length=ol)∧Hid (Bag wr oa oc out)∧Hid (zaa out=true)∧Hid (q=chosenL out (ps.drop k) (m/2 ^ k))∧Hid (From w.heap.size oa)∧Hid (Bags wr pa pc ps)∧Hid (Below w.heap.size w wr)) (fun _ i _=>n-(intOf i).toNat)
 case atStart=>exact ⟨0,a1,c1,cs,_,Nat.zero_le _,rfl,rfl,HCL,H0,HRI,HC0,HF0,HP,HB0⟩
 case round=>
  clear HCL H0 HRI HC0 HF0 HP HB0 hl0 HL0
  obtain ⟨k,oa,oc,out,ol,hk,rfl,rfl,HOL,HO,HRO,HC,HF,HP,HB⟩:=hrel
  have hol:=HO.out.le
  rw [HOL.out] at hol
  by_cases hlt:k<n
  ·have hk':k<ps.length:=by rw [HN.out];exact hlt
   obtain ⟨g,b,d,rfl,c0,B1⟩:=HP.out.at hk'
   have hst:=zmJ hk' out (m/2 ^ k)
   rw [←HC.out,Nat.div_div_eq_div_mul,←Nat.pow_succ] at hst
   have hbl:=B1.le
   have Z:=zrq oa b oc d out (ps.getD k []) wr HO.out B1
   have HS:Hid (zaz out (ps.getD k [])=true→zbp out (ps.getD k [])=addT out (ps.getD k [])∧zaa (addT out (ps.getD k []))=true):=dq (fun h=>⟨by unfold zbp;rw [if_pos h],zeT h⟩)
   generalize hu:(ps.getD k []).length=u at c0 hbl Z
   rw [HOL.out] at Z
   generalize ps.getD k []=p at Z hst HS
   generalize hok:zaz out p=ok at Z hst HS
   generalize addT out p=T at hst HS
   generalize hS:zbp out p=S at Z HS
   have HZ:=dq Z
   have HST:=dq hst
   clear Z hst hok hu B1 hk' hS
   have i1:(0:Int)≤(k:Int):=by omega
   have i2:(k:Int)<(n:Int):=by omega
   have hkk:k≤20:=by omega
   have hand:=zqd m k (by omega)
   by_cases hbit:m/2 ^ k % 2=1
   ·rw [hbit] at hand
    have hst:=HST.out
    rw [if_pos hbit] at hst
    clear HST
    have hand2:bits BinOp.and IntKind.i64 ((m:Int)/2 ^ k) 1=1:=hand
    go_wp2_with (fail)
    refine HZ.out.mono ?_
    rintro e w3 ⟨a3,c3,rfl,B3,f3,b3⟩
    have hs:=HB.out.size
    cases ok with
    | false=>
     have E:Hid (q=none):=dq (by rw [hst];simp)
     have HB3:=dq (HB.out.trans (b3.mono hs))
     clear B3 f3 b3 HZ c0 hst
     generalize S.length=sl
     go_wp2
     exact bodyPost_ret (v:=.tuple #[.slice none 0 0,.bool false]) (by simp [results,Tryz.results82,go_sem]) rfl (by unfold zmI;rw [E.out];exact ⟨rfl,HB3.out⟩)
    | true=>
     obtain ⟨hS,hT⟩:=HS.out rfl
     subst hS
     rw [if_pos rfl] at hst
     have HC2:=dq hst
     have HB3:=dq (HB.out.trans (b3.mono hs))
     have HP3:=dq (HP.out.below b3)
     have HO3:=dq B3
     have HT3:=dq hT
     have HF3:Hid (From w.heap.size a3):=dq (fun g e=>Nat.le_trans hs (f3 g e))
     generalize hsl:S.length=sl
     have HSL:=dq hsl
     clear B3 f3 b3 HZ c0 hst hsl hT
     go_wp2
     go_roundw
     case rel=>exact ⟨k+1,a3,c3,S,sl,by omega,by go_num,rfl,HSL,HO3,HT3,HC2,HF3,HP3,HB3⟩
     case measure=>simp [intOf];omega
   ·have hb0:m/2 ^ k % 2=0:=by omega
    rw [hb0] at hand
    have hand2:bits BinOp.and IntKind.i64 ((m:Int)/2 ^ k) 1=0:=hand
    have hst:=HST.out
    rw [if_neg hbit] at hst
    have HC2:=dq hst
    clear HST hst HZ
    go_wp2
    go_roundw
    case rel=>exact ⟨k+1,oa,oc,out,ol,by omega,by go_num,rfl,HOL,HO,HRO,HC2,HF,HP,HB⟩
    case measure=>simp [intOf];omega
  ·obtain rfl:k=n:=by omega
   have hq:q=some out:=by
    have h:=HC.out
    rw [←HN.out,List.drop_length] at h
    exact h
   go_wp2
   exact bodyPost_ret (v:=.tuple #[.slice oa ol oc,.bool true]) (by simp [results,Tryz.results82,go_sem]) rfl (by unfold zmI;rw [hq];exact ⟨oa,oc,by rw [HOL.out],HO.out,HRO.out,HF.out,HB.out⟩)
end Go.Proofs.YtmnkjekjknhhjaaGreatDoor
namespace Go.Proofs.YtmnkjekjknhhjaaGreatDoor
open Go.ChangeShapes Go.WideShapes Go.ChangeAt Go.RowKit
def zoC:Oper:=⟨some 17,.move (.tmp 0),77,"ref.go:530",#[],none⟩
def zoD:Oper:=⟨some 18,.move (.tmp 7),3,"ref.go:530",#[],none⟩
def zoE:Oper:=⟨some 19,.indexAddr 77 (.tmp 17) (.tmp 18),0,"ref.go:530",#[⟨0,.data⟩,⟨1,.data⟩],none⟩
def zoF:Oper:=⟨some 20,.load 111 (.tmp 19),111,"ref.go:530",#[⟨2,.data⟩],none⟩
def zoG:Oper:=⟨some 21,.load 111 (.tmp 3),111,"ref.go:530",#[],none⟩
def zoH:Oper:=⟨some 22,.call {callee:=.value (.func 116),args:=#[.tmp 20,.tmp 21],argTypes:=#[111,111]},4,"ref.go:530",#[⟨3,.data⟩,⟨4,.data⟩],none⟩
def zkw:Oper:=⟨some 26,.move (.tmp 5),3,"ref.go:536",#[],none⟩
def zkx:Oper:=⟨some 27,.move (.tmp 0),77,"ref.go:536",#[],none⟩
def zky:Oper:=⟨some 28,.call {callee:=.builtin .len,args:=#[.tmp 27],argTypes:=#[77]},3,"ref.go:536",#[⟨1,.data⟩],none⟩
def zkz:Oper:=⟨some 29,.binOp .lss 3 (.tmp 26) (.tmp 28) 3,4,"ref.go:536",#[⟨0,.data⟩,⟨2,.data⟩],none⟩
def zgh:Oper:=⟨some 30,.move (.tmp 29),4,"ref.go:536",#[⟨3,.data⟩],none⟩
def zhb:Oper:=⟨some 31,.load 111 (.tmp 3),111,"ref.go:536",#[⟨4,.guard⟩],some (4,true)⟩
def zhc:Oper:=⟨some 32,.move (.tmp 0),77,"ref.go:536",#[⟨4,.guard⟩],some (4,true)⟩
def zhd:Oper:=⟨some 33,.move (.tmp 5),3,"ref.go:536",#[⟨4,.guard⟩],some (4,true)⟩
def zhe:Oper:=⟨some 34,.indexAddr 77 (.tmp 32) (.tmp 33),0,"ref.go:536",#[⟨6,.data⟩,⟨7,.data⟩,⟨4,.guard⟩],some (4,true)⟩
def zhf:Oper:=⟨some 35,.load 111 (.tmp 34),111,"ref.go:536",#[⟨8,.data⟩,⟨4,.guard⟩],some (4,true)⟩
def zhg:Oper:=⟨some 36,.call {callee:=.value (.func 116),args:=#[.tmp 31,.tmp 35],argTypes:=#[111,111]},4,"ref.go:536",#[⟨5,.data⟩,⟨9,.data⟩,⟨4,.chain⟩,⟨4,.guard⟩],some (4,true)⟩
def zhh:Oper:=⟨some 37,.unOp .not 4 (.tmp 36),4,"ref.go:536",#[⟨10,.data⟩,⟨4,.guard⟩],some (4,true)⟩
def zgi:Oper:=⟨some 38,.pick (.tmp 30) (.tmp 37) (.const (.bool false)),4,"ref.go:536",#[⟨4,.data⟩,⟨11,.data⟩],none⟩
def zgj:Oper:=⟨some 44,.move (.tmp 0),77,"ref.go:540",#[],none⟩
def zgk:Oper:=⟨some 45,.move (.tmp 5),3,"ref.go:540",#[],none⟩
def zgl:Oper:=⟨some 46,.binOp .add 3 (.tmp 45) (.const (.int .i64 1)) 3,3,"ref.go:540",#[⟨1,.data⟩],none⟩
def zgm:Oper:=⟨some 47,.slice 77 (.tmp 44) (some (.tmp 46)) none none,77,"ref.go:540",#[⟨0,.data⟩,⟨2,.data⟩],none⟩
def zgn:Oper:=⟨some 48,.move (.tmp 0),77,"ref.go:540",#[],none⟩
def zgo:Oper:=⟨some 49,.move (.tmp 5),3,"ref.go:540",#[],none⟩
def zgp:Oper:=⟨some 50,.slice 77 (.tmp 48) (some (.tmp 49)) none none,77,"ref.go:540",#[⟨4,.data⟩,⟨5,.data⟩],none⟩
def zjq:Oper:=⟨some 51,.call {callee:=.builtin .copy,args:=#[.tmp 47,.tmp 50],argTypes:=#[77,77]},3,"ref.go:540",#[⟨3,.data⟩,⟨6,.data⟩],none⟩
theorem zs9 {s:List It} (h:zcy s) {j k:Nat} (hjk:j<k) (hk:k<s.length):cmpI (itAt s j) (itAt s k)<0:=by
 rw [za3 hk,za3 (by omega:j<s.length)]
 exact List.pairwise_iff_getElem.1 h.2 j k (by omega) hk hjk
theorem zkA {s:List It} (h:zcy s) {k:Nat} (hk:k<s.length):zah (itAt s k)=true:=by
 rw [za3 hk]
 exact h.1 _ (List.getElem_mem hk)
theorem zta {s:List It} (h:zcy s) {x:It} (hx:zah x=true) {j k:Nat} (hjk:j≤k) (hk:k<s.length) (hl:ltI (itAt s k) x=true):ltI (itAt s j) x=true:=by
 by_cases e:j=k
 ·rw [e];exact hl
 ·have h1:=(zdy (zkA h hk) hx).1 hl
  have hj:j<s.length:=by omega
  exact (zdy (zkA h hj) hx).2 (zbg (zkA h hj) (zkA h hk) hx (zs9 h (by omega) hk) h1)
theorem zlC {x:It} (hx:zah x=true):∀ {s:List It} {k:Nat},zcj s→k≤s.length→(∀ j,j<k→ltI (itAt s j) x=true)→(k<s.length→ltI (itAt s k) x=false)→
  zfz x s=if k<s.length∧ltI x (itAt s k)=false then s else s.take k++x::s.drop k
 | [],k,_,hk,_,_=>by
  obtain rfl:k=0:=by simpa using hk
  simp [zfz]
 | y::r,0,g,_,_,hn=>by
  have h:=hn (by simp)
  have e0:itAt (y::r) 0=y:=rfl
  rw [e0] at h
  have hy:zah y=true:=g y (by simp)
  have h1:¬cmpI y x<0:=fun h2=>by rw [(zdy hy hx).2 h2] at h;cases h
  unfold zfz
  rw [if_neg h1,e0]
  by_cases h3:cmpI y x=0
  ·have e:y=x:=(zcN hy hx).1 h3
   subst e
   rw [if_pos h3,if_pos ⟨by simp,h⟩]
  ·rw [if_neg h3]
   have h4:ltI x y=true:=(zdy hx hy).2 (by have:=zdb hy hx;omega)
   rw [if_neg (by rw [h4];simp)]
   rfl
 | y::r,k+1,g,hk,hl,hn=>by
  have e1:∀ j,itAt (y::r) (j+1)=itAt r j:=fun j=>by simp [itAt,List.getD]
  have h0:=hl 0 (by omega)
  have e0:itAt (y::r) 0=y:=rfl
  rw [e0] at h0
  have hy:zah y=true:=g y (by simp)
  have ih:=zlC hx (s:=r) (k:=k) (fun z hz=>g z (List.mem_cons_of_mem _ hz)) (by simpa using hk) (fun j hj=>by have:=hl (j+1) (by omega);rwa [e1] at this) (fun h=>by have:=hn (by simpa using h);rwa [e1] at this)
  unfold zfz
  rw [if_pos ((zdy hy hx).1 h0),ih,e1]
  by_cases hc:k<r.length∧ltI x (itAt r k)=false
  ·rw [if_pos hc,if_pos ⟨by simpa using hc.1,hc.2⟩]
  ·rw [if_neg hc,if_neg (fun h=>hc ⟨by simpa using h.1,h.2⟩)]
   rfl
def zuw (a:Option Addr) (s:List It) (w:World) (e:Ending) (w':World):Prop:=
 ∃ a' c',e=.returned (.slice a' s.length c')∧Its w' a' c' s∧Kept (fun g=>a=some ⟨g,0,none⟩) w w'∧∀ g,a'=some ⟨g,0,none⟩→a=some ⟨g,0,none⟩∨w.heap.size≤g
theorem zkB {P:Program} (w:World) (dT sT ty elem:TypeId) (g o dLen dCap:Nat) (a:Addr) (sLen sCap:Nat) (cur:Array Value) (t:TypeId) (cs:List Value)
  (hu:P.underlying dT=some (.slice elem)) (hs:(P.info? elem).map (·.size)=some 2)
  (hg:w.heap[g]? = some (.cells cur t (0,0))) (hn:cs.length=Nat.min sLen dLen*2)
  (hsrc:∀ j v,cs[j]? = some v→w.cell? (a.add j)=some v) (hfit:o+cs.length≤cur.size) (h1:∀ v∈cs,v.oneCell'=true) :
  (Builtin.copy_ #[dT,sT] ty #[.slice (some ⟨g,o,none⟩) dLen dCap,.slice (some a) sLen sCap]).run P w =
   .ok (goInt (Nat.min sLen dLen)) (w.setRow g (cur.toList.take o++cs++cur.toList.drop (o+cs.length)).toArray):=by
 have hl:=run_loadCells_list (P:=P) w a cs hsrc
 have hst:=run_storeCells_at P g o t cs 0 cur w hg (by simpa using hfit) h1
 cases hq:P.info? elem with
 | none=>simp [hq] at hs
 | some i=>
  have hi:i.size=2:=by simpa [hq] using hs
  simp [Builtin.copy_,run_underlying hu,Builtin.lenOf,Builtin.firstCells,sizeOf,typeInfo,hq,hi,←hn,hl,hst]
theorem ziZ {P:Program} (w:World) (dT sT ty elem:TypeId) (d a:Option Addr) (dLen dCap sLen sCap:Nat) (hu:P.underlying dT=some (.slice elem)) (hs:(P.info? elem).map (·.size)=some 2) (hn:Nat.min sLen dLen=0) :
  (Builtin.copy_ #[dT,sT] ty #[.slice d dLen dCap,.slice a sLen sCap]).run P w=.ok (goInt 0) w:=by
 cases hq:P.info? elem with
 | none=>simp [hq] at hs
 | some i=>
  have hl:∀ (x:Addr),(loadCells x 0).run P w=.ok #[] w:=fun x=>by simpa using run_loadCells_list (P:=P) w x [] (by simp)
  cases d<;>cases a<;>simp [Builtin.copy_,run_underlying hu,Builtin.lenOf,Builtin.firstCells,sizeOf,typeInfo,hq,hn,storeCells,hl]
theorem znO {P:Program} (w:World) {o:Oper} {act:Act} {K:Act→World→Prop} {Q:Exit→Act→World→Prop} (d s:Operand) (t t':TypeId)
  (ho:o.op=.call {callee:=.builtin .copy,args:=#[d,s],argTypes:=#[t,t']}) (v u:Value) (hd:act.eval d=v) (hs:act.eval s=u) {v':Value} {w':World}
  (hr:(Builtin.copy_ #[t,t'] o.type #[v,u]).run P w=.ok v' w') (h:K (act.put o.dst v') w'):o.wp P act w K Q:=by
 unfold Oper.wp execOp
 simp only [ho,resolve,invoke,builtin,Sem.run_bind,Sem.run_pure,Result.andThen_ok,List.map_toArray,List.map_cons,List.map_nil,hd,hs,hr]
 exact h
def zfA (L:List Value) (n p:Nat):List Value:=L.take ((p+1)*2)++(L.drop (p*2)).take ((n-p)*2)
theorem zlD {L:List Value} {n p:Nat} (hL:L.length=(n+1)*2) (hp:p≤n):(zfA L n p).length=(n+1)*2:=by
 unfold zfA
 rw [List.length_append,List.length_take,List.length_take,List.length_drop,hL];omega
theorem zqe {A B Z:List Value} {n p:Nat} (hA:A.length=p*2) (hB:B.length=(n-p)*2) (hZ:Z.length=2) (u v:Value) :
  ((zfA (A++B++Z) n p).set (p*2) u).set (p*2+1) v=A++[u,v]++B:=by
 have e1:(A++B++Z).drop (p*2)=B++Z:=by
  rw [List.append_assoc,←hA,List.drop_left]
 have e2:(B++Z).take ((n-p)*2)=B:=by rw [←hB,List.take_left]
 have e3:(A++B++Z).take ((p+1)*2)=A++(B++Z).take 2:=by
  rw [List.append_assoc,List.take_append,hA,show (p+1)*2-p*2=2 by omega,List.take_of_length_le (by omega)]
 unfold zfA
 rw [e1,e2,e3]
 have hl:((B++Z).take 2).length=2:=by rw [List.length_take,List.length_append];omega
 generalize (B++Z).take 2=q at hl
 match q,hl with
 | [y,z],_=>
  rw [List.append_assoc,List.set_append_right _ _ (by omega),hA,Nat.sub_self,List.cons_append,List.set_cons_zero,List.set_append_right _ _ (by omega),hA,show p*2+1-p*2=1 by omega]
  simp
theorem zmK {w:World} {g c n p:Nat} {ls:List Ib} {x:It} {b:Option Addr} {d:Nat} (R:RowI w (some ⟨g,0,none⟩) c (n+1) (zfA (zay ls++[.int .i64 0,.slice none 0 0]) n p)) (hn:ls.length=n) (hp:p≤n) :
  RowI ((w.setCell ⟨g,p*2,none⟩ (.int .i64 x.j)).setCell ⟨g,p*2+1,none⟩ (.slice b x.c.length d)) (some ⟨g,0,none⟩) c (n+1) (zay (ls.take p++⟨b,d,x⟩::ls.drop p)):=by
 have hA:(zay (ls.take p)).length=p*2:=by rw [zaX,List.length_take];omega
 have hB:(zay (ls.drop p)).length=(n-p)*2:=by rw [zaX,List.length_drop,hn]
 have hs:=zqe (Z:=[.int .i64 0,.slice none 0 0]) hA hB rfl (.int .i64 x.j) (.slice b x.c.length d)
 rw [←zgf,List.take_append_drop] at hs
 have hf:zay (ls.take p++⟨b,d,x⟩::ls.drop p)=zay (ls.take p)++[.int .i64 x.j,.slice b x.c.length d]++zay (ls.drop p):=by
  rw [zgf,List.append_assoc];rfl
 have hl:(zay (ls.take p++⟨b,d,x⟩::ls.drop p)).length=(n+1)*2:=by
  rw [hf,List.length_append,List.length_append,hA,hB]
  show p*2+2+_=_
  omega
 obtain ⟨h0,R2⟩:=R
 rcases R2 with ⟨e,_⟩ | ⟨g',sp,e,k1,k2,k3,l⟩
 ·cases e
 ·injection e with e;injection e with e;subst e
  refine ⟨hl,.inr ⟨g,sp,rfl,by rw [hl,←h0];exact k1,k2,k3,?_⟩⟩
  refine ((l.set (p*2) (.int .i64 x.j)).set (p*2+1) (.slice b x.c.length d)).to ?_
  rw [List.set_append_left _ _ (by omega),List.set_append_left _ _ (by rw [List.length_set];omega),hs,hf]
theorem RowI.slot {w:World} {g c n:Nat} {xs:List Value} (R:RowI w (some ⟨g,0,none⟩) c n xs) {j:Nat} (hj:j<n*2):(∃ v,w.cell? ⟨g,j,none⟩=some v)∧w.frozen? ⟨g,j,none⟩=false:=by
 have h0:=R.1
 have hj2:j<xs.length:=by omega
 obtain ⟨g',e,h⟩:=R.cell (j:=j) (u:=xs[j]) (List.getElem?_eq_getElem hj2)
 injection e with e;injection e with e;subst e
 refine ⟨⟨_,h⟩,?_⟩
 rcases R.2 with ⟨e,_⟩ | ⟨g',sp,e,_,_,_,l⟩
 ·cases e
 ·injection e with e;injection e with e;subst e
  exact l.frozen j
theorem zgP {ops:Array Oper} {o:Oper} {act:Act} {w:World} {K:Act→World→Prop} {Q:Exit→Act→World→Prop} {E:Prop} (hgd:o.guard=none) (d s:Operand)
  (ho:o.op=.call {callee:=.builtin .copy,args:=#[d,s],argTypes:=#[77,77]}) {g c n p:Nat} {L:List Value} (R:RowI w (some ⟨g,0,none⟩) c (n+1) L) (h1:∀ v∈L,v.oneCell'=true) (hp:p≤n)
  (dp:Option Addr) (dLen dCap sLen sCap:Nat) (hd:act.eval d=.slice dp dLen dCap) (hs:act.eval s=.slice (some ⟨g,p*2,none⟩) sLen sCap) (hdl:dLen=n-p) (hsl:sLen=n+1-p) (hdp:p<n→dp=some ⟨g,(p+1)*2,none⟩)
  (h:∀ w',Hid (RowI w' (some ⟨g,0,none⟩) c (n+1) (zfA L n p))→Hid (Kept (fun k=>k=g) w w')→K (act.put o.dst (goInt ((n-p:Nat):Int))) w') :
  if Region.wanted o (yielded ops act.tmps)=true then Oper.wp Tryz.prog o act w K Q else E:=by
 have hw:Region.wanted o (yielded ops act.tmps)=true:=by simp [Region.wanted,hgd]
 rw [if_pos hw]
 subst hdl hsl
 obtain ⟨i,hi,hz,hsz,hby⟩:=info_parts Tryz.infoItem
 have hu:Tryz.prog.underlying 77=some (.slice 111):=Tryz.underlying77
 have hL:L.length=(n+1)*2:=R.1
 by_cases hpn:p<n
 ·have hdp:=hdp hpn
  subst hdp
  obtain ⟨_,R2⟩:=R
  rcases R2 with ⟨e,_⟩ | ⟨g',sp,e,k1,k2,k3,l⟩
  ·cases e
  ·injection e with e;injection e with e;subst e
   have hcl:((L.drop (p*2)).take ((n-p)*2)).length=(n-p)*2:=by rw [List.length_take,List.length_drop];omega
   have hmin:Nat.min (n+1-p) (n-p)=n-p:=Nat.min_eq_right (by omega)
   have hr:=zkB (P:=Tryz.prog) w 77 77 o.type 111 g ((p+1)*2) (n-p) dCap ⟨g,p*2,none⟩ (n+1-p) sCap (L++sp).toArray 111 ((L.drop (p*2)).take ((n-p)*2)) hu (by rw [hi];simp [hsz]) l
    (by rw [hcl,hmin]) (fun j v hj=>by
     rw [Addr.add_lit,l.cell]
     have hj2:j<(n-p)*2:=by
      have:=(List.getElem?_eq_some_iff.1 hj).1
      omega
     rw [List.getElem?_take,if_pos hj2,List.getElem?_drop] at hj
     rw [List.getElem?_append_left (by omega)]
     exact hj) (by simp only [List.size_toArray,List.length_append];omega) (fun v hv=>h1 v (List.mem_of_mem_drop (List.mem_of_mem_take hv)))
   rw [hmin] at hr
   refine znO w d s 77 77 ho _ _ hd hs hr (h _ ?_ ?_)
   rotate_left
   ·exact dq ⟨rfl,rfl,rfl,by simp [World.setRow],fun k hk hx=>setRow_other w g k _ hx⟩
   refine dq ⟨zlD hL hp,.inr ⟨g,sp,rfl,by rw [zlD hL hp,←hL];exact k1,k2,k3,?_⟩⟩
   have e:(L++sp).toArray.toList.take ((p+1)*2)++(L.drop (p*2)).take ((n-p)*2)++(L++sp).toArray.toList.drop ((p+1)*2+((L.drop (p*2)).take ((n-p)*2)).length)=zfA L n p++sp:=by
    rw [hcl]
    unfold zfA
    have e1:(L++sp).toArray.toList=L++sp:=rfl
    rw [e1,List.take_append_of_le_length (by omega),show (p+1)*2+(n-p)*2=L.length by omega,List.drop_left]
   rw [e]
   exact setRow_heap w g _ _ _ _ l
 ·obtain rfl:p=n:=by omega
  have e:zfA L p p=L:=by
   unfold zfA
   rw [←hL,List.take_length];simp
  have hr:=ziZ (P:=Tryz.prog) w 77 77 o.type 111 dp (some ⟨g,p*2,none⟩) (p-p) dCap (p+1-p) sCap hu (by rw [hi];simp [hsz]) (by rw [Nat.sub_self];exact Nat.min_zero _)
  refine znO w d s 77 77 ho _ _ hd hs hr ?_
  have h2:=h w (dq (by rw [e];exact R)) (dq (Kept.refl _ _))
  rw [Nat.sub_self] at h2
  exact h2
set_option maxRecDepth 100000 in
set_option maxHeartbeats 4000000 in
theorem zmL (a:Option Addr) (c:Nat) (s:List It) (x:It) (b:Option Addr) (u d:Nat) (w:World) (R:Its w a c s) (hs:zcy s) (hx:zah x=true) (S:Bag w b d x.c) (hu:x.c.length=u) (hb:s.length≤100000000000) :
  Calls Tryz.prog 84 #[.slice a s.length c,.agg #[.int .i64 x.j,.slice b u d]] w (zuw a (zfz x s) w):=by
 have hle:=R.le
 have hbl:=S.le
 rw [hu] at hbl
 have HRI:=dq hs
 have HXR:=dq hx
 have b1:=below_alloc w (.cells #[.int .i64 x.j,.slice b u d] 111)
 have HB:=dq b1
 have HX:=dq (Lies.new w 111 [.int .i64 x.j,.slice b u d])
 have HR:=dq (R.below b1)
 have HS:=dq (S.below b1)
 have HR0:=dq R
 have HS0:=dq S
 have HU:=dq hu
 generalize hn:s.length=n at hle hb ⊢
 have HN:=dq hn
 generalize hjx:x.j=jx at HB HX HR HS ⊢
 have HXJ:=dq hjx
 clear R S hs hx hu b1 hn hjx
 go_enter Tryz.func84,Tryz.ntmps84
 go_upto_region 1 with (fail)
 generalize hW:w.alloc (.cells #[.int .i64 jx,.slice b u d] 111)=W0 at HB HX HR HS ⊢
 generalize hgb:w.heap.size=gb at HX ⊢
 have HW:=dq hW
 have HB0:=HB
 have HG:=dq hgb
 clear hW hgb
 go_wp2
 go_loopw [5,6] (fun lo hi wr=>∃ p q:Nat,p≤q∧q≤n∧lo=.int .i64 p∧hi=.int .i64 q∧Hid (Below W0.heap.size W0 wr)∧Hid (∀ j,j<p→ltI (itAt s j) x=true)∧Hid (q<n→ltI (itAt s q) x=false)) (fun lo hi _=>(intOf hi-intOf lo).toNat)
 case atStart=>exact ⟨0,n,Nat.zero_le _,Nat.le_refl _,rfl,rfl,dq (Below.refl _ _),dq (fun j h=>by omega),dq (fun h=>by omega)⟩
 case round=>
  obtain ⟨p,q,hpq,hq,rfl,rfl,HB2,HL,HQ⟩:=hrel
  have HRW:=dq (HR.out.below HB2.out)
  have HSW:=dq (HS.out.below HB2.out)
  have HXW:=dq (HX.out.below HB2.out HX.out.lt)
  by_cases hlt:p<q
  ·obtain ⟨m,hm⟩:∃ m,m=(p+q)/2:=⟨_,rfl⟩
   have hmp:p≤m:=by omega
   have hmq:m<q:=by omega
   obtain ⟨g,b2,d2,e1,c0,c1,B2⟩:=HRW.out.at (k:=m) (by rw [HN.out];omega)
   subst e1
   have hbl2:=B2.le
   generalize hu2:(itAt s m).c.length=u2 at c1 hbl2
   have ltg:=HRW.out.lt rfl
   have k0:=HXW.out.cell 0
   have k1:=HXW.out.cell 1
   simp only [List.getElem?_cons_zero,List.getElem?_cons_succ] at k0 k1
   have ltb:=HXW.out.lt
   have ZL:Hid (∀ V,Below wr.heap.size wr V→Calls Tryz.prog 116 #[.agg #[.int .i64 (itAt s m).j,.slice b2 u2 d2],.agg #[.int .i64 jx,.slice b u d]] V (TellsB (ltI (itAt s m) x) V)):=dq (fun V h=>by
    have Z:=zeA b2 b d2 d u2 u (itAt s m) x V hu2 HU.out (B2.below h) (HSW.out.below h)
    rwa [HXJ.out] at Z)
   clear B2 hu2
   generalize (itAt s m).j=j2 at c0 ZL
   generalize hv:ltI (itAt s m) x=v at ZL
   have HV:=dq hv
   clear hv
   have hmm:((p:Int)+(q:Int))/2=(m:Int):=by omega
   go_upto_region 4 with (fail)
   rw [hmm]
   clear hmm hm
   have bd:Below wr.heap.size wr wr.drew:=⟨rfl,rfl,rfl,Nat.le_refl _,fun _ _=>rfl⟩
   have i1:(0:Int)≤(m:Int):=by omega
   have i2:(m:Int)<(n:Int):=by omega
   have HB:=HB2
   generalize wr=W at *
   cases v with
   | true=>
    have HL2:Hid (∀ j,j<m+1→ltI (itAt s j) x=true):=dq (fun j hj=>zta HRI.out HXR.out (by omega) (by rw [HN.out];omega) HV.out)
    refine wp_region_held_drew (S:=fun w'=>Below W.heap.size W w') (by kernel_rfl) bd (fun hHeld=>?_)
    clear hHeld
    refine tkY 0 zoC (v:=?_) rfl bd ?_ ?_
    rotate_left
    ·intro w hSw
     simp only [zoC];go_simp
     try with_reducible rfl
    try simp only [zoC,Act.put,pA,pB,pC]
    refine tkY 1 zoD (v:=?_) rfl bd ?_ ?_
    rotate_left
    ·intro w hSw
     simp only [zoD];go_simp
     try with_reducible rfl
    try simp only [zoD,Act.put,pA,pB,pC]
    refine tkY 2 zoE (v:=?_) rfl bd ?_ ?_
    rotate_left
    ·intro w hSw
     simp only [zoE];go_simp
     try with_reducible rfl
    try simp only [zoE,Act.put,pA,pB,pC]
    refine tkY 3 zoF (v:=?_) rfl bd ?_ ?_
    rotate_left
    ·intro w hSw
     have f1:=(hSw.cell (p:=⟨gb,0,none⟩) ltb).trans k0
     have f2:=(hSw.cell (p:=⟨gb,1,none⟩) ltb).trans k1
     have f3:=(hSw.cell (p:=⟨g,m*2,none⟩) ltg).trans c0
     have f4:=(hSw.cell (p:=⟨g,m*2+1,none⟩) ltg).trans c1
     simp only [zoF];go_simp
     try with_reducible rfl
    try simp only [zoF,Act.put,pA,pB,pC]
    refine tkY 4 zoG (v:=?_) rfl bd ?_ ?_
    rotate_left
    ·intro w hSw
     have f1:=(hSw.cell (p:=⟨gb,0,none⟩) ltb).trans k0
     have f2:=(hSw.cell (p:=⟨gb,1,none⟩) ltb).trans k1
     have f3:=(hSw.cell (p:=⟨g,m*2,none⟩) ltg).trans c0
     have f4:=(hSw.cell (p:=⟨g,m*2+1,none⟩) ltg).trans c1
     simp only [zoG];go_simp
     try with_reducible rfl
    try simp only [zoG,Act.put,pA,pB,pC]
    refine wpAnyH_ready (rs:=[5]) (by kernel_rfl) (by simp) ?_
    refine AllReadyH.cons (o:=zoH) rfl (fun K hK=>?_) AllReadyH.nil
    simp only [zoH];go_simp
    refine (ZL.out _ bd).mono ?_
    rintro e V1 ⟨rfl,d1⟩
    have b1:Below W.heap.size W V1:=bd.trans (d1.mono bd.size)
    go_wp2_with (fail)
    refine hK.out _ _ b1 (fun hHeld=>?_)
    clear hK K hHeld
    try simp only [zoH,Act.put,pA,pB,pC]
    refine wpAnyH_done (by kernel_rfl) ?_ _
    have HB3:=dq (HB.out.trans (b1.mono HB.out.size))
    clear ltb ltg bd ZL k0 k1 c0 c1
    go_wp2
    go_roundw
    case rel=>exact ⟨m+1,q,by omega,hq,by go_num,rfl,HB3,HL2,HQ⟩
    case measure=>simp [intOf];omega
   | false=>
    have HQ2:Hid (m<n→ltI (itAt s m) x=false):=dq (fun _=>HV.out)
    refine wp_region_held_drew (S:=fun w'=>Below W.heap.size W w') (by kernel_rfl) bd (fun hHeld=>?_)
    clear hHeld
    refine tkY 0 zoC (v:=?_) rfl bd ?_ ?_
    rotate_left
    ·intro w hSw
     simp only [zoC];go_simp
     try with_reducible rfl
    try simp only [zoC,Act.put,pA,pB,pC]
    refine tkY 1 zoD (v:=?_) rfl bd ?_ ?_
    rotate_left
    ·intro w hSw
     simp only [zoD];go_simp
     try with_reducible rfl
    try simp only [zoD,Act.put,pA,pB,pC]
    refine tkY 2 zoE (v:=?_) rfl bd ?_ ?_
    rotate_left
    ·intro w hSw
     simp only [zoE];go_simp
     try with_reducible rfl
    try simp only [zoE,Act.put,pA,pB,pC]
    refine tkY 3 zoF (v:=?_) rfl bd ?_ ?_
    rotate_left
    ·intro w hSw
     have f1:=(hSw.cell (p:=⟨gb,0,none⟩) ltb).trans k0
     have f2:=(hSw.cell (p:=⟨gb,1,none⟩) ltb).trans k1
     have f3:=(hSw.cell (p:=⟨g,m*2,none⟩) ltg).trans c0
     have f4:=(hSw.cell (p:=⟨g,m*2+1,none⟩) ltg).trans c1
     simp only [zoF];go_simp
     try with_reducible rfl
    try simp only [zoF,Act.put,pA,pB,pC]
    refine tkY 4 zoG (v:=?_) rfl bd ?_ ?_
    rotate_left
    ·intro w hSw
     have f1:=(hSw.cell (p:=⟨gb,0,none⟩) ltb).trans k0
     have f2:=(hSw.cell (p:=⟨gb,1,none⟩) ltb).trans k1
     have f3:=(hSw.cell (p:=⟨g,m*2,none⟩) ltg).trans c0
     have f4:=(hSw.cell (p:=⟨g,m*2+1,none⟩) ltg).trans c1
     simp only [zoG];go_simp
     try with_reducible rfl
    try simp only [zoG,Act.put,pA,pB,pC]
    refine wpAnyH_ready (rs:=[5]) (by kernel_rfl) (by simp) ?_
    refine AllReadyH.cons (o:=zoH) rfl (fun K hK=>?_) AllReadyH.nil
    simp only [zoH];go_simp
    refine (ZL.out _ bd).mono ?_
    rintro e V1 ⟨rfl,d1⟩
    have b1:Below W.heap.size W V1:=bd.trans (d1.mono bd.size)
    go_wp2_with (fail)
    refine hK.out _ _ b1 (fun hHeld=>?_)
    clear hK K hHeld
    try simp only [zoH,Act.put,pA,pB,pC]
    refine wpAnyH_done (by kernel_rfl) ?_ _
    have HB3:=dq (HB.out.trans (b1.mono HB.out.size))
    clear ltb ltg bd ZL k0 k1 c0 c1
    go_wp2
    go_roundw
    case rel=>exact ⟨p,m,by omega,by omega,rfl,rfl,HB3,HL,HQ2⟩
    case measure=>simp [intOf];omega
  ·obtain rfl:p=q:=by omega
   have bd:Below wr.heap.size wr wr.drew:=⟨rfl,rfl,rfl,Nat.le_refl _,fun _ _=>rfl⟩
   have HSP:=dq (zlC HXR.out (s:=s) (k:=p) HRI.out.1 (by rw [HN.out];exact hq) HL.out (by rw [HN.out];exact HQ.out))
   clear HB
   have HB:=HB2
   clear HB2
   by_cases hpn:p<n
   ·obtain ⟨g,b2,d2,e1,c0,c1,B2⟩:=HRW.out.at (k:=p) (by rw [HN.out];exact hpn)
    subst e1
    have hbl2:=B2.le
    generalize hu2:(itAt s p).c.length=u2 at c1 hbl2
    have ltg:=HRW.out.lt rfl
    have k0:=HXW.out.cell 0
    have k1:=HXW.out.cell 1
    simp only [List.getElem?_cons_zero,List.getElem?_cons_succ] at k0 k1
    have ltb:=HXW.out.lt
    have ZL:Hid (∀ V,Below wr.heap.size wr V→Calls Tryz.prog 116 #[.agg #[.int .i64 jx,.slice b u d],.agg #[.int .i64 (itAt s p).j,.slice b2 u2 d2]] V (TellsB (ltI x (itAt s p)) V)):=dq (fun V h=>by
     have Z:=zeA b b2 d d2 u u2 x (itAt s p) V HU.out hu2 (HSW.out.below h) (B2.below h)
     rwa [HXJ.out] at Z)
    clear B2 hu2
    generalize (itAt s p).j=j2 at c0 ZL
    generalize hv:ltI x (itAt s p)=v at ZL HSP
    have HV:=dq hv
    clear hv
    have i1:(0:Int)≤(p:Int):=by omega
    have i2:(p:Int)<(n:Int):=by omega
    go_upto_region 7 with (fail)
    generalize wr=W at *
    cases v with
    | false=>
     have E:Hid (zfz x s=s):=dq (by rw [HSP.out,if_pos ⟨by rw [HN.out];exact hpn,rfl⟩])
     refine wp_region_held_drew (S:=fun w'=>Below W.heap.size W w') (by kernel_rfl) bd (fun hHeld=>?_)
     clear hHeld
     refine tkY 0 zkw (v:=?_) rfl bd ?_ ?_
     rotate_left
     ·intro w hSw
      simp only [zkw];go_simp
      try with_reducible rfl
     try simp only [zkw,Act.put,pA,pB,pC]
     refine tkY 1 zkx (v:=?_) rfl bd ?_ ?_
     rotate_left
     ·intro w hSw
      simp only [zkx];go_simp
      try with_reducible rfl
     try simp only [zkx,Act.put,pA,pB,pC]
     refine tkY 2 zky (v:=?_) rfl bd ?_ ?_
     rotate_left
     ·intro w hSw
      simp only [zky];go_simp
      try with_reducible rfl
     try simp only [zky,Act.put,pA,pB,pC]
     refine tkY 3 zkz (v:=?_) rfl bd ?_ ?_
     rotate_left
     ·intro w hSw
      simp only [zkz];go_simp
      try with_reducible rfl
     try simp only [zkz,Act.put,pA,pB,pC]
     refine tkY 4 zgh (v:=?_) rfl bd ?_ ?_
     rotate_left
     ·intro w hSw
      simp only [zgh];go_simp
      try with_reducible rfl
     try simp only [zgh,Act.put,pA,pB,pC]
     refine tkY 5 zhb (v:=?_) rfl bd ?_ ?_
     rotate_left
     ·intro w hSw
      have f1:=(hSw.cell (p:=⟨gb,0,none⟩) ltb).trans k0
      have f2:=(hSw.cell (p:=⟨gb,1,none⟩) ltb).trans k1
      have f3:=(hSw.cell (p:=⟨g,p*2,none⟩) ltg).trans c0
      have f4:=(hSw.cell (p:=⟨g,p*2+1,none⟩) ltg).trans c1
      simp only [zhb];go_simp
      try with_reducible rfl
     try simp only [zhb,Act.put,pA,pB,pC]
     refine tkY 6 zhc (v:=?_) rfl bd ?_ ?_
     rotate_left
     ·intro w hSw
      simp only [zhc];go_simp
      try with_reducible rfl
     try simp only [zhc,Act.put,pA,pB,pC]
     refine tkY 7 zhd (v:=?_) rfl bd ?_ ?_
     rotate_left
     ·intro w hSw
      simp only [zhd];go_simp
      try with_reducible rfl
     try simp only [zhd,Act.put,pA,pB,pC]
     refine tkY 8 zhe (v:=?_) rfl bd ?_ ?_
     rotate_left
     ·intro w hSw
      simp only [zhe];go_simp
      try with_reducible rfl
     try simp only [zhe,Act.put,pA,pB,pC]
     refine tkY 9 zhf (v:=?_) rfl bd ?_ ?_
     rotate_left
     ·intro w hSw
      have f1:=(hSw.cell (p:=⟨gb,0,none⟩) ltb).trans k0
      have f2:=(hSw.cell (p:=⟨gb,1,none⟩) ltb).trans k1
      have f3:=(hSw.cell (p:=⟨g,p*2,none⟩) ltg).trans c0
      have f4:=(hSw.cell (p:=⟨g,p*2+1,none⟩) ltg).trans c1
      simp only [zhf];go_simp
      try with_reducible rfl
     try simp only [zhf,Act.put,pA,pB,pC]
     refine wpAnyH_ready (rs:=[10]) (by kernel_rfl) (by simp) ?_
     refine AllReadyH.cons (o:=zhg) rfl (fun K hK=>?_) AllReadyH.nil
     simp only [zhg];go_simp
     refine (ZL.out _ bd).mono ?_
     rintro e V1 ⟨rfl,d1⟩
     have b1:Below W.heap.size W V1:=bd.trans (d1.mono bd.size)
     go_wp2_with (fail)
     refine hK.out _ _ b1 (fun hHeld=>?_)
     clear hK K hHeld
     try simp only [zhg,Act.put,pA,pB,pC]
     refine tkY 11 zhh (v:=?_) rfl b1 ?_ ?_
     rotate_left
     ·intro w hSw
      simp only [zhh];go_simp
      try with_reducible rfl
     try simp only [zhh,Act.put,pA,pB,pC]
     refine tkY 12 zgi (v:=?_) rfl b1 ?_ ?_
     rotate_left
     ·intro w hSw
      simp only [zgi];go_simp
      try with_reducible rfl
     try simp only [zgi,Act.put,pA,pB,pC]
     refine wpAnyH_done (by kernel_rfl) ?_ _
     have HB3:=dq (HB.out.trans (b1.mono HB.out.size))
     have HR3:=dq (HR.out.below HB3.out)
     have HBF:=dq ((HB0.out).trans (HB3.out.mono HB0.out.size))
     clear ltb ltg bd ZL k0 k1 c0 c1
     go_wp2
     go_ret
     rw [E.out]
     exact ⟨_,_,by rw [HN.out];rfl,HR3.out,Kept.of_below HBF.out,fun g e=>.inl e⟩
    | true=>
     have E:Hid (zfz x s=s.take p++x::s.drop p):=dq (by rw [HSP.out,if_neg (by simp)])
     refine wp_region_held_drew (S:=fun w'=>Below W.heap.size W w') (by kernel_rfl) bd (fun hHeld=>?_)
     clear hHeld
     refine tkY 0 zkw (v:=?_) rfl bd ?_ ?_
     rotate_left
     ·intro w hSw
      simp only [zkw];go_simp
      try with_reducible rfl
     try simp only [zkw,Act.put,pA,pB,pC]
     refine tkY 1 zkx (v:=?_) rfl bd ?_ ?_
     rotate_left
     ·intro w hSw
      simp only [zkx];go_simp
      try with_reducible rfl
     try simp only [zkx,Act.put,pA,pB,pC]
     refine tkY 2 zky (v:=?_) rfl bd ?_ ?_
     rotate_left
     ·intro w hSw
      simp only [zky];go_simp
      try with_reducible rfl
     try simp only [zky,Act.put,pA,pB,pC]
     refine tkY 3 zkz (v:=?_) rfl bd ?_ ?_
     rotate_left
     ·intro w hSw
      simp only [zkz];go_simp
      try with_reducible rfl
     try simp only [zkz,Act.put,pA,pB,pC]
     refine tkY 4 zgh (v:=?_) rfl bd ?_ ?_
     rotate_left
     ·intro w hSw
      simp only [zgh];go_simp
      try with_reducible rfl
     try simp only [zgh,Act.put,pA,pB,pC]
     refine tkY 5 zhb (v:=?_) rfl bd ?_ ?_
     rotate_left
     ·intro w hSw
      have f1:=(hSw.cell (p:=⟨gb,0,none⟩) ltb).trans k0
      have f2:=(hSw.cell (p:=⟨gb,1,none⟩) ltb).trans k1
      have f3:=(hSw.cell (p:=⟨g,p*2,none⟩) ltg).trans c0
      have f4:=(hSw.cell (p:=⟨g,p*2+1,none⟩) ltg).trans c1
      simp only [zhb];go_simp
      try with_reducible rfl
     try simp only [zhb,Act.put,pA,pB,pC]
     refine tkY 6 zhc (v:=?_) rfl bd ?_ ?_
     rotate_left
     ·intro w hSw
      simp only [zhc];go_simp
      try with_reducible rfl
     try simp only [zhc,Act.put,pA,pB,pC]
     refine tkY 7 zhd (v:=?_) rfl bd ?_ ?_
     rotate_left
     ·intro w hSw
      simp only [zhd];go_simp
      try with_reducible rfl
     try simp only [zhd,Act.put,pA,pB,pC]
     refine tkY 8 zhe (v:=?_) rfl bd ?_ ?_
     rotate_left
     ·intro w hSw
      simp only [zhe];go_simp
      try with_reducible rfl
     try simp only [zhe,Act.put,pA,pB,pC]
     refine tkY 9 zhf (v:=?_) rfl bd ?_ ?_
     rotate_left
     ·intro w hSw
      have f1:=(hSw.cell (p:=⟨gb,0,none⟩) ltb).trans k0
      have f2:=(hSw.cell (p:=⟨gb,1,none⟩) ltb).trans k1
      have f3:=(hSw.cell (p:=⟨g,p*2,none⟩) ltg).trans c0
      have f4:=(hSw.cell (p:=⟨g,p*2+1,none⟩) ltg).trans c1
      simp only [zhf];go_simp
      try with_reducible rfl
     try simp only [zhf,Act.put,pA,pB,pC]
     refine wpAnyH_ready (rs:=[10]) (by kernel_rfl) (by simp) ?_
     refine AllReadyH.cons (o:=zhg) rfl (fun K hK=>?_) AllReadyH.nil
     simp only [zhg];go_simp
     refine (ZL.out _ bd).mono ?_
     rintro e V1 ⟨rfl,d1⟩
     have b1:Below W.heap.size W V1:=bd.trans (d1.mono bd.size)
     go_wp2_with (fail)
     refine hK.out _ _ b1 (fun hHeld=>?_)
     clear hK K hHeld
     try simp only [zhg,Act.put,pA,pB,pC]
     refine tkY 11 zhh (v:=?_) rfl b1 ?_ ?_
     rotate_left
     ·intro w hSw
      simp only [zhh];go_simp
      try with_reducible rfl
     try simp only [zhh,Act.put,pA,pB,pC]
     refine tkY 12 zgi (v:=?_) rfl b1 ?_ ?_
     rotate_left
     ·intro w hSw
      simp only [zgi];go_simp
      try with_reducible rfl
     try simp only [zgi,Act.put,pA,pB,pC]
     refine wpAnyH_done (by kernel_rfl) ?_ _
     have HB3:=dq (HB.out.trans (b1.mono HB.out.size))
     clear ltb ltg bd ZL k0 k1 c0 c1
     clear HRW HSW HXW HSP
     generalize V1=V at *
     have HRV:=dq (HR.out.below HB3.out)
     have HXV:=dq (HX.out.below HB3.out HX.out.lt)
     obtain ⟨ls,hls,I0⟩:=HR0.out
     have hln:ls.length=n:=by rw [←zbj,hls];exact HN.out
     have HBV:=dq (HB0.out.trans (HB3.out.mono HB0.out.size))
     have I:=I0.below HBV.out
     have bz:=below_alloc V (.cells #[.int .i64 0,.slice none 0 0] 111)
     have RR:=I.row.below bz
     rw [hln] at RR
     have LZ:=Lies.new V 111 [.int .i64 0,.slice none 0 0]
     obtain ⟨v4,w4,hr,a4,c4,e4,R4,K4,F4⟩:=zbx 77 77 Tryz.underlying77 _ c n (zay ls) _ RR ⟨V.heap.size,0,none⟩ 1 1 [.int .i64 0,.slice none 0 0] rfl (fun j y hj=>by rw [Addr.add_lit,Nat.zero_add];exact (LZ.cell j).trans hj) (by intro y hy;simp only [List.mem_cons,List.not_mem_nil,or_false] at hy;rcases hy with rfl | rfl<;>rfl) (by omega)
     subst e4
     obtain ⟨g4,e4⟩:∃ g4,a4=some ⟨g4,0,none⟩:=by
      rcases R4.2 with ⟨_,_,h⟩ | ⟨g,_,h,_⟩
      ·omega
      ·exact ⟨g,h⟩
     subst e4
     have HGB:=HX.out.lt
     have hbz:=bz.size
     have hbv:=HBV.out.size
     have hb3:=HB3.out.size
     have HF4:Hid ((some ⟨g,0,none⟩:Option Addr)=some ⟨g4,0,none⟩∨V.heap.size<g4):=dq ((F4 g4 rfl).imp id (fun h=>by
      have:(V.alloc (.cells #[.int .i64 0,.slice none 0 0] 111)).heap.size=V.heap.size+1:=by simp
      omega))
     have HK4:Hid (Kept (fun gx=>(some ⟨g,0,none⟩:Option Addr)=some ⟨gx,0,none⟩) w w4):=dq ((Kept.of_below (X:=fun gx=>(some ⟨g,0,none⟩:Option Addr)=some ⟨gx,0,none⟩) (HBV.out.trans (bz.mono hbv))).trans K4 (fun i _ h=>h))
     have HR4:=dq R4
     have hne:gb≠g4:=by
      rcases HF4.out with h | h
      ·have:=HR0.out.lt h
       have:=HG.out
       omega
      ·omega
     have HX4:Hid (Lies w4 gb 111 [.int .i64 jx,.slice b u d]):=dq ((HXV.out.below bz (by omega)).kept K4 (fun h=>by
      have:=HR0.out.lt h
      have:=HG.out
      omega))
     have hc4:=R4.le
     have HI:=dq I0
     have HLS:=dq hls
     have HLN:=dq hln
     have HO4:Hid (∀ y∈zay ls++[.int .i64 0,.slice none 0 0],y.oneCell'=true):=dq (fun y hy=>by
      rcases List.mem_append.1 hy with hy | hy
      ·exact zil ls y hy
      ·simp only [List.mem_cons,List.not_mem_nil,or_false] at hy
       rcases hy with rfl | rfl<;>rfl)
     clear bz RR LZ F4 K4 R4 I I0 hls hln HRV HXV hbz
     go_upto_region 10 with (at_builtin;refine Lib.wpList_append_run _ rfl _ _ _ _ rfl _ _ rfl rfl _ _ hr ?_)
     clear hr
     have i3:(0:Int)≤(p:Int):=by omega
     have q1:IntKind.i64.wrap ((p:Int)+1)=(p:Int)+1:=IntWalk.i64_in _ (by omega)
     have q2:((p:Int)+1).toNat=p+1:=by omega
     have q3:(0:Int)≤(p:Int)+1:=by omega
     have q4:(p:Int)+1≤(n:Int)+1:=by omega
     have q5:(p:Int)≤(n:Int)+1:=by omega
     have q6:¬c4=p:=by omega
     by_cases hpc:c4=p+1
     ·exfalso;omega
     ·skip
      refine wp_region_held_drew (S:=fun _=>True) (by kernel_rfl) trivial (fun hHeld=>?_)
      clear hHeld
      refine tkY 0 zgj (v:=?_) rfl trivial ?_ ?_
      rotate_left
      ·intro w hSw
       simp only [zgj];go_simp
       try with_reducible rfl
      try simp only [zgj,Act.put,pA,pB,pC]
      refine tkY 1 zgk (v:=?_) rfl trivial ?_ ?_
      rotate_left
      ·intro w hSw
       simp only [zgk];go_simp
       try with_reducible rfl
      try simp only [zgk,Act.put,pA,pB,pC]
      refine tkY 2 zgl (v:=?_) rfl trivial ?_ ?_
      rotate_left
      ·intro w hSw
       simp only [zgl];go_simp
       try with_reducible rfl
      try simp only [zgl,Act.put,pA,pB,pC]
      refine tkY 3 zgm (v:=?_) rfl trivial ?_ ?_
      rotate_left
      ·intro w hSw
       simp only [zgm];go_simp
       try with_reducible rfl
      try simp only [zgm,Act.put,pA,pB,pC]
      refine tkY 4 zgn (v:=?_) rfl trivial ?_ ?_
      rotate_left
      ·intro w hSw
       simp only [zgn];go_simp
       try with_reducible rfl
      try simp only [zgn,Act.put,pA,pB,pC]
      refine tkY 5 zgo (v:=?_) rfl trivial ?_ ?_
      rotate_left
      ·intro w hSw
       simp only [zgo];go_simp
       try with_reducible rfl
      try simp only [zgo,Act.put,pA,pB,pC]
      refine tkY 6 zgp (v:=?_) rfl trivial ?_ ?_
      rotate_left
      ·intro w hSw
       simp only [zgp];go_simp
       try with_reducible rfl
      try simp only [zgp,Act.put,pA,pB,pC]
      refine wpAnyH_ready (rs:=[7]) (by kernel_rfl) (by simp) ?_
      refine AllReadyH.cons (o:=zjq) rfl (fun K hK=>?_) AllReadyH.nil
      refine zgP rfl (.tmp 47) (.tmp 50) rfl (HR4.out.kept (X:=fun _=>False) (Kept.refl _ _).drew (fun _ _ h=>h)) HO4.out hq _ _ _ _ _ rfl rfl (by omega) (by omega) (fun h=>rfl) ?_
      intro w5 R5 K5
      refine hK.out _ _ trivial (fun hHeld=>?_)
      clear hK K hHeld
      try simp only [zjq,Act.put,pA,pB,pC]
      refine wpAnyH_done (by kernel_rfl) ?_ _
      have K45:Kept (fun k=>k=g4) w4 w5:=(Kept.refl (fun k=>k=g4) w4).drew.trans K5.out (fun i _ h=>h)
      have HK5:Hid (Kept (fun gx=>(some ⟨g,0,none⟩:Option Addr)=some ⟨gx,0,none⟩) w w5):=dq (HK4.out.trans K45 (fun i hi h=>by
       subst h
       rcases HF4.out with h2 | h2
       ·exact h2
       ·have:=HBV.out.size;omega))
      have HX5:=dq (HX4.out.kept K45 (fun h=>hne h))
      clear K5 K45 HX4
      have s1:=HX5.out.cell 0
      have s2:=HX5.out.cell 1
      simp only [List.getElem?_cons_zero,List.getElem?_cons_succ] at s1 s2
      obtain ⟨⟨v0,r0⟩,z0⟩:=R5.out.slot (j:=p*2) (by omega)
      obtain ⟨⟨v1,r1⟩,z1⟩:=R5.out.slot (j:=p*2+1) (by omega)
      have q7:(p:Int)<(n:Int)+1:=by omega
      go_wp2
      go_ret
      try subst hpc
      have hput:=zmK (x:=x) (b:=b) (d:=d) R5.out HLN.out hq
      rw [HXJ.out,HU.out] at hput
      have hX:g4<w.heap.size→(some ⟨g,0,none⟩:Option Addr)=some ⟨g4,0,none⟩:=fun h=>by
       rcases HF4.out with h2 | h2
       ·exact h2
       ·have:=HBV.out.size;omega
      have hk:=(HK5.out.setCell (p:=⟨g4,p*2,none⟩) hX (.int .i64 jx)).setCell (p:=⟨g4,p*2+1,none⟩) hX (.slice b u d)
      have hI:=HI.out
      rw [←HLN.out] at hput
      have hit:=zkv hI HS0.out hk p hput
      rw [HLS.out] at hit
      have hlen:(s.take p++x::s.drop p).length=n+1:=by
       rw [List.length_append,List.length_cons,List.length_take,List.length_drop,HN.out];omega
      rw [E.out]
      exact ⟨some ⟨g4,0,none⟩,_,by rw [hlen];rfl,hit,hk,fun gx e=>by
       injection e with e;injection e with e;subst e
       rcases HF4.out with h2 | h2
       ·exact .inl h2
       ·have:=HBV.out.size;exact .inr (by omega)⟩
   ·have hpn2:¬(p:Int)<(n:Int):=by omega
    have E:Hid (zfz x s=s.take p++x::s.drop p):=dq (by rw [HSP.out,if_neg (by rw [HN.out];omega)])
    go_upto_region 7 with (fail)
    generalize wr=W at *
    refine wp_region_held_drew (S:=fun w'=>Below W.heap.size W w') (by kernel_rfl) bd (fun hHeld=>?_)
    clear hHeld
    refine tkY 0 zkw (v:=?_) rfl bd ?_ ?_
    rotate_left
    ·intro w hSw
     simp only [zkw];go_simp
     try with_reducible rfl
    try simp only [zkw,Act.put,pA,pB,pC]
    refine tkY 1 zkx (v:=?_) rfl bd ?_ ?_
    rotate_left
    ·intro w hSw
     simp only [zkx];go_simp
     try with_reducible rfl
    try simp only [zkx,Act.put,pA,pB,pC]
    refine tkY 2 zky (v:=?_) rfl bd ?_ ?_
    rotate_left
    ·intro w hSw
     simp only [zky];go_simp
     try with_reducible rfl
    try simp only [zky,Act.put,pA,pB,pC]
    refine tkY 3 zkz (v:=?_) rfl bd ?_ ?_
    rotate_left
    ·intro w hSw
     simp only [zkz];go_simp
     try with_reducible rfl
    try simp only [zkz,Act.put,pA,pB,pC]
    refine tkY 4 zgh (v:=?_) rfl bd ?_ ?_
    rotate_left
    ·intro w hSw
     simp only [zgh];go_simp
     try with_reducible rfl
    try simp only [zgh,Act.put,pA,pB,pC]
    refine tkN 5 zhb rfl bd ?_
    try simp only [zhb,Act.put,pA,pB,pC]
    refine tkN 6 zhc rfl bd ?_
    try simp only [zhc,Act.put,pA,pB,pC]
    refine tkN 7 zhd rfl bd ?_
    try simp only [zhd,Act.put,pA,pB,pC]
    refine tkN 8 zhe rfl bd ?_
    try simp only [zhe,Act.put,pA,pB,pC]
    refine tkN 9 zhf rfl bd ?_
    try simp only [zhf,Act.put,pA,pB,pC]
    refine tkN 10 zhg rfl bd ?_
    try simp only [zhg,Act.put,pA,pB,pC]
    refine tkN 11 zhh rfl bd ?_
    try simp only [zhh,Act.put,pA,pB,pC]
    refine tkY 12 zgi (v:=?_) rfl bd ?_ ?_
    rotate_left
    ·intro w hSw
     simp only [zgi];go_simp
     try with_reducible rfl
    try simp only [zgi,Act.put,pA,pB,pC]
    refine wpAnyH_done (by kernel_rfl) ?_ _
    have HB3:=dq (HB.out.trans (bd.mono HB.out.size))
    clear bd
    clear HRW HSW HXW HSP
    generalize W.drew=V at *
    have HRV:=dq (HR.out.below HB3.out)
    have HXV:=dq (HX.out.below HB3.out HX.out.lt)
    obtain ⟨ls,hls,I0⟩:=HR0.out
    have hln:ls.length=n:=by rw [←zbj,hls];exact HN.out
    have HBV:=dq (HB0.out.trans (HB3.out.mono HB0.out.size))
    have I:=I0.below HBV.out
    have bz:=below_alloc V (.cells #[.int .i64 0,.slice none 0 0] 111)
    have RR:=I.row.below bz
    rw [hln] at RR
    have LZ:=Lies.new V 111 [.int .i64 0,.slice none 0 0]
    obtain ⟨v4,w4,hr,a4,c4,e4,R4,K4,F4⟩:=zbx 77 77 Tryz.underlying77 _ c n (zay ls) _ RR ⟨V.heap.size,0,none⟩ 1 1 [.int .i64 0,.slice none 0 0] rfl (fun j y hj=>by rw [Addr.add_lit,Nat.zero_add];exact (LZ.cell j).trans hj) (by intro y hy;simp only [List.mem_cons,List.not_mem_nil,or_false] at hy;rcases hy with rfl | rfl<;>rfl) (by omega)
    subst e4
    obtain ⟨g4,e4⟩:∃ g4,a4=some ⟨g4,0,none⟩:=by
     rcases R4.2 with ⟨_,_,h⟩ | ⟨g,_,h,_⟩
     ·omega
     ·exact ⟨g,h⟩
    subst e4
    have HGB:=HX.out.lt
    have hbz:=bz.size
    have hbv:=HBV.out.size
    have hb3:=HB3.out.size
    have HF4:Hid (a=some ⟨g4,0,none⟩∨V.heap.size<g4):=dq ((F4 g4 rfl).imp id (fun h=>by
     have:(V.alloc (.cells #[.int .i64 0,.slice none 0 0] 111)).heap.size=V.heap.size+1:=by simp
     omega))
    have HK4:Hid (Kept (fun gx=>a=some ⟨gx,0,none⟩) w w4):=dq ((Kept.of_below (X:=fun gx=>a=some ⟨gx,0,none⟩) (HBV.out.trans (bz.mono hbv))).trans K4 (fun i _ h=>h))
    have HR4:=dq R4
    have hne:gb≠g4:=by
     rcases HF4.out with h | h
     ·have:=HR0.out.lt h
      have:=HG.out
      omega
     ·omega
    have HX4:Hid (Lies w4 gb 111 [.int .i64 jx,.slice b u d]):=dq ((HXV.out.below bz (by omega)).kept K4 (fun h=>by
     have:=HR0.out.lt h
     have:=HG.out
     omega))
    have hc4:=R4.le
    have HI:=dq I0
    have HLS:=dq hls
    have HLN:=dq hln
    have HO4:Hid (∀ y∈zay ls++[.int .i64 0,.slice none 0 0],y.oneCell'=true):=dq (fun y hy=>by
     rcases List.mem_append.1 hy with hy | hy
     ·exact zil ls y hy
     ·simp only [List.mem_cons,List.not_mem_nil,or_false] at hy
      rcases hy with rfl | rfl<;>rfl)
    clear bz RR LZ F4 K4 R4 I I0 hls hln HRV HXV hbz
    go_upto_region 10 with (at_builtin;refine Lib.wpList_append_run _ rfl _ _ _ _ rfl _ _ rfl rfl _ _ hr ?_)
    clear hr
    have i3:(0:Int)≤(p:Int):=by omega
    have q1:IntKind.i64.wrap ((p:Int)+1)=(p:Int)+1:=IntWalk.i64_in _ (by omega)
    have q2:((p:Int)+1).toNat=p+1:=by omega
    have q3:(0:Int)≤(p:Int)+1:=by omega
    have q4:(p:Int)+1≤(n:Int)+1:=by omega
    have q5:(p:Int)≤(n:Int)+1:=by omega
    have q6:¬c4=p:=by omega
    by_cases hpc:c4=p+1
    ·skip
     refine wp_region_held_drew (S:=fun _=>True) (by kernel_rfl) trivial (fun hHeld=>?_)
     clear hHeld
     refine tkY 0 zgj (v:=?_) rfl trivial ?_ ?_
     rotate_left
     ·intro w hSw
      simp only [zgj];go_simp
      try with_reducible rfl
     try simp only [zgj,Act.put,pA,pB,pC]
     refine tkY 1 zgk (v:=?_) rfl trivial ?_ ?_
     rotate_left
     ·intro w hSw
      simp only [zgk];go_simp
      try with_reducible rfl
     try simp only [zgk,Act.put,pA,pB,pC]
     refine tkY 2 zgl (v:=?_) rfl trivial ?_ ?_
     rotate_left
     ·intro w hSw
      simp only [zgl];go_simp
      try with_reducible rfl
     try simp only [zgl,Act.put,pA,pB,pC]
     refine tkY 3 zgm (v:=?_) rfl trivial ?_ ?_
     rotate_left
     ·intro w hSw
      simp only [zgm];go_simp
      try with_reducible rfl
     try simp only [zgm,Act.put,pA,pB,pC]
     refine tkY 4 zgn (v:=?_) rfl trivial ?_ ?_
     rotate_left
     ·intro w hSw
      simp only [zgn];go_simp
      try with_reducible rfl
     try simp only [zgn,Act.put,pA,pB,pC]
     refine tkY 5 zgo (v:=?_) rfl trivial ?_ ?_
     rotate_left
     ·intro w hSw
      simp only [zgo];go_simp
      try with_reducible rfl
     try simp only [zgo,Act.put,pA,pB,pC]
     refine tkY 6 zgp (v:=?_) rfl trivial ?_ ?_
     rotate_left
     ·intro w hSw
      simp only [zgp];go_simp
      try with_reducible rfl
     try simp only [zgp,Act.put,pA,pB,pC]
     refine wpAnyH_ready (rs:=[7]) (by kernel_rfl) (by simp) ?_
     refine AllReadyH.cons (o:=zjq) rfl (fun K hK=>?_) AllReadyH.nil
     refine zgP rfl (.tmp 47) (.tmp 50) rfl (HR4.out.kept (X:=fun _=>False) (Kept.refl _ _).drew (fun _ _ h=>h)) HO4.out hq _ _ _ _ _ rfl rfl (by omega) (by omega) (fun h=>by omega) ?_
     intro w5 R5 K5
     refine hK.out _ _ trivial (fun hHeld=>?_)
     clear hK K hHeld
     try simp only [zjq,Act.put,pA,pB,pC]
     refine wpAnyH_done (by kernel_rfl) ?_ _
     have K45:Kept (fun k=>k=g4) w4 w5:=(Kept.refl (fun k=>k=g4) w4).drew.trans K5.out (fun i _ h=>h)
     have HK5:Hid (Kept (fun gx=>a=some ⟨gx,0,none⟩) w w5):=dq (HK4.out.trans K45 (fun i hi h=>by
      subst h
      rcases HF4.out with h2 | h2
      ·exact h2
      ·have:=HBV.out.size;omega))
     have HX5:=dq (HX4.out.kept K45 (fun h=>hne h))
     clear K5 K45 HX4
     have s1:=HX5.out.cell 0
     have s2:=HX5.out.cell 1
     simp only [List.getElem?_cons_zero,List.getElem?_cons_succ] at s1 s2
     obtain ⟨⟨v0,r0⟩,z0⟩:=R5.out.slot (j:=p*2) (by omega)
     obtain ⟨⟨v1,r1⟩,z1⟩:=R5.out.slot (j:=p*2+1) (by omega)
     have q7:(p:Int)<(n:Int)+1:=by omega
     go_wp2
     go_ret
     try subst hpc
     have hput:=zmK (x:=x) (b:=b) (d:=d) R5.out HLN.out hq
     rw [HXJ.out,HU.out] at hput
     have hX:g4<w.heap.size→a=some ⟨g4,0,none⟩:=fun h=>by
      rcases HF4.out with h2 | h2
      ·exact h2
      ·have:=HBV.out.size;omega
     have hk:=(HK5.out.setCell (p:=⟨g4,p*2,none⟩) hX (.int .i64 jx)).setCell (p:=⟨g4,p*2+1,none⟩) hX (.slice b u d)
     have hI:=HI.out
     rw [←HLN.out] at hput
     have hit:=zkv hI HS0.out hk p hput
     rw [HLS.out] at hit
     have hlen:(s.take p++x::s.drop p).length=n+1:=by
      rw [List.length_append,List.length_cons,List.length_take,List.length_drop,HN.out];omega
     rw [E.out]
     exact ⟨some ⟨g4,0,none⟩,_,by rw [hlen];rfl,hit,hk,fun gx e=>by
      injection e with e;injection e with e;subst e
      rcases HF4.out with h2 | h2
      ·exact .inl h2
      ·have:=HBV.out.size;exact .inr (by omega)⟩
    ·skip
     refine wp_region_held_drew (S:=fun _=>True) (by kernel_rfl) trivial (fun hHeld=>?_)
     clear hHeld
     refine tkY 0 zgj (v:=?_) rfl trivial ?_ ?_
     rotate_left
     ·intro w hSw
      simp only [zgj];go_simp
      try with_reducible rfl
     try simp only [zgj,Act.put,pA,pB,pC]
     refine tkY 1 zgk (v:=?_) rfl trivial ?_ ?_
     rotate_left
     ·intro w hSw
      simp only [zgk];go_simp
      try with_reducible rfl
     try simp only [zgk,Act.put,pA,pB,pC]
     refine tkY 2 zgl (v:=?_) rfl trivial ?_ ?_
     rotate_left
     ·intro w hSw
      simp only [zgl];go_simp
      try with_reducible rfl
     try simp only [zgl,Act.put,pA,pB,pC]
     refine tkY 3 zgm (v:=?_) rfl trivial ?_ ?_
     rotate_left
     ·intro w hSw
      simp only [zgm];go_simp
      try with_reducible rfl
     try simp only [zgm,Act.put,pA,pB,pC]
     refine tkY 4 zgn (v:=?_) rfl trivial ?_ ?_
     rotate_left
     ·intro w hSw
      simp only [zgn];go_simp
      try with_reducible rfl
     try simp only [zgn,Act.put,pA,pB,pC]
     refine tkY 5 zgo (v:=?_) rfl trivial ?_ ?_
     rotate_left
     ·intro w hSw
      simp only [zgo];go_simp
      try with_reducible rfl
     try simp only [zgo,Act.put,pA,pB,pC]
     refine tkY 6 zgp (v:=?_) rfl trivial ?_ ?_
     rotate_left
     ·intro w hSw
      simp only [zgp];go_simp
      try with_reducible rfl
     try simp only [zgp,Act.put,pA,pB,pC]
     refine wpAnyH_ready (rs:=[7]) (by kernel_rfl) (by simp) ?_
     refine AllReadyH.cons (o:=zjq) rfl (fun K hK=>?_) AllReadyH.nil
     refine zgP rfl (.tmp 47) (.tmp 50) rfl (HR4.out.kept (X:=fun _=>False) (Kept.refl _ _).drew (fun _ _ h=>h)) HO4.out hq _ _ _ _ _ rfl rfl (by omega) (by omega) (fun h=>rfl) ?_
     intro w5 R5 K5
     refine hK.out _ _ trivial (fun hHeld=>?_)
     clear hK K hHeld
     try simp only [zjq,Act.put,pA,pB,pC]
     refine wpAnyH_done (by kernel_rfl) ?_ _
     have K45:Kept (fun k=>k=g4) w4 w5:=(Kept.refl (fun k=>k=g4) w4).drew.trans K5.out (fun i _ h=>h)
     have HK5:Hid (Kept (fun gx=>a=some ⟨gx,0,none⟩) w w5):=dq (HK4.out.trans K45 (fun i hi h=>by
      subst h
      rcases HF4.out with h2 | h2
      ·exact h2
      ·have:=HBV.out.size;omega))
     have HX5:=dq (HX4.out.kept K45 (fun h=>hne h))
     clear K5 K45 HX4
     have s1:=HX5.out.cell 0
     have s2:=HX5.out.cell 1
     simp only [List.getElem?_cons_zero,List.getElem?_cons_succ] at s1 s2
     obtain ⟨⟨v0,r0⟩,z0⟩:=R5.out.slot (j:=p*2) (by omega)
     obtain ⟨⟨v1,r1⟩,z1⟩:=R5.out.slot (j:=p*2+1) (by omega)
     have q7:(p:Int)<(n:Int)+1:=by omega
     go_wp2
     go_ret
     try subst hpc
     have hput:=zmK (x:=x) (b:=b) (d:=d) R5.out HLN.out hq
     rw [HXJ.out,HU.out] at hput
     have hX:g4<w.heap.size→a=some ⟨g4,0,none⟩:=fun h=>by
      rcases HF4.out with h2 | h2
      ·exact h2
      ·have:=HBV.out.size;omega
     have hk:=(HK5.out.setCell (p:=⟨g4,p*2,none⟩) hX (.int .i64 jx)).setCell (p:=⟨g4,p*2+1,none⟩) hX (.slice b u d)
     have hI:=HI.out
     rw [←HLN.out] at hput
     have hit:=zkv hI HS0.out hk p hput
     rw [HLS.out] at hit
     have hlen:(s.take p++x::s.drop p).length=n+1:=by
      rw [List.length_append,List.length_cons,List.length_take,List.length_drop,HN.out];omega
     rw [E.out]
     exact ⟨some ⟨g4,0,none⟩,_,by rw [hlen];rfl,hit,hk,fun gx e=>by
      injection e with e;injection e with e;subst e
      rcases HF4.out with h2 | h2
      ·exact .inl h2
      ·have:=HBV.out.size;exact .inr (by omega)⟩
end Go.Proofs.YtmnkjekjknhhjaaGreatDoor
namespace Go.Proofs.YtmnkjekjknhhjaaGreatDoor
open Go.ChangeShapes Go.WideShapes Go.ChangeAt Go.RowKit
theorem Its.kept {X:Nat→Prop} {w w':World} {a:Option Addr} {c:Nat} {s:List It} (h:Its w a c s) (k:Kept X w w') (h1:∀ g cs,Lies w g 111 cs→¬X g) (h2:∀ g cs,Lies w g 3 cs→¬X g):Its w' a c s:=by
 obtain ⟨ls,e,h⟩:=h
 refine ⟨ls,e,h.row.kept k (fun g e=>?_),fun l hl=>(h.each l hl).kept k (fun g e=>?_)⟩
 ·rcases h.row.2 with ⟨h3,_⟩ | ⟨g',sp,h3,_,_,_,l⟩
  ·rw [h3] at e;cases e
  ·rw [h3] at e;injection e with e;injection e with e;subst e
   exact h1 _ _ l
 ·rcases h.each l hl with ⟨h3,_⟩ | ⟨g',sp,h3,_,_,l⟩
  ·rw [h3] at e;cases e
  ·rw [h3] at e;injection e with e;injection e with e;subst e
   exact h2 _ _ l
theorem Its.mk {w w':World} {T:TypeId} {mp:Option Addr} {M:Mr} (h:MrAt w T mp M) (h1:T≠111) (h2:T≠3) (k:MK mp w w') {a:Option Addr} {c:Nat} {s:List It} (r:Its w a c s):Its w' a c s:=by
 have hap:∀ (t:TypeId) (g:Nat) (cs:List Value),t≠T→Lies w g t cs→mp≠some ⟨g,0,none⟩:=fun t g cs ht l e=>by
  rcases h.form with h | ⟨b,h,cs',l'⟩
  ·rw [h] at e;cases e
  ·rw [h] at e;injection e with e;injection e with e;subst e
   exact l.other l' ht rfl
 exact r.kept k (fun g cs l e=>hap _ g cs (Ne.symm h1) l e) (fun g cs l e=>hap _ g cs (Ne.symm h2) l e)
theorem MrAt.kept {X:Nat→Prop} {w w':World} {T:TypeId} {mp:Option Addr} {M:Mr} (h:MrAt w T mp M) (k:Kept X w w') (hx:∀ g,mp=some ⟨g,0,none⟩→¬X g):MrAt w' T mp M:=by
 cases M with
 | none=>exact h
 | some p=>
  obtain ⟨B,S,o⟩:=p
  obtain ⟨b,e,a,r⟩:=h
  exact ⟨b,e,Lies.kept a k (hx b e),r⟩
theorem MrAt.lt {w:World} {T:TypeId} {mp:Option Addr} {M:Mr} (h:MrAt w T mp M) {g:Nat} (e:mp=some ⟨g,0,none⟩):g<w.heap.size:=by
 rcases h.form with h | ⟨b,h,cs,l⟩
 ·rw [h] at e;cases e
 ·rw [h] at e;injection e with e;injection e with e;subst e
  exact l.lt
theorem zlE {W:World} {oa:Option Addr} {oc:Nat} {O:List It} (h:Its W oa oc O) {t:TypeId} {cs:List Value} {g:Nat} (l:Lies W g t cs) (ht:t≠111):oa≠some ⟨g,0,none⟩:=by
 intro e
 obtain ⟨ls,_,h⟩:=h
 rcases h.row.2 with ⟨h3,_⟩ | ⟨g',sp,h3,_,_,_,l'⟩
 ·rw [h3] at e;cases e
 ·rw [h3] at e;injection e with e;injection e with e;subst e
  exact l.other l' ht rfl
theorem zkC {W W':World} {oa:Option Addr} {oc:Nat} {O:List It} (h:Its W oa oc O) (k:Kept (fun g=>oa=some ⟨g,0,none⟩) W W') {a:Option Addr} {c:Nat} {xs:List Int} (r:Bag W a c xs):Bag W' a c xs:=by
 refine r.kept k (fun g e=>?_)
 rcases r with ⟨h3,_⟩ | ⟨g',sp,h3,_,_,l⟩
 ·rw [h3] at e;cases e
 ·rw [h3] at e;injection e with e;injection e with e;subst e
  exact zlE h l (by decide)
theorem zkD {W W':World} {oa:Option Addr} {oc:Nat} {O:List It} (h:Its W oa oc O) (k:Kept (fun g=>oa=some ⟨g,0,none⟩) W W') {a:Option Addr} {c:Nat} {xs:List (List Int)} (r:Bags W a c xs):Bags W' a c xs:=by
 obtain ⟨ps,e,Q⟩:=r
 refine ⟨ps,e,Q.row.kept k (fun g e=>?_),fun p hp=>zkC h k (Q.each p hp)⟩
 rcases Q.row with ⟨h3,_⟩ | ⟨g',sp,h3,_,_,l⟩
 ·rw [h3] at e;cases e
 ·rw [h3] at e;injection e with e;injection e with e;subst e
  exact zlE h l (by decide)
def zez (s:List Lin) (l:List It):Nat:=(l.map (fun x=>2 ^ (zab s x.j.toNat).ps.length)).sum
theorem zgQ (s:List Lin) (x:It) (r:List It):zez s (x::r)=2 ^ (zab s x.j.toNat).ps.length+zez s r:=rfl
theorem zlF {l:List It} {k:Nat} (hk:k<l.length):l.drop k=itAt l k::l.drop (k+1):=by
 rw [za3 hk,List.drop_eq_getElem_cons hk]
theorem zkE {s:List Lin} {letter:Int} {x:It} {r:List It} {M:Mr} {O:List It} (h:20<(zab s x.j.toNat).ps.length):itGo s letter (x::r) M O=([],3,M):=by
 rw [itGo,if_pos h]
theorem zlG {s:List Lin} {letter:Int} {x:It} {r:List It} {M:Mr} {O:List It} (h:¬20<(zab s x.j.toNat).ps.length) {p:Bool×Mr} (e:spendM M ((2 ^ (zab s x.j.toNat).ps.length:Nat):Int)=p) (hp:p.1=false):itGo s letter (x::r) M O=([],7,p.2):=by
 rw [itGo,if_neg h,e,hp];rfl
theorem znP {s:List Lin} {letter:Int} {x:It} {r:List It} {M:Mr} {O:List It} (h:¬20<(zab s x.j.toNat).ps.length) {p:Bool×Mr} (e:spendM M ((2 ^ (zab s x.j.toNat).ps.length:Nat):Int)=p) (hp:p.1=true) (hc:zcP x (zab s x.j.toNat).ps letter (2 ^ (zab s x.j.toNat).ps.length) 0 O=none):itGo s letter (x::r) M O=([],3,p.2):=by
 rw [itGo,if_neg h,e,hp,if_pos rfl,hc]
theorem zin {s:List Lin} {letter:Int} {x:It} {r:List It} {M:Mr} {O O':List It} (h:¬20<(zab s x.j.toNat).ps.length) {p:Bool×Mr} (e:spendM M ((2 ^ (zab s x.j.toNat).ps.length:Nat):Int)=p) (hp:p.1=true) (hc:zcP x (zab s x.j.toNat).ps letter (2 ^ (zab s x.j.toNat).ps.length) 0 O=some O'):itGo s letter (x::r) M O=itGo s letter r p.2 O':=by
 rw [itGo,if_neg h,e,hp,if_pos rfl,hc]
end Go.Proofs.YtmnkjekjknhhjaaGreatDoor
namespace Go.Proofs.YtmnkjekjknhhjaaGreatDoor
open Go.ChangeShapes Go.WideShapes Go.ChangeAt Go.RowKit
set_option maxRecDepth 100000 in
theorem zlH (a:Option Addr) (c:Nat) (l:List It) (w:World) (R:Its w a c l) :
  Calls Tryz.prog 51 #[.slice a l.length c] w (TellsB (finalL l) w):=by
 have hle:=R.le
 have HR:=dq R
 generalize hn:l.length=n at hle ⊢
 have HN:=dq hn
 clear R hn
 go_enter Tryz.func51,Tryz.ntmps51
 go_wp2
 go_loopw [2,7] (fun r i wr=>∃ k:Nat,k≤n∧r=.bool false∧i=.int .i64 k∧Hid (Below w.heap.size w wr)∧Hid (∀ j,j<k→(itAt l j).c≠[])) (fun _ i _=>n-(intOf i).toNat)
 case atStart=>exact ⟨0,Nat.zero_le _,rfl,rfl,dq (Below.refl _ _),dq (fun j h=>absurd h (Nat.not_lt_zero _))⟩
 case round=>
  obtain ⟨k,hk,rfl,rfl,HB,HE⟩:=hrel
  by_cases hlt:k<n
  ·obtain ⟨g,b,d,e1,c0,c1,B1⟩:=(HR.out.below HB.out).at (k:=k) (by rw [HN.out];exact hlt)
   subst e1
   have hbl:=B1.le
   generalize hu:(itAt l k).c.length=u at c1 hbl
   have HU:=dq hu
   generalize (itAt l k).j=j at c0
   have bb:=below_alloc wr (.cells #[.int .i64 j,.slice b u d] 111)
   have HB2:=dq (HB.out.trans (bb.mono HB.out.size))
   clear B1 bb hu
   by_cases h0:u=0
   ·subst h0
    have E:Hid (finalL l=true):=dq (by
     unfold finalL
     rw [List.any_eq_true]
     have hkl:k<l.length:=by rw [HN.out];exact hlt
     refine ⟨l[k],List.getElem_mem hkl,?_⟩
     rw [←za3 hkl,decide_eq_true_eq]
     exact List.eq_nil_of_length_eq_zero HU.out)
    go_wp2
    go_ret
    exact ⟨by rw [E.out];try rfl,HB2.out⟩
   ·have h0b:((u:Int)==0)=false:=by simp;omega
    have HE2:Hid (∀ j,j<k+1→(itAt l j).c≠[]):=dq (fun j hj=>by
     by_cases e:j=k
     ·subst e
      intro h
      have h2:=HU.out
      rw [h] at h2
      exact h0 h2.symm
     ·exact HE.out j (by omega))
    go_wp2
    go_roundw
    case rel=>exact ⟨k+1,hlt,rfl,by go_num,HB2,HE2⟩
    case measure=>simp [intOf];omega
  ·have E:Hid (finalL l=false):=dq (by
    unfold finalL
    rw [List.any_eq_false]
    intro x hx
    obtain ⟨i,hi,rfl⟩:=List.getElem_of_mem hx
    rw [←za3 hi,decide_eq_true_eq]
    exact HE.out i (by rw [HN.out] at hi;omega))
   go_wp2
   go_ret
   exact ⟨by rw [E.out];try rfl,HB.out⟩
def zqf (s:List It) (w:World) (e:Ending) (w':World):Prop:=∃ a c,e=.returned (.slice a s.length c)∧Its w' a c s∧From w.heap.size a∧Below w.heap.size w w'
theorem zkF {w w':World} {a b:Option Addr} {c d:Nat} {s:List It} {x:It} {ls:List Ib} (hs:its ls=s) (h:Ibs w a c ls) (hx:Bag w b d x.c) {n u:Nat} (hn:s.length=n) (hu:x.c.length=u) {v:Value}
  (r:AppendsI a n 1 (zay ls) [.int .i64 x.j,.slice b u d] w v w'):∃ a' c',v=.slice a' (n+1) c'∧Its w' a' c' (s++[x])∧∀ B,B≤w.heap.size→From B a→From B a'∧Below B w w':=by
 subst hn hu hs
 have hb:=fun (B:Nat) (hB:B≤w.heap.size) (hf:From B a)=>r.below hB hf
 obtain ⟨a',c',rfl,R,k,f⟩:=r
 refine ⟨a',c',rfl,?_,fun B hB hf=>?_⟩
 ·have h2:=zkv h hx k ls.length (a':=a') (c':=c') (by
   rw [List.take_length,List.drop_length,zgf]
   rw [zbj] at R
   exact R)
  have e1:(its ls).take ls.length=its ls:=List.take_of_length_le (by rw [zbj];exact Nat.le_refl _)
  have e2:(its ls).drop ls.length=[]:=List.drop_eq_nil_of_le (by rw [zbj];exact Nat.le_refl _)
  rw [e1,e2] at h2
  exact h2
 ·have h3:=hb B hB hf
  exact ⟨h3.2 a' _ c' rfl,h3.1⟩
def zcR (s:List Lin) (k:Nat):List It:=(List.range k).map (fun j:Nat=>(⟨(j:Int),(zab s j).base⟩:It))
theorem zby (s:List Lin) (k:Nat):(zcR s k).length=k:=by unfold zcR;rw [List.length_map,List.length_range]
theorem zio (s:List Lin) (k:Nat):zcR s (k+1)=zcR s k++[⟨(k:Int),(zab s k).base⟩]:=by
 unfold zcR
 rw [List.range_succ,List.map_append];rfl
set_option maxRecDepth 100000 in
set_option maxHeartbeats 2000000 in
theorem zlI (a:Option Addr) (c:Nat) (s:List Lin) (w:World) (R:Lins w a c s) (hb:s.length≤1000000) :
  Calls Tryz.prog 48 #[.slice a s.length c] w (zqf (startL s) w):=by
 have hle:=R.le
 have Z:=zaC a c s w R
 have HR:=dq R
 generalize hn:s.length=n at hle hb Z ⊢
 have HN:=dq hn
 generalize hv:zam s=v at Z
 have HV:=dq hv
 have HZ:=dq Z
 clear R hn hv Z
 go_enter Tryz.func48,Tryz.ntmps48
 go_wp2_with (fail)
 refine HZ.out.mono ?_
 rintro e w1 ⟨rfl,b1⟩
 have HB:=dq b1
 clear b1 HZ
 cases v with
 | false=>
  have E:Hid (startL s=[]):=dq (by unfold startL;rw [HV.out];rfl)
  go_wp2
  go_ret
  rw [E.out]
  exact ⟨none,0,rfl,Its.nil _,From.none _,HB.out⟩
 | true=>
  have HRB:Hid (∀ k,k<n→(zab s k).base.length≤12):=dq (fun k hk=>by
   have h:=((zbt s).1 HV.out k (by rw [HN.out];exact hk)).1
   exact (zac.1 (zai.1 h).1).1)
  have E:Hid (startL s=zcR s n):=dq (by unfold startL zcR;rw [HV.out,if_pos rfl,HN.out])
  go_wp2
  go_loopw [3,11] (fun al i wr=>∃ (k:Nat) (oa:Option Addr) (oc:Nat),k≤n∧al=.slice oa k oc∧i=.int .i64 k∧Hid (Its wr oa oc (zcR s k))∧Hid (From w.heap.size oa)∧Hid (Below w.heap.size w wr)) (fun _ i _=>n-(intOf i).toNat)
  case atStart=>exact ⟨0,none,0,Nat.zero_le _,rfl,rfl,dq (Its.nil _),dq (From.none _),HB⟩
  case round=>
   clear HB
   obtain ⟨k,oa,oc,hk,rfl,rfl,HI,HF,HB⟩:=hrel
   by_cases hlt:k<n
   ·obtain ⟨g,b,d,pb,pd,e1,c0,c1,B1,_⟩:=(HR.out.below HB.out).at (k:=k) (by rw [HN.out];exact hlt)
    subst e1
    have hbl:=B1.le
    have h12:=HRB.out k hlt
    generalize hu:(zab s k).base.length=u at c0 hbl h12
    generalize (zab s k).ps.length=z at c1
    have bb:=below_alloc wr (.cells #[.slice b u d,.slice pb z pd] 53)
    obtain ⟨v1,w2,hr1,a2,c2,e2,B2,f2,b2⟩:=zcw 31 31 Tryz.underlying31 b d (zab s k).base _ (B1.below bb) (by rw [hu];omega)
    rw [hu] at hr1 e2
    injection e2 with e2
    subst e2
    have bz:=below_alloc w2 (.cells #[.int .i64 k,.slice a2 u c2] 111)
    have bA:=(bb.trans (b2.mono bb.size)).trans (bz.mono (Nat.le_trans bb.size b2.size))
    obtain ⟨ls,hls,I⟩:=HI.out.below bA
    have hln:ls.length=k:=by rw [←zbj,hls,zby]
    have RR:=I.row
    rw [hln] at RR
    have LZ:=Lies.new w2 111 [.int .i64 k,.slice a2 u c2]
    obtain ⟨v4,w4,hr2,A4⟩:=zbx 77 77 Tryz.underlying77 oa oc k (zay ls) _ RR ⟨w2.heap.size,0,none⟩ 1 1 [.int .i64 k,.slice a2 u c2] rfl (fun j y hj=>by rw [Addr.add_lit,Nat.zero_add];exact (LZ.cell j).trans hj) (by intro y hy;simp only [List.mem_cons,List.not_mem_nil,or_false] at hy;rcases hy with rfl | rfl<;>rfl) (by omega)
    obtain ⟨a4,c4,rfl,I4,G4⟩:=zkF (x:=⟨(k:Int),(zab s k).base⟩) hls I (B2.below bz) (zby s k) hu A4
    rw [←zio] at I4
    have hsz:=HB.out.size
    have hG:=G4 w.heap.size (Nat.le_trans hsz bA.size) HF.out
    have HI4:=dq I4
    have HF4:=dq hG.1
    have HB4:Hid (Below w.heap.size w w4):=dq ((HB.out.trans (bA.mono hsz)).trans hG.2)
    have hc4:=HI4.out.le
    rw [zby] at hc4
    clear bb bz bA RR LZ A4 I4 hG G4 B1 B2 f2 b2 I hls hln
    go_wp2_with (at_builtin;first | refine Lib.wpList_append_run (o:=⟨some 20,_,_,_,_,_⟩) _ rfl _ _ _ _ rfl _ _ rfl rfl _ _ hr1 ?_ | refine Lib.wpList_append_run (o:=⟨some 23,_,_,_,_,_⟩) _ rfl _ _ _ _ rfl _ _ rfl rfl _ _ hr2 ?_)
    go_roundw
    case rel=>exact ⟨k+1,a4,c4,hlt,rfl,by go_num,HI4,HF4,HB4⟩
    case measure=>simp [intOf];omega
   ·have hkn:k=n:=by omega
    subst hkn
    go_wp2
    go_ret
    rw [E.out]
    exact ⟨oa,oc,by rw [zby];rfl,HI.out,HF.out,HB.out⟩
end Go.Proofs.YtmnkjekjknhhjaaGreatDoor
namespace Go.Proofs.YtmnkjekjknhhjaaGreatDoor
open Go.ChangeShapes Go.WideShapes Go.ChangeAt Go.RowKit
theorem zoJ (n:Int) (w:World):Calls Tryz.prog 63 #[.pointer none,.int .i64 n] w fun e w'=>e=.returned (.bool true)∧w=w':=by
 go_enter Tryz.func63,Tryz.ntmps63
 go_wp2
 go_ret
 exact ⟨rfl,rfl⟩
theorem zmN (mp:Option Addr) (M:Mr) (n:Int) (w:World) (h:MrAt w 41 mp M):Calls Tryz.prog 63 #[.pointer mp,.int .i64 n] w (zch 41 mp M n w):=by
 by_cases hm:M=none
 ·subst hm
  obtain rfl:mp=none:=h
  exact (zoJ n w).mono fun e w' ⟨he,hw⟩=>by subst hw;exact ⟨he,rfl,Kept.refl _ _⟩
 ·exact zkg mp M n w h hm
structure NxSt (w:World) (mp:Option Addr) (M:Mr) (oa:Option Addr) (oc:Nat) (O:List It) (W:World):Prop where
 kept:MK mp w W
 old:∀ g,mp=some ⟨g,0,none⟩→g<w.heap.size
 meter:MrAt W 41 mp M
 out:Its W oa oc O
 rise:zcy O
 fresh:From w.heap.size oa
section
variable {w W W':World} {mp oa:Option Addr} {M:Mr} {oc:Nat} {O:List It}
theorem NxSt.zero (h:MrAt w 41 mp M) (b:Below w.heap.size w W):NxSt w mp M none 0 [] W:=
 ⟨Kept.of_below b,fun g e=>h.lt e,h.below b,Its.nil _,⟨fun x hx=>(by cases hx),List.Pairwise.nil⟩,From.none _⟩
theorem NxSt.below (h:NxSt w mp M oa oc O W) (b:Below W.heap.size W W'):NxSt w mp M oa oc O W':=
 ⟨h.kept.then b,h.old,h.meter.below b,h.out.below b,h.rise,h.fresh⟩
theorem NxSt.spent {M':Mr} (h:NxSt w mp M oa oc O W) (m:MrAt W' 41 mp M') (k:MK mp W W'):NxSt w mp M' oa oc O W':=
 ⟨h.kept.and k,h.old,m,h.out.mk h.meter (by decide) (by decide) k,h.rise,h.fresh⟩
theorem NxSt.put (h:NxSt w mp M oa oc O W) {z:It} (hz:zah z=true) {a':Option Addr} {c':Nat} (r:Its W' a' c' (zfz z O)) (k:Kept (fun g=>oa=some ⟨g,0,none⟩) W W') (f:∀ g,a'=some ⟨g,0,none⟩→oa=some ⟨g,0,none⟩∨W.heap.size≤g):NxSt w mp M a' c' (zfz z O) W':=by
 have hs:=h.kept.size
 refine ⟨h.kept.trans k (fun i hi e=>?_),h.old,h.meter.kept k (fun g e e2=>?_),r,zev hz h.rise,fun g e=>?_⟩
 ·have:=h.fresh i e
  omega
 ·have:=h.fresh g e2
  have:=h.old g e
  omega
 ·rcases f g e with h2 | h2
  ·exact h.fresh g h2
  ·omega
theorem NxSt.lins (h:NxSt w mp M oa oc O W) {M0:Mr} (m:MrAt w 41 mp M0) {a:Option Addr} {c:Nat} {s:List Lin} (r:Lins w a c s):Lins W a c s:=r.mk m (by unfold MT;decide) h.kept
theorem NxSt.its (h:NxSt w mp M oa oc O W) {M0:Mr} (m:MrAt w 41 mp M0) {a:Option Addr} {c:Nat} {s:List It} (r:Its w a c s):Its W a c s:=r.mk m (by decide) (by decide) h.kept
end
def zis (mp:Option Addr) (r:List It×Int×Mr) (w:World) (e:Ending) (w':World):Prop:=
 ∃ a c,e=.returned (.tuple #[.slice a r.1.length c,.int .i64 r.2.1])∧Its w' a c r.1∧From w.heap.size a∧MrAt w' 41 mp r.2.2∧MK mp w w'
theorem zdT {mp:Option Addr} {r:List It×Int×Mr} {q:Int} {M:Mr} {w w':World} (h:r=([],q,M)) (m:MrAt w' 41 mp M) (k:MK mp w w'):zis mp r w (.returned (.tuple #[.slice none 0 0,.int .i64 q])) w':=by
 subst h
 exact ⟨none,0,rfl,Its.nil _,From.none _,m,k⟩
theorem zux {q N y r B:Nat} (h:q+(N-y)+r≤B) (hy:y<N):q+(N-(y+1))+r≤B:=by omega
theorem zuy {p q N y r B:Nat} (h:q+(N-y)+r≤B) (hy:y<N) (hp:p≤q+1):p+(N-(y+1))+r≤B:=by omega
set_option maxRecDepth 100000 in
set_option maxHeartbeats 4000000 in
theorem zlM (mp sa a:Option Addr) (sc c:Nat) (M:Mr) (s:List Lin) (l:List It) (letter:Int) (w:World) (HMM0:MrAt w 41 mp M) (R0:Lins w sa sc s) (R:Its w a c l) (hcost:zez s l≤100000000000) :
  Calls Tryz.prog 49 #[.pointer mp,.slice sa s.length sc,.slice a l.length c,.int .u64 letter] w (zis mp (nextM M s l letter) w):=by
 have hle:=R.le
 have hle0:=R0.le
 have Z:=zi0 sa a sc c s l w R0 R
 have HIF:=dq (zb3 (s:=s) (l:=l))
 have HR:=dq R
 have HRS:=dq R0
 have HMM:=dq HMM0
 have HCO:=dq hcost
 generalize hn:l.length=n at hle Z HIF ⊢
 generalize hm:s.length=m at hle0 Z HIF ⊢
 have HN:=dq hn
 have HM:=dq hm
 generalize hv:zaq s l=v at Z HIF
 have HV:=dq hv
 have HZ:=dq Z
 clear R R0 hn hm Z hv HMM0 hcost
 go_enter Tryz.func49,Tryz.ntmps49
 go_wp2_with (fail)
 refine HZ.out.mono ?_
 rintro e w1 ⟨rfl,b1⟩
 have HB:=dq b1
 clear b1 HZ
 cases v with
 | false=>
  have HF:Hid (zis mp (nextM M s l letter) w (.returned (.tuple #[.slice none 0 0,.int .i64 1])) w1):=dq (zdT (by unfold nextM;rw [HV.out];rfl) (HMM.out.below HB.out) (Kept.of_below HB.out))
  go_wp2
  exact bodyPost_ret (v:=.tuple #[.slice none 0 0,.int .i64 1]) (by simp [results,Tryz.results49,go_sem]) rfl HF.out
 | true=>
  have HGO:Hid (nextM M s l letter=itGo s letter l M []):=dq (by unfold nextM;rw [HV.out];rfl)
  go_wp2
  go_loopw [8,9,10,25] (fun r er al i wr=>∃ (k q:Nat) (oa:Option Addr) (oc:Nat) (O:List It) (Mi:Mr),k≤n∧r=.slice none 0 0∧er=.int .i64 0∧al=.slice oa q oc∧i=.int .i64 k∧Hid (O.length=q)∧Hid (NxSt w mp Mi oa oc O wr)∧Hid (nextM M s l letter=itGo s letter (l.drop k) Mi O)∧Hid (q+zez s (l.drop k)≤100000000000)) (fun _ _ _ i _=>n-(intOf i).toNat)
  case atStart=>exact ⟨0,0,none,0,[],M,Nat.zero_le _,rfl,rfl,rfl,rfl,dq rfl,dq (NxSt.zero HMM.out HB.out),HGO,dq (by rw [List.drop_zero];have:=HCO.out;omega)⟩
  case round=>
   obtain ⟨k,q,oa,oc,O,Mi,hk,rfl,rfl,rfl,rfl,HQ,HT,HE,HC⟩:=hrel
   by_cases hlt:k<n
   ·obtain ⟨g,b,d,e1,c0,c1,B1⟩:=(HT.out.its HMM.out HR.out).at (k:=k) (by rw [HN.out];exact hlt)
    subst e1
    have hbl:=B1.le
    have ltg:=HT.out.kept.size
    generalize hu:(itAt l k).c.length=u at c1 hbl
    have HU:=dq hu
    clear hu
    generalize hj:(itAt l k).j=j at c0
    have HJV:=dq hj
    clear hj
    obtain ⟨jn,hjn⟩:∃ jn:Nat,j=(jn:Int):=⟨j.toNat,by
     have:=(HIF.out.1 trivial).2.1 k hlt
     rw [HJV.out] at this
     omega⟩
    subst hjn
    have hjm:jn<m:=by
     have:=(HIF.out.1 trivial).2.1 k hlt
     rw [HJV.out] at this
     omega
    have bb:=below_alloc wr (.cells #[.int .i64 jn,.slice b u d] 111)
    have HTW:=dq (HT.out.below bb)
    have HX:=dq (Lies.new wr 111 [.int .i64 jn,.slice b u d])
    have HNE:Hid (oa≠some ⟨wr.heap.size,0,none⟩):=dq (fun e=>Nat.lt_irrefl _ (HT.out.out.lt e))
    have HB1:=dq (B1.below bb)
    clear B1 bb
    go_upto_region 7 with (fail)
    clear c0 c1
    generalize wr.alloc (.cells #[.int .i64 jn,.slice b u d] 111)=W at HTW HX HB1 ⊢
    generalize wr.heap.size=gx at HX HNE ltg ⊢
    clear HT
    obtain ⟨g2,b2,d2,pb,pd,e2,_,c3,_,P1⟩:=(HTW.out.lins HMM.out HRS.out).at (k:=jn) (by rw [HM.out];exact hjm)
    subst e2
    have x0:=HX.out.cell 0
    have x1:=HX.out.cell 1
    simp only [List.getElem?_cons_zero,List.getElem?_cons_succ] at x0 x1
    have HPJ:Hid (zab s (itAt l k).j.toNat=zab s jn):=dq (by rw [HJV.out,Int.toNat_natCast])
    have HD:=dq (zlF (l:=l) (k:=k) (by rw [HN.out];exact hlt))
    generalize hz:(zab s jn).ps.length=z at c3
    have HZL:=dq hz
    clear hz
    have i1:(0:Int)≤(jn:Int):=by omega
    have i2:(jn:Int)<(m:Int):=by omega
    by_cases h20:20<z
    ·have h20b:(20:Int)<(z:Int):=by omega
     have HF:Hid (zis mp (nextM M s l letter) w (.returned (.tuple #[.slice none 0 0,.int .i64 3])) W):=dq (zdT (M:=Mi) (by rw [HE.out,HD.out];exact zkE (by rw [HPJ.out,HZL.out];exact h20)) HTW.out.meter HTW.out.kept)
     go_wp2
     exact bodyPost_ret (v:=.tuple #[.slice none 0 0,.int .i64 3]) (by simp [results,Tryz.results49,go_sem]) rfl HF.out
    ·have h20b:¬(20:Int)<(z:Int):=by omega
     obtain ⟨N,hN⟩:∃ N:Nat,N=2 ^ z:=⟨_,rfl⟩
     have hNb:N≤1048576:=by rw [hN];exact Nat.le_trans (Nat.pow_le_pow_right (by omega) (by omega:z≤20)) (by decide)
     have hw:wrap64 ((2:Int) ^ z)=(N:Int):=by
      have e:((2:Int) ^ z)=(N:Int):=by rw [hN];simp
      rw [e]
      exact IntWalk.wrap64_in _ (by omega)
     have HNP:Hid ((2 ^ (zab s (itAt l k).j.toNat).ps.length:Nat)=N):=dq (by rw [HPJ.out,HZL.out,hN])
     have H20:Hid (¬20<(zab s (itAt l k).j.toNat).ps.length):=dq (by rw [HPJ.out,HZL.out];exact h20)
     clear hN
     have Z:=zmN mp Mi (N:Int) W HTW.out.meter
     unfold zch at Z
     generalize hq:spendM Mi (N:Int)=p at Z
     have HSP:Hid (spendM Mi ((2 ^ (zab s (itAt l k).j.toNat).ps.length:Nat):Int)=p):=dq (by rw [HNP.out];exact hq)
     clear hq
     obtain ⟨v,M1⟩:=p
     have HZ:=dq Z
     clear Z
     go_wp2_with (fail)
     refine HZ.out.mono ?_
     rintro e w3 ⟨rfl,m3,k3⟩
     have HT3:=dq (HTW.out.spent m3 k3)
     have HX3:=dq (HX.out.kept k3 (fun e=>by
      have:=HMM.out.lt e
      omega))
     have HB3:Hid (Bag w3 b d (itAt l k).c):=dq (HB1.out.kept k3 (fun g e=>zaV HTW.out.meter (by decide) HB1.out e))
     have HP3:Hid (Bags w3 pb pd (zab s jn).ps):=dq (by
      obtain ⟨ps,e,Q⟩:=P1
      exact ⟨ps,e,Q.row.kept k3 (fun g e=>zcD HTW.out.meter (by decide) Q.row e),fun p hp=>(Q.each p hp).kept k3 (fun g e=>zaV HTW.out.meter (by decide) (Q.each p hp) e)⟩)
     clear HTW HX HZ m3 k3 x0 x1 c3 HB1 P1
     cases v with
     | false=>
      have HF:Hid (zis mp (nextM M s l letter) w (.returned (.tuple #[.slice none 0 0,.int .i64 7])) w3):=dq (zdT (M:=M1) (by rw [HE.out,HD.out];exact zlG H20.out HSP.out rfl) HT3.out.meter HT3.out.kept)
      go_wp2
      exact bodyPost_ret (v:=.tuple #[.slice none 0 0,.int .i64 7]) (by simp [results,Tryz.results49,go_sem]) rfl HF.out
     | true=>
      generalize hmq:zcP (itAt l k) (zab s (itAt l k).j.toNat).ps letter (2 ^ (zab s (itAt l k).j.toNat).ps.length) 0 O=mq
      have HMQ:=dq hmq
      clear hmq
      have HMQ0:Hid (zcP (itAt l k) (zab s jn).ps letter N 0 O=mq):=dq (by have h:=HMQ.out;rw [HNP.out,HPJ.out] at h;exact h)
      have HC2:Hid (q+N+zez s (l.drop (k+1))≤100000000000):=dq (by
       have h:=HC.out
       rw [HD.out,zgQ,HNP.out,←Nat.add_assoc] at h
       exact h)
      go_wp2
      go_loopw [8,9,10,14] (fun r er al i wr=>∃ (y q:Nat) (oa:Option Addr) (oc:Nat) (O:List It),y≤N∧r=.slice none 0 0∧er=.int .i64 0∧al=.slice oa q oc∧i=.int .i64 y∧Hid (O.length=q)∧Hid (NxSt w mp M1 oa oc O wr)∧Hid (Lies wr gx 111 [.int .i64 jn,.slice b u d])∧Hid (oa≠some ⟨gx,0,none⟩)∧Hid (Bag wr b d (itAt l k).c)∧Hid (Bags wr pb pd (zab s jn).ps)∧Hid (zcP (itAt l k) (zab s jn).ps letter (N-y) y O=mq)∧Hid (q+(N-y)+zez s (l.drop (k+1))≤100000000000)) (fun _ _ _ i _=>N-(intOf i).toNat)
      case atStart=>exact ⟨0,q,oa,oc,O,Nat.zero_le _,rfl,rfl,rfl,rfl,HQ,HT3,HX3,HNE,HB3,HP3,dq (by rw [Nat.sub_zero];exact HMQ0.out),dq (by rw [Nat.sub_zero];exact HC2.out)⟩
      case round=>
       clear HT3 HX3 HNE HMQ0 HC2 HQ HC HB3 HP3
       obtain ⟨y,q,oa,oc,O,hy,rfl,rfl,rfl,rfl,HQ,HT,HX,HNE,HB,HP,HMF,HC⟩:=hrel
       by_cases hyN:y<N
       ·have x1:=HX.out.cell 1
        have x0:=HX.out.cell 0
        simp only [List.getElem?_cons_zero,List.getElem?_cons_succ] at x0 x1
        have hps:=HP.out.le
        have hci:zaa (itAt l k).c=true:=((HIF.out.1 trivial).2.2 k hlt).1
        have Z:=zjp b pb d pd (itAt l k).c (zab s jn).ps y _ HB.out HP.out hci (by rw [HZL.out];exact Nat.le_of_not_lt h20) (Nat.lt_of_lt_of_le hyN (Nat.le_trans hNb (by decide)))
        have HM1:Hid (mq=match chosenL (itAt l k).c (zab s jn).ps y with
          | none=>none
          | some c=>zcP (itAt l k) (zab s jn).ps letter (N-(y+1)) (y+1) (if zao c=letter then zfz ⟨(itAt l k).j,halfL c⟩ O else O)):=dq (by
         have h:=HMF.out
         rw [show N-y=N-(y+1)+1 from (Nat.succ_sub_succ N y).symm ▸ (Nat.succ_sub hyN)] at h
         exact h.symm)
        generalize ho:chosenL (itAt l k).c (zab s jn).ps y=o at Z HM1
        have HO:=dq ho
        rw [HU.out,HZL.out] at Z
        rw [HZL.out] at hps
        have HZ:=dq Z
        clear Z ho hci HMF
        have hyI:(y:Int)<(N:Int):=Int.ofNat_lt.2 hyN
        go_wp2_with (fail)
        clear hw
        refine HZ.out.mono ?_
        rintro e w4 h4
        cases o with
        | none=>
         obtain ⟨rfl,b4⟩:=h4
         have HT4:=dq (HT.out.below b4)
         have HF:Hid (zis mp (nextM M s l letter) w (.returned (.tuple #[.slice none 0 0,.int .i64 3])) w4):=dq (zdT (M:=M1) (by rw [HE.out,HD.out];exact znP H20.out HSP.out rfl (HMQ.out.trans HM1.out)) HT4.out.meter HT4.out.kept)
         clear x0 x1 b4 HZ HT HX HB HP HM1 HC
         go_wp2
         exact bodyPost_ret (v:=.tuple #[.slice none 0 0,.int .i64 3]) (by simp [results,Tryz.results49,go_sem]) rfl HF.out
        | some cc=>
         obtain ⟨a4,c4,rfl,B4,r4,f4,b4⟩:=h4
         have HT4:=dq (HT.out.below b4)
         have HX4:=dq (HX.out.below b4 HX.out.lt)
         have HB4:=dq (HB.out.below b4)
         have HP4:=dq (HP.out.below b4)
         have HM2:Hid (mq=zcP (itAt l k) (zab s jn).ps letter (N-(y+1)) (y+1) (if zao cc=letter then zfz ⟨(itAt l k).j,halfL cc⟩ O else O)):=dq HM1.out
         have Z2:=zjo a4 c4 cc w4 B4 r4
         unfold zqc at Z2
         have hc4:=B4.le
         generalize cc.length=cl at Z2 hc4 ⊢
         generalize hod:zao cc=od at Z2 HM2
         generalize hhl:(halfL cc).length=hn5 at Z2
         have HHL:=dq hhl
         have HZ2:=dq Z2
         have HRI5:Hid (zaa (halfL cc)=true):=dq (zfP _)
         clear x0 x1 b4 f4 HZ HT HX HB HP HM1 HO Z2 hod hhl r4 B4
         generalize halfL cc=hc5 at HZ2 HM2 HHL HRI5
         go_wp2_with (fail)
         refine HZ2.out.mono ?_
         rintro e w5 ⟨a5,c5,rfl,B5,f5,b5⟩
         have HT5:=dq (HT4.out.below b5)
         have HX5:=dq (HX4.out.below b5 HX4.out.lt)
         have HB5:=dq (HB4.out.below b5)
         have HP5:=dq (HP4.out.below b5)
         have HC5:=dq B5
         have hb5:=B5.le
         rw [HHL.out] at hb5
         clear b5 f5 B5 HT4 HX4 HB4 HP4 HZ2
         have x0:=HX5.out.cell 0
         have x1:=HX5.out.cell 1
         simp only [List.getElem?_cons_zero,List.getElem?_cons_succ] at x0 x1
         by_cases hol:od=letter
         ·have HM3:Hid (mq=zcP (itAt l k) (zab s jn).ps letter (N-(y+1)) (y+1) (zfz ⟨(jn:Int),hc5⟩ O)):=dq (by have h:=HM2.out;rwa [if_pos hol,HJV.out] at h)
          have holb:(od==letter)=true:=by rw [hol];exact BEq.rfl
          have Z3:=zmL oa oc O ⟨(jn:Int),hc5⟩ a5 hn5 c5 w5 HT5.out.out HT5.out.rise HRI5.out HC5.out HHL.out (by
           have h:=HC.out
           rw [HQ.out]
           exact Nat.le_trans (Nat.le_trans (Nat.le_add_right _ _) (Nat.le_add_right _ _)) h)
          rw [HQ.out] at Z3
          unfold zuw at Z3
          have hlen:=zks (⟨(jn:Int),hc5⟩:It) O
          rw [HQ.out] at hlen
          generalize hpo:zfz (⟨(jn:Int),hc5⟩:It) O=PO at Z3 hlen HM3
          have HPO:=dq hpo
          generalize hpl:PO.length=pl at Z3 hlen
          have HPL:=dq hpl
          have HZ3:=dq Z3
          clear Z3 hpo hpl HM2
          go_wp2_with (fail)
          refine HZ3.out.mono ?_
          rintro e w6 ⟨a6,c6,rfl,I6,k6,f6⟩
          have HT6:Hid (NxSt w mp M1 a6 c6 PO w6):=dq (by
           have h:=HPO.out
           subst h
           exact HT5.out.put (z:=⟨(jn:Int),hc5⟩) HRI5.out I6 k6 f6)
          have HX6:=dq (HX5.out.kept k6 (fun e=>HNE.out e))
          have HNE6:Hid (a6≠some ⟨gx,0,none⟩):=dq (fun e=>by
           rcases f6 gx e with h | h
           ·exact HNE.out h
           ·exact Nat.lt_irrefl _ (Nat.lt_of_lt_of_le HX5.out.lt h))
          have HB6:=dq (zkC HT5.out.out k6 HB5.out)
          have HP6:=dq (zkD HT5.out.out k6 HP5.out)
          have HC6:Hid (pl+(N-(y+1))+zez s (l.drop (k+1))≤100000000000):=dq (zuy HC.out hyN hlen)
          have hq6:=HT6.out.out.le
          rw [HPL.out] at hq6
          clear I6 k6 f6 HT5 HX5 HB5 HP5 HZ3 x0 x1 HC HQ hlen
          go_wp2
          go_roundw
          case rel=>exact ⟨y+1,pl,a6,c6,PO,hyN,rfl,rfl,rfl,by go_num,HPL,HT6,HX6,HNE6,HB6,HP6,dq HM3.out.symm,HC6⟩
          case measure=>simp [intOf];omega
         ·have HM3:Hid (mq=zcP (itAt l k) (zab s jn).ps letter (N-(y+1)) (y+1) O):=dq (by have h:=HM2.out;rwa [if_neg hol] at h)
          have holb:(od==letter)=false:=by simpa using hol
          have HC6:Hid (q+(N-(y+1))+zez s (l.drop (k+1))≤100000000000):=dq (zux HC.out hyN)
          clear HM2
          go_wp2
          go_roundw
          case rel=>exact ⟨y+1,q,oa,oc,O,hyN,rfl,rfl,rfl,by go_num,HQ,HT5,HX5,HNE,HB5,HP5,dq HM3.out.symm,HC6⟩
          case measure=>simp [intOf];omega
       ·obtain rfl:y=N:=Nat.le_antisymm hy (Nat.le_of_not_lt hyN)
        have HMF2:Hid (mq=some O):=dq (by
         have h:=HMF.out
         rw [Nat.sub_self] at h
         exact h.symm)
        have HE2:Hid (nextM M s l letter=itGo s letter (l.drop (k+1)) M1 O):=dq (by rw [HE.out,HD.out];exact zin H20.out HSP.out rfl (HMQ.out.trans HMF2.out))
        have HC2:Hid (q+zez s (l.drop (k+1))≤100000000000):=dq (by
         have h:=HC.out
         rw [Nat.sub_self] at h
         exact h)
        go_wp2
        clear hw
        go_roundw
        case rel=>exact ⟨k+1,q,oa,oc,O,M1,hlt,rfl,rfl,rfl,by go_num,HQ,HT,HE2,HC2⟩
        case measure=>simp [intOf];omega
   ·have hkn:k=n:=Nat.le_antisymm hk (Nat.le_of_not_lt hlt)
    have HF:Hid (zis mp (nextM M s l letter) w (.returned (.tuple #[.slice oa q oc,.int .i64 0])) wr):=dq (by
     have h:=HE.out
     rw [hkn,←HN.out,List.drop_length] at h
     rw [h,←HQ.out]
     exact ⟨oa,oc,rfl,HT.out.out,HT.out.fresh,HT.out.meter,HT.out.kept⟩)
    go_wp2
    exact bodyPost_ret (v:=.tuple #[.slice oa q oc,.int .i64 0]) (by simp [results,Tryz.results49,go_sem]) rfl HF.out
end Go.Proofs.YtmnkjekjknhhjaaGreatDoor

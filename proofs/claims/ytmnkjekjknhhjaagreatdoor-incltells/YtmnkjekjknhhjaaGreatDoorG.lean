import Derived.Test.YtmnkjekjknhhjaaGreatDoorC
namespace Go.Proofs.YtmnkjekjknhhjaaGreatDoor
open Go.ChangeShapes Go.WideShapes Go.ChangeAt Go.RowKit
theorem zpc {w:World} {g n:Nat} {zs:List Int} (Z:Bag w (some ⟨g,0,none⟩) n zs) (hn:zs.length=n):Lies w g 3 (zhx zs):=by
 rcases Z with ⟨e,_⟩ | ⟨g',sp,e,hc,_,l⟩
 ·cases e
 ·injection e with e;injection e with e;subst e
  rw [zaP] at hc
  obtain rfl:sp=[]:=List.eq_nil_of_length_eq_zero (by omega)
  rwa [List.append_nil] at l
theorem zpd {w:World} {g n:Nat} {zs:List Int} (l:Lies w g 3 (zhx zs)) (hn:zs.length=n) (hm:n≤1000):Bag w (some ⟨g,0,none⟩) n zs:=
 .inr ⟨g,[],rfl,by rw [zaP];simpa using hn.symm,by omega,by rwa [List.append_nil]⟩
theorem zei {w:World} {ops:Array Oper} {rest:List Oper} {o:Oper} {a:Act} {Q:Exit→Act→World→Prop} (hgd:o.guard=none) (d s:Operand)
  (ho:o.op=.call {callee:=.builtin .copy,args:=#[d,s],argTypes:=#[31,31]}) (g n:Nat) (sp:Option Addr) (c:Nat) (xs zs:List Int)
  (l:Nat) (hxl:xs.length=l) (hd:a.eval d=.slice (some ⟨g,0,none⟩) n n) (hs:a.eval s=.slice sp l c) (R:Bag w sp c xs) (Z:Bag w (some ⟨g,0,none⟩) n zs) (hz:zs.length=n) (hle:xs.length≤n) (hm:n≤1000)
  (B:Nat) (w0:World) (hb:Below B w0 w) (hBg:B≤g)
  (h:∀ w',Bag w' (some ⟨g,0,none⟩) n (xs++zs.drop xs.length)→Below B w0 w'→wpList Tryz.prog ops Q rest (a.put o.dst (goInt l)) w'):wpList Tryz.prog ops Q (o::rest) a w:=by
 subst hxl
 have hl:(zhx xs).length=xs.length:=zaP xs
 refine wpList_copy_splice hgd d s 31 31 ho 3 Tryz.underlying31 Tryz.one3 (some ⟨g,0,none⟩) sp n n xs.length c hd hs g 0 (zhx zs) 3 (zpc Z hz) (zhx xs) (by rw [hl];exact (Nat.min_eq_left hle).symm) ?_ (by rw [hl,zaP];omega) (zm2 xs) B w0 hb hBg ?_
 ·intro hp
  rcases R with ⟨_,_,e⟩ | ⟨g',sp',e,hc,_,l⟩
  ·rw [e] at hp;simp at hp
  ·exact ⟨rfl,_,e,fun j v hj=>by rw [Addr.add_lit];exact zfW l hj⟩
 ·intro w' HG hb'
  rw [hl]
  refine h w' (zpd (Lies.to HG.out ?_) ?_ hm) hb'
  ·simp [splice,zhx]
  ·rw [List.length_append,List.length_drop];omega
def zne (xs ys:List Int) (n k:Nat):List Int:=tab n (fun j=>xs.getD j 0+if j<k then ys.getD j 0 else 0)
theorem zfY (xs ys:List Int) (n k:Nat):(zne xs ys n k).length=n:=zaw _ _
theorem zk6 {xs ys:List Int} {n:Nat} (h:xs.length≤n):xs++(tab n (fun _=>0)).drop xs.length=zne xs ys n 0:=by
 apply zhC
 ·rw [List.length_append,List.length_drop,zaw,zfY];omega
 ·intro j hj
  rw [List.length_append,List.length_drop,zaw] at hj
  rw [zne,zd0 (by omega),if_neg (by omega),Int.add_zero]
  by_cases hx:j<xs.length
  ·simp [List.getD,List.getElem?_append_left hx]
  ·rw [zas (l:=xs) (by omega)]
   simp only [List.getD,List.getElem?_append_right (show xs.length≤j by omega),List.getElem?_drop]
   have:=zd0 (n:=n) (f:=fun _=>0) (j:=xs.length+(j-xs.length)) (by omega)
   rwa [List.getD_eq_getElem?_getD] at this
theorem zpe {xs ys:List Int} {n k:Nat} (hk:k<n):(zne xs ys n k).getD k 0=xs.getD k 0:=by
 rw [zne,zd0 hk,if_neg (by omega),Int.add_zero]
theorem znf {xs ys:List Int} {n k:Nat}:(zne xs ys n k).set k (xs.getD k 0+ys.getD k 0)=zne xs ys n (k+1):=by
 unfold zne
 rw [zfD]
 refine zbk (fun j _=>?_)
 by_cases h:j=k
 ·subst h;rw [if_pos rfl,if_pos (by omega)]
 ·rw [if_neg h]
  by_cases h':j<k
  ·rw [if_pos h',if_pos (by omega)]
  ·rw [if_neg h',if_neg (by omega)]
theorem zng {xs ys:List Int} {n:Nat} (hn:n=max xs.length ys.length):zne xs ys n ys.length=addT xs ys:=by
 unfold zne addT
 rw [←hn]
 refine zbk (fun j _=>?_)
 by_cases h':j<ys.length
 ·rw [if_pos h']
 ·rw [if_neg h',zas (l:=ys) (by omega)]
theorem za0 {w w':World} {xs:List Int} {b:Bool} (h1:xs=[]) (h2:b=false) (bel:Below w.heap.size w w'):zdA xs b w (.returned (.tuple #[.slice none 0 0,.bool false])) w':=by
 subst h1;subst h2
 exact ⟨none,0,rfl,Bag.nil _,(fun _ e=>nomatch e),bel⟩
theorem zpf (a b:Option Addr) (c d:Nat) (xs ys:List Int) (w:World) (R:Bag w a c xs) (hx:zaa xs=false) :
  Calls Tryz.prog 91 #[.slice a xs.length c,.slice b ys.length d] w (zdA (zbp xs ys) (zaz xs ys) w):=by
 have H:=dq (zpn (b:=ys) hx)
 have Z:=za4 a c xs w R
 rw [hx] at Z
 clear hx R
 go_enter Tryz.func91,Tryz.ntmps91
 go_wp2_with (fail)
 refine Z.mono ?_
 rintro e w' ⟨rfl,rfl⟩
 go_wp2
 go_ret2
 exact za0 H.out.2 H.out.1 (Below.refl _ _)
theorem zpg (a b:Option Addr) (c d:Nat) (xs ys:List Int) (w:World) (R:Bag w a c xs) (S:Bag w b d ys) (hx:zaa xs=true) (hy:zaa ys=false) :
  Calls Tryz.prog 91 #[.slice a xs.length c,.slice b ys.length d] w (zdA (zbp xs ys) (zaz xs ys) w):=by
 have H:=dq (zpo (a:=xs) hy)
 have Z:=za4 a c xs w R
 have Z2:=za4 b d ys w S
 rw [hx] at Z
 rw [hy] at Z2
 clear hx hy R S
 go_enter Tryz.func91,Tryz.ntmps91
 go_wp2_with (fail)
 refine Z.mono ?_
 rintro e w' ⟨rfl,rfl⟩
 go_wp2_with (fail)
 refine Z2.mono ?_
 rintro e w' ⟨rfl,rfl⟩
 go_wp2
 go_ret2
 exact za0 H.out.2 H.out.1 (Below.refl _ _)
set_option maxHeartbeats 2000000 in
theorem zrm (a b:Option Addr) (c d:Nat) (xs ys:List Int) (w:World) (R:Bag w a c xs) (S:Bag w b d ys) (hx:zaa xs=true) (hy:zaa ys=true) (hle:xs.length<ys.length) :
  Calls Tryz.prog 91 #[.slice a xs.length c,.slice b ys.length d] w (zdA (zbp xs ys) (zaz xs ys) w):=by
 have Z:=za4 a c xs w R
 have Z2:=za4 b d ys w S
 rw [hx] at Z
 rw [hy] at Z2
 obtain ⟨l,hl⟩:∃ l,l=xs.length:=⟨_,rfl⟩
 obtain ⟨m,hm⟩:∃ m,m=ys.length:=⟨_,rfl⟩
 have hl12:l≤12:=by rw [hl];exact (zac.1 hx).1
 have hm12:m≤12:=by rw [hm];exact (zac.1 hy).1
 have hlm:l<m:=by rw [hl,hm];exact hle
 have HX:=dq hx
 have HY:=dq hy
 rw [←hl,←hm]
 rw [←hl] at Z
 rw [←hm] at Z2
 have HL:=dq hl.symm
 have HM:=dq hm.symm
 have HR:=dq R
 have HS:=dq S
 clear hl hm hx hy R S hle
 go_enter Tryz.func91,Tryz.ntmps91
 go_wp2_with (fail)
 refine Z.mono ?_
 rintro e w' ⟨rfl,rfl⟩
 go_wp2_with (fail)
 refine Z2.mono ?_
 rintro e w' ⟨rfl,rfl⟩
 clear Z Z2
 go_wp2_with (at_make;refine zar _ rfl _ _ rfl _ _ m rfl rfl rfl rfl (by omega) ?_)
 intro w1 r1 b1
 have HR1:=dq r1
 clear r1
 go_wp2_with (refine zei (o:=⟨some 24,_,_,_,_,_⟩) rfl (.tmp 22) (.tmp 23) rfl w.heap.size m a c xs (tab m (fun _=>0)) l HL.out rfl rfl (HR.out.below b1) HR1.out (zaw _ _) (by rw [HL.out];omega) (by omega) w.heap.size w b1 (Nat.le_refl _) ?_)
 intro w2 r2 b2
 rw [zk6 (ys:=ys) (by rw [HL.out];omega)] at r2
 have HR2:=dq r2
 clear r2 b1 HR1
 go_wp2_with (fail)
 go_loopw [4,27] (fun s i wr=>∃ k:Nat,k≤m∧s=.slice (some ⟨w.heap.size,0,none⟩) m m∧i=.int .i64 k∧Hid (Bag wr (some ⟨w.heap.size,0,none⟩) m (zne xs ys m k))∧Below w.heap.size w wr∧Hid (∀ j,j<k→xs.getD j 0+ys.getD j 0≤1152921504606846976)) (fun _ i _=>m-(intOf i).toNat)
 case atStart=>exact ⟨0,Nat.zero_le _,rfl,rfl,HR2,b2,dq (fun j h=>by omega)⟩
 case round=>
  clear HR2 b2
  obtain ⟨k,hk,rfl,rfl,HB,bel,HE⟩:=hrel
  by_cases hlt:k<m
  ·obtain ⟨g',rfl,hc0⟩:=HS.out.at (k:=k) (by rw [HM.out];exact hlt)
   have hc:=(bel.cell (p:=⟨g',k,none⟩) (HS.out.lt rfl)).trans hc0
   clear hc0
   obtain ⟨g,e,hs⟩:=HB.out.at (k:=k) (by rw [zfY];omega)
   injection e with e;injection e with e
   have hg:w.heap.size=g:=e
   subst hg
   clear e
   rw [zpe (by omega)] at hs
   have hf:=HB.out.frozen k
   have P:=HB.out.set (j:=k) (by rw [zfY];omega) (xs.getD k 0+ys.getD k 0)
   rw [znf] at P
   have HP:=dq P
   have p1:okN (xs.getD k 0)=true:=zaQ.2 (zae HX.out k)
   have p2:okN (ys.getD k 0)=true:=zaQ.2 (zae HY.out k)
   clear P
   by_cases hfit:xs.getD k 0+ys.getD k 0≤1152921504606846976
   ·have M:=zm4 (xs.getD k 0) (ys.getD k 0) wr p1 p2 hfit
    have HF:Hid (∀ j,j<k+1→xs.getD j 0+ys.getD j 0≤1152921504606846976):=dq (fun j hj=>by
     by_cases e:j=k
     ·rw [e];exact hfit
     ·exact HE.out j (by omega))
    clear p1 p2 hfit HE
    generalize xs.getD k 0=p at *
    generalize ys.getD k 0=q at *
    go_wp2_with (fail)
    refine M.mono ?_
    rintro e w' ⟨rfl,rfl⟩
    clear M
    go_wp2
    go_roundw
    case rel=>exact ⟨k+1,by omega,rfl,by go_num,HP,bel.setCell (Nat.le_refl _) _,HF⟩
    case measure=>simp [intOf];omega
   ·have M:=zo1 (xs.getD k 0) (ys.getD k 0) wr p1 p2 (by omega)
    have H:=dq (zgH (a:=xs) (b:=ys) (j:=k) (by rw [HL.out,HM.out];omega) (by omega))
    clear p1 p2 hfit
    generalize xs.getD k 0=p at *
    generalize ys.getD k 0=q at *
    go_wp2_with (fail)
    refine M.mono ?_
    rintro e w' ⟨rfl,rfl⟩
    clear M
    go_wp2
    go_ret2
    exact za0 H.out.2 H.out.1 (bel.setCell (Nat.le_refl _) _)
  ·obtain rfl:k=m:=by omega
   have H:=dq (zfE HX.out HY.out (fun j _=>by
    by_cases h:j<k
    ·exact HE.out j h
    ·rw [zas (l:=ys) (by rw [HM.out];omega),Int.add_zero];exact (zae HX.out j).2))
   have E:zne xs ys k k=addT xs ys:=by
    rw [←zng (n:=k) (by rw [HL.out,HM.out];omega),HM.out]
   have HE2:=dq E
   have HL2:Hid ((addT xs ys).length=k):=dq (by rw [zbR,HL.out,HM.out];omega)
   clear E
   go_wp2
   go_ret2
   rw [H.out.1,H.out.2]
   refine ⟨some ⟨w.heap.size,0,none⟩,k,by rw [HL2.out];rfl,?_,fun g e=>?_,bel⟩
   ·rw [←HE2.out];exact HB.out
   ·injection e with e;injection e with e;omega
set_option maxHeartbeats 2000000 in
theorem zrn (a b:Option Addr) (c d:Nat) (xs ys:List Int) (w:World) (R:Bag w a c xs) (S:Bag w b d ys) (hx:zaa xs=true) (hy:zaa ys=true) (hle:ys.length≤xs.length) :
  Calls Tryz.prog 91 #[.slice a xs.length c,.slice b ys.length d] w (zdA (zbp xs ys) (zaz xs ys) w):=by
 have Z:=za4 a c xs w R
 have Z2:=za4 b d ys w S
 rw [hx] at Z
 rw [hy] at Z2
 obtain ⟨l,hl⟩:∃ l,l=xs.length:=⟨_,rfl⟩
 obtain ⟨m,hm⟩:∃ m,m=ys.length:=⟨_,rfl⟩
 have hl12:l≤12:=by rw [hl];exact (zac.1 hx).1
 have hm12:m≤12:=by rw [hm];exact (zac.1 hy).1
 have hlm:m≤l:=by rw [hl,hm];exact hle
 have HX:=dq hx
 have HY:=dq hy
 rw [←hl,←hm]
 rw [←hl] at Z
 rw [←hm] at Z2
 have HL:=dq hl.symm
 have HM:=dq hm.symm
 have HR:=dq R
 have HS:=dq S
 clear hl hm hx hy R S hle
 go_enter Tryz.func91,Tryz.ntmps91
 go_wp2_with (fail)
 refine Z.mono ?_
 rintro e w' ⟨rfl,rfl⟩
 go_wp2_with (fail)
 refine Z2.mono ?_
 rintro e w' ⟨rfl,rfl⟩
 clear Z Z2
 go_wp2_with (at_make;refine zar _ rfl _ _ rfl _ _ l rfl rfl rfl rfl (by omega) ?_)
 intro w1 r1 b1
 have HR1:=dq r1
 clear r1
 go_wp2_with (refine zei (o:=⟨some 24,_,_,_,_,_⟩) rfl (.tmp 22) (.tmp 23) rfl w.heap.size l a c xs (tab l (fun _=>0)) l HL.out rfl rfl (HR.out.below b1) HR1.out (zaw _ _) (by rw [HL.out];omega) (by omega) w.heap.size w b1 (Nat.le_refl _) ?_)
 intro w2 r2 b2
 rw [zk6 (ys:=ys) (by rw [HL.out];omega)] at r2
 have HR2:=dq r2
 clear r2 b1 HR1
 go_wp2_with (fail)
 go_loopw [4,27] (fun s i wr=>∃ k:Nat,k≤m∧s=.slice (some ⟨w.heap.size,0,none⟩) l l∧i=.int .i64 k∧Hid (Bag wr (some ⟨w.heap.size,0,none⟩) l (zne xs ys l k))∧Below w.heap.size w wr∧Hid (∀ j,j<k→xs.getD j 0+ys.getD j 0≤1152921504606846976)) (fun _ i _=>m-(intOf i).toNat)
 case atStart=>exact ⟨0,Nat.zero_le _,rfl,rfl,HR2,b2,dq (fun j h=>by omega)⟩
 case round=>
  clear HR2 b2
  obtain ⟨k,hk,rfl,rfl,HB,bel,HE⟩:=hrel
  by_cases hlt:k<m
  ·obtain ⟨g',rfl,hc0⟩:=HS.out.at (k:=k) (by rw [HM.out];exact hlt)
   have hc:=(bel.cell (p:=⟨g',k,none⟩) (HS.out.lt rfl)).trans hc0
   clear hc0
   obtain ⟨g,e,hs⟩:=HB.out.at (k:=k) (by rw [zfY];omega)
   injection e with e;injection e with e
   have hg:w.heap.size=g:=e
   subst hg
   clear e
   rw [zpe (by omega)] at hs
   have hf:=HB.out.frozen k
   have P:=HB.out.set (j:=k) (by rw [zfY];omega) (xs.getD k 0+ys.getD k 0)
   rw [znf] at P
   have HP:=dq P
   have p1:okN (xs.getD k 0)=true:=zaQ.2 (zae HX.out k)
   have p2:okN (ys.getD k 0)=true:=zaQ.2 (zae HY.out k)
   clear P
   by_cases hfit:xs.getD k 0+ys.getD k 0≤1152921504606846976
   ·have M:=zm4 (xs.getD k 0) (ys.getD k 0) wr p1 p2 hfit
    have HF:Hid (∀ j,j<k+1→xs.getD j 0+ys.getD j 0≤1152921504606846976):=dq (fun j hj=>by
     by_cases e:j=k
     ·rw [e];exact hfit
     ·exact HE.out j (by omega))
    clear p1 p2 hfit HE
    generalize xs.getD k 0=p at *
    generalize ys.getD k 0=q at *
    go_wp2_with (fail)
    refine M.mono ?_
    rintro e w' ⟨rfl,rfl⟩
    clear M
    go_wp2
    go_roundw
    case rel=>exact ⟨k+1,by omega,rfl,by go_num,HP,bel.setCell (Nat.le_refl _) _,HF⟩
    case measure=>simp [intOf];omega
   ·have M:=zo1 (xs.getD k 0) (ys.getD k 0) wr p1 p2 (by omega)
    have H:=dq (zgH (a:=xs) (b:=ys) (j:=k) (by rw [HL.out,HM.out];omega) (by omega))
    clear p1 p2 hfit
    generalize xs.getD k 0=p at *
    generalize ys.getD k 0=q at *
    go_wp2_with (fail)
    refine M.mono ?_
    rintro e w' ⟨rfl,rfl⟩
    clear M
    go_wp2
    go_ret2
    exact za0 H.out.2 H.out.1 (bel.setCell (Nat.le_refl _) _)
  ·obtain rfl:k=m:=by omega
   have H:=dq (zfE HX.out HY.out (fun j _=>by
    by_cases h:j<k
    ·exact HE.out j h
    ·rw [zas (l:=ys) (by rw [HM.out];omega),Int.add_zero];exact (zae HX.out j).2))
   have E:zne xs ys l k=addT xs ys:=by
    rw [←zng (n:=l) (by rw [HL.out,HM.out];omega),HM.out]
   have HE2:=dq E
   have HL2:Hid ((addT xs ys).length=l):=dq (by rw [zbR,HL.out,HM.out];omega)
   clear E
   go_wp2
   go_ret2
   rw [H.out.1,H.out.2]
   refine ⟨some ⟨w.heap.size,0,none⟩,l,by rw [HL2.out];rfl,?_,fun g e=>?_,bel⟩
   ·rw [←HE2.out];exact HB.out
   ·injection e with e;injection e with e;omega
theorem zsF (a b:Option Addr) (c d:Nat) (xs ys:List Int) (w:World) (R:Bag w a c xs) (S:Bag w b d ys) :
  Calls Tryz.prog 91 #[.slice a xs.length c,.slice b ys.length d] w (zdA (zbp xs ys) (zaz xs ys) w):=by
 cases hx:zaa xs with
 | false=>exact zpf a b c d xs ys w R hx
 | true=>
  cases hy:zaa ys with
  | false=>exact zpg a b c d xs ys w R S hx hy
  | true=>
   by_cases h:xs.length<ys.length
   ·exact zrm a b c d xs ys w R S hx hy h
   ·exact zrn a b c d xs ys w R S hx hy (by omega)
end Go.Proofs.YtmnkjekjknhhjaaGreatDoor

import Derived.Test.YtmnkjekjknhhjaaGreatDoorQCe
import Derived.Deep.DeepCutAuto
namespace Go.Proofs.YtmnkjekjknhhjaaGreatDoor.Q
open Go.ChangeShapes Go.WideShapes Go.ChangeAt Go.RowKit
def zbU (t:Bool):List Value:=[.bool t]
def zfk (ts:List Bool):List Value:=ts.flatMap zbU
theorem zjm (t:Bool) (ts:List Bool):zfk (t::ts)=zbU t++zfk ts:=rfl
theorem zet (ts:List Bool):(zfk ts).length=ts.length*1:=by
 induction ts with
 | nil=>rfl
 | cons p kv ih=>rw [zjm,List.length_append,ih];simp [zbU];omega
theorem zlt (a b:List Bool):zfk (a++b)=zfk a++zfk b:=by unfold zfk;rw [List.flatMap_append]
theorem zpY (ts:List Bool):∀ x∈zfk ts,x.oneCell'=true:=fun x hx=>by
 unfold zfk at hx
 obtain ⟨p,_,hx⟩:=List.mem_flatMap.1 hx
 simp [zbU] at hx
 rw [hx];rfl
theorem zpZ (ts:List Bool) (j:Nat) (hj:j<ts.length) (i:Nat) (hi:i<1):(zfk ts)[j*1+i]? = (zbU ts[j])[i]?:=by
 induction ts generalizing j with
 | nil=>simp at hj
 | cons t ts ih=>
  rw [zjm]
  cases j with
  | zero=>rw [List.getElem?_append_left (by simp [zbU]<;>omega)];simp
  | succ j=>
   rw [List.getElem?_append_right (by simp [zbU]<;>omega)]
   have e:(j+1)*1+i-(zbU t).length=j*1+i:=by simp [zbU]
   rw [e,ih j (by simpa using hj)]
   rfl
def Bls (w:World) (a:Option Addr) (c:Nat) (ts:List Bool):Prop:=
 (a=none∧c=0∧ts=[])∨∃ g sp,a=some ⟨g,0,none⟩∧sp.length=(c-ts.length)*1∧ts.length≤c∧c≤9223372036854775807∧Lies w g 4 (zfk ts++sp)
section
variable {w w':World} {a:Option Addr} {c:Nat} {ts:List Bool}
theorem Bls.nil (w:World):Bls w none 0 []:=.inl ⟨rfl,rfl,rfl⟩
theorem Bls.kept {X:Nat→Prop} (h:Bls w a c ts) (k:Kept X w w') (hx:∀ g,a=some ⟨g,0,none⟩→¬X g):Bls w' a c ts:=by
 rcases h with h | ⟨g,sp,rfl,h1,h2,h3,l⟩
 ·exact .inl h
 ·exact .inr ⟨g,sp,rfl,h1,h2,h3,l.kept k (hx g rfl)⟩
theorem Bls.form (h:Bls w a c ts):a=none∨∃ g,a=some ⟨g,0,none⟩:=by
 rcases h with ⟨e,_⟩ | ⟨g,_,e,_⟩
 ·exact .inl e
 ·exact .inr ⟨g,e⟩
structure BlAt (w:World) (g o:Nat) (t:Bool):Prop where
 c0:w.cell? ⟨g,o,none⟩=some (.bool t)
theorem Bls.there (h:Bls w a c ts) {j:Nat} (hj:j<ts.length):∃ g,a=some ⟨g,0,none⟩∧BlAt w g (j*1) ts[j]:=by
 rcases h with ⟨_,_,rfl⟩ | ⟨g,sp,rfl,_,_,_,l⟩
 ·simp at hj
 ·have hl:=zet ts
  have hg:∀ i,i<1→w.cell? ⟨g,j*1+i,none⟩=(zbU ts[j])[i]?:=fun i hi=>by
   rw [l.cell,List.getElem?_append_left (by omega),zpZ ts j hj i hi]
  exact ⟨g,rfl,⟨hg 0 (by omega)⟩⟩
theorem Bls.own (h:Bls w a c ts):w.ownsRow 0 4 1 (.slice a ts.length c) ts.length (zfk ts):=by
 refine ⟨zet ts,?_⟩
 rcases h with ⟨rfl,rfl,rfl⟩ | ⟨g,sp,rfl,h1,h2,h3,l⟩
 ·exact .inl ⟨rfl,rfl⟩
 ·refine .inr ⟨g,c,_,rfl,Nat.zero_le _,l,h2,by unfold maxLen;omega,?_,?_⟩
  ·simp [zet,h1];omega
  ·rw [←zet ts];simp
theorem zs6 {v:Value} {n:Nat} (hn:n=ts.length) (h:w.ownsRow 0 4 1 v n (zfk ts)):∃ a c,v=.slice a n c∧Bls w a c ts:=by
 subst hn
 rcases h.2 with ⟨rfl,e⟩ | ⟨g,cap,cur,rfl,_,hh,hn,hm,hs,ht⟩
 ·obtain rfl:ts=[]:=List.eq_nil_of_length_eq_zero e
  exact ⟨none,0,rfl,Bls.nil w⟩
 ·unfold maxLen at hm
  refine ⟨_,_,rfl,.inr ⟨g,cur.toList.drop (ts.length*1),rfl,?_,hn,by omega,(zc8 hh).to ?_⟩⟩
  ·rw [List.length_drop,Array.length_toList,hs];omega
  ·rw [←ht,List.take_append_drop]
end
theorem zu9 (ty:TypeId) (a:Option Addr) (c:Nat) (ts:List Bool) (g:Nat) (t:Bool) (w:World) (R:Bls w a c ts) (hg:Lies w g 4 (zbU t)) (hb:ts.length≤1000000) {n:Nat} (hn:n=ts.length) :
  ∃ a' c' w',(Builtin.append_ #[106,106] ty #[.slice a n c,.slice (some ⟨g,0,none⟩) 1 1]).run Tryz.prog w=.ok (.slice a' (n+1) c') w'∧Bls w' a' c' (ts++[t])∧Kept (fun g=>a=some ⟨g,0,none⟩) w w'∧
   ∀ g,a'=some ⟨g,0,none⟩→a=some ⟨g,0,none⟩∨w.heap.size≤g:=by
 subst hn
 obtain ⟨i,hi,hz,hsz,hby⟩:=info_parts Tryz.info4
 have hform:=R.form
 obtain ⟨v',w',hr,h2,h3,_,h5⟩:=run_append_own_at (P:=Tryz.prog) w 0 106 ty 4 i _ 1 1 Tryz.underlying106 hi hz hsz hby (by simp [Value.cells]) (by omega) _ ts.length (zfk ts) R.own
  ⟨g,0,none⟩ 1 1 (zfk [t]) (zet [t]) (fun j u hj=>by
   rw [Addr.add_lit,Nat.zero_add,hg.cell]
   rw [←hj]
   simp [zfk]) (zpY [t]) (by unfold maxLen;omega) (by omega) (Nat.zero_le _)
 rw [←zlt] at h2
 obtain ⟨a',c',rfl,r'⟩:=zs6 (by simp) h2
 refine ⟨a',c',w',hr,r',?_,fun g e=>?_⟩
 ·refine ⟨h3.os,h3.tape,h3.output,h3.size,fun g hg hx=>h3.block g hg (fun e=>?_)⟩
  obtain ⟨x,rfl,hx'⟩:=(ownBlock_slice a _ _ g).1 e.symm
  rcases hform with h | ⟨g',h⟩
  ·cases h
  ·injection h with h;subst h;subst hx';exact hx rfl
 ·subst e
  rcases h5 with h5 | h5
  ·obtain ⟨x,rfl,hx⟩:=(ownBlock_slice a ts.length c g).1 (by rw [←h5];rfl)
   rcases hform with h | ⟨g',h⟩
   ·cases h
   ·injection h with h;subst h;subst hx;exact .inl rfl
  ·have:g=w.heap.size:=by simpa [Value.ownBlock] using h5
   exact .inr (by omega)
theorem Bls.alloc {w:World} {a:Option Addr} {c:Nat} {ts:List Bool} (h:Bls w a c ts) (o:Obj):Bls (w.alloc o) a c ts:=h.kept (X:=fun _=>False) ((Kept.refl _ w).alloc o) (fun _ _ h=>h)
theorem zmD (w:World) {ops:Array Oper} {rest:List Oper} {o:Oper} {x:Act} {Q:Exit→Act→World→Prop} (hgd:o.guard=none) (s y:Operand)
  (ho:o.op=.call {callee:=.builtin .append,args:=#[s,y],argTypes:=#[106,106]}) (a:Option Addr) (c n:Nat) (g:Nat) (hs:x.eval s=.slice a n c) (hx:x.eval y=.slice (some ⟨g,0,none⟩) 1 1)
  (ts:List Bool) (t:Bool) (R:Bls w a c ts) (hg:Lies w g 4 (zbU t)) (hb:ts.length≤1000000) (hn:n=ts.length)
  (h:∀ a' c' w',Bls w' a' c' (ts++[t])→Kept (fun g=>a=some ⟨g,0,none⟩) w w'→(∀ g,a'=some ⟨g,0,none⟩→a=some ⟨g,0,none⟩∨w.heap.size≤g)→wpList Tryz.prog ops Q rest (x.put o.dst (.slice a' (n+1) c')) w') :
  wpList Tryz.prog ops Q (o::rest) x w:=by
 obtain ⟨a',c',w',hr,h1,h2,h3⟩:=zu9 o.type a c ts g t w R hg hb hn
 exact Lib.wpList_append_run w hgd s y 106 106 ho _ _ hs hx _ _ hr (h a' c' w' h1 h2 h3)
end Go.Proofs.YtmnkjekjknhhjaaGreatDoor.Q
namespace Go.Proofs.YtmnkjekjknhhjaaGreatDoor.Q
open Go.ChangeShapes Go.WideShapes Go.ChangeAt Go.RowKit
structure PM (B:Nat) (w0 w:World) (gp go gs:Nat) (ns:List Nd) (os:List Int) (sl:List Bool) (pa:Option Addr) (pc:Nat) (oa:Option Addr) (oc:Nat) (sa:Option Addr) (sc:Nat):Prop where
 p:Lies w gp 69 [.slice pa ns.length pc]
 o:Lies w go 22 [.slice oa os.length oc]
 s:Lies w gs 106 [.slice sa sl.length sc]
 nds:Nds w pa pc ns
 ins:Ins w oa oc os
 bls:Bls w sa sc sl
 bp:B≤gp
 bo:B≤go
 bs:B≤gs
 ap:∀ g,pa=some ⟨g,0,none⟩→B≤g
 ao:∀ g,oa=some ⟨g,0,none⟩→B≤g
 aS:∀ g,sa=some ⟨g,0,none⟩→B≤g
 bel:Below B w0 w
def zoy (B:Nat) (w0 w:World) (gp go gs:Nat) (ns:List Nd) (os:List Int) (sl:List Bool):Prop:=∃ pa pc oa oc sa sc,PM B w0 w gp go gs ns os sl pa pc oa oc sa sc
theorem zb6 {w:World} {g:Nat} {t:TypeId} {cs:List Value} {a:Option Addr} {c:Nat} {xs:List Nd} (h:Lies w g t cs) (i:Nds w a c xs) (ht:t≠102):¬a=some ⟨g,0,none⟩:=by
 rintro rfl
 rcases i with ⟨e,_⟩ | ⟨g',sp,e,_,_,_,l⟩
 ·cases e
 ·injection e with e;injection e with e;subst e
  exact Lies.other h l ht rfl
theorem zbA {w:World} {g:Nat} {t:TypeId} {cs:List Value} {a:Option Addr} {c:Nat} {xs:List Int} (h:Lies w g t cs) (i:Ins w a c xs) (ht:t≠3):¬a=some ⟨g,0,none⟩:=by
 rintro rfl
 rcases i with ⟨e,_⟩ | ⟨g',sp,e,_,_,_,l⟩
 ·cases e
 ·injection e with e;injection e with e;subst e
  exact Lies.other h l ht rfl
theorem za9 {w:World} {g:Nat} {t:TypeId} {cs:List Value} {a:Option Addr} {c:Nat} {xs:List Bool} (h:Lies w g t cs) (i:Bls w a c xs) (ht:t≠4):¬a=some ⟨g,0,none⟩:=by
 rintro rfl
 rcases i with ⟨e,_⟩ | ⟨g',sp,e,_,_,_,l⟩
 ·cases e
 ·injection e with e;injection e with e;subst e
  exact Lies.other h l ht rfl
theorem zp0 {w:World} {a b:Option Addr} {c d:Nat} {xs:List Nd} {ys:List Int} (i:Nds w a c xs) (j:Ins w b d ys) (g:Nat) (e:a=some ⟨g,0,none⟩):¬b=some ⟨g,0,none⟩:=by
 rcases i with ⟨h,_⟩ | ⟨g',sp,h,_,_,_,l⟩
 ·rw [e] at h;cases h
 ·rw [e] at h;injection h with h;injection h with h;subst h
  exact zbA l j (by decide)
theorem zp1 {w:World} {a b:Option Addr} {c d:Nat} {xs:List Nd} {ys:List Bool} (i:Nds w a c xs) (j:Bls w b d ys) (g:Nat) (e:a=some ⟨g,0,none⟩):¬b=some ⟨g,0,none⟩:=by
 rcases i with ⟨h,_⟩ | ⟨g',sp,h,_,_,_,l⟩
 ·rw [e] at h;cases h
 ·rw [e] at h;injection h with h;injection h with h;subst h
  exact za9 l j (by decide)
theorem zp2 {w:World} {a b:Option Addr} {c d:Nat} {xs:List Int} {ys:List Bool} (i:Ins w a c xs) (j:Bls w b d ys) (g:Nat) (e:a=some ⟨g,0,none⟩):¬b=some ⟨g,0,none⟩:=by
 rcases i with ⟨h,_⟩ | ⟨g',sp,h,_,_,_,l⟩
 ·rw [e] at h;cases h
 ·rw [e] at h;injection h with h;injection h with h;subst h
  exact za9 l j (by decide)
section
variable {B:Nat} {w0 w w':World} {gp go gs:Nat} {ns:List Nd} {os:List Int} {sl:List Bool} {pa oa sa:Option Addr} {pc oc sc:Nat}
theorem PM.lt (h:PM B w0 w gp go gs ns os sl pa pc oa oc sa sc):B≤w.heap.size:=Nat.le_of_lt (Nat.lt_of_le_of_lt h.bp h.p.lt)
theorem PM.alloc (h:PM B w0 w gp go gs ns os sl pa pc oa oc sa sc) (ob:Obj):PM B w0 (w.alloc ob) gp go gs ns os sl pa pc oa oc sa sc:=
 ⟨h.p.alloc ob,h.o.alloc ob,h.s.alloc ob,h.nds.alloc ob,h.ins.alloc ob,h.bls.alloc ob,h.bp,h.bo,h.bs,h.ap,h.ao,h.aS,h.bel.alloc h.lt ob⟩
theorem PM.drew (h:PM B w0 w gp go gs ns os sl pa pc oa oc sa sc):PM B w0 w.drew gp go gs ns os sl pa pc oa oc sa sc:=
 ⟨h.p,h.o,h.s,h.nds,h.ins,h.bls,h.bp,h.bo,h.bs,h.ap,h.ao,h.aS,h.bel.trans (zad _ _ 1)⟩
theorem PM.drewN (h:PM B w0 w gp go gs ns os sl pa pc oa oc sa sc) (q:Nat):PM B w0 (w.drewN q) gp go gs ns os sl pa pc oa oc sa sc:=
 ⟨h.p,h.o,h.s,h.nds,h.ins,h.bls,h.bp,h.bo,h.bs,h.ap,h.ao,h.aS,h.bel.trans (zad _ _ q)⟩
theorem PM.setO {v:World} {oa':Option Addr} {oc' m:Nat} {os':List Int} (h:PM B w0 v gp go gs ns os sl pa pc oa oc sa sc) (T:Ins w' oa' oc' os') (K:Kept (fun g=>oa=some ⟨g,0,none⟩) v w') (O:∀ g,oa'=some ⟨g,0,none⟩→oa=some ⟨g,0,none⟩∨v.heap.size≤g) (hm:m=os'.length) :
  PM B w0 (w'.setCell ⟨go,0,none⟩ (.slice oa' m oc')) gp go gs ns os' sl pa pc oa' oc' sa sc:=by
 subst hm
 have np:=zbA h.p h.ins (by decide)
 have no:=zbA h.o h.ins (by decide)
 have nS:=zbA h.s h.ins (by decide)
 have P':=h.p.kept K np
 have O':=h.o.kept K no
 have S':=h.s.kept K nS
 have N':=h.nds.kept K (fun g e e2=>zp0 h.nds h.ins g e e2)
 have B':=h.bls.kept K (fun g e e2=>zp2 h.ins h.bls g e2 e)
 have KS:Kept (fun x=>x=go) w' (w'.setCell ⟨go,0,none⟩ (.slice oa' os'.length oc')):=(Kept.refl (fun x=>x=go) w').setCell (fun _=>rfl) _
 refine ⟨P'.far (Lies.other P' O' (by decide)) _,(O'.set 0 _),S'.far (Lies.other S' O' (by decide)) _,N'.kept KS (fun g e e2=>zb6 O' N' (by decide) (by rw [e,e2])),T.kept KS (fun g e e2=>zbA O' T (by decide) (by rw [e,e2])),B'.kept KS (fun g e e2=>za9 O' B' (by decide) (by rw [e,e2])),h.bp,h.bo,h.bs,h.ap,fun g e=>?_,h.aS,(h.bel.trans (K.below h.ao h.lt)).setCell h.bo _⟩
 rcases O g e with h' | h'
 ·exact h.ao g h'
 ·exact Nat.le_trans h.lt h'
theorem PM.setP {v:World} {pa':Option Addr} {pc' m:Nat} {ns':List Nd} (h:PM B w0 v gp go gs ns os sl pa pc oa oc sa sc) (T:Nds w' pa' pc' ns') (K:Kept (fun g=>pa=some ⟨g,0,none⟩) v w') (O:∀ g,pa'=some ⟨g,0,none⟩→pa=some ⟨g,0,none⟩∨v.heap.size≤g) (hm:m=ns'.length) :
  PM B w0 (w'.setCell ⟨gp,0,none⟩ (.slice pa' m pc')) gp go gs ns' os sl pa' pc' oa oc sa sc:=by
 subst hm
 have P':=h.p.kept K (zb6 h.p h.nds (by decide))
 have O':=h.o.kept K (zb6 h.o h.nds (by decide))
 have S':=h.s.kept K (zb6 h.s h.nds (by decide))
 have N':=h.ins.kept K (fun g e e2=>zp0 h.nds h.ins g e2 e)
 have B':=h.bls.kept K (fun g e e2=>zp1 h.nds h.bls g e2 e)
 have KS:Kept (fun x=>x=gp) w' (w'.setCell ⟨gp,0,none⟩ (.slice pa' ns'.length pc')):=(Kept.refl (fun x=>x=gp) w').setCell (fun _=>rfl) _
 refine ⟨P'.set 0 _,O'.far (Lies.other O' P' (by decide)) _,S'.far (Lies.other S' P' (by decide)) _,T.kept KS (fun g e e2=>zb6 P' T (by decide) (by rw [e,e2])),N'.kept KS (fun g e e2=>zbA P' N' (by decide) (by rw [e,e2])),B'.kept KS (fun g e e2=>za9 P' B' (by decide) (by rw [e,e2])),h.bp,h.bo,h.bs,fun g e=>?_,h.ao,h.aS,(h.bel.trans (K.below h.ap h.lt)).setCell h.bp _⟩
 rcases O g e with h' | h'
 ·exact h.ap g h'
 ·exact Nat.le_trans h.lt h'
theorem PM.setS {v:World} {sa':Option Addr} {sc' m:Nat} {sl':List Bool} (h:PM B w0 v gp go gs ns os sl pa pc oa oc sa sc) (T:Bls w' sa' sc' sl') (K:Kept (fun g=>sa=some ⟨g,0,none⟩) v w') (O:∀ g,sa'=some ⟨g,0,none⟩→sa=some ⟨g,0,none⟩∨v.heap.size≤g) (hm:m=sl'.length) :
  PM B w0 (w'.setCell ⟨gs,0,none⟩ (.slice sa' m sc')) gp go gs ns os sl' pa pc oa oc sa' sc':=by
 subst hm
 have P':=h.p.kept K (za9 h.p h.bls (by decide))
 have O':=h.o.kept K (za9 h.o h.bls (by decide))
 have S':=h.s.kept K (za9 h.s h.bls (by decide))
 have N':=h.nds.kept K (fun g e e2=>zp1 h.nds h.bls g e e2)
 have I':=h.ins.kept K (fun g e e2=>zp2 h.ins h.bls g e e2)
 have KS:Kept (fun x=>x=gs) w' (w'.setCell ⟨gs,0,none⟩ (.slice sa' sl'.length sc')):=(Kept.refl (fun x=>x=gs) w').setCell (fun _=>rfl) _
 refine ⟨P'.far (Lies.other P' S' (by decide)) _,O'.far (Lies.other O' S' (by decide)) _,S'.set 0 _,N'.kept KS (fun g e e2=>zb6 S' N' (by decide) (by rw [e,e2])),I'.kept KS (fun g e e2=>zbA S' I' (by decide) (by rw [e,e2])),T.kept KS (fun g e e2=>za9 S' T (by decide) (by rw [e,e2])),h.bp,h.bo,h.bs,h.ap,h.ao,fun g e=>?_,(h.bel.trans (K.below h.aS h.lt)).setCell h.bs _⟩
 rcases O g e with h' | h'
 ·exact h.aS g h'
 ·exact Nat.le_trans h.lt h'
end
theorem Ins.alloc_drew {w:World} {a:Option Addr} {c:Nat} {ts:List Int} (h:Ins w a c ts) (o:Obj):Ins (w.alloc o).drew a c ts:=h.alloc o
set_option maxRecDepth 100000 in
set_option maxHeartbeats 4000000 in
theorem zb2 (B:Nat) (w0 w:World) (gp go gs:Nat) (ns:List Nd) (os:List Int) (sl:List Bool) (h:zoy B w0 w gp go gs ns os sl) (m pk:Nat) (hm:os.length=m+pk) (hn:ns.length≤1000) (ho:os.length≤1000) (hs:sl.length≤1000) (k a b n:Int) (x:ByteArray) (st:Bool) :
  Calls Tryz.prog 69 #[.agg #[.int .i64 k,.int .i64 a,.int .i64 b,.int .i64 n,.string x],.int .i64 (pk:Nat),.bool st,.pointer (some ⟨go,0,none⟩),.pointer (some ⟨gp,0,none⟩),.pointer (some ⟨gs,0,none⟩)] w
   fun e w'=>e=.returned (.tuple #[])∧zoy B w0 w' gp go gs (ns++[⟨k,a,b,n,x⟩]) (os.take m++[(ns.length:Int)]) (sl++[st]):=by
 obtain ⟨pa,pc,oa,oc,sa,sc,M⟩:=h
 have HM0:=dq (M.alloc (.cells #[.int .i64 k,.int .i64 a,.int .i64 b,.int .i64 n,.string x] 102))
 have HX:Hid (Lies (w.alloc (.cells #[.int .i64 k,.int .i64 a,.int .i64 b,.int .i64 n,.string x] 102)) w.heap.size 102 [.int .i64 k,.int .i64 a,.int .i64 b,.int .i64 n,.string x]):=dq (Lies.new w _ _)
 have hnp:¬pa=some ⟨w.heap.size,0,none⟩:=fun e=>by have:=M.nds.lt e;omega
 have hng:¬w.heap.size=go∧¬w.heap.size=gp∧¬w.heap.size=gs:=⟨by have:=M.o.lt;omega,by have:=M.p.lt;omega,by have:=M.s.lt;omega⟩
 have HNG:=dq hng
 have HNP:=dq hnp
 have hle:=M.ins.le
 clear M hng hnp
 obtain ⟨q,hq⟩:∃ q,q=ns.length:=⟨_,rfl⟩
 obtain ⟨r,hr⟩:∃ r,r=sl.length:=⟨_,rfl⟩
 have HQ:=dq hq
 have HR:=dq hr
 rw [←hq] at hn ⊢
 rw [←hr] at hs
 rw [hm] at ho hle
 have HMK:Hid (os.length=m+pk):=dq hm
 clear hq hr hm
 go_enter Tryz.func69,Tryz.ntmps69
 go_wp2_with (fail)
 generalize w.alloc (.cells #[.int .i64 k,.int .i64 a,.int .i64 b,.int .i64 n,.string x] 102)=W1 at HM0 HX ⊢
 generalize w.heap.size=gb at HX HNG HNP ⊢
 have p0:W1.cell? ⟨gp,0,none⟩=some (.slice pa q pc):=by rw [HQ.out];exact HM0.out.p.cell 0
 have o0:W1.cell? ⟨go,0,none⟩=some (.slice oa (m+pk) oc):=by rw [←HMK.out];exact HM0.out.o.cell 0
 have hno:=zbA HM0.out.o HM0.out.ins (by decide)
 have f0:=HM0.out.o.frozen 0
 have hlo:go<W1.heap.size:=HM0.out.o.lt
 have hlp:gp<W1.heap.size:=HM0.out.p.lt
 have hw:IntKind.i64.wrap (m:Int)=(m:Int):=IntWalk.i64_in _ (by omega)
 have hmo:(m:Int)≤(oc:Int):=by omega
 have hm0:(0:Int)≤(m:Int):=by omega
 go_cut [9] (fun _ wx=>∃ a' c',Hid (PM B w0 wx gp go gs ns (os.take m++[(q:Int)]) sl pa pc a' c' sa sc)∧Hid (Lies wx gb 102 [.int .i64 k,.int .i64 a,.int .i64 b,.int .i64 n,.string x]))
 case first=>
  go_region_law ((refine zpV _ (by rfl) _ _ (by rfl) oa oc m _ (by rfl) (by rfl) (os.take m) (q:Int) (Ins.alloc_drew (Ins.cut HM0.out.ins (by have:=HMK.out;omega)) _) (Lies.new_drew W1 3 (zaR (q:Int))) (by rw [List.length_take];omega) (by rw [List.length_take];have:=HMK.out;omega) ?_;intro a' c' w' T K2 O;(have fz:w'.frozen? ⟨go,0,none⟩=false:=(zdP K2 HM0.out.o hno).frozen 0);(have cz:w'.cell? ⟨go,0,none⟩=some (.slice oa os.length oc):=(zdP K2 HM0.out.o hno).cell 0)))
  all_goals
   have HT:=dq T
   have HK2:=dq K2
   have HO:=dq O
   clear T K2 O
   have HM2:Hid (PM B w0 (w'.setCell ⟨go,0,none⟩ (.slice a' (m+1) c')) gp go gs ns (os.take m++[(q:Int)]) sl pa pc a' c' sa sc):=dq (PM.setO ((HM0.out.alloc _).drew) HT.out HK2.out HO.out (by rw [List.length_append,List.length_take];have:=HMK.out;simp;omega))
   have HX2:Hid (Lies (w'.setCell ⟨go,0,none⟩ (.slice a' (m+1) c')) gb 102 [.int .i64 k,.int .i64 a,.int .i64 b,.int .i64 n,.string x]):=dq (Lies.far (zdP HK2.out HX.out (fun e=>zbA HX.out HM0.out.ins (by decide) e)) (by exact HNG.out.1) _)
   clear HT HK2 HO fz cz
   go_wp2
   go_meet
   exact ⟨a',c',HM2,HX2⟩
 case rest=>
  obtain ⟨a',c',HM2,HX2⟩:=hcut
  generalize wc=W2 at HM2 HX2 ⊢
  have p2:W2.cell? ⟨gp,0,none⟩=some (.slice pa q pc):=by rw [HQ.out];exact HM2.out.p.cell 0
  have x0:=HX2.out.cell 0
  have x1:=HX2.out.cell 1
  have x2:=HX2.out.cell 2
  have x3:=HX2.out.cell 3
  have x4:=HX2.out.cell 4
  simp only [List.getElem?_cons_zero,List.getElem?_cons_succ] at x0 x1 x2 x3 x4
  have hgpgs:¬gp=gs:=Lies.other HM2.out.p HM2.out.s (by decide)
  have hgsgp:¬gs=gp:=Ne.symm hgpgs
  have hPn:=zb6 HM2.out.p HM2.out.nds (by decide)
  have hSn:=zb6 HM2.out.s HM2.out.nds (by decide)
  have hSb:=za9 HM2.out.s HM2.out.bls (by decide)
  clear p0 o0 f0 hlo hlp hno
  go_wp2_with (at_builtin;first
   | (refine zmC _ rfl _ _ rfl pa pc q _ rfl rfl ns ⟨k,a,b,n,x⟩ (Nds.alloc HM2.out.nds _) (Lies.new W2 102 (zbT ⟨k,a,b,n,x⟩)) (by have:=HQ.out;omega) HQ.out ?_;intro a2 c2 w3 T3 K3 O3;(have fz3:=(ze2 K3 HM2.out.p hPn).frozen 0);(have cz3:w3.cell? ⟨gp,0,none⟩=some (.slice pa ns.length pc):=(ze2 K3 HM2.out.p hPn).cell 0);(have sz3:w3.cell? ⟨gs,0,none⟩=some (.slice sa r sc):=by (rw [HR.out];exact (ze2 K3 HM2.out.s hSn).cell 0));(have HM3:=dq (PM.setP (m:=q+1) (HM2.out.alloc _) T3 K3 O3 (by rw [List.length_append,←HQ.out];rfl)));clear T3 K3 O3)
   | (refine zmD _ rfl _ _ rfl sa sc r _ rfl rfl sl st (Bls.alloc HM3.out.bls _) (Lies.newAt _ 4 (zbU st) (by simp)) (by have:=HR.out;omega) HR.out ?_;intro a3 c3 w4 T4 K4 O4;(have fz4:=(ze2 K4 HM3.out.s (za9 HM3.out.s HM3.out.bls (by decide))).frozen 0);(have cz4:w4.cell? ⟨gs,0,none⟩=some (.slice sa sl.length sc):=(ze2 K4 HM3.out.s (za9 HM3.out.s HM3.out.bls (by decide))).cell 0);(have HM4:=dq (PM.setS (m:=r+1) (HM3.out.alloc _) T4 K4 O4 (by rw [List.length_append,←HR.out];rfl)));clear T4 K4 O4))
  exact bodyPost_end (v:=.tuple #[]) (by simp [results,Tryz.results69,go_sem]) rfl ⟨rfl,_,_,_,_,_,_,HM4.out⟩
end Go.Proofs.YtmnkjekjknhhjaaGreatDoor.Q
namespace Go.Proofs.YtmnkjekjknhhjaaGreatDoor.Q
open Go.ChangeShapes Go.WideShapes Go.ChangeAt Go.RowKit
structure PG (ns:List Nd) (fl:List Pr) (sl:List Bool):Prop where
 chk:chkL 4 0 ns []=some fl
 sln:sl.length=ns.length
 tie:∀ e∈fl,∃ j:Nat,e.1=(j:Int)∧j<ns.length∧sl.getD j false=e.2
 nam:∀ x∈ns,x.name=emp
 few:ns.length+fl.length≤24
 non:fl=[]→ns=[]
theorem PG.nil:PG [] [] []:=⟨rfl,rfl,(fun e h=>by cases h),(fun x h=>by cases h),by simp,fun _=>rfl⟩
theorem zmE (l:List Bool) (b:Bool) (j:Nat) (h:j<l.length):(l++[b]).getD j false=l.getD j false:=by
 simp only [List.getD_eq_getElem?_getD]
 rw [List.getElem?_append_left h]
theorem zmF (l:List Bool) (b:Bool):(l++[b]).getD l.length false=b:=by simp [List.getD_eq_getElem?_getD]
theorem PG.add {ns:List Nd} {fl F:List Pr} {sl:List Bool} (h:PG ns fl sl) (x:Nd) (b:Bool) (hF:∀ e∈F,e∈fl) (hc:chkL 4 0 (ns++[x]) []=some (F++[((ns.length:Int),b)])) (hx:x.name=emp) (hl:ns.length+F.length+2≤24) :
  PG (ns++[x]) (F++[((ns.length:Int),b)]) (sl++[b]):=by
 refine ⟨hc,by simp [h.sln],?_,?_,by simp;omega,fun e=>by simp at e⟩
 ·intro e he
  rw [List.mem_append] at he
  rcases he with he | he
  ·obtain ⟨j,e1,e2,e3⟩:=h.tie e (hF e he)
   exact ⟨j,e1,by simp;omega,by rw [zmE _ _ _ (by rw [h.sln];exact e2)];exact e3⟩
  ·simp only [List.mem_singleton] at he
   subst he
   exact ⟨ns.length,rfl,by simp,by rw [←h.sln];exact zmF sl b⟩
 ·intro y hy
  rw [List.mem_append] at hy
  rcases hy with hy | hy
  ·exact h.nam y hy
  ·simp only [List.mem_singleton] at hy;subst hy;exact hx
theorem zmG (ns:List Nd) (x:Nd):((ns++[x]).length:Int)-1=(ns.length:Int):=by simp
theorem PG.leaf {ns:List Nd} {fl:List Pr} {sl:List Bool} (h:PG ns fl sl) (x:Nd) (hp:partsK x.kind=0) (hk:¬x.kind=6) (hr:rightB x 4 []=true) (hx:x.name=emp) (hl:ns.length+fl.length+2≤24) :
  PG (ns++[x]) (fl++[((ns.length:Int),false)]) (sl++[false]):=h.add x false (fun _ h=>h) (by have:=zrF h.chk x hp hk hr;rw [zmG] at this;exact this) hx hl
theorem PG.two {ns:List Nd} {F:List Pr} {p q:Pr} {sl:List Bool} (h:PG ns (F++[p,q]) sl) (kind:Int) (hk:kind=4∨kind=5):PG (ns++[zsv kind p.1 q.1]) (F++[((ns.length:Int),p.2 || q.2)]) (sl++[p.2 || q.2]):=
 h.add _ _ (fun e he=>by simp [he]) (by have:=zs3 (p:=p) (q:=q) (fl:=F) (ns:=ns) (tags:=4) (by rw [h.chk];simp) kind hk;rw [zmG] at this;exact this) rfl (by have:=h.few;simp at this;omega)
theorem PG.star {ns:List Nd} {F:List Pr} {p:Int} {sl:List Bool} (h:PG ns (F++[(p,false)]) sl) (hl:ns.length+F.length+2≤24):PG (ns++[zpQ p]) (F++[((ns.length:Int),true)]) (sl++[true]):=
 h.add _ _ (fun e he=>by simp [he]) (by have:=zrG (p:=p) (fl:=F) (ns:=ns) (tags:=4) h.chk;rw [zmG] at this;exact this) rfl hl
def PL (B:Nat) (w0 w:World) (gp go gs:Nat) (ns:List Nd) (fl:List Pr) (sl:List Bool):Prop:=zoy B w0 w gp go gs ns (fl.map (·.1)) sl∧PG ns fl sl
def atZ (zs:List Int) (len:Nat) (i:Nat):Int:=if i<len then zs.getD i 0 else 0
theorem zuS (a:Option Addr) (len cap:Nat) (zs:List Int) (i:Nat) (w:World) (HR:Hid (∀ k,k<len→RowAt w a zs k)) :
  Calls Tryz.prog 37 #[.slice a len cap,.int .i64 (i:Nat)] w fun e w'=>e=.returned (.int .i64 (atZ zs len i))∧w=w':=by
 by_cases h:i<len
 ·obtain ⟨b,off,rfl,hc,-,-,-⟩:=HR.out i h
  have HE:Hid (atZ zs len i=zs.getD i 0):=dq (if_pos h)
  generalize zs.getD i 0=z at hc HE
  have h1:¬((len:Int)≤(i:Int)):=by omega
  go_enter Tryz.func37,Tryz.ntmps37
  go_wp2
  go_ret
  exact ⟨zkp HE.out.symm,rfl⟩
 ·have HE:Hid (atZ zs len i=0):=dq (if_neg h)
  have h1:(len:Int)≤(i:Int):=by omega
  go_enter Tryz.func37,Tryz.ntmps37
  go_wp2
  go_ret
  exact ⟨zkp HE.out.symm,rfl⟩
theorem zp3 (a:Option Addr) (len:Nat) (zs:List Int) (i:Nat) (w:World) (HR:Hid (∀ k,k<len→RowAt w a zs k)) : -9223372036854775808≤atZ zs len i∧atZ zs len i≤9223372036854775807:=by
 unfold atZ
 by_cases h:i<len
 ·rw [if_pos h]
  obtain ⟨b,off,rfl,hc,-,h1,h2⟩:=HR.out i h
  exact ⟨h1,h2⟩
 ·rw [if_neg h];omega
end Go.Proofs.YtmnkjekjknhhjaaGreatDoor.Q

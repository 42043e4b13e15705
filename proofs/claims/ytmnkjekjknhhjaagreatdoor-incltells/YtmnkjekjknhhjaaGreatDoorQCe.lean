import Derived.Test.YtmnkjekjknhhjaaGreatDoorC
import Derived.Deep.OwnRows
namespace Go.Proofs.YtmnkjekjknhhjaaGreatDoor.Q
open Go.ChangeShapes Go.WideShapes Go.ChangeAt Go.RowKit
theorem ownBlock_slice (a:Option Addr) (n c:Nat) (g:Nat):(Value.slice a n c).ownBlock=some g↔∃ x,a=some x∧x.block=g:=by
 cases a<;>simp [Value.ownBlock]
theorem step_append_run {P:Program} (w:World) {ops:Array Oper} {o:Oper} {a:Act} {K:Act→World→Prop} {Q:Exit→Act→World→Prop} {E:Prop} (hgd:o.guard=none) (s x:Operand) (t tn:TypeId)
  (ho:o.op=.call {callee:=.builtin .append,args:=#[s,x],argTypes:=#[t,tn]}) (vs vx:Value) (hs:a.eval s=vs) (hx:a.eval x=vx)
  (v':Value) (w':World) (hr:(Builtin.append_ #[t,tn] o.type #[vs,vx]).run P w=.ok v' w') (h:K (a.put o.dst v') w') :
  if Region.wanted o (yielded ops a.tmps)=true then Oper.wp P o a w K Q else E:=by
 have hw:Region.wanted o (yielded ops a.tmps)=true:=by simp [Region.wanted,hgd]
 rw [if_pos hw]
 exact Lib.wp_append_run w s x t tn ho vs vx hs hx v' w' hr h
theorem zkp {k:IntKind} {a b:Int} (h:a=b):Ending.returned (.int k a)=.returned (.int k b):=by rw [h]
structure Nd where
 kind:Int
 a:Int
 b:Int
 n:Int
 name:ByteArray
deriving DecidableEq
def emp:ByteArray:=⟨#[]⟩
def zsv (kind:Int) (a b:Int):Nd:=⟨kind,a,b,0,emp⟩
def zpQ (a:Int):Nd:=⟨6,a,0,0,emp⟩
abbrev Pr:=Int×Bool
def partsK (k:Int):Nat:=if k=4∨k=5 then 2 else if k=6 then 1 else 0
def rightB (x:Nd) (tags:Int) (l:List (Int×Bool)):Bool:=
 if x.kind=1∨x.kind=2 then decide (x.a=0) && (decide (x.b=0) && decide (x.n=0))
 else if x.kind=3 then decide (0≤x.n) && (decide (x.n<tags) && (decide (1≤x.a) && (decide (x.a≤999999999) && decide (x.b=0))))
 else match l with
  | [p,q]=>decide (x.kind=4∨x.kind=5) && (decide (x.a=p.1) && (decide (x.b=q.1) && decide (x.n=0)))
  | [p]=>decide (x.kind=6) && (!p.2 && (decide (x.a=p.1) && (decide (x.b=0) && decide (x.n=0))))
  | _=>false
def chkStep (tags:Int) (i:Nat) (x:Nd) (fl:List (Int×Bool)):Option (List (Int×Bool)):=
 if fl.length<partsK x.kind then none
 else if rightB x tags (fl.drop (fl.length-partsK x.kind))=true then
  some (fl.take (fl.length-partsK x.kind)++[((i:Int),decide (x.kind=6) || (fl.drop (fl.length-partsK x.kind)).any (·.2))])
 else none
def chkL (tags:Int):Nat→List Nd→List (Int×Bool)→Option (List (Int×Bool))
 | _,[],fl=>some fl
 | i,x::r,fl=>match chkStep tags i x fl with
  | none=>none
  | some fl'=>chkL tags (i+1) r fl'
def oneB:Option (List (Int×Bool))→Bool
 | some [_]=>true
 | _=>false
def chkB (ns:List Nd) (tags:Int):Bool:=decide (ns.length≤24) && oneB (chkL tags 0 ns [])
theorem chkL_snoc (tags:Int) (x:Nd):∀ (i:Nat) (ns:List Nd) (fl:List (Int×Bool)),chkL tags i (ns++[x]) fl=match chkL tags i ns fl with | none=>none | some fl'=>chkStep tags (i+ns.length) x fl'
 | i,[],fl=>by
  simp only [List.nil_append,chkL,List.length_nil,Nat.add_zero]
  cases chkStep tags i x fl<;>rfl
 | i,y::r,fl=>by
  simp only [List.cons_append,chkL]
  cases chkStep tags i y fl with
  | none=>rfl
  | some fl'=>simp only;rw [chkL_snoc tags x (i+1) r fl',List.length_cons,show i+1+r.length=i+(r.length+1) by omega]
theorem zrF {tags:Int} {ns:List Nd} {fl:List (Int×Bool)} (h:chkL tags 0 ns []=some fl) (x:Nd) (hp:partsK x.kind=0) (hk:¬x.kind=6) (hr:rightB x tags []=true) :
  chkL tags 0 (ns++[x]) []=some (fl++[((((ns++[x]).length:Int)-1),false)]):=by
 rw [chkL_snoc,h]
 simp only
 unfold chkStep
 rw [hp,if_neg (by omega),Nat.sub_zero,List.drop_length,List.take_length,if_pos hr]
 simp [hk]
theorem zs3 {tags:Int} {ns:List Nd} {fl:List (Int×Bool)} {p q:Int×Bool} (h:chkL tags 0 ns []=some (fl++[p]++[q])) (kind:Int) (hk:kind=4∨kind=5) :
  chkL tags 0 (ns++[zsv kind p.1 q.1]) []=some (fl++[((((ns++[zsv kind p.1 q.1]).length:Int)-1),p.2 || q.2)]):=by
 have hp:partsK (zsv kind p.1 q.1).kind=2:=by unfold partsK;exact if_pos hk
 have hl:(fl++[p]++[q]).length-2=fl.length:=by simp
 have hd:(fl++[p]++[q]).drop fl.length=[p,q]:=by simp
 have ht:(fl++[p]++[q]).take fl.length=fl:=by simp
 rw [chkL_snoc,h]
 simp only
 unfold chkStep
 rw [hp,if_neg (by simp),hl,hd,ht]
 have hr:rightB (zsv kind p.1 q.1) tags [p,q]=true:=by
  unfold rightB
  rcases hk with rfl | rfl<;>simp [zsv]
 have h6:¬(zsv kind p.1 q.1).kind=6:=by rcases hk with rfl | rfl<;>simp [zsv]
 rw [if_pos hr]
 simp [h6]
theorem zrG {tags:Int} {ns:List Nd} {fl:List (Int×Bool)} {p:Int} (h:chkL tags 0 ns []=some (fl++[(p,false)])) :
  chkL tags 0 (ns++[zpQ p]) []=some (fl++[((((ns++[zpQ p]).length:Int)-1),true)]):=by
 rw [chkL_snoc,h]
 simp only
 unfold chkStep
 have hp:partsK (zpQ p).kind=1:=rfl
 have hl:(fl++[(p,false)]).length-1=fl.length:=by simp
 rw [hp,if_neg (by simp),hl]
 simp [zpQ,rightB]
def zbT (t:Nd):List Value:=[.int .i64 t.kind,.int .i64 t.a,.int .i64 t.b,.int .i64 t.n,.string t.name]
def zfj (ts:List Nd):List Value:=ts.flatMap zbT
theorem zjk (t:Nd) (ts:List Nd):zfj (t::ts)=zbT t++zfj ts:=rfl
theorem zeq (ts:List Nd):(zfj ts).length=ts.length*5:=by
 induction ts with
 | nil=>rfl
 | cons p kv ih=>rw [zjk,List.length_append,ih];simp [zbT];omega
theorem zls (a b:List Nd):zfj (a++b)=zfj a++zfj b:=by unfold zfj;rw [List.flatMap_append]
theorem zpR (ts:List Nd):∀ x∈zfj ts,x.oneCell'=true:=fun x hx=>by
 unfold zfj at hx
 obtain ⟨p,_,hx⟩:=List.mem_flatMap.1 hx
 simp [zbT] at hx
 rcases hx with rfl | rfl | rfl | rfl | rfl<;>rfl
theorem zpS (ts:List Nd) (j:Nat) (hj:j<ts.length) (i:Nat) (hi:i<5):(zfj ts)[j*5+i]? = (zbT ts[j])[i]?:=by
 induction ts generalizing j with
 | nil=>simp at hj
 | cons t ts ih=>
  rw [zjk]
  cases j with
  | zero=>rw [List.getElem?_append_left (by simp [zbT];omega)];simp
  | succ j=>
   rw [List.getElem?_append_right (by simp [zbT];omega)]
   have e:(j+1)*5+i-(zbT t).length=j*5+i:=by simp [zbT];omega
   rw [e,ih j (by simpa using hj)]
   rfl
def Nds (w:World) (a:Option Addr) (c:Nat) (ts:List Nd):Prop:=
 (a=none∧c=0∧ts=[])∨∃ g sp,a=some ⟨g,0,none⟩∧sp.length=(c-ts.length)*5∧ts.length≤c∧c≤9223372036854775807∧Lies w g 102 (zfj ts++sp)
section
variable {w w':World} {a:Option Addr} {c:Nat} {ts:List Nd}
theorem Nds.nil (w:World):Nds w none 0 []:=.inl ⟨rfl,rfl,rfl⟩
theorem Nds.kept {X:Nat→Prop} (h:Nds w a c ts) (k:Kept X w w') (hx:∀ g,a=some ⟨g,0,none⟩→¬X g):Nds w' a c ts:=by
 rcases h with h | ⟨g,sp,rfl,h1,h2,h3,l⟩
 ·exact .inl h
 ·exact .inr ⟨g,sp,rfl,h1,h2,h3,l.kept k (hx g rfl)⟩
theorem Nds.below (h:Nds w a c ts) (k:Below w.heap.size w w'):Nds w' a c ts:=h.kept (X:=fun _=>False) (Kept.of_below k) (fun _ _ h=>h)
theorem Nds.lt (h:Nds w a c ts) {g:Nat} (e:a=some ⟨g,0,none⟩):g<w.heap.size:=by
 subst e
 rcases h with ⟨h,_⟩ | ⟨g',sp,h,_,_,_,l⟩
 ·cases h
 ·injection h with h;injection h with h;subst h;exact l.lt
theorem Nds.le (h:Nds w a c ts):ts.length≤c∧c≤9223372036854775807:=by
 rcases h with ⟨_,rfl,rfl⟩ | ⟨g',sp,_,_,h1,h2,_⟩
 ·simp
 ·omega
theorem Nds.form (h:Nds w a c ts):a=none∨∃ g,a=some ⟨g,0,none⟩:=by
 rcases h with ⟨e,_⟩ | ⟨g,_,e,_⟩
 ·exact .inl e
 ·exact .inr ⟨g,e⟩
structure NdAt (w:World) (g o:Nat) (t:Nd):Prop where
 c0:w.cell? ⟨g,o,none⟩=some (.int .i64 t.kind)
 c1:w.cell? ⟨g,o+1,none⟩=some (.int .i64 t.a)
 c2:w.cell? ⟨g,o+2,none⟩=some (.int .i64 t.b)
 c3:w.cell? ⟨g,o+3,none⟩=some (.int .i64 t.n)
 c4:w.cell? ⟨g,o+4,none⟩=some (.string t.name)
theorem Nds.there (h:Nds w a c ts) {j:Nat} (hj:j<ts.length):∃ g,a=some ⟨g,0,none⟩∧NdAt w g (j*5) ts[j]:=by
 rcases h with ⟨_,_,rfl⟩ | ⟨g,sp,rfl,_,_,_,l⟩
 ·simp at hj
 ·have hl:=zeq ts
  have hg:∀ i,i<5→w.cell? ⟨g,j*5+i,none⟩=(zbT ts[j])[i]?:=fun i hi=>by
   rw [l.cell,List.getElem?_append_left (by omega),zpS ts j hj i hi]
  exact ⟨g,rfl,⟨hg 0 (by omega),hg 1 (by omega),hg 2 (by omega),hg 3 (by omega),hg 4 (by omega)⟩⟩
theorem Nds.own (h:Nds w a c ts):w.ownsRow 0 102 5 (.slice a ts.length c) ts.length (zfj ts):=by
 refine ⟨zeq ts,?_⟩
 rcases h with ⟨rfl,rfl,rfl⟩ | ⟨g,sp,rfl,h1,h2,h3,l⟩
 ·exact .inl ⟨rfl,rfl⟩
 ·refine .inr ⟨g,c,_,rfl,Nat.zero_le _,l,h2,by unfold maxLen;omega,?_,?_⟩
  ·simp [zeq,h1];omega
  ·rw [←zeq ts];simp
theorem zs4 {v:Value} {n:Nat} (hn:n=ts.length) (h:w.ownsRow 0 102 5 v n (zfj ts)):∃ a c,v=.slice a n c∧Nds w a c ts:=by
 subst hn
 rcases h.2 with ⟨rfl,e⟩ | ⟨g,cap,cur,rfl,_,hh,hn,hm,hs,ht⟩
 ·obtain rfl:ts=[]:=List.eq_nil_of_length_eq_zero e
  exact ⟨none,0,rfl,Nds.nil w⟩
 ·unfold maxLen at hm
  refine ⟨_,_,rfl,.inr ⟨g,cur.toList.drop (ts.length*5),rfl,?_,hn,by omega,(zc8 hh).to ?_⟩⟩
  ·rw [List.length_drop,Array.length_toList,hs];omega
  ·rw [←ht,List.take_append_drop]
end
theorem Tryz.info102:(Tryz.prog.info? 102).map (fun i=>(i.zero,i.size,i.bytes))=some (some (.agg #[.int .i64 0,.int .i64 0,.int .i64 0,.int .i64 0,.string ⟨#[]⟩]),5,48):=by kernel_rfl
theorem zu8 (ty:TypeId) (a:Option Addr) (c:Nat) (ts:List Nd) (g:Nat) (t:Nd) (w:World) (R:Nds w a c ts) (hg:Lies w g 102 (zbT t)) (hb:ts.length≤1000000) {n:Nat} (hn:n=ts.length) :
  ∃ a' c' w',(Builtin.append_ #[69,69] ty #[.slice a n c,.slice (some ⟨g,0,none⟩) 1 1]).run Tryz.prog w=.ok (.slice a' (n+1) c') w'∧Nds w' a' c' (ts++[t])∧Kept (fun g=>a=some ⟨g,0,none⟩) w w'∧
   ∀ g,a'=some ⟨g,0,none⟩→a=some ⟨g,0,none⟩∨w.heap.size≤g:=by
 subst hn
 obtain ⟨i,hi,hz,hsz,hby⟩:=info_parts Tryz.info102
 have hform:=R.form
 obtain ⟨v',w',hr,h2,h3,_,h5⟩:=run_append_own_at (P:=Tryz.prog) w 0 69 ty 102 i _ 5 48 Tryz.underlying69 hi hz hsz hby (by simp [Value.cells]) (by omega) _ ts.length (zfj ts) R.own
  ⟨g,0,none⟩ 1 1 (zfj [t]) (zeq [t]) (fun j u hj=>by
   rw [Addr.add_lit,Nat.zero_add,hg.cell]
   rw [←hj]
   simp [zfj]) (zpR [t]) (by unfold maxLen;omega) (by omega) (Nat.zero_le _)
 rw [←zls] at h2
 obtain ⟨a',c',rfl,r'⟩:=zs4 (by simp) h2
 refine ⟨a',c',w',hr,r',?_,fun g e=>?_⟩
 ·refine ⟨h3.os,h3.tape,h3.output,h3.size,fun g hg hx=>h3.block g hg (fun e=>?_)⟩
  obtain ⟨x,rfl,hx'⟩:=(ownBlock_slice a _ _ g).1 e.symm
  rcases hform with h | ⟨g',h⟩
  ·cases h
  ·injection h with h;subst h;subst hx';exact hx rfl
 ·subst e
  rcases h5 with h5 | h5
  ·obtain ⟨x,rfl,hx⟩:=(ownBlock_slice a ts.length c g).1 (by rw [←h5];rfl)
   rcases hform with h | ⟨g',h⟩
   ·cases h
   ·injection h with h;subst h;subst hx;exact .inl rfl
  ·have:g=w.heap.size:=by simpa [Value.ownBlock] using h5
   exact .inr (by omega)
theorem Nds.alloc {w:World} {a:Option Addr} {c:Nat} {ts:List Nd} (h:Nds w a c ts) (o:Obj):Nds (w.alloc o) a c ts:=h.kept (X:=fun _=>False) ((Kept.refl _ w).alloc o) (fun _ _ h=>h)
theorem zmC (w:World) {ops:Array Oper} {rest:List Oper} {o:Oper} {x:Act} {Q:Exit→Act→World→Prop} (hgd:o.guard=none) (s y:Operand)
  (ho:o.op=.call {callee:=.builtin .append,args:=#[s,y],argTypes:=#[69,69]}) (a:Option Addr) (c n:Nat) (g:Nat) (hs:x.eval s=.slice a n c) (hx:x.eval y=.slice (some ⟨g,0,none⟩) 1 1)
  (ts:List Nd) (t:Nd) (R:Nds w a c ts) (hg:Lies w g 102 (zbT t)) (hb:ts.length≤1000000) (hn:n=ts.length)
  (h:∀ a' c' w',Nds w' a' c' (ts++[t])→Kept (fun g=>a=some ⟨g,0,none⟩) w w'→(∀ g,a'=some ⟨g,0,none⟩→a=some ⟨g,0,none⟩∨w.heap.size≤g)→wpList Tryz.prog ops Q rest (x.put o.dst (.slice a' (n+1) c')) w') :
  wpList Tryz.prog ops Q (o::rest) x w:=by
 obtain ⟨a',c',w',hr,h1,h2,h3⟩:=zu8 o.type a c ts g t w R hg hb hn
 exact Lib.wpList_append_run w hgd s y 69 69 ho _ _ hs hx _ _ hr (h a' c' w' h1 h2 h3)
def NodesAt (w:World) (a:Option Addr) (ns:List Nd):Prop:=∀ j (h:j<ns.length),∃ b off,a=some ⟨b,off,none⟩∧NdAt w b (off+j*5) ns[j]∧b<w.heap.size
theorem NodesAt.below {w w':World} {a:Option Addr} {l:List Nd} (h:NodesAt w a l) (b:Below w.heap.size w w'):NodesAt w' a l:=fun j hj=>by
 obtain ⟨x,off,e,p,hx⟩:=h j hj
 exact ⟨x,off,e,⟨(b.cell (p:=⟨x,_,none⟩) hx).trans p.c0,(b.cell (p:=⟨x,_,none⟩) hx).trans p.c1,(b.cell (p:=⟨x,_,none⟩) hx).trans p.c2,(b.cell (p:=⟨x,_,none⟩) hx).trans p.c3,(b.cell (p:=⟨x,_,none⟩) hx).trans p.c4⟩,Nat.lt_of_lt_of_le hx b.size⟩
theorem Nds.at {w:World} {a:Option Addr} {c:Nat} {ns:List Nd} (h:Nds w a c ns):NodesAt w a ns:=fun j hj=>by
 obtain ⟨g,e,p⟩:=h.there hj
 exact ⟨g,0,e,by rw [Nat.zero_add];exact p,h.lt e⟩
theorem zus {ns:List Nd} {tags:Int} {i:Nat} {fl:List Pr} (h:i<ns.length):chkL tags i (ns.drop i) fl=match chkStep tags i ns[i] fl with | none=>none | some fl'=>chkL tags (i+1) (ns.drop (i+1)) fl':=by
 rw [List.drop_eq_getElem_cons h];rfl
theorem Lies.new_drew (w:World) (t:TypeId) (cs:List Value):Lies (w.alloc (.cells cs.toArray t)).drew w.heap.size t cs:=Lies.new w t cs
theorem zdP {X:Nat→Prop} {w w':World} {o:Obj} {g:Nat} {t:TypeId} {cs:List Value} (k:Kept X (w.alloc o).drew w') (l:Lies w g t cs) (hx:¬X g):Lies w' g t cs:=Lies.kept (w:=(w.alloc o).drew) (l.alloc o) k hx
theorem ze2 {X:Nat→Prop} {w w':World} {o:Obj} {g:Nat} {t:TypeId} {cs:List Value} (k:Kept X (w.alloc o) w') (l:Lies w g t cs) (hx:¬X g):Lies w' g t cs:=(l.alloc o).kept k hx
theorem within_mod (v:Int) (n:Nat) (w:World) (hn:0<n) (hm:n≤9223372036854775807) (_h0 : -9223372036854775808≤v) (_h1:v≤9223372036854775807) :
  Calls Tryz.prog 10 #[.int .i64 v,.int .i64 n] w fun e w'=>e=.returned (.int .i64 (v % (n:Int)))∧w=w':=by
 have hnz:¬(n:Int)=0:=by omega
 have hn1:¬(n:Int)<1:=by omega
 have hlo : -(n:Int)<v.tmod n:=by have:=Int.lt_tmod_of_pos v (show (0:Int)<n by omega);omega
 have hhi:v.tmod n<(n:Int):=Int.tmod_lt_of_pos v (by omega)
 have HE:Hid (v % (n:Int)=if v.tmod n<0 then v.tmod n+n else v.tmod n):=dq (by
  have h1:=Int.tmod_add_mul_tdiv v n
  have h2:=Int.emod_nonneg v (b:=(n:Int)) (by omega)
  have h3:=Int.emod_lt_of_pos v (b:=(n:Int)) (by omega)
  by_cases h:v.tmod n<0
  ·rw [if_pos h]
   have e:v=(v.tmod n+n)+(n:Int)*(v.tdiv n-1):=by rw [Int.mul_sub];omega
   have:v % (n:Int)=(v.tmod n+n) % (n:Int):=by conv=>lhs;rw [e,Int.add_mul_emod_self_left]
   rw [this,Int.emod_eq_of_lt (by omega) (by omega)]
  ·rw [if_neg h]
   have e:v=v.tmod n+(n:Int)*v.tdiv n:=by omega
   have:v % (n:Int)=(v.tmod n) % (n:Int):=by conv=>lhs;rw [e,Int.add_mul_emod_self_left]
   rw [this,Int.emod_eq_of_lt (by omega) (by omega)])
 generalize v % (n:Int)=z at HE ⊢
 go_enter Tryz.func10,Tryz.ntmps10
 go_wp2
 ·go_ret
  exact ⟨zkp (by rw [HE.out,if_pos ‹_›]),rfl⟩
 ·go_ret
  exact ⟨zkp (by rw [HE.out,if_neg (by omega)]),rfl⟩
end Go.Proofs.YtmnkjekjknhhjaaGreatDoor.Q
namespace Go.Proofs.YtmnkjekjknhhjaaGreatDoor.Q
open Go.ChangeShapes Go.WideShapes Go.ChangeAt Go.RowKit
def zaR (t:Int):List Value:=[.int .i64 t]
def zer (ts:List Int):List Value:=ts.flatMap zaR
theorem zjl (t:Int) (ts:List Int):zer (t::ts)=zaR t++zer ts:=rfl
theorem zdH (ts:List Int):(zer ts).length=ts.length*1:=by
 induction ts with
 | nil=>rfl
 | cons p kv ih=>rw [zjl,List.length_append,ih];simp [zaR];omega
theorem zg9 (a b:List Int):zer (a++b)=zer a++zer b:=by unfold zer;rw [List.flatMap_append]
theorem zpT (ts:List Int):∀ x∈zer ts,x.oneCell'=true:=fun x hx=>by
 unfold zer at hx
 obtain ⟨p,_,hx⟩:=List.mem_flatMap.1 hx
 simp [zaR] at hx
 rw [hx];rfl
theorem zpU (ts:List Int) (j:Nat) (hj:j<ts.length) (i:Nat) (hi:i<1):(zer ts)[j*1+i]? = (zaR ts[j])[i]?:=by
 induction ts generalizing j with
 | nil=>simp at hj
 | cons t ts ih=>
  rw [zjl]
  cases j with
  | zero=>rw [List.getElem?_append_left (by simp [zaR]<;>omega)];simp
  | succ j=>
   rw [List.getElem?_append_right (by simp [zaR]<;>omega)]
   have e:(j+1)*1+i-(zaR t).length=j*1+i:=by simp [zaR]
   rw [e,ih j (by simpa using hj)]
   rfl
def Ins (w:World) (a:Option Addr) (c:Nat) (ts:List Int):Prop:=
 (a=none∧c=0∧ts=[])∨∃ g sp,a=some ⟨g,0,none⟩∧sp.length=(c-ts.length)*1∧ts.length≤c∧c≤9223372036854775807∧Lies w g 3 (zer ts++sp)
section
variable {w w':World} {a:Option Addr} {c:Nat} {ts:List Int}
theorem Ins.nil (w:World):Ins w none 0 []:=.inl ⟨rfl,rfl,rfl⟩
theorem Ins.kept {X:Nat→Prop} (h:Ins w a c ts) (k:Kept X w w') (hx:∀ g,a=some ⟨g,0,none⟩→¬X g):Ins w' a c ts:=by
 rcases h with h | ⟨g,sp,rfl,h1,h2,h3,l⟩
 ·exact .inl h
 ·exact .inr ⟨g,sp,rfl,h1,h2,h3,l.kept k (hx g rfl)⟩
theorem Ins.le (h:Ins w a c ts):ts.length≤c∧c≤9223372036854775807:=by
 rcases h with ⟨_,rfl,rfl⟩ | ⟨g',sp,_,_,h1,h2,_⟩
 ·simp
 ·omega
theorem Ins.form (h:Ins w a c ts):a=none∨∃ g,a=some ⟨g,0,none⟩:=by
 rcases h with ⟨e,_⟩ | ⟨g,_,e,_⟩
 ·exact .inl e
 ·exact .inr ⟨g,e⟩
structure InAt (w:World) (g o:Nat) (t:Int):Prop where
 c0:w.cell? ⟨g,o,none⟩=some (.int .i64 t)
theorem Ins.there (h:Ins w a c ts) {j:Nat} (hj:j<ts.length):∃ g,a=some ⟨g,0,none⟩∧InAt w g (j*1) ts[j]:=by
 rcases h with ⟨_,_,rfl⟩ | ⟨g,sp,rfl,_,_,_,l⟩
 ·simp at hj
 ·have hl:=zdH ts
  have hg:∀ i,i<1→w.cell? ⟨g,j*1+i,none⟩=(zaR ts[j])[i]?:=fun i hi=>by
   rw [l.cell,List.getElem?_append_left (by omega),zpU ts j hj i hi]
  exact ⟨g,rfl,⟨hg 0 (by omega)⟩⟩
theorem Ins.own (h:Ins w a c ts):w.ownsRow 0 3 1 (.slice a ts.length c) ts.length (zer ts):=by
 refine ⟨zdH ts,?_⟩
 rcases h with ⟨rfl,rfl,rfl⟩ | ⟨g,sp,rfl,h1,h2,h3,l⟩
 ·exact .inl ⟨rfl,rfl⟩
 ·refine .inr ⟨g,c,_,rfl,Nat.zero_le _,l,h2,by unfold maxLen;omega,?_,?_⟩
  ·simp [zdH,h1];omega
  ·rw [←zdH ts];simp
theorem zs5 {v:Value} {n:Nat} (hn:n=ts.length) (h:w.ownsRow 0 3 1 v n (zer ts)):∃ a c,v=.slice a n c∧Ins w a c ts:=by
 subst hn
 rcases h.2 with ⟨rfl,e⟩ | ⟨g,cap,cur,rfl,_,hh,hn,hm,hs,ht⟩
 ·obtain rfl:ts=[]:=List.eq_nil_of_length_eq_zero e
  exact ⟨none,0,rfl,Ins.nil w⟩
 ·unfold maxLen at hm
  refine ⟨_,_,rfl,.inr ⟨g,cur.toList.drop (ts.length*1),rfl,?_,hn,by omega,(zc8 hh).to ?_⟩⟩
  ·rw [List.length_drop,Array.length_toList,hs];omega
  ·rw [←ht,List.take_append_drop]
end
theorem zu0 (ty:TypeId) (a:Option Addr) (c:Nat) (ts:List Int) (g:Nat) (t:Int) (w:World) (R:Ins w a c ts) (hg:Lies w g 3 (zaR t)) (hb:ts.length≤1000000) {n:Nat} (hn:n=ts.length) :
  ∃ a' c' w',(Builtin.append_ #[22,22] ty #[.slice a n c,.slice (some ⟨g,0,none⟩) 1 1]).run Tryz.prog w=.ok (.slice a' (n+1) c') w'∧Ins w' a' c' (ts++[t])∧Kept (fun g=>a=some ⟨g,0,none⟩) w w'∧
   ∀ g,a'=some ⟨g,0,none⟩→a=some ⟨g,0,none⟩∨w.heap.size≤g:=by
 subst hn
 obtain ⟨i,hi,hz,hsz,hby⟩:=info_parts Tryz.info3
 have hform:=R.form
 obtain ⟨v',w',hr,h2,h3,_,h5⟩:=run_append_own_at (P:=Tryz.prog) w 0 22 ty 3 i _ 1 8 Tryz.underlying22 hi hz hsz hby (by simp [Value.cells]) (by omega) _ ts.length (zer ts) R.own
  ⟨g,0,none⟩ 1 1 (zer [t]) (zdH [t]) (fun j u hj=>by
   rw [Addr.add_lit,Nat.zero_add,hg.cell]
   rw [←hj]
   simp [zer]) (zpT [t]) (by unfold maxLen;omega) (by omega) (Nat.zero_le _)
 rw [←zg9] at h2
 obtain ⟨a',c',rfl,r'⟩:=zs5 (by simp) h2
 refine ⟨a',c',w',hr,r',?_,fun g e=>?_⟩
 ·refine ⟨h3.os,h3.tape,h3.output,h3.size,fun g hg hx=>h3.block g hg (fun e=>?_)⟩
  obtain ⟨x,rfl,hx'⟩:=(ownBlock_slice a _ _ g).1 e.symm
  rcases hform with h | ⟨g',h⟩
  ·cases h
  ·injection h with h;subst h;subst hx';exact hx rfl
 ·subst e
  rcases h5 with h5 | h5
  ·obtain ⟨x,rfl,hx⟩:=(ownBlock_slice a ts.length c g).1 (by rw [←h5];rfl)
   rcases hform with h | ⟨g',h⟩
   ·cases h
   ·injection h with h;subst h;subst hx;exact .inl rfl
  ·have:g=w.heap.size:=by simpa [Value.ownBlock] using h5
   exact .inr (by omega)
theorem Ins.alloc {w:World} {a:Option Addr} {c:Nat} {ts:List Int} (h:Ins w a c ts) (o:Obj):Ins (w.alloc o) a c ts:=h.kept (X:=fun _=>False) ((Kept.refl _ w).alloc o) (fun _ _ h=>h)
theorem zpV (w:World) {ops:Array Oper} {o:Oper} {x:Act} {K:Act→World→Prop} {Q:Exit→Act→World→Prop} {E:Prop} (hgd:o.guard=none) (s y:Operand)
  (ho:o.op=.call {callee:=.builtin .append,args:=#[s,y],argTypes:=#[22,22]}) (a:Option Addr) (c n:Nat) (g:Nat) (hs:x.eval s=.slice a n c) (hx:x.eval y=.slice (some ⟨g,0,none⟩) 1 1)
  (ts:List Int) (t:Int) (R:Ins w a c ts) (hg:Lies w g 3 (zaR t)) (hb:ts.length≤1000000) (hn:n=ts.length)
  (h:∀ a' c' w',Ins w' a' c' (ts++[t])→Kept (fun g=>a=some ⟨g,0,none⟩) w w'→(∀ g,a'=some ⟨g,0,none⟩→a=some ⟨g,0,none⟩∨w.heap.size≤g)→K (x.put o.dst (.slice a' (n+1) c')) w') :
  if Region.wanted o (yielded ops x.tmps)=true then Oper.wp Tryz.prog o x w K Q else E:=by
 obtain ⟨a',c',w',hr,h1,h2,h3⟩:=zu0 o.type a c ts g t w R hg hb hn
 exact step_append_run w hgd s y 22 22 ho _ _ hs hx _ _ hr (h a' c' w' h1 h2 h3)
theorem za8 (w:World) {ops:Array Oper} {rest:List Oper} {o:Oper} {x:Act} {Q:Exit→Act→World→Prop} (hgd:o.guard=none) (s y:Operand)
  (ho:o.op=.call {callee:=.builtin .append,args:=#[s,y],argTypes:=#[22,22]}) (a:Option Addr) (c n:Nat) (g:Nat) (hs:x.eval s=.slice a n c) (hx:x.eval y=.slice (some ⟨g,0,none⟩) 1 1)
  (ts:List Int) (t:Int) (R:Ins w a c ts) (hg:Lies w g 3 (zaR t)) (hb:ts.length≤1000000) (hn:n=ts.length)
  (h:∀ a' c' w',Ins w' a' c' (ts++[t])→Kept (fun g=>a=some ⟨g,0,none⟩) w w'→(∀ g,a'=some ⟨g,0,none⟩→a=some ⟨g,0,none⟩∨w.heap.size≤g)→wpList Tryz.prog ops Q rest (x.put o.dst (.slice a' (n+1) c')) w') :
  wpList Tryz.prog ops Q (o::rest) x w:=by
 obtain ⟨a',c',w',hr,h1,h2,h3⟩:=zu0 o.type a c ts g t w R hg hb hn
 exact Lib.wpList_append_run w hgd s y 22 22 ho _ _ hs hx _ _ hr (h a' c' w' h1 h2 h3)
theorem Ins.cut {w:World} {a:Option Addr} {c:Nat} {ts:List Int} (h:Ins w a c ts) {k:Nat} (hk:k≤ts.length):Ins w a c (ts.take k):=by
 rcases h with ⟨e1,e2,rfl⟩ | ⟨g,sp,e,h1,h2,h3,l⟩
 ·exact .inl ⟨e1,e2,by simp⟩
 ·refine .inr ⟨g,zer (ts.drop k)++sp,e,?_,?_,h3,l.to ?_⟩
  ·rw [List.length_append,zdH,List.length_take,List.length_drop,h1,Nat.min_eq_left hk];omega
  ·rw [List.length_take];omega
  ·rw [←List.append_assoc,←zg9,List.take_append_drop]
end Go.Proofs.YtmnkjekjknhhjaaGreatDoor.Q
namespace Go.Proofs.YtmnkjekjknhhjaaGreatDoor.Q
open Go.ChangeShapes Go.WideShapes Go.ChangeAt Go.RowKit
theorem zow {X:Nat→Prop} {w x y:World} (b:Below w.heap.size w x) (k:Kept X x y) (hX:∀ g,X g→w.heap.size≤g):Below w.heap.size w y:=b.trans (k.below hX b.size)
def zc6 (l:List Bool):List Value:=l.map Value.bool
theorem zpW {l:List Bool} {k:Nat} (h:k<l.length):(zc6 l)[k]? = some (.bool l[k]):=by simp [zc6,h]
theorem zes (l:List Bool) (k:Nat) (b:Bool):(zc6 l).set k (.bool b)=zc6 (l.set k b):=by simp [zc6,List.map_set]
theorem Tryz.info4:(Tryz.prog.info? 4).map (fun i=>(i.zero,i.size,i.bytes))=some (some (.bool false),1,1):=by kernel_rfl
structure RefSt (w wr:World) (ns:List Nd) (tags:Int) (i:Nat) (fl:List Pr) (a:Option Addr) (c:Nat) (gs:Nat) (sl:List Bool):Prop where
 ins:Ins wr a c (fl.map (·.1))
 own:∀ g,a=some ⟨g,0,none⟩→w.heap.size≤g
 stars:Lies wr gs 4 (zc6 sl)
 sown:w.heap.size≤gs
 bel:Below w.heap.size w wr
 eq:chkL tags i (ns.drop i) fl=chkL tags 0 ns []
 len:fl.length≤i
 sln:sl.length=ns.length
 tie:∀ e∈fl,∃ j:Nat,e.1=(j:Int)∧j<i∧sl.getD j false=e.2
 rest:∀ j,i≤j→sl.getD j false=false
theorem zbz (l:List Bool) (k:Nat) (b:Bool) (h:k<l.length):(l.set k b).getD k false=b:=by simp [List.getD_eq_getElem?_getD,h]
theorem zbm (l:List Bool) (k j:Nat) (b:Bool) (h:¬j=k):(l.set k b).getD j false=l.getD j false:=by
 simp only [List.getD_eq_getElem?_getD]
 rw [List.getElem?_set_ne (Ne.symm h)]
theorem zaA {w:World} {gs:Nat} {sl:List Bool} (h:Lies w gs 4 (zc6 sl)) {j:Nat} (hj:j<sl.length):w.cell? ⟨gs,j,none⟩=some (.bool (sl.getD j false)):=by
 rw [h.cell,zpW hj,List.getD_eq_getElem?_getD,List.getElem?_eq_getElem hj];rfl
theorem zpX {w:World} {gs:Nat} {sl:List Bool} {a:Option Addr} {c:Nat} {xs:List Int} (h:Lies w gs 4 (zc6 sl)) (i:Ins w a c xs):¬a=some ⟨gs,0,none⟩:=by
 rintro rfl
 rcases i with ⟨e,_⟩ | ⟨g',sp,e,_,_,_,l⟩
 ·cases e
 ·injection e with e;injection e with e;subst e
  exact Lies.other h l (by decide) rfl
theorem Lies.newAt (w:World) (t:TypeId) (cs:List Value) {g:Nat} (h:g=w.heap.size):Lies (w.alloc (.cells cs.toArray t)) g t cs:=by subst h;exact Lies.new w t cs
theorem RefSt.next {w wr W w5:World} {o:Obj} {ns:List Nd} {tags:Int} {k:Nat} {fl:List Pr} {fa a':Option Addr} {fc c' gs m:Nat} {sl sl':List Bool} {sb:Bool} (h:RefSt w wr ns tags k fl fa fc gs sl)
  (hW:Below w.heap.size w W) (S:Lies W gs 4 (zc6 sl')) (T:Ins w5 a' c' ((fl.map (·.1)).take m++[(k:Int)])) (K:Kept (fun g=>fa=some ⟨g,0,none⟩) (W.alloc o) w5)
  (O:∀ g,a'=some ⟨g,0,none⟩→fa=some ⟨g,0,none⟩∨(W.alloc o).heap.size≤g) (hx:¬fa=some ⟨gs,0,none⟩) (hm:m≤fl.length)
  (eq:chkL tags 0 ns []=chkL tags (k+1) (ns.drop (k+1)) (fl.take m++[((k:Int),sb)])) (s1:sl'.getD k false=sb) (s2:∀ j,¬j=k→sl'.getD j false=sl.getD j false) (s3:sl'.length=sl.length) :
  RefSt w w5 ns tags (k+1) (fl.take m++[((k:Int),sb)]) a' c' gs sl':=by
 refine ⟨?_,fun g e=>?_,ze2 K S hx,h.sown,zow (hW.alloc hW.size _) K h.own,eq.symm,?_,by rw [s3,h.sln],?_,fun j hj=>by rw [s2 j (by omega)];exact h.rest j (by omega)⟩
 ·rw [List.map_append,List.map_take];exact T
 ·rcases O g e with h' | h'
  ·exact h.own g h'
  ·have:=hW.size
   simp at h'
   omega
 ·rw [List.length_append,List.length_take];have:=h.len;simp only [List.length_cons,List.length_nil];omega
 ·intro e he
  rw [List.mem_append] at he
  rcases he with he | he
  ·obtain ⟨j,e1,e2,e3⟩:=h.tie e (List.mem_of_mem_take he)
   exact ⟨j,e1,by omega,by rw [s2 j (by omega)];exact e3⟩
  ·simp only [List.mem_singleton] at he
   subst he
   exact ⟨k,rfl,by omega,s1⟩
theorem zd4 {ns:List Nd} {tags:Int} {k:Nat} {fl:List Pr} {y:Nd} {o:Option (List Pr)} (hq:o=match chkStep tags k y fl with | none=>none | some fl'=>chkL tags (k+1) (ns.drop (k+1)) fl') (h:chkStep tags k y fl=none):o=none:=by rw [hq,h]
theorem znF {ns:List Nd} {tags:Int} {k:Nat} {fl fl':List Pr} {y:Nd} {o:Option (List Pr)} (hq:o=match chkStep tags k y fl with | none=>none | some fl'=>chkL tags (k+1) (ns.drop (k+1)) fl') (h:chkStep tags k y fl=some fl'):o=chkL tags (k+1) (ns.drop (k+1)) fl':=by rw [hq,h]
theorem step_leaf {tags:Int} {k:Nat} {y:Nd} (fl:List Pr) (hp:partsK y.kind=0) (h6:¬y.kind=6):(rightB y tags []=true→chkStep tags k y fl=some (fl.take fl.length++[((k:Int),false)]))∧(rightB y tags []=false→chkStep tags k y fl=none):=by
 unfold chkStep
 rw [hp,if_neg (by omega),Nat.sub_zero,List.drop_length]
 exact ⟨fun h=>by rw [if_pos h];simp [h6],fun h=>by rw [if_neg (by simp [h])]⟩
theorem step_short {tags:Int} {k:Nat} {y:Nd} {fl:List Pr} (h:fl.length<partsK y.kind):chkStep tags k y fl=none:=by unfold chkStep;rw [if_pos h]
theorem step_two {tags:Int} {k:Nat} {y:Nd} (F:List Pr) (p q:Pr) (hk:y.kind=4∨y.kind=5):chkStep tags k y (F++[p,q])=if y.a=p.1∧y.b=q.1∧y.n=0 then some ((F++[p,q]).take F.length++[((k:Int),p.2 || q.2)]) else none:=by
 have hp:partsK y.kind=2:=by unfold partsK;rw [if_pos hk]
 have h6:¬y.kind=6:=by omega
 unfold chkStep
 have hl:(F++[p,q]).length-2=F.length:=by simp
 have hd:(F++[p,q]).drop F.length=[p,q]:=by simp
 rw [hp,if_neg (by simp),hl,hd]
 have hr:rightB y tags [p,q]=decide (y.a=p.1∧y.b=q.1∧y.n=0):=by
  unfold rightB
  rw [if_neg (by omega),if_neg (by omega)]
  simp only [decide_eq_true hk,Bool.true_and]
  by_cases h1:y.a=p.1<;>by_cases h2:y.b=q.1<;>by_cases h3:y.n=0<;>simp [h1,h2,h3]
 rw [hr]
 by_cases h:y.a=p.1∧y.b=q.1∧y.n=0
 ·rw [if_pos (decide_eq_true h),if_pos h];simp [h6]
 ·rw [if_neg (by simpa using h),if_neg h]
theorem step_star {tags:Int} {k:Nat} {y:Nd} (F:List Pr) (p:Pr) (hk:y.kind=6):chkStep tags k y (F++[p])=if p.2=false∧y.a=p.1∧y.b=0∧y.n=0 then some ((F++[p]).take F.length++[((k:Int),true)]) else none:=by
 have hp:partsK y.kind=1:=by unfold partsK;rw [if_neg (by omega),if_pos hk]
 unfold chkStep
 have hl:(F++[p]).length-1=F.length:=by simp
 have hd:(F++[p]).drop F.length=[p]:=by simp
 rw [hp,if_neg (by simp),hl,hd]
 have hr:rightB y tags [p]=decide (p.2=false∧y.a=p.1∧y.b=0∧y.n=0):=by
  unfold rightB
  rw [if_neg (by omega),if_neg (by omega)]
  simp only [decide_eq_true hk,Bool.true_and]
  cases h0:p.2<;>by_cases h1:y.a=p.1<;>by_cases h2:y.b=0<;>by_cases h3:y.n=0<;>simp [h1,h2,h3]
 rw [hr]
 by_cases h:p.2=false∧y.a=p.1∧y.b=0∧y.n=0
 ·rw [if_pos (decide_eq_true h),if_pos h];simp [hk]
 ·rw [if_neg (by simpa using h),if_neg h]
theorem last_two {fl:List Pr} (h:2≤fl.length):∃ F p q,fl=F++[p,q]:=by
 refine ⟨fl.take (fl.length-2),fl[fl.length-2],fl[fl.length-1],?_⟩
 conv=>lhs;rw [←List.take_append_drop (fl.length-2) fl]
 congr 1
 rw [List.drop_eq_getElem_cons (by omega)]
 congr 1
 have e:fl.length-2+1=fl.length-1:=by omega
 rw [List.drop_eq_getElem_cons (i:=fl.length-2+1) (by omega)]
 congr 1
 ·simp only [e]
 ·exact List.drop_eq_nil_of_le (by omega)
theorem last_one {fl:List Pr} (h:1≤fl.length):∃ F p,fl=F++[p]:=by
 refine ⟨fl.take (fl.length-1),fl[fl.length-1],?_⟩
 conv=>lhs;rw [←List.take_append_drop (fl.length-1) fl]
 congr 1
 rw [List.drop_eq_getElem_cons (by omega)]
 congr 1
 exact List.drop_eq_nil_of_le (by omega)
end Go.Proofs.YtmnkjekjknhhjaaGreatDoor.Q

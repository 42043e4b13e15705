import Derived.Test.YtmnkjekjknhhjaaGreatDoorRows
import Derived.Test.YtmnkjekjknhhjaaGreatDoorL
import Derived.OwnWalk
import Derived.Maps.AppendAt
import Derived.Lib.AppendZeros
import Derived.Laws.OwnMore
import Derived.Laws.CopyOwn
import Derived.IntWalk
import Derived.WalkKit
import Derived.ProofKit
import Derived.OpenShut
import Derived.Below
import Derived.Lib.Hide
import Derived.Deep.QuietTactic
import Derived.BigQuiet
namespace Go.Proofs.YtmnkjekjknhhjaaGreatDoor
open Go.ChangeShapes Go.WideShapes Go.ChangeAt Go.RowKit
theorem dq {p:Prop} (h:p):RowKit.Hid p:=Lib.hid h
structure Kept (X:Nat→Prop) (w w':World):Prop where
 os:w'.os=w.os
 tape:w'.tape=w.tape
 output:w'.output=w.output
 size:w.heap.size≤w'.heap.size
 block:∀ k,k<w.heap.size→¬X k→w'.heap[k]? = w.heap[k]?
section
variable {X Y:Nat→Prop} {w w' a b c:World}
theorem Kept.refl (X:Nat→Prop) (w:World):Kept X w w:=⟨rfl,rfl,rfl,Nat.le_refl _,fun _ _ _=>rfl⟩
theorem Kept.trans (h:Kept X a b) (k:Kept Y b c) (hY:∀ i,i<a.heap.size→Y i→X i):Kept X a c:=
 ⟨k.os.trans h.os,k.tape.trans h.tape,k.output.trans h.output,Nat.le_trans h.size k.size,
  fun i hi hx=>(k.block i (Nat.lt_of_lt_of_le hi h.size) (fun y=>hx (hY i hi y))).trans (h.block i hi hx)⟩
theorem Kept.mono (h:Kept X a b) (hY:∀ i,i<a.heap.size→X i→Y i):Kept Y a b:=
 ⟨h.os,h.tape,h.output,h.size,fun i hi hx=>h.block i hi (fun y=>hx (hY i hi y))⟩
theorem Kept.drew (h:Kept X a b):Kept X a b.drew:=⟨h.os,h.tape,h.output,h.size,h.block⟩
theorem Kept.alloc (h:Kept X a b) (o:Obj):Kept X a (b.alloc o):=
 h.trans (Y:=fun _=>False) ⟨rfl,rfl,rfl,by simp,fun k hk _=>Below.heap_alloc _ _ _ hk⟩ (fun _ _ h=>h.elim)
theorem Kept.setCell (h:Kept X a b) {p:Addr} (hp:p.block<a.heap.size→X p.block) (u:Value):Kept X a (b.setCell p u):=
 h.trans (Y:=fun k=>k=p.block) ⟨rfl,rfl,rfl,by simp [World.setCell],fun k _ hx=>Below.heap_setCell _ _ _ _ hx⟩ (fun i hi e=>by subst e;exact hp hi)
theorem Kept.below {B:Nat} (h:Kept X a b) (hX:∀ k,X k→B≤k) (hB:B≤a.heap.size):Below B a b:=
 ⟨h.os,h.tape,h.output,h.size,fun k hk=>h.block k (by omega) (fun x=>by have:=hX k x;omega)⟩
theorem Kept.of_below (h:Below a.heap.size a b):Kept X a b:=⟨h.os,h.tape,h.output,h.size,fun k hk _=>h.block k hk⟩
end
def Lies (w:World) (g:Nat) (t:TypeId) (cs:List Value):Prop:=w.heap[g]? = some (.cells cs.toArray t (0,0))
section
variable {w w':World} {g:Nat} {t:TypeId} {cs:List Value}
theorem Lies.lt (h:Lies w g t cs):g<w.heap.size:=(Array.getElem?_eq_some_iff.1 h).1
theorem Lies.cell (h:Lies w g t cs) (i:Nat):w.cell? ⟨g,i,none⟩=cs[i]?:=by
 unfold Lies at h
 simp [World.cell?,h]
theorem Lies.frozen (h:Lies w g t cs) (i:Nat):w.frozen? ⟨g,i,none⟩=false:=by
 unfold Lies at h
 simp [World.frozen?,h]
theorem Lies.kept {X:Nat→Prop} (h:Lies w g t cs) (k:Kept X w w') (hx:¬X g):Lies w' g t cs:=(k.block g h.lt hx).trans h
theorem Lies.below {B:Nat} (h:Lies w g t cs) (k:Below B w w') (hx:g<B):Lies w' g t cs:=(k.block g hx).trans h
theorem Lies.drewN (h:Lies w g t cs) (n:Nat):Lies (w.drewN n) g t cs:=h
theorem Lies.alloc (h:Lies w g t cs) (o:Obj):Lies (w.alloc o) g t cs:=(Below.heap_alloc w o g h.lt).trans h
theorem Lies.new (w:World) (t:TypeId) (cs:List Value):Lies (w.alloc (.cells cs.toArray t)) w.heap.size t cs:=heap_alloc_new w _
theorem Lies.set (h:Lies w g t cs) (i:Nat) (u:Value):Lies (w.setCell ⟨g,i,none⟩ u) g t (cs.set i u):=by
 unfold Lies at h ⊢
 simp [World.setCell,Array.getElem?_modify,h]
theorem Lies.far (h:Lies w g t cs) {p:Addr} (hp:g≠p.block) (u:Value):Lies (w.setCell p u) g t cs:=(Below.heap_setCell w p u g hp).trans h
theorem Lies.to {cs':List Value} (h:Lies w g t cs) (e:cs=cs'):Lies w g t cs':=e ▸ h
theorem Lies.other {g':Nat} {t':TypeId} {cs':List Value} (h:Lies w g t cs) (h':Lies w g' t' cs') (hne:t≠t'):g≠g':=by
 rintro rfl
 unfold Lies at h h'
 rw [h] at h'
 injection h' with h'
 injection h' with _ ht
 exact hne ht
end
theorem Lies.setCells {g:Nat} {t:TypeId}:∀ (vs:List Value) (o:Nat) (w:World) (cs:List Value),Lies w g t cs→o+vs.length≤cs.length→
  Lies (w.setCells g o vs) g t (cs.take o++vs++cs.drop (o+vs.length))
 | [],o,w,cs,h,_=>by simpa [World.setCells] using h
 | v::r,o,w,cs,h,hl=>by
  simp only [List.length_cons] at hl
  have:=Lies.setCells r (o+1) _ _ (h.set o v) (by simp;omega)
  rw [World.setCells]
  refine this.to ?_
  rw [List.drop_set_of_lt (by omega),List.take_succ_eq_append_getElem (by simp;omega),List.take_set_of_le (Nat.le_refl _)]
  simp [show o+1+r.length=o+(r.length+1) by omega]
theorem zfV (g:Nat):∀ (vs:List Value) (o:Nat) (w:World),Kept (fun k=>k=g) w (w.setCells g o vs)
 | [],_,w=>Kept.refl _ w
 | v::r,o,w=>((Kept.refl (fun k=>k=g) w).setCell (p:=⟨g,o,none⟩) (fun _=>rfl) v).trans (zfV g r (o+1) _) (fun _ _ h=>h)
def Row (w:World) (t:TypeId) (a:Option Addr) (c:Nat) (xs:List Value):Prop:=
 (a=none∧c=0∧xs=[])∨∃ g sp,a=some ⟨g,0,none⟩∧c=xs.length+sp.length∧c≤9223372036854775807∧Lies w g t (xs++sp)
theorem Row.nil (w:World) (t:TypeId):Row w t none 0 []:=.inl ⟨rfl,rfl,rfl⟩
theorem Row.kept {X:Nat→Prop} {w w':World} {t:TypeId} {a:Option Addr} {c:Nat} {xs:List Value} (h:Row w t a c xs) (k:Kept X w w') (hx:∀ g,a=some ⟨g,0,none⟩→¬X g):Row w' t a c xs:=by
 rcases h with h | ⟨g,sp,rfl,h1,h2,h3⟩
 ·exact .inl h
 ·exact .inr ⟨g,sp,rfl,h1,h2,h3.kept k (hx g rfl)⟩
theorem Row.lt {w:World} {t:TypeId} {a:Option Addr} {c:Nat} {xs:List Value} (h:Row w t a c xs) {g:Nat} (e:a=some ⟨g,0,none⟩):g<w.heap.size:=by
 subst e
 rcases h with ⟨h,_⟩ | ⟨g',sp,h,_,_,h3⟩
 ·cases h
 ·injection h with h;injection h with h;subst h;exact h3.lt
theorem Row.le {w:World} {t:TypeId} {a:Option Addr} {c:Nat} {xs:List Value} (h:Row w t a c xs):xs.length≤c∧c≤9223372036854775807:=by
 rcases h with ⟨_,rfl,rfl⟩ | ⟨g',sp,_,h1,h2,h3⟩
 ·simp
 ·omega
def zhx (ks:List Int):List Value:=ks.map (Value.int .i64)
theorem zaP (ks:List Int):(zhx ks).length=ks.length:=List.length_map ..
theorem zm2 (ks:List Int):∀ x∈zhx ks,x.oneCell'=true:=fun x hx=>by
 obtain ⟨z,_,rfl⟩:=List.mem_map.1 hx
 rfl
theorem zm3 {ks:List Int} {k:Nat} (hk:k<ks.length) (h:k<(zhx ks).length):(zhx ks)[k]=.int .i64 (ks[k]):=by simp [zhx]
theorem zfW {w:World} {g:Nat} {t:TypeId} {xs sp:List Value} (h:Lies w g t (xs++sp)) {j:Nat} {v:Value} (hj:xs[j]? = some v):w.cell? ⟨g,0+j,none⟩=some v:=by
 rw [Nat.zero_add,h.cell,List.getElem?_append_left (List.getElem?_eq_some_iff.1 hj).1]
 exact hj
theorem zc8 {w:World} {g:Nat} {t:TypeId} {cs:Array Value} (h:w.heap[g]? = some (.cells cs t (0,0))):Lies w g t cs.toList:=by
 unfold Lies;simpa using h
theorem Row.there {w:World} {t:TypeId} {a:Option Addr} {c:Nat} {xs:List Value} (h:Row w t a c xs) {i:Nat} (hi:i<xs.length):∃ g,a=some ⟨g,0,none⟩∧w.cell? ⟨g,i,none⟩=some xs[i]:=by
 rcases h with ⟨_,_,rfl⟩ | ⟨g,sp,rfl,_,_,l⟩
 ·simp at hi
 ·exact ⟨g,rfl,by rw [l.cell,List.getElem?_append_left hi,List.getElem?_eq_getElem hi]⟩
theorem Row.frozen {w:World} {t:TypeId} {g c:Nat} {xs:List Value} (h:Row w t (some ⟨g,0,none⟩) c xs) (j:Nat):w.frozen? ⟨g,j,none⟩=false:=by
 rcases h with ⟨e,_⟩ | ⟨g',sp,e,hc,hm,l⟩
 ·cases e
 ·injection e with e;injection e with e;subst e
  exact l.frozen j
theorem Row.below {w w':World} {t:TypeId} {a:Option Addr} {c:Nat} {xs:List Value} (h:Row w t a c xs) (k:Below w.heap.size w w'):Row w' t a c xs:=h.kept (X:=fun _=>False) (Kept.of_below k) (fun _ _ h=>h)
theorem zad (B:Nat) (w:World) (q:Nat):Below B w (w.drewN q):=⟨rfl,rfl,rfl,Nat.le_refl _,fun _ _=>rfl⟩
def Bag (w:World) (a:Option Addr) (c:Nat) (xs:List Int):Prop:=Row w 3 a c (zhx xs)
section
variable {w w':World} {a:Option Addr} {c:Nat} {xs:List Int}
theorem Bag.nil (w:World):Bag w none 0 []:=Row.nil w 3
theorem Bag.below (h:Bag w a c xs) (k:Below w.heap.size w w'):Bag w' a c xs:=Row.below h k
theorem Bag.kept {X:Nat→Prop} (h:Bag w a c xs) (k:Kept X w w') (hx:∀ g,a=some ⟨g,0,none⟩→¬X g):Bag w' a c xs:=Row.kept h k hx
theorem Bag.lt (h:Bag w a c xs) {g:Nat} (e:a=some ⟨g,0,none⟩):g<w.heap.size:=Row.lt h e
theorem Bag.le (h:Bag w a c xs):xs.length≤c∧c≤9223372036854775807:=by
 have:=Row.le h
 rwa [zaP] at this
theorem Bag.at (h:Bag w a c xs) {k:Nat} (hk:k<xs.length):∃ g,a=some ⟨g,0,none⟩∧w.cell? ⟨g,k,none⟩=some (.int .i64 (xs.getD k 0)):=by
 obtain ⟨g,e,hc⟩:=Row.there h (i:=k) (by rw [zaP];exact hk)
 exact ⟨g,e,hc.trans (by rw [zm3 hk,zaY hk])⟩
theorem Bag.frozen {g:Nat} (h:Bag w (some ⟨g,0,none⟩) c xs) (j:Nat):w.frozen? ⟨g,j,none⟩=false:=Row.frozen h j
theorem Bag.set {g:Nat} (h:Bag w (some ⟨g,0,none⟩) c xs) {j:Nat} (hj:j<xs.length) (z:Int):Bag (w.setCell ⟨g,j,none⟩ (.int .i64 z)) (some ⟨g,0,none⟩) c (xs.set j z):=by
 rcases h with ⟨e,_⟩ | ⟨g',sp,e,hc,hm,l⟩
 ·cases e
 ·injection e with e;injection e with e;subst e
  refine .inr ⟨g,sp,rfl,by rw [zaP,List.length_set,←zaP];exact hc,hm,(l.set j _).to ?_⟩
  rw [List.set_append_left _ _ (by rw [zaP];exact hj)]
  simp [zhx,List.map_set]
theorem Bag.cut (h:Bag w a c xs) {k:Nat} (hk:k≤xs.length):Bag w a c (xs.take k):=by
 rcases h with ⟨e1,e2,e3⟩ | ⟨g',sp,e,hc,hm,l⟩
 ·refine .inl ⟨e1,e2,?_⟩
  obtain rfl:xs=[]:=List.map_eq_nil_iff.1 e3
  simp [zhx]
 ·refine .inr ⟨g',zhx (xs.drop k)++sp,e,?_,hm,l.to ?_⟩
  ·rw [List.length_append,zaP,zaP,List.length_take,List.length_drop,hc,zaP];omega
  ·rw [←List.append_assoc]
   simp only [zhx,←List.map_append,List.take_append_drop]
theorem Bag.form (h:Bag w a c xs):(a=none∧c=0∧xs=[])∨∃ g,a=some ⟨g,0,none⟩:=by
 rcases h with ⟨e1,e2,e3⟩ | ⟨g',sp,e,hc,hm,l⟩
 ·exact .inl ⟨e1,e2,List.map_eq_nil_iff.1 e3⟩
 ·exact .inr ⟨g',e⟩
end
def zc4 (xs:List Int) (w:World) (e:Ending) (w':World):Prop:=
 ∃ a c,e=.returned (.slice a xs.length c)∧Bag w' a c xs∧(∀ g,a=some ⟨g,0,none⟩→w.heap.size≤g)∧Below w.heap.size w w'
def zdA (xs:List Int) (b:Bool) (w:World) (e:Ending) (w':World):Prop:=
 ∃ a c,e=.returned (.tuple #[.slice a xs.length c,.bool b])∧Bag w' a c xs∧(∀ g,a=some ⟨g,0,none⟩→w.heap.size≤g)∧Below w.heap.size w w'
def zuM (v:Value) (w:World) (e:Ending) (w':World):Prop:=e=.returned v∧∃ q,w'=w.drewN q
def zuN (w:World) (e:Ending) (w':World):Prop:=e=.returned (.bool true)∧Below w.heap.size w w'
theorem zhN {w:World} {B:Nat} {t:TypeId} {v:Value} {n:Nat} {xs:List Value} (h:w.ownsRow B t 1 v n xs):∃ a c,v=.slice a xs.length c∧Row w t a c xs∧∀ g,a=some ⟨g,0,none⟩→B≤g:=by
 obtain ⟨hl,h⟩:=h
 rw [Nat.mul_one] at hl
 rcases h with ⟨rfl,rfl⟩ | ⟨g,cap,cur,rfl,hg,hh,hn,hm,hs,ht⟩
 ·obtain rfl:xs=[]:=List.eq_nil_of_length_eq_zero hl
  exact ⟨none,0,rfl,Row.nil _ _,(fun _ e=>nomatch e)⟩
 ·rw [Nat.mul_one] at hs ht
  unfold maxLen at hm
  have hc:xs++cur.toList.drop n=cur.toList:=by rw [←ht,List.take_append_drop]
  have hd:(cur.toList.drop n).length=cap-n:=by rw [List.length_drop];simp [hs]
  refine ⟨some ⟨g,0,none⟩,cap,by rw [hl],.inr ⟨g,cur.toList.drop n,rfl,by rw [hd];omega,by omega,(zc8 hh).to hc.symm⟩,fun g' e=>?_⟩
  injection e with e;injection e with e;subst e;exact hg
theorem Tryz.info3:(Tryz.prog.info? 3).map (fun i=>(i.zero,i.size,i.bytes))=some (some (.int .i64 0),1,8):=by kernel_rfl
theorem Tryz.one3:(Tryz.prog.info? 3).map (·.size)=some 1:=by kernel_rfl
theorem zhO (t ty:TypeId) (hu:Tryz.prog.underlying t=some (.slice 3)) (ad:Addr) (c:Nat) (xs:List Int) (w:World) (hc:∀ j u,(zhx xs)[j]? = some u→w.cell? (ad.add j)=some u) (hb:xs.length*8≤140737488355328) :
  ∃ v w',(Builtin.append_ #[t,t] ty #[.slice none 0 0,.slice (some ad) xs.length c]).run Tryz.prog w=.ok v w'∧zc4 xs w (.returned v) w':=by
 obtain ⟨i,hi,hz,hsz,hby⟩:=info_parts Tryz.info3
 obtain ⟨v',w',hr,h2,h3,_,_⟩:=run_append_own_at (P:=Tryz.prog) w w.heap.size t ty 3 i _ 1 8 hu hi hz hsz hby (by simp [Value.cells]) (by omega) (.slice none 0 0) 0 [] (World.ownsRow_nil w _ 3 1)
   ad xs.length c (zhx xs) (by rw [zaP];omega) hc (zm2 xs) (by unfold maxLen;omega) (by omega) (Nat.le_refl _)
 rw [List.nil_append] at h2
 obtain ⟨a,c,rfl,r,f⟩:=zhN h2
 rw [zaP] at hr
 exact ⟨_,_,hr,a,c,rfl,r,f,(Below.refl _ _).grown h3 (Nat.le_refl _) (fun k e=>by simp [Value.ownBlock] at e)⟩
theorem zfX (t ty:TypeId) (hu:Tryz.prog.underlying t=some (.slice 3)) (w:World) :
  ∃ v w',(Builtin.append_ #[t,t] ty #[.slice none 0 0,.slice none 0 0]).run Tryz.prog w=.ok v w'∧zc4 [] w (.returned v) w':=by
 obtain ⟨i,hi,hz,hsz,hby⟩:=info_parts Tryz.info3
 exact ⟨_,_,run_append_owned_none (w:=w) w.heap.size t ty 3 i 1 hu hi _ 0 [] (World.ownsRow_nil w _ 3 1),none,0,rfl,Bag.nil _,(fun _ e=>nomatch e),Below.refl _ _⟩
theorem zcw (t ty:TypeId) (hu:Tryz.prog.underlying t=some (.slice 3)) (a:Option Addr) (c:Nat) (xs:List Int) (w:World) (R:Bag w a c xs) (hb:xs.length*8≤140737488355328) :
  ∃ v w',(Builtin.append_ #[t,t] ty #[.slice none 0 0,.slice a xs.length c]).run Tryz.prog w=.ok v w'∧zc4 xs w (.returned v) w':=by
 rcases R with ⟨rfl,rfl,e⟩ | ⟨g,sp,rfl,hc,hm,hl⟩
 ·obtain rfl:xs=[]:=List.map_eq_nil_iff.1 e
  exact zfX t ty hu w
 ·exact zhO t ty hu _ c xs w (fun j u hj=>by rw [Addr.add_lit];exact zfW hl hj) hb
def RowAt (w:World) (a:Option Addr) (zs:List Int) (k:Nat):Prop:=
 ∃ b off,a=some ⟨b,off,none⟩∧w.cell? ⟨b,off+k,none⟩=some (.int .i64 (zs.getD k 0))∧b<w.heap.size∧-9223372036854775808≤zs.getD k 0∧zs.getD k 0≤9223372036854775807
theorem zq7 {w:World} {a:Option Addr} {len cap:Nat} {zs:List Int}
  (h:(a=none∧len=0∧cap=0∧zs=[])∨
   ∃ x,a=some x∧len≤cap∧cap≤maxLen∧zs.length=cap∧(∀ i,i<zs.length→w.cell? (x.add i)=some (.int .i64 (zs.getD i 0)))∧∀ n∈zs,(Lit.int .i64 n).wf=true) :
  len≤9223372036854775807∧∀ k,k<len→RowAt w a zs k:=by
 rcases h with ⟨_,rfl,_,_⟩ | ⟨x,rfl,hl,hm,hz,hc,hwf⟩
 ·exact ⟨by omega,fun k hk=>by omega⟩
 ·unfold maxLen at hm
  refine ⟨by omega,fun k hk=>?_⟩
  obtain ⟨b,off,rfl,hc'⟩:=ints_at hc (by omega)
  have hk':k<zs.length:=by omega
  have hcell:=hc' k hk'
  have hw:(Lit.int .i64 (zs.getD k 0)).wf=true:=by
   rw [List.getD_eq_getElem?_getD,List.getElem?_eq_getElem hk']
   exact hwf _ (List.getElem_mem hk')
  have hb:=bounds_i64 hw
  exact ⟨b,off,rfl,hcell,World.block_lt_of_cell? w _ hcell,hb.1,hb.2⟩
end Go.Proofs.YtmnkjekjknhhjaaGreatDoor

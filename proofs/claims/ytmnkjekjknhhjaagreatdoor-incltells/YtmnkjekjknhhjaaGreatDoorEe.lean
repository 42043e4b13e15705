import Derived.Test.YtmnkjekjknhhjaaGreatDoorZl
import Derived.Test.YtmnkjekjknhhjaaGreatDoorC
import Derived.Lib.SliceRun
import Derived.Test.YtmnkjekjknhhjaaGreatDoorDe
namespace Go.Proofs.YtmnkjekjknhhjaaGreatDoor
open Go.ChangeShapes Go.WideShapes Go.ChangeAt Go.RowKit
end Go.Proofs.YtmnkjekjknhhjaaGreatDoor
namespace Go.Proofs.YtmnkjekjknhhjaaGreatDoor
open Go.ChangeShapes Go.WideShapes Go.ChangeAt Go.RowKit
structure OfP (w:World) (g4:Nat) (a:Option Addr) (c n:Nat) (nb:List Int) (pa:Option Addr) (pc m:Nat) (ps:List Bg) (W:World):Prop where
 bel:Below w.heap.size w W
 l4:Lies W g4 53 [.slice a n c,.slice pa m pc]
 base:Bag W a c nb
 row:Bgs W pa pc ps
 len:nb.length=n
 num:ps.length=m
 h4:w.heap.size≤g4
 oa:From w.heap.size a
 op:From w.heap.size pa
 each:∀ p∈ps,From w.heap.size p.a
section
variable {w W W':World} {g4:Nat} {a pa pa':Option Addr} {c n pc m pc' m':Nat} {nb:List Int} {ps ps':List Bg}
set_option maxRecDepth 100000 in
theorem OfP.below (h:OfP w g4 a c n nb pa pc m ps W) (k:Below W.heap.size W W'):OfP w g4 a c n nb pa pc m ps W':=
 ⟨h.bel.trans (k.mono h.bel.size),h.l4.below k h.l4.lt,h.base.below k,h.row.below k,h.len,h.num,h.h4,h.oa,h.op,h.each⟩
set_option maxRecDepth 100000 in
theorem Lies.apartRow {cs:List Value} (l:Lies W g4 53 cs) {vs:List Value} (r:Row W 31 pa pc vs):pa≠some ⟨g4,0,none⟩:=by
 intro e
 rcases r with ⟨h,_⟩ | ⟨g1,sp,h,_,_,l1⟩
 ·rw [h] at e;cases e
 ·rw [h] at e;injection e with e;injection e with e;subst e
  exact l1.other l (by decide) rfl
set_option maxRecDepth 100000 in
theorem OfP.put {W':World} (hb:Below w.heap.size w W') (l:Lies W' g4 53 [.slice a n c,.slice pa m pc]) (b:Bag W' a c nb) (r:Bgs W' pa' pc' ps') (hl:nb.length=n) (hm:ps'.length=m') (h4:w.heap.size≤g4) (oa:From w.heap.size a) (op:From w.heap.size pa') (each:∀ p∈ps',From w.heap.size p.a) :
  OfP w g4 a c n nb pa' pc' m' ps' (W'.setCell ⟨g4,1,none⟩ (.slice pa' m' pc')):=by
 have k:=zeO W' g4 1 (.slice pa' m' pc')
 exact ⟨hb.setCell h4 _,(l.set 1 _).to rfl,b.far l k,r.far l k,hl,hm,h4,oa,op,each⟩
set_option maxRecDepth 100000 in
theorem OfP.zeros {cs:List Value} (u0 u1:Value) (hcs:cs=[u0,u1]) (hb:Below w.heap.size w W) (l:Lies W g4 53 cs) (h4:w.heap.size≤g4) :
  ((W.setCell ⟨g4,0,none⟩ (.slice none 0 0)).setCell ⟨g4,1,none⟩ (.slice none 0 0)).cell? ⟨g4,0,none⟩=some (.slice none 0 0)∧
  ((W.setCell ⟨g4,0,none⟩ (.slice none 0 0)).setCell ⟨g4,1,none⟩ (.slice none 0 0)).cell? ⟨g4,1,none⟩=some (.slice none 0 0)∧
  Below w.heap.size w ((W.setCell ⟨g4,0,none⟩ (.slice none 0 0)).setCell ⟨g4,1,none⟩ (.slice none 0 0)):=by
 subst hcs
 have l1:Lies (W.setCell ⟨g4,0,none⟩ (.slice none 0 0)) g4 53 [.slice none 0 0,u1]:=(l.set 0 _).to rfl
 have l2:Lies ((W.setCell ⟨g4,0,none⟩ (.slice none 0 0)).setCell ⟨g4,1,none⟩ (.slice none 0 0)) g4 53 [.slice none 0 0,.slice none 0 0]:=(l1.set 1 _).to rfl
 exact ⟨l2.cell 0,l2.cell 1,(hb.setCell h4 _).setCell h4 _⟩
end
end Go.Proofs.YtmnkjekjknhhjaaGreatDoor

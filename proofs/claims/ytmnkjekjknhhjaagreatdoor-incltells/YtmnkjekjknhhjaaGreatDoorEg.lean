import Derived.Test.YtmnkjekjknhhjaaGreatDoorEe
import Derived.Lib.AppendZeros
import Derived.Test.YtmnkjekjknhhjaaGreatDoorCd
import Derived.Test.YtmnkjekjknhhjaaGreatDoorG
namespace Go.Proofs.YtmnkjekjknhhjaaGreatDoor
open Go.ChangeShapes Go.WideShapes Go.ChangeAt Go.RowKit
end Go.Proofs.YtmnkjekjknhhjaaGreatDoor
namespace Go.Proofs.YtmnkjekjknhhjaaGreatDoor
open Go.ChangeShapes Go.WideShapes Go.ChangeAt Go.RowKit
set_option maxRecDepth 100000 in
theorem zeh {a b:List Int} (h:zaz a b=true):zaa (addT a b)=true:=by
 simp only [zaz,Bool.and_eq_true] at h
 obtain ⟨⟨ha,hb⟩,hf⟩:=h
 have la:=(zac.1 ha).1
 have lb:=(zac.1 hb).1
 refine zcx (by rw [zbR];omega) (fun j hj=>?_) (fun hp=>?_)
 ·rw [zbR] at hj
  rw [zcG]
  have h1:=zae ha j
  have h2:=zae hb j
  have h3:=zeR.1 hf j hj
  omega
 ·rw [zbR] at hp ⊢
  rw [zcG]
  have h1:=zae ha (max a.length b.length-1)
  have h2:=zae hb (max a.length b.length-1)
  by_cases hab:b.length≤a.length
  ·have e:max a.length b.length=a.length:=by omega
   have h3:=za1 ha (by omega)
   rw [e] at h1 h2 ⊢
   omega
  ·have e:max a.length b.length=b.length:=by omega
   have h3:=za1 hb (by omega)
   rw [e] at h1 h2 ⊢
   omega
set_option maxRecDepth 100000 in
theorem zsC {x y:Lin} (hx:rightLin x=false):za6 x y=false∧zaB x y=⟨[],[]⟩:=by
 have:za6 x y=false:=by simp [za6,hx]
 exact ⟨this,zpr this⟩
set_option maxRecDepth 100000 in
theorem zsD {x y:Lin} (hx:rightLin y=false):za6 x y=false∧zaB x y=⟨[],[]⟩:=by
 have:za6 x y=false:=by simp [za6,hx]
 exact ⟨this,zpr this⟩
set_option maxRecDepth 100000 in
theorem zsE {x y:Lin} (hx:zaz x.base y.base=false):za6 x y=false∧zaB x y=⟨[],[]⟩:=by
 have:za6 x y=false:=by simp [za6,hx]
 exact ⟨this,zpr this⟩
structure CatSt (w:World) (gb:Nat) (a pa a' pa':Option Addr) (c n pc m c' n' pc' m':Nat) (x y:Lin) (ps qs:List Bg) (W:World):Prop where
 bel:Below w.heap.size w W
 lx:Lies W gb 53 [.slice a n c,.slice pa m pc]
 ly:Lies W (gb+1) 53 [.slice a' n' c',.slice pa' m' pc']
 lz:Lies W (gb+1+1) 53 [.slice none 0 0,.slice none 0 0]
 bx:Bag W a c x.base
 px:Bgs W pa pc ps
 bY:Bag W a' c' y.base
 py:Bgs W pa' pc' qs
 hg:w.heap.size=gb
section
variable {w W W':World} {gb:Nat} {a pa a' pa':Option Addr} {c n pc m c' n' pc' m':Nat} {x y:Lin} {ps qs:List Bg}
set_option maxRecDepth 100000 in
theorem CatSt.below (h:CatSt w gb a pa a' pa' c n pc m c' n' pc' m' x y ps qs W) (k:Below W.heap.size W W'):CatSt w gb a pa a' pa' c n pc m c' n' pc' m' x y ps qs W':=
 ⟨h.bel.trans (k.mono h.bel.size),h.lx.below k h.lx.lt,h.ly.below k h.ly.lt,h.lz.below k h.lz.lt,h.bx.below k,h.px.below k,h.bY.below k,h.py.below k,h.hg⟩
set_option maxRecDepth 100000 in
theorem CatSt.x0 (h:CatSt w gb a pa a' pa' c n pc m c' n' pc' m' x y ps qs W):W.cell? ⟨gb,0,none⟩=some (.slice a n c):=h.lx.cell 0
set_option maxRecDepth 100000 in
theorem CatSt.x1 (h:CatSt w gb a pa a' pa' c n pc m c' n' pc' m' x y ps qs W):W.cell? ⟨gb,1,none⟩=some (.slice pa m pc):=h.lx.cell 1
set_option maxRecDepth 100000 in
theorem CatSt.y0 (h:CatSt w gb a pa a' pa' c n pc m c' n' pc' m' x y ps qs W):W.cell? ⟨gb+1,0,none⟩=some (.slice a' n' c'):=h.ly.cell 0
set_option maxRecDepth 100000 in
theorem CatSt.y1 (h:CatSt w gb a pa a' pa' c n pc m c' n' pc' m' x y ps qs W):W.cell? ⟨gb+1,1,none⟩=some (.slice pa' m' pc'):=h.ly.cell 1
set_option maxRecDepth 100000 in
theorem CatSt.z0 (h:CatSt w gb a pa a' pa' c n pc m c' n' pc' m' x y ps qs W):W.cell? ⟨gb+1+1,0,none⟩=some (.slice none 0 0):=h.lz.cell 0
set_option maxRecDepth 100000 in
theorem CatSt.z1 (h:CatSt w gb a pa a' pa' c n pc m c' n' pc' m' x y ps qs W):W.cell? ⟨gb+1+1,1,none⟩=some (.slice none 0 0):=h.lz.cell 1
end
set_option maxRecDepth 100000 in
theorem zfC {l:List (List Int)} (g:zd7 l) (j:Nat):(l.getD j []).length≤1000:=by
 by_cases hj:j<l.length
 ·have hm:l.getD j []∈l:=by simp [List.getD,hj]
  have:=(zac.1 (g _ hm).1).1
  omega
 ·simp [List.getD,hj]
end Go.Proofs.YtmnkjekjknhhjaaGreatDoor

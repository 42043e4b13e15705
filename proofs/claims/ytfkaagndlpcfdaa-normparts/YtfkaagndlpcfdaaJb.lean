/- The reference's CompareLin. -/
import Derived.Test.YtfkaagndlpcfdaaCd
import Derived.Test.YtfkaagndlpcfdaaC
import Derived.Deep.RegionHeld3
namespace Go.Proofs.Ytfkaagndlpcfdaa
open Go.ChangeShapes Go.WideShapes Go.ChangeAt Go.RowKit

/-- Two linear sets in boxes gb, gb + 1. -/
structure TwoSt (w : World) (gb : Nat) (a pa a' pa' : Option Addr) (c n pc m c' n' pc' m' : Nat) (x y : Lin) (W : World) : Prop where
  bel : Below w.heap.size w W
  lx : Lies W gb 50 [.slice a n c, .slice pa m pc]
  ly : Lies W (gb + 1) 50 [.slice a' n' c', .slice pa' m' pc']
  bx : Bag W a c x.base
  px : Bags W pa pc x.ps
  bY : Bag W a' c' y.base
  pY : Bags W pa' pc' y.ps
theorem TwoSt.below {w W W' : World} {gb : Nat} {a pa a' pa' : Option Addr} {c n pc m c' n' pc' m' : Nat} {x y : Lin} (h : TwoSt w gb a pa a' pa' c n pc m c' n' pc' m' x y W) (k : Below W.heap.size W W') : TwoSt w gb a pa a' pa' c n pc m c' n' pc' m' x y W' :=
  ⟨h.bel.trans (k.mono h.bel.size), h.lx.below k h.lx.lt, h.ly.below k h.ly.lt, h.bx.below k, h.px.below k, h.bY.below k, h.pY.below k⟩
theorem cmpPs_step {a b : List (List Int)} {k : Nat} (ha : k < a.length) (hb : k < b.length) : cmpPs (a.drop k) (b.drop k) = orI (cmpL (a.getD k []) (b.getD k [])) (cmpPs (a.drop (k + 1)) (b.drop (k + 1))) := by
  have e1 : a.getD k [] = a[k] := by simp [List.getD, ha]
  have e2 : b.getD k [] = b[k] := by simp [List.getD, hb]
  rw [List.drop_eq_getElem_cons ha, List.drop_eq_getElem_cons hb, e1, e2]; rfl

end Go.Proofs.Ytfkaagndlpcfdaa

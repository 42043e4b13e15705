/- The statements' own check of the document's examples (wakes) answers true, in whatever memory. -/
import Derived.Test.YtdfbomlnbogjkaaD
namespace Go.Proofs.Ytdfbomlnbogjkaa
open Go.ChangeShapes Go.WideShapes Go.ChangeAt Go.RowKit

theorem wakes_any (w : World) : Calls Try.prog 14 #[] w fun e w' => e = .returned (.bool true) ∧ Below w.heap.size w w' := by
  go_enter Try.func14, Try.ntmps14
  go_wp2_with (fail)
  refine (mul_far _ _ _ (by omega) (by omega) (by omega) (by omega) (by omega)).mono ?_
  rintro e w' ⟨rfl, rfl⟩
  go_wp2_with (fail)
  refine (add_t _ _ _ (by omega) (by omega) (by omega)).mono ?_
  rintro e w' ⟨rfl, rfl⟩
  go_wp2_with (fail)
  refine (new_any _ _).mono ?_
  rintro e w1 ⟨rfl, a1, b1, s1⟩
  have A1 : At w1 w.heap.size 2 0 false := a1
  clear a1
  have B1 := Lib.hid b1
  have S1 := Lib.hid s1
  clear b1 s1
  go_wp2_with (fail)
  refine (spend_yes _ _ _ _ _ A1 (by omega) (by omega) (by omega) (by omega)).mono ?_
  rintro e w2 ⟨rfl, a2, o2⟩
  have A2 : At w2 w.heap.size 2 2 false := a2
  clear a2
  go_wp2_with (fail)
  refine (spend_no _ _ _ _ _ A2 (by omega) (by omega) (by omega) (by omega)).mono ?_
  rintro e w3 ⟨rfl, a3, o3⟩
  have A3 : At w3 w.heap.size 2 2 true := a3
  clear a3
  go_wp2_with (fail)
  refine (spent_any _ _ _ _ _ A3).mono ?_
  rintro e w4 ⟨rfl, rfl⟩
  go_wp2_with (fail)
  refine (out_any _ _ _ _ _ A3).mono ?_
  rintro e w4 ⟨rfl, rfl⟩
  go_wp2
  go_ret
  exact ⟨rfl, (B1.out.trans (o2.below (Nat.le_refl _))).trans (o3.below (Nat.le_refl _))⟩

end Go.Proofs.Ytdfbomlnbogjkaa

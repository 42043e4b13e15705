/- The reference's RightSemi. -/
import Derived.Test.YtfkaagndlpcfdaaMb
import Derived.Test.YtfkaagndlpcfdaaJb
import Derived.Test.YtfkaagndlpcfdaaC
import Derived.Deep.RegionHeld3
import Derived.Deep.CutBlock
import Derived.Deep.DeepCutAuto
import Derived.Deep.CutRange
namespace Go.Proofs.Ytfkaagndlpcfdaa
open Go.ChangeShapes Go.WideShapes Go.ChangeAt Go.RowKit

/-- Up to place k they are right, and rise. -/
def UpTo (s : List Lin) (k : Nat) : Prop := ∀ j, j < k → rightLin (linAt s j) = true ∧ (0 < j → cmpLin (linAt s (j - 1)) (linAt s j) < 0)
theorem upTo_cons {x : Lin} {r : List Lin} : UpTo (x :: r) (r.length + 1) ↔ rightLin x = true ∧ (0 < r.length → cmpLin x (linAt r 0) < 0) ∧ UpTo r r.length := by
  have e0 : linAt (x :: r) 0 = x := rfl
  have e1 : ∀ j, linAt (x :: r) (j + 1) = linAt r j := fun j => by simp [linAt, List.getD]
  constructor
  · intro h
    refine ⟨?_, fun hp => ?_, fun j hj => ?_⟩
    · have := (h 0 (by omega)).1
      rwa [e0] at this
    · have := (h 1 (by omega)).2 (by omega)
      rw [show (1 : Nat) - 1 = 0 from rfl, e0, show (1 : Nat) = 0 + 1 from rfl, e1] at this
      exact this
    · have := h (j + 1) (by omega)
      rw [e1] at this
      refine ⟨this.1, fun hp => ?_⟩
      have h2 := this.2 (by omega)
      obtain ⟨i, rfl⟩ : ∃ i, j = i + 1 := ⟨j - 1, by omega⟩
      rw [show i + 1 + 1 - 1 = i + 1 from rfl, e1] at h2
      exact h2
  · rintro ⟨h1, h2, h3⟩ j hj
    cases j with
    | zero => rw [e0]; exact ⟨h1, fun h => by omega⟩
    | succ j =>
      rw [e1]
      have := h3 j (by omega)
      refine ⟨this.1, fun _ => ?_⟩
      cases j with
      | zero => exact h2 (by omega)
      | succ i =>
        have h4 := this.2 (by omega)
        rw [show i + 1 + 1 - 1 = i + 1 from rfl, e1]
        exact h4
theorem rightS_upTo : ∀ (s : List Lin), rightS s = true ↔ UpTo s s.length
  | [] => by simp [rightS, UpTo]
  | x :: r => by
    rw [List.length_cons, upTo_cons, ← rightS_upTo r]
    cases r with
    | nil => simp [rightS]
    | cons y q =>
      have e : rightS (x :: y :: q) = (rightLin x && decide (cmpLin x y < 0) && rightS (y :: q)) := rfl
      rw [e, Bool.and_eq_true, Bool.and_eq_true, decide_eq_true_eq]
      have e0 : linAt (y :: q) 0 = y := rfl
      rw [e0]
      constructor
      · rintro ⟨⟨h1, h2⟩, h3⟩; exact ⟨h1, fun _ => h2, h3⟩
      · rintro ⟨h1, h2, h3⟩; exact ⟨⟨h1, h2 (by simp)⟩, h3⟩
theorem rightS_bad {s : List Lin} {k : Nat} (hk : k < s.length) (h : ¬ (rightLin (linAt s k) = true ∧ (0 < k → cmpLin (linAt s (k - 1)) (linAt s k) < 0))) : rightS s = false := by
  rw [← Bool.not_eq_true, rightS_upTo]
  exact fun h2 => h (h2 k hk)

end Go.Proofs.Ytfkaagndlpcfdaa

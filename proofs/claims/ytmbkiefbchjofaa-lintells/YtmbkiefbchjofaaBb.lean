/- The reference's RightLin. -/
import Derived.Test.YtmbkiefbchjofaaBa
namespace Go.Proofs.Ytmbkiefbchjofaa
open Go.ChangeShapes Go.WideShapes Go.ChangeAt Go.RowKit

theorem rises_at {l : List (List Int)} (h : ∀ j, j < l.length → rightL (l.getD j []) = true ∧ l.getD j [] ≠ [] ∧ (0 < j → cmpL (l.getD (j - 1) []) (l.getD j []) < 0)) : risesB l = true := by
  induction l with
  | nil => rfl
  | cons x r ih =>
    have h0 := h 0 (by simp)
    have ih := ih (fun j hj => by
      have := h (j + 1) (by simp; omega)
      refine ⟨by simpa using this.1, by simpa using this.2.1, fun hp => ?_⟩
      have q := this.2.2 (by omega)
      obtain ⟨m, rfl⟩ : ∃ m, j = m + 1 := ⟨j - 1, by omega⟩
      simpa using q)
    cases r with
    | nil => simp [risesB] at h0 ⊢; exact ⟨h0.1, h0.2⟩
    | cons y s =>
      have h1 := (h 1 (by simp)).2.2 (by omega)
      have e : risesB (x :: y :: s) = (rightL x && decide (x ≠ []) && decide (cmpL x y < 0) && risesB (y :: s)) := rfl
      rw [e, ih]
      have a := h0.1
      have b := h0.2.1
      simp at a b h1
      simp [a, b, h1]
theorem rises_get {l : List (List Int)} (h : risesB l = true) {j : Nat} (hj : j < l.length) : rightL (l.getD j []) = true ∧ l.getD j [] ≠ [] ∧ (0 < j → cmpL (l.getD (j - 1) []) (l.getD j []) < 0) := by
  obtain ⟨g, p⟩ := rises_iff.1 h
  have e : l.getD j [] = l[j] := by simp [List.getD, hj]
  rw [e]
  refine ⟨(g _ (List.getElem_mem hj)).1, (g _ (List.getElem_mem hj)).2, fun h0 => ?_⟩
  have e' : l.getD (j - 1) [] = l[j - 1]'(by omega) := by simp [List.getD, show j - 1 < l.length by omega]
  rw [e']
  exact List.pairwise_iff_getElem.1 p (j - 1) j (by omega) hj (by omega)
theorem rises_bad {l : List (List Int)} {j : Nat} (hj : j < l.length) (h : ¬ (rightL (l.getD j []) = true ∧ l.getD j [] ≠ [] ∧ (0 < j → cmpL (l.getD (j - 1) []) (l.getD j []) < 0))) : risesB l = false := by
  rw [← Bool.not_eq_true]
  exact fun e => h (rises_get e hj)
end Go.Proofs.Ytmbkiefbchjofaa

/- Contracts of Mul of package meter, and of Add and Mul of the document's own answers: what each returns, for every pair of ints. -/
import Derived.Test.YtdfbomlnbogjkaaA
namespace Go.Proofs.Ytdfbomlnbogjkaa
open Go.ChangeShapes Go.WideShapes Go.ChangeAt Go.RowKit

/-- Are a and b, and their product, from 0 to Far? -/
def mulOk (a b : Int) : Bool := decide (0 ≤ a ∧ a ≤ 1152921504606846976 ∧ 0 ≤ b ∧ b ≤ 1152921504606846976 ∧ a * b ≤ 1152921504606846976)
def mulOf (a b : Int) : Int := if mulOk a b then a * b else 0
theorem mul_ok_t {a b : Int} (h1 : 0 ≤ a) (h2 : a ≤ 1152921504606846976) (h3 : 0 ≤ b) (h4 : b ≤ 1152921504606846976) (h5 : a * b ≤ 1152921504606846976) : mulOk a b = true ∧ mulOf a b = a * b := by
  have h : mulOk a b = true := decide_eq_true ⟨h1, h2, h3, h4, h5⟩
  exact ⟨h, by unfold mulOf; rw [h]; rfl⟩
theorem mul_ok_f {a b : Int} (h : ¬ (0 ≤ a ∧ a ≤ 1152921504606846976 ∧ 0 ≤ b ∧ b ≤ 1152921504606846976 ∧ a * b ≤ 1152921504606846976)) : mulOk a b = false ∧ mulOf a b = 0 := by
  have h : mulOk a b = false := decide_eq_false h
  exact ⟨h, by unfold mulOf; rw [h]; rfl⟩
theorem quo_lt {a b : Int} (h0 : 0 < a) : (1152921504606846976 / a < b) ↔ 1152921504606846976 < a * b := by
  rw [Int.ediv_lt_iff_lt_mul h0, Int.mul_comm]

theorem mul_z (b : Int) (w : World) (h3 : 0 ≤ b) (h4 : b ≤ 1152921504606846976) :
    Calls Try.prog 17 #[.int .i64 0, .int .i64 b] w (Pair 0 true w) := by
  go_enter Try.func17, Try.ntmps17
  go_wp2_with (first | (go_at_call 19; refine (counts_yes _ _ (by omega) (by omega)).mono ?_; rintro e w' ⟨rfl, rfl⟩))
  go_ret2
  exact ⟨by simp, rfl⟩

theorem mul_t (a b : Int) (w : World) (h1 : 0 < a) (h2 : a ≤ 1152921504606846976) (h3 : 0 ≤ b) (h4 : b ≤ 1152921504606846976) (h5 : a * b ≤ 1152921504606846976) :
    Calls Try.prog 17 #[.int .i64 a, .int .i64 b] w (Pair (a * b) true w) := by
  have h6 : 0 ≤ a * b := Int.mul_nonneg (by omega) h3
  have h7 : ¬ (1152921504606846976 / a < b) := by rw [quo_lt h1]; omega
  have h8 : (a != 0) = true := by rw [bne_iff_ne]; omega
  go_enter Try.func17, Try.ntmps17
  go_wp2_with (first | (go_at_call 19; refine (counts_yes _ _ (by omega) (by omega)).mono ?_; rintro e w' ⟨rfl, rfl⟩))
  go_ret2
  exact ⟨rfl, rfl⟩

theorem mul_far (a b : Int) (w : World) (h1 : 0 < a) (h2 : a ≤ 1152921504606846976) (h3 : 0 ≤ b) (h4 : b ≤ 1152921504606846976) (h5 : 1152921504606846976 < a * b) :
    Calls Try.prog 17 #[.int .i64 a, .int .i64 b] w (Pair 0 false w) := by
  have h7 : 1152921504606846976 / a < b := by rw [quo_lt h1]; omega
  have h8 : (a != 0) = true := by rw [bne_iff_ne]; omega
  clear h5
  go_enter Try.func17, Try.ntmps17
  go_wp2_with (first | (go_at_call 19; refine (counts_yes _ _ (by omega) (by omega)).mono ?_; rintro e w' ⟨rfl, rfl⟩))
  go_ret2
  exact ⟨rfl, rfl⟩

theorem mul_a (a b : Int) (w : World) (h : a < 0 ∨ 1152921504606846976 < a) :
    Calls Try.prog 17 #[.int .i64 a, .int .i64 b] w (Pair 0 false w) := by
  go_enter Try.func17, Try.ntmps17
  go_wp2_with (first | (go_at_call 19; refine (counts_no _ _ (by omega)).mono ?_; rintro e w' ⟨rfl, rfl⟩))
  go_ret2
  exact ⟨rfl, rfl⟩

theorem mul_b (a b : Int) (w : World) (h1 : 0 ≤ a) (h2 : a ≤ 1152921504606846976) (h : b < 0 ∨ 1152921504606846976 < b) :
    Calls Try.prog 17 #[.int .i64 a, .int .i64 b] w (Pair 0 false w) := by
  go_enter Try.func17, Try.ntmps17
  go_wp2_with (fail)
  refine (counts_yes _ _ (by omega) (by omega)).mono ?_
  rintro e w' ⟨rfl, rfl⟩
  go_wp2_with (fail)
  refine (counts_no _ _ (by omega)).mono ?_
  rintro e w' ⟨rfl, rfl⟩
  go_wp2
  go_ret2
  exact ⟨rfl, rfl⟩

theorem mul_any (a b : Int) (w : World) :
    Calls Try.prog 17 #[.int .i64 a, .int .i64 b] w (Pair (mulOf a b) (mulOk a b) w) := by
  by_cases h : 0 ≤ a ∧ a ≤ 1152921504606846976 ∧ 0 ≤ b ∧ b ≤ 1152921504606846976 ∧ a * b ≤ 1152921504606846976
  · obtain ⟨h1, h2, h3, h4, h5⟩ := h
    rw [(mul_ok_t h1 h2 h3 h4 h5).1, (mul_ok_t h1 h2 h3 h4 h5).2]
    by_cases h0 : a = 0
    · subst h0; rw [Int.zero_mul]; exact mul_z b w h3 h4
    · exact mul_t a b w (by omega) h2 h3 h4 h5
  · rw [(mul_ok_f h).1, (mul_ok_f h).2]
    by_cases c1 : a < 0 ∨ 1152921504606846976 < a
    · exact mul_a a b w c1
    · by_cases c2 : b < 0 ∨ 1152921504606846976 < b
      · exact mul_b a b w (by omega) (by omega) c2
      · have h0 : a ≠ 0 := by rintro rfl; rw [Int.zero_mul] at h; omega
        exact mul_far a b w (by omega) (by omega) (by omega) (by omega) (by omega)

end Go.Proofs.Ytdfbomlnbogjkaa

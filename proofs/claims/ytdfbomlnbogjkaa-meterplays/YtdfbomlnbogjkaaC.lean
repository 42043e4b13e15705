/- Contracts of Add and Mul of the document's own answers: what each returns, for every pair of ints. -/
import Derived.Test.YtdfbomlnbogjkaaB
namespace Go.Proofs.Ytdfbomlnbogjkaa
open Go.ChangeShapes Go.WideShapes Go.ChangeAt Go.RowKit

theorem radd_any (a b : Int) (w : World) (ha : -9223372036854775808 ≤ a ∧ a ≤ 9223372036854775807) (hb : -9223372036854775808 ≤ b ∧ b ≤ 9223372036854775807) :
    Calls Try.prog 16 #[.int .i64 a, .int .i64 b] w (Pair (sumOf a b) (sumOk a b) w) := by
  by_cases c1 : a < 0
  · rw [(sum_f (.inl c1)).1, (sum_f (.inl c1)).2]
    have d1 : decide (a < 0) = true := by simpa using c1
    go_enter Try.func16, Try.ntmps16
    go_wp2
    go_ret2
    exact ⟨rfl, rfl⟩
  have d1 : decide (a < 0) = false := by simpa using c1
  by_cases c2 : b < 0
  · rw [(sum_f (.inr (.inl c2))).1, (sum_f (.inr (.inl c2))).2]
    have d2 : decide (b < 0) = true := by simpa using c2
    go_enter Try.func16, Try.ntmps16
    go_wp2
    go_ret2
    exact ⟨rfl, rfl⟩
  have d2 : decide (b < 0) = false := by simpa using c2
  by_cases c3 : 1152921504606846976 < a
  · have e : a < 0 ∨ b < 0 ∨ 1152921504606846976 < a + b := by omega
    rw [(sum_f e).1, (sum_f e).2]
    have d3 : decide (1152921504606846976 < a) = true := by simpa using c3
    clear e
    go_enter Try.func16, Try.ntmps16
    go_wp2
    go_ret2
    exact ⟨rfl, rfl⟩
  have d3 : decide (1152921504606846976 < a) = false := by simpa using c3
  by_cases c4 : 1152921504606846976 - a < b
  · have e : a < 0 ∨ b < 0 ∨ 1152921504606846976 < a + b := by omega
    rw [(sum_f e).1, (sum_f e).2]
    have d4 : decide (1152921504606846976 - a < b) = true := by simpa using c4
    clear e
    go_enter Try.func16, Try.ntmps16
    go_wp2
    go_ret2
    exact ⟨rfl, rfl⟩
  · have d4 : decide (1152921504606846976 - a < b) = false := by simpa using c4
    rw [(sum_t (by omega) (by omega) (by omega)).1, (sum_t (by omega) (by omega) (by omega)).2]
    go_enter Try.func16, Try.ntmps16
    go_wp2
    go_ret2
    exact ⟨rfl, rfl⟩

theorem rmul_any (a b : Int) (w : World) (ha : -9223372036854775808 ≤ a ∧ a ≤ 9223372036854775807) (hb : -9223372036854775808 ≤ b ∧ b ≤ 9223372036854775807) :
    Calls Try.prog 18 #[.int .i64 a, .int .i64 b] w (Pair (mulOf a b) (mulOk a b) w) := by
  by_cases c1 : a < 0
  · have e := mul_ok_f (a := a) (b := b) (by omega)
    rw [e.1, e.2]
    clear e
    have d1 : decide (a < 0) = true := by simpa using c1
    go_enter Try.func18, Try.ntmps18
    go_wp2
    go_ret2
    exact ⟨rfl, rfl⟩
  have d1 : decide (a < 0) = false := by simpa using c1
  by_cases c2 : b < 0
  · have e := mul_ok_f (a := a) (b := b) (by omega)
    rw [e.1, e.2]
    clear e
    have d2 : decide (b < 0) = true := by simpa using c2
    go_enter Try.func18, Try.ntmps18
    go_wp2
    go_ret2
    exact ⟨rfl, rfl⟩
  have d2 : decide (b < 0) = false := by simpa using c2
  by_cases c3 : 1152921504606846976 < a
  · have e := mul_ok_f (a := a) (b := b) (by omega)
    rw [e.1, e.2]
    clear e
    have d3 : decide (1152921504606846976 < a) = true := by simpa using c3
    go_enter Try.func18, Try.ntmps18
    go_wp2
    go_ret2
    exact ⟨rfl, rfl⟩
  have d3 : decide (1152921504606846976 < a) = false := by simpa using c3
  by_cases c4 : 1152921504606846976 < b
  · have e := mul_ok_f (a := a) (b := b) (by omega)
    rw [e.1, e.2]
    clear e
    have d4 : decide (1152921504606846976 < b) = true := by simpa using c4
    go_enter Try.func18, Try.ntmps18
    go_wp2
    go_ret2
    exact ⟨rfl, rfl⟩
  have d4 : decide (1152921504606846976 < b) = false := by simpa using c4
  by_cases c5 : a = 0
  · subst c5
    have e := mul_ok_t (a := 0) (b := b) (by omega) (by omega) (by omega) (by omega) (by omega)
    rw [e.1, e.2, Int.zero_mul]
    clear e
    go_enter Try.func18, Try.ntmps18
    go_wp2
    go_ret2
    exact ⟨by simp, rfl⟩
  have p : 0 < a := by omega
  have d5 : decide (0 < a) = true := by simpa using p
  by_cases c6 : 1152921504606846976 / a < b
  · have g := (quo_lt p).1 c6
    have e := mul_ok_f (a := a) (b := b) (by omega)
    rw [e.1, e.2]
    clear e g
    have d6 : decide (1152921504606846976 / a < b) = true := by simpa using c6
    clear c5
    go_enter Try.func18, Try.ntmps18
    go_wp2
    go_ret2
    exact ⟨rfl, rfl⟩
  · have g : ¬ (1152921504606846976 < a * b) := fun h => c6 ((quo_lt p).2 h)
    have g0 : 0 ≤ a * b := Int.mul_nonneg (by omega) (by omega)
    have e := mul_ok_t (a := a) (b := b) (by omega) (by omega) (by omega) (by omega) (by omega)
    rw [e.1, e.2]
    clear e
    have d6 : decide (1152921504606846976 / a < b) = false := by simpa using c6
    clear c5
    go_enter Try.func18, Try.ntmps18
    go_wp2
    go_ret2
    exact ⟨rfl, rfl⟩

end Go.Proofs.Ytdfbomlnbogjkaa

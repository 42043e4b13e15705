/- Contracts of the small functions of package meter (counts, Add, Mul) and of the document's own answers (Add, Mul): what each returns, for every pair of ints. -/
import Derived.Test.YtdfbomlnbogjkaaRows
import Derived.WalkKit
import Derived.ProofKit
import Derived.OpenShut
import Derived.Below
import Derived.Lib.Hide
import Derived.Deep.QuietTactic
import Derived.BigQuiet
namespace Go.Proofs.Ytdfbomlnbogjkaa
open Go.ChangeShapes Go.WideShapes Go.ChangeAt Go.RowKit

theorem counts_yes (n : Int) (w : World) (h1 : 0 ≤ n) (h2 : n ≤ 1152921504606846976) :
    Calls Try.prog 19 #[.int .i64 n] w fun e w' => e = .returned (.bool true) ∧ w = w' := by
  go_enter Try.func19, Try.ntmps19
  go_wp2
  go_ret
  exact ⟨rfl, rfl⟩

theorem counts_no (n : Int) (w : World) (h : n < 0 ∨ 1152921504606846976 < n) :
    Calls Try.prog 19 #[.int .i64 n] w fun e w' => e = .returned (.bool false) ∧ w = w' := by
  rcases h with h | h
  · have h0 : decide (0 ≤ n) = false := by simp; omega
    go_enter Try.func19, Try.ntmps19
    go_wp2
    go_ret
    exact ⟨rfl, rfl⟩
  · have h0 : 0 ≤ n := by omega
    have h1 : decide (n ≤ 1152921504606846976) = false := by simp; omega
    go_enter Try.func19, Try.ntmps19
    go_wp2
    go_ret
    exact ⟨rfl, rfl⟩

/-- Are a and b, and their sum, from 0 to Far? -/
def sumOk (a b : Int) : Bool := decide (0 ≤ a ∧ 0 ≤ b ∧ a + b ≤ 1152921504606846976)
def sumOf (a b : Int) : Int := if sumOk a b then a + b else 0
def Pair (n : Int) (b : Bool) (w : World) (e : Ending) (w' : World) : Prop := e = .returned (.tuple #[.int .i64 n, .bool b]) ∧ w = w'
theorem sum_t {a b : Int} (h1 : 0 ≤ a) (h2 : 0 ≤ b) (h3 : a + b ≤ 1152921504606846976) : sumOk a b = true ∧ sumOf a b = a + b := by
  have h : sumOk a b = true := decide_eq_true ⟨h1, h2, h3⟩
  exact ⟨h, by unfold sumOf; rw [h]; rfl⟩
theorem sum_f {a b : Int} (h : a < 0 ∨ b < 0 ∨ 1152921504606846976 < a + b) : sumOk a b = false ∧ sumOf a b = 0 := by
  have h : sumOk a b = false := decide_eq_false (by omega)
  exact ⟨h, by unfold sumOf; rw [h]; rfl⟩

theorem add_t (a b : Int) (w : World) (h1 : 0 ≤ a) (h2 : 0 ≤ b) (h3 : a + b ≤ 1152921504606846976) :
    Calls Try.prog 15 #[.int .i64 a, .int .i64 b] w (Pair (a + b) true w) := by
  go_enter Try.func15, Try.ntmps15
  go_wp2_with (first | (go_at_call 19; refine (counts_yes _ _ (by omega) (by omega)).mono ?_; rintro e w' ⟨rfl, rfl⟩))
  go_ret2
  exact ⟨rfl, rfl⟩

theorem add_f (a b : Int) (w : World) (ha : -9223372036854775808 ≤ a ∧ a ≤ 9223372036854775807) (hb : -9223372036854775808 ≤ b ∧ b ≤ 9223372036854775807) (h : a < 0 ∨ b < 0 ∨ 1152921504606846976 < a + b) :
    Calls Try.prog 15 #[.int .i64 a, .int .i64 b] w (Pair 0 false w) := by
  by_cases c1 : a < 0 ∨ 1152921504606846976 < a
  · go_enter Try.func15, Try.ntmps15
    go_wp2_with (first | (go_at_call 19; refine (counts_no _ _ (by omega)).mono ?_; rintro e w' ⟨rfl, rfl⟩))
    go_ret2
    exact ⟨rfl, rfl⟩
  · by_cases c2 : b < 0 ∨ 1152921504606846976 < b
    · go_enter Try.func15, Try.ntmps15
      go_wp2_with (fail)
      refine (counts_yes _ _ (by omega) (by omega)).mono ?_
      rintro e w' ⟨rfl, rfl⟩
      go_wp2_with (fail)
      refine (counts_no _ _ (by omega)).mono ?_
      rintro e w' ⟨rfl, rfl⟩
      go_wp2
      go_ret2
      exact ⟨rfl, rfl⟩
    · have c3 : 1152921504606846976 - b < a := by omega
      go_enter Try.func15, Try.ntmps15
      go_wp2_with (first | (go_at_call 19; refine (counts_yes _ _ (by omega) (by omega)).mono ?_; rintro e w' ⟨rfl, rfl⟩))
      go_ret2
      exact ⟨rfl, rfl⟩

theorem add_any (a b : Int) (w : World) (ha : -9223372036854775808 ≤ a ∧ a ≤ 9223372036854775807) (hb : -9223372036854775808 ≤ b ∧ b ≤ 9223372036854775807) :
    Calls Try.prog 15 #[.int .i64 a, .int .i64 b] w (Pair (sumOf a b) (sumOk a b) w) := by
  by_cases h : a < 0 ∨ b < 0 ∨ 1152921504606846976 < a + b
  · rw [(sum_f h).1, (sum_f h).2]; exact add_f a b w ha hb h
  · have h1 : 0 ≤ a := by omega
    have h2 : 0 ≤ b := by omega
    have h3 : a + b ≤ 1152921504606846976 := by omega
    rw [(sum_t h1 h2 h3).1, (sum_t h1 h2 h3).2]; exact add_t a b w h1 h2 h3

end Go.Proofs.Ytdfbomlnbogjkaa

/- Plain words: a word made of another one and some words, each any number of times. -/
import Derived.Test.YtmnkjekjknhhjaaGreatDoorXb
namespace Go.Proofs.YtmnkjekjknhhjaaGreatDoor
open Go.ChangeShapes Go.WideShapes Go.ChangeAt Go.RowKit

def MadeOf (v : List Int) (ps : List (List Int)) (w : List Int) : Prop := ∃ ns : List Nat, ns.length = ps.length ∧ ∀ t, w.getD t 0 = v.getD t 0 + mulAt ps ns t
theorem made_nil {v w : List Int} : MadeOf v [] w ↔ ∀ t, w.getD t 0 = v.getD t 0 := by
  constructor
  · rintro ⟨ns, h1, h2⟩ t
    have := h2 t
    cases ns with
    | nil =>
      have e : mulAt [] [] t = 0 := rfl
      rw [e] at this
      omega
    | cons n q => simp at h1
  · intro h
    exact ⟨[], rfl, fun t => by rw [h t]; show _ = _ + (0 : Int); omega⟩
theorem mul_zeros (t : Nat) : ∀ ps : List (List Int), mulAt ps (List.replicate ps.length 0) t = 0
  | [] => rfl
  | p :: r => by
    show ((0 : Nat) : Int) * p.getD t 0 + mulAt r (List.replicate r.length 0) t = 0
    rw [mul_zeros t r]
    simp
theorem made_same {v w : List Int} (ps : List (List Int)) (h : ∀ t, w.getD t 0 = v.getD t 0) : MadeOf v ps w :=
  ⟨List.replicate ps.length 0, by simp, fun t => by rw [mul_zeros, h t]; omega⟩
theorem made_cons {v p w : List Int} {r : List (List Int)} : MadeOf v (p :: r) w ↔ MadeOf v r w ∨ MadeOf (addT v p) (p :: r) w := by
  constructor
  · rintro ⟨ns, h1, h2⟩
    cases ns with
    | nil => simp at h1
    | cons n q =>
      cases n with
      | zero =>
        left
        refine ⟨q, by simpa using h1, fun t => ?_⟩
        rw [h2 t]
        show _ + (((0 : Nat) : Int) * p.getD t 0 + mulAt r q t) = _
        simp
      | succ n =>
        right
        refine ⟨n :: q, by simpa using h1, fun t => ?_⟩
        rw [h2 t, add_at]
        show _ + (((n + 1 : Nat) : Int) * p.getD t 0 + mulAt r q t) = _ + ((n : Int) * p.getD t 0 + mulAt r q t)
        rw [Int.natCast_add, Int.add_mul]
        omega
  · rintro (⟨q, h1, h2⟩ | ⟨ns, h1, h2⟩)
    · refine ⟨0 :: q, by simpa using h1, fun t => ?_⟩
      rw [h2 t]
      show _ = _ + (((0 : Nat) : Int) * p.getD t 0 + mulAt r q t)
      simp
    · cases ns with
      | nil => simp at h1
      | cons n q =>
        refine ⟨(n + 1) :: q, by simpa using h1, fun t => ?_⟩
        rw [h2 t, add_at]
        show _ + ((n : Int) * p.getD t 0 + mulAt r q t) = _ + (((n + 1 : Nat) : Int) * p.getD t 0 + mulAt r q t)
        rw [Int.natCast_add, Int.add_mul]
        omega
/-- What has more of a tag is not a part. -/
theorem made_over {v w : List Int} {ps : List (List Int)} (hp : ∀ p ∈ ps, rightL p = true) {t : Nat} (h : w.getD t 0 < v.getD t 0) : ¬ MadeOf v ps w := by
  rintro ⟨ns, _, h2⟩
  have h3 := mul_pos t ps ns hp
  have := h2 t
  omega
/-- A right word that is not empty has a tag. -/
theorem right_tag {p : List Int} (h : rightL p = true) (h0 : p ≠ []) : ∃ t, t < 12 ∧ 1 ≤ p.getD t 0 := by
  have hl : 0 < p.length := List.length_pos_iff.2 h0
  have h1 := right_last h hl
  have h2 := (right_at h (p.length - 1)).1
  have h3 := (right_iff.1 h).1
  exact ⟨p.length - 1, by omega, by omega⟩
/-- How much there is in all of the first n tags. -/
def sumT (w : List Int) : Nat → Int
  | 0 => 0
  | n + 1 => sumT w n + w.getD n 0
theorem sumT_le {v w : List Int} (h : ∀ t, v.getD t 0 ≤ w.getD t 0) : ∀ n, sumT v n ≤ sumT w n
  | 0 => Int.le_refl _
  | n + 1 => by
    have := sumT_le h n
    have := h n
    unfold sumT
    omega
theorem sumT_lt {v w : List Int} (h : ∀ t, v.getD t 0 ≤ w.getD t 0) {k : Nat} (hk : v.getD k 0 < w.getD k 0) : ∀ n, k < n → sumT v n < sumT w n
  | 0, hn => by omega
  | n + 1, hn => by
    unfold sumT
    by_cases e : k = n
    · subst e
      have := sumT_le h k
      omega
    · have := sumT_lt h hk n (by omega)
      have := h n
      omega
end Go.Proofs.YtmnkjekjknhhjaaGreatDoor

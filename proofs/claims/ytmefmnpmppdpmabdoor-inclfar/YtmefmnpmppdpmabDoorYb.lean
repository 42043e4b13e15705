import Derived.Test.YtmefmnpmppdpmabDoorYa
/- Plain words: the searches of InclFar: a word of one tag within the words of any number of k of that tag, and within one more. -/
namespace Go.Proofs.YtmefmnpmppdpmabDoor
open Go.ChangeShapes Go.WideShapes Go.ChangeAt Go.RowKit

/-- So many places, fewer things: two places have the same. -/
theorem php {α : Type} [DecidableEq α] : ∀ (F : List α) (f : Nat → α) (m : Nat), F.length < m → (∀ i, i < m → f i ∈ F) → ∃ i j, i < j ∧ j < m ∧ f i = f j
  | [], f, m, h, hf => by
    have := hf 0 (by simp at h; omega)
    simp at this
  | a :: F, f, m, h, hf => by
    rw [List.length_cons] at h
    by_cases hx : ∃ j, j < m ∧ f j = a
    · obtain ⟨j, hj, ej⟩ := hx
      by_cases hy : ∃ i, i < m ∧ i ≠ j ∧ f i = a
      · obtain ⟨i, hi, hij, ei⟩ := hy
        rcases Nat.lt_or_gt_of_ne hij with h1 | h1
        · exact ⟨i, j, h1, hj, by rw [ei, ej]⟩
        · exact ⟨j, i, h1, hi, by rw [ei, ej]⟩
      · have hm : ∀ i, i < m - 1 → (if i < j then f i else f (i + 1)) ∈ F := fun i hi => by
          have hk : ∀ k, k < m → k ≠ j → f k ∈ F := fun k hk hkj => by
            rcases List.mem_cons.1 (hf k hk) with e | e
            · exact absurd ⟨k, hk, hkj, e⟩ hy
            · exact e
          split
          · exact hk i (by omega) (by omega)
          · exact hk (i + 1) (by omega) (by omega)
        obtain ⟨i, k, h1, h2, h3⟩ := php F (fun i => if i < j then f i else f (i + 1)) (m - 1) (by omega) hm
        by_cases c1 : i < j
        · by_cases c2 : k < j
          · rw [if_pos c1, if_pos c2] at h3
            exact ⟨i, k, h1, by omega, h3⟩
          · rw [if_pos c1, if_neg c2] at h3
            exact ⟨i, k + 1, by omega, by omega, h3⟩
        · rw [if_neg c1, if_neg (by omega)] at h3
          exact ⟨i + 1, k + 1, by omega, by omega, h3⟩
    · refine (php F f m (by omega) (fun i hi => ?_))
      rcases List.mem_cons.1 (hf i hi) with e | e
      · exact absurd ⟨i, hi, e⟩ hx
      · exact e

def stepS (k : Int) : List Lin := [⟨[], [[k]]⟩]
def wordX (n : Int) : Lin := ⟨[n], []⟩
def nextS (n : Int) : List Lin := [wordX n]
theorem one_word {n : Int} (h : 1 ≤ n) (h2 : n ≤ 1152921504606846976) : rightL [n] = true := right_iff.2 ⟨by simp, fun x hx => by rw [List.mem_singleton] at hx; omega, .inr (by simp; omega)⟩
theorem one_small {n : Int} (h : 1 ≤ n) (h2 : n ≤ 1152921504606846976) : Small n [n] := ⟨one_word h h2, by simp, fun j => by
  cases j with
  | zero => simp
  | succ j => simp; omega⟩
theorem thin_step {k : Int} (h1 : 1 ≤ k) (h2 : k ≤ 6) : Thin (stepS k) := by
  have hk : rightL [k] = true := one_word h1 (by omega)
  have hs : Small 45 [k] := (one_small h1 (by omega)).more (by omega)
  have hr : rightLin ⟨[], [[k]]⟩ = true := by
    rw [rightLin_iff]
    refine ⟨right_empty, ?_⟩
    rcases (show k = 1 ∨ k = 2 ∨ k = 3 ∨ k = 4 ∨ k = 5 ∨ k = 6 by omega) with rfl | rfl | rfl | rfl | rfl | rfl <;> exact (rightLin_iff (x := ⟨[], _⟩)).1 (by decide) |>.2
  refine ⟨⟨fun z hz => ?_, by simp [stepS]⟩, fun x hx => ?_, by simp [stepS]⟩
  · rw [stepS, List.mem_singleton] at hz
    rw [hz]; exact hr
  · rw [stepS, List.mem_singleton] at hx
    subst hx
    refine ⟨⟨hr, small_empty (by omega), by simp⟩, fun p hp => ?_, by simp, fun p hp => ?_, fun t => ?_⟩
    · rw [List.mem_singleton] at hp; rw [hp]; exact hs
    · rw [List.mem_singleton] at hp; rw [hp]; simp
    · cases t with
      | zero => simp [psum]; omega
      | succ t => simp [psum]
/-- The items that one gets to from those of the start, by letters of one tag. -/
def famS (b : List Lin) : Nat → List (List It) → List (List It)
  | 0, L => L
  | f + 1, L => famS b f ((L ++ L.flatMap (fun S => [(nextM none b S 0).1, (nextM none b S 1).1])).eraseDups)
def famK (k : Int) : List (List It) := famS (stepS k) 8 [startL (stepS k)]
def famOk (k : Int) : Bool := decide ((famK k).length ≤ 29) && (famK k).contains (startL (stepS k)) && (famK k).all (fun S => (famK k).contains (nextM none (stepS k) S 0).1 && (famK k).contains (nextM none (stepS k) S 1).1)
theorem famOk_yes {k : Int} (h1 : 1 ≤ k) (h2 : k ≤ 6) : famOk k = true := by
  rcases (show k = 1 ∨ k = 2 ∨ k = 3 ∨ k = 4 ∨ k = 5 ∨ k = 6 by omega) with rfl | rfl | rfl | rfl | rfl | rfl <;> decide +kernel
section
variable {n : Int} {b : List Lin} {N : Mr}
theorem one_at (n : Int) (t : Nat) : [n].getD t 0 = if t = 0 then n else 0 := by
  cases t with
  | zero => simp
  | succ t => simp
/-- The letter of a pair is the next digit. -/
theorem line_letter (h1 : 1 ≤ n) (h2 : n ≤ 1152921504606846976) {i : Nat} (hi : i ≤ 60) : oddN (lineP [n] b N i).c = letterN [n] (i : Int) ∧ letterN [n] (i : Int) = n / 2 ^ i % 2 := by
  obtain ⟨a1, a2, _, _⟩ := line_word (N := N) (b := b) (one_small h1 h2) i hi
  refine ⟨letter_odd (one_word h1 h2) (by omega) (fun t => by rw [a2]), ?_⟩
  unfold letterN
  rw [if_pos ⟨one_word h1 h2, by omega, by omega⟩, Int.toNat_natCast]
  show packN [n / 2 ^ i] = _
  rw [packN_cons, packN_nil]
  omega
theorem line_items (hb : Thin b) (hN : N = none) (h1 : 1 ≤ n) (h2 : n ≤ 1152921504606846976) : ∀ i, i ≤ 60 → (lineP [n] b N i).l = itemsAt b [n] i N
  | 0, _ => rfl
  | i + 1, hi => by
    rw [items_succ hb _ _ hN, ← line_items hb hN h1 h2 i (by omega), ← (line_letter (b := b) (N := N) h1 h2 (show i ≤ 60 by omega)).1]
    rfl
theorem line_err (hb : Thin b) (hN : N = none) (h1 : 1 ≤ n) (h2 : n ≤ 1152921504606846976) (i : Nat) (hi : i ≤ 59) : (nextM N b (lineP [n] b N i).l (oddN (lineP [n] b N i).c)).2 = (0, N) := by
  have hst : Stand b (lineP [n] b N i).l := by
    rw [line_items hb hN h1 h2 i (by omega)]
    exact items_stand hb [n] i hN
  obtain ⟨y, hy, _, _⟩ := stand_next hb hst (oddN (lineP [n] b N i).c) hN
  rw [hy]
/-- What is carried is nothing just behind the last digit. -/
theorem line_empty (h1 : 1 ≤ n) (h2 : n ≤ 1152921504606846976) {i : Nat} (hi : i ≤ 60) : (lineP [n] b N i).c = [] ↔ n / 2 ^ i = 0 := by
  obtain ⟨a1, a2, _, _⟩ := line_word (N := N) (b := b) (one_small h1 h2) i hi
  constructor
  · intro e
    have := a2 0
    rw [e, one_at, if_pos rfl] at this
    simpa using this.symm
  · intro e
    refine zero_empty a1.right (fun t => ?_)
    rw [a2, one_at]
    split
    · exact e
    · simp
theorem far_zero (h1 : 1 ≤ n) (h2 : n ≤ 1073741823) {i : Nat} (hi : 30 ≤ i) : n / 2 ^ i = 0 := by
  refine Int.ediv_eq_zero_of_lt (by omega) ?_
  have h3 : (2 : Nat) ^ 30 ≤ 2 ^ i := Nat.pow_le_pow_right (by omega) hi
  have e : (2 : Int) ^ i = ((2 ^ i : Nat) : Int) := by simp
  have e2 : (2 : Nat) ^ 30 = 1073741824 := by decide
  rw [e]
  omega
/-- Two pairs alike: nothing is carried there any more. -/
theorem alike_empty (h1 : 1 ≤ n) (h2 : n ≤ 1152921504606846976) {j k : Nat} (hjk : j < k) (hk : k ≤ 60) (h : AlikeP (lineP [n] b N j) (lineP [n] b N k)) : n / 2 ^ j = 0 := by
  obtain ⟨_, a2, _, _⟩ := line_word (N := N) (b := b) (one_small h1 h2) j (by omega)
  obtain ⟨_, b2, _, _⟩ := line_word (N := N) (b := b) (one_small h1 h2) k hk
  have e := a2 0
  rw [h.1, b2 0, one_at, if_pos rfl] at e
  obtain ⟨d, rfl⟩ : ∃ d, k = j + (d + 1) := ⟨k - j - 1, by omega⟩
  have hp := (pow59 (show j ≤ 59 by omega)).1
  have hd := (pow59 (show d ≤ 59 by omega)).1
  have e3 : (2 : Int) ^ (j + (d + 1)) = 2 ^ j * (2 ^ d * 2) := by rw [Int.pow_add, Int.pow_succ]
  rw [e3, ← Int.ediv_ediv_of_nonneg (by omega)] at e
  have h0 : 0 ≤ n / 2 ^ j := Int.ediv_nonneg (by omega) (by omega)
  generalize n / 2 ^ j = q at e h0 ⊢
  by_cases hq : q = 0
  · exact hq
  · have h5 : q / (2 ^ d * 2) < q := Int.ediv_lt_self_of_pos_of_ne_one (by omega) (by omega)
    omega
/-- The word so far is the word, where nothing is carried any more. -/
theorem line_whole (h1 : 1 ≤ n) (h2 : n ≤ 1152921504606846976) {i : Nat} (hi : i ≤ 60) (h : (lineP [n] b N i).c = []) : (lineP [n] b N i).w = [n] := by
  obtain ⟨_, _, a3, a4⟩ := line_word (N := N) (b := b) (one_small h1 h2) i hi
  have h0 := (line_empty h1 h2 hi).1 h
  refine right_ext a3 (one_word h1 h2) (fun t => ?_)
  rw [a4, one_at]
  split
  · rw [Int.emod_def, h0]; simp
  · simp
end
end Go.Proofs.YtmefmnpmppdpmabDoor

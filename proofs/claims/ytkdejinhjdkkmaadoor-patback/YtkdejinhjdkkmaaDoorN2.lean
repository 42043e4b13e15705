/- Plain words: the tokens of a text end with the end, and are as a reader of patterns wants them; where a name stands in a row of names; no condition. -/
import Derived.Test.YtkdejinhjdkkmaaDoorN
namespace Go.Proofs.YtkdejinhjdkkmaaDoor

theorem take_span (p : UInt8 → Bool) (l : Txt) : l.take (span p l) = l.takeWhile p := by
  unfold span
  induction l with
  | nil => rfl
  | cons c r ih =>
    rw [List.takeWhile_cons]
    by_cases h : p c <;> simp [h, ih]
theorem all_takeWhile (p : UInt8 → Bool) (l : Txt) : ∀ c ∈ l.takeWhile p, p c = true := by
  induction l with
  | nil => simp
  | cons c r ih =>
    rw [List.takeWhile_cons]
    by_cases h : p c
    · simp only [h, if_true, List.mem_cons]
      rintro x (rfl | hx)
      · exact h
      · exact ih x hx
    · simp [h]
theorem wf_tok {c : UInt8} {r : Txt} (h : okOf (c :: r) = true) (line col : Nat) : wfT (tokAt (c :: r) line col) := by
  unfold wfT tokAt
  simp only
  unfold okOf at h
  simp only at h
  by_cases h1 : letter c = true
  · left
    rw [if_pos h1] at h
    have hl : lenOf (c :: r) = span inWord (c :: r) := by unfold lenOf; simp [h1]
    refine ⟨by unfold kindOf; simp [h1], ?_⟩
    rw [hl, take_span, List.takeWhile_cons, if_pos (letter_word h1)]
    have hs : span inWord (c :: r) = span inWord r + 1 := by rw [span_cons, if_pos (letter_word h1)]
    rw [hs] at h
    have h := of_decide_eq_true h
    simp only [isWord, h1, Bool.true_and, Bool.and_eq_true, List.all_eq_true]
    exact ⟨all_takeWhile inWord r, by simp only [decide_eq_true_eq]; exact (show span inWord r ≤ 15 by omega)⟩
  · rw [if_neg h1] at h
    by_cases h2 : digit c = true
    · right; left
      rw [if_pos h2] at h
      simp only [Bool.and_eq_true, decide_eq_true_eq] at h
      have hl : lenOf (c :: r) = span digit (c :: r) := by unfold lenOf; simp [h1, h2]
      have hk : kindOf (c :: r) = 2 := by unfold kindOf; simp [h1, h2]
      have ht : (c :: r).take (lenOf (c :: r)) = (c :: r).takeWhile digit := by rw [hl, take_span]
      refine ⟨hk, ?_, ?_, ?_, ?_, ?_⟩
      · rw [ht, List.takeWhile_cons, if_pos h2]; simp
      · rw [ht]; exact all_takeWhile digit _
      · rw [ht]; exact h.1
      · rw [ht]
        intro hlt
        have hlt : 1 < span digit (c :: r) := hlt
        rw [List.takeWhile_cons, if_pos h2]
        simp only [List.head?_cons, ne_eq, Option.some.injEq]
        have := h.2
        simp [hlt] at this
        exact this
      · unfold numOf; rw [if_pos hk]
    · right; right
      rw [if_neg h2] at h
      refine ⟨by unfold kindOf; simp [h1, h2, h], c, h, ?_⟩
      have hl : lenOf (c :: r) = 1 := by unfold lenOf; simp [h1, h2]
      rw [hl]; rfl
theorem go_ended : ∀ (n : Nat) (l : Txt) (line col : Nat) (ts : List Tok), l.length ≤ n → go l line col = .ok ts → Ended ts ∧ ts.length ≤ l.length + 1
  | n, [], line, col, ts, _, e => by
    rw [go_nil] at e
    injection e with e; subst e
    exact ⟨⟨rfl, rfl⟩, by simp⟩
  | 0, _ :: _, _, _, _, h, _ => by simp at h
  | n + 1, c :: r, line, col, ts, h, e => by
    simp only [List.length_cons] at h ⊢
    rcases parts c with rfl | hc | rfl | hs
    · rw [go_nl] at e
      have := go_ended n r _ _ ts (by omega) e
      exact ⟨this.1, by omega⟩
    · rw [go_blank hc] at e
      have := go_ended n r _ _ ts (by omega) e
      exact ⟨this.1, by omega⟩
    · rw [go_hash] at e
      have := go_ended n _ _ _ ts (by rw [List.length_drop]; omega) e
      rw [List.length_drop] at this
      exact ⟨this.1, by omega⟩
    · cases ho : okOf (c :: r) with
      | false => rw [go_bad hs ho] at e; cases e
      | true =>
        rw [go_tok hs ho] at e
        obtain ⟨ts', e1, e2⟩ := pre_ok e
        have hp := lenOf_pos (c := c) (r := r)
        have := go_ended n _ _ _ ts' (by simp only [List.length_drop, List.length_cons]; omega) e1
        simp only [List.length_drop, List.length_cons] at this
        subst e2
        refine ⟨?_, by simp only [List.length_cons]; omega⟩
        cases ts' with
        | nil => exact this.1.elim
        | cons u ts => exact ⟨wf_tok ho _ _, this.1⟩

theorem posF_snoc (x y : Txt) : ∀ (l : List Txt) (m : Nat), posF x (l ++ [y]) m = match posF x l m with | some j => some j | none => if y = x then some (m + l.length) else none
  | [], m => by simp [posF]
  | z :: r, m => by
    simp only [List.cons_append, posF]
    by_cases h : z = x
    · simp [h]
    · simp only [h, if_false]
      rw [posF_snoc x y r (m + 1)]
      cases posF x r (m + 1) with
      | some j => rfl
      | none => simp only [List.length_cons]; rw [show m + 1 + r.length = m + (r.length + 1) by omega]

/-- What the document asks of Parse: the error, and the nodes. -/
def parseT (keys nm : List Txt) (l : Txt) : Nat × List Nd := if 16384 < l.length then (3, []) else parseP keys nm (go l 1 1)
end Go.Proofs.YtkdejinhjdkkmaaDoor

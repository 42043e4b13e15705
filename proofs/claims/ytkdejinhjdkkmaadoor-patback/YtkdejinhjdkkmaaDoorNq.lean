/- Plain words: how the pieces of a printed pattern are read as tokens; no condition. -/
import Derived.Test.YtkdejinhjdkkmaaDoorNp
import Derived.Test.YtkdejinhjdkkmaaDoorN4
namespace Go.Proofs.YtkdejinhjdkkmaaDoor

/-- What stands behind a piece: nothing, or a byte that no word has. -/
def Bnd (r : Txt) : Prop := ∀ c, r.head? = some c → inWord c = false
theorem Bnd.nil : Bnd [] := fun _ h => by cases h
theorem Bnd.cons {c : UInt8} {r : Txt} (h : inWord c = false) : Bnd (c :: r) := fun _ e => by injection e with e; subst e; exact h
theorem Bnd.dig {r : Txt} (h : Bnd r) : ∀ c, r.head? = some c → digit c = false := fun c e => by
  have := h c e
  unfold inWord at this
  cases hd : digit c with
  | false => rfl
  | true => rw [hd] at this; simp at this
theorem span_bnd (p : UInt8 → Bool) : ∀ (x rest : Txt), (∀ c ∈ x, p c = true) → (∀ c, rest.head? = some c → p c = false) → span p (x ++ rest) = x.length
  | [], rest, _, hr => by
    cases rest with
    | nil => rfl
    | cons c r => rw [List.nil_append, span_cons, hr c rfl]; rfl
  | c :: x, rest, hx, hr => by
    rw [List.cons_append, span_cons, hx c (by simp), if_pos rfl, span_bnd p x rest (fun d hd => hx d (by simp [hd])) hr]
    rfl
theorem lex_sign (c : UInt8) (r : Txt) (line col : Nat) (hs : solid c) (h : sign c = true) (hl : letter c = false) (hd : digit c = false) : go (c :: r) line col = pre ⟨3, 0, line, col, [c]⟩ (go r line (col + 1)) := by
  have hk : kindOf (c :: r) = 3 := by unfold kindOf; simp [hl, hd, h]
  have hn : lenOf (c :: r) = 1 := by unfold lenOf; simp [hl, hd]
  rw [go_tok hs (by unfold okOf; simp [hl, hd, h]), hn]
  unfold tokAt numOf
  rw [hk, hn]
  rfl
theorem wordIn {x : Txt} (h : isWord x = true) : ∃ c r, x = c :: r ∧ letter c = true ∧ (∀ d ∈ x, inWord d = true) ∧ x.length ≤ 16 := by
  cases x with
  | nil => cases h
  | cons c r =>
    simp only [isWord, Bool.and_eq_true, decide_eq_true_eq, List.all_eq_true] at h
    refine ⟨c, r, rfl, h.1, fun d hd => ?_, by simp only [List.length_cons]; omega⟩
    rcases List.mem_cons.1 hd with rfl | hd
    · exact letter_word h.1
    · exact h.2.1 d hd
theorem letterSolid {c : UInt8} (h : letter c = true) : solid c := by
  have := letter_bd h
  refine ⟨?_, ?_, ?_, ?_⟩ <;> (rintro rfl; simp at this)
theorem digitSolid {c : UInt8} (h : digit c = true) : solid c := by
  have := digit_bd h
  refine ⟨?_, ?_, ?_, ?_⟩ <;> (rintro rfl; simp at this)
theorem digitLetter {c : UInt8} (h : digit c = true) : letter c = false := by
  have := digit_bd h
  cases hl : letter c with
  | false => rfl
  | true => have := letter_bd hl; omega
theorem lex_word (x rest : Txt) (line col : Nat) (h : isWord x = true) (hb : Bnd rest) : go (x ++ rest) line col = pre ⟨1, 0, line, col, x⟩ (go rest line (col + x.length)) := by
  obtain ⟨c, r, hx, hc, hin, hlen⟩ := wordIn h
  have hsp := span_bnd inWord x rest hin hb
  subst hx
  rw [List.cons_append] at hsp ⊢
  have hn : lenOf (c :: (r ++ rest)) = (c :: r).length := by unfold lenOf; simp only [hc, if_true]; exact hsp
  have hk : kindOf (c :: (r ++ rest)) = 1 := by unfold kindOf; simp [hc]
  have ho : okOf (c :: (r ++ rest)) = true := by unfold okOf; simp only [hc, if_true]; rw [hsp]; simpa using hlen
  rw [go_tok (letterSolid hc) ho, hn]
  unfold tokAt numOf
  rw [hk, hn, ← List.cons_append, List.take_left, List.drop_left]
  rfl
theorem num_snoc' (l : Txt) (c : UInt8) : num (l ++ [c]) = num l * 10 + (c.toNat - 48) := by unfold num; rw [List.foldl_append]; rfl
theorem dec_facts (n : Nat) : (∀ c ∈ Lib.decDigits n, digit c = true) ∧ num (Lib.decDigits n) = n ∧ Lib.decDigits n ≠ [] ∧ (0 < n → (Lib.decDigits n).head? ≠ some 48) := by
  induction n using Nat.strongRecOn with
  | _ n ih =>
    by_cases h : n < 10
    · have e : Lib.decDigits n = [UInt8.ofNat (48 + n)] := by rw [Lib.decDigits, dif_pos h]
      have ht : (UInt8.ofNat (48 + n)).toNat = 48 + n := by rw [UInt8.toNat_ofNat']; omega
      rw [e]
      refine ⟨fun c hc => ?_, ?_, by simp, fun h0 => ?_⟩
      · rw [List.mem_singleton] at hc; rw [hc]; unfold digit; rw [ht]; simp; omega
      · unfold num; simp only [List.foldl_cons, List.foldl_nil]; rw [ht]; omega
      · intro e2
        injection e2 with e2
        have := congrArg UInt8.toNat e2
        rw [ht] at this
        simp at this
        omega
    · have e : Lib.decDigits n = Lib.decDigits (n / 10) ++ [UInt8.ofNat (48 + n % 10)] := by rw [Lib.decDigits, dif_neg h]
      have ht : (UInt8.ofNat (48 + n % 10)).toNat = 48 + n % 10 := by rw [UInt8.toNat_ofNat']; omega
      obtain ⟨i1, i2, i3, i4⟩ := ih (n / 10) (by omega)
      rw [e]
      refine ⟨fun c hc => ?_, ?_, by simp, fun _ => ?_⟩
      · rcases List.mem_append.1 hc with hc | hc
        · exact i1 c hc
        · rw [List.mem_singleton] at hc; rw [hc]; unfold digit; rw [ht]; simp; omega
      · rw [num_snoc', i2, ht]; omega
      · rw [List.head?_append]
        cases hd : Lib.decDigits (n / 10) with
        | nil => exact absurd hd i3
        | cons a r => have := i4 (by omega); rw [hd] at this; simpa using this
theorem lex_num (n : Nat) (hn : n ≤ 999999999) (rest : Txt) (line col : Nat) (hb : Bnd rest) : go (Lib.decDigits n ++ rest) line col = pre ⟨2, n, line, col, Lib.decDigits n⟩ (go rest line (col + (Lib.decDigits n).length)) := by
  obtain ⟨h1, h2, h3, h4⟩ := dec_facts n
  have h9 : (Lib.decDigits n).length ≤ 9 := dec_len n 8 (by omega)
  have hone : n = 0 → (Lib.decDigits n).length = 1 := fun e => by subst e; rw [Lib.decDigits, dif_pos (by omega)]; rfl
  have hsp := span_bnd digit _ rest h1 hb.dig
  cases hd : Lib.decDigits n with
  | nil => exact absurd hd h3
  | cons c r =>
    rw [hd] at h1 h2 h4 h9 hone hsp
    have hc := h1 c (by simp)
    have hl := digitLetter hc
    rw [List.cons_append] at hsp ⊢
    have hn' : lenOf (c :: (r ++ rest)) = (c :: r).length := by unfold lenOf; simp only [hl, hc, if_true, Bool.false_eq_true, if_false]; exact hsp
    have hk : kindOf (c :: (r ++ rest)) = 2 := by unfold kindOf; simp [hl, hc]
    have ho : okOf (c :: (r ++ rest)) = true := by
      unfold okOf
      simp only [hl, hc, if_true, Bool.false_eq_true, if_false]
      rw [hsp]
      simp only [Bool.and_eq_true, decide_eq_true_eq, Bool.not_eq_true', Bool.and_eq_false_imp]
      refine ⟨h9, fun hlen => ?_⟩
      by_cases h0 : 0 < n
      · have := h4 h0
        simpa using this
      · have := hone (by omega)
        omega
    rw [go_tok (digitSolid hc) ho, hn']
    unfold tokAt numOf
    rw [hk, hn', ← List.cons_append, List.take_left, List.drop_left, if_pos rfl, h2]
end Go.Proofs.YtkdejinhjdkkmaaDoor

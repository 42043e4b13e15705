/- Plain words: what a token of one byte is, by its kind; what the numbers 0 and 1 look like; no condition. -/
import Derived.Test.YtkdejinhjdkkmaaDoorN2
namespace Go.Proofs.YtkdejinhjdkkmaaDoor

theorem letter_bd {c : UInt8} (h : letter c = true) : 97 ≤ c.toNat ∧ c.toNat ≤ 122 := by simpa [letter] using h
theorem digit_bd {c : UInt8} (h : digit c = true) : 48 ≤ c.toNat ∧ c.toNat ≤ 57 := by simpa [digit] using h
theorem Ended.head {t : Tok} {r : List Tok} (h : Ended (t :: r)) : (t.kind = 4 ∧ t.text = []) ∨ wfT t := by
  cases r with
  | nil => exact .inl h
  | cons u ts => exact .inr h.1
/-- A token whose text is one byte that is no letter and no digit is a sign. -/
theorem sign_kind {t : Tok} {r : List Tok} {c : UInt8} (h : Ended (t :: r)) (ht : t.text = [c]) (hl : letter c = false) (hd : digit c = false) : t.kind = 3 := by
  rcases h.head with ⟨_, e⟩ | ⟨_, h⟩ | ⟨_, _, h, _⟩ | ⟨h, _⟩
  · rw [ht] at e; cases e
  · rw [ht] at h; simp [isWord, hl] at h
  · have := h c (by rw [ht]; simp); rw [hd] at this; cases this
  · exact h
theorem name_kind {keys : List Txt} {t : Tok} {r : List Tok} (h : Ended (t :: r)) (hn : isName keys t.text = true) : t.kind = 1 := by
  have hw : isWord t.text = true := by unfold isName at hn; simp only [Bool.and_eq_true] at hn; exact hn.1
  rcases h.head with ⟨_, e⟩ | ⟨h, _⟩ | ⟨_, _, h, _⟩ | ⟨_, c, h, e⟩
  · rw [e] at hw; cases hw
  · exact h
  · cases ht : t.text with
    | nil => rw [ht] at hw; cases hw
    | cons c r =>
      rw [ht] at hw
      have h1 := digit_bd (h c (by rw [ht]; simp))
      simp only [isWord, Bool.and_eq_true] at hw
      have h2 := letter_bd hw.1
      omega
  · rw [e] at hw
    simp only [isWord, Bool.and_eq_true] at hw
    have h2 := letter_bd hw.1
    have : ∀ x ∈ signs, ¬ (97 ≤ x.toNat ∧ x.toNat ≤ 122 ∧ sign x = true ∧ letter x = true) := by decide
    exact absurd ⟨h2.1, h2.2, h, hw.1⟩ (this c (by simpa [sign] using h))
theorem dig_kind {t : Tok} {r : List Tok} {c : UInt8} (h : Ended (t :: r)) (ht : t.text = [c]) (hd : digit c = true) : t.kind = 2 := by
  have hb := digit_bd hd
  rcases h.head with ⟨_, e⟩ | ⟨_, h⟩ | ⟨h, _⟩ | ⟨_, c', h, e⟩
  · rw [ht] at e; cases e
  · rw [ht] at h; simp only [isWord, Bool.and_eq_true] at h; have := letter_bd h.1; omega
  · exact h
  · rw [ht] at e; injection e with e; subst e
    have : ∀ x ∈ signs, ¬ (digit x = true) := by decide
    exact absurd hd (this c (by simpa [sign] using h))
theorem num_foldl (l : Txt) (n : Nat) : n * 10 ^ l.length ≤ l.foldl (fun n c => n * 10 + (c.toNat - 48)) n := by
  induction l generalizing n with
  | nil => simp
  | cons c r ih =>
    rw [List.foldl_cons, List.length_cons, Nat.pow_succ]
    refine Nat.le_trans ?_ (ih _)
    rw [Nat.mul_comm (10 ^ r.length) 10, ← Nat.mul_assoc]
    exact Nat.mul_le_mul_right _ (Nat.le_add_right _ _)
theorem num_hi (l : Txt) (n : Nat) (h : ∀ c ∈ l, digit c = true) : l.foldl (fun n c => n * 10 + (c.toNat - 48)) n < (n + 1) * 10 ^ l.length := by
  induction l generalizing n with
  | nil => simp
  | cons c r ih =>
    rw [List.foldl_cons, List.length_cons, Nat.pow_succ]
    have hc := digit_bd (h c (by simp))
    refine Nat.lt_of_lt_of_le (ih _ (fun x hx => h x (by simp [hx]))) ?_
    rw [Nat.mul_comm (10 ^ r.length) 10, ← Nat.mul_assoc]
    exact Nat.mul_le_mul_right _ (by omega)
theorem kind_num {t : Tok} {r : List Tok} (h : Ended (t :: r)) (hk : t.kind = 2) :
    t.n ≤ 999999999 ∧ (t.n = 0 ↔ t.text = [48]) ∧ (t.n = 1 ↔ t.text = [49]) := by
  rcases h.head with ⟨e, _⟩ | ⟨e, _⟩ | ⟨_, hne, hd, hl, h0, hn⟩ | ⟨e, _⟩
  · omega
  · omega
  · cases ht : t.text with
    | nil => exact absurd ht hne
    | cons c r =>
      rw [ht] at hd hl h0 hn
      have hc := digit_bd (hd c (by simp))
      have hi := num_hi (c :: r) 0 hd
      have hp : (10 : Nat) ^ (c :: r).length ≤ 10 ^ 9 := Nat.pow_le_pow_right (by omega) hl
      have hn' : t.n = (c :: r).foldl (fun n c => n * 10 + (c.toNat - 48)) 0 := hn
      refine ⟨by rw [hn']; omega, ?_, ?_⟩
      · constructor
        · intro h1
          rw [h1] at hn'
          have hlo := num_foldl r (c.toNat - 48)
          rw [List.foldl_cons, Nat.zero_mul, Nat.zero_add] at hn'
          rw [← hn'] at hlo
          have hpos : 0 < 10 ^ r.length := Nat.pow_pos (by omega)
          have hc0 : c.toNat - 48 = 0 := by
            rcases Nat.eq_zero_or_pos (c.toNat - 48) with h | h
            · exact h
            · have := Nat.mul_pos h hpos; omega
          have hcc : c = 48 := UInt8.toNat_inj.1 (by show c.toNat = 48; omega)
          subst hcc
          cases r with
          | nil => rfl
          | cons d r' => exact absurd rfl (h0 (by simp))
        · intro h1
          injection h1 with h1 h2; subst h1; subst h2
          rw [hn']; rfl
      · constructor
        · intro h1
          rw [h1] at hn'
          have hlo := num_foldl r (c.toNat - 48)
          rw [List.foldl_cons, Nat.zero_mul, Nat.zero_add] at hn'
          rw [← hn'] at hlo
          cases r with
          | nil =>
            simp only [List.foldl_nil] at hn'
            have hcc : c = 49 := UInt8.toNat_inj.1 (by show c.toNat = 49; omega)
            rw [hcc]
          | cons d r' =>
            have hne0 : c ≠ 48 := fun e => h0 (by simp) (by rw [e]; rfl)
            have hc1 : 1 ≤ c.toNat - 48 := by
              rcases Nat.eq_zero_or_pos (c.toNat - 48) with h | h
              · exact absurd (UInt8.toNat_inj.1 (by show c.toNat = 48; omega)) hne0
              · exact h
            rw [List.length_cons, Nat.pow_succ] at hlo
            have hpos : 0 < 10 ^ r'.length := Nat.pow_pos (by omega)
            have : 1 * (10 ^ r'.length * 10) ≤ (c.toNat - 48) * (10 ^ r'.length * 10) := Nat.mul_le_mul_right _ hc1
            omega
        · intro h1
          injection h1 with h1 h2; subst h1; subst h2
          rw [hn']; rfl
  · omega
end Go.Proofs.YtkdejinhjdkkmaaDoor

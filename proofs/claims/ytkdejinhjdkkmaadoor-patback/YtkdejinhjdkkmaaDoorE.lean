/- Contracts of Word, the program's and the reference's: they say the same of every text; no condition but that it fits. -/
import Derived.Test.YtkdejinhjdkkmaaDoorD
namespace Go.Proofs.YtkdejinhjdkkmaaDoor
open Go.ChangeShapes Go.WideShapes Go.ChangeAt Go.RowKit

theorem all_in (p : UInt8 → Bool) (l : Txt) : l.all p = true ↔ ∀ j (h : j < l.length), p l[j] = true := by
  rw [List.all_eq_true]
  constructor
  · intro h j hj; exact h _ (List.getElem_mem hj)
  · intro h x hx
    obtain ⟨j, hj, rfl⟩ := List.getElem_of_mem hx
    exact h j hj
theorem word_list (l : Txt) : isWord l = true ↔ ∃ h : 0 < l.length, l.length ≤ 16 ∧ letter l[0] = true ∧ ∀ j (h : j < l.length), inWord l[j] = true := by
  cases l with
  | nil => simp [isWord]
  | cons c r =>
    unfold isWord
    simp only [Bool.and_eq_true, decide_eq_true_eq, List.length_cons, all_in]
    constructor
    · rintro ⟨h1, h2, h3⟩
      refine ⟨by omega, by omega, h1, fun j hj => ?_⟩
      cases j with
      | zero => exact letter_word h1
      | succ j => exact h2 j (by omega)
    · rintro ⟨_, h1, h2, h3⟩
      exact ⟨h2, fun j hj => h3 (j + 1) (by omega), by omega⟩
theorem word_in (s : ByteArray) : isWord s.data.toList = true ↔ ∃ h : 0 < s.size, s.size ≤ 16 ∧ letter s[0] = true ∧ ∀ j (h : j < s.size), inWord s[j] = true := word_list s.data.toList
theorem span_full (p : UInt8 → Bool) (s : ByteArray) : span p s.data.toList = s.size ↔ ∀ j (h : j < s.size), p s[j] = true := by
  have hle : span p s.data.toList ≤ s.size := by have := span_le p s.data.toList; rwa [size_list] at this
  constructor
  · intro e j h
    exact (span_in p s j h).1 (by omega)
  · intro h
    by_cases e : span p s.data.toList = s.size
    · exact e
    · have := (span_in p s (span p s.data.toList) (by omega)).2 rfl
      rw [h _ (by omega)] at this
      cases this
theorem inWord_of {c : UInt8} (h : letter c = true ∨ digit c = true ∨ (c.toNat : Int) = 95) : inWord c = true := by
  unfold inWord
  rcases h with h | h | h
  · simp [h]
  · simp [h]
  · have : c = 95 := UInt8.toNat_inj.1 (by rw [show (95 : UInt8).toNat = 95 from rfl]; omega)
    simp [this]
theorem not_inWord {c : UInt8} (h1 : letter c = false) (h2 : digit c = false) (h3 : ¬ (c.toNat : Int) = 95) : inWord c = false := by
  unfold inWord
  rw [h1, h2]
  have : ¬ c = 95 := by rintro rfl; exact h3 rfl
  simp [this]

theorem empty_of (s : ByteArray) (h : s.size = 0) : s = ⟨#[]⟩ := by
  apply ByteArray.ext
  exact Array.eq_empty_of_size_eq_zero h
theorem toList_ne (s : ByteArray) (h : 0 < s.size) : s.toList ≠ [] := by
  rw [Lib.toList_data]
  intro e
  have := size_list s
  rw [e] at this
  simp at this
  omega
theorem lword (s : ByteArray) (w : World) (hs : s.size ≤ maxLen) : Calls Tryd.prog 54 #[.string s] w fun e w' => e = .returned (.bool (isWord s.data.toList)) ∧ w = w' := by
  have HW := Lib.hid (word_in s)
  have C2 := Lib.hid (span_word s w hs)
  have HF := Lib.hid (span_full inWord s)
  have hle : span inWord s.data.toList ≤ s.size := by have := span_le inWord s.data.toList; rwa [size_list] at this
  unfold maxLen at hs
  by_cases h0 : s.size = 0
  · obtain rfl := empty_of s h0
    clear h0 HW C2 HF hle hs
    rw [show isWord (⟨#[]⟩ : ByteArray).data.toList = false from rfl]
    go_enter Tryd.func54, Tryd.ntmps54
    go_wp2
    go_ret
    exact ⟨rfl, rfl⟩
  · have hp : 0 < s.size := by omega
    have hne := toList_ne s hp
    have hne2 : (!s.toList.isEmpty) = true := by simpa using hne
    have hne3 : s.toList.isEmpty = false := by simpa using hne
    have C1 := lletter s[0] w
    generalize span inWord s.data.toList = m at C2 HF hle
    generalize isWord s.data.toList = b at HW ⊢
    by_cases h16 : s.size ≤ 16
    · have hi : decide ((s.size : Int) ≤ 16) = true := by simp; omega
      cases hl : letter s[0] with
      | false =>
        rw [hl] at C1
        have C1 := Lib.hid C1
        have E : b = false := by
          rw [Bool.eq_false_iff]; intro e
          obtain ⟨_, _, h, _⟩ := HW.out.1 e
          rw [hl] at h; cases h
        subst E
        clear hl
        go_enter Tryd.func54, Tryd.ntmps54
        go_wp2_with (fail)
        refine C1.out.mono ?_
        rintro e w' ⟨rfl, rfl⟩
        go_wp2
        go_ret
        exact ⟨rfl, rfl⟩
      | true =>
        rw [hl] at C1
        have C1 := Lib.hid C1
        have E : Hid (b = decide (m = s.size)) := Lib.hid (by
          rw [Bool.eq_iff_iff, HW.out, decide_eq_true_eq, HF.out]
          exact ⟨fun ⟨_, _, _, h⟩ => h, fun h => ⟨hp, h16, hl, h⟩⟩)
        clear hl
        by_cases hm : m = s.size
        · have hmi : ((m : Int) == (s.size : Int)) = true := by simp; omega
          go_enter Tryd.func54, Tryd.ntmps54
          go_wp2_with (fail)
          refine C1.out.mono ?_
          rintro e w' ⟨rfl, rfl⟩
          go_wp2_with (fail)
          refine C2.out.mono ?_
          rintro e w' ⟨rfl, rfl⟩
          go_wp2
          go_ret
          exact ⟨ret_bool (by rw [E.out]; simp [hm]), rfl⟩
        · go_enter Tryd.func54, Tryd.ntmps54
          go_wp2_with (fail)
          refine C1.out.mono ?_
          rintro e w' ⟨rfl, rfl⟩
          go_wp2_with (fail)
          refine C2.out.mono ?_
          rintro e w' ⟨rfl, rfl⟩
          go_wp2
          go_ret
          exact ⟨ret_bool (by rw [E.out]; simp [hm]; omega), rfl⟩
    · have hi : decide ((s.size : Int) ≤ 16) = false := by simp; omega
      have E : b = false := by
        rw [Bool.eq_false_iff]; intro e
        obtain ⟨_, h, _, _⟩ := HW.out.1 e
        omega
      subst E
      clear C1
      go_enter Tryd.func54, Tryd.ntmps54
      go_wp2
      go_ret
      exact ⟨rfl, rfl⟩

set_option maxHeartbeats 2000000 in
theorem rword (s : ByteArray) (w : World) (hs : s.size ≤ maxLen) : Calls Tryd.prog 48 #[.string s] w fun e w' => e = .returned (.bool (isWord s.data.toList)) ∧ w = w' := by
  have HW := Lib.hid (word_in s)
  unfold maxLen at hs
  generalize isWord s.data.toList = b at HW ⊢
  go_enter Tryd.func48, Tryd.ntmps48
  go_wp2
  go_loop [3] (fun i => ∃ k : Nat, k ≤ s.size ∧ i = .int .i64 k ∧ Hid (∀ j (h : j < s.size), j < k → inWord s[j] = true ∧ (j = 0 → letter s[j] = true))) (fun i => s.size - (intOf i).toNat)
  case atStart => exact ⟨0, Nat.zero_le _, rfl, Lib.hid (fun j h h' => by omega)⟩
  case round =>
    obtain ⟨k, hk, rfl, HE⟩ := hrel
    by_cases hlt : k < s.size
    · have C1 := rletter s[k] w
      have C2 := rdigit s[k] w
      have step : ∀ (_ : inWord s[k] = true ∧ (k = 0 → letter s[k] = true)), Hid (∀ j (h : j < s.size), j < k + 1 → inWord s[j] = true ∧ (j = 0 → letter s[j] = true)) := fun hh => Lib.hid (fun j h h' => by
        by_cases e : j = k
        · subst e; exact hh
        · exact HE.out j h (by omega))
      have STEP := Lib.hid step
      clear step
      cases hl : letter s[k] with
      | true =>
        rw [hl] at C1
        have C1 := Lib.hid C1
        clear C2
        have G := STEP.out ⟨inWord_of (.inl hl), fun _ => hl⟩
        clear hl
        go_wp2_with (fail)
        refine C1.out.mono ?_
        rintro e w' ⟨rfl, rfl⟩
        go_wp2
        go_round
        case rel => exact ⟨k + 1, by omega, by go_num, G⟩
        case measure => simp [intOf]; omega
      | false =>
        rw [hl] at C1
        have C1 := Lib.hid C1
        by_cases hk0 : k = 0
        · subst hk0
          have E : b = false := by
            rw [Bool.eq_false_iff]; intro e
            obtain ⟨_, _, h, _⟩ := HW.out.1 e
            rw [hl] at h; cases h
          subst E
          clear hl C2 STEP
          go_wp2_with (fail)
          refine C1.out.mono ?_
          rintro e w' ⟨rfl, rfl⟩
          go_wp2
          go_ret
          exact ⟨rfl, rfl⟩
        · have hk1 : ((k : Int) == 0) = false := by simp; omega
          cases hd : digit s[k] with
          | true =>
            rw [hd] at C2
            have C2 := Lib.hid C2
            have G := STEP.out ⟨inWord_of (.inr (.inl hd)), fun h => absurd h hk0⟩
            clear hl hd
            go_wp2_with (fail)
            refine C1.out.mono ?_
            rintro e w' ⟨rfl, rfl⟩
            go_wp2_with (fail)
            refine C2.out.mono ?_
            rintro e w' ⟨rfl, rfl⟩
            go_wp2
            go_round
            case rel => exact ⟨k + 1, by omega, by go_num, G⟩
            case measure => simp [intOf]; omega
          | false =>
            rw [hd] at C2
            have C2 := Lib.hid C2
            by_cases h95 : (s[k].toNat : Int) = 95
            · have G := STEP.out ⟨inWord_of (.inr (.inr h95)), fun h => absurd h hk0⟩
              have C1 := Lib.hid (by have := C1.out; rw [h95] at this; exact this)
              have C2 := Lib.hid (by have := C2.out; rw [h95] at this; exact this)
              have h95' : s[k].toNat = 95 := by omega
              clear hl hd
              go_wp2_with (fail)
              refine C1.out.mono ?_
              rintro e w' ⟨rfl, rfl⟩
              go_wp2_with (fail)
              refine C2.out.mono ?_
              rintro e w' ⟨rfl, rfl⟩
              go_wp2
              go_round
              case rel => exact ⟨k + 1, by omega, by go_num, G⟩
              case measure => simp [intOf]; omega
            · have E : b = false := by
                rw [Bool.eq_false_iff]; intro e
                obtain ⟨_, _, _, h⟩ := HW.out.1 e
                have := h k hlt
                rw [not_inWord hl hd h95] at this; cases this
              subst E
              have h95' : ¬ s[k].toNat = 95 := by omega
              clear hl hd STEP
              go_wp2_with (fail)
              refine C1.out.mono ?_
              rintro e w' ⟨rfl, rfl⟩
              go_wp2_with (fail)
              refine C2.out.mono ?_
              rintro e w' ⟨rfl, rfl⟩
              go_wp2
              go_ret
              exact ⟨rfl, rfl⟩
    · by_cases h0 : s.size = 0
      · have E : b = false := by
          rw [Bool.eq_false_iff]; intro e
          obtain ⟨h, _⟩ := HW.out.1 e
          omega
        subst E
        have hi : decide ((1 : Int) ≤ (s.size : Int)) = false := by simp; omega
        have hi2 : decide ((s.size : Int) ≥ (1 : Int)) = false := by simp; omega
        go_wp2
        go_ret
        exact ⟨rfl, rfl⟩
      · have hi : decide ((1 : Int) ≤ (s.size : Int)) = true := by simp; omega
        by_cases h16 : s.size ≤ 16
        · have E : b = true := HW.out.2 ⟨by omega, h16, (HE.out 0 (by omega) (by omega)).2 rfl, fun j h => (HE.out j h (by omega)).1⟩
          subst E
          have hi2 : decide ((s.size : Int) ≤ 16) = true := by simp; omega
          go_wp2
          go_ret
          exact ⟨rfl, rfl⟩
        · have E : b = false := by
            rw [Bool.eq_false_iff]; intro e
            obtain ⟨_, h, _⟩ := HW.out.1 e
            omega
          subst E
          have hi2 : decide ((s.size : Int) ≤ 16) = false := by simp; omega
          go_wp2
          go_ret
          exact ⟨rfl, rfl⟩
end Go.Proofs.YtkdejinhjdkkmaaDoor

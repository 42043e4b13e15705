/- Contracts of number (the program's and the reference's) and of keep's Text and Within; the condition: digits are digits, texts fit. -/
import Derived.Test.YtkdejinhjdkkmaaDoorC
namespace Go.Proofs.YtkdejinhjdkkmaaDoor
open Go.ChangeShapes Go.WideShapes Go.ChangeAt Go.RowKit

theorem ret_str {a b : ByteArray} (h : a = b) : Ending.returned (.string a) = .returned (.string b) := by rw [h]
theorem num_snoc (l : Txt) (c : UInt8) : num (l ++ [c]) = num l * 10 + (c.toNat - 48) := by
  unfold num
  rw [List.foldl_append]
  rfl
theorem take_snoc (s : ByteArray) (k : Nat) (h : k < s.size) : s.data.toList.take (k + 1) = s.data.toList.take k ++ [s[k]] := by
  rw [List.take_succ_eq_append_getElem (by simpa using h)]; rfl
theorem take_all (s : ByteArray) : s.data.toList.take s.size = s.data.toList := List.take_of_length_le (by rw [size_list]; exact Nat.le_refl _)
theorem digit_iff {c : UInt8} : digit c = true ↔ 48 ≤ c.toNat ∧ c.toNat ≤ 57 := by simp [digit]
theorem letter_iff {c : UInt8} : letter c = true ↔ 97 ≤ c.toNat ∧ c.toNat ≤ 122 := by simp [letter]
theorem num_lt (s : ByteArray) (hd : ∀ j (h : j < s.size), digit s[j] = true) : ∀ k, k ≤ s.size → num (s.data.toList.take k) < 10 ^ k
  | 0, _ => by simp [num]
  | k + 1, h => by
    have ih := num_lt s hd k (by omega)
    have := digit_iff.1 (hd k (by omega))
    rw [take_snoc s k (by omega), num_snoc, Nat.pow_succ]
    omega
theorem num_le (s : ByteArray) (hd : ∀ j (h : j < s.size), digit s[j] = true) (h9 : s.size ≤ 9) (k : Nat) (hk : k ≤ s.size) : num (s.data.toList.take k) < 1000000000 := by
  have h1 := num_lt s hd k hk
  have h2 : 10 ^ k ≤ 10 ^ 9 := Nat.pow_le_pow_right (by omega) (by omega)
  have h3 : (10 : Nat) ^ 9 = 1000000000 := rfl
  omega
def okNum (l : Txt) : Bool := decide (l.length ≤ 9) && !(decide (1 < l.length) && l.head? == some 48)

theorem lnumber_no (s : ByteArray) (w : World) (h0 : okNum s.data.toList = false) (hs : s.size ≤ maxLen) :
    Calls Tryd.prog 65 #[.string s] w fun e w' => e = .returned (.tuple #[.int .i64 0, .bool false]) ∧ w = w' := by
  unfold maxLen at hs
  unfold okNum at h0
  rw [size_list] at h0
  by_cases h9 : s.size ≤ 9
  · have h0' : decide (1 < s.size) = true ∧ (s.data.toList.head? == some 48) = true := by
      rw [Bool.and_eq_false_iff] at h0
      rcases h0 with h0 | h0
      · simp at h0; omega
      · rwa [Bool.not_eq_false', Bool.and_eq_true] at h0
    have h1 : 1 < s.size := by simpa using h0'.1
    have hc : s[0] = 48 := by
      have e := h0'.2
      have : s.data.toList.head? = some s[0] := by
        rw [List.head?_eq_getElem?, List.getElem?_eq_getElem (by rw [size_list]; omega)]; rfl
      rw [this] at e
      simpa using e
    have hc' : s[0].toNat = 48 := by rw [hc]; rfl
    clear h0 h0' hc
    go_enter Tryd.func65, Tryd.ntmps65
    go_wp2
    go_ret2
    exact ⟨rfl, rfl⟩
  · clear h0
    go_enter Tryd.func65, Tryd.ntmps65
    go_wp2
    go_ret2
    exact ⟨rfl, rfl⟩

theorem lnumber_yes (s : ByteArray) (w : World) (h0 : okNum s.data.toList = true) (hd : Hid (∀ j (h : j < s.size), digit s[j] = true)) :
    Calls Tryd.prog 65 #[.string s] w fun e w' => e = .returned (.tuple #[.int .i64 (num s.data.toList : Nat), .bool true]) ∧ w = w' := by
  unfold okNum at h0
  rw [size_list, Bool.and_eq_true] at h0
  have h9 : s.size ≤ 9 := by simpa using h0.1
  have hc : ∀ (h : 0 < s.size), s.size ≤ 1 ∨ ¬ (s[0].toNat : Int) = 48 := by
    intro h
    by_cases h1 : s.size ≤ 1
    · exact .inl h1
    · refine .inr fun e => ?_
      have e2 : s[0] = 48 := UInt8.toNat_inj.1 (by rw [show (48 : UInt8).toNat = 48 from rfl]; omega)
      have : s.data.toList.head? = some s[0] := by
        rw [List.head?_eq_getElem?, List.getElem?_eq_getElem (by rw [size_list]; omega)]; rfl
      have h2 := h0.2
      rw [this, e2] at h2
      simp at h2
      omega
  clear h0
  have main : ∀ (_ : s.size ≤ 1 ∨ ∃ h : 1 < s.size, ¬ (s[0].toNat : Int) = 48), Calls Tryd.prog 65 #[.string s] w fun e w' => e = .returned (.tuple #[.int .i64 (num s.data.toList : Nat), .bool true]) ∧ w = w' := by
    clear hc
    have hi9 : decide ((9 : Int) < (s.size : Int)) = false := by simp; omega
    rintro (h1 | ⟨h1, hne⟩)
    rotate_left
    have hi1 : decide ((1 : Int) < (s.size : Int)) = true := by simp; omega
    have hi2 : ((s[0].toNat : Int) == 48) = false := by simpa using hne
    rotate_left
    have hi1 : decide ((1 : Int) < (s.size : Int)) = false := by simp; omega
    all_goals
      go_enter Tryd.func65, Tryd.ntmps65
      go_wp2
      go_loop [2, 4, 20] (fun n _ i => ∃ k : Nat, k ≤ s.size ∧ i = .int .i64 k ∧ n = .int .i64 (num (s.data.toList.take k) : Nat)) (fun _ _ i => s.size - (intOf i).toNat)
      case atStart => exact ⟨0, Nat.zero_le _, rfl, rfl⟩
      case round =>
        obtain ⟨k, hk, rfl, rfl⟩ := hrel
        by_cases hlt : k < s.size
        · have hdk := digit_iff.1 (hd.out k hlt)
          have hb := num_le s hd.out h9 k hk
          have HS : Hid (num (s.data.toList.take (k + 1)) = num (s.data.toList.take k) * 10 + (s[k].toNat - 48)) := Lib.hid (by rw [take_snoc s k hlt, num_snoc])
          have h1 : 48 ≤ (s[k].toNat : Int) := by omega
          have h2 : (s[k].toNat : Int) ≤ 57 := by omega
          have HD := Lib.hid hdk
          clear hdk
          generalize num (s.data.toList.take k) = n at hb HS
          go_wp2
          go_round
          case rel => exact ⟨k + 1, by omega, by go_num, by rw [HS.out]; have := HD.out; congr 1; omega⟩
          case measure => simp [intOf]; omega
        · go_wp2
          go_ret2
          exact ⟨by rw [show k = s.size by omega, take_all]; rfl, rfl⟩
  by_cases h : 1 < s.size
  · exact main (.inr ⟨h, (hc (by omega)).resolve_left (by omega)⟩)
  · exact main (.inl (by omega))

/-- At most n bytes of a text. -/
theorem text_any (s : ByteArray) (n : Nat) (w : World) (hs : s.size ≤ maxLen) (hn : n ≤ 1000) :
    Calls Tryd.prog 26 #[.string s, .int .i64 n] w fun e w' => e = .returned (.string (s.extract 0 (min s.size n))) ∧ w = w' := by
  unfold maxLen at hs
  by_cases h : s.size ≤ n
  · rw [show min s.size n = s.size by omega]
    go_enter Tryd.func26, Tryd.ntmps26
    go_wp2
    go_ret
    exact ⟨ret_str (by rw [show (min (s.size : Int) (n : Int)).toNat = s.size by omega]), rfl⟩
  · rw [show min s.size n = n by omega]
    go_enter Tryd.func26, Tryd.ntmps26
    go_wp2
    go_ret
    exact ⟨ret_str (by rw [show (min (s.size : Int) (n : Int)).toNat = n by omega]), rfl⟩

/-- A number from 0 to n - 1. -/
def Ranges (n : Int) (w : World) (e : Ending) (w' : World) : Prop := ∃ r : Nat, (r : Int) < n ∧ e = .returned (.int .i64 r) ∧ w = w'
theorem within_any (v : Int) (n : Nat) (w : World) (hn : 0 < n) (hm : n ≤ 9223372036854775807) (_h0 : -9223372036854775808 ≤ v) (_h1 : v ≤ 9223372036854775807) :
    Calls Tryd.prog 13 #[.int .i64 v, .int .i64 n] w (Ranges n w) := by
  have hnz : ¬ (n : Int) = 0 := by omega
  have hn1 : ¬ (n : Int) < 1 := by omega
  have hlo : -(n : Int) < v.tmod n := by have := Int.lt_tmod_of_pos v (show (0 : Int) < n by omega); omega
  have hhi : v.tmod n < (n : Int) := Int.tmod_lt_of_pos v (by omega)
  go_enter Tryd.func13, Tryd.ntmps13
  go_wp2
  · go_ret
    exact ⟨(v.tmod n + n).toNat, by omega, ret_int (by omega), rfl⟩
  · go_ret
    exact ⟨(v.tmod n).toNat, by omega, ret_int (by omega), rfl⟩
end Go.Proofs.YtkdejinhjdkkmaaDoor

/- Contracts of the functions that run over a text: the reference's sign, span, number; no condition but that a text fits, that digits are digits. -/
import Derived.Test.YtkdejinhjdkkmaaDoorB
namespace Go.Proofs.YtkdejinhjdkkmaaDoor
open Go.ChangeShapes Go.WideShapes Go.ChangeAt Go.RowKit

theorem ret_int {k : IntKind} {a b : Int} (h : a = b) : Ending.returned (.int k a) = .returned (.int k b) := by rw [h]
theorem ret_bool {a b : Bool} (h : a = b) : Ending.returned (.bool a) = .returned (.bool b) := by rw [h]

theorem span_list (p : UInt8 → Bool) : ∀ (l : Txt) (k : Nat) (h : k < l.length), (k < span p l → p l[k] = true) ∧ (k = span p l → p l[k] = false)
  | [], _, h => by simp at h
  | c :: r, k, h => by
    rw [span_cons]
    cases hp : p c with
    | false =>
      rw [if_neg (by simp)]
      exact ⟨fun h => by omega, fun e => by subst e; exact hp⟩
    | true =>
      rw [if_pos rfl]
      cases k with
      | zero => exact ⟨fun _ => hp, fun e => by omega⟩
      | succ k =>
        have := span_list p r k (by simpa using h)
        exact ⟨fun h => this.1 (by omega), fun e => this.2 (by omega)⟩
theorem size_list (s : ByteArray) : s.data.toList.length = s.size := (Lib.size_eq s).symm
theorem span_in (p : UInt8 → Bool) (s : ByteArray) (k : Nat) (h : k < s.size) : (k < span p s.data.toList → p s[k] = true) ∧ (k = span p s.data.toList → p s[k] = false) :=
  span_list p s.data.toList k (by rw [size_list]; exact h)
theorem span_word (s : ByteArray) (w : World) (hs : s.size ≤ maxLen) :
    Calls Tryd.prog 60 #[.string s, .func (.func 63) #[] #[]] w fun e w' => e = .returned (.int .i64 (span inWord s.data.toList : Nat)) ∧ w = w' := by
  unfold maxLen at hs
  have HS := Lib.hid (fun k (h : k < s.size) => span_in inWord s k h)
  have hm : span inWord s.data.toList ≤ s.size := by have := span_le inWord s.data.toList; rwa [size_list] at this
  generalize span inWord s.data.toList = m at HS hm ⊢
  go_enter Tryd.func60, Tryd.ntmps60
  go_wp2
  go_loop [5] (fun i => ∃ k : Nat, k ≤ m ∧ i = .int .i64 k) (fun i => m - (intOf i).toNat)
  case atStart => exact ⟨0, Nat.zero_le _, rfl⟩
  case round =>
    obtain ⟨k, hk, rfl⟩ := hrel
    by_cases hlt : k < s.size
    · have hS := HS.out k hlt
      have C := linWord s[k] w
      by_cases hjm : k < m
      · have hx := hS.1 hjm
        clear hS
        rw [hx] at C
        have C := Lib.hid C
        clear hx
        go_wp2_with (fail)
        refine C.out.mono ?_
        rintro e w' ⟨rfl, rfl⟩
        go_wp2
        go_round
        case rel => exact ⟨k + 1, by omega, by go_num⟩
        case measure => simp [intOf]; omega
      · have hx := hS.2 (by omega)
        clear hS
        rw [hx] at C
        have C := Lib.hid C
        clear hx
        go_wp2_with (fail)
        refine C.out.mono ?_
        rintro e w' ⟨rfl, rfl⟩
        go_wp2
        go_ret
        exact ⟨ret_int (by omega), rfl⟩
    · go_wp2
      go_ret
      exact ⟨ret_int (by omega), rfl⟩
theorem span_line (s : ByteArray) (w : World) (hs : s.size ≤ maxLen) :
    Calls Tryd.prog 60 #[.string s, .func (.func 61) #[] #[]] w fun e w' => e = .returned (.int .i64 (span inLine s.data.toList : Nat)) ∧ w = w' := by
  unfold maxLen at hs
  have HS := Lib.hid (fun k (h : k < s.size) => span_in inLine s k h)
  have hm : span inLine s.data.toList ≤ s.size := by have := span_le inLine s.data.toList; rwa [size_list] at this
  generalize span inLine s.data.toList = m at HS hm ⊢
  go_enter Tryd.func60, Tryd.ntmps60
  go_wp2
  go_loop [5] (fun i => ∃ k : Nat, k ≤ m ∧ i = .int .i64 k) (fun i => m - (intOf i).toNat)
  case atStart => exact ⟨0, Nat.zero_le _, rfl⟩
  case round =>
    obtain ⟨k, hk, rfl⟩ := hrel
    by_cases hlt : k < s.size
    · have hS := HS.out k hlt
      have C := linLine s[k] w
      by_cases hjm : k < m
      · have hx := hS.1 hjm
        clear hS
        rw [hx] at C
        have C := Lib.hid C
        clear hx
        go_wp2_with (fail)
        refine C.out.mono ?_
        rintro e w' ⟨rfl, rfl⟩
        go_wp2
        go_round
        case rel => exact ⟨k + 1, by omega, by go_num⟩
        case measure => simp [intOf]; omega
      · have hx := hS.2 (by omega)
        clear hS
        rw [hx] at C
        have C := Lib.hid C
        clear hx
        go_wp2_with (fail)
        refine C.out.mono ?_
        rintro e w' ⟨rfl, rfl⟩
        go_wp2
        go_ret
        exact ⟨ret_int (by omega), rfl⟩
    · go_wp2
      go_ret
      exact ⟨ret_int (by omega), rfl⟩
theorem span_digit (s : ByteArray) (w : World) (hs : s.size ≤ maxLen) :
    Calls Tryd.prog 60 #[.string s, .func (.func 64) #[] #[]] w fun e w' => e = .returned (.int .i64 (span digit s.data.toList : Nat)) ∧ w = w' := by
  unfold maxLen at hs
  have HS := Lib.hid (fun k (h : k < s.size) => span_in digit s k h)
  have hm : span digit s.data.toList ≤ s.size := by have := span_le digit s.data.toList; rwa [size_list] at this
  generalize span digit s.data.toList = m at HS hm ⊢
  go_enter Tryd.func60, Tryd.ntmps60
  go_wp2
  go_loop [5] (fun i => ∃ k : Nat, k ≤ m ∧ i = .int .i64 k) (fun i => m - (intOf i).toNat)
  case atStart => exact ⟨0, Nat.zero_le _, rfl⟩
  case round =>
    obtain ⟨k, hk, rfl⟩ := hrel
    by_cases hlt : k < s.size
    · have hS := HS.out k hlt
      have C := ldigit s[k] w
      by_cases hjm : k < m
      · have hx := hS.1 hjm
        clear hS
        rw [hx] at C
        have C := Lib.hid C
        clear hx
        go_wp2_with (fail)
        refine C.out.mono ?_
        rintro e w' ⟨rfl, rfl⟩
        go_wp2
        go_round
        case rel => exact ⟨k + 1, by omega, by go_num⟩
        case measure => simp [intOf]; omega
      · have hx := hS.2 (by omega)
        clear hS
        rw [hx] at C
        have C := Lib.hid C
        clear hx
        go_wp2_with (fail)
        refine C.out.mono ?_
        rintro e w' ⟨rfl, rfl⟩
        go_wp2
        go_ret
        exact ⟨ret_int (by omega), rfl⟩
    · go_wp2
      go_ret
      exact ⟨ret_int (by omega), rfl⟩

theorem sign_at (c : UInt8) : (∀ j, (h : j < 18) → sign c = false → signs[j] ≠ c) ∧ ((∀ j, (h : j < 18) → signs[j] ≠ c) → sign c = false) := by
  constructor
  · intro j h hs e
    have : signs.contains c = true := by rw [List.contains_iff_mem, ← e]; exact List.getElem_mem h
    unfold sign at hs
    rw [this] at hs; cases hs
  · intro h
    unfold sign
    rw [Bool.eq_false_iff]
    intro e
    rw [List.contains_iff_mem] at e
    obtain ⟨j, hj, e⟩ := List.getElem_of_mem e
    exact h j hj e
end Go.Proofs.YtkdejinhjdkkmaaDoor

/- Contracts of the functions that run over a text: the reference's sign, span, number; no condition but that a text fits, that digits are digits. -/
import Derived.Test.YtkdejinhjdkkmaaB
namespace Go.Proofs.Ytkdejinhjdkkmaa
open Go.ChangeShapes Go.WideShapes Go.ChangeAt Go.RowKit

theorem ret_int {k : IntKind} {a b : Int} (h : a = b) : Ending.returned (.int k a) = .returned (.int k b) := by rw [h]
theorem ret_bool {a b : Bool} (h : a = b) : Ending.returned (.bool a) = .returned (.bool b) := by rw [h]

theorem span_list (p : UInt8 → Bool) : ∀ (l : Txt) (k : Nat) (h : k < l.length), (k < span p l → p l[k] = true) ∧ (k = span p l → p l[k] = false)
  | [], _, h => by simp at h
  | c :: r, k, h => by
    rw [span_cons]
    cases hp : p c with
    | false =>
      rw [if_neg (by simp)]
      exact ⟨fun h => by omega, fun e => by subst e; exact hp⟩
    | true =>
      rw [if_pos rfl]
      cases k with
      | zero => exact ⟨fun _ => hp, fun e => by omega⟩
      | succ k =>
        have := span_list p r k (by simpa using h)
        exact ⟨fun h => this.1 (by omega), fun e => this.2 (by omega)⟩
theorem size_list (s : ByteArray) : s.data.toList.length = s.size := (Lib.size_eq s).symm
theorem span_in (p : UInt8 → Bool) (s : ByteArray) (k : Nat) (h : k < s.size) : (k < span p s.data.toList → p s[k] = true) ∧ (k = span p s.data.toList → p s[k] = false) :=
  span_list p s.data.toList k (by rw [size_list]; exact h)
theorem span_word (s : ByteArray) (w : World) (hs : s.size ≤ maxLen) :
    Calls Try.prog 50 #[.string s, .func (.func 53) #[] #[]] w fun e w' => e = .returned (.int .i64 (span inWord s.data.toList : Nat)) ∧ w = w' := by
  unfold maxLen at hs
  have HS := Lib.hid (fun k (h : k < s.size) => span_in inWord s k h)
  have hm : span inWord s.data.toList ≤ s.size := by have := span_le inWord s.data.toList; rwa [size_list] at this
  generalize span inWord s.data.toList = m at HS hm ⊢
  go_enter Try.func50, Try.ntmps50
  go_wp2
  go_loop [5] (fun i => ∃ k : Nat, k ≤ m ∧ i = .int .i64 k) (fun i => m - (intOf i).toNat)
  case atStart => exact ⟨0, Nat.zero_le _, rfl⟩
  case round =>
    obtain ⟨k, hk, rfl⟩ := hrel
    by_cases hlt : k < s.size
    · have hS := HS.out k hlt
      have C := linWord s[k] w
      by_cases hjm : k < m
      · have hx := hS.1 hjm
        clear hS
        rw [hx] at C
        have C := Lib.hid C
        clear hx
        go_wp2_with (fail)
        refine C.out.mono ?_
        rintro e w' ⟨rfl, rfl⟩
        go_wp2
        go_round
        case rel => exact ⟨k + 1, by omega, by go_num⟩
        case measure => simp [intOf]; omega
      · have hx := hS.2 (by omega)
        clear hS
        rw [hx] at C
        have C := Lib.hid C
        clear hx
        go_wp2_with (fail)
        refine C.out.mono ?_
        rintro e w' ⟨rfl, rfl⟩
        go_wp2
        go_ret
        exact ⟨ret_int (by omega), rfl⟩
    · go_wp2
      go_ret
      exact ⟨ret_int (by omega), rfl⟩
theorem span_line (s : ByteArray) (w : World) (hs : s.size ≤ maxLen) :
    Calls Try.prog 50 #[.string s, .func (.func 51) #[] #[]] w fun e w' => e = .returned (.int .i64 (span inLine s.data.toList : Nat)) ∧ w = w' := by
  unfold maxLen at hs
  have HS := Lib.hid (fun k (h : k < s.size) => span_in inLine s k h)
  have hm : span inLine s.data.toList ≤ s.size := by have := span_le inLine s.data.toList; rwa [size_list] at this
  generalize span inLine s.data.toList = m at HS hm ⊢
  go_enter Try.func50, Try.ntmps50
  go_wp2
  go_loop [5] (fun i => ∃ k : Nat, k ≤ m ∧ i = .int .i64 k) (fun i => m - (intOf i).toNat)
  case atStart => exact ⟨0, Nat.zero_le _, rfl⟩
  case round =>
    obtain ⟨k, hk, rfl⟩ := hrel
    by_cases hlt : k < s.size
    · have hS := HS.out k hlt
      have C := linLine s[k] w
      by_cases hjm : k < m
      · have hx := hS.1 hjm
        clear hS
        rw [hx] at C
        have C := Lib.hid C
        clear hx
        go_wp2_with (fail)
        refine C.out.mono ?_
        rintro e w' ⟨rfl, rfl⟩
        go_wp2
        go_round
        case rel => exact ⟨k + 1, by omega, by go_num⟩
        case measure => simp [intOf]; omega
      · have hx := hS.2 (by omega)
        clear hS
        rw [hx] at C
        have C := Lib.hid C
        clear hx
        go_wp2_with (fail)
        refine C.out.mono ?_
        rintro e w' ⟨rfl, rfl⟩
        go_wp2
        go_ret
        exact ⟨ret_int (by omega), rfl⟩
    · go_wp2
      go_ret
      exact ⟨ret_int (by omega), rfl⟩
theorem span_digit (s : ByteArray) (w : World) (hs : s.size ≤ maxLen) :
    Calls Try.prog 50 #[.string s, .func (.func 55) #[] #[]] w fun e w' => e = .returned (.int .i64 (span digit s.data.toList : Nat)) ∧ w = w' := by
  unfold maxLen at hs
  have HS := Lib.hid (fun k (h : k < s.size) => span_in digit s k h)
  have hm : span digit s.data.toList ≤ s.size := by have := span_le digit s.data.toList; rwa [size_list] at this
  generalize span digit s.data.toList = m at HS hm ⊢
  go_enter Try.func50, Try.ntmps50
  go_wp2
  go_loop [5] (fun i => ∃ k : Nat, k ≤ m ∧ i = .int .i64 k) (fun i => m - (intOf i).toNat)
  case atStart => exact ⟨0, Nat.zero_le _, rfl⟩
  case round =>
    obtain ⟨k, hk, rfl⟩ := hrel
    by_cases hlt : k < s.size
    · have hS := HS.out k hlt
      have C := ldigit s[k] w
      by_cases hjm : k < m
      · have hx := hS.1 hjm
        clear hS
        rw [hx] at C
        have C := Lib.hid C
        clear hx
        go_wp2_with (fail)
        refine C.out.mono ?_
        rintro e w' ⟨rfl, rfl⟩
        go_wp2
        go_round
        case rel => exact ⟨k + 1, by omega, by go_num⟩
        case measure => simp [intOf]; omega
      · have hx := hS.2 (by omega)
        clear hS
        rw [hx] at C
        have C := Lib.hid C
        clear hx
        go_wp2_with (fail)
        refine C.out.mono ?_
        rintro e w' ⟨rfl, rfl⟩
        go_wp2
        go_ret
        exact ⟨ret_int (by omega), rfl⟩
    · go_wp2
      go_ret
      exact ⟨ret_int (by omega), rfl⟩

theorem sign_at (c : UInt8) : (∀ j, (h : j < 18) → sign c = false → signs[j] ≠ c) ∧ ((∀ j, (h : j < 18) → signs[j] ≠ c) → sign c = false) := by
  constructor
  · intro j h hs e
    have : signs.contains c = true := by rw [List.contains_iff_mem, ← e]; exact List.getElem_mem h
    unfold sign at hs
    rw [this] at hs; cases hs
  · intro h
    unfold sign
    rw [Bool.eq_false_iff]
    intro e
    rw [List.contains_iff_mem] at e
    obtain ⟨j, hj, e⟩ := List.getElem_of_mem e
    exact h j hj e
theorem rsign (c : UInt8) (w : World) : Calls Try.prog 63 #[.int .u8 (c.toNat : Int)] w fun e w' => e = .returned (.bool (sign c)) ∧ w = w' := by
  have hx : (c.toNat : Int) < 256 := by have := c.toNat_lt; omega
  have hx0 : 0 ≤ (c.toNat : Int) := by omega
  obtain ⟨s, hs⟩ : ∃ s : ByteArray, s = ⟨#[40, 41, 123, 125, 91, 93, 44, 59, 58, 61, 46, 43, 45, 42, 60, 94, 33, 63]⟩ := ⟨_, rfl⟩
  have hz : s.size = 18 := by rw [hs]; rfl
  have hg : ∀ j (h : j < s.size) (h' : j < 18), s[j] = signs[j] := by subst hs; intro j h h'; rfl
  have HA : Hid ((∀ j (h : j < s.size), (s[j].toNat : Int) = (c.toNat : Int) → sign c = true) ∧ ((∀ j (h : j < s.size), ¬ (s[j].toNat : Int) = (c.toNat : Int)) → sign c = false)) := Lib.hid (by
    have hA := sign_at c
    constructor
    · intro j h e
      cases hb : sign c with
      | true => rfl
      | false => exact absurd ((hg j h (by omega)).symm.trans (UInt8.toNat_inj.1 (by omega))) (hA.1 j (by omega) hb)
    · intro h
      exact hA.2 (fun j h' e => h j (by omega) (by rw [hg j (by omega) h', e])))
  generalize sign c = b at HA ⊢
  generalize (c.toNat : Int) = x at HA hx hx0 ⊢
  go_enter Try.func63, Try.ntmps63
  go_wp2
  rw [← hs]
  have HZ := Lib.hid hz
  have hz' : s.size ≤ 18 := by omega
  clear hs hz hg
  go_loop [4] (fun i => ∃ k : Nat, k ≤ s.size ∧ i = .int .i64 k ∧ Hid (∀ j (h : j < s.size), j < k → ¬ (s[j].toNat : Int) = x)) (fun i => s.size - (intOf i).toNat)
  case atStart => exact ⟨0, Nat.zero_le _, rfl, Lib.hid (fun j h h' => by omega)⟩
  case round =>
    obtain ⟨k, hk, rfl, HE⟩ := hrel
    by_cases hlt : k < s.size
    · by_cases he : (s[k].toNat : Int) = x
      · have HT := HA.out.1 k hlt he
        subst HT
        subst he
        go_wp2
        go_ret
        exact ⟨rfl, rfl⟩
      · have HK := Lib.hid he
        go_wp2
        go_round
        case rel => exact ⟨k + 1, by omega, by go_num, Lib.hid (fun j h h' => by
          by_cases e : j = k
          · subst e; exact HK.out
          · exact HE.out j h (by omega))⟩
        case measure => simp [intOf]; omega
    · have HT := HA.out.2 (fun j h => HE.out j h (by omega))
      subst HT
      go_wp2
      go_ret
      exact ⟨rfl, rfl⟩
end Go.Proofs.Ytkdejinhjdkkmaa

/- Contracts of the functions of single bytes: letter, digit, sign, inWord, inLine, of the program and of the reference; no condition. -/
import Derived.Test.YtkdejinhjdkkmaaDoorA
import Derived.Laws.Cover1
namespace Go.Proofs.YtkdejinhjdkkmaaDoor
open Go.ChangeShapes Go.WideShapes Go.ChangeAt Go.RowKit

theorem byte_cast (c : UInt8) (n : Nat) : (n ≤ c.toNat ↔ (n : Int) ≤ (c.toNat : Int)) ∧ (c.toNat ≤ n ↔ (c.toNat : Int) ≤ (n : Int)) ∧ (c.toNat = n ↔ (c.toNat : Int) = (n : Int)) := by omega
theorem lletter (c : UInt8) (w : World) : Calls Tryd.prog 62 #[.int .u8 (c.toNat : Int)] w fun e w' => e = .returned (.bool (letter c)) ∧ w = w' := by
  have E := Lib.hid (show letter c = (decide ((97 : Int) ≤ (c.toNat : Int)) && decide ((c.toNat : Int) ≤ (122 : Int))) by
    unfold letter; rw [Bool.eq_iff_iff]; simp only [Bool.and_eq_true, decide_eq_true_eq]; omega)
  have hx : (c.toNat : Int) < 256 := by have := c.toNat_lt; omega
  have hx0 : 0 ≤ (c.toNat : Int) := by omega
  generalize letter c = b at E ⊢
  generalize (c.toNat : Int) = x at E hx hx0 ⊢
  by_cases h1 : 97 ≤ x <;> by_cases h2 : x ≤ 122
  all_goals
    go_enter Tryd.func62, Tryd.ntmps62
    go_wp2
    go_ret
    exact ⟨by rw [E.out]; simp [h1, h2], rfl⟩
theorem ldigit (c : UInt8) (w : World) : Calls Tryd.prog 64 #[.int .u8 (c.toNat : Int)] w fun e w' => e = .returned (.bool (digit c)) ∧ w = w' := by
  have E := Lib.hid (show digit c = (decide ((48 : Int) ≤ (c.toNat : Int)) && decide ((c.toNat : Int) ≤ (57 : Int))) by
    unfold digit; rw [Bool.eq_iff_iff]; simp only [Bool.and_eq_true, decide_eq_true_eq]; omega)
  have hx : (c.toNat : Int) < 256 := by have := c.toNat_lt; omega
  have hx0 : 0 ≤ (c.toNat : Int) := by omega
  generalize digit c = b at E ⊢
  generalize (c.toNat : Int) = x at E hx hx0 ⊢
  by_cases h1 : 48 ≤ x <;> by_cases h2 : x ≤ 57
  all_goals
    go_enter Tryd.func64, Tryd.ntmps64
    go_wp2
    go_ret
    exact ⟨by rw [E.out]; simp [h1, h2], rfl⟩
theorem rletter (c : UInt8) (w : World) : Calls Tryd.prog 70 #[.int .u8 (c.toNat : Int)] w fun e w' => e = .returned (.bool (letter c)) ∧ w = w' := by
  have E := Lib.hid (show letter c = (decide ((97 : Int) ≤ (c.toNat : Int)) && decide ((c.toNat : Int) ≤ (122 : Int))) by
    unfold letter; rw [Bool.eq_iff_iff]; simp only [Bool.and_eq_true, decide_eq_true_eq]; omega)
  have hx : (c.toNat : Int) < 256 := by have := c.toNat_lt; omega
  have hx0 : 0 ≤ (c.toNat : Int) := by omega
  generalize letter c = b at E ⊢
  generalize (c.toNat : Int) = x at E hx hx0 ⊢
  by_cases h1 : 97 ≤ x <;> by_cases h2 : x ≤ 122
  all_goals
    go_enter Tryd.func70, Tryd.ntmps70
    go_wp2
    go_ret
    exact ⟨by rw [E.out]; simp [h1, h2], rfl⟩
theorem rdigit (c : UInt8) (w : World) : Calls Tryd.prog 71 #[.int .u8 (c.toNat : Int)] w fun e w' => e = .returned (.bool (digit c)) ∧ w = w' := by
  have E := Lib.hid (show digit c = (decide ((48 : Int) ≤ (c.toNat : Int)) && decide ((c.toNat : Int) ≤ (57 : Int))) by
    unfold digit; rw [Bool.eq_iff_iff]; simp only [Bool.and_eq_true, decide_eq_true_eq]; omega)
  have hx : (c.toNat : Int) < 256 := by have := c.toNat_lt; omega
  have hx0 : 0 ≤ (c.toNat : Int) := by omega
  generalize digit c = b at E ⊢
  generalize (c.toNat : Int) = x at E hx hx0 ⊢
  by_cases h1 : 48 ≤ x <;> by_cases h2 : x ≤ 57
  all_goals
    go_enter Tryd.func71, Tryd.ntmps71
    go_wp2
    go_ret
    exact ⟨by rw [E.out]; simp [h1, h2], rfl⟩
theorem linWord (c : UInt8) (w : World) : Calls Tryd.prog 63 #[.int .u8 (c.toNat : Int)] w fun e w' => e = .returned (.bool (inWord c)) ∧ w = w' := by
  have C1 := lletter c w
  have C2 := ldigit c w
  have hu : (c == 95) = decide ((c.toNat : Int) = 95) := by
    rw [Bool.eq_iff_iff]; simp only [beq_iff_eq, decide_eq_true_eq, ← UInt8.toNat_inj]
    rw [show (95 : UInt8).toNat = 95 from rfl]; omega
  have E := Lib.hid (show inWord c = (letter c || (digit c || decide ((c.toNat : Int) = 95))) by rw [← hu]; rfl)
  clear hu
  have hx : (c.toNat : Int) < 256 := by have := c.toNat_lt; omega
  have hx0 : 0 ≤ (c.toNat : Int) := by omega
  generalize inWord c = b at E ⊢
  generalize letter c = b1 at E C1
  generalize digit c = b2 at E C2
  generalize (c.toNat : Int) = x at E hx hx0 C1 C2 ⊢
  have C1 := Lib.hid C1
  have C2 := Lib.hid C2
  cases b1
  · cases b2
    · go_enter Tryd.func63, Tryd.ntmps63
      go_wp2_with (fail)
      refine C1.out.mono ?_
      rintro e w' ⟨rfl, rfl⟩
      go_wp2_with (fail)
      refine C2.out.mono ?_
      rintro e w' ⟨rfl, rfl⟩
      go_wp2
      go_ret
      exact ⟨by rw [E.out]; simp only [Bool.false_or]; rfl, rfl⟩
    · go_enter Tryd.func63, Tryd.ntmps63
      go_wp2_with (fail)
      refine C1.out.mono ?_
      rintro e w' ⟨rfl, rfl⟩
      go_wp2_with (fail)
      refine C2.out.mono ?_
      rintro e w' ⟨rfl, rfl⟩
      go_wp2
      go_ret
      exact ⟨by rw [E.out]; rfl, rfl⟩
  · go_enter Tryd.func63, Tryd.ntmps63
    go_wp2_with (fail)
    refine C1.out.mono ?_
    rintro e w' ⟨rfl, rfl⟩
    go_wp2
    go_ret
    exact ⟨by rw [E.out]; rfl, rfl⟩
theorem linLine (c : UInt8) (w : World) : Calls Tryd.prog 61 #[.int .u8 (c.toNat : Int)] w fun e w' => e = .returned (.bool (inLine c)) ∧ w = w' := by
  have hu : inLine c = !(decide ((c.toNat : Int) = 10)) := by
    unfold inLine; rw [Bool.eq_iff_iff]; simp only [bne_iff_ne, ne_eq, Bool.not_eq_true', decide_eq_false_iff_not, ← UInt8.toNat_inj]
    rw [show (10 : UInt8).toNat = 10 from rfl]; omega
  have E := Lib.hid hu
  clear hu
  have hx : (c.toNat : Int) < 256 := by have := c.toNat_lt; omega
  have hx0 : 0 ≤ (c.toNat : Int) := by omega
  generalize inLine c = b at E ⊢
  generalize (c.toNat : Int) = x at E hx hx0 ⊢
  by_cases h3 : x = 10
  all_goals
    go_enter Tryd.func61, Tryd.ntmps61
    go_wp2
    go_ret
    exact ⟨by rw [E.out]; simp [h3], rfl⟩
theorem index_sign (c : UInt8) : ∀ l : List UInt8, (0 ≤ Lib.indexByte l c ↔ l.contains c = true) ∧ -1 ≤ Lib.indexByte l c ∧ Lib.indexByte l c < l.length + 1
  | [] => by simp [Lib.indexByte]
  | b :: l => by
    have ih := index_sign c l
    obtain ⟨h1, h2, h3⟩ := ih
    unfold Lib.indexByte
    by_cases e : b = c
    · subst e; simp; omega
    · have e' : (c == b) = false := by simp; exact fun h => e h.symm
      simp only [beq_iff_eq, e, if_false, List.contains_cons, e', Bool.false_or, List.length_cons]
      by_cases k : Lib.indexByte l c = -1
      · rw [if_pos k]
        rw [k] at h1
        refine ⟨h1, by omega, by omega⟩
      · rw [if_neg k]
        refine ⟨by rw [← h1]; omega, by omega, by omega⟩
theorem lsign (c : UInt8) (w : World) : Calls Tryd.prog 66 #[.int .u8 (c.toNat : Int)] w fun e w' => e = .returned (.bool (sign c)) ∧ w = w' := by
  have C1 := Tryd.strings_IndexByte ⟨#[40, 41, 123, 125, 91, 93, 44, 59, 58, 61, 46, 43, 45, 42, 60, 94, 33, 63]⟩ (c.toNat : Int) w
  obtain ⟨h1, h2, h3⟩ := index_sign c signs
  rw [show (⟨#[40, 41, 123, 125, 91, 93, 44, 59, 58, 61, 46, 43, 45, 42, 60, 94, 33, 63]⟩ : ByteArray).data.toList = signs from rfl, show ((c.toNat : Int).toNat.toUInt8) = c by simp] at C1
  have E := Lib.hid (show sign c = decide (0 ≤ Lib.indexByte signs c) by unfold sign; rw [Bool.eq_iff_iff]; simp [h1])
  clear h1
  have h3' : Lib.indexByte signs c < 19 := h3
  clear h3
  have hx : (c.toNat : Int) < 256 := by have := c.toNat_lt; omega
  have hx0 : 0 ≤ (c.toNat : Int) := by omega
  generalize Lib.indexByte signs c = y at E C1 h2 h3'
  generalize sign c = b at E ⊢
  generalize (c.toNat : Int) = x at hx hx0 C1 ⊢
  by_cases h0 : 0 ≤ y
  all_goals
    go_enter Tryd.func66, Tryd.ntmps66
    go_wp2_with (fail)
    refine C1.mono ?_
    rintro e w' ⟨rfl, rfl⟩
    go_wp2
    go_ret
    exact ⟨by rw [E.out]; simp [h0], rfl⟩
end Go.Proofs.YtkdejinhjdkkmaaDoor

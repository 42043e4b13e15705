/- Contracts of columbarykeep.Within (what it says), columbaryplay.Names and the law's wakes; no condition. -/
import Derived.Test.YtkdejinhjdkkmaaDoorRg
namespace Go.Proofs.YtkdejinhjdkkmaaDoor
open Go.ChangeShapes Go.WideShapes Go.ChangeAt Go.RowKit Go.Maps

def namesL : List Txt := [[97], [98], [99, 49], [100, 95, 120]]
theorem names_any (w : World) : Calls Tryd.prog 5 #[] w (MakesStr namesL w) := by
  go_enter Tryd.func5, Tryd.ntmps5
  go_wp2
  go_ret
  exact ⟨w.heap.size, rfl, Lies.new w 9 (strs namesL), (Below.refl _ _).alloc (Nat.le_refl _) _⟩
theorem strs_of {w : World} {g : Nat} {ls : List Txt} (h : Lies w g 9 (strs ls)) : Strs w (some ⟨g, 0, none⟩) ls := .inr ⟨g, [], rfl, by rw [List.append_nil]; exact h⟩
theorem within_mod (v : Int) (n : Nat) (w : World) (hn : 0 < n) (hm : n ≤ 9223372036854775807) (_h0 : -9223372036854775808 ≤ v) (_h1 : v ≤ 9223372036854775807) :
    Calls Tryd.prog 13 #[.int .i64 v, .int .i64 n] w fun e w' => e = .returned (.int .i64 (v % (n : Int))) ∧ w = w' := by
  have hnz : ¬ (n : Int) = 0 := by omega
  have hn1 : ¬ (n : Int) < 1 := by omega
  have hlo : -(n : Int) < v.tmod n := by have := Int.lt_tmod_of_pos v (show (0 : Int) < n by omega); omega
  have hhi : v.tmod n < (n : Int) := Int.tmod_lt_of_pos v (by omega)
  have HE : Hid (v % (n : Int) = if v.tmod n < 0 then v.tmod n + n else v.tmod n) := Lib.hid (by
    have h1 := Int.tmod_add_mul_tdiv v n
    have h2 := Int.emod_nonneg v (b := (n : Int)) (by omega)
    have h3 := Int.emod_lt_of_pos v (b := (n : Int)) (by omega)
    by_cases h : v.tmod n < 0
    · rw [if_pos h]
      have e : v = (v.tmod n + n) + (n : Int) * (v.tdiv n - 1) := by rw [Int.mul_sub]; omega
      have : v % (n : Int) = (v.tmod n + n) % (n : Int) := by conv => lhs; rw [e, Int.add_mul_emod_self_left]
      rw [this, Int.emod_eq_of_lt (by omega) (by omega)]
    · rw [if_neg h]
      have e : v = v.tmod n + (n : Int) * v.tdiv n := by omega
      have : v % (n : Int) = (v.tmod n) % (n : Int) := by conv => lhs; rw [e, Int.add_mul_emod_self_left]
      rw [this, Int.emod_eq_of_lt (by omega) (by omega)])
  generalize v % (n : Int) = z at HE ⊢
  go_enter Tryd.func13, Tryd.ntmps13
  go_wp2
  · go_ret
    exact ⟨ret_int (by rw [HE.out, if_pos ‹_›]), rfl⟩
  · go_ret
    exact ⟨ret_int (by rw [HE.out, if_neg (by omega)]), rfl⟩

def wakeT : Txt := [42, 40, 97, 32, 43, 32, 98, 41]
theorem wake_e : (parseT keysL [[97], [98]] wakeT).1 = 0 := by kernel_rfl
theorem wake_n : (parseT keysL [[97], [98]] wakeT).2.length = 4 := by kernel_rfl
theorem parse_lit (l : Txt) (nm : List Txt) (a : Option Addr) (c : Nat) (w : World) (hl : l.length ≤ 1000000) (S : Strs w a nm) (hn : nm.length ≤ 1000000) (hx : ∀ x ∈ nm, x.length ≤ maxLen) :
    Calls Tryd.prog 8 #[.string (str l), .slice a nm.length c] w (Parses (parseT keysL nm l) w) := parse_any (str l) nm a c w (by rw [str_size]; unfold maxLen; omega) S hn hx
set_option maxRecDepth 100000 in
theorem wakes_any (w : World) : Calls Tryd.prog 11 #[] w (True_ w) := by
  have C := parse_lit wakeT [[97], [98]] (some ⟨w.heap.size, 0, none⟩) 2 _ (by decide) (strs_of (Lies.new w 9 (strs [[97], [98]]))) (by decide) (by unfold maxLen; decide)
  have HN := Lib.hid wake_n
  have HE := Lib.hid wake_e
  generalize parseT keysL [[97], [98]] wakeT = r at C HN HE
  have C := Lib.hid C
  go_enter Tryd.func11, Tryd.ntmps11
  go_wp2_with (fail)
  refine C.out.mono ?_
  rintro e w' ⟨a, c, rfl, T, o, b⟩
  rw [HN.out, HE.out]
  have HB : Hid (Below w.heap.size w w') := Lib.hid (((Below.refl _ _).alloc (Nat.le_refl _) _).trans (b.mono (by simp)))
  clear T o b
  go_wp2
  go_ret
  exact ⟨rfl, HB.out⟩
end Go.Proofs.YtkdejinhjdkkmaaDoor

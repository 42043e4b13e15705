/- Contracts of the rows of words: keys and words, and of Key, the program's and the reference's: they say the same of every text; no condition. -/
import Derived.Test.YtkdejinhjdkkmaaDoorD
namespace Go.Proofs.YtkdejinhjdkkmaaDoor
open Go.ChangeShapes Go.WideShapes Go.ChangeAt Go.RowKit

def keysL : List Txt := [[109, 115, 103], [114, 101, 99], [100, 101, 102], [97, 99, 116, 111, 114], [111, 110], [108, 101, 116], [110, 101, 119], [115, 116, 97, 114, 116], [103, 101, 116], [115, 101, 116], [115, 119, 97, 112], [114, 101, 99, 111, 118, 101, 114], [103, 105, 118, 101], [108, 111, 111, 112], [115, 112, 97, 119, 110], [99, 97, 108, 108], [97, 103, 97, 105, 110], [103, 117, 97, 114, 100], [102, 114, 101, 101], [97, 115], [105, 102], [101, 108, 115, 101], [100, 111, 110, 101], [109, 111, 118, 101], [105, 110, 116], [97, 114, 114], [105, 115, 111], [118, 97, 108], [114, 101, 102], [116, 97, 103]]
def isKey (l : Txt) : Bool := keysL.contains l
def str (l : Txt) : ByteArray := ⟨l.toArray⟩
def strs (ls : List Txt) : List Value := ls.map (fun l => .string (str l))
theorem str_list (s : ByteArray) : str s.data.toList = s := Lib.mk_data s
theorem str_data (l : Txt) : (str l).data.toList = l := rfl
theorem str_size (l : Txt) : (str l).size = l.length := by rw [← size_list]; rfl
theorem strs_len (ls : List Txt) : (strs ls).length = ls.length := List.length_map ..
theorem strs_get {ls : List Txt} {k : Nat} (hk : k < ls.length) (h : k < (strs ls).length) : (strs ls)[k] = .string (str ls[k]) := by simp [strs]

/-- What a call that makes a row of texts comes to. -/
def MakesStr (ls : List Txt) (w : World) (e : Ending) (w' : World) : Prop :=
  ∃ g, e = .returned (.slice (some ⟨g, 0, none⟩) ls.length ls.length) ∧ Lies w' g 9 (strs ls) ∧ Below w.heap.size w w'
theorem there_str {w : World} {g : Nat} {ls : List Txt} (h : Lies w g 9 (strs ls)) {k : Nat} (hk : k < ls.length) : w.cell? ⟨g, k, none⟩ = some (.string (str ls[k])) := by
  rw [h.cell, List.getElem?_eq_getElem (by rw [strs_len]; exact hk), strs_get hk]

set_option maxRecDepth 100000 in
theorem keys_any (w : World) : Calls Tryd.prog 72 #[] w (MakesStr keysL w) := by
  go_enter Tryd.func72, Tryd.ntmps72
  go_wp2
  go_ret
  exact ⟨w.heap.size, rfl, Lies.new w 9 (strs keysL), (Below.refl _ _).alloc (Nat.le_refl _) _⟩
set_option maxRecDepth 100000 in
theorem key_at (l : Txt) : (∀ j (h : j < keysL.length), l = keysL[j] → isKey l = true) ∧ ((∀ j (h : j < keysL.length), ¬ l = keysL[j]) → isKey l = false) := by
  constructor
  · intro j h e
    unfold isKey
    rw [List.contains_iff_mem, e]
    exact List.getElem_mem h
  · intro h
    unfold isKey
    rw [Bool.eq_false_iff]
    intro e
    rw [List.contains_iff_mem] at e
    obtain ⟨j, hj, e⟩ := List.getElem_of_mem e
    exact h j hj e.symm
theorem str_eq (s : ByteArray) (l : Txt) : (s.toList == (str l).toList) = decide (s.data.toList = l) := by
  rw [Lib.toList_data, Lib.toList_data, Bool.eq_iff_iff]
  simp [str_data]
theorem rkey (s : ByteArray) (w : World) : Calls Tryd.prog 49 #[.string s] w fun e w' => e = .returned (.bool (isKey s.data.toList)) ∧ Below w.heap.size w w' := by
  have HA := Lib.hid (key_at s.data.toList)
  have HQ := Lib.hid (fun l => str_eq s l)
  generalize isKey s.data.toList = b at HA ⊢
  go_enter Tryd.func49, Tryd.ntmps49
  go_wp2_with (fail)
  refine (keys_any _).mono ?_
  rintro e w1 ⟨g, rfl, hl, bel⟩
  obtain ⟨n, hn⟩ : ∃ n, n = keysL.length := ⟨_, rfl⟩
  have hn30 : n ≤ 30 := by rw [hn]; decide
  rw [← hn]
  have HN := Lib.hid hn
  have HL := Lib.hid hl
  have HB := Lib.hid bel
  clear hn hl bel
  go_wp2
  go_loop [4, 7] (fun _ i => ∃ k : Nat, k ≤ n ∧ i = .int .i64 k ∧ Hid (∀ j (h : j < keysL.length), j < k → ¬ s.data.toList = keysL[j])) (fun _ i => n - (intOf i).toNat)
  case atStart => exact ⟨0, Nat.zero_le _, rfl, Lib.hid (fun j h h' => by omega)⟩
  case round =>
    obtain ⟨k, hk, rfl, HE⟩ := hrel
    by_cases hlt : k < n
    · have hlt' : k < keysL.length := by rw [← HN.out]; exact hlt
      have hc := there_str HL.out hlt'
      by_cases he : s.data.toList = keysL[k]
      · have E : b = true := HA.out.1 k hlt' he
        subst E
        have hq : (s.toList == (str keysL[k]).toList) = true := by rw [HQ.out]; simpa using he
        clear he
        generalize str keysL[k] = y at hq hc
        go_wp2
        go_ret
        exact ⟨rfl, HB.out⟩
      · have HK := Lib.hid he
        have hq : (s.toList == (str keysL[k]).toList) = false := by rw [HQ.out]; simpa using he
        clear he
        generalize str keysL[k] = y at hq hc
        go_wp2
        go_round
        case rel => exact ⟨k + 1, by omega, by go_num, Lib.hid (fun j h h' => by
          by_cases e : j = k
          · subst e; exact HK.out
          · exact HE.out j h (by omega))⟩
        case measure => simp [intOf]; omega
    · have E : b = false := HA.out.2 (fun j h => HE.out j h (by have := HN.out; omega))
      subst E
      go_wp2
      go_ret
      exact ⟨rfl, HB.out⟩
end Go.Proofs.YtkdejinhjdkkmaaDoor

/- The program's noughts and the reference's zero: are all its numbers 0? The program's norm. -/
import Derived.Test.YtmbkiefbchjofaaBa
namespace Go.Proofs.Ytmbkiefbchjofaa
open Go.ChangeShapes Go.WideShapes Go.ChangeAt Go.RowKit

/-- Are all 0? -/
def zeroL (xs : List Int) : Bool := xs.all (fun n => decide (n = 0))
theorem zero_bad {xs : List Int} {k : Nat} (hk : k < xs.length) (h : xs.getD k 0 ≠ 0) : zeroL xs = false := by
  rw [← Bool.not_eq_true]
  intro e
  have := List.all_eq_true.1 e (xs[k]) (List.getElem_mem hk)
  rw [getD_at hk] at h
  exact h (by simpa using this)
theorem zero_all {xs : List Int} (h : ∀ j, j < xs.length → xs.getD j 0 = 0) : zeroL xs = true := by
  refine List.all_eq_true.2 fun n hn => ?_
  obtain ⟨j, hj, rfl⟩ := List.getElem_of_mem hn
  have := h j hj
  rw [getD_at hj] at this
  simpa using this
theorem lost_eq (xs : List Int) : lostL xs = ((normL xs).isEmpty && !zeroL xs) := by
  unfold lostL zeroL
  congr 1
  rw [Bool.eq_iff_iff]
  simp
theorem noughts_any (a : Option Addr) (c : Nat) (xs : List Int) (w : World) (R : Bag w a c xs) :
    Calls Try.prog 51 #[.slice a xs.length c] w fun e w' => e = .returned (.bool (zeroL xs)) ∧ w = w' := by
  have hle := R.le
  obtain ⟨n, hn⟩ : ∃ n, n = xs.length := ⟨_, rfl⟩
  rw [← hn] at hle ⊢
  have HN := Lib.hid hn.symm
  have HR := Lib.hid R
  clear hn R
  go_enter Try.func51, Try.ntmps51
  go_wp2
  go_loop [7] (fun i => ∃ k : Nat, k ≤ n ∧ i = .int .i64 k ∧ Hid (∀ j, j < k → xs.getD j 0 = 0)) (fun i => n - (intOf i).toNat)
  case atStart => exact ⟨0, Nat.zero_le _, rfl, Lib.hid (fun j h => by omega)⟩
  case round =>
    obtain ⟨k, hk, rfl, HE⟩ := hrel
    by_cases hlt : k < n
    · obtain ⟨g, rfl, hc⟩ := HR.out.at (k := k) (by rw [HN.out]; exact hlt)
      by_cases h0 : xs.getD k 0 = 0
      · have HK := Lib.hid h0
        rw [h0] at hc
        clear h0
        go_wp2
        go_round
        case rel => exact ⟨k + 1, by omega, by go_num, Lib.hid (fun j hj => by
          by_cases e : j = k
          · rw [e]; exact HK.out
          · exact HE.out j (by omega))⟩
        case measure => simp [intOf]; omega
      · have HK := Lib.hid (zero_bad (by rw [HN.out]; exact hlt) h0)
        generalize xs.getD k 0 = z at hc h0
        go_wp2
        go_ret
        exact ⟨by rw [HK.out]; rfl, rfl⟩
    · go_wp2
      go_ret
      exact ⟨by rw [zero_all (fun j hj => HE.out j (by rw [HN.out] at hj; omega))]; rfl, rfl⟩
theorem zero_any (a : Option Addr) (c : Nat) (xs : List Int) (w : World) (R : Bag w a c xs) :
    Calls Try.prog 36 #[.slice a xs.length c] w fun e w' => e = .returned (.bool (zeroL xs)) ∧ w = w' := by
  have hle := R.le
  obtain ⟨n, hn⟩ : ∃ n, n = xs.length := ⟨_, rfl⟩
  rw [← hn] at hle ⊢
  have HN := Lib.hid hn.symm
  have HR := Lib.hid R
  clear hn R
  go_enter Try.func36, Try.ntmps36
  go_wp2
  go_loop [7] (fun i => ∃ k : Nat, k ≤ n ∧ i = .int .i64 k ∧ Hid (∀ j, j < k → xs.getD j 0 = 0)) (fun i => n - (intOf i).toNat)
  case atStart => exact ⟨0, Nat.zero_le _, rfl, Lib.hid (fun j h => by omega)⟩
  case round =>
    obtain ⟨k, hk, rfl, HE⟩ := hrel
    by_cases hlt : k < n
    · obtain ⟨g, rfl, hc⟩ := HR.out.at (k := k) (by rw [HN.out]; exact hlt)
      by_cases h0 : xs.getD k 0 = 0
      · have HK := Lib.hid h0
        rw [h0] at hc
        clear h0
        go_wp2
        go_round
        case rel => exact ⟨k + 1, by omega, by go_num, Lib.hid (fun j hj => by
          by_cases e : j = k
          · rw [e]; exact HK.out
          · exact HE.out j (by omega))⟩
        case measure => simp [intOf]; omega
      · have HK := Lib.hid (zero_bad (by rw [HN.out]; exact hlt) h0)
        generalize xs.getD k 0 = z at hc h0
        go_wp2
        go_ret
        exact ⟨by rw [HK.out]; rfl, rfl⟩
    · go_wp2
      go_ret
      exact ⟨by rw [zero_all (fun j hj => HE.out j (by rw [HN.out] at hj; omega))]; rfl, rfl⟩
theorem norm_any (a : Option Addr) (c : Nat) (xs : List Int) (w : World) (R : Bag w a c xs) (hb : xs.length ≤ 1000) :
    Calls Try.prog 30 #[.slice a xs.length c] w (Makes2 (normL xs) (!lostL xs) w) := by
  have HN := Lib.hid (norm19 a c xs w R hb)
  have HR := Lib.hid R
  have HE := Lib.hid (lost_eq xs)
  clear R
  go_enter Try.func30, Try.ntmps30
  go_wp2_with (fail)
  refine HN.out.mono ?_
  rintro e w1 ⟨a1, c1, rfl, r1, f1, b1⟩
  have hle := r1.le
  have HL : Hid ((normL xs).isEmpty = decide ((normL xs).length = 0)) := Lib.hid (by cases normL xs <;> rfl)
  by_cases h0 : (normL xs).length = 0
  · have HZ := Lib.hid (noughts_any a c xs w1 (HR.out.below b1))
    have HG : Hid (Makes2 (normL xs) (!lostL xs) w (.returned (.tuple #[.slice a1 0 c1, .bool (zeroL xs)])) w1) := Lib.hid ⟨a1, c1, by rw [HE.out, HL.out]; simp [h0], r1, f1, b1⟩
    rw [h0] at hle ⊢
    clear r1 f1 b1 HN HE h0 HL
    go_wp2_with (fail)
    refine HZ.out.mono ?_
    rintro e w' ⟨rfl, rfl⟩
    generalize zeroL xs = z at HG ⊢
    go_wp2
    go_ret2
    exact HG.out
  · have HG : Hid (Makes2 (normL xs) (!lostL xs) w (.returned (.tuple #[.slice a1 (normL xs).length c1, .bool true])) w1) := Lib.hid ⟨a1, c1, by rw [HE.out, HL.out]; simp [h0], r1, f1, b1⟩
    have h1 : 0 < (normL xs).length := by omega
    generalize (normL xs).length = n at HG hle h1 ⊢
    clear r1 f1 b1 HN HE h0 HL
    go_wp2
    go_ret2
    exact HG.out
end Go.Proofs.Ytmbkiefbchjofaa

/- Contracts of Total and of the reference's TotalBag. -/
import Derived.Test.YthjeollmjfdaeaaF
namespace Go.Proofs.Ythjeollmjfdaeaa
open Go.ChangeShapes Go.WideShapes Go.ChangeAt Go.RowKit

theorem tot14_no (a : Option Addr) (c : Nat) (xs : List Int) (w : World) (R : Bag w a c xs) (hx : rightL xs = false) :
    Calls Try.prog 14 #[.slice a xs.length c] w fun e w' => e = .returned (.tuple #[.int .i64 (totN xs), .bool (totOk xs)]) ∧ w = w' := by
  have H := Lib.hid (tot_no1 hx)
  have Z := right16 a c xs w R
  rw [hx] at Z
  clear hx R
  go_enter Try.func14, Try.ntmps14
  go_wp2_with (fail)
  refine Z.mono ?_
  rintro e w' ⟨rfl, rfl⟩
  go_wp2
  go_ret2
  exact ⟨by rw [H.out.1, H.out.2]; rfl, rfl⟩

set_option maxHeartbeats 1000000 in
theorem tot14_yes (a : Option Addr) (c : Nat) (xs : List Int) (w : World) (R : Bag w a c xs) (hx : rightL xs = true) :
    Calls Try.prog 14 #[.slice a xs.length c] w fun e w' => e = .returned (.tuple #[.int .i64 (totN xs), .bool (totOk xs)]) ∧ w = w' := by
  have Z := right16 a c xs w R
  rw [hx] at Z
  obtain ⟨n, hn⟩ : ∃ n, n = xs.length := ⟨_, rfl⟩
  have hn12 : n ≤ 12 := by rw [hn]; exact (right_iff.1 hx).1
  rw [← hn] at Z ⊢
  have HN := Lib.hid hn.symm
  have HX := Lib.hid hx
  have HR := Lib.hid R
  clear hn hx R
  go_enter Try.func14, Try.ntmps14
  go_wp2_with (fail)
  refine Z.mono ?_
  rintro e w' ⟨rfl, rfl⟩
  clear Z
  go_wp2_with (fail)
  go_loop [2, 11] (fun s i => ∃ k : Nat, k ≤ n ∧ s = .int .i64 (xs.take k).sum ∧ i = .int .i64 k ∧ Hid ((xs.take k).sum ≤ 1152921504606846976)) (fun _ i => n - (intOf i).toNat)
  case atStart => exact ⟨0, Nat.zero_le _, rfl, rfl, Lib.hid (show ([] : List Int).sum ≤ _ by simp)⟩
  case round =>
    obtain ⟨k, hk, rfl, rfl, HE⟩ := hrel
    by_cases hlt : k < n
    · obtain ⟨g, rfl, hc⟩ := HR.out.at (k := k) (by rw [HN.out]; exact hlt)
      have hs := sum_snoc (l := xs) (k := k) (by rw [HN.out]; exact hlt)
      have p1 : okN (xs.take k).sum = true := okN_iff.2 ⟨(sum_take (right_pos HX.out) k).1, HE.out⟩
      have p2 : okN (xs.getD k 0) = true := okN_iff.2 (right_at HX.out k)
      by_cases hfit : (xs.take k).sum + xs.getD k 0 ≤ 1152921504606846976
      · have M := madd_yes (xs.take k).sum (xs.getD k 0) w p1 p2 hfit
        have HF : Hid ((xs.take (k + 1)).sum ≤ 1152921504606846976) := Lib.hid (by rw [hs]; exact hfit)
        rw [← hs] at M
        have HM := Lib.hid M
        clear M hs p1 p2 hfit HE
        generalize xs.getD k 0 = p at *
        generalize (xs.take k).sum = t at *
        generalize hu : (xs.take (k + 1)).sum = u at *
        have HU := Lib.hid hu
        clear hu
        go_wp2_with (fail)
        refine HM.out.mono ?_
        rintro e w' ⟨rfl, rfl⟩
        clear HM
        go_wp2
        go_round
        case rel => exact ⟨k + 1, by omega, by rw [HU.out], by go_num, by rw [HU.out]; exact HF⟩
        case measure => simp [intOf]; omega
      · have M := madd_no (xs.take k).sum (xs.getD k 0) w p1 p2 (by omega)
        have H := Lib.hid (tot_no2 (k := k + 1) HX.out (by rw [hs]; omega))
        clear hs p1 p2 hfit HE
        generalize xs.getD k 0 = p at *
        generalize (xs.take k).sum = t at *
        go_wp2_with (fail)
        refine M.mono ?_
        rintro e w' ⟨rfl, rfl⟩
        clear M
        go_wp2
        go_ret2
        exact ⟨by rw [H.out.1, H.out.2]; rfl, rfl⟩
    · obtain rfl : k = n := by omega
      have E : xs.take k = xs := List.take_of_length_le (by rw [HN.out]; omega)
      have H := Lib.hid (tot_yes HX.out (by have := HE.out; rwa [E] at this))
      rw [E]
      generalize hu : xs.sum = u
      have HU := Lib.hid hu
      clear hu E HE
      go_wp2
      go_ret2
      exact ⟨by rw [H.out.1, H.out.2, HU.out]; rfl, rfl⟩
theorem tot14 (a : Option Addr) (c : Nat) (xs : List Int) (w : World) (R : Bag w a c xs) :
    Calls Try.prog 14 #[.slice a xs.length c] w fun e w' => e = .returned (.tuple #[.int .i64 (totN xs), .bool (totOk xs)]) ∧ w = w' := by
  cases hx : rightL xs with
  | false => exact tot14_no a c xs w R hx
  | true => exact tot14_yes a c xs w R hx

theorem tot15_no (a : Option Addr) (c : Nat) (xs : List Int) (w : World) (R : Bag w a c xs) (hx : rightL xs = false) :
    Calls Try.prog 15 #[.slice a xs.length c] w fun e w' => e = .returned (.tuple #[.int .i64 (totN xs), .bool (totOk xs)]) ∧ w = w' := by
  have H := Lib.hid (tot_no1 hx)
  have Z := right17 a c xs w R
  rw [hx] at Z
  clear hx R
  go_enter Try.func15, Try.ntmps15
  go_wp2_with (fail)
  refine Z.mono ?_
  rintro e w' ⟨rfl, rfl⟩
  go_wp2
  go_ret2
  exact ⟨by rw [H.out.1, H.out.2]; rfl, rfl⟩

set_option maxHeartbeats 1000000 in
theorem tot15_yes (a : Option Addr) (c : Nat) (xs : List Int) (w : World) (R : Bag w a c xs) (hx : rightL xs = true) :
    Calls Try.prog 15 #[.slice a xs.length c] w fun e w' => e = .returned (.tuple #[.int .i64 (totN xs), .bool (totOk xs)]) ∧ w = w' := by
  have Z := right17 a c xs w R
  rw [hx] at Z
  obtain ⟨n, hn⟩ : ∃ n, n = xs.length := ⟨_, rfl⟩
  have hn12 : n ≤ 12 := by rw [hn]; exact (right_iff.1 hx).1
  rw [← hn] at Z ⊢
  have HN := Lib.hid hn.symm
  have HX := Lib.hid hx
  have HR := Lib.hid R
  clear hn hx R
  go_enter Try.func15, Try.ntmps15
  go_wp2_with (fail)
  refine Z.mono ?_
  rintro e w' ⟨rfl, rfl⟩
  clear Z
  go_wp2_with (fail)
  go_loop [4, 14] (fun s i => ∃ k : Nat, k ≤ n ∧ s = .int .i64 (xs.take k).sum ∧ i = .int .i64 k ∧ Hid ((xs.take k).sum ≤ 1152921504606846976)) (fun _ i => n - (intOf i).toNat)
  case atStart => exact ⟨0, Nat.zero_le _, rfl, rfl, Lib.hid (show ([] : List Int).sum ≤ _ by simp)⟩
  case round =>
    obtain ⟨k, hk, rfl, rfl, HE⟩ := hrel
    by_cases hlt : k < n
    · obtain ⟨g, rfl, hc⟩ := HR.out.at (k := k) (by rw [HN.out]; exact hlt)
      have hs := sum_snoc (l := xs) (k := k) (by rw [HN.out]; exact hlt)
      have p1 : okN (xs.take k).sum = true := okN_iff.2 ⟨(sum_take (right_pos HX.out) k).1, HE.out⟩
      have p2 : okN (xs.getD k 0) = true := okN_iff.2 (right_at HX.out k)
      by_cases hfit : (xs.take k).sum + xs.getD k 0 ≤ 1152921504606846976
      · have M := radd_yes (xs.take k).sum (xs.getD k 0) w p1 p2 hfit
        have HF : Hid ((xs.take (k + 1)).sum ≤ 1152921504606846976) := Lib.hid (by rw [hs]; exact hfit)
        rw [← hs] at M
        have HM := Lib.hid M
        clear M hs p1 p2 hfit HE
        generalize xs.getD k 0 = p at *
        generalize (xs.take k).sum = t at *
        generalize hu : (xs.take (k + 1)).sum = u at *
        have HU := Lib.hid hu
        clear hu
        go_wp2_with (fail)
        refine HM.out.mono ?_
        rintro e w' ⟨rfl, rfl⟩
        clear HM
        go_wp2
        go_round
        case rel => exact ⟨k + 1, by omega, by rw [HU.out], by go_num, by rw [HU.out]; exact HF⟩
        case measure => simp [intOf]; omega
      · have M := radd_no (xs.take k).sum (xs.getD k 0) w p1 p2 (by omega)
        have H := Lib.hid (tot_no2 (k := k + 1) HX.out (by rw [hs]; omega))
        clear hs p1 p2 hfit HE
        generalize xs.getD k 0 = p at *
        generalize (xs.take k).sum = t at *
        go_wp2_with (fail)
        refine M.mono ?_
        rintro e w' ⟨rfl, rfl⟩
        clear M
        go_wp2
        go_ret2
        exact ⟨by rw [H.out.1, H.out.2]; rfl, rfl⟩
    · obtain rfl : k = n := by omega
      have E : xs.take k = xs := List.take_of_length_le (by rw [HN.out]; omega)
      have H := Lib.hid (tot_yes HX.out (by have := HE.out; rwa [E] at this))
      rw [E]
      generalize hu : xs.sum = u
      have HU := Lib.hid hu
      clear hu E HE
      go_wp2
      go_ret2
      exact ⟨by rw [H.out.1, H.out.2, HU.out]; rfl, rfl⟩
theorem tot15 (a : Option Addr) (c : Nat) (xs : List Int) (w : World) (R : Bag w a c xs) :
    Calls Try.prog 15 #[.slice a xs.length c] w fun e w' => e = .returned (.tuple #[.int .i64 (totN xs), .bool (totOk xs)]) ∧ w = w' := by
  cases hx : rightL xs with
  | false => exact tot15_no a c xs w R hx
  | true => exact tot15_yes a c xs w R hx
end Go.Proofs.Ythjeollmjfdaeaa

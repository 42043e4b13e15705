/- Contracts of Right, Norm, One, trim and of the reference's RightBag, NormBag, OneBag. -/
import Derived.Test.YtmbkiefbchjofaaC
namespace Go.Proofs.Ytmbkiefbchjofaa
open Go.ChangeShapes Go.WideShapes Go.ChangeAt Go.RowKit

theorem right_end {l : List Int} {n : Nat} {z : Int} (hn : l.length = n) (hz : l.getD (n - 1) 0 = z) (h12 : n ≤ 12) (hall : ∀ j, j < n → okN (l.getD j 0) = true) (h0 : 0 < n) : rightL l = (((n : Int) == 0) || (z != 0)) := by
  subst hn
  subst hz
  have hne : ((l.length : Int) == 0) = false := by simp; rintro rfl; simp at h0
  rw [hne, Bool.false_or]
  by_cases hz : l.getD (l.length - 1) 0 = 0
  · rw [right_zero h0 hz, hz]; rfl
  · rw [right_of h12 (fun j hj => okN_iff.1 (hall j hj)) (fun _ => hz)]
    exact (bne_iff_ne.2 hz).symm
theorem right_nil : rightL [] = true := by decide

set_option maxHeartbeats 1000000 in
theorem right16 (a : Option Addr) (c : Nat) (xs : List Int) (w : World) (R : Bag w a c xs) :
    Calls Try.prog 40 #[.slice a xs.length c] w fun e w' => e = .returned (.bool (rightL xs)) ∧ w = w' := by
  have hle := R.le
  have HR := Lib.hid R
  clear R
  obtain ⟨n, hn⟩ : ∃ n, n = xs.length := ⟨_, rfl⟩
  rw [← hn] at hle ⊢
  have HN := Lib.hid hn.symm
  clear hn
  by_cases h12 : 12 < n
  · have E := Lib.hid (right_long (l := xs) (by rw [HN.out]; exact h12))
    go_enter Try.func40, Try.ntmps40
    go_wp2
    go_ret
    exact ⟨by rw [E.out]; rfl, rfl⟩
  · go_enter Try.func40, Try.ntmps40
    go_wp2
    go_loop [10] (fun i => ∃ k : Nat, k ≤ n ∧ i = .int .i64 k ∧ Hid (∀ j, j < k → okN (xs.getD j 0) = true)) (fun i => n - (intOf i).toNat)
    case atStart => exact ⟨0, Nat.zero_le _, rfl, Lib.hid (fun j h => by omega)⟩
    case round =>
      obtain ⟨k, hk, rfl, HE⟩ := hrel
      by_cases hlt : k < n
      · obtain ⟨g, rfl, hc⟩ := HR.out.at (k := k) (by rw [HN.out]; exact hlt)
        by_cases h0 : xs.getD k 0 < 0
        · have E := Lib.hid (right_bad (l := xs) (j := k) (okN_no.2 (.inl h0)))
          generalize xs.getD k 0 = z at hc h0
          go_wp2
          go_ret
          exact ⟨by rw [E.out]; rfl, rfl⟩
        · by_cases h1 : 1152921504606846976 < xs.getD k 0
          · have E := Lib.hid (right_bad (l := xs) (j := k) (okN_no.2 (.inr h1)))
            generalize xs.getD k 0 = z at hc h0 h1
            go_wp2
            go_ret
            exact ⟨by rw [E.out]; rfl, rfl⟩
          · have E := Lib.hid (show okN (xs.getD k 0) = true from okN_iff.2 ⟨by omega, by omega⟩)
            generalize xs.getD k 0 = z at hc h0 h1
            go_wp2
            go_round
            case rel => exact ⟨k + 1, by omega, by go_num, Lib.hid (fun j hj => by
              by_cases e : j = k
              · rw [e]; exact E.out
              · exact HE.out j (by omega))⟩
            case measure => simp [intOf]; omega
      · by_cases h0 : n = 0
        · subst h0
          obtain rfl : xs = [] := List.eq_nil_of_length_eq_zero HN.out
          go_wp2
          go_ret
          exact ⟨by rw [right_nil]; rfl, rfl⟩
        · obtain ⟨g, rfl, hc⟩ := HR.out.at (k := n - 1) (by rw [HN.out]; omega)
          generalize hz : xs.getD (n - 1) 0 = z at hc
          have E := Lib.hid (right_end (l := xs) HN.out hz (by omega) (fun j hj => HE.out j (by omega)) (by omega))
          clear hz
          have hn1 : (n : Int) - 1 = ((n - 1 : Nat) : Int) := by omega
          go_wp2
          go_ret
          exact ⟨by rw [E.out]; rfl, rfl⟩

set_option maxHeartbeats 1000000 in
theorem right17 (a : Option Addr) (c : Nat) (xs : List Int) (w : World) (R : Bag w a c xs) :
    Calls Try.prog 41 #[.slice a xs.length c] w fun e w' => e = .returned (.bool (rightL xs)) ∧ w = w' := by
  have hle := R.le
  have HR := Lib.hid R
  clear R
  obtain ⟨n, hn⟩ : ∃ n, n = xs.length := ⟨_, rfl⟩
  rw [← hn] at hle ⊢
  have HN := Lib.hid hn.symm
  clear hn
  by_cases h12 : 12 < n
  · go_enter Try.func41, Try.ntmps41
    go_wp2
    go_loop [7] (fun i => ∃ k : Nat, k ≤ n ∧ i = .int .i64 k ∧ Hid (∀ j, j < k → okN (xs.getD j 0) = true)) (fun i => n - (intOf i).toNat)
    case atStart => exact ⟨0, Nat.zero_le _, rfl, Lib.hid (fun j h => by omega)⟩
    case round =>
      obtain ⟨k, hk, rfl, HE⟩ := hrel
      by_cases hlt : k < n
      · obtain ⟨g, rfl, hc⟩ := HR.out.at (k := k) (by rw [HN.out]; exact hlt)
        by_cases h0 : xs.getD k 0 < 0
        · have E := Lib.hid (right_bad (l := xs) (j := k) (okN_no.2 (.inl h0)))
          generalize xs.getD k 0 = z at hc h0
          go_wp2
          go_ret
          exact ⟨by rw [E.out]; rfl, rfl⟩
        · by_cases h1 : 1152921504606846976 < xs.getD k 0
          · have E := Lib.hid (right_bad (l := xs) (j := k) (okN_no.2 (.inr h1)))
            generalize xs.getD k 0 = z at hc h0 h1
            go_wp2
            go_ret
            exact ⟨by rw [E.out]; rfl, rfl⟩
          · have E := Lib.hid (show okN (xs.getD k 0) = true from okN_iff.2 ⟨by omega, by omega⟩)
            generalize xs.getD k 0 = z at hc h0 h1
            go_wp2
            go_round
            case rel => exact ⟨k + 1, by omega, by go_num, Lib.hid (fun j hj => by
              by_cases e : j = k
              · rw [e]; exact E.out
              · exact HE.out j (by omega))⟩
            case measure => simp [intOf]; omega
      · have E := Lib.hid (right_long (l := xs) (by rw [HN.out]; exact h12))
        go_wp2
        go_ret
        exact ⟨by rw [E.out]; rfl, rfl⟩
  · go_enter Try.func41, Try.ntmps41
    go_wp2
    go_loop [7] (fun i => ∃ k : Nat, k ≤ n ∧ i = .int .i64 k ∧ Hid (∀ j, j < k → okN (xs.getD j 0) = true)) (fun i => n - (intOf i).toNat)
    case atStart => exact ⟨0, Nat.zero_le _, rfl, Lib.hid (fun j h => by omega)⟩
    case round =>
      obtain ⟨k, hk, rfl, HE⟩ := hrel
      by_cases hlt : k < n
      · obtain ⟨g, rfl, hc⟩ := HR.out.at (k := k) (by rw [HN.out]; exact hlt)
        by_cases h0 : xs.getD k 0 < 0
        · have E := Lib.hid (right_bad (l := xs) (j := k) (okN_no.2 (.inl h0)))
          generalize xs.getD k 0 = z at hc h0
          go_wp2
          go_ret
          exact ⟨by rw [E.out]; rfl, rfl⟩
        · by_cases h1 : 1152921504606846976 < xs.getD k 0
          · have E := Lib.hid (right_bad (l := xs) (j := k) (okN_no.2 (.inr h1)))
            generalize xs.getD k 0 = z at hc h0 h1
            go_wp2
            go_ret
            exact ⟨by rw [E.out]; rfl, rfl⟩
          · have E := Lib.hid (show okN (xs.getD k 0) = true from okN_iff.2 ⟨by omega, by omega⟩)
            generalize xs.getD k 0 = z at hc h0 h1
            go_wp2
            go_round
            case rel => exact ⟨k + 1, by omega, by go_num, Lib.hid (fun j hj => by
              by_cases e : j = k
              · rw [e]; exact E.out
              · exact HE.out j (by omega))⟩
            case measure => simp [intOf]; omega
      · by_cases h0 : n = 0
        · subst h0
          obtain rfl : xs = [] := List.eq_nil_of_length_eq_zero HN.out
          go_wp2
          go_ret
          exact ⟨by rw [right_nil]; rfl, rfl⟩
        · obtain ⟨g, rfl, hc⟩ := HR.out.at (k := n - 1) (by rw [HN.out]; omega)
          generalize hz : xs.getD (n - 1) 0 = z at hc
          have E := Lib.hid (right_end (l := xs) HN.out hz (by omega) (fun j hj => HE.out j (by omega)) (by omega))
          clear hz
          have hn1 : (n : Int) - 1 = ((n - 1 : Nat) : Int) := by omega
          go_wp2
          go_ret
          exact ⟨by rw [E.out]; rfl, rfl⟩
end Go.Proofs.Ytmbkiefbchjofaa

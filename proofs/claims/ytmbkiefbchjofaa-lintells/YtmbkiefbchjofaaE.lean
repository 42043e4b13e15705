/- Contracts of trim, Norm, One, and of the reference's NormBag, OneBag; the example. -/
import Derived.Test.YtmbkiefbchjofaaD
namespace Go.Proofs.Ytmbkiefbchjofaa
open Go.ChangeShapes Go.WideShapes Go.ChangeAt Go.RowKit

theorem Bag.trim {w : World} {a : Option Addr} {c : Nat} {xs : List Int} (h : Bag w a c xs) : Bag w a c (trimL xs) := h.cut (cut_le xs)
theorem trim_is {xs : List Int} {n k : Nat} (_hn : xs.length = n) (_hk : k ≤ n) (h : ∀ i, k ≤ i → xs.getD i 0 = 0) (h' : k = 0 ∨ xs.getD (k - 1) 0 ≠ 0) : (trimL xs).length = k := by
  rw [trim_len, cut_of xs k h h']
theorem ret_len {a : Option Addr} {m n c : Nat} (h : m = n) : Ending.returned (.slice a m c) = .returned (.slice a n c) := by rw [h]

theorem trim_some (g c : Nat) (xs : List Int) (w : World) (R : Bag w (some ⟨g, 0, none⟩) c xs) :
    Calls Try.prog 60 #[.slice (some ⟨g, 0, none⟩) xs.length c] w fun e w' => e = .returned (.slice (some ⟨g, 0, none⟩) (trimL xs).length c) ∧ w = w' := by
  have hle := R.le
  have HR := Lib.hid R
  clear R
  obtain ⟨n, hn⟩ : ∃ n, n = xs.length := ⟨_, rfl⟩
  rw [← hn] at hle ⊢
  have HN := Lib.hid hn.symm
  clear hn
  generalize hm : (trimL xs).length = m
  have HM := Lib.hid hm
  clear hm
  go_enter Try.func60, Try.ntmps60
  go_wp2
  go_loop [3] (fun i => ∃ k : Nat, k ≤ n ∧ i = .int .i64 k ∧ Hid (∀ i, k ≤ i → xs.getD i 0 = 0)) (fun i => (intOf i).toNat)
  case atStart => exact ⟨n, Nat.le_refl _, rfl, Lib.hid (fun j h => getD_past (by rw [HN.out]; exact h))⟩
  case round =>
    obtain ⟨k, hk, rfl, HE⟩ := hrel
    by_cases hlt : 0 < k
    · obtain ⟨g', e, hc⟩ := HR.out.at (k := k - 1) (by rw [HN.out]; omega)
      injection e with e; injection e with e; subst e
      have hk1 : (k : Int) - 1 = ((k - 1 : Nat) : Int) := by omega
      by_cases hz : xs.getD (k - 1) 0 = 0
      · have HZ := Lib.hid hz
        rw [hz] at hc
        clear hz
        go_wp2
        go_round
        case rel => exact ⟨k - 1, by omega, rfl, Lib.hid (fun j hj => by
          by_cases e : j = k - 1
          · rw [e]; exact HZ.out
          · exact HE.out j (by omega))⟩
        case measure => simp [intOf]; omega
      · have E : Hid (m = k) := Lib.hid (HM.out.symm.trans (trim_is HN.out hk HE.out (.inr hz)))
        have hkc : k ≤ c := by omega
        generalize xs.getD (k - 1) 0 = z at hc hz
        have hz' : (z == 0) = false := by simpa using hz
        go_wp2
        go_ret
        exact ⟨ret_len E.out.symm, rfl⟩
    · obtain rfl : k = 0 := by omega
      have E : Hid (m = 0) := Lib.hid (HM.out.symm.trans (trim_is HN.out hk HE.out (.inl rfl)))
      go_wp2
      go_ret
      exact ⟨ret_len E.out.symm, rfl⟩

theorem trim_nil (w : World) : Calls Try.prog 60 #[.slice none 0 0] w fun e w' => e = .returned (.slice none 0 0) ∧ w = w' := by
  go_enter Try.func60, Try.ntmps60
  go_wp2
  go_loop [3] (fun i => i = .int .i64 0) (fun _ => 0)
  case atStart => rfl
  case round =>
    obtain rfl := hrel
    go_wp2
    go_ret
    exact ⟨rfl, rfl⟩

theorem trim_any (a : Option Addr) (c : Nat) (xs : List Int) (w : World) (R : Bag w a c xs) :
    Calls Try.prog 60 #[.slice a xs.length c] w fun e w' => e = .returned (.slice a (trimL xs).length c) ∧ w = w' := by
  rcases R.form with ⟨rfl, rfl, rfl⟩ | ⟨g, rfl⟩
  · exact trim_nil w
  · exact trim_some g c xs w R

theorem norm19 (a : Option Addr) (c : Nat) (xs : List Int) (w : World) (R : Bag w a c xs) (hb : xs.length ≤ 1000) :
    Calls Try.prog 50 #[.slice a xs.length c] w (Makes (normL xs) w) := by
  have T := trim_any a c xs w R
  have R1 := R.trim
  have hl : (trimL xs).length ≤ 1000 := by rw [trim_len]; have := cut_le xs; omega
  have HY := Lib.hid (norm_yes (l := xs))
  have HN := Lib.hid (norm_no (l := xs))
  have Z := right16 a c (trimL xs) w R1
  have F := fresh_any a c (trimL xs) w R1 hl
  clear R R1 hl
  generalize trimL xs = ys at *
  cases hr : rightL ys with
  | true =>
    have E := Lib.hid (HY.out hr)
    rw [hr] at Z
    clear HY HN hr
    go_enter Try.func50, Try.ntmps50
    go_wp2_with (fail)
    refine T.mono ?_
    rintro e w' ⟨rfl, rfl⟩
    go_wp2_with (fail)
    refine Z.mono ?_
    rintro e w' ⟨rfl, rfl⟩
    go_wp2_with (fail)
    refine F.mono ?_
    rintro e w' ⟨a', c', rfl, r, f, bel⟩
    go_wp2
    go_ret
    rw [E.out]
    exact ⟨a', c', rfl, r, f, bel⟩
  | false =>
    have E := Lib.hid (HN.out hr)
    rw [hr] at Z
    clear HY HN hr
    go_enter Try.func50, Try.ntmps50
    go_wp2_with (fail)
    refine T.mono ?_
    rintro e w' ⟨rfl, rfl⟩
    go_wp2_with (fail)
    refine Z.mono ?_
    rintro e w' ⟨rfl, rfl⟩
    go_wp2
    go_ret
    rw [E.out]
    exact ⟨none, 0, rfl, Bag.nil _, (fun _ e => nomatch e), Below.refl _ _⟩

/-- The reference's NormBag behind its loop. -/
theorem norm20_some (g c : Nat) (xs : List Int) (w : World) (R : Bag w (some ⟨g, 0, none⟩) c xs) (hb : xs.length ≤ 1000) :
    Calls Try.prog 35 #[.slice (some ⟨g, 0, none⟩) xs.length c] w (Makes (normL xs) w) := by
  have hle := R.le
  have HR := Lib.hid R
  obtain ⟨n, hn⟩ : ∃ n, n = xs.length := ⟨_, rfl⟩
  have hl : (trimL xs).length ≤ 1000 := by rw [trim_len]; have := cut_le xs; omega
  obtain ⟨v, w', hr, a', c', e, r, f, bel⟩ := run_copy 26 26 Try.underlying26 _ c (trimL xs) w R.trim (by omega)
  injection e with e
  subst e
  have Z := right17 a' c' (trimL xs) w' r
  have HY := Lib.hid (norm_yes (l := xs))
  have HO := Lib.hid (norm_no (l := xs))
  rw [← hn] at hle hb ⊢
  have HN := Lib.hid hn.symm
  clear hn R
  obtain ⟨m, hm⟩ : ∃ m, m = (trimL xs).length := ⟨_, rfl⟩
  have HM := Lib.hid hm.symm
  rw [← hm] at hr Z hl
  clear hm
  have HRR : Hid (Bag w' a' c' (trimL xs)) := Lib.hid r
  clear r
  go_enter Try.func35, Try.ntmps35
  go_wp2
  go_loop [3] (fun i => ∃ k : Nat, k ≤ n ∧ i = .int .i64 k ∧ Hid (∀ i, k ≤ i → xs.getD i 0 = 0)) (fun i => (intOf i).toNat)
  case atStart => exact ⟨n, Nat.le_refl _, rfl, Lib.hid (fun j h => getD_past (by rw [HN.out]; exact h))⟩
  case round =>
    obtain ⟨k, hk, rfl, HE⟩ := hrel
    have fin : ∀ (Q : Prop), (k = m → Q) → (k = 0 ∨ xs.getD (k - 1) 0 ≠ 0) → Q := fun Q h h' => h ((trim_is HN.out hk HE.out h').symm.trans HM.out)
    have HF := Lib.hid fin
    clear fin
    by_cases hlt : 0 < k
    · obtain ⟨g', e, hc⟩ := HR.out.at (k := k - 1) (by rw [HN.out]; omega)
      injection e with e; injection e with e; subst e
      have hk1 : (k : Int) - 1 = ((k - 1 : Nat) : Int) := by omega
      by_cases hz : xs.getD (k - 1) 0 = 0
      · have HZ := Lib.hid hz
        rw [hz] at hc
        clear hz
        go_wp2
        go_round
        case rel => exact ⟨k - 1, by omega, rfl, Lib.hid (fun j hj => by
          by_cases e : j = k - 1
          · rw [e]; exact HZ.out
          · exact HE.out j (by omega))⟩
        case measure => simp [intOf]; omega
      · refine HF.out _ ?_ (.inr hz)
        rintro rfl
        have hkc : k ≤ c := by omega
        generalize xs.getD (k - 1) 0 = z at hc hz
        have hz' : (z == 0) = false := by simpa using hz
        clear HF HE
        cases hq : rightL (trimL xs) with
        | true =>
          have E := Lib.hid (HY.out hq)
          rw [hq] at Z
          clear HY HO hq
          go_wp2_with (at_builtin; refine Lib.wpList_append_run _ rfl _ _ _ _ rfl _ _ rfl rfl _ _ hr ?_)
          refine Z.mono ?_
          rintro e w' ⟨rfl, rfl⟩
          go_wp2
          go_ret
          rw [E.out]
          exact ⟨a', c', ret_len HM.out.symm, HRR.out, f, bel⟩
        | false =>
          have E := Lib.hid (HO.out hq)
          rw [hq] at Z
          clear HY HO hq
          go_wp2_with (at_builtin; refine Lib.wpList_append_run _ rfl _ _ _ _ rfl _ _ rfl rfl _ _ hr ?_)
          refine Z.mono ?_
          rintro e w' ⟨rfl, rfl⟩
          go_wp2
          go_ret
          rw [E.out]
          exact ⟨none, 0, rfl, Bag.nil _, (fun _ e => nomatch e), bel⟩
    · obtain rfl : k = 0 := by omega
      refine HF.out _ ?_ (.inl rfl)
      rintro rfl
      clear HF HE
      cases hq : rightL (trimL xs) with
      | true =>
        have E := Lib.hid (HY.out hq)
        rw [hq] at Z
        clear HY HO hq
        go_wp2_with (at_builtin; refine Lib.wpList_append_run _ rfl _ _ _ _ rfl _ _ rfl rfl _ _ hr ?_)
        refine Z.mono ?_
        rintro e w' ⟨rfl, rfl⟩
        go_wp2
        go_ret
        rw [E.out]
        exact ⟨a', c', ret_len HM.out.symm, HRR.out, f, bel⟩
      | false =>
        have E := Lib.hid (HO.out hq)
        rw [hq] at Z
        clear HY HO hq
        go_wp2_with (at_builtin; refine Lib.wpList_append_run _ rfl _ _ _ _ rfl _ _ rfl rfl _ _ hr ?_)
        refine Z.mono ?_
        rintro e w' ⟨rfl, rfl⟩
        go_wp2
        go_ret
        rw [E.out]
        exact ⟨none, 0, rfl, Bag.nil _, (fun _ e => nomatch e), bel⟩

theorem norm20_nil (w : World) : Calls Try.prog 35 #[.slice none 0 0] w (Makes [] w) := by
  obtain ⟨v, w', hr, a', c', e, r, f, bel⟩ := run_copy_nil' 26 26 Try.underlying26 w
  injection e with e
  subst e
  have Z := right17 a' c' [] w' r
  rw [right_nil] at Z
  have HRR : Hid (Bag w' a' c' []) := Lib.hid r
  clear r
  go_enter Try.func35, Try.ntmps35
  go_wp2
  go_loop [3] (fun i => i = .int .i64 0) (fun _ => 0)
  case atStart => rfl
  case round =>
    obtain rfl := hrel
    go_wp2_with (at_builtin; refine Lib.wpList_append_run _ rfl _ _ _ _ rfl _ _ rfl rfl _ _ hr ?_)
    refine Z.mono ?_
    rintro e w' ⟨rfl, rfl⟩
    go_wp2
    go_ret
    exact ⟨a', c', rfl, HRR.out, f, bel⟩

theorem norm_nil : normL [] = [] := by decide
theorem norm20 (a : Option Addr) (c : Nat) (xs : List Int) (w : World) (R : Bag w a c xs) (hb : xs.length ≤ 1000) :
    Calls Try.prog 35 #[.slice a xs.length c] w (Makes (normL xs) w) := by
  rcases R.form with ⟨rfl, rfl, rfl⟩ | ⟨g, rfl⟩
  · rw [norm_nil]; exact norm20_nil w
  · exact norm20_some g c xs w R hb
end Go.Proofs.Ytmbkiefbchjofaa

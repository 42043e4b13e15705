/- Contracts of the small functions: meter's and the reference's sum, cmp.Compare, cmp.Or, Within, at, copies, Same. -/
import Derived.Test.YtmbkiefbchjofaaA
namespace Go.Proofs.Ytmbkiefbchjofaa
open Go.ChangeShapes Go.WideShapes Go.ChangeAt Go.RowKit

theorem counts_any (n : Int) (w : World) : Calls Try.prog 59 #[.int .i64 n] w fun e w' => e = .returned (.bool (okN n)) ∧ w = w' := by
  by_cases h : 0 ≤ n
  · have e : okN n = decide (n ≤ 1152921504606846976) := by simp [okN, h]
    have E := Lib.hid e
    clear e
    go_enter Try.func59, Try.ntmps59
    go_wp2
    go_ret
    exact ⟨by rw [E.out]; rfl, rfl⟩
  · have e : okN n = false := by simp [okN, h]
    have E := Lib.hid e
    clear e
    go_enter Try.func59, Try.ntmps59
    go_wp2
    go_ret
    exact ⟨by rw [E.out]; rfl, rfl⟩

theorem madd_yes (a b : Int) (w : World) (ha : okN a = true) (hb : okN b = true) (h : a + b ≤ 1152921504606846976) :
    Calls Try.prog 48 #[.int .i64 a, .int .i64 b] w fun e w' => e = .returned (.tuple #[.int .i64 (a + b), .bool true]) ∧ w = w' := by
  have A := okN_iff.1 ha
  have B := okN_iff.1 hb
  have h1 : 0 ≤ a := A.1
  have h2 : a ≤ 1152921504606846976 := A.2
  have h3 : 0 ≤ b := B.1
  have h4 : b ≤ 1152921504606846976 := B.2
  have h5 : ¬ 1152921504606846976 - b < a := by omega
  have HA := Lib.hid ha
  have HB := Lib.hid hb
  clear A B ha hb
  go_enter Try.func48, Try.ntmps48
  go_wp2_with (fail)
  refine (counts_any _ _).mono ?_
  rintro e w' ⟨rfl, rfl⟩
  rw [HA.out]
  go_wp2_with (fail)
  refine (counts_any _ _).mono ?_
  rintro e w' ⟨rfl, rfl⟩
  rw [HB.out]
  go_wp2
  go_ret2
  exact ⟨rfl, rfl⟩
theorem madd_no (a b : Int) (w : World) (ha : okN a = true) (hb : okN b = true) (h : 1152921504606846976 < a + b) :
    Calls Try.prog 48 #[.int .i64 a, .int .i64 b] w fun e w' => e = .returned (.tuple #[.int .i64 0, .bool false]) ∧ w = w' := by
  have A := okN_iff.1 ha
  have B := okN_iff.1 hb
  have h1 : 0 ≤ a := A.1
  have h2 : a ≤ 1152921504606846976 := A.2
  have h3 : 0 ≤ b := B.1
  have h4 : b ≤ 1152921504606846976 := B.2
  have h5 : 1152921504606846976 - b < a := by omega
  have HA := Lib.hid ha
  have HB := Lib.hid hb
  clear A B ha hb
  go_enter Try.func48, Try.ntmps48
  go_wp2_with (fail)
  refine (counts_any _ _).mono ?_
  rintro e w' ⟨rfl, rfl⟩
  rw [HA.out]
  go_wp2_with (fail)
  refine (counts_any _ _).mono ?_
  rintro e w' ⟨rfl, rfl⟩
  rw [HB.out]
  go_wp2
  go_ret2
  exact ⟨rfl, rfl⟩
theorem radd_yes (a b : Int) (w : World) (ha : okN a = true) (hb : okN b = true) (h : a + b ≤ 1152921504606846976) :
    Calls Try.prog 56 #[.int .i64 a, .int .i64 b] w fun e w' => e = .returned (.tuple #[.int .i64 (a + b), .bool true]) ∧ w = w' := by
  have A := okN_iff.1 ha
  have B := okN_iff.1 hb
  have h1 : 0 ≤ a := A.1
  have h2 : a ≤ 1152921504606846976 := A.2
  have h3 : 0 ≤ b := B.1
  have h4 : b ≤ 1152921504606846976 := B.2
  have h5 : ¬ 1152921504606846976 - a < b := by omega
  have h6 : ¬ a < 0 := by omega
  have h7 : ¬ b < 0 := by omega
  have h8 : ¬ 1152921504606846976 < a := by omega
  clear A B ha hb
  go_enter Try.func56, Try.ntmps56
  go_wp2
  go_ret2
  exact ⟨rfl, rfl⟩
theorem radd_no (a b : Int) (w : World) (ha : okN a = true) (hb : okN b = true) (h : 1152921504606846976 < a + b) :
    Calls Try.prog 56 #[.int .i64 a, .int .i64 b] w fun e w' => e = .returned (.tuple #[.int .i64 0, .bool false]) ∧ w = w' := by
  have A := okN_iff.1 ha
  have B := okN_iff.1 hb
  have h1 : 0 ≤ a := A.1
  have h2 : a ≤ 1152921504606846976 := A.2
  have h3 : 0 ≤ b := B.1
  have h4 : b ≤ 1152921504606846976 := B.2
  have h5 : 1152921504606846976 - a < b := by omega
  have h6 : ¬ a < 0 := by omega
  have h7 : ¬ b < 0 := by omega
  have h8 : ¬ 1152921504606846976 < a := by omega
  clear A B ha hb
  go_enter Try.func56, Try.ntmps56
  go_wp2
  go_ret2
  exact ⟨rfl, rfl⟩

theorem nan_any (n : Int) (w : World) : Calls Try.prog 57 #[.int .i64 n] w fun e w' => e = .returned (.bool false) ∧ w = w' := by
  go_enter Try.func57, Try.ntmps57
  go_wp2
  go_ret
  exact ⟨rfl, rfl⟩
theorem cmp_int (x y : Int) (w : World) : Calls Try.prog 45 #[.int .i64 x, .int .i64 y] w fun e w' => e = .returned (.int .i64 (sgn x y)) ∧ w = w' := by
  rcases sgn_cases x y with ⟨h, e⟩ | ⟨h, e⟩ | ⟨h, e⟩
  · have E := Lib.hid e
    clear e
    go_enter Try.func45, Try.ntmps45
    go_wp2_with (fail)
    refine (nan_any _ _).mono ?_
    rintro e w' ⟨rfl, rfl⟩
    go_wp2_with (fail)
    refine (nan_any _ _).mono ?_
    rintro e w' ⟨rfl, rfl⟩
    go_wp2
    go_ret
    exact ⟨by rw [E.out]; rfl, rfl⟩
  · have E := Lib.hid e
    clear e
    subst h
    go_enter Try.func45, Try.ntmps45
    go_wp2_with (fail)
    refine (nan_any _ _).mono ?_
    rintro e w' ⟨rfl, rfl⟩
    go_wp2_with (fail)
    refine (nan_any _ _).mono ?_
    rintro e w' ⟨rfl, rfl⟩
    go_wp2
    go_ret
    exact ⟨by rw [E.out]; rfl, rfl⟩
  · have E := Lib.hid e
    have h' : ¬ x < y := by omega
    clear e
    go_enter Try.func45, Try.ntmps45
    go_wp2_with (fail)
    refine (nan_any _ _).mono ?_
    rintro e w' ⟨rfl, rfl⟩
    go_wp2_with (fail)
    refine (nan_any _ _).mono ?_
    rintro e w' ⟨rfl, rfl⟩
    go_wp2
    go_ret
    exact ⟨by rw [E.out]; rfl, rfl⟩

/-- A number from 0 to n - 1. -/
def Ranges (n : Int) (w : World) (e : Ending) (w' : World) : Prop := ∃ r : Int, 0 ≤ r ∧ r < n ∧ e = .returned (.int .i64 r) ∧ w = w'
theorem within_any (v : Int) (n : Nat) (w : World) (hn : 0 < n) (hm : n ≤ 9223372036854775807) (_h0 : -9223372036854775808 ≤ v) (_h1 : v ≤ 9223372036854775807) :
    Calls Try.prog 23 #[.int .i64 v, .int .i64 n] w (Ranges n w) := by
  have hnz : ¬ (n : Int) = 0 := by omega
  have hn1 : ¬ (n : Int) < 1 := by omega
  have hlo : -(n : Int) < v.tmod n := by have := Int.lt_tmod_of_pos v (show (0 : Int) < n by omega); omega
  have hhi : v.tmod n < (n : Int) := Int.tmod_lt_of_pos v (by omega)
  go_enter Try.func23, Try.ntmps23
  go_wp2
  · go_ret
    exact ⟨v.tmod n + n, by omega, by omega, rfl, rfl⟩
  · go_ret
    exact ⟨v.tmod n, by omega, by omega, rfl, rfl⟩

theorem fresh_any (a : Option Addr) (c : Nat) (xs : List Int) (w : World) (R : Bag w a c xs) (hb : xs.length ≤ 1000) :
    Calls Try.prog 61 #[.slice a xs.length c] w (Makes xs w) := by
  obtain ⟨v, w', hr, a', c', e, r, f, bel⟩ := run_copy 26 26 Try.underlying26 a c xs w R (by omega)
  injection e with e
  subst e
  go_enter Try.func61, Try.ntmps61
  go_wp2_with (at_builtin; refine Lib.wpList_append_run _ rfl _ _ _ _ rfl _ _ rfl rfl _ _ hr ?_)
  go_ret
  exact ⟨a', c', rfl, r, f, bel⟩
theorem copy_any (a : Option Addr) (c : Nat) (xs : List Int) (w : World) (R : Bag w a c xs) (hb : xs.length ≤ 1000) :
    Calls Try.prog 22 #[.slice a xs.length c] w (Makes xs w) := by
  obtain ⟨v, w', hr, a', c', e, r, f, bel⟩ := run_copy 22 22 Try.underlying22 a c xs w R (by omega)
  injection e with e
  subst e
  go_enter Try.func22, Try.ntmps22
  go_wp2_with (at_builtin; refine Lib.wpList_append_run _ rfl _ _ _ _ rfl _ _ rfl rfl _ _ hr ?_)
  go_ret
  exact ⟨a', c', rfl, r, f, bel⟩
theorem copy_at (ad : Addr) (c : Nat) (xs : List Int) (w : World) (hc : ∀ j u, (ints xs)[j]? = some u → w.cell? (ad.add j) = some u) (hb : xs.length ≤ 1000) :
    Calls Try.prog 22 #[.slice (some ad) xs.length c] w (Makes xs w) := by
  obtain ⟨v, w', hr, a', c', e, r, f, bel⟩ := run_copy_at 22 22 Try.underlying22 ad c xs w hc (by omega)
  injection e with e
  subst e
  clear hc
  go_enter Try.func22, Try.ntmps22
  go_wp2_with (at_builtin; refine Lib.wpList_append_run _ rfl _ _ _ _ rfl _ _ rfl rfl _ _ hr ?_)
  go_ret
  exact ⟨a', c', rfl, r, f, bel⟩

/-- Cut of a slice that came in. -/
theorem cut_in (a : Option Addr) (len cap : Nat) (zs : List Int) (w : World) (hlen : len ≤ 9223372036854775807) (hn : a = none → len = 0 ∧ cap = 0) (hcap : len ≤ cap) (hz : len ≤ zs.length) (HR : Hid (∀ k, k < len → RowAt w a zs k)) :
    Calls Try.prog 28 #[.slice a len cap, .int .i64 20] w (Makes (zs.take (min len 20)) w) := by
  have hlt : (zs.take (min len 20)).length = min len 20 := by rw [List.length_take]; omega
  have HL := Lib.hid hlt
  clear hlt
  by_cases h0 : len = 0
  · subst h0
    have e : zs.take (min 0 20) = [] := by simp
    rw [e]
    clear HL HR e
    cases a with
    | none =>
      obtain rfl := (hn rfl).2
      have C := copy_any none 0 [] w (Bag.nil w) (by simp)
      go_enter Try.func28, Try.ntmps28
      go_wp2_with (fail)
      refine C.mono ?_
      rintro e w' ⟨a', c', rfl, r, f, bel⟩
      go_wp2
      go_ret
      exact ⟨a', c', rfl, r, f, bel⟩
    | some ad =>
      have C := copy_at ad cap [] w (by simp [ints]) (by simp)
      go_enter Try.func28, Try.ntmps28
      go_wp2_with (fail)
      refine C.mono ?_
      rintro e w' ⟨a', c', rfl, r, f, bel⟩
      go_wp2
      go_ret
      exact ⟨a', c', rfl, r, f, bel⟩
  · obtain ⟨b, off, rfl, _⟩ := HR.out 0 (by omega)
    have C := copy_at ⟨b, off, none⟩ cap (zs.take (min len 20)) w (by
      intro j u hj
      have hj' := (List.getElem?_eq_some_iff.1 hj).1
      rw [ints_len, HL.out] at hj'
      obtain ⟨b', off', e, hc, _⟩ := HR.out j (by omega)
      injection e with e; injection e with e1 e2; subst e1; subst e2
      rw [Addr.add_lit, hc]
      rw [← hj]
      simp [ints, List.getD, show j < zs.length by omega, show j < min len 20 by omega]) (by rw [HL.out]; omega)
    rw [HL.out] at C
    clear HR
    have h1 : min len 20 ≤ cap := by omega
    by_cases h20 : len ≤ 20
    · have e20 : min len 20 = len := by omega
      rw [e20] at C ⊢
      clear e20 HL
      generalize zs.take len = ys at C ⊢
      go_enter Try.func28, Try.ntmps28
      go_wp2_with (fail)
      refine C.mono ?_
      rintro e w' ⟨a', c', rfl, r, f, bel⟩
      go_wp2
      go_ret
      exact ⟨a', c', rfl, r, f, bel⟩
    · have e20 : min len 20 = 20 := by omega
      rw [e20] at C ⊢
      clear e20 HL
      generalize zs.take 20 = ys at C ⊢
      go_enter Try.func28, Try.ntmps28
      go_wp2_with (fail)
      refine C.mono ?_
      rintro e w' ⟨a', c', rfl, r, f, bel⟩
      go_wp2
      go_ret
      exact ⟨a', c', rfl, r, f, bel⟩

/-- The same numbers? -/
def sameL (xs ys : List Int) : Bool := decide (xs = ys)
theorem same_self (xs : List Int) : sameL xs xs = true := by simp [sameL]
theorem same_len {xs ys : List Int} (h : xs.length ≠ ys.length) : sameL xs ys = false := by
  simp only [sameL, decide_eq_false_iff_not]
  rintro rfl
  exact h rfl
theorem same_at {xs ys : List Int} {k : Nat} (h : xs.getD k 0 ≠ ys.getD k 0) : sameL xs ys = false := by
  simp only [sameL, decide_eq_false_iff_not]
  rintro rfl
  exact h rfl
theorem same_all {xs ys : List Int} (hl : xs.length = ys.length) (h : ∀ j, j < xs.length → xs.getD j 0 = ys.getD j 0) : sameL xs ys = true := by
  rw [ext_getD hl h]; exact same_self ys

theorem same32 (a a' : Option Addr) (c c' : Nat) (xs ys : List Int) (w : World) (R : Bag w a c xs) (R' : Bag w a' c' ys) :
    Calls Try.prog 26 #[.slice a xs.length c, .slice a' ys.length c'] w (Reads (.bool (sameL xs ys)) w) := by
  have hle := R.le
  have hle' := R'.le
  have HR := Lib.hid R
  have HR' := Lib.hid R'
  clear R R'
  by_cases hl : xs.length = ys.length
  · obtain ⟨n, hn⟩ : ∃ n, n = xs.length := ⟨_, rfl⟩
    have hl' : n = ys.length := hn.trans hl
    rw [← hn] at hle ⊢
    rw [← hl'] at hle' ⊢
    have HN := Lib.hid hn.symm
    have HL := Lib.hid hl'
    clear hn hl hl'
    go_enter Try.func26, Try.ntmps26
    go_wp2
    go_loopw [5] (fun i wr => ∃ k q : Nat, k ≤ n ∧ i = .int .i64 k ∧ wr = w.drewN q ∧ Hid (∀ j, j < k → xs.getD j 0 = ys.getD j 0)) (fun i _ => n - (intOf i).toNat)
    case atStart => exact ⟨0, 0, Nat.zero_le _, rfl, rfl, Lib.hid (fun j h => by omega)⟩
    case round =>
      obtain ⟨k, q, hk, rfl, rfl, HE⟩ := hrel
      by_cases hlt : k < n
      · obtain ⟨g, rfl, hc⟩ := HR.out.at (k := k) (by rw [HN.out]; exact hlt)
        obtain ⟨g', rfl, hc'⟩ := HR'.out.at (k := k) (by rw [← HL.out]; exact hlt)
        by_cases he : xs.getD k 0 = ys.getD k 0
        · have HK := Lib.hid he
          rw [← he] at hc'
          clear he
          generalize xs.getD k 0 = z at hc hc'
          go_wp2
          go_quiet (fail)
          go_wp2
          go_roundw
          case rel => exact ⟨k + 1, _, by omega, by go_num, rfl, Lib.hid (fun j hj => by
            by_cases e : j = k
            · rw [e]; exact HK.out
            · exact HE.out j (by omega))⟩
          case measure => simp [intOf]; omega
        · have HK := Lib.hid (same_at he)
          have hne : ¬ xs.getD k 0 = ys.getD k 0 := he
          clear he
          generalize xs.getD k 0 = z at hc hne
          generalize ys.getD k 0 = z' at hc' hne
          go_wp2
          go_quiet (fail)
          go_wp2
          go_ret
          exact ⟨by rw [HK.out]; rfl, _, World.drewN_drewN _ _ _⟩
      · go_wp2
        go_ret
        exact ⟨by rw [same_all (by rw [HN.out, HL.out]) (fun j hj => HE.out j (by rw [HN.out] at hj; omega))]; rfl, _, rfl⟩
  · have HK := Lib.hid (same_len hl)
    go_enter Try.func26, Try.ntmps26
    go_wp2
    go_ret
    exact ⟨by rw [HK.out]; rfl, 0, rfl⟩

end Go.Proofs.Ytmbkiefbchjofaa

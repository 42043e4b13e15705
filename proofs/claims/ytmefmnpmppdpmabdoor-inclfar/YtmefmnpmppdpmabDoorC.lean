import Derived.Test.YtmefmnpmppdpmabDoorA
import Derived.Test.YtmefmnpmppdpmabDoorL
/- Contracts of the small functions: meter's and the reference's sum, cmp.Compare, cmp.Or, Within, at, copies, Same. -/
namespace Go.Proofs.YtmefmnpmppdpmabDoor
open Go.ChangeShapes Go.WideShapes Go.ChangeAt Go.RowKit

theorem counts_any (n : Int) (w : World) : Calls Tryd.prog 49 #[.int .i64 n] w fun e w' => e = .returned (.bool (okN n)) ∧ w = w' := by
  by_cases h : 0 ≤ n
  · have e : okN n = decide (n ≤ 1152921504606846976) := by simp [okN, h]
    have E := Lib.hid e
    clear e
    go_enter Tryd.func49, Tryd.ntmps49
    go_wp2
    go_ret
    exact ⟨by rw [E.out]; rfl, rfl⟩
  · have e : okN n = false := by simp [okN, h]
    have E := Lib.hid e
    clear e
    go_enter Tryd.func49, Tryd.ntmps49
    go_wp2
    go_ret
    exact ⟨by rw [E.out]; rfl, rfl⟩

theorem madd_yes (a b : Int) (w : World) (ha : okN a = true) (hb : okN b = true) (h : a + b ≤ 1152921504606846976) :
    Calls Tryd.prog 43 #[.int .i64 a, .int .i64 b] w fun e w' => e = .returned (.tuple #[.int .i64 (a + b), .bool true]) ∧ w = w' := by
  have A := okN_iff.1 ha
  have B := okN_iff.1 hb
  have h1 : 0 ≤ a := A.1
  have h2 : a ≤ 1152921504606846976 := A.2
  have h3 : 0 ≤ b := B.1
  have h4 : b ≤ 1152921504606846976 := B.2
  have h5 : ¬ 1152921504606846976 - b < a := by omega
  have HA := Lib.hid ha
  have HB := Lib.hid hb
  clear A B ha hb
  go_enter Tryd.func43, Tryd.ntmps43
  go_wp2_with (fail)
  refine (counts_any _ _).mono ?_
  rintro e w' ⟨rfl, rfl⟩
  rw [HA.out]
  go_wp2_with (fail)
  refine (counts_any _ _).mono ?_
  rintro e w' ⟨rfl, rfl⟩
  rw [HB.out]
  go_wp2
  go_ret2
  exact ⟨rfl, rfl⟩
theorem madd_no (a b : Int) (w : World) (ha : okN a = true) (hb : okN b = true) (h : 1152921504606846976 < a + b) :
    Calls Tryd.prog 43 #[.int .i64 a, .int .i64 b] w fun e w' => e = .returned (.tuple #[.int .i64 0, .bool false]) ∧ w = w' := by
  have A := okN_iff.1 ha
  have B := okN_iff.1 hb
  have h1 : 0 ≤ a := A.1
  have h2 : a ≤ 1152921504606846976 := A.2
  have h3 : 0 ≤ b := B.1
  have h4 : b ≤ 1152921504606846976 := B.2
  have h5 : 1152921504606846976 - b < a := by omega
  have HA := Lib.hid ha
  have HB := Lib.hid hb
  clear A B ha hb
  go_enter Tryd.func43, Tryd.ntmps43
  go_wp2_with (fail)
  refine (counts_any _ _).mono ?_
  rintro e w' ⟨rfl, rfl⟩
  rw [HA.out]
  go_wp2_with (fail)
  refine (counts_any _ _).mono ?_
  rintro e w' ⟨rfl, rfl⟩
  rw [HB.out]
  go_wp2
  go_ret2
  exact ⟨rfl, rfl⟩

theorem nan_any (n : Int) (w : World) : Calls Tryd.prog 30 #[.int .i64 n] w fun e w' => e = .returned (.bool false) ∧ w = w' := by
  go_enter Tryd.func30, Tryd.ntmps30
  go_wp2
  go_ret
  exact ⟨rfl, rfl⟩
theorem cmp_int (x y : Int) (w : World) : Calls Tryd.prog 21 #[.int .i64 x, .int .i64 y] w fun e w' => e = .returned (.int .i64 (sgn x y)) ∧ w = w' := by
  rcases sgn_cases x y with ⟨h, e⟩ | ⟨h, e⟩ | ⟨h, e⟩
  · have E := Lib.hid e
    clear e
    go_enter Tryd.func21, Tryd.ntmps21
    go_wp2_with (fail)
    refine (nan_any _ _).mono ?_
    rintro e w' ⟨rfl, rfl⟩
    go_wp2_with (fail)
    refine (nan_any _ _).mono ?_
    rintro e w' ⟨rfl, rfl⟩
    go_wp2
    go_ret
    exact ⟨by rw [E.out]; rfl, rfl⟩
  · have E := Lib.hid e
    clear e
    subst h
    go_enter Tryd.func21, Tryd.ntmps21
    go_wp2_with (fail)
    refine (nan_any _ _).mono ?_
    rintro e w' ⟨rfl, rfl⟩
    go_wp2_with (fail)
    refine (nan_any _ _).mono ?_
    rintro e w' ⟨rfl, rfl⟩
    go_wp2
    go_ret
    exact ⟨by rw [E.out]; rfl, rfl⟩
  · have E := Lib.hid e
    have h' : ¬ x < y := by omega
    clear e
    go_enter Tryd.func21, Tryd.ntmps21
    go_wp2_with (fail)
    refine (nan_any _ _).mono ?_
    rintro e w' ⟨rfl, rfl⟩
    go_wp2_with (fail)
    refine (nan_any _ _).mono ?_
    rintro e w' ⟨rfl, rfl⟩
    go_wp2
    go_ret
    exact ⟨by rw [E.out]; rfl, rfl⟩

theorem fresh_any (a : Option Addr) (c : Nat) (xs : List Int) (w : World) (R : Bag w a c xs) (hb : xs.length ≤ 1000) :
    Calls Tryd.prog 34 #[.slice a xs.length c] w (Makes xs w) := by
  obtain ⟨v, w', hr, a', c', e, r, f, bel⟩ := run_copy 24 24 Tryd.underlying24 a c xs w R (by omega)
  injection e with e
  subst e
  go_enter Tryd.func34, Tryd.ntmps34
  go_wp2_with (at_builtin; refine Lib.wpList_append_run _ rfl _ _ _ _ rfl _ _ rfl rfl _ _ hr ?_)
  go_ret
  exact ⟨a', c', rfl, r, f, bel⟩


/-- The same numbers? -/
def sameL (xs ys : List Int) : Bool := decide (xs = ys)
theorem same_self (xs : List Int) : sameL xs xs = true := by simp [sameL]
theorem same_len {xs ys : List Int} (h : xs.length ≠ ys.length) : sameL xs ys = false := by
  simp only [sameL, decide_eq_false_iff_not]
  rintro rfl
  exact h rfl
theorem same_at {xs ys : List Int} {k : Nat} (h : xs.getD k 0 ≠ ys.getD k 0) : sameL xs ys = false := by
  simp only [sameL, decide_eq_false_iff_not]
  rintro rfl
  exact h rfl
theorem same_all {xs ys : List Int} (hl : xs.length = ys.length) (h : ∀ j, j < xs.length → xs.getD j 0 = ys.getD j 0) : sameL xs ys = true := by
  rw [ext_getD hl h]; exact same_self ys

theorem same32 (a a' : Option Addr) (c c' : Nat) (xs ys : List Int) (w : World) (R : Bag w a c xs) (R' : Bag w a' c' ys) :
    Calls Tryd.prog 7 #[.slice a xs.length c, .slice a' ys.length c'] w (Reads (.bool (sameL xs ys)) w) := by
  have hle := R.le
  have hle' := R'.le
  have HR := Lib.hid R
  have HR' := Lib.hid R'
  clear R R'
  by_cases hl : xs.length = ys.length
  · obtain ⟨n, hn⟩ : ∃ n, n = xs.length := ⟨_, rfl⟩
    have hl' : n = ys.length := hn.trans hl
    rw [← hn] at hle ⊢
    rw [← hl'] at hle' ⊢
    have HN := Lib.hid hn.symm
    have HL := Lib.hid hl'
    clear hn hl hl'
    go_enter Tryd.func7, Tryd.ntmps7
    go_wp2
    go_loopw [5] (fun i wr => ∃ k q : Nat, k ≤ n ∧ i = .int .i64 k ∧ wr = w.drewN q ∧ Hid (∀ j, j < k → xs.getD j 0 = ys.getD j 0)) (fun i _ => n - (intOf i).toNat)
    case atStart => exact ⟨0, 0, Nat.zero_le _, rfl, rfl, Lib.hid (fun j h => by omega)⟩
    case round =>
      obtain ⟨k, q, hk, rfl, rfl, HE⟩ := hrel
      by_cases hlt : k < n
      · obtain ⟨g, rfl, hc⟩ := HR.out.at (k := k) (by rw [HN.out]; exact hlt)
        obtain ⟨g', rfl, hc'⟩ := HR'.out.at (k := k) (by rw [← HL.out]; exact hlt)
        by_cases he : xs.getD k 0 = ys.getD k 0
        · have HK := Lib.hid he
          rw [← he] at hc'
          clear he
          generalize xs.getD k 0 = z at hc hc'
          go_wp2
          go_quiet (fail)
          go_wp2
          go_roundw
          case rel => exact ⟨k + 1, _, by omega, by go_num, rfl, Lib.hid (fun j hj => by
            by_cases e : j = k
            · rw [e]; exact HK.out
            · exact HE.out j (by omega))⟩
          case measure => simp [intOf]; omega
        · have HK := Lib.hid (same_at he)
          have hne : ¬ xs.getD k 0 = ys.getD k 0 := he
          clear he
          generalize xs.getD k 0 = z at hc hne
          generalize ys.getD k 0 = z' at hc' hne
          go_wp2
          go_quiet (fail)
          go_wp2
          go_ret
          exact ⟨by rw [HK.out]; rfl, _, World.drewN_drewN _ _ _⟩
      · go_wp2
        go_ret
        exact ⟨by rw [same_all (by rw [HN.out, HL.out]) (fun j hj => HE.out j (by rw [HN.out] at hj; omega))]; rfl, _, rfl⟩
  · have HK := Lib.hid (same_len hl)
    go_enter Tryd.func7, Tryd.ntmps7
    go_wp2
    go_ret
    exact ⟨by rw [HK.out]; rfl, 0, rfl⟩

end Go.Proofs.YtmefmnpmppdpmabDoor

/-! Contracts of Right, Norm, One, trim and of the reference's RightBag, NormBag, OneBag. -/
namespace Go.Proofs.YtmefmnpmppdpmabDoor
open Go.ChangeShapes Go.WideShapes Go.ChangeAt Go.RowKit

theorem right_end {l : List Int} {n : Nat} {z : Int} (hn : l.length = n) (hz : l.getD (n - 1) 0 = z) (h12 : n ≤ 12) (hall : ∀ j, j < n → okN (l.getD j 0) = true) (h0 : 0 < n) : rightL l = (((n : Int) == 0) || (z != 0)) := by
  subst hn
  subst hz
  have hne : ((l.length : Int) == 0) = false := by simp; rintro rfl; simp at h0
  rw [hne, Bool.false_or]
  by_cases hz : l.getD (l.length - 1) 0 = 0
  · rw [right_zero h0 hz, hz]; rfl
  · rw [right_of h12 (fun j hj => okN_iff.1 (hall j hj)) (fun _ => hz)]
    exact (bne_iff_ne.2 hz).symm
theorem right_nil : rightL [] = true := by decide

set_option maxHeartbeats 1000000 in
theorem right16 (a : Option Addr) (c : Nat) (xs : List Int) (w : World) (R : Bag w a c xs) :
    Calls Tryd.prog 19 #[.slice a xs.length c] w fun e w' => e = .returned (.bool (rightL xs)) ∧ w = w' := by
  have hle := R.le
  have HR := Lib.hid R
  clear R
  obtain ⟨n, hn⟩ : ∃ n, n = xs.length := ⟨_, rfl⟩
  rw [← hn] at hle ⊢
  have HN := Lib.hid hn.symm
  clear hn
  by_cases h12 : 12 < n
  · have E := Lib.hid (right_long (l := xs) (by rw [HN.out]; exact h12))
    go_enter Tryd.func19, Tryd.ntmps19
    go_wp2
    go_ret
    exact ⟨by rw [E.out]; rfl, rfl⟩
  · go_enter Tryd.func19, Tryd.ntmps19
    go_wp2
    go_loop [10] (fun i => ∃ k : Nat, k ≤ n ∧ i = .int .i64 k ∧ Hid (∀ j, j < k → okN (xs.getD j 0) = true)) (fun i => n - (intOf i).toNat)
    case atStart => exact ⟨0, Nat.zero_le _, rfl, Lib.hid (fun j h => by omega)⟩
    case round =>
      obtain ⟨k, hk, rfl, HE⟩ := hrel
      by_cases hlt : k < n
      · obtain ⟨g, rfl, hc⟩ := HR.out.at (k := k) (by rw [HN.out]; exact hlt)
        by_cases h0 : xs.getD k 0 < 0
        · have E := Lib.hid (right_bad (l := xs) (j := k) (okN_no.2 (.inl h0)))
          generalize xs.getD k 0 = z at hc h0
          go_wp2
          go_ret
          exact ⟨by rw [E.out]; rfl, rfl⟩
        · by_cases h1 : 1152921504606846976 < xs.getD k 0
          · have E := Lib.hid (right_bad (l := xs) (j := k) (okN_no.2 (.inr h1)))
            generalize xs.getD k 0 = z at hc h0 h1
            go_wp2
            go_ret
            exact ⟨by rw [E.out]; rfl, rfl⟩
          · have E := Lib.hid (show okN (xs.getD k 0) = true from okN_iff.2 ⟨by omega, by omega⟩)
            generalize xs.getD k 0 = z at hc h0 h1
            go_wp2
            go_round
            case rel => exact ⟨k + 1, by omega, by go_num, Lib.hid (fun j hj => by
              by_cases e : j = k
              · rw [e]; exact E.out
              · exact HE.out j (by omega))⟩
            case measure => simp [intOf]; omega
      · by_cases h0 : n = 0
        · subst h0
          obtain rfl : xs = [] := List.eq_nil_of_length_eq_zero HN.out
          go_wp2
          go_ret
          exact ⟨by rw [right_nil]; rfl, rfl⟩
        · obtain ⟨g, rfl, hc⟩ := HR.out.at (k := n - 1) (by rw [HN.out]; omega)
          generalize hz : xs.getD (n - 1) 0 = z at hc
          have E := Lib.hid (right_end (l := xs) HN.out hz (by omega) (fun j hj => HE.out j (by omega)) (by omega))
          clear hz
          have hn1 : (n : Int) - 1 = ((n - 1 : Nat) : Int) := by omega
          go_wp2
          go_ret
          exact ⟨by rw [E.out]; rfl, rfl⟩

end Go.Proofs.YtmefmnpmppdpmabDoor

/-! Contracts of trim, Norm, One, and of the reference's NormBag, OneBag; the example. -/
namespace Go.Proofs.YtmefmnpmppdpmabDoor
open Go.ChangeShapes Go.WideShapes Go.ChangeAt Go.RowKit

theorem Bag.trim {w : World} {a : Option Addr} {c : Nat} {xs : List Int} (h : Bag w a c xs) : Bag w a c (trimL xs) := h.cut (cut_le xs)
theorem trim_is {xs : List Int} {n k : Nat} (_hn : xs.length = n) (_hk : k ≤ n) (h : ∀ i, k ≤ i → xs.getD i 0 = 0) (h' : k = 0 ∨ xs.getD (k - 1) 0 ≠ 0) : (trimL xs).length = k := by
  rw [trim_len, cut_of xs k h h']
theorem ret_len {a : Option Addr} {m n c : Nat} (h : m = n) : Ending.returned (.slice a m c) = .returned (.slice a n c) := by rw [h]

theorem trim_some (g c : Nat) (xs : List Int) (w : World) (R : Bag w (some ⟨g, 0, none⟩) c xs) :
    Calls Tryd.prog 33 #[.slice (some ⟨g, 0, none⟩) xs.length c] w fun e w' => e = .returned (.slice (some ⟨g, 0, none⟩) (trimL xs).length c) ∧ w = w' := by
  have hle := R.le
  have HR := Lib.hid R
  clear R
  obtain ⟨n, hn⟩ : ∃ n, n = xs.length := ⟨_, rfl⟩
  rw [← hn] at hle ⊢
  have HN := Lib.hid hn.symm
  clear hn
  generalize hm : (trimL xs).length = m
  have HM := Lib.hid hm
  clear hm
  go_enter Tryd.func33, Tryd.ntmps33
  go_wp2
  go_loop [3] (fun i => ∃ k : Nat, k ≤ n ∧ i = .int .i64 k ∧ Hid (∀ i, k ≤ i → xs.getD i 0 = 0)) (fun i => (intOf i).toNat)
  case atStart => exact ⟨n, Nat.le_refl _, rfl, Lib.hid (fun j h => getD_past (by rw [HN.out]; exact h))⟩
  case round =>
    obtain ⟨k, hk, rfl, HE⟩ := hrel
    by_cases hlt : 0 < k
    · obtain ⟨g', e, hc⟩ := HR.out.at (k := k - 1) (by rw [HN.out]; omega)
      injection e with e; injection e with e; subst e
      have hk1 : (k : Int) - 1 = ((k - 1 : Nat) : Int) := by omega
      by_cases hz : xs.getD (k - 1) 0 = 0
      · have HZ := Lib.hid hz
        rw [hz] at hc
        clear hz
        go_wp2
        go_round
        case rel => exact ⟨k - 1, by omega, rfl, Lib.hid (fun j hj => by
          by_cases e : j = k - 1
          · rw [e]; exact HZ.out
          · exact HE.out j (by omega))⟩
        case measure => simp [intOf]; omega
      · have E : Hid (m = k) := Lib.hid (HM.out.symm.trans (trim_is HN.out hk HE.out (.inr hz)))
        have hkc : k ≤ c := by omega
        generalize xs.getD (k - 1) 0 = z at hc hz
        have hz' : (z == 0) = false := by simpa using hz
        go_wp2
        go_ret
        exact ⟨ret_len E.out.symm, rfl⟩
    · obtain rfl : k = 0 := by omega
      have E : Hid (m = 0) := Lib.hid (HM.out.symm.trans (trim_is HN.out hk HE.out (.inl rfl)))
      go_wp2
      go_ret
      exact ⟨ret_len E.out.symm, rfl⟩

theorem trim_nil (w : World) : Calls Tryd.prog 33 #[.slice none 0 0] w fun e w' => e = .returned (.slice none 0 0) ∧ w = w' := by
  go_enter Tryd.func33, Tryd.ntmps33
  go_wp2
  go_loop [3] (fun i => i = .int .i64 0) (fun _ => 0)
  case atStart => rfl
  case round =>
    obtain rfl := hrel
    go_wp2
    go_ret
    exact ⟨rfl, rfl⟩

theorem trim_any (a : Option Addr) (c : Nat) (xs : List Int) (w : World) (R : Bag w a c xs) :
    Calls Tryd.prog 33 #[.slice a xs.length c] w fun e w' => e = .returned (.slice a (trimL xs).length c) ∧ w = w' := by
  rcases R.form with ⟨rfl, rfl, rfl⟩ | ⟨g, rfl⟩
  · exact trim_nil w
  · exact trim_some g c xs w R

theorem norm19 (a : Option Addr) (c : Nat) (xs : List Int) (w : World) (R : Bag w a c xs) (hb : xs.length ≤ 1000) :
    Calls Tryd.prog 25 #[.slice a xs.length c] w (Makes (normL xs) w) := by
  have T := trim_any a c xs w R
  have R1 := R.trim
  have hl : (trimL xs).length ≤ 1000 := by rw [trim_len]; have := cut_le xs; omega
  have HY := Lib.hid (norm_yes (l := xs))
  have HN := Lib.hid (norm_no (l := xs))
  have Z := right16 a c (trimL xs) w R1
  have F := fresh_any a c (trimL xs) w R1 hl
  clear R R1 hl
  generalize trimL xs = ys at *
  cases hr : rightL ys with
  | true =>
    have E := Lib.hid (HY.out hr)
    rw [hr] at Z
    clear HY HN hr
    go_enter Tryd.func25, Tryd.ntmps25
    go_wp2_with (fail)
    refine T.mono ?_
    rintro e w' ⟨rfl, rfl⟩
    go_wp2_with (fail)
    refine Z.mono ?_
    rintro e w' ⟨rfl, rfl⟩
    go_wp2_with (fail)
    refine F.mono ?_
    rintro e w' ⟨a', c', rfl, r, f, bel⟩
    go_wp2
    go_ret
    rw [E.out]
    exact ⟨a', c', rfl, r, f, bel⟩
  | false =>
    have E := Lib.hid (HN.out hr)
    rw [hr] at Z
    clear HY HN hr
    go_enter Tryd.func25, Tryd.ntmps25
    go_wp2_with (fail)
    refine T.mono ?_
    rintro e w' ⟨rfl, rfl⟩
    go_wp2_with (fail)
    refine Z.mono ?_
    rintro e w' ⟨rfl, rfl⟩
    go_wp2
    go_ret
    rw [E.out]
    exact ⟨none, 0, rfl, Bag.nil _, (fun _ e => nomatch e), Below.refl _ _⟩



end Go.Proofs.YtmefmnpmppdpmabDoor

/-! make of a bag; contracts of One and of the reference's OneBag; the example; the walk of the law BagOne. -/
namespace Go.Proofs.YtmefmnpmppdpmabDoor
open Go.ChangeShapes Go.WideShapes Go.ChangeAt Go.RowKit

theorem made_bag {w w' : World} {g n : Nat} (h : w'.ownsRow w.heap.size 3 1 (.slice (some ⟨g, 0, none⟩) n n) n (madeCells (Value.int .i64 0).cells (n * 1)).toList) : Bag w' (some ⟨g, 0, none⟩) n (tab n (fun _ => 0)) := by
  have e : (madeCells (Value.int .i64 0).cells (n * 1)).toList = ints (tab n (fun _ => 0)) := by
    rw [Nat.mul_one, show (Value.int .i64 0).cells = #[.int .i64 0] from rfl, toList_madeCells_one]
    apply List.ext_getElem
    · rw [List.length_replicate, ints_len, tab_len]
    · intro j h1 h2
      rw [List.getElem_replicate, ints_get (by rw [ints_len] at h2; exact h2), tab_get]
  rw [e] at h
  obtain ⟨a, c, e1, r, _⟩ := own_row h
  injection e1 with e1 _ e2
  subst e1; subst e2
  exact r

theorem wpList_make_bag (w : World) {ops : Array Oper} {rest : List Oper} {o : Oper} {a : Act} {Q : Exit → Act → World → Prop} (hg : o.guard = none) (l c : Operand) (hop : o.op = Op.makeSlice 24 l c)
    (L C : Int) (n : Nat) (hl : a.eval l = .int .i64 L) (hc : a.eval c = .int .i64 C) (hL : L = n) (hC : C = n) (hn : n ≤ 1000)
    (hK : ∀ w', Bag w' (some ⟨w.heap.size, 0, none⟩) n (tab n (fun _ => 0)) → Below w.heap.size w w' → wpList Tryd.prog ops Q rest (a.put o.dst (.slice (some ⟨w.heap.size, 0, none⟩) n n)) w') :
    wpList Tryd.prog ops Q (o :: rest) a w := by
  obtain ⟨i, hi, hz, hsz, hby⟩ := info_parts Tryd.info3
  refine wpList_make_full w hg l c 24 hop w.heap.size 3 i _ 1 Tryd.underlying24 hi hz hsz .i64 .i64 L C n hl hc hL hC (by rw [hby]; omega) (by unfold maxLen; omega) (Nat.le_refl _) ?_
  intro w' h1 h2
  exact hK w' (made_bag h1) ((Below.refl _ _).grown h2 (Nat.le_refl _) (fun k e => nomatch e))




theorem one25_no (t n : Int) (w : World) (h : oneOk t n = false) : Calls Tryd.prog 5 #[.int .i64 t, .int .i64 n] w (Makes [] w) := by
  have H : t < 0 ∨ 12 ≤ t ∨ n < 1 ∨ 1152921504606846976 < n := by
    have h' : ¬ _ := fun e => Bool.false_ne_true (h.symm.trans (one_iff.2 e))
    omega
  clear h
  by_cases h1 : t < 0
  · go_enter Tryd.func5, Tryd.ntmps5
    go_wp2
    go_ret
    exact ⟨none, 0, rfl, Bag.nil _, (fun _ e => nomatch e), Below.refl _ _⟩
  · by_cases h2 : 12 ≤ t
    · go_enter Tryd.func5, Tryd.ntmps5
      go_wp2
      go_ret
      exact ⟨none, 0, rfl, Bag.nil _, (fun _ e => nomatch e), Below.refl _ _⟩
    · by_cases h3 : n < 1
      · go_enter Tryd.func5, Tryd.ntmps5
        go_wp2
        go_ret
        exact ⟨none, 0, rfl, Bag.nil _, (fun _ e => nomatch e), Below.refl _ _⟩
      · have h4 : 1152921504606846976 < n := by omega
        go_enter Tryd.func5, Tryd.ntmps5
        go_wp2
        go_ret
        exact ⟨none, 0, rfl, Bag.nil _, (fun _ e => nomatch e), Below.refl _ _⟩
theorem one25_yes (k : Nat) (n : Int) (w : World) (hk : k < 12) (h1 : 1 ≤ n) (h2 : n ≤ 1152921504606846976) : Calls Tryd.prog 5 #[.int .i64 k, .int .i64 n] w (Makes (tab (k + 1) (fun j => if j = k then n else 0)) w) := by
  have g1 : ¬ ((k : Int) < 0) := by omega
  have g2 : ¬ (12 ≤ (k : Int)) := by omega
  have g3 : ¬ (n < 1) := by omega
  have g4 : ¬ (1152921504606846976 < n) := by omega
  go_enter Tryd.func5, Tryd.ntmps5
  go_wp2_with (at_make; refine wpList_make_bag _ rfl _ _ rfl _ _ (k + 1) rfl rfl (by omega) (by omega) (by omega) ?_)
  intro w1 r1 b1
  obtain ⟨g, e, hc⟩ := r1.at (k := k) (by rw [tab_len]; omega)
  injection e with e; injection e with e
  have hne : w.heap.size = g := e
  have hfz := r1.frozen k
  have R2 := Lib.hid (r1.set (j := k) (by rw [tab_len]; omega) n)
  have B2 := Lib.hid (b1.setCell (p := ⟨w.heap.size, k, none⟩) (Nat.le_refl _) (.int .i64 n))
  subst hne
  clear r1 b1
  go_wp2
  go_ret
  exact ⟨_, _, ret_len (tab_len _ _).symm, by have := R2.out; rw [tab_set] at this; exact this, fun g e => by injection e with e; injection e with e; omega, B2.out⟩



theorem one25 (t n : Int) (w : World) : Calls Tryd.prog 5 #[.int .i64 t, .int .i64 n] w (Makes (oneL t n) w) := by
  unfold oneL
  cases h : oneOk t n with
  | false => exact one25_no t n w h
  | true =>
    have H := one_iff.1 h
    obtain ⟨k, rfl⟩ : ∃ k : Nat, t = k := ⟨t.toNat, by omega⟩
    exact one25_yes k n w (by omega) H.2.1 H.2.2

theorem bag_new2 (w : World) (x y : Int) : Bag (w.alloc (.cells #[.int .i64 x, .int .i64 y] 3)) (some ⟨w.heap.size, 0, none⟩) 2 [x, y] :=
  .inr ⟨_, [], rfl, rfl, by omega, Lies.new w 3 [.int .i64 x, .int .i64 y]⟩
theorem below_alloc (w : World) (o : Obj) : Below w.heap.size w (w.alloc o) := (Below.refl _ _).alloc (Nat.le_refl _) o

end Go.Proofs.YtmefmnpmppdpmabDoor

/-! Contracts of cmp.Or, slices.Compare, Compare and of the reference's CompareBag. -/
namespace Go.Proofs.YtmefmnpmppdpmabDoor
open Go.ChangeShapes Go.WideShapes Go.ChangeAt Go.RowKit

theorem or33 (a : Option Addr) (c : Nat) (p q : Int) (w : World) (R : Bag w a c [p, q]) :
    Calls Tryd.prog 20 #[.slice a 2 c] w fun e w' => e = .returned (.int .i64 (orI p q)) ∧ w = w' := by
  obtain ⟨g, rfl, hc0⟩ := R.at (k := 0) (by simp)
  obtain ⟨g', e, hc1⟩ := R.at (k := 1) (by simp)
  injection e with e; injection e with e
  have hg : g = g' := e
  subst hg
  have hp : w.cell? ⟨g, 0, none⟩ = some (.int .i64 p) := hc0
  have hq : w.cell? ⟨g, 1, none⟩ = some (.int .i64 q) := hc1
  clear hc0 hc1 e R
  by_cases h0 : p = 0
  · have H : Hid (orI p q = q) := Lib.hid (by simp [orI, h0])
    rw [h0] at hp
    clear h0
    by_cases h1 : q = 0
    · rw [h1] at hq
      have HQ := Lib.hid h1
      clear h1
      go_enter Tryd.func20, Tryd.ntmps20
      go_wp2
      go_loop [8] (fun i => ∃ k : Nat, k ≤ 2 ∧ i = .int .i64 k) (fun i => 2 - (intOf i).toNat)
      case atStart => exact ⟨0, Nat.zero_le _, rfl⟩
      case round =>
        obtain ⟨k, hk, rfl⟩ := hrel
        obtain rfl | rfl | rfl : k = 0 ∨ k = 1 ∨ k = 2 := by omega
        · go_wp2
          go_round
          case rel => exact ⟨1, by omega, rfl⟩
          case measure => simp [intOf]
        · go_wp2
          go_round
          case rel => exact ⟨2, by omega, rfl⟩
          case measure => simp [intOf]
        · go_wp2
          go_ret
          exact ⟨by rw [H.out, HQ.out]; rfl, rfl⟩
    · go_enter Tryd.func20, Tryd.ntmps20
      go_wp2
      go_loop [8] (fun i => ∃ k : Nat, k ≤ 1 ∧ i = .int .i64 k) (fun i => 2 - (intOf i).toNat)
      case atStart => exact ⟨0, Nat.zero_le _, rfl⟩
      case round =>
        obtain ⟨k, hk, rfl⟩ := hrel
        obtain rfl | rfl : k = 0 ∨ k = 1 := by omega
        · go_wp2
          go_round
          case rel => exact ⟨1, by omega, rfl⟩
          case measure => simp [intOf]
        · go_wp2
          go_ret
          exact ⟨by rw [H.out]; rfl, rfl⟩
  · have H : Hid (orI p q = p) := Lib.hid (by simp [orI, h0])
    go_enter Tryd.func20, Tryd.ntmps20
    go_wp2
    go_loop [8] (fun i => i = .int .i64 0) (fun _ => 0)
    case atStart => rfl
    case round =>
      obtain rfl := hrel
      go_wp2
      go_ret
      exact ⟨by rw [H.out]; rfl, rfl⟩

set_option maxHeartbeats 1000000 in
theorem cmp35 (a b : Option Addr) (c d : Nat) (xs ys : List Int) (w : World) (R : Bag w a c xs) (S : Bag w b d ys) :
    Calls Tryd.prog 29 #[.slice a xs.length c, .slice b ys.length d] w fun e w' => e = .returned (.int .i64 (lex xs ys)) ∧ w = w' := by
  have hle := R.le
  have hle' := S.le
  obtain ⟨l, hl⟩ : ∃ l, l = xs.length := ⟨_, rfl⟩
  obtain ⟨m, hm⟩ : ∃ m, m = ys.length := ⟨_, rfl⟩
  rw [← hl] at hle ⊢
  rw [← hm] at hle' ⊢
  have HL := Lib.hid hl.symm
  have HM := Lib.hid hm.symm
  have HR := Lib.hid R
  have HS := Lib.hid S
  clear hl hm R S
  go_enter Tryd.func29, Tryd.ntmps29
  go_wp2
  go_loop [11] (fun i => ∃ k : Nat, k ≤ l ∧ i = .int .i64 k ∧ Hid (lex xs ys = lex (xs.drop k) (ys.drop k))) (fun i => l - (intOf i).toNat)
  case atStart => exact ⟨0, Nat.zero_le _, rfl, Lib.hid rfl⟩
  case round =>
    obtain ⟨k, hk, rfl, HE⟩ := hrel
    by_cases hlt : k < l
    · obtain ⟨g, rfl, hc⟩ := HR.out.at (k := k) (by rw [HL.out]; exact hlt)
      by_cases hkm : k < m
      · obtain ⟨g2, rfl, hd⟩ := HS.out.at (k := k) (by rw [HM.out]; exact hkm)
        have st := lex_step (a := xs) (b := ys) (k := k) (by rw [HL.out]; exact hlt) (by rw [HM.out]; exact hkm)
        have C := cmp_int (xs.getD k 0) (ys.getD k 0) w
        rcases sgn_cases (xs.getD k 0) (ys.getD k 0) with ⟨h, e⟩ | ⟨h, e⟩ | ⟨h, e⟩
        · rw [if_pos h] at st
          have H := Lib.hid (HE.out.trans st)
          rw [e] at C
          clear st e h
          generalize xs.getD k 0 = p at *
          generalize ys.getD k 0 = q at *
          go_wp2_with (fail)
          refine C.mono ?_
          rintro e w' ⟨rfl, rfl⟩
          go_wp2
          go_ret
          exact ⟨by rw [H.out]; rfl, rfl⟩
        · rw [if_neg (by omega), if_neg (by omega)] at st
          have H := Lib.hid (HE.out.trans st)
          rw [e] at C
          clear st e h
          generalize xs.getD k 0 = p at *
          generalize ys.getD k 0 = q at *
          go_wp2_with (fail)
          refine C.mono ?_
          rintro e w' ⟨rfl, rfl⟩
          go_wp2
          go_round
          case rel => exact ⟨k + 1, by omega, by go_num, H⟩
          case measure => simp [intOf]; omega
        · rw [if_neg (by omega), if_pos h] at st
          have H := Lib.hid (HE.out.trans st)
          rw [e] at C
          clear st e h
          generalize xs.getD k 0 = p at *
          generalize ys.getD k 0 = q at *
          go_wp2_with (fail)
          refine C.mono ?_
          rintro e w' ⟨rfl, rfl⟩
          go_wp2
          go_ret
          exact ⟨by rw [H.out]; rfl, rfl⟩
      · have H := Lib.hid (HE.out.trans (lex_end' (a := xs) (b := ys) (k := k) (by rw [HL.out]; exact hlt) (by rw [HM.out]; omega)))
        generalize xs.getD k 0 = p at *
        go_wp2
        go_ret
        exact ⟨by rw [H.out]; rfl, rfl⟩
    · by_cases hlm : l < m
      · have H := Lib.hid (HE.out.trans (lex_end (a := xs) (b := ys) (k := k) (by rw [HL.out]; omega) (by rw [HM.out]; omega)))
        go_wp2
        go_ret
        exact ⟨by rw [H.out]; rfl, rfl⟩
      · have H := Lib.hid (HE.out.trans (lex_both (a := xs) (b := ys) (k := k) (by rw [HL.out]; omega) (by rw [HM.out]; omega)))
        go_wp2
        go_ret
        exact ⟨by rw [H.out]; rfl, rfl⟩

/-- What a call that tells a number, and leaves what there was, comes to. -/
def Tells (n : Int) (w : World) (e : Ending) (w' : World) : Prop := e = .returned (.int .i64 n) ∧ Below w.heap.size w w'

theorem cmp21 (a b : Option Addr) (c d : Nat) (xs ys : List Int) (w : World) (R : Bag w a c xs) (S : Bag w b d ys) :
    Calls Tryd.prog 18 #[.slice a xs.length c, .slice b ys.length d] w (Tells (cmpL xs ys) w) := by
  have Z := right16 a c xs w R
  have Z2 := right16 b d ys w S
  cases hx : rightL xs with
  | false =>
    have H := Lib.hid (cmp_no1 (b := ys) hx)
    rw [hx] at Z
    clear hx R S Z2
    go_enter Tryd.func18, Tryd.ntmps18
    go_wp2_with (fail)
    refine Z.mono ?_
    rintro e w' ⟨rfl, rfl⟩
    go_wp2
    go_ret
    exact ⟨by rw [H.out]; rfl, Below.refl _ _⟩
  | true =>
    cases hy : rightL ys with
    | false =>
      have H := Lib.hid (cmp_no2 (a := xs) hy)
      rw [hx] at Z
      rw [hy] at Z2
      clear hx hy R S
      go_enter Tryd.func18, Tryd.ntmps18
      go_wp2_with (fail)
      refine Z.mono ?_
      rintro e w' ⟨rfl, rfl⟩
      go_wp2_with (fail)
      refine Z2.mono ?_
      rintro e w' ⟨rfl, rfl⟩
      go_wp2
      go_ret
      exact ⟨by rw [H.out]; rfl, Below.refl _ _⟩
    | true =>
      have H := Lib.hid (cmp_yes hx hy)
      rw [hx] at Z
      rw [hy] at Z2
      have C := cmp_int xs.length ys.length w
      have C2 := cmp35 a b c d xs ys w R S
      clear hx hy R S
      generalize sgn xs.length ys.length = p at *
      generalize lex xs ys = q at *
      go_enter Tryd.func18, Tryd.ntmps18
      go_wp2_with (fail)
      refine Z.mono ?_
      rintro e w' ⟨rfl, rfl⟩
      go_wp2_with (fail)
      refine Z2.mono ?_
      rintro e w' ⟨rfl, rfl⟩
      go_wp2_with (fail)
      refine C.mono ?_
      rintro e w' ⟨rfl, rfl⟩
      go_wp2_with (fail)
      refine C2.mono ?_
      rintro e w' ⟨rfl, rfl⟩
      go_wp2_with (fail)
      refine (or33 (some ⟨w.heap.size, 0, none⟩) 2 p q _ (bag_new2 w p q)).mono ?_
      rintro e w' ⟨rfl, rfl⟩
      go_wp2
      go_ret
      exact ⟨by rw [H.out]; rfl, below_alloc _ _⟩



end Go.Proofs.YtmefmnpmppdpmabDoor

/-! Slices of bags in memory; append to them; each bag by its address, its capacity and its numbers. -/
namespace Go.Proofs.YtmefmnpmppdpmabDoor
open Go.ChangeShapes Go.WideShapes Go.ChangeAt Go.RowKit

/-- A bag in memory. -/
structure Bg where
  a : Option Addr
  c : Nat
  xs : List Int
def Bg.val (p : Bg) : Value := .slice p.a p.xs.length p.c
/-- The cells of a slice of bags. -/
def vals (ps : List Bg) : List Value := ps.map Bg.val
/-- What they say. -/
def words (ps : List Bg) : List (List Int) := ps.map Bg.xs
theorem vals_len (ps : List Bg) : (vals ps).length = ps.length := List.length_map ..
theorem words_len (ps : List Bg) : (words ps).length = ps.length := List.length_map ..
theorem words_get {ps : List Bg} {k : Nat} (hk : k < ps.length) : (words ps).getD k [] = (ps[k]).xs := by simp [words, List.getD, hk]
/-- A slice of bags, at the head of a block of its own, or nil; each bag so, too. -/
structure Bgs (w : World) (a : Option Addr) (c : Nat) (ps : List Bg) : Prop where
  row : Row w 24 a c (vals ps)
  each : ∀ p ∈ ps, Bag w p.a p.c p.xs
def Bags (w : World) (a : Option Addr) (c : Nat) (xss : List (List Int)) : Prop := ∃ ps, words ps = xss ∧ Bgs w a c ps
/-- The address is none, or at the head of a block from B on. -/
def From (B : Nat) (a : Option Addr) : Prop := ∀ g, a = some ⟨g, 0, none⟩ → B ≤ g
theorem From.none (B : Nat) : From B none := fun _ e => nomatch e
theorem From.mono {B B' : Nat} {a : Option Addr} (h : From B a) (hb : B' ≤ B) : From B' a := fun g e => Nat.le_trans hb (h g e)
section
variable {w w' : World} {a : Option Addr} {c : Nat} {ps : List Bg} {xss : List (List Int)}
theorem Bgs.nil (w : World) : Bgs w none 0 [] := ⟨Row.nil w _, fun p h => by simp at h⟩
theorem Bgs.below (h : Bgs w a c ps) (k : Below w.heap.size w w') : Bgs w' a c ps := ⟨h.row.below k, fun p hp => (h.each p hp).below k⟩
theorem Bgs.le (h : Bgs w a c ps) : ps.length ≤ c ∧ c ≤ 9223372036854775807 := by
  have := h.row.le
  rwa [vals_len] at this
theorem Bgs.at (h : Bgs w a c ps) {k : Nat} (hk : k < ps.length) : ∃ g, a = some ⟨g, 0, none⟩ ∧ w.cell? ⟨g, k, none⟩ = some (ps[k]).val ∧ Bag w (ps[k]).a (ps[k]).c (ps[k]).xs := by
  obtain ⟨g, e, hc⟩ := h.row.there (i := k) (by rw [vals_len]; exact hk)
  exact ⟨g, e, hc.trans (by simp [vals]), h.each _ (List.getElem_mem hk)⟩
theorem Bags.nil (w : World) : Bags w none 0 [] := ⟨[], rfl, Bgs.nil w⟩
theorem Bags.below (h : Bags w a c xss) (k : Below w.heap.size w w') : Bags w' a c xss := by
  obtain ⟨ps, hl, h⟩ := h
  exact ⟨ps, hl, h.below k⟩
theorem Bags.drewN (h : Bags w a c xss) (n : Nat) : Bags (w.drewN n) a c xss := h.below (below_drewN _ _ _)
theorem Bags.at (h : Bags w a c xss) {k : Nat} (hk : k < xss.length) : ∃ g b d, a = some ⟨g, 0, none⟩ ∧ w.cell? ⟨g, k, none⟩ = some (.slice b (xss.getD k []).length d) ∧ Bag w b d (xss.getD k []) := by
  obtain ⟨ps, rfl, h⟩ := h
  have hk' : k < ps.length := by rwa [words_len] at hk
  obtain ⟨g, e, hc, hb⟩ := h.at hk'
  rw [words_get hk']
  exact ⟨g, _, _, e, hc, hb⟩
theorem Bags.le (h : Bags w a c xss) : xss.length ≤ c ∧ c ≤ 9223372036854775807 := by
  obtain ⟨ps, rfl, h⟩ := h
  have := h.le
  rwa [words_len]
theorem Bags.lt (h : Bags w a c xss) {g : Nat} (e : a = some ⟨g, 0, none⟩) : g < w.heap.size := by
  obtain ⟨ps, rfl, h⟩ := h
  exact h.row.lt e
/-- A bag's block is no block of a slice of bags. -/
theorem Bag.apart {b : Option Addr} {d : Nat} {xs : List Int} (h : Bag w b d xs) {vs : List Value} (r : Row w 24 a c vs) {g : Nat} (e : b = some ⟨g, 0, none⟩) : a ≠ some ⟨g, 0, none⟩ := by
  rintro rfl
  subst e
  rcases h with ⟨h, _⟩ | ⟨g1, sp, h, _, _, l⟩
  · cases h
  · rcases r with ⟨h', _⟩ | ⟨g2, sp', h', _, _, l'⟩
    · cases h'
    · injection h with h; injection h with h
      injection h' with h'; injection h' with h'
      subst h; subst h'
      exact l.other l' (by decide) rfl
/-- All of them stand where only the row's own block has turned. -/
theorem Bgs.keptEach (h : Bgs w a c ps) (k : Kept (fun g => a = some ⟨g, 0, none⟩) w w') : ∀ p ∈ ps, Bag w' p.a p.c p.xs :=
  fun p hp => (h.each p hp).kept k (fun _ e => (h.each p hp).apart h.row e)
theorem Row.form (h : Row w 24 a c (vals ps)) : a = none ∨ ∃ g, a = some ⟨g, 0, none⟩ := by
  rcases h with ⟨e1, _⟩ | ⟨g', sp, e, _⟩
  · exact .inl e1
  · exact .inr ⟨g', e⟩
end
theorem Row.own {w : World} {t : TypeId} {a : Option Addr} {c : Nat} {xs : List Value} (h : Row w t a c xs) : w.ownsRow 0 t 1 (.slice a xs.length c) xs.length xs := by
  refine ⟨by rw [Nat.mul_one], ?_⟩
  rcases h with ⟨rfl, rfl, rfl⟩ | ⟨g, sp, rfl, hc, hm, l⟩
  · exact .inl ⟨rfl, rfl⟩
  · refine .inr ⟨g, c, _, rfl, Nat.zero_le _, l, by omega, by unfold maxLen; omega, ?_, ?_⟩
    · simp; omega
    · simp
theorem Tryd.infoBag : (Tryd.prog.info? 24).map (fun i => (i.zero, i.size, i.bytes)) = some (some (.slice none 0 0), 1, 24) := by kernel_rfl
theorem ownBlock_slice (a : Option Addr) (n c : Nat) (g : Nat) : (Value.slice a n c).ownBlock = some g ↔ ∃ x, a = some x ∧ x.block = g := by
  cases a <;> simp [Value.ownBlock]
/-- What append of the cells ys to the row a comes to. -/
def Appends (e : TypeId) (a : Option Addr) (xs ys : List Value) (w : World) (v : Value) (w' : World) : Prop :=
  ∃ a' c', v = .slice a' (xs.length + ys.length) c' ∧ Row w' e a' c' (xs ++ ys) ∧ Kept (fun g => a = some ⟨g, 0, none⟩) w w' ∧ ∀ g, a' = some ⟨g, 0, none⟩ → a = some ⟨g, 0, none⟩ ∨ w.heap.size ≤ g

theorem run_app_at (t ty e : TypeId) (hu : Tryd.prog.underlying t = some (.slice e)) (hinfo : (Tryd.prog.info? e).map (fun i => (i.zero, i.size, i.bytes)) = some (some (.slice none 0 0), 1, 24))
    (a : Option Addr) (c n : Nat) (xs : List Value) (w : World) (R : Row w e a c xs) (hn : n = xs.length) (ad : Addr) (m d : Nat) (ys : List Value) (hm : m = ys.length) (hc : ∀ j u, ys[j]? = some u → w.cell? (ad.add j) = some u) (h1 : ∀ u ∈ ys, u.oneCell' = true) (hb : xs.length + ys.length ≤ 1000000000000) :
    ∃ v w', (Builtin.append_ #[t, t] ty #[.slice a n c, .slice (some ad) m d]).run Tryd.prog w = .ok v w' ∧ Appends e a xs ys w v w' := by
  subst hn
  subst hm
  obtain ⟨i, hi, hz, hsz, hby⟩ := info_parts hinfo
  have hform : a = none ∨ ∃ g, a = some ⟨g, 0, none⟩ := by
    rcases R with ⟨e, _⟩ | ⟨g, _, e, _⟩
    · exact .inl e
    · exact .inr ⟨g, e⟩
  obtain ⟨v', w', hr, h2, h3, _, h5⟩ := run_append_own_at (P := Tryd.prog) w 0 t ty e i _ 1 24 hu hi hz hsz hby (by simp [Value.cells]) (by omega) _ xs.length xs R.own
    ad ys.length d ys (by rw [Nat.mul_one]) hc h1 (by unfold maxLen; omega) (by omega) (Nat.zero_le _)
  obtain ⟨a', c', rfl, r', _⟩ := own_row h2
  rw [List.length_append] at hr h5
  refine ⟨_, w', hr, a', c', rfl, r', ?_, fun g e => ?_⟩
  · refine ⟨h3.os, h3.tape, h3.output, h3.size, fun g hg hx => h3.block g hg (fun e => ?_)⟩
    obtain ⟨x, rfl, hx'⟩ := (ownBlock_slice a _ _ g).1 e.symm
    rcases hform with h | ⟨g', h⟩
    · cases h
    · injection h with h; subst h; subst hx'; exact hx rfl
  · subst e
    rcases h5 with h5 | h5
    · obtain ⟨x, rfl, hx⟩ := (ownBlock_slice a xs.length c g).1 (by rw [← h5]; rfl)
      rcases hform with h | ⟨g', h⟩
      · cases h
      · injection h with h; subst h; subst hx; exact .inl rfl
    · have : g = w.heap.size := by simpa [Value.ownBlock] using h5
      exact .inr (by omega)
theorem run_app_nil (t ty e : TypeId) (hu : Tryd.prog.underlying t = some (.slice e)) (hinfo : (Tryd.prog.info? e).map (fun i => (i.zero, i.size, i.bytes)) = some (some (.slice none 0 0), 1, 24))
    (a : Option Addr) (c n : Nat) (xs : List Value) (w : World) (R : Row w e a c xs) (hn : n = xs.length) :
    ∃ v w', (Builtin.append_ #[t, t] ty #[.slice a n c, .slice none 0 0]).run Tryd.prog w = .ok v w' ∧ Appends e a xs [] w v w' := by
  subst hn
  obtain ⟨i, hi, hz, hsz, hby⟩ := info_parts hinfo
  refine ⟨_, _, run_append_owned_none (w := w) 0 t ty e i 1 hu hi _ xs.length xs (by have := R.own; exact this), a, c, by simp, by simpa using R, Kept.refl _ _, fun g e => .inl e⟩
/-- append of a row to a row. -/
theorem run_app (t ty e : TypeId) (hu : Tryd.prog.underlying t = some (.slice e)) (hinfo : (Tryd.prog.info? e).map (fun i => (i.zero, i.size, i.bytes)) = some (some (.slice none 0 0), 1, 24))
    (a : Option Addr) (c n : Nat) (xs : List Value) (w : World) (R : Row w e a c xs) (hn : n = xs.length) (b : Option Addr) (d m : Nat) (ys : List Value) (R' : Row w e b d ys) (hm : m = ys.length) (h1 : ∀ u ∈ ys, u.oneCell' = true) (hb : xs.length + ys.length ≤ 1000000000000) :
    ∃ v w', (Builtin.append_ #[t, t] ty #[.slice a n c, .slice b m d]).run Tryd.prog w = .ok v w' ∧ Appends e a xs ys w v w' := by
  rcases R' with ⟨rfl, rfl, rfl⟩ | ⟨g, sp, rfl, hc, hmx, hl⟩
  · subst hm
    exact run_app_nil t ty e hu hinfo a c n xs w R hn
  · exact run_app_at t ty e hu hinfo a c n xs w R hn _ m d ys hm (fun j u hj => by rw [Addr.add_lit]; exact one_cell hl hj) h1 hb
end Go.Proofs.YtmefmnpmppdpmabDoor

/-! The reference's RightLin. -/
namespace Go.Proofs.YtmefmnpmppdpmabDoor
open Go.ChangeShapes Go.WideShapes Go.ChangeAt Go.RowKit

theorem rises_at {l : List (List Int)} (h : ∀ j, j < l.length → rightL (l.getD j []) = true ∧ l.getD j [] ≠ [] ∧ (0 < j → cmpL (l.getD (j - 1) []) (l.getD j []) < 0)) : risesB l = true := by
  induction l with
  | nil => rfl
  | cons x r ih =>
    have h0 := h 0 (by simp)
    have ih := ih (fun j hj => by
      have := h (j + 1) (by simp; omega)
      refine ⟨by simpa using this.1, by simpa using this.2.1, fun hp => ?_⟩
      have q := this.2.2 (by omega)
      obtain ⟨m, rfl⟩ : ∃ m, j = m + 1 := ⟨j - 1, by omega⟩
      simpa using q)
    cases r with
    | nil => simp [risesB] at h0 ⊢; exact ⟨h0.1, h0.2⟩
    | cons y s =>
      have h1 := (h 1 (by simp)).2.2 (by omega)
      have e : risesB (x :: y :: s) = (rightL x && decide (x ≠ []) && decide (cmpL x y < 0) && risesB (y :: s)) := rfl
      rw [e, ih]
      have a := h0.1
      have b := h0.2.1
      simp at a b h1
      simp [a, b, h1]
theorem rises_get {l : List (List Int)} (h : risesB l = true) {j : Nat} (hj : j < l.length) : rightL (l.getD j []) = true ∧ l.getD j [] ≠ [] ∧ (0 < j → cmpL (l.getD (j - 1) []) (l.getD j []) < 0) := by
  obtain ⟨g, p⟩ := rises_iff.1 h
  have e : l.getD j [] = l[j] := by simp [List.getD, hj]
  rw [e]
  refine ⟨(g _ (List.getElem_mem hj)).1, (g _ (List.getElem_mem hj)).2, fun h0 => ?_⟩
  have e' : l.getD (j - 1) [] = l[j - 1]'(by omega) := by simp [List.getD, show j - 1 < l.length by omega]
  rw [e']
  exact List.pairwise_iff_getElem.1 p (j - 1) j (by omega) hj (by omega)
theorem rises_bad {l : List (List Int)} {j : Nat} (hj : j < l.length) (h : ¬ (rightL (l.getD j []) = true ∧ l.getD j [] ≠ [] ∧ (0 < j → cmpL (l.getD (j - 1) []) (l.getD j []) < 0))) : risesB l = false := by
  rw [← Bool.not_eq_true]
  exact fun e => h (rises_get e hj)
end Go.Proofs.YtmefmnpmppdpmabDoor

/-! The reference's RightLin. -/
namespace Go.Proofs.YtmefmnpmppdpmabDoor
open Go.ChangeShapes Go.WideShapes Go.ChangeAt Go.RowKit

def TellsB (b : Bool) (w : World) (e : Ending) (w' : World) : Prop := e = .returned (.bool b) ∧ Below w.heap.size w w'

end Go.Proofs.YtmefmnpmppdpmabDoor

/-! The reference's SameBag and Point. -/
namespace Go.Proofs.YtmefmnpmppdpmabDoor
open Go.ChangeShapes Go.WideShapes Go.ChangeAt Go.RowKit


end Go.Proofs.YtmefmnpmppdpmabDoor

/-! The reference's SameLin. -/
namespace Go.Proofs.YtmefmnpmppdpmabDoor
open Go.ChangeShapes Go.WideShapes Go.ChangeAt Go.RowKit

end Go.Proofs.YtmefmnpmppdpmabDoor

/-! The program's noughts and the reference's zero: are all its numbers 0? The program's norm. -/
namespace Go.Proofs.YtmefmnpmppdpmabDoor
open Go.ChangeShapes Go.WideShapes Go.ChangeAt Go.RowKit

end Go.Proofs.YtmefmnpmppdpmabDoor

/-! The program's Right of a linear set. -/
namespace Go.Proofs.YtmefmnpmppdpmabDoor
open Go.ChangeShapes Go.WideShapes Go.ChangeAt Go.RowKit

theorem lt_right {a b : List Int} (h : cmpL a b < 0) : rightL a = true ∧ rightL b = true := by
  cases ha : rightL a with
  | false => rw [cmp_no1 ha] at h; omega
  | true =>
    cases hb : rightL b with
    | false => rw [cmp_no2 hb] at h; omega
    | true => exact ⟨rfl, rfl⟩
theorem lt_ne {a b : List Int} (h : cmpL a b < 0) : b ≠ [] := by
  rintro rfl
  obtain ⟨ha, hb⟩ := lt_right h
  rw [cmp_yes ha hb] at h
  cases a with
  | nil => simp [sgn, lex, orI] at h
  | cons x r =>
    rcases sgn_cases ((x :: r).length : Nat) (([] : List Int).length : Nat) with ⟨h', e⟩ | ⟨h', e⟩ | ⟨h', e⟩
    · simp at h'; omega
    · simp at h'; omega
    · rw [e] at h; simp [orI] at h
theorem nil_lt {p : List Int} (hp : rightL p = true) (hn : p ≠ []) : cmpL [] p < 0 := by
  rw [cmp_yes right_nil hp]
  cases p with
  | nil => exact absurd rfl hn
  | cons x r =>
    rcases sgn_cases (([] : List Int).length : Nat) ((x :: r).length : Nat) with ⟨h', e⟩ | ⟨h', e⟩ | ⟨h', e⟩
    · rw [e]; simp [orI]
    · simp at h'; omega
    · simp at h'; omega
/-- The one ahead of place k. -/
def ahead (l : List (List Int)) (k : Nat) : List Int := if k = 0 then [] else l.getD (k - 1) []

theorem right13 (a pa : Option Addr) (c pc : Nat) (x : Lin) (w : World) (R : Bag w a c x.base) (P : Bags w pa pc x.ps) :
    Calls Tryd.prog 12 #[.agg #[.slice a x.base.length c, .slice pa x.ps.length pc]] w (TellsB (rightLin x) w) := by
  have hle := P.le
  obtain ⟨n, hn⟩ : ∃ n, n = x.base.length := ⟨_, rfl⟩
  obtain ⟨m, hm⟩ : ∃ m, m = x.ps.length := ⟨_, rfl⟩
  have HB0 : Hid (Below w.heap.size w (w.alloc (.cells #[.slice a n c, .slice pa m pc] 28))) := Lib.hid ((Below.refl _ _).alloc (Nat.le_refl _) _)
  have HX : Hid (Lies (w.alloc (.cells #[.slice a n c, .slice pa m pc] 28)) w.heap.size 28 [.slice a n c, .slice pa m pc]) := Lib.hid (Lies.new w _ _)
  have HS : Hid (w.heap.size < (w.alloc (.cells #[.slice a n c, .slice pa m pc] 28)).heap.size) := Lib.hid HX.out.lt
  have HR : Hid (Bag (w.alloc (.cells #[.slice a n c, .slice pa m pc] 28)) a c x.base) := Lib.hid (R.below HB0.out)
  have HP : Hid (Bags (w.alloc (.cells #[.slice a n c, .slice pa m pc] 28)) pa pc x.ps) := Lib.hid (P.below HB0.out)
  rw [← hm] at hle
  rw [← hn, ← hm]
  have HN := Lib.hid hn.symm
  have HM := Lib.hid hm.symm
  clear R P hn hm
  go_enter Tryd.func12, Tryd.ntmps12
  go_wp2_with (fail)
  generalize w.alloc (.cells #[.slice a n c, .slice pa m pc] 28) = W at HB0 HX HS HR HP ⊢
  generalize hg : w.heap.size = gb at HX HS ⊢
  have HG := Lib.hid hg
  clear hg
  have p0 : W.cell? ⟨gb, 0, none⟩ = some (.slice a n c) := HX.out.cell 0
  have p1 : W.cell? ⟨gb, 1, none⟩ = some (.slice pa m pc) := HX.out.cell 1
  go_wp2
  go_loopw [3, 9] (fun b i wr => ∃ (k : Nat) (ba : Option Addr) (bc : Nat), k ≤ m ∧ i = .int .i64 k ∧ b = .slice ba (ahead x.ps k).length bc ∧ Hid (Bag W ba bc (ahead x.ps k)) ∧ Hid (Below W.heap.size W wr) ∧ Hid (∀ j, j < k → rightL (x.ps.getD j []) = true ∧ x.ps.getD j [] ≠ [] ∧ (0 < j → cmpL (x.ps.getD (j - 1) []) (x.ps.getD j []) < 0))) (fun _ i _ => m - (intOf i).toNat)
  case atStart => exact ⟨0, none, 0, Nat.zero_le _, rfl, rfl, Lib.hid (Bag.nil _), Lib.hid (Below.refl _ _), Lib.hid (fun j h => by omega)⟩
  case round =>
    obtain ⟨k, ba, bc, hk, rfl, rfl, HA, HW, HE⟩ := hrel
    clear p0 p1
    have p0 : wr.cell? ⟨gb, 0, none⟩ = some (.slice a n c) := (HW.out.cell (p := ⟨gb, 0, none⟩) HS.out).trans (HX.out.cell 0)
    by_cases hlt : k < m
    · obtain ⟨g, b, d, rfl, hc, hbag⟩ := (HP.out.below HW.out).at (k := k) (by rw [HM.out]; exact hlt)
      have HK : Hid (Bag W b d (x.ps.getD k [])) := Lib.hid (by
        obtain ⟨g', b', d', eg, hc', hbag'⟩ := HP.out.at (k := k) (by rw [HM.out]; exact hlt)
        injection eg with eg
        injection eg with eg
        subst eg
        have h2 := (HW.out.cell (p := ⟨g, k, none⟩) (HP.out.lt rfl)).symm.trans hc
        rw [hc'] at h2
        injection h2 with h2
        injection h2 with e1 _ e3
        subst e1; subst e3
        exact hbag')
      have Z := cmp21 ba b bc d (ahead x.ps k) (x.ps.getD k []) wr (HA.out.below HW.out) hbag
      have hab := HA.out.le
      have hbl := hbag.le
      generalize hl1 : (ahead x.ps k).length = l1 at Z hab ⊢
      generalize hl2 : (x.ps.getD k []).length = l2 at Z hbl hc
      have HL2 := Lib.hid hl2
      have HZ := Lib.hid Z
      clear Z hbag hl1 hl2
      go_wp2_with (fail)
      refine HZ.out.mono ?_
      rintro e w2 ⟨rfl, b2⟩
      clear HZ
      have HW2 : Hid (Below W.heap.size W w2) := Lib.hid (HW.out.trans (b2.mono HW.out.size))
      clear b2
      generalize hv : cmpL (ahead x.ps k) (x.ps.getD k []) = v
      by_cases hneg : v < 0
      · have HV : Hid (cmpL (ahead x.ps k) (x.ps.getD k []) < 0) := Lib.hid (by rw [hv]; exact hneg)
        clear hv
        have hx1 : ¬ 0 ≤ v := by omega
        have HK2 : Hid (Bag W b d (ahead x.ps (k + 1))) := Lib.hid (by unfold ahead; simpa using HK.out)
        have HL3 : Hid (l2 = (ahead x.ps (k + 1)).length) := Lib.hid (by unfold ahead; simpa using HL2.out.symm)
        go_wp2
        go_roundw
        case rel => exact ⟨k + 1, b, d, by omega, by go_num, by rw [HL3.out], HK2, HW2, Lib.hid (fun j hj => by
          by_cases e : j = k
          · rw [e]
            exact ⟨(lt_right HV.out).2, lt_ne HV.out, fun h0 => by
              have := HV.out
              unfold ahead at this
              rwa [if_neg (by omega)] at this⟩
          · exact HE.out j (by omega))⟩
        case measure => simp [intOf]; omega
      · have E : Hid (rightLin x = false) := Lib.hid (by
          have := rises_bad (l := x.ps) (j := k) (by rw [HM.out]; exact hlt) (fun h => by
            by_cases h0 : k = 0
            · have := nil_lt h.1 h.2.1
              unfold ahead at hv
              rw [if_pos h0] at hv
              omega
            · have := h.2.2 (by omega)
              unfold ahead at hv
              rw [if_neg h0] at hv
              omega)
          simp [rightLin, this])
        clear hv
        have hx1 : 0 ≤ v := by omega
        go_wp2
        go_ret
        exact ⟨by rw [E.out]; rfl, HB0.out.trans (HW2.out.mono (by have := HS.out; have := HG.out; omega))⟩
    · have E : Hid (rightLin x = rightL x.base) := Lib.hid (by
        have := rises_at (l := x.ps) (fun j hj => HE.out j (by rw [HM.out] at hj; omega))
        simp [rightLin, this])
      have Z := right16 a c x.base wr (HR.out.below HW.out)
      rw [HN.out] at Z
      have HZ := Lib.hid Z
      clear Z
      go_wp2_with (fail)
      refine HZ.out.mono ?_
      rintro e w' ⟨rfl, rfl⟩
      go_wp2
      go_ret
      exact ⟨by rw [E.out]; try rfl, HB0.out.trans (HW.out.mono (by have := HS.out; have := HG.out; omega))⟩
end Go.Proofs.YtmefmnpmppdpmabDoor

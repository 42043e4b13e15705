/- The walk of the law MeterLaws of chapter 1. -/
import Derived.Test.YtdfbomlnbogjkaaR
import Derived.Deep.DeepCutAuto
namespace Go.Proofs.Ytdfbomlnbogjkaa
open Go.ChangeShapes Go.WideShapes Go.ChangeAt Go.RowKit

theorem spendZ (b : Nat) (B S n : Int) (w : World) (a : At w b B S false) (h0 : 0 ≤ S) (h1 : S ≤ B) (h2 : B ≤ 9223372036854775807) (h : n ≤ B - S) (hn : n < 0) :
    Calls Try.prog 10 #[.pointer (some ⟨b, 0, none⟩), .int .i64 n] w fun e w' => e = .returned (.bool true) ∧ At w' b B S false ∧ Only b w w' :=
  (spend_yes b B S n w a h0 h1 h2 h).mono fun e w' ⟨he, ha, ho⟩ => by
    have E := lets_t (B := B) (S := S) (n := n) h
    rw [E.1] at he
    rw [E.1, E.2, show S + max n 0 = S by omega] at ha
    exact ⟨he, ha, ho⟩
theorem sum_comm (a b : Int) : sumOk b a = sumOk a b ∧ sumOf b a = sumOf a b := by
  have h : sumOk b a = sumOk a b := by unfold sumOk; exact decide_eq_decide.2 ⟨fun h => by omega, fun h => by omega⟩
  exact ⟨h, by unfold sumOf; rw [h, Int.add_comm]⟩
theorem mul_commut (a b : Int) : mulOk b a = mulOk a b ∧ mulOf b a = mulOf a b := by
  have h : mulOk b a = mulOk a b := by unfold mulOk; rw [Int.mul_comm]; exact decide_eq_decide.2 ⟨fun h => by omega, fun h => by omega⟩
  exact ⟨h, by unfold mulOf; rw [h, Int.mul_comm]⟩
theorem add_back (a b : Int) (w : World) (ha : -9223372036854775808 ≤ a ∧ a ≤ 9223372036854775807) (hb : -9223372036854775808 ≤ b ∧ b ≤ 9223372036854775807) :
    Calls Try.prog 15 #[.int .i64 b, .int .i64 a] w (Pair (sumOf a b) (sumOk a b) w) := by
  have h := add_any b a w hb ha
  rwa [(sum_comm a b).1, (sum_comm a b).2] at h
theorem mul_back (a b : Int) (w : World) : Calls Try.prog 17 #[.int .i64 b, .int .i64 a] w (Pair (mulOf a b) (mulOk a b) w) := by
  have h := mul_any b a w
  rwa [(mul_commut a b).1, (mul_commut a b).2] at h
theorem sum_facts (a b : Int) (h : sumOk a b = true) : ¬ sumOf a b < a ∧ ¬ sumOf a b < b ∧ ¬ 1152921504606846976 < sumOf a b := by
  have g : 0 ≤ a ∧ 0 ≤ b ∧ a + b ≤ 1152921504606846976 := of_decide_eq_true h
  rw [(sum_t g.1 g.2.1 g.2.2).2]
  omega
theorem add_pairs (a b : Int) (ha : -9223372036854775808 ≤ a ∧ a ≤ 9223372036854775807) (hb : -9223372036854775808 ≤ b ∧ b ≤ 9223372036854775807) :
    ∃ (s : Int) (p : Bool), Hid (p = true → ¬ s < a ∧ ¬ s < b ∧ ¬ 1152921504606846976 < s) ∧ Hid (∀ w, Calls Try.prog 15 #[.int .i64 a, .int .i64 b] w (Pair s p w)) ∧ Hid (∀ w, Calls Try.prog 15 #[.int .i64 b, .int .i64 a] w (Pair s p w)) :=
  ⟨sumOf a b, sumOk a b, Lib.hid (sum_facts a b), Lib.hid (fun w => add_any a b w ha hb), Lib.hid (fun w => add_back a b w ha hb)⟩
theorem mul_facts (a b : Int) (h : mulOk a b = true) : ¬ 1152921504606846976 < mulOf a b := by
  have g : 0 ≤ a ∧ a ≤ 1152921504606846976 ∧ 0 ≤ b ∧ b ≤ 1152921504606846976 ∧ a * b ≤ 1152921504606846976 := of_decide_eq_true h
  rw [(mul_ok_t g.1 g.2.1 g.2.2.1 g.2.2.2.1 g.2.2.2.2).2]
  omega
theorem mul_pairs (a b : Int) :
    ∃ (s : Int) (p : Bool), Hid (p = true → ¬ 1152921504606846976 < s) ∧ Hid (∀ w, Calls Try.prog 17 #[.int .i64 a, .int .i64 b] w (Pair s p w)) ∧ Hid (∀ w, Calls Try.prog 17 #[.int .i64 b, .int .i64 a] w (Pair s p w)) :=
  ⟨mulOf a b, mulOk a b, Lib.hid (mul_facts a b), Lib.hid (fun w => mul_any a b w), Lib.hid (fun w => mul_back a b w)⟩

set_option maxRecDepth 100000 in
set_option maxHeartbeats 4000000 in
theorem laws_neg (x y z : Int) (a : Option Addr) (len cap : Nat) (zs : List Int) (w : World) (hx : -9223372036854775808 ≤ x ∧ x ≤ 9223372036854775807) (hy : -9223372036854775808 ≤ y ∧ y ≤ 9223372036854775807)
    (hz : z < 0) (_hz1 : z ≤ 9223372036854775807) (hlen : len ≤ 9223372036854775807) (HR : Hid (∀ k, k < len → RowAt w a zs k)) :
    Calls Try.prog 6 #[.int .i64 x, .int .i64 y, .int .i64 z, .slice a len cap] w (LastPost w) := by
  obtain ⟨s, p, HS, HA, HB⟩ := add_pairs x y hx hy
  obtain ⟨t, q, HT, HC, HD⟩ := mul_pairs x y
  go_enter Try.func6, Try.ntmps6
  go_wp2_with (fail)
  refine (HA.out _).mono ?_
  rintro e w' ⟨rfl, rfl⟩
  go_wp2_with (fail)
  refine (HB.out _).mono ?_
  rintro e w' ⟨rfl, rfl⟩
  go_wp2_with (fail)
  refine (HC.out _).mono ?_
  rintro e w' ⟨rfl, rfl⟩
  go_wp2_with (fail)
  refine (HD.out _).mono ?_
  rintro e w' ⟨rfl, rfl⟩
  go_upto_region 5 with (fail)
  go_cut [89] (fun v wx => v = .bool false ∧ w = wx)
  case first =>
    cases p
    · cases q
      · go_wp2
        go_meet
        exact ⟨rfl, rfl⟩
      · have hf := HT.out rfl
        go_wp2
        go_meet
        exact ⟨by simp; omega, rfl⟩
    · obtain ⟨h1, h2, h3⟩ := HS.out rfl
      cases q
      · go_wp2
        go_meet
        exact ⟨by simp; omega, rfl⟩
      · have hf := HT.out rfl
        go_wp2
        go_meet
        exact ⟨by simp; omega, rfl⟩
  case rest =>
    obtain ⟨rfl, rfl⟩ := hcut
    clear HA HB HC HD HS HT hx hy
    go_wp2_with (fail)
    refine (new_any _ _).mono ?_
    rintro e w1 ⟨rfl, a1, b1, s1⟩
    have A0 : At w1 w.heap.size (0 : Int) 0 false := a1.to (by omega) rfl
    clear a1 s1
    go_wp2_with (fail)
    go_loopw [18, 96] (fun v i wr => ∃ (k : Nat) (S : Int) (o : Bool), k ≤ len ∧ i = .int .i64 k ∧ v = .int .i64 S ∧ 0 ≤ S ∧ S ≤ (0 : Int) ∧ At wr w.heap.size (0 : Int) S o ∧ Below w.heap.size w wr) (fun _ i _ => len - (intOf i).toNat)
    case atStart => exact ⟨0, 0, false, Nat.zero_le _, rfl, rfl, by omega, by omega, A0, b1⟩
    case round =>
      clear A0 b1
      obtain ⟨k, S, o, hk, rfl, rfl, hS0, hS1, A1, bel⟩ := hrel
      by_cases hlt : k < len
      · obtain ⟨b, off, rfl, hc0, hb, hn0, hn1⟩ := HR.out k hlt
        have hc := (bel.cell (p := ⟨b, off + k, none⟩) hb).trans hc0
        clear hc0
        generalize zs.getD k 0 = n at hc hn0 hn1
        cases o
        · by_cases hle : n ≤ (0 : Int) - S
          · by_cases hn : n < 0
            · skip
              go_wp2_with (fail)
              refine (out_any _ _ _ _ _ A1).mono ?_
              rintro e wx ⟨rfl, rfl⟩
              go_wp2_with (fail)
              refine (spendZ _ (0 : Int) S n _ A1 (by omega) (by omega) (by omega) (by omega) (by omega)).mono ?_
              rintro e w2 ⟨rfl, A2, o2⟩
              go_wp2_with (fail)
              refine (spent_any _ _ _ _ _ A2).mono ?_
              rintro e wx ⟨rfl, rfl⟩
              go_wp2
              go_roundw
              case rel => exact ⟨k + 1, S, false, by omega, by go_num, rfl, by omega, by omega, A2, bel.trans (o2.below (Nat.le_refl _))⟩
              case measure => simp [intOf]; omega
            · skip
              go_wp2_with (fail)
              refine (out_any _ _ _ _ _ A1).mono ?_
              rintro e wx ⟨rfl, rfl⟩
              go_wp2_with (fail)
              refine (spendY _ (0 : Int) S n _ A1 (by omega) (by omega) (by omega) (by omega) (by omega)).mono ?_
              rintro e w2 ⟨rfl, A2, o2⟩
              go_wp2_with (fail)
              refine (spent_any _ _ _ _ _ A2).mono ?_
              rintro e wx ⟨rfl, rfl⟩
              go_wp2
              go_roundw
              case rel => exact ⟨k + 1, S + n, false, by omega, by go_num, rfl, by omega, by omega, A2, bel.trans (o2.below (Nat.le_refl _))⟩
              case measure => simp [intOf]; omega
          · skip
            go_wp2_with (fail)
            refine (out_any _ _ _ _ _ A1).mono ?_
            rintro e wx ⟨rfl, rfl⟩
            go_wp2_with (fail)
            refine (spendN _ (0 : Int) S n _ A1 (by omega) (by omega) (by omega) (by omega)).mono ?_
            rintro e w2 ⟨rfl, A2, o2⟩
            go_wp2_with (fail)
            refine (spent_any _ _ _ _ _ A2).mono ?_
            rintro e wx ⟨rfl, rfl⟩
            go_wp2_with (fail)
            refine (out_any _ _ _ _ _ A2).mono ?_
            rintro e wx ⟨rfl, rfl⟩
            go_wp2
            go_roundw
            case rel => exact ⟨k + 1, S, true, by omega, by go_num, rfl, by omega, by omega, A2, bel.trans (o2.below (Nat.le_refl _))⟩
            case measure => simp [intOf]; omega
        · skip
          go_wp2_with (fail)
          refine (out_any _ _ _ _ _ A1).mono ?_
          rintro e wx ⟨rfl, rfl⟩
          go_wp2_with (fail)
          refine (spendO _ (0 : Int) S n _ A1).mono ?_
          rintro e w2 ⟨rfl, A2, o2⟩
          go_wp2_with (fail)
          refine (spent_any _ _ _ _ _ A2).mono ?_
          rintro e wx ⟨rfl, rfl⟩
          go_wp2_with (fail)
          refine (out_any _ _ _ _ _ A2).mono ?_
          rintro e wx ⟨rfl, rfl⟩
          go_wp2
          go_roundw
          case rel => exact ⟨k + 1, S, true, by omega, by go_num, rfl, by omega, by omega, A2, bel.trans (o2.below (Nat.le_refl _))⟩
          case measure => simp [intOf]; omega
      · go_wp2_with (fail)
        refine (wakes_any _).mono ?_
        rintro e w9 ⟨rfl, b9⟩
        go_wp2
        go_ret
        exact ⟨rfl, bel.trans (b9.mono bel.size)⟩

set_option maxRecDepth 100000 in
set_option maxHeartbeats 4000000 in
theorem laws_pos (x y z : Int) (a : Option Addr) (len cap : Nat) (zs : List Int) (w : World) (hx : -9223372036854775808 ≤ x ∧ x ≤ 9223372036854775807) (hy : -9223372036854775808 ≤ y ∧ y ≤ 9223372036854775807)
    (hz : 0 ≤ z) (_hz1 : z ≤ 9223372036854775807) (hlen : len ≤ 9223372036854775807) (HR : Hid (∀ k, k < len → RowAt w a zs k)) :
    Calls Try.prog 6 #[.int .i64 x, .int .i64 y, .int .i64 z, .slice a len cap] w (LastPost w) := by
  obtain ⟨s, p, HS, HA, HB⟩ := add_pairs x y hx hy
  obtain ⟨t, q, HT, HC, HD⟩ := mul_pairs x y
  go_enter Try.func6, Try.ntmps6
  go_wp2_with (fail)
  refine (HA.out _).mono ?_
  rintro e w' ⟨rfl, rfl⟩
  go_wp2_with (fail)
  refine (HB.out _).mono ?_
  rintro e w' ⟨rfl, rfl⟩
  go_wp2_with (fail)
  refine (HC.out _).mono ?_
  rintro e w' ⟨rfl, rfl⟩
  go_wp2_with (fail)
  refine (HD.out _).mono ?_
  rintro e w' ⟨rfl, rfl⟩
  go_upto_region 5 with (fail)
  go_cut [89] (fun v wx => v = .bool false ∧ w = wx)
  case first =>
    cases p
    · cases q
      · go_wp2
        go_meet
        exact ⟨rfl, rfl⟩
      · have hf := HT.out rfl
        go_wp2
        go_meet
        exact ⟨by simp; omega, rfl⟩
    · obtain ⟨h1, h2, h3⟩ := HS.out rfl
      cases q
      · go_wp2
        go_meet
        exact ⟨by simp; omega, rfl⟩
      · have hf := HT.out rfl
        go_wp2
        go_meet
        exact ⟨by simp; omega, rfl⟩
  case rest =>
    obtain ⟨rfl, rfl⟩ := hcut
    clear HA HB HC HD HS HT hx hy
    go_wp2_with (fail)
    refine (new_any _ _).mono ?_
    rintro e w1 ⟨rfl, a1, b1, s1⟩
    have A0 : At w1 w.heap.size (z : Int) 0 false := a1.to (by omega) rfl
    clear a1 s1
    go_wp2_with (fail)
    go_loopw [18, 96] (fun v i wr => ∃ (k : Nat) (S : Int) (o : Bool), k ≤ len ∧ i = .int .i64 k ∧ v = .int .i64 S ∧ 0 ≤ S ∧ S ≤ (z : Int) ∧ At wr w.heap.size (z : Int) S o ∧ Below w.heap.size w wr) (fun _ i _ => len - (intOf i).toNat)
    case atStart => exact ⟨0, 0, false, Nat.zero_le _, rfl, rfl, by omega, by omega, A0, b1⟩
    case round =>
      clear A0 b1
      obtain ⟨k, S, o, hk, rfl, rfl, hS0, hS1, A1, bel⟩ := hrel
      by_cases hlt : k < len
      · obtain ⟨b, off, rfl, hc0, hb, hn0, hn1⟩ := HR.out k hlt
        have hc := (bel.cell (p := ⟨b, off + k, none⟩) hb).trans hc0
        clear hc0
        generalize zs.getD k 0 = n at hc hn0 hn1
        cases o
        · by_cases hle : n ≤ (z : Int) - S
          · by_cases hn : n < 0
            · skip
              go_wp2_with (fail)
              refine (out_any _ _ _ _ _ A1).mono ?_
              rintro e wx ⟨rfl, rfl⟩
              go_wp2_with (fail)
              refine (spendZ _ (z : Int) S n _ A1 (by omega) (by omega) (by omega) (by omega) (by omega)).mono ?_
              rintro e w2 ⟨rfl, A2, o2⟩
              go_wp2_with (fail)
              refine (spent_any _ _ _ _ _ A2).mono ?_
              rintro e wx ⟨rfl, rfl⟩
              go_wp2
              go_roundw
              case rel => exact ⟨k + 1, S, false, by omega, by go_num, rfl, by omega, by omega, A2, bel.trans (o2.below (Nat.le_refl _))⟩
              case measure => simp [intOf]; omega
            · skip
              go_wp2_with (fail)
              refine (out_any _ _ _ _ _ A1).mono ?_
              rintro e wx ⟨rfl, rfl⟩
              go_wp2_with (fail)
              refine (spendY _ (z : Int) S n _ A1 (by omega) (by omega) (by omega) (by omega) (by omega)).mono ?_
              rintro e w2 ⟨rfl, A2, o2⟩
              go_wp2_with (fail)
              refine (spent_any _ _ _ _ _ A2).mono ?_
              rintro e wx ⟨rfl, rfl⟩
              go_wp2
              go_roundw
              case rel => exact ⟨k + 1, S + n, false, by omega, by go_num, rfl, by omega, by omega, A2, bel.trans (o2.below (Nat.le_refl _))⟩
              case measure => simp [intOf]; omega
          · skip
            go_wp2_with (fail)
            refine (out_any _ _ _ _ _ A1).mono ?_
            rintro e wx ⟨rfl, rfl⟩
            go_wp2_with (fail)
            refine (spendN _ (z : Int) S n _ A1 (by omega) (by omega) (by omega) (by omega)).mono ?_
            rintro e w2 ⟨rfl, A2, o2⟩
            go_wp2_with (fail)
            refine (spent_any _ _ _ _ _ A2).mono ?_
            rintro e wx ⟨rfl, rfl⟩
            go_wp2_with (fail)
            refine (out_any _ _ _ _ _ A2).mono ?_
            rintro e wx ⟨rfl, rfl⟩
            go_wp2
            go_roundw
            case rel => exact ⟨k + 1, S, true, by omega, by go_num, rfl, by omega, by omega, A2, bel.trans (o2.below (Nat.le_refl _))⟩
            case measure => simp [intOf]; omega
        · skip
          go_wp2_with (fail)
          refine (out_any _ _ _ _ _ A1).mono ?_
          rintro e wx ⟨rfl, rfl⟩
          go_wp2_with (fail)
          refine (spendO _ (z : Int) S n _ A1).mono ?_
          rintro e w2 ⟨rfl, A2, o2⟩
          go_wp2_with (fail)
          refine (spent_any _ _ _ _ _ A2).mono ?_
          rintro e wx ⟨rfl, rfl⟩
          go_wp2_with (fail)
          refine (out_any _ _ _ _ _ A2).mono ?_
          rintro e wx ⟨rfl, rfl⟩
          go_wp2
          go_roundw
          case rel => exact ⟨k + 1, S, true, by omega, by go_num, rfl, by omega, by omega, A2, bel.trans (o2.below (Nat.le_refl _))⟩
          case measure => simp [intOf]; omega
      · go_wp2_with (fail)
        refine (wakes_any _).mono ?_
        rintro e w9 ⟨rfl, b9⟩
        go_wp2
        go_ret
        exact ⟨rfl, bel.trans (b9.mono bel.size)⟩

end Go.Proofs.Ytdfbomlnbogjkaa

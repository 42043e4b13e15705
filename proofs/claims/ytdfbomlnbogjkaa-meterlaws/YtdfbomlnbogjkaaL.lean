/- The parts of the law MeterLast of chapter 1, case by case: which budget is taken, where it is cut. -/
import Derived.Test.YtdfbomlnbogjkaaE
namespace Go.Proofs.Ytdfbomlnbogjkaa
open Go.ChangeShapes Go.WideShapes Go.ChangeAt Go.RowKit

theorem spendY (b : Nat) (B S n : Int) (w : World) (a : At w b B S false) (h0 : 0 ≤ S) (h1 : S ≤ B) (h2 : B ≤ 9223372036854775807) (h : n ≤ B - S) (hn : 0 ≤ n) :
    Calls Try.prog 10 #[.pointer (some ⟨b, 0, none⟩), .int .i64 n] w fun e w' => e = .returned (.bool true) ∧ At w' b B (S + n) false ∧ Only b w w' :=
  (spend_yes b B S n w a h0 h1 h2 h).mono fun e w' ⟨he, ha, ho⟩ => by
    have E := lets_t (B := B) (S := S) (n := n) h
    rw [E.1] at he
    rw [E.1, E.2, show S + max n 0 = S + n by omega] at ha
    exact ⟨he, ha, ho⟩
theorem spendN (b : Nat) (B S n : Int) (w : World) (a : At w b B S false) (h0 : 0 ≤ S) (h1 : S ≤ B) (h2 : B ≤ 9223372036854775807) (h : B - S < n) :
    Calls Try.prog 10 #[.pointer (some ⟨b, 0, none⟩), .int .i64 n] w fun e w' => e = .returned (.bool false) ∧ At w' b B S true ∧ Only b w w' :=
  (spend_no b B S n w a h0 h1 h2 h).mono fun e w' ⟨he, ha, ho⟩ => by
    have E := lets_f (B := B) (S := S) (n := n) (by omega)
    rw [E.1] at he
    rw [E.1, E.2] at ha
    exact ⟨he, ha, ho⟩
theorem spendO (b : Nat) (B S n : Int) (w : World) (a : At w b B S true) :
    Calls Try.prog 10 #[.pointer (some ⟨b, 0, none⟩), .int .i64 n] w fun e w' => e = .returned (.bool false) ∧ At w' b B S true ∧ Only b w w' :=
  (spend_out b B S n w a).mono fun _ _ ⟨he, ha, ho⟩ => ⟨he, ha, ho⟩
theorem At.below {w w' : World} {b n : Nat} {B S : Int} {o : Bool} (a : At w b B S o) (h : Below n w w') (hb : b < n) : At w' b B S o :=
  ⟨by rw [h.cell hb]; exact a.c0, by rw [h.cell hb]; exact a.c1, by rw [h.cell hb]; exact a.c2, by rw [h.frozen hb]; exact a.f1, by rw [h.frozen hb]; exact a.f2⟩
theorem At.to {w : World} {b : Nat} {B S B' S' : Int} {o : Bool} (a : At w b B S o) (h : B = B') (k : S = S') : At w b B' S' o := by subst h; subst k; exact a
def LastPost (w : World) (e : Ending) (w' : World) : Prop := e = .returned (.bool true) ∧ Below w.heap.size w w'

set_option maxHeartbeats 1000000 in
theorem last_lo_neg (x y : Int) (w : World) (hb : x < 0) (hc : y < 0) : Calls Try.prog 7 #[.int .i64 x, .int .i64 y] w (LastPost w) := by
  have d0 : decide (x < 0) = true := by simpa using hb
  go_enter Try.func7, Try.ntmps7
  go_wp2_with (fail)
  refine (new_any _ _).mono ?_
  rintro e w1 ⟨rfl, a1, b1, s1⟩
  go_wp2_with (fail)
  refine (new_any _ _).mono ?_
  rintro e w2 ⟨rfl, a2, b2, s2⟩
  have A2 : At w2 w.heap.size (7 : Int) 0 false := (a1.below b2 (by omega)).to (by omega) rfl
  have N2 : At w2 w1.heap.size (7 : Int) 0 false := a2.to (by omega) rfl
  have ne : w1.heap.size ≠ w.heap.size := by omega
  have le : w.heap.size ≤ w1.heap.size := by omega
  have b3 : Below w.heap.size w w2 := b1.trans (b2.mono le)
  have NE := Lib.hid ne
  clear a1 a2 b1 b2 s1 s2 ne
  go_wp2_with (fail)
  refine (spendY _ (7 : Int) 0 _ _ A2 (by omega) (by omega) (by omega) (by omega) (by omega)).mono ?_
  rintro e w3 ⟨rfl, a3, o3⟩
  have A3 : At w3 w.heap.size (7 : Int) (0 : Int) false := a3.to rfl (by omega)
  clear a3
  go_wp2_with (fail)
  refine (spendY _ (7 : Int) (0 : Int) _ _ A3 (by omega) (by omega) (by omega) (by omega) (by omega)).mono ?_
  rintro e w4 ⟨rfl, a4, o4⟩
  have A4 : At w4 w.heap.size (7 : Int) (7 : Int) false := a4.to rfl (by omega)
  clear a4
  go_wp2_with (fail)
  refine (out_any _ _ _ _ _ A4).mono ?_
  rintro e wx ⟨rfl, rfl⟩
  go_wp2_with (fail)
  refine (spendY _ (7 : Int) (7 : Int) _ _ A4 (by omega) (by omega) (by omega) (by omega) (by omega)).mono ?_
  rintro e w5 ⟨rfl, a5, o5⟩
  have A5 : At w5 w.heap.size (7 : Int) (7 : Int) false := a5.to rfl (by omega)
  clear a5
  go_wp2_with (fail)
  refine (spendN _ (7 : Int) (7 : Int) _ _ A5 (by omega) (by omega) (by omega) (by omega)).mono ?_
  rintro e w6 ⟨rfl, A6, o6⟩
  go_wp2_with (fail)
  refine (spendO _ (7 : Int) (7 : Int) _ _ A6).mono ?_
  rintro e w7 ⟨rfl, A7, o7⟩
  have N7 : At w7 w1.heap.size (7 : Int) 0 false := o7.at NE.out (o6.at NE.out (o5.at NE.out (o4.at NE.out (o3.at NE.out N2))))
  go_wp2_with (fail)
  refine (spendY _ (7 : Int) 0 _ _ N7 (by omega) (by omega) (by omega) (by omega) (by omega)).mono ?_
  rintro e w8 ⟨rfl, a8, o8⟩
  have N8 : At w8 w1.heap.size (7 : Int) (7 : Int) false := a8.to rfl (by omega)
  have A8 : At w8 w.heap.size (7 : Int) (7 : Int) true := o8.at (Ne.symm NE.out) A7
  clear a8
  go_wp2_with (fail)
  refine (spent_any _ (7 : Int) (7 : Int) _ _ A8).mono ?_
  rintro e wx ⟨rfl, rfl⟩
  go_wp2_with (fail)
  refine (spent_any _ (7 : Int) (7 : Int) _ _ N8).mono ?_
  rintro e wx ⟨rfl, rfl⟩
  go_wp2_with (fail)
  refine (wakes_any _).mono ?_
  rintro e w9 ⟨rfl, b9⟩
  have b8 : Below w.heap.size w w8 := (((((b3.trans (o3.below (Nat.le_refl _))).trans (o4.below (Nat.le_refl _))).trans (o5.below (Nat.le_refl _))).trans (o6.below (Nat.le_refl _))).trans (o7.below (Nat.le_refl _))).trans (o8.below le)
  go_wp2
  go_ret
  exact ⟨rfl, b8.trans (b9.mono b8.size)⟩

set_option maxHeartbeats 1000000 in
theorem last_lo_big (x y : Int) (w : World) (hb : x < 0) (hc : 7 < y) : Calls Try.prog 7 #[.int .i64 x, .int .i64 y] w (LastPost w) := by
  have d0 : decide (x < 0) = true := by simpa using hb
  go_enter Try.func7, Try.ntmps7
  go_wp2_with (fail)
  refine (new_any _ _).mono ?_
  rintro e w1 ⟨rfl, a1, b1, s1⟩
  go_wp2_with (fail)
  refine (new_any _ _).mono ?_
  rintro e w2 ⟨rfl, a2, b2, s2⟩
  have A2 : At w2 w.heap.size (7 : Int) 0 false := (a1.below b2 (by omega)).to (by omega) rfl
  have N2 : At w2 w1.heap.size (7 : Int) 0 false := a2.to (by omega) rfl
  have ne : w1.heap.size ≠ w.heap.size := by omega
  have le : w.heap.size ≤ w1.heap.size := by omega
  have b3 : Below w.heap.size w w2 := b1.trans (b2.mono le)
  have NE := Lib.hid ne
  clear a1 a2 b1 b2 s1 s2 ne
  go_wp2_with (fail)
  refine (spendY _ (7 : Int) 0 _ _ A2 (by omega) (by omega) (by omega) (by omega) (by omega)).mono ?_
  rintro e w3 ⟨rfl, a3, o3⟩
  have A3 : At w3 w.heap.size (7 : Int) (7 : Int) false := a3.to rfl (by omega)
  clear a3
  go_wp2_with (fail)
  refine (spendY _ (7 : Int) (7 : Int) _ _ A3 (by omega) (by omega) (by omega) (by omega) (by omega)).mono ?_
  rintro e w4 ⟨rfl, a4, o4⟩
  have A4 : At w4 w.heap.size (7 : Int) (7 : Int) false := a4.to rfl (by omega)
  clear a4
  go_wp2_with (fail)
  refine (out_any _ _ _ _ _ A4).mono ?_
  rintro e wx ⟨rfl, rfl⟩
  go_wp2_with (fail)
  refine (spendY _ (7 : Int) (7 : Int) _ _ A4 (by omega) (by omega) (by omega) (by omega) (by omega)).mono ?_
  rintro e w5 ⟨rfl, a5, o5⟩
  have A5 : At w5 w.heap.size (7 : Int) (7 : Int) false := a5.to rfl (by omega)
  clear a5
  go_wp2_with (fail)
  refine (spendN _ (7 : Int) (7 : Int) _ _ A5 (by omega) (by omega) (by omega) (by omega)).mono ?_
  rintro e w6 ⟨rfl, A6, o6⟩
  go_wp2_with (fail)
  refine (spendO _ (7 : Int) (7 : Int) _ _ A6).mono ?_
  rintro e w7 ⟨rfl, A7, o7⟩
  have N7 : At w7 w1.heap.size (7 : Int) 0 false := o7.at NE.out (o6.at NE.out (o5.at NE.out (o4.at NE.out (o3.at NE.out N2))))
  go_wp2_with (fail)
  refine (spendY _ (7 : Int) 0 _ _ N7 (by omega) (by omega) (by omega) (by omega) (by omega)).mono ?_
  rintro e w8 ⟨rfl, a8, o8⟩
  have N8 : At w8 w1.heap.size (7 : Int) (7 : Int) false := a8.to rfl (by omega)
  have A8 : At w8 w.heap.size (7 : Int) (7 : Int) true := o8.at (Ne.symm NE.out) A7
  clear a8
  go_wp2_with (fail)
  refine (spent_any _ (7 : Int) (7 : Int) _ _ A8).mono ?_
  rintro e wx ⟨rfl, rfl⟩
  go_wp2_with (fail)
  refine (spent_any _ (7 : Int) (7 : Int) _ _ N8).mono ?_
  rintro e wx ⟨rfl, rfl⟩
  go_wp2_with (fail)
  refine (wakes_any _).mono ?_
  rintro e w9 ⟨rfl, b9⟩
  have b8 : Below w.heap.size w w8 := (((((b3.trans (o3.below (Nat.le_refl _))).trans (o4.below (Nat.le_refl _))).trans (o5.below (Nat.le_refl _))).trans (o6.below (Nat.le_refl _))).trans (o7.below (Nat.le_refl _))).trans (o8.below le)
  go_wp2
  go_ret
  exact ⟨rfl, b8.trans (b9.mono b8.size)⟩

set_option maxHeartbeats 1000000 in
theorem last_lo_mid (x y : Int) (w : World) (hb : x < 0) (hc : 0 ≤ y ∧ y ≤ 7) : Calls Try.prog 7 #[.int .i64 x, .int .i64 y] w (LastPost w) := by
  have d0 : decide (x < 0) = true := by simpa using hb
  obtain ⟨hc0, hc1⟩ := hc
  go_enter Try.func7, Try.ntmps7
  go_wp2_with (fail)
  refine (new_any _ _).mono ?_
  rintro e w1 ⟨rfl, a1, b1, s1⟩
  go_wp2_with (fail)
  refine (new_any _ _).mono ?_
  rintro e w2 ⟨rfl, a2, b2, s2⟩
  have A2 : At w2 w.heap.size (7 : Int) 0 false := (a1.below b2 (by omega)).to (by omega) rfl
  have N2 : At w2 w1.heap.size (7 : Int) 0 false := a2.to (by omega) rfl
  have ne : w1.heap.size ≠ w.heap.size := by omega
  have le : w.heap.size ≤ w1.heap.size := by omega
  have b3 : Below w.heap.size w w2 := b1.trans (b2.mono le)
  have NE := Lib.hid ne
  clear a1 a2 b1 b2 s1 s2 ne
  go_wp2_with (fail)
  refine (spendY _ (7 : Int) 0 _ _ A2 (by omega) (by omega) (by omega) (by omega) (by omega)).mono ?_
  rintro e w3 ⟨rfl, a3, o3⟩
  have A3 : At w3 w.heap.size (7 : Int) (y : Int) false := a3.to rfl (by omega)
  clear a3
  go_wp2_with (fail)
  refine (spendY _ (7 : Int) (y : Int) _ _ A3 (by omega) (by omega) (by omega) (by omega) (by omega)).mono ?_
  rintro e w4 ⟨rfl, a4, o4⟩
  have A4 : At w4 w.heap.size (7 : Int) (7 : Int) false := a4.to rfl (by omega)
  clear a4
  go_wp2_with (fail)
  refine (out_any _ _ _ _ _ A4).mono ?_
  rintro e wx ⟨rfl, rfl⟩
  go_wp2_with (fail)
  refine (spendY _ (7 : Int) (7 : Int) _ _ A4 (by omega) (by omega) (by omega) (by omega) (by omega)).mono ?_
  rintro e w5 ⟨rfl, a5, o5⟩
  have A5 : At w5 w.heap.size (7 : Int) (7 : Int) false := a5.to rfl (by omega)
  clear a5
  go_wp2_with (fail)
  refine (spendN _ (7 : Int) (7 : Int) _ _ A5 (by omega) (by omega) (by omega) (by omega)).mono ?_
  rintro e w6 ⟨rfl, A6, o6⟩
  go_wp2_with (fail)
  refine (spendO _ (7 : Int) (7 : Int) _ _ A6).mono ?_
  rintro e w7 ⟨rfl, A7, o7⟩
  have N7 : At w7 w1.heap.size (7 : Int) 0 false := o7.at NE.out (o6.at NE.out (o5.at NE.out (o4.at NE.out (o3.at NE.out N2))))
  go_wp2_with (fail)
  refine (spendY _ (7 : Int) 0 _ _ N7 (by omega) (by omega) (by omega) (by omega) (by omega)).mono ?_
  rintro e w8 ⟨rfl, a8, o8⟩
  have N8 : At w8 w1.heap.size (7 : Int) (7 : Int) false := a8.to rfl (by omega)
  have A8 : At w8 w.heap.size (7 : Int) (7 : Int) true := o8.at (Ne.symm NE.out) A7
  clear a8
  go_wp2_with (fail)
  refine (spent_any _ (7 : Int) (7 : Int) _ _ A8).mono ?_
  rintro e wx ⟨rfl, rfl⟩
  go_wp2_with (fail)
  refine (spent_any _ (7 : Int) (7 : Int) _ _ N8).mono ?_
  rintro e wx ⟨rfl, rfl⟩
  go_wp2_with (fail)
  refine (wakes_any _).mono ?_
  rintro e w9 ⟨rfl, b9⟩
  have b8 : Below w.heap.size w w8 := (((((b3.trans (o3.below (Nat.le_refl _))).trans (o4.below (Nat.le_refl _))).trans (o5.below (Nat.le_refl _))).trans (o6.below (Nat.le_refl _))).trans (o7.below (Nat.le_refl _))).trans (o8.below le)
  go_wp2
  go_ret
  exact ⟨rfl, b8.trans (b9.mono b8.size)⟩

set_option maxHeartbeats 1000000 in
theorem last_hi_neg (x y : Int) (w : World) (hb : 1099511627776 < x) (hc : y < 0) : Calls Try.prog 7 #[.int .i64 x, .int .i64 y] w (LastPost w) := by
  have d0 : decide (x < 0) = false := by simp; omega
  have d1 : decide (1099511627776 < x) = true := by simpa using hb
  go_enter Try.func7, Try.ntmps7
  go_wp2_with (fail)
  refine (new_any _ _).mono ?_
  rintro e w1 ⟨rfl, a1, b1, s1⟩
  go_wp2_with (fail)
  refine (new_any _ _).mono ?_
  rintro e w2 ⟨rfl, a2, b2, s2⟩
  have A2 : At w2 w.heap.size (7 : Int) 0 false := (a1.below b2 (by omega)).to (by omega) rfl
  have N2 : At w2 w1.heap.size (7 : Int) 0 false := a2.to (by omega) rfl
  have ne : w1.heap.size ≠ w.heap.size := by omega
  have le : w.heap.size ≤ w1.heap.size := by omega
  have b3 : Below w.heap.size w w2 := b1.trans (b2.mono le)
  have NE := Lib.hid ne
  clear a1 a2 b1 b2 s1 s2 ne
  go_wp2_with (fail)
  refine (spendY _ (7 : Int) 0 _ _ A2 (by omega) (by omega) (by omega) (by omega) (by omega)).mono ?_
  rintro e w3 ⟨rfl, a3, o3⟩
  have A3 : At w3 w.heap.size (7 : Int) (0 : Int) false := a3.to rfl (by omega)
  clear a3
  go_wp2_with (fail)
  refine (spendY _ (7 : Int) (0 : Int) _ _ A3 (by omega) (by omega) (by omega) (by omega) (by omega)).mono ?_
  rintro e w4 ⟨rfl, a4, o4⟩
  have A4 : At w4 w.heap.size (7 : Int) (7 : Int) false := a4.to rfl (by omega)
  clear a4
  go_wp2_with (fail)
  refine (out_any _ _ _ _ _ A4).mono ?_
  rintro e wx ⟨rfl, rfl⟩
  go_wp2_with (fail)
  refine (spendY _ (7 : Int) (7 : Int) _ _ A4 (by omega) (by omega) (by omega) (by omega) (by omega)).mono ?_
  rintro e w5 ⟨rfl, a5, o5⟩
  have A5 : At w5 w.heap.size (7 : Int) (7 : Int) false := a5.to rfl (by omega)
  clear a5
  go_wp2_with (fail)
  refine (spendN _ (7 : Int) (7 : Int) _ _ A5 (by omega) (by omega) (by omega) (by omega)).mono ?_
  rintro e w6 ⟨rfl, A6, o6⟩
  go_wp2_with (fail)
  refine (spendO _ (7 : Int) (7 : Int) _ _ A6).mono ?_
  rintro e w7 ⟨rfl, A7, o7⟩
  have N7 : At w7 w1.heap.size (7 : Int) 0 false := o7.at NE.out (o6.at NE.out (o5.at NE.out (o4.at NE.out (o3.at NE.out N2))))
  go_wp2_with (fail)
  refine (spendY _ (7 : Int) 0 _ _ N7 (by omega) (by omega) (by omega) (by omega) (by omega)).mono ?_
  rintro e w8 ⟨rfl, a8, o8⟩
  have N8 : At w8 w1.heap.size (7 : Int) (7 : Int) false := a8.to rfl (by omega)
  have A8 : At w8 w.heap.size (7 : Int) (7 : Int) true := o8.at (Ne.symm NE.out) A7
  clear a8
  go_wp2_with (fail)
  refine (spent_any _ (7 : Int) (7 : Int) _ _ A8).mono ?_
  rintro e wx ⟨rfl, rfl⟩
  go_wp2_with (fail)
  refine (spent_any _ (7 : Int) (7 : Int) _ _ N8).mono ?_
  rintro e wx ⟨rfl, rfl⟩
  go_wp2_with (fail)
  refine (wakes_any _).mono ?_
  rintro e w9 ⟨rfl, b9⟩
  have b8 : Below w.heap.size w w8 := (((((b3.trans (o3.below (Nat.le_refl _))).trans (o4.below (Nat.le_refl _))).trans (o5.below (Nat.le_refl _))).trans (o6.below (Nat.le_refl _))).trans (o7.below (Nat.le_refl _))).trans (o8.below le)
  go_wp2
  go_ret
  exact ⟨rfl, b8.trans (b9.mono b8.size)⟩

set_option maxHeartbeats 1000000 in
theorem last_hi_big (x y : Int) (w : World) (hb : 1099511627776 < x) (hc : 7 < y) : Calls Try.prog 7 #[.int .i64 x, .int .i64 y] w (LastPost w) := by
  have d0 : decide (x < 0) = false := by simp; omega
  have d1 : decide (1099511627776 < x) = true := by simpa using hb
  go_enter Try.func7, Try.ntmps7
  go_wp2_with (fail)
  refine (new_any _ _).mono ?_
  rintro e w1 ⟨rfl, a1, b1, s1⟩
  go_wp2_with (fail)
  refine (new_any _ _).mono ?_
  rintro e w2 ⟨rfl, a2, b2, s2⟩
  have A2 : At w2 w.heap.size (7 : Int) 0 false := (a1.below b2 (by omega)).to (by omega) rfl
  have N2 : At w2 w1.heap.size (7 : Int) 0 false := a2.to (by omega) rfl
  have ne : w1.heap.size ≠ w.heap.size := by omega
  have le : w.heap.size ≤ w1.heap.size := by omega
  have b3 : Below w.heap.size w w2 := b1.trans (b2.mono le)
  have NE := Lib.hid ne
  clear a1 a2 b1 b2 s1 s2 ne
  go_wp2_with (fail)
  refine (spendY _ (7 : Int) 0 _ _ A2 (by omega) (by omega) (by omega) (by omega) (by omega)).mono ?_
  rintro e w3 ⟨rfl, a3, o3⟩
  have A3 : At w3 w.heap.size (7 : Int) (7 : Int) false := a3.to rfl (by omega)
  clear a3
  go_wp2_with (fail)
  refine (spendY _ (7 : Int) (7 : Int) _ _ A3 (by omega) (by omega) (by omega) (by omega) (by omega)).mono ?_
  rintro e w4 ⟨rfl, a4, o4⟩
  have A4 : At w4 w.heap.size (7 : Int) (7 : Int) false := a4.to rfl (by omega)
  clear a4
  go_wp2_with (fail)
  refine (out_any _ _ _ _ _ A4).mono ?_
  rintro e wx ⟨rfl, rfl⟩
  go_wp2_with (fail)
  refine (spendY _ (7 : Int) (7 : Int) _ _ A4 (by omega) (by omega) (by omega) (by omega) (by omega)).mono ?_
  rintro e w5 ⟨rfl, a5, o5⟩
  have A5 : At w5 w.heap.size (7 : Int) (7 : Int) false := a5.to rfl (by omega)
  clear a5
  go_wp2_with (fail)
  refine (spendN _ (7 : Int) (7 : Int) _ _ A5 (by omega) (by omega) (by omega) (by omega)).mono ?_
  rintro e w6 ⟨rfl, A6, o6⟩
  go_wp2_with (fail)
  refine (spendO _ (7 : Int) (7 : Int) _ _ A6).mono ?_
  rintro e w7 ⟨rfl, A7, o7⟩
  have N7 : At w7 w1.heap.size (7 : Int) 0 false := o7.at NE.out (o6.at NE.out (o5.at NE.out (o4.at NE.out (o3.at NE.out N2))))
  go_wp2_with (fail)
  refine (spendY _ (7 : Int) 0 _ _ N7 (by omega) (by omega) (by omega) (by omega) (by omega)).mono ?_
  rintro e w8 ⟨rfl, a8, o8⟩
  have N8 : At w8 w1.heap.size (7 : Int) (7 : Int) false := a8.to rfl (by omega)
  have A8 : At w8 w.heap.size (7 : Int) (7 : Int) true := o8.at (Ne.symm NE.out) A7
  clear a8
  go_wp2_with (fail)
  refine (spent_any _ (7 : Int) (7 : Int) _ _ A8).mono ?_
  rintro e wx ⟨rfl, rfl⟩
  go_wp2_with (fail)
  refine (spent_any _ (7 : Int) (7 : Int) _ _ N8).mono ?_
  rintro e wx ⟨rfl, rfl⟩
  go_wp2_with (fail)
  refine (wakes_any _).mono ?_
  rintro e w9 ⟨rfl, b9⟩
  have b8 : Below w.heap.size w w8 := (((((b3.trans (o3.below (Nat.le_refl _))).trans (o4.below (Nat.le_refl _))).trans (o5.below (Nat.le_refl _))).trans (o6.below (Nat.le_refl _))).trans (o7.below (Nat.le_refl _))).trans (o8.below le)
  go_wp2
  go_ret
  exact ⟨rfl, b8.trans (b9.mono b8.size)⟩

set_option maxHeartbeats 1000000 in
theorem last_hi_mid (x y : Int) (w : World) (hb : 1099511627776 < x) (hc : 0 ≤ y ∧ y ≤ 7) : Calls Try.prog 7 #[.int .i64 x, .int .i64 y] w (LastPost w) := by
  have d0 : decide (x < 0) = false := by simp; omega
  have d1 : decide (1099511627776 < x) = true := by simpa using hb
  obtain ⟨hc0, hc1⟩ := hc
  go_enter Try.func7, Try.ntmps7
  go_wp2_with (fail)
  refine (new_any _ _).mono ?_
  rintro e w1 ⟨rfl, a1, b1, s1⟩
  go_wp2_with (fail)
  refine (new_any _ _).mono ?_
  rintro e w2 ⟨rfl, a2, b2, s2⟩
  have A2 : At w2 w.heap.size (7 : Int) 0 false := (a1.below b2 (by omega)).to (by omega) rfl
  have N2 : At w2 w1.heap.size (7 : Int) 0 false := a2.to (by omega) rfl
  have ne : w1.heap.size ≠ w.heap.size := by omega
  have le : w.heap.size ≤ w1.heap.size := by omega
  have b3 : Below w.heap.size w w2 := b1.trans (b2.mono le)
  have NE := Lib.hid ne
  clear a1 a2 b1 b2 s1 s2 ne
  go_wp2_with (fail)
  refine (spendY _ (7 : Int) 0 _ _ A2 (by omega) (by omega) (by omega) (by omega) (by omega)).mono ?_
  rintro e w3 ⟨rfl, a3, o3⟩
  have A3 : At w3 w.heap.size (7 : Int) (y : Int) false := a3.to rfl (by omega)
  clear a3
  go_wp2_with (fail)
  refine (spendY _ (7 : Int) (y : Int) _ _ A3 (by omega) (by omega) (by omega) (by omega) (by omega)).mono ?_
  rintro e w4 ⟨rfl, a4, o4⟩
  have A4 : At w4 w.heap.size (7 : Int) (7 : Int) false := a4.to rfl (by omega)
  clear a4
  go_wp2_with (fail)
  refine (out_any _ _ _ _ _ A4).mono ?_
  rintro e wx ⟨rfl, rfl⟩
  go_wp2_with (fail)
  refine (spendY _ (7 : Int) (7 : Int) _ _ A4 (by omega) (by omega) (by omega) (by omega) (by omega)).mono ?_
  rintro e w5 ⟨rfl, a5, o5⟩
  have A5 : At w5 w.heap.size (7 : Int) (7 : Int) false := a5.to rfl (by omega)
  clear a5
  go_wp2_with (fail)
  refine (spendN _ (7 : Int) (7 : Int) _ _ A5 (by omega) (by omega) (by omega) (by omega)).mono ?_
  rintro e w6 ⟨rfl, A6, o6⟩
  go_wp2_with (fail)
  refine (spendO _ (7 : Int) (7 : Int) _ _ A6).mono ?_
  rintro e w7 ⟨rfl, A7, o7⟩
  have N7 : At w7 w1.heap.size (7 : Int) 0 false := o7.at NE.out (o6.at NE.out (o5.at NE.out (o4.at NE.out (o3.at NE.out N2))))
  go_wp2_with (fail)
  refine (spendY _ (7 : Int) 0 _ _ N7 (by omega) (by omega) (by omega) (by omega) (by omega)).mono ?_
  rintro e w8 ⟨rfl, a8, o8⟩
  have N8 : At w8 w1.heap.size (7 : Int) (7 : Int) false := a8.to rfl (by omega)
  have A8 : At w8 w.heap.size (7 : Int) (7 : Int) true := o8.at (Ne.symm NE.out) A7
  clear a8
  go_wp2_with (fail)
  refine (spent_any _ (7 : Int) (7 : Int) _ _ A8).mono ?_
  rintro e wx ⟨rfl, rfl⟩
  go_wp2_with (fail)
  refine (spent_any _ (7 : Int) (7 : Int) _ _ N8).mono ?_
  rintro e wx ⟨rfl, rfl⟩
  go_wp2_with (fail)
  refine (wakes_any _).mono ?_
  rintro e w9 ⟨rfl, b9⟩
  have b8 : Below w.heap.size w w8 := (((((b3.trans (o3.below (Nat.le_refl _))).trans (o4.below (Nat.le_refl _))).trans (o5.below (Nat.le_refl _))).trans (o6.below (Nat.le_refl _))).trans (o7.below (Nat.le_refl _))).trans (o8.below le)
  go_wp2
  go_ret
  exact ⟨rfl, b8.trans (b9.mono b8.size)⟩

set_option maxHeartbeats 1000000 in
theorem last_in_neg (x y : Int) (w : World) (hb : 0 ≤ x ∧ x ≤ 1099511627776) (hc : y < 0) : Calls Try.prog 7 #[.int .i64 x, .int .i64 y] w (LastPost w) := by
  obtain ⟨hb0, hb1⟩ := hb
  have d0 : decide (x < 0) = false := by simp; omega
  have d1 : decide (1099511627776 < x) = false := by simp; omega
  go_enter Try.func7, Try.ntmps7
  go_wp2_with (fail)
  refine (new_any _ _).mono ?_
  rintro e w1 ⟨rfl, a1, b1, s1⟩
  go_wp2_with (fail)
  refine (new_any _ _).mono ?_
  rintro e w2 ⟨rfl, a2, b2, s2⟩
  have A2 : At w2 w.heap.size (x : Int) 0 false := (a1.below b2 (by omega)).to (by omega) rfl
  have N2 : At w2 w1.heap.size (x : Int) 0 false := a2.to (by omega) rfl
  have ne : w1.heap.size ≠ w.heap.size := by omega
  have le : w.heap.size ≤ w1.heap.size := by omega
  have b3 : Below w.heap.size w w2 := b1.trans (b2.mono le)
  have NE := Lib.hid ne
  clear a1 a2 b1 b2 s1 s2 ne
  go_wp2_with (fail)
  refine (spendY _ (x : Int) 0 _ _ A2 (by omega) (by omega) (by omega) (by omega) (by omega)).mono ?_
  rintro e w3 ⟨rfl, a3, o3⟩
  have A3 : At w3 w.heap.size (x : Int) (0 : Int) false := a3.to rfl (by omega)
  clear a3
  go_wp2_with (fail)
  refine (spendY _ (x : Int) (0 : Int) _ _ A3 (by omega) (by omega) (by omega) (by omega) (by omega)).mono ?_
  rintro e w4 ⟨rfl, a4, o4⟩
  have A4 : At w4 w.heap.size (x : Int) (x : Int) false := a4.to rfl (by omega)
  clear a4
  go_wp2_with (fail)
  refine (out_any _ _ _ _ _ A4).mono ?_
  rintro e wx ⟨rfl, rfl⟩
  go_wp2_with (fail)
  refine (spendY _ (x : Int) (x : Int) _ _ A4 (by omega) (by omega) (by omega) (by omega) (by omega)).mono ?_
  rintro e w5 ⟨rfl, a5, o5⟩
  have A5 : At w5 w.heap.size (x : Int) (x : Int) false := a5.to rfl (by omega)
  clear a5
  go_wp2_with (fail)
  refine (spendN _ (x : Int) (x : Int) _ _ A5 (by omega) (by omega) (by omega) (by omega)).mono ?_
  rintro e w6 ⟨rfl, A6, o6⟩
  go_wp2_with (fail)
  refine (spendO _ (x : Int) (x : Int) _ _ A6).mono ?_
  rintro e w7 ⟨rfl, A7, o7⟩
  have N7 : At w7 w1.heap.size (x : Int) 0 false := o7.at NE.out (o6.at NE.out (o5.at NE.out (o4.at NE.out (o3.at NE.out N2))))
  go_wp2_with (fail)
  refine (spendY _ (x : Int) 0 _ _ N7 (by omega) (by omega) (by omega) (by omega) (by omega)).mono ?_
  rintro e w8 ⟨rfl, a8, o8⟩
  have N8 : At w8 w1.heap.size (x : Int) (x : Int) false := a8.to rfl (by omega)
  have A8 : At w8 w.heap.size (x : Int) (x : Int) true := o8.at (Ne.symm NE.out) A7
  clear a8
  go_wp2_with (fail)
  refine (spent_any _ (x : Int) (x : Int) _ _ A8).mono ?_
  rintro e wx ⟨rfl, rfl⟩
  go_wp2_with (fail)
  refine (spent_any _ (x : Int) (x : Int) _ _ N8).mono ?_
  rintro e wx ⟨rfl, rfl⟩
  go_wp2_with (fail)
  refine (wakes_any _).mono ?_
  rintro e w9 ⟨rfl, b9⟩
  have b8 : Below w.heap.size w w8 := (((((b3.trans (o3.below (Nat.le_refl _))).trans (o4.below (Nat.le_refl _))).trans (o5.below (Nat.le_refl _))).trans (o6.below (Nat.le_refl _))).trans (o7.below (Nat.le_refl _))).trans (o8.below le)
  go_wp2
  go_ret
  exact ⟨rfl, b8.trans (b9.mono b8.size)⟩

set_option maxHeartbeats 1000000 in
theorem last_in_big (x y : Int) (w : World) (hb : 0 ≤ x ∧ x ≤ 1099511627776) (hc : x < y) : Calls Try.prog 7 #[.int .i64 x, .int .i64 y] w (LastPost w) := by
  obtain ⟨hb0, hb1⟩ := hb
  have d0 : decide (x < 0) = false := by simp; omega
  have d1 : decide (1099511627776 < x) = false := by simp; omega
  go_enter Try.func7, Try.ntmps7
  go_wp2_with (fail)
  refine (new_any _ _).mono ?_
  rintro e w1 ⟨rfl, a1, b1, s1⟩
  go_wp2_with (fail)
  refine (new_any _ _).mono ?_
  rintro e w2 ⟨rfl, a2, b2, s2⟩
  have A2 : At w2 w.heap.size (x : Int) 0 false := (a1.below b2 (by omega)).to (by omega) rfl
  have N2 : At w2 w1.heap.size (x : Int) 0 false := a2.to (by omega) rfl
  have ne : w1.heap.size ≠ w.heap.size := by omega
  have le : w.heap.size ≤ w1.heap.size := by omega
  have b3 : Below w.heap.size w w2 := b1.trans (b2.mono le)
  have NE := Lib.hid ne
  clear a1 a2 b1 b2 s1 s2 ne
  go_wp2_with (fail)
  refine (spendY _ (x : Int) 0 _ _ A2 (by omega) (by omega) (by omega) (by omega) (by omega)).mono ?_
  rintro e w3 ⟨rfl, a3, o3⟩
  have A3 : At w3 w.heap.size (x : Int) (x : Int) false := a3.to rfl (by omega)
  clear a3
  go_wp2_with (fail)
  refine (spendY _ (x : Int) (x : Int) _ _ A3 (by omega) (by omega) (by omega) (by omega) (by omega)).mono ?_
  rintro e w4 ⟨rfl, a4, o4⟩
  have A4 : At w4 w.heap.size (x : Int) (x : Int) false := a4.to rfl (by omega)
  clear a4
  go_wp2_with (fail)
  refine (out_any _ _ _ _ _ A4).mono ?_
  rintro e wx ⟨rfl, rfl⟩
  go_wp2_with (fail)
  refine (spendY _ (x : Int) (x : Int) _ _ A4 (by omega) (by omega) (by omega) (by omega) (by omega)).mono ?_
  rintro e w5 ⟨rfl, a5, o5⟩
  have A5 : At w5 w.heap.size (x : Int) (x : Int) false := a5.to rfl (by omega)
  clear a5
  go_wp2_with (fail)
  refine (spendN _ (x : Int) (x : Int) _ _ A5 (by omega) (by omega) (by omega) (by omega)).mono ?_
  rintro e w6 ⟨rfl, A6, o6⟩
  go_wp2_with (fail)
  refine (spendO _ (x : Int) (x : Int) _ _ A6).mono ?_
  rintro e w7 ⟨rfl, A7, o7⟩
  have N7 : At w7 w1.heap.size (x : Int) 0 false := o7.at NE.out (o6.at NE.out (o5.at NE.out (o4.at NE.out (o3.at NE.out N2))))
  go_wp2_with (fail)
  refine (spendY _ (x : Int) 0 _ _ N7 (by omega) (by omega) (by omega) (by omega) (by omega)).mono ?_
  rintro e w8 ⟨rfl, a8, o8⟩
  have N8 : At w8 w1.heap.size (x : Int) (x : Int) false := a8.to rfl (by omega)
  have A8 : At w8 w.heap.size (x : Int) (x : Int) true := o8.at (Ne.symm NE.out) A7
  clear a8
  go_wp2_with (fail)
  refine (spent_any _ (x : Int) (x : Int) _ _ A8).mono ?_
  rintro e wx ⟨rfl, rfl⟩
  go_wp2_with (fail)
  refine (spent_any _ (x : Int) (x : Int) _ _ N8).mono ?_
  rintro e wx ⟨rfl, rfl⟩
  go_wp2_with (fail)
  refine (wakes_any _).mono ?_
  rintro e w9 ⟨rfl, b9⟩
  have b8 : Below w.heap.size w w8 := (((((b3.trans (o3.below (Nat.le_refl _))).trans (o4.below (Nat.le_refl _))).trans (o5.below (Nat.le_refl _))).trans (o6.below (Nat.le_refl _))).trans (o7.below (Nat.le_refl _))).trans (o8.below le)
  go_wp2
  go_ret
  exact ⟨rfl, b8.trans (b9.mono b8.size)⟩

set_option maxHeartbeats 1000000 in
theorem last_in_mid (x y : Int) (w : World) (hb : 0 ≤ x ∧ x ≤ 1099511627776) (hc : 0 ≤ y ∧ y ≤ x) : Calls Try.prog 7 #[.int .i64 x, .int .i64 y] w (LastPost w) := by
  obtain ⟨hb0, hb1⟩ := hb
  have d0 : decide (x < 0) = false := by simp; omega
  have d1 : decide (1099511627776 < x) = false := by simp; omega
  obtain ⟨hc0, hc1⟩ := hc
  go_enter Try.func7, Try.ntmps7
  go_wp2_with (fail)
  refine (new_any _ _).mono ?_
  rintro e w1 ⟨rfl, a1, b1, s1⟩
  go_wp2_with (fail)
  refine (new_any _ _).mono ?_
  rintro e w2 ⟨rfl, a2, b2, s2⟩
  have A2 : At w2 w.heap.size (x : Int) 0 false := (a1.below b2 (by omega)).to (by omega) rfl
  have N2 : At w2 w1.heap.size (x : Int) 0 false := a2.to (by omega) rfl
  have ne : w1.heap.size ≠ w.heap.size := by omega
  have le : w.heap.size ≤ w1.heap.size := by omega
  have b3 : Below w.heap.size w w2 := b1.trans (b2.mono le)
  have NE := Lib.hid ne
  clear a1 a2 b1 b2 s1 s2 ne
  go_wp2_with (fail)
  refine (spendY _ (x : Int) 0 _ _ A2 (by omega) (by omega) (by omega) (by omega) (by omega)).mono ?_
  rintro e w3 ⟨rfl, a3, o3⟩
  have A3 : At w3 w.heap.size (x : Int) (y : Int) false := a3.to rfl (by omega)
  clear a3
  go_wp2_with (fail)
  refine (spendY _ (x : Int) (y : Int) _ _ A3 (by omega) (by omega) (by omega) (by omega) (by omega)).mono ?_
  rintro e w4 ⟨rfl, a4, o4⟩
  have A4 : At w4 w.heap.size (x : Int) (x : Int) false := a4.to rfl (by omega)
  clear a4
  go_wp2_with (fail)
  refine (out_any _ _ _ _ _ A4).mono ?_
  rintro e wx ⟨rfl, rfl⟩
  go_wp2_with (fail)
  refine (spendY _ (x : Int) (x : Int) _ _ A4 (by omega) (by omega) (by omega) (by omega) (by omega)).mono ?_
  rintro e w5 ⟨rfl, a5, o5⟩
  have A5 : At w5 w.heap.size (x : Int) (x : Int) false := a5.to rfl (by omega)
  clear a5
  go_wp2_with (fail)
  refine (spendN _ (x : Int) (x : Int) _ _ A5 (by omega) (by omega) (by omega) (by omega)).mono ?_
  rintro e w6 ⟨rfl, A6, o6⟩
  go_wp2_with (fail)
  refine (spendO _ (x : Int) (x : Int) _ _ A6).mono ?_
  rintro e w7 ⟨rfl, A7, o7⟩
  have N7 : At w7 w1.heap.size (x : Int) 0 false := o7.at NE.out (o6.at NE.out (o5.at NE.out (o4.at NE.out (o3.at NE.out N2))))
  go_wp2_with (fail)
  refine (spendY _ (x : Int) 0 _ _ N7 (by omega) (by omega) (by omega) (by omega) (by omega)).mono ?_
  rintro e w8 ⟨rfl, a8, o8⟩
  have N8 : At w8 w1.heap.size (x : Int) (x : Int) false := a8.to rfl (by omega)
  have A8 : At w8 w.heap.size (x : Int) (x : Int) true := o8.at (Ne.symm NE.out) A7
  clear a8
  go_wp2_with (fail)
  refine (spent_any _ (x : Int) (x : Int) _ _ A8).mono ?_
  rintro e wx ⟨rfl, rfl⟩
  go_wp2_with (fail)
  refine (spent_any _ (x : Int) (x : Int) _ _ N8).mono ?_
  rintro e wx ⟨rfl, rfl⟩
  go_wp2_with (fail)
  refine (wakes_any _).mono ?_
  rintro e w9 ⟨rfl, b9⟩
  have b8 : Below w.heap.size w w8 := (((((b3.trans (o3.below (Nat.le_refl _))).trans (o4.below (Nat.le_refl _))).trans (o5.below (Nat.le_refl _))).trans (o6.below (Nat.le_refl _))).trans (o7.below (Nat.le_refl _))).trans (o8.below le)
  go_wp2
  go_ret
  exact ⟨rfl, b8.trans (b9.mono b8.size)⟩

end Go.Proofs.Ytdfbomlnbogjkaa

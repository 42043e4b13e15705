/- The walk of the law BagTake of chapter 3. -/
import Derived.Test.YthjeollmjfdaeaaP
namespace Go.Proofs.Ythjeollmjfdaeaa
open Go.ChangeShapes Go.WideShapes Go.ChangeAt Go.RowKit

def canTo (xs ys : List Int) (k : Nat) : Bool := (List.range k).all fun j => decide (ys.getD j 0 = 0) || (decide (j < xs.length) && decide (ys.getD j 0 ≤ xs.getD j 0))
theorem canTo_zero (xs ys : List Int) : canTo xs ys 0 = true := rfl
theorem canTo_all (xs ys : List Int) : canTo xs ys ys.length = canL xs ys := rfl
theorem canTo_succ (xs ys : List Int) (k : Nat) : canTo xs ys (k + 1) = (canTo xs ys k && (decide (ys.getD k 0 = 0) || (decide (k < xs.length) && decide (ys.getD k 0 ≤ xs.getD k 0)))) := by
  unfold canTo
  rw [List.range_succ, List.all_append]
  simp

theorem sub_val {xs ys us : List Int} {b : Bool} (h : subOk xs ys = b) (hu : subS xs ys = us) (a a' : Option Addr) (c d : Nat) (w : World) (R : Bag w a c xs) (S : Bag w a' d ys) :
    Calls Try.prog 12 #[.slice a xs.length c, .slice a' ys.length d] w (Makes2 us b w) := by
  have C := sub12 a a' c d xs ys w R S
  rwa [h, hu] at C
theorem add_val {xs ys us : List Int} {b : Bool} (h : addOk xs ys = b) (hu : addS xs ys = us) (a a' : Option Addr) (c d : Nat) (w : World) (R : Bag w a c xs) (S : Bag w a' d ys) :
    Calls Try.prog 10 #[.slice a xs.length c, .slice a' ys.length d] w (Makes2 us b w) := by
  have C := add10 a a' c d xs ys w R S
  rwa [h, hu] at C

set_option maxHeartbeats 4000000 in
set_option maxRecDepth 100000 in
theorem take_walk (a0 a1 : Option Addr) (l0 c0 l1 c1 : Nat) (z0 z1 : List Int) (w : World) (K0 : Hid (Came w a0 l0 c0 z0)) (K1 : Hid (Came w a1 l1 c1 z1)) :
    Calls Try.prog 7 #[.slice a0 l0 c0, .slice a1 l1 c1] w (True_ w) := by
  go_enter Try.func7, Try.ntmps7
  go_wp2_with (fail)
  with_reducible refine (play_any a0 l0 c0 z0 _ K0.out).mono ?_
  rintro e w1 ⟨xs, sx, a_x, c_x, rfl, r_x, _, b⟩
  have K1 := Lib.hid (K1.out.below b)
  have B := b
  clear b
  go_wp2_with (fail)
  with_reducible refine (play_any a1 l1 c1 z1 _ K1.out).mono ?_
  rintro e w2 ⟨ys, sy, a_y, c_y, rfl, r_y, _, b⟩
  have r_x := r_x.below b
  have B := B.trans (b.mono B.size)
  clear b
  clear K0 K1
  have hlx := sx.len
  have hly := sy.len
  have SX := Lib.hid sx
  have SY := Lib.hid sy
  obtain ⟨l, hl⟩ : ∃ l, l = xs.length := ⟨_, rfl⟩
  obtain ⟨m, hm⟩ : ∃ m, m = ys.length := ⟨_, rfl⟩
  rw [← hl] at hlx ⊢
  rw [← hm] at hly ⊢
  have HL := Lib.hid hl.symm
  have HM := Lib.hid hm.symm
  clear hl hm sx sy
  go_wp2_with (fail)
  go_loop [7, 20] (fun b i => ∃ k : Nat, k ≤ m ∧ b = .bool (canTo xs ys k) ∧ i = .int .i64 k) (fun _ i => m - (intOf i).toNat)
  case atStart => exact ⟨0, Nat.zero_le _, rfl, rfl⟩
  case round =>
    obtain ⟨k, hk, rfl, rfl⟩ := hrel
    by_cases hlt : k < m
    · obtain ⟨g, rfl, hc⟩ := r_y.at (k := k) (by rw [HM.out]; exact hlt)
      have st := canTo_succ xs ys k
      rw [HL.out] at st
      generalize ys.getD k 0 = q at hc st
      generalize canTo xs ys k = b0 at st ⊢
      generalize hb1 : canTo xs ys (k + 1) = b1 at st
      have HB := Lib.hid hb1
      clear hb1
      cases b0 with
      | false =>
        obtain rfl : b1 = false := by simpa using st
        clear st
        go_wp2
        go_round
        case rel => exact ⟨k + 1, by omega, by rw [HB.out], by go_num⟩
        case measure => simp [intOf]; omega
      | true =>
        by_cases hq : q = 0
        · obtain rfl : b1 = true := by simpa [hq] using st
          clear st
          have hq' : (q == 0) = true := by simpa using hq
          subst hq
          go_wp2
          go_round
          case rel => exact ⟨k + 1, by omega, by rw [HB.out], by go_num⟩
          case measure => simp [intOf]; omega
        · have hq' : (q == 0) = false := by simpa using hq
          by_cases hkl : k < l
          · obtain ⟨g2, rfl, hd⟩ := r_x.at (k := k) (by rw [HL.out]; exact hkl)
            generalize xs.getD k 0 = p at hd st
            by_cases hpq : q ≤ p
            · obtain rfl : b1 = true := by simpa [hq, hkl, hpq] using st
              clear st
              go_wp2
              go_round
              case rel => exact ⟨k + 1, by omega, by rw [HB.out], by go_num⟩
              case measure => simp [intOf]; omega
            · obtain rfl : b1 = false := by simpa [hq, hkl, hpq] using st
              clear st
              go_wp2
              go_round
              case rel => exact ⟨k + 1, by omega, by rw [HB.out], by go_num⟩
              case measure => simp [intOf]; omega
          · obtain rfl : b1 = false := by simpa [hq, hkl] using st
            clear st
            have hkl' : decide ((k : Int) < (l : Int)) = false := by simp; omega
            go_wp2
            go_round
            case rel => exact ⟨k + 1, by omega, by rw [HB.out], by go_num⟩
            case measure => simp [intOf]; omega
    · obtain rfl : k = m := by omega
      have E : canTo xs ys k = subOk xs ys := by rw [SX.out.can SY.out, ← HM.out, canTo_all]
      rw [E]
      clear E
      cases hb : subOk xs ys with
      | false =>
        have FS := Lib.hid (sub_val hb (us := []) (by simp [subS, hb]))
        rw [HL.out, HM.out] at FS
        clear hb
        go_wp2_with (fail)
        with_reducible refine (FS.out a_x a_y c_x c_y _ r_x r_y).mono ?_
        rintro e w3 ⟨a_u, c_u, rfl, r_u, _, b⟩
        have r_x := r_x.below b
        have r_y := r_y.below b
        have B := B.trans (b.mono B.size)
        clear b
        go_wp2_with (fail)
        with_reducible refine (wakes_any _).mono ?_
        rintro e w4 ⟨rfl, b⟩
        have r_x := r_x.below b
        have r_y := r_y.below b
        have r_u := r_u.below b
        have B := B.trans (b.mono B.size)
        clear b
        go_wp2
        go_ret
        exact ⟨rfl, B⟩
      | true =>
        have T := SX.out.take SY.out hb
        have FS := Lib.hid (sub_val hb rfl)
        have FA := Lib.hid (add_val T.1 T.2)
        rw [HL.out, HM.out] at FS
        rw [HM.out] at FA
        clear hb T
        generalize subS xs ys = us at *
        go_wp2_with (fail)
        with_reducible refine (FS.out a_x a_y c_x c_y _ r_x r_y).mono ?_
        rintro e w3 ⟨a_u, c_u, rfl, r_u, _, b⟩
        have r_x := r_x.below b
        have r_y := r_y.below b
        have B := B.trans (b.mono B.size)
        clear b
        go_wp2_with (fail)
        with_reducible refine (FA.out a_u a_y c_u c_y _ r_u r_y).mono ?_
        rintro e w4 ⟨a_s, c_s, rfl, r_s, _, b⟩
        have r_x := r_x.below b
        have r_y := r_y.below b
        have r_u := r_u.below b
        have B := B.trans (b.mono B.size)
        clear b
        go_wp2_with (fail)
        have SY2 := same_yes a_s a_x c_s c_x xs _ r_s r_x
        rw [HL.out] at SY2
        rw [HL.out]
        with_reducible refine SY2.mono ?_
        rintro e w5 ⟨rfl, q, hq⟩
        have b := reads_below hq
        clear hq
        have r_x := r_x.below b
        have r_y := r_y.below b
        have r_u := r_u.below b
        have r_s := r_s.below b
        have B := B.trans (b.mono B.size)
        clear b
        go_wp2_with (fail)
        with_reducible refine (wakes_any _).mono ?_
        rintro e w6 ⟨rfl, b⟩
        have r_x := r_x.below b
        have r_y := r_y.below b
        have r_u := r_u.below b
        have r_s := r_s.below b
        have B := B.trans (b.mono B.size)
        clear b
        go_wp2
        go_ret
        exact ⟨rfl, B⟩
end Go.Proofs.Ythjeollmjfdaeaa

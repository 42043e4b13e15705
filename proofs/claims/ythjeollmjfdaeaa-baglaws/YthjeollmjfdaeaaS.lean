/- The walk of the law BagLaws of chapter 3. -/
import Derived.Test.YthjeollmjfdaeaaP
namespace Go.Proofs.Ythjeollmjfdaeaa
open Go.ChangeShapes Go.WideShapes Go.ChangeAt Go.RowKit

theorem add_small {m k : Int} {xs ys : List Int} (hx : Small m xs) (hy : Small k ys) (hm : m + k ≤ 1000) (a b : Option Addr) (c d : Nat) (w : World) (R : Bag w a c xs) (S : Bag w b d ys) :
    Calls Try.prog 10 #[.slice a xs.length c, .slice b ys.length d] w (Makes2 (addT xs ys) true w) := by
  have A := hx.add hy hm
  have C := add10 a b c d xs ys w R S
  rwa [A.1, A.2.1] at C
theorem sub_small {m k : Int} {xs ys : List Int} (hx : Small m xs) (hy : Small k ys) (hm : m + k ≤ 1000) (a b : Option Addr) (c d : Nat) (w : World) (R : Bag w a c (addT xs ys)) (S : Bag w b d ys) :
    Calls Try.prog 12 #[.slice a (addT xs ys).length c, .slice b ys.length d] w (Makes2 xs true w) := by
  have A := hx.back hy hm
  have C := sub12 a b c d (addT xs ys) ys w R S
  rwa [A.1, A.2] at C
theorem tot_small {m : Int} {xs : List Int} (hx : Small m xs) (hm : m ≤ 1000) (h0 : 0 ≤ m) (a : Option Addr) (c : Nat) (w : World) (R : Bag w a c xs) :
    Calls Try.prog 14 #[.slice a xs.length c] w fun e w' => e = .returned (.tuple #[.int .i64 xs.sum, .bool true]) ∧ w = w' := by
  have A := hx.tot hm h0
  have C := tot14 a c xs w R
  rwa [A.1, A.2.1] at C
theorem right_small {m : Int} {xs : List Int} (hx : Small m xs) (a : Option Addr) (c : Nat) (w : World) (R : Bag w a c xs) :
    Calls Try.prog 16 #[.slice a xs.length c] w fun e w' => e = .returned (.bool true) ∧ w = w' := by
  have C := right16 a c xs w R
  rwa [hx.right] at C

set_option maxHeartbeats 4000000 in
set_option maxRecDepth 100000 in
theorem laws_walk (a0 a1 a2 : Option Addr) (l0 c0 l1 c1 l2 c2 : Nat) (z0 z1 z2 : List Int) (w : World) (K0 : Hid (Came w a0 l0 c0 z0)) (K1 : Hid (Came w a1 l1 c1 z1)) (K2 : Hid (Came w a2 l2 c2 z2)) :
    Calls Try.prog 5 #[.slice a0 l0 c0, .slice a1 l1 c1, .slice a2 l2 c2] w (True_ w) := by
  go_enter Try.func5, Try.ntmps5
  go_wp2_with (fail)
  refine (play_any a0 l0 c0 z0 _ K0.out).mono ?_
  rintro e w1 ⟨xs, sx, a_x, c_x, rfl, r_x, _, b⟩
  have K1 := Lib.hid (K1.out.below b)
  have K2 := Lib.hid (K2.out.below b)
  have B := b
  clear b
  go_wp2_with (fail)
  refine (play_any a1 l1 c1 z1 _ K1.out).mono ?_
  rintro e w2 ⟨ys, sy, a_y, c_y, rfl, r_y, _, b⟩
  have r_x := r_x.below b
  have K2 := Lib.hid (K2.out.below b)
  have B := B.trans (b.mono B.size)
  clear b
  go_wp2_with (fail)
  refine (play_any a2 l2 c2 z2 _ K2.out).mono ?_
  rintro e w3 ⟨zs, sz, a_z, c_z, rfl, r_z, _, b⟩
  have r_x := r_x.below b
  have r_y := r_y.below b
  have B := B.trans (b.mono B.size)
  clear b
  clear K0 K1 K2
  have s1 := (sx.add sy (by omega)).2.2
  have s2 := (sy.add sz (by omega)).2.2
  have F1 := Lib.hid (add_small sx sy (by omega))
  have F2 := Lib.hid (add_small sy sx (by omega))
  have F3 := Lib.hid (add_small s1 sz (by omega))
  have F4 := Lib.hid (add_small sy sz (by omega))
  have F5 := Lib.hid (add_small sx s2 (by omega))
  have F6 := Lib.hid (sub_small sx sy (by omega))
  have F7 := Lib.hid (tot_small sx (by omega) (by omega))
  have F8 := Lib.hid (tot_small sy (by omega) (by omega))
  have F9 := Lib.hid (tot_small s1 (by omega) (by omega))
  have FR := Lib.hid (right_small s1)
  have T1 := (sx.tot (by omega) (by omega)).2.2
  have T2 := (sy.tot (by omega) (by omega)).2.2
  have n0 : 0 ≤ xs.sum := T1.1
  have n1 : xs.sum ≤ 4000 := T1.2
  have m0 : 0 ≤ ys.sum := T2.1
  have m1 : ys.sum ≤ 4000 := T2.2
  rw [sum_add] at F9
  rw [add_comm' ys xs] at F2
  rw [← add_assoc'] at F5
  clear s1 s2 sx sy sz T1 T2
  generalize addT xs ys = P at *
  generalize addT P zs = Q at *
  generalize addT ys zs = T at *
  generalize xs.sum = n at *
  generalize ys.sum = m at *
  go_wp2_with (fail)
  refine (F1.out a_x a_y c_x c_y _ r_x r_y).mono ?_
  rintro e w4 ⟨a_p, c_p, rfl, r_p, _, b⟩
  have r_x := r_x.below b
  have r_y := r_y.below b
  have r_z := r_z.below b
  have B := B.trans (b.mono B.size)
  clear b
  go_wp2_with (fail)
  refine (F2.out a_y a_x c_y c_x _ r_y r_x).mono ?_
  rintro e w5 ⟨a_q, c_q, rfl, r_q, _, b⟩
  have r_x := r_x.below b
  have r_y := r_y.below b
  have r_z := r_z.below b
  have r_p := r_p.below b
  have B := B.trans (b.mono B.size)
  clear b
  go_wp2_with (fail)
  refine (F3.out a_p a_z c_p c_z _ r_p r_z).mono ?_
  rintro e w6 ⟨a_l, c_l, rfl, r_l, _, b⟩
  have r_x := r_x.below b
  have r_y := r_y.below b
  have r_z := r_z.below b
  have r_p := r_p.below b
  have r_q := r_q.below b
  have B := B.trans (b.mono B.size)
  clear b
  go_wp2_with (fail)
  refine (F4.out a_y a_z c_y c_z _ r_y r_z).mono ?_
  rintro e w7 ⟨a_t, c_t, rfl, r_t, _, b⟩
  have r_x := r_x.below b
  have r_y := r_y.below b
  have r_z := r_z.below b
  have r_p := r_p.below b
  have r_q := r_q.below b
  have r_l := r_l.below b
  have B := B.trans (b.mono B.size)
  clear b
  go_wp2_with (fail)
  refine (F5.out a_x a_t c_x c_t _ r_x r_t).mono ?_
  rintro e w8 ⟨a_r, c_r, rfl, r_r, _, b⟩
  have r_x := r_x.below b
  have r_y := r_y.below b
  have r_z := r_z.below b
  have r_p := r_p.below b
  have r_q := r_q.below b
  have r_l := r_l.below b
  have r_t := r_t.below b
  have B := B.trans (b.mono B.size)
  clear b
  go_wp2_with (fail)
  refine (F6.out a_p a_y c_p c_y _ r_p r_y).mono ?_
  rintro e w9 ⟨a_b, c_b, rfl, r_b, _, b⟩
  have r_x := r_x.below b
  have r_y := r_y.below b
  have r_z := r_z.below b
  have r_p := r_p.below b
  have r_q := r_q.below b
  have r_l := r_l.below b
  have r_t := r_t.below b
  have r_r := r_r.below b
  have B := B.trans (b.mono B.size)
  clear b
  go_wp2_with (fail)
  refine (F7.out a_x c_x _ r_x).mono ?_
  rintro e w' ⟨rfl, rfl⟩
  go_wp2_with (fail)
  refine (F8.out a_y c_y _ r_y).mono ?_
  rintro e w' ⟨rfl, rfl⟩
  go_wp2_with (fail)
  refine (F9.out a_p c_p _ r_p).mono ?_
  rintro e w' ⟨rfl, rfl⟩
  go_wp2_with (fail)
  refine (same_yes a_p a_q c_p c_q P _ r_p r_q).mono ?_
  rintro e w10 ⟨rfl, q, hq⟩
  have b := reads_below hq
  clear hq
  have r_x := r_x.below b
  have r_y := r_y.below b
  have r_z := r_z.below b
  have r_p := r_p.below b
  have r_q := r_q.below b
  have r_l := r_l.below b
  have r_t := r_t.below b
  have r_r := r_r.below b
  have r_b := r_b.below b
  have B := B.trans (b.mono B.size)
  clear b
  go_wp2_with (fail)
  refine (same_yes a_l a_r c_l c_r Q _ r_l r_r).mono ?_
  rintro e w11 ⟨rfl, q, hq⟩
  have b := reads_below hq
  clear hq
  have r_x := r_x.below b
  have r_y := r_y.below b
  have r_z := r_z.below b
  have r_p := r_p.below b
  have r_q := r_q.below b
  have r_l := r_l.below b
  have r_t := r_t.below b
  have r_r := r_r.below b
  have r_b := r_b.below b
  have B := B.trans (b.mono B.size)
  clear b
  go_wp2_with (fail)
  refine (same_yes a_b a_x c_b c_x xs _ r_b r_x).mono ?_
  rintro e w12 ⟨rfl, q, hq⟩
  have b := reads_below hq
  clear hq
  have r_x := r_x.below b
  have r_y := r_y.below b
  have r_z := r_z.below b
  have r_p := r_p.below b
  have r_q := r_q.below b
  have r_l := r_l.below b
  have r_t := r_t.below b
  have r_r := r_r.below b
  have r_b := r_b.below b
  have B := B.trans (b.mono B.size)
  clear b
  go_wp2_with (fail)
  refine (FR.out a_p c_p _ r_p).mono ?_
  rintro e w' ⟨rfl, rfl⟩
  go_wp2_with (fail)
  refine (wakes_any _).mono ?_
  rintro e w13 ⟨rfl, b⟩
  have r_x := r_x.below b
  have r_y := r_y.below b
  have r_z := r_z.below b
  have r_p := r_p.below b
  have r_q := r_q.below b
  have r_l := r_l.below b
  have r_t := r_t.below b
  have r_r := r_r.below b
  have r_b := r_b.below b
  have B := B.trans (b.mono B.size)
  clear b
  go_wp2
  go_ret
  exact ⟨rfl, B⟩
end Go.Proofs.Ythjeollmjfdaeaa

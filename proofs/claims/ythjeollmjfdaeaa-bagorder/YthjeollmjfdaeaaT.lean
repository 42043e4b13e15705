/- The walk of the law BagOrder of chapter 3. -/
import Derived.Test.YthjeollmjfdaeaaP
namespace Go.Proofs.Ythjeollmjfdaeaa
open Go.ChangeShapes Go.WideShapes Go.ChangeAt Go.RowKit

theorem cmp_val {xs ys : List Int} {p : Int} (h : cmpL xs ys = p) (a b : Option Addr) (c d : Nat) (w : World) (R : Bag w a c xs) (S : Bag w b d ys) :
    Calls Try.prog 21 #[.slice a xs.length c, .slice b ys.length d] w (Tells p w) := h ▸ cmp21 a b c d xs ys w R S
theorem same_no {xs ys : List Int} (h : xs ≠ ys) (a b : Option Addr) (c d : Nat) (w : World) (R : Bag w a c xs) (S : Bag w b d ys) :
    Calls Try.prog 18 #[.slice a xs.length c, .slice b ys.length d] w (Reads (.bool false) w) := by
  have C := same_any a b c d xs ys w R S
  rwa [show sameL xs ys = false by simp [sameL, h]] at C

set_option maxHeartbeats 8000000 in
set_option maxRecDepth 100000 in
theorem order_walk (a0 a1 a2 : Option Addr) (l0 c0 l1 c1 l2 c2 : Nat) (z0 z1 z2 : List Int) (w : World) (K0 : Hid (Came w a0 l0 c0 z0)) (K1 : Hid (Came w a1 l1 c1 z1)) (K2 : Hid (Came w a2 l2 c2 z2)) :
    Calls Try.prog 6 #[.slice a0 l0 c0, .slice a1 l1 c1, .slice a2 l2 c2] w (True_ w) := by
  go_enter Try.func6, Try.ntmps6
  go_wp2_with (fail)
  with_reducible refine (play_any a0 l0 c0 z0 _ K0.out).mono ?_
  rintro e w1 ⟨xs, sx, a_x, c_x, rfl, r_x, _, b⟩
  have K1 := Lib.hid (K1.out.below b)
  have K2 := Lib.hid (K2.out.below b)
  have B := b
  clear b
  go_wp2_with (fail)
  with_reducible refine (play_any a1 l1 c1 z1 _ K1.out).mono ?_
  rintro e w2 ⟨ys, sy, a_y, c_y, rfl, r_y, _, b⟩
  have r_x := r_x.below b
  have K2 := Lib.hid (K2.out.below b)
  have B := B.trans (b.mono B.size)
  clear b
  go_wp2_with (fail)
  with_reducible refine (play_any a2 l2 c2 z2 _ K2.out).mono ?_
  rintro e w3 ⟨zs, sz, a_z, c_z, rfl, r_z, _, b⟩
  have r_x := r_x.below b
  have r_y := r_y.below b
  have B := B.trans (b.mono B.size)
  clear b
  clear K0 K1 K2
  have hneg := cmp_neg sx.right sy.right
  have hzero := cmp_zero sx.right sy.right
  have hlen := cmp_len sx.right sy.right
  have htr := cmp_trans sx.right sy.right sz.right
  rcases cmp_bound xs ys with hp | hp | hp
  · have F1 := Lib.hid (cmp_val hp)
    have F2 := Lib.hid (cmp_val (hneg.trans (by rw [hp]; rfl)) (p := 1))
    have FS := Lib.hid (same_no (fun e => by have := hzero.2 e; omega))
    have HT := Lib.hid (htr (by omega))
    by_cases hl : xs.length = ys.length
    · clear hneg hzero hlen htr hp
      rw [hl] at F1 F2 FS ⊢
      have HLe := Lib.hid hl
      clear hl
      go_wp2_with (fail)
      with_reducible refine (F1.out a_x a_y c_x c_y _ r_x r_y).mono ?_
      rintro e w4 ⟨rfl, b⟩
      have r_x := r_x.below b
      have r_y := r_y.below b
      have r_z := r_z.below b
      have B := B.trans (b.mono B.size)
      clear b
      go_wp2_with (fail)
      with_reducible refine (F2.out a_y a_x c_y c_x _ r_y r_x).mono ?_
      rintro e w5 ⟨rfl, b⟩
      have r_x := r_x.below b
      have r_y := r_y.below b
      have r_z := r_z.below b
      have B := B.trans (b.mono B.size)
      clear b
      go_wp2_with (fail)
      with_reducible refine (FS.out a_x a_y c_x c_y _ r_x r_y).mono ?_
      rintro e w6 ⟨rfl, q, hq⟩
      have b := reads_below hq
      clear hq
      have r_x := r_x.below b
      have r_y := r_y.below b
      have r_z := r_z.below b
      have B := B.trans (b.mono B.size)
      clear b
      obtain ⟨r, hr⟩ : ∃ r, r = cmpL ys zs := ⟨_, rfl⟩
      have F3 := Lib.hid (cmp_val hr.symm)
      by_cases hr0 : r ≤ 0
      · obtain ⟨s, hs⟩ : ∃ s, s = cmpL xs zs := ⟨_, rfl⟩
        have hs0 : ¬ 0 < s := by have := HT.out (by rw [← hr]; exact hr0); rw [hs]; omega
        have F4 := Lib.hid (cmp_val hs.symm)
        rw [HLe.out] at F4
        clear hr hs
        go_wp2_with (fail)
        with_reducible refine (F3.out a_y a_z c_y c_z _ r_y r_z).mono ?_
        rintro e w7 ⟨rfl, b⟩
        have r_x := r_x.below b
        have r_y := r_y.below b
        have r_z := r_z.below b
        have B := B.trans (b.mono B.size)
        clear b
        go_wp2_with (fail)
        with_reducible refine (F4.out a_x a_z c_x c_z _ r_x r_z).mono ?_
        rintro e w8 ⟨rfl, b⟩
        have r_x := r_x.below b
        have r_y := r_y.below b
        have r_z := r_z.below b
        have B := B.trans (b.mono B.size)
        clear b
        go_wp2_with (fail)
        with_reducible refine (wakes_any _).mono ?_
        rintro e w9 ⟨rfl, b⟩
        have r_x := r_x.below b
        have r_y := r_y.below b
        have r_z := r_z.below b
        have B := B.trans (b.mono B.size)
        clear b
        go_wp2
        go_ret
        exact ⟨rfl, B⟩
      · clear hr
        go_wp2_with (fail)
        with_reducible refine (F3.out a_y a_z c_y c_z _ r_y r_z).mono ?_
        rintro e w7 ⟨rfl, b⟩
        have r_x := r_x.below b
        have r_y := r_y.below b
        have r_z := r_z.below b
        have B := B.trans (b.mono B.size)
        clear b
        go_wp2_with (fail)
        with_reducible refine (wakes_any _).mono ?_
        rintro e w8 ⟨rfl, b⟩
        have r_x := r_x.below b
        have r_y := r_y.below b
        have r_z := r_z.below b
        have B := B.trans (b.mono B.size)
        clear b
        go_wp2
        go_ret
        exact ⟨rfl, B⟩
    · have hlt : xs.length < ys.length := (hlen hl).1 (by omega)
      clear hneg hzero hlen htr hp
      go_wp2_with (fail)
      with_reducible refine (F1.out a_x a_y c_x c_y _ r_x r_y).mono ?_
      rintro e w4 ⟨rfl, b⟩
      have r_x := r_x.below b
      have r_y := r_y.below b
      have r_z := r_z.below b
      have B := B.trans (b.mono B.size)
      clear b
      go_wp2_with (fail)
      with_reducible refine (F2.out a_y a_x c_y c_x _ r_y r_x).mono ?_
      rintro e w5 ⟨rfl, b⟩
      have r_x := r_x.below b
      have r_y := r_y.below b
      have r_z := r_z.below b
      have B := B.trans (b.mono B.size)
      clear b
      go_wp2_with (fail)
      with_reducible refine (FS.out a_x a_y c_x c_y _ r_x r_y).mono ?_
      rintro e w6 ⟨rfl, q, hq⟩
      have b := reads_below hq
      clear hq
      have r_x := r_x.below b
      have r_y := r_y.below b
      have r_z := r_z.below b
      have B := B.trans (b.mono B.size)
      clear b
      obtain ⟨r, hr⟩ : ∃ r, r = cmpL ys zs := ⟨_, rfl⟩
      have F3 := Lib.hid (cmp_val hr.symm)
      by_cases hr0 : r ≤ 0
      · obtain ⟨s, hs⟩ : ∃ s, s = cmpL xs zs := ⟨_, rfl⟩
        have hs0 : ¬ 0 < s := by have := HT.out (by rw [← hr]; exact hr0); rw [hs]; omega
        have F4 := Lib.hid (cmp_val hs.symm)
        clear hr hs
        go_wp2_with (fail)
        with_reducible refine (F3.out a_y a_z c_y c_z _ r_y r_z).mono ?_
        rintro e w7 ⟨rfl, b⟩
        have r_x := r_x.below b
        have r_y := r_y.below b
        have r_z := r_z.below b
        have B := B.trans (b.mono B.size)
        clear b
        go_wp2_with (fail)
        with_reducible refine (F4.out a_x a_z c_x c_z _ r_x r_z).mono ?_
        rintro e w8 ⟨rfl, b⟩
        have r_x := r_x.below b
        have r_y := r_y.below b
        have r_z := r_z.below b
        have B := B.trans (b.mono B.size)
        clear b
        go_wp2_with (fail)
        with_reducible refine (wakes_any _).mono ?_
        rintro e w9 ⟨rfl, b⟩
        have r_x := r_x.below b
        have r_y := r_y.below b
        have r_z := r_z.below b
        have B := B.trans (b.mono B.size)
        clear b
        go_wp2
        go_ret
        exact ⟨rfl, B⟩
      · clear hr
        go_wp2_with (fail)
        with_reducible refine (F3.out a_y a_z c_y c_z _ r_y r_z).mono ?_
        rintro e w7 ⟨rfl, b⟩
        have r_x := r_x.below b
        have r_y := r_y.below b
        have r_z := r_z.below b
        have B := B.trans (b.mono B.size)
        clear b
        go_wp2_with (fail)
        with_reducible refine (wakes_any _).mono ?_
        rintro e w8 ⟨rfl, b⟩
        have r_x := r_x.below b
        have r_y := r_y.below b
        have r_z := r_z.below b
        have B := B.trans (b.mono B.size)
        clear b
        go_wp2
        go_ret
        exact ⟨rfl, B⟩
  · obtain rfl : xs = ys := hzero.1 hp
    have F1 := Lib.hid (cmp_val hp)
    have F2 := F1
    clear hneg hzero hlen htr hp
    go_wp2_with (fail)
    with_reducible refine (F1.out a_x a_y c_x c_y _ r_x r_y).mono ?_
    rintro e w4 ⟨rfl, b⟩
    have r_x := r_x.below b
    have r_y := r_y.below b
    have r_z := r_z.below b
    have B := B.trans (b.mono B.size)
    clear b
    go_wp2_with (fail)
    with_reducible refine (F2.out a_y a_x c_y c_x _ r_y r_x).mono ?_
    rintro e w5 ⟨rfl, b⟩
    have r_x := r_x.below b
    have r_y := r_y.below b
    have r_z := r_z.below b
    have B := B.trans (b.mono B.size)
    clear b
    go_wp2_with (fail)
    with_reducible refine (same_yes a_x a_y c_x c_y xs _ r_x r_y).mono ?_
    rintro e w6 ⟨rfl, q, hq⟩
    have b := reads_below hq
    clear hq
    have r_x := r_x.below b
    have r_y := r_y.below b
    have r_z := r_z.below b
    have B := B.trans (b.mono B.size)
    clear b
    obtain ⟨r, hr⟩ : ∃ r, r = cmpL xs zs := ⟨_, rfl⟩
    have F3 := Lib.hid (cmp_val hr.symm)
    by_cases hr0 : r ≤ 0
    · obtain ⟨s, hs⟩ : ∃ s, s = cmpL xs zs := ⟨_, rfl⟩
      have hs0 : ¬ 0 < s := by rw [hs, ← hr]; omega
      have F4 := Lib.hid (cmp_val hs.symm)
      clear hr hs
      go_wp2_with (fail)
      with_reducible refine (F3.out a_y a_z c_y c_z _ r_y r_z).mono ?_
      rintro e w7 ⟨rfl, b⟩
      have r_x := r_x.below b
      have r_y := r_y.below b
      have r_z := r_z.below b
      have B := B.trans (b.mono B.size)
      clear b
      go_wp2_with (fail)
      with_reducible refine (F4.out a_x a_z c_x c_z _ r_x r_z).mono ?_
      rintro e w8 ⟨rfl, b⟩
      have r_x := r_x.below b
      have r_y := r_y.below b
      have r_z := r_z.below b
      have B := B.trans (b.mono B.size)
      clear b
      go_wp2_with (fail)
      with_reducible refine (wakes_any _).mono ?_
      rintro e w9 ⟨rfl, b⟩
      have r_x := r_x.below b
      have r_y := r_y.below b
      have r_z := r_z.below b
      have B := B.trans (b.mono B.size)
      clear b
      go_wp2
      go_ret
      exact ⟨rfl, B⟩
    · clear hr
      go_wp2_with (fail)
      with_reducible refine (F3.out a_y a_z c_y c_z _ r_y r_z).mono ?_
      rintro e w7 ⟨rfl, b⟩
      have r_x := r_x.below b
      have r_y := r_y.below b
      have r_z := r_z.below b
      have B := B.trans (b.mono B.size)
      clear b
      go_wp2_with (fail)
      with_reducible refine (wakes_any _).mono ?_
      rintro e w8 ⟨rfl, b⟩
      have r_x := r_x.below b
      have r_y := r_y.below b
      have r_z := r_z.below b
      have B := B.trans (b.mono B.size)
      clear b
      go_wp2
      go_ret
      exact ⟨rfl, B⟩
  · have F1 := Lib.hid (cmp_val hp)
    have F2 := Lib.hid (cmp_val (hneg.trans (by rw [hp])) (p := -1))
    have FS := Lib.hid (same_no (fun e => by have := hzero.2 e; omega))
    by_cases hl : xs.length = ys.length
    · clear hneg hzero hlen htr hp
      rw [hl] at F1 F2 FS ⊢
      have HLe := Lib.hid hl
      clear hl
      go_wp2_with (fail)
      with_reducible refine (F1.out a_x a_y c_x c_y _ r_x r_y).mono ?_
      rintro e w4 ⟨rfl, b⟩
      have r_x := r_x.below b
      have r_y := r_y.below b
      have r_z := r_z.below b
      have B := B.trans (b.mono B.size)
      clear b
      go_wp2_with (fail)
      with_reducible refine (F2.out a_y a_x c_y c_x _ r_y r_x).mono ?_
      rintro e w5 ⟨rfl, b⟩
      have r_x := r_x.below b
      have r_y := r_y.below b
      have r_z := r_z.below b
      have B := B.trans (b.mono B.size)
      clear b
      go_wp2_with (fail)
      with_reducible refine (FS.out a_x a_y c_x c_y _ r_x r_y).mono ?_
      rintro e w6 ⟨rfl, q, hq⟩
      have b := reads_below hq
      clear hq
      have r_x := r_x.below b
      have r_y := r_y.below b
      have r_z := r_z.below b
      have B := B.trans (b.mono B.size)
      clear b
      go_wp2_with (fail)
      with_reducible refine (wakes_any _).mono ?_
      rintro e w7 ⟨rfl, b⟩
      have r_x := r_x.below b
      have r_y := r_y.below b
      have r_z := r_z.below b
      have B := B.trans (b.mono B.size)
      clear b
      go_wp2
      go_ret
      exact ⟨rfl, B⟩
    · have hlt : ¬ xs.length < ys.length := fun h => by have := (hlen hl).2 h; omega
      clear hneg hzero hlen htr hp
      go_wp2_with (fail)
      with_reducible refine (F1.out a_x a_y c_x c_y _ r_x r_y).mono ?_
      rintro e w4 ⟨rfl, b⟩
      have r_x := r_x.below b
      have r_y := r_y.below b
      have r_z := r_z.below b
      have B := B.trans (b.mono B.size)
      clear b
      go_wp2_with (fail)
      with_reducible refine (F2.out a_y a_x c_y c_x _ r_y r_x).mono ?_
      rintro e w5 ⟨rfl, b⟩
      have r_x := r_x.below b
      have r_y := r_y.below b
      have r_z := r_z.below b
      have B := B.trans (b.mono B.size)
      clear b
      go_wp2_with (fail)
      with_reducible refine (FS.out a_x a_y c_x c_y _ r_x r_y).mono ?_
      rintro e w6 ⟨rfl, q, hq⟩
      have b := reads_below hq
      clear hq
      have r_x := r_x.below b
      have r_y := r_y.below b
      have r_z := r_z.below b
      have B := B.trans (b.mono B.size)
      clear b
      go_wp2_with (fail)
      with_reducible refine (wakes_any _).mono ?_
      rintro e w7 ⟨rfl, b⟩
      have r_x := r_x.below b
      have r_y := r_y.below b
      have r_z := r_z.below b
      have B := B.trans (b.mono B.size)
      clear b
      go_wp2
      go_ret
      exact ⟨rfl, B⟩
end Go.Proofs.Ythjeollmjfdaeaa

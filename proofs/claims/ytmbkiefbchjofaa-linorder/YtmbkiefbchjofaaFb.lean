/- The walk of the law LinOrder. -/
import Derived.Test.YtmbkiefbchjofaaFa
namespace Go.Proofs.Ytmbkiefbchjofaa
open Go.ChangeShapes Go.WideShapes Go.ChangeAt Go.RowKit

set_option maxHeartbeats 8000000 in
set_option maxRecDepth 100000 in
theorem order_walk (a0 a1 a2 : Option Addr) (l0 c0 l1 c1 l2 c2 : Nat) (z0 z1 z2 : List Int) (w : World) (K0 : Hid (Came w a0 l0 c0 z0)) (K1 : Hid (Came w a1 l1 c1 z1)) (K2 : Hid (Came w a2 l2 c2 z2)) :
    Calls Try.prog 6 #[.slice a0 l0 c0, .slice a1 l1 c1, .slice a2 l2 c2] w (True_ w) := by
  go_enter Try.func6, Try.ntmps6
  go_wp2_with (fail)
  with_reducible refine (made_any a0 l0 c0 z0 _ K0.out).mono ?_
  rintro e w1 ⟨x, sx, ax, cx, px, qx, rfl, rx, tx, b⟩
  have K1 := Lib.hid (K1.out.below b)
  have K2 := Lib.hid (K2.out.below b)
  have BB := b
  clear b
  go_wp2_with (fail)
  with_reducible refine (made_any a1 l1 c1 z1 _ K1.out).mono ?_
  rintro e w2 ⟨y, sy, ay, cy, py, qy, rfl, ry, ty, b⟩
  have K2 := Lib.hid (K2.out.below b)
  replace rx := rx.below b
  replace tx := tx.below b
  replace BB := BB.trans (b.mono BB.size)
  clear b
  go_wp2_with (fail)
  with_reducible refine (made_any a2 l2 c2 z2 _ K2.out).mono ?_
  rintro e w3 ⟨z, sz, az, cz, pz, qz, rfl, rz, tz, b⟩
  replace rx := rx.below b
  replace tx := tx.below b
  replace ry := ry.below b
  replace ty := ty.below b
  replace BB := BB.trans (b.mono BB.size)
  clear b
  clear K0 K1 K2
  generalize hnx : x.base.length = nx
  generalize hmx : x.ps.length = mx
  generalize hny : y.base.length = ny
  generalize hmy : y.ps.length = my
  generalize hnz : z.base.length = nz
  generalize hmz : z.ps.length = mz
  have HS : Hid (Sts w [⟨w3.heap.size, ax, cx, nx, px, qx, mx, x⟩, ⟨w3.heap.size + 1, ay, cy, ny, py, qy, my, y⟩, ⟨w3.heap.size + 1 + 1, az, cz, nz, pz, qz, mz, z⟩] (((w3.alloc (.cells #[.slice ax nx cx, .slice px mx qx] 29)).alloc (.cells #[.slice ay ny cy, .slice py my qy] 29)).alloc (.cells #[.slice az nz cz, .slice pz mz qz] 29))) := Lib.hid (by
    have b1 := below_alloc w3 (.cells #[.slice ax nx cx, .slice px mx qx] 29)
    have b2 := below_alloc (w3.alloc (.cells #[.slice ax nx cx, .slice px mx qx] 29)) (.cells #[.slice ay ny cy, .slice py my qy] 29)
    have b3 := below_alloc ((w3.alloc (.cells #[.slice ax nx cx, .slice px mx qx] 29)).alloc (.cells #[.slice ay ny cy, .slice py my qy] 29)) (.cells #[.slice az nz cz, .slice pz mz qz] 29)
    have ix : Bx.In ⟨w3.heap.size, ax, cx, nx, px, qx, mx, x⟩ (w3.alloc (.cells #[.slice ax nx cx, .slice px mx qx] 29)) := Bx.In.new rx tx hnx hmx
    have iy : Bx.In ⟨w3.heap.size + 1, ay, cy, ny, py, qy, my, y⟩ ((w3.alloc (.cells #[.slice ax nx cx, .slice px mx qx] 29)).alloc (.cells #[.slice ay ny cy, .slice py my qy] 29)) := by
      have := Bx.In.new (ry.below b1) (ty.below b1) hny hmy
      simpa using this
    have iz : Bx.In ⟨w3.heap.size + 1 + 1, az, cz, nz, pz, qz, mz, z⟩ (((w3.alloc (.cells #[.slice ax nx cx, .slice px mx qx] 29)).alloc (.cells #[.slice ay ny cy, .slice py my qy] 29)).alloc (.cells #[.slice az nz cz, .slice pz mz qz] 29)) := by
      have := Bx.In.new ((rz.below b1).below b2) ((tz.below b1).below b2) hnz hmz
      simpa using this
    refine ⟨((BB.alloc BB.size _).alloc (by have := BB.size; simp; omega) _).alloc (by have := BB.size; simp; omega) _, ?_⟩
    intro e he
    simp only [List.mem_cons, List.not_mem_nil, or_false] at he
    rcases he with rfl | rfl | rfl
    · exact (ix.below b2).below b3
    · exact iy.below b3
    · exact iz)
  clear rx tx ry ty rz tz BB hnx hmx hny hmy hnz hmz
  have HX := Lib.hid sx.right
  have HY := Lib.hid sy.right
  have HZ0 := Lib.hid sz.right
  clear sx sy sz
  go_wp2_with (fail)
  generalize ((w3.alloc (.cells #[.slice ax nx cx, .slice px mx qx] 29)).alloc (.cells #[.slice ay ny cy, .slice py my qy] 29)).alloc (.cells #[.slice az nz cz, .slice pz mz qz] 29) = W4 at HS ⊢
  generalize w3.heap.size = g at HS ⊢
  have ex0 : W4.cell? ⟨g, 0, none⟩ = some (.slice ax nx cx) := (HS.out.all ⟨g, ax, cx, nx, px, qx, mx, x⟩ (by simp)).c0
  have ex1 : W4.cell? ⟨g, 1, none⟩ = some (.slice px mx qx) := (HS.out.all ⟨g, ax, cx, nx, px, qx, mx, x⟩ (by simp)).c1
  have ey0 : W4.cell? ⟨g + 1, 0, none⟩ = some (.slice ay ny cy) := (HS.out.all ⟨g + 1, ay, cy, ny, py, qy, my, y⟩ (by simp)).c0
  have ey1 : W4.cell? ⟨g + 1, 1, none⟩ = some (.slice py my qy) := (HS.out.all ⟨g + 1, ay, cy, ny, py, qy, my, y⟩ (by simp)).c1
  have ez0 : W4.cell? ⟨g + 1 + 1, 0, none⟩ = some (.slice az nz cz) := (HS.out.all ⟨g + 1 + 1, az, cz, nz, pz, qz, mz, z⟩ (by simp)).c0
  have ez1 : W4.cell? ⟨g + 1 + 1, 1, none⟩ = some (.slice pz mz qz) := (HS.out.all ⟨g + 1 + 1, az, cz, nz, pz, qz, mz, z⟩ (by simp)).c1
  rcases cmpLin_bound x y with hp | hp | hp
  · have F1 : Hid (cmpLin x y = -1) := Lib.hid hp
    have F2 : Hid (cmpLin y x = 1) := Lib.hid (by rw [cmpLin_neg HX.out HY.out, hp]; try rfl)
    have F0 : Hid (cmpLin x x = 0) := Lib.hid ((cmpLin_zero HX.out HX.out).2 rfl)
    have FS : Hid (decide (x = y) = false) := Lib.hid (by rw [decide_eq_false_iff_not]; intro e; have := (cmpLin_zero HX.out HY.out).2 e; omega)
    clear hp
    have Z : Calls Try.prog 18 #[.agg #[.slice ax nx cx, .slice px mx qx], .agg #[.slice ay ny cy, .slice py my qy]] W4 (Tells (-1) W4) := cmp_val (e := ⟨g, ax, cx, nx, px, qx, mx, x⟩) (f := ⟨g + 1, ay, cy, ny, py, qy, my, y⟩) F1.out (HS.out.all ⟨g, ax, cx, nx, px, qx, mx, x⟩ (by simp)) (HS.out.all ⟨g + 1, ay, cy, ny, py, qy, my, y⟩ (by simp))
    have HZ := Lib.hid Z
    clear Z
    refine HZ.out.mono ?_
    rintro e W5 ⟨rfl, b⟩
    clear HZ
    clear ex0 ex1 ey0 ey1 ez0 ez1
    have HS := Lib.hid (HS.out.below b)
    clear b
    have ex0 : W5.cell? ⟨g, 0, none⟩ = some (.slice ax nx cx) := (HS.out.all ⟨g, ax, cx, nx, px, qx, mx, x⟩ (by simp)).c0
    have ex1 : W5.cell? ⟨g, 1, none⟩ = some (.slice px mx qx) := (HS.out.all ⟨g, ax, cx, nx, px, qx, mx, x⟩ (by simp)).c1
    have ey0 : W5.cell? ⟨g + 1, 0, none⟩ = some (.slice ay ny cy) := (HS.out.all ⟨g + 1, ay, cy, ny, py, qy, my, y⟩ (by simp)).c0
    have ey1 : W5.cell? ⟨g + 1, 1, none⟩ = some (.slice py my qy) := (HS.out.all ⟨g + 1, ay, cy, ny, py, qy, my, y⟩ (by simp)).c1
    have ez0 : W5.cell? ⟨g + 1 + 1, 0, none⟩ = some (.slice az nz cz) := (HS.out.all ⟨g + 1 + 1, az, cz, nz, pz, qz, mz, z⟩ (by simp)).c0
    have ez1 : W5.cell? ⟨g + 1 + 1, 1, none⟩ = some (.slice pz mz qz) := (HS.out.all ⟨g + 1 + 1, az, cz, nz, pz, qz, mz, z⟩ (by simp)).c1
    have Z : Calls Try.prog 18 #[.agg #[.slice ay ny cy, .slice py my qy], .agg #[.slice ax nx cx, .slice px mx qx]] W5 (Tells (1) W5) := cmp_val (e := ⟨g + 1, ay, cy, ny, py, qy, my, y⟩) (f := ⟨g, ax, cx, nx, px, qx, mx, x⟩) F2.out (HS.out.all ⟨g + 1, ay, cy, ny, py, qy, my, y⟩ (by simp)) (HS.out.all ⟨g, ax, cx, nx, px, qx, mx, x⟩ (by simp))
    have HZ := Lib.hid Z
    clear Z
    go_wp2_with (fail)
    refine HZ.out.mono ?_
    rintro e W6 ⟨rfl, b⟩
    clear HZ
    clear ex0 ex1 ey0 ey1 ez0 ez1
    have HS := Lib.hid (HS.out.below b)
    clear b
    have ex0 : W6.cell? ⟨g, 0, none⟩ = some (.slice ax nx cx) := (HS.out.all ⟨g, ax, cx, nx, px, qx, mx, x⟩ (by simp)).c0
    have ex1 : W6.cell? ⟨g, 1, none⟩ = some (.slice px mx qx) := (HS.out.all ⟨g, ax, cx, nx, px, qx, mx, x⟩ (by simp)).c1
    have ey0 : W6.cell? ⟨g + 1, 0, none⟩ = some (.slice ay ny cy) := (HS.out.all ⟨g + 1, ay, cy, ny, py, qy, my, y⟩ (by simp)).c0
    have ey1 : W6.cell? ⟨g + 1, 1, none⟩ = some (.slice py my qy) := (HS.out.all ⟨g + 1, ay, cy, ny, py, qy, my, y⟩ (by simp)).c1
    have ez0 : W6.cell? ⟨g + 1 + 1, 0, none⟩ = some (.slice az nz cz) := (HS.out.all ⟨g + 1 + 1, az, cz, nz, pz, qz, mz, z⟩ (by simp)).c0
    have ez1 : W6.cell? ⟨g + 1 + 1, 1, none⟩ = some (.slice pz mz qz) := (HS.out.all ⟨g + 1 + 1, az, cz, nz, pz, qz, mz, z⟩ (by simp)).c1
    have Z : Calls Try.prog 17 #[.agg #[.slice ax nx cx, .slice px mx qx], .agg #[.slice ay ny cy, .slice py my qy]] W6 (TellsB false W6) := same_val (e := ⟨g, ax, cx, nx, px, qx, mx, x⟩) (f := ⟨g + 1, ay, cy, ny, py, qy, my, y⟩) FS.out (HS.out.all ⟨g, ax, cx, nx, px, qx, mx, x⟩ (by simp)) (HS.out.all ⟨g + 1, ay, cy, ny, py, qy, my, y⟩ (by simp))
    have HZ := Lib.hid Z
    clear Z
    go_wp2_with (fail)
    refine HZ.out.mono ?_
    rintro e W7 ⟨rfl, b⟩
    clear HZ
    clear ex0 ex1 ey0 ey1 ez0 ez1
    have HS := Lib.hid (HS.out.below b)
    clear b
    have ex0 : W7.cell? ⟨g, 0, none⟩ = some (.slice ax nx cx) := (HS.out.all ⟨g, ax, cx, nx, px, qx, mx, x⟩ (by simp)).c0
    have ex1 : W7.cell? ⟨g, 1, none⟩ = some (.slice px mx qx) := (HS.out.all ⟨g, ax, cx, nx, px, qx, mx, x⟩ (by simp)).c1
    have ey0 : W7.cell? ⟨g + 1, 0, none⟩ = some (.slice ay ny cy) := (HS.out.all ⟨g + 1, ay, cy, ny, py, qy, my, y⟩ (by simp)).c0
    have ey1 : W7.cell? ⟨g + 1, 1, none⟩ = some (.slice py my qy) := (HS.out.all ⟨g + 1, ay, cy, ny, py, qy, my, y⟩ (by simp)).c1
    have ez0 : W7.cell? ⟨g + 1 + 1, 0, none⟩ = some (.slice az nz cz) := (HS.out.all ⟨g + 1 + 1, az, cz, nz, pz, qz, mz, z⟩ (by simp)).c0
    have ez1 : W7.cell? ⟨g + 1 + 1, 1, none⟩ = some (.slice pz mz qz) := (HS.out.all ⟨g + 1 + 1, az, cz, nz, pz, qz, mz, z⟩ (by simp)).c1
    rcases cmpLin_bound y z with hq | hq | hq
    · have G1 : Hid (cmpLin y z = -1) := Lib.hid hq
      have G2 : Hid (cmpLin x z ≤ 0) := Lib.hid (cmpLin_trans HX.out HY.out HZ0.out (by rw [F1.out]; decide) (by rw [hq]; decide))
      clear hq
      have Z : Calls Try.prog 18 #[.agg #[.slice ay ny cy, .slice py my qy], .agg #[.slice az nz cz, .slice pz mz qz]] W7 (Tells (-1) W7) := cmp_val (e := ⟨g + 1, ay, cy, ny, py, qy, my, y⟩) (f := ⟨g + 1 + 1, az, cz, nz, pz, qz, mz, z⟩) G1.out (HS.out.all ⟨g + 1, ay, cy, ny, py, qy, my, y⟩ (by simp)) (HS.out.all ⟨g + 1 + 1, az, cz, nz, pz, qz, mz, z⟩ (by simp))
      have HZ := Lib.hid Z
      clear Z
      go_wp2_with (fail)
      refine HZ.out.mono ?_
      rintro e W8 ⟨rfl, b⟩
      clear HZ
      clear ex0 ex1 ey0 ey1 ez0 ez1
      have HS := Lib.hid (HS.out.below b)
      clear b
      have ex0 : W8.cell? ⟨g, 0, none⟩ = some (.slice ax nx cx) := (HS.out.all ⟨g, ax, cx, nx, px, qx, mx, x⟩ (by simp)).c0
      have ex1 : W8.cell? ⟨g, 1, none⟩ = some (.slice px mx qx) := (HS.out.all ⟨g, ax, cx, nx, px, qx, mx, x⟩ (by simp)).c1
      have ey0 : W8.cell? ⟨g + 1, 0, none⟩ = some (.slice ay ny cy) := (HS.out.all ⟨g + 1, ay, cy, ny, py, qy, my, y⟩ (by simp)).c0
      have ey1 : W8.cell? ⟨g + 1, 1, none⟩ = some (.slice py my qy) := (HS.out.all ⟨g + 1, ay, cy, ny, py, qy, my, y⟩ (by simp)).c1
      have ez0 : W8.cell? ⟨g + 1 + 1, 0, none⟩ = some (.slice az nz cz) := (HS.out.all ⟨g + 1 + 1, az, cz, nz, pz, qz, mz, z⟩ (by simp)).c0
      have ez1 : W8.cell? ⟨g + 1 + 1, 1, none⟩ = some (.slice pz mz qz) := (HS.out.all ⟨g + 1 + 1, az, cz, nz, pz, qz, mz, z⟩ (by simp)).c1
      have G3 := G2.out
      have G4 := cmpLin_bound x z
      generalize hr : cmpLin x z = r at G3 G4
      have G5 := Lib.hid hr
      have G6 : -1 ≤ r := by omega
      clear hr G2 G4
      have Z : Calls Try.prog 18 #[.agg #[.slice ax nx cx, .slice px mx qx], .agg #[.slice az nz cz, .slice pz mz qz]] W8 (Tells r W8) := cmp_val (e := ⟨g, ax, cx, nx, px, qx, mx, x⟩) (f := ⟨g + 1 + 1, az, cz, nz, pz, qz, mz, z⟩) G5.out (HS.out.all ⟨g, ax, cx, nx, px, qx, mx, x⟩ (by simp)) (HS.out.all ⟨g + 1 + 1, az, cz, nz, pz, qz, mz, z⟩ (by simp))
      have HZ := Lib.hid Z
      clear Z
      go_wp2_with (fail)
      refine HZ.out.mono ?_
      rintro e W9 ⟨rfl, b⟩
      clear HZ
      clear ex0 ex1 ey0 ey1 ez0 ez1
      have HS := Lib.hid (HS.out.below b)
      clear b
      have ex0 : W9.cell? ⟨g, 0, none⟩ = some (.slice ax nx cx) := (HS.out.all ⟨g, ax, cx, nx, px, qx, mx, x⟩ (by simp)).c0
      have ex1 : W9.cell? ⟨g, 1, none⟩ = some (.slice px mx qx) := (HS.out.all ⟨g, ax, cx, nx, px, qx, mx, x⟩ (by simp)).c1
      have ey0 : W9.cell? ⟨g + 1, 0, none⟩ = some (.slice ay ny cy) := (HS.out.all ⟨g + 1, ay, cy, ny, py, qy, my, y⟩ (by simp)).c0
      have ey1 : W9.cell? ⟨g + 1, 1, none⟩ = some (.slice py my qy) := (HS.out.all ⟨g + 1, ay, cy, ny, py, qy, my, y⟩ (by simp)).c1
      have ez0 : W9.cell? ⟨g + 1 + 1, 0, none⟩ = some (.slice az nz cz) := (HS.out.all ⟨g + 1 + 1, az, cz, nz, pz, qz, mz, z⟩ (by simp)).c0
      have ez1 : W9.cell? ⟨g + 1 + 1, 1, none⟩ = some (.slice pz mz qz) := (HS.out.all ⟨g + 1 + 1, az, cz, nz, pz, qz, mz, z⟩ (by simp)).c1
      have Z : Calls Try.prog 18 #[.agg #[.slice ax nx cx, .slice px mx qx], .agg #[.slice ax nx cx, .slice px mx qx]] W9 (Tells 0 W9) := cmp_val (e := ⟨g, ax, cx, nx, px, qx, mx, x⟩) (f := ⟨g, ax, cx, nx, px, qx, mx, x⟩) F0.out (HS.out.all ⟨g, ax, cx, nx, px, qx, mx, x⟩ (by simp)) (HS.out.all ⟨g, ax, cx, nx, px, qx, mx, x⟩ (by simp))
      have HZ := Lib.hid Z
      clear Z
      go_wp2_with (fail)
      refine HZ.out.mono ?_
      rintro e W10 ⟨rfl, b⟩
      clear HZ
      clear ex0 ex1 ey0 ey1 ez0 ez1
      have HS := Lib.hid (HS.out.below b)
      clear b
      have ex0 : W10.cell? ⟨g, 0, none⟩ = some (.slice ax nx cx) := (HS.out.all ⟨g, ax, cx, nx, px, qx, mx, x⟩ (by simp)).c0
      have ex1 : W10.cell? ⟨g, 1, none⟩ = some (.slice px mx qx) := (HS.out.all ⟨g, ax, cx, nx, px, qx, mx, x⟩ (by simp)).c1
      have ey0 : W10.cell? ⟨g + 1, 0, none⟩ = some (.slice ay ny cy) := (HS.out.all ⟨g + 1, ay, cy, ny, py, qy, my, y⟩ (by simp)).c0
      have ey1 : W10.cell? ⟨g + 1, 1, none⟩ = some (.slice py my qy) := (HS.out.all ⟨g + 1, ay, cy, ny, py, qy, my, y⟩ (by simp)).c1
      have ez0 : W10.cell? ⟨g + 1 + 1, 0, none⟩ = some (.slice az nz cz) := (HS.out.all ⟨g + 1 + 1, az, cz, nz, pz, qz, mz, z⟩ (by simp)).c0
      have ez1 : W10.cell? ⟨g + 1 + 1, 1, none⟩ = some (.slice pz mz qz) := (HS.out.all ⟨g + 1 + 1, az, cz, nz, pz, qz, mz, z⟩ (by simp)).c1
      go_wp2_with (fail)
      refine (wakes_any _).mono ?_
      rintro e WF ⟨rfl, b⟩
      have HF := Lib.hid (HS.out.bel.trans (b.mono HS.out.bel.size))
      clear b
      go_wp2
      go_ret
      exact ⟨rfl, HF.out⟩
    · have G1 : Hid (cmpLin y z = 0) := Lib.hid hq
      have G2 : Hid (cmpLin x z ≤ 0) := Lib.hid (cmpLin_trans HX.out HY.out HZ0.out (by rw [F1.out]; decide) (by rw [hq]; decide))
      clear hq
      have Z : Calls Try.prog 18 #[.agg #[.slice ay ny cy, .slice py my qy], .agg #[.slice az nz cz, .slice pz mz qz]] W7 (Tells (0) W7) := cmp_val (e := ⟨g + 1, ay, cy, ny, py, qy, my, y⟩) (f := ⟨g + 1 + 1, az, cz, nz, pz, qz, mz, z⟩) G1.out (HS.out.all ⟨g + 1, ay, cy, ny, py, qy, my, y⟩ (by simp)) (HS.out.all ⟨g + 1 + 1, az, cz, nz, pz, qz, mz, z⟩ (by simp))
      have HZ := Lib.hid Z
      clear Z
      go_wp2_with (fail)
      refine HZ.out.mono ?_
      rintro e W8 ⟨rfl, b⟩
      clear HZ
      clear ex0 ex1 ey0 ey1 ez0 ez1
      have HS := Lib.hid (HS.out.below b)
      clear b
      have ex0 : W8.cell? ⟨g, 0, none⟩ = some (.slice ax nx cx) := (HS.out.all ⟨g, ax, cx, nx, px, qx, mx, x⟩ (by simp)).c0
      have ex1 : W8.cell? ⟨g, 1, none⟩ = some (.slice px mx qx) := (HS.out.all ⟨g, ax, cx, nx, px, qx, mx, x⟩ (by simp)).c1
      have ey0 : W8.cell? ⟨g + 1, 0, none⟩ = some (.slice ay ny cy) := (HS.out.all ⟨g + 1, ay, cy, ny, py, qy, my, y⟩ (by simp)).c0
      have ey1 : W8.cell? ⟨g + 1, 1, none⟩ = some (.slice py my qy) := (HS.out.all ⟨g + 1, ay, cy, ny, py, qy, my, y⟩ (by simp)).c1
      have ez0 : W8.cell? ⟨g + 1 + 1, 0, none⟩ = some (.slice az nz cz) := (HS.out.all ⟨g + 1 + 1, az, cz, nz, pz, qz, mz, z⟩ (by simp)).c0
      have ez1 : W8.cell? ⟨g + 1 + 1, 1, none⟩ = some (.slice pz mz qz) := (HS.out.all ⟨g + 1 + 1, az, cz, nz, pz, qz, mz, z⟩ (by simp)).c1
      have G3 := G2.out
      have G4 := cmpLin_bound x z
      generalize hr : cmpLin x z = r at G3 G4
      have G5 := Lib.hid hr
      have G6 : -1 ≤ r := by omega
      clear hr G2 G4
      have Z : Calls Try.prog 18 #[.agg #[.slice ax nx cx, .slice px mx qx], .agg #[.slice az nz cz, .slice pz mz qz]] W8 (Tells r W8) := cmp_val (e := ⟨g, ax, cx, nx, px, qx, mx, x⟩) (f := ⟨g + 1 + 1, az, cz, nz, pz, qz, mz, z⟩) G5.out (HS.out.all ⟨g, ax, cx, nx, px, qx, mx, x⟩ (by simp)) (HS.out.all ⟨g + 1 + 1, az, cz, nz, pz, qz, mz, z⟩ (by simp))
      have HZ := Lib.hid Z
      clear Z
      go_wp2_with (fail)
      refine HZ.out.mono ?_
      rintro e W9 ⟨rfl, b⟩
      clear HZ
      clear ex0 ex1 ey0 ey1 ez0 ez1
      have HS := Lib.hid (HS.out.below b)
      clear b
      have ex0 : W9.cell? ⟨g, 0, none⟩ = some (.slice ax nx cx) := (HS.out.all ⟨g, ax, cx, nx, px, qx, mx, x⟩ (by simp)).c0
      have ex1 : W9.cell? ⟨g, 1, none⟩ = some (.slice px mx qx) := (HS.out.all ⟨g, ax, cx, nx, px, qx, mx, x⟩ (by simp)).c1
      have ey0 : W9.cell? ⟨g + 1, 0, none⟩ = some (.slice ay ny cy) := (HS.out.all ⟨g + 1, ay, cy, ny, py, qy, my, y⟩ (by simp)).c0
      have ey1 : W9.cell? ⟨g + 1, 1, none⟩ = some (.slice py my qy) := (HS.out.all ⟨g + 1, ay, cy, ny, py, qy, my, y⟩ (by simp)).c1
      have ez0 : W9.cell? ⟨g + 1 + 1, 0, none⟩ = some (.slice az nz cz) := (HS.out.all ⟨g + 1 + 1, az, cz, nz, pz, qz, mz, z⟩ (by simp)).c0
      have ez1 : W9.cell? ⟨g + 1 + 1, 1, none⟩ = some (.slice pz mz qz) := (HS.out.all ⟨g + 1 + 1, az, cz, nz, pz, qz, mz, z⟩ (by simp)).c1
      have Z : Calls Try.prog 18 #[.agg #[.slice ax nx cx, .slice px mx qx], .agg #[.slice ax nx cx, .slice px mx qx]] W9 (Tells 0 W9) := cmp_val (e := ⟨g, ax, cx, nx, px, qx, mx, x⟩) (f := ⟨g, ax, cx, nx, px, qx, mx, x⟩) F0.out (HS.out.all ⟨g, ax, cx, nx, px, qx, mx, x⟩ (by simp)) (HS.out.all ⟨g, ax, cx, nx, px, qx, mx, x⟩ (by simp))
      have HZ := Lib.hid Z
      clear Z
      go_wp2_with (fail)
      refine HZ.out.mono ?_
      rintro e W10 ⟨rfl, b⟩
      clear HZ
      clear ex0 ex1 ey0 ey1 ez0 ez1
      have HS := Lib.hid (HS.out.below b)
      clear b
      have ex0 : W10.cell? ⟨g, 0, none⟩ = some (.slice ax nx cx) := (HS.out.all ⟨g, ax, cx, nx, px, qx, mx, x⟩ (by simp)).c0
      have ex1 : W10.cell? ⟨g, 1, none⟩ = some (.slice px mx qx) := (HS.out.all ⟨g, ax, cx, nx, px, qx, mx, x⟩ (by simp)).c1
      have ey0 : W10.cell? ⟨g + 1, 0, none⟩ = some (.slice ay ny cy) := (HS.out.all ⟨g + 1, ay, cy, ny, py, qy, my, y⟩ (by simp)).c0
      have ey1 : W10.cell? ⟨g + 1, 1, none⟩ = some (.slice py my qy) := (HS.out.all ⟨g + 1, ay, cy, ny, py, qy, my, y⟩ (by simp)).c1
      have ez0 : W10.cell? ⟨g + 1 + 1, 0, none⟩ = some (.slice az nz cz) := (HS.out.all ⟨g + 1 + 1, az, cz, nz, pz, qz, mz, z⟩ (by simp)).c0
      have ez1 : W10.cell? ⟨g + 1 + 1, 1, none⟩ = some (.slice pz mz qz) := (HS.out.all ⟨g + 1 + 1, az, cz, nz, pz, qz, mz, z⟩ (by simp)).c1
      go_wp2_with (fail)
      refine (wakes_any _).mono ?_
      rintro e WF ⟨rfl, b⟩
      have HF := Lib.hid (HS.out.bel.trans (b.mono HS.out.bel.size))
      clear b
      go_wp2
      go_ret
      exact ⟨rfl, HF.out⟩
    · have G1 : Hid (cmpLin y z = 1) := Lib.hid hq
      clear hq
      have Z : Calls Try.prog 18 #[.agg #[.slice ay ny cy, .slice py my qy], .agg #[.slice az nz cz, .slice pz mz qz]] W7 (Tells (1) W7) := cmp_val (e := ⟨g + 1, ay, cy, ny, py, qy, my, y⟩) (f := ⟨g + 1 + 1, az, cz, nz, pz, qz, mz, z⟩) G1.out (HS.out.all ⟨g + 1, ay, cy, ny, py, qy, my, y⟩ (by simp)) (HS.out.all ⟨g + 1 + 1, az, cz, nz, pz, qz, mz, z⟩ (by simp))
      have HZ := Lib.hid Z
      clear Z
      go_wp2_with (fail)
      refine HZ.out.mono ?_
      rintro e W8 ⟨rfl, b⟩
      clear HZ
      clear ex0 ex1 ey0 ey1 ez0 ez1
      have HS := Lib.hid (HS.out.below b)
      clear b
      have ex0 : W8.cell? ⟨g, 0, none⟩ = some (.slice ax nx cx) := (HS.out.all ⟨g, ax, cx, nx, px, qx, mx, x⟩ (by simp)).c0
      have ex1 : W8.cell? ⟨g, 1, none⟩ = some (.slice px mx qx) := (HS.out.all ⟨g, ax, cx, nx, px, qx, mx, x⟩ (by simp)).c1
      have ey0 : W8.cell? ⟨g + 1, 0, none⟩ = some (.slice ay ny cy) := (HS.out.all ⟨g + 1, ay, cy, ny, py, qy, my, y⟩ (by simp)).c0
      have ey1 : W8.cell? ⟨g + 1, 1, none⟩ = some (.slice py my qy) := (HS.out.all ⟨g + 1, ay, cy, ny, py, qy, my, y⟩ (by simp)).c1
      have ez0 : W8.cell? ⟨g + 1 + 1, 0, none⟩ = some (.slice az nz cz) := (HS.out.all ⟨g + 1 + 1, az, cz, nz, pz, qz, mz, z⟩ (by simp)).c0
      have ez1 : W8.cell? ⟨g + 1 + 1, 1, none⟩ = some (.slice pz mz qz) := (HS.out.all ⟨g + 1 + 1, az, cz, nz, pz, qz, mz, z⟩ (by simp)).c1
      have Z : Calls Try.prog 18 #[.agg #[.slice ax nx cx, .slice px mx qx], .agg #[.slice ax nx cx, .slice px mx qx]] W8 (Tells 0 W8) := cmp_val (e := ⟨g, ax, cx, nx, px, qx, mx, x⟩) (f := ⟨g, ax, cx, nx, px, qx, mx, x⟩) F0.out (HS.out.all ⟨g, ax, cx, nx, px, qx, mx, x⟩ (by simp)) (HS.out.all ⟨g, ax, cx, nx, px, qx, mx, x⟩ (by simp))
      have HZ := Lib.hid Z
      clear Z
      go_wp2_with (fail)
      refine HZ.out.mono ?_
      rintro e W10 ⟨rfl, b⟩
      clear HZ
      clear ex0 ex1 ey0 ey1 ez0 ez1
      have HS := Lib.hid (HS.out.below b)
      clear b
      have ex0 : W10.cell? ⟨g, 0, none⟩ = some (.slice ax nx cx) := (HS.out.all ⟨g, ax, cx, nx, px, qx, mx, x⟩ (by simp)).c0
      have ex1 : W10.cell? ⟨g, 1, none⟩ = some (.slice px mx qx) := (HS.out.all ⟨g, ax, cx, nx, px, qx, mx, x⟩ (by simp)).c1
      have ey0 : W10.cell? ⟨g + 1, 0, none⟩ = some (.slice ay ny cy) := (HS.out.all ⟨g + 1, ay, cy, ny, py, qy, my, y⟩ (by simp)).c0
      have ey1 : W10.cell? ⟨g + 1, 1, none⟩ = some (.slice py my qy) := (HS.out.all ⟨g + 1, ay, cy, ny, py, qy, my, y⟩ (by simp)).c1
      have ez0 : W10.cell? ⟨g + 1 + 1, 0, none⟩ = some (.slice az nz cz) := (HS.out.all ⟨g + 1 + 1, az, cz, nz, pz, qz, mz, z⟩ (by simp)).c0
      have ez1 : W10.cell? ⟨g + 1 + 1, 1, none⟩ = some (.slice pz mz qz) := (HS.out.all ⟨g + 1 + 1, az, cz, nz, pz, qz, mz, z⟩ (by simp)).c1
      go_wp2_with (fail)
      refine (wakes_any _).mono ?_
      rintro e WF ⟨rfl, b⟩
      have HF := Lib.hid (HS.out.bel.trans (b.mono HS.out.bel.size))
      clear b
      go_wp2
      go_ret
      exact ⟨rfl, HF.out⟩
  · have F1 : Hid (cmpLin x y = 0) := Lib.hid hp
    have F2 : Hid (cmpLin y x = 0) := Lib.hid (by rw [cmpLin_neg HX.out HY.out, hp]; try rfl)
    have F0 : Hid (cmpLin x x = 0) := Lib.hid ((cmpLin_zero HX.out HX.out).2 rfl)
    have FS : Hid (decide (x = y) = true) := Lib.hid (by rw [decide_eq_true_eq]; exact (cmpLin_zero HX.out HY.out).1 hp)
    clear hp
    have Z : Calls Try.prog 18 #[.agg #[.slice ax nx cx, .slice px mx qx], .agg #[.slice ay ny cy, .slice py my qy]] W4 (Tells (0) W4) := cmp_val (e := ⟨g, ax, cx, nx, px, qx, mx, x⟩) (f := ⟨g + 1, ay, cy, ny, py, qy, my, y⟩) F1.out (HS.out.all ⟨g, ax, cx, nx, px, qx, mx, x⟩ (by simp)) (HS.out.all ⟨g + 1, ay, cy, ny, py, qy, my, y⟩ (by simp))
    have HZ := Lib.hid Z
    clear Z
    refine HZ.out.mono ?_
    rintro e W5 ⟨rfl, b⟩
    clear HZ
    clear ex0 ex1 ey0 ey1 ez0 ez1
    have HS := Lib.hid (HS.out.below b)
    clear b
    have ex0 : W5.cell? ⟨g, 0, none⟩ = some (.slice ax nx cx) := (HS.out.all ⟨g, ax, cx, nx, px, qx, mx, x⟩ (by simp)).c0
    have ex1 : W5.cell? ⟨g, 1, none⟩ = some (.slice px mx qx) := (HS.out.all ⟨g, ax, cx, nx, px, qx, mx, x⟩ (by simp)).c1
    have ey0 : W5.cell? ⟨g + 1, 0, none⟩ = some (.slice ay ny cy) := (HS.out.all ⟨g + 1, ay, cy, ny, py, qy, my, y⟩ (by simp)).c0
    have ey1 : W5.cell? ⟨g + 1, 1, none⟩ = some (.slice py my qy) := (HS.out.all ⟨g + 1, ay, cy, ny, py, qy, my, y⟩ (by simp)).c1
    have ez0 : W5.cell? ⟨g + 1 + 1, 0, none⟩ = some (.slice az nz cz) := (HS.out.all ⟨g + 1 + 1, az, cz, nz, pz, qz, mz, z⟩ (by simp)).c0
    have ez1 : W5.cell? ⟨g + 1 + 1, 1, none⟩ = some (.slice pz mz qz) := (HS.out.all ⟨g + 1 + 1, az, cz, nz, pz, qz, mz, z⟩ (by simp)).c1
    have Z : Calls Try.prog 18 #[.agg #[.slice ay ny cy, .slice py my qy], .agg #[.slice ax nx cx, .slice px mx qx]] W5 (Tells (0) W5) := cmp_val (e := ⟨g + 1, ay, cy, ny, py, qy, my, y⟩) (f := ⟨g, ax, cx, nx, px, qx, mx, x⟩) F2.out (HS.out.all ⟨g + 1, ay, cy, ny, py, qy, my, y⟩ (by simp)) (HS.out.all ⟨g, ax, cx, nx, px, qx, mx, x⟩ (by simp))
    have HZ := Lib.hid Z
    clear Z
    go_wp2_with (fail)
    refine HZ.out.mono ?_
    rintro e W6 ⟨rfl, b⟩
    clear HZ
    clear ex0 ex1 ey0 ey1 ez0 ez1
    have HS := Lib.hid (HS.out.below b)
    clear b
    have ex0 : W6.cell? ⟨g, 0, none⟩ = some (.slice ax nx cx) := (HS.out.all ⟨g, ax, cx, nx, px, qx, mx, x⟩ (by simp)).c0
    have ex1 : W6.cell? ⟨g, 1, none⟩ = some (.slice px mx qx) := (HS.out.all ⟨g, ax, cx, nx, px, qx, mx, x⟩ (by simp)).c1
    have ey0 : W6.cell? ⟨g + 1, 0, none⟩ = some (.slice ay ny cy) := (HS.out.all ⟨g + 1, ay, cy, ny, py, qy, my, y⟩ (by simp)).c0
    have ey1 : W6.cell? ⟨g + 1, 1, none⟩ = some (.slice py my qy) := (HS.out.all ⟨g + 1, ay, cy, ny, py, qy, my, y⟩ (by simp)).c1
    have ez0 : W6.cell? ⟨g + 1 + 1, 0, none⟩ = some (.slice az nz cz) := (HS.out.all ⟨g + 1 + 1, az, cz, nz, pz, qz, mz, z⟩ (by simp)).c0
    have ez1 : W6.cell? ⟨g + 1 + 1, 1, none⟩ = some (.slice pz mz qz) := (HS.out.all ⟨g + 1 + 1, az, cz, nz, pz, qz, mz, z⟩ (by simp)).c1
    have Z : Calls Try.prog 17 #[.agg #[.slice ax nx cx, .slice px mx qx], .agg #[.slice ay ny cy, .slice py my qy]] W6 (TellsB true W6) := same_val (e := ⟨g, ax, cx, nx, px, qx, mx, x⟩) (f := ⟨g + 1, ay, cy, ny, py, qy, my, y⟩) FS.out (HS.out.all ⟨g, ax, cx, nx, px, qx, mx, x⟩ (by simp)) (HS.out.all ⟨g + 1, ay, cy, ny, py, qy, my, y⟩ (by simp))
    have HZ := Lib.hid Z
    clear Z
    go_wp2_with (fail)
    refine HZ.out.mono ?_
    rintro e W7 ⟨rfl, b⟩
    clear HZ
    clear ex0 ex1 ey0 ey1 ez0 ez1
    have HS := Lib.hid (HS.out.below b)
    clear b
    have ex0 : W7.cell? ⟨g, 0, none⟩ = some (.slice ax nx cx) := (HS.out.all ⟨g, ax, cx, nx, px, qx, mx, x⟩ (by simp)).c0
    have ex1 : W7.cell? ⟨g, 1, none⟩ = some (.slice px mx qx) := (HS.out.all ⟨g, ax, cx, nx, px, qx, mx, x⟩ (by simp)).c1
    have ey0 : W7.cell? ⟨g + 1, 0, none⟩ = some (.slice ay ny cy) := (HS.out.all ⟨g + 1, ay, cy, ny, py, qy, my, y⟩ (by simp)).c0
    have ey1 : W7.cell? ⟨g + 1, 1, none⟩ = some (.slice py my qy) := (HS.out.all ⟨g + 1, ay, cy, ny, py, qy, my, y⟩ (by simp)).c1
    have ez0 : W7.cell? ⟨g + 1 + 1, 0, none⟩ = some (.slice az nz cz) := (HS.out.all ⟨g + 1 + 1, az, cz, nz, pz, qz, mz, z⟩ (by simp)).c0
    have ez1 : W7.cell? ⟨g + 1 + 1, 1, none⟩ = some (.slice pz mz qz) := (HS.out.all ⟨g + 1 + 1, az, cz, nz, pz, qz, mz, z⟩ (by simp)).c1
    rcases cmpLin_bound y z with hq | hq | hq
    · have G1 : Hid (cmpLin y z = -1) := Lib.hid hq
      have G2 : Hid (cmpLin x z ≤ 0) := Lib.hid (cmpLin_trans HX.out HY.out HZ0.out (by rw [F1.out]; decide) (by rw [hq]; decide))
      clear hq
      have Z : Calls Try.prog 18 #[.agg #[.slice ay ny cy, .slice py my qy], .agg #[.slice az nz cz, .slice pz mz qz]] W7 (Tells (-1) W7) := cmp_val (e := ⟨g + 1, ay, cy, ny, py, qy, my, y⟩) (f := ⟨g + 1 + 1, az, cz, nz, pz, qz, mz, z⟩) G1.out (HS.out.all ⟨g + 1, ay, cy, ny, py, qy, my, y⟩ (by simp)) (HS.out.all ⟨g + 1 + 1, az, cz, nz, pz, qz, mz, z⟩ (by simp))
      have HZ := Lib.hid Z
      clear Z
      go_wp2_with (fail)
      refine HZ.out.mono ?_
      rintro e W8 ⟨rfl, b⟩
      clear HZ
      clear ex0 ex1 ey0 ey1 ez0 ez1
      have HS := Lib.hid (HS.out.below b)
      clear b
      have ex0 : W8.cell? ⟨g, 0, none⟩ = some (.slice ax nx cx) := (HS.out.all ⟨g, ax, cx, nx, px, qx, mx, x⟩ (by simp)).c0
      have ex1 : W8.cell? ⟨g, 1, none⟩ = some (.slice px mx qx) := (HS.out.all ⟨g, ax, cx, nx, px, qx, mx, x⟩ (by simp)).c1
      have ey0 : W8.cell? ⟨g + 1, 0, none⟩ = some (.slice ay ny cy) := (HS.out.all ⟨g + 1, ay, cy, ny, py, qy, my, y⟩ (by simp)).c0
      have ey1 : W8.cell? ⟨g + 1, 1, none⟩ = some (.slice py my qy) := (HS.out.all ⟨g + 1, ay, cy, ny, py, qy, my, y⟩ (by simp)).c1
      have ez0 : W8.cell? ⟨g + 1 + 1, 0, none⟩ = some (.slice az nz cz) := (HS.out.all ⟨g + 1 + 1, az, cz, nz, pz, qz, mz, z⟩ (by simp)).c0
      have ez1 : W8.cell? ⟨g + 1 + 1, 1, none⟩ = some (.slice pz mz qz) := (HS.out.all ⟨g + 1 + 1, az, cz, nz, pz, qz, mz, z⟩ (by simp)).c1
      have G3 := G2.out
      have G4 := cmpLin_bound x z
      generalize hr : cmpLin x z = r at G3 G4
      have G5 := Lib.hid hr
      have G6 : -1 ≤ r := by omega
      clear hr G2 G4
      have Z : Calls Try.prog 18 #[.agg #[.slice ax nx cx, .slice px mx qx], .agg #[.slice az nz cz, .slice pz mz qz]] W8 (Tells r W8) := cmp_val (e := ⟨g, ax, cx, nx, px, qx, mx, x⟩) (f := ⟨g + 1 + 1, az, cz, nz, pz, qz, mz, z⟩) G5.out (HS.out.all ⟨g, ax, cx, nx, px, qx, mx, x⟩ (by simp)) (HS.out.all ⟨g + 1 + 1, az, cz, nz, pz, qz, mz, z⟩ (by simp))
      have HZ := Lib.hid Z
      clear Z
      go_wp2_with (fail)
      refine HZ.out.mono ?_
      rintro e W9 ⟨rfl, b⟩
      clear HZ
      clear ex0 ex1 ey0 ey1 ez0 ez1
      have HS := Lib.hid (HS.out.below b)
      clear b
      have ex0 : W9.cell? ⟨g, 0, none⟩ = some (.slice ax nx cx) := (HS.out.all ⟨g, ax, cx, nx, px, qx, mx, x⟩ (by simp)).c0
      have ex1 : W9.cell? ⟨g, 1, none⟩ = some (.slice px mx qx) := (HS.out.all ⟨g, ax, cx, nx, px, qx, mx, x⟩ (by simp)).c1
      have ey0 : W9.cell? ⟨g + 1, 0, none⟩ = some (.slice ay ny cy) := (HS.out.all ⟨g + 1, ay, cy, ny, py, qy, my, y⟩ (by simp)).c0
      have ey1 : W9.cell? ⟨g + 1, 1, none⟩ = some (.slice py my qy) := (HS.out.all ⟨g + 1, ay, cy, ny, py, qy, my, y⟩ (by simp)).c1
      have ez0 : W9.cell? ⟨g + 1 + 1, 0, none⟩ = some (.slice az nz cz) := (HS.out.all ⟨g + 1 + 1, az, cz, nz, pz, qz, mz, z⟩ (by simp)).c0
      have ez1 : W9.cell? ⟨g + 1 + 1, 1, none⟩ = some (.slice pz mz qz) := (HS.out.all ⟨g + 1 + 1, az, cz, nz, pz, qz, mz, z⟩ (by simp)).c1
      have Z : Calls Try.prog 18 #[.agg #[.slice ax nx cx, .slice px mx qx], .agg #[.slice ax nx cx, .slice px mx qx]] W9 (Tells 0 W9) := cmp_val (e := ⟨g, ax, cx, nx, px, qx, mx, x⟩) (f := ⟨g, ax, cx, nx, px, qx, mx, x⟩) F0.out (HS.out.all ⟨g, ax, cx, nx, px, qx, mx, x⟩ (by simp)) (HS.out.all ⟨g, ax, cx, nx, px, qx, mx, x⟩ (by simp))
      have HZ := Lib.hid Z
      clear Z
      go_wp2_with (fail)
      refine HZ.out.mono ?_
      rintro e W10 ⟨rfl, b⟩
      clear HZ
      clear ex0 ex1 ey0 ey1 ez0 ez1
      have HS := Lib.hid (HS.out.below b)
      clear b
      have ex0 : W10.cell? ⟨g, 0, none⟩ = some (.slice ax nx cx) := (HS.out.all ⟨g, ax, cx, nx, px, qx, mx, x⟩ (by simp)).c0
      have ex1 : W10.cell? ⟨g, 1, none⟩ = some (.slice px mx qx) := (HS.out.all ⟨g, ax, cx, nx, px, qx, mx, x⟩ (by simp)).c1
      have ey0 : W10.cell? ⟨g + 1, 0, none⟩ = some (.slice ay ny cy) := (HS.out.all ⟨g + 1, ay, cy, ny, py, qy, my, y⟩ (by simp)).c0
      have ey1 : W10.cell? ⟨g + 1, 1, none⟩ = some (.slice py my qy) := (HS.out.all ⟨g + 1, ay, cy, ny, py, qy, my, y⟩ (by simp)).c1
      have ez0 : W10.cell? ⟨g + 1 + 1, 0, none⟩ = some (.slice az nz cz) := (HS.out.all ⟨g + 1 + 1, az, cz, nz, pz, qz, mz, z⟩ (by simp)).c0
      have ez1 : W10.cell? ⟨g + 1 + 1, 1, none⟩ = some (.slice pz mz qz) := (HS.out.all ⟨g + 1 + 1, az, cz, nz, pz, qz, mz, z⟩ (by simp)).c1
      go_wp2_with (fail)
      refine (wakes_any _).mono ?_
      rintro e WF ⟨rfl, b⟩
      have HF := Lib.hid (HS.out.bel.trans (b.mono HS.out.bel.size))
      clear b
      go_wp2
      go_ret
      exact ⟨rfl, HF.out⟩
    · have G1 : Hid (cmpLin y z = 0) := Lib.hid hq
      have G2 : Hid (cmpLin x z ≤ 0) := Lib.hid (cmpLin_trans HX.out HY.out HZ0.out (by rw [F1.out]; decide) (by rw [hq]; decide))
      clear hq
      have Z : Calls Try.prog 18 #[.agg #[.slice ay ny cy, .slice py my qy], .agg #[.slice az nz cz, .slice pz mz qz]] W7 (Tells (0) W7) := cmp_val (e := ⟨g + 1, ay, cy, ny, py, qy, my, y⟩) (f := ⟨g + 1 + 1, az, cz, nz, pz, qz, mz, z⟩) G1.out (HS.out.all ⟨g + 1, ay, cy, ny, py, qy, my, y⟩ (by simp)) (HS.out.all ⟨g + 1 + 1, az, cz, nz, pz, qz, mz, z⟩ (by simp))
      have HZ := Lib.hid Z
      clear Z
      go_wp2_with (fail)
      refine HZ.out.mono ?_
      rintro e W8 ⟨rfl, b⟩
      clear HZ
      clear ex0 ex1 ey0 ey1 ez0 ez1
      have HS := Lib.hid (HS.out.below b)
      clear b
      have ex0 : W8.cell? ⟨g, 0, none⟩ = some (.slice ax nx cx) := (HS.out.all ⟨g, ax, cx, nx, px, qx, mx, x⟩ (by simp)).c0
      have ex1 : W8.cell? ⟨g, 1, none⟩ = some (.slice px mx qx) := (HS.out.all ⟨g, ax, cx, nx, px, qx, mx, x⟩ (by simp)).c1
      have ey0 : W8.cell? ⟨g + 1, 0, none⟩ = some (.slice ay ny cy) := (HS.out.all ⟨g + 1, ay, cy, ny, py, qy, my, y⟩ (by simp)).c0
      have ey1 : W8.cell? ⟨g + 1, 1, none⟩ = some (.slice py my qy) := (HS.out.all ⟨g + 1, ay, cy, ny, py, qy, my, y⟩ (by simp)).c1
      have ez0 : W8.cell? ⟨g + 1 + 1, 0, none⟩ = some (.slice az nz cz) := (HS.out.all ⟨g + 1 + 1, az, cz, nz, pz, qz, mz, z⟩ (by simp)).c0
      have ez1 : W8.cell? ⟨g + 1 + 1, 1, none⟩ = some (.slice pz mz qz) := (HS.out.all ⟨g + 1 + 1, az, cz, nz, pz, qz, mz, z⟩ (by simp)).c1
      have G3 := G2.out
      have G4 := cmpLin_bound x z
      generalize hr : cmpLin x z = r at G3 G4
      have G5 := Lib.hid hr
      have G6 : -1 ≤ r := by omega
      clear hr G2 G4
      have Z : Calls Try.prog 18 #[.agg #[.slice ax nx cx, .slice px mx qx], .agg #[.slice az nz cz, .slice pz mz qz]] W8 (Tells r W8) := cmp_val (e := ⟨g, ax, cx, nx, px, qx, mx, x⟩) (f := ⟨g + 1 + 1, az, cz, nz, pz, qz, mz, z⟩) G5.out (HS.out.all ⟨g, ax, cx, nx, px, qx, mx, x⟩ (by simp)) (HS.out.all ⟨g + 1 + 1, az, cz, nz, pz, qz, mz, z⟩ (by simp))
      have HZ := Lib.hid Z
      clear Z
      go_wp2_with (fail)
      refine HZ.out.mono ?_
      rintro e W9 ⟨rfl, b⟩
      clear HZ
      clear ex0 ex1 ey0 ey1 ez0 ez1
      have HS := Lib.hid (HS.out.below b)
      clear b
      have ex0 : W9.cell? ⟨g, 0, none⟩ = some (.slice ax nx cx) := (HS.out.all ⟨g, ax, cx, nx, px, qx, mx, x⟩ (by simp)).c0
      have ex1 : W9.cell? ⟨g, 1, none⟩ = some (.slice px mx qx) := (HS.out.all ⟨g, ax, cx, nx, px, qx, mx, x⟩ (by simp)).c1
      have ey0 : W9.cell? ⟨g + 1, 0, none⟩ = some (.slice ay ny cy) := (HS.out.all ⟨g + 1, ay, cy, ny, py, qy, my, y⟩ (by simp)).c0
      have ey1 : W9.cell? ⟨g + 1, 1, none⟩ = some (.slice py my qy) := (HS.out.all ⟨g + 1, ay, cy, ny, py, qy, my, y⟩ (by simp)).c1
      have ez0 : W9.cell? ⟨g + 1 + 1, 0, none⟩ = some (.slice az nz cz) := (HS.out.all ⟨g + 1 + 1, az, cz, nz, pz, qz, mz, z⟩ (by simp)).c0
      have ez1 : W9.cell? ⟨g + 1 + 1, 1, none⟩ = some (.slice pz mz qz) := (HS.out.all ⟨g + 1 + 1, az, cz, nz, pz, qz, mz, z⟩ (by simp)).c1
      have Z : Calls Try.prog 18 #[.agg #[.slice ax nx cx, .slice px mx qx], .agg #[.slice ax nx cx, .slice px mx qx]] W9 (Tells 0 W9) := cmp_val (e := ⟨g, ax, cx, nx, px, qx, mx, x⟩) (f := ⟨g, ax, cx, nx, px, qx, mx, x⟩) F0.out (HS.out.all ⟨g, ax, cx, nx, px, qx, mx, x⟩ (by simp)) (HS.out.all ⟨g, ax, cx, nx, px, qx, mx, x⟩ (by simp))
      have HZ := Lib.hid Z
      clear Z
      go_wp2_with (fail)
      refine HZ.out.mono ?_
      rintro e W10 ⟨rfl, b⟩
      clear HZ
      clear ex0 ex1 ey0 ey1 ez0 ez1
      have HS := Lib.hid (HS.out.below b)
      clear b
      have ex0 : W10.cell? ⟨g, 0, none⟩ = some (.slice ax nx cx) := (HS.out.all ⟨g, ax, cx, nx, px, qx, mx, x⟩ (by simp)).c0
      have ex1 : W10.cell? ⟨g, 1, none⟩ = some (.slice px mx qx) := (HS.out.all ⟨g, ax, cx, nx, px, qx, mx, x⟩ (by simp)).c1
      have ey0 : W10.cell? ⟨g + 1, 0, none⟩ = some (.slice ay ny cy) := (HS.out.all ⟨g + 1, ay, cy, ny, py, qy, my, y⟩ (by simp)).c0
      have ey1 : W10.cell? ⟨g + 1, 1, none⟩ = some (.slice py my qy) := (HS.out.all ⟨g + 1, ay, cy, ny, py, qy, my, y⟩ (by simp)).c1
      have ez0 : W10.cell? ⟨g + 1 + 1, 0, none⟩ = some (.slice az nz cz) := (HS.out.all ⟨g + 1 + 1, az, cz, nz, pz, qz, mz, z⟩ (by simp)).c0
      have ez1 : W10.cell? ⟨g + 1 + 1, 1, none⟩ = some (.slice pz mz qz) := (HS.out.all ⟨g + 1 + 1, az, cz, nz, pz, qz, mz, z⟩ (by simp)).c1
      go_wp2_with (fail)
      refine (wakes_any _).mono ?_
      rintro e WF ⟨rfl, b⟩
      have HF := Lib.hid (HS.out.bel.trans (b.mono HS.out.bel.size))
      clear b
      go_wp2
      go_ret
      exact ⟨rfl, HF.out⟩
    · have G1 : Hid (cmpLin y z = 1) := Lib.hid hq
      clear hq
      have Z : Calls Try.prog 18 #[.agg #[.slice ay ny cy, .slice py my qy], .agg #[.slice az nz cz, .slice pz mz qz]] W7 (Tells (1) W7) := cmp_val (e := ⟨g + 1, ay, cy, ny, py, qy, my, y⟩) (f := ⟨g + 1 + 1, az, cz, nz, pz, qz, mz, z⟩) G1.out (HS.out.all ⟨g + 1, ay, cy, ny, py, qy, my, y⟩ (by simp)) (HS.out.all ⟨g + 1 + 1, az, cz, nz, pz, qz, mz, z⟩ (by simp))
      have HZ := Lib.hid Z
      clear Z
      go_wp2_with (fail)
      refine HZ.out.mono ?_
      rintro e W8 ⟨rfl, b⟩
      clear HZ
      clear ex0 ex1 ey0 ey1 ez0 ez1
      have HS := Lib.hid (HS.out.below b)
      clear b
      have ex0 : W8.cell? ⟨g, 0, none⟩ = some (.slice ax nx cx) := (HS.out.all ⟨g, ax, cx, nx, px, qx, mx, x⟩ (by simp)).c0
      have ex1 : W8.cell? ⟨g, 1, none⟩ = some (.slice px mx qx) := (HS.out.all ⟨g, ax, cx, nx, px, qx, mx, x⟩ (by simp)).c1
      have ey0 : W8.cell? ⟨g + 1, 0, none⟩ = some (.slice ay ny cy) := (HS.out.all ⟨g + 1, ay, cy, ny, py, qy, my, y⟩ (by simp)).c0
      have ey1 : W8.cell? ⟨g + 1, 1, none⟩ = some (.slice py my qy) := (HS.out.all ⟨g + 1, ay, cy, ny, py, qy, my, y⟩ (by simp)).c1
      have ez0 : W8.cell? ⟨g + 1 + 1, 0, none⟩ = some (.slice az nz cz) := (HS.out.all ⟨g + 1 + 1, az, cz, nz, pz, qz, mz, z⟩ (by simp)).c0
      have ez1 : W8.cell? ⟨g + 1 + 1, 1, none⟩ = some (.slice pz mz qz) := (HS.out.all ⟨g + 1 + 1, az, cz, nz, pz, qz, mz, z⟩ (by simp)).c1
      have Z : Calls Try.prog 18 #[.agg #[.slice ax nx cx, .slice px mx qx], .agg #[.slice ax nx cx, .slice px mx qx]] W8 (Tells 0 W8) := cmp_val (e := ⟨g, ax, cx, nx, px, qx, mx, x⟩) (f := ⟨g, ax, cx, nx, px, qx, mx, x⟩) F0.out (HS.out.all ⟨g, ax, cx, nx, px, qx, mx, x⟩ (by simp)) (HS.out.all ⟨g, ax, cx, nx, px, qx, mx, x⟩ (by simp))
      have HZ := Lib.hid Z
      clear Z
      go_wp2_with (fail)
      refine HZ.out.mono ?_
      rintro e W10 ⟨rfl, b⟩
      clear HZ
      clear ex0 ex1 ey0 ey1 ez0 ez1
      have HS := Lib.hid (HS.out.below b)
      clear b
      have ex0 : W10.cell? ⟨g, 0, none⟩ = some (.slice ax nx cx) := (HS.out.all ⟨g, ax, cx, nx, px, qx, mx, x⟩ (by simp)).c0
      have ex1 : W10.cell? ⟨g, 1, none⟩ = some (.slice px mx qx) := (HS.out.all ⟨g, ax, cx, nx, px, qx, mx, x⟩ (by simp)).c1
      have ey0 : W10.cell? ⟨g + 1, 0, none⟩ = some (.slice ay ny cy) := (HS.out.all ⟨g + 1, ay, cy, ny, py, qy, my, y⟩ (by simp)).c0
      have ey1 : W10.cell? ⟨g + 1, 1, none⟩ = some (.slice py my qy) := (HS.out.all ⟨g + 1, ay, cy, ny, py, qy, my, y⟩ (by simp)).c1
      have ez0 : W10.cell? ⟨g + 1 + 1, 0, none⟩ = some (.slice az nz cz) := (HS.out.all ⟨g + 1 + 1, az, cz, nz, pz, qz, mz, z⟩ (by simp)).c0
      have ez1 : W10.cell? ⟨g + 1 + 1, 1, none⟩ = some (.slice pz mz qz) := (HS.out.all ⟨g + 1 + 1, az, cz, nz, pz, qz, mz, z⟩ (by simp)).c1
      go_wp2_with (fail)
      refine (wakes_any _).mono ?_
      rintro e WF ⟨rfl, b⟩
      have HF := Lib.hid (HS.out.bel.trans (b.mono HS.out.bel.size))
      clear b
      go_wp2
      go_ret
      exact ⟨rfl, HF.out⟩
  · have F1 : Hid (cmpLin x y = 1) := Lib.hid hp
    have F2 : Hid (cmpLin y x = -1) := Lib.hid (by rw [cmpLin_neg HX.out HY.out, hp]; try rfl)
    have F0 : Hid (cmpLin x x = 0) := Lib.hid ((cmpLin_zero HX.out HX.out).2 rfl)
    have FS : Hid (decide (x = y) = false) := Lib.hid (by rw [decide_eq_false_iff_not]; intro e; have := (cmpLin_zero HX.out HY.out).2 e; omega)
    clear hp
    have Z : Calls Try.prog 18 #[.agg #[.slice ax nx cx, .slice px mx qx], .agg #[.slice ay ny cy, .slice py my qy]] W4 (Tells (1) W4) := cmp_val (e := ⟨g, ax, cx, nx, px, qx, mx, x⟩) (f := ⟨g + 1, ay, cy, ny, py, qy, my, y⟩) F1.out (HS.out.all ⟨g, ax, cx, nx, px, qx, mx, x⟩ (by simp)) (HS.out.all ⟨g + 1, ay, cy, ny, py, qy, my, y⟩ (by simp))
    have HZ := Lib.hid Z
    clear Z
    refine HZ.out.mono ?_
    rintro e W5 ⟨rfl, b⟩
    clear HZ
    clear ex0 ex1 ey0 ey1 ez0 ez1
    have HS := Lib.hid (HS.out.below b)
    clear b
    have ex0 : W5.cell? ⟨g, 0, none⟩ = some (.slice ax nx cx) := (HS.out.all ⟨g, ax, cx, nx, px, qx, mx, x⟩ (by simp)).c0
    have ex1 : W5.cell? ⟨g, 1, none⟩ = some (.slice px mx qx) := (HS.out.all ⟨g, ax, cx, nx, px, qx, mx, x⟩ (by simp)).c1
    have ey0 : W5.cell? ⟨g + 1, 0, none⟩ = some (.slice ay ny cy) := (HS.out.all ⟨g + 1, ay, cy, ny, py, qy, my, y⟩ (by simp)).c0
    have ey1 : W5.cell? ⟨g + 1, 1, none⟩ = some (.slice py my qy) := (HS.out.all ⟨g + 1, ay, cy, ny, py, qy, my, y⟩ (by simp)).c1
    have ez0 : W5.cell? ⟨g + 1 + 1, 0, none⟩ = some (.slice az nz cz) := (HS.out.all ⟨g + 1 + 1, az, cz, nz, pz, qz, mz, z⟩ (by simp)).c0
    have ez1 : W5.cell? ⟨g + 1 + 1, 1, none⟩ = some (.slice pz mz qz) := (HS.out.all ⟨g + 1 + 1, az, cz, nz, pz, qz, mz, z⟩ (by simp)).c1
    have Z : Calls Try.prog 18 #[.agg #[.slice ay ny cy, .slice py my qy], .agg #[.slice ax nx cx, .slice px mx qx]] W5 (Tells (-1) W5) := cmp_val (e := ⟨g + 1, ay, cy, ny, py, qy, my, y⟩) (f := ⟨g, ax, cx, nx, px, qx, mx, x⟩) F2.out (HS.out.all ⟨g + 1, ay, cy, ny, py, qy, my, y⟩ (by simp)) (HS.out.all ⟨g, ax, cx, nx, px, qx, mx, x⟩ (by simp))
    have HZ := Lib.hid Z
    clear Z
    go_wp2_with (fail)
    refine HZ.out.mono ?_
    rintro e W6 ⟨rfl, b⟩
    clear HZ
    clear ex0 ex1 ey0 ey1 ez0 ez1
    have HS := Lib.hid (HS.out.below b)
    clear b
    have ex0 : W6.cell? ⟨g, 0, none⟩ = some (.slice ax nx cx) := (HS.out.all ⟨g, ax, cx, nx, px, qx, mx, x⟩ (by simp)).c0
    have ex1 : W6.cell? ⟨g, 1, none⟩ = some (.slice px mx qx) := (HS.out.all ⟨g, ax, cx, nx, px, qx, mx, x⟩ (by simp)).c1
    have ey0 : W6.cell? ⟨g + 1, 0, none⟩ = some (.slice ay ny cy) := (HS.out.all ⟨g + 1, ay, cy, ny, py, qy, my, y⟩ (by simp)).c0
    have ey1 : W6.cell? ⟨g + 1, 1, none⟩ = some (.slice py my qy) := (HS.out.all ⟨g + 1, ay, cy, ny, py, qy, my, y⟩ (by simp)).c1
    have ez0 : W6.cell? ⟨g + 1 + 1, 0, none⟩ = some (.slice az nz cz) := (HS.out.all ⟨g + 1 + 1, az, cz, nz, pz, qz, mz, z⟩ (by simp)).c0
    have ez1 : W6.cell? ⟨g + 1 + 1, 1, none⟩ = some (.slice pz mz qz) := (HS.out.all ⟨g + 1 + 1, az, cz, nz, pz, qz, mz, z⟩ (by simp)).c1
    have Z : Calls Try.prog 17 #[.agg #[.slice ax nx cx, .slice px mx qx], .agg #[.slice ay ny cy, .slice py my qy]] W6 (TellsB false W6) := same_val (e := ⟨g, ax, cx, nx, px, qx, mx, x⟩) (f := ⟨g + 1, ay, cy, ny, py, qy, my, y⟩) FS.out (HS.out.all ⟨g, ax, cx, nx, px, qx, mx, x⟩ (by simp)) (HS.out.all ⟨g + 1, ay, cy, ny, py, qy, my, y⟩ (by simp))
    have HZ := Lib.hid Z
    clear Z
    go_wp2_with (fail)
    refine HZ.out.mono ?_
    rintro e W7 ⟨rfl, b⟩
    clear HZ
    clear ex0 ex1 ey0 ey1 ez0 ez1
    have HS := Lib.hid (HS.out.below b)
    clear b
    have ex0 : W7.cell? ⟨g, 0, none⟩ = some (.slice ax nx cx) := (HS.out.all ⟨g, ax, cx, nx, px, qx, mx, x⟩ (by simp)).c0
    have ex1 : W7.cell? ⟨g, 1, none⟩ = some (.slice px mx qx) := (HS.out.all ⟨g, ax, cx, nx, px, qx, mx, x⟩ (by simp)).c1
    have ey0 : W7.cell? ⟨g + 1, 0, none⟩ = some (.slice ay ny cy) := (HS.out.all ⟨g + 1, ay, cy, ny, py, qy, my, y⟩ (by simp)).c0
    have ey1 : W7.cell? ⟨g + 1, 1, none⟩ = some (.slice py my qy) := (HS.out.all ⟨g + 1, ay, cy, ny, py, qy, my, y⟩ (by simp)).c1
    have ez0 : W7.cell? ⟨g + 1 + 1, 0, none⟩ = some (.slice az nz cz) := (HS.out.all ⟨g + 1 + 1, az, cz, nz, pz, qz, mz, z⟩ (by simp)).c0
    have ez1 : W7.cell? ⟨g + 1 + 1, 1, none⟩ = some (.slice pz mz qz) := (HS.out.all ⟨g + 1 + 1, az, cz, nz, pz, qz, mz, z⟩ (by simp)).c1
    have Z : Calls Try.prog 18 #[.agg #[.slice ax nx cx, .slice px mx qx], .agg #[.slice ax nx cx, .slice px mx qx]] W7 (Tells 0 W7) := cmp_val (e := ⟨g, ax, cx, nx, px, qx, mx, x⟩) (f := ⟨g, ax, cx, nx, px, qx, mx, x⟩) F0.out (HS.out.all ⟨g, ax, cx, nx, px, qx, mx, x⟩ (by simp)) (HS.out.all ⟨g, ax, cx, nx, px, qx, mx, x⟩ (by simp))
    have HZ := Lib.hid Z
    clear Z
    go_wp2_with (fail)
    refine HZ.out.mono ?_
    rintro e W10 ⟨rfl, b⟩
    clear HZ
    clear ex0 ex1 ey0 ey1 ez0 ez1
    have HS := Lib.hid (HS.out.below b)
    clear b
    have ex0 : W10.cell? ⟨g, 0, none⟩ = some (.slice ax nx cx) := (HS.out.all ⟨g, ax, cx, nx, px, qx, mx, x⟩ (by simp)).c0
    have ex1 : W10.cell? ⟨g, 1, none⟩ = some (.slice px mx qx) := (HS.out.all ⟨g, ax, cx, nx, px, qx, mx, x⟩ (by simp)).c1
    have ey0 : W10.cell? ⟨g + 1, 0, none⟩ = some (.slice ay ny cy) := (HS.out.all ⟨g + 1, ay, cy, ny, py, qy, my, y⟩ (by simp)).c0
    have ey1 : W10.cell? ⟨g + 1, 1, none⟩ = some (.slice py my qy) := (HS.out.all ⟨g + 1, ay, cy, ny, py, qy, my, y⟩ (by simp)).c1
    have ez0 : W10.cell? ⟨g + 1 + 1, 0, none⟩ = some (.slice az nz cz) := (HS.out.all ⟨g + 1 + 1, az, cz, nz, pz, qz, mz, z⟩ (by simp)).c0
    have ez1 : W10.cell? ⟨g + 1 + 1, 1, none⟩ = some (.slice pz mz qz) := (HS.out.all ⟨g + 1 + 1, az, cz, nz, pz, qz, mz, z⟩ (by simp)).c1
    go_wp2_with (fail)
    refine (wakes_any _).mono ?_
    rintro e WF ⟨rfl, b⟩
    have HF := Lib.hid (HS.out.bel.trans (b.mono HS.out.bel.size))
    clear b
    go_wp2
    go_ret
    exact ⟨rfl, HF.out⟩
end Go.Proofs.Ytmbkiefbchjofaa

/- The walk of the law LinCat. -/
import Derived.Test.YtmbkiefbchjofaaFc
import Derived.Deep.RegionHeld3
namespace Go.Proofs.Ytmbkiefbchjofaa
open Go.ChangeShapes Go.WideShapes Go.ChangeAt Go.RowKit

set_option maxHeartbeats 8000000 in
set_option maxRecDepth 100000 in
theorem cat_walk (a0 a1 a2 : Option Addr) (l0 c0 l1 c1 l2 c2 : Nat) (z0 z1 z2 : List Int) (w : World) (K0 : Hid (Came w a0 l0 c0 z0)) (K1 : Hid (Came w a1 l1 c1 z1)) (K2 : Hid (Came w a2 l2 c2 z2)) :
    Calls Try.prog 5 #[.slice a0 l0 c0, .slice a1 l1 c1, .slice a2 l2 c2] w (True_ w) := by
  go_enter Try.func5, Try.ntmps5
  go_wp2_with (fail)
  with_reducible refine (made_any a0 l0 c0 z0 _ K0.out).mono ?_
  rintro e w1 ⟨x, sx, ax, cx, px, qx, rfl, rx, tx, b⟩
  have K1 := Lib.hid (K1.out.below b)
  have K2 := Lib.hid (K2.out.below b)
  have BB := b
  clear b
  go_wp2_with (fail)
  with_reducible refine (made_any a1 l1 c1 z1 _ K1.out).mono ?_
  rintro e w2 ⟨y, sy, ay, cy, py, qy, rfl, ry, ty, b⟩
  have K2 := Lib.hid (K2.out.below b)
  replace rx := rx.below b
  replace tx := tx.below b
  replace BB := BB.trans (b.mono BB.size)
  clear b
  go_wp2_with (fail)
  with_reducible refine (made_any a2 l2 c2 z2 _ K2.out).mono ?_
  rintro e w3 ⟨z, sz, az, cz, pz, qz, rfl, rz, tz, b⟩
  replace rx := rx.below b
  replace tx := tx.below b
  replace ry := ry.below b
  replace ty := ty.below b
  replace BB := BB.trans (b.mono BB.size)
  clear b
  clear K0 K1 K2
  obtain ⟨P, YZ, LL, hp, ho, hq, hqo, hl, hlo, hyz, hyzo, hr, hro, ha, has, hrp, hlen, h6, h6', hpt⟩ := cat_facts sx sy sz
  have lx := sx.few
  have ly := sy.few
  have lz := sz.few
  generalize hnx : x.base.length = nx
  generalize hmx : x.ps.length = mx
  generalize hny : y.base.length = ny
  generalize hmy : y.ps.length = my
  generalize hnz : z.base.length = nz
  generalize hmz : z.ps.length = mz
  rw [hmx] at lx hlen
  rw [hmy] at ly hlen
  rw [hmz] at lz
  have HS : Hid (Sts w [⟨w3.heap.size, ax, cx, nx, px, qx, mx, x⟩, ⟨w3.heap.size + 1, ay, cy, ny, py, qy, my, y⟩, ⟨w3.heap.size + 1 + 1, az, cz, nz, pz, qz, mz, z⟩] (((w3.alloc (.cells #[.slice ax nx cx, .slice px mx qx] 29)).alloc (.cells #[.slice ay ny cy, .slice py my qy] 29)).alloc (.cells #[.slice az nz cz, .slice pz mz qz] 29))) := Lib.hid (by
    have b1 := below_alloc w3 (.cells #[.slice ax nx cx, .slice px mx qx] 29)
    have b2 := below_alloc (w3.alloc (.cells #[.slice ax nx cx, .slice px mx qx] 29)) (.cells #[.slice ay ny cy, .slice py my qy] 29)
    have b3 := below_alloc ((w3.alloc (.cells #[.slice ax nx cx, .slice px mx qx] 29)).alloc (.cells #[.slice ay ny cy, .slice py my qy] 29)) (.cells #[.slice az nz cz, .slice pz mz qz] 29)
    have ix : Bx.In ⟨w3.heap.size, ax, cx, nx, px, qx, mx, x⟩ (w3.alloc (.cells #[.slice ax nx cx, .slice px mx qx] 29)) := Bx.In.new rx tx hnx hmx
    have iy : Bx.In ⟨w3.heap.size + 1, ay, cy, ny, py, qy, my, y⟩ ((w3.alloc (.cells #[.slice ax nx cx, .slice px mx qx] 29)).alloc (.cells #[.slice ay ny cy, .slice py my qy] 29)) := by
      have := Bx.In.new (ry.below b1) (ty.below b1) hny hmy
      simpa using this
    have iz : Bx.In ⟨w3.heap.size + 1 + 1, az, cz, nz, pz, qz, mz, z⟩ (((w3.alloc (.cells #[.slice ax nx cx, .slice px mx qx] 29)).alloc (.cells #[.slice ay ny cy, .slice py my qy] 29)).alloc (.cells #[.slice az nz cz, .slice pz mz qz] 29)) := by
      have := Bx.In.new ((rz.below b1).below b2) ((tz.below b1).below b2) hnz hmz
      simpa using this
    refine ⟨((BB.alloc BB.size _).alloc (by have := BB.size; simp; omega) _).alloc (by have := BB.size; simp; omega) _, ?_⟩
    intro e he
    simp only [List.mem_cons, List.not_mem_nil, or_false] at he
    rcases he with rfl | rfl | rfl
    · exact (ix.below b2).below b3
    · exact iy.below b3
    · exact iz)
  clear rx tx ry ty rz tz BB hnx hmx hny hmy hnz hmz sx sy sz
  have H1 := Lib.hid hp
  have H2 := Lib.hid ho
  have H3 := Lib.hid hq
  have H4 := Lib.hid hqo
  have H5 := Lib.hid hl
  have H6 := Lib.hid hlo
  have H7 := Lib.hid hyz
  have H8 := Lib.hid hyzo
  have H9 := Lib.hid hr
  have H10 := Lib.hid hro
  have H11 := Lib.hid ha
  have H12 := Lib.hid has
  have H13 := Lib.hid hrp
  have H14 := Lib.hid hpt
  clear hp ho hq hqo hl hlo hyz hyzo hr hro ha has hrp hpt
  go_wp2_with (fail)
  generalize ((w3.alloc (.cells #[.slice ax nx cx, .slice px mx qx] 29)).alloc (.cells #[.slice ay ny cy, .slice py my qy] 29)).alloc (.cells #[.slice az nz cz, .slice pz mz qz] 29) = W4 at HS ⊢
  generalize w3.heap.size = g at HS ⊢
  have Z : Calls Try.prog 11 #[.agg #[.slice ax nx cx, .slice px mx qx], .agg #[.slice ay ny cy, .slice py my qy]] W4 (MakesLin P true W4) := cat_val (e := ⟨g, ax, cx, nx, px, qx, mx, x⟩) (f := ⟨g + 1, ay, cy, ny, py, qy, my, y⟩) (HS.out.all ⟨g, ax, cx, nx, px, qx, mx, x⟩ (by simp)) (HS.out.all ⟨g + 1, ay, cy, ny, py, qy, my, y⟩ (by simp)) (by show mx + my ≤ 12; omega) H1.out H2.out
  have HZ := Lib.hid Z
  clear Z
  refine HZ.out.mono ?_
  rintro e V4 ⟨ap, cp, pp, qp, rfl, rp, tp, b⟩
  clear HZ
  generalize hnp : P.base.length = np
  generalize hmp : P.ps.length = mp
  rw [hmp] at h6 hlen
  have HS := Lib.hid (HS.out.below b)
  have ex0 : V4.cell? ⟨g, 0, none⟩ = some (.slice ax nx cx) := (HS.out.all ⟨g, ax, cx, nx, px, qx, mx, x⟩ (by simp)).c0
  have ex1 : V4.cell? ⟨g, 1, none⟩ = some (.slice px mx qx) := (HS.out.all ⟨g, ax, cx, nx, px, qx, mx, x⟩ (by simp)).c1
  have ey0 : V4.cell? ⟨g + 1, 0, none⟩ = some (.slice ay ny cy) := (HS.out.all ⟨g + 1, ay, cy, ny, py, qy, my, y⟩ (by simp)).c0
  have ey1 : V4.cell? ⟨g + 1, 1, none⟩ = some (.slice py my qy) := (HS.out.all ⟨g + 1, ay, cy, ny, py, qy, my, y⟩ (by simp)).c1
  have ez0 : V4.cell? ⟨g + 1 + 1, 0, none⟩ = some (.slice az nz cz) := (HS.out.all ⟨g + 1 + 1, az, cz, nz, pz, qz, mz, z⟩ (by simp)).c0
  have ez1 : V4.cell? ⟨g + 1 + 1, 1, none⟩ = some (.slice pz mz qz) := (HS.out.all ⟨g + 1 + 1, az, cz, nz, pz, qz, mz, z⟩ (by simp)).c1
  have ltx : g < V4.heap.size := (HS.out.all ⟨g, ax, cx, nx, px, qx, mx, x⟩ (by simp)).l.lt
  have lty : g + 1 < V4.heap.size := (HS.out.all ⟨g + 1, ay, cy, ny, py, qy, my, y⟩ (by simp)).l.lt
  have ltz : g + 1 + 1 < V4.heap.size := (HS.out.all ⟨g + 1 + 1, az, cz, nz, pz, qz, mz, z⟩ (by simp)).l.lt
  have HS := Lib.hid (HS.out.push rp tp hnp hmp)
  clear b rp tp hnp hmp
  go_wp2_with (fail)
  clear ex0 ex1 ey0 ey1 ez0 ez1
  clear ltx lty ltz
  generalize V4.alloc (.cells #[.slice ap np cp, .slice pp mp qp] 29) = W5 at HS ⊢
  generalize V4.heap.size = gp at HS ⊢
  have Z : Calls Try.prog 11 #[.agg #[.slice ay ny cy, .slice py my qy], .agg #[.slice ax nx cx, .slice px mx qx]] W5 (MakesLin P true W5) := cat_val (e := ⟨g + 1, ay, cy, ny, py, qy, my, y⟩) (f := ⟨g, ax, cx, nx, px, qx, mx, x⟩) (HS.out.all ⟨g + 1, ay, cy, ny, py, qy, my, y⟩ (by simp)) (HS.out.all ⟨g, ax, cx, nx, px, qx, mx, x⟩ (by simp)) (by show my + mx ≤ 12; omega) H3.out H4.out
  have HZ := Lib.hid Z
  clear Z
  refine HZ.out.mono ?_
  rintro e V5 ⟨aq, cq, pq, qq, rfl, rq, tq, b⟩
  clear HZ
  generalize hnq : P.base.length = nq
  generalize hmq : P.ps.length = mq
  have HS := Lib.hid (HS.out.below b)
  have ep0 : V5.cell? ⟨gp, 0, none⟩ = some (.slice ap np cp) := (HS.out.all ⟨gp, ap, cp, np, pp, qp, mp, P⟩ (by simp)).c0
  have ep1 : V5.cell? ⟨gp, 1, none⟩ = some (.slice pp mp qp) := (HS.out.all ⟨gp, ap, cp, np, pp, qp, mp, P⟩ (by simp)).c1
  have ex0 : V5.cell? ⟨g, 0, none⟩ = some (.slice ax nx cx) := (HS.out.all ⟨g, ax, cx, nx, px, qx, mx, x⟩ (by simp)).c0
  have ex1 : V5.cell? ⟨g, 1, none⟩ = some (.slice px mx qx) := (HS.out.all ⟨g, ax, cx, nx, px, qx, mx, x⟩ (by simp)).c1
  have ey0 : V5.cell? ⟨g + 1, 0, none⟩ = some (.slice ay ny cy) := (HS.out.all ⟨g + 1, ay, cy, ny, py, qy, my, y⟩ (by simp)).c0
  have ey1 : V5.cell? ⟨g + 1, 1, none⟩ = some (.slice py my qy) := (HS.out.all ⟨g + 1, ay, cy, ny, py, qy, my, y⟩ (by simp)).c1
  have ez0 : V5.cell? ⟨g + 1 + 1, 0, none⟩ = some (.slice az nz cz) := (HS.out.all ⟨g + 1 + 1, az, cz, nz, pz, qz, mz, z⟩ (by simp)).c0
  have ez1 : V5.cell? ⟨g + 1 + 1, 1, none⟩ = some (.slice pz mz qz) := (HS.out.all ⟨g + 1 + 1, az, cz, nz, pz, qz, mz, z⟩ (by simp)).c1
  have ltp : gp < V5.heap.size := (HS.out.all ⟨gp, ap, cp, np, pp, qp, mp, P⟩ (by simp)).l.lt
  have ltx : g < V5.heap.size := (HS.out.all ⟨g, ax, cx, nx, px, qx, mx, x⟩ (by simp)).l.lt
  have lty : g + 1 < V5.heap.size := (HS.out.all ⟨g + 1, ay, cy, ny, py, qy, my, y⟩ (by simp)).l.lt
  have ltz : g + 1 + 1 < V5.heap.size := (HS.out.all ⟨g + 1 + 1, az, cz, nz, pz, qz, mz, z⟩ (by simp)).l.lt
  have HS := Lib.hid (HS.out.push rq tq hnq hmq)
  clear b rq tq hnq hmq
  go_wp2_with (fail)
  clear ep0 ep1 ex0 ex1 ey0 ey1 ez0 ez1
  clear ltp ltx lty ltz
  generalize V5.alloc (.cells #[.slice aq nq cq, .slice pq mq qq] 29) = W6 at HS ⊢
  generalize V5.heap.size = gq at HS ⊢
  have Z : Calls Try.prog 11 #[.agg #[.slice ap np cp, .slice pp mp qp], .agg #[.slice az nz cz, .slice pz mz qz]] W6 (MakesLin LL true W6) := cat_val (e := ⟨gp, ap, cp, np, pp, qp, mp, P⟩) (f := ⟨g + 1 + 1, az, cz, nz, pz, qz, mz, z⟩) (HS.out.all ⟨gp, ap, cp, np, pp, qp, mp, P⟩ (by simp)) (HS.out.all ⟨g + 1 + 1, az, cz, nz, pz, qz, mz, z⟩ (by simp)) (by show mp + mz ≤ 12; omega) H5.out H6.out
  have HZ := Lib.hid Z
  clear Z
  refine HZ.out.mono ?_
  rintro e V6 ⟨al, cl, pl, ql, rfl, rl, tl, b⟩
  clear HZ
  generalize hnl : LL.base.length = nl
  generalize hml : LL.ps.length = ml
  have HS := Lib.hid (HS.out.below b)
  have eq0 : V6.cell? ⟨gq, 0, none⟩ = some (.slice aq nq cq) := (HS.out.all ⟨gq, aq, cq, nq, pq, qq, mq, P⟩ (by simp)).c0
  have eq1 : V6.cell? ⟨gq, 1, none⟩ = some (.slice pq mq qq) := (HS.out.all ⟨gq, aq, cq, nq, pq, qq, mq, P⟩ (by simp)).c1
  have ep0 : V6.cell? ⟨gp, 0, none⟩ = some (.slice ap np cp) := (HS.out.all ⟨gp, ap, cp, np, pp, qp, mp, P⟩ (by simp)).c0
  have ep1 : V6.cell? ⟨gp, 1, none⟩ = some (.slice pp mp qp) := (HS.out.all ⟨gp, ap, cp, np, pp, qp, mp, P⟩ (by simp)).c1
  have ex0 : V6.cell? ⟨g, 0, none⟩ = some (.slice ax nx cx) := (HS.out.all ⟨g, ax, cx, nx, px, qx, mx, x⟩ (by simp)).c0
  have ex1 : V6.cell? ⟨g, 1, none⟩ = some (.slice px mx qx) := (HS.out.all ⟨g, ax, cx, nx, px, qx, mx, x⟩ (by simp)).c1
  have ey0 : V6.cell? ⟨g + 1, 0, none⟩ = some (.slice ay ny cy) := (HS.out.all ⟨g + 1, ay, cy, ny, py, qy, my, y⟩ (by simp)).c0
  have ey1 : V6.cell? ⟨g + 1, 1, none⟩ = some (.slice py my qy) := (HS.out.all ⟨g + 1, ay, cy, ny, py, qy, my, y⟩ (by simp)).c1
  have ez0 : V6.cell? ⟨g + 1 + 1, 0, none⟩ = some (.slice az nz cz) := (HS.out.all ⟨g + 1 + 1, az, cz, nz, pz, qz, mz, z⟩ (by simp)).c0
  have ez1 : V6.cell? ⟨g + 1 + 1, 1, none⟩ = some (.slice pz mz qz) := (HS.out.all ⟨g + 1 + 1, az, cz, nz, pz, qz, mz, z⟩ (by simp)).c1
  have ltq : gq < V6.heap.size := (HS.out.all ⟨gq, aq, cq, nq, pq, qq, mq, P⟩ (by simp)).l.lt
  have ltp : gp < V6.heap.size := (HS.out.all ⟨gp, ap, cp, np, pp, qp, mp, P⟩ (by simp)).l.lt
  have ltx : g < V6.heap.size := (HS.out.all ⟨g, ax, cx, nx, px, qx, mx, x⟩ (by simp)).l.lt
  have lty : g + 1 < V6.heap.size := (HS.out.all ⟨g + 1, ay, cy, ny, py, qy, my, y⟩ (by simp)).l.lt
  have ltz : g + 1 + 1 < V6.heap.size := (HS.out.all ⟨g + 1 + 1, az, cz, nz, pz, qz, mz, z⟩ (by simp)).l.lt
  have HS := Lib.hid (HS.out.push rl tl hnl hml)
  clear b rl tl hnl hml
  go_wp2_with (fail)
  clear eq0 eq1 ep0 ep1 ex0 ex1 ey0 ey1 ez0 ez1
  clear ltq ltp ltx lty ltz
  generalize V6.alloc (.cells #[.slice al nl cl, .slice pl ml ql] 29) = W7 at HS ⊢
  generalize V6.heap.size = gl at HS ⊢
  have Z : Calls Try.prog 11 #[.agg #[.slice ay ny cy, .slice py my qy], .agg #[.slice az nz cz, .slice pz mz qz]] W7 (MakesLin YZ true W7) := cat_val (e := ⟨g + 1, ay, cy, ny, py, qy, my, y⟩) (f := ⟨g + 1 + 1, az, cz, nz, pz, qz, mz, z⟩) (HS.out.all ⟨g + 1, ay, cy, ny, py, qy, my, y⟩ (by simp)) (HS.out.all ⟨g + 1 + 1, az, cz, nz, pz, qz, mz, z⟩ (by simp)) (by show my + mz ≤ 12; omega) H7.out H8.out
  have HZ := Lib.hid Z
  clear Z
  refine HZ.out.mono ?_
  rintro e V7 ⟨av, cv, pv, qv, rfl, rv, tv, b⟩
  clear HZ
  generalize hnv : YZ.base.length = nv
  generalize hmv : YZ.ps.length = mv
  rw [hmv] at h6'
  have HS := Lib.hid (HS.out.below b)
  have el0 : V7.cell? ⟨gl, 0, none⟩ = some (.slice al nl cl) := (HS.out.all ⟨gl, al, cl, nl, pl, ql, ml, LL⟩ (by simp)).c0
  have el1 : V7.cell? ⟨gl, 1, none⟩ = some (.slice pl ml ql) := (HS.out.all ⟨gl, al, cl, nl, pl, ql, ml, LL⟩ (by simp)).c1
  have eq0 : V7.cell? ⟨gq, 0, none⟩ = some (.slice aq nq cq) := (HS.out.all ⟨gq, aq, cq, nq, pq, qq, mq, P⟩ (by simp)).c0
  have eq1 : V7.cell? ⟨gq, 1, none⟩ = some (.slice pq mq qq) := (HS.out.all ⟨gq, aq, cq, nq, pq, qq, mq, P⟩ (by simp)).c1
  have ep0 : V7.cell? ⟨gp, 0, none⟩ = some (.slice ap np cp) := (HS.out.all ⟨gp, ap, cp, np, pp, qp, mp, P⟩ (by simp)).c0
  have ep1 : V7.cell? ⟨gp, 1, none⟩ = some (.slice pp mp qp) := (HS.out.all ⟨gp, ap, cp, np, pp, qp, mp, P⟩ (by simp)).c1
  have ex0 : V7.cell? ⟨g, 0, none⟩ = some (.slice ax nx cx) := (HS.out.all ⟨g, ax, cx, nx, px, qx, mx, x⟩ (by simp)).c0
  have ex1 : V7.cell? ⟨g, 1, none⟩ = some (.slice px mx qx) := (HS.out.all ⟨g, ax, cx, nx, px, qx, mx, x⟩ (by simp)).c1
  have ey0 : V7.cell? ⟨g + 1, 0, none⟩ = some (.slice ay ny cy) := (HS.out.all ⟨g + 1, ay, cy, ny, py, qy, my, y⟩ (by simp)).c0
  have ey1 : V7.cell? ⟨g + 1, 1, none⟩ = some (.slice py my qy) := (HS.out.all ⟨g + 1, ay, cy, ny, py, qy, my, y⟩ (by simp)).c1
  have ez0 : V7.cell? ⟨g + 1 + 1, 0, none⟩ = some (.slice az nz cz) := (HS.out.all ⟨g + 1 + 1, az, cz, nz, pz, qz, mz, z⟩ (by simp)).c0
  have ez1 : V7.cell? ⟨g + 1 + 1, 1, none⟩ = some (.slice pz mz qz) := (HS.out.all ⟨g + 1 + 1, az, cz, nz, pz, qz, mz, z⟩ (by simp)).c1
  have ltl : gl < V7.heap.size := (HS.out.all ⟨gl, al, cl, nl, pl, ql, ml, LL⟩ (by simp)).l.lt
  have ltq : gq < V7.heap.size := (HS.out.all ⟨gq, aq, cq, nq, pq, qq, mq, P⟩ (by simp)).l.lt
  have ltp : gp < V7.heap.size := (HS.out.all ⟨gp, ap, cp, np, pp, qp, mp, P⟩ (by simp)).l.lt
  have ltx : g < V7.heap.size := (HS.out.all ⟨g, ax, cx, nx, px, qx, mx, x⟩ (by simp)).l.lt
  have lty : g + 1 < V7.heap.size := (HS.out.all ⟨g + 1, ay, cy, ny, py, qy, my, y⟩ (by simp)).l.lt
  have ltz : g + 1 + 1 < V7.heap.size := (HS.out.all ⟨g + 1 + 1, az, cz, nz, pz, qz, mz, z⟩ (by simp)).l.lt
  have HS := Lib.hid (HS.out.push rv tv hnv hmv)
  clear b rv tv hnv hmv
  go_wp2_with (fail)
  clear el0 el1 eq0 eq1 ep0 ep1 ex0 ex1 ey0 ey1 ez0 ez1
  clear ltl ltq ltp ltx lty ltz
  generalize V7.alloc (.cells #[.slice av nv cv, .slice pv mv qv] 29) = W8 at HS ⊢
  generalize V7.heap.size = gv at HS ⊢
  have Z : Calls Try.prog 11 #[.agg #[.slice ax nx cx, .slice px mx qx], .agg #[.slice av nv cv, .slice pv mv qv]] W8 (MakesLin LL true W8) := cat_val (e := ⟨g, ax, cx, nx, px, qx, mx, x⟩) (f := ⟨gv, av, cv, nv, pv, qv, mv, YZ⟩) (HS.out.all ⟨g, ax, cx, nx, px, qx, mx, x⟩ (by simp)) (HS.out.all ⟨gv, av, cv, nv, pv, qv, mv, YZ⟩ (by simp)) (by show mx + mv ≤ 12; omega) H9.out H10.out
  have HZ := Lib.hid Z
  clear Z
  refine HZ.out.mono ?_
  rintro e V8 ⟨ar, cr, pr, qr, rfl, rr, tr, b⟩
  clear HZ
  generalize hnr : LL.base.length = nr
  generalize hmr : LL.ps.length = mr
  have HS := Lib.hid (HS.out.below b)
  have ev0 : V8.cell? ⟨gv, 0, none⟩ = some (.slice av nv cv) := (HS.out.all ⟨gv, av, cv, nv, pv, qv, mv, YZ⟩ (by simp)).c0
  have ev1 : V8.cell? ⟨gv, 1, none⟩ = some (.slice pv mv qv) := (HS.out.all ⟨gv, av, cv, nv, pv, qv, mv, YZ⟩ (by simp)).c1
  have el0 : V8.cell? ⟨gl, 0, none⟩ = some (.slice al nl cl) := (HS.out.all ⟨gl, al, cl, nl, pl, ql, ml, LL⟩ (by simp)).c0
  have el1 : V8.cell? ⟨gl, 1, none⟩ = some (.slice pl ml ql) := (HS.out.all ⟨gl, al, cl, nl, pl, ql, ml, LL⟩ (by simp)).c1
  have eq0 : V8.cell? ⟨gq, 0, none⟩ = some (.slice aq nq cq) := (HS.out.all ⟨gq, aq, cq, nq, pq, qq, mq, P⟩ (by simp)).c0
  have eq1 : V8.cell? ⟨gq, 1, none⟩ = some (.slice pq mq qq) := (HS.out.all ⟨gq, aq, cq, nq, pq, qq, mq, P⟩ (by simp)).c1
  have ep0 : V8.cell? ⟨gp, 0, none⟩ = some (.slice ap np cp) := (HS.out.all ⟨gp, ap, cp, np, pp, qp, mp, P⟩ (by simp)).c0
  have ep1 : V8.cell? ⟨gp, 1, none⟩ = some (.slice pp mp qp) := (HS.out.all ⟨gp, ap, cp, np, pp, qp, mp, P⟩ (by simp)).c1
  have ex0 : V8.cell? ⟨g, 0, none⟩ = some (.slice ax nx cx) := (HS.out.all ⟨g, ax, cx, nx, px, qx, mx, x⟩ (by simp)).c0
  have ex1 : V8.cell? ⟨g, 1, none⟩ = some (.slice px mx qx) := (HS.out.all ⟨g, ax, cx, nx, px, qx, mx, x⟩ (by simp)).c1
  have ey0 : V8.cell? ⟨g + 1, 0, none⟩ = some (.slice ay ny cy) := (HS.out.all ⟨g + 1, ay, cy, ny, py, qy, my, y⟩ (by simp)).c0
  have ey1 : V8.cell? ⟨g + 1, 1, none⟩ = some (.slice py my qy) := (HS.out.all ⟨g + 1, ay, cy, ny, py, qy, my, y⟩ (by simp)).c1
  have ez0 : V8.cell? ⟨g + 1 + 1, 0, none⟩ = some (.slice az nz cz) := (HS.out.all ⟨g + 1 + 1, az, cz, nz, pz, qz, mz, z⟩ (by simp)).c0
  have ez1 : V8.cell? ⟨g + 1 + 1, 1, none⟩ = some (.slice pz mz qz) := (HS.out.all ⟨g + 1 + 1, az, cz, nz, pz, qz, mz, z⟩ (by simp)).c1
  have ltv : gv < V8.heap.size := (HS.out.all ⟨gv, av, cv, nv, pv, qv, mv, YZ⟩ (by simp)).l.lt
  have ltl : gl < V8.heap.size := (HS.out.all ⟨gl, al, cl, nl, pl, ql, ml, LL⟩ (by simp)).l.lt
  have ltq : gq < V8.heap.size := (HS.out.all ⟨gq, aq, cq, nq, pq, qq, mq, P⟩ (by simp)).l.lt
  have ltp : gp < V8.heap.size := (HS.out.all ⟨gp, ap, cp, np, pp, qp, mp, P⟩ (by simp)).l.lt
  have ltx : g < V8.heap.size := (HS.out.all ⟨g, ax, cx, nx, px, qx, mx, x⟩ (by simp)).l.lt
  have lty : g + 1 < V8.heap.size := (HS.out.all ⟨g + 1, ay, cy, ny, py, qy, my, y⟩ (by simp)).l.lt
  have ltz : g + 1 + 1 < V8.heap.size := (HS.out.all ⟨g + 1 + 1, az, cz, nz, pz, qz, mz, z⟩ (by simp)).l.lt
  have HS := Lib.hid (HS.out.push rr tr hnr hmr)
  clear b rr tr hnr hmr
  go_wp2_with (fail)
  clear ev0 ev1 el0 el1 eq0 eq1 ep0 ep1 ex0 ex1 ey0 ey1 ez0 ez1
  clear ltv ltl ltq ltp ltx lty ltz
  generalize V8.alloc (.cells #[.slice ar nr cr, .slice pr mr qr] 29) = W9 at HS ⊢
  generalize V8.heap.size = gr at HS ⊢
  have Z := add10 ax ay cx cy x.base y.base W9 (HS.out.all ⟨g, ax, cx, nx, px, qx, mx, x⟩ (by simp)).base (HS.out.all ⟨g + 1, ay, cy, ny, py, qy, my, y⟩ (by simp)).base
  rw [(HS.out.all ⟨g, ax, cx, nx, px, qx, mx, x⟩ (by simp)).len, (HS.out.all ⟨g + 1, ay, cy, ny, py, qy, my, y⟩ (by simp)).len, H12.out, H11.out] at Z
  have HZ := Lib.hid Z
  clear Z
  refine HZ.out.mono ?_
  rintro e WB ⟨aS, cS, rfl, rs, fs, b⟩
  clear HZ fs
  have HS := Lib.hid (HS.out.below b)
  have HRS := Lib.hid rs
  generalize hns : P.base.length = nS
  have HNS := Lib.hid hns
  clear b rs hns
  have bd : Below WB.heap.size WB WB.drew := ⟨rfl, rfl, rfl, Nat.le_refl _, fun _ _ => rfl⟩
  have Z1 : Hid (∀ V, Below WB.heap.size WB V → Calls Try.prog 17 #[.agg #[.slice ap np cp, .slice pp mp qp], .agg #[.slice aq nq cq, .slice pq mq qq]] V (TellsB true V)) := Lib.hid (fun V h => same_val (e := ⟨gp, ap, cp, np, pp, qp, mp, P⟩) (f := ⟨gq, aq, cq, nq, pq, qq, mq, P⟩) (by simp) ((HS.out.below h).all ⟨gp, ap, cp, np, pp, qp, mp, P⟩ (by simp)) ((HS.out.below h).all ⟨gq, aq, cq, nq, pq, qq, mq, P⟩ (by simp)))
  have Z2 : Hid (∀ V, Below WB.heap.size WB V → Calls Try.prog 17 #[.agg #[.slice al nl cl, .slice pl ml ql], .agg #[.slice ar nr cr, .slice pr mr qr]] V (TellsB true V)) := Lib.hid (fun V h => same_val (e := ⟨gl, al, cl, nl, pl, ql, ml, LL⟩) (f := ⟨gr, ar, cr, nr, pr, qr, mr, LL⟩) (by simp) ((HS.out.below h).all ⟨gl, al, cl, nl, pl, ql, ml, LL⟩ (by simp)) ((HS.out.below h).all ⟨gr, ar, cr, nr, pr, qr, mr, LL⟩ (by simp)))
  have Z3 : Hid (∀ V, Below WB.heap.size WB V → Calls Try.prog 26 #[.slice ap np cp, .slice aS nS cS] V (True_ V)) := Lib.hid (fun V h => by
    have := same32 ap aS cp cS P.base P.base V ((HS.out.below h).all ⟨gp, ap, cp, np, pp, qp, mp, P⟩ (by simp)).base (HRS.out.below h)
    rw [same_self] at this
    rw [show P.base.length = np from ((HS.out.below h).all ⟨gp, ap, cp, np, pp, qp, mp, P⟩ (by simp)).len] at this
    rw [← HNS.out, show P.base.length = np from ((HS.out.below h).all ⟨gp, ap, cp, np, pp, qp, mp, P⟩ (by simp)).len]
    exact this.mono fun _ _ ⟨h1, q, h2⟩ => by subst h2; exact ⟨h1, below_drewN _ _ _⟩)
  have Z4 : Hid (∀ V, Below WB.heap.size WB V → Calls Try.prog 13 #[.agg #[.slice ap np cp, .slice pp mp qp]] V (TellsB true V)) := Lib.hid (fun V h => right_val (e := ⟨gp, ap, cp, np, pp, qp, mp, P⟩) H13.out ((HS.out.below h).all ⟨gp, ap, cp, np, pp, qp, mp, P⟩ (by simp)))
  have ZP : Hid (∀ V, Below WB.heap.size WB V → Calls Try.prog 15 #[.agg #[.slice ap np cp, .slice pp mp qp]] V (TellsB (pointLin P) V)) := Lib.hid (fun V h => point_val (e := ⟨gp, ap, cp, np, pp, qp, mp, P⟩) rfl ((HS.out.below h).all ⟨gp, ap, cp, np, pp, qp, mp, P⟩ (by simp)))
  have ZX : Hid (∀ V, Below WB.heap.size WB V → Calls Try.prog 15 #[.agg #[.slice ax nx cx, .slice px mx qx]] V (TellsB (pointLin x) V)) := Lib.hid (fun V h => point_val (e := ⟨g, ax, cx, nx, px, qx, mx, x⟩) rfl ((HS.out.below h).all ⟨g, ax, cx, nx, px, qx, mx, x⟩ (by simp)))
  have ZY : Hid (∀ V, Below WB.heap.size WB V → Calls Try.prog 15 #[.agg #[.slice ay ny cy, .slice py my qy]] V (TellsB (pointLin y) V)) := Lib.hid (fun V h => point_val (e := ⟨g + 1, ay, cy, ny, py, qy, my, y⟩) rfl ((HS.out.below h).all ⟨g + 1, ay, cy, ny, py, qy, my, y⟩ (by simp)))
  have ep0 : WB.cell? ⟨gp, 0, none⟩ = some (.slice ap np cp) := (HS.out.all ⟨gp, ap, cp, np, pp, qp, mp, P⟩ (by simp)).c0
  have ep1 : WB.cell? ⟨gp, 1, none⟩ = some (.slice pp mp qp) := (HS.out.all ⟨gp, ap, cp, np, pp, qp, mp, P⟩ (by simp)).c1
  have eq0 : WB.cell? ⟨gq, 0, none⟩ = some (.slice aq nq cq) := (HS.out.all ⟨gq, aq, cq, nq, pq, qq, mq, P⟩ (by simp)).c0
  have eq1 : WB.cell? ⟨gq, 1, none⟩ = some (.slice pq mq qq) := (HS.out.all ⟨gq, aq, cq, nq, pq, qq, mq, P⟩ (by simp)).c1
  have el0 : WB.cell? ⟨gl, 0, none⟩ = some (.slice al nl cl) := (HS.out.all ⟨gl, al, cl, nl, pl, ql, ml, LL⟩ (by simp)).c0
  have el1 : WB.cell? ⟨gl, 1, none⟩ = some (.slice pl ml ql) := (HS.out.all ⟨gl, al, cl, nl, pl, ql, ml, LL⟩ (by simp)).c1
  have er0 : WB.cell? ⟨gr, 0, none⟩ = some (.slice ar nr cr) := (HS.out.all ⟨gr, ar, cr, nr, pr, qr, mr, LL⟩ (by simp)).c0
  have er1 : WB.cell? ⟨gr, 1, none⟩ = some (.slice pr mr qr) := (HS.out.all ⟨gr, ar, cr, nr, pr, qr, mr, LL⟩ (by simp)).c1
  have ex0 : WB.cell? ⟨g, 0, none⟩ = some (.slice ax nx cx) := (HS.out.all ⟨g, ax, cx, nx, px, qx, mx, x⟩ (by simp)).c0
  have ex1 : WB.cell? ⟨g, 1, none⟩ = some (.slice px mx qx) := (HS.out.all ⟨g, ax, cx, nx, px, qx, mx, x⟩ (by simp)).c1
  have ey0 : WB.cell? ⟨g + 1, 0, none⟩ = some (.slice ay ny cy) := (HS.out.all ⟨g + 1, ay, cy, ny, py, qy, my, y⟩ (by simp)).c0
  have ey1 : WB.cell? ⟨g + 1, 1, none⟩ = some (.slice py my qy) := (HS.out.all ⟨g + 1, ay, cy, ny, py, qy, my, y⟩ (by simp)).c1
  have ltp : gp < WB.heap.size := (HS.out.all ⟨gp, ap, cp, np, pp, qp, mp, P⟩ (by simp)).l.lt
  have ltq : gq < WB.heap.size := (HS.out.all ⟨gq, aq, cq, nq, pq, qq, mq, P⟩ (by simp)).l.lt
  have ltl : gl < WB.heap.size := (HS.out.all ⟨gl, al, cl, nl, pl, ql, ml, LL⟩ (by simp)).l.lt
  have ltr : gr < WB.heap.size := (HS.out.all ⟨gr, ar, cr, nr, pr, qr, mr, LL⟩ (by simp)).l.lt
  have ltx : g < WB.heap.size := (HS.out.all ⟨g, ax, cx, nx, px, qx, mx, x⟩ (by simp)).l.lt
  have lty : g + 1 < WB.heap.size := (HS.out.all ⟨g + 1, ay, cy, ny, py, qy, my, y⟩ (by simp)).l.lt
  have HBB := Lib.hid HS.out.bel
  clear HS HRS HNS
  have hw : IntKind.i64.wrap ((mx : Int) + (my : Int)) = (mx : Int) + (my : Int) := IntWalk.i64_in _ (by omega)
  have hd : decide ((mp : Int) ≤ (mx : Int) + (my : Int)) = true := by simp; omega
  rw [H14.out] at ZP
  generalize pointLin x = ptx at ZP ZX
  generalize pointLin y = pty at ZP ZY
  clear H1 H2 H3 H4 H5 H6 H7 H8 H9 H10 H11 H12 H13 H14
  cases ptx
  · go_wp2_with (fail)
    refine wp_region_held_drew (S := fun w' => Below WB.heap.size WB w') (by kernel_rfl) bd (fun hHeld => ?_)
    refine wpAnyH_take (i := 0) (oi := { dst := some 66, op := Op.move (Operand.tmp 11), type := 4, pos := "law.go:75", after := #[], guard := none }) (v := ?_) rfl (by kernel_rfl) (by kernel_rfl) (by kernel_rfl) (fun _ _ _ h => h) (Or.inl ⟨by rfl, ?_⟩) (by assumption) ?_
    rotate_left
    · intro w hSw
      go_simp
      try with_reducible rfl
    try simp only [Act.put, List.setIfInBounds_toArray, List.set_cons_zero, List.set_cons_succ]
    refine wpAnyH_take (i := 1) (oi := { dst := some 67, op := Op.move (Operand.tmp 66), type := 4, pos := "law.go:75", after := #[{ on := 0, ground := Ground.data }], guard := none }) (v := ?_) rfl (by kernel_rfl) (by kernel_rfl) (by kernel_rfl) (fun _ _ _ h => h) (Or.inl ⟨by rfl, ?_⟩) (by assumption) ?_
    rotate_left
    · intro w hSw
      go_simp
      try with_reducible rfl
    try simp only [Act.put, List.setIfInBounds_toArray, List.set_cons_zero, List.set_cons_succ]
    refine wpAnyH_take (i := 2) (oi := { dst := some 68, op := Op.move (Operand.tmp 13), type := 4, pos := "law.go:75", after := #[{ on := 1, ground := Ground.guard }], guard := some (1, true) }) (v := ?_) rfl (by kernel_rfl) (by kernel_rfl) (by kernel_rfl) (fun _ _ _ h => h) (Or.inl ⟨by rfl, ?_⟩) (by assumption) ?_
    rotate_left
    · intro w hSw
      go_simp
      try with_reducible rfl
    try simp only [Act.put, List.setIfInBounds_toArray, List.set_cons_zero, List.set_cons_succ]
    refine wpAnyH_take (i := 3) (oi := { dst := some 69, op := Op.pick (Operand.tmp 67) (Operand.tmp 68) (Operand.const (Value.bool false)), type := 4, pos := "law.go:75", after := #[{ on := 1, ground := Ground.data }, { on := 2, ground := Ground.data }], guard := none }) (v := ?_) rfl (by kernel_rfl) (by kernel_rfl) (by kernel_rfl) (fun _ _ _ h => h) (Or.inl ⟨by rfl, ?_⟩) (by assumption) ?_
    rotate_left
    · intro w hSw
      go_simp
      try with_reducible rfl
    try simp only [Act.put, List.setIfInBounds_toArray, List.set_cons_zero, List.set_cons_succ]
    refine wpAnyH_take (i := 4) (oi := { dst := some 70, op := Op.move (Operand.tmp 69), type := 4, pos := "law.go:75", after := #[{ on := 3, ground := Ground.data }, { on := 1, ground := Ground.chain }], guard := none }) (v := ?_) rfl (by kernel_rfl) (by kernel_rfl) (by kernel_rfl) (fun _ _ _ h => h) (Or.inl ⟨by rfl, ?_⟩) (by assumption) ?_
    rotate_left
    · intro w hSw
      go_simp
      try with_reducible rfl
    try simp only [Act.put, List.setIfInBounds_toArray, List.set_cons_zero, List.set_cons_succ]
    refine wpAnyH_take (i := 5) (oi := { dst := some 71, op := Op.move (Operand.tmp 15), type := 4, pos := "law.go:75", after := #[{ on := 4, ground := Ground.guard }], guard := some (4, true) }) (v := ?_) rfl (by kernel_rfl) (by kernel_rfl) (by kernel_rfl) (fun _ _ _ h => h) (Or.inl ⟨by rfl, ?_⟩) (by assumption) ?_
    rotate_left
    · intro w hSw
      go_simp
      try with_reducible rfl
    try simp only [Act.put, List.setIfInBounds_toArray, List.set_cons_zero, List.set_cons_succ]
    refine wpAnyH_take (i := 6) (oi := { dst := some 72, op := Op.pick (Operand.tmp 70) (Operand.tmp 71) (Operand.const (Value.bool false)), type := 4, pos := "law.go:75", after := #[{ on := 4, ground := Ground.data }, { on := 5, ground := Ground.data }], guard := none }) (v := ?_) rfl (by kernel_rfl) (by kernel_rfl) (by kernel_rfl) (fun _ _ _ h => h) (Or.inl ⟨by rfl, ?_⟩) (by assumption) ?_
    rotate_left
    · intro w hSw
      go_simp
      try with_reducible rfl
    try simp only [Act.put, List.setIfInBounds_toArray, List.set_cons_zero, List.set_cons_succ]
    refine wpAnyH_take (i := 7) (oi := { dst := some 73, op := Op.move (Operand.tmp 72), type := 4, pos := "law.go:75", after := #[{ on := 6, ground := Ground.data }, { on := 4, ground := Ground.chain }], guard := none }) (v := ?_) rfl (by kernel_rfl) (by kernel_rfl) (by kernel_rfl) (fun _ _ _ h => h) (Or.inl ⟨by rfl, ?_⟩) (by assumption) ?_
    rotate_left
    · intro w hSw
      go_simp
      try with_reducible rfl
    try simp only [Act.put, List.setIfInBounds_toArray, List.set_cons_zero, List.set_cons_succ]
    refine wpAnyH_take (i := 8) (oi := { dst := some 74, op := Op.move (Operand.tmp 19), type := 4, pos := "law.go:75", after := #[{ on := 7, ground := Ground.guard }], guard := some (7, true) }) (v := ?_) rfl (by kernel_rfl) (by kernel_rfl) (by kernel_rfl) (fun _ _ _ h => h) (Or.inl ⟨by rfl, ?_⟩) (by assumption) ?_
    rotate_left
    · intro w hSw
      go_simp
      try with_reducible rfl
    try simp only [Act.put, List.setIfInBounds_toArray, List.set_cons_zero, List.set_cons_succ]
    refine wpAnyH_take (i := 9) (oi := { dst := some 75, op := Op.pick (Operand.tmp 73) (Operand.tmp 74) (Operand.const (Value.bool false)), type := 4, pos := "law.go:75", after := #[{ on := 7, ground := Ground.data }, { on := 8, ground := Ground.data }], guard := none }) (v := ?_) rfl (by kernel_rfl) (by kernel_rfl) (by kernel_rfl) (fun _ _ _ h => h) (Or.inl ⟨by rfl, ?_⟩) (by assumption) ?_
    rotate_left
    · intro w hSw
      go_simp
      try with_reducible rfl
    try simp only [Act.put, List.setIfInBounds_toArray, List.set_cons_zero, List.set_cons_succ]
    refine wpAnyH_take (i := 10) (oi := { dst := some 76, op := Op.move (Operand.tmp 75), type := 4, pos := "law.go:75", after := #[{ on := 9, ground := Ground.data }, { on := 7, ground := Ground.chain }], guard := none }) (v := ?_) rfl (by kernel_rfl) (by kernel_rfl) (by kernel_rfl) (fun _ _ _ h => h) (Or.inl ⟨by rfl, ?_⟩) (by assumption) ?_
    rotate_left
    · intro w hSw
      go_simp
      try with_reducible rfl
    try simp only [Act.put, List.setIfInBounds_toArray, List.set_cons_zero, List.set_cons_succ]
    refine wpAnyH_take (i := 11) (oi := { dst := some 77, op := Op.move (Operand.tmp 21), type := 4, pos := "law.go:75", after := #[{ on := 10, ground := Ground.guard }], guard := some (10, true) }) (v := ?_) rfl (by kernel_rfl) (by kernel_rfl) (by kernel_rfl) (fun _ _ _ h => h) (Or.inl ⟨by rfl, ?_⟩) (by assumption) ?_
    rotate_left
    · intro w hSw
      go_simp
      try with_reducible rfl
    try simp only [Act.put, List.setIfInBounds_toArray, List.set_cons_zero, List.set_cons_succ]
    refine wpAnyH_take (i := 12) (oi := { dst := some 78, op := Op.pick (Operand.tmp 76) (Operand.tmp 77) (Operand.const (Value.bool false)), type := 4, pos := "law.go:75", after := #[{ on := 10, ground := Ground.data }, { on := 11, ground := Ground.data }], guard := none }) (v := ?_) rfl (by kernel_rfl) (by kernel_rfl) (by kernel_rfl) (fun _ _ _ h => h) (Or.inl ⟨by rfl, ?_⟩) (by assumption) ?_
    rotate_left
    · intro w hSw
      go_simp
      try with_reducible rfl
    try simp only [Act.put, List.setIfInBounds_toArray, List.set_cons_zero, List.set_cons_succ]
    refine wpAnyH_take (i := 13) (oi := { dst := some 79, op := Op.move (Operand.tmp 78), type := 4, pos := "law.go:75", after := #[{ on := 12, ground := Ground.data }, { on := 10, ground := Ground.chain }], guard := none }) (v := ?_) rfl (by kernel_rfl) (by kernel_rfl) (by kernel_rfl) (fun _ _ _ h => h) (Or.inl ⟨by rfl, ?_⟩) (by assumption) ?_
    rotate_left
    · intro w hSw
      go_simp
      try with_reducible rfl
    try simp only [Act.put, List.setIfInBounds_toArray, List.set_cons_zero, List.set_cons_succ]
    refine wpAnyH_take (i := 14) (oi := { dst := some 80, op := Op.load 29 (Operand.tmp 10), type := 29, pos := "law.go:75", after := #[{ on := 13, ground := Ground.guard }], guard := some (13, true) }) (v := ?_) rfl (by kernel_rfl) (by kernel_rfl) (by kernel_rfl) (fun _ _ _ h => h) (Or.inl ⟨by rfl, ?_⟩) (by assumption) ?_
    rotate_left
    · intro w hSw
      have fp0 := (hSw.cell (p := ⟨gp, 0, none⟩) ltp).trans ep0
      have fp1 := (hSw.cell (p := ⟨gp, 1, none⟩) ltp).trans ep1
      have fq0 := (hSw.cell (p := ⟨gq, 0, none⟩) ltq).trans eq0
      have fq1 := (hSw.cell (p := ⟨gq, 1, none⟩) ltq).trans eq1
      have fl0 := (hSw.cell (p := ⟨gl, 0, none⟩) ltl).trans el0
      have fl1 := (hSw.cell (p := ⟨gl, 1, none⟩) ltl).trans el1
      have fr0 := (hSw.cell (p := ⟨gr, 0, none⟩) ltr).trans er0
      have fr1 := (hSw.cell (p := ⟨gr, 1, none⟩) ltr).trans er1
      have fx0 := (hSw.cell (p := ⟨g, 0, none⟩) ltx).trans ex0
      have fx1 := (hSw.cell (p := ⟨g, 1, none⟩) ltx).trans ex1
      have fy0 := (hSw.cell (p := ⟨g + 1, 0, none⟩) lty).trans ey0
      have fy1 := (hSw.cell (p := ⟨g + 1, 1, none⟩) lty).trans ey1
      go_simp
      try with_reducible rfl
    try simp only [Act.put, List.setIfInBounds_toArray, List.set_cons_zero, List.set_cons_succ]
    refine wpAnyH_take (i := 15) (oi := { dst := some 81, op := Op.load 29 (Operand.tmp 12), type := 29, pos := "law.go:75", after := #[{ on := 13, ground := Ground.guard }], guard := some (13, true) }) (v := ?_) rfl (by kernel_rfl) (by kernel_rfl) (by kernel_rfl) (fun _ _ _ h => h) (Or.inl ⟨by rfl, ?_⟩) (by assumption) ?_
    rotate_left
    · intro w hSw
      have fp0 := (hSw.cell (p := ⟨gp, 0, none⟩) ltp).trans ep0
      have fp1 := (hSw.cell (p := ⟨gp, 1, none⟩) ltp).trans ep1
      have fq0 := (hSw.cell (p := ⟨gq, 0, none⟩) ltq).trans eq0
      have fq1 := (hSw.cell (p := ⟨gq, 1, none⟩) ltq).trans eq1
      have fl0 := (hSw.cell (p := ⟨gl, 0, none⟩) ltl).trans el0
      have fl1 := (hSw.cell (p := ⟨gl, 1, none⟩) ltl).trans el1
      have fr0 := (hSw.cell (p := ⟨gr, 0, none⟩) ltr).trans er0
      have fr1 := (hSw.cell (p := ⟨gr, 1, none⟩) ltr).trans er1
      have fx0 := (hSw.cell (p := ⟨g, 0, none⟩) ltx).trans ex0
      have fx1 := (hSw.cell (p := ⟨g, 1, none⟩) ltx).trans ex1
      have fy0 := (hSw.cell (p := ⟨g + 1, 0, none⟩) lty).trans ey0
      have fy1 := (hSw.cell (p := ⟨g + 1, 1, none⟩) lty).trans ey1
      go_simp
      try with_reducible rfl
    try simp only [Act.put, List.setIfInBounds_toArray, List.set_cons_zero, List.set_cons_succ]
    refine wpAnyH_ready (rs := [16]) (by kernel_rfl) (by simp) ?_
    refine AllReadyH.cons (o := { dst := some 82, op := Op.call { callee := Callee.value (Operand.func 17), args := #[Operand.tmp 80, Operand.tmp 81], argTypes := #[29, 29] }, type := 4, pos := "law.go:75", after := #[{ on := 14, ground := Ground.data }, { on := 15, ground := Ground.data }, { on := 13, ground := Ground.chain }, { on := 13, ground := Ground.guard }], guard := some (13, true) }) rfl (fun K hK => ?_) AllReadyH.nil
    go_simp
    refine (Z1.out _ bd).mono ?_
    rintro e V10 ⟨rfl, d1⟩
    have b1 : Below WB.heap.size WB V10 := bd.trans (d1.mono bd.size)
    go_wp2_with (fail)
    refine hK.out _ _ b1 (fun hHeld => ?_)
    clear hK K
    try simp only [Act.put, List.setIfInBounds_toArray, List.set_cons_zero, List.set_cons_succ]
    refine wpAnyH_take (i := 17) (oi := { dst := some 83, op := Op.pick (Operand.tmp 79) (Operand.tmp 82) (Operand.const (Value.bool false)), type := 4, pos := "law.go:75", after := #[{ on := 13, ground := Ground.data }, { on := 16, ground := Ground.data }], guard := none }) (v := ?_) rfl (by kernel_rfl) (by kernel_rfl) (by kernel_rfl) (fun _ _ _ h => h) (Or.inl ⟨by rfl, ?_⟩) (by assumption) ?_
    rotate_left
    · intro w hSw
      go_simp
      try with_reducible rfl
    try simp only [Act.put, List.setIfInBounds_toArray, List.set_cons_zero, List.set_cons_succ]
    refine wpAnyH_take (i := 18) (oi := { dst := some 84, op := Op.move (Operand.tmp 83), type := 4, pos := "law.go:75", after := #[{ on := 17, ground := Ground.data }, { on := 16, ground := Ground.chain }], guard := none }) (v := ?_) rfl (by kernel_rfl) (by kernel_rfl) (by kernel_rfl) (fun _ _ _ h => h) (Or.inl ⟨by rfl, ?_⟩) (by assumption) ?_
    rotate_left
    · intro w hSw
      go_simp
      try with_reducible rfl
    try simp only [Act.put, List.setIfInBounds_toArray, List.set_cons_zero, List.set_cons_succ]
    refine wpAnyH_take (i := 19) (oi := { dst := some 85, op := Op.load 29 (Operand.tmp 14), type := 29, pos := "law.go:75", after := #[{ on := 18, ground := Ground.guard }], guard := some (18, true) }) (v := ?_) rfl (by kernel_rfl) (by kernel_rfl) (by kernel_rfl) (fun _ _ _ h => h) (Or.inl ⟨by rfl, ?_⟩) (by assumption) ?_
    rotate_left
    · intro w hSw
      have fp0 := (hSw.cell (p := ⟨gp, 0, none⟩) ltp).trans ep0
      have fp1 := (hSw.cell (p := ⟨gp, 1, none⟩) ltp).trans ep1
      have fq0 := (hSw.cell (p := ⟨gq, 0, none⟩) ltq).trans eq0
      have fq1 := (hSw.cell (p := ⟨gq, 1, none⟩) ltq).trans eq1
      have fl0 := (hSw.cell (p := ⟨gl, 0, none⟩) ltl).trans el0
      have fl1 := (hSw.cell (p := ⟨gl, 1, none⟩) ltl).trans el1
      have fr0 := (hSw.cell (p := ⟨gr, 0, none⟩) ltr).trans er0
      have fr1 := (hSw.cell (p := ⟨gr, 1, none⟩) ltr).trans er1
      have fx0 := (hSw.cell (p := ⟨g, 0, none⟩) ltx).trans ex0
      have fx1 := (hSw.cell (p := ⟨g, 1, none⟩) ltx).trans ex1
      have fy0 := (hSw.cell (p := ⟨g + 1, 0, none⟩) lty).trans ey0
      have fy1 := (hSw.cell (p := ⟨g + 1, 1, none⟩) lty).trans ey1
      go_simp
      try with_reducible rfl
    try simp only [Act.put, List.setIfInBounds_toArray, List.set_cons_zero, List.set_cons_succ]
    refine wpAnyH_take (i := 20) (oi := { dst := some 86, op := Op.load 29 (Operand.tmp 18), type := 29, pos := "law.go:75", after := #[{ on := 18, ground := Ground.guard }], guard := some (18, true) }) (v := ?_) rfl (by kernel_rfl) (by kernel_rfl) (by kernel_rfl) (fun _ _ _ h => h) (Or.inl ⟨by rfl, ?_⟩) (by assumption) ?_
    rotate_left
    · intro w hSw
      have fp0 := (hSw.cell (p := ⟨gp, 0, none⟩) ltp).trans ep0
      have fp1 := (hSw.cell (p := ⟨gp, 1, none⟩) ltp).trans ep1
      have fq0 := (hSw.cell (p := ⟨gq, 0, none⟩) ltq).trans eq0
      have fq1 := (hSw.cell (p := ⟨gq, 1, none⟩) ltq).trans eq1
      have fl0 := (hSw.cell (p := ⟨gl, 0, none⟩) ltl).trans el0
      have fl1 := (hSw.cell (p := ⟨gl, 1, none⟩) ltl).trans el1
      have fr0 := (hSw.cell (p := ⟨gr, 0, none⟩) ltr).trans er0
      have fr1 := (hSw.cell (p := ⟨gr, 1, none⟩) ltr).trans er1
      have fx0 := (hSw.cell (p := ⟨g, 0, none⟩) ltx).trans ex0
      have fx1 := (hSw.cell (p := ⟨g, 1, none⟩) ltx).trans ex1
      have fy0 := (hSw.cell (p := ⟨g + 1, 0, none⟩) lty).trans ey0
      have fy1 := (hSw.cell (p := ⟨g + 1, 1, none⟩) lty).trans ey1
      go_simp
      try with_reducible rfl
    try simp only [Act.put, List.setIfInBounds_toArray, List.set_cons_zero, List.set_cons_succ]
    refine wpAnyH_ready (rs := [21]) (by kernel_rfl) (by simp) ?_
    refine AllReadyH.cons (o := { dst := some 87, op := Op.call { callee := Callee.value (Operand.func 17), args := #[Operand.tmp 85, Operand.tmp 86], argTypes := #[29, 29] }, type := 4, pos := "law.go:75", after := #[{ on := 19, ground := Ground.data }, { on := 20, ground := Ground.data }, { on := 18, ground := Ground.chain }, { on := 18, ground := Ground.guard }], guard := some (18, true) }) rfl (fun K hK => ?_) AllReadyH.nil
    go_simp
    refine (Z2.out _ b1).mono ?_
    rintro e V20 ⟨rfl, d2⟩
    have b2 : Below WB.heap.size WB V20 := b1.trans (d2.mono b1.size)
    go_wp2_with (fail)
    refine hK.out _ _ b2 (fun hHeld => ?_)
    clear hK K
    try simp only [Act.put, List.setIfInBounds_toArray, List.set_cons_zero, List.set_cons_succ]
    refine wpAnyH_take (i := 22) (oi := { dst := some 88, op := Op.pick (Operand.tmp 84) (Operand.tmp 87) (Operand.const (Value.bool false)), type := 4, pos := "law.go:75", after := #[{ on := 18, ground := Ground.data }, { on := 21, ground := Ground.data }], guard := none }) (v := ?_) rfl (by kernel_rfl) (by kernel_rfl) (by kernel_rfl) (fun _ _ _ h => h) (Or.inl ⟨by rfl, ?_⟩) (by assumption) ?_
    rotate_left
    · intro w hSw
      go_simp
      try with_reducible rfl
    try simp only [Act.put, List.setIfInBounds_toArray, List.set_cons_zero, List.set_cons_succ]
    refine wpAnyH_take (i := 23) (oi := { dst := some 89, op := Op.move (Operand.tmp 88), type := 4, pos := "law.go:75", after := #[{ on := 22, ground := Ground.data }, { on := 21, ground := Ground.chain }], guard := none }) (v := ?_) rfl (by kernel_rfl) (by kernel_rfl) (by kernel_rfl) (fun _ _ _ h => h) (Or.inl ⟨by rfl, ?_⟩) (by assumption) ?_
    rotate_left
    · intro w hSw
      go_simp
      try with_reducible rfl
    try simp only [Act.put, List.setIfInBounds_toArray, List.set_cons_zero, List.set_cons_succ]
    refine wpAnyH_take (i := 24) (oi := { dst := some 90, op := Op.fieldAddr 29 (Operand.tmp 10) 0, type := 0, pos := "law.go:75", after := #[{ on := 23, ground := Ground.guard }], guard := some (23, true) }) (v := ?_) rfl (by kernel_rfl) (by kernel_rfl) (by kernel_rfl) (fun _ _ _ h => h) (Or.inl ⟨by rfl, ?_⟩) (by assumption) ?_
    rotate_left
    · intro w hSw
      go_simp
      try with_reducible rfl
    try simp only [Act.put, List.setIfInBounds_toArray, List.set_cons_zero, List.set_cons_succ]
    refine wpAnyH_take (i := 25) (oi := { dst := some 91, op := Op.load 26 (Operand.tmp 90), type := 26, pos := "law.go:75", after := #[{ on := 24, ground := Ground.data }, { on := 23, ground := Ground.guard }], guard := some (23, true) }) (v := ?_) rfl (by kernel_rfl) (by kernel_rfl) (by kernel_rfl) (fun _ _ _ h => h) (Or.inl ⟨by rfl, ?_⟩) (by assumption) ?_
    rotate_left
    · intro w hSw
      have fp0 := (hSw.cell (p := ⟨gp, 0, none⟩) ltp).trans ep0
      have fp1 := (hSw.cell (p := ⟨gp, 1, none⟩) ltp).trans ep1
      have fq0 := (hSw.cell (p := ⟨gq, 0, none⟩) ltq).trans eq0
      have fq1 := (hSw.cell (p := ⟨gq, 1, none⟩) ltq).trans eq1
      have fl0 := (hSw.cell (p := ⟨gl, 0, none⟩) ltl).trans el0
      have fl1 := (hSw.cell (p := ⟨gl, 1, none⟩) ltl).trans el1
      have fr0 := (hSw.cell (p := ⟨gr, 0, none⟩) ltr).trans er0
      have fr1 := (hSw.cell (p := ⟨gr, 1, none⟩) ltr).trans er1
      have fx0 := (hSw.cell (p := ⟨g, 0, none⟩) ltx).trans ex0
      have fx1 := (hSw.cell (p := ⟨g, 1, none⟩) ltx).trans ex1
      have fy0 := (hSw.cell (p := ⟨g + 1, 0, none⟩) lty).trans ey0
      have fy1 := (hSw.cell (p := ⟨g + 1, 1, none⟩) lty).trans ey1
      go_simp
      try with_reducible rfl
    try simp only [Act.put, List.setIfInBounds_toArray, List.set_cons_zero, List.set_cons_succ]
    refine wpAnyH_take (i := 26) (oi := { dst := some 92, op := Op.move (Operand.tmp 20), type := 26, pos := "law.go:75", after := #[{ on := 23, ground := Ground.guard }], guard := some (23, true) }) (v := ?_) rfl (by kernel_rfl) (by kernel_rfl) (by kernel_rfl) (fun _ _ _ h => h) (Or.inl ⟨by rfl, ?_⟩) (by assumption) ?_
    rotate_left
    · intro w hSw
      go_simp
      try with_reducible rfl
    try simp only [Act.put, List.setIfInBounds_toArray, List.set_cons_zero, List.set_cons_succ]
    refine wpAnyH_ready (rs := [27]) (by kernel_rfl) (by simp) ?_
    refine AllReadyH.cons (o := { dst := some 93, op := Op.call { callee := Callee.value (Operand.func 26), args := #[Operand.tmp 91, Operand.tmp 92], argTypes := #[22, 22] }, type := 4, pos := "law.go:75", after := #[{ on := 25, ground := Ground.data }, { on := 26, ground := Ground.data }, { on := 23, ground := Ground.chain }, { on := 23, ground := Ground.guard }], guard := some (23, true) }) rfl (fun K hK => ?_) AllReadyH.nil
    go_simp
    refine (Z3.out _ b2).mono ?_
    rintro e V30 ⟨rfl, d3⟩
    have b3 : Below WB.heap.size WB V30 := b2.trans (d3.mono b2.size)
    go_wp2_with (fail)
    refine hK.out _ _ b3 (fun hHeld => ?_)
    clear hK K
    try simp only [Act.put, List.setIfInBounds_toArray, List.set_cons_zero, List.set_cons_succ]
    refine wpAnyH_take (i := 28) (oi := { dst := some 94, op := Op.pick (Operand.tmp 89) (Operand.tmp 93) (Operand.const (Value.bool false)), type := 4, pos := "law.go:75", after := #[{ on := 23, ground := Ground.data }, { on := 27, ground := Ground.data }], guard := none }) (v := ?_) rfl (by kernel_rfl) (by kernel_rfl) (by kernel_rfl) (fun _ _ _ h => h) (Or.inl ⟨by rfl, ?_⟩) (by assumption) ?_
    rotate_left
    · intro w hSw
      go_simp
      try with_reducible rfl
    try simp only [Act.put, List.setIfInBounds_toArray, List.set_cons_zero, List.set_cons_succ]
    refine wpAnyH_take (i := 29) (oi := { dst := some 95, op := Op.move (Operand.tmp 94), type := 4, pos := "law.go:75", after := #[{ on := 28, ground := Ground.data }, { on := 27, ground := Ground.chain }], guard := none }) (v := ?_) rfl (by kernel_rfl) (by kernel_rfl) (by kernel_rfl) (fun _ _ _ h => h) (Or.inl ⟨by rfl, ?_⟩) (by assumption) ?_
    rotate_left
    · intro w hSw
      go_simp
      try with_reducible rfl
    try simp only [Act.put, List.setIfInBounds_toArray, List.set_cons_zero, List.set_cons_succ]
    refine wpAnyH_take (i := 30) (oi := { dst := some 96, op := Op.load 29 (Operand.tmp 10), type := 29, pos := "law.go:75", after := #[{ on := 29, ground := Ground.guard }], guard := some (29, true) }) (v := ?_) rfl (by kernel_rfl) (by kernel_rfl) (by kernel_rfl) (fun _ _ _ h => h) (Or.inl ⟨by rfl, ?_⟩) (by assumption) ?_
    rotate_left
    · intro w hSw
      have fp0 := (hSw.cell (p := ⟨gp, 0, none⟩) ltp).trans ep0
      have fp1 := (hSw.cell (p := ⟨gp, 1, none⟩) ltp).trans ep1
      have fq0 := (hSw.cell (p := ⟨gq, 0, none⟩) ltq).trans eq0
      have fq1 := (hSw.cell (p := ⟨gq, 1, none⟩) ltq).trans eq1
      have fl0 := (hSw.cell (p := ⟨gl, 0, none⟩) ltl).trans el0
      have fl1 := (hSw.cell (p := ⟨gl, 1, none⟩) ltl).trans el1
      have fr0 := (hSw.cell (p := ⟨gr, 0, none⟩) ltr).trans er0
      have fr1 := (hSw.cell (p := ⟨gr, 1, none⟩) ltr).trans er1
      have fx0 := (hSw.cell (p := ⟨g, 0, none⟩) ltx).trans ex0
      have fx1 := (hSw.cell (p := ⟨g, 1, none⟩) ltx).trans ex1
      have fy0 := (hSw.cell (p := ⟨g + 1, 0, none⟩) lty).trans ey0
      have fy1 := (hSw.cell (p := ⟨g + 1, 1, none⟩) lty).trans ey1
      go_simp
      try with_reducible rfl
    try simp only [Act.put, List.setIfInBounds_toArray, List.set_cons_zero, List.set_cons_succ]
    refine wpAnyH_ready (rs := [31]) (by kernel_rfl) (by simp) ?_
    refine AllReadyH.cons (o := { dst := some 97, op := Op.call { callee := Callee.value (Operand.func 13), args := #[Operand.tmp 96], argTypes := #[29] }, type := 4, pos := "law.go:75", after := #[{ on := 30, ground := Ground.data }, { on := 29, ground := Ground.chain }, { on := 29, ground := Ground.guard }], guard := some (29, true) }) rfl (fun K hK => ?_) AllReadyH.nil
    go_simp
    refine (Z4.out _ b3).mono ?_
    rintro e V40 ⟨rfl, d4⟩
    have b4 : Below WB.heap.size WB V40 := b3.trans (d4.mono b3.size)
    go_wp2_with (fail)
    refine hK.out _ _ b4 (fun hHeld => ?_)
    clear hK K
    try simp only [Act.put, List.setIfInBounds_toArray, List.set_cons_zero, List.set_cons_succ]
    refine wpAnyH_take (i := 32) (oi := { dst := some 98, op := Op.pick (Operand.tmp 95) (Operand.tmp 97) (Operand.const (Value.bool false)), type := 4, pos := "law.go:75", after := #[{ on := 29, ground := Ground.data }, { on := 31, ground := Ground.data }], guard := none }) (v := ?_) rfl (by kernel_rfl) (by kernel_rfl) (by kernel_rfl) (fun _ _ _ h => h) (Or.inl ⟨by rfl, ?_⟩) (by assumption) ?_
    rotate_left
    · intro w hSw
      go_simp
      try with_reducible rfl
    try simp only [Act.put, List.setIfInBounds_toArray, List.set_cons_zero, List.set_cons_succ]
    refine wpAnyH_take (i := 33) (oi := { dst := some 99, op := Op.move (Operand.tmp 98), type := 4, pos := "law.go:75", after := #[{ on := 32, ground := Ground.data }, { on := 31, ground := Ground.chain }], guard := none }) (v := ?_) rfl (by kernel_rfl) (by kernel_rfl) (by kernel_rfl) (fun _ _ _ h => h) (Or.inl ⟨by rfl, ?_⟩) (by assumption) ?_
    rotate_left
    · intro w hSw
      go_simp
      try with_reducible rfl
    try simp only [Act.put, List.setIfInBounds_toArray, List.set_cons_zero, List.set_cons_succ]
    refine wpAnyH_take (i := 34) (oi := { dst := some 100, op := Op.fieldAddr 29 (Operand.tmp 10) 1, type := 0, pos := "law.go:75", after := #[{ on := 33, ground := Ground.guard }], guard := some (33, true) }) (v := ?_) rfl (by kernel_rfl) (by kernel_rfl) (by kernel_rfl) (fun _ _ _ h => h) (Or.inl ⟨by rfl, ?_⟩) (by assumption) ?_
    rotate_left
    · intro w hSw
      go_simp
      try with_reducible rfl
    try simp only [Act.put, List.setIfInBounds_toArray, List.set_cons_zero, List.set_cons_succ]
    refine wpAnyH_take (i := 35) (oi := { dst := some 101, op := Op.load 27 (Operand.tmp 100), type := 27, pos := "law.go:75", after := #[{ on := 34, ground := Ground.data }, { on := 33, ground := Ground.guard }], guard := some (33, true) }) (v := ?_) rfl (by kernel_rfl) (by kernel_rfl) (by kernel_rfl) (fun _ _ _ h => h) (Or.inl ⟨by rfl, ?_⟩) (by assumption) ?_
    rotate_left
    · intro w hSw
      have fp0 := (hSw.cell (p := ⟨gp, 0, none⟩) ltp).trans ep0
      have fp1 := (hSw.cell (p := ⟨gp, 1, none⟩) ltp).trans ep1
      have fq0 := (hSw.cell (p := ⟨gq, 0, none⟩) ltq).trans eq0
      have fq1 := (hSw.cell (p := ⟨gq, 1, none⟩) ltq).trans eq1
      have fl0 := (hSw.cell (p := ⟨gl, 0, none⟩) ltl).trans el0
      have fl1 := (hSw.cell (p := ⟨gl, 1, none⟩) ltl).trans el1
      have fr0 := (hSw.cell (p := ⟨gr, 0, none⟩) ltr).trans er0
      have fr1 := (hSw.cell (p := ⟨gr, 1, none⟩) ltr).trans er1
      have fx0 := (hSw.cell (p := ⟨g, 0, none⟩) ltx).trans ex0
      have fx1 := (hSw.cell (p := ⟨g, 1, none⟩) ltx).trans ex1
      have fy0 := (hSw.cell (p := ⟨g + 1, 0, none⟩) lty).trans ey0
      have fy1 := (hSw.cell (p := ⟨g + 1, 1, none⟩) lty).trans ey1
      go_simp
      try with_reducible rfl
    try simp only [Act.put, List.setIfInBounds_toArray, List.set_cons_zero, List.set_cons_succ]
    refine wpAnyH_take (i := 36) (oi := { dst := some 102, op := Op.call { callee := Callee.builtin Builtin.len, args := #[Operand.tmp 101], argTypes := #[27] }, type := 3, pos := "law.go:75", after := #[{ on := 35, ground := Ground.data }, { on := 33, ground := Ground.guard }], guard := some (33, true) }) (v := ?_) rfl (by kernel_rfl) (by kernel_rfl) (by kernel_rfl) (fun _ _ _ h => h) (Or.inl ⟨by rfl, ?_⟩) (by assumption) ?_
    rotate_left
    · intro w hSw
      go_simp
      try with_reducible rfl
    try simp only [Act.put, List.setIfInBounds_toArray, List.set_cons_zero, List.set_cons_succ]
    refine wpAnyH_take (i := 37) (oi := { dst := some 103, op := Op.fieldAddr 29 (Operand.tmp 7) 1, type := 0, pos := "law.go:75", after := #[{ on := 33, ground := Ground.guard }], guard := some (33, true) }) (v := ?_) rfl (by kernel_rfl) (by kernel_rfl) (by kernel_rfl) (fun _ _ _ h => h) (Or.inl ⟨by rfl, ?_⟩) (by assumption) ?_
    rotate_left
    · intro w hSw
      go_simp
      try with_reducible rfl
    try simp only [Act.put, List.setIfInBounds_toArray, List.set_cons_zero, List.set_cons_succ]
    refine wpAnyH_take (i := 38) (oi := { dst := some 104, op := Op.load 27 (Operand.tmp 103), type := 27, pos := "law.go:75", after := #[{ on := 37, ground := Ground.data }, { on := 33, ground := Ground.guard }], guard := some (33, true) }) (v := ?_) rfl (by kernel_rfl) (by kernel_rfl) (by kernel_rfl) (fun _ _ _ h => h) (Or.inl ⟨by rfl, ?_⟩) (by assumption) ?_
    rotate_left
    · intro w hSw
      have fp0 := (hSw.cell (p := ⟨gp, 0, none⟩) ltp).trans ep0
      have fp1 := (hSw.cell (p := ⟨gp, 1, none⟩) ltp).trans ep1
      have fq0 := (hSw.cell (p := ⟨gq, 0, none⟩) ltq).trans eq0
      have fq1 := (hSw.cell (p := ⟨gq, 1, none⟩) ltq).trans eq1
      have fl0 := (hSw.cell (p := ⟨gl, 0, none⟩) ltl).trans el0
      have fl1 := (hSw.cell (p := ⟨gl, 1, none⟩) ltl).trans el1
      have fr0 := (hSw.cell (p := ⟨gr, 0, none⟩) ltr).trans er0
      have fr1 := (hSw.cell (p := ⟨gr, 1, none⟩) ltr).trans er1
      have fx0 := (hSw.cell (p := ⟨g, 0, none⟩) ltx).trans ex0
      have fx1 := (hSw.cell (p := ⟨g, 1, none⟩) ltx).trans ex1
      have fy0 := (hSw.cell (p := ⟨g + 1, 0, none⟩) lty).trans ey0
      have fy1 := (hSw.cell (p := ⟨g + 1, 1, none⟩) lty).trans ey1
      go_simp
      try with_reducible rfl
    try simp only [Act.put, List.setIfInBounds_toArray, List.set_cons_zero, List.set_cons_succ]
    refine wpAnyH_take (i := 39) (oi := { dst := some 105, op := Op.call { callee := Callee.builtin Builtin.len, args := #[Operand.tmp 104], argTypes := #[27] }, type := 3, pos := "law.go:75", after := #[{ on := 38, ground := Ground.data }, { on := 33, ground := Ground.guard }], guard := some (33, true) }) (v := ?_) rfl (by kernel_rfl) (by kernel_rfl) (by kernel_rfl) (fun _ _ _ h => h) (Or.inl ⟨by rfl, ?_⟩) (by assumption) ?_
    rotate_left
    · intro w hSw
      go_simp
      try with_reducible rfl
    try simp only [Act.put, List.setIfInBounds_toArray, List.set_cons_zero, List.set_cons_succ]
    refine wpAnyH_take (i := 40) (oi := { dst := some 106, op := Op.fieldAddr 29 (Operand.tmp 8) 1, type := 0, pos := "law.go:75", after := #[{ on := 33, ground := Ground.guard }], guard := some (33, true) }) (v := ?_) rfl (by kernel_rfl) (by kernel_rfl) (by kernel_rfl) (fun _ _ _ h => h) (Or.inl ⟨by rfl, ?_⟩) (by assumption) ?_
    rotate_left
    · intro w hSw
      go_simp
      try with_reducible rfl
    try simp only [Act.put, List.setIfInBounds_toArray, List.set_cons_zero, List.set_cons_succ]
    refine wpAnyH_take (i := 41) (oi := { dst := some 107, op := Op.load 27 (Operand.tmp 106), type := 27, pos := "law.go:75", after := #[{ on := 40, ground := Ground.data }, { on := 33, ground := Ground.guard }], guard := some (33, true) }) (v := ?_) rfl (by kernel_rfl) (by kernel_rfl) (by kernel_rfl) (fun _ _ _ h => h) (Or.inl ⟨by rfl, ?_⟩) (by assumption) ?_
    rotate_left
    · intro w hSw
      have fp0 := (hSw.cell (p := ⟨gp, 0, none⟩) ltp).trans ep0
      have fp1 := (hSw.cell (p := ⟨gp, 1, none⟩) ltp).trans ep1
      have fq0 := (hSw.cell (p := ⟨gq, 0, none⟩) ltq).trans eq0
      have fq1 := (hSw.cell (p := ⟨gq, 1, none⟩) ltq).trans eq1
      have fl0 := (hSw.cell (p := ⟨gl, 0, none⟩) ltl).trans el0
      have fl1 := (hSw.cell (p := ⟨gl, 1, none⟩) ltl).trans el1
      have fr0 := (hSw.cell (p := ⟨gr, 0, none⟩) ltr).trans er0
      have fr1 := (hSw.cell (p := ⟨gr, 1, none⟩) ltr).trans er1
      have fx0 := (hSw.cell (p := ⟨g, 0, none⟩) ltx).trans ex0
      have fx1 := (hSw.cell (p := ⟨g, 1, none⟩) ltx).trans ex1
      have fy0 := (hSw.cell (p := ⟨g + 1, 0, none⟩) lty).trans ey0
      have fy1 := (hSw.cell (p := ⟨g + 1, 1, none⟩) lty).trans ey1
      go_simp
      try with_reducible rfl
    try simp only [Act.put, List.setIfInBounds_toArray, List.set_cons_zero, List.set_cons_succ]
    refine wpAnyH_take (i := 42) (oi := { dst := some 108, op := Op.call { callee := Callee.builtin Builtin.len, args := #[Operand.tmp 107], argTypes := #[27] }, type := 3, pos := "law.go:75", after := #[{ on := 41, ground := Ground.data }, { on := 33, ground := Ground.guard }], guard := some (33, true) }) (v := ?_) rfl (by kernel_rfl) (by kernel_rfl) (by kernel_rfl) (fun _ _ _ h => h) (Or.inl ⟨by rfl, ?_⟩) (by assumption) ?_
    rotate_left
    · intro w hSw
      go_simp
      try with_reducible rfl
    try simp only [Act.put, List.setIfInBounds_toArray, List.set_cons_zero, List.set_cons_succ]
    refine wpAnyH_take (i := 43) (oi := { dst := some 109, op := Op.binOp BinOp.add 3 (Operand.tmp 105) (Operand.tmp 108) 3, type := 3, pos := "law.go:75", after := #[{ on := 39, ground := Ground.data }, { on := 42, ground := Ground.data }, { on := 33, ground := Ground.guard }], guard := some (33, true) }) (v := ?_) rfl (by kernel_rfl) (by kernel_rfl) (by kernel_rfl) (fun _ _ _ h => h) (Or.inl ⟨by rfl, ?_⟩) (by assumption) ?_
    rotate_left
    · intro w hSw
      go_simp
      try with_reducible rfl
    try simp only [Act.put, List.setIfInBounds_toArray, List.set_cons_zero, List.set_cons_succ]
    refine wpAnyH_take (i := 44) (oi := { dst := some 110, op := Op.binOp BinOp.leq 3 (Operand.tmp 102) (Operand.tmp 109) 3, type := 4, pos := "law.go:75", after := #[{ on := 36, ground := Ground.data }, { on := 43, ground := Ground.data }, { on := 33, ground := Ground.guard }], guard := some (33, true) }) (v := ?_) rfl (by kernel_rfl) (by kernel_rfl) (by kernel_rfl) (fun _ _ _ h => h) (Or.inl ⟨by rfl, ?_⟩) (by assumption) ?_
    rotate_left
    · intro w hSw
      go_simp
      try with_reducible rfl
    try simp only [Act.put, List.setIfInBounds_toArray, List.set_cons_zero, List.set_cons_succ]
    refine wpAnyH_take (i := 45) (oi := { dst := some 111, op := Op.pick (Operand.tmp 99) (Operand.tmp 110) (Operand.const (Value.bool false)), type := 4, pos := "law.go:75", after := #[{ on := 33, ground := Ground.data }, { on := 44, ground := Ground.data }], guard := none }) (v := ?_) rfl (by kernel_rfl) (by kernel_rfl) (by kernel_rfl) (fun _ _ _ h => h) (Or.inl ⟨by rfl, ?_⟩) (by assumption) ?_
    rotate_left
    · intro w hSw
      go_simp
      try with_reducible rfl
    try simp only [Act.put, List.setIfInBounds_toArray, List.set_cons_zero, List.set_cons_succ]
    refine wpAnyH_take (i := 46) (oi := { dst := some 112, op := Op.move (Operand.tmp 111), type := 4, pos := "law.go:75", after := #[{ on := 45, ground := Ground.data }, { on := 33, ground := Ground.chain }], guard := none }) (v := ?_) rfl (by kernel_rfl) (by kernel_rfl) (by kernel_rfl) (fun _ _ _ h => h) (Or.inl ⟨by rfl, ?_⟩) (by assumption) ?_
    rotate_left
    · intro w hSw
      go_simp
      try with_reducible rfl
    try simp only [Act.put, List.setIfInBounds_toArray, List.set_cons_zero, List.set_cons_succ]
    refine wpAnyH_take (i := 47) (oi := { dst := some 113, op := Op.load 29 (Operand.tmp 10), type := 29, pos := "law.go:75", after := #[{ on := 46, ground := Ground.guard }], guard := some (46, true) }) (v := ?_) rfl (by kernel_rfl) (by kernel_rfl) (by kernel_rfl) (fun _ _ _ h => h) (Or.inl ⟨by rfl, ?_⟩) (by assumption) ?_
    rotate_left
    · intro w hSw
      have fp0 := (hSw.cell (p := ⟨gp, 0, none⟩) ltp).trans ep0
      have fp1 := (hSw.cell (p := ⟨gp, 1, none⟩) ltp).trans ep1
      have fq0 := (hSw.cell (p := ⟨gq, 0, none⟩) ltq).trans eq0
      have fq1 := (hSw.cell (p := ⟨gq, 1, none⟩) ltq).trans eq1
      have fl0 := (hSw.cell (p := ⟨gl, 0, none⟩) ltl).trans el0
      have fl1 := (hSw.cell (p := ⟨gl, 1, none⟩) ltl).trans el1
      have fr0 := (hSw.cell (p := ⟨gr, 0, none⟩) ltr).trans er0
      have fr1 := (hSw.cell (p := ⟨gr, 1, none⟩) ltr).trans er1
      have fx0 := (hSw.cell (p := ⟨g, 0, none⟩) ltx).trans ex0
      have fx1 := (hSw.cell (p := ⟨g, 1, none⟩) ltx).trans ex1
      have fy0 := (hSw.cell (p := ⟨g + 1, 0, none⟩) lty).trans ey0
      have fy1 := (hSw.cell (p := ⟨g + 1, 1, none⟩) lty).trans ey1
      go_simp
      try with_reducible rfl
    try simp only [Act.put, List.setIfInBounds_toArray, List.set_cons_zero, List.set_cons_succ]
    refine wpAnyH_take (i := 49) (oi := { dst := some 115, op := Op.load 29 (Operand.tmp 7), type := 29, pos := "law.go:75", after := #[{ on := 46, ground := Ground.guard }], guard := some (46, true) }) (v := ?_) rfl (by kernel_rfl) (by kernel_rfl) (by kernel_rfl) (fun _ _ _ h => h) (Or.inl ⟨by rfl, ?_⟩) (by assumption) ?_
    rotate_left
    · intro w hSw
      have fp0 := (hSw.cell (p := ⟨gp, 0, none⟩) ltp).trans ep0
      have fp1 := (hSw.cell (p := ⟨gp, 1, none⟩) ltp).trans ep1
      have fq0 := (hSw.cell (p := ⟨gq, 0, none⟩) ltq).trans eq0
      have fq1 := (hSw.cell (p := ⟨gq, 1, none⟩) ltq).trans eq1
      have fl0 := (hSw.cell (p := ⟨gl, 0, none⟩) ltl).trans el0
      have fl1 := (hSw.cell (p := ⟨gl, 1, none⟩) ltl).trans el1
      have fr0 := (hSw.cell (p := ⟨gr, 0, none⟩) ltr).trans er0
      have fr1 := (hSw.cell (p := ⟨gr, 1, none⟩) ltr).trans er1
      have fx0 := (hSw.cell (p := ⟨g, 0, none⟩) ltx).trans ex0
      have fx1 := (hSw.cell (p := ⟨g, 1, none⟩) ltx).trans ex1
      have fy0 := (hSw.cell (p := ⟨g + 1, 0, none⟩) lty).trans ey0
      have fy1 := (hSw.cell (p := ⟨g + 1, 1, none⟩) lty).trans ey1
      go_simp
      try with_reducible rfl
    try simp only [Act.put, List.setIfInBounds_toArray, List.set_cons_zero, List.set_cons_succ]
    refine wpAnyH_ready (rs := [48]) (by kernel_rfl) (by simp) ?_
    refine AllReadyH.cons (o := { dst := some 114, op := Op.call { callee := Callee.value (Operand.func 15), args := #[Operand.tmp 113], argTypes := #[29] }, type := 4, pos := "law.go:75", after := #[{ on := 47, ground := Ground.data }, { on := 46, ground := Ground.chain }, { on := 46, ground := Ground.guard }], guard := some (46, true) }) rfl (fun K hK => ?_) AllReadyH.nil
    go_simp
    refine (ZP.out _ b4).mono ?_
    rintro e V50 ⟨rfl, d5⟩
    have b5 : Below WB.heap.size WB V50 := b4.trans (d5.mono b4.size)
    go_wp2_with (fail)
    refine hK.out _ _ b5 (fun hHeld => ?_)
    clear hK K
    try simp only [Act.put, List.setIfInBounds_toArray, List.set_cons_zero, List.set_cons_succ]
    refine wpAnyH_ready (rs := [50]) (by kernel_rfl) (by simp) ?_
    refine AllReadyH.cons (o := { dst := some 116, op := Op.call { callee := Callee.value (Operand.func 15), args := #[Operand.tmp 115], argTypes := #[29] }, type := 4, pos := "law.go:75", after := #[{ on := 49, ground := Ground.data }, { on := 48, ground := Ground.chain }, { on := 46, ground := Ground.guard }], guard := some (46, true) }) rfl (fun K hK => ?_) AllReadyH.nil
    go_simp
    refine (ZX.out _ b5).mono ?_
    rintro e V60 ⟨rfl, d6⟩
    have b6 : Below WB.heap.size WB V60 := b5.trans (d6.mono b5.size)
    go_wp2_with (fail)
    refine hK.out _ _ b6 (fun hHeld => ?_)
    clear hK K
    try simp only [Act.put, List.setIfInBounds_toArray, List.set_cons_zero, List.set_cons_succ]
    refine wpAnyH_take (i := 51) (oi := { dst := some 117, op := Op.move (Operand.tmp 116), type := 4, pos := "law.go:75", after := #[{ on := 50, ground := Ground.data }, { on := 50, ground := Ground.chain }, { on := 46, ground := Ground.guard }], guard := some (46, true) }) (v := ?_) rfl (by kernel_rfl) (by kernel_rfl) (by kernel_rfl) (fun _ _ _ h => h) (Or.inl ⟨by rfl, ?_⟩) (by assumption) ?_
    rotate_left
    · intro w hSw
      go_simp
      try with_reducible rfl
    try simp only [Act.put, List.setIfInBounds_toArray, List.set_cons_zero, List.set_cons_succ]
    refine wpAnyH_take (i := 52) (oi := { dst := some 118, op := Op.load 29 (Operand.tmp 8), type := 29, pos := "law.go:75", after := #[{ on := 51, ground := Ground.guard }], guard := some (51, true) }) (v := undef) rfl (by kernel_rfl) (by kernel_rfl) (by kernel_rfl) (fun _ _ _ h => h) (Or.inr ⟨by rfl, rfl⟩) (by assumption) ?_
    try simp only [Act.put, List.setIfInBounds_toArray, List.set_cons_zero, List.set_cons_succ]
    refine wpAnyH_take (i := 53) (oi := { dst := some 119, op := Op.call { callee := Callee.value (Operand.func 15), args := #[Operand.tmp 118], argTypes := #[29] }, type := 4, pos := "law.go:75", after := #[{ on := 52, ground := Ground.data }, { on := 51, ground := Ground.chain }, { on := 51, ground := Ground.guard }], guard := some (51, true) }) (v := undef) rfl (by kernel_rfl) (by kernel_rfl) (by kernel_rfl) (fun _ _ _ h => h) (Or.inr ⟨by rfl, rfl⟩) (by assumption) ?_
    try simp only [Act.put, List.setIfInBounds_toArray, List.set_cons_zero, List.set_cons_succ]
    refine wpAnyH_take (i := 54) (oi := { dst := some 120, op := Op.pick (Operand.tmp 117) (Operand.tmp 119) (Operand.const (Value.bool false)), type := 4, pos := "law.go:75", after := #[{ on := 51, ground := Ground.data }, { on := 53, ground := Ground.data }, { on := 46, ground := Ground.guard }], guard := some (46, true) }) (v := ?_) rfl (by kernel_rfl) (by kernel_rfl) (by kernel_rfl) (fun _ _ _ h => h) (Or.inl ⟨by rfl, ?_⟩) (by assumption) ?_
    rotate_left
    · intro w hSw
      go_simp
      try with_reducible rfl
    try simp only [Act.put, List.setIfInBounds_toArray, List.set_cons_zero, List.set_cons_succ]
    refine wpAnyH_take (i := 55) (oi := { dst := some 121, op := Op.binOp BinOp.eql 4 (Operand.tmp 114) (Operand.tmp 120) 4, type := 4, pos := "law.go:75", after := #[{ on := 48, ground := Ground.data }, { on := 54, ground := Ground.data }, { on := 46, ground := Ground.guard }], guard := some (46, true) }) (v := ?_) rfl (by kernel_rfl) (by kernel_rfl) (by kernel_rfl) (fun _ _ _ h => h) (Or.inl ⟨by rfl, ?_⟩) (by assumption) ?_
    rotate_left
    · intro w hSw
      go_simp
      try with_reducible rfl
    try simp only [Act.put, List.setIfInBounds_toArray, List.set_cons_zero, List.set_cons_succ]
    refine wpAnyH_take (i := 56) (oi := { dst := some 122, op := Op.pick (Operand.tmp 112) (Operand.tmp 121) (Operand.const (Value.bool false)), type := 4, pos := "law.go:75", after := #[{ on := 46, ground := Ground.data }, { on := 55, ground := Ground.data }], guard := none }) (v := ?_) rfl (by kernel_rfl) (by kernel_rfl) (by kernel_rfl) (fun _ _ _ h => h) (Or.inl ⟨by rfl, ?_⟩) (by assumption) ?_
    rotate_left
    · intro w hSw
      go_simp
      try with_reducible rfl
    try simp only [Act.put, List.setIfInBounds_toArray, List.set_cons_zero, List.set_cons_succ]
    refine wpAnyH_take (i := 57) (oi := { dst := some 123, op := Op.move (Operand.tmp 122), type := 4, pos := "law.go:75", after := #[{ on := 56, ground := Ground.data }, { on := 53, ground := Ground.chain }], guard := none }) (v := ?_) rfl (by kernel_rfl) (by kernel_rfl) (by kernel_rfl) (fun _ _ _ h => h) (Or.inl ⟨by rfl, ?_⟩) (by assumption) ?_
    rotate_left
    · intro w hSw
      go_simp
      try with_reducible rfl
    try simp only [Act.put, List.setIfInBounds_toArray, List.set_cons_zero, List.set_cons_succ]
    refine wpAnyH_ready (rs := [58]) (by kernel_rfl) (by simp) ?_
    refine AllReadyH.cons (o := { dst := some 124, op := Op.call { callee := Callee.value (Operand.func 20), args := #[], argTypes := #[] }, type := 4, pos := "law.go:75", after := #[{ on := 57, ground := Ground.chain }, { on := 57, ground := Ground.guard }], guard := some (57, true) }) rfl (fun K hK => ?_) AllReadyH.nil
    go_simp
    refine (wakes_any _).mono ?_
    rintro e V8 ⟨rfl, d8⟩
    have b8 : Below WB.heap.size WB V8 := b6.trans (d8.mono b6.size)
    go_wp2_with (fail)
    refine hK.out _ _ b8 (fun hHeld => ?_)
    clear hK K
    try simp only [Act.put, List.setIfInBounds_toArray, List.set_cons_zero, List.set_cons_succ]
    refine wpAnyH_take (i := 59) (oi := { dst := some 125, op := Op.pick (Operand.tmp 123) (Operand.tmp 124) (Operand.const (Value.bool false)), type := 4, pos := "law.go:75", after := #[{ on := 57, ground := Ground.data }, { on := 58, ground := Ground.data }], guard := none }) (v := ?_) rfl (by kernel_rfl) (by kernel_rfl) (by kernel_rfl) (fun _ _ _ h => h) (Or.inl ⟨by rfl, ?_⟩) (by assumption) ?_
    rotate_left
    · intro w hSw
      go_simp
      try with_reducible rfl
    try simp only [Act.put, List.setIfInBounds_toArray, List.set_cons_zero, List.set_cons_succ]
    refine wpAnyH_take (i := 60) (oi := { dst := some 6, op := Op.assign (Operand.tmp 125), type := 4, pos := "law.go:75", after := #[{ on := 59, ground := Ground.data }, { on := 58, ground := Ground.chain }, { on := 0, ground := Ground.phase }, { on := 1, ground := Ground.phase }, { on := 2, ground := Ground.phase }, { on := 3, ground := Ground.phase }, { on := 4, ground := Ground.phase }, { on := 5, ground := Ground.phase }, { on := 6, ground := Ground.phase }, { on := 7, ground := Ground.phase }, { on := 8, ground := Ground.phase }, { on := 9, ground := Ground.phase }, { on := 10, ground := Ground.phase }, { on := 11, ground := Ground.phase }, { on := 12, ground := Ground.phase }, { on := 13, ground := Ground.phase }, { on := 14, ground := Ground.phase }, { on := 15, ground := Ground.phase }, { on := 16, ground := Ground.phase }, { on := 17, ground := Ground.phase }, { on := 18, ground := Ground.phase }, { on := 19, ground := Ground.phase }, { on := 20, ground := Ground.phase }, { on := 21, ground := Ground.phase }, { on := 22, ground := Ground.phase }, { on := 23, ground := Ground.phase }, { on := 24, ground := Ground.phase }, { on := 25, ground := Ground.phase }, { on := 26, ground := Ground.phase }, { on := 27, ground := Ground.phase }, { on := 28, ground := Ground.phase }, { on := 29, ground := Ground.phase }, { on := 30, ground := Ground.phase }, { on := 31, ground := Ground.phase }, { on := 32, ground := Ground.phase }, { on := 33, ground := Ground.phase }, { on := 34, ground := Ground.phase }, { on := 35, ground := Ground.phase }, { on := 36, ground := Ground.phase }, { on := 37, ground := Ground.phase }, { on := 38, ground := Ground.phase }, { on := 39, ground := Ground.phase }, { on := 40, ground := Ground.phase }, { on := 41, ground := Ground.phase }, { on := 42, ground := Ground.phase }, { on := 43, ground := Ground.phase }, { on := 44, ground := Ground.phase }, { on := 45, ground := Ground.phase }, { on := 46, ground := Ground.phase }, { on := 47, ground := Ground.phase }, { on := 48, ground := Ground.phase }, { on := 49, ground := Ground.phase }, { on := 50, ground := Ground.phase }, { on := 51, ground := Ground.phase }, { on := 52, ground := Ground.phase }, { on := 53, ground := Ground.phase }, { on := 54, ground := Ground.phase }, { on := 55, ground := Ground.phase }, { on := 56, ground := Ground.phase }, { on := 57, ground := Ground.phase }, { on := 58, ground := Ground.phase }, { on := 59, ground := Ground.phase }], guard := none }) (v := ?_) rfl (by kernel_rfl) (by kernel_rfl) (by kernel_rfl) (fun _ _ _ h => h) (Or.inl ⟨by rfl, ?_⟩) (by assumption) ?_
    rotate_left
    · intro w hSw
      go_simp
      try with_reducible rfl
    try simp only [Act.put, List.setIfInBounds_toArray, List.set_cons_zero, List.set_cons_succ]
    refine wpAnyH_done (by kernel_rfl) ?_ _
    go_wp2
    go_ret
    exact ⟨rfl, HBB.out.trans (b8.mono HBB.out.size)⟩
  · cases pty
    · go_wp2_with (fail)
      refine wp_region_held_drew (S := fun w' => Below WB.heap.size WB w') (by kernel_rfl) bd (fun hHeld => ?_)
      refine wpAnyH_take (i := 0) (oi := { dst := some 66, op := Op.move (Operand.tmp 11), type := 4, pos := "law.go:75", after := #[], guard := none }) (v := ?_) rfl (by kernel_rfl) (by kernel_rfl) (by kernel_rfl) (fun _ _ _ h => h) (Or.inl ⟨by rfl, ?_⟩) (by assumption) ?_
      rotate_left
      · intro w hSw
        go_simp
        try with_reducible rfl
      try simp only [Act.put, List.setIfInBounds_toArray, List.set_cons_zero, List.set_cons_succ]
      refine wpAnyH_take (i := 1) (oi := { dst := some 67, op := Op.move (Operand.tmp 66), type := 4, pos := "law.go:75", after := #[{ on := 0, ground := Ground.data }], guard := none }) (v := ?_) rfl (by kernel_rfl) (by kernel_rfl) (by kernel_rfl) (fun _ _ _ h => h) (Or.inl ⟨by rfl, ?_⟩) (by assumption) ?_
      rotate_left
      · intro w hSw
        go_simp
        try with_reducible rfl
      try simp only [Act.put, List.setIfInBounds_toArray, List.set_cons_zero, List.set_cons_succ]
      refine wpAnyH_take (i := 2) (oi := { dst := some 68, op := Op.move (Operand.tmp 13), type := 4, pos := "law.go:75", after := #[{ on := 1, ground := Ground.guard }], guard := some (1, true) }) (v := ?_) rfl (by kernel_rfl) (by kernel_rfl) (by kernel_rfl) (fun _ _ _ h => h) (Or.inl ⟨by rfl, ?_⟩) (by assumption) ?_
      rotate_left
      · intro w hSw
        go_simp
        try with_reducible rfl
      try simp only [Act.put, List.setIfInBounds_toArray, List.set_cons_zero, List.set_cons_succ]
      refine wpAnyH_take (i := 3) (oi := { dst := some 69, op := Op.pick (Operand.tmp 67) (Operand.tmp 68) (Operand.const (Value.bool false)), type := 4, pos := "law.go:75", after := #[{ on := 1, ground := Ground.data }, { on := 2, ground := Ground.data }], guard := none }) (v := ?_) rfl (by kernel_rfl) (by kernel_rfl) (by kernel_rfl) (fun _ _ _ h => h) (Or.inl ⟨by rfl, ?_⟩) (by assumption) ?_
      rotate_left
      · intro w hSw
        go_simp
        try with_reducible rfl
      try simp only [Act.put, List.setIfInBounds_toArray, List.set_cons_zero, List.set_cons_succ]
      refine wpAnyH_take (i := 4) (oi := { dst := some 70, op := Op.move (Operand.tmp 69), type := 4, pos := "law.go:75", after := #[{ on := 3, ground := Ground.data }, { on := 1, ground := Ground.chain }], guard := none }) (v := ?_) rfl (by kernel_rfl) (by kernel_rfl) (by kernel_rfl) (fun _ _ _ h => h) (Or.inl ⟨by rfl, ?_⟩) (by assumption) ?_
      rotate_left
      · intro w hSw
        go_simp
        try with_reducible rfl
      try simp only [Act.put, List.setIfInBounds_toArray, List.set_cons_zero, List.set_cons_succ]
      refine wpAnyH_take (i := 5) (oi := { dst := some 71, op := Op.move (Operand.tmp 15), type := 4, pos := "law.go:75", after := #[{ on := 4, ground := Ground.guard }], guard := some (4, true) }) (v := ?_) rfl (by kernel_rfl) (by kernel_rfl) (by kernel_rfl) (fun _ _ _ h => h) (Or.inl ⟨by rfl, ?_⟩) (by assumption) ?_
      rotate_left
      · intro w hSw
        go_simp
        try with_reducible rfl
      try simp only [Act.put, List.setIfInBounds_toArray, List.set_cons_zero, List.set_cons_succ]
      refine wpAnyH_take (i := 6) (oi := { dst := some 72, op := Op.pick (Operand.tmp 70) (Operand.tmp 71) (Operand.const (Value.bool false)), type := 4, pos := "law.go:75", after := #[{ on := 4, ground := Ground.data }, { on := 5, ground := Ground.data }], guard := none }) (v := ?_) rfl (by kernel_rfl) (by kernel_rfl) (by kernel_rfl) (fun _ _ _ h => h) (Or.inl ⟨by rfl, ?_⟩) (by assumption) ?_
      rotate_left
      · intro w hSw
        go_simp
        try with_reducible rfl
      try simp only [Act.put, List.setIfInBounds_toArray, List.set_cons_zero, List.set_cons_succ]
      refine wpAnyH_take (i := 7) (oi := { dst := some 73, op := Op.move (Operand.tmp 72), type := 4, pos := "law.go:75", after := #[{ on := 6, ground := Ground.data }, { on := 4, ground := Ground.chain }], guard := none }) (v := ?_) rfl (by kernel_rfl) (by kernel_rfl) (by kernel_rfl) (fun _ _ _ h => h) (Or.inl ⟨by rfl, ?_⟩) (by assumption) ?_
      rotate_left
      · intro w hSw
        go_simp
        try with_reducible rfl
      try simp only [Act.put, List.setIfInBounds_toArray, List.set_cons_zero, List.set_cons_succ]
      refine wpAnyH_take (i := 8) (oi := { dst := some 74, op := Op.move (Operand.tmp 19), type := 4, pos := "law.go:75", after := #[{ on := 7, ground := Ground.guard }], guard := some (7, true) }) (v := ?_) rfl (by kernel_rfl) (by kernel_rfl) (by kernel_rfl) (fun _ _ _ h => h) (Or.inl ⟨by rfl, ?_⟩) (by assumption) ?_
      rotate_left
      · intro w hSw
        go_simp
        try with_reducible rfl
      try simp only [Act.put, List.setIfInBounds_toArray, List.set_cons_zero, List.set_cons_succ]
      refine wpAnyH_take (i := 9) (oi := { dst := some 75, op := Op.pick (Operand.tmp 73) (Operand.tmp 74) (Operand.const (Value.bool false)), type := 4, pos := "law.go:75", after := #[{ on := 7, ground := Ground.data }, { on := 8, ground := Ground.data }], guard := none }) (v := ?_) rfl (by kernel_rfl) (by kernel_rfl) (by kernel_rfl) (fun _ _ _ h => h) (Or.inl ⟨by rfl, ?_⟩) (by assumption) ?_
      rotate_left
      · intro w hSw
        go_simp
        try with_reducible rfl
      try simp only [Act.put, List.setIfInBounds_toArray, List.set_cons_zero, List.set_cons_succ]
      refine wpAnyH_take (i := 10) (oi := { dst := some 76, op := Op.move (Operand.tmp 75), type := 4, pos := "law.go:75", after := #[{ on := 9, ground := Ground.data }, { on := 7, ground := Ground.chain }], guard := none }) (v := ?_) rfl (by kernel_rfl) (by kernel_rfl) (by kernel_rfl) (fun _ _ _ h => h) (Or.inl ⟨by rfl, ?_⟩) (by assumption) ?_
      rotate_left
      · intro w hSw
        go_simp
        try with_reducible rfl
      try simp only [Act.put, List.setIfInBounds_toArray, List.set_cons_zero, List.set_cons_succ]
      refine wpAnyH_take (i := 11) (oi := { dst := some 77, op := Op.move (Operand.tmp 21), type := 4, pos := "law.go:75", after := #[{ on := 10, ground := Ground.guard }], guard := some (10, true) }) (v := ?_) rfl (by kernel_rfl) (by kernel_rfl) (by kernel_rfl) (fun _ _ _ h => h) (Or.inl ⟨by rfl, ?_⟩) (by assumption) ?_
      rotate_left
      · intro w hSw
        go_simp
        try with_reducible rfl
      try simp only [Act.put, List.setIfInBounds_toArray, List.set_cons_zero, List.set_cons_succ]
      refine wpAnyH_take (i := 12) (oi := { dst := some 78, op := Op.pick (Operand.tmp 76) (Operand.tmp 77) (Operand.const (Value.bool false)), type := 4, pos := "law.go:75", after := #[{ on := 10, ground := Ground.data }, { on := 11, ground := Ground.data }], guard := none }) (v := ?_) rfl (by kernel_rfl) (by kernel_rfl) (by kernel_rfl) (fun _ _ _ h => h) (Or.inl ⟨by rfl, ?_⟩) (by assumption) ?_
      rotate_left
      · intro w hSw
        go_simp
        try with_reducible rfl
      try simp only [Act.put, List.setIfInBounds_toArray, List.set_cons_zero, List.set_cons_succ]
      refine wpAnyH_take (i := 13) (oi := { dst := some 79, op := Op.move (Operand.tmp 78), type := 4, pos := "law.go:75", after := #[{ on := 12, ground := Ground.data }, { on := 10, ground := Ground.chain }], guard := none }) (v := ?_) rfl (by kernel_rfl) (by kernel_rfl) (by kernel_rfl) (fun _ _ _ h => h) (Or.inl ⟨by rfl, ?_⟩) (by assumption) ?_
      rotate_left
      · intro w hSw
        go_simp
        try with_reducible rfl
      try simp only [Act.put, List.setIfInBounds_toArray, List.set_cons_zero, List.set_cons_succ]
      refine wpAnyH_take (i := 14) (oi := { dst := some 80, op := Op.load 29 (Operand.tmp 10), type := 29, pos := "law.go:75", after := #[{ on := 13, ground := Ground.guard }], guard := some (13, true) }) (v := ?_) rfl (by kernel_rfl) (by kernel_rfl) (by kernel_rfl) (fun _ _ _ h => h) (Or.inl ⟨by rfl, ?_⟩) (by assumption) ?_
      rotate_left
      · intro w hSw
        have fp0 := (hSw.cell (p := ⟨gp, 0, none⟩) ltp).trans ep0
        have fp1 := (hSw.cell (p := ⟨gp, 1, none⟩) ltp).trans ep1
        have fq0 := (hSw.cell (p := ⟨gq, 0, none⟩) ltq).trans eq0
        have fq1 := (hSw.cell (p := ⟨gq, 1, none⟩) ltq).trans eq1
        have fl0 := (hSw.cell (p := ⟨gl, 0, none⟩) ltl).trans el0
        have fl1 := (hSw.cell (p := ⟨gl, 1, none⟩) ltl).trans el1
        have fr0 := (hSw.cell (p := ⟨gr, 0, none⟩) ltr).trans er0
        have fr1 := (hSw.cell (p := ⟨gr, 1, none⟩) ltr).trans er1
        have fx0 := (hSw.cell (p := ⟨g, 0, none⟩) ltx).trans ex0
        have fx1 := (hSw.cell (p := ⟨g, 1, none⟩) ltx).trans ex1
        have fy0 := (hSw.cell (p := ⟨g + 1, 0, none⟩) lty).trans ey0
        have fy1 := (hSw.cell (p := ⟨g + 1, 1, none⟩) lty).trans ey1
        go_simp
        try with_reducible rfl
      try simp only [Act.put, List.setIfInBounds_toArray, List.set_cons_zero, List.set_cons_succ]
      refine wpAnyH_take (i := 15) (oi := { dst := some 81, op := Op.load 29 (Operand.tmp 12), type := 29, pos := "law.go:75", after := #[{ on := 13, ground := Ground.guard }], guard := some (13, true) }) (v := ?_) rfl (by kernel_rfl) (by kernel_rfl) (by kernel_rfl) (fun _ _ _ h => h) (Or.inl ⟨by rfl, ?_⟩) (by assumption) ?_
      rotate_left
      · intro w hSw
        have fp0 := (hSw.cell (p := ⟨gp, 0, none⟩) ltp).trans ep0
        have fp1 := (hSw.cell (p := ⟨gp, 1, none⟩) ltp).trans ep1
        have fq0 := (hSw.cell (p := ⟨gq, 0, none⟩) ltq).trans eq0
        have fq1 := (hSw.cell (p := ⟨gq, 1, none⟩) ltq).trans eq1
        have fl0 := (hSw.cell (p := ⟨gl, 0, none⟩) ltl).trans el0
        have fl1 := (hSw.cell (p := ⟨gl, 1, none⟩) ltl).trans el1
        have fr0 := (hSw.cell (p := ⟨gr, 0, none⟩) ltr).trans er0
        have fr1 := (hSw.cell (p := ⟨gr, 1, none⟩) ltr).trans er1
        have fx0 := (hSw.cell (p := ⟨g, 0, none⟩) ltx).trans ex0
        have fx1 := (hSw.cell (p := ⟨g, 1, none⟩) ltx).trans ex1
        have fy0 := (hSw.cell (p := ⟨g + 1, 0, none⟩) lty).trans ey0
        have fy1 := (hSw.cell (p := ⟨g + 1, 1, none⟩) lty).trans ey1
        go_simp
        try with_reducible rfl
      try simp only [Act.put, List.setIfInBounds_toArray, List.set_cons_zero, List.set_cons_succ]
      refine wpAnyH_ready (rs := [16]) (by kernel_rfl) (by simp) ?_
      refine AllReadyH.cons (o := { dst := some 82, op := Op.call { callee := Callee.value (Operand.func 17), args := #[Operand.tmp 80, Operand.tmp 81], argTypes := #[29, 29] }, type := 4, pos := "law.go:75", after := #[{ on := 14, ground := Ground.data }, { on := 15, ground := Ground.data }, { on := 13, ground := Ground.chain }, { on := 13, ground := Ground.guard }], guard := some (13, true) }) rfl (fun K hK => ?_) AllReadyH.nil
      go_simp
      refine (Z1.out _ bd).mono ?_
      rintro e V10 ⟨rfl, d1⟩
      have b1 : Below WB.heap.size WB V10 := bd.trans (d1.mono bd.size)
      go_wp2_with (fail)
      refine hK.out _ _ b1 (fun hHeld => ?_)
      clear hK K
      try simp only [Act.put, List.setIfInBounds_toArray, List.set_cons_zero, List.set_cons_succ]
      refine wpAnyH_take (i := 17) (oi := { dst := some 83, op := Op.pick (Operand.tmp 79) (Operand.tmp 82) (Operand.const (Value.bool false)), type := 4, pos := "law.go:75", after := #[{ on := 13, ground := Ground.data }, { on := 16, ground := Ground.data }], guard := none }) (v := ?_) rfl (by kernel_rfl) (by kernel_rfl) (by kernel_rfl) (fun _ _ _ h => h) (Or.inl ⟨by rfl, ?_⟩) (by assumption) ?_
      rotate_left
      · intro w hSw
        go_simp
        try with_reducible rfl
      try simp only [Act.put, List.setIfInBounds_toArray, List.set_cons_zero, List.set_cons_succ]
      refine wpAnyH_take (i := 18) (oi := { dst := some 84, op := Op.move (Operand.tmp 83), type := 4, pos := "law.go:75", after := #[{ on := 17, ground := Ground.data }, { on := 16, ground := Ground.chain }], guard := none }) (v := ?_) rfl (by kernel_rfl) (by kernel_rfl) (by kernel_rfl) (fun _ _ _ h => h) (Or.inl ⟨by rfl, ?_⟩) (by assumption) ?_
      rotate_left
      · intro w hSw
        go_simp
        try with_reducible rfl
      try simp only [Act.put, List.setIfInBounds_toArray, List.set_cons_zero, List.set_cons_succ]
      refine wpAnyH_take (i := 19) (oi := { dst := some 85, op := Op.load 29 (Operand.tmp 14), type := 29, pos := "law.go:75", after := #[{ on := 18, ground := Ground.guard }], guard := some (18, true) }) (v := ?_) rfl (by kernel_rfl) (by kernel_rfl) (by kernel_rfl) (fun _ _ _ h => h) (Or.inl ⟨by rfl, ?_⟩) (by assumption) ?_
      rotate_left
      · intro w hSw
        have fp0 := (hSw.cell (p := ⟨gp, 0, none⟩) ltp).trans ep0
        have fp1 := (hSw.cell (p := ⟨gp, 1, none⟩) ltp).trans ep1
        have fq0 := (hSw.cell (p := ⟨gq, 0, none⟩) ltq).trans eq0
        have fq1 := (hSw.cell (p := ⟨gq, 1, none⟩) ltq).trans eq1
        have fl0 := (hSw.cell (p := ⟨gl, 0, none⟩) ltl).trans el0
        have fl1 := (hSw.cell (p := ⟨gl, 1, none⟩) ltl).trans el1
        have fr0 := (hSw.cell (p := ⟨gr, 0, none⟩) ltr).trans er0
        have fr1 := (hSw.cell (p := ⟨gr, 1, none⟩) ltr).trans er1
        have fx0 := (hSw.cell (p := ⟨g, 0, none⟩) ltx).trans ex0
        have fx1 := (hSw.cell (p := ⟨g, 1, none⟩) ltx).trans ex1
        have fy0 := (hSw.cell (p := ⟨g + 1, 0, none⟩) lty).trans ey0
        have fy1 := (hSw.cell (p := ⟨g + 1, 1, none⟩) lty).trans ey1
        go_simp
        try with_reducible rfl
      try simp only [Act.put, List.setIfInBounds_toArray, List.set_cons_zero, List.set_cons_succ]
      refine wpAnyH_take (i := 20) (oi := { dst := some 86, op := Op.load 29 (Operand.tmp 18), type := 29, pos := "law.go:75", after := #[{ on := 18, ground := Ground.guard }], guard := some (18, true) }) (v := ?_) rfl (by kernel_rfl) (by kernel_rfl) (by kernel_rfl) (fun _ _ _ h => h) (Or.inl ⟨by rfl, ?_⟩) (by assumption) ?_
      rotate_left
      · intro w hSw
        have fp0 := (hSw.cell (p := ⟨gp, 0, none⟩) ltp).trans ep0
        have fp1 := (hSw.cell (p := ⟨gp, 1, none⟩) ltp).trans ep1
        have fq0 := (hSw.cell (p := ⟨gq, 0, none⟩) ltq).trans eq0
        have fq1 := (hSw.cell (p := ⟨gq, 1, none⟩) ltq).trans eq1
        have fl0 := (hSw.cell (p := ⟨gl, 0, none⟩) ltl).trans el0
        have fl1 := (hSw.cell (p := ⟨gl, 1, none⟩) ltl).trans el1
        have fr0 := (hSw.cell (p := ⟨gr, 0, none⟩) ltr).trans er0
        have fr1 := (hSw.cell (p := ⟨gr, 1, none⟩) ltr).trans er1
        have fx0 := (hSw.cell (p := ⟨g, 0, none⟩) ltx).trans ex0
        have fx1 := (hSw.cell (p := ⟨g, 1, none⟩) ltx).trans ex1
        have fy0 := (hSw.cell (p := ⟨g + 1, 0, none⟩) lty).trans ey0
        have fy1 := (hSw.cell (p := ⟨g + 1, 1, none⟩) lty).trans ey1
        go_simp
        try with_reducible rfl
      try simp only [Act.put, List.setIfInBounds_toArray, List.set_cons_zero, List.set_cons_succ]
      refine wpAnyH_ready (rs := [21]) (by kernel_rfl) (by simp) ?_
      refine AllReadyH.cons (o := { dst := some 87, op := Op.call { callee := Callee.value (Operand.func 17), args := #[Operand.tmp 85, Operand.tmp 86], argTypes := #[29, 29] }, type := 4, pos := "law.go:75", after := #[{ on := 19, ground := Ground.data }, { on := 20, ground := Ground.data }, { on := 18, ground := Ground.chain }, { on := 18, ground := Ground.guard }], guard := some (18, true) }) rfl (fun K hK => ?_) AllReadyH.nil
      go_simp
      refine (Z2.out _ b1).mono ?_
      rintro e V20 ⟨rfl, d2⟩
      have b2 : Below WB.heap.size WB V20 := b1.trans (d2.mono b1.size)
      go_wp2_with (fail)
      refine hK.out _ _ b2 (fun hHeld => ?_)
      clear hK K
      try simp only [Act.put, List.setIfInBounds_toArray, List.set_cons_zero, List.set_cons_succ]
      refine wpAnyH_take (i := 22) (oi := { dst := some 88, op := Op.pick (Operand.tmp 84) (Operand.tmp 87) (Operand.const (Value.bool false)), type := 4, pos := "law.go:75", after := #[{ on := 18, ground := Ground.data }, { on := 21, ground := Ground.data }], guard := none }) (v := ?_) rfl (by kernel_rfl) (by kernel_rfl) (by kernel_rfl) (fun _ _ _ h => h) (Or.inl ⟨by rfl, ?_⟩) (by assumption) ?_
      rotate_left
      · intro w hSw
        go_simp
        try with_reducible rfl
      try simp only [Act.put, List.setIfInBounds_toArray, List.set_cons_zero, List.set_cons_succ]
      refine wpAnyH_take (i := 23) (oi := { dst := some 89, op := Op.move (Operand.tmp 88), type := 4, pos := "law.go:75", after := #[{ on := 22, ground := Ground.data }, { on := 21, ground := Ground.chain }], guard := none }) (v := ?_) rfl (by kernel_rfl) (by kernel_rfl) (by kernel_rfl) (fun _ _ _ h => h) (Or.inl ⟨by rfl, ?_⟩) (by assumption) ?_
      rotate_left
      · intro w hSw
        go_simp
        try with_reducible rfl
      try simp only [Act.put, List.setIfInBounds_toArray, List.set_cons_zero, List.set_cons_succ]
      refine wpAnyH_take (i := 24) (oi := { dst := some 90, op := Op.fieldAddr 29 (Operand.tmp 10) 0, type := 0, pos := "law.go:75", after := #[{ on := 23, ground := Ground.guard }], guard := some (23, true) }) (v := ?_) rfl (by kernel_rfl) (by kernel_rfl) (by kernel_rfl) (fun _ _ _ h => h) (Or.inl ⟨by rfl, ?_⟩) (by assumption) ?_
      rotate_left
      · intro w hSw
        go_simp
        try with_reducible rfl
      try simp only [Act.put, List.setIfInBounds_toArray, List.set_cons_zero, List.set_cons_succ]
      refine wpAnyH_take (i := 25) (oi := { dst := some 91, op := Op.load 26 (Operand.tmp 90), type := 26, pos := "law.go:75", after := #[{ on := 24, ground := Ground.data }, { on := 23, ground := Ground.guard }], guard := some (23, true) }) (v := ?_) rfl (by kernel_rfl) (by kernel_rfl) (by kernel_rfl) (fun _ _ _ h => h) (Or.inl ⟨by rfl, ?_⟩) (by assumption) ?_
      rotate_left
      · intro w hSw
        have fp0 := (hSw.cell (p := ⟨gp, 0, none⟩) ltp).trans ep0
        have fp1 := (hSw.cell (p := ⟨gp, 1, none⟩) ltp).trans ep1
        have fq0 := (hSw.cell (p := ⟨gq, 0, none⟩) ltq).trans eq0
        have fq1 := (hSw.cell (p := ⟨gq, 1, none⟩) ltq).trans eq1
        have fl0 := (hSw.cell (p := ⟨gl, 0, none⟩) ltl).trans el0
        have fl1 := (hSw.cell (p := ⟨gl, 1, none⟩) ltl).trans el1
        have fr0 := (hSw.cell (p := ⟨gr, 0, none⟩) ltr).trans er0
        have fr1 := (hSw.cell (p := ⟨gr, 1, none⟩) ltr).trans er1
        have fx0 := (hSw.cell (p := ⟨g, 0, none⟩) ltx).trans ex0
        have fx1 := (hSw.cell (p := ⟨g, 1, none⟩) ltx).trans ex1
        have fy0 := (hSw.cell (p := ⟨g + 1, 0, none⟩) lty).trans ey0
        have fy1 := (hSw.cell (p := ⟨g + 1, 1, none⟩) lty).trans ey1
        go_simp
        try with_reducible rfl
      try simp only [Act.put, List.setIfInBounds_toArray, List.set_cons_zero, List.set_cons_succ]
      refine wpAnyH_take (i := 26) (oi := { dst := some 92, op := Op.move (Operand.tmp 20), type := 26, pos := "law.go:75", after := #[{ on := 23, ground := Ground.guard }], guard := some (23, true) }) (v := ?_) rfl (by kernel_rfl) (by kernel_rfl) (by kernel_rfl) (fun _ _ _ h => h) (Or.inl ⟨by rfl, ?_⟩) (by assumption) ?_
      rotate_left
      · intro w hSw
        go_simp
        try with_reducible rfl
      try simp only [Act.put, List.setIfInBounds_toArray, List.set_cons_zero, List.set_cons_succ]
      refine wpAnyH_ready (rs := [27]) (by kernel_rfl) (by simp) ?_
      refine AllReadyH.cons (o := { dst := some 93, op := Op.call { callee := Callee.value (Operand.func 26), args := #[Operand.tmp 91, Operand.tmp 92], argTypes := #[22, 22] }, type := 4, pos := "law.go:75", after := #[{ on := 25, ground := Ground.data }, { on := 26, ground := Ground.data }, { on := 23, ground := Ground.chain }, { on := 23, ground := Ground.guard }], guard := some (23, true) }) rfl (fun K hK => ?_) AllReadyH.nil
      go_simp
      refine (Z3.out _ b2).mono ?_
      rintro e V30 ⟨rfl, d3⟩
      have b3 : Below WB.heap.size WB V30 := b2.trans (d3.mono b2.size)
      go_wp2_with (fail)
      refine hK.out _ _ b3 (fun hHeld => ?_)
      clear hK K
      try simp only [Act.put, List.setIfInBounds_toArray, List.set_cons_zero, List.set_cons_succ]
      refine wpAnyH_take (i := 28) (oi := { dst := some 94, op := Op.pick (Operand.tmp 89) (Operand.tmp 93) (Operand.const (Value.bool false)), type := 4, pos := "law.go:75", after := #[{ on := 23, ground := Ground.data }, { on := 27, ground := Ground.data }], guard := none }) (v := ?_) rfl (by kernel_rfl) (by kernel_rfl) (by kernel_rfl) (fun _ _ _ h => h) (Or.inl ⟨by rfl, ?_⟩) (by assumption) ?_
      rotate_left
      · intro w hSw
        go_simp
        try with_reducible rfl
      try simp only [Act.put, List.setIfInBounds_toArray, List.set_cons_zero, List.set_cons_succ]
      refine wpAnyH_take (i := 29) (oi := { dst := some 95, op := Op.move (Operand.tmp 94), type := 4, pos := "law.go:75", after := #[{ on := 28, ground := Ground.data }, { on := 27, ground := Ground.chain }], guard := none }) (v := ?_) rfl (by kernel_rfl) (by kernel_rfl) (by kernel_rfl) (fun _ _ _ h => h) (Or.inl ⟨by rfl, ?_⟩) (by assumption) ?_
      rotate_left
      · intro w hSw
        go_simp
        try with_reducible rfl
      try simp only [Act.put, List.setIfInBounds_toArray, List.set_cons_zero, List.set_cons_succ]
      refine wpAnyH_take (i := 30) (oi := { dst := some 96, op := Op.load 29 (Operand.tmp 10), type := 29, pos := "law.go:75", after := #[{ on := 29, ground := Ground.guard }], guard := some (29, true) }) (v := ?_) rfl (by kernel_rfl) (by kernel_rfl) (by kernel_rfl) (fun _ _ _ h => h) (Or.inl ⟨by rfl, ?_⟩) (by assumption) ?_
      rotate_left
      · intro w hSw
        have fp0 := (hSw.cell (p := ⟨gp, 0, none⟩) ltp).trans ep0
        have fp1 := (hSw.cell (p := ⟨gp, 1, none⟩) ltp).trans ep1
        have fq0 := (hSw.cell (p := ⟨gq, 0, none⟩) ltq).trans eq0
        have fq1 := (hSw.cell (p := ⟨gq, 1, none⟩) ltq).trans eq1
        have fl0 := (hSw.cell (p := ⟨gl, 0, none⟩) ltl).trans el0
        have fl1 := (hSw.cell (p := ⟨gl, 1, none⟩) ltl).trans el1
        have fr0 := (hSw.cell (p := ⟨gr, 0, none⟩) ltr).trans er0
        have fr1 := (hSw.cell (p := ⟨gr, 1, none⟩) ltr).trans er1
        have fx0 := (hSw.cell (p := ⟨g, 0, none⟩) ltx).trans ex0
        have fx1 := (hSw.cell (p := ⟨g, 1, none⟩) ltx).trans ex1
        have fy0 := (hSw.cell (p := ⟨g + 1, 0, none⟩) lty).trans ey0
        have fy1 := (hSw.cell (p := ⟨g + 1, 1, none⟩) lty).trans ey1
        go_simp
        try with_reducible rfl
      try simp only [Act.put, List.setIfInBounds_toArray, List.set_cons_zero, List.set_cons_succ]
      refine wpAnyH_ready (rs := [31]) (by kernel_rfl) (by simp) ?_
      refine AllReadyH.cons (o := { dst := some 97, op := Op.call { callee := Callee.value (Operand.func 13), args := #[Operand.tmp 96], argTypes := #[29] }, type := 4, pos := "law.go:75", after := #[{ on := 30, ground := Ground.data }, { on := 29, ground := Ground.chain }, { on := 29, ground := Ground.guard }], guard := some (29, true) }) rfl (fun K hK => ?_) AllReadyH.nil
      go_simp
      refine (Z4.out _ b3).mono ?_
      rintro e V40 ⟨rfl, d4⟩
      have b4 : Below WB.heap.size WB V40 := b3.trans (d4.mono b3.size)
      go_wp2_with (fail)
      refine hK.out _ _ b4 (fun hHeld => ?_)
      clear hK K
      try simp only [Act.put, List.setIfInBounds_toArray, List.set_cons_zero, List.set_cons_succ]
      refine wpAnyH_take (i := 32) (oi := { dst := some 98, op := Op.pick (Operand.tmp 95) (Operand.tmp 97) (Operand.const (Value.bool false)), type := 4, pos := "law.go:75", after := #[{ on := 29, ground := Ground.data }, { on := 31, ground := Ground.data }], guard := none }) (v := ?_) rfl (by kernel_rfl) (by kernel_rfl) (by kernel_rfl) (fun _ _ _ h => h) (Or.inl ⟨by rfl, ?_⟩) (by assumption) ?_
      rotate_left
      · intro w hSw
        go_simp
        try with_reducible rfl
      try simp only [Act.put, List.setIfInBounds_toArray, List.set_cons_zero, List.set_cons_succ]
      refine wpAnyH_take (i := 33) (oi := { dst := some 99, op := Op.move (Operand.tmp 98), type := 4, pos := "law.go:75", after := #[{ on := 32, ground := Ground.data }, { on := 31, ground := Ground.chain }], guard := none }) (v := ?_) rfl (by kernel_rfl) (by kernel_rfl) (by kernel_rfl) (fun _ _ _ h => h) (Or.inl ⟨by rfl, ?_⟩) (by assumption) ?_
      rotate_left
      · intro w hSw
        go_simp
        try with_reducible rfl
      try simp only [Act.put, List.setIfInBounds_toArray, List.set_cons_zero, List.set_cons_succ]
      refine wpAnyH_take (i := 34) (oi := { dst := some 100, op := Op.fieldAddr 29 (Operand.tmp 10) 1, type := 0, pos := "law.go:75", after := #[{ on := 33, ground := Ground.guard }], guard := some (33, true) }) (v := ?_) rfl (by kernel_rfl) (by kernel_rfl) (by kernel_rfl) (fun _ _ _ h => h) (Or.inl ⟨by rfl, ?_⟩) (by assumption) ?_
      rotate_left
      · intro w hSw
        go_simp
        try with_reducible rfl
      try simp only [Act.put, List.setIfInBounds_toArray, List.set_cons_zero, List.set_cons_succ]
      refine wpAnyH_take (i := 35) (oi := { dst := some 101, op := Op.load 27 (Operand.tmp 100), type := 27, pos := "law.go:75", after := #[{ on := 34, ground := Ground.data }, { on := 33, ground := Ground.guard }], guard := some (33, true) }) (v := ?_) rfl (by kernel_rfl) (by kernel_rfl) (by kernel_rfl) (fun _ _ _ h => h) (Or.inl ⟨by rfl, ?_⟩) (by assumption) ?_
      rotate_left
      · intro w hSw
        have fp0 := (hSw.cell (p := ⟨gp, 0, none⟩) ltp).trans ep0
        have fp1 := (hSw.cell (p := ⟨gp, 1, none⟩) ltp).trans ep1
        have fq0 := (hSw.cell (p := ⟨gq, 0, none⟩) ltq).trans eq0
        have fq1 := (hSw.cell (p := ⟨gq, 1, none⟩) ltq).trans eq1
        have fl0 := (hSw.cell (p := ⟨gl, 0, none⟩) ltl).trans el0
        have fl1 := (hSw.cell (p := ⟨gl, 1, none⟩) ltl).trans el1
        have fr0 := (hSw.cell (p := ⟨gr, 0, none⟩) ltr).trans er0
        have fr1 := (hSw.cell (p := ⟨gr, 1, none⟩) ltr).trans er1
        have fx0 := (hSw.cell (p := ⟨g, 0, none⟩) ltx).trans ex0
        have fx1 := (hSw.cell (p := ⟨g, 1, none⟩) ltx).trans ex1
        have fy0 := (hSw.cell (p := ⟨g + 1, 0, none⟩) lty).trans ey0
        have fy1 := (hSw.cell (p := ⟨g + 1, 1, none⟩) lty).trans ey1
        go_simp
        try with_reducible rfl
      try simp only [Act.put, List.setIfInBounds_toArray, List.set_cons_zero, List.set_cons_succ]
      refine wpAnyH_take (i := 36) (oi := { dst := some 102, op := Op.call { callee := Callee.builtin Builtin.len, args := #[Operand.tmp 101], argTypes := #[27] }, type := 3, pos := "law.go:75", after := #[{ on := 35, ground := Ground.data }, { on := 33, ground := Ground.guard }], guard := some (33, true) }) (v := ?_) rfl (by kernel_rfl) (by kernel_rfl) (by kernel_rfl) (fun _ _ _ h => h) (Or.inl ⟨by rfl, ?_⟩) (by assumption) ?_
      rotate_left
      · intro w hSw
        go_simp
        try with_reducible rfl
      try simp only [Act.put, List.setIfInBounds_toArray, List.set_cons_zero, List.set_cons_succ]
      refine wpAnyH_take (i := 37) (oi := { dst := some 103, op := Op.fieldAddr 29 (Operand.tmp 7) 1, type := 0, pos := "law.go:75", after := #[{ on := 33, ground := Ground.guard }], guard := some (33, true) }) (v := ?_) rfl (by kernel_rfl) (by kernel_rfl) (by kernel_rfl) (fun _ _ _ h => h) (Or.inl ⟨by rfl, ?_⟩) (by assumption) ?_
      rotate_left
      · intro w hSw
        go_simp
        try with_reducible rfl
      try simp only [Act.put, List.setIfInBounds_toArray, List.set_cons_zero, List.set_cons_succ]
      refine wpAnyH_take (i := 38) (oi := { dst := some 104, op := Op.load 27 (Operand.tmp 103), type := 27, pos := "law.go:75", after := #[{ on := 37, ground := Ground.data }, { on := 33, ground := Ground.guard }], guard := some (33, true) }) (v := ?_) rfl (by kernel_rfl) (by kernel_rfl) (by kernel_rfl) (fun _ _ _ h => h) (Or.inl ⟨by rfl, ?_⟩) (by assumption) ?_
      rotate_left
      · intro w hSw
        have fp0 := (hSw.cell (p := ⟨gp, 0, none⟩) ltp).trans ep0
        have fp1 := (hSw.cell (p := ⟨gp, 1, none⟩) ltp).trans ep1
        have fq0 := (hSw.cell (p := ⟨gq, 0, none⟩) ltq).trans eq0
        have fq1 := (hSw.cell (p := ⟨gq, 1, none⟩) ltq).trans eq1
        have fl0 := (hSw.cell (p := ⟨gl, 0, none⟩) ltl).trans el0
        have fl1 := (hSw.cell (p := ⟨gl, 1, none⟩) ltl).trans el1
        have fr0 := (hSw.cell (p := ⟨gr, 0, none⟩) ltr).trans er0
        have fr1 := (hSw.cell (p := ⟨gr, 1, none⟩) ltr).trans er1
        have fx0 := (hSw.cell (p := ⟨g, 0, none⟩) ltx).trans ex0
        have fx1 := (hSw.cell (p := ⟨g, 1, none⟩) ltx).trans ex1
        have fy0 := (hSw.cell (p := ⟨g + 1, 0, none⟩) lty).trans ey0
        have fy1 := (hSw.cell (p := ⟨g + 1, 1, none⟩) lty).trans ey1
        go_simp
        try with_reducible rfl
      try simp only [Act.put, List.setIfInBounds_toArray, List.set_cons_zero, List.set_cons_succ]
      refine wpAnyH_take (i := 39) (oi := { dst := some 105, op := Op.call { callee := Callee.builtin Builtin.len, args := #[Operand.tmp 104], argTypes := #[27] }, type := 3, pos := "law.go:75", after := #[{ on := 38, ground := Ground.data }, { on := 33, ground := Ground.guard }], guard := some (33, true) }) (v := ?_) rfl (by kernel_rfl) (by kernel_rfl) (by kernel_rfl) (fun _ _ _ h => h) (Or.inl ⟨by rfl, ?_⟩) (by assumption) ?_
      rotate_left
      · intro w hSw
        go_simp
        try with_reducible rfl
      try simp only [Act.put, List.setIfInBounds_toArray, List.set_cons_zero, List.set_cons_succ]
      refine wpAnyH_take (i := 40) (oi := { dst := some 106, op := Op.fieldAddr 29 (Operand.tmp 8) 1, type := 0, pos := "law.go:75", after := #[{ on := 33, ground := Ground.guard }], guard := some (33, true) }) (v := ?_) rfl (by kernel_rfl) (by kernel_rfl) (by kernel_rfl) (fun _ _ _ h => h) (Or.inl ⟨by rfl, ?_⟩) (by assumption) ?_
      rotate_left
      · intro w hSw
        go_simp
        try with_reducible rfl
      try simp only [Act.put, List.setIfInBounds_toArray, List.set_cons_zero, List.set_cons_succ]
      refine wpAnyH_take (i := 41) (oi := { dst := some 107, op := Op.load 27 (Operand.tmp 106), type := 27, pos := "law.go:75", after := #[{ on := 40, ground := Ground.data }, { on := 33, ground := Ground.guard }], guard := some (33, true) }) (v := ?_) rfl (by kernel_rfl) (by kernel_rfl) (by kernel_rfl) (fun _ _ _ h => h) (Or.inl ⟨by rfl, ?_⟩) (by assumption) ?_
      rotate_left
      · intro w hSw
        have fp0 := (hSw.cell (p := ⟨gp, 0, none⟩) ltp).trans ep0
        have fp1 := (hSw.cell (p := ⟨gp, 1, none⟩) ltp).trans ep1
        have fq0 := (hSw.cell (p := ⟨gq, 0, none⟩) ltq).trans eq0
        have fq1 := (hSw.cell (p := ⟨gq, 1, none⟩) ltq).trans eq1
        have fl0 := (hSw.cell (p := ⟨gl, 0, none⟩) ltl).trans el0
        have fl1 := (hSw.cell (p := ⟨gl, 1, none⟩) ltl).trans el1
        have fr0 := (hSw.cell (p := ⟨gr, 0, none⟩) ltr).trans er0
        have fr1 := (hSw.cell (p := ⟨gr, 1, none⟩) ltr).trans er1
        have fx0 := (hSw.cell (p := ⟨g, 0, none⟩) ltx).trans ex0
        have fx1 := (hSw.cell (p := ⟨g, 1, none⟩) ltx).trans ex1
        have fy0 := (hSw.cell (p := ⟨g + 1, 0, none⟩) lty).trans ey0
        have fy1 := (hSw.cell (p := ⟨g + 1, 1, none⟩) lty).trans ey1
        go_simp
        try with_reducible rfl
      try simp only [Act.put, List.setIfInBounds_toArray, List.set_cons_zero, List.set_cons_succ]
      refine wpAnyH_take (i := 42) (oi := { dst := some 108, op := Op.call { callee := Callee.builtin Builtin.len, args := #[Operand.tmp 107], argTypes := #[27] }, type := 3, pos := "law.go:75", after := #[{ on := 41, ground := Ground.data }, { on := 33, ground := Ground.guard }], guard := some (33, true) }) (v := ?_) rfl (by kernel_rfl) (by kernel_rfl) (by kernel_rfl) (fun _ _ _ h => h) (Or.inl ⟨by rfl, ?_⟩) (by assumption) ?_
      rotate_left
      · intro w hSw
        go_simp
        try with_reducible rfl
      try simp only [Act.put, List.setIfInBounds_toArray, List.set_cons_zero, List.set_cons_succ]
      refine wpAnyH_take (i := 43) (oi := { dst := some 109, op := Op.binOp BinOp.add 3 (Operand.tmp 105) (Operand.tmp 108) 3, type := 3, pos := "law.go:75", after := #[{ on := 39, ground := Ground.data }, { on := 42, ground := Ground.data }, { on := 33, ground := Ground.guard }], guard := some (33, true) }) (v := ?_) rfl (by kernel_rfl) (by kernel_rfl) (by kernel_rfl) (fun _ _ _ h => h) (Or.inl ⟨by rfl, ?_⟩) (by assumption) ?_
      rotate_left
      · intro w hSw
        go_simp
        try with_reducible rfl
      try simp only [Act.put, List.setIfInBounds_toArray, List.set_cons_zero, List.set_cons_succ]
      refine wpAnyH_take (i := 44) (oi := { dst := some 110, op := Op.binOp BinOp.leq 3 (Operand.tmp 102) (Operand.tmp 109) 3, type := 4, pos := "law.go:75", after := #[{ on := 36, ground := Ground.data }, { on := 43, ground := Ground.data }, { on := 33, ground := Ground.guard }], guard := some (33, true) }) (v := ?_) rfl (by kernel_rfl) (by kernel_rfl) (by kernel_rfl) (fun _ _ _ h => h) (Or.inl ⟨by rfl, ?_⟩) (by assumption) ?_
      rotate_left
      · intro w hSw
        go_simp
        try with_reducible rfl
      try simp only [Act.put, List.setIfInBounds_toArray, List.set_cons_zero, List.set_cons_succ]
      refine wpAnyH_take (i := 45) (oi := { dst := some 111, op := Op.pick (Operand.tmp 99) (Operand.tmp 110) (Operand.const (Value.bool false)), type := 4, pos := "law.go:75", after := #[{ on := 33, ground := Ground.data }, { on := 44, ground := Ground.data }], guard := none }) (v := ?_) rfl (by kernel_rfl) (by kernel_rfl) (by kernel_rfl) (fun _ _ _ h => h) (Or.inl ⟨by rfl, ?_⟩) (by assumption) ?_
      rotate_left
      · intro w hSw
        go_simp
        try with_reducible rfl
      try simp only [Act.put, List.setIfInBounds_toArray, List.set_cons_zero, List.set_cons_succ]
      refine wpAnyH_take (i := 46) (oi := { dst := some 112, op := Op.move (Operand.tmp 111), type := 4, pos := "law.go:75", after := #[{ on := 45, ground := Ground.data }, { on := 33, ground := Ground.chain }], guard := none }) (v := ?_) rfl (by kernel_rfl) (by kernel_rfl) (by kernel_rfl) (fun _ _ _ h => h) (Or.inl ⟨by rfl, ?_⟩) (by assumption) ?_
      rotate_left
      · intro w hSw
        go_simp
        try with_reducible rfl
      try simp only [Act.put, List.setIfInBounds_toArray, List.set_cons_zero, List.set_cons_succ]
      refine wpAnyH_take (i := 47) (oi := { dst := some 113, op := Op.load 29 (Operand.tmp 10), type := 29, pos := "law.go:75", after := #[{ on := 46, ground := Ground.guard }], guard := some (46, true) }) (v := ?_) rfl (by kernel_rfl) (by kernel_rfl) (by kernel_rfl) (fun _ _ _ h => h) (Or.inl ⟨by rfl, ?_⟩) (by assumption) ?_
      rotate_left
      · intro w hSw
        have fp0 := (hSw.cell (p := ⟨gp, 0, none⟩) ltp).trans ep0
        have fp1 := (hSw.cell (p := ⟨gp, 1, none⟩) ltp).trans ep1
        have fq0 := (hSw.cell (p := ⟨gq, 0, none⟩) ltq).trans eq0
        have fq1 := (hSw.cell (p := ⟨gq, 1, none⟩) ltq).trans eq1
        have fl0 := (hSw.cell (p := ⟨gl, 0, none⟩) ltl).trans el0
        have fl1 := (hSw.cell (p := ⟨gl, 1, none⟩) ltl).trans el1
        have fr0 := (hSw.cell (p := ⟨gr, 0, none⟩) ltr).trans er0
        have fr1 := (hSw.cell (p := ⟨gr, 1, none⟩) ltr).trans er1
        have fx0 := (hSw.cell (p := ⟨g, 0, none⟩) ltx).trans ex0
        have fx1 := (hSw.cell (p := ⟨g, 1, none⟩) ltx).trans ex1
        have fy0 := (hSw.cell (p := ⟨g + 1, 0, none⟩) lty).trans ey0
        have fy1 := (hSw.cell (p := ⟨g + 1, 1, none⟩) lty).trans ey1
        go_simp
        try with_reducible rfl
      try simp only [Act.put, List.setIfInBounds_toArray, List.set_cons_zero, List.set_cons_succ]
      refine wpAnyH_take (i := 49) (oi := { dst := some 115, op := Op.load 29 (Operand.tmp 7), type := 29, pos := "law.go:75", after := #[{ on := 46, ground := Ground.guard }], guard := some (46, true) }) (v := ?_) rfl (by kernel_rfl) (by kernel_rfl) (by kernel_rfl) (fun _ _ _ h => h) (Or.inl ⟨by rfl, ?_⟩) (by assumption) ?_
      rotate_left
      · intro w hSw
        have fp0 := (hSw.cell (p := ⟨gp, 0, none⟩) ltp).trans ep0
        have fp1 := (hSw.cell (p := ⟨gp, 1, none⟩) ltp).trans ep1
        have fq0 := (hSw.cell (p := ⟨gq, 0, none⟩) ltq).trans eq0
        have fq1 := (hSw.cell (p := ⟨gq, 1, none⟩) ltq).trans eq1
        have fl0 := (hSw.cell (p := ⟨gl, 0, none⟩) ltl).trans el0
        have fl1 := (hSw.cell (p := ⟨gl, 1, none⟩) ltl).trans el1
        have fr0 := (hSw.cell (p := ⟨gr, 0, none⟩) ltr).trans er0
        have fr1 := (hSw.cell (p := ⟨gr, 1, none⟩) ltr).trans er1
        have fx0 := (hSw.cell (p := ⟨g, 0, none⟩) ltx).trans ex0
        have fx1 := (hSw.cell (p := ⟨g, 1, none⟩) ltx).trans ex1
        have fy0 := (hSw.cell (p := ⟨g + 1, 0, none⟩) lty).trans ey0
        have fy1 := (hSw.cell (p := ⟨g + 1, 1, none⟩) lty).trans ey1
        go_simp
        try with_reducible rfl
      try simp only [Act.put, List.setIfInBounds_toArray, List.set_cons_zero, List.set_cons_succ]
      refine wpAnyH_ready (rs := [48]) (by kernel_rfl) (by simp) ?_
      refine AllReadyH.cons (o := { dst := some 114, op := Op.call { callee := Callee.value (Operand.func 15), args := #[Operand.tmp 113], argTypes := #[29] }, type := 4, pos := "law.go:75", after := #[{ on := 47, ground := Ground.data }, { on := 46, ground := Ground.chain }, { on := 46, ground := Ground.guard }], guard := some (46, true) }) rfl (fun K hK => ?_) AllReadyH.nil
      go_simp
      refine (ZP.out _ b4).mono ?_
      rintro e V50 ⟨rfl, d5⟩
      have b5 : Below WB.heap.size WB V50 := b4.trans (d5.mono b4.size)
      go_wp2_with (fail)
      refine hK.out _ _ b5 (fun hHeld => ?_)
      clear hK K
      try simp only [Act.put, List.setIfInBounds_toArray, List.set_cons_zero, List.set_cons_succ]
      refine wpAnyH_ready (rs := [50]) (by kernel_rfl) (by simp) ?_
      refine AllReadyH.cons (o := { dst := some 116, op := Op.call { callee := Callee.value (Operand.func 15), args := #[Operand.tmp 115], argTypes := #[29] }, type := 4, pos := "law.go:75", after := #[{ on := 49, ground := Ground.data }, { on := 48, ground := Ground.chain }, { on := 46, ground := Ground.guard }], guard := some (46, true) }) rfl (fun K hK => ?_) AllReadyH.nil
      go_simp
      refine (ZX.out _ b5).mono ?_
      rintro e V60 ⟨rfl, d6⟩
      have b6 : Below WB.heap.size WB V60 := b5.trans (d6.mono b5.size)
      go_wp2_with (fail)
      refine hK.out _ _ b6 (fun hHeld => ?_)
      clear hK K
      try simp only [Act.put, List.setIfInBounds_toArray, List.set_cons_zero, List.set_cons_succ]
      refine wpAnyH_take (i := 51) (oi := { dst := some 117, op := Op.move (Operand.tmp 116), type := 4, pos := "law.go:75", after := #[{ on := 50, ground := Ground.data }, { on := 50, ground := Ground.chain }, { on := 46, ground := Ground.guard }], guard := some (46, true) }) (v := ?_) rfl (by kernel_rfl) (by kernel_rfl) (by kernel_rfl) (fun _ _ _ h => h) (Or.inl ⟨by rfl, ?_⟩) (by assumption) ?_
      rotate_left
      · intro w hSw
        go_simp
        try with_reducible rfl
      try simp only [Act.put, List.setIfInBounds_toArray, List.set_cons_zero, List.set_cons_succ]
      refine wpAnyH_take (i := 52) (oi := { dst := some 118, op := Op.load 29 (Operand.tmp 8), type := 29, pos := "law.go:75", after := #[{ on := 51, ground := Ground.guard }], guard := some (51, true) }) (v := ?_) rfl (by kernel_rfl) (by kernel_rfl) (by kernel_rfl) (fun _ _ _ h => h) (Or.inl ⟨by rfl, ?_⟩) (by assumption) ?_
      rotate_left
      · intro w hSw
        have fp0 := (hSw.cell (p := ⟨gp, 0, none⟩) ltp).trans ep0
        have fp1 := (hSw.cell (p := ⟨gp, 1, none⟩) ltp).trans ep1
        have fq0 := (hSw.cell (p := ⟨gq, 0, none⟩) ltq).trans eq0
        have fq1 := (hSw.cell (p := ⟨gq, 1, none⟩) ltq).trans eq1
        have fl0 := (hSw.cell (p := ⟨gl, 0, none⟩) ltl).trans el0
        have fl1 := (hSw.cell (p := ⟨gl, 1, none⟩) ltl).trans el1
        have fr0 := (hSw.cell (p := ⟨gr, 0, none⟩) ltr).trans er0
        have fr1 := (hSw.cell (p := ⟨gr, 1, none⟩) ltr).trans er1
        have fx0 := (hSw.cell (p := ⟨g, 0, none⟩) ltx).trans ex0
        have fx1 := (hSw.cell (p := ⟨g, 1, none⟩) ltx).trans ex1
        have fy0 := (hSw.cell (p := ⟨g + 1, 0, none⟩) lty).trans ey0
        have fy1 := (hSw.cell (p := ⟨g + 1, 1, none⟩) lty).trans ey1
        go_simp
        try with_reducible rfl
      try simp only [Act.put, List.setIfInBounds_toArray, List.set_cons_zero, List.set_cons_succ]
      refine wpAnyH_ready (rs := [53]) (by kernel_rfl) (by simp) ?_
      refine AllReadyH.cons (o := { dst := some 119, op := Op.call { callee := Callee.value (Operand.func 15), args := #[Operand.tmp 118], argTypes := #[29] }, type := 4, pos := "law.go:75", after := #[{ on := 52, ground := Ground.data }, { on := 51, ground := Ground.chain }, { on := 51, ground := Ground.guard }], guard := some (51, true) }) rfl (fun K hK => ?_) AllReadyH.nil
      go_simp
      refine (ZY.out _ b6).mono ?_
      rintro e V70 ⟨rfl, d7⟩
      have b7 : Below WB.heap.size WB V70 := b6.trans (d7.mono b6.size)
      go_wp2_with (fail)
      refine hK.out _ _ b7 (fun hHeld => ?_)
      clear hK K
      try simp only [Act.put, List.setIfInBounds_toArray, List.set_cons_zero, List.set_cons_succ]
      refine wpAnyH_take (i := 54) (oi := { dst := some 120, op := Op.pick (Operand.tmp 117) (Operand.tmp 119) (Operand.const (Value.bool false)), type := 4, pos := "law.go:75", after := #[{ on := 51, ground := Ground.data }, { on := 53, ground := Ground.data }, { on := 46, ground := Ground.guard }], guard := some (46, true) }) (v := ?_) rfl (by kernel_rfl) (by kernel_rfl) (by kernel_rfl) (fun _ _ _ h => h) (Or.inl ⟨by rfl, ?_⟩) (by assumption) ?_
      rotate_left
      · intro w hSw
        go_simp
        try with_reducible rfl
      try simp only [Act.put, List.setIfInBounds_toArray, List.set_cons_zero, List.set_cons_succ]
      refine wpAnyH_take (i := 55) (oi := { dst := some 121, op := Op.binOp BinOp.eql 4 (Operand.tmp 114) (Operand.tmp 120) 4, type := 4, pos := "law.go:75", after := #[{ on := 48, ground := Ground.data }, { on := 54, ground := Ground.data }, { on := 46, ground := Ground.guard }], guard := some (46, true) }) (v := ?_) rfl (by kernel_rfl) (by kernel_rfl) (by kernel_rfl) (fun _ _ _ h => h) (Or.inl ⟨by rfl, ?_⟩) (by assumption) ?_
      rotate_left
      · intro w hSw
        go_simp
        try with_reducible rfl
      try simp only [Act.put, List.setIfInBounds_toArray, List.set_cons_zero, List.set_cons_succ]
      refine wpAnyH_take (i := 56) (oi := { dst := some 122, op := Op.pick (Operand.tmp 112) (Operand.tmp 121) (Operand.const (Value.bool false)), type := 4, pos := "law.go:75", after := #[{ on := 46, ground := Ground.data }, { on := 55, ground := Ground.data }], guard := none }) (v := ?_) rfl (by kernel_rfl) (by kernel_rfl) (by kernel_rfl) (fun _ _ _ h => h) (Or.inl ⟨by rfl, ?_⟩) (by assumption) ?_
      rotate_left
      · intro w hSw
        go_simp
        try with_reducible rfl
      try simp only [Act.put, List.setIfInBounds_toArray, List.set_cons_zero, List.set_cons_succ]
      refine wpAnyH_take (i := 57) (oi := { dst := some 123, op := Op.move (Operand.tmp 122), type := 4, pos := "law.go:75", after := #[{ on := 56, ground := Ground.data }, { on := 53, ground := Ground.chain }], guard := none }) (v := ?_) rfl (by kernel_rfl) (by kernel_rfl) (by kernel_rfl) (fun _ _ _ h => h) (Or.inl ⟨by rfl, ?_⟩) (by assumption) ?_
      rotate_left
      · intro w hSw
        go_simp
        try with_reducible rfl
      try simp only [Act.put, List.setIfInBounds_toArray, List.set_cons_zero, List.set_cons_succ]
      refine wpAnyH_ready (rs := [58]) (by kernel_rfl) (by simp) ?_
      refine AllReadyH.cons (o := { dst := some 124, op := Op.call { callee := Callee.value (Operand.func 20), args := #[], argTypes := #[] }, type := 4, pos := "law.go:75", after := #[{ on := 57, ground := Ground.chain }, { on := 57, ground := Ground.guard }], guard := some (57, true) }) rfl (fun K hK => ?_) AllReadyH.nil
      go_simp
      refine (wakes_any _).mono ?_
      rintro e V8 ⟨rfl, d8⟩
      have b8 : Below WB.heap.size WB V8 := b7.trans (d8.mono b7.size)
      go_wp2_with (fail)
      refine hK.out _ _ b8 (fun hHeld => ?_)
      clear hK K
      try simp only [Act.put, List.setIfInBounds_toArray, List.set_cons_zero, List.set_cons_succ]
      refine wpAnyH_take (i := 59) (oi := { dst := some 125, op := Op.pick (Operand.tmp 123) (Operand.tmp 124) (Operand.const (Value.bool false)), type := 4, pos := "law.go:75", after := #[{ on := 57, ground := Ground.data }, { on := 58, ground := Ground.data }], guard := none }) (v := ?_) rfl (by kernel_rfl) (by kernel_rfl) (by kernel_rfl) (fun _ _ _ h => h) (Or.inl ⟨by rfl, ?_⟩) (by assumption) ?_
      rotate_left
      · intro w hSw
        go_simp
        try with_reducible rfl
      try simp only [Act.put, List.setIfInBounds_toArray, List.set_cons_zero, List.set_cons_succ]
      refine wpAnyH_take (i := 60) (oi := { dst := some 6, op := Op.assign (Operand.tmp 125), type := 4, pos := "law.go:75", after := #[{ on := 59, ground := Ground.data }, { on := 58, ground := Ground.chain }, { on := 0, ground := Ground.phase }, { on := 1, ground := Ground.phase }, { on := 2, ground := Ground.phase }, { on := 3, ground := Ground.phase }, { on := 4, ground := Ground.phase }, { on := 5, ground := Ground.phase }, { on := 6, ground := Ground.phase }, { on := 7, ground := Ground.phase }, { on := 8, ground := Ground.phase }, { on := 9, ground := Ground.phase }, { on := 10, ground := Ground.phase }, { on := 11, ground := Ground.phase }, { on := 12, ground := Ground.phase }, { on := 13, ground := Ground.phase }, { on := 14, ground := Ground.phase }, { on := 15, ground := Ground.phase }, { on := 16, ground := Ground.phase }, { on := 17, ground := Ground.phase }, { on := 18, ground := Ground.phase }, { on := 19, ground := Ground.phase }, { on := 20, ground := Ground.phase }, { on := 21, ground := Ground.phase }, { on := 22, ground := Ground.phase }, { on := 23, ground := Ground.phase }, { on := 24, ground := Ground.phase }, { on := 25, ground := Ground.phase }, { on := 26, ground := Ground.phase }, { on := 27, ground := Ground.phase }, { on := 28, ground := Ground.phase }, { on := 29, ground := Ground.phase }, { on := 30, ground := Ground.phase }, { on := 31, ground := Ground.phase }, { on := 32, ground := Ground.phase }, { on := 33, ground := Ground.phase }, { on := 34, ground := Ground.phase }, { on := 35, ground := Ground.phase }, { on := 36, ground := Ground.phase }, { on := 37, ground := Ground.phase }, { on := 38, ground := Ground.phase }, { on := 39, ground := Ground.phase }, { on := 40, ground := Ground.phase }, { on := 41, ground := Ground.phase }, { on := 42, ground := Ground.phase }, { on := 43, ground := Ground.phase }, { on := 44, ground := Ground.phase }, { on := 45, ground := Ground.phase }, { on := 46, ground := Ground.phase }, { on := 47, ground := Ground.phase }, { on := 48, ground := Ground.phase }, { on := 49, ground := Ground.phase }, { on := 50, ground := Ground.phase }, { on := 51, ground := Ground.phase }, { on := 52, ground := Ground.phase }, { on := 53, ground := Ground.phase }, { on := 54, ground := Ground.phase }, { on := 55, ground := Ground.phase }, { on := 56, ground := Ground.phase }, { on := 57, ground := Ground.phase }, { on := 58, ground := Ground.phase }, { on := 59, ground := Ground.phase }], guard := none }) (v := ?_) rfl (by kernel_rfl) (by kernel_rfl) (by kernel_rfl) (fun _ _ _ h => h) (Or.inl ⟨by rfl, ?_⟩) (by assumption) ?_
      rotate_left
      · intro w hSw
        go_simp
        try with_reducible rfl
      try simp only [Act.put, List.setIfInBounds_toArray, List.set_cons_zero, List.set_cons_succ]
      refine wpAnyH_done (by kernel_rfl) ?_ _
      go_wp2
      go_ret
      exact ⟨rfl, HBB.out.trans (b8.mono HBB.out.size)⟩
    · go_wp2_with (fail)
      refine wp_region_held_drew (S := fun w' => Below WB.heap.size WB w') (by kernel_rfl) bd (fun hHeld => ?_)
      refine wpAnyH_take (i := 0) (oi := { dst := some 66, op := Op.move (Operand.tmp 11), type := 4, pos := "law.go:75", after := #[], guard := none }) (v := ?_) rfl (by kernel_rfl) (by kernel_rfl) (by kernel_rfl) (fun _ _ _ h => h) (Or.inl ⟨by rfl, ?_⟩) (by assumption) ?_
      rotate_left
      · intro w hSw
        go_simp
        try with_reducible rfl
      try simp only [Act.put, List.setIfInBounds_toArray, List.set_cons_zero, List.set_cons_succ]
      refine wpAnyH_take (i := 1) (oi := { dst := some 67, op := Op.move (Operand.tmp 66), type := 4, pos := "law.go:75", after := #[{ on := 0, ground := Ground.data }], guard := none }) (v := ?_) rfl (by kernel_rfl) (by kernel_rfl) (by kernel_rfl) (fun _ _ _ h => h) (Or.inl ⟨by rfl, ?_⟩) (by assumption) ?_
      rotate_left
      · intro w hSw
        go_simp
        try with_reducible rfl
      try simp only [Act.put, List.setIfInBounds_toArray, List.set_cons_zero, List.set_cons_succ]
      refine wpAnyH_take (i := 2) (oi := { dst := some 68, op := Op.move (Operand.tmp 13), type := 4, pos := "law.go:75", after := #[{ on := 1, ground := Ground.guard }], guard := some (1, true) }) (v := ?_) rfl (by kernel_rfl) (by kernel_rfl) (by kernel_rfl) (fun _ _ _ h => h) (Or.inl ⟨by rfl, ?_⟩) (by assumption) ?_
      rotate_left
      · intro w hSw
        go_simp
        try with_reducible rfl
      try simp only [Act.put, List.setIfInBounds_toArray, List.set_cons_zero, List.set_cons_succ]
      refine wpAnyH_take (i := 3) (oi := { dst := some 69, op := Op.pick (Operand.tmp 67) (Operand.tmp 68) (Operand.const (Value.bool false)), type := 4, pos := "law.go:75", after := #[{ on := 1, ground := Ground.data }, { on := 2, ground := Ground.data }], guard := none }) (v := ?_) rfl (by kernel_rfl) (by kernel_rfl) (by kernel_rfl) (fun _ _ _ h => h) (Or.inl ⟨by rfl, ?_⟩) (by assumption) ?_
      rotate_left
      · intro w hSw
        go_simp
        try with_reducible rfl
      try simp only [Act.put, List.setIfInBounds_toArray, List.set_cons_zero, List.set_cons_succ]
      refine wpAnyH_take (i := 4) (oi := { dst := some 70, op := Op.move (Operand.tmp 69), type := 4, pos := "law.go:75", after := #[{ on := 3, ground := Ground.data }, { on := 1, ground := Ground.chain }], guard := none }) (v := ?_) rfl (by kernel_rfl) (by kernel_rfl) (by kernel_rfl) (fun _ _ _ h => h) (Or.inl ⟨by rfl, ?_⟩) (by assumption) ?_
      rotate_left
      · intro w hSw
        go_simp
        try with_reducible rfl
      try simp only [Act.put, List.setIfInBounds_toArray, List.set_cons_zero, List.set_cons_succ]
      refine wpAnyH_take (i := 5) (oi := { dst := some 71, op := Op.move (Operand.tmp 15), type := 4, pos := "law.go:75", after := #[{ on := 4, ground := Ground.guard }], guard := some (4, true) }) (v := ?_) rfl (by kernel_rfl) (by kernel_rfl) (by kernel_rfl) (fun _ _ _ h => h) (Or.inl ⟨by rfl, ?_⟩) (by assumption) ?_
      rotate_left
      · intro w hSw
        go_simp
        try with_reducible rfl
      try simp only [Act.put, List.setIfInBounds_toArray, List.set_cons_zero, List.set_cons_succ]
      refine wpAnyH_take (i := 6) (oi := { dst := some 72, op := Op.pick (Operand.tmp 70) (Operand.tmp 71) (Operand.const (Value.bool false)), type := 4, pos := "law.go:75", after := #[{ on := 4, ground := Ground.data }, { on := 5, ground := Ground.data }], guard := none }) (v := ?_) rfl (by kernel_rfl) (by kernel_rfl) (by kernel_rfl) (fun _ _ _ h => h) (Or.inl ⟨by rfl, ?_⟩) (by assumption) ?_
      rotate_left
      · intro w hSw
        go_simp
        try with_reducible rfl
      try simp only [Act.put, List.setIfInBounds_toArray, List.set_cons_zero, List.set_cons_succ]
      refine wpAnyH_take (i := 7) (oi := { dst := some 73, op := Op.move (Operand.tmp 72), type := 4, pos := "law.go:75", after := #[{ on := 6, ground := Ground.data }, { on := 4, ground := Ground.chain }], guard := none }) (v := ?_) rfl (by kernel_rfl) (by kernel_rfl) (by kernel_rfl) (fun _ _ _ h => h) (Or.inl ⟨by rfl, ?_⟩) (by assumption) ?_
      rotate_left
      · intro w hSw
        go_simp
        try with_reducible rfl
      try simp only [Act.put, List.setIfInBounds_toArray, List.set_cons_zero, List.set_cons_succ]
      refine wpAnyH_take (i := 8) (oi := { dst := some 74, op := Op.move (Operand.tmp 19), type := 4, pos := "law.go:75", after := #[{ on := 7, ground := Ground.guard }], guard := some (7, true) }) (v := ?_) rfl (by kernel_rfl) (by kernel_rfl) (by kernel_rfl) (fun _ _ _ h => h) (Or.inl ⟨by rfl, ?_⟩) (by assumption) ?_
      rotate_left
      · intro w hSw
        go_simp
        try with_reducible rfl
      try simp only [Act.put, List.setIfInBounds_toArray, List.set_cons_zero, List.set_cons_succ]
      refine wpAnyH_take (i := 9) (oi := { dst := some 75, op := Op.pick (Operand.tmp 73) (Operand.tmp 74) (Operand.const (Value.bool false)), type := 4, pos := "law.go:75", after := #[{ on := 7, ground := Ground.data }, { on := 8, ground := Ground.data }], guard := none }) (v := ?_) rfl (by kernel_rfl) (by kernel_rfl) (by kernel_rfl) (fun _ _ _ h => h) (Or.inl ⟨by rfl, ?_⟩) (by assumption) ?_
      rotate_left
      · intro w hSw
        go_simp
        try with_reducible rfl
      try simp only [Act.put, List.setIfInBounds_toArray, List.set_cons_zero, List.set_cons_succ]
      refine wpAnyH_take (i := 10) (oi := { dst := some 76, op := Op.move (Operand.tmp 75), type := 4, pos := "law.go:75", after := #[{ on := 9, ground := Ground.data }, { on := 7, ground := Ground.chain }], guard := none }) (v := ?_) rfl (by kernel_rfl) (by kernel_rfl) (by kernel_rfl) (fun _ _ _ h => h) (Or.inl ⟨by rfl, ?_⟩) (by assumption) ?_
      rotate_left
      · intro w hSw
        go_simp
        try with_reducible rfl
      try simp only [Act.put, List.setIfInBounds_toArray, List.set_cons_zero, List.set_cons_succ]
      refine wpAnyH_take (i := 11) (oi := { dst := some 77, op := Op.move (Operand.tmp 21), type := 4, pos := "law.go:75", after := #[{ on := 10, ground := Ground.guard }], guard := some (10, true) }) (v := ?_) rfl (by kernel_rfl) (by kernel_rfl) (by kernel_rfl) (fun _ _ _ h => h) (Or.inl ⟨by rfl, ?_⟩) (by assumption) ?_
      rotate_left
      · intro w hSw
        go_simp
        try with_reducible rfl
      try simp only [Act.put, List.setIfInBounds_toArray, List.set_cons_zero, List.set_cons_succ]
      refine wpAnyH_take (i := 12) (oi := { dst := some 78, op := Op.pick (Operand.tmp 76) (Operand.tmp 77) (Operand.const (Value.bool false)), type := 4, pos := "law.go:75", after := #[{ on := 10, ground := Ground.data }, { on := 11, ground := Ground.data }], guard := none }) (v := ?_) rfl (by kernel_rfl) (by kernel_rfl) (by kernel_rfl) (fun _ _ _ h => h) (Or.inl ⟨by rfl, ?_⟩) (by assumption) ?_
      rotate_left
      · intro w hSw
        go_simp
        try with_reducible rfl
      try simp only [Act.put, List.setIfInBounds_toArray, List.set_cons_zero, List.set_cons_succ]
      refine wpAnyH_take (i := 13) (oi := { dst := some 79, op := Op.move (Operand.tmp 78), type := 4, pos := "law.go:75", after := #[{ on := 12, ground := Ground.data }, { on := 10, ground := Ground.chain }], guard := none }) (v := ?_) rfl (by kernel_rfl) (by kernel_rfl) (by kernel_rfl) (fun _ _ _ h => h) (Or.inl ⟨by rfl, ?_⟩) (by assumption) ?_
      rotate_left
      · intro w hSw
        go_simp
        try with_reducible rfl
      try simp only [Act.put, List.setIfInBounds_toArray, List.set_cons_zero, List.set_cons_succ]
      refine wpAnyH_take (i := 14) (oi := { dst := some 80, op := Op.load 29 (Operand.tmp 10), type := 29, pos := "law.go:75", after := #[{ on := 13, ground := Ground.guard }], guard := some (13, true) }) (v := ?_) rfl (by kernel_rfl) (by kernel_rfl) (by kernel_rfl) (fun _ _ _ h => h) (Or.inl ⟨by rfl, ?_⟩) (by assumption) ?_
      rotate_left
      · intro w hSw
        have fp0 := (hSw.cell (p := ⟨gp, 0, none⟩) ltp).trans ep0
        have fp1 := (hSw.cell (p := ⟨gp, 1, none⟩) ltp).trans ep1
        have fq0 := (hSw.cell (p := ⟨gq, 0, none⟩) ltq).trans eq0
        have fq1 := (hSw.cell (p := ⟨gq, 1, none⟩) ltq).trans eq1
        have fl0 := (hSw.cell (p := ⟨gl, 0, none⟩) ltl).trans el0
        have fl1 := (hSw.cell (p := ⟨gl, 1, none⟩) ltl).trans el1
        have fr0 := (hSw.cell (p := ⟨gr, 0, none⟩) ltr).trans er0
        have fr1 := (hSw.cell (p := ⟨gr, 1, none⟩) ltr).trans er1
        have fx0 := (hSw.cell (p := ⟨g, 0, none⟩) ltx).trans ex0
        have fx1 := (hSw.cell (p := ⟨g, 1, none⟩) ltx).trans ex1
        have fy0 := (hSw.cell (p := ⟨g + 1, 0, none⟩) lty).trans ey0
        have fy1 := (hSw.cell (p := ⟨g + 1, 1, none⟩) lty).trans ey1
        go_simp
        try with_reducible rfl
      try simp only [Act.put, List.setIfInBounds_toArray, List.set_cons_zero, List.set_cons_succ]
      refine wpAnyH_take (i := 15) (oi := { dst := some 81, op := Op.load 29 (Operand.tmp 12), type := 29, pos := "law.go:75", after := #[{ on := 13, ground := Ground.guard }], guard := some (13, true) }) (v := ?_) rfl (by kernel_rfl) (by kernel_rfl) (by kernel_rfl) (fun _ _ _ h => h) (Or.inl ⟨by rfl, ?_⟩) (by assumption) ?_
      rotate_left
      · intro w hSw
        have fp0 := (hSw.cell (p := ⟨gp, 0, none⟩) ltp).trans ep0
        have fp1 := (hSw.cell (p := ⟨gp, 1, none⟩) ltp).trans ep1
        have fq0 := (hSw.cell (p := ⟨gq, 0, none⟩) ltq).trans eq0
        have fq1 := (hSw.cell (p := ⟨gq, 1, none⟩) ltq).trans eq1
        have fl0 := (hSw.cell (p := ⟨gl, 0, none⟩) ltl).trans el0
        have fl1 := (hSw.cell (p := ⟨gl, 1, none⟩) ltl).trans el1
        have fr0 := (hSw.cell (p := ⟨gr, 0, none⟩) ltr).trans er0
        have fr1 := (hSw.cell (p := ⟨gr, 1, none⟩) ltr).trans er1
        have fx0 := (hSw.cell (p := ⟨g, 0, none⟩) ltx).trans ex0
        have fx1 := (hSw.cell (p := ⟨g, 1, none⟩) ltx).trans ex1
        have fy0 := (hSw.cell (p := ⟨g + 1, 0, none⟩) lty).trans ey0
        have fy1 := (hSw.cell (p := ⟨g + 1, 1, none⟩) lty).trans ey1
        go_simp
        try with_reducible rfl
      try simp only [Act.put, List.setIfInBounds_toArray, List.set_cons_zero, List.set_cons_succ]
      refine wpAnyH_ready (rs := [16]) (by kernel_rfl) (by simp) ?_
      refine AllReadyH.cons (o := { dst := some 82, op := Op.call { callee := Callee.value (Operand.func 17), args := #[Operand.tmp 80, Operand.tmp 81], argTypes := #[29, 29] }, type := 4, pos := "law.go:75", after := #[{ on := 14, ground := Ground.data }, { on := 15, ground := Ground.data }, { on := 13, ground := Ground.chain }, { on := 13, ground := Ground.guard }], guard := some (13, true) }) rfl (fun K hK => ?_) AllReadyH.nil
      go_simp
      refine (Z1.out _ bd).mono ?_
      rintro e V10 ⟨rfl, d1⟩
      have b1 : Below WB.heap.size WB V10 := bd.trans (d1.mono bd.size)
      go_wp2_with (fail)
      refine hK.out _ _ b1 (fun hHeld => ?_)
      clear hK K
      try simp only [Act.put, List.setIfInBounds_toArray, List.set_cons_zero, List.set_cons_succ]
      refine wpAnyH_take (i := 17) (oi := { dst := some 83, op := Op.pick (Operand.tmp 79) (Operand.tmp 82) (Operand.const (Value.bool false)), type := 4, pos := "law.go:75", after := #[{ on := 13, ground := Ground.data }, { on := 16, ground := Ground.data }], guard := none }) (v := ?_) rfl (by kernel_rfl) (by kernel_rfl) (by kernel_rfl) (fun _ _ _ h => h) (Or.inl ⟨by rfl, ?_⟩) (by assumption) ?_
      rotate_left
      · intro w hSw
        go_simp
        try with_reducible rfl
      try simp only [Act.put, List.setIfInBounds_toArray, List.set_cons_zero, List.set_cons_succ]
      refine wpAnyH_take (i := 18) (oi := { dst := some 84, op := Op.move (Operand.tmp 83), type := 4, pos := "law.go:75", after := #[{ on := 17, ground := Ground.data }, { on := 16, ground := Ground.chain }], guard := none }) (v := ?_) rfl (by kernel_rfl) (by kernel_rfl) (by kernel_rfl) (fun _ _ _ h => h) (Or.inl ⟨by rfl, ?_⟩) (by assumption) ?_
      rotate_left
      · intro w hSw
        go_simp
        try with_reducible rfl
      try simp only [Act.put, List.setIfInBounds_toArray, List.set_cons_zero, List.set_cons_succ]
      refine wpAnyH_take (i := 19) (oi := { dst := some 85, op := Op.load 29 (Operand.tmp 14), type := 29, pos := "law.go:75", after := #[{ on := 18, ground := Ground.guard }], guard := some (18, true) }) (v := ?_) rfl (by kernel_rfl) (by kernel_rfl) (by kernel_rfl) (fun _ _ _ h => h) (Or.inl ⟨by rfl, ?_⟩) (by assumption) ?_
      rotate_left
      · intro w hSw
        have fp0 := (hSw.cell (p := ⟨gp, 0, none⟩) ltp).trans ep0
        have fp1 := (hSw.cell (p := ⟨gp, 1, none⟩) ltp).trans ep1
        have fq0 := (hSw.cell (p := ⟨gq, 0, none⟩) ltq).trans eq0
        have fq1 := (hSw.cell (p := ⟨gq, 1, none⟩) ltq).trans eq1
        have fl0 := (hSw.cell (p := ⟨gl, 0, none⟩) ltl).trans el0
        have fl1 := (hSw.cell (p := ⟨gl, 1, none⟩) ltl).trans el1
        have fr0 := (hSw.cell (p := ⟨gr, 0, none⟩) ltr).trans er0
        have fr1 := (hSw.cell (p := ⟨gr, 1, none⟩) ltr).trans er1
        have fx0 := (hSw.cell (p := ⟨g, 0, none⟩) ltx).trans ex0
        have fx1 := (hSw.cell (p := ⟨g, 1, none⟩) ltx).trans ex1
        have fy0 := (hSw.cell (p := ⟨g + 1, 0, none⟩) lty).trans ey0
        have fy1 := (hSw.cell (p := ⟨g + 1, 1, none⟩) lty).trans ey1
        go_simp
        try with_reducible rfl
      try simp only [Act.put, List.setIfInBounds_toArray, List.set_cons_zero, List.set_cons_succ]
      refine wpAnyH_take (i := 20) (oi := { dst := some 86, op := Op.load 29 (Operand.tmp 18), type := 29, pos := "law.go:75", after := #[{ on := 18, ground := Ground.guard }], guard := some (18, true) }) (v := ?_) rfl (by kernel_rfl) (by kernel_rfl) (by kernel_rfl) (fun _ _ _ h => h) (Or.inl ⟨by rfl, ?_⟩) (by assumption) ?_
      rotate_left
      · intro w hSw
        have fp0 := (hSw.cell (p := ⟨gp, 0, none⟩) ltp).trans ep0
        have fp1 := (hSw.cell (p := ⟨gp, 1, none⟩) ltp).trans ep1
        have fq0 := (hSw.cell (p := ⟨gq, 0, none⟩) ltq).trans eq0
        have fq1 := (hSw.cell (p := ⟨gq, 1, none⟩) ltq).trans eq1
        have fl0 := (hSw.cell (p := ⟨gl, 0, none⟩) ltl).trans el0
        have fl1 := (hSw.cell (p := ⟨gl, 1, none⟩) ltl).trans el1
        have fr0 := (hSw.cell (p := ⟨gr, 0, none⟩) ltr).trans er0
        have fr1 := (hSw.cell (p := ⟨gr, 1, none⟩) ltr).trans er1
        have fx0 := (hSw.cell (p := ⟨g, 0, none⟩) ltx).trans ex0
        have fx1 := (hSw.cell (p := ⟨g, 1, none⟩) ltx).trans ex1
        have fy0 := (hSw.cell (p := ⟨g + 1, 0, none⟩) lty).trans ey0
        have fy1 := (hSw.cell (p := ⟨g + 1, 1, none⟩) lty).trans ey1
        go_simp
        try with_reducible rfl
      try simp only [Act.put, List.setIfInBounds_toArray, List.set_cons_zero, List.set_cons_succ]
      refine wpAnyH_ready (rs := [21]) (by kernel_rfl) (by simp) ?_
      refine AllReadyH.cons (o := { dst := some 87, op := Op.call { callee := Callee.value (Operand.func 17), args := #[Operand.tmp 85, Operand.tmp 86], argTypes := #[29, 29] }, type := 4, pos := "law.go:75", after := #[{ on := 19, ground := Ground.data }, { on := 20, ground := Ground.data }, { on := 18, ground := Ground.chain }, { on := 18, ground := Ground.guard }], guard := some (18, true) }) rfl (fun K hK => ?_) AllReadyH.nil
      go_simp
      refine (Z2.out _ b1).mono ?_
      rintro e V20 ⟨rfl, d2⟩
      have b2 : Below WB.heap.size WB V20 := b1.trans (d2.mono b1.size)
      go_wp2_with (fail)
      refine hK.out _ _ b2 (fun hHeld => ?_)
      clear hK K
      try simp only [Act.put, List.setIfInBounds_toArray, List.set_cons_zero, List.set_cons_succ]
      refine wpAnyH_take (i := 22) (oi := { dst := some 88, op := Op.pick (Operand.tmp 84) (Operand.tmp 87) (Operand.const (Value.bool false)), type := 4, pos := "law.go:75", after := #[{ on := 18, ground := Ground.data }, { on := 21, ground := Ground.data }], guard := none }) (v := ?_) rfl (by kernel_rfl) (by kernel_rfl) (by kernel_rfl) (fun _ _ _ h => h) (Or.inl ⟨by rfl, ?_⟩) (by assumption) ?_
      rotate_left
      · intro w hSw
        go_simp
        try with_reducible rfl
      try simp only [Act.put, List.setIfInBounds_toArray, List.set_cons_zero, List.set_cons_succ]
      refine wpAnyH_take (i := 23) (oi := { dst := some 89, op := Op.move (Operand.tmp 88), type := 4, pos := "law.go:75", after := #[{ on := 22, ground := Ground.data }, { on := 21, ground := Ground.chain }], guard := none }) (v := ?_) rfl (by kernel_rfl) (by kernel_rfl) (by kernel_rfl) (fun _ _ _ h => h) (Or.inl ⟨by rfl, ?_⟩) (by assumption) ?_
      rotate_left
      · intro w hSw
        go_simp
        try with_reducible rfl
      try simp only [Act.put, List.setIfInBounds_toArray, List.set_cons_zero, List.set_cons_succ]
      refine wpAnyH_take (i := 24) (oi := { dst := some 90, op := Op.fieldAddr 29 (Operand.tmp 10) 0, type := 0, pos := "law.go:75", after := #[{ on := 23, ground := Ground.guard }], guard := some (23, true) }) (v := ?_) rfl (by kernel_rfl) (by kernel_rfl) (by kernel_rfl) (fun _ _ _ h => h) (Or.inl ⟨by rfl, ?_⟩) (by assumption) ?_
      rotate_left
      · intro w hSw
        go_simp
        try with_reducible rfl
      try simp only [Act.put, List.setIfInBounds_toArray, List.set_cons_zero, List.set_cons_succ]
      refine wpAnyH_take (i := 25) (oi := { dst := some 91, op := Op.load 26 (Operand.tmp 90), type := 26, pos := "law.go:75", after := #[{ on := 24, ground := Ground.data }, { on := 23, ground := Ground.guard }], guard := some (23, true) }) (v := ?_) rfl (by kernel_rfl) (by kernel_rfl) (by kernel_rfl) (fun _ _ _ h => h) (Or.inl ⟨by rfl, ?_⟩) (by assumption) ?_
      rotate_left
      · intro w hSw
        have fp0 := (hSw.cell (p := ⟨gp, 0, none⟩) ltp).trans ep0
        have fp1 := (hSw.cell (p := ⟨gp, 1, none⟩) ltp).trans ep1
        have fq0 := (hSw.cell (p := ⟨gq, 0, none⟩) ltq).trans eq0
        have fq1 := (hSw.cell (p := ⟨gq, 1, none⟩) ltq).trans eq1
        have fl0 := (hSw.cell (p := ⟨gl, 0, none⟩) ltl).trans el0
        have fl1 := (hSw.cell (p := ⟨gl, 1, none⟩) ltl).trans el1
        have fr0 := (hSw.cell (p := ⟨gr, 0, none⟩) ltr).trans er0
        have fr1 := (hSw.cell (p := ⟨gr, 1, none⟩) ltr).trans er1
        have fx0 := (hSw.cell (p := ⟨g, 0, none⟩) ltx).trans ex0
        have fx1 := (hSw.cell (p := ⟨g, 1, none⟩) ltx).trans ex1
        have fy0 := (hSw.cell (p := ⟨g + 1, 0, none⟩) lty).trans ey0
        have fy1 := (hSw.cell (p := ⟨g + 1, 1, none⟩) lty).trans ey1
        go_simp
        try with_reducible rfl
      try simp only [Act.put, List.setIfInBounds_toArray, List.set_cons_zero, List.set_cons_succ]
      refine wpAnyH_take (i := 26) (oi := { dst := some 92, op := Op.move (Operand.tmp 20), type := 26, pos := "law.go:75", after := #[{ on := 23, ground := Ground.guard }], guard := some (23, true) }) (v := ?_) rfl (by kernel_rfl) (by kernel_rfl) (by kernel_rfl) (fun _ _ _ h => h) (Or.inl ⟨by rfl, ?_⟩) (by assumption) ?_
      rotate_left
      · intro w hSw
        go_simp
        try with_reducible rfl
      try simp only [Act.put, List.setIfInBounds_toArray, List.set_cons_zero, List.set_cons_succ]
      refine wpAnyH_ready (rs := [27]) (by kernel_rfl) (by simp) ?_
      refine AllReadyH.cons (o := { dst := some 93, op := Op.call { callee := Callee.value (Operand.func 26), args := #[Operand.tmp 91, Operand.tmp 92], argTypes := #[22, 22] }, type := 4, pos := "law.go:75", after := #[{ on := 25, ground := Ground.data }, { on := 26, ground := Ground.data }, { on := 23, ground := Ground.chain }, { on := 23, ground := Ground.guard }], guard := some (23, true) }) rfl (fun K hK => ?_) AllReadyH.nil
      go_simp
      refine (Z3.out _ b2).mono ?_
      rintro e V30 ⟨rfl, d3⟩
      have b3 : Below WB.heap.size WB V30 := b2.trans (d3.mono b2.size)
      go_wp2_with (fail)
      refine hK.out _ _ b3 (fun hHeld => ?_)
      clear hK K
      try simp only [Act.put, List.setIfInBounds_toArray, List.set_cons_zero, List.set_cons_succ]
      refine wpAnyH_take (i := 28) (oi := { dst := some 94, op := Op.pick (Operand.tmp 89) (Operand.tmp 93) (Operand.const (Value.bool false)), type := 4, pos := "law.go:75", after := #[{ on := 23, ground := Ground.data }, { on := 27, ground := Ground.data }], guard := none }) (v := ?_) rfl (by kernel_rfl) (by kernel_rfl) (by kernel_rfl) (fun _ _ _ h => h) (Or.inl ⟨by rfl, ?_⟩) (by assumption) ?_
      rotate_left
      · intro w hSw
        go_simp
        try with_reducible rfl
      try simp only [Act.put, List.setIfInBounds_toArray, List.set_cons_zero, List.set_cons_succ]
      refine wpAnyH_take (i := 29) (oi := { dst := some 95, op := Op.move (Operand.tmp 94), type := 4, pos := "law.go:75", after := #[{ on := 28, ground := Ground.data }, { on := 27, ground := Ground.chain }], guard := none }) (v := ?_) rfl (by kernel_rfl) (by kernel_rfl) (by kernel_rfl) (fun _ _ _ h => h) (Or.inl ⟨by rfl, ?_⟩) (by assumption) ?_
      rotate_left
      · intro w hSw
        go_simp
        try with_reducible rfl
      try simp only [Act.put, List.setIfInBounds_toArray, List.set_cons_zero, List.set_cons_succ]
      refine wpAnyH_take (i := 30) (oi := { dst := some 96, op := Op.load 29 (Operand.tmp 10), type := 29, pos := "law.go:75", after := #[{ on := 29, ground := Ground.guard }], guard := some (29, true) }) (v := ?_) rfl (by kernel_rfl) (by kernel_rfl) (by kernel_rfl) (fun _ _ _ h => h) (Or.inl ⟨by rfl, ?_⟩) (by assumption) ?_
      rotate_left
      · intro w hSw
        have fp0 := (hSw.cell (p := ⟨gp, 0, none⟩) ltp).trans ep0
        have fp1 := (hSw.cell (p := ⟨gp, 1, none⟩) ltp).trans ep1
        have fq0 := (hSw.cell (p := ⟨gq, 0, none⟩) ltq).trans eq0
        have fq1 := (hSw.cell (p := ⟨gq, 1, none⟩) ltq).trans eq1
        have fl0 := (hSw.cell (p := ⟨gl, 0, none⟩) ltl).trans el0
        have fl1 := (hSw.cell (p := ⟨gl, 1, none⟩) ltl).trans el1
        have fr0 := (hSw.cell (p := ⟨gr, 0, none⟩) ltr).trans er0
        have fr1 := (hSw.cell (p := ⟨gr, 1, none⟩) ltr).trans er1
        have fx0 := (hSw.cell (p := ⟨g, 0, none⟩) ltx).trans ex0
        have fx1 := (hSw.cell (p := ⟨g, 1, none⟩) ltx).trans ex1
        have fy0 := (hSw.cell (p := ⟨g + 1, 0, none⟩) lty).trans ey0
        have fy1 := (hSw.cell (p := ⟨g + 1, 1, none⟩) lty).trans ey1
        go_simp
        try with_reducible rfl
      try simp only [Act.put, List.setIfInBounds_toArray, List.set_cons_zero, List.set_cons_succ]
      refine wpAnyH_ready (rs := [31]) (by kernel_rfl) (by simp) ?_
      refine AllReadyH.cons (o := { dst := some 97, op := Op.call { callee := Callee.value (Operand.func 13), args := #[Operand.tmp 96], argTypes := #[29] }, type := 4, pos := "law.go:75", after := #[{ on := 30, ground := Ground.data }, { on := 29, ground := Ground.chain }, { on := 29, ground := Ground.guard }], guard := some (29, true) }) rfl (fun K hK => ?_) AllReadyH.nil
      go_simp
      refine (Z4.out _ b3).mono ?_
      rintro e V40 ⟨rfl, d4⟩
      have b4 : Below WB.heap.size WB V40 := b3.trans (d4.mono b3.size)
      go_wp2_with (fail)
      refine hK.out _ _ b4 (fun hHeld => ?_)
      clear hK K
      try simp only [Act.put, List.setIfInBounds_toArray, List.set_cons_zero, List.set_cons_succ]
      refine wpAnyH_take (i := 32) (oi := { dst := some 98, op := Op.pick (Operand.tmp 95) (Operand.tmp 97) (Operand.const (Value.bool false)), type := 4, pos := "law.go:75", after := #[{ on := 29, ground := Ground.data }, { on := 31, ground := Ground.data }], guard := none }) (v := ?_) rfl (by kernel_rfl) (by kernel_rfl) (by kernel_rfl) (fun _ _ _ h => h) (Or.inl ⟨by rfl, ?_⟩) (by assumption) ?_
      rotate_left
      · intro w hSw
        go_simp
        try with_reducible rfl
      try simp only [Act.put, List.setIfInBounds_toArray, List.set_cons_zero, List.set_cons_succ]
      refine wpAnyH_take (i := 33) (oi := { dst := some 99, op := Op.move (Operand.tmp 98), type := 4, pos := "law.go:75", after := #[{ on := 32, ground := Ground.data }, { on := 31, ground := Ground.chain }], guard := none }) (v := ?_) rfl (by kernel_rfl) (by kernel_rfl) (by kernel_rfl) (fun _ _ _ h => h) (Or.inl ⟨by rfl, ?_⟩) (by assumption) ?_
      rotate_left
      · intro w hSw
        go_simp
        try with_reducible rfl
      try simp only [Act.put, List.setIfInBounds_toArray, List.set_cons_zero, List.set_cons_succ]
      refine wpAnyH_take (i := 34) (oi := { dst := some 100, op := Op.fieldAddr 29 (Operand.tmp 10) 1, type := 0, pos := "law.go:75", after := #[{ on := 33, ground := Ground.guard }], guard := some (33, true) }) (v := ?_) rfl (by kernel_rfl) (by kernel_rfl) (by kernel_rfl) (fun _ _ _ h => h) (Or.inl ⟨by rfl, ?_⟩) (by assumption) ?_
      rotate_left
      · intro w hSw
        go_simp
        try with_reducible rfl
      try simp only [Act.put, List.setIfInBounds_toArray, List.set_cons_zero, List.set_cons_succ]
      refine wpAnyH_take (i := 35) (oi := { dst := some 101, op := Op.load 27 (Operand.tmp 100), type := 27, pos := "law.go:75", after := #[{ on := 34, ground := Ground.data }, { on := 33, ground := Ground.guard }], guard := some (33, true) }) (v := ?_) rfl (by kernel_rfl) (by kernel_rfl) (by kernel_rfl) (fun _ _ _ h => h) (Or.inl ⟨by rfl, ?_⟩) (by assumption) ?_
      rotate_left
      · intro w hSw
        have fp0 := (hSw.cell (p := ⟨gp, 0, none⟩) ltp).trans ep0
        have fp1 := (hSw.cell (p := ⟨gp, 1, none⟩) ltp).trans ep1
        have fq0 := (hSw.cell (p := ⟨gq, 0, none⟩) ltq).trans eq0
        have fq1 := (hSw.cell (p := ⟨gq, 1, none⟩) ltq).trans eq1
        have fl0 := (hSw.cell (p := ⟨gl, 0, none⟩) ltl).trans el0
        have fl1 := (hSw.cell (p := ⟨gl, 1, none⟩) ltl).trans el1
        have fr0 := (hSw.cell (p := ⟨gr, 0, none⟩) ltr).trans er0
        have fr1 := (hSw.cell (p := ⟨gr, 1, none⟩) ltr).trans er1
        have fx0 := (hSw.cell (p := ⟨g, 0, none⟩) ltx).trans ex0
        have fx1 := (hSw.cell (p := ⟨g, 1, none⟩) ltx).trans ex1
        have fy0 := (hSw.cell (p := ⟨g + 1, 0, none⟩) lty).trans ey0
        have fy1 := (hSw.cell (p := ⟨g + 1, 1, none⟩) lty).trans ey1
        go_simp
        try with_reducible rfl
      try simp only [Act.put, List.setIfInBounds_toArray, List.set_cons_zero, List.set_cons_succ]
      refine wpAnyH_take (i := 36) (oi := { dst := some 102, op := Op.call { callee := Callee.builtin Builtin.len, args := #[Operand.tmp 101], argTypes := #[27] }, type := 3, pos := "law.go:75", after := #[{ on := 35, ground := Ground.data }, { on := 33, ground := Ground.guard }], guard := some (33, true) }) (v := ?_) rfl (by kernel_rfl) (by kernel_rfl) (by kernel_rfl) (fun _ _ _ h => h) (Or.inl ⟨by rfl, ?_⟩) (by assumption) ?_
      rotate_left
      · intro w hSw
        go_simp
        try with_reducible rfl
      try simp only [Act.put, List.setIfInBounds_toArray, List.set_cons_zero, List.set_cons_succ]
      refine wpAnyH_take (i := 37) (oi := { dst := some 103, op := Op.fieldAddr 29 (Operand.tmp 7) 1, type := 0, pos := "law.go:75", after := #[{ on := 33, ground := Ground.guard }], guard := some (33, true) }) (v := ?_) rfl (by kernel_rfl) (by kernel_rfl) (by kernel_rfl) (fun _ _ _ h => h) (Or.inl ⟨by rfl, ?_⟩) (by assumption) ?_
      rotate_left
      · intro w hSw
        go_simp
        try with_reducible rfl
      try simp only [Act.put, List.setIfInBounds_toArray, List.set_cons_zero, List.set_cons_succ]
      refine wpAnyH_take (i := 38) (oi := { dst := some 104, op := Op.load 27 (Operand.tmp 103), type := 27, pos := "law.go:75", after := #[{ on := 37, ground := Ground.data }, { on := 33, ground := Ground.guard }], guard := some (33, true) }) (v := ?_) rfl (by kernel_rfl) (by kernel_rfl) (by kernel_rfl) (fun _ _ _ h => h) (Or.inl ⟨by rfl, ?_⟩) (by assumption) ?_
      rotate_left
      · intro w hSw
        have fp0 := (hSw.cell (p := ⟨gp, 0, none⟩) ltp).trans ep0
        have fp1 := (hSw.cell (p := ⟨gp, 1, none⟩) ltp).trans ep1
        have fq0 := (hSw.cell (p := ⟨gq, 0, none⟩) ltq).trans eq0
        have fq1 := (hSw.cell (p := ⟨gq, 1, none⟩) ltq).trans eq1
        have fl0 := (hSw.cell (p := ⟨gl, 0, none⟩) ltl).trans el0
        have fl1 := (hSw.cell (p := ⟨gl, 1, none⟩) ltl).trans el1
        have fr0 := (hSw.cell (p := ⟨gr, 0, none⟩) ltr).trans er0
        have fr1 := (hSw.cell (p := ⟨gr, 1, none⟩) ltr).trans er1
        have fx0 := (hSw.cell (p := ⟨g, 0, none⟩) ltx).trans ex0
        have fx1 := (hSw.cell (p := ⟨g, 1, none⟩) ltx).trans ex1
        have fy0 := (hSw.cell (p := ⟨g + 1, 0, none⟩) lty).trans ey0
        have fy1 := (hSw.cell (p := ⟨g + 1, 1, none⟩) lty).trans ey1
        go_simp
        try with_reducible rfl
      try simp only [Act.put, List.setIfInBounds_toArray, List.set_cons_zero, List.set_cons_succ]
      refine wpAnyH_take (i := 39) (oi := { dst := some 105, op := Op.call { callee := Callee.builtin Builtin.len, args := #[Operand.tmp 104], argTypes := #[27] }, type := 3, pos := "law.go:75", after := #[{ on := 38, ground := Ground.data }, { on := 33, ground := Ground.guard }], guard := some (33, true) }) (v := ?_) rfl (by kernel_rfl) (by kernel_rfl) (by kernel_rfl) (fun _ _ _ h => h) (Or.inl ⟨by rfl, ?_⟩) (by assumption) ?_
      rotate_left
      · intro w hSw
        go_simp
        try with_reducible rfl
      try simp only [Act.put, List.setIfInBounds_toArray, List.set_cons_zero, List.set_cons_succ]
      refine wpAnyH_take (i := 40) (oi := { dst := some 106, op := Op.fieldAddr 29 (Operand.tmp 8) 1, type := 0, pos := "law.go:75", after := #[{ on := 33, ground := Ground.guard }], guard := some (33, true) }) (v := ?_) rfl (by kernel_rfl) (by kernel_rfl) (by kernel_rfl) (fun _ _ _ h => h) (Or.inl ⟨by rfl, ?_⟩) (by assumption) ?_
      rotate_left
      · intro w hSw
        go_simp
        try with_reducible rfl
      try simp only [Act.put, List.setIfInBounds_toArray, List.set_cons_zero, List.set_cons_succ]
      refine wpAnyH_take (i := 41) (oi := { dst := some 107, op := Op.load 27 (Operand.tmp 106), type := 27, pos := "law.go:75", after := #[{ on := 40, ground := Ground.data }, { on := 33, ground := Ground.guard }], guard := some (33, true) }) (v := ?_) rfl (by kernel_rfl) (by kernel_rfl) (by kernel_rfl) (fun _ _ _ h => h) (Or.inl ⟨by rfl, ?_⟩) (by assumption) ?_
      rotate_left
      · intro w hSw
        have fp0 := (hSw.cell (p := ⟨gp, 0, none⟩) ltp).trans ep0
        have fp1 := (hSw.cell (p := ⟨gp, 1, none⟩) ltp).trans ep1
        have fq0 := (hSw.cell (p := ⟨gq, 0, none⟩) ltq).trans eq0
        have fq1 := (hSw.cell (p := ⟨gq, 1, none⟩) ltq).trans eq1
        have fl0 := (hSw.cell (p := ⟨gl, 0, none⟩) ltl).trans el0
        have fl1 := (hSw.cell (p := ⟨gl, 1, none⟩) ltl).trans el1
        have fr0 := (hSw.cell (p := ⟨gr, 0, none⟩) ltr).trans er0
        have fr1 := (hSw.cell (p := ⟨gr, 1, none⟩) ltr).trans er1
        have fx0 := (hSw.cell (p := ⟨g, 0, none⟩) ltx).trans ex0
        have fx1 := (hSw.cell (p := ⟨g, 1, none⟩) ltx).trans ex1
        have fy0 := (hSw.cell (p := ⟨g + 1, 0, none⟩) lty).trans ey0
        have fy1 := (hSw.cell (p := ⟨g + 1, 1, none⟩) lty).trans ey1
        go_simp
        try with_reducible rfl
      try simp only [Act.put, List.setIfInBounds_toArray, List.set_cons_zero, List.set_cons_succ]
      refine wpAnyH_take (i := 42) (oi := { dst := some 108, op := Op.call { callee := Callee.builtin Builtin.len, args := #[Operand.tmp 107], argTypes := #[27] }, type := 3, pos := "law.go:75", after := #[{ on := 41, ground := Ground.data }, { on := 33, ground := Ground.guard }], guard := some (33, true) }) (v := ?_) rfl (by kernel_rfl) (by kernel_rfl) (by kernel_rfl) (fun _ _ _ h => h) (Or.inl ⟨by rfl, ?_⟩) (by assumption) ?_
      rotate_left
      · intro w hSw
        go_simp
        try with_reducible rfl
      try simp only [Act.put, List.setIfInBounds_toArray, List.set_cons_zero, List.set_cons_succ]
      refine wpAnyH_take (i := 43) (oi := { dst := some 109, op := Op.binOp BinOp.add 3 (Operand.tmp 105) (Operand.tmp 108) 3, type := 3, pos := "law.go:75", after := #[{ on := 39, ground := Ground.data }, { on := 42, ground := Ground.data }, { on := 33, ground := Ground.guard }], guard := some (33, true) }) (v := ?_) rfl (by kernel_rfl) (by kernel_rfl) (by kernel_rfl) (fun _ _ _ h => h) (Or.inl ⟨by rfl, ?_⟩) (by assumption) ?_
      rotate_left
      · intro w hSw
        go_simp
        try with_reducible rfl
      try simp only [Act.put, List.setIfInBounds_toArray, List.set_cons_zero, List.set_cons_succ]
      refine wpAnyH_take (i := 44) (oi := { dst := some 110, op := Op.binOp BinOp.leq 3 (Operand.tmp 102) (Operand.tmp 109) 3, type := 4, pos := "law.go:75", after := #[{ on := 36, ground := Ground.data }, { on := 43, ground := Ground.data }, { on := 33, ground := Ground.guard }], guard := some (33, true) }) (v := ?_) rfl (by kernel_rfl) (by kernel_rfl) (by kernel_rfl) (fun _ _ _ h => h) (Or.inl ⟨by rfl, ?_⟩) (by assumption) ?_
      rotate_left
      · intro w hSw
        go_simp
        try with_reducible rfl
      try simp only [Act.put, List.setIfInBounds_toArray, List.set_cons_zero, List.set_cons_succ]
      refine wpAnyH_take (i := 45) (oi := { dst := some 111, op := Op.pick (Operand.tmp 99) (Operand.tmp 110) (Operand.const (Value.bool false)), type := 4, pos := "law.go:75", after := #[{ on := 33, ground := Ground.data }, { on := 44, ground := Ground.data }], guard := none }) (v := ?_) rfl (by kernel_rfl) (by kernel_rfl) (by kernel_rfl) (fun _ _ _ h => h) (Or.inl ⟨by rfl, ?_⟩) (by assumption) ?_
      rotate_left
      · intro w hSw
        go_simp
        try with_reducible rfl
      try simp only [Act.put, List.setIfInBounds_toArray, List.set_cons_zero, List.set_cons_succ]
      refine wpAnyH_take (i := 46) (oi := { dst := some 112, op := Op.move (Operand.tmp 111), type := 4, pos := "law.go:75", after := #[{ on := 45, ground := Ground.data }, { on := 33, ground := Ground.chain }], guard := none }) (v := ?_) rfl (by kernel_rfl) (by kernel_rfl) (by kernel_rfl) (fun _ _ _ h => h) (Or.inl ⟨by rfl, ?_⟩) (by assumption) ?_
      rotate_left
      · intro w hSw
        go_simp
        try with_reducible rfl
      try simp only [Act.put, List.setIfInBounds_toArray, List.set_cons_zero, List.set_cons_succ]
      refine wpAnyH_take (i := 47) (oi := { dst := some 113, op := Op.load 29 (Operand.tmp 10), type := 29, pos := "law.go:75", after := #[{ on := 46, ground := Ground.guard }], guard := some (46, true) }) (v := ?_) rfl (by kernel_rfl) (by kernel_rfl) (by kernel_rfl) (fun _ _ _ h => h) (Or.inl ⟨by rfl, ?_⟩) (by assumption) ?_
      rotate_left
      · intro w hSw
        have fp0 := (hSw.cell (p := ⟨gp, 0, none⟩) ltp).trans ep0
        have fp1 := (hSw.cell (p := ⟨gp, 1, none⟩) ltp).trans ep1
        have fq0 := (hSw.cell (p := ⟨gq, 0, none⟩) ltq).trans eq0
        have fq1 := (hSw.cell (p := ⟨gq, 1, none⟩) ltq).trans eq1
        have fl0 := (hSw.cell (p := ⟨gl, 0, none⟩) ltl).trans el0
        have fl1 := (hSw.cell (p := ⟨gl, 1, none⟩) ltl).trans el1
        have fr0 := (hSw.cell (p := ⟨gr, 0, none⟩) ltr).trans er0
        have fr1 := (hSw.cell (p := ⟨gr, 1, none⟩) ltr).trans er1
        have fx0 := (hSw.cell (p := ⟨g, 0, none⟩) ltx).trans ex0
        have fx1 := (hSw.cell (p := ⟨g, 1, none⟩) ltx).trans ex1
        have fy0 := (hSw.cell (p := ⟨g + 1, 0, none⟩) lty).trans ey0
        have fy1 := (hSw.cell (p := ⟨g + 1, 1, none⟩) lty).trans ey1
        go_simp
        try with_reducible rfl
      try simp only [Act.put, List.setIfInBounds_toArray, List.set_cons_zero, List.set_cons_succ]
      refine wpAnyH_take (i := 49) (oi := { dst := some 115, op := Op.load 29 (Operand.tmp 7), type := 29, pos := "law.go:75", after := #[{ on := 46, ground := Ground.guard }], guard := some (46, true) }) (v := ?_) rfl (by kernel_rfl) (by kernel_rfl) (by kernel_rfl) (fun _ _ _ h => h) (Or.inl ⟨by rfl, ?_⟩) (by assumption) ?_
      rotate_left
      · intro w hSw
        have fp0 := (hSw.cell (p := ⟨gp, 0, none⟩) ltp).trans ep0
        have fp1 := (hSw.cell (p := ⟨gp, 1, none⟩) ltp).trans ep1
        have fq0 := (hSw.cell (p := ⟨gq, 0, none⟩) ltq).trans eq0
        have fq1 := (hSw.cell (p := ⟨gq, 1, none⟩) ltq).trans eq1
        have fl0 := (hSw.cell (p := ⟨gl, 0, none⟩) ltl).trans el0
        have fl1 := (hSw.cell (p := ⟨gl, 1, none⟩) ltl).trans el1
        have fr0 := (hSw.cell (p := ⟨gr, 0, none⟩) ltr).trans er0
        have fr1 := (hSw.cell (p := ⟨gr, 1, none⟩) ltr).trans er1
        have fx0 := (hSw.cell (p := ⟨g, 0, none⟩) ltx).trans ex0
        have fx1 := (hSw.cell (p := ⟨g, 1, none⟩) ltx).trans ex1
        have fy0 := (hSw.cell (p := ⟨g + 1, 0, none⟩) lty).trans ey0
        have fy1 := (hSw.cell (p := ⟨g + 1, 1, none⟩) lty).trans ey1
        go_simp
        try with_reducible rfl
      try simp only [Act.put, List.setIfInBounds_toArray, List.set_cons_zero, List.set_cons_succ]
      refine wpAnyH_ready (rs := [48]) (by kernel_rfl) (by simp) ?_
      refine AllReadyH.cons (o := { dst := some 114, op := Op.call { callee := Callee.value (Operand.func 15), args := #[Operand.tmp 113], argTypes := #[29] }, type := 4, pos := "law.go:75", after := #[{ on := 47, ground := Ground.data }, { on := 46, ground := Ground.chain }, { on := 46, ground := Ground.guard }], guard := some (46, true) }) rfl (fun K hK => ?_) AllReadyH.nil
      go_simp
      refine (ZP.out _ b4).mono ?_
      rintro e V50 ⟨rfl, d5⟩
      have b5 : Below WB.heap.size WB V50 := b4.trans (d5.mono b4.size)
      go_wp2_with (fail)
      refine hK.out _ _ b5 (fun hHeld => ?_)
      clear hK K
      try simp only [Act.put, List.setIfInBounds_toArray, List.set_cons_zero, List.set_cons_succ]
      refine wpAnyH_ready (rs := [50]) (by kernel_rfl) (by simp) ?_
      refine AllReadyH.cons (o := { dst := some 116, op := Op.call { callee := Callee.value (Operand.func 15), args := #[Operand.tmp 115], argTypes := #[29] }, type := 4, pos := "law.go:75", after := #[{ on := 49, ground := Ground.data }, { on := 48, ground := Ground.chain }, { on := 46, ground := Ground.guard }], guard := some (46, true) }) rfl (fun K hK => ?_) AllReadyH.nil
      go_simp
      refine (ZX.out _ b5).mono ?_
      rintro e V60 ⟨rfl, d6⟩
      have b6 : Below WB.heap.size WB V60 := b5.trans (d6.mono b5.size)
      go_wp2_with (fail)
      refine hK.out _ _ b6 (fun hHeld => ?_)
      clear hK K
      try simp only [Act.put, List.setIfInBounds_toArray, List.set_cons_zero, List.set_cons_succ]
      refine wpAnyH_take (i := 51) (oi := { dst := some 117, op := Op.move (Operand.tmp 116), type := 4, pos := "law.go:75", after := #[{ on := 50, ground := Ground.data }, { on := 50, ground := Ground.chain }, { on := 46, ground := Ground.guard }], guard := some (46, true) }) (v := ?_) rfl (by kernel_rfl) (by kernel_rfl) (by kernel_rfl) (fun _ _ _ h => h) (Or.inl ⟨by rfl, ?_⟩) (by assumption) ?_
      rotate_left
      · intro w hSw
        go_simp
        try with_reducible rfl
      try simp only [Act.put, List.setIfInBounds_toArray, List.set_cons_zero, List.set_cons_succ]
      refine wpAnyH_take (i := 52) (oi := { dst := some 118, op := Op.load 29 (Operand.tmp 8), type := 29, pos := "law.go:75", after := #[{ on := 51, ground := Ground.guard }], guard := some (51, true) }) (v := ?_) rfl (by kernel_rfl) (by kernel_rfl) (by kernel_rfl) (fun _ _ _ h => h) (Or.inl ⟨by rfl, ?_⟩) (by assumption) ?_
      rotate_left
      · intro w hSw
        have fp0 := (hSw.cell (p := ⟨gp, 0, none⟩) ltp).trans ep0
        have fp1 := (hSw.cell (p := ⟨gp, 1, none⟩) ltp).trans ep1
        have fq0 := (hSw.cell (p := ⟨gq, 0, none⟩) ltq).trans eq0
        have fq1 := (hSw.cell (p := ⟨gq, 1, none⟩) ltq).trans eq1
        have fl0 := (hSw.cell (p := ⟨gl, 0, none⟩) ltl).trans el0
        have fl1 := (hSw.cell (p := ⟨gl, 1, none⟩) ltl).trans el1
        have fr0 := (hSw.cell (p := ⟨gr, 0, none⟩) ltr).trans er0
        have fr1 := (hSw.cell (p := ⟨gr, 1, none⟩) ltr).trans er1
        have fx0 := (hSw.cell (p := ⟨g, 0, none⟩) ltx).trans ex0
        have fx1 := (hSw.cell (p := ⟨g, 1, none⟩) ltx).trans ex1
        have fy0 := (hSw.cell (p := ⟨g + 1, 0, none⟩) lty).trans ey0
        have fy1 := (hSw.cell (p := ⟨g + 1, 1, none⟩) lty).trans ey1
        go_simp
        try with_reducible rfl
      try simp only [Act.put, List.setIfInBounds_toArray, List.set_cons_zero, List.set_cons_succ]
      refine wpAnyH_ready (rs := [53]) (by kernel_rfl) (by simp) ?_
      refine AllReadyH.cons (o := { dst := some 119, op := Op.call { callee := Callee.value (Operand.func 15), args := #[Operand.tmp 118], argTypes := #[29] }, type := 4, pos := "law.go:75", after := #[{ on := 52, ground := Ground.data }, { on := 51, ground := Ground.chain }, { on := 51, ground := Ground.guard }], guard := some (51, true) }) rfl (fun K hK => ?_) AllReadyH.nil
      go_simp
      refine (ZY.out _ b6).mono ?_
      rintro e V70 ⟨rfl, d7⟩
      have b7 : Below WB.heap.size WB V70 := b6.trans (d7.mono b6.size)
      go_wp2_with (fail)
      refine hK.out _ _ b7 (fun hHeld => ?_)
      clear hK K
      try simp only [Act.put, List.setIfInBounds_toArray, List.set_cons_zero, List.set_cons_succ]
      refine wpAnyH_take (i := 54) (oi := { dst := some 120, op := Op.pick (Operand.tmp 117) (Operand.tmp 119) (Operand.const (Value.bool false)), type := 4, pos := "law.go:75", after := #[{ on := 51, ground := Ground.data }, { on := 53, ground := Ground.data }, { on := 46, ground := Ground.guard }], guard := some (46, true) }) (v := ?_) rfl (by kernel_rfl) (by kernel_rfl) (by kernel_rfl) (fun _ _ _ h => h) (Or.inl ⟨by rfl, ?_⟩) (by assumption) ?_
      rotate_left
      · intro w hSw
        go_simp
        try with_reducible rfl
      try simp only [Act.put, List.setIfInBounds_toArray, List.set_cons_zero, List.set_cons_succ]
      refine wpAnyH_take (i := 55) (oi := { dst := some 121, op := Op.binOp BinOp.eql 4 (Operand.tmp 114) (Operand.tmp 120) 4, type := 4, pos := "law.go:75", after := #[{ on := 48, ground := Ground.data }, { on := 54, ground := Ground.data }, { on := 46, ground := Ground.guard }], guard := some (46, true) }) (v := ?_) rfl (by kernel_rfl) (by kernel_rfl) (by kernel_rfl) (fun _ _ _ h => h) (Or.inl ⟨by rfl, ?_⟩) (by assumption) ?_
      rotate_left
      · intro w hSw
        go_simp
        try with_reducible rfl
      try simp only [Act.put, List.setIfInBounds_toArray, List.set_cons_zero, List.set_cons_succ]
      refine wpAnyH_take (i := 56) (oi := { dst := some 122, op := Op.pick (Operand.tmp 112) (Operand.tmp 121) (Operand.const (Value.bool false)), type := 4, pos := "law.go:75", after := #[{ on := 46, ground := Ground.data }, { on := 55, ground := Ground.data }], guard := none }) (v := ?_) rfl (by kernel_rfl) (by kernel_rfl) (by kernel_rfl) (fun _ _ _ h => h) (Or.inl ⟨by rfl, ?_⟩) (by assumption) ?_
      rotate_left
      · intro w hSw
        go_simp
        try with_reducible rfl
      try simp only [Act.put, List.setIfInBounds_toArray, List.set_cons_zero, List.set_cons_succ]
      refine wpAnyH_take (i := 57) (oi := { dst := some 123, op := Op.move (Operand.tmp 122), type := 4, pos := "law.go:75", after := #[{ on := 56, ground := Ground.data }, { on := 53, ground := Ground.chain }], guard := none }) (v := ?_) rfl (by kernel_rfl) (by kernel_rfl) (by kernel_rfl) (fun _ _ _ h => h) (Or.inl ⟨by rfl, ?_⟩) (by assumption) ?_
      rotate_left
      · intro w hSw
        go_simp
        try with_reducible rfl
      try simp only [Act.put, List.setIfInBounds_toArray, List.set_cons_zero, List.set_cons_succ]
      refine wpAnyH_ready (rs := [58]) (by kernel_rfl) (by simp) ?_
      refine AllReadyH.cons (o := { dst := some 124, op := Op.call { callee := Callee.value (Operand.func 20), args := #[], argTypes := #[] }, type := 4, pos := "law.go:75", after := #[{ on := 57, ground := Ground.chain }, { on := 57, ground := Ground.guard }], guard := some (57, true) }) rfl (fun K hK => ?_) AllReadyH.nil
      go_simp
      refine (wakes_any _).mono ?_
      rintro e V8 ⟨rfl, d8⟩
      have b8 : Below WB.heap.size WB V8 := b7.trans (d8.mono b7.size)
      go_wp2_with (fail)
      refine hK.out _ _ b8 (fun hHeld => ?_)
      clear hK K
      try simp only [Act.put, List.setIfInBounds_toArray, List.set_cons_zero, List.set_cons_succ]
      refine wpAnyH_take (i := 59) (oi := { dst := some 125, op := Op.pick (Operand.tmp 123) (Operand.tmp 124) (Operand.const (Value.bool false)), type := 4, pos := "law.go:75", after := #[{ on := 57, ground := Ground.data }, { on := 58, ground := Ground.data }], guard := none }) (v := ?_) rfl (by kernel_rfl) (by kernel_rfl) (by kernel_rfl) (fun _ _ _ h => h) (Or.inl ⟨by rfl, ?_⟩) (by assumption) ?_
      rotate_left
      · intro w hSw
        go_simp
        try with_reducible rfl
      try simp only [Act.put, List.setIfInBounds_toArray, List.set_cons_zero, List.set_cons_succ]
      refine wpAnyH_take (i := 60) (oi := { dst := some 6, op := Op.assign (Operand.tmp 125), type := 4, pos := "law.go:75", after := #[{ on := 59, ground := Ground.data }, { on := 58, ground := Ground.chain }, { on := 0, ground := Ground.phase }, { on := 1, ground := Ground.phase }, { on := 2, ground := Ground.phase }, { on := 3, ground := Ground.phase }, { on := 4, ground := Ground.phase }, { on := 5, ground := Ground.phase }, { on := 6, ground := Ground.phase }, { on := 7, ground := Ground.phase }, { on := 8, ground := Ground.phase }, { on := 9, ground := Ground.phase }, { on := 10, ground := Ground.phase }, { on := 11, ground := Ground.phase }, { on := 12, ground := Ground.phase }, { on := 13, ground := Ground.phase }, { on := 14, ground := Ground.phase }, { on := 15, ground := Ground.phase }, { on := 16, ground := Ground.phase }, { on := 17, ground := Ground.phase }, { on := 18, ground := Ground.phase }, { on := 19, ground := Ground.phase }, { on := 20, ground := Ground.phase }, { on := 21, ground := Ground.phase }, { on := 22, ground := Ground.phase }, { on := 23, ground := Ground.phase }, { on := 24, ground := Ground.phase }, { on := 25, ground := Ground.phase }, { on := 26, ground := Ground.phase }, { on := 27, ground := Ground.phase }, { on := 28, ground := Ground.phase }, { on := 29, ground := Ground.phase }, { on := 30, ground := Ground.phase }, { on := 31, ground := Ground.phase }, { on := 32, ground := Ground.phase }, { on := 33, ground := Ground.phase }, { on := 34, ground := Ground.phase }, { on := 35, ground := Ground.phase }, { on := 36, ground := Ground.phase }, { on := 37, ground := Ground.phase }, { on := 38, ground := Ground.phase }, { on := 39, ground := Ground.phase }, { on := 40, ground := Ground.phase }, { on := 41, ground := Ground.phase }, { on := 42, ground := Ground.phase }, { on := 43, ground := Ground.phase }, { on := 44, ground := Ground.phase }, { on := 45, ground := Ground.phase }, { on := 46, ground := Ground.phase }, { on := 47, ground := Ground.phase }, { on := 48, ground := Ground.phase }, { on := 49, ground := Ground.phase }, { on := 50, ground := Ground.phase }, { on := 51, ground := Ground.phase }, { on := 52, ground := Ground.phase }, { on := 53, ground := Ground.phase }, { on := 54, ground := Ground.phase }, { on := 55, ground := Ground.phase }, { on := 56, ground := Ground.phase }, { on := 57, ground := Ground.phase }, { on := 58, ground := Ground.phase }, { on := 59, ground := Ground.phase }], guard := none }) (v := ?_) rfl (by kernel_rfl) (by kernel_rfl) (by kernel_rfl) (fun _ _ _ h => h) (Or.inl ⟨by rfl, ?_⟩) (by assumption) ?_
      rotate_left
      · intro w hSw
        go_simp
        try with_reducible rfl
      try simp only [Act.put, List.setIfInBounds_toArray, List.set_cons_zero, List.set_cons_succ]
      refine wpAnyH_done (by kernel_rfl) ?_ _
      go_wp2
      go_ret
      exact ⟨rfl, HBB.out.trans (b8.mono HBB.out.size)⟩
end Go.Proofs.Ytmbkiefbchjofaa

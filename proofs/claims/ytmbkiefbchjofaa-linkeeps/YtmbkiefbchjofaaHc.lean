/- The walk of the law LinKeeps. -/
import Derived.Test.YtmbkiefbchjofaaHb
import Derived.Deep.RegionHeld3
import Derived.Deep.CutBlock
import Derived.Deep.DeepCutAuto
import Derived.Deep.CutRange
namespace Go.Proofs.Ytmbkiefbchjofaa
open Go.ChangeShapes Go.WideShapes Go.ChangeAt Go.RowKit

set_option maxHeartbeats 8000000 in
set_option maxRecDepth 100000 in
theorem keeps_walk (a0 a1 : Option Addr) (l0 c0 l1 c1 : Nat) (z0 z1 : List Int) (w : World) (K0 : Hid (Came w a0 l0 c0 z0)) (K1 : Hid (Came w a1 l1 c1 z1)) :
    Calls Try.prog 7 #[.slice a0 l0 c0, .slice a1 l1 c1] w (True_ w) := by
  go_enter Try.func7, Try.ntmps7
  go_wp2_with (fail)
  with_reducible refine (made_any a0 l0 c0 z0 _ K0.out).mono ?_
  rintro e w1 ⟨x, sx, ax, cx, px, qx, rfl, rx, tx, b⟩
  have K1 := Lib.hid (K1.out.below b)
  have BB := b
  clear b
  go_wp2_with (fail)
  with_reducible refine (made_any a1 l1 c1 z1 _ K1.out).mono ?_
  rintro e w2 ⟨y, sy, ay, cy, py, qy, rfl, ry, ty, b⟩
  replace rx := rx.below b
  replace tx := tx.below b
  replace BB := BB.trans (b.mono BB.size)
  clear b
  clear K0 K1
  have lx := sx.few
  have ly := sy.few
  generalize hnx : x.base.length = nx
  generalize hmx : x.ps.length = mx
  generalize hny : y.base.length = ny
  generalize hmy : y.ps.length = my
  rw [hmx] at lx
  rw [hmy] at ly
  have HX := Lib.hid sx.right
  have HY := Lib.hid sy.right
  have HS : Hid (Sts w [⟨w2.heap.size, ax, cx, nx, px, qx, mx, x⟩, ⟨w2.heap.size + 1, ay, cy, ny, py, qy, my, y⟩] ((w2.alloc (.cells #[.slice ax nx cx, .slice px mx qx] 29)).alloc (.cells #[.slice ay ny cy, .slice py my qy] 29))) := Lib.hid (by
    have b1 := below_alloc w2 (.cells #[.slice ax nx cx, .slice px mx qx] 29)
    have b2 := below_alloc (w2.alloc (.cells #[.slice ax nx cx, .slice px mx qx] 29)) (.cells #[.slice ay ny cy, .slice py my qy] 29)
    have ix : Bx.In ⟨w2.heap.size, ax, cx, nx, px, qx, mx, x⟩ (w2.alloc (.cells #[.slice ax nx cx, .slice px mx qx] 29)) := Bx.In.new rx tx hnx hmx
    have iy : Bx.In ⟨w2.heap.size + 1, ay, cy, ny, py, qy, my, y⟩ ((w2.alloc (.cells #[.slice ax nx cx, .slice px mx qx] 29)).alloc (.cells #[.slice ay ny cy, .slice py my qy] 29)) := by
      have := Bx.In.new (ry.below b1) (ty.below b1) hny hmy
      simpa using this
    refine ⟨(BB.alloc BB.size _).alloc (by have := BB.size; simp; omega) _, ?_⟩
    intro e he
    simp only [List.mem_cons, List.not_mem_nil, or_false] at he
    rcases he with rfl | rfl
    · exact ix.below b2
    · exact iy)
  have HNX := Lib.hid hnx
  have HMX := Lib.hid hmx
  have HNY := Lib.hid hny
  have HMY := Lib.hid hmy
  clear rx tx ry ty BB hnx hmx hny hmy sx sy
  go_upto_region 2 with (fail)
  generalize (w2.alloc (.cells #[.slice ax nx cx, .slice px mx qx] 29)).alloc (.cells #[.slice ay ny cy, .slice py my qy] 29) = W4 at HS ⊢
  generalize w2.heap.size = g at HS ⊢
  go_cut [7, 8] (fun p q wx => ∃ (gu gv : Nat) (au pu av pv : Option Addr) (cu qu cv qv : Nat), p = .pointer (some ⟨gu, 0, none⟩) ∧ q = .pointer (some ⟨gv, 0, none⟩) ∧ Hid (Sts w [⟨g, ax, cx, nx, px, qx, mx, x⟩, ⟨g + 1, ay, cy, ny, py, qy, my, y⟩, ⟨gu, au, cu, nx, pu, qu, mx, x⟩, ⟨gv, av, cv, ny, pv, qv, my, y⟩] wx))
  case first =>
    have HEND : Hid (∀ (W : World) (gu gv : Nat) (au pu av pv : Option Addr) (cu qu cv qv : Nat), Below W4.heap.size W4 W → Bx.In ⟨gu, au, cu, nx, pu, qu, mx, x⟩ W → Bx.In ⟨gv, av, cv, ny, pv, qv, my, y⟩ W → Sts w [⟨g, ax, cx, nx, px, qx, mx, x⟩, ⟨g + 1, ay, cy, ny, py, qy, my, y⟩, ⟨gu, au, cu, nx, pu, qu, mx, x⟩, ⟨gv, av, cv, ny, pv, qv, my, y⟩] W) := Lib.hid (fun W gu gv au pu av pv cu qu cv qv b iu iv => by
      have h := HS.out.below b
      refine ⟨h.bel, fun e he => ?_⟩
      simp only [List.mem_cons, List.not_mem_nil, or_false] at he
      rcases he with rfl | rfl | rfl | rfl
      · exact h.all _ (by simp)
      · exact h.all _ (by simp)
      · exact iu
      · exact iv)
    have HC1 : Hid (∀ V, Below W4.heap.size W4 V → Calls Try.prog 27 #[.agg #[.slice ax nx cx, .slice px mx qx]] V (MakesLin1 x V)) := Lib.hid (fun V b => copy_val (e := ⟨g, ax, cx, nx, px, qx, mx, x⟩) ((HS.out.below b).all ⟨g, ax, cx, nx, px, qx, mx, x⟩ (by simp)) HX.out (by show mx ≤ 12; omega))
    have HC2 : Hid (∀ V, Below W4.heap.size W4 V → Calls Try.prog 27 #[.agg #[.slice ay ny cy, .slice py my qy]] V (MakesLin1 y V)) := Lib.hid (fun V b => copy_val (e := ⟨g + 1, ay, cy, ny, py, qy, my, y⟩) ((HS.out.below b).all ⟨g + 1, ay, cy, ny, py, qy, my, y⟩ (by simp)) HY.out (by show my ≤ 12; omega))
    have bd : Below W4.heap.size W4 W4.drew := ⟨rfl, rfl, rfl, Nat.le_refl _, fun _ _ => rfl⟩
    have ex0 : W4.cell? ⟨g, 0, none⟩ = some (.slice ax nx cx) := (HS.out.all ⟨g, ax, cx, nx, px, qx, mx, x⟩ (by simp)).c0
    have ex1 : W4.cell? ⟨g, 1, none⟩ = some (.slice px mx qx) := (HS.out.all ⟨g, ax, cx, nx, px, qx, mx, x⟩ (by simp)).c1
    have ey0 : W4.cell? ⟨g + 1, 0, none⟩ = some (.slice ay ny cy) := (HS.out.all ⟨g + 1, ay, cy, ny, py, qy, my, y⟩ (by simp)).c0
    have ey1 : W4.cell? ⟨g + 1, 1, none⟩ = some (.slice py my qy) := (HS.out.all ⟨g + 1, ay, cy, ny, py, qy, my, y⟩ (by simp)).c1
    have ltx : g < W4.heap.size := (HS.out.all ⟨g, ax, cx, nx, px, qx, mx, x⟩ (by simp)).l.lt
    have lty : g + 1 < W4.heap.size := (HS.out.all ⟨g + 1, ay, cy, ny, py, qy, my, y⟩ (by simp)).l.lt
    clear HS
    refine wp_region_held_drew (S := fun w' => Below W4.heap.size W4 w') (by kernel_rfl) bd (fun hHeld => ?_)
    clear hHeld
    refine wpAnyH_take (i := 0) (oi := { dst := some 23, op := Op.load 29 (Operand.tmp 5), type := 29, pos := "law.go:88", after := #[], guard := none }) (v := ?_) rfl (by kernel_rfl) (by kernel_rfl) (by kernel_rfl) (fun _ _ _ h => h) (Or.inl ⟨by rfl, ?_⟩) bd ?_
    rotate_left
    · intro w hSw
      have f0 := (hSw.cell (p := ⟨g, 0, none⟩) ltx).trans ex0
      have f1 := (hSw.cell (p := ⟨g, 1, none⟩) ltx).trans ex1
      go_simp
      try with_reducible rfl
    try simp only [Act.put, List.setIfInBounds_toArray, List.set_cons_zero, List.set_cons_succ]
    refine wpAnyH_take (i := 2) (oi := { dst := some 25, op := Op.load 29 (Operand.tmp 6), type := 29, pos := "law.go:88", after := #[], guard := none }) (v := ?_) rfl (by kernel_rfl) (by kernel_rfl) (by kernel_rfl) (fun _ _ _ h => h) (Or.inl ⟨by rfl, ?_⟩) bd ?_
    rotate_left
    · intro w hSw
      have f0 := (hSw.cell (p := ⟨g + 1, 0, none⟩) lty).trans ey0
      have f1 := (hSw.cell (p := ⟨g + 1, 1, none⟩) lty).trans ey1
      go_simp
      try with_reducible rfl
    try simp only [Act.put, List.setIfInBounds_toArray, List.set_cons_zero, List.set_cons_succ]
    have HR : Hid (CpSt W4 W4.drew x y none none none none) := Lib.hid (CpSt.start bd)
    generalize W4.drew = V0 at HR ⊢
    clear bd
    refine wpAnyH_ready (rs := [1, 4, 5]) (by kernel_rfl) (by simp) ?_
    refine AllReadyH.cons (o := { dst := some 24, op := Op.call { callee := Callee.value (Operand.func 27), args := #[Operand.tmp 23], argTypes := #[29] }, type := 29, pos := "law.go:88", after := #[{ on := 0, ground := Ground.data }], guard := none }) rfl (fun K hK => ?_) ?_
    · go_simp
      refine (HC1.out V0 HR.out.bel).mono ?_
      rintro e V1 ⟨au, cu, pu, qu, rfl, rA, tA, bA⟩
      rw [HNX.out, HMX.out]
      have HR := Lib.hid (HR.out.gotU bA rA tA)
      clear bA rA tA
      go_wp2_with (fail)
      refine hK.out _ _ HR.out.bel (fun hHeld => ?_)
      clear hK K hHeld
      try simp only [Act.put, List.setIfInBounds_toArray, List.set_cons_zero, List.set_cons_succ]
      refine wpAnyH_ready (rs := [3, 4, 5]) (by kernel_rfl) (by simp) ?_
      refine AllReadyH.cons (o := { dst := some 26, op := Op.call { callee := Callee.value (Operand.func 27), args := #[Operand.tmp 25], argTypes := #[29] }, type := 29, pos := "law.go:88", after := #[{ on := 2, ground := Ground.data }, { on := 1, ground := Ground.chain }], guard := none }) rfl (fun K hK => ?_) ?_
      · go_simp
        refine (HC2.out V1 HR.out.bel).mono ?_
        rintro e V2 ⟨av, cv, pv, qv, rfl, rA, tA, bA⟩
        rw [HNY.out, HMY.out]
        have HR := Lib.hid (HR.out.gotV bA rA tA)
        clear bA rA tA
        go_wp2_with (fail)
        refine hK.out _ _ HR.out.bel (fun hHeld => ?_)
        clear hK K hHeld
        try simp only [Act.put, List.setIfInBounds_toArray, List.set_cons_zero, List.set_cons_succ]
        refine wpAnyH_ready (rs := [4, 5]) (by kernel_rfl) (by simp) ?_
        refine AllReadyH.cons (o := { dst := some 7, op := Op.alloc 29, type := 0, pos := "law.go:88", after := #[], guard := none }) rfl (fun K hK => ?_) ?_
        · have HR := Lib.hid HR.out.alloc7
          go_simp
          refine hK.out _ _ HR.out.bel (fun hHeld => ?_)
          clear hK K hHeld
          try simp only [Act.put, List.setIfInBounds_toArray, List.set_cons_zero, List.set_cons_succ]
          generalize V2.alloc (.cells #[.slice none 0 0, .slice none 0 0] 29) = V3 at HR ⊢
          generalize V2.heap.size = gu at HR ⊢
          refine wpAnyH_ready (rs := [5]) (by kernel_rfl) (by simp) ?_
          refine AllReadyH.cons (o := { dst := some 8, op := Op.alloc 29, type := 0, pos := "law.go:88", after := #[], guard := none }) rfl (fun K hK => ?_) AllReadyH.nil
          have HR := Lib.hid HR.out.alloc8
          go_simp
          refine hK.out _ _ HR.out.bel (fun hHeld => ?_)
          clear hK K hHeld
          try simp only [Act.put, List.setIfInBounds_toArray, List.set_cons_zero, List.set_cons_succ]
          generalize V3.alloc (.cells #[.slice none 0 0, .slice none 0 0] 29) = V4 at HR ⊢
          generalize V3.heap.size = gv at HR ⊢
          obtain ⟨⟨y0, y1, y2, y3⟩, V5, q1, B1, ⟨t0, t1, t2, t3⟩, V6, q2, B2, iu, iv⟩ := HR.out.stored HNX.out HMX.out HNY.out HMY.out
          have Q1 := Lib.hid q1
          have Q2 := Lib.hid q2
          have HIU := Lib.hid iu
          have HIV := Lib.hid iv
          clear q1 q2 iu iv HR
          refine wpAnyH_ready (rs := [6]) (by kernel_rfl) (by simp) ?_
          refine AllReadyH.cons (o := { dst := none, op := Op.store 29 (Operand.tmp 7) (Operand.tmp 24), type := 0, pos := "law.go:88", after := #[{ on := 4, ground := Ground.data }, { on := 1, ground := Ground.data }, { on := 3, ground := Ground.chain }, { on := 0, ground := Ground.phase }, { on := 1, ground := Ground.phase }, { on := 2, ground := Ground.textOnly Departure.lateStores }, { on := 3, ground := Ground.textOnly Departure.lateStoresUnsure }, { on := 4, ground := Ground.phase }, { on := 5, ground := Ground.phase }], guard := none }) rfl (fun K hK => ?_) AllReadyH.nil
          go_simp
          rw [← Q1.out]
          refine hK.out _ _ B1 (fun hHeld => ?_)
          clear hK K hHeld y0 y1 y2 y3 Q1
          try simp only [Act.put, List.setIfInBounds_toArray, List.set_cons_zero, List.set_cons_succ]
          refine wpAnyH_ready (rs := [7]) (by kernel_rfl) (by simp) ?_
          refine AllReadyH.cons (o := { dst := none, op := Op.store 29 (Operand.tmp 8) (Operand.tmp 26), type := 0, pos := "law.go:88", after := #[{ on := 5, ground := Ground.data }, { on := 3, ground := Ground.data }, { on := 6, ground := Ground.chain }, { on := 0, ground := Ground.phase }, { on := 1, ground := Ground.phase }, { on := 2, ground := Ground.phase }, { on := 3, ground := Ground.phase }, { on := 4, ground := Ground.phase }, { on := 5, ground := Ground.phase }, { on := 6, ground := Ground.phase }], guard := none }) rfl (fun K hK => ?_) AllReadyH.nil
          go_simp
          rw [← Q2.out]
          refine hK.out _ _ B2 (fun hHeld => ?_)
          clear hK K hHeld t0 t1 t2 t3 Q2 B1
          try simp only [Act.put, List.setIfInBounds_toArray, List.set_cons_zero, List.set_cons_succ]
          refine wpAnyH_done (by kernel_rfl) ?_ _
          have HS5 := Lib.hid (HEND.out V6 gu gv au pu av pv cu qu cv qv B2 HIU.out HIV.out)
          clear B2 HIU HIV
          go_wp2
          go_meet
          exact ⟨gu, gv, au, pu, av, pv, cu, qu, cv, qv, rfl, rfl, HS5⟩
        refine AllReadyH.cons (o := { dst := some 8, op := Op.alloc 29, type := 0, pos := "law.go:88", after := #[], guard := none }) rfl (fun K hK => ?_) AllReadyH.nil
        have HR := Lib.hid HR.out.alloc8
        go_simp
        refine hK.out _ _ HR.out.bel (fun hHeld => ?_)
        clear hK K hHeld
        try simp only [Act.put, List.setIfInBounds_toArray, List.set_cons_zero, List.set_cons_succ]
        generalize V2.alloc (.cells #[.slice none 0 0, .slice none 0 0] 29) = V3 at HR ⊢
        generalize V2.heap.size = gv at HR ⊢
        refine wpAnyH_ready (rs := [4]) (by kernel_rfl) (by simp) ?_
        refine AllReadyH.cons (o := { dst := some 7, op := Op.alloc 29, type := 0, pos := "law.go:88", after := #[], guard := none }) rfl (fun K hK => ?_) AllReadyH.nil
        have HR := Lib.hid HR.out.alloc7
        go_simp
        refine hK.out _ _ HR.out.bel (fun hHeld => ?_)
        clear hK K hHeld
        try simp only [Act.put, List.setIfInBounds_toArray, List.set_cons_zero, List.set_cons_succ]
        generalize V3.alloc (.cells #[.slice none 0 0, .slice none 0 0] 29) = V4 at HR ⊢
        generalize V3.heap.size = gu at HR ⊢
        obtain ⟨⟨y0, y1, y2, y3⟩, V5, q1, B1, ⟨t0, t1, t2, t3⟩, V6, q2, B2, iu, iv⟩ := HR.out.stored HNX.out HMX.out HNY.out HMY.out
        have Q1 := Lib.hid q1
        have Q2 := Lib.hid q2
        have HIU := Lib.hid iu
        have HIV := Lib.hid iv
        clear q1 q2 iu iv HR
        refine wpAnyH_ready (rs := [6]) (by kernel_rfl) (by simp) ?_
        refine AllReadyH.cons (o := { dst := none, op := Op.store 29 (Operand.tmp 7) (Operand.tmp 24), type := 0, pos := "law.go:88", after := #[{ on := 4, ground := Ground.data }, { on := 1, ground := Ground.data }, { on := 3, ground := Ground.chain }, { on := 0, ground := Ground.phase }, { on := 1, ground := Ground.phase }, { on := 2, ground := Ground.textOnly Departure.lateStores }, { on := 3, ground := Ground.textOnly Departure.lateStoresUnsure }, { on := 4, ground := Ground.phase }, { on := 5, ground := Ground.phase }], guard := none }) rfl (fun K hK => ?_) AllReadyH.nil
        go_simp
        rw [← Q1.out]
        refine hK.out _ _ B1 (fun hHeld => ?_)
        clear hK K hHeld y0 y1 y2 y3 Q1
        try simp only [Act.put, List.setIfInBounds_toArray, List.set_cons_zero, List.set_cons_succ]
        refine wpAnyH_ready (rs := [7]) (by kernel_rfl) (by simp) ?_
        refine AllReadyH.cons (o := { dst := none, op := Op.store 29 (Operand.tmp 8) (Operand.tmp 26), type := 0, pos := "law.go:88", after := #[{ on := 5, ground := Ground.data }, { on := 3, ground := Ground.data }, { on := 6, ground := Ground.chain }, { on := 0, ground := Ground.phase }, { on := 1, ground := Ground.phase }, { on := 2, ground := Ground.phase }, { on := 3, ground := Ground.phase }, { on := 4, ground := Ground.phase }, { on := 5, ground := Ground.phase }, { on := 6, ground := Ground.phase }], guard := none }) rfl (fun K hK => ?_) AllReadyH.nil
        go_simp
        rw [← Q2.out]
        refine hK.out _ _ B2 (fun hHeld => ?_)
        clear hK K hHeld t0 t1 t2 t3 Q2 B1
        try simp only [Act.put, List.setIfInBounds_toArray, List.set_cons_zero, List.set_cons_succ]
        refine wpAnyH_done (by kernel_rfl) ?_ _
        have HS5 := Lib.hid (HEND.out V6 gu gv au pu av pv cu qu cv qv B2 HIU.out HIV.out)
        clear B2 HIU HIV
        go_wp2
        go_meet
        exact ⟨gu, gv, au, pu, av, pv, cu, qu, cv, qv, rfl, rfl, HS5⟩
      refine AllReadyH.cons (o := { dst := some 7, op := Op.alloc 29, type := 0, pos := "law.go:88", after := #[], guard := none }) rfl (fun K hK => ?_) ?_
      · have HR := Lib.hid HR.out.alloc7
        go_simp
        refine hK.out _ _ HR.out.bel (fun hHeld => ?_)
        clear hK K hHeld
        try simp only [Act.put, List.setIfInBounds_toArray, List.set_cons_zero, List.set_cons_succ]
        generalize V1.alloc (.cells #[.slice none 0 0, .slice none 0 0] 29) = V2 at HR ⊢
        generalize V1.heap.size = gu at HR ⊢
        refine wpAnyH_ready (rs := [3, 5]) (by kernel_rfl) (by simp) ?_
        refine AllReadyH.cons (o := { dst := some 26, op := Op.call { callee := Callee.value (Operand.func 27), args := #[Operand.tmp 25], argTypes := #[29] }, type := 29, pos := "law.go:88", after := #[{ on := 2, ground := Ground.data }, { on := 1, ground := Ground.chain }], guard := none }) rfl (fun K hK => ?_) ?_
        · go_simp
          refine (HC2.out V2 HR.out.bel).mono ?_
          rintro e V3 ⟨av, cv, pv, qv, rfl, rA, tA, bA⟩
          rw [HNY.out, HMY.out]
          have HR := Lib.hid (HR.out.gotV bA rA tA)
          clear bA rA tA
          go_wp2_with (fail)
          refine hK.out _ _ HR.out.bel (fun hHeld => ?_)
          clear hK K hHeld
          try simp only [Act.put, List.setIfInBounds_toArray, List.set_cons_zero, List.set_cons_succ]
          refine wpAnyH_ready (rs := [5]) (by kernel_rfl) (by simp) ?_
          refine AllReadyH.cons (o := { dst := some 8, op := Op.alloc 29, type := 0, pos := "law.go:88", after := #[], guard := none }) rfl (fun K hK => ?_) AllReadyH.nil
          have HR := Lib.hid HR.out.alloc8
          go_simp
          refine hK.out _ _ HR.out.bel (fun hHeld => ?_)
          clear hK K hHeld
          try simp only [Act.put, List.setIfInBounds_toArray, List.set_cons_zero, List.set_cons_succ]
          generalize V3.alloc (.cells #[.slice none 0 0, .slice none 0 0] 29) = V4 at HR ⊢
          generalize V3.heap.size = gv at HR ⊢
          obtain ⟨⟨y0, y1, y2, y3⟩, V5, q1, B1, ⟨t0, t1, t2, t3⟩, V6, q2, B2, iu, iv⟩ := HR.out.stored HNX.out HMX.out HNY.out HMY.out
          have Q1 := Lib.hid q1
          have Q2 := Lib.hid q2
          have HIU := Lib.hid iu
          have HIV := Lib.hid iv
          clear q1 q2 iu iv HR
          refine wpAnyH_ready (rs := [6]) (by kernel_rfl) (by simp) ?_
          refine AllReadyH.cons (o := { dst := none, op := Op.store 29 (Operand.tmp 7) (Operand.tmp 24), type := 0, pos := "law.go:88", after := #[{ on := 4, ground := Ground.data }, { on := 1, ground := Ground.data }, { on := 3, ground := Ground.chain }, { on := 0, ground := Ground.phase }, { on := 1, ground := Ground.phase }, { on := 2, ground := Ground.textOnly Departure.lateStores }, { on := 3, ground := Ground.textOnly Departure.lateStoresUnsure }, { on := 4, ground := Ground.phase }, { on := 5, ground := Ground.phase }], guard := none }) rfl (fun K hK => ?_) AllReadyH.nil
          go_simp
          rw [← Q1.out]
          refine hK.out _ _ B1 (fun hHeld => ?_)
          clear hK K hHeld y0 y1 y2 y3 Q1
          try simp only [Act.put, List.setIfInBounds_toArray, List.set_cons_zero, List.set_cons_succ]
          refine wpAnyH_ready (rs := [7]) (by kernel_rfl) (by simp) ?_
          refine AllReadyH.cons (o := { dst := none, op := Op.store 29 (Operand.tmp 8) (Operand.tmp 26), type := 0, pos := "law.go:88", after := #[{ on := 5, ground := Ground.data }, { on := 3, ground := Ground.data }, { on := 6, ground := Ground.chain }, { on := 0, ground := Ground.phase }, { on := 1, ground := Ground.phase }, { on := 2, ground := Ground.phase }, { on := 3, ground := Ground.phase }, { on := 4, ground := Ground.phase }, { on := 5, ground := Ground.phase }, { on := 6, ground := Ground.phase }], guard := none }) rfl (fun K hK => ?_) AllReadyH.nil
          go_simp
          rw [← Q2.out]
          refine hK.out _ _ B2 (fun hHeld => ?_)
          clear hK K hHeld t0 t1 t2 t3 Q2 B1
          try simp only [Act.put, List.setIfInBounds_toArray, List.set_cons_zero, List.set_cons_succ]
          refine wpAnyH_done (by kernel_rfl) ?_ _
          have HS5 := Lib.hid (HEND.out V6 gu gv au pu av pv cu qu cv qv B2 HIU.out HIV.out)
          clear B2 HIU HIV
          go_wp2
          go_meet
          exact ⟨gu, gv, au, pu, av, pv, cu, qu, cv, qv, rfl, rfl, HS5⟩
        refine AllReadyH.cons (o := { dst := some 8, op := Op.alloc 29, type := 0, pos := "law.go:88", after := #[], guard := none }) rfl (fun K hK => ?_) AllReadyH.nil
        have HR := Lib.hid HR.out.alloc8
        go_simp
        refine hK.out _ _ HR.out.bel (fun hHeld => ?_)
        clear hK K hHeld
        try simp only [Act.put, List.setIfInBounds_toArray, List.set_cons_zero, List.set_cons_succ]
        generalize V2.alloc (.cells #[.slice none 0 0, .slice none 0 0] 29) = V3 at HR ⊢
        generalize V2.heap.size = gv at HR ⊢
        refine wpAnyH_ready (rs := [3]) (by kernel_rfl) (by simp) ?_
        refine AllReadyH.cons (o := { dst := some 26, op := Op.call { callee := Callee.value (Operand.func 27), args := #[Operand.tmp 25], argTypes := #[29] }, type := 29, pos := "law.go:88", after := #[{ on := 2, ground := Ground.data }, { on := 1, ground := Ground.chain }], guard := none }) rfl (fun K hK => ?_) AllReadyH.nil
        go_simp
        refine (HC2.out V3 HR.out.bel).mono ?_
        rintro e V4 ⟨av, cv, pv, qv, rfl, rA, tA, bA⟩
        rw [HNY.out, HMY.out]
        have HR := Lib.hid (HR.out.gotV bA rA tA)
        clear bA rA tA
        go_wp2_with (fail)
        refine hK.out _ _ HR.out.bel (fun hHeld => ?_)
        clear hK K hHeld
        try simp only [Act.put, List.setIfInBounds_toArray, List.set_cons_zero, List.set_cons_succ]
        obtain ⟨⟨y0, y1, y2, y3⟩, V5, q1, B1, ⟨t0, t1, t2, t3⟩, V6, q2, B2, iu, iv⟩ := HR.out.stored HNX.out HMX.out HNY.out HMY.out
        have Q1 := Lib.hid q1
        have Q2 := Lib.hid q2
        have HIU := Lib.hid iu
        have HIV := Lib.hid iv
        clear q1 q2 iu iv HR
        refine wpAnyH_ready (rs := [6]) (by kernel_rfl) (by simp) ?_
        refine AllReadyH.cons (o := { dst := none, op := Op.store 29 (Operand.tmp 7) (Operand.tmp 24), type := 0, pos := "law.go:88", after := #[{ on := 4, ground := Ground.data }, { on := 1, ground := Ground.data }, { on := 3, ground := Ground.chain }, { on := 0, ground := Ground.phase }, { on := 1, ground := Ground.phase }, { on := 2, ground := Ground.textOnly Departure.lateStores }, { on := 3, ground := Ground.textOnly Departure.lateStoresUnsure }, { on := 4, ground := Ground.phase }, { on := 5, ground := Ground.phase }], guard := none }) rfl (fun K hK => ?_) AllReadyH.nil
        go_simp
        rw [← Q1.out]
        refine hK.out _ _ B1 (fun hHeld => ?_)
        clear hK K hHeld y0 y1 y2 y3 Q1
        try simp only [Act.put, List.setIfInBounds_toArray, List.set_cons_zero, List.set_cons_succ]
        refine wpAnyH_ready (rs := [7]) (by kernel_rfl) (by simp) ?_
        refine AllReadyH.cons (o := { dst := none, op := Op.store 29 (Operand.tmp 8) (Operand.tmp 26), type := 0, pos := "law.go:88", after := #[{ on := 5, ground := Ground.data }, { on := 3, ground := Ground.data }, { on := 6, ground := Ground.chain }, { on := 0, ground := Ground.phase }, { on := 1, ground := Ground.phase }, { on := 2, ground := Ground.phase }, { on := 3, ground := Ground.phase }, { on := 4, ground := Ground.phase }, { on := 5, ground := Ground.phase }, { on := 6, ground := Ground.phase }], guard := none }) rfl (fun K hK => ?_) AllReadyH.nil
        go_simp
        rw [← Q2.out]
        refine hK.out _ _ B2 (fun hHeld => ?_)
        clear hK K hHeld t0 t1 t2 t3 Q2 B1
        try simp only [Act.put, List.setIfInBounds_toArray, List.set_cons_zero, List.set_cons_succ]
        refine wpAnyH_done (by kernel_rfl) ?_ _
        have HS5 := Lib.hid (HEND.out V6 gu gv au pu av pv cu qu cv qv B2 HIU.out HIV.out)
        clear B2 HIU HIV
        go_wp2
        go_meet
        exact ⟨gu, gv, au, pu, av, pv, cu, qu, cv, qv, rfl, rfl, HS5⟩
      refine AllReadyH.cons (o := { dst := some 8, op := Op.alloc 29, type := 0, pos := "law.go:88", after := #[], guard := none }) rfl (fun K hK => ?_) AllReadyH.nil
      have HR := Lib.hid HR.out.alloc8
      go_simp
      refine hK.out _ _ HR.out.bel (fun hHeld => ?_)
      clear hK K hHeld
      try simp only [Act.put, List.setIfInBounds_toArray, List.set_cons_zero, List.set_cons_succ]
      generalize V1.alloc (.cells #[.slice none 0 0, .slice none 0 0] 29) = V2 at HR ⊢
      generalize V1.heap.size = gv at HR ⊢
      refine wpAnyH_ready (rs := [3, 4]) (by kernel_rfl) (by simp) ?_
      refine AllReadyH.cons (o := { dst := some 26, op := Op.call { callee := Callee.value (Operand.func 27), args := #[Operand.tmp 25], argTypes := #[29] }, type := 29, pos := "law.go:88", after := #[{ on := 2, ground := Ground.data }, { on := 1, ground := Ground.chain }], guard := none }) rfl (fun K hK => ?_) ?_
      · go_simp
        refine (HC2.out V2 HR.out.bel).mono ?_
        rintro e V3 ⟨av, cv, pv, qv, rfl, rA, tA, bA⟩
        rw [HNY.out, HMY.out]
        have HR := Lib.hid (HR.out.gotV bA rA tA)
        clear bA rA tA
        go_wp2_with (fail)
        refine hK.out _ _ HR.out.bel (fun hHeld => ?_)
        clear hK K hHeld
        try simp only [Act.put, List.setIfInBounds_toArray, List.set_cons_zero, List.set_cons_succ]
        refine wpAnyH_ready (rs := [4]) (by kernel_rfl) (by simp) ?_
        refine AllReadyH.cons (o := { dst := some 7, op := Op.alloc 29, type := 0, pos := "law.go:88", after := #[], guard := none }) rfl (fun K hK => ?_) AllReadyH.nil
        have HR := Lib.hid HR.out.alloc7
        go_simp
        refine hK.out _ _ HR.out.bel (fun hHeld => ?_)
        clear hK K hHeld
        try simp only [Act.put, List.setIfInBounds_toArray, List.set_cons_zero, List.set_cons_succ]
        generalize V3.alloc (.cells #[.slice none 0 0, .slice none 0 0] 29) = V4 at HR ⊢
        generalize V3.heap.size = gu at HR ⊢
        obtain ⟨⟨y0, y1, y2, y3⟩, V5, q1, B1, ⟨t0, t1, t2, t3⟩, V6, q2, B2, iu, iv⟩ := HR.out.stored HNX.out HMX.out HNY.out HMY.out
        have Q1 := Lib.hid q1
        have Q2 := Lib.hid q2
        have HIU := Lib.hid iu
        have HIV := Lib.hid iv
        clear q1 q2 iu iv HR
        refine wpAnyH_ready (rs := [6]) (by kernel_rfl) (by simp) ?_
        refine AllReadyH.cons (o := { dst := none, op := Op.store 29 (Operand.tmp 7) (Operand.tmp 24), type := 0, pos := "law.go:88", after := #[{ on := 4, ground := Ground.data }, { on := 1, ground := Ground.data }, { on := 3, ground := Ground.chain }, { on := 0, ground := Ground.phase }, { on := 1, ground := Ground.phase }, { on := 2, ground := Ground.textOnly Departure.lateStores }, { on := 3, ground := Ground.textOnly Departure.lateStoresUnsure }, { on := 4, ground := Ground.phase }, { on := 5, ground := Ground.phase }], guard := none }) rfl (fun K hK => ?_) AllReadyH.nil
        go_simp
        rw [← Q1.out]
        refine hK.out _ _ B1 (fun hHeld => ?_)
        clear hK K hHeld y0 y1 y2 y3 Q1
        try simp only [Act.put, List.setIfInBounds_toArray, List.set_cons_zero, List.set_cons_succ]
        refine wpAnyH_ready (rs := [7]) (by kernel_rfl) (by simp) ?_
        refine AllReadyH.cons (o := { dst := none, op := Op.store 29 (Operand.tmp 8) (Operand.tmp 26), type := 0, pos := "law.go:88", after := #[{ on := 5, ground := Ground.data }, { on := 3, ground := Ground.data }, { on := 6, ground := Ground.chain }, { on := 0, ground := Ground.phase }, { on := 1, ground := Ground.phase }, { on := 2, ground := Ground.phase }, { on := 3, ground := Ground.phase }, { on := 4, ground := Ground.phase }, { on := 5, ground := Ground.phase }, { on := 6, ground := Ground.phase }], guard := none }) rfl (fun K hK => ?_) AllReadyH.nil
        go_simp
        rw [← Q2.out]
        refine hK.out _ _ B2 (fun hHeld => ?_)
        clear hK K hHeld t0 t1 t2 t3 Q2 B1
        try simp only [Act.put, List.setIfInBounds_toArray, List.set_cons_zero, List.set_cons_succ]
        refine wpAnyH_done (by kernel_rfl) ?_ _
        have HS5 := Lib.hid (HEND.out V6 gu gv au pu av pv cu qu cv qv B2 HIU.out HIV.out)
        clear B2 HIU HIV
        go_wp2
        go_meet
        exact ⟨gu, gv, au, pu, av, pv, cu, qu, cv, qv, rfl, rfl, HS5⟩
      refine AllReadyH.cons (o := { dst := some 7, op := Op.alloc 29, type := 0, pos := "law.go:88", after := #[], guard := none }) rfl (fun K hK => ?_) AllReadyH.nil
      have HR := Lib.hid HR.out.alloc7
      go_simp
      refine hK.out _ _ HR.out.bel (fun hHeld => ?_)
      clear hK K hHeld
      try simp only [Act.put, List.setIfInBounds_toArray, List.set_cons_zero, List.set_cons_succ]
      generalize V2.alloc (.cells #[.slice none 0 0, .slice none 0 0] 29) = V3 at HR ⊢
      generalize V2.heap.size = gu at HR ⊢
      refine wpAnyH_ready (rs := [3]) (by kernel_rfl) (by simp) ?_
      refine AllReadyH.cons (o := { dst := some 26, op := Op.call { callee := Callee.value (Operand.func 27), args := #[Operand.tmp 25], argTypes := #[29] }, type := 29, pos := "law.go:88", after := #[{ on := 2, ground := Ground.data }, { on := 1, ground := Ground.chain }], guard := none }) rfl (fun K hK => ?_) AllReadyH.nil
      go_simp
      refine (HC2.out V3 HR.out.bel).mono ?_
      rintro e V4 ⟨av, cv, pv, qv, rfl, rA, tA, bA⟩
      rw [HNY.out, HMY.out]
      have HR := Lib.hid (HR.out.gotV bA rA tA)
      clear bA rA tA
      go_wp2_with (fail)
      refine hK.out _ _ HR.out.bel (fun hHeld => ?_)
      clear hK K hHeld
      try simp only [Act.put, List.setIfInBounds_toArray, List.set_cons_zero, List.set_cons_succ]
      obtain ⟨⟨y0, y1, y2, y3⟩, V5, q1, B1, ⟨t0, t1, t2, t3⟩, V6, q2, B2, iu, iv⟩ := HR.out.stored HNX.out HMX.out HNY.out HMY.out
      have Q1 := Lib.hid q1
      have Q2 := Lib.hid q2
      have HIU := Lib.hid iu
      have HIV := Lib.hid iv
      clear q1 q2 iu iv HR
      refine wpAnyH_ready (rs := [6]) (by kernel_rfl) (by simp) ?_
      refine AllReadyH.cons (o := { dst := none, op := Op.store 29 (Operand.tmp 7) (Operand.tmp 24), type := 0, pos := "law.go:88", after := #[{ on := 4, ground := Ground.data }, { on := 1, ground := Ground.data }, { on := 3, ground := Ground.chain }, { on := 0, ground := Ground.phase }, { on := 1, ground := Ground.phase }, { on := 2, ground := Ground.textOnly Departure.lateStores }, { on := 3, ground := Ground.textOnly Departure.lateStoresUnsure }, { on := 4, ground := Ground.phase }, { on := 5, ground := Ground.phase }], guard := none }) rfl (fun K hK => ?_) AllReadyH.nil
      go_simp
      rw [← Q1.out]
      refine hK.out _ _ B1 (fun hHeld => ?_)
      clear hK K hHeld y0 y1 y2 y3 Q1
      try simp only [Act.put, List.setIfInBounds_toArray, List.set_cons_zero, List.set_cons_succ]
      refine wpAnyH_ready (rs := [7]) (by kernel_rfl) (by simp) ?_
      refine AllReadyH.cons (o := { dst := none, op := Op.store 29 (Operand.tmp 8) (Operand.tmp 26), type := 0, pos := "law.go:88", after := #[{ on := 5, ground := Ground.data }, { on := 3, ground := Ground.data }, { on := 6, ground := Ground.chain }, { on := 0, ground := Ground.phase }, { on := 1, ground := Ground.phase }, { on := 2, ground := Ground.phase }, { on := 3, ground := Ground.phase }, { on := 4, ground := Ground.phase }, { on := 5, ground := Ground.phase }, { on := 6, ground := Ground.phase }], guard := none }) rfl (fun K hK => ?_) AllReadyH.nil
      go_simp
      rw [← Q2.out]
      refine hK.out _ _ B2 (fun hHeld => ?_)
      clear hK K hHeld t0 t1 t2 t3 Q2 B1
      try simp only [Act.put, List.setIfInBounds_toArray, List.set_cons_zero, List.set_cons_succ]
      refine wpAnyH_done (by kernel_rfl) ?_ _
      have HS5 := Lib.hid (HEND.out V6 gu gv au pu av pv cu qu cv qv B2 HIU.out HIV.out)
      clear B2 HIU HIV
      go_wp2
      go_meet
      exact ⟨gu, gv, au, pu, av, pv, cu, qu, cv, qv, rfl, rfl, HS5⟩
    refine AllReadyH.cons (o := { dst := some 7, op := Op.alloc 29, type := 0, pos := "law.go:88", after := #[], guard := none }) rfl (fun K hK => ?_) ?_
    · have HR := Lib.hid HR.out.alloc7
      go_simp
      refine hK.out _ _ HR.out.bel (fun hHeld => ?_)
      clear hK K hHeld
      try simp only [Act.put, List.setIfInBounds_toArray, List.set_cons_zero, List.set_cons_succ]
      generalize V0.alloc (.cells #[.slice none 0 0, .slice none 0 0] 29) = V1 at HR ⊢
      generalize V0.heap.size = gu at HR ⊢
      refine wpAnyH_ready (rs := [1, 5]) (by kernel_rfl) (by simp) ?_
      refine AllReadyH.cons (o := { dst := some 24, op := Op.call { callee := Callee.value (Operand.func 27), args := #[Operand.tmp 23], argTypes := #[29] }, type := 29, pos := "law.go:88", after := #[{ on := 0, ground := Ground.data }], guard := none }) rfl (fun K hK => ?_) ?_
      · go_simp
        refine (HC1.out V1 HR.out.bel).mono ?_
        rintro e V2 ⟨au, cu, pu, qu, rfl, rA, tA, bA⟩
        rw [HNX.out, HMX.out]
        have HR := Lib.hid (HR.out.gotU bA rA tA)
        clear bA rA tA
        go_wp2_with (fail)
        refine hK.out _ _ HR.out.bel (fun hHeld => ?_)
        clear hK K hHeld
        try simp only [Act.put, List.setIfInBounds_toArray, List.set_cons_zero, List.set_cons_succ]
        refine wpAnyH_ready (rs := [3, 5]) (by kernel_rfl) (by simp) ?_
        refine AllReadyH.cons (o := { dst := some 26, op := Op.call { callee := Callee.value (Operand.func 27), args := #[Operand.tmp 25], argTypes := #[29] }, type := 29, pos := "law.go:88", after := #[{ on := 2, ground := Ground.data }, { on := 1, ground := Ground.chain }], guard := none }) rfl (fun K hK => ?_) ?_
        · go_simp
          refine (HC2.out V2 HR.out.bel).mono ?_
          rintro e V3 ⟨av, cv, pv, qv, rfl, rA, tA, bA⟩
          rw [HNY.out, HMY.out]
          have HR := Lib.hid (HR.out.gotV bA rA tA)
          clear bA rA tA
          go_wp2_with (fail)
          refine hK.out _ _ HR.out.bel (fun hHeld => ?_)
          clear hK K hHeld
          try simp only [Act.put, List.setIfInBounds_toArray, List.set_cons_zero, List.set_cons_succ]
          refine wpAnyH_ready (rs := [5]) (by kernel_rfl) (by simp) ?_
          refine AllReadyH.cons (o := { dst := some 8, op := Op.alloc 29, type := 0, pos := "law.go:88", after := #[], guard := none }) rfl (fun K hK => ?_) AllReadyH.nil
          have HR := Lib.hid HR.out.alloc8
          go_simp
          refine hK.out _ _ HR.out.bel (fun hHeld => ?_)
          clear hK K hHeld
          try simp only [Act.put, List.setIfInBounds_toArray, List.set_cons_zero, List.set_cons_succ]
          generalize V3.alloc (.cells #[.slice none 0 0, .slice none 0 0] 29) = V4 at HR ⊢
          generalize V3.heap.size = gv at HR ⊢
          obtain ⟨⟨y0, y1, y2, y3⟩, V5, q1, B1, ⟨t0, t1, t2, t3⟩, V6, q2, B2, iu, iv⟩ := HR.out.stored HNX.out HMX.out HNY.out HMY.out
          have Q1 := Lib.hid q1
          have Q2 := Lib.hid q2
          have HIU := Lib.hid iu
          have HIV := Lib.hid iv
          clear q1 q2 iu iv HR
          refine wpAnyH_ready (rs := [6]) (by kernel_rfl) (by simp) ?_
          refine AllReadyH.cons (o := { dst := none, op := Op.store 29 (Operand.tmp 7) (Operand.tmp 24), type := 0, pos := "law.go:88", after := #[{ on := 4, ground := Ground.data }, { on := 1, ground := Ground.data }, { on := 3, ground := Ground.chain }, { on := 0, ground := Ground.phase }, { on := 1, ground := Ground.phase }, { on := 2, ground := Ground.textOnly Departure.lateStores }, { on := 3, ground := Ground.textOnly Departure.lateStoresUnsure }, { on := 4, ground := Ground.phase }, { on := 5, ground := Ground.phase }], guard := none }) rfl (fun K hK => ?_) AllReadyH.nil
          go_simp
          rw [← Q1.out]
          refine hK.out _ _ B1 (fun hHeld => ?_)
          clear hK K hHeld y0 y1 y2 y3 Q1
          try simp only [Act.put, List.setIfInBounds_toArray, List.set_cons_zero, List.set_cons_succ]
          refine wpAnyH_ready (rs := [7]) (by kernel_rfl) (by simp) ?_
          refine AllReadyH.cons (o := { dst := none, op := Op.store 29 (Operand.tmp 8) (Operand.tmp 26), type := 0, pos := "law.go:88", after := #[{ on := 5, ground := Ground.data }, { on := 3, ground := Ground.data }, { on := 6, ground := Ground.chain }, { on := 0, ground := Ground.phase }, { on := 1, ground := Ground.phase }, { on := 2, ground := Ground.phase }, { on := 3, ground := Ground.phase }, { on := 4, ground := Ground.phase }, { on := 5, ground := Ground.phase }, { on := 6, ground := Ground.phase }], guard := none }) rfl (fun K hK => ?_) AllReadyH.nil
          go_simp
          rw [← Q2.out]
          refine hK.out _ _ B2 (fun hHeld => ?_)
          clear hK K hHeld t0 t1 t2 t3 Q2 B1
          try simp only [Act.put, List.setIfInBounds_toArray, List.set_cons_zero, List.set_cons_succ]
          refine wpAnyH_done (by kernel_rfl) ?_ _
          have HS5 := Lib.hid (HEND.out V6 gu gv au pu av pv cu qu cv qv B2 HIU.out HIV.out)
          clear B2 HIU HIV
          go_wp2
          go_meet
          exact ⟨gu, gv, au, pu, av, pv, cu, qu, cv, qv, rfl, rfl, HS5⟩
        refine AllReadyH.cons (o := { dst := some 8, op := Op.alloc 29, type := 0, pos := "law.go:88", after := #[], guard := none }) rfl (fun K hK => ?_) AllReadyH.nil
        have HR := Lib.hid HR.out.alloc8
        go_simp
        refine hK.out _ _ HR.out.bel (fun hHeld => ?_)
        clear hK K hHeld
        try simp only [Act.put, List.setIfInBounds_toArray, List.set_cons_zero, List.set_cons_succ]
        generalize V2.alloc (.cells #[.slice none 0 0, .slice none 0 0] 29) = V3 at HR ⊢
        generalize V2.heap.size = gv at HR ⊢
        refine wpAnyH_ready (rs := [3]) (by kernel_rfl) (by simp) ?_
        refine AllReadyH.cons (o := { dst := some 26, op := Op.call { callee := Callee.value (Operand.func 27), args := #[Operand.tmp 25], argTypes := #[29] }, type := 29, pos := "law.go:88", after := #[{ on := 2, ground := Ground.data }, { on := 1, ground := Ground.chain }], guard := none }) rfl (fun K hK => ?_) AllReadyH.nil
        go_simp
        refine (HC2.out V3 HR.out.bel).mono ?_
        rintro e V4 ⟨av, cv, pv, qv, rfl, rA, tA, bA⟩
        rw [HNY.out, HMY.out]
        have HR := Lib.hid (HR.out.gotV bA rA tA)
        clear bA rA tA
        go_wp2_with (fail)
        refine hK.out _ _ HR.out.bel (fun hHeld => ?_)
        clear hK K hHeld
        try simp only [Act.put, List.setIfInBounds_toArray, List.set_cons_zero, List.set_cons_succ]
        obtain ⟨⟨y0, y1, y2, y3⟩, V5, q1, B1, ⟨t0, t1, t2, t3⟩, V6, q2, B2, iu, iv⟩ := HR.out.stored HNX.out HMX.out HNY.out HMY.out
        have Q1 := Lib.hid q1
        have Q2 := Lib.hid q2
        have HIU := Lib.hid iu
        have HIV := Lib.hid iv
        clear q1 q2 iu iv HR
        refine wpAnyH_ready (rs := [6]) (by kernel_rfl) (by simp) ?_
        refine AllReadyH.cons (o := { dst := none, op := Op.store 29 (Operand.tmp 7) (Operand.tmp 24), type := 0, pos := "law.go:88", after := #[{ on := 4, ground := Ground.data }, { on := 1, ground := Ground.data }, { on := 3, ground := Ground.chain }, { on := 0, ground := Ground.phase }, { on := 1, ground := Ground.phase }, { on := 2, ground := Ground.textOnly Departure.lateStores }, { on := 3, ground := Ground.textOnly Departure.lateStoresUnsure }, { on := 4, ground := Ground.phase }, { on := 5, ground := Ground.phase }], guard := none }) rfl (fun K hK => ?_) AllReadyH.nil
        go_simp
        rw [← Q1.out]
        refine hK.out _ _ B1 (fun hHeld => ?_)
        clear hK K hHeld y0 y1 y2 y3 Q1
        try simp only [Act.put, List.setIfInBounds_toArray, List.set_cons_zero, List.set_cons_succ]
        refine wpAnyH_ready (rs := [7]) (by kernel_rfl) (by simp) ?_
        refine AllReadyH.cons (o := { dst := none, op := Op.store 29 (Operand.tmp 8) (Operand.tmp 26), type := 0, pos := "law.go:88", after := #[{ on := 5, ground := Ground.data }, { on := 3, ground := Ground.data }, { on := 6, ground := Ground.chain }, { on := 0, ground := Ground.phase }, { on := 1, ground := Ground.phase }, { on := 2, ground := Ground.phase }, { on := 3, ground := Ground.phase }, { on := 4, ground := Ground.phase }, { on := 5, ground := Ground.phase }, { on := 6, ground := Ground.phase }], guard := none }) rfl (fun K hK => ?_) AllReadyH.nil
        go_simp
        rw [← Q2.out]
        refine hK.out _ _ B2 (fun hHeld => ?_)
        clear hK K hHeld t0 t1 t2 t3 Q2 B1
        try simp only [Act.put, List.setIfInBounds_toArray, List.set_cons_zero, List.set_cons_succ]
        refine wpAnyH_done (by kernel_rfl) ?_ _
        have HS5 := Lib.hid (HEND.out V6 gu gv au pu av pv cu qu cv qv B2 HIU.out HIV.out)
        clear B2 HIU HIV
        go_wp2
        go_meet
        exact ⟨gu, gv, au, pu, av, pv, cu, qu, cv, qv, rfl, rfl, HS5⟩
      refine AllReadyH.cons (o := { dst := some 8, op := Op.alloc 29, type := 0, pos := "law.go:88", after := #[], guard := none }) rfl (fun K hK => ?_) AllReadyH.nil
      have HR := Lib.hid HR.out.alloc8
      go_simp
      refine hK.out _ _ HR.out.bel (fun hHeld => ?_)
      clear hK K hHeld
      try simp only [Act.put, List.setIfInBounds_toArray, List.set_cons_zero, List.set_cons_succ]
      generalize V1.alloc (.cells #[.slice none 0 0, .slice none 0 0] 29) = V2 at HR ⊢
      generalize V1.heap.size = gv at HR ⊢
      refine wpAnyH_ready (rs := [1]) (by kernel_rfl) (by simp) ?_
      refine AllReadyH.cons (o := { dst := some 24, op := Op.call { callee := Callee.value (Operand.func 27), args := #[Operand.tmp 23], argTypes := #[29] }, type := 29, pos := "law.go:88", after := #[{ on := 0, ground := Ground.data }], guard := none }) rfl (fun K hK => ?_) AllReadyH.nil
      go_simp
      refine (HC1.out V2 HR.out.bel).mono ?_
      rintro e V3 ⟨au, cu, pu, qu, rfl, rA, tA, bA⟩
      rw [HNX.out, HMX.out]
      have HR := Lib.hid (HR.out.gotU bA rA tA)
      clear bA rA tA
      go_wp2_with (fail)
      refine hK.out _ _ HR.out.bel (fun hHeld => ?_)
      clear hK K hHeld
      try simp only [Act.put, List.setIfInBounds_toArray, List.set_cons_zero, List.set_cons_succ]
      refine wpAnyH_ready (rs := [3]) (by kernel_rfl) (by simp) ?_
      refine AllReadyH.cons (o := { dst := some 26, op := Op.call { callee := Callee.value (Operand.func 27), args := #[Operand.tmp 25], argTypes := #[29] }, type := 29, pos := "law.go:88", after := #[{ on := 2, ground := Ground.data }, { on := 1, ground := Ground.chain }], guard := none }) rfl (fun K hK => ?_) AllReadyH.nil
      go_simp
      refine (HC2.out V3 HR.out.bel).mono ?_
      rintro e V4 ⟨av, cv, pv, qv, rfl, rA, tA, bA⟩
      rw [HNY.out, HMY.out]
      have HR := Lib.hid (HR.out.gotV bA rA tA)
      clear bA rA tA
      go_wp2_with (fail)
      refine hK.out _ _ HR.out.bel (fun hHeld => ?_)
      clear hK K hHeld
      try simp only [Act.put, List.setIfInBounds_toArray, List.set_cons_zero, List.set_cons_succ]
      obtain ⟨⟨y0, y1, y2, y3⟩, V5, q1, B1, ⟨t0, t1, t2, t3⟩, V6, q2, B2, iu, iv⟩ := HR.out.stored HNX.out HMX.out HNY.out HMY.out
      have Q1 := Lib.hid q1
      have Q2 := Lib.hid q2
      have HIU := Lib.hid iu
      have HIV := Lib.hid iv
      clear q1 q2 iu iv HR
      refine wpAnyH_ready (rs := [6]) (by kernel_rfl) (by simp) ?_
      refine AllReadyH.cons (o := { dst := none, op := Op.store 29 (Operand.tmp 7) (Operand.tmp 24), type := 0, pos := "law.go:88", after := #[{ on := 4, ground := Ground.data }, { on := 1, ground := Ground.data }, { on := 3, ground := Ground.chain }, { on := 0, ground := Ground.phase }, { on := 1, ground := Ground.phase }, { on := 2, ground := Ground.textOnly Departure.lateStores }, { on := 3, ground := Ground.textOnly Departure.lateStoresUnsure }, { on := 4, ground := Ground.phase }, { on := 5, ground := Ground.phase }], guard := none }) rfl (fun K hK => ?_) AllReadyH.nil
      go_simp
      rw [← Q1.out]
      refine hK.out _ _ B1 (fun hHeld => ?_)
      clear hK K hHeld y0 y1 y2 y3 Q1
      try simp only [Act.put, List.setIfInBounds_toArray, List.set_cons_zero, List.set_cons_succ]
      refine wpAnyH_ready (rs := [7]) (by kernel_rfl) (by simp) ?_
      refine AllReadyH.cons (o := { dst := none, op := Op.store 29 (Operand.tmp 8) (Operand.tmp 26), type := 0, pos := "law.go:88", after := #[{ on := 5, ground := Ground.data }, { on := 3, ground := Ground.data }, { on := 6, ground := Ground.chain }, { on := 0, ground := Ground.phase }, { on := 1, ground := Ground.phase }, { on := 2, ground := Ground.phase }, { on := 3, ground := Ground.phase }, { on := 4, ground := Ground.phase }, { on := 5, ground := Ground.phase }, { on := 6, ground := Ground.phase }], guard := none }) rfl (fun K hK => ?_) AllReadyH.nil
      go_simp
      rw [← Q2.out]
      refine hK.out _ _ B2 (fun hHeld => ?_)
      clear hK K hHeld t0 t1 t2 t3 Q2 B1
      try simp only [Act.put, List.setIfInBounds_toArray, List.set_cons_zero, List.set_cons_succ]
      refine wpAnyH_done (by kernel_rfl) ?_ _
      have HS5 := Lib.hid (HEND.out V6 gu gv au pu av pv cu qu cv qv B2 HIU.out HIV.out)
      clear B2 HIU HIV
      go_wp2
      go_meet
      exact ⟨gu, gv, au, pu, av, pv, cu, qu, cv, qv, rfl, rfl, HS5⟩
    refine AllReadyH.cons (o := { dst := some 8, op := Op.alloc 29, type := 0, pos := "law.go:88", after := #[], guard := none }) rfl (fun K hK => ?_) AllReadyH.nil
    have HR := Lib.hid HR.out.alloc8
    go_simp
    refine hK.out _ _ HR.out.bel (fun hHeld => ?_)
    clear hK K hHeld
    try simp only [Act.put, List.setIfInBounds_toArray, List.set_cons_zero, List.set_cons_succ]
    generalize V0.alloc (.cells #[.slice none 0 0, .slice none 0 0] 29) = V1 at HR ⊢
    generalize V0.heap.size = gv at HR ⊢
    refine wpAnyH_ready (rs := [1, 4]) (by kernel_rfl) (by simp) ?_
    refine AllReadyH.cons (o := { dst := some 24, op := Op.call { callee := Callee.value (Operand.func 27), args := #[Operand.tmp 23], argTypes := #[29] }, type := 29, pos := "law.go:88", after := #[{ on := 0, ground := Ground.data }], guard := none }) rfl (fun K hK => ?_) ?_
    · go_simp
      refine (HC1.out V1 HR.out.bel).mono ?_
      rintro e V2 ⟨au, cu, pu, qu, rfl, rA, tA, bA⟩
      rw [HNX.out, HMX.out]
      have HR := Lib.hid (HR.out.gotU bA rA tA)
      clear bA rA tA
      go_wp2_with (fail)
      refine hK.out _ _ HR.out.bel (fun hHeld => ?_)
      clear hK K hHeld
      try simp only [Act.put, List.setIfInBounds_toArray, List.set_cons_zero, List.set_cons_succ]
      refine wpAnyH_ready (rs := [3, 4]) (by kernel_rfl) (by simp) ?_
      refine AllReadyH.cons (o := { dst := some 26, op := Op.call { callee := Callee.value (Operand.func 27), args := #[Operand.tmp 25], argTypes := #[29] }, type := 29, pos := "law.go:88", after := #[{ on := 2, ground := Ground.data }, { on := 1, ground := Ground.chain }], guard := none }) rfl (fun K hK => ?_) ?_
      · go_simp
        refine (HC2.out V2 HR.out.bel).mono ?_
        rintro e V3 ⟨av, cv, pv, qv, rfl, rA, tA, bA⟩
        rw [HNY.out, HMY.out]
        have HR := Lib.hid (HR.out.gotV bA rA tA)
        clear bA rA tA
        go_wp2_with (fail)
        refine hK.out _ _ HR.out.bel (fun hHeld => ?_)
        clear hK K hHeld
        try simp only [Act.put, List.setIfInBounds_toArray, List.set_cons_zero, List.set_cons_succ]
        refine wpAnyH_ready (rs := [4]) (by kernel_rfl) (by simp) ?_
        refine AllReadyH.cons (o := { dst := some 7, op := Op.alloc 29, type := 0, pos := "law.go:88", after := #[], guard := none }) rfl (fun K hK => ?_) AllReadyH.nil
        have HR := Lib.hid HR.out.alloc7
        go_simp
        refine hK.out _ _ HR.out.bel (fun hHeld => ?_)
        clear hK K hHeld
        try simp only [Act.put, List.setIfInBounds_toArray, List.set_cons_zero, List.set_cons_succ]
        generalize V3.alloc (.cells #[.slice none 0 0, .slice none 0 0] 29) = V4 at HR ⊢
        generalize V3.heap.size = gu at HR ⊢
        obtain ⟨⟨y0, y1, y2, y3⟩, V5, q1, B1, ⟨t0, t1, t2, t3⟩, V6, q2, B2, iu, iv⟩ := HR.out.stored HNX.out HMX.out HNY.out HMY.out
        have Q1 := Lib.hid q1
        have Q2 := Lib.hid q2
        have HIU := Lib.hid iu
        have HIV := Lib.hid iv
        clear q1 q2 iu iv HR
        refine wpAnyH_ready (rs := [6]) (by kernel_rfl) (by simp) ?_
        refine AllReadyH.cons (o := { dst := none, op := Op.store 29 (Operand.tmp 7) (Operand.tmp 24), type := 0, pos := "law.go:88", after := #[{ on := 4, ground := Ground.data }, { on := 1, ground := Ground.data }, { on := 3, ground := Ground.chain }, { on := 0, ground := Ground.phase }, { on := 1, ground := Ground.phase }, { on := 2, ground := Ground.textOnly Departure.lateStores }, { on := 3, ground := Ground.textOnly Departure.lateStoresUnsure }, { on := 4, ground := Ground.phase }, { on := 5, ground := Ground.phase }], guard := none }) rfl (fun K hK => ?_) AllReadyH.nil
        go_simp
        rw [← Q1.out]
        refine hK.out _ _ B1 (fun hHeld => ?_)
        clear hK K hHeld y0 y1 y2 y3 Q1
        try simp only [Act.put, List.setIfInBounds_toArray, List.set_cons_zero, List.set_cons_succ]
        refine wpAnyH_ready (rs := [7]) (by kernel_rfl) (by simp) ?_
        refine AllReadyH.cons (o := { dst := none, op := Op.store 29 (Operand.tmp 8) (Operand.tmp 26), type := 0, pos := "law.go:88", after := #[{ on := 5, ground := Ground.data }, { on := 3, ground := Ground.data }, { on := 6, ground := Ground.chain }, { on := 0, ground := Ground.phase }, { on := 1, ground := Ground.phase }, { on := 2, ground := Ground.phase }, { on := 3, ground := Ground.phase }, { on := 4, ground := Ground.phase }, { on := 5, ground := Ground.phase }, { on := 6, ground := Ground.phase }], guard := none }) rfl (fun K hK => ?_) AllReadyH.nil
        go_simp
        rw [← Q2.out]
        refine hK.out _ _ B2 (fun hHeld => ?_)
        clear hK K hHeld t0 t1 t2 t3 Q2 B1
        try simp only [Act.put, List.setIfInBounds_toArray, List.set_cons_zero, List.set_cons_succ]
        refine wpAnyH_done (by kernel_rfl) ?_ _
        have HS5 := Lib.hid (HEND.out V6 gu gv au pu av pv cu qu cv qv B2 HIU.out HIV.out)
        clear B2 HIU HIV
        go_wp2
        go_meet
        exact ⟨gu, gv, au, pu, av, pv, cu, qu, cv, qv, rfl, rfl, HS5⟩
      refine AllReadyH.cons (o := { dst := some 7, op := Op.alloc 29, type := 0, pos := "law.go:88", after := #[], guard := none }) rfl (fun K hK => ?_) AllReadyH.nil
      have HR := Lib.hid HR.out.alloc7
      go_simp
      refine hK.out _ _ HR.out.bel (fun hHeld => ?_)
      clear hK K hHeld
      try simp only [Act.put, List.setIfInBounds_toArray, List.set_cons_zero, List.set_cons_succ]
      generalize V2.alloc (.cells #[.slice none 0 0, .slice none 0 0] 29) = V3 at HR ⊢
      generalize V2.heap.size = gu at HR ⊢
      refine wpAnyH_ready (rs := [3]) (by kernel_rfl) (by simp) ?_
      refine AllReadyH.cons (o := { dst := some 26, op := Op.call { callee := Callee.value (Operand.func 27), args := #[Operand.tmp 25], argTypes := #[29] }, type := 29, pos := "law.go:88", after := #[{ on := 2, ground := Ground.data }, { on := 1, ground := Ground.chain }], guard := none }) rfl (fun K hK => ?_) AllReadyH.nil
      go_simp
      refine (HC2.out V3 HR.out.bel).mono ?_
      rintro e V4 ⟨av, cv, pv, qv, rfl, rA, tA, bA⟩
      rw [HNY.out, HMY.out]
      have HR := Lib.hid (HR.out.gotV bA rA tA)
      clear bA rA tA
      go_wp2_with (fail)
      refine hK.out _ _ HR.out.bel (fun hHeld => ?_)
      clear hK K hHeld
      try simp only [Act.put, List.setIfInBounds_toArray, List.set_cons_zero, List.set_cons_succ]
      obtain ⟨⟨y0, y1, y2, y3⟩, V5, q1, B1, ⟨t0, t1, t2, t3⟩, V6, q2, B2, iu, iv⟩ := HR.out.stored HNX.out HMX.out HNY.out HMY.out
      have Q1 := Lib.hid q1
      have Q2 := Lib.hid q2
      have HIU := Lib.hid iu
      have HIV := Lib.hid iv
      clear q1 q2 iu iv HR
      refine wpAnyH_ready (rs := [6]) (by kernel_rfl) (by simp) ?_
      refine AllReadyH.cons (o := { dst := none, op := Op.store 29 (Operand.tmp 7) (Operand.tmp 24), type := 0, pos := "law.go:88", after := #[{ on := 4, ground := Ground.data }, { on := 1, ground := Ground.data }, { on := 3, ground := Ground.chain }, { on := 0, ground := Ground.phase }, { on := 1, ground := Ground.phase }, { on := 2, ground := Ground.textOnly Departure.lateStores }, { on := 3, ground := Ground.textOnly Departure.lateStoresUnsure }, { on := 4, ground := Ground.phase }, { on := 5, ground := Ground.phase }], guard := none }) rfl (fun K hK => ?_) AllReadyH.nil
      go_simp
      rw [← Q1.out]
      refine hK.out _ _ B1 (fun hHeld => ?_)
      clear hK K hHeld y0 y1 y2 y3 Q1
      try simp only [Act.put, List.setIfInBounds_toArray, List.set_cons_zero, List.set_cons_succ]
      refine wpAnyH_ready (rs := [7]) (by kernel_rfl) (by simp) ?_
      refine AllReadyH.cons (o := { dst := none, op := Op.store 29 (Operand.tmp 8) (Operand.tmp 26), type := 0, pos := "law.go:88", after := #[{ on := 5, ground := Ground.data }, { on := 3, ground := Ground.data }, { on := 6, ground := Ground.chain }, { on := 0, ground := Ground.phase }, { on := 1, ground := Ground.phase }, { on := 2, ground := Ground.phase }, { on := 3, ground := Ground.phase }, { on := 4, ground := Ground.phase }, { on := 5, ground := Ground.phase }, { on := 6, ground := Ground.phase }], guard := none }) rfl (fun K hK => ?_) AllReadyH.nil
      go_simp
      rw [← Q2.out]
      refine hK.out _ _ B2 (fun hHeld => ?_)
      clear hK K hHeld t0 t1 t2 t3 Q2 B1
      try simp only [Act.put, List.setIfInBounds_toArray, List.set_cons_zero, List.set_cons_succ]
      refine wpAnyH_done (by kernel_rfl) ?_ _
      have HS5 := Lib.hid (HEND.out V6 gu gv au pu av pv cu qu cv qv B2 HIU.out HIV.out)
      clear B2 HIU HIV
      go_wp2
      go_meet
      exact ⟨gu, gv, au, pu, av, pv, cu, qu, cv, qv, rfl, rfl, HS5⟩
    refine AllReadyH.cons (o := { dst := some 7, op := Op.alloc 29, type := 0, pos := "law.go:88", after := #[], guard := none }) rfl (fun K hK => ?_) AllReadyH.nil
    have HR := Lib.hid HR.out.alloc7
    go_simp
    refine hK.out _ _ HR.out.bel (fun hHeld => ?_)
    clear hK K hHeld
    try simp only [Act.put, List.setIfInBounds_toArray, List.set_cons_zero, List.set_cons_succ]
    generalize V1.alloc (.cells #[.slice none 0 0, .slice none 0 0] 29) = V2 at HR ⊢
    generalize V1.heap.size = gu at HR ⊢
    refine wpAnyH_ready (rs := [1]) (by kernel_rfl) (by simp) ?_
    refine AllReadyH.cons (o := { dst := some 24, op := Op.call { callee := Callee.value (Operand.func 27), args := #[Operand.tmp 23], argTypes := #[29] }, type := 29, pos := "law.go:88", after := #[{ on := 0, ground := Ground.data }], guard := none }) rfl (fun K hK => ?_) AllReadyH.nil
    go_simp
    refine (HC1.out V2 HR.out.bel).mono ?_
    rintro e V3 ⟨au, cu, pu, qu, rfl, rA, tA, bA⟩
    rw [HNX.out, HMX.out]
    have HR := Lib.hid (HR.out.gotU bA rA tA)
    clear bA rA tA
    go_wp2_with (fail)
    refine hK.out _ _ HR.out.bel (fun hHeld => ?_)
    clear hK K hHeld
    try simp only [Act.put, List.setIfInBounds_toArray, List.set_cons_zero, List.set_cons_succ]
    refine wpAnyH_ready (rs := [3]) (by kernel_rfl) (by simp) ?_
    refine AllReadyH.cons (o := { dst := some 26, op := Op.call { callee := Callee.value (Operand.func 27), args := #[Operand.tmp 25], argTypes := #[29] }, type := 29, pos := "law.go:88", after := #[{ on := 2, ground := Ground.data }, { on := 1, ground := Ground.chain }], guard := none }) rfl (fun K hK => ?_) AllReadyH.nil
    go_simp
    refine (HC2.out V3 HR.out.bel).mono ?_
    rintro e V4 ⟨av, cv, pv, qv, rfl, rA, tA, bA⟩
    rw [HNY.out, HMY.out]
    have HR := Lib.hid (HR.out.gotV bA rA tA)
    clear bA rA tA
    go_wp2_with (fail)
    refine hK.out _ _ HR.out.bel (fun hHeld => ?_)
    clear hK K hHeld
    try simp only [Act.put, List.setIfInBounds_toArray, List.set_cons_zero, List.set_cons_succ]
    obtain ⟨⟨y0, y1, y2, y3⟩, V5, q1, B1, ⟨t0, t1, t2, t3⟩, V6, q2, B2, iu, iv⟩ := HR.out.stored HNX.out HMX.out HNY.out HMY.out
    have Q1 := Lib.hid q1
    have Q2 := Lib.hid q2
    have HIU := Lib.hid iu
    have HIV := Lib.hid iv
    clear q1 q2 iu iv HR
    refine wpAnyH_ready (rs := [6]) (by kernel_rfl) (by simp) ?_
    refine AllReadyH.cons (o := { dst := none, op := Op.store 29 (Operand.tmp 7) (Operand.tmp 24), type := 0, pos := "law.go:88", after := #[{ on := 4, ground := Ground.data }, { on := 1, ground := Ground.data }, { on := 3, ground := Ground.chain }, { on := 0, ground := Ground.phase }, { on := 1, ground := Ground.phase }, { on := 2, ground := Ground.textOnly Departure.lateStores }, { on := 3, ground := Ground.textOnly Departure.lateStoresUnsure }, { on := 4, ground := Ground.phase }, { on := 5, ground := Ground.phase }], guard := none }) rfl (fun K hK => ?_) AllReadyH.nil
    go_simp
    rw [← Q1.out]
    refine hK.out _ _ B1 (fun hHeld => ?_)
    clear hK K hHeld y0 y1 y2 y3 Q1
    try simp only [Act.put, List.setIfInBounds_toArray, List.set_cons_zero, List.set_cons_succ]
    refine wpAnyH_ready (rs := [7]) (by kernel_rfl) (by simp) ?_
    refine AllReadyH.cons (o := { dst := none, op := Op.store 29 (Operand.tmp 8) (Operand.tmp 26), type := 0, pos := "law.go:88", after := #[{ on := 5, ground := Ground.data }, { on := 3, ground := Ground.data }, { on := 6, ground := Ground.chain }, { on := 0, ground := Ground.phase }, { on := 1, ground := Ground.phase }, { on := 2, ground := Ground.phase }, { on := 3, ground := Ground.phase }, { on := 4, ground := Ground.phase }, { on := 5, ground := Ground.phase }, { on := 6, ground := Ground.phase }], guard := none }) rfl (fun K hK => ?_) AllReadyH.nil
    go_simp
    rw [← Q2.out]
    refine hK.out _ _ B2 (fun hHeld => ?_)
    clear hK K hHeld t0 t1 t2 t3 Q2 B1
    try simp only [Act.put, List.setIfInBounds_toArray, List.set_cons_zero, List.set_cons_succ]
    refine wpAnyH_done (by kernel_rfl) ?_ _
    have HS5 := Lib.hid (HEND.out V6 gu gv au pu av pv cu qu cv qv B2 HIU.out HIV.out)
    clear B2 HIU HIV
    go_wp2
    go_meet
    exact ⟨gu, gv, au, pu, av, pv, cu, qu, cv, qv, rfl, rfl, HS5⟩
  case rest =>
    obtain ⟨gu, gv, au, pu, av, pv, cu, qu, cv, qv, rfl, rfl, HS⟩ := hcut
    have ex0 : wc.cell? ⟨g, 0, none⟩ = some (.slice ax nx cx) := (HS.out.all ⟨g, ax, cx, nx, px, qx, mx, x⟩ (by simp)).c0
    have ex1 : wc.cell? ⟨g, 1, none⟩ = some (.slice px mx qx) := (HS.out.all ⟨g, ax, cx, nx, px, qx, mx, x⟩ (by simp)).c1
    have ey0 : wc.cell? ⟨g + 1, 0, none⟩ = some (.slice ay ny cy) := (HS.out.all ⟨g + 1, ay, cy, ny, py, qy, my, y⟩ (by simp)).c0
    have ey1 : wc.cell? ⟨g + 1, 1, none⟩ = some (.slice py my qy) := (HS.out.all ⟨g + 1, ay, cy, ny, py, qy, my, y⟩ (by simp)).c1
    have ltx : g < wc.heap.size := (HS.out.all ⟨g, ax, cx, nx, px, qx, mx, x⟩ (by simp)).l.lt
    have lty : g + 1 < wc.heap.size := (HS.out.all ⟨g + 1, ay, cy, ny, py, qy, my, y⟩ (by simp)).l.lt
    have HZ := Lib.hid (cat_valF (e := ⟨g, ax, cx, nx, px, qx, mx, x⟩) (f := ⟨g + 1, ay, cy, ny, py, qy, my, y⟩) (HS.out.all ⟨g, ax, cx, nx, px, qx, mx, x⟩ (by simp)) (HS.out.all ⟨g + 1, ay, cy, ny, py, qy, my, y⟩ (by simp)) (by show mx + my ≤ 12; omega))
    have Z : Calls Try.prog 11 #[.agg #[.slice ax nx cx, .slice px mx qx], .agg #[.slice ay ny cy, .slice py my qy]] wc (MakesLinF (catLin x y) (catOk x y) wc) := HZ.out
    have HZ := Lib.hid Z
    clear Z
    go_wp2_with (fail)
    refine HZ.out.mono ?_
    rintro e w5 ⟨ac, cc, pc, qc, psc, hwc, rfl, rc, bc, fc, fpc, fec, b5⟩
    clear HZ
    generalize hnc : (catLin x y).base.length = nc
    generalize hmc : (catLin x y).ps.length = mc
    generalize catOk x y = okc
    have H1 := Lib.hid (Lv.In.made hwc rc bc fc fec (Nat.le_refl _) hnc hmc)
    have b6 := below_alloc w5 (.cells #[.slice ac nc cc, .slice pc mc qc] 29)
    have l9 := Lies.new w5 29 [.slice ac nc cc, .slice pc mc qc]
    have HB5 := Lib.hid (b5.trans (b6.mono b5.size))
    have H1 := Lib.hid (H1.out.below b6)
    have HL9 : Hid (Lies (w5.alloc (.cells #[.slice ac nc cc, .slice pc mc qc] 29)) w5.heap.size 29 [.slice ac nc cc, .slice pc mc qc]) := Lib.hid l9
    have ex0' : (w5.alloc (.cells #[.slice ac nc cc, .slice pc mc qc] 29)).cell? ⟨g, 0, none⟩ = some (.slice ax nx cx) := (HB5.out.cell (p := ⟨g, 0, none⟩) ltx).trans ex0
    have ex1' : (w5.alloc (.cells #[.slice ac nc cc, .slice pc mc qc] 29)).cell? ⟨g, 1, none⟩ = some (.slice px mx qx) := (HB5.out.cell (p := ⟨g, 1, none⟩) ltx).trans ex1
    clear hwc rc bc fc fpc fec b5 b6 l9 hnc hmc ex0 ex1 ey0 ey1
    go_wp2_with (fail)
    generalize w5.alloc (.cells #[.slice ac nc cc, .slice pc mc qc] 29) = W6 at H1 HB5 HL9 ex0' ex1' ⊢
    generalize w5.heap.size = g9 at HL9 ⊢
    have Z : Calls Try.prog 9 #[.slice ax nx cx, .slice px mx qx] W6 (MakesLinF x true W6) := of_valF (e := ⟨g, ax, cx, nx, px, qx, mx, x⟩) ((HS.out.below HB5.out).all ⟨g, ax, cx, nx, px, qx, mx, x⟩ (by simp)) HX.out (by show mx ≤ 12; omega)
    have HZ := Lib.hid Z
    clear Z
    refine HZ.out.mono ?_
    rintro e w7 ⟨ao, co, po, qo, pso, hwo, rfl, ro, bo, fo, fpo, feo, b7⟩
    clear HZ ex0' ex1'
    generalize hno : x.base.length = no
    generalize hmo : x.ps.length = mo
    have H2 := Lib.hid (Lv.In.made hwo ro bo fo feo HB5.out.size hno hmo)
    have b8 := below_alloc w7 (.cells #[.slice ao no co, .slice po mo qo] 29)
    have l11 : Lies (w7.alloc (.cells #[.slice ao no co, .slice po mo qo] 29)) w7.heap.size 29 [.slice ao no co, .slice po mo qo] := Lies.new w7 _ _
    have l9 := (HL9.out.below b7 HL9.out.lt).alloc (.cells #[.slice ao no co, .slice po mo qo] 29)
    have H1 := Lib.hid ((H1.out.below b7).below b8)
    have H2 := Lib.hid (H2.out.below b8)
    have B8 := Lib.hid ((HB5.out.trans (b7.mono HB5.out.size)).trans (b8.mono (Nat.le_trans HB5.out.size b7.size)))
    have c90 := l9.cell 0
    have c91 := l9.cell 1
    have c10 := l11.cell 0
    have c11 := l11.cell 1
    simp only [List.getElem?_cons_zero, List.getElem?_cons_succ] at c90 c91 c10 c11
    have lt9 := HL9.out.lt
    have lt9' : g9 < w7.heap.size := (HL9.out.below b7 HL9.out.lt).lt
    have HK : Hid (Kp wc ((w7.alloc (.cells #[.slice ao no co, .slice po mo qo] 29)).alloc (.cells #[.slice ac nc cc, .slice pc mc qc, .slice ao no co, .slice po mo qo] 29)) (w7.heap.size + 1) ⟨ac, cc, nc, pc, qc, mc, psc⟩ ⟨ao, co, no, po, qo, mo, pso⟩) := Lib.hid (by
      have b9 := below_alloc (w7.alloc (.cells #[.slice ao no co, .slice po mo qo] 29)) (.cells #[.slice ac nc cc, .slice pc mc qc, .slice ao no co, .slice po mo qo] 29)
      refine ⟨B8.out.trans (b9.mono B8.out.size), ?_, H1.out.below b9, H2.out.below b9⟩
      have := Lies.new (w7.alloc (.cells #[.slice ao no co, .slice po mo qo] 29)) 29 [.slice ac nc cc, .slice pc mc qc, .slice ao no co, .slice po mo qo]
      simpa using this)
    clear hwo ro bo fo fpo feo b7 b8 l9 l11 hno hmo H1 H2 B8 HL9 HB5
    go_wp2
    generalize (w7.alloc (.cells #[.slice ao no co, .slice po mo qo] 29)).alloc (.cells #[.slice ac nc cc, .slice pc mc qc, .slice ao no co, .slice po mo qo] 29) = W9 at HK ⊢
    clear c90 c91 c10 c11 lt9 lt9' ltx lty
    generalize hgs : w7.heap.size + 1 = gs at HK ⊢
    clear hgs
    generalize w7.heap.size = g11
    go_loopw [45] (fun i wr => ∃ k : Nat, k ≤ 2 ∧ i = .int .i64 k ∧ Hid (Kp wc wr gs ⟨ac, cc, nc, pc, qc, mc, psc⟩ ⟨ao, co, no, po, qo, mo, pso⟩)) (fun i _ => 2 - (intOf i).toNat)
    case atStart => exact ⟨0, by omega, rfl, HK⟩
    case round =>
      clear HK
      obtain ⟨k, hk, rfl, HK⟩ := hrel
      obtain rfl | rfl | rfl : k = 0 ∨ k = 1 ∨ k = 2 := by omega
      · have HB := Lib.hid (HK.out.box ⟨ac, cc, nc, pc, qc, mc, psc⟩ (.inl rfl))
        have hnn := HB.out.lens
        simp only at hnn
        have s0 := HK.out.sl.cell 0
        have s1 := HK.out.sl.cell 1
        simp only [List.getElem?_cons_zero, List.getElem?_cons_succ] at s0 s1
        have b0 := HB.out.box.cell 0
        simp only [List.getElem?_cons_zero] at b0
        clear HK
        go_wp2
        clear s0 s1 b0
        generalize wr.alloc (.cells #[.slice ac nc cc, .slice pc mc qc] 29) = WB at HB ⊢
        generalize wr.heap.size = gb at HB ⊢
        go_loopw [52] (fun i wr => ∃ j : Nat, j ≤ nc ∧ i = .int .i64 j ∧ Hid (Kb wc wr gs ⟨ac, cc, nc, pc, qc, mc, psc⟩ ⟨ao, co, no, po, qo, mo, pso⟩ gb ⟨ac, cc, nc, pc, qc, mc, psc⟩)) (fun i _ => nc - (intOf i).toNat)
        case atStart => exact ⟨0, by omega, rfl, HB⟩
        case round =>
          clear HB
          obtain ⟨j, hj, rfl, HB⟩ := hrel
          by_cases hlt : j < nc
          · obtain ⟨g1, z, ea, hc, hf, HB2⟩ := HB.out.baseAt (j := j) hlt
            have ea' : ac = some ⟨g1, 0, none⟩ := ea
            have HEA := Lib.hid ea'
            have HB3 := Lib.hid (HB2 (wrap64 (z + 3)))
            have b0 := HB.out.box.cell 0
            simp only [List.getElem?_cons_zero] at b0
            rw [ea'] at b0
            clear HB2 ea ea'
            go_wp2
            go_roundw
            case rel => exact ⟨j + 1, by omega, by go_num, HB3⟩
            case measure => simp [intOf]; omega
          · obtain rfl : nc = j := by omega
            have b1 := HB.out.box.cell 1
            simp only [List.getElem?_cons_zero, List.getElem?_cons_succ] at b1
            go_wp2
            clear b1
            go_loopw [66] (fun i wr => ∃ j : Nat, j ≤ mc ∧ i = .int .i64 j ∧ Hid (Kb wc wr gs ⟨ac, cc, nc, pc, qc, mc, psc⟩ ⟨ao, co, no, po, qo, mo, pso⟩ gb ⟨ac, cc, nc, pc, qc, mc, psc⟩)) (fun i _ => mc - (intOf i).toNat)
            case atStart => exact ⟨0, by omega, rfl, HB⟩
            case round =>
              clear HB
              obtain ⟨i, hi, rfl, HB⟩ := hrel
              by_cases hlt2 : i < mc
              · obtain ⟨gp, b, l, d, ep, hc, hll, HR0⟩ := HB.out.rowAt (i := i) hlt2
                have ep' : pc = some ⟨gp, 0, none⟩ := ep
                have HRR := Lib.hid HR0
                clear ep HR0
                subst ep'
                go_wp2
                clear hc
                go_loopw [72] (fun i wr => ∃ j : Nat, j ≤ l ∧ i = .int .i64 j ∧ Hid (Kb wc wr gs ⟨ac, cc, nc, (some ⟨gp, 0, none⟩), qc, mc, psc⟩ ⟨ao, co, no, po, qo, mo, pso⟩ gb ⟨ac, cc, nc, (some ⟨gp, 0, none⟩), qc, mc, psc⟩)) (fun i _ => l - (intOf i).toNat)
                case atStart => exact ⟨0, by omega, rfl, HB⟩
                case round =>
                  clear HB
                  obtain ⟨j, hj2, rfl, HB⟩ := hrel
                  by_cases hlt3 : j < l
                  · obtain ⟨g2, z, ea, hc, hf, HB2⟩ := HRR.out _ HB.out j hlt3
                    have HB3 := Lib.hid (HB2 (wrap64 (z + 3)))
                    clear HB2
                    subst ea
                    go_wp2
                    go_roundw
                    case rel => exact ⟨j + 1, by omega, by go_num, HB3⟩
                    case measure => simp [intOf]; omega
                  · obtain rfl : l = j := by omega
                    go_wp2
                    go_roundw
                    case rel => exact ⟨i + 1, by omega, by go_num, HB⟩
                    case measure => simp [intOf]; omega
              · obtain rfl : mc = i := by omega
                have HK := Lib.hid HB.out.kp
                go_wp2
                go_roundw
                case rel => exact ⟨1, by omega, by go_num, HK⟩
                case measure => simp [intOf]
      · have HB := Lib.hid (HK.out.box ⟨ao, co, no, po, qo, mo, pso⟩ (.inr rfl))
        have hnn := HB.out.lens
        simp only at hnn
        have s0 := HK.out.sl.cell 2
        have s1 := HK.out.sl.cell 3
        simp only [List.getElem?_cons_zero, List.getElem?_cons_succ] at s0 s1
        have b0 := HB.out.box.cell 0
        simp only [List.getElem?_cons_zero] at b0
        clear HK
        go_wp2
        clear s0 s1 b0
        generalize wr.alloc (.cells #[.slice ao no co, .slice po mo qo] 29) = WB at HB ⊢
        generalize wr.heap.size = gb at HB ⊢
        go_loopw [52] (fun i wr => ∃ j : Nat, j ≤ no ∧ i = .int .i64 j ∧ Hid (Kb wc wr gs ⟨ac, cc, nc, pc, qc, mc, psc⟩ ⟨ao, co, no, po, qo, mo, pso⟩ gb ⟨ao, co, no, po, qo, mo, pso⟩)) (fun i _ => no - (intOf i).toNat)
        case atStart => exact ⟨0, by omega, rfl, HB⟩
        case round =>
          clear HB
          obtain ⟨j, hj, rfl, HB⟩ := hrel
          by_cases hlt : j < no
          · obtain ⟨g1, z, ea, hc, hf, HB2⟩ := HB.out.baseAt (j := j) hlt
            have ea' : ao = some ⟨g1, 0, none⟩ := ea
            have HEA := Lib.hid ea'
            have HB3 := Lib.hid (HB2 (wrap64 (z + 3)))
            have b0 := HB.out.box.cell 0
            simp only [List.getElem?_cons_zero] at b0
            rw [ea'] at b0
            clear HB2 ea ea'
            go_wp2
            go_roundw
            case rel => exact ⟨j + 1, by omega, by go_num, HB3⟩
            case measure => simp [intOf]; omega
          · obtain rfl : no = j := by omega
            have b1 := HB.out.box.cell 1
            simp only [List.getElem?_cons_zero, List.getElem?_cons_succ] at b1
            go_wp2
            clear b1
            go_loopw [66] (fun i wr => ∃ j : Nat, j ≤ mo ∧ i = .int .i64 j ∧ Hid (Kb wc wr gs ⟨ac, cc, nc, pc, qc, mc, psc⟩ ⟨ao, co, no, po, qo, mo, pso⟩ gb ⟨ao, co, no, po, qo, mo, pso⟩)) (fun i _ => mo - (intOf i).toNat)
            case atStart => exact ⟨0, by omega, rfl, HB⟩
            case round =>
              clear HB
              obtain ⟨i, hi, rfl, HB⟩ := hrel
              by_cases hlt2 : i < mo
              · obtain ⟨gp, b, l, d, ep, hc, hll, HR0⟩ := HB.out.rowAt (i := i) hlt2
                have ep' : po = some ⟨gp, 0, none⟩ := ep
                have HRR := Lib.hid HR0
                clear ep HR0
                subst ep'
                go_wp2
                clear hc
                go_loopw [72] (fun i wr => ∃ j : Nat, j ≤ l ∧ i = .int .i64 j ∧ Hid (Kb wc wr gs ⟨ac, cc, nc, pc, qc, mc, psc⟩ ⟨ao, co, no, (some ⟨gp, 0, none⟩), qo, mo, pso⟩ gb ⟨ao, co, no, (some ⟨gp, 0, none⟩), qo, mo, pso⟩)) (fun i _ => l - (intOf i).toNat)
                case atStart => exact ⟨0, by omega, rfl, HB⟩
                case round =>
                  clear HB
                  obtain ⟨j, hj2, rfl, HB⟩ := hrel
                  by_cases hlt3 : j < l
                  · obtain ⟨g2, z, ea, hc, hf, HB2⟩ := HRR.out _ HB.out j hlt3
                    have HB3 := Lib.hid (HB2 (wrap64 (z + 3)))
                    clear HB2
                    subst ea
                    go_wp2
                    go_roundw
                    case rel => exact ⟨j + 1, by omega, by go_num, HB3⟩
                    case measure => simp [intOf]; omega
                  · obtain rfl : l = j := by omega
                    go_wp2
                    go_roundw
                    case rel => exact ⟨i + 1, by omega, by go_num, HB⟩
                    case measure => simp [intOf]; omega
              · obtain rfl : mo = i := by omega
                have HK := Lib.hid HB.out.kp
                go_wp2
                go_roundw
                case rel => exact ⟨2, by omega, by go_num, HK⟩
                case measure => simp [intOf]
      · have HS := Lib.hid (HS.out.below HK.out.bel)
        clear HK
        have ex0 : wr.cell? ⟨g, 0, none⟩ = some (.slice ax nx cx) := (HS.out.all ⟨g, ax, cx, nx, px, qx, mx, x⟩ (by simp)).c0
        have ex1 : wr.cell? ⟨g, 1, none⟩ = some (.slice px mx qx) := (HS.out.all ⟨g, ax, cx, nx, px, qx, mx, x⟩ (by simp)).c1
        have ey0 : wr.cell? ⟨g + 1, 0, none⟩ = some (.slice ay ny cy) := (HS.out.all ⟨g + 1, ay, cy, ny, py, qy, my, y⟩ (by simp)).c0
        have ey1 : wr.cell? ⟨g + 1, 1, none⟩ = some (.slice py my qy) := (HS.out.all ⟨g + 1, ay, cy, ny, py, qy, my, y⟩ (by simp)).c1
        have eu0 : wr.cell? ⟨gu, 0, none⟩ = some (.slice au nx cu) := (HS.out.all ⟨gu, au, cu, nx, pu, qu, mx, x⟩ (by simp)).c0
        have eu1 : wr.cell? ⟨gu, 1, none⟩ = some (.slice pu mx qu) := (HS.out.all ⟨gu, au, cu, nx, pu, qu, mx, x⟩ (by simp)).c1
        have ev0 : wr.cell? ⟨gv, 0, none⟩ = some (.slice av ny cv) := (HS.out.all ⟨gv, av, cv, ny, pv, qv, my, y⟩ (by simp)).c0
        have ev1 : wr.cell? ⟨gv, 1, none⟩ = some (.slice pv my qv) := (HS.out.all ⟨gv, av, cv, ny, pv, qv, my, y⟩ (by simp)).c1
        have Z : Calls Try.prog 17 #[.agg #[.slice ax nx cx, .slice px mx qx], .agg #[.slice au nx cu, .slice pu mx qu]] wr (TellsB true wr) := same_val (e := ⟨g, ax, cx, nx, px, qx, mx, x⟩) (f := ⟨gu, au, cu, nx, pu, qu, mx, x⟩) (by simp) (HS.out.all ⟨g, ax, cx, nx, px, qx, mx, x⟩ (by simp)) (HS.out.all ⟨gu, au, cu, nx, pu, qu, mx, x⟩ (by simp))
        have HZ := Lib.hid Z
        clear Z
        go_wp2_with (fail)
        refine HZ.out.mono ?_
        rintro e W6 ⟨rfl, b⟩
        clear HZ
        clear ex0 ex1 ey0 ey1 eu0 eu1 ev0 ev1
        have HS := Lib.hid (HS.out.below b)
        clear b
        have ex0 : W6.cell? ⟨g, 0, none⟩ = some (.slice ax nx cx) := (HS.out.all ⟨g, ax, cx, nx, px, qx, mx, x⟩ (by simp)).c0
        have ex1 : W6.cell? ⟨g, 1, none⟩ = some (.slice px mx qx) := (HS.out.all ⟨g, ax, cx, nx, px, qx, mx, x⟩ (by simp)).c1
        have ey0 : W6.cell? ⟨g + 1, 0, none⟩ = some (.slice ay ny cy) := (HS.out.all ⟨g + 1, ay, cy, ny, py, qy, my, y⟩ (by simp)).c0
        have ey1 : W6.cell? ⟨g + 1, 1, none⟩ = some (.slice py my qy) := (HS.out.all ⟨g + 1, ay, cy, ny, py, qy, my, y⟩ (by simp)).c1
        have eu0 : W6.cell? ⟨gu, 0, none⟩ = some (.slice au nx cu) := (HS.out.all ⟨gu, au, cu, nx, pu, qu, mx, x⟩ (by simp)).c0
        have eu1 : W6.cell? ⟨gu, 1, none⟩ = some (.slice pu mx qu) := (HS.out.all ⟨gu, au, cu, nx, pu, qu, mx, x⟩ (by simp)).c1
        have ev0 : W6.cell? ⟨gv, 0, none⟩ = some (.slice av ny cv) := (HS.out.all ⟨gv, av, cv, ny, pv, qv, my, y⟩ (by simp)).c0
        have ev1 : W6.cell? ⟨gv, 1, none⟩ = some (.slice pv my qv) := (HS.out.all ⟨gv, av, cv, ny, pv, qv, my, y⟩ (by simp)).c1
        have Z : Calls Try.prog 17 #[.agg #[.slice ay ny cy, .slice py my qy], .agg #[.slice av ny cv, .slice pv my qv]] W6 (TellsB true W6) := same_val (e := ⟨g + 1, ay, cy, ny, py, qy, my, y⟩) (f := ⟨gv, av, cv, ny, pv, qv, my, y⟩) (by simp) (HS.out.all ⟨g + 1, ay, cy, ny, py, qy, my, y⟩ (by simp)) (HS.out.all ⟨gv, av, cv, ny, pv, qv, my, y⟩ (by simp))
        have HZ := Lib.hid Z
        clear Z
        go_wp2_with (fail)
        refine HZ.out.mono ?_
        rintro e W7 ⟨rfl, b⟩
        clear HZ
        clear ex0 ex1 ey0 ey1 eu0 eu1 ev0 ev1
        have HS := Lib.hid (HS.out.below b)
        clear b
        have ex0 : W7.cell? ⟨g, 0, none⟩ = some (.slice ax nx cx) := (HS.out.all ⟨g, ax, cx, nx, px, qx, mx, x⟩ (by simp)).c0
        have ex1 : W7.cell? ⟨g, 1, none⟩ = some (.slice px mx qx) := (HS.out.all ⟨g, ax, cx, nx, px, qx, mx, x⟩ (by simp)).c1
        have ey0 : W7.cell? ⟨g + 1, 0, none⟩ = some (.slice ay ny cy) := (HS.out.all ⟨g + 1, ay, cy, ny, py, qy, my, y⟩ (by simp)).c0
        have ey1 : W7.cell? ⟨g + 1, 1, none⟩ = some (.slice py my qy) := (HS.out.all ⟨g + 1, ay, cy, ny, py, qy, my, y⟩ (by simp)).c1
        have eu0 : W7.cell? ⟨gu, 0, none⟩ = some (.slice au nx cu) := (HS.out.all ⟨gu, au, cu, nx, pu, qu, mx, x⟩ (by simp)).c0
        have eu1 : W7.cell? ⟨gu, 1, none⟩ = some (.slice pu mx qu) := (HS.out.all ⟨gu, au, cu, nx, pu, qu, mx, x⟩ (by simp)).c1
        have ev0 : W7.cell? ⟨gv, 0, none⟩ = some (.slice av ny cv) := (HS.out.all ⟨gv, av, cv, ny, pv, qv, my, y⟩ (by simp)).c0
        have ev1 : W7.cell? ⟨gv, 1, none⟩ = some (.slice pv my qv) := (HS.out.all ⟨gv, av, cv, ny, pv, qv, my, y⟩ (by simp)).c1
        have HZ := Lib.hid (wakes_any W7)
        go_wp2_with (fail)
        refine HZ.out.mono ?_
        rintro e W8 ⟨rfl, b⟩
        have HB := Lib.hid (HS.out.bel.trans (b.mono HS.out.bel.size))
        clear HZ HS b
        go_wp2
        go_ret
        exact ⟨rfl, HB.out⟩
end Go.Proofs.Ytmbkiefbchjofaa

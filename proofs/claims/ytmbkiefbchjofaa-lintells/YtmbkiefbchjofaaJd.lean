/- The walk of the law LinTells. -/
import Derived.Test.YtmbkiefbchjofaaHb
import Derived.Test.YtmbkiefbchjofaaJa
import Derived.Test.YtmbkiefbchjofaaJb
import Derived.Test.YtmbkiefbchjofaaJc
import Derived.Deep.RegionHeld3
import Derived.Deep.CutBlock
import Derived.Deep.DeepCutAuto
import Derived.Deep.CutRange
namespace Go.Proofs.Ytmbkiefbchjofaa
open Go.ChangeShapes Go.WideShapes Go.ChangeAt Go.RowKit

theorem of_valM {e : Bx} {W : World} (he : e.In W) (hs : Short e.x) : Calls Try.prog 9 #[.slice e.a e.n e.c, .slice e.pa e.m e.pc] W (MakesLin (ofLin e.x.base e.x.ps) (ofOk e.x.base e.x.ps) W) := by
  have := of9 e.a e.pa e.c e.pc e.x.base e.x.ps W he.base he.ps (by have := hs.base; omega) (fun j => by have := hs.each j; omega) (by have := hs.few; omega)
  rw [he.len, he.num] at this
  exact this.mono fun _ _ h => h.lin
theorem ofref_val {e : Bx} {W : World} (he : e.In W) (hs : Short e.x) : Calls Try.prog 10 #[.slice e.a e.n e.c, .slice e.pa e.m e.pc] W (MakesLin (ofLin e.x.base e.x.ps) (ofOk e.x.base e.x.ps) W) := by
  have := ofLin_any e.a e.pa e.c e.pc e.x.base e.x.ps W he.base he.ps (by have := hs.base; omega) (fun j => by have := hs.each j; omega) (by have := hs.few; omega)
  rw [he.len, he.num] at this
  exact this
theorem catref_val {e f : Bx} {W : World} (he : e.In W) (hf : f.In W) (hs : e.m + f.m ≤ 900) : Calls Try.prog 12 #[e.val, f.val] W (MakesLin (catLin e.x f.x) (catOk e.x f.x) W) := by
  have := catLin_any e.a e.pa f.a f.pa e.c e.pc f.c f.pc e.x f.x W he.base he.ps hf.base hf.ps (by rw [he.num, hf.num]; exact hs)
  rw [he.len, he.num, hf.len, hf.num] at this
  exact this
theorem cmpref_val {e f : Bx} {W : World} (he : e.In W) (hf : f.In W) : Calls Try.prog 19 #[e.val, f.val] W (Tells (cmpLin e.x f.x) W) := by
  have := compareLin_any e.a e.pa f.a f.pa e.c e.pc f.c f.pc e.x f.x W he.base he.ps hf.base hf.ps
  rw [he.len, he.num, hf.len, hf.num] at this
  exact this

set_option maxHeartbeats 8000000 in
set_option maxRecDepth 100000 in
theorem tells_walk (a0 p0 a1 p1 : Option Addr) (l0 c0 m0 q0 l1 c1 m1 q1 : Nat) (z0 z1 : List Int) (r0 r1 : List Rw) (w : World) (K0 : Hid (Came w a0 l0 c0 z0)) (J0 : Hid (CameRows w p0 m0 q0 r0)) (K1 : Hid (Came w a1 l1 c1 z1)) (J1 : Hid (CameRows w p1 m1 q1 r1)) :
    Calls Try.prog 3 #[.agg #[.slice a0 l0 c0, .slice p0 m0 q0], .agg #[.slice a1 l1 c1, .slice p1 m1 q1]] w (True_ w) := by
  obtain ⟨x, hx⟩ : ∃ x, x = rawLin l0 z0 r0 := ⟨_, rfl⟩
  obtain ⟨y, hy⟩ : ∃ y, y = rawLin l1 z1 r1 := ⟨_, rfl⟩
  have HSX : Hid (Short x) := Lib.hid (by rw [hx]; exact raw_short _ _ _)
  have HSY : Hid (Short y) := Lib.hid (by rw [hy]; exact raw_short _ _ _)
  have HC1 : Hid (∀ V, Below w.heap.size w V → Calls Try.prog 8 #[.agg #[.slice a0 l0 c0, .slice p0 m0 q0]] V (MakesLin1 x V)) := Lib.hid (fun V b => by
    rw [hx]; exact of_any a0 p0 l0 c0 m0 q0 z0 r0 V (K0.out.below b) (J0.out.below b))
  have HC2 : Hid (∀ V, Below w.heap.size w V → Calls Try.prog 8 #[.agg #[.slice a1 l1 c1, .slice p1 m1 q1]] V (MakesLin1 y V)) := Lib.hid (fun V b => by
    rw [hy]; exact of_any a1 p1 l1 c1 m1 q1 z1 r1 V (K1.out.below b) (J1.out.below b))
  clear hx hy K0 K1 J0 J1
  have HB4 : Hid (Below w.heap.size w ((w.alloc (.cells #[.slice a0 l0 c0, .slice p0 m0 q0] 25)).alloc (.cells #[.slice a1 l1 c1, .slice p1 m1 q1] 25))) := Lib.hid (((Below.refl _ _).alloc (Nat.le_refl _) _).alloc (by simp) _)
  have HL0 : Hid (Lies ((w.alloc (.cells #[.slice a0 l0 c0, .slice p0 m0 q0] 25)).alloc (.cells #[.slice a1 l1 c1, .slice p1 m1 q1] 25)) w.heap.size 25 [.slice a0 l0 c0, .slice p0 m0 q0]) := Lib.hid ((Lies.new w 25 [.slice a0 l0 c0, .slice p0 m0 q0]).alloc _)
  have HL1 : Hid (Lies ((w.alloc (.cells #[.slice a0 l0 c0, .slice p0 m0 q0] 25)).alloc (.cells #[.slice a1 l1 c1, .slice p1 m1 q1] 25)) (w.heap.size + 1) 25 [.slice a1 l1 c1, .slice p1 m1 q1]) := Lib.hid (by
    have := Lies.new (w.alloc (.cells #[.slice a0 l0 c0, .slice p0 m0 q0] 25)) 25 [.slice a1 l1 c1, .slice p1 m1 q1]
    simpa using this)
  generalize hnx : x.base.length = nx
  generalize hmx : x.ps.length = mx
  generalize hny : y.base.length = ny
  generalize hmy : y.ps.length = my
  have HNX := Lib.hid hnx
  have HMX := Lib.hid hmx
  have HNY := Lib.hid hny
  have HMY := Lib.hid hmy
  have lx := HSX.out.few
  have ly := HSY.out.few
  rw [hmx] at lx
  rw [hmy] at ly
  clear hnx hmx hny hmy
  go_enter Try.func3, Try.ntmps3
  go_upto_region 1 with (fail)
  generalize (w.alloc (.cells #[.slice a0 l0 c0, .slice p0 m0 q0] 25)).alloc (.cells #[.slice a1 l1 c1, .slice p1 m1 q1] 25) = W4 at HB4 HL0 HL1 ⊢
  generalize w.heap.size = gb at HL0 HL1 ⊢
  go_cut [5, 6] (fun p q wx => ∃ (gx gy : Nat) (ax px ay py : Option Addr) (cx qx cy qy : Nat), p = .pointer (some ⟨gx, 0, none⟩) ∧ q = .pointer (some ⟨gy, 0, none⟩) ∧ Hid (Sts w [⟨gx, ax, cx, nx, px, qx, mx, x⟩, ⟨gy, ay, cy, ny, py, qy, my, y⟩] wx))
  case first =>
    have HEND : Hid (∀ (W : World) (gx gy : Nat) (ax px ay py : Option Addr) (cx qx cy qy : Nat), Below W4.heap.size W4 W → Bx.In ⟨gx, ax, cx, nx, px, qx, mx, x⟩ W → Bx.In ⟨gy, ay, cy, ny, py, qy, my, y⟩ W → Sts w [⟨gx, ax, cx, nx, px, qx, mx, x⟩, ⟨gy, ay, cy, ny, py, qy, my, y⟩] W) := Lib.hid (fun W gx gy ax px ay py cx qx cy qy b iu iv => by
      refine ⟨HB4.out.trans (b.mono HB4.out.size), fun e he => ?_⟩
      simp only [List.mem_cons, List.not_mem_nil, or_false] at he
      rcases he with rfl | rfl
      · exact iu
      · exact iv)
    have D1 : Hid (∀ V, Below W4.heap.size W4 V → Calls Try.prog 8 #[.agg #[.slice a0 l0 c0, .slice p0 m0 q0]] V (MakesLin1 x V)) := Lib.hid (fun V b => HC1.out V (HB4.out.trans (b.mono HB4.out.size)))
    have D2 : Hid (∀ V, Below W4.heap.size W4 V → Calls Try.prog 8 #[.agg #[.slice a1 l1 c1, .slice p1 m1 q1]] V (MakesLin1 y V)) := Lib.hid (fun V b => HC2.out V (HB4.out.trans (b.mono HB4.out.size)))
    clear HC1 HC2
    have HC1 := D1
    have HC2 := D2
    clear D1 D2
    have bd : Below W4.heap.size W4 W4.drew := ⟨rfl, rfl, rfl, Nat.le_refl _, fun _ _ => rfl⟩
    have e00 := HL0.out.cell 0
    have e01 := HL0.out.cell 1
    have e10 := HL1.out.cell 0
    have e11 := HL1.out.cell 1
    simp only [List.getElem?_cons_zero, List.getElem?_cons_succ] at e00 e01 e10 e11
    have lt0 := HL0.out.lt
    have lt1 := HL1.out.lt
    clear HL0 HL1 HB4
    refine wp_region_held_drew (S := fun w' => Below W4.heap.size W4 w') (by kernel_rfl) bd (fun hHeld => ?_)
    clear hHeld
    refine wpAnyH_take (i := 0) (oi := { dst := some 15, op := Op.load 25 (Operand.tmp 2), type := 25, pos := "law.go:43", after := #[], guard := none }) (v := ?_) rfl (by kernel_rfl) (by kernel_rfl) (by kernel_rfl) (fun _ _ _ h => h) (Or.inl ⟨by rfl, ?_⟩) bd ?_
    rotate_left
    · intro w hSw
      have f0 := (hSw.cell (p := ⟨gb, 0, none⟩) lt0).trans e00
      have f1 := (hSw.cell (p := ⟨gb, 1, none⟩) lt0).trans e01
      go_simp
      try with_reducible rfl
    try simp only [Act.put, List.setIfInBounds_toArray, List.set_cons_zero, List.set_cons_succ]
    refine wpAnyH_take (i := 2) (oi := { dst := some 17, op := Op.load 25 (Operand.tmp 3), type := 25, pos := "law.go:43", after := #[], guard := none }) (v := ?_) rfl (by kernel_rfl) (by kernel_rfl) (by kernel_rfl) (fun _ _ _ h => h) (Or.inl ⟨by rfl, ?_⟩) bd ?_
    rotate_left
    · intro w hSw
      have f0 := (hSw.cell (p := ⟨gb + 1, 0, none⟩) lt1).trans e10
      have f1 := (hSw.cell (p := ⟨gb + 1, 1, none⟩) lt1).trans e11
      go_simp
      try with_reducible rfl
    try simp only [Act.put, List.setIfInBounds_toArray, List.set_cons_zero, List.set_cons_succ]
    have HR : Hid (CpSt W4 W4.drew x y none none none none) := Lib.hid (CpSt.start bd)
    generalize W4.drew = V0 at HR ⊢
    clear bd
    refine wpAnyH_ready (rs := [1, 4, 5]) (by kernel_rfl) (by simp) ?_
    refine AllReadyH.cons (o := { dst := some 16, op := Op.call { callee := Callee.value (Operand.func 8), args := #[Operand.tmp 15], argTypes := #[25] }, type := 29, pos := "law.go:43", after := #[{ on := 0, ground := Ground.data }], guard := none }) rfl (fun K hK => ?_) ?_
    · go_simp
      refine (HC1.out V0 HR.out.bel).mono ?_
      rintro e V1 ⟨ax, cx, px, qx, rfl, rA, tA, bA⟩
      rw [HNX.out, HMX.out]
      have HR := Lib.hid (HR.out.gotU bA rA tA)
      clear bA rA tA
      go_wp2_with (fail)
      refine hK.out _ _ HR.out.bel (fun hHeld => ?_)
      clear hK K hHeld
      try simp only [Act.put, List.setIfInBounds_toArray, List.set_cons_zero, List.set_cons_succ]
      refine wpAnyH_ready (rs := [3, 4, 5]) (by kernel_rfl) (by simp) ?_
      refine AllReadyH.cons (o := { dst := some 18, op := Op.call { callee := Callee.value (Operand.func 8), args := #[Operand.tmp 17], argTypes := #[25] }, type := 29, pos := "law.go:43", after := #[{ on := 2, ground := Ground.data }, { on := 1, ground := Ground.chain }], guard := none }) rfl (fun K hK => ?_) ?_
      · go_simp
        refine (HC2.out V1 HR.out.bel).mono ?_
        rintro e V2 ⟨ay, cy, py, qy, rfl, rA, tA, bA⟩
        rw [HNY.out, HMY.out]
        have HR := Lib.hid (HR.out.gotV bA rA tA)
        clear bA rA tA
        go_wp2_with (fail)
        refine hK.out _ _ HR.out.bel (fun hHeld => ?_)
        clear hK K hHeld
        try simp only [Act.put, List.setIfInBounds_toArray, List.set_cons_zero, List.set_cons_succ]
        refine wpAnyH_ready (rs := [4, 5]) (by kernel_rfl) (by simp) ?_
        refine AllReadyH.cons (o := { dst := some 5, op := Op.alloc 29, type := 0, pos := "law.go:43", after := #[], guard := none }) rfl (fun K hK => ?_) ?_
        · have HR := Lib.hid HR.out.alloc7
          go_simp
          refine hK.out _ _ HR.out.bel (fun hHeld => ?_)
          clear hK K hHeld
          try simp only [Act.put, List.setIfInBounds_toArray, List.set_cons_zero, List.set_cons_succ]
          generalize V2.alloc (.cells #[.slice none 0 0, .slice none 0 0] 29) = V3 at HR ⊢
          generalize V2.heap.size = gx at HR ⊢
          refine wpAnyH_ready (rs := [5]) (by kernel_rfl) (by simp) ?_
          refine AllReadyH.cons (o := { dst := some 6, op := Op.alloc 29, type := 0, pos := "law.go:43", after := #[], guard := none }) rfl (fun K hK => ?_) AllReadyH.nil
          have HR := Lib.hid HR.out.alloc8
          go_simp
          refine hK.out _ _ HR.out.bel (fun hHeld => ?_)
          clear hK K hHeld
          try simp only [Act.put, List.setIfInBounds_toArray, List.set_cons_zero, List.set_cons_succ]
          generalize V3.alloc (.cells #[.slice none 0 0, .slice none 0 0] 29) = V4 at HR ⊢
          generalize V3.heap.size = gy at HR ⊢
          obtain ⟨⟨y0, y1, y2, y3⟩, V5, q1', B1, ⟨t0, t1, t2, t3⟩, V6, q2', B2, iu, iv⟩ := HR.out.stored HNX.out HMX.out HNY.out HMY.out
          have Q1 := Lib.hid q1'
          have Q2 := Lib.hid q2'
          have HIU := Lib.hid iu
          have HIV := Lib.hid iv
          clear q1' q2' iu iv HR
          refine wpAnyH_ready (rs := [6]) (by kernel_rfl) (by simp) ?_
          refine AllReadyH.cons (o := { dst := none, op := Op.store 29 (Operand.tmp 5) (Operand.tmp 16), type := 0, pos := "law.go:43", after := #[{ on := 4, ground := Ground.data }, { on := 1, ground := Ground.data }, { on := 3, ground := Ground.chain }, { on := 0, ground := Ground.phase }, { on := 1, ground := Ground.phase }, { on := 2, ground := Ground.textOnly Departure.lateStores }, { on := 3, ground := Ground.textOnly Departure.lateStoresUnsure }, { on := 4, ground := Ground.phase }, { on := 5, ground := Ground.phase }], guard := none }) rfl (fun K hK => ?_) AllReadyH.nil
          go_simp
          rw [← Q1.out]
          refine hK.out _ _ B1 (fun hHeld => ?_)
          clear hK K hHeld y0 y1 y2 y3 Q1
          try simp only [Act.put, List.setIfInBounds_toArray, List.set_cons_zero, List.set_cons_succ]
          refine wpAnyH_ready (rs := [7]) (by kernel_rfl) (by simp) ?_
          refine AllReadyH.cons (o := { dst := none, op := Op.store 29 (Operand.tmp 6) (Operand.tmp 18), type := 0, pos := "law.go:43", after := #[{ on := 5, ground := Ground.data }, { on := 3, ground := Ground.data }, { on := 6, ground := Ground.chain }, { on := 0, ground := Ground.phase }, { on := 1, ground := Ground.phase }, { on := 2, ground := Ground.phase }, { on := 3, ground := Ground.phase }, { on := 4, ground := Ground.phase }, { on := 5, ground := Ground.phase }, { on := 6, ground := Ground.phase }], guard := none }) rfl (fun K hK => ?_) AllReadyH.nil
          go_simp
          rw [← Q2.out]
          refine hK.out _ _ B2 (fun hHeld => ?_)
          clear hK K hHeld t0 t1 t2 t3 Q2 B1
          try simp only [Act.put, List.setIfInBounds_toArray, List.set_cons_zero, List.set_cons_succ]
          refine wpAnyH_done (by kernel_rfl) ?_ _
          have HS5 := Lib.hid (HEND.out V6 gx gy ax px ay py cx qx cy qy B2 HIU.out HIV.out)
          clear B2 HIU HIV
          go_wp2
          go_meet
          exact ⟨gx, gy, ax, px, ay, py, cx, qx, cy, qy, rfl, rfl, HS5⟩
        refine AllReadyH.cons (o := { dst := some 6, op := Op.alloc 29, type := 0, pos := "law.go:43", after := #[], guard := none }) rfl (fun K hK => ?_) AllReadyH.nil
        have HR := Lib.hid HR.out.alloc8
        go_simp
        refine hK.out _ _ HR.out.bel (fun hHeld => ?_)
        clear hK K hHeld
        try simp only [Act.put, List.setIfInBounds_toArray, List.set_cons_zero, List.set_cons_succ]
        generalize V2.alloc (.cells #[.slice none 0 0, .slice none 0 0] 29) = V3 at HR ⊢
        generalize V2.heap.size = gy at HR ⊢
        refine wpAnyH_ready (rs := [4]) (by kernel_rfl) (by simp) ?_
        refine AllReadyH.cons (o := { dst := some 5, op := Op.alloc 29, type := 0, pos := "law.go:43", after := #[], guard := none }) rfl (fun K hK => ?_) AllReadyH.nil
        have HR := Lib.hid HR.out.alloc7
        go_simp
        refine hK.out _ _ HR.out.bel (fun hHeld => ?_)
        clear hK K hHeld
        try simp only [Act.put, List.setIfInBounds_toArray, List.set_cons_zero, List.set_cons_succ]
        generalize V3.alloc (.cells #[.slice none 0 0, .slice none 0 0] 29) = V4 at HR ⊢
        generalize V3.heap.size = gx at HR ⊢
        obtain ⟨⟨y0, y1, y2, y3⟩, V5, q1', B1, ⟨t0, t1, t2, t3⟩, V6, q2', B2, iu, iv⟩ := HR.out.stored HNX.out HMX.out HNY.out HMY.out
        have Q1 := Lib.hid q1'
        have Q2 := Lib.hid q2'
        have HIU := Lib.hid iu
        have HIV := Lib.hid iv
        clear q1' q2' iu iv HR
        refine wpAnyH_ready (rs := [6]) (by kernel_rfl) (by simp) ?_
        refine AllReadyH.cons (o := { dst := none, op := Op.store 29 (Operand.tmp 5) (Operand.tmp 16), type := 0, pos := "law.go:43", after := #[{ on := 4, ground := Ground.data }, { on := 1, ground := Ground.data }, { on := 3, ground := Ground.chain }, { on := 0, ground := Ground.phase }, { on := 1, ground := Ground.phase }, { on := 2, ground := Ground.textOnly Departure.lateStores }, { on := 3, ground := Ground.textOnly Departure.lateStoresUnsure }, { on := 4, ground := Ground.phase }, { on := 5, ground := Ground.phase }], guard := none }) rfl (fun K hK => ?_) AllReadyH.nil
        go_simp
        rw [← Q1.out]
        refine hK.out _ _ B1 (fun hHeld => ?_)
        clear hK K hHeld y0 y1 y2 y3 Q1
        try simp only [Act.put, List.setIfInBounds_toArray, List.set_cons_zero, List.set_cons_succ]
        refine wpAnyH_ready (rs := [7]) (by kernel_rfl) (by simp) ?_
        refine AllReadyH.cons (o := { dst := none, op := Op.store 29 (Operand.tmp 6) (Operand.tmp 18), type := 0, pos := "law.go:43", after := #[{ on := 5, ground := Ground.data }, { on := 3, ground := Ground.data }, { on := 6, ground := Ground.chain }, { on := 0, ground := Ground.phase }, { on := 1, ground := Ground.phase }, { on := 2, ground := Ground.phase }, { on := 3, ground := Ground.phase }, { on := 4, ground := Ground.phase }, { on := 5, ground := Ground.phase }, { on := 6, ground := Ground.phase }], guard := none }) rfl (fun K hK => ?_) AllReadyH.nil
        go_simp
        rw [← Q2.out]
        refine hK.out _ _ B2 (fun hHeld => ?_)
        clear hK K hHeld t0 t1 t2 t3 Q2 B1
        try simp only [Act.put, List.setIfInBounds_toArray, List.set_cons_zero, List.set_cons_succ]
        refine wpAnyH_done (by kernel_rfl) ?_ _
        have HS5 := Lib.hid (HEND.out V6 gx gy ax px ay py cx qx cy qy B2 HIU.out HIV.out)
        clear B2 HIU HIV
        go_wp2
        go_meet
        exact ⟨gx, gy, ax, px, ay, py, cx, qx, cy, qy, rfl, rfl, HS5⟩
      refine AllReadyH.cons (o := { dst := some 5, op := Op.alloc 29, type := 0, pos := "law.go:43", after := #[], guard := none }) rfl (fun K hK => ?_) ?_
      · have HR := Lib.hid HR.out.alloc7
        go_simp
        refine hK.out _ _ HR.out.bel (fun hHeld => ?_)
        clear hK K hHeld
        try simp only [Act.put, List.setIfInBounds_toArray, List.set_cons_zero, List.set_cons_succ]
        generalize V1.alloc (.cells #[.slice none 0 0, .slice none 0 0] 29) = V2 at HR ⊢
        generalize V1.heap.size = gx at HR ⊢
        refine wpAnyH_ready (rs := [3, 5]) (by kernel_rfl) (by simp) ?_
        refine AllReadyH.cons (o := { dst := some 18, op := Op.call { callee := Callee.value (Operand.func 8), args := #[Operand.tmp 17], argTypes := #[25] }, type := 29, pos := "law.go:43", after := #[{ on := 2, ground := Ground.data }, { on := 1, ground := Ground.chain }], guard := none }) rfl (fun K hK => ?_) ?_
        · go_simp
          refine (HC2.out V2 HR.out.bel).mono ?_
          rintro e V3 ⟨ay, cy, py, qy, rfl, rA, tA, bA⟩
          rw [HNY.out, HMY.out]
          have HR := Lib.hid (HR.out.gotV bA rA tA)
          clear bA rA tA
          go_wp2_with (fail)
          refine hK.out _ _ HR.out.bel (fun hHeld => ?_)
          clear hK K hHeld
          try simp only [Act.put, List.setIfInBounds_toArray, List.set_cons_zero, List.set_cons_succ]
          refine wpAnyH_ready (rs := [5]) (by kernel_rfl) (by simp) ?_
          refine AllReadyH.cons (o := { dst := some 6, op := Op.alloc 29, type := 0, pos := "law.go:43", after := #[], guard := none }) rfl (fun K hK => ?_) AllReadyH.nil
          have HR := Lib.hid HR.out.alloc8
          go_simp
          refine hK.out _ _ HR.out.bel (fun hHeld => ?_)
          clear hK K hHeld
          try simp only [Act.put, List.setIfInBounds_toArray, List.set_cons_zero, List.set_cons_succ]
          generalize V3.alloc (.cells #[.slice none 0 0, .slice none 0 0] 29) = V4 at HR ⊢
          generalize V3.heap.size = gy at HR ⊢
          obtain ⟨⟨y0, y1, y2, y3⟩, V5, q1', B1, ⟨t0, t1, t2, t3⟩, V6, q2', B2, iu, iv⟩ := HR.out.stored HNX.out HMX.out HNY.out HMY.out
          have Q1 := Lib.hid q1'
          have Q2 := Lib.hid q2'
          have HIU := Lib.hid iu
          have HIV := Lib.hid iv
          clear q1' q2' iu iv HR
          refine wpAnyH_ready (rs := [6]) (by kernel_rfl) (by simp) ?_
          refine AllReadyH.cons (o := { dst := none, op := Op.store 29 (Operand.tmp 5) (Operand.tmp 16), type := 0, pos := "law.go:43", after := #[{ on := 4, ground := Ground.data }, { on := 1, ground := Ground.data }, { on := 3, ground := Ground.chain }, { on := 0, ground := Ground.phase }, { on := 1, ground := Ground.phase }, { on := 2, ground := Ground.textOnly Departure.lateStores }, { on := 3, ground := Ground.textOnly Departure.lateStoresUnsure }, { on := 4, ground := Ground.phase }, { on := 5, ground := Ground.phase }], guard := none }) rfl (fun K hK => ?_) AllReadyH.nil
          go_simp
          rw [← Q1.out]
          refine hK.out _ _ B1 (fun hHeld => ?_)
          clear hK K hHeld y0 y1 y2 y3 Q1
          try simp only [Act.put, List.setIfInBounds_toArray, List.set_cons_zero, List.set_cons_succ]
          refine wpAnyH_ready (rs := [7]) (by kernel_rfl) (by simp) ?_
          refine AllReadyH.cons (o := { dst := none, op := Op.store 29 (Operand.tmp 6) (Operand.tmp 18), type := 0, pos := "law.go:43", after := #[{ on := 5, ground := Ground.data }, { on := 3, ground := Ground.data }, { on := 6, ground := Ground.chain }, { on := 0, ground := Ground.phase }, { on := 1, ground := Ground.phase }, { on := 2, ground := Ground.phase }, { on := 3, ground := Ground.phase }, { on := 4, ground := Ground.phase }, { on := 5, ground := Ground.phase }, { on := 6, ground := Ground.phase }], guard := none }) rfl (fun K hK => ?_) AllReadyH.nil
          go_simp
          rw [← Q2.out]
          refine hK.out _ _ B2 (fun hHeld => ?_)
          clear hK K hHeld t0 t1 t2 t3 Q2 B1
          try simp only [Act.put, List.setIfInBounds_toArray, List.set_cons_zero, List.set_cons_succ]
          refine wpAnyH_done (by kernel_rfl) ?_ _
          have HS5 := Lib.hid (HEND.out V6 gx gy ax px ay py cx qx cy qy B2 HIU.out HIV.out)
          clear B2 HIU HIV
          go_wp2
          go_meet
          exact ⟨gx, gy, ax, px, ay, py, cx, qx, cy, qy, rfl, rfl, HS5⟩
        refine AllReadyH.cons (o := { dst := some 6, op := Op.alloc 29, type := 0, pos := "law.go:43", after := #[], guard := none }) rfl (fun K hK => ?_) AllReadyH.nil
        have HR := Lib.hid HR.out.alloc8
        go_simp
        refine hK.out _ _ HR.out.bel (fun hHeld => ?_)
        clear hK K hHeld
        try simp only [Act.put, List.setIfInBounds_toArray, List.set_cons_zero, List.set_cons_succ]
        generalize V2.alloc (.cells #[.slice none 0 0, .slice none 0 0] 29) = V3 at HR ⊢
        generalize V2.heap.size = gy at HR ⊢
        refine wpAnyH_ready (rs := [3]) (by kernel_rfl) (by simp) ?_
        refine AllReadyH.cons (o := { dst := some 18, op := Op.call { callee := Callee.value (Operand.func 8), args := #[Operand.tmp 17], argTypes := #[25] }, type := 29, pos := "law.go:43", after := #[{ on := 2, ground := Ground.data }, { on := 1, ground := Ground.chain }], guard := none }) rfl (fun K hK => ?_) AllReadyH.nil
        go_simp
        refine (HC2.out V3 HR.out.bel).mono ?_
        rintro e V4 ⟨ay, cy, py, qy, rfl, rA, tA, bA⟩
        rw [HNY.out, HMY.out]
        have HR := Lib.hid (HR.out.gotV bA rA tA)
        clear bA rA tA
        go_wp2_with (fail)
        refine hK.out _ _ HR.out.bel (fun hHeld => ?_)
        clear hK K hHeld
        try simp only [Act.put, List.setIfInBounds_toArray, List.set_cons_zero, List.set_cons_succ]
        obtain ⟨⟨y0, y1, y2, y3⟩, V5, q1', B1, ⟨t0, t1, t2, t3⟩, V6, q2', B2, iu, iv⟩ := HR.out.stored HNX.out HMX.out HNY.out HMY.out
        have Q1 := Lib.hid q1'
        have Q2 := Lib.hid q2'
        have HIU := Lib.hid iu
        have HIV := Lib.hid iv
        clear q1' q2' iu iv HR
        refine wpAnyH_ready (rs := [6]) (by kernel_rfl) (by simp) ?_
        refine AllReadyH.cons (o := { dst := none, op := Op.store 29 (Operand.tmp 5) (Operand.tmp 16), type := 0, pos := "law.go:43", after := #[{ on := 4, ground := Ground.data }, { on := 1, ground := Ground.data }, { on := 3, ground := Ground.chain }, { on := 0, ground := Ground.phase }, { on := 1, ground := Ground.phase }, { on := 2, ground := Ground.textOnly Departure.lateStores }, { on := 3, ground := Ground.textOnly Departure.lateStoresUnsure }, { on := 4, ground := Ground.phase }, { on := 5, ground := Ground.phase }], guard := none }) rfl (fun K hK => ?_) AllReadyH.nil
        go_simp
        rw [← Q1.out]
        refine hK.out _ _ B1 (fun hHeld => ?_)
        clear hK K hHeld y0 y1 y2 y3 Q1
        try simp only [Act.put, List.setIfInBounds_toArray, List.set_cons_zero, List.set_cons_succ]
        refine wpAnyH_ready (rs := [7]) (by kernel_rfl) (by simp) ?_
        refine AllReadyH.cons (o := { dst := none, op := Op.store 29 (Operand.tmp 6) (Operand.tmp 18), type := 0, pos := "law.go:43", after := #[{ on := 5, ground := Ground.data }, { on := 3, ground := Ground.data }, { on := 6, ground := Ground.chain }, { on := 0, ground := Ground.phase }, { on := 1, ground := Ground.phase }, { on := 2, ground := Ground.phase }, { on := 3, ground := Ground.phase }, { on := 4, ground := Ground.phase }, { on := 5, ground := Ground.phase }, { on := 6, ground := Ground.phase }], guard := none }) rfl (fun K hK => ?_) AllReadyH.nil
        go_simp
        rw [← Q2.out]
        refine hK.out _ _ B2 (fun hHeld => ?_)
        clear hK K hHeld t0 t1 t2 t3 Q2 B1
        try simp only [Act.put, List.setIfInBounds_toArray, List.set_cons_zero, List.set_cons_succ]
        refine wpAnyH_done (by kernel_rfl) ?_ _
        have HS5 := Lib.hid (HEND.out V6 gx gy ax px ay py cx qx cy qy B2 HIU.out HIV.out)
        clear B2 HIU HIV
        go_wp2
        go_meet
        exact ⟨gx, gy, ax, px, ay, py, cx, qx, cy, qy, rfl, rfl, HS5⟩
      refine AllReadyH.cons (o := { dst := some 6, op := Op.alloc 29, type := 0, pos := "law.go:43", after := #[], guard := none }) rfl (fun K hK => ?_) AllReadyH.nil
      have HR := Lib.hid HR.out.alloc8
      go_simp
      refine hK.out _ _ HR.out.bel (fun hHeld => ?_)
      clear hK K hHeld
      try simp only [Act.put, List.setIfInBounds_toArray, List.set_cons_zero, List.set_cons_succ]
      generalize V1.alloc (.cells #[.slice none 0 0, .slice none 0 0] 29) = V2 at HR ⊢
      generalize V1.heap.size = gy at HR ⊢
      refine wpAnyH_ready (rs := [3, 4]) (by kernel_rfl) (by simp) ?_
      refine AllReadyH.cons (o := { dst := some 18, op := Op.call { callee := Callee.value (Operand.func 8), args := #[Operand.tmp 17], argTypes := #[25] }, type := 29, pos := "law.go:43", after := #[{ on := 2, ground := Ground.data }, { on := 1, ground := Ground.chain }], guard := none }) rfl (fun K hK => ?_) ?_
      · go_simp
        refine (HC2.out V2 HR.out.bel).mono ?_
        rintro e V3 ⟨ay, cy, py, qy, rfl, rA, tA, bA⟩
        rw [HNY.out, HMY.out]
        have HR := Lib.hid (HR.out.gotV bA rA tA)
        clear bA rA tA
        go_wp2_with (fail)
        refine hK.out _ _ HR.out.bel (fun hHeld => ?_)
        clear hK K hHeld
        try simp only [Act.put, List.setIfInBounds_toArray, List.set_cons_zero, List.set_cons_succ]
        refine wpAnyH_ready (rs := [4]) (by kernel_rfl) (by simp) ?_
        refine AllReadyH.cons (o := { dst := some 5, op := Op.alloc 29, type := 0, pos := "law.go:43", after := #[], guard := none }) rfl (fun K hK => ?_) AllReadyH.nil
        have HR := Lib.hid HR.out.alloc7
        go_simp
        refine hK.out _ _ HR.out.bel (fun hHeld => ?_)
        clear hK K hHeld
        try simp only [Act.put, List.setIfInBounds_toArray, List.set_cons_zero, List.set_cons_succ]
        generalize V3.alloc (.cells #[.slice none 0 0, .slice none 0 0] 29) = V4 at HR ⊢
        generalize V3.heap.size = gx at HR ⊢
        obtain ⟨⟨y0, y1, y2, y3⟩, V5, q1', B1, ⟨t0, t1, t2, t3⟩, V6, q2', B2, iu, iv⟩ := HR.out.stored HNX.out HMX.out HNY.out HMY.out
        have Q1 := Lib.hid q1'
        have Q2 := Lib.hid q2'
        have HIU := Lib.hid iu
        have HIV := Lib.hid iv
        clear q1' q2' iu iv HR
        refine wpAnyH_ready (rs := [6]) (by kernel_rfl) (by simp) ?_
        refine AllReadyH.cons (o := { dst := none, op := Op.store 29 (Operand.tmp 5) (Operand.tmp 16), type := 0, pos := "law.go:43", after := #[{ on := 4, ground := Ground.data }, { on := 1, ground := Ground.data }, { on := 3, ground := Ground.chain }, { on := 0, ground := Ground.phase }, { on := 1, ground := Ground.phase }, { on := 2, ground := Ground.textOnly Departure.lateStores }, { on := 3, ground := Ground.textOnly Departure.lateStoresUnsure }, { on := 4, ground := Ground.phase }, { on := 5, ground := Ground.phase }], guard := none }) rfl (fun K hK => ?_) AllReadyH.nil
        go_simp
        rw [← Q1.out]
        refine hK.out _ _ B1 (fun hHeld => ?_)
        clear hK K hHeld y0 y1 y2 y3 Q1
        try simp only [Act.put, List.setIfInBounds_toArray, List.set_cons_zero, List.set_cons_succ]
        refine wpAnyH_ready (rs := [7]) (by kernel_rfl) (by simp) ?_
        refine AllReadyH.cons (o := { dst := none, op := Op.store 29 (Operand.tmp 6) (Operand.tmp 18), type := 0, pos := "law.go:43", after := #[{ on := 5, ground := Ground.data }, { on := 3, ground := Ground.data }, { on := 6, ground := Ground.chain }, { on := 0, ground := Ground.phase }, { on := 1, ground := Ground.phase }, { on := 2, ground := Ground.phase }, { on := 3, ground := Ground.phase }, { on := 4, ground := Ground.phase }, { on := 5, ground := Ground.phase }, { on := 6, ground := Ground.phase }], guard := none }) rfl (fun K hK => ?_) AllReadyH.nil
        go_simp
        rw [← Q2.out]
        refine hK.out _ _ B2 (fun hHeld => ?_)
        clear hK K hHeld t0 t1 t2 t3 Q2 B1
        try simp only [Act.put, List.setIfInBounds_toArray, List.set_cons_zero, List.set_cons_succ]
        refine wpAnyH_done (by kernel_rfl) ?_ _
        have HS5 := Lib.hid (HEND.out V6 gx gy ax px ay py cx qx cy qy B2 HIU.out HIV.out)
        clear B2 HIU HIV
        go_wp2
        go_meet
        exact ⟨gx, gy, ax, px, ay, py, cx, qx, cy, qy, rfl, rfl, HS5⟩
      refine AllReadyH.cons (o := { dst := some 5, op := Op.alloc 29, type := 0, pos := "law.go:43", after := #[], guard := none }) rfl (fun K hK => ?_) AllReadyH.nil
      have HR := Lib.hid HR.out.alloc7
      go_simp
      refine hK.out _ _ HR.out.bel (fun hHeld => ?_)
      clear hK K hHeld
      try simp only [Act.put, List.setIfInBounds_toArray, List.set_cons_zero, List.set_cons_succ]
      generalize V2.alloc (.cells #[.slice none 0 0, .slice none 0 0] 29) = V3 at HR ⊢
      generalize V2.heap.size = gx at HR ⊢
      refine wpAnyH_ready (rs := [3]) (by kernel_rfl) (by simp) ?_
      refine AllReadyH.cons (o := { dst := some 18, op := Op.call { callee := Callee.value (Operand.func 8), args := #[Operand.tmp 17], argTypes := #[25] }, type := 29, pos := "law.go:43", after := #[{ on := 2, ground := Ground.data }, { on := 1, ground := Ground.chain }], guard := none }) rfl (fun K hK => ?_) AllReadyH.nil
      go_simp
      refine (HC2.out V3 HR.out.bel).mono ?_
      rintro e V4 ⟨ay, cy, py, qy, rfl, rA, tA, bA⟩
      rw [HNY.out, HMY.out]
      have HR := Lib.hid (HR.out.gotV bA rA tA)
      clear bA rA tA
      go_wp2_with (fail)
      refine hK.out _ _ HR.out.bel (fun hHeld => ?_)
      clear hK K hHeld
      try simp only [Act.put, List.setIfInBounds_toArray, List.set_cons_zero, List.set_cons_succ]
      obtain ⟨⟨y0, y1, y2, y3⟩, V5, q1', B1, ⟨t0, t1, t2, t3⟩, V6, q2', B2, iu, iv⟩ := HR.out.stored HNX.out HMX.out HNY.out HMY.out
      have Q1 := Lib.hid q1'
      have Q2 := Lib.hid q2'
      have HIU := Lib.hid iu
      have HIV := Lib.hid iv
      clear q1' q2' iu iv HR
      refine wpAnyH_ready (rs := [6]) (by kernel_rfl) (by simp) ?_
      refine AllReadyH.cons (o := { dst := none, op := Op.store 29 (Operand.tmp 5) (Operand.tmp 16), type := 0, pos := "law.go:43", after := #[{ on := 4, ground := Ground.data }, { on := 1, ground := Ground.data }, { on := 3, ground := Ground.chain }, { on := 0, ground := Ground.phase }, { on := 1, ground := Ground.phase }, { on := 2, ground := Ground.textOnly Departure.lateStores }, { on := 3, ground := Ground.textOnly Departure.lateStoresUnsure }, { on := 4, ground := Ground.phase }, { on := 5, ground := Ground.phase }], guard := none }) rfl (fun K hK => ?_) AllReadyH.nil
      go_simp
      rw [← Q1.out]
      refine hK.out _ _ B1 (fun hHeld => ?_)
      clear hK K hHeld y0 y1 y2 y3 Q1
      try simp only [Act.put, List.setIfInBounds_toArray, List.set_cons_zero, List.set_cons_succ]
      refine wpAnyH_ready (rs := [7]) (by kernel_rfl) (by simp) ?_
      refine AllReadyH.cons (o := { dst := none, op := Op.store 29 (Operand.tmp 6) (Operand.tmp 18), type := 0, pos := "law.go:43", after := #[{ on := 5, ground := Ground.data }, { on := 3, ground := Ground.data }, { on := 6, ground := Ground.chain }, { on := 0, ground := Ground.phase }, { on := 1, ground := Ground.phase }, { on := 2, ground := Ground.phase }, { on := 3, ground := Ground.phase }, { on := 4, ground := Ground.phase }, { on := 5, ground := Ground.phase }, { on := 6, ground := Ground.phase }], guard := none }) rfl (fun K hK => ?_) AllReadyH.nil
      go_simp
      rw [← Q2.out]
      refine hK.out _ _ B2 (fun hHeld => ?_)
      clear hK K hHeld t0 t1 t2 t3 Q2 B1
      try simp only [Act.put, List.setIfInBounds_toArray, List.set_cons_zero, List.set_cons_succ]
      refine wpAnyH_done (by kernel_rfl) ?_ _
      have HS5 := Lib.hid (HEND.out V6 gx gy ax px ay py cx qx cy qy B2 HIU.out HIV.out)
      clear B2 HIU HIV
      go_wp2
      go_meet
      exact ⟨gx, gy, ax, px, ay, py, cx, qx, cy, qy, rfl, rfl, HS5⟩
    refine AllReadyH.cons (o := { dst := some 5, op := Op.alloc 29, type := 0, pos := "law.go:43", after := #[], guard := none }) rfl (fun K hK => ?_) ?_
    · have HR := Lib.hid HR.out.alloc7
      go_simp
      refine hK.out _ _ HR.out.bel (fun hHeld => ?_)
      clear hK K hHeld
      try simp only [Act.put, List.setIfInBounds_toArray, List.set_cons_zero, List.set_cons_succ]
      generalize V0.alloc (.cells #[.slice none 0 0, .slice none 0 0] 29) = V1 at HR ⊢
      generalize V0.heap.size = gx at HR ⊢
      refine wpAnyH_ready (rs := [1, 5]) (by kernel_rfl) (by simp) ?_
      refine AllReadyH.cons (o := { dst := some 16, op := Op.call { callee := Callee.value (Operand.func 8), args := #[Operand.tmp 15], argTypes := #[25] }, type := 29, pos := "law.go:43", after := #[{ on := 0, ground := Ground.data }], guard := none }) rfl (fun K hK => ?_) ?_
      · go_simp
        refine (HC1.out V1 HR.out.bel).mono ?_
        rintro e V2 ⟨ax, cx, px, qx, rfl, rA, tA, bA⟩
        rw [HNX.out, HMX.out]
        have HR := Lib.hid (HR.out.gotU bA rA tA)
        clear bA rA tA
        go_wp2_with (fail)
        refine hK.out _ _ HR.out.bel (fun hHeld => ?_)
        clear hK K hHeld
        try simp only [Act.put, List.setIfInBounds_toArray, List.set_cons_zero, List.set_cons_succ]
        refine wpAnyH_ready (rs := [3, 5]) (by kernel_rfl) (by simp) ?_
        refine AllReadyH.cons (o := { dst := some 18, op := Op.call { callee := Callee.value (Operand.func 8), args := #[Operand.tmp 17], argTypes := #[25] }, type := 29, pos := "law.go:43", after := #[{ on := 2, ground := Ground.data }, { on := 1, ground := Ground.chain }], guard := none }) rfl (fun K hK => ?_) ?_
        · go_simp
          refine (HC2.out V2 HR.out.bel).mono ?_
          rintro e V3 ⟨ay, cy, py, qy, rfl, rA, tA, bA⟩
          rw [HNY.out, HMY.out]
          have HR := Lib.hid (HR.out.gotV bA rA tA)
          clear bA rA tA
          go_wp2_with (fail)
          refine hK.out _ _ HR.out.bel (fun hHeld => ?_)
          clear hK K hHeld
          try simp only [Act.put, List.setIfInBounds_toArray, List.set_cons_zero, List.set_cons_succ]
          refine wpAnyH_ready (rs := [5]) (by kernel_rfl) (by simp) ?_
          refine AllReadyH.cons (o := { dst := some 6, op := Op.alloc 29, type := 0, pos := "law.go:43", after := #[], guard := none }) rfl (fun K hK => ?_) AllReadyH.nil
          have HR := Lib.hid HR.out.alloc8
          go_simp
          refine hK.out _ _ HR.out.bel (fun hHeld => ?_)
          clear hK K hHeld
          try simp only [Act.put, List.setIfInBounds_toArray, List.set_cons_zero, List.set_cons_succ]
          generalize V3.alloc (.cells #[.slice none 0 0, .slice none 0 0] 29) = V4 at HR ⊢
          generalize V3.heap.size = gy at HR ⊢
          obtain ⟨⟨y0, y1, y2, y3⟩, V5, q1', B1, ⟨t0, t1, t2, t3⟩, V6, q2', B2, iu, iv⟩ := HR.out.stored HNX.out HMX.out HNY.out HMY.out
          have Q1 := Lib.hid q1'
          have Q2 := Lib.hid q2'
          have HIU := Lib.hid iu
          have HIV := Lib.hid iv
          clear q1' q2' iu iv HR
          refine wpAnyH_ready (rs := [6]) (by kernel_rfl) (by simp) ?_
          refine AllReadyH.cons (o := { dst := none, op := Op.store 29 (Operand.tmp 5) (Operand.tmp 16), type := 0, pos := "law.go:43", after := #[{ on := 4, ground := Ground.data }, { on := 1, ground := Ground.data }, { on := 3, ground := Ground.chain }, { on := 0, ground := Ground.phase }, { on := 1, ground := Ground.phase }, { on := 2, ground := Ground.textOnly Departure.lateStores }, { on := 3, ground := Ground.textOnly Departure.lateStoresUnsure }, { on := 4, ground := Ground.phase }, { on := 5, ground := Ground.phase }], guard := none }) rfl (fun K hK => ?_) AllReadyH.nil
          go_simp
          rw [← Q1.out]
          refine hK.out _ _ B1 (fun hHeld => ?_)
          clear hK K hHeld y0 y1 y2 y3 Q1
          try simp only [Act.put, List.setIfInBounds_toArray, List.set_cons_zero, List.set_cons_succ]
          refine wpAnyH_ready (rs := [7]) (by kernel_rfl) (by simp) ?_
          refine AllReadyH.cons (o := { dst := none, op := Op.store 29 (Operand.tmp 6) (Operand.tmp 18), type := 0, pos := "law.go:43", after := #[{ on := 5, ground := Ground.data }, { on := 3, ground := Ground.data }, { on := 6, ground := Ground.chain }, { on := 0, ground := Ground.phase }, { on := 1, ground := Ground.phase }, { on := 2, ground := Ground.phase }, { on := 3, ground := Ground.phase }, { on := 4, ground := Ground.phase }, { on := 5, ground := Ground.phase }, { on := 6, ground := Ground.phase }], guard := none }) rfl (fun K hK => ?_) AllReadyH.nil
          go_simp
          rw [← Q2.out]
          refine hK.out _ _ B2 (fun hHeld => ?_)
          clear hK K hHeld t0 t1 t2 t3 Q2 B1
          try simp only [Act.put, List.setIfInBounds_toArray, List.set_cons_zero, List.set_cons_succ]
          refine wpAnyH_done (by kernel_rfl) ?_ _
          have HS5 := Lib.hid (HEND.out V6 gx gy ax px ay py cx qx cy qy B2 HIU.out HIV.out)
          clear B2 HIU HIV
          go_wp2
          go_meet
          exact ⟨gx, gy, ax, px, ay, py, cx, qx, cy, qy, rfl, rfl, HS5⟩
        refine AllReadyH.cons (o := { dst := some 6, op := Op.alloc 29, type := 0, pos := "law.go:43", after := #[], guard := none }) rfl (fun K hK => ?_) AllReadyH.nil
        have HR := Lib.hid HR.out.alloc8
        go_simp
        refine hK.out _ _ HR.out.bel (fun hHeld => ?_)
        clear hK K hHeld
        try simp only [Act.put, List.setIfInBounds_toArray, List.set_cons_zero, List.set_cons_succ]
        generalize V2.alloc (.cells #[.slice none 0 0, .slice none 0 0] 29) = V3 at HR ⊢
        generalize V2.heap.size = gy at HR ⊢
        refine wpAnyH_ready (rs := [3]) (by kernel_rfl) (by simp) ?_
        refine AllReadyH.cons (o := { dst := some 18, op := Op.call { callee := Callee.value (Operand.func 8), args := #[Operand.tmp 17], argTypes := #[25] }, type := 29, pos := "law.go:43", after := #[{ on := 2, ground := Ground.data }, { on := 1, ground := Ground.chain }], guard := none }) rfl (fun K hK => ?_) AllReadyH.nil
        go_simp
        refine (HC2.out V3 HR.out.bel).mono ?_
        rintro e V4 ⟨ay, cy, py, qy, rfl, rA, tA, bA⟩
        rw [HNY.out, HMY.out]
        have HR := Lib.hid (HR.out.gotV bA rA tA)
        clear bA rA tA
        go_wp2_with (fail)
        refine hK.out _ _ HR.out.bel (fun hHeld => ?_)
        clear hK K hHeld
        try simp only [Act.put, List.setIfInBounds_toArray, List.set_cons_zero, List.set_cons_succ]
        obtain ⟨⟨y0, y1, y2, y3⟩, V5, q1', B1, ⟨t0, t1, t2, t3⟩, V6, q2', B2, iu, iv⟩ := HR.out.stored HNX.out HMX.out HNY.out HMY.out
        have Q1 := Lib.hid q1'
        have Q2 := Lib.hid q2'
        have HIU := Lib.hid iu
        have HIV := Lib.hid iv
        clear q1' q2' iu iv HR
        refine wpAnyH_ready (rs := [6]) (by kernel_rfl) (by simp) ?_
        refine AllReadyH.cons (o := { dst := none, op := Op.store 29 (Operand.tmp 5) (Operand.tmp 16), type := 0, pos := "law.go:43", after := #[{ on := 4, ground := Ground.data }, { on := 1, ground := Ground.data }, { on := 3, ground := Ground.chain }, { on := 0, ground := Ground.phase }, { on := 1, ground := Ground.phase }, { on := 2, ground := Ground.textOnly Departure.lateStores }, { on := 3, ground := Ground.textOnly Departure.lateStoresUnsure }, { on := 4, ground := Ground.phase }, { on := 5, ground := Ground.phase }], guard := none }) rfl (fun K hK => ?_) AllReadyH.nil
        go_simp
        rw [← Q1.out]
        refine hK.out _ _ B1 (fun hHeld => ?_)
        clear hK K hHeld y0 y1 y2 y3 Q1
        try simp only [Act.put, List.setIfInBounds_toArray, List.set_cons_zero, List.set_cons_succ]
        refine wpAnyH_ready (rs := [7]) (by kernel_rfl) (by simp) ?_
        refine AllReadyH.cons (o := { dst := none, op := Op.store 29 (Operand.tmp 6) (Operand.tmp 18), type := 0, pos := "law.go:43", after := #[{ on := 5, ground := Ground.data }, { on := 3, ground := Ground.data }, { on := 6, ground := Ground.chain }, { on := 0, ground := Ground.phase }, { on := 1, ground := Ground.phase }, { on := 2, ground := Ground.phase }, { on := 3, ground := Ground.phase }, { on := 4, ground := Ground.phase }, { on := 5, ground := Ground.phase }, { on := 6, ground := Ground.phase }], guard := none }) rfl (fun K hK => ?_) AllReadyH.nil
        go_simp
        rw [← Q2.out]
        refine hK.out _ _ B2 (fun hHeld => ?_)
        clear hK K hHeld t0 t1 t2 t3 Q2 B1
        try simp only [Act.put, List.setIfInBounds_toArray, List.set_cons_zero, List.set_cons_succ]
        refine wpAnyH_done (by kernel_rfl) ?_ _
        have HS5 := Lib.hid (HEND.out V6 gx gy ax px ay py cx qx cy qy B2 HIU.out HIV.out)
        clear B2 HIU HIV
        go_wp2
        go_meet
        exact ⟨gx, gy, ax, px, ay, py, cx, qx, cy, qy, rfl, rfl, HS5⟩
      refine AllReadyH.cons (o := { dst := some 6, op := Op.alloc 29, type := 0, pos := "law.go:43", after := #[], guard := none }) rfl (fun K hK => ?_) AllReadyH.nil
      have HR := Lib.hid HR.out.alloc8
      go_simp
      refine hK.out _ _ HR.out.bel (fun hHeld => ?_)
      clear hK K hHeld
      try simp only [Act.put, List.setIfInBounds_toArray, List.set_cons_zero, List.set_cons_succ]
      generalize V1.alloc (.cells #[.slice none 0 0, .slice none 0 0] 29) = V2 at HR ⊢
      generalize V1.heap.size = gy at HR ⊢
      refine wpAnyH_ready (rs := [1]) (by kernel_rfl) (by simp) ?_
      refine AllReadyH.cons (o := { dst := some 16, op := Op.call { callee := Callee.value (Operand.func 8), args := #[Operand.tmp 15], argTypes := #[25] }, type := 29, pos := "law.go:43", after := #[{ on := 0, ground := Ground.data }], guard := none }) rfl (fun K hK => ?_) AllReadyH.nil
      go_simp
      refine (HC1.out V2 HR.out.bel).mono ?_
      rintro e V3 ⟨ax, cx, px, qx, rfl, rA, tA, bA⟩
      rw [HNX.out, HMX.out]
      have HR := Lib.hid (HR.out.gotU bA rA tA)
      clear bA rA tA
      go_wp2_with (fail)
      refine hK.out _ _ HR.out.bel (fun hHeld => ?_)
      clear hK K hHeld
      try simp only [Act.put, List.setIfInBounds_toArray, List.set_cons_zero, List.set_cons_succ]
      refine wpAnyH_ready (rs := [3]) (by kernel_rfl) (by simp) ?_
      refine AllReadyH.cons (o := { dst := some 18, op := Op.call { callee := Callee.value (Operand.func 8), args := #[Operand.tmp 17], argTypes := #[25] }, type := 29, pos := "law.go:43", after := #[{ on := 2, ground := Ground.data }, { on := 1, ground := Ground.chain }], guard := none }) rfl (fun K hK => ?_) AllReadyH.nil
      go_simp
      refine (HC2.out V3 HR.out.bel).mono ?_
      rintro e V4 ⟨ay, cy, py, qy, rfl, rA, tA, bA⟩
      rw [HNY.out, HMY.out]
      have HR := Lib.hid (HR.out.gotV bA rA tA)
      clear bA rA tA
      go_wp2_with (fail)
      refine hK.out _ _ HR.out.bel (fun hHeld => ?_)
      clear hK K hHeld
      try simp only [Act.put, List.setIfInBounds_toArray, List.set_cons_zero, List.set_cons_succ]
      obtain ⟨⟨y0, y1, y2, y3⟩, V5, q1', B1, ⟨t0, t1, t2, t3⟩, V6, q2', B2, iu, iv⟩ := HR.out.stored HNX.out HMX.out HNY.out HMY.out
      have Q1 := Lib.hid q1'
      have Q2 := Lib.hid q2'
      have HIU := Lib.hid iu
      have HIV := Lib.hid iv
      clear q1' q2' iu iv HR
      refine wpAnyH_ready (rs := [6]) (by kernel_rfl) (by simp) ?_
      refine AllReadyH.cons (o := { dst := none, op := Op.store 29 (Operand.tmp 5) (Operand.tmp 16), type := 0, pos := "law.go:43", after := #[{ on := 4, ground := Ground.data }, { on := 1, ground := Ground.data }, { on := 3, ground := Ground.chain }, { on := 0, ground := Ground.phase }, { on := 1, ground := Ground.phase }, { on := 2, ground := Ground.textOnly Departure.lateStores }, { on := 3, ground := Ground.textOnly Departure.lateStoresUnsure }, { on := 4, ground := Ground.phase }, { on := 5, ground := Ground.phase }], guard := none }) rfl (fun K hK => ?_) AllReadyH.nil
      go_simp
      rw [← Q1.out]
      refine hK.out _ _ B1 (fun hHeld => ?_)
      clear hK K hHeld y0 y1 y2 y3 Q1
      try simp only [Act.put, List.setIfInBounds_toArray, List.set_cons_zero, List.set_cons_succ]
      refine wpAnyH_ready (rs := [7]) (by kernel_rfl) (by simp) ?_
      refine AllReadyH.cons (o := { dst := none, op := Op.store 29 (Operand.tmp 6) (Operand.tmp 18), type := 0, pos := "law.go:43", after := #[{ on := 5, ground := Ground.data }, { on := 3, ground := Ground.data }, { on := 6, ground := Ground.chain }, { on := 0, ground := Ground.phase }, { on := 1, ground := Ground.phase }, { on := 2, ground := Ground.phase }, { on := 3, ground := Ground.phase }, { on := 4, ground := Ground.phase }, { on := 5, ground := Ground.phase }, { on := 6, ground := Ground.phase }], guard := none }) rfl (fun K hK => ?_) AllReadyH.nil
      go_simp
      rw [← Q2.out]
      refine hK.out _ _ B2 (fun hHeld => ?_)
      clear hK K hHeld t0 t1 t2 t3 Q2 B1
      try simp only [Act.put, List.setIfInBounds_toArray, List.set_cons_zero, List.set_cons_succ]
      refine wpAnyH_done (by kernel_rfl) ?_ _
      have HS5 := Lib.hid (HEND.out V6 gx gy ax px ay py cx qx cy qy B2 HIU.out HIV.out)
      clear B2 HIU HIV
      go_wp2
      go_meet
      exact ⟨gx, gy, ax, px, ay, py, cx, qx, cy, qy, rfl, rfl, HS5⟩
    refine AllReadyH.cons (o := { dst := some 6, op := Op.alloc 29, type := 0, pos := "law.go:43", after := #[], guard := none }) rfl (fun K hK => ?_) AllReadyH.nil
    have HR := Lib.hid HR.out.alloc8
    go_simp
    refine hK.out _ _ HR.out.bel (fun hHeld => ?_)
    clear hK K hHeld
    try simp only [Act.put, List.setIfInBounds_toArray, List.set_cons_zero, List.set_cons_succ]
    generalize V0.alloc (.cells #[.slice none 0 0, .slice none 0 0] 29) = V1 at HR ⊢
    generalize V0.heap.size = gy at HR ⊢
    refine wpAnyH_ready (rs := [1, 4]) (by kernel_rfl) (by simp) ?_
    refine AllReadyH.cons (o := { dst := some 16, op := Op.call { callee := Callee.value (Operand.func 8), args := #[Operand.tmp 15], argTypes := #[25] }, type := 29, pos := "law.go:43", after := #[{ on := 0, ground := Ground.data }], guard := none }) rfl (fun K hK => ?_) ?_
    · go_simp
      refine (HC1.out V1 HR.out.bel).mono ?_
      rintro e V2 ⟨ax, cx, px, qx, rfl, rA, tA, bA⟩
      rw [HNX.out, HMX.out]
      have HR := Lib.hid (HR.out.gotU bA rA tA)
      clear bA rA tA
      go_wp2_with (fail)
      refine hK.out _ _ HR.out.bel (fun hHeld => ?_)
      clear hK K hHeld
      try simp only [Act.put, List.setIfInBounds_toArray, List.set_cons_zero, List.set_cons_succ]
      refine wpAnyH_ready (rs := [3, 4]) (by kernel_rfl) (by simp) ?_
      refine AllReadyH.cons (o := { dst := some 18, op := Op.call { callee := Callee.value (Operand.func 8), args := #[Operand.tmp 17], argTypes := #[25] }, type := 29, pos := "law.go:43", after := #[{ on := 2, ground := Ground.data }, { on := 1, ground := Ground.chain }], guard := none }) rfl (fun K hK => ?_) ?_
      · go_simp
        refine (HC2.out V2 HR.out.bel).mono ?_
        rintro e V3 ⟨ay, cy, py, qy, rfl, rA, tA, bA⟩
        rw [HNY.out, HMY.out]
        have HR := Lib.hid (HR.out.gotV bA rA tA)
        clear bA rA tA
        go_wp2_with (fail)
        refine hK.out _ _ HR.out.bel (fun hHeld => ?_)
        clear hK K hHeld
        try simp only [Act.put, List.setIfInBounds_toArray, List.set_cons_zero, List.set_cons_succ]
        refine wpAnyH_ready (rs := [4]) (by kernel_rfl) (by simp) ?_
        refine AllReadyH.cons (o := { dst := some 5, op := Op.alloc 29, type := 0, pos := "law.go:43", after := #[], guard := none }) rfl (fun K hK => ?_) AllReadyH.nil
        have HR := Lib.hid HR.out.alloc7
        go_simp
        refine hK.out _ _ HR.out.bel (fun hHeld => ?_)
        clear hK K hHeld
        try simp only [Act.put, List.setIfInBounds_toArray, List.set_cons_zero, List.set_cons_succ]
        generalize V3.alloc (.cells #[.slice none 0 0, .slice none 0 0] 29) = V4 at HR ⊢
        generalize V3.heap.size = gx at HR ⊢
        obtain ⟨⟨y0, y1, y2, y3⟩, V5, q1', B1, ⟨t0, t1, t2, t3⟩, V6, q2', B2, iu, iv⟩ := HR.out.stored HNX.out HMX.out HNY.out HMY.out
        have Q1 := Lib.hid q1'
        have Q2 := Lib.hid q2'
        have HIU := Lib.hid iu
        have HIV := Lib.hid iv
        clear q1' q2' iu iv HR
        refine wpAnyH_ready (rs := [6]) (by kernel_rfl) (by simp) ?_
        refine AllReadyH.cons (o := { dst := none, op := Op.store 29 (Operand.tmp 5) (Operand.tmp 16), type := 0, pos := "law.go:43", after := #[{ on := 4, ground := Ground.data }, { on := 1, ground := Ground.data }, { on := 3, ground := Ground.chain }, { on := 0, ground := Ground.phase }, { on := 1, ground := Ground.phase }, { on := 2, ground := Ground.textOnly Departure.lateStores }, { on := 3, ground := Ground.textOnly Departure.lateStoresUnsure }, { on := 4, ground := Ground.phase }, { on := 5, ground := Ground.phase }], guard := none }) rfl (fun K hK => ?_) AllReadyH.nil
        go_simp
        rw [← Q1.out]
        refine hK.out _ _ B1 (fun hHeld => ?_)
        clear hK K hHeld y0 y1 y2 y3 Q1
        try simp only [Act.put, List.setIfInBounds_toArray, List.set_cons_zero, List.set_cons_succ]
        refine wpAnyH_ready (rs := [7]) (by kernel_rfl) (by simp) ?_
        refine AllReadyH.cons (o := { dst := none, op := Op.store 29 (Operand.tmp 6) (Operand.tmp 18), type := 0, pos := "law.go:43", after := #[{ on := 5, ground := Ground.data }, { on := 3, ground := Ground.data }, { on := 6, ground := Ground.chain }, { on := 0, ground := Ground.phase }, { on := 1, ground := Ground.phase }, { on := 2, ground := Ground.phase }, { on := 3, ground := Ground.phase }, { on := 4, ground := Ground.phase }, { on := 5, ground := Ground.phase }, { on := 6, ground := Ground.phase }], guard := none }) rfl (fun K hK => ?_) AllReadyH.nil
        go_simp
        rw [← Q2.out]
        refine hK.out _ _ B2 (fun hHeld => ?_)
        clear hK K hHeld t0 t1 t2 t3 Q2 B1
        try simp only [Act.put, List.setIfInBounds_toArray, List.set_cons_zero, List.set_cons_succ]
        refine wpAnyH_done (by kernel_rfl) ?_ _
        have HS5 := Lib.hid (HEND.out V6 gx gy ax px ay py cx qx cy qy B2 HIU.out HIV.out)
        clear B2 HIU HIV
        go_wp2
        go_meet
        exact ⟨gx, gy, ax, px, ay, py, cx, qx, cy, qy, rfl, rfl, HS5⟩
      refine AllReadyH.cons (o := { dst := some 5, op := Op.alloc 29, type := 0, pos := "law.go:43", after := #[], guard := none }) rfl (fun K hK => ?_) AllReadyH.nil
      have HR := Lib.hid HR.out.alloc7
      go_simp
      refine hK.out _ _ HR.out.bel (fun hHeld => ?_)
      clear hK K hHeld
      try simp only [Act.put, List.setIfInBounds_toArray, List.set_cons_zero, List.set_cons_succ]
      generalize V2.alloc (.cells #[.slice none 0 0, .slice none 0 0] 29) = V3 at HR ⊢
      generalize V2.heap.size = gx at HR ⊢
      refine wpAnyH_ready (rs := [3]) (by kernel_rfl) (by simp) ?_
      refine AllReadyH.cons (o := { dst := some 18, op := Op.call { callee := Callee.value (Operand.func 8), args := #[Operand.tmp 17], argTypes := #[25] }, type := 29, pos := "law.go:43", after := #[{ on := 2, ground := Ground.data }, { on := 1, ground := Ground.chain }], guard := none }) rfl (fun K hK => ?_) AllReadyH.nil
      go_simp
      refine (HC2.out V3 HR.out.bel).mono ?_
      rintro e V4 ⟨ay, cy, py, qy, rfl, rA, tA, bA⟩
      rw [HNY.out, HMY.out]
      have HR := Lib.hid (HR.out.gotV bA rA tA)
      clear bA rA tA
      go_wp2_with (fail)
      refine hK.out _ _ HR.out.bel (fun hHeld => ?_)
      clear hK K hHeld
      try simp only [Act.put, List.setIfInBounds_toArray, List.set_cons_zero, List.set_cons_succ]
      obtain ⟨⟨y0, y1, y2, y3⟩, V5, q1', B1, ⟨t0, t1, t2, t3⟩, V6, q2', B2, iu, iv⟩ := HR.out.stored HNX.out HMX.out HNY.out HMY.out
      have Q1 := Lib.hid q1'
      have Q2 := Lib.hid q2'
      have HIU := Lib.hid iu
      have HIV := Lib.hid iv
      clear q1' q2' iu iv HR
      refine wpAnyH_ready (rs := [6]) (by kernel_rfl) (by simp) ?_
      refine AllReadyH.cons (o := { dst := none, op := Op.store 29 (Operand.tmp 5) (Operand.tmp 16), type := 0, pos := "law.go:43", after := #[{ on := 4, ground := Ground.data }, { on := 1, ground := Ground.data }, { on := 3, ground := Ground.chain }, { on := 0, ground := Ground.phase }, { on := 1, ground := Ground.phase }, { on := 2, ground := Ground.textOnly Departure.lateStores }, { on := 3, ground := Ground.textOnly Departure.lateStoresUnsure }, { on := 4, ground := Ground.phase }, { on := 5, ground := Ground.phase }], guard := none }) rfl (fun K hK => ?_) AllReadyH.nil
      go_simp
      rw [← Q1.out]
      refine hK.out _ _ B1 (fun hHeld => ?_)
      clear hK K hHeld y0 y1 y2 y3 Q1
      try simp only [Act.put, List.setIfInBounds_toArray, List.set_cons_zero, List.set_cons_succ]
      refine wpAnyH_ready (rs := [7]) (by kernel_rfl) (by simp) ?_
      refine AllReadyH.cons (o := { dst := none, op := Op.store 29 (Operand.tmp 6) (Operand.tmp 18), type := 0, pos := "law.go:43", after := #[{ on := 5, ground := Ground.data }, { on := 3, ground := Ground.data }, { on := 6, ground := Ground.chain }, { on := 0, ground := Ground.phase }, { on := 1, ground := Ground.phase }, { on := 2, ground := Ground.phase }, { on := 3, ground := Ground.phase }, { on := 4, ground := Ground.phase }, { on := 5, ground := Ground.phase }, { on := 6, ground := Ground.phase }], guard := none }) rfl (fun K hK => ?_) AllReadyH.nil
      go_simp
      rw [← Q2.out]
      refine hK.out _ _ B2 (fun hHeld => ?_)
      clear hK K hHeld t0 t1 t2 t3 Q2 B1
      try simp only [Act.put, List.setIfInBounds_toArray, List.set_cons_zero, List.set_cons_succ]
      refine wpAnyH_done (by kernel_rfl) ?_ _
      have HS5 := Lib.hid (HEND.out V6 gx gy ax px ay py cx qx cy qy B2 HIU.out HIV.out)
      clear B2 HIU HIV
      go_wp2
      go_meet
      exact ⟨gx, gy, ax, px, ay, py, cx, qx, cy, qy, rfl, rfl, HS5⟩
    refine AllReadyH.cons (o := { dst := some 5, op := Op.alloc 29, type := 0, pos := "law.go:43", after := #[], guard := none }) rfl (fun K hK => ?_) AllReadyH.nil
    have HR := Lib.hid HR.out.alloc7
    go_simp
    refine hK.out _ _ HR.out.bel (fun hHeld => ?_)
    clear hK K hHeld
    try simp only [Act.put, List.setIfInBounds_toArray, List.set_cons_zero, List.set_cons_succ]
    generalize V1.alloc (.cells #[.slice none 0 0, .slice none 0 0] 29) = V2 at HR ⊢
    generalize V1.heap.size = gx at HR ⊢
    refine wpAnyH_ready (rs := [1]) (by kernel_rfl) (by simp) ?_
    refine AllReadyH.cons (o := { dst := some 16, op := Op.call { callee := Callee.value (Operand.func 8), args := #[Operand.tmp 15], argTypes := #[25] }, type := 29, pos := "law.go:43", after := #[{ on := 0, ground := Ground.data }], guard := none }) rfl (fun K hK => ?_) AllReadyH.nil
    go_simp
    refine (HC1.out V2 HR.out.bel).mono ?_
    rintro e V3 ⟨ax, cx, px, qx, rfl, rA, tA, bA⟩
    rw [HNX.out, HMX.out]
    have HR := Lib.hid (HR.out.gotU bA rA tA)
    clear bA rA tA
    go_wp2_with (fail)
    refine hK.out _ _ HR.out.bel (fun hHeld => ?_)
    clear hK K hHeld
    try simp only [Act.put, List.setIfInBounds_toArray, List.set_cons_zero, List.set_cons_succ]
    refine wpAnyH_ready (rs := [3]) (by kernel_rfl) (by simp) ?_
    refine AllReadyH.cons (o := { dst := some 18, op := Op.call { callee := Callee.value (Operand.func 8), args := #[Operand.tmp 17], argTypes := #[25] }, type := 29, pos := "law.go:43", after := #[{ on := 2, ground := Ground.data }, { on := 1, ground := Ground.chain }], guard := none }) rfl (fun K hK => ?_) AllReadyH.nil
    go_simp
    refine (HC2.out V3 HR.out.bel).mono ?_
    rintro e V4 ⟨ay, cy, py, qy, rfl, rA, tA, bA⟩
    rw [HNY.out, HMY.out]
    have HR := Lib.hid (HR.out.gotV bA rA tA)
    clear bA rA tA
    go_wp2_with (fail)
    refine hK.out _ _ HR.out.bel (fun hHeld => ?_)
    clear hK K hHeld
    try simp only [Act.put, List.setIfInBounds_toArray, List.set_cons_zero, List.set_cons_succ]
    obtain ⟨⟨y0, y1, y2, y3⟩, V5, q1', B1, ⟨t0, t1, t2, t3⟩, V6, q2', B2, iu, iv⟩ := HR.out.stored HNX.out HMX.out HNY.out HMY.out
    have Q1 := Lib.hid q1'
    have Q2 := Lib.hid q2'
    have HIU := Lib.hid iu
    have HIV := Lib.hid iv
    clear q1' q2' iu iv HR
    refine wpAnyH_ready (rs := [6]) (by kernel_rfl) (by simp) ?_
    refine AllReadyH.cons (o := { dst := none, op := Op.store 29 (Operand.tmp 5) (Operand.tmp 16), type := 0, pos := "law.go:43", after := #[{ on := 4, ground := Ground.data }, { on := 1, ground := Ground.data }, { on := 3, ground := Ground.chain }, { on := 0, ground := Ground.phase }, { on := 1, ground := Ground.phase }, { on := 2, ground := Ground.textOnly Departure.lateStores }, { on := 3, ground := Ground.textOnly Departure.lateStoresUnsure }, { on := 4, ground := Ground.phase }, { on := 5, ground := Ground.phase }], guard := none }) rfl (fun K hK => ?_) AllReadyH.nil
    go_simp
    rw [← Q1.out]
    refine hK.out _ _ B1 (fun hHeld => ?_)
    clear hK K hHeld y0 y1 y2 y3 Q1
    try simp only [Act.put, List.setIfInBounds_toArray, List.set_cons_zero, List.set_cons_succ]
    refine wpAnyH_ready (rs := [7]) (by kernel_rfl) (by simp) ?_
    refine AllReadyH.cons (o := { dst := none, op := Op.store 29 (Operand.tmp 6) (Operand.tmp 18), type := 0, pos := "law.go:43", after := #[{ on := 5, ground := Ground.data }, { on := 3, ground := Ground.data }, { on := 6, ground := Ground.chain }, { on := 0, ground := Ground.phase }, { on := 1, ground := Ground.phase }, { on := 2, ground := Ground.phase }, { on := 3, ground := Ground.phase }, { on := 4, ground := Ground.phase }, { on := 5, ground := Ground.phase }, { on := 6, ground := Ground.phase }], guard := none }) rfl (fun K hK => ?_) AllReadyH.nil
    go_simp
    rw [← Q2.out]
    refine hK.out _ _ B2 (fun hHeld => ?_)
    clear hK K hHeld t0 t1 t2 t3 Q2 B1
    try simp only [Act.put, List.setIfInBounds_toArray, List.set_cons_zero, List.set_cons_succ]
    refine wpAnyH_done (by kernel_rfl) ?_ _
    have HS5 := Lib.hid (HEND.out V6 gx gy ax px ay py cx qx cy qy B2 HIU.out HIV.out)
    clear B2 HIU HIV
    go_wp2
    go_meet
    exact ⟨gx, gy, ax, px, ay, py, cx, qx, cy, qy, rfl, rfl, HS5⟩
  case rest =>
    clear HL0 HL1 HB4 HC1 HC2
    obtain ⟨gx, gy, ax, px, ay, py, cx, qx, cy, qy, rfl, rfl, HS⟩ := hcut
    have ex0 : wc.cell? ⟨gx, 0, none⟩ = some (.slice ax nx cx) := (HS.out.all ⟨gx, ax, cx, nx, px, qx, mx, x⟩ (by simp)).c0
    have ex1 : wc.cell? ⟨gx, 1, none⟩ = some (.slice px mx qx) := (HS.out.all ⟨gx, ax, cx, nx, px, qx, mx, x⟩ (by simp)).c1
    have ey0 : wc.cell? ⟨gy, 0, none⟩ = some (.slice ay ny cy) := (HS.out.all ⟨gy, ay, cy, ny, py, qy, my, y⟩ (by simp)).c0
    have ey1 : wc.cell? ⟨gy, 1, none⟩ = some (.slice py my qy) := (HS.out.all ⟨gy, ay, cy, ny, py, qy, my, y⟩ (by simp)).c1
    have HO1 : Hid (∀ {e : Bx} {W : World}, e.In W → Short e.x → Calls Try.prog 9 #[.slice e.a e.n e.c, .slice e.pa e.m e.pc] W (MakesLin (ofLin e.x.base e.x.ps) (ofOk e.x.base e.x.ps) W)) := Lib.hid (fun he hs => of_valM he hs)
    clear HO1
    obtain ⟨O, hO⟩ : ∃ O, O = ofLin x.base x.ps := ⟨_, rfl⟩
    obtain ⟨okO, hok⟩ : ∃ b, b = ofOk x.base x.ps := ⟨_, rfl⟩
    obtain ⟨D, hD⟩ : ∃ D, D = catLin x y := ⟨_, rfl⟩
    obtain ⟨okD, hokD⟩ : ∃ b, b = catOk x y := ⟨_, rfl⟩
    have H1 := Lib.hid hO
    have H2 := Lib.hid hok
    have H3 := Lib.hid hD
    have H4 := Lib.hid hokD
    clear hO hok hD hokD
    have Z : Calls Try.prog 9 #[.slice ax nx cx, .slice px mx qx] wc (MakesLin O okO wc) := by rw [H1.out, H2.out]; exact of_valM (e := ⟨gx, ax, cx, nx, px, qx, mx, x⟩) (HS.out.all ⟨gx, ax, cx, nx, px, qx, mx, x⟩ (by simp)) HSX.out
    have HZ := Lib.hid Z
    clear Z
    go_wp2_with (fail)
    refine HZ.out.mono ?_
    rintro e U5 ⟨af, cf, pf, qf, rfl, rf, tf, b⟩
    clear HZ
    clear ex0 ex1 ey0 ey1
    generalize hnf : O.base.length = nf
    generalize hmf : O.ps.length = mf
    have HS := Lib.hid (HS.out.below b)
    have ex0 : U5.cell? ⟨gx, 0, none⟩ = some (.slice ax nx cx) := (HS.out.all ⟨gx, ax, cx, nx, px, qx, mx, x⟩ (by simp)).c0
    have ex1 : U5.cell? ⟨gx, 1, none⟩ = some (.slice px mx qx) := (HS.out.all ⟨gx, ax, cx, nx, px, qx, mx, x⟩ (by simp)).c1
    have ey0 : U5.cell? ⟨gy, 0, none⟩ = some (.slice ay ny cy) := (HS.out.all ⟨gy, ay, cy, ny, py, qy, my, y⟩ (by simp)).c0
    have ey1 : U5.cell? ⟨gy, 1, none⟩ = some (.slice py my qy) := (HS.out.all ⟨gy, ay, cy, ny, py, qy, my, y⟩ (by simp)).c1
    have ltx : gx < U5.heap.size := (HS.out.all ⟨gx, ax, cx, nx, px, qx, mx, x⟩ (by simp)).l.lt
    have lty : gy < U5.heap.size := (HS.out.all ⟨gy, ay, cy, ny, py, qy, my, y⟩ (by simp)).l.lt
    have HS := Lib.hid (HS.out.push rf tf hnf hmf)
    clear b rf tf hnf hmf
    go_wp2_with (fail)
    clear ex0 ex1 ey0 ey1
    clear ltx lty
    generalize U5.alloc (.cells #[.slice af nf cf, .slice pf mf qf] 29) = W5 at HS ⊢
    generalize U5.heap.size = gf at HS ⊢
    have Z : Calls Try.prog 10 #[.slice ax nx cx, .slice px mx qx] W5 (MakesLin O okO W5) := by rw [H1.out, H2.out]; exact ofref_val (e := ⟨gx, ax, cx, nx, px, qx, mx, x⟩) (HS.out.all ⟨gx, ax, cx, nx, px, qx, mx, x⟩ (by simp)) HSX.out
    have HZ := Lib.hid Z
    clear Z
    refine HZ.out.mono ?_
    rintro e U6 ⟨ar, cr, pr, qr, rfl, rr, tr, b⟩
    clear HZ
    generalize hnr : O.base.length = nr
    generalize hmr : O.ps.length = mr
    have HS := Lib.hid (HS.out.below b)
    have ef0 : U6.cell? ⟨gf, 0, none⟩ = some (.slice af nf cf) := (HS.out.all ⟨gf, af, cf, nf, pf, qf, mf, O⟩ (by simp)).c0
    have ef1 : U6.cell? ⟨gf, 1, none⟩ = some (.slice pf mf qf) := (HS.out.all ⟨gf, af, cf, nf, pf, qf, mf, O⟩ (by simp)).c1
    have ex0 : U6.cell? ⟨gx, 0, none⟩ = some (.slice ax nx cx) := (HS.out.all ⟨gx, ax, cx, nx, px, qx, mx, x⟩ (by simp)).c0
    have ex1 : U6.cell? ⟨gx, 1, none⟩ = some (.slice px mx qx) := (HS.out.all ⟨gx, ax, cx, nx, px, qx, mx, x⟩ (by simp)).c1
    have ey0 : U6.cell? ⟨gy, 0, none⟩ = some (.slice ay ny cy) := (HS.out.all ⟨gy, ay, cy, ny, py, qy, my, y⟩ (by simp)).c0
    have ey1 : U6.cell? ⟨gy, 1, none⟩ = some (.slice py my qy) := (HS.out.all ⟨gy, ay, cy, ny, py, qy, my, y⟩ (by simp)).c1
    have ltf : gf < U6.heap.size := (HS.out.all ⟨gf, af, cf, nf, pf, qf, mf, O⟩ (by simp)).l.lt
    have ltx : gx < U6.heap.size := (HS.out.all ⟨gx, ax, cx, nx, px, qx, mx, x⟩ (by simp)).l.lt
    have lty : gy < U6.heap.size := (HS.out.all ⟨gy, ay, cy, ny, py, qy, my, y⟩ (by simp)).l.lt
    have HS := Lib.hid (HS.out.push rr tr hnr hmr)
    clear b rr tr hnr hmr
    go_wp2_with (fail)
    clear ef0 ef1 ex0 ex1 ey0 ey1
    clear ltf ltx lty
    generalize U6.alloc (.cells #[.slice ar nr cr, .slice pr mr qr] 29) = W6 at HS ⊢
    generalize U6.heap.size = gr at HS ⊢
    have Z : Calls Try.prog 11 #[.agg #[.slice ax nx cx, .slice px mx qx], .agg #[.slice ay ny cy, .slice py my qy]] W6 (MakesLin D okD W6) := by rw [H3.out, H4.out]; exact (cat_valF (e := ⟨gx, ax, cx, nx, px, qx, mx, x⟩) (f := ⟨gy, ay, cy, ny, py, qy, my, y⟩) (HS.out.all ⟨gx, ax, cx, nx, px, qx, mx, x⟩ (by simp)) (HS.out.all ⟨gy, ay, cy, ny, py, qy, my, y⟩ (by simp)) (by show mx + my ≤ 12; omega)).mono fun _ _ h => h.lin
    have HZ := Lib.hid Z
    clear Z
    refine HZ.out.mono ?_
    rintro e U7 ⟨ac, cc, pc, qc, rfl, rc, tc, b⟩
    clear HZ
    generalize hnc : D.base.length = nc
    generalize hmc : D.ps.length = mc
    have HS := Lib.hid (HS.out.below b)
    have er0 : U7.cell? ⟨gr, 0, none⟩ = some (.slice ar nr cr) := (HS.out.all ⟨gr, ar, cr, nr, pr, qr, mr, O⟩ (by simp)).c0
    have er1 : U7.cell? ⟨gr, 1, none⟩ = some (.slice pr mr qr) := (HS.out.all ⟨gr, ar, cr, nr, pr, qr, mr, O⟩ (by simp)).c1
    have ef0 : U7.cell? ⟨gf, 0, none⟩ = some (.slice af nf cf) := (HS.out.all ⟨gf, af, cf, nf, pf, qf, mf, O⟩ (by simp)).c0
    have ef1 : U7.cell? ⟨gf, 1, none⟩ = some (.slice pf mf qf) := (HS.out.all ⟨gf, af, cf, nf, pf, qf, mf, O⟩ (by simp)).c1
    have ex0 : U7.cell? ⟨gx, 0, none⟩ = some (.slice ax nx cx) := (HS.out.all ⟨gx, ax, cx, nx, px, qx, mx, x⟩ (by simp)).c0
    have ex1 : U7.cell? ⟨gx, 1, none⟩ = some (.slice px mx qx) := (HS.out.all ⟨gx, ax, cx, nx, px, qx, mx, x⟩ (by simp)).c1
    have ey0 : U7.cell? ⟨gy, 0, none⟩ = some (.slice ay ny cy) := (HS.out.all ⟨gy, ay, cy, ny, py, qy, my, y⟩ (by simp)).c0
    have ey1 : U7.cell? ⟨gy, 1, none⟩ = some (.slice py my qy) := (HS.out.all ⟨gy, ay, cy, ny, py, qy, my, y⟩ (by simp)).c1
    have ltr : gr < U7.heap.size := (HS.out.all ⟨gr, ar, cr, nr, pr, qr, mr, O⟩ (by simp)).l.lt
    have ltf : gf < U7.heap.size := (HS.out.all ⟨gf, af, cf, nf, pf, qf, mf, O⟩ (by simp)).l.lt
    have ltx : gx < U7.heap.size := (HS.out.all ⟨gx, ax, cx, nx, px, qx, mx, x⟩ (by simp)).l.lt
    have lty : gy < U7.heap.size := (HS.out.all ⟨gy, ay, cy, ny, py, qy, my, y⟩ (by simp)).l.lt
    have HS := Lib.hid (HS.out.push rc tc hnc hmc)
    clear b rc tc hnc hmc
    go_wp2_with (fail)
    clear er0 er1 ef0 ef1 ex0 ex1 ey0 ey1
    clear ltr ltf ltx lty
    generalize U7.alloc (.cells #[.slice ac nc cc, .slice pc mc qc] 29) = W7 at HS ⊢
    generalize U7.heap.size = gc at HS ⊢
    have Z : Calls Try.prog 12 #[.agg #[.slice ax nx cx, .slice px mx qx], .agg #[.slice ay ny cy, .slice py my qy]] W7 (MakesLin D okD W7) := by rw [H3.out, H4.out]; exact catref_val (e := ⟨gx, ax, cx, nx, px, qx, mx, x⟩) (f := ⟨gy, ay, cy, ny, py, qy, my, y⟩) (HS.out.all ⟨gx, ax, cx, nx, px, qx, mx, x⟩ (by simp)) (HS.out.all ⟨gy, ay, cy, ny, py, qy, my, y⟩ (by simp)) (by show mx + my ≤ 900; omega)
    have HZ := Lib.hid Z
    clear Z
    refine HZ.out.mono ?_
    rintro e U8 ⟨ad, cd, pd, qd, rfl, rd, td, b⟩
    clear HZ
    generalize hnd : D.base.length = nd
    generalize hmd : D.ps.length = md
    have HS := Lib.hid (HS.out.below b)
    have ec0 : U8.cell? ⟨gc, 0, none⟩ = some (.slice ac nc cc) := (HS.out.all ⟨gc, ac, cc, nc, pc, qc, mc, D⟩ (by simp)).c0
    have ec1 : U8.cell? ⟨gc, 1, none⟩ = some (.slice pc mc qc) := (HS.out.all ⟨gc, ac, cc, nc, pc, qc, mc, D⟩ (by simp)).c1
    have er0 : U8.cell? ⟨gr, 0, none⟩ = some (.slice ar nr cr) := (HS.out.all ⟨gr, ar, cr, nr, pr, qr, mr, O⟩ (by simp)).c0
    have er1 : U8.cell? ⟨gr, 1, none⟩ = some (.slice pr mr qr) := (HS.out.all ⟨gr, ar, cr, nr, pr, qr, mr, O⟩ (by simp)).c1
    have ef0 : U8.cell? ⟨gf, 0, none⟩ = some (.slice af nf cf) := (HS.out.all ⟨gf, af, cf, nf, pf, qf, mf, O⟩ (by simp)).c0
    have ef1 : U8.cell? ⟨gf, 1, none⟩ = some (.slice pf mf qf) := (HS.out.all ⟨gf, af, cf, nf, pf, qf, mf, O⟩ (by simp)).c1
    have ex0 : U8.cell? ⟨gx, 0, none⟩ = some (.slice ax nx cx) := (HS.out.all ⟨gx, ax, cx, nx, px, qx, mx, x⟩ (by simp)).c0
    have ex1 : U8.cell? ⟨gx, 1, none⟩ = some (.slice px mx qx) := (HS.out.all ⟨gx, ax, cx, nx, px, qx, mx, x⟩ (by simp)).c1
    have ey0 : U8.cell? ⟨gy, 0, none⟩ = some (.slice ay ny cy) := (HS.out.all ⟨gy, ay, cy, ny, py, qy, my, y⟩ (by simp)).c0
    have ey1 : U8.cell? ⟨gy, 1, none⟩ = some (.slice py my qy) := (HS.out.all ⟨gy, ay, cy, ny, py, qy, my, y⟩ (by simp)).c1
    have ltc : gc < U8.heap.size := (HS.out.all ⟨gc, ac, cc, nc, pc, qc, mc, D⟩ (by simp)).l.lt
    have ltr : gr < U8.heap.size := (HS.out.all ⟨gr, ar, cr, nr, pr, qr, mr, O⟩ (by simp)).l.lt
    have ltf : gf < U8.heap.size := (HS.out.all ⟨gf, af, cf, nf, pf, qf, mf, O⟩ (by simp)).l.lt
    have ltx : gx < U8.heap.size := (HS.out.all ⟨gx, ax, cx, nx, px, qx, mx, x⟩ (by simp)).l.lt
    have lty : gy < U8.heap.size := (HS.out.all ⟨gy, ay, cy, ny, py, qy, my, y⟩ (by simp)).l.lt
    have HS := Lib.hid (HS.out.push rd td hnd hmd)
    clear b rd td hnd hmd
    go_wp2_with (fail)
    clear ec0 ec1 er0 er1 ef0 ef1 ex0 ex1 ey0 ey1
    clear ltc ltr ltf ltx lty
    generalize U8.alloc (.cells #[.slice ad nd cd, .slice pd md qd] 29) = W8 at HS ⊢
    generalize U8.heap.size = gd at HS ⊢
    have bd : Below W8.heap.size W8 W8.drew := ⟨rfl, rfl, rfl, Nat.le_refl _, fun _ _ => rfl⟩
    have Z1 : Hid (∀ V, Below W8.heap.size W8 V → Calls Try.prog 13 #[.agg #[.slice ax nx cx, .slice px mx qx]] V (TellsB (rightLin x) V)) := Lib.hid (fun V h => right_val (e := ⟨gx, ax, cx, nx, px, qx, mx, x⟩) rfl ((HS.out.below h).all ⟨gx, ax, cx, nx, px, qx, mx, x⟩ (by simp)))
    have Z2 : Hid (∀ V, Below W8.heap.size W8 V → Calls Try.prog 14 #[.agg #[.slice ax nx cx, .slice px mx qx]] V (TellsB (rightLin x) V)) := Lib.hid (fun V h => rref_val (e := ⟨gx, ax, cx, nx, px, qx, mx, x⟩) rfl ((HS.out.below h).all ⟨gx, ax, cx, nx, px, qx, mx, x⟩ (by simp)))
    have Z3 : Hid (∀ V, Below W8.heap.size W8 V → Calls Try.prog 15 #[.agg #[.slice ax nx cx, .slice px mx qx]] V (TellsB (pointLin x) V)) := Lib.hid (fun V h => point_val (e := ⟨gx, ax, cx, nx, px, qx, mx, x⟩) rfl ((HS.out.below h).all ⟨gx, ax, cx, nx, px, qx, mx, x⟩ (by simp)))
    have Z4 : Hid (∀ V, Below W8.heap.size W8 V → Calls Try.prog 16 #[.agg #[.slice ax nx cx, .slice px mx qx]] V (TellsB (pointLin x) V)) := Lib.hid (fun V h => pref_val (e := ⟨gx, ax, cx, nx, px, qx, mx, x⟩) rfl ((HS.out.below h).all ⟨gx, ax, cx, nx, px, qx, mx, x⟩ (by simp)))
    have Z5 : Hid (∀ V, Below W8.heap.size W8 V → Calls Try.prog 17 #[.agg #[.slice af nf cf, .slice pf mf qf], .agg #[.slice ar nr cr, .slice pr mr qr]] V (TellsB true V)) := Lib.hid (fun V h => same_val (e := ⟨gf, af, cf, nf, pf, qf, mf, O⟩) (f := ⟨gr, ar, cr, nr, pr, qr, mr, O⟩) (by simp) ((HS.out.below h).all ⟨gf, af, cf, nf, pf, qf, mf, O⟩ (by simp)) ((HS.out.below h).all ⟨gr, ar, cr, nr, pr, qr, mr, O⟩ (by simp)))
    have Z6 : Hid (∀ V, Below W8.heap.size W8 V → Calls Try.prog 17 #[.agg #[.slice ac nc cc, .slice pc mc qc], .agg #[.slice ad nd cd, .slice pd md qd]] V (TellsB true V)) := Lib.hid (fun V h => same_val (e := ⟨gc, ac, cc, nc, pc, qc, mc, D⟩) (f := ⟨gd, ad, cd, nd, pd, qd, md, D⟩) (by simp) ((HS.out.below h).all ⟨gc, ac, cc, nc, pc, qc, mc, D⟩ (by simp)) ((HS.out.below h).all ⟨gd, ad, cd, nd, pd, qd, md, D⟩ (by simp)))
    have Z7 : Hid (∀ V, Below W8.heap.size W8 V → Calls Try.prog 18 #[.agg #[.slice ax nx cx, .slice px mx qx], .agg #[.slice ay ny cy, .slice py my qy]] V (Tells (cmpLin x y) V)) := Lib.hid (fun V h => cmp_val (e := ⟨gx, ax, cx, nx, px, qx, mx, x⟩) (f := ⟨gy, ay, cy, ny, py, qy, my, y⟩) rfl ((HS.out.below h).all ⟨gx, ax, cx, nx, px, qx, mx, x⟩ (by simp)) ((HS.out.below h).all ⟨gy, ay, cy, ny, py, qy, my, y⟩ (by simp)))
    have Z8 : Hid (∀ V, Below W8.heap.size W8 V → Calls Try.prog 19 #[.agg #[.slice ax nx cx, .slice px mx qx], .agg #[.slice ay ny cy, .slice py my qy]] V (Tells (cmpLin x y) V)) := Lib.hid (fun V h => cmpref_val (e := ⟨gx, ax, cx, nx, px, qx, mx, x⟩) (f := ⟨gy, ay, cy, ny, py, qy, my, y⟩) ((HS.out.below h).all ⟨gx, ax, cx, nx, px, qx, mx, x⟩ (by simp)) ((HS.out.below h).all ⟨gy, ay, cy, ny, py, qy, my, y⟩ (by simp)))
    have ed0 : W8.cell? ⟨gd, 0, none⟩ = some (.slice ad nd cd) := (HS.out.all ⟨gd, ad, cd, nd, pd, qd, md, D⟩ (by simp)).c0
    have ed1 : W8.cell? ⟨gd, 1, none⟩ = some (.slice pd md qd) := (HS.out.all ⟨gd, ad, cd, nd, pd, qd, md, D⟩ (by simp)).c1
    have ec0 : W8.cell? ⟨gc, 0, none⟩ = some (.slice ac nc cc) := (HS.out.all ⟨gc, ac, cc, nc, pc, qc, mc, D⟩ (by simp)).c0
    have ec1 : W8.cell? ⟨gc, 1, none⟩ = some (.slice pc mc qc) := (HS.out.all ⟨gc, ac, cc, nc, pc, qc, mc, D⟩ (by simp)).c1
    have er0 : W8.cell? ⟨gr, 0, none⟩ = some (.slice ar nr cr) := (HS.out.all ⟨gr, ar, cr, nr, pr, qr, mr, O⟩ (by simp)).c0
    have er1 : W8.cell? ⟨gr, 1, none⟩ = some (.slice pr mr qr) := (HS.out.all ⟨gr, ar, cr, nr, pr, qr, mr, O⟩ (by simp)).c1
    have ef0 : W8.cell? ⟨gf, 0, none⟩ = some (.slice af nf cf) := (HS.out.all ⟨gf, af, cf, nf, pf, qf, mf, O⟩ (by simp)).c0
    have ef1 : W8.cell? ⟨gf, 1, none⟩ = some (.slice pf mf qf) := (HS.out.all ⟨gf, af, cf, nf, pf, qf, mf, O⟩ (by simp)).c1
    have ex0 : W8.cell? ⟨gx, 0, none⟩ = some (.slice ax nx cx) := (HS.out.all ⟨gx, ax, cx, nx, px, qx, mx, x⟩ (by simp)).c0
    have ex1 : W8.cell? ⟨gx, 1, none⟩ = some (.slice px mx qx) := (HS.out.all ⟨gx, ax, cx, nx, px, qx, mx, x⟩ (by simp)).c1
    have ey0 : W8.cell? ⟨gy, 0, none⟩ = some (.slice ay ny cy) := (HS.out.all ⟨gy, ay, cy, ny, py, qy, my, y⟩ (by simp)).c0
    have ey1 : W8.cell? ⟨gy, 1, none⟩ = some (.slice py my qy) := (HS.out.all ⟨gy, ay, cy, ny, py, qy, my, y⟩ (by simp)).c1
    have ltd : gd < W8.heap.size := (HS.out.all ⟨gd, ad, cd, nd, pd, qd, md, D⟩ (by simp)).l.lt
    have ltc : gc < W8.heap.size := (HS.out.all ⟨gc, ac, cc, nc, pc, qc, mc, D⟩ (by simp)).l.lt
    have ltr : gr < W8.heap.size := (HS.out.all ⟨gr, ar, cr, nr, pr, qr, mr, O⟩ (by simp)).l.lt
    have ltf : gf < W8.heap.size := (HS.out.all ⟨gf, af, cf, nf, pf, qf, mf, O⟩ (by simp)).l.lt
    have ltx : gx < W8.heap.size := (HS.out.all ⟨gx, ax, cx, nx, px, qx, mx, x⟩ (by simp)).l.lt
    have lty : gy < W8.heap.size := (HS.out.all ⟨gy, ay, cy, ny, py, qy, my, y⟩ (by simp)).l.lt
    have HBB := Lib.hid HS.out.bel
    clear HS H1 H2 H3 H4 HSX HSY
    generalize rightLin x = vr at Z1 Z2
    generalize pointLin x = vp at Z3 Z4
    generalize cmpLin x y = vc at Z7 Z8
    refine wp_region_held_drew (S := fun w' => Below W8.heap.size W8 w') (by kernel_rfl) bd (fun hHeld => ?_)
    refine wpAnyH_take (i := 0) (oi := { dst := some 47, op := Op.load 29 (Operand.tmp 5), type := 29, pos := "law.go:48", after := #[], guard := none }) (v := ?_) rfl (by kernel_rfl) (by kernel_rfl) (by kernel_rfl) (fun _ _ _ h => h) (Or.inl ⟨by rfl, ?_⟩) bd ?_
    rotate_left
    · intro w hSw
      have fd0 := (hSw.cell (p := ⟨gd, 0, none⟩) ltd).trans ed0
      have fd1 := (hSw.cell (p := ⟨gd, 1, none⟩) ltd).trans ed1
      have fc0 := (hSw.cell (p := ⟨gc, 0, none⟩) ltc).trans ec0
      have fc1 := (hSw.cell (p := ⟨gc, 1, none⟩) ltc).trans ec1
      have fr0 := (hSw.cell (p := ⟨gr, 0, none⟩) ltr).trans er0
      have fr1 := (hSw.cell (p := ⟨gr, 1, none⟩) ltr).trans er1
      have ff0 := (hSw.cell (p := ⟨gf, 0, none⟩) ltf).trans ef0
      have ff1 := (hSw.cell (p := ⟨gf, 1, none⟩) ltf).trans ef1
      have fx0 := (hSw.cell (p := ⟨gx, 0, none⟩) ltx).trans ex0
      have fx1 := (hSw.cell (p := ⟨gx, 1, none⟩) ltx).trans ex1
      have fy0 := (hSw.cell (p := ⟨gy, 0, none⟩) lty).trans ey0
      have fy1 := (hSw.cell (p := ⟨gy, 1, none⟩) lty).trans ey1
      go_simp
      try with_reducible rfl
    try simp only [Act.put, List.setIfInBounds_toArray, List.set_cons_zero, List.set_cons_succ]
    refine wpAnyH_take (i := 2) (oi := { dst := some 49, op := Op.load 29 (Operand.tmp 5), type := 29, pos := "law.go:48", after := #[], guard := none }) (v := ?_) rfl (by kernel_rfl) (by kernel_rfl) (by kernel_rfl) (fun _ _ _ h => h) (Or.inl ⟨by rfl, ?_⟩) bd ?_
    rotate_left
    · intro w hSw
      have fd0 := (hSw.cell (p := ⟨gd, 0, none⟩) ltd).trans ed0
      have fd1 := (hSw.cell (p := ⟨gd, 1, none⟩) ltd).trans ed1
      have fc0 := (hSw.cell (p := ⟨gc, 0, none⟩) ltc).trans ec0
      have fc1 := (hSw.cell (p := ⟨gc, 1, none⟩) ltc).trans ec1
      have fr0 := (hSw.cell (p := ⟨gr, 0, none⟩) ltr).trans er0
      have fr1 := (hSw.cell (p := ⟨gr, 1, none⟩) ltr).trans er1
      have ff0 := (hSw.cell (p := ⟨gf, 0, none⟩) ltf).trans ef0
      have ff1 := (hSw.cell (p := ⟨gf, 1, none⟩) ltf).trans ef1
      have fx0 := (hSw.cell (p := ⟨gx, 0, none⟩) ltx).trans ex0
      have fx1 := (hSw.cell (p := ⟨gx, 1, none⟩) ltx).trans ex1
      have fy0 := (hSw.cell (p := ⟨gy, 0, none⟩) lty).trans ey0
      have fy1 := (hSw.cell (p := ⟨gy, 1, none⟩) lty).trans ey1
      go_simp
      try with_reducible rfl
    try simp only [Act.put, List.setIfInBounds_toArray, List.set_cons_zero, List.set_cons_succ]
    refine wpAnyH_ready (rs := [1]) (by kernel_rfl) (by simp) ?_
    refine AllReadyH.cons (o := { dst := some 48, op := Op.call { callee := Callee.value (Operand.func 13), args := #[Operand.tmp 47], argTypes := #[29] }, type := 4, pos := "law.go:48", after := #[{ on := 0, ground := Ground.data }], guard := none }) rfl (fun K hK => ?_) AllReadyH.nil
    go_simp
    refine (Z1.out _ bd).mono ?_
    rintro e Q1 ⟨rfl, d1⟩
    have b1 : Below W8.heap.size W8 Q1 := bd.trans (d1.mono bd.size)
    go_wp2_with (fail)
    refine hK.out _ _ b1 (fun hHeld => ?_)
    clear hK K hHeld
    try simp only [Act.put, List.setIfInBounds_toArray, List.set_cons_zero, List.set_cons_succ]
    refine wpAnyH_ready (rs := [3]) (by kernel_rfl) (by simp) ?_
    refine AllReadyH.cons (o := { dst := some 50, op := Op.call { callee := Callee.value (Operand.func 14), args := #[Operand.tmp 49], argTypes := #[29] }, type := 4, pos := "law.go:48", after := #[{ on := 2, ground := Ground.data }, { on := 1, ground := Ground.chain }], guard := none }) rfl (fun K hK => ?_) AllReadyH.nil
    go_simp
    refine (Z2.out _ b1).mono ?_
    rintro e Q2 ⟨rfl, d2⟩
    have b2 : Below W8.heap.size W8 Q2 := b1.trans (d2.mono b1.size)
    go_wp2_with (fail)
    refine hK.out _ _ b2 (fun hHeld => ?_)
    clear hK K hHeld
    try simp only [Act.put, List.setIfInBounds_toArray, List.set_cons_zero, List.set_cons_succ]
    refine wpAnyH_take (i := 4) (oi := { dst := some 51, op := Op.binOp BinOp.eql 4 (Operand.tmp 48) (Operand.tmp 50) 4, type := 4, pos := "law.go:48", after := #[{ on := 1, ground := Ground.data }, { on := 3, ground := Ground.data }], guard := none }) (v := ?_) rfl (by kernel_rfl) (by kernel_rfl) (by kernel_rfl) (fun _ _ _ h => h) (Or.inl ⟨by rfl, ?_⟩) b2 ?_
    rotate_left
    · intro w hSw
      go_simp
      try with_reducible rfl
    try simp only [Act.put, List.setIfInBounds_toArray, List.set_cons_zero, List.set_cons_succ]
    refine wpAnyH_take (i := 5) (oi := { dst := some 52, op := Op.move (Operand.tmp 51), type := 4, pos := "law.go:48", after := #[{ on := 4, ground := Ground.data }, { on := 3, ground := Ground.chain }], guard := none }) (v := ?_) rfl (by kernel_rfl) (by kernel_rfl) (by kernel_rfl) (fun _ _ _ h => h) (Or.inl ⟨by rfl, ?_⟩) b2 ?_
    rotate_left
    · intro w hSw
      go_simp
      try with_reducible rfl
    try simp only [Act.put, List.setIfInBounds_toArray, List.set_cons_zero, List.set_cons_succ]
    refine wpAnyH_take (i := 6) (oi := { dst := some 53, op := Op.load 29 (Operand.tmp 5), type := 29, pos := "law.go:48", after := #[{ on := 5, ground := Ground.guard }], guard := some (5, true) }) (v := ?_) rfl (by kernel_rfl) (by kernel_rfl) (by kernel_rfl) (fun _ _ _ h => h) (Or.inl ⟨by rfl, ?_⟩) b2 ?_
    rotate_left
    · intro w hSw
      have fd0 := (hSw.cell (p := ⟨gd, 0, none⟩) ltd).trans ed0
      have fd1 := (hSw.cell (p := ⟨gd, 1, none⟩) ltd).trans ed1
      have fc0 := (hSw.cell (p := ⟨gc, 0, none⟩) ltc).trans ec0
      have fc1 := (hSw.cell (p := ⟨gc, 1, none⟩) ltc).trans ec1
      have fr0 := (hSw.cell (p := ⟨gr, 0, none⟩) ltr).trans er0
      have fr1 := (hSw.cell (p := ⟨gr, 1, none⟩) ltr).trans er1
      have ff0 := (hSw.cell (p := ⟨gf, 0, none⟩) ltf).trans ef0
      have ff1 := (hSw.cell (p := ⟨gf, 1, none⟩) ltf).trans ef1
      have fx0 := (hSw.cell (p := ⟨gx, 0, none⟩) ltx).trans ex0
      have fx1 := (hSw.cell (p := ⟨gx, 1, none⟩) ltx).trans ex1
      have fy0 := (hSw.cell (p := ⟨gy, 0, none⟩) lty).trans ey0
      have fy1 := (hSw.cell (p := ⟨gy, 1, none⟩) lty).trans ey1
      go_simp
      try with_reducible rfl
    try simp only [Act.put, List.setIfInBounds_toArray, List.set_cons_zero, List.set_cons_succ]
    refine wpAnyH_take (i := 8) (oi := { dst := some 55, op := Op.load 29 (Operand.tmp 5), type := 29, pos := "law.go:48", after := #[{ on := 5, ground := Ground.guard }], guard := some (5, true) }) (v := ?_) rfl (by kernel_rfl) (by kernel_rfl) (by kernel_rfl) (fun _ _ _ h => h) (Or.inl ⟨by rfl, ?_⟩) b2 ?_
    rotate_left
    · intro w hSw
      have fd0 := (hSw.cell (p := ⟨gd, 0, none⟩) ltd).trans ed0
      have fd1 := (hSw.cell (p := ⟨gd, 1, none⟩) ltd).trans ed1
      have fc0 := (hSw.cell (p := ⟨gc, 0, none⟩) ltc).trans ec0
      have fc1 := (hSw.cell (p := ⟨gc, 1, none⟩) ltc).trans ec1
      have fr0 := (hSw.cell (p := ⟨gr, 0, none⟩) ltr).trans er0
      have fr1 := (hSw.cell (p := ⟨gr, 1, none⟩) ltr).trans er1
      have ff0 := (hSw.cell (p := ⟨gf, 0, none⟩) ltf).trans ef0
      have ff1 := (hSw.cell (p := ⟨gf, 1, none⟩) ltf).trans ef1
      have fx0 := (hSw.cell (p := ⟨gx, 0, none⟩) ltx).trans ex0
      have fx1 := (hSw.cell (p := ⟨gx, 1, none⟩) ltx).trans ex1
      have fy0 := (hSw.cell (p := ⟨gy, 0, none⟩) lty).trans ey0
      have fy1 := (hSw.cell (p := ⟨gy, 1, none⟩) lty).trans ey1
      go_simp
      try with_reducible rfl
    try simp only [Act.put, List.setIfInBounds_toArray, List.set_cons_zero, List.set_cons_succ]
    refine wpAnyH_ready (rs := [7]) (by kernel_rfl) (by simp) ?_
    refine AllReadyH.cons (o := { dst := some 54, op := Op.call { callee := Callee.value (Operand.func 15), args := #[Operand.tmp 53], argTypes := #[29] }, type := 4, pos := "law.go:48", after := #[{ on := 6, ground := Ground.data }, { on := 5, ground := Ground.chain }, { on := 5, ground := Ground.guard }], guard := some (5, true) }) rfl (fun K hK => ?_) AllReadyH.nil
    go_simp
    refine (Z3.out _ b2).mono ?_
    rintro e Q3 ⟨rfl, d3⟩
    have b3 : Below W8.heap.size W8 Q3 := b2.trans (d3.mono b2.size)
    go_wp2_with (fail)
    refine hK.out _ _ b3 (fun hHeld => ?_)
    clear hK K hHeld
    try simp only [Act.put, List.setIfInBounds_toArray, List.set_cons_zero, List.set_cons_succ]
    refine wpAnyH_ready (rs := [9]) (by kernel_rfl) (by simp) ?_
    refine AllReadyH.cons (o := { dst := some 56, op := Op.call { callee := Callee.value (Operand.func 16), args := #[Operand.tmp 55], argTypes := #[29] }, type := 4, pos := "law.go:48", after := #[{ on := 8, ground := Ground.data }, { on := 7, ground := Ground.chain }, { on := 5, ground := Ground.guard }], guard := some (5, true) }) rfl (fun K hK => ?_) AllReadyH.nil
    go_simp
    refine (Z4.out _ b3).mono ?_
    rintro e Q4 ⟨rfl, d4⟩
    have b4 : Below W8.heap.size W8 Q4 := b3.trans (d4.mono b3.size)
    go_wp2_with (fail)
    refine hK.out _ _ b4 (fun hHeld => ?_)
    clear hK K hHeld
    try simp only [Act.put, List.setIfInBounds_toArray, List.set_cons_zero, List.set_cons_succ]
    refine wpAnyH_take (i := 10) (oi := { dst := some 57, op := Op.binOp BinOp.eql 4 (Operand.tmp 54) (Operand.tmp 56) 4, type := 4, pos := "law.go:48", after := #[{ on := 7, ground := Ground.data }, { on := 9, ground := Ground.data }, { on := 5, ground := Ground.guard }], guard := some (5, true) }) (v := ?_) rfl (by kernel_rfl) (by kernel_rfl) (by kernel_rfl) (fun _ _ _ h => h) (Or.inl ⟨by rfl, ?_⟩) b4 ?_
    rotate_left
    · intro w hSw
      go_simp
      try with_reducible rfl
    try simp only [Act.put, List.setIfInBounds_toArray, List.set_cons_zero, List.set_cons_succ]
    refine wpAnyH_take (i := 11) (oi := { dst := some 58, op := Op.pick (Operand.tmp 52) (Operand.tmp 57) (Operand.const (Value.bool false)), type := 4, pos := "law.go:48", after := #[{ on := 5, ground := Ground.data }, { on := 10, ground := Ground.data }], guard := none }) (v := ?_) rfl (by kernel_rfl) (by kernel_rfl) (by kernel_rfl) (fun _ _ _ h => h) (Or.inl ⟨by rfl, ?_⟩) b4 ?_
    rotate_left
    · intro w hSw
      go_simp
      try with_reducible rfl
    try simp only [Act.put, List.setIfInBounds_toArray, List.set_cons_zero, List.set_cons_succ]
    refine wpAnyH_take (i := 12) (oi := { dst := some 59, op := Op.move (Operand.tmp 58), type := 4, pos := "law.go:48", after := #[{ on := 11, ground := Ground.data }, { on := 9, ground := Ground.chain }], guard := none }) (v := ?_) rfl (by kernel_rfl) (by kernel_rfl) (by kernel_rfl) (fun _ _ _ h => h) (Or.inl ⟨by rfl, ?_⟩) b4 ?_
    rotate_left
    · intro w hSw
      go_simp
      try with_reducible rfl
    try simp only [Act.put, List.setIfInBounds_toArray, List.set_cons_zero, List.set_cons_succ]
    refine wpAnyH_take (i := 13) (oi := { dst := some 60, op := Op.load 29 (Operand.tmp 7), type := 29, pos := "law.go:48", after := #[{ on := 12, ground := Ground.guard }], guard := some (12, true) }) (v := ?_) rfl (by kernel_rfl) (by kernel_rfl) (by kernel_rfl) (fun _ _ _ h => h) (Or.inl ⟨by rfl, ?_⟩) b4 ?_
    rotate_left
    · intro w hSw
      have fd0 := (hSw.cell (p := ⟨gd, 0, none⟩) ltd).trans ed0
      have fd1 := (hSw.cell (p := ⟨gd, 1, none⟩) ltd).trans ed1
      have fc0 := (hSw.cell (p := ⟨gc, 0, none⟩) ltc).trans ec0
      have fc1 := (hSw.cell (p := ⟨gc, 1, none⟩) ltc).trans ec1
      have fr0 := (hSw.cell (p := ⟨gr, 0, none⟩) ltr).trans er0
      have fr1 := (hSw.cell (p := ⟨gr, 1, none⟩) ltr).trans er1
      have ff0 := (hSw.cell (p := ⟨gf, 0, none⟩) ltf).trans ef0
      have ff1 := (hSw.cell (p := ⟨gf, 1, none⟩) ltf).trans ef1
      have fx0 := (hSw.cell (p := ⟨gx, 0, none⟩) ltx).trans ex0
      have fx1 := (hSw.cell (p := ⟨gx, 1, none⟩) ltx).trans ex1
      have fy0 := (hSw.cell (p := ⟨gy, 0, none⟩) lty).trans ey0
      have fy1 := (hSw.cell (p := ⟨gy, 1, none⟩) lty).trans ey1
      go_simp
      try with_reducible rfl
    try simp only [Act.put, List.setIfInBounds_toArray, List.set_cons_zero, List.set_cons_succ]
    refine wpAnyH_take (i := 14) (oi := { dst := some 61, op := Op.load 29 (Operand.tmp 9), type := 29, pos := "law.go:48", after := #[{ on := 12, ground := Ground.guard }], guard := some (12, true) }) (v := ?_) rfl (by kernel_rfl) (by kernel_rfl) (by kernel_rfl) (fun _ _ _ h => h) (Or.inl ⟨by rfl, ?_⟩) b4 ?_
    rotate_left
    · intro w hSw
      have fd0 := (hSw.cell (p := ⟨gd, 0, none⟩) ltd).trans ed0
      have fd1 := (hSw.cell (p := ⟨gd, 1, none⟩) ltd).trans ed1
      have fc0 := (hSw.cell (p := ⟨gc, 0, none⟩) ltc).trans ec0
      have fc1 := (hSw.cell (p := ⟨gc, 1, none⟩) ltc).trans ec1
      have fr0 := (hSw.cell (p := ⟨gr, 0, none⟩) ltr).trans er0
      have fr1 := (hSw.cell (p := ⟨gr, 1, none⟩) ltr).trans er1
      have ff0 := (hSw.cell (p := ⟨gf, 0, none⟩) ltf).trans ef0
      have ff1 := (hSw.cell (p := ⟨gf, 1, none⟩) ltf).trans ef1
      have fx0 := (hSw.cell (p := ⟨gx, 0, none⟩) ltx).trans ex0
      have fx1 := (hSw.cell (p := ⟨gx, 1, none⟩) ltx).trans ex1
      have fy0 := (hSw.cell (p := ⟨gy, 0, none⟩) lty).trans ey0
      have fy1 := (hSw.cell (p := ⟨gy, 1, none⟩) lty).trans ey1
      go_simp
      try with_reducible rfl
    try simp only [Act.put, List.setIfInBounds_toArray, List.set_cons_zero, List.set_cons_succ]
    refine wpAnyH_ready (rs := [15]) (by kernel_rfl) (by simp) ?_
    refine AllReadyH.cons (o := { dst := some 62, op := Op.call { callee := Callee.value (Operand.func 17), args := #[Operand.tmp 60, Operand.tmp 61], argTypes := #[29, 29] }, type := 4, pos := "law.go:48", after := #[{ on := 13, ground := Ground.data }, { on := 14, ground := Ground.data }, { on := 12, ground := Ground.chain }, { on := 12, ground := Ground.guard }], guard := some (12, true) }) rfl (fun K hK => ?_) AllReadyH.nil
    go_simp
    refine (Z5.out _ b4).mono ?_
    rintro e Q5 ⟨rfl, d5⟩
    have b5 : Below W8.heap.size W8 Q5 := b4.trans (d5.mono b4.size)
    go_wp2_with (fail)
    refine hK.out _ _ b5 (fun hHeld => ?_)
    clear hK K hHeld
    try simp only [Act.put, List.setIfInBounds_toArray, List.set_cons_zero, List.set_cons_succ]
    refine wpAnyH_take (i := 16) (oi := { dst := some 63, op := Op.pick (Operand.tmp 59) (Operand.tmp 62) (Operand.const (Value.bool false)), type := 4, pos := "law.go:48", after := #[{ on := 12, ground := Ground.data }, { on := 15, ground := Ground.data }], guard := none }) (v := ?_) rfl (by kernel_rfl) (by kernel_rfl) (by kernel_rfl) (fun _ _ _ h => h) (Or.inl ⟨by rfl, ?_⟩) b5 ?_
    rotate_left
    · intro w hSw
      go_simp
      try with_reducible rfl
    try simp only [Act.put, List.setIfInBounds_toArray, List.set_cons_zero, List.set_cons_succ]
    refine wpAnyH_take (i := 17) (oi := { dst := some 64, op := Op.move (Operand.tmp 63), type := 4, pos := "law.go:48", after := #[{ on := 16, ground := Ground.data }, { on := 15, ground := Ground.chain }], guard := none }) (v := ?_) rfl (by kernel_rfl) (by kernel_rfl) (by kernel_rfl) (fun _ _ _ h => h) (Or.inl ⟨by rfl, ?_⟩) b5 ?_
    rotate_left
    · intro w hSw
      go_simp
      try with_reducible rfl
    try simp only [Act.put, List.setIfInBounds_toArray, List.set_cons_zero, List.set_cons_succ]
    refine wpAnyH_take (i := 18) (oi := { dst := some 65, op := Op.move (Operand.tmp 8), type := 4, pos := "law.go:48", after := #[{ on := 17, ground := Ground.guard }], guard := some (17, true) }) (v := ?_) rfl (by kernel_rfl) (by kernel_rfl) (by kernel_rfl) (fun _ _ _ h => h) (Or.inl ⟨by rfl, ?_⟩) b5 ?_
    rotate_left
    · intro w hSw
      go_simp
      try with_reducible rfl
    try simp only [Act.put, List.setIfInBounds_toArray, List.set_cons_zero, List.set_cons_succ]
    refine wpAnyH_take (i := 19) (oi := { dst := some 66, op := Op.move (Operand.tmp 10), type := 4, pos := "law.go:48", after := #[{ on := 17, ground := Ground.guard }], guard := some (17, true) }) (v := ?_) rfl (by kernel_rfl) (by kernel_rfl) (by kernel_rfl) (fun _ _ _ h => h) (Or.inl ⟨by rfl, ?_⟩) b5 ?_
    rotate_left
    · intro w hSw
      go_simp
      try with_reducible rfl
    try simp only [Act.put, List.setIfInBounds_toArray, List.set_cons_zero, List.set_cons_succ]
    refine wpAnyH_take (i := 20) (oi := { dst := some 67, op := Op.binOp BinOp.eql 4 (Operand.tmp 65) (Operand.tmp 66) 4, type := 4, pos := "law.go:48", after := #[{ on := 18, ground := Ground.data }, { on := 19, ground := Ground.data }, { on := 17, ground := Ground.guard }], guard := some (17, true) }) (v := ?_) rfl (by kernel_rfl) (by kernel_rfl) (by kernel_rfl) (fun _ _ _ h => h) (Or.inl ⟨by rfl, ?_⟩) b5 ?_
    rotate_left
    · intro w hSw
      go_simp
      try with_reducible rfl
    try simp only [Act.put, List.setIfInBounds_toArray, List.set_cons_zero, List.set_cons_succ]
    refine wpAnyH_take (i := 21) (oi := { dst := some 68, op := Op.pick (Operand.tmp 64) (Operand.tmp 67) (Operand.const (Value.bool false)), type := 4, pos := "law.go:48", after := #[{ on := 17, ground := Ground.data }, { on := 20, ground := Ground.data }], guard := none }) (v := ?_) rfl (by kernel_rfl) (by kernel_rfl) (by kernel_rfl) (fun _ _ _ h => h) (Or.inl ⟨by rfl, ?_⟩) b5 ?_
    rotate_left
    · intro w hSw
      go_simp
      try with_reducible rfl
    try simp only [Act.put, List.setIfInBounds_toArray, List.set_cons_zero, List.set_cons_succ]
    refine wpAnyH_take (i := 22) (oi := { dst := some 69, op := Op.move (Operand.tmp 68), type := 4, pos := "law.go:48", after := #[{ on := 21, ground := Ground.data }, { on := 17, ground := Ground.chain }], guard := none }) (v := ?_) rfl (by kernel_rfl) (by kernel_rfl) (by kernel_rfl) (fun _ _ _ h => h) (Or.inl ⟨by rfl, ?_⟩) b5 ?_
    rotate_left
    · intro w hSw
      go_simp
      try with_reducible rfl
    try simp only [Act.put, List.setIfInBounds_toArray, List.set_cons_zero, List.set_cons_succ]
    refine wpAnyH_take (i := 23) (oi := { dst := some 70, op := Op.load 29 (Operand.tmp 11), type := 29, pos := "law.go:48", after := #[{ on := 22, ground := Ground.guard }], guard := some (22, true) }) (v := ?_) rfl (by kernel_rfl) (by kernel_rfl) (by kernel_rfl) (fun _ _ _ h => h) (Or.inl ⟨by rfl, ?_⟩) b5 ?_
    rotate_left
    · intro w hSw
      have fd0 := (hSw.cell (p := ⟨gd, 0, none⟩) ltd).trans ed0
      have fd1 := (hSw.cell (p := ⟨gd, 1, none⟩) ltd).trans ed1
      have fc0 := (hSw.cell (p := ⟨gc, 0, none⟩) ltc).trans ec0
      have fc1 := (hSw.cell (p := ⟨gc, 1, none⟩) ltc).trans ec1
      have fr0 := (hSw.cell (p := ⟨gr, 0, none⟩) ltr).trans er0
      have fr1 := (hSw.cell (p := ⟨gr, 1, none⟩) ltr).trans er1
      have ff0 := (hSw.cell (p := ⟨gf, 0, none⟩) ltf).trans ef0
      have ff1 := (hSw.cell (p := ⟨gf, 1, none⟩) ltf).trans ef1
      have fx0 := (hSw.cell (p := ⟨gx, 0, none⟩) ltx).trans ex0
      have fx1 := (hSw.cell (p := ⟨gx, 1, none⟩) ltx).trans ex1
      have fy0 := (hSw.cell (p := ⟨gy, 0, none⟩) lty).trans ey0
      have fy1 := (hSw.cell (p := ⟨gy, 1, none⟩) lty).trans ey1
      go_simp
      try with_reducible rfl
    try simp only [Act.put, List.setIfInBounds_toArray, List.set_cons_zero, List.set_cons_succ]
    refine wpAnyH_take (i := 24) (oi := { dst := some 71, op := Op.load 29 (Operand.tmp 13), type := 29, pos := "law.go:48", after := #[{ on := 22, ground := Ground.guard }], guard := some (22, true) }) (v := ?_) rfl (by kernel_rfl) (by kernel_rfl) (by kernel_rfl) (fun _ _ _ h => h) (Or.inl ⟨by rfl, ?_⟩) b5 ?_
    rotate_left
    · intro w hSw
      have fd0 := (hSw.cell (p := ⟨gd, 0, none⟩) ltd).trans ed0
      have fd1 := (hSw.cell (p := ⟨gd, 1, none⟩) ltd).trans ed1
      have fc0 := (hSw.cell (p := ⟨gc, 0, none⟩) ltc).trans ec0
      have fc1 := (hSw.cell (p := ⟨gc, 1, none⟩) ltc).trans ec1
      have fr0 := (hSw.cell (p := ⟨gr, 0, none⟩) ltr).trans er0
      have fr1 := (hSw.cell (p := ⟨gr, 1, none⟩) ltr).trans er1
      have ff0 := (hSw.cell (p := ⟨gf, 0, none⟩) ltf).trans ef0
      have ff1 := (hSw.cell (p := ⟨gf, 1, none⟩) ltf).trans ef1
      have fx0 := (hSw.cell (p := ⟨gx, 0, none⟩) ltx).trans ex0
      have fx1 := (hSw.cell (p := ⟨gx, 1, none⟩) ltx).trans ex1
      have fy0 := (hSw.cell (p := ⟨gy, 0, none⟩) lty).trans ey0
      have fy1 := (hSw.cell (p := ⟨gy, 1, none⟩) lty).trans ey1
      go_simp
      try with_reducible rfl
    try simp only [Act.put, List.setIfInBounds_toArray, List.set_cons_zero, List.set_cons_succ]
    refine wpAnyH_ready (rs := [25]) (by kernel_rfl) (by simp) ?_
    refine AllReadyH.cons (o := { dst := some 72, op := Op.call { callee := Callee.value (Operand.func 17), args := #[Operand.tmp 70, Operand.tmp 71], argTypes := #[29, 29] }, type := 4, pos := "law.go:48", after := #[{ on := 23, ground := Ground.data }, { on := 24, ground := Ground.data }, { on := 22, ground := Ground.chain }, { on := 22, ground := Ground.guard }], guard := some (22, true) }) rfl (fun K hK => ?_) AllReadyH.nil
    go_simp
    refine (Z6.out _ b5).mono ?_
    rintro e Q6 ⟨rfl, d6⟩
    have b6 : Below W8.heap.size W8 Q6 := b5.trans (d6.mono b5.size)
    go_wp2_with (fail)
    refine hK.out _ _ b6 (fun hHeld => ?_)
    clear hK K hHeld
    try simp only [Act.put, List.setIfInBounds_toArray, List.set_cons_zero, List.set_cons_succ]
    refine wpAnyH_take (i := 26) (oi := { dst := some 73, op := Op.pick (Operand.tmp 69) (Operand.tmp 72) (Operand.const (Value.bool false)), type := 4, pos := "law.go:48", after := #[{ on := 22, ground := Ground.data }, { on := 25, ground := Ground.data }], guard := none }) (v := ?_) rfl (by kernel_rfl) (by kernel_rfl) (by kernel_rfl) (fun _ _ _ h => h) (Or.inl ⟨by rfl, ?_⟩) b6 ?_
    rotate_left
    · intro w hSw
      go_simp
      try with_reducible rfl
    try simp only [Act.put, List.setIfInBounds_toArray, List.set_cons_zero, List.set_cons_succ]
    refine wpAnyH_take (i := 27) (oi := { dst := some 74, op := Op.move (Operand.tmp 73), type := 4, pos := "law.go:48", after := #[{ on := 26, ground := Ground.data }, { on := 25, ground := Ground.chain }], guard := none }) (v := ?_) rfl (by kernel_rfl) (by kernel_rfl) (by kernel_rfl) (fun _ _ _ h => h) (Or.inl ⟨by rfl, ?_⟩) b6 ?_
    rotate_left
    · intro w hSw
      go_simp
      try with_reducible rfl
    try simp only [Act.put, List.setIfInBounds_toArray, List.set_cons_zero, List.set_cons_succ]
    refine wpAnyH_take (i := 28) (oi := { dst := some 75, op := Op.move (Operand.tmp 12), type := 4, pos := "law.go:48", after := #[{ on := 27, ground := Ground.guard }], guard := some (27, true) }) (v := ?_) rfl (by kernel_rfl) (by kernel_rfl) (by kernel_rfl) (fun _ _ _ h => h) (Or.inl ⟨by rfl, ?_⟩) b6 ?_
    rotate_left
    · intro w hSw
      go_simp
      try with_reducible rfl
    try simp only [Act.put, List.setIfInBounds_toArray, List.set_cons_zero, List.set_cons_succ]
    refine wpAnyH_take (i := 29) (oi := { dst := some 76, op := Op.move (Operand.tmp 14), type := 4, pos := "law.go:48", after := #[{ on := 27, ground := Ground.guard }], guard := some (27, true) }) (v := ?_) rfl (by kernel_rfl) (by kernel_rfl) (by kernel_rfl) (fun _ _ _ h => h) (Or.inl ⟨by rfl, ?_⟩) b6 ?_
    rotate_left
    · intro w hSw
      go_simp
      try with_reducible rfl
    try simp only [Act.put, List.setIfInBounds_toArray, List.set_cons_zero, List.set_cons_succ]
    refine wpAnyH_take (i := 30) (oi := { dst := some 77, op := Op.binOp BinOp.eql 4 (Operand.tmp 75) (Operand.tmp 76) 4, type := 4, pos := "law.go:48", after := #[{ on := 28, ground := Ground.data }, { on := 29, ground := Ground.data }, { on := 27, ground := Ground.guard }], guard := some (27, true) }) (v := ?_) rfl (by kernel_rfl) (by kernel_rfl) (by kernel_rfl) (fun _ _ _ h => h) (Or.inl ⟨by rfl, ?_⟩) b6 ?_
    rotate_left
    · intro w hSw
      go_simp
      try with_reducible rfl
    try simp only [Act.put, List.setIfInBounds_toArray, List.set_cons_zero, List.set_cons_succ]
    refine wpAnyH_take (i := 31) (oi := { dst := some 78, op := Op.pick (Operand.tmp 74) (Operand.tmp 77) (Operand.const (Value.bool false)), type := 4, pos := "law.go:48", after := #[{ on := 27, ground := Ground.data }, { on := 30, ground := Ground.data }], guard := none }) (v := ?_) rfl (by kernel_rfl) (by kernel_rfl) (by kernel_rfl) (fun _ _ _ h => h) (Or.inl ⟨by rfl, ?_⟩) b6 ?_
    rotate_left
    · intro w hSw
      go_simp
      try with_reducible rfl
    try simp only [Act.put, List.setIfInBounds_toArray, List.set_cons_zero, List.set_cons_succ]
    refine wpAnyH_take (i := 32) (oi := { dst := some 79, op := Op.move (Operand.tmp 78), type := 4, pos := "law.go:48", after := #[{ on := 31, ground := Ground.data }, { on := 27, ground := Ground.chain }], guard := none }) (v := ?_) rfl (by kernel_rfl) (by kernel_rfl) (by kernel_rfl) (fun _ _ _ h => h) (Or.inl ⟨by rfl, ?_⟩) b6 ?_
    rotate_left
    · intro w hSw
      go_simp
      try with_reducible rfl
    try simp only [Act.put, List.setIfInBounds_toArray, List.set_cons_zero, List.set_cons_succ]
    refine wpAnyH_take (i := 33) (oi := { dst := some 80, op := Op.load 29 (Operand.tmp 5), type := 29, pos := "law.go:48", after := #[{ on := 32, ground := Ground.guard }], guard := some (32, true) }) (v := ?_) rfl (by kernel_rfl) (by kernel_rfl) (by kernel_rfl) (fun _ _ _ h => h) (Or.inl ⟨by rfl, ?_⟩) b6 ?_
    rotate_left
    · intro w hSw
      have fd0 := (hSw.cell (p := ⟨gd, 0, none⟩) ltd).trans ed0
      have fd1 := (hSw.cell (p := ⟨gd, 1, none⟩) ltd).trans ed1
      have fc0 := (hSw.cell (p := ⟨gc, 0, none⟩) ltc).trans ec0
      have fc1 := (hSw.cell (p := ⟨gc, 1, none⟩) ltc).trans ec1
      have fr0 := (hSw.cell (p := ⟨gr, 0, none⟩) ltr).trans er0
      have fr1 := (hSw.cell (p := ⟨gr, 1, none⟩) ltr).trans er1
      have ff0 := (hSw.cell (p := ⟨gf, 0, none⟩) ltf).trans ef0
      have ff1 := (hSw.cell (p := ⟨gf, 1, none⟩) ltf).trans ef1
      have fx0 := (hSw.cell (p := ⟨gx, 0, none⟩) ltx).trans ex0
      have fx1 := (hSw.cell (p := ⟨gx, 1, none⟩) ltx).trans ex1
      have fy0 := (hSw.cell (p := ⟨gy, 0, none⟩) lty).trans ey0
      have fy1 := (hSw.cell (p := ⟨gy, 1, none⟩) lty).trans ey1
      go_simp
      try with_reducible rfl
    try simp only [Act.put, List.setIfInBounds_toArray, List.set_cons_zero, List.set_cons_succ]
    refine wpAnyH_take (i := 34) (oi := { dst := some 81, op := Op.load 29 (Operand.tmp 6), type := 29, pos := "law.go:48", after := #[{ on := 32, ground := Ground.guard }], guard := some (32, true) }) (v := ?_) rfl (by kernel_rfl) (by kernel_rfl) (by kernel_rfl) (fun _ _ _ h => h) (Or.inl ⟨by rfl, ?_⟩) b6 ?_
    rotate_left
    · intro w hSw
      have fd0 := (hSw.cell (p := ⟨gd, 0, none⟩) ltd).trans ed0
      have fd1 := (hSw.cell (p := ⟨gd, 1, none⟩) ltd).trans ed1
      have fc0 := (hSw.cell (p := ⟨gc, 0, none⟩) ltc).trans ec0
      have fc1 := (hSw.cell (p := ⟨gc, 1, none⟩) ltc).trans ec1
      have fr0 := (hSw.cell (p := ⟨gr, 0, none⟩) ltr).trans er0
      have fr1 := (hSw.cell (p := ⟨gr, 1, none⟩) ltr).trans er1
      have ff0 := (hSw.cell (p := ⟨gf, 0, none⟩) ltf).trans ef0
      have ff1 := (hSw.cell (p := ⟨gf, 1, none⟩) ltf).trans ef1
      have fx0 := (hSw.cell (p := ⟨gx, 0, none⟩) ltx).trans ex0
      have fx1 := (hSw.cell (p := ⟨gx, 1, none⟩) ltx).trans ex1
      have fy0 := (hSw.cell (p := ⟨gy, 0, none⟩) lty).trans ey0
      have fy1 := (hSw.cell (p := ⟨gy, 1, none⟩) lty).trans ey1
      go_simp
      try with_reducible rfl
    try simp only [Act.put, List.setIfInBounds_toArray, List.set_cons_zero, List.set_cons_succ]
    refine wpAnyH_take (i := 36) (oi := { dst := some 83, op := Op.load 29 (Operand.tmp 5), type := 29, pos := "law.go:48", after := #[{ on := 32, ground := Ground.guard }], guard := some (32, true) }) (v := ?_) rfl (by kernel_rfl) (by kernel_rfl) (by kernel_rfl) (fun _ _ _ h => h) (Or.inl ⟨by rfl, ?_⟩) b6 ?_
    rotate_left
    · intro w hSw
      have fd0 := (hSw.cell (p := ⟨gd, 0, none⟩) ltd).trans ed0
      have fd1 := (hSw.cell (p := ⟨gd, 1, none⟩) ltd).trans ed1
      have fc0 := (hSw.cell (p := ⟨gc, 0, none⟩) ltc).trans ec0
      have fc1 := (hSw.cell (p := ⟨gc, 1, none⟩) ltc).trans ec1
      have fr0 := (hSw.cell (p := ⟨gr, 0, none⟩) ltr).trans er0
      have fr1 := (hSw.cell (p := ⟨gr, 1, none⟩) ltr).trans er1
      have ff0 := (hSw.cell (p := ⟨gf, 0, none⟩) ltf).trans ef0
      have ff1 := (hSw.cell (p := ⟨gf, 1, none⟩) ltf).trans ef1
      have fx0 := (hSw.cell (p := ⟨gx, 0, none⟩) ltx).trans ex0
      have fx1 := (hSw.cell (p := ⟨gx, 1, none⟩) ltx).trans ex1
      have fy0 := (hSw.cell (p := ⟨gy, 0, none⟩) lty).trans ey0
      have fy1 := (hSw.cell (p := ⟨gy, 1, none⟩) lty).trans ey1
      go_simp
      try with_reducible rfl
    try simp only [Act.put, List.setIfInBounds_toArray, List.set_cons_zero, List.set_cons_succ]
    refine wpAnyH_take (i := 37) (oi := { dst := some 84, op := Op.load 29 (Operand.tmp 6), type := 29, pos := "law.go:48", after := #[{ on := 32, ground := Ground.guard }], guard := some (32, true) }) (v := ?_) rfl (by kernel_rfl) (by kernel_rfl) (by kernel_rfl) (fun _ _ _ h => h) (Or.inl ⟨by rfl, ?_⟩) b6 ?_
    rotate_left
    · intro w hSw
      have fd0 := (hSw.cell (p := ⟨gd, 0, none⟩) ltd).trans ed0
      have fd1 := (hSw.cell (p := ⟨gd, 1, none⟩) ltd).trans ed1
      have fc0 := (hSw.cell (p := ⟨gc, 0, none⟩) ltc).trans ec0
      have fc1 := (hSw.cell (p := ⟨gc, 1, none⟩) ltc).trans ec1
      have fr0 := (hSw.cell (p := ⟨gr, 0, none⟩) ltr).trans er0
      have fr1 := (hSw.cell (p := ⟨gr, 1, none⟩) ltr).trans er1
      have ff0 := (hSw.cell (p := ⟨gf, 0, none⟩) ltf).trans ef0
      have ff1 := (hSw.cell (p := ⟨gf, 1, none⟩) ltf).trans ef1
      have fx0 := (hSw.cell (p := ⟨gx, 0, none⟩) ltx).trans ex0
      have fx1 := (hSw.cell (p := ⟨gx, 1, none⟩) ltx).trans ex1
      have fy0 := (hSw.cell (p := ⟨gy, 0, none⟩) lty).trans ey0
      have fy1 := (hSw.cell (p := ⟨gy, 1, none⟩) lty).trans ey1
      go_simp
      try with_reducible rfl
    try simp only [Act.put, List.setIfInBounds_toArray, List.set_cons_zero, List.set_cons_succ]
    refine wpAnyH_ready (rs := [35]) (by kernel_rfl) (by simp) ?_
    refine AllReadyH.cons (o := { dst := some 82, op := Op.call { callee := Callee.value (Operand.func 18), args := #[Operand.tmp 80, Operand.tmp 81], argTypes := #[29, 29] }, type := 3, pos := "law.go:48", after := #[{ on := 33, ground := Ground.data }, { on := 34, ground := Ground.data }, { on := 32, ground := Ground.chain }, { on := 32, ground := Ground.guard }], guard := some (32, true) }) rfl (fun K hK => ?_) AllReadyH.nil
    go_simp
    refine (Z7.out _ b6).mono ?_
    rintro e Q7 ⟨rfl, d7⟩
    have b7 : Below W8.heap.size W8 Q7 := b6.trans (d7.mono b6.size)
    go_wp2_with (fail)
    refine hK.out _ _ b7 (fun hHeld => ?_)
    clear hK K hHeld
    try simp only [Act.put, List.setIfInBounds_toArray, List.set_cons_zero, List.set_cons_succ]
    refine wpAnyH_ready (rs := [38]) (by kernel_rfl) (by simp) ?_
    refine AllReadyH.cons (o := { dst := some 85, op := Op.call { callee := Callee.value (Operand.func 19), args := #[Operand.tmp 83, Operand.tmp 84], argTypes := #[29, 29] }, type := 3, pos := "law.go:48", after := #[{ on := 36, ground := Ground.data }, { on := 37, ground := Ground.data }, { on := 35, ground := Ground.chain }, { on := 32, ground := Ground.guard }], guard := some (32, true) }) rfl (fun K hK => ?_) AllReadyH.nil
    go_simp
    refine (Z8.out _ b7).mono ?_
    rintro e Q8 ⟨rfl, d8⟩
    have b8 : Below W8.heap.size W8 Q8 := b7.trans (d8.mono b7.size)
    go_wp2_with (fail)
    refine hK.out _ _ b8 (fun hHeld => ?_)
    clear hK K hHeld
    try simp only [Act.put, List.setIfInBounds_toArray, List.set_cons_zero, List.set_cons_succ]
    refine wpAnyH_take (i := 39) (oi := { dst := some 86, op := Op.binOp BinOp.eql 3 (Operand.tmp 82) (Operand.tmp 85) 3, type := 4, pos := "law.go:48", after := #[{ on := 35, ground := Ground.data }, { on := 38, ground := Ground.data }, { on := 32, ground := Ground.guard }], guard := some (32, true) }) (v := ?_) rfl (by kernel_rfl) (by kernel_rfl) (by kernel_rfl) (fun _ _ _ h => h) (Or.inl ⟨by rfl, ?_⟩) b8 ?_
    rotate_left
    · intro w hSw
      go_simp
      try with_reducible rfl
    try simp only [Act.put, List.setIfInBounds_toArray, List.set_cons_zero, List.set_cons_succ]
    refine wpAnyH_take (i := 40) (oi := { dst := some 87, op := Op.pick (Operand.tmp 79) (Operand.tmp 86) (Operand.const (Value.bool false)), type := 4, pos := "law.go:48", after := #[{ on := 32, ground := Ground.data }, { on := 39, ground := Ground.data }], guard := none }) (v := ?_) rfl (by kernel_rfl) (by kernel_rfl) (by kernel_rfl) (fun _ _ _ h => h) (Or.inl ⟨by rfl, ?_⟩) b8 ?_
    rotate_left
    · intro w hSw
      go_simp
      try with_reducible rfl
    try simp only [Act.put, List.setIfInBounds_toArray, List.set_cons_zero, List.set_cons_succ]
    refine wpAnyH_take (i := 41) (oi := { dst := some 88, op := Op.move (Operand.tmp 87), type := 4, pos := "law.go:48", after := #[{ on := 40, ground := Ground.data }, { on := 38, ground := Ground.chain }], guard := none }) (v := ?_) rfl (by kernel_rfl) (by kernel_rfl) (by kernel_rfl) (fun _ _ _ h => h) (Or.inl ⟨by rfl, ?_⟩) b8 ?_
    rotate_left
    · intro w hSw
      go_simp
      try with_reducible rfl
    try simp only [Act.put, List.setIfInBounds_toArray, List.set_cons_zero, List.set_cons_succ]
    refine wpAnyH_ready (rs := [42]) (by kernel_rfl) (by simp) ?_
    refine AllReadyH.cons (o := { dst := some 89, op := Op.call { callee := Callee.value (Operand.func 20), args := #[], argTypes := #[] }, type := 4, pos := "law.go:48", after := #[{ on := 41, ground := Ground.chain }, { on := 41, ground := Ground.guard }], guard := some (41, true) }) rfl (fun K hK => ?_) AllReadyH.nil
    go_simp
    refine (wakes_any _).mono ?_
    rintro e Q9 ⟨rfl, d9⟩
    have b9 : Below W8.heap.size W8 Q9 := b8.trans (d9.mono b8.size)
    go_wp2_with (fail)
    refine hK.out _ _ b9 (fun hHeld => ?_)
    clear hK K hHeld
    try simp only [Act.put, List.setIfInBounds_toArray, List.set_cons_zero, List.set_cons_succ]
    refine wpAnyH_take (i := 43) (oi := { dst := some 90, op := Op.pick (Operand.tmp 88) (Operand.tmp 89) (Operand.const (Value.bool false)), type := 4, pos := "law.go:48", after := #[{ on := 41, ground := Ground.data }, { on := 42, ground := Ground.data }], guard := none }) (v := ?_) rfl (by kernel_rfl) (by kernel_rfl) (by kernel_rfl) (fun _ _ _ h => h) (Or.inl ⟨by rfl, ?_⟩) b9 ?_
    rotate_left
    · intro w hSw
      go_simp
      try with_reducible rfl
    try simp only [Act.put, List.setIfInBounds_toArray, List.set_cons_zero, List.set_cons_succ]
    refine wpAnyH_take (i := 44) (oi := { dst := some 4, op := Op.assign (Operand.tmp 90), type := 4, pos := "law.go:48", after := #[{ on := 43, ground := Ground.data }, { on := 42, ground := Ground.chain }, { on := 0, ground := Ground.phase }, { on := 1, ground := Ground.phase }, { on := 2, ground := Ground.phase }, { on := 3, ground := Ground.phase }, { on := 4, ground := Ground.phase }, { on := 5, ground := Ground.phase }, { on := 6, ground := Ground.phase }, { on := 7, ground := Ground.phase }, { on := 8, ground := Ground.phase }, { on := 9, ground := Ground.phase }, { on := 10, ground := Ground.phase }, { on := 11, ground := Ground.phase }, { on := 12, ground := Ground.phase }, { on := 13, ground := Ground.phase }, { on := 14, ground := Ground.phase }, { on := 15, ground := Ground.phase }, { on := 16, ground := Ground.phase }, { on := 17, ground := Ground.phase }, { on := 18, ground := Ground.phase }, { on := 19, ground := Ground.phase }, { on := 20, ground := Ground.phase }, { on := 21, ground := Ground.phase }, { on := 22, ground := Ground.phase }, { on := 23, ground := Ground.phase }, { on := 24, ground := Ground.phase }, { on := 25, ground := Ground.phase }, { on := 26, ground := Ground.phase }, { on := 27, ground := Ground.phase }, { on := 28, ground := Ground.phase }, { on := 29, ground := Ground.phase }, { on := 30, ground := Ground.phase }, { on := 31, ground := Ground.phase }, { on := 32, ground := Ground.phase }, { on := 33, ground := Ground.phase }, { on := 34, ground := Ground.phase }, { on := 35, ground := Ground.phase }, { on := 36, ground := Ground.phase }, { on := 37, ground := Ground.phase }, { on := 38, ground := Ground.phase }, { on := 39, ground := Ground.phase }, { on := 40, ground := Ground.phase }, { on := 41, ground := Ground.phase }, { on := 42, ground := Ground.phase }, { on := 43, ground := Ground.phase }], guard := none }) (v := ?_) rfl (by kernel_rfl) (by kernel_rfl) (by kernel_rfl) (fun _ _ _ h => h) (Or.inl ⟨by rfl, ?_⟩) b9 ?_
    rotate_left
    · intro w hSw
      go_simp
      try with_reducible rfl
    try simp only [Act.put, List.setIfInBounds_toArray, List.set_cons_zero, List.set_cons_succ]
    refine wpAnyH_done (by kernel_rfl) ?_ _
    go_wp2
    go_ret
    exact ⟨rfl, HBB.out.trans (b9.mono HBB.out.size)⟩
end Go.Proofs.Ytmbkiefbchjofaa

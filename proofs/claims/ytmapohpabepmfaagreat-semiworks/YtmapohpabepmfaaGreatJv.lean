/- The law SemiWorks: its walk. -/
import Derived.Test.YtmapohpabepmfaaGreatJw
import Derived.Deep.CutBlock
import Derived.Deep.DeepCutAuto
import Derived.Deep.CutRange
import Derived.Deep.RegionHeld3
namespace Go.Proofs.YtmapohpabepmfaaGreat
open Go.ChangeShapes Go.WideShapes Go.ChangeAt Go.RowKit

theorem short_mul {s t : List Lin} (h : Short6 s) (g : Short6 t) : s.length * t.length ≤ 100000000000 := Nat.le_trans (Nat.mul_le_mul h.1 g.1) (by decide)
theorem short_sum {s t : List Lin} (h : Short6 s) (g : Short6 t) (i j : Nat) : (linAt s i).ps.length + (linAt t j).ps.length ≤ 100000000000 := by
  have := h.2 i
  have := g.2 j
  omega
set_option maxRecDepth 100000 in
set_option maxHeartbeats 8000000 in
theorem works_walk (a0 : Option Addr) (l0 c0 : Nat) (q0 : List Raw7) (a1 : Option Addr) (l1 c1 : Nat) (z1 : List Int) (a2 : Option Addr) (l2 c2 : Nat) (z2 : List Int) (n3 n4 n5 : Int) (w : World) (h0 : Hid (CameLins w a0 l0 c0 q0)) (h1 : Hid (Came w a1 l1 c1 z1)) (h2 : Hid (Came w a2 l2 c2 z2))
    (hn4 : -9223372036854775808 ≤ n4 ∧ n4 ≤ 9223372036854775807) (hn5 : -9223372036854775808 ≤ n5 ∧ n5 ≤ 9223372036854775807) :
    Calls Tryz.prog 4 #[.slice a0 l0 c0, .slice a1 l1 c1, .slice a2 l2 c2, .int .i64 n3, .int .i64 n4, .int .i64 n5] w (True_ w) := by
  go_enter Tryz.func4, Tryz.ntmps4
  have HZ1 := Lib.hid (of8 a0 l0 c0 q0 a1 l1 c1 z1 n3 w h0 h1)
  go_wp2_with (fail)
  refine HZ1.out.mono ?_
  rintro e W1 ⟨Ax, Cx, x, rfl, Rx, Fx, b1⟩
  have HFx := Lib.hid Fx
  have HRx := Lib.hid Rx
  have HB1 := Lib.hid b1
  have HA2 := Lib.hid (h2.out.below b1)
  have hlx := Rx.le
  clear HZ1 Fx Rx b1 h0 h1 h2
  generalize hnx : x.length = Nx at hlx ⊢
  have HNx := Lib.hid hnx
  clear hnx
  have HZ2 := Lib.hid (semi18 a2 l2 c2 z2 W1 HA2)
  go_wp2_with (fail)
  refine HZ2.out.mono ?_
  rintro e W2 ⟨Ay, Cy, y, rfl, Ry, Fy, b2⟩
  have HFy := Lib.hid (short_fine Fy)
  have HRy := Lib.hid Ry
  have HRx := Lib.hid (HRx.out.below b2)
  have HB2 := Lib.hid (HB1.out.trans (b2.mono HB1.out.size))
  have hly := Ry.le
  clear HZ2 Fy Ry b2 HA2 HB1
  generalize hny : y.length = Ny at hly ⊢
  have HNy := Lib.hid hny
  clear hny
  go_wp2_with (fail)
  refine (within_any n4 400 _ (by omega) (by omega) hn4.1 hn4.2).mono ?_
  rintro e _ ⟨B, hB0, hB1, rfl, rfl⟩
  go_upto_if 31 with (fail)
  go_cut [5] from 29 to 33 (fun v wx => ∃ n : Int, v = .int .i64 n ∧ (-9223372036854775808 ≤ n ∧ n ≤ 9223372036854775807) ∧ W2 = wx)
  case first =>
    have hr0 : -4 < n5.tmod 4 := by have := Int.lt_tmod_of_pos n5 (show (0 : Int) < 4 by omega); omega
    have hr1 : n5.tmod 4 < 4 := Int.tmod_lt_of_pos n5 (by omega)
    by_cases ho : n5.tmod 4 = 0
    · have hmb : (n5.tmod 4 != 0) = false := by simp [ho]
      go_wp2
      go_meet
      exact ⟨n5, rfl, hn5, rfl⟩
    · have hmb : (n5.tmod 4 != 0) = true := by simp [ho]
      go_wp2_with (fail)
      refine (within_any n5 5 _ (by omega) (by omega) hn5.1 hn5.2).mono ?_
      rintro e _ ⟨r, hr2, hr3, rfl, rfl⟩
      go_wp2
      go_meet
      exact ⟨r, rfl, ⟨by omega, by omega⟩, rfl⟩
  case rest =>
    obtain ⟨n, rfl, hn, rfl⟩ := hcut
    clear hn4 hn5
    go_wp2_with (fail)
    refine (new_any B W2).mono ?_
    rintro e W3 ⟨rfl, m1, b1, z1⟩
    go_wp2_with (fail)
    refine (rnew_any B W3).mono ?_
    rintro e W4 ⟨rfl, m2, b2, z2⟩
    have hmax : max B 0 = B := by omega
    rw [hmax] at m1 m2
    have HS : Hid (WS w W2.heap.size W3.heap.size (some (B, 0, false)) (some (B, 0, false)) Ax Ay Cx Cy x y W4) := Lib.hid
      ⟨HB2.out.trans ((b1.trans (b2.mono b1.size)).mono HB2.out.size), ⟨_, rfl, m1.below b2, by omega, by omega, by omega⟩, ⟨_, rfl, m2, by omega, by omega, by omega⟩, (HRx.out.below b1).below b2, (HRy.out.below b1).below b2, HB2.out.size, Nat.le_trans HB2.out.size b1.size⟩
    clear m1 m2 b1 b2 z1 z2 hmax HB2 HRx HRy
    generalize W2.heap.size = gm at HS ⊢
    generalize W3.heap.size = gr at HS ⊢
    have h00 : (0 : Int) ≤ 0 := by omega
    obtain ⟨c1, e1, S1, o1, hf1, hS10, hS11⟩ := catM_form (B := B) (o := false) x y h00 hB0
    have HF1 := Lib.hid hf1
    clear hf1
    generalize hc1 : c1.length = N1
    have HC1 := Lib.hid hc1
    clear hc1
    have HZ := Lib.hid ((cat22 (some ⟨gm, 0, none⟩) Ax Ay Cx Cy (some (B, 0, false)) x y W4 HS.out.mm HS.out.xx HS.out.yy (short_mul HFx.out HFy.out) (short_sum HFx.out HFy.out)).mono (fun _ _ h => works_to HF1.out HC1.out h))
    rw [HNx.out, HNy.out] at HZ
    go_wp2_with (fail)
    refine HZ.out.mono ?_
    rintro e W4a ⟨Ac, Cc, rfl, Rc, mc, kc⟩
    have hlc := Rc.le
    rw [HC1.out] at hlc
    have HS := Lib.hid (HS.out.stepM kc mc)
    have HRc := Lib.hid Rc
    clear HZ Rc mc kc
    have HZ := Lib.hid ((rcat23 (some ⟨gr, 0, none⟩) Ax Ay Cx Cy (some (B, 0, false)) x y W4a HS.out.rr (fun h => nomatch h) HS.out.xx HS.out.yy (short_mul HFx.out HFy.out) (short_sum HFx.out HFy.out)).mono (fun _ _ h => works_to HF1.out HC1.out h))
    rw [HNx.out, HNy.out] at HZ
    go_wp2_with (fail)
    refine HZ.out.mono ?_
    rintro e W4b ⟨Ad, Cd, rfl, Rd, md, kd⟩
    have hld := Rd.le
    rw [HC1.out] at hld
    have HRc := Lib.hid (HS.out.keepR kd HRc.out)
    have HS := Lib.hid (HS.out.stepR kd md)
    have HRd := Lib.hid Rd
    clear HZ Rd md kd
    have ZS : Hid (∀ V, Below W4b.heap.size W4b V → Calls Tryz.prog 13 #[.slice Ac N1 Cc, .slice Ad N1 Cd] V (TellsB true V)) := Lib.hid (fun V h => by
      have Z := sameSemi_any Ac Ad Cc Cd c1 c1 V (HRc.out.below h) (HRd.out.below h)
      rw [HC1.out, decide_eq_true rfl] at Z
      exact Z)
    have ZU : Hid (∀ V, Below W4b.heap.size W4b V → Calls Tryz.prog 24 #[.pointer (some ⟨gm, 0, none⟩)] V (TellsV (.int .i64 S1) V)) := Lib.hid (fun V h => spentV (HS.out.mm.below h))
    have ZO : Hid (∀ V, Below W4b.heap.size W4b V → Calls Tryz.prog 29 #[.pointer (some ⟨gm, 0, none⟩)] V (TellsV (.bool o1) V)) := Lib.hid (fun V h => outV (HS.out.mm.below h))
    have eu := (at_some HS.out.rr).c1
    have eo := (at_some HS.out.rr).c2
    have ltr := Lies.lt (at_some HS.out.rr)
    have bd : Below W4b.heap.size W4b W4b.drew := ⟨rfl, rfl, rfl, Nat.le_refl _, fun _ _ => rfl⟩
    go_wp2_with (fail)
    refine wp_region_held_drew (S := fun w' => Below W4b.heap.size W4b w') (by kernel_rfl) bd (fun hHeld => ?_)
    refine wpAnyH_take (i := 0) (oi := { dst := some 54, op := Op.move (Operand.tmp 17), type := 25, pos := "law.go:62", after := #[], guard := none }) (v := ?_) rfl (by kernel_rfl) (by kernel_rfl) (by kernel_rfl) (fun _ _ _ h => h) (Or.inl ⟨by rfl, ?_⟩) (by assumption) ?_
    rotate_left
    · intro w hSw
      go_simp
      try with_reducible rfl
    try simp only [Act.put, List.setIfInBounds_toArray, List.set_cons_zero, List.set_cons_succ]
    refine wpAnyH_take (i := 1) (oi := { dst := some 55, op := Op.move (Operand.tmp 19), type := 25, pos := "law.go:62", after := #[], guard := none }) (v := ?_) rfl (by kernel_rfl) (by kernel_rfl) (by kernel_rfl) (fun _ _ _ h => h) (Or.inl ⟨by rfl, ?_⟩) (by assumption) ?_
    rotate_left
    · intro w hSw
      go_simp
      try with_reducible rfl
    try simp only [Act.put, List.setIfInBounds_toArray, List.set_cons_zero, List.set_cons_succ]
    refine wpAnyH_ready (rs := [2]) (by kernel_rfl) (by simp) ?_
    refine AllReadyH.cons (o := { dst := some 56, op := Op.call { callee := Callee.value (Operand.func 13), args := #[Operand.tmp 54, Operand.tmp 55], argTypes := #[25, 25] }, type := 4, pos := "law.go:62", after := #[{ on := 0, ground := Ground.data }, { on := 1, ground := Ground.data }], guard := none }) rfl (fun K hK => ?_) AllReadyH.nil
    go_simp
    refine (ZS.out _ bd).mono ?_
    rintro e V1 ⟨rfl, d1⟩
    have b1 : Below W4b.heap.size W4b V1 := bd.trans (d1.mono bd.size)
    go_wp2_with (fail)
    refine hK.out _ _ b1 (fun hHeld => ?_)
    clear hK K
    try simp only [Act.put, List.setIfInBounds_toArray, List.set_cons_zero, List.set_cons_succ]
    refine wpAnyH_take (i := 3) (oi := { dst := some 57, op := Op.unOp UnOp.not 4 (Operand.tmp 56), type := 4, pos := "law.go:62", after := #[{ on := 2, ground := Ground.data }], guard := none }) (v := ?_) rfl (by kernel_rfl) (by kernel_rfl) (by kernel_rfl) (fun _ _ _ h => h) (Or.inl ⟨by rfl, ?_⟩) (by assumption) ?_
    rotate_left
    · intro w hSw
      go_simp
      try with_reducible rfl
    try simp only [Act.put, List.setIfInBounds_toArray, List.set_cons_zero, List.set_cons_succ]
    refine wpAnyH_take (i := 4) (oi := { dst := some 58, op := Op.move (Operand.tmp 57), type := 4, pos := "law.go:62", after := #[{ on := 3, ground := Ground.data }, { on := 2, ground := Ground.chain }], guard := none }) (v := ?_) rfl (by kernel_rfl) (by kernel_rfl) (by kernel_rfl) (fun _ _ _ h => h) (Or.inl ⟨by rfl, ?_⟩) (by assumption) ?_
    rotate_left
    · intro w hSw
      go_simp
      try with_reducible rfl
    try simp only [Act.put, List.setIfInBounds_toArray, List.set_cons_zero, List.set_cons_succ]
    refine wpAnyH_take (i := 5) (oi := { dst := some 59, op := Op.move (Operand.tmp 18), type := 41, pos := "law.go:62", after := #[{ on := 4, ground := Ground.guard }], guard := some (4, false) }) (v := ?_) rfl (by kernel_rfl) (by kernel_rfl) (by kernel_rfl) (fun _ _ _ h => h) (Or.inl ⟨by rfl, ?_⟩) (by assumption) ?_
    rotate_left
    · intro w hSw
      go_simp
      try with_reducible rfl
    try simp only [Act.put, List.setIfInBounds_toArray, List.set_cons_zero, List.set_cons_succ]
    refine wpAnyH_take (i := 6) (oi := { dst := some 60, op := Op.move (Operand.tmp 20), type := 3, pos := "law.go:62", after := #[{ on := 4, ground := Ground.guard }], guard := some (4, false) }) (v := ?_) rfl (by kernel_rfl) (by kernel_rfl) (by kernel_rfl) (fun _ _ _ h => h) (Or.inl ⟨by rfl, ?_⟩) (by assumption) ?_
    rotate_left
    · intro w hSw
      go_simp
      try with_reducible rfl
    try simp only [Act.put, List.setIfInBounds_toArray, List.set_cons_zero, List.set_cons_succ]
    refine wpAnyH_take (i := 7) (oi := { dst := some 61, op := Op.binOp BinOp.neq 3 (Operand.tmp 59) (Operand.tmp 60) 3, type := 4, pos := "law.go:62", after := #[{ on := 5, ground := Ground.data }, { on := 6, ground := Ground.data }, { on := 4, ground := Ground.guard }], guard := some (4, false) }) (v := ?_) rfl (by kernel_rfl) (by kernel_rfl) (by kernel_rfl) (fun _ _ _ h => h) (Or.inl ⟨by rfl, ?_⟩) (by assumption) ?_
    rotate_left
    · intro w hSw
      go_simp
      try with_reducible rfl
    try simp only [Act.put, List.setIfInBounds_toArray, List.set_cons_zero, List.set_cons_succ]
    refine wpAnyH_take (i := 8) (oi := { dst := some 62, op := Op.pick (Operand.tmp 58) (Operand.const (Value.bool true)) (Operand.tmp 61), type := 4, pos := "law.go:62", after := #[{ on := 4, ground := Ground.data }, { on := 7, ground := Ground.data }], guard := none }) (v := ?_) rfl (by kernel_rfl) (by kernel_rfl) (by kernel_rfl) (fun _ _ _ h => h) (Or.inl ⟨by rfl, ?_⟩) (by assumption) ?_
    rotate_left
    · intro w hSw
      go_simp
      try with_reducible rfl
    try simp only [Act.put, List.setIfInBounds_toArray, List.set_cons_zero, List.set_cons_succ]
    refine wpAnyH_take (i := 9) (oi := { dst := some 63, op := Op.move (Operand.tmp 62), type := 4, pos := "law.go:62", after := #[{ on := 8, ground := Ground.data }, { on := 4, ground := Ground.chain }], guard := none }) (v := ?_) rfl (by kernel_rfl) (by kernel_rfl) (by kernel_rfl) (fun _ _ _ h => h) (Or.inl ⟨by rfl, ?_⟩) (by assumption) ?_
    rotate_left
    · intro w hSw
      go_simp
      try with_reducible rfl
    try simp only [Act.put, List.setIfInBounds_toArray, List.set_cons_zero, List.set_cons_succ]
    refine wpAnyH_take (i := 10) (oi := { dst := some 64, op := Op.move (Operand.tmp 15), type := 37, pos := "law.go:62", after := #[{ on := 9, ground := Ground.guard }], guard := some (9, false) }) (v := ?_) rfl (by kernel_rfl) (by kernel_rfl) (by kernel_rfl) (fun _ _ _ h => h) (Or.inl ⟨by rfl, ?_⟩) (by assumption) ?_
    rotate_left
    · intro w hSw
      go_simp
      try with_reducible rfl
    try simp only [Act.put, List.setIfInBounds_toArray, List.set_cons_zero, List.set_cons_succ]
    refine wpAnyH_take (i := 12) (oi := { dst := some 66, op := Op.move (Operand.tmp 16), type := 39, pos := "law.go:62", after := #[{ on := 9, ground := Ground.guard }], guard := some (9, false) }) (v := ?_) rfl (by kernel_rfl) (by kernel_rfl) (by kernel_rfl) (fun _ _ _ h => h) (Or.inl ⟨by rfl, ?_⟩) (by assumption) ?_
    rotate_left
    · intro w hSw
      go_simp
      try with_reducible rfl
    try simp only [Act.put, List.setIfInBounds_toArray, List.set_cons_zero, List.set_cons_succ]
    refine wpAnyH_take (i := 13) (oi := { dst := some 67, op := Op.nilCheck (Operand.tmp 66), type := 0, pos := "law.go:62", after := #[{ on := 12, ground := Ground.data }, { on := 9, ground := Ground.guard }], guard := some (9, false) }) (v := ?_) rfl (by kernel_rfl) (by kernel_rfl) (by kernel_rfl) (fun _ _ _ h => h) (Or.inl ⟨by rfl, ?_⟩) (by assumption) ?_
    rotate_left
    · intro w hSw
      go_simp
      try with_reducible rfl
    try simp only [Act.put, List.setIfInBounds_toArray, List.set_cons_zero, List.set_cons_succ]
    refine wpAnyH_take (i := 14) (oi := { dst := some 68, op := Op.fieldAddr 48 (Operand.tmp 67) 1, type := 0, pos := "law.go:62", after := #[{ on := 13, ground := Ground.data }, { on := 9, ground := Ground.guard }], guard := some (9, false) }) (v := ?_) rfl (by kernel_rfl) (by kernel_rfl) (by kernel_rfl) (fun _ _ _ h => h) (Or.inl ⟨by rfl, ?_⟩) (by assumption) ?_
    rotate_left
    · intro w hSw
      go_simp
      try with_reducible rfl
    try simp only [Act.put, List.setIfInBounds_toArray, List.set_cons_zero, List.set_cons_succ]
    refine wpAnyH_take (i := 15) (oi := { dst := some 69, op := Op.load 3 (Operand.tmp 68), type := 3, pos := "law.go:62", after := #[{ on := 14, ground := Ground.data }, { on := 9, ground := Ground.guard }], guard := some (9, false) }) (v := ?_) rfl (by kernel_rfl) (by kernel_rfl) (by kernel_rfl) (fun _ _ _ h => h) (Or.inl ⟨by rfl, ?_⟩) (by assumption) ?_
    rotate_left
    · intro w hSw
      have fu := (hSw.cell (p := ⟨gr, 1, none⟩) ltr).trans eu
      have fo := (hSw.cell (p := ⟨gr, 2, none⟩) ltr).trans eo
      go_simp
      try with_reducible rfl
    try simp only [Act.put, List.setIfInBounds_toArray, List.set_cons_zero, List.set_cons_succ]
    refine wpAnyH_ready (rs := [11]) (by kernel_rfl) (by simp) ?_
    refine AllReadyH.cons (o := { dst := some 65, op := Op.call { callee := Callee.value (Operand.func 24), args := #[Operand.tmp 64], argTypes := #[37] }, type := 3, pos := "law.go:62", after := #[{ on := 10, ground := Ground.data }, { on := 9, ground := Ground.chain }, { on := 9, ground := Ground.guard }], guard := some (9, false) }) rfl (fun K hK => ?_) AllReadyH.nil
    go_simp
    refine (ZU.out _ b1).mono ?_
    rintro e V2 ⟨rfl, d2⟩
    have b2 : Below W4b.heap.size W4b V2 := b1.trans (d2.mono b1.size)
    go_wp2_with (fail)
    refine hK.out _ _ b2 (fun hHeld => ?_)
    clear hK K
    try simp only [Act.put, List.setIfInBounds_toArray, List.set_cons_zero, List.set_cons_succ]
    refine wpAnyH_take (i := 16) (oi := { dst := some 70, op := Op.binOp BinOp.neq 3 (Operand.tmp 65) (Operand.tmp 69) 3, type := 4, pos := "law.go:62", after := #[{ on := 11, ground := Ground.data }, { on := 15, ground := Ground.data }, { on := 9, ground := Ground.guard }], guard := some (9, false) }) (v := ?_) rfl (by kernel_rfl) (by kernel_rfl) (by kernel_rfl) (fun _ _ _ h => h) (Or.inl ⟨by rfl, ?_⟩) (by assumption) ?_
    rotate_left
    · intro w hSw
      go_simp
      try with_reducible rfl
    try simp only [Act.put, List.setIfInBounds_toArray, List.set_cons_zero, List.set_cons_succ]
    refine wpAnyH_take (i := 17) (oi := { dst := some 71, op := Op.pick (Operand.tmp 63) (Operand.const (Value.bool true)) (Operand.tmp 70), type := 4, pos := "law.go:62", after := #[{ on := 9, ground := Ground.data }, { on := 16, ground := Ground.data }], guard := none }) (v := ?_) rfl (by kernel_rfl) (by kernel_rfl) (by kernel_rfl) (fun _ _ _ h => h) (Or.inl ⟨by rfl, ?_⟩) (by assumption) ?_
    rotate_left
    · intro w hSw
      go_simp
      try with_reducible rfl
    try simp only [Act.put, List.setIfInBounds_toArray, List.set_cons_zero, List.set_cons_succ]
    refine wpAnyH_done (by kernel_rfl) ?_ _
    have HS := Lib.hid (HS.out.below b2)
    clear eu eo ltr bd ZS ZU ZO HRc HRd
    obtain ⟨c2, e2, S2, o2, hf2, hS20, hS21⟩ := starM_form (B := B) (o := o1) x hS10 hS11
    have HF2 := Lib.hid hf2
    clear hf2
    generalize hc2 : c2.length = N2
    have HC2 := Lib.hid hc2
    clear hc2
    have HZ := Lib.hid ((star25 (some ⟨gm, 0, none⟩) Ax Cx (some (B, S1, o1)) x V2 HS.out.mm HS.out.xx (by have := HFx.out.1; omega)).mono (fun _ _ h => works_to HF2.out HC2.out h))
    rw [HNx.out] at HZ
    go_wp2_with (fail)
    refine HZ.out.mono ?_
    rintro e V2a ⟨Ac, Cc, rfl, Rc, mc, kc⟩
    have hlc := Rc.le
    rw [HC2.out] at hlc
    have HS := Lib.hid (HS.out.stepM kc mc)
    have HRc := Lib.hid Rc
    clear HZ Rc mc kc
    have HZ := Lib.hid ((rstar26 (some ⟨gr, 0, none⟩) Ax Cx (some (B, S1, o1)) x V2a HS.out.rr (fun h => nomatch h) HS.out.xx (by have := HFx.out.1; omega)).mono (fun _ _ h => works_to HF2.out HC2.out h))
    rw [HNx.out] at HZ
    go_wp2_with (fail)
    refine HZ.out.mono ?_
    rintro e V2b ⟨Ad, Cd, rfl, Rd, md, kd⟩
    have hld := Rd.le
    rw [HC2.out] at hld
    have HRc := Lib.hid (HS.out.keepR kd HRc.out)
    have HS := Lib.hid (HS.out.stepR kd md)
    have HRd := Lib.hid Rd
    clear HZ Rd md kd
    have ZS : Hid (∀ V, Below V2b.heap.size V2b V → Calls Tryz.prog 13 #[.slice Ac N2 Cc, .slice Ad N2 Cd] V (TellsB true V)) := Lib.hid (fun V h => by
      have Z := sameSemi_any Ac Ad Cc Cd c2 c2 V (HRc.out.below h) (HRd.out.below h)
      rw [HC2.out, decide_eq_true rfl] at Z
      exact Z)
    have ZU : Hid (∀ V, Below V2b.heap.size V2b V → Calls Tryz.prog 24 #[.pointer (some ⟨gm, 0, none⟩)] V (TellsV (.int .i64 S2) V)) := Lib.hid (fun V h => spentV (HS.out.mm.below h))
    have ZO : Hid (∀ V, Below V2b.heap.size V2b V → Calls Tryz.prog 29 #[.pointer (some ⟨gm, 0, none⟩)] V (TellsV (.bool o2) V)) := Lib.hid (fun V h => outV (HS.out.mm.below h))
    have eu := (at_some HS.out.rr).c1
    have eo := (at_some HS.out.rr).c2
    have ltr := Lies.lt (at_some HS.out.rr)
    have bd : Below V2b.heap.size V2b V2b.drew := ⟨rfl, rfl, rfl, Nat.le_refl _, fun _ _ => rfl⟩
    go_wp2_with (fail)
    refine wp_region_held_drew (S := fun w' => Below V2b.heap.size V2b w') (by kernel_rfl) bd (fun hHeld => ?_)
    refine wpAnyH_take (i := 0) (oi := { dst := some 84, op := Op.move (Operand.tmp 17), type := 25, pos := "law.go:67", after := #[], guard := none }) (v := ?_) rfl (by kernel_rfl) (by kernel_rfl) (by kernel_rfl) (fun _ _ _ h => h) (Or.inl ⟨by rfl, ?_⟩) (by assumption) ?_
    rotate_left
    · intro w hSw
      go_simp
      try with_reducible rfl
    try simp only [Act.put, List.setIfInBounds_toArray, List.set_cons_zero, List.set_cons_succ]
    refine wpAnyH_take (i := 1) (oi := { dst := some 85, op := Op.move (Operand.tmp 19), type := 25, pos := "law.go:67", after := #[], guard := none }) (v := ?_) rfl (by kernel_rfl) (by kernel_rfl) (by kernel_rfl) (fun _ _ _ h => h) (Or.inl ⟨by rfl, ?_⟩) (by assumption) ?_
    rotate_left
    · intro w hSw
      go_simp
      try with_reducible rfl
    try simp only [Act.put, List.setIfInBounds_toArray, List.set_cons_zero, List.set_cons_succ]
    refine wpAnyH_ready (rs := [2]) (by kernel_rfl) (by simp) ?_
    refine AllReadyH.cons (o := { dst := some 86, op := Op.call { callee := Callee.value (Operand.func 13), args := #[Operand.tmp 84, Operand.tmp 85], argTypes := #[25, 25] }, type := 4, pos := "law.go:67", after := #[{ on := 0, ground := Ground.data }, { on := 1, ground := Ground.data }], guard := none }) rfl (fun K hK => ?_) AllReadyH.nil
    go_simp
    refine (ZS.out _ bd).mono ?_
    rintro e V3 ⟨rfl, d3⟩
    have b3 : Below V2b.heap.size V2b V3 := bd.trans (d3.mono bd.size)
    go_wp2_with (fail)
    refine hK.out _ _ b3 (fun hHeld => ?_)
    clear hK K
    try simp only [Act.put, List.setIfInBounds_toArray, List.set_cons_zero, List.set_cons_succ]
    refine wpAnyH_take (i := 3) (oi := { dst := some 87, op := Op.unOp UnOp.not 4 (Operand.tmp 86), type := 4, pos := "law.go:67", after := #[{ on := 2, ground := Ground.data }], guard := none }) (v := ?_) rfl (by kernel_rfl) (by kernel_rfl) (by kernel_rfl) (fun _ _ _ h => h) (Or.inl ⟨by rfl, ?_⟩) (by assumption) ?_
    rotate_left
    · intro w hSw
      go_simp
      try with_reducible rfl
    try simp only [Act.put, List.setIfInBounds_toArray, List.set_cons_zero, List.set_cons_succ]
    refine wpAnyH_take (i := 4) (oi := { dst := some 88, op := Op.move (Operand.tmp 87), type := 4, pos := "law.go:67", after := #[{ on := 3, ground := Ground.data }, { on := 2, ground := Ground.chain }], guard := none }) (v := ?_) rfl (by kernel_rfl) (by kernel_rfl) (by kernel_rfl) (fun _ _ _ h => h) (Or.inl ⟨by rfl, ?_⟩) (by assumption) ?_
    rotate_left
    · intro w hSw
      go_simp
      try with_reducible rfl
    try simp only [Act.put, List.setIfInBounds_toArray, List.set_cons_zero, List.set_cons_succ]
    refine wpAnyH_take (i := 5) (oi := { dst := some 89, op := Op.move (Operand.tmp 18), type := 41, pos := "law.go:67", after := #[{ on := 4, ground := Ground.guard }], guard := some (4, false) }) (v := ?_) rfl (by kernel_rfl) (by kernel_rfl) (by kernel_rfl) (fun _ _ _ h => h) (Or.inl ⟨by rfl, ?_⟩) (by assumption) ?_
    rotate_left
    · intro w hSw
      go_simp
      try with_reducible rfl
    try simp only [Act.put, List.setIfInBounds_toArray, List.set_cons_zero, List.set_cons_succ]
    refine wpAnyH_take (i := 6) (oi := { dst := some 90, op := Op.move (Operand.tmp 20), type := 3, pos := "law.go:67", after := #[{ on := 4, ground := Ground.guard }], guard := some (4, false) }) (v := ?_) rfl (by kernel_rfl) (by kernel_rfl) (by kernel_rfl) (fun _ _ _ h => h) (Or.inl ⟨by rfl, ?_⟩) (by assumption) ?_
    rotate_left
    · intro w hSw
      go_simp
      try with_reducible rfl
    try simp only [Act.put, List.setIfInBounds_toArray, List.set_cons_zero, List.set_cons_succ]
    refine wpAnyH_take (i := 7) (oi := { dst := some 91, op := Op.binOp BinOp.neq 3 (Operand.tmp 89) (Operand.tmp 90) 3, type := 4, pos := "law.go:67", after := #[{ on := 5, ground := Ground.data }, { on := 6, ground := Ground.data }, { on := 4, ground := Ground.guard }], guard := some (4, false) }) (v := ?_) rfl (by kernel_rfl) (by kernel_rfl) (by kernel_rfl) (fun _ _ _ h => h) (Or.inl ⟨by rfl, ?_⟩) (by assumption) ?_
    rotate_left
    · intro w hSw
      go_simp
      try with_reducible rfl
    try simp only [Act.put, List.setIfInBounds_toArray, List.set_cons_zero, List.set_cons_succ]
    refine wpAnyH_take (i := 8) (oi := { dst := some 92, op := Op.pick (Operand.tmp 88) (Operand.const (Value.bool true)) (Operand.tmp 91), type := 4, pos := "law.go:67", after := #[{ on := 4, ground := Ground.data }, { on := 7, ground := Ground.data }], guard := none }) (v := ?_) rfl (by kernel_rfl) (by kernel_rfl) (by kernel_rfl) (fun _ _ _ h => h) (Or.inl ⟨by rfl, ?_⟩) (by assumption) ?_
    rotate_left
    · intro w hSw
      go_simp
      try with_reducible rfl
    try simp only [Act.put, List.setIfInBounds_toArray, List.set_cons_zero, List.set_cons_succ]
    refine wpAnyH_take (i := 9) (oi := { dst := some 93, op := Op.move (Operand.tmp 92), type := 4, pos := "law.go:67", after := #[{ on := 8, ground := Ground.data }, { on := 4, ground := Ground.chain }], guard := none }) (v := ?_) rfl (by kernel_rfl) (by kernel_rfl) (by kernel_rfl) (fun _ _ _ h => h) (Or.inl ⟨by rfl, ?_⟩) (by assumption) ?_
    rotate_left
    · intro w hSw
      go_simp
      try with_reducible rfl
    try simp only [Act.put, List.setIfInBounds_toArray, List.set_cons_zero, List.set_cons_succ]
    refine wpAnyH_take (i := 10) (oi := { dst := some 94, op := Op.move (Operand.tmp 15), type := 37, pos := "law.go:67", after := #[{ on := 9, ground := Ground.guard }], guard := some (9, false) }) (v := ?_) rfl (by kernel_rfl) (by kernel_rfl) (by kernel_rfl) (fun _ _ _ h => h) (Or.inl ⟨by rfl, ?_⟩) (by assumption) ?_
    rotate_left
    · intro w hSw
      go_simp
      try with_reducible rfl
    try simp only [Act.put, List.setIfInBounds_toArray, List.set_cons_zero, List.set_cons_succ]
    refine wpAnyH_take (i := 12) (oi := { dst := some 96, op := Op.move (Operand.tmp 16), type := 39, pos := "law.go:67", after := #[{ on := 9, ground := Ground.guard }], guard := some (9, false) }) (v := ?_) rfl (by kernel_rfl) (by kernel_rfl) (by kernel_rfl) (fun _ _ _ h => h) (Or.inl ⟨by rfl, ?_⟩) (by assumption) ?_
    rotate_left
    · intro w hSw
      go_simp
      try with_reducible rfl
    try simp only [Act.put, List.setIfInBounds_toArray, List.set_cons_zero, List.set_cons_succ]
    refine wpAnyH_take (i := 13) (oi := { dst := some 97, op := Op.nilCheck (Operand.tmp 96), type := 0, pos := "law.go:67", after := #[{ on := 12, ground := Ground.data }, { on := 9, ground := Ground.guard }], guard := some (9, false) }) (v := ?_) rfl (by kernel_rfl) (by kernel_rfl) (by kernel_rfl) (fun _ _ _ h => h) (Or.inl ⟨by rfl, ?_⟩) (by assumption) ?_
    rotate_left
    · intro w hSw
      go_simp
      try with_reducible rfl
    try simp only [Act.put, List.setIfInBounds_toArray, List.set_cons_zero, List.set_cons_succ]
    refine wpAnyH_take (i := 14) (oi := { dst := some 98, op := Op.fieldAddr 48 (Operand.tmp 97) 1, type := 0, pos := "law.go:67", after := #[{ on := 13, ground := Ground.data }, { on := 9, ground := Ground.guard }], guard := some (9, false) }) (v := ?_) rfl (by kernel_rfl) (by kernel_rfl) (by kernel_rfl) (fun _ _ _ h => h) (Or.inl ⟨by rfl, ?_⟩) (by assumption) ?_
    rotate_left
    · intro w hSw
      go_simp
      try with_reducible rfl
    try simp only [Act.put, List.setIfInBounds_toArray, List.set_cons_zero, List.set_cons_succ]
    refine wpAnyH_take (i := 15) (oi := { dst := some 99, op := Op.load 3 (Operand.tmp 98), type := 3, pos := "law.go:67", after := #[{ on := 14, ground := Ground.data }, { on := 9, ground := Ground.guard }], guard := some (9, false) }) (v := ?_) rfl (by kernel_rfl) (by kernel_rfl) (by kernel_rfl) (fun _ _ _ h => h) (Or.inl ⟨by rfl, ?_⟩) (by assumption) ?_
    rotate_left
    · intro w hSw
      have fu := (hSw.cell (p := ⟨gr, 1, none⟩) ltr).trans eu
      have fo := (hSw.cell (p := ⟨gr, 2, none⟩) ltr).trans eo
      go_simp
      try with_reducible rfl
    try simp only [Act.put, List.setIfInBounds_toArray, List.set_cons_zero, List.set_cons_succ]
    refine wpAnyH_ready (rs := [11]) (by kernel_rfl) (by simp) ?_
    refine AllReadyH.cons (o := { dst := some 95, op := Op.call { callee := Callee.value (Operand.func 24), args := #[Operand.tmp 94], argTypes := #[37] }, type := 3, pos := "law.go:67", after := #[{ on := 10, ground := Ground.data }, { on := 9, ground := Ground.chain }, { on := 9, ground := Ground.guard }], guard := some (9, false) }) rfl (fun K hK => ?_) AllReadyH.nil
    go_simp
    refine (ZU.out _ b3).mono ?_
    rintro e V4 ⟨rfl, d4⟩
    have b4 : Below V2b.heap.size V2b V4 := b3.trans (d4.mono b3.size)
    go_wp2_with (fail)
    refine hK.out _ _ b4 (fun hHeld => ?_)
    clear hK K
    try simp only [Act.put, List.setIfInBounds_toArray, List.set_cons_zero, List.set_cons_succ]
    refine wpAnyH_take (i := 16) (oi := { dst := some 100, op := Op.binOp BinOp.neq 3 (Operand.tmp 95) (Operand.tmp 99) 3, type := 4, pos := "law.go:67", after := #[{ on := 11, ground := Ground.data }, { on := 15, ground := Ground.data }, { on := 9, ground := Ground.guard }], guard := some (9, false) }) (v := ?_) rfl (by kernel_rfl) (by kernel_rfl) (by kernel_rfl) (fun _ _ _ h => h) (Or.inl ⟨by rfl, ?_⟩) (by assumption) ?_
    rotate_left
    · intro w hSw
      go_simp
      try with_reducible rfl
    try simp only [Act.put, List.setIfInBounds_toArray, List.set_cons_zero, List.set_cons_succ]
    refine wpAnyH_take (i := 17) (oi := { dst := some 101, op := Op.pick (Operand.tmp 93) (Operand.const (Value.bool true)) (Operand.tmp 100), type := 4, pos := "law.go:67", after := #[{ on := 9, ground := Ground.data }, { on := 16, ground := Ground.data }], guard := none }) (v := ?_) rfl (by kernel_rfl) (by kernel_rfl) (by kernel_rfl) (fun _ _ _ h => h) (Or.inl ⟨by rfl, ?_⟩) (by assumption) ?_
    rotate_left
    · intro w hSw
      go_simp
      try with_reducible rfl
    try simp only [Act.put, List.setIfInBounds_toArray, List.set_cons_zero, List.set_cons_succ]
    refine wpAnyH_done (by kernel_rfl) ?_ _
    have HS := Lib.hid (HS.out.below b4)
    clear eu eo ltr bd ZS ZU ZO HRc HRd
    obtain ⟨c3, e3, S3, o3, hf3, hS30, hS31⟩ := powM_form (B := B) (o := o2) y n hS20 hS21
    have HF3 := Lib.hid hf3
    clear hf3
    generalize hc3 : c3.length = N3
    have HC3 := Lib.hid hc3
    clear hc3
    have HZ := Lib.hid ((pow27 (some ⟨gm, 0, none⟩) Ay Cy (some (B, S2, o2)) y n V4 HS.out.mm HS.out.yy hn (one_fits (by omega) HFy.out _ hS20 hS21)).mono (fun _ _ h => works_to HF3.out HC3.out h))
    rw [HNy.out] at HZ
    go_wp2_with (fail)
    refine HZ.out.mono ?_
    rintro e V4a ⟨Ac, Cc, rfl, Rc, mc, kc⟩
    have hlc := Rc.le
    rw [HC3.out] at hlc
    have HS := Lib.hid (HS.out.stepM kc mc)
    have HRc := Lib.hid Rc
    clear HZ Rc mc kc
    have HZ := Lib.hid ((rpow28 (some ⟨gr, 0, none⟩) Ay Cy (some (B, S2, o2)) y n V4a HS.out.rr (fun h => nomatch h) HS.out.yy hn (one_fits (by omega) HFy.out _ hS20 hS21)).mono (fun _ _ h => works_to HF3.out HC3.out h))
    rw [HNy.out] at HZ
    go_wp2_with (fail)
    refine HZ.out.mono ?_
    rintro e V4b ⟨Ad, Cd, rfl, Rd, md, kd⟩
    have hld := Rd.le
    rw [HC3.out] at hld
    have HRc := Lib.hid (HS.out.keepR kd HRc.out)
    have HS := Lib.hid (HS.out.stepR kd md)
    have HRd := Lib.hid Rd
    clear HZ Rd md kd
    have ZS : Hid (∀ V, Below V4b.heap.size V4b V → Calls Tryz.prog 13 #[.slice Ac N3 Cc, .slice Ad N3 Cd] V (TellsB true V)) := Lib.hid (fun V h => by
      have Z := sameSemi_any Ac Ad Cc Cd c3 c3 V (HRc.out.below h) (HRd.out.below h)
      rw [HC3.out, decide_eq_true rfl] at Z
      exact Z)
    have ZU : Hid (∀ V, Below V4b.heap.size V4b V → Calls Tryz.prog 24 #[.pointer (some ⟨gm, 0, none⟩)] V (TellsV (.int .i64 S3) V)) := Lib.hid (fun V h => spentV (HS.out.mm.below h))
    have ZO : Hid (∀ V, Below V4b.heap.size V4b V → Calls Tryz.prog 29 #[.pointer (some ⟨gm, 0, none⟩)] V (TellsV (.bool o3) V)) := Lib.hid (fun V h => outV (HS.out.mm.below h))
    have eu := (at_some HS.out.rr).c1
    have eo := (at_some HS.out.rr).c2
    have ltr := Lies.lt (at_some HS.out.rr)
    have bd : Below V4b.heap.size V4b V4b.drew := ⟨rfl, rfl, rfl, Nat.le_refl _, fun _ _ => rfl⟩
    go_wp2_with (fail)
    refine wp_region_held_drew (S := fun w' => Below V4b.heap.size V4b w') (by kernel_rfl) bd (fun hHeld => ?_)
    refine wpAnyH_take (i := 0) (oi := { dst := some 116, op := Op.move (Operand.tmp 17), type := 25, pos := "law.go:72", after := #[], guard := none }) (v := ?_) rfl (by kernel_rfl) (by kernel_rfl) (by kernel_rfl) (fun _ _ _ h => h) (Or.inl ⟨by rfl, ?_⟩) (by assumption) ?_
    rotate_left
    · intro w hSw
      go_simp
      try with_reducible rfl
    try simp only [Act.put, List.setIfInBounds_toArray, List.set_cons_zero, List.set_cons_succ]
    refine wpAnyH_take (i := 1) (oi := { dst := some 117, op := Op.move (Operand.tmp 19), type := 25, pos := "law.go:72", after := #[], guard := none }) (v := ?_) rfl (by kernel_rfl) (by kernel_rfl) (by kernel_rfl) (fun _ _ _ h => h) (Or.inl ⟨by rfl, ?_⟩) (by assumption) ?_
    rotate_left
    · intro w hSw
      go_simp
      try with_reducible rfl
    try simp only [Act.put, List.setIfInBounds_toArray, List.set_cons_zero, List.set_cons_succ]
    refine wpAnyH_ready (rs := [2]) (by kernel_rfl) (by simp) ?_
    refine AllReadyH.cons (o := { dst := some 118, op := Op.call { callee := Callee.value (Operand.func 13), args := #[Operand.tmp 116, Operand.tmp 117], argTypes := #[25, 25] }, type := 4, pos := "law.go:72", after := #[{ on := 0, ground := Ground.data }, { on := 1, ground := Ground.data }], guard := none }) rfl (fun K hK => ?_) AllReadyH.nil
    go_simp
    refine (ZS.out _ bd).mono ?_
    rintro e V5 ⟨rfl, d5⟩
    have b5 : Below V4b.heap.size V4b V5 := bd.trans (d5.mono bd.size)
    go_wp2_with (fail)
    refine hK.out _ _ b5 (fun hHeld => ?_)
    clear hK K
    try simp only [Act.put, List.setIfInBounds_toArray, List.set_cons_zero, List.set_cons_succ]
    refine wpAnyH_take (i := 3) (oi := { dst := some 119, op := Op.move (Operand.tmp 118), type := 4, pos := "law.go:72", after := #[{ on := 2, ground := Ground.data }, { on := 2, ground := Ground.chain }], guard := none }) (v := ?_) rfl (by kernel_rfl) (by kernel_rfl) (by kernel_rfl) (fun _ _ _ h => h) (Or.inl ⟨by rfl, ?_⟩) (by assumption) ?_
    rotate_left
    · intro w hSw
      go_simp
      try with_reducible rfl
    try simp only [Act.put, List.setIfInBounds_toArray, List.set_cons_zero, List.set_cons_succ]
    refine wpAnyH_take (i := 4) (oi := { dst := some 120, op := Op.move (Operand.tmp 18), type := 41, pos := "law.go:72", after := #[{ on := 3, ground := Ground.guard }], guard := some (3, true) }) (v := ?_) rfl (by kernel_rfl) (by kernel_rfl) (by kernel_rfl) (fun _ _ _ h => h) (Or.inl ⟨by rfl, ?_⟩) (by assumption) ?_
    rotate_left
    · intro w hSw
      go_simp
      try with_reducible rfl
    try simp only [Act.put, List.setIfInBounds_toArray, List.set_cons_zero, List.set_cons_succ]
    refine wpAnyH_take (i := 5) (oi := { dst := some 121, op := Op.move (Operand.tmp 20), type := 3, pos := "law.go:72", after := #[{ on := 3, ground := Ground.guard }], guard := some (3, true) }) (v := ?_) rfl (by kernel_rfl) (by kernel_rfl) (by kernel_rfl) (fun _ _ _ h => h) (Or.inl ⟨by rfl, ?_⟩) (by assumption) ?_
    rotate_left
    · intro w hSw
      go_simp
      try with_reducible rfl
    try simp only [Act.put, List.setIfInBounds_toArray, List.set_cons_zero, List.set_cons_succ]
    refine wpAnyH_take (i := 6) (oi := { dst := some 122, op := Op.binOp BinOp.eql 3 (Operand.tmp 120) (Operand.tmp 121) 3, type := 4, pos := "law.go:72", after := #[{ on := 4, ground := Ground.data }, { on := 5, ground := Ground.data }, { on := 3, ground := Ground.guard }], guard := some (3, true) }) (v := ?_) rfl (by kernel_rfl) (by kernel_rfl) (by kernel_rfl) (fun _ _ _ h => h) (Or.inl ⟨by rfl, ?_⟩) (by assumption) ?_
    rotate_left
    · intro w hSw
      go_simp
      try with_reducible rfl
    try simp only [Act.put, List.setIfInBounds_toArray, List.set_cons_zero, List.set_cons_succ]
    refine wpAnyH_take (i := 7) (oi := { dst := some 123, op := Op.pick (Operand.tmp 119) (Operand.tmp 122) (Operand.const (Value.bool false)), type := 4, pos := "law.go:72", after := #[{ on := 3, ground := Ground.data }, { on := 6, ground := Ground.data }], guard := none }) (v := ?_) rfl (by kernel_rfl) (by kernel_rfl) (by kernel_rfl) (fun _ _ _ h => h) (Or.inl ⟨by rfl, ?_⟩) (by assumption) ?_
    rotate_left
    · intro w hSw
      go_simp
      try with_reducible rfl
    try simp only [Act.put, List.setIfInBounds_toArray, List.set_cons_zero, List.set_cons_succ]
    refine wpAnyH_take (i := 8) (oi := { dst := some 124, op := Op.move (Operand.tmp 123), type := 4, pos := "law.go:72", after := #[{ on := 7, ground := Ground.data }, { on := 3, ground := Ground.chain }], guard := none }) (v := ?_) rfl (by kernel_rfl) (by kernel_rfl) (by kernel_rfl) (fun _ _ _ h => h) (Or.inl ⟨by rfl, ?_⟩) (by assumption) ?_
    rotate_left
    · intro w hSw
      go_simp
      try with_reducible rfl
    try simp only [Act.put, List.setIfInBounds_toArray, List.set_cons_zero, List.set_cons_succ]
    refine wpAnyH_take (i := 9) (oi := { dst := some 125, op := Op.move (Operand.tmp 15), type := 37, pos := "law.go:72", after := #[{ on := 8, ground := Ground.guard }], guard := some (8, true) }) (v := ?_) rfl (by kernel_rfl) (by kernel_rfl) (by kernel_rfl) (fun _ _ _ h => h) (Or.inl ⟨by rfl, ?_⟩) (by assumption) ?_
    rotate_left
    · intro w hSw
      go_simp
      try with_reducible rfl
    try simp only [Act.put, List.setIfInBounds_toArray, List.set_cons_zero, List.set_cons_succ]
    refine wpAnyH_take (i := 11) (oi := { dst := some 127, op := Op.move (Operand.tmp 16), type := 39, pos := "law.go:72", after := #[{ on := 8, ground := Ground.guard }], guard := some (8, true) }) (v := ?_) rfl (by kernel_rfl) (by kernel_rfl) (by kernel_rfl) (fun _ _ _ h => h) (Or.inl ⟨by rfl, ?_⟩) (by assumption) ?_
    rotate_left
    · intro w hSw
      go_simp
      try with_reducible rfl
    try simp only [Act.put, List.setIfInBounds_toArray, List.set_cons_zero, List.set_cons_succ]
    refine wpAnyH_take (i := 12) (oi := { dst := some 128, op := Op.nilCheck (Operand.tmp 127), type := 0, pos := "law.go:72", after := #[{ on := 11, ground := Ground.data }, { on := 8, ground := Ground.guard }], guard := some (8, true) }) (v := ?_) rfl (by kernel_rfl) (by kernel_rfl) (by kernel_rfl) (fun _ _ _ h => h) (Or.inl ⟨by rfl, ?_⟩) (by assumption) ?_
    rotate_left
    · intro w hSw
      go_simp
      try with_reducible rfl
    try simp only [Act.put, List.setIfInBounds_toArray, List.set_cons_zero, List.set_cons_succ]
    refine wpAnyH_take (i := 13) (oi := { dst := some 129, op := Op.fieldAddr 48 (Operand.tmp 128) 1, type := 0, pos := "law.go:72", after := #[{ on := 12, ground := Ground.data }, { on := 8, ground := Ground.guard }], guard := some (8, true) }) (v := ?_) rfl (by kernel_rfl) (by kernel_rfl) (by kernel_rfl) (fun _ _ _ h => h) (Or.inl ⟨by rfl, ?_⟩) (by assumption) ?_
    rotate_left
    · intro w hSw
      go_simp
      try with_reducible rfl
    try simp only [Act.put, List.setIfInBounds_toArray, List.set_cons_zero, List.set_cons_succ]
    refine wpAnyH_take (i := 14) (oi := { dst := some 130, op := Op.load 3 (Operand.tmp 129), type := 3, pos := "law.go:72", after := #[{ on := 13, ground := Ground.data }, { on := 8, ground := Ground.guard }], guard := some (8, true) }) (v := ?_) rfl (by kernel_rfl) (by kernel_rfl) (by kernel_rfl) (fun _ _ _ h => h) (Or.inl ⟨by rfl, ?_⟩) (by assumption) ?_
    rotate_left
    · intro w hSw
      have fu := (hSw.cell (p := ⟨gr, 1, none⟩) ltr).trans eu
      have fo := (hSw.cell (p := ⟨gr, 2, none⟩) ltr).trans eo
      go_simp
      try with_reducible rfl
    try simp only [Act.put, List.setIfInBounds_toArray, List.set_cons_zero, List.set_cons_succ]
    refine wpAnyH_ready (rs := [10]) (by kernel_rfl) (by simp) ?_
    refine AllReadyH.cons (o := { dst := some 126, op := Op.call { callee := Callee.value (Operand.func 24), args := #[Operand.tmp 125], argTypes := #[37] }, type := 3, pos := "law.go:72", after := #[{ on := 9, ground := Ground.data }, { on := 8, ground := Ground.chain }, { on := 8, ground := Ground.guard }], guard := some (8, true) }) rfl (fun K hK => ?_) AllReadyH.nil
    go_simp
    refine (ZU.out _ b5).mono ?_
    rintro e V6 ⟨rfl, d6⟩
    have b6 : Below V4b.heap.size V4b V6 := b5.trans (d6.mono b5.size)
    go_wp2_with (fail)
    refine hK.out _ _ b6 (fun hHeld => ?_)
    clear hK K
    try simp only [Act.put, List.setIfInBounds_toArray, List.set_cons_zero, List.set_cons_succ]
    refine wpAnyH_take (i := 15) (oi := { dst := some 131, op := Op.binOp BinOp.eql 3 (Operand.tmp 126) (Operand.tmp 130) 3, type := 4, pos := "law.go:72", after := #[{ on := 10, ground := Ground.data }, { on := 14, ground := Ground.data }, { on := 8, ground := Ground.guard }], guard := some (8, true) }) (v := ?_) rfl (by kernel_rfl) (by kernel_rfl) (by kernel_rfl) (fun _ _ _ h => h) (Or.inl ⟨by rfl, ?_⟩) (by assumption) ?_
    rotate_left
    · intro w hSw
      go_simp
      try with_reducible rfl
    try simp only [Act.put, List.setIfInBounds_toArray, List.set_cons_zero, List.set_cons_succ]
    refine wpAnyH_take (i := 16) (oi := { dst := some 132, op := Op.pick (Operand.tmp 124) (Operand.tmp 131) (Operand.const (Value.bool false)), type := 4, pos := "law.go:72", after := #[{ on := 8, ground := Ground.data }, { on := 15, ground := Ground.data }], guard := none }) (v := ?_) rfl (by kernel_rfl) (by kernel_rfl) (by kernel_rfl) (fun _ _ _ h => h) (Or.inl ⟨by rfl, ?_⟩) (by assumption) ?_
    rotate_left
    · intro w hSw
      go_simp
      try with_reducible rfl
    try simp only [Act.put, List.setIfInBounds_toArray, List.set_cons_zero, List.set_cons_succ]
    refine wpAnyH_take (i := 17) (oi := { dst := some 133, op := Op.move (Operand.tmp 132), type := 4, pos := "law.go:72", after := #[{ on := 16, ground := Ground.data }, { on := 10, ground := Ground.chain }], guard := none }) (v := ?_) rfl (by kernel_rfl) (by kernel_rfl) (by kernel_rfl) (fun _ _ _ h => h) (Or.inl ⟨by rfl, ?_⟩) (by assumption) ?_
    rotate_left
    · intro w hSw
      go_simp
      try with_reducible rfl
    try simp only [Act.put, List.setIfInBounds_toArray, List.set_cons_zero, List.set_cons_succ]
    refine wpAnyH_take (i := 18) (oi := { dst := some 134, op := Op.move (Operand.tmp 15), type := 37, pos := "law.go:72", after := #[{ on := 17, ground := Ground.guard }], guard := some (17, true) }) (v := ?_) rfl (by kernel_rfl) (by kernel_rfl) (by kernel_rfl) (fun _ _ _ h => h) (Or.inl ⟨by rfl, ?_⟩) (by assumption) ?_
    rotate_left
    · intro w hSw
      go_simp
      try with_reducible rfl
    try simp only [Act.put, List.setIfInBounds_toArray, List.set_cons_zero, List.set_cons_succ]
    refine wpAnyH_take (i := 20) (oi := { dst := some 136, op := Op.move (Operand.tmp 16), type := 39, pos := "law.go:72", after := #[{ on := 17, ground := Ground.guard }], guard := some (17, true) }) (v := ?_) rfl (by kernel_rfl) (by kernel_rfl) (by kernel_rfl) (fun _ _ _ h => h) (Or.inl ⟨by rfl, ?_⟩) (by assumption) ?_
    rotate_left
    · intro w hSw
      go_simp
      try with_reducible rfl
    try simp only [Act.put, List.setIfInBounds_toArray, List.set_cons_zero, List.set_cons_succ]
    refine wpAnyH_take (i := 21) (oi := { dst := some 137, op := Op.nilCheck (Operand.tmp 136), type := 0, pos := "law.go:72", after := #[{ on := 20, ground := Ground.data }, { on := 17, ground := Ground.guard }], guard := some (17, true) }) (v := ?_) rfl (by kernel_rfl) (by kernel_rfl) (by kernel_rfl) (fun _ _ _ h => h) (Or.inl ⟨by rfl, ?_⟩) (by assumption) ?_
    rotate_left
    · intro w hSw
      go_simp
      try with_reducible rfl
    try simp only [Act.put, List.setIfInBounds_toArray, List.set_cons_zero, List.set_cons_succ]
    refine wpAnyH_take (i := 22) (oi := { dst := some 138, op := Op.fieldAddr 48 (Operand.tmp 137) 2, type := 0, pos := "law.go:72", after := #[{ on := 21, ground := Ground.data }, { on := 17, ground := Ground.guard }], guard := some (17, true) }) (v := ?_) rfl (by kernel_rfl) (by kernel_rfl) (by kernel_rfl) (fun _ _ _ h => h) (Or.inl ⟨by rfl, ?_⟩) (by assumption) ?_
    rotate_left
    · intro w hSw
      go_simp
      try with_reducible rfl
    try simp only [Act.put, List.setIfInBounds_toArray, List.set_cons_zero, List.set_cons_succ]
    refine wpAnyH_take (i := 23) (oi := { dst := some 139, op := Op.load 4 (Operand.tmp 138), type := 4, pos := "law.go:72", after := #[{ on := 22, ground := Ground.data }, { on := 17, ground := Ground.guard }], guard := some (17, true) }) (v := ?_) rfl (by kernel_rfl) (by kernel_rfl) (by kernel_rfl) (fun _ _ _ h => h) (Or.inl ⟨by rfl, ?_⟩) (by assumption) ?_
    rotate_left
    · intro w hSw
      have fu := (hSw.cell (p := ⟨gr, 1, none⟩) ltr).trans eu
      have fo := (hSw.cell (p := ⟨gr, 2, none⟩) ltr).trans eo
      go_simp
      try with_reducible rfl
    try simp only [Act.put, List.setIfInBounds_toArray, List.set_cons_zero, List.set_cons_succ]
    refine wpAnyH_ready (rs := [19]) (by kernel_rfl) (by simp) ?_
    refine AllReadyH.cons (o := { dst := some 135, op := Op.call { callee := Callee.value (Operand.func 29), args := #[Operand.tmp 134], argTypes := #[37] }, type := 4, pos := "law.go:72", after := #[{ on := 18, ground := Ground.data }, { on := 17, ground := Ground.chain }, { on := 17, ground := Ground.guard }], guard := some (17, true) }) rfl (fun K hK => ?_) AllReadyH.nil
    go_simp
    refine (ZO.out _ b6).mono ?_
    rintro e V7 ⟨rfl, d7⟩
    have b7 : Below V4b.heap.size V4b V7 := b6.trans (d7.mono b6.size)
    go_wp2_with (fail)
    refine hK.out _ _ b7 (fun hHeld => ?_)
    clear hK K
    try simp only [Act.put, List.setIfInBounds_toArray, List.set_cons_zero, List.set_cons_succ]
    refine wpAnyH_take (i := 24) (oi := { dst := some 140, op := Op.binOp BinOp.eql 4 (Operand.tmp 135) (Operand.tmp 139) 4, type := 4, pos := "law.go:72", after := #[{ on := 19, ground := Ground.data }, { on := 23, ground := Ground.data }, { on := 17, ground := Ground.guard }], guard := some (17, true) }) (v := ?_) rfl (by kernel_rfl) (by kernel_rfl) (by kernel_rfl) (fun _ _ _ h => h) (Or.inl ⟨by rfl, ?_⟩) (by assumption) ?_
    rotate_left
    · intro w hSw
      go_simp
      try with_reducible rfl
    try simp only [Act.put, List.setIfInBounds_toArray, List.set_cons_zero, List.set_cons_succ]
    refine wpAnyH_take (i := 25) (oi := { dst := some 141, op := Op.pick (Operand.tmp 133) (Operand.tmp 140) (Operand.const (Value.bool false)), type := 4, pos := "law.go:72", after := #[{ on := 17, ground := Ground.data }, { on := 24, ground := Ground.data }], guard := none }) (v := ?_) rfl (by kernel_rfl) (by kernel_rfl) (by kernel_rfl) (fun _ _ _ h => h) (Or.inl ⟨by rfl, ?_⟩) (by assumption) ?_
    rotate_left
    · intro w hSw
      go_simp
      try with_reducible rfl
    try simp only [Act.put, List.setIfInBounds_toArray, List.set_cons_zero, List.set_cons_succ]
    refine wpAnyH_take (i := 26) (oi := { dst := some 142, op := Op.move (Operand.tmp 141), type := 4, pos := "law.go:72", after := #[{ on := 25, ground := Ground.data }, { on := 19, ground := Ground.chain }], guard := none }) (v := ?_) rfl (by kernel_rfl) (by kernel_rfl) (by kernel_rfl) (fun _ _ _ h => h) (Or.inl ⟨by rfl, ?_⟩) (by assumption) ?_
    rotate_left
    · intro w hSw
      go_simp
      try with_reducible rfl
    try simp only [Act.put, List.setIfInBounds_toArray, List.set_cons_zero, List.set_cons_succ]
    refine wpAnyH_ready (rs := [27]) (by kernel_rfl) (by simp) ?_
    refine AllReadyH.cons (o := { dst := some 143, op := Op.call { callee := Callee.value (Operand.func 17), args := #[], argTypes := #[] }, type := 4, pos := "law.go:72", after := #[{ on := 26, ground := Ground.chain }, { on := 26, ground := Ground.guard }], guard := some (26, true) }) rfl (fun K hK => ?_) AllReadyH.nil
    go_simp
    refine (wakes17 _).mono ?_
    rintro e V8 ⟨rfl, d8⟩
    have b8 : Below V4b.heap.size V4b V8 := b7.trans (d8.mono b7.size)
    go_wp2_with (fail)
    refine hK.out _ _ b8 (fun hHeld => ?_)
    clear hK K
    try simp only [Act.put, List.setIfInBounds_toArray, List.set_cons_zero, List.set_cons_succ]
    refine wpAnyH_take (i := 28) (oi := { dst := some 144, op := Op.pick (Operand.tmp 142) (Operand.tmp 143) (Operand.const (Value.bool false)), type := 4, pos := "law.go:72", after := #[{ on := 26, ground := Ground.data }, { on := 27, ground := Ground.data }], guard := none }) (v := ?_) rfl (by kernel_rfl) (by kernel_rfl) (by kernel_rfl) (fun _ _ _ h => h) (Or.inl ⟨by rfl, ?_⟩) (by assumption) ?_
    rotate_left
    · intro w hSw
      go_simp
      try with_reducible rfl
    try simp only [Act.put, List.setIfInBounds_toArray, List.set_cons_zero, List.set_cons_succ]
    refine wpAnyH_take (i := 29) (oi := { dst := some 12, op := Op.assign (Operand.tmp 144), type := 4, pos := "law.go:72", after := #[{ on := 28, ground := Ground.data }, { on := 27, ground := Ground.chain }, { on := 0, ground := Ground.phase }, { on := 1, ground := Ground.phase }, { on := 2, ground := Ground.phase }, { on := 3, ground := Ground.phase }, { on := 4, ground := Ground.phase }, { on := 5, ground := Ground.phase }, { on := 6, ground := Ground.phase }, { on := 7, ground := Ground.phase }, { on := 8, ground := Ground.phase }, { on := 9, ground := Ground.phase }, { on := 10, ground := Ground.phase }, { on := 11, ground := Ground.phase }, { on := 12, ground := Ground.phase }, { on := 13, ground := Ground.phase }, { on := 14, ground := Ground.phase }, { on := 15, ground := Ground.phase }, { on := 16, ground := Ground.phase }, { on := 17, ground := Ground.phase }, { on := 18, ground := Ground.phase }, { on := 19, ground := Ground.phase }, { on := 20, ground := Ground.phase }, { on := 21, ground := Ground.phase }, { on := 22, ground := Ground.phase }, { on := 23, ground := Ground.phase }, { on := 24, ground := Ground.phase }, { on := 25, ground := Ground.phase }, { on := 26, ground := Ground.phase }, { on := 27, ground := Ground.phase }, { on := 28, ground := Ground.phase }], guard := none }) (v := ?_) rfl (by kernel_rfl) (by kernel_rfl) (by kernel_rfl) (fun _ _ _ h => h) (Or.inl ⟨by rfl, ?_⟩) (by assumption) ?_
    rotate_left
    · intro w hSw
      go_simp
      try with_reducible rfl
    try simp only [Act.put, List.setIfInBounds_toArray, List.set_cons_zero, List.set_cons_succ]
    refine wpAnyH_done (by kernel_rfl) ?_ _
    have HS := Lib.hid (HS.out.below b8)
    clear eu eo ltr bd ZS ZU ZO HRc HRd
    go_wp2
    go_ret
    exact ⟨rfl, HS.out.bel⟩
end Go.Proofs.YtmapohpabepmfaaGreat

import Derived.Test.YtmefmnpmppdpmabDoorVc
import Derived.Test.YtmefmnpmppdpmabDoorNl
/- The program's Right (auto). -/
namespace Go.Proofs.YtmefmnpmppdpmabDoor
open Go.ChangeShapes Go.WideShapes Go.ChangeAt Go.RowKit
def rgVd0 : Oper := { dst := some 17, op := Op.fieldAddr 65 (Operand.tmp 6) 0, type := 0, pos := "auto.go:39", after := #[], guard := none }
def rgVd1 : Oper := { dst := some 18, op := Op.load 3 (Operand.tmp 17), type := 3, pos := "auto.go:39", after := #[{ on := 0, ground := Ground.data }], guard := none }
def rgVd2 : Oper := { dst := some 19, op := Op.binOp BinOp.lss 3 (Operand.tmp 18) (Operand.const (Value.int IntKind.i64 0)) 3, type := 4, pos := "auto.go:39", after := #[{ on := 1, ground := Ground.data }], guard := none }
def rgVd3 : Oper := { dst := some 20, op := Op.move (Operand.tmp 19), type := 4, pos := "auto.go:39", after := #[{ on := 2, ground := Ground.data }], guard := none }
def rgVd4 : Oper := { dst := some 21, op := Op.fieldAddr 65 (Operand.tmp 6) 0, type := 0, pos := "auto.go:39", after := #[{ on := 3, ground := Ground.guard }], guard := some (3, false) }
def rgVd5 : Oper := { dst := some 22, op := Op.load 3 (Operand.tmp 21), type := 3, pos := "auto.go:39", after := #[{ on := 4, ground := Ground.data }, { on := 3, ground := Ground.guard }], guard := some (3, false) }
def rgVd6 : Oper := { dst := some 23, op := Op.move (Operand.tmp 0), type := 30, pos := "auto.go:39", after := #[{ on := 3, ground := Ground.guard }], guard := some (3, false) }
def rgVd7 : Oper := { dst := some 24, op := Op.call { callee := Callee.builtin Builtin.len, args := #[Operand.tmp 23], argTypes := #[30] }, type := 3, pos := "auto.go:39", after := #[{ on := 6, ground := Ground.data }, { on := 3, ground := Ground.guard }], guard := some (3, false) }
def rgVd8 : Oper := { dst := some 25, op := Op.binOp BinOp.geq 3 (Operand.tmp 22) (Operand.tmp 24) 3, type := 4, pos := "auto.go:39", after := #[{ on := 5, ground := Ground.data }, { on := 7, ground := Ground.data }, { on := 3, ground := Ground.guard }], guard := some (3, false) }
def rgVd9 : Oper := { dst := some 26, op := Op.pick (Operand.tmp 20) (Operand.const (Value.bool true)) (Operand.tmp 25), type := 4, pos := "auto.go:39", after := #[{ on := 3, ground := Ground.data }, { on := 8, ground := Ground.data }], guard := none }
def rgVd10 : Oper := { dst := some 27, op := Op.move (Operand.tmp 26), type := 4, pos := "auto.go:39", after := #[{ on := 9, ground := Ground.data }, { on := 3, ground := Ground.chain }], guard := none }
def rgVd11 : Oper := { dst := some 28, op := Op.fieldAddr 65 (Operand.tmp 6) 1, type := 0, pos := "auto.go:39", after := #[{ on := 10, ground := Ground.guard }], guard := some (10, false) }
def rgVd12 : Oper := { dst := some 29, op := Op.load 24 (Operand.tmp 28), type := 24, pos := "auto.go:39", after := #[{ on := 11, ground := Ground.data }, { on := 10, ground := Ground.guard }], guard := some (10, false) }
def rgVd13 : Oper := { dst := some 30, op := Op.call { callee := Callee.value (Operand.func 19), args := #[Operand.tmp 29], argTypes := #[24] }, type := 4, pos := "auto.go:39", after := #[{ on := 12, ground := Ground.data }, { on := 10, ground := Ground.chain }, { on := 10, ground := Ground.guard }], guard := some (10, false) }
def rgVd14 : Oper := { dst := some 31, op := Op.unOp UnOp.not 4 (Operand.tmp 30), type := 4, pos := "auto.go:39", after := #[{ on := 13, ground := Ground.data }, { on := 10, ground := Ground.guard }], guard := some (10, false) }
def rgVd15 : Oper := { dst := some 32, op := Op.pick (Operand.tmp 27) (Operand.const (Value.bool true)) (Operand.tmp 31), type := 4, pos := "auto.go:39", after := #[{ on := 10, ground := Ground.data }, { on := 14, ground := Ground.data }], guard := none }
def rgVd16 : Oper := { dst := some 33, op := Op.move (Operand.tmp 32), type := 4, pos := "auto.go:39", after := #[{ on := 15, ground := Ground.data }, { on := 13, ground := Ground.chain }], guard := none }
def rgVd17 : Oper := { dst := some 34, op := Op.move (Operand.tmp 5), type := 3, pos := "auto.go:39", after := #[{ on := 16, ground := Ground.guard }], guard := some (16, false) }
def rgVd18 : Oper := { dst := some 35, op := Op.binOp BinOp.gtr 3 (Operand.tmp 34) (Operand.const (Value.int IntKind.i64 0)) 3, type := 4, pos := "auto.go:39", after := #[{ on := 17, ground := Ground.data }, { on := 16, ground := Ground.guard }], guard := some (16, false) }
def rgVd19 : Oper := { dst := some 36, op := Op.move (Operand.tmp 35), type := 4, pos := "auto.go:39", after := #[{ on := 18, ground := Ground.data }, { on := 16, ground := Ground.chain }, { on := 16, ground := Ground.guard }], guard := some (16, false) }
def rgVd20 : Oper := { dst := some 37, op := Op.move (Operand.tmp 1), type := 48, pos := "auto.go:39", after := #[{ on := 19, ground := Ground.guard }], guard := some (19, true) }
def rgVd21 : Oper := { dst := some 38, op := Op.move (Operand.tmp 5), type := 3, pos := "auto.go:39", after := #[{ on := 19, ground := Ground.guard }], guard := some (19, true) }
def rgVd22 : Oper := { dst := some 39, op := Op.binOp BinOp.sub 3 (Operand.tmp 38) (Operand.const (Value.int IntKind.i64 1)) 3, type := 3, pos := "auto.go:39", after := #[{ on := 21, ground := Ground.data }, { on := 19, ground := Ground.guard }], guard := some (19, true) }
def rgVd23 : Oper := { dst := some 40, op := Op.indexAddr 48 (Operand.tmp 37) (Operand.tmp 39), type := 0, pos := "auto.go:39", after := #[{ on := 20, ground := Ground.data }, { on := 22, ground := Ground.data }, { on := 19, ground := Ground.guard }], guard := some (19, true) }
def rgVd24 : Oper := { dst := some 41, op := Op.load 65 (Operand.tmp 40), type := 65, pos := "auto.go:39", after := #[{ on := 23, ground := Ground.data }, { on := 19, ground := Ground.guard }], guard := some (19, true) }
def rgVd25 : Oper := { dst := some 42, op := Op.load 65 (Operand.tmp 6), type := 65, pos := "auto.go:39", after := #[{ on := 19, ground := Ground.guard }], guard := some (19, true) }
def rgVd26 : Oper := { dst := some 43, op := Op.call { callee := Callee.value (Operand.func 54), args := #[Operand.tmp 41, Operand.tmp 42], argTypes := #[65, 65] }, type := 3, pos := "auto.go:39", after := #[{ on := 24, ground := Ground.data }, { on := 25, ground := Ground.data }, { on := 19, ground := Ground.chain }, { on := 19, ground := Ground.guard }], guard := some (19, true) }
def rgVd27 : Oper := { dst := some 44, op := Op.binOp BinOp.geq 3 (Operand.tmp 43) (Operand.const (Value.int IntKind.i64 0)) 3, type := 4, pos := "auto.go:39", after := #[{ on := 26, ground := Ground.data }, { on := 19, ground := Ground.guard }], guard := some (19, true) }
def rgVd28 : Oper := { dst := some 45, op := Op.pick (Operand.tmp 36) (Operand.tmp 44) (Operand.const (Value.bool false)), type := 4, pos := "auto.go:39", after := #[{ on := 19, ground := Ground.data }, { on := 27, ground := Ground.data }, { on := 16, ground := Ground.guard }], guard := some (16, false) }
def rgVd29 : Oper := { dst := some 46, op := Op.pick (Operand.tmp 33) (Operand.const (Value.bool true)) (Operand.tmp 45), type := 4, pos := "auto.go:39", after := #[{ on := 16, ground := Ground.data }, { on := 28, ground := Ground.data }], guard := none }

set_option maxRecDepth 100000 in
set_option maxHeartbeats 4000000 in
theorem right18 (sa a : Option Addr) (sc c : Nat) (s : List Lin) (l : List It) (w : World) (R0 : Lins w sa sc s) (R : Its w a c l) :
    Calls Tryd.prog 45 #[.slice sa s.length sc, .slice a l.length c] w (TellsB (rightItems s l) w) := by
  have hle := R.le
  have hle0 := R0.le
  have Z := right11 sa sc s w R0
  have HIF := Lib.hid (rightItems_iff (s := s) (l := l))
  generalize hn : l.length = n at hle HIF ⊢
  generalize hm : s.length = m at hle0 Z HIF ⊢
  have HN := Lib.hid hn
  have HM := Lib.hid hm
  have HR := Lib.hid R
  generalize hv : rightS s = v at Z HIF
  have HZ := Lib.hid Z
  clear R R0 hn hm Z hv
  go_enter Tryd.func45, Tryd.ntmps45
  go_wp2_with (fail)
  refine HZ.out.mono ?_
  rintro e w1 ⟨rfl, b1⟩
  have HB := Lib.hid b1
  clear b1 HZ
  cases v with
  | false =>
    have E : Hid (rightItems s l = false) := Lib.hid (by rw [← Bool.not_eq_true, HIF.out]; exact fun h => Bool.false_ne_true h.1)
    go_wp2
    go_ret
    exact ⟨by rw [E.out]; try rfl, HB.out⟩
  | true =>
    go_wp2
    go_loopw [4, 12] (fun r i wr => ∃ k : Nat, k ≤ n ∧ r = .bool false ∧ i = .int .i64 k ∧ Hid (Below w.heap.size w wr) ∧ Hid (∀ j, j < k → 0 ≤ (itAt l j).j ∧ (itAt l j).j < (m : Int)) ∧ Hid (UpI l k)) (fun _ i _ => n - (intOf i).toNat)
    case atStart => exact ⟨0, Nat.zero_le _, rfl, rfl, HB, Lib.hid (fun j h => by omega), Lib.hid (fun j h => by omega)⟩
    case round =>
      clear HB
      obtain ⟨k, hk, rfl, rfl, HB, HJ, HE⟩ := hrel
      by_cases hlt : k < n
      · have HRW := Lib.hid (HR.out.below HB.out)
        obtain ⟨g, b, d, e1, c0, c1, B1⟩ := HRW.out.at (k := k) (by rw [HN.out]; exact hlt)
        have hbl := B1.le
        generalize hu : (itAt l k).c.length = u at c1 hbl
        have HU := Lib.hid hu
        clear hu
        generalize hj : (itAt l k).j = j at c0
        have HJV := Lib.hid hj
        clear hj
        have bb := below_alloc wr (.cells #[.int .i64 j, .slice b u d] 65)
        have HB2 := Lib.hid (HB.out.trans (bb.mono HB.out.size))
        have HL := Lib.hid (Lies.new wr 65 [.int .i64 j, .slice b u d])
        have HRW2 := Lib.hid (HRW.out.below bb)
        have HX := Lib.hid (B1.below bb)
        clear B1 bb
        subst e1
        go_upto_region 6 with (fail)
        clear c0 c1
        generalize wr.alloc (.cells #[.int .i64 j, .slice b u d] 65) = W at HB2 HL HRW2 HX ⊢
        generalize wr.heap.size = gb at HL ⊢
        clear HB HRW
        have HB := HB2
        clear HB2
        have k0 := HL.out.cell 0
        have k1 := HL.out.cell 1
        simp only [List.getElem?_cons_zero, List.getElem?_cons_succ] at k0 k1
        have ltb := HL.out.lt
        have ltg := HRW2.out.lt rfl
        have bd : Below W.heap.size W W.drew := ⟨rfl, rfl, rfl, Nat.le_refl _, fun _ _ => rfl⟩
        have ZR : Hid (∀ V, Below W.heap.size W V → Calls Tryd.prog 19 #[.slice b u d] V (TellsB (rightL (itAt l k).c) V)) := Lib.hid (fun V h => by
          have Z := right16 b d (itAt l k).c V (HX.out.below h)
          rw [HU.out] at Z
          exact Z.mono (fun e w' h => by obtain ⟨h1, h2⟩ := h; subst h2; exact ⟨h1, Below.refl _ _⟩))
        generalize hv : rightL (itAt l k).c = v at ZR
        have HV := Lib.hid hv
        clear hv
        have hbad : ¬ (0 ≤ j ∧ j < (m : Int) ∧ v = true ∧ (0 < k → ltI (itAt l (k - 1)) (itAt l k) = true)) → Hid (rightItems s l = false) := fun h => Lib.hid (by
          rw [← Bool.not_eq_true, HIF.out]
          rintro ⟨_, h2, h3⟩
          have a1 := h2 k hlt
          have a2 := h3 k hlt
          rw [HJV.out] at a1
          refine h ⟨a1.1, a1.2, ?_, fun h0 => ?_⟩
          · rw [← HV.out]; exact a2.1
          · exact (ltI_iff (h3 (k - 1) (by omega)).1 a2.1).2 (a2.2 h0))
        by_cases hj0 : j < 0
        · have E := hbad (by omega)
          have hj0b : decide (j < 0) = true := by simpa using hj0
          clear hbad
          refine wp_region_held_drew (S := fun w' => Below W.heap.size W w') (by kernel_rfl) bd (fun hHeld => ?_)
          clear hHeld
          refine tkY 0 rgVd0 (v := ?_) rfl bd ?_ ?_
          rotate_left
          · intro w hSw
            simp only [rgVd0]; go_simp
            try with_reducible rfl
          try simp only [rgVd0, Act.put, pA, pB, pC]
          refine tkY 1 rgVd1 (v := ?_) rfl bd ?_ ?_
          rotate_left
          · intro w hSw
            have f1 := (hSw.cell (p := ⟨gb, 0, none⟩) ltb).trans k0
            have f2 := (hSw.cell (p := ⟨gb, 1, none⟩) ltb).trans k1
            simp only [rgVd1]; go_simp
            try with_reducible rfl
          try simp only [rgVd1, Act.put, pA, pB, pC]
          refine tkY 2 rgVd2 (v := ?_) rfl bd ?_ ?_
          rotate_left
          · intro w hSw
            simp only [rgVd2]; go_simp
            try with_reducible rfl
          try simp only [rgVd2, Act.put, pA, pB, pC]
          refine tkY 3 rgVd3 (v := ?_) rfl bd ?_ ?_
          rotate_left
          · intro w hSw
            simp only [rgVd3]; go_simp
            try with_reducible rfl
          try simp only [rgVd3, Act.put, pA, pB, pC]
          refine tkN 4 rgVd4 rfl bd ?_
          try simp only [rgVd4, Act.put, pA, pB, pC]
          refine tkN 5 rgVd5 rfl bd ?_
          try simp only [rgVd5, Act.put, pA, pB, pC]
          refine tkN 6 rgVd6 rfl bd ?_
          try simp only [rgVd6, Act.put, pA, pB, pC]
          refine tkN 7 rgVd7 rfl bd ?_
          try simp only [rgVd7, Act.put, pA, pB, pC]
          refine tkN 8 rgVd8 rfl bd ?_
          try simp only [rgVd8, Act.put, pA, pB, pC]
          refine tkY 9 rgVd9 (v := ?_) rfl bd ?_ ?_
          rotate_left
          · intro w hSw
            simp only [rgVd9]; go_simp
            try with_reducible rfl
          try simp only [rgVd9, Act.put, pA, pB, pC]
          refine tkY 10 rgVd10 (v := ?_) rfl bd ?_ ?_
          rotate_left
          · intro w hSw
            simp only [rgVd10]; go_simp
            try with_reducible rfl
          try simp only [rgVd10, Act.put, pA, pB, pC]
          refine tkN 11 rgVd11 rfl bd ?_
          try simp only [rgVd11, Act.put, pA, pB, pC]
          refine tkN 12 rgVd12 rfl bd ?_
          try simp only [rgVd12, Act.put, pA, pB, pC]
          refine tkN 13 rgVd13 rfl bd ?_
          try simp only [rgVd13, Act.put, pA, pB, pC]
          refine tkN 14 rgVd14 rfl bd ?_
          try simp only [rgVd14, Act.put, pA, pB, pC]
          refine tkY 15 rgVd15 (v := ?_) rfl bd ?_ ?_
          rotate_left
          · intro w hSw
            simp only [rgVd15]; go_simp
            try with_reducible rfl
          try simp only [rgVd15, Act.put, pA, pB, pC]
          refine tkY 16 rgVd16 (v := ?_) rfl bd ?_ ?_
          rotate_left
          · intro w hSw
            simp only [rgVd16]; go_simp
            try with_reducible rfl
          try simp only [rgVd16, Act.put, pA, pB, pC]
          refine tkN 17 rgVd17 rfl bd ?_
          try simp only [rgVd17, Act.put, pA, pB, pC]
          refine tkN 18 rgVd18 rfl bd ?_
          try simp only [rgVd18, Act.put, pA, pB, pC]
          refine tkN 19 rgVd19 rfl bd ?_
          try simp only [rgVd19, Act.put, pA, pB, pC]
          refine tkN 20 rgVd20 rfl bd ?_
          try simp only [rgVd20, Act.put, pA, pB, pC]
          refine tkN 21 rgVd21 rfl bd ?_
          try simp only [rgVd21, Act.put, pA, pB, pC]
          refine tkN 22 rgVd22 rfl bd ?_
          try simp only [rgVd22, Act.put, pA, pB, pC]
          refine tkN 23 rgVd23 rfl bd ?_
          try simp only [rgVd23, Act.put, pA, pB, pC]
          refine tkN 24 rgVd24 rfl bd ?_
          try simp only [rgVd24, Act.put, pA, pB, pC]
          refine tkN 25 rgVd25 rfl bd ?_
          try simp only [rgVd25, Act.put, pA, pB, pC]
          refine tkN 26 rgVd26 rfl bd ?_
          try simp only [rgVd26, Act.put, pA, pB, pC]
          refine tkN 27 rgVd27 rfl bd ?_
          try simp only [rgVd27, Act.put, pA, pB, pC]
          refine tkN 28 rgVd28 rfl bd ?_
          try simp only [rgVd28, Act.put, pA, pB, pC]
          refine tkY 29 rgVd29 (v := ?_) rfl bd ?_ ?_
          rotate_left
          · intro w hSw
            simp only [rgVd29]; go_simp
            try with_reducible rfl
          try simp only [rgVd29, Act.put, pA, pB, pC]
          refine wpAnyH_done (by kernel_rfl) ?_ _
          have HB3 := Lib.hid (HB.out.trans (bd.mono HB.out.size))
          clear ltb ltg bd ZR k0 k1
          go_wp2
          go_ret
          exact ⟨by rw [E.out]; try rfl, HB3.out⟩
        · have hj0b : decide (j < 0) = false := by simpa using hj0
          by_cases hjm : (m : Int) ≤ j
          · have E := hbad (by omega)
            have hjmb : decide ((m : Int) ≤ j) = true := by simpa using hjm
            clear hbad
            refine wp_region_held_drew (S := fun w' => Below W.heap.size W w') (by kernel_rfl) bd (fun hHeld => ?_)
            clear hHeld
            refine tkY 0 rgVd0 (v := ?_) rfl bd ?_ ?_
            rotate_left
            · intro w hSw
              simp only [rgVd0]; go_simp
              try with_reducible rfl
            try simp only [rgVd0, Act.put, pA, pB, pC]
            refine tkY 1 rgVd1 (v := ?_) rfl bd ?_ ?_
            rotate_left
            · intro w hSw
              have f1 := (hSw.cell (p := ⟨gb, 0, none⟩) ltb).trans k0
              have f2 := (hSw.cell (p := ⟨gb, 1, none⟩) ltb).trans k1
              simp only [rgVd1]; go_simp
              try with_reducible rfl
            try simp only [rgVd1, Act.put, pA, pB, pC]
            refine tkY 2 rgVd2 (v := ?_) rfl bd ?_ ?_
            rotate_left
            · intro w hSw
              simp only [rgVd2]; go_simp
              try with_reducible rfl
            try simp only [rgVd2, Act.put, pA, pB, pC]
            refine tkY 3 rgVd3 (v := ?_) rfl bd ?_ ?_
            rotate_left
            · intro w hSw
              simp only [rgVd3]; go_simp
              try with_reducible rfl
            try simp only [rgVd3, Act.put, pA, pB, pC]
            refine tkY 4 rgVd4 (v := ?_) rfl bd ?_ ?_
            rotate_left
            · intro w hSw
              simp only [rgVd4]; go_simp
              try with_reducible rfl
            try simp only [rgVd4, Act.put, pA, pB, pC]
            refine tkY 5 rgVd5 (v := ?_) rfl bd ?_ ?_
            rotate_left
            · intro w hSw
              have f1 := (hSw.cell (p := ⟨gb, 0, none⟩) ltb).trans k0
              have f2 := (hSw.cell (p := ⟨gb, 1, none⟩) ltb).trans k1
              simp only [rgVd5]; go_simp
              try with_reducible rfl
            try simp only [rgVd5, Act.put, pA, pB, pC]
            refine tkY 6 rgVd6 (v := ?_) rfl bd ?_ ?_
            rotate_left
            · intro w hSw
              simp only [rgVd6]; go_simp
              try with_reducible rfl
            try simp only [rgVd6, Act.put, pA, pB, pC]
            refine tkY 7 rgVd7 (v := ?_) rfl bd ?_ ?_
            rotate_left
            · intro w hSw
              simp only [rgVd7]; go_simp
              try with_reducible rfl
            try simp only [rgVd7, Act.put, pA, pB, pC]
            refine tkY 8 rgVd8 (v := ?_) rfl bd ?_ ?_
            rotate_left
            · intro w hSw
              simp only [rgVd8]; go_simp
              try with_reducible rfl
            try simp only [rgVd8, Act.put, pA, pB, pC]
            refine tkY 9 rgVd9 (v := ?_) rfl bd ?_ ?_
            rotate_left
            · intro w hSw
              simp only [rgVd9]; go_simp
              try with_reducible rfl
            try simp only [rgVd9, Act.put, pA, pB, pC]
            refine tkY 10 rgVd10 (v := ?_) rfl bd ?_ ?_
            rotate_left
            · intro w hSw
              simp only [rgVd10]; go_simp
              try with_reducible rfl
            try simp only [rgVd10, Act.put, pA, pB, pC]
            refine tkN 11 rgVd11 rfl bd ?_
            try simp only [rgVd11, Act.put, pA, pB, pC]
            refine tkN 12 rgVd12 rfl bd ?_
            try simp only [rgVd12, Act.put, pA, pB, pC]
            refine tkN 13 rgVd13 rfl bd ?_
            try simp only [rgVd13, Act.put, pA, pB, pC]
            refine tkN 14 rgVd14 rfl bd ?_
            try simp only [rgVd14, Act.put, pA, pB, pC]
            refine tkY 15 rgVd15 (v := ?_) rfl bd ?_ ?_
            rotate_left
            · intro w hSw
              simp only [rgVd15]; go_simp
              try with_reducible rfl
            try simp only [rgVd15, Act.put, pA, pB, pC]
            refine tkY 16 rgVd16 (v := ?_) rfl bd ?_ ?_
            rotate_left
            · intro w hSw
              simp only [rgVd16]; go_simp
              try with_reducible rfl
            try simp only [rgVd16, Act.put, pA, pB, pC]
            refine tkN 17 rgVd17 rfl bd ?_
            try simp only [rgVd17, Act.put, pA, pB, pC]
            refine tkN 18 rgVd18 rfl bd ?_
            try simp only [rgVd18, Act.put, pA, pB, pC]
            refine tkN 19 rgVd19 rfl bd ?_
            try simp only [rgVd19, Act.put, pA, pB, pC]
            refine tkN 20 rgVd20 rfl bd ?_
            try simp only [rgVd20, Act.put, pA, pB, pC]
            refine tkN 21 rgVd21 rfl bd ?_
            try simp only [rgVd21, Act.put, pA, pB, pC]
            refine tkN 22 rgVd22 rfl bd ?_
            try simp only [rgVd22, Act.put, pA, pB, pC]
            refine tkN 23 rgVd23 rfl bd ?_
            try simp only [rgVd23, Act.put, pA, pB, pC]
            refine tkN 24 rgVd24 rfl bd ?_
            try simp only [rgVd24, Act.put, pA, pB, pC]
            refine tkN 25 rgVd25 rfl bd ?_
            try simp only [rgVd25, Act.put, pA, pB, pC]
            refine tkN 26 rgVd26 rfl bd ?_
            try simp only [rgVd26, Act.put, pA, pB, pC]
            refine tkN 27 rgVd27 rfl bd ?_
            try simp only [rgVd27, Act.put, pA, pB, pC]
            refine tkN 28 rgVd28 rfl bd ?_
            try simp only [rgVd28, Act.put, pA, pB, pC]
            refine tkY 29 rgVd29 (v := ?_) rfl bd ?_ ?_
            rotate_left
            · intro w hSw
              simp only [rgVd29]; go_simp
              try with_reducible rfl
            try simp only [rgVd29, Act.put, pA, pB, pC]
            refine wpAnyH_done (by kernel_rfl) ?_ _
            have HB3 := Lib.hid (HB.out.trans (bd.mono HB.out.size))
            clear ltb ltg bd ZR k0 k1
            go_wp2
            go_ret
            exact ⟨by rw [E.out]; try rfl, HB3.out⟩
          · have hjmb : decide ((m : Int) ≤ j) = false := by simpa using hjm
            have HJ2 : Hid (∀ i, i < k + 1 → 0 ≤ (itAt l i).j ∧ (itAt l i).j < (m : Int)) := Lib.hid (fun i hi => by
              by_cases e : i = k
              · rw [e, HJV.out]; omega
              · exact HJ.out i (by omega))
            cases v with
            | false =>
              have E := hbad (fun h => Bool.false_ne_true h.2.2.1)
              clear hbad
              refine wp_region_held_drew (S := fun w' => Below W.heap.size W w') (by kernel_rfl) bd (fun hHeld => ?_)
              clear hHeld
              refine tkY 0 rgVd0 (v := ?_) rfl bd ?_ ?_
              rotate_left
              · intro w hSw
                simp only [rgVd0]; go_simp
                try with_reducible rfl
              try simp only [rgVd0, Act.put, pA, pB, pC]
              refine tkY 1 rgVd1 (v := ?_) rfl bd ?_ ?_
              rotate_left
              · intro w hSw
                have f1 := (hSw.cell (p := ⟨gb, 0, none⟩) ltb).trans k0
                have f2 := (hSw.cell (p := ⟨gb, 1, none⟩) ltb).trans k1
                simp only [rgVd1]; go_simp
                try with_reducible rfl
              try simp only [rgVd1, Act.put, pA, pB, pC]
              refine tkY 2 rgVd2 (v := ?_) rfl bd ?_ ?_
              rotate_left
              · intro w hSw
                simp only [rgVd2]; go_simp
                try with_reducible rfl
              try simp only [rgVd2, Act.put, pA, pB, pC]
              refine tkY 3 rgVd3 (v := ?_) rfl bd ?_ ?_
              rotate_left
              · intro w hSw
                simp only [rgVd3]; go_simp
                try with_reducible rfl
              try simp only [rgVd3, Act.put, pA, pB, pC]
              refine tkY 4 rgVd4 (v := ?_) rfl bd ?_ ?_
              rotate_left
              · intro w hSw
                simp only [rgVd4]; go_simp
                try with_reducible rfl
              try simp only [rgVd4, Act.put, pA, pB, pC]
              refine tkY 5 rgVd5 (v := ?_) rfl bd ?_ ?_
              rotate_left
              · intro w hSw
                have f1 := (hSw.cell (p := ⟨gb, 0, none⟩) ltb).trans k0
                have f2 := (hSw.cell (p := ⟨gb, 1, none⟩) ltb).trans k1
                simp only [rgVd5]; go_simp
                try with_reducible rfl
              try simp only [rgVd5, Act.put, pA, pB, pC]
              refine tkY 6 rgVd6 (v := ?_) rfl bd ?_ ?_
              rotate_left
              · intro w hSw
                simp only [rgVd6]; go_simp
                try with_reducible rfl
              try simp only [rgVd6, Act.put, pA, pB, pC]
              refine tkY 7 rgVd7 (v := ?_) rfl bd ?_ ?_
              rotate_left
              · intro w hSw
                simp only [rgVd7]; go_simp
                try with_reducible rfl
              try simp only [rgVd7, Act.put, pA, pB, pC]
              refine tkY 8 rgVd8 (v := ?_) rfl bd ?_ ?_
              rotate_left
              · intro w hSw
                simp only [rgVd8]; go_simp
                try with_reducible rfl
              try simp only [rgVd8, Act.put, pA, pB, pC]
              refine tkY 9 rgVd9 (v := ?_) rfl bd ?_ ?_
              rotate_left
              · intro w hSw
                simp only [rgVd9]; go_simp
                try with_reducible rfl
              try simp only [rgVd9, Act.put, pA, pB, pC]
              refine tkY 10 rgVd10 (v := ?_) rfl bd ?_ ?_
              rotate_left
              · intro w hSw
                simp only [rgVd10]; go_simp
                try with_reducible rfl
              try simp only [rgVd10, Act.put, pA, pB, pC]
              refine tkY 11 rgVd11 (v := ?_) rfl bd ?_ ?_
              rotate_left
              · intro w hSw
                simp only [rgVd11]; go_simp
                try with_reducible rfl
              try simp only [rgVd11, Act.put, pA, pB, pC]
              refine tkY 12 rgVd12 (v := ?_) rfl bd ?_ ?_
              rotate_left
              · intro w hSw
                have f1 := (hSw.cell (p := ⟨gb, 0, none⟩) ltb).trans k0
                have f2 := (hSw.cell (p := ⟨gb, 1, none⟩) ltb).trans k1
                simp only [rgVd12]; go_simp
                try with_reducible rfl
              try simp only [rgVd12, Act.put, pA, pB, pC]
              refine wpAnyH_ready (rs := [13]) (by kernel_rfl) (by simp) ?_
              refine AllReadyH.cons (o := rgVd13) rfl (fun K hK => ?_) AllReadyH.nil
              simp only [rgVd13]; go_simp
              refine (ZR.out _ bd).mono ?_
              rintro e V1 ⟨rfl, d1⟩
              have b1 : Below W.heap.size W V1 := bd.trans (d1.mono bd.size)
              go_wp2_with (fail)
              refine hK.out _ _ b1 (fun hHeld => ?_)
              clear hK K hHeld
              try simp only [rgVd13, Act.put, pA, pB, pC]
              refine tkY 14 rgVd14 (v := ?_) rfl b1 ?_ ?_
              rotate_left
              · intro w hSw
                simp only [rgVd14]; go_simp
                try with_reducible rfl
              try simp only [rgVd14, Act.put, pA, pB, pC]
              refine tkY 15 rgVd15 (v := ?_) rfl b1 ?_ ?_
              rotate_left
              · intro w hSw
                simp only [rgVd15]; go_simp
                try with_reducible rfl
              try simp only [rgVd15, Act.put, pA, pB, pC]
              refine tkY 16 rgVd16 (v := ?_) rfl b1 ?_ ?_
              rotate_left
              · intro w hSw
                simp only [rgVd16]; go_simp
                try with_reducible rfl
              try simp only [rgVd16, Act.put, pA, pB, pC]
              refine tkN 17 rgVd17 rfl b1 ?_
              try simp only [rgVd17, Act.put, pA, pB, pC]
              refine tkN 18 rgVd18 rfl b1 ?_
              try simp only [rgVd18, Act.put, pA, pB, pC]
              refine tkN 19 rgVd19 rfl b1 ?_
              try simp only [rgVd19, Act.put, pA, pB, pC]
              refine tkN 20 rgVd20 rfl b1 ?_
              try simp only [rgVd20, Act.put, pA, pB, pC]
              refine tkN 21 rgVd21 rfl b1 ?_
              try simp only [rgVd21, Act.put, pA, pB, pC]
              refine tkN 22 rgVd22 rfl b1 ?_
              try simp only [rgVd22, Act.put, pA, pB, pC]
              refine tkN 23 rgVd23 rfl b1 ?_
              try simp only [rgVd23, Act.put, pA, pB, pC]
              refine tkN 24 rgVd24 rfl b1 ?_
              try simp only [rgVd24, Act.put, pA, pB, pC]
              refine tkN 25 rgVd25 rfl b1 ?_
              try simp only [rgVd25, Act.put, pA, pB, pC]
              refine tkN 26 rgVd26 rfl b1 ?_
              try simp only [rgVd26, Act.put, pA, pB, pC]
              refine tkN 27 rgVd27 rfl b1 ?_
              try simp only [rgVd27, Act.put, pA, pB, pC]
              refine tkN 28 rgVd28 rfl b1 ?_
              try simp only [rgVd28, Act.put, pA, pB, pC]
              refine tkY 29 rgVd29 (v := ?_) rfl b1 ?_ ?_
              rotate_left
              · intro w hSw
                simp only [rgVd29]; go_simp
                try with_reducible rfl
              try simp only [rgVd29, Act.put, pA, pB, pC]
              refine wpAnyH_done (by kernel_rfl) ?_ _
              have HB3 := Lib.hid (HB.out.trans (b1.mono HB.out.size))
              clear ltb ltg bd ZR k0 k1
              go_wp2
              go_ret
              exact ⟨by rw [E.out]; try rfl, HB3.out⟩
            | true =>
              by_cases h0 : k = 0
              · subst h0
                have HE2 : Hid (UpI l 1) := Lib.hid (fun i hi => by
                  obtain rfl : i = 0 := by omega
                  exact ⟨HV.out, fun h => by omega⟩)
                clear hbad
                refine wp_region_held_drew (S := fun w' => Below W.heap.size W w') (by kernel_rfl) bd (fun hHeld => ?_)
                clear hHeld
                refine tkY 0 rgVd0 (v := ?_) rfl bd ?_ ?_
                rotate_left
                · intro w hSw
                  simp only [rgVd0]; go_simp
                  try with_reducible rfl
                try simp only [rgVd0, Act.put, pA, pB, pC]
                refine tkY 1 rgVd1 (v := ?_) rfl bd ?_ ?_
                rotate_left
                · intro w hSw
                  have f1 := (hSw.cell (p := ⟨gb, 0, none⟩) ltb).trans k0
                  have f2 := (hSw.cell (p := ⟨gb, 1, none⟩) ltb).trans k1
                  simp only [rgVd1]; go_simp
                  try with_reducible rfl
                try simp only [rgVd1, Act.put, pA, pB, pC]
                refine tkY 2 rgVd2 (v := ?_) rfl bd ?_ ?_
                rotate_left
                · intro w hSw
                  simp only [rgVd2]; go_simp
                  try with_reducible rfl
                try simp only [rgVd2, Act.put, pA, pB, pC]
                refine tkY 3 rgVd3 (v := ?_) rfl bd ?_ ?_
                rotate_left
                · intro w hSw
                  simp only [rgVd3]; go_simp
                  try with_reducible rfl
                try simp only [rgVd3, Act.put, pA, pB, pC]
                refine tkY 4 rgVd4 (v := ?_) rfl bd ?_ ?_
                rotate_left
                · intro w hSw
                  simp only [rgVd4]; go_simp
                  try with_reducible rfl
                try simp only [rgVd4, Act.put, pA, pB, pC]
                refine tkY 5 rgVd5 (v := ?_) rfl bd ?_ ?_
                rotate_left
                · intro w hSw
                  have f1 := (hSw.cell (p := ⟨gb, 0, none⟩) ltb).trans k0
                  have f2 := (hSw.cell (p := ⟨gb, 1, none⟩) ltb).trans k1
                  simp only [rgVd5]; go_simp
                  try with_reducible rfl
                try simp only [rgVd5, Act.put, pA, pB, pC]
                refine tkY 6 rgVd6 (v := ?_) rfl bd ?_ ?_
                rotate_left
                · intro w hSw
                  simp only [rgVd6]; go_simp
                  try with_reducible rfl
                try simp only [rgVd6, Act.put, pA, pB, pC]
                refine tkY 7 rgVd7 (v := ?_) rfl bd ?_ ?_
                rotate_left
                · intro w hSw
                  simp only [rgVd7]; go_simp
                  try with_reducible rfl
                try simp only [rgVd7, Act.put, pA, pB, pC]
                refine tkY 8 rgVd8 (v := ?_) rfl bd ?_ ?_
                rotate_left
                · intro w hSw
                  simp only [rgVd8]; go_simp
                  try with_reducible rfl
                try simp only [rgVd8, Act.put, pA, pB, pC]
                refine tkY 9 rgVd9 (v := ?_) rfl bd ?_ ?_
                rotate_left
                · intro w hSw
                  simp only [rgVd9]; go_simp
                  try with_reducible rfl
                try simp only [rgVd9, Act.put, pA, pB, pC]
                refine tkY 10 rgVd10 (v := ?_) rfl bd ?_ ?_
                rotate_left
                · intro w hSw
                  simp only [rgVd10]; go_simp
                  try with_reducible rfl
                try simp only [rgVd10, Act.put, pA, pB, pC]
                refine tkY 11 rgVd11 (v := ?_) rfl bd ?_ ?_
                rotate_left
                · intro w hSw
                  simp only [rgVd11]; go_simp
                  try with_reducible rfl
                try simp only [rgVd11, Act.put, pA, pB, pC]
                refine tkY 12 rgVd12 (v := ?_) rfl bd ?_ ?_
                rotate_left
                · intro w hSw
                  have f1 := (hSw.cell (p := ⟨gb, 0, none⟩) ltb).trans k0
                  have f2 := (hSw.cell (p := ⟨gb, 1, none⟩) ltb).trans k1
                  simp only [rgVd12]; go_simp
                  try with_reducible rfl
                try simp only [rgVd12, Act.put, pA, pB, pC]
                refine wpAnyH_ready (rs := [13]) (by kernel_rfl) (by simp) ?_
                refine AllReadyH.cons (o := rgVd13) rfl (fun K hK => ?_) AllReadyH.nil
                simp only [rgVd13]; go_simp
                refine (ZR.out _ bd).mono ?_
                rintro e V1 ⟨rfl, d1⟩
                have b1 : Below W.heap.size W V1 := bd.trans (d1.mono bd.size)
                go_wp2_with (fail)
                refine hK.out _ _ b1 (fun hHeld => ?_)
                clear hK K hHeld
                try simp only [rgVd13, Act.put, pA, pB, pC]
                refine tkY 14 rgVd14 (v := ?_) rfl b1 ?_ ?_
                rotate_left
                · intro w hSw
                  simp only [rgVd14]; go_simp
                  try with_reducible rfl
                try simp only [rgVd14, Act.put, pA, pB, pC]
                refine tkY 15 rgVd15 (v := ?_) rfl b1 ?_ ?_
                rotate_left
                · intro w hSw
                  simp only [rgVd15]; go_simp
                  try with_reducible rfl
                try simp only [rgVd15, Act.put, pA, pB, pC]
                refine tkY 16 rgVd16 (v := ?_) rfl b1 ?_ ?_
                rotate_left
                · intro w hSw
                  simp only [rgVd16]; go_simp
                  try with_reducible rfl
                try simp only [rgVd16, Act.put, pA, pB, pC]
                refine tkY 17 rgVd17 (v := ?_) rfl b1 ?_ ?_
                rotate_left
                · intro w hSw
                  simp only [rgVd17]; go_simp
                  try with_reducible rfl
                try simp only [rgVd17, Act.put, pA, pB, pC]
                refine tkY 18 rgVd18 (v := ?_) rfl b1 ?_ ?_
                rotate_left
                · intro w hSw
                  simp only [rgVd18]; go_simp
                  try with_reducible rfl
                try simp only [rgVd18, Act.put, pA, pB, pC]
                refine tkY 19 rgVd19 (v := ?_) rfl b1 ?_ ?_
                rotate_left
                · intro w hSw
                  simp only [rgVd19]; go_simp
                  try with_reducible rfl
                try simp only [rgVd19, Act.put, pA, pB, pC]
                refine tkN 20 rgVd20 rfl b1 ?_
                try simp only [rgVd20, Act.put, pA, pB, pC]
                refine tkN 21 rgVd21 rfl b1 ?_
                try simp only [rgVd21, Act.put, pA, pB, pC]
                refine tkN 22 rgVd22 rfl b1 ?_
                try simp only [rgVd22, Act.put, pA, pB, pC]
                refine tkN 23 rgVd23 rfl b1 ?_
                try simp only [rgVd23, Act.put, pA, pB, pC]
                refine tkN 24 rgVd24 rfl b1 ?_
                try simp only [rgVd24, Act.put, pA, pB, pC]
                refine tkN 25 rgVd25 rfl b1 ?_
                try simp only [rgVd25, Act.put, pA, pB, pC]
                refine tkN 26 rgVd26 rfl b1 ?_
                try simp only [rgVd26, Act.put, pA, pB, pC]
                refine tkN 27 rgVd27 rfl b1 ?_
                try simp only [rgVd27, Act.put, pA, pB, pC]
                refine tkY 28 rgVd28 (v := ?_) rfl b1 ?_ ?_
                rotate_left
                · intro w hSw
                  simp only [rgVd28]; go_simp
                  try with_reducible rfl
                try simp only [rgVd28, Act.put, pA, pB, pC]
                refine tkY 29 rgVd29 (v := ?_) rfl b1 ?_ ?_
                rotate_left
                · intro w hSw
                  simp only [rgVd29]; go_simp
                  try with_reducible rfl
                try simp only [rgVd29, Act.put, pA, pB, pC]
                refine wpAnyH_done (by kernel_rfl) ?_ _
                have HB3 := Lib.hid (HB.out.trans (b1.mono HB.out.size))
                clear ltb ltg bd ZR k0 k1
                go_wp2
                go_roundw
                case rel => exact ⟨1, by omega, rfl, by go_num, HB3, HJ2, HE2⟩
                case measure => simp [intOf]; omega
              · obtain ⟨i, rfl⟩ : ∃ i, k = i + 1 := ⟨k - 1, by omega⟩
                obtain ⟨g2, b2, d2, e2, c0', c1', B2⟩ := HRW2.out.at (k := i) (by rw [HN.out]; omega)
                injection e2 with e2; injection e2 with e2
                subst e2
                have hbl2 := B2.le
                generalize hu2 : (itAt l i).c.length = u2 at c1' hbl2
                have ZL : Hid (∀ V, Below W.heap.size W V → Calls Tryd.prog 54 #[.agg #[.int .i64 (itAt l i).j, .slice b2 u2 d2], .agg #[.int .i64 j, .slice b u d]] V (Tells (cmpI (itAt l i) (itAt l (i + 1))) V)) := Lib.hid (fun V h => by
                  have Z := Z.order_any b2 b d2 d (itAt l i) (itAt l (i + 1)) V (B2.below h) (HX.out.below h) (HE.out i (by omega)).1 HV.out
                  rw [hu2, HU.out, HJV.out] at Z
                  exact Z.mono (fun e w' h => ⟨h.1, h.2.toBelow⟩))
                generalize (itAt l i).j = j2 at c0' ZL
                have hlt1 : ltI (itAt l i) (itAt l (i + 1)) = decide (cmpI (itAt l i) (itAt l (i + 1)) < 0) := by
                  have h := ltI_iff (HE.out i (by omega)).1 HV.out
                  by_cases h2 : cmpI (itAt l i) (itAt l (i + 1)) < 0
                  · rw [h.2 h2]; simp [h2]
                  · rw [Bool.eq_false_iff.2 (fun h3 => h2 (h.1 h3))]; simp [h2]
                generalize cmpI (itAt l i) (itAt l (i + 1)) = cz at ZL hlt1
                obtain ⟨cv, hcv0⟩ : ∃ cv, cv = decide (cz < 0) := ⟨_, rfl⟩
                have hcv : ltI (itAt l i) (itAt l (i + 1)) = cv := hlt1.trans hcv0.symm
                have HCV := Lib.hid hcv
                have HCZ := Lib.hid hcv0
                clear hlt1 hcv0
                clear B2 hu2 hcv h0
                have q1 : (0 : Int) < (i : Int) + 1 := by omega
                have q2 : IntKind.i64.wrap (i : Int) = (i : Int) := IntWalk.i64_in _ (by omega)
                have q3 : (0 : Int) ≤ (i : Int) := by omega
                have q4 : (i : Int) < (n : Int) := by omega
                have q5 : i < n := by omega
                cases cv with
                | true =>
                  have hcz : cz < 0 := of_decide_eq_true HCZ.out.symm
                  have hczb : decide (0 ≤ cz) = false := by simpa using hcz
                  clear HCZ
                  have HE2 : Hid (UpI l (i + 1 + 1)) := Lib.hid (fun z hz => by
                    by_cases e : z = i + 1
                    · subst e
                      refine ⟨HV.out, fun _ => ?_⟩
                      rw [show i + 1 - 1 = i from rfl]
                      exact (ltI_iff (HE.out i (by omega)).1 HV.out).1 HCV.out
                    · exact HE.out z (by omega))
                  clear hbad
                  refine wp_region_held_drew (S := fun w' => Below W.heap.size W w') (by kernel_rfl) bd (fun hHeld => ?_)
                  clear hHeld
                  refine tkY 0 rgVd0 (v := ?_) rfl bd ?_ ?_
                  rotate_left
                  · intro w hSw
                    simp only [rgVd0]; go_simp
                    try with_reducible rfl
                  try simp only [rgVd0, Act.put, pA, pB, pC]
                  refine tkY 1 rgVd1 (v := ?_) rfl bd ?_ ?_
                  rotate_left
                  · intro w hSw
                    have f1 := (hSw.cell (p := ⟨gb, 0, none⟩) ltb).trans k0
                    have f2 := (hSw.cell (p := ⟨gb, 1, none⟩) ltb).trans k1
                    have f3 := (hSw.cell (p := ⟨g, i * 2, none⟩) ltg).trans c0'
                    have f4 := (hSw.cell (p := ⟨g, i * 2 + 1, none⟩) ltg).trans c1'
                    simp only [rgVd1]; go_simp
                    try with_reducible rfl
                  try simp only [rgVd1, Act.put, pA, pB, pC]
                  refine tkY 2 rgVd2 (v := ?_) rfl bd ?_ ?_
                  rotate_left
                  · intro w hSw
                    simp only [rgVd2]; go_simp
                    try with_reducible rfl
                  try simp only [rgVd2, Act.put, pA, pB, pC]
                  refine tkY 3 rgVd3 (v := ?_) rfl bd ?_ ?_
                  rotate_left
                  · intro w hSw
                    simp only [rgVd3]; go_simp
                    try with_reducible rfl
                  try simp only [rgVd3, Act.put, pA, pB, pC]
                  refine tkY 4 rgVd4 (v := ?_) rfl bd ?_ ?_
                  rotate_left
                  · intro w hSw
                    simp only [rgVd4]; go_simp
                    try with_reducible rfl
                  try simp only [rgVd4, Act.put, pA, pB, pC]
                  refine tkY 5 rgVd5 (v := ?_) rfl bd ?_ ?_
                  rotate_left
                  · intro w hSw
                    have f1 := (hSw.cell (p := ⟨gb, 0, none⟩) ltb).trans k0
                    have f2 := (hSw.cell (p := ⟨gb, 1, none⟩) ltb).trans k1
                    have f3 := (hSw.cell (p := ⟨g, i * 2, none⟩) ltg).trans c0'
                    have f4 := (hSw.cell (p := ⟨g, i * 2 + 1, none⟩) ltg).trans c1'
                    simp only [rgVd5]; go_simp
                    try with_reducible rfl
                  try simp only [rgVd5, Act.put, pA, pB, pC]
                  refine tkY 6 rgVd6 (v := ?_) rfl bd ?_ ?_
                  rotate_left
                  · intro w hSw
                    simp only [rgVd6]; go_simp
                    try with_reducible rfl
                  try simp only [rgVd6, Act.put, pA, pB, pC]
                  refine tkY 7 rgVd7 (v := ?_) rfl bd ?_ ?_
                  rotate_left
                  · intro w hSw
                    simp only [rgVd7]; go_simp
                    try with_reducible rfl
                  try simp only [rgVd7, Act.put, pA, pB, pC]
                  refine tkY 8 rgVd8 (v := ?_) rfl bd ?_ ?_
                  rotate_left
                  · intro w hSw
                    simp only [rgVd8]; go_simp
                    try with_reducible rfl
                  try simp only [rgVd8, Act.put, pA, pB, pC]
                  refine tkY 9 rgVd9 (v := ?_) rfl bd ?_ ?_
                  rotate_left
                  · intro w hSw
                    simp only [rgVd9]; go_simp
                    try with_reducible rfl
                  try simp only [rgVd9, Act.put, pA, pB, pC]
                  refine tkY 10 rgVd10 (v := ?_) rfl bd ?_ ?_
                  rotate_left
                  · intro w hSw
                    simp only [rgVd10]; go_simp
                    try with_reducible rfl
                  try simp only [rgVd10, Act.put, pA, pB, pC]
                  refine tkY 11 rgVd11 (v := ?_) rfl bd ?_ ?_
                  rotate_left
                  · intro w hSw
                    simp only [rgVd11]; go_simp
                    try with_reducible rfl
                  try simp only [rgVd11, Act.put, pA, pB, pC]
                  refine tkY 12 rgVd12 (v := ?_) rfl bd ?_ ?_
                  rotate_left
                  · intro w hSw
                    have f1 := (hSw.cell (p := ⟨gb, 0, none⟩) ltb).trans k0
                    have f2 := (hSw.cell (p := ⟨gb, 1, none⟩) ltb).trans k1
                    have f3 := (hSw.cell (p := ⟨g, i * 2, none⟩) ltg).trans c0'
                    have f4 := (hSw.cell (p := ⟨g, i * 2 + 1, none⟩) ltg).trans c1'
                    simp only [rgVd12]; go_simp
                    try with_reducible rfl
                  try simp only [rgVd12, Act.put, pA, pB, pC]
                  refine wpAnyH_ready (rs := [13]) (by kernel_rfl) (by simp) ?_
                  refine AllReadyH.cons (o := rgVd13) rfl (fun K hK => ?_) AllReadyH.nil
                  simp only [rgVd13]; go_simp
                  refine (ZR.out _ bd).mono ?_
                  rintro e V1 ⟨rfl, d1⟩
                  have b1 : Below W.heap.size W V1 := bd.trans (d1.mono bd.size)
                  go_wp2_with (fail)
                  refine hK.out _ _ b1 (fun hHeld => ?_)
                  clear hK K hHeld
                  try simp only [rgVd13, Act.put, pA, pB, pC]
                  refine tkY 14 rgVd14 (v := ?_) rfl b1 ?_ ?_
                  rotate_left
                  · intro w hSw
                    simp only [rgVd14]; go_simp
                    try with_reducible rfl
                  try simp only [rgVd14, Act.put, pA, pB, pC]
                  refine tkY 15 rgVd15 (v := ?_) rfl b1 ?_ ?_
                  rotate_left
                  · intro w hSw
                    simp only [rgVd15]; go_simp
                    try with_reducible rfl
                  try simp only [rgVd15, Act.put, pA, pB, pC]
                  refine tkY 16 rgVd16 (v := ?_) rfl b1 ?_ ?_
                  rotate_left
                  · intro w hSw
                    simp only [rgVd16]; go_simp
                    try with_reducible rfl
                  try simp only [rgVd16, Act.put, pA, pB, pC]
                  refine tkY 17 rgVd17 (v := ?_) rfl b1 ?_ ?_
                  rotate_left
                  · intro w hSw
                    simp only [rgVd17]; go_simp
                    try with_reducible rfl
                  try simp only [rgVd17, Act.put, pA, pB, pC]
                  refine tkY 18 rgVd18 (v := ?_) rfl b1 ?_ ?_
                  rotate_left
                  · intro w hSw
                    simp only [rgVd18]; go_simp
                    try with_reducible rfl
                  try simp only [rgVd18, Act.put, pA, pB, pC]
                  refine tkY 19 rgVd19 (v := ?_) rfl b1 ?_ ?_
                  rotate_left
                  · intro w hSw
                    simp only [rgVd19]; go_simp
                    try with_reducible rfl
                  try simp only [rgVd19, Act.put, pA, pB, pC]
                  refine tkY 20 rgVd20 (v := ?_) rfl b1 ?_ ?_
                  rotate_left
                  · intro w hSw
                    simp only [rgVd20]; go_simp
                    try with_reducible rfl
                  try simp only [rgVd20, Act.put, pA, pB, pC]
                  refine tkY 21 rgVd21 (v := ?_) rfl b1 ?_ ?_
                  rotate_left
                  · intro w hSw
                    simp only [rgVd21]; go_simp
                    try with_reducible rfl
                  try simp only [rgVd21, Act.put, pA, pB, pC]
                  refine tkY 22 rgVd22 (v := ?_) rfl b1 ?_ ?_
                  rotate_left
                  · intro w hSw
                    simp only [rgVd22]; go_simp
                    try with_reducible rfl
                  try simp only [rgVd22, Act.put, pA, pB, pC]
                  refine tkY 23 rgVd23 (v := ?_) rfl b1 ?_ ?_
                  rotate_left
                  · intro w hSw
                    simp only [rgVd23]; go_simp
                    try with_reducible rfl
                  try simp only [rgVd23, Act.put, pA, pB, pC]
                  refine tkY 24 rgVd24 (v := ?_) rfl b1 ?_ ?_
                  rotate_left
                  · intro w hSw
                    have f1 := (hSw.cell (p := ⟨gb, 0, none⟩) ltb).trans k0
                    have f2 := (hSw.cell (p := ⟨gb, 1, none⟩) ltb).trans k1
                    have f3 := (hSw.cell (p := ⟨g, i * 2, none⟩) ltg).trans c0'
                    have f4 := (hSw.cell (p := ⟨g, i * 2 + 1, none⟩) ltg).trans c1'
                    simp only [rgVd24]; go_simp
                    try with_reducible rfl
                  try simp only [rgVd24, Act.put, pA, pB, pC]
                  refine tkY 25 rgVd25 (v := ?_) rfl b1 ?_ ?_
                  rotate_left
                  · intro w hSw
                    have f1 := (hSw.cell (p := ⟨gb, 0, none⟩) ltb).trans k0
                    have f2 := (hSw.cell (p := ⟨gb, 1, none⟩) ltb).trans k1
                    have f3 := (hSw.cell (p := ⟨g, i * 2, none⟩) ltg).trans c0'
                    have f4 := (hSw.cell (p := ⟨g, i * 2 + 1, none⟩) ltg).trans c1'
                    simp only [rgVd25]; go_simp
                    try with_reducible rfl
                  try simp only [rgVd25, Act.put, pA, pB, pC]
                  refine wpAnyH_ready (rs := [26]) (by kernel_rfl) (by simp) ?_
                  refine AllReadyH.cons (o := rgVd26) rfl (fun K hK => ?_) AllReadyH.nil
                  simp only [rgVd26]; go_simp
                  refine (ZL.out _ b1).mono ?_
                  rintro e V2 ⟨rfl, d2⟩
                  have b2 : Below W.heap.size W V2 := b1.trans (d2.mono b1.size)
                  go_wp2_with (fail)
                  refine hK.out _ _ b2 (fun hHeld => ?_)
                  clear hK K hHeld
                  try simp only [rgVd26, Act.put, pA, pB, pC]
                  refine tkY 27 rgVd27 (v := ?_) rfl b2 ?_ ?_
                  rotate_left
                  · intro w hSw
                    simp only [rgVd27]; go_simp
                    try with_reducible rfl
                  try simp only [rgVd27, Act.put, pA, pB, pC]
                  refine tkY 28 rgVd28 (v := ?_) rfl b2 ?_ ?_
                  rotate_left
                  · intro w hSw
                    simp only [rgVd28]; go_simp
                    try with_reducible rfl
                  try simp only [rgVd28, Act.put, pA, pB, pC]
                  refine tkY 29 rgVd29 (v := ?_) rfl b2 ?_ ?_
                  rotate_left
                  · intro w hSw
                    simp only [rgVd29]; go_simp
                    try with_reducible rfl
                  try simp only [rgVd29, Act.put, pA, pB, pC]
                  refine wpAnyH_done (by kernel_rfl) ?_ _
                  have HB3 := Lib.hid (HB.out.trans (b2.mono HB.out.size))
                  clear ltb ltg bd ZR ZL k0 k1 c0' c1'
                  go_wp2
                  go_roundw
                  case rel => exact ⟨i + 1 + 1, by omega, rfl, by go_num, HB3, HJ2, HE2⟩
                  case measure => simp [intOf]; omega
                | false =>
                  have hcz : ¬ cz < 0 := of_decide_eq_false HCZ.out.symm
                  have hczb : decide (0 ≤ cz) = true := by simp; omega
                  clear HCZ
                  have E := hbad (fun h => by
                    have := h.2.2.2 (by omega)
                    rw [show i + 1 - 1 = i from rfl, HCV.out] at this
                    exact Bool.false_ne_true this)
                  clear hbad
                  refine wp_region_held_drew (S := fun w' => Below W.heap.size W w') (by kernel_rfl) bd (fun hHeld => ?_)
                  clear hHeld
                  refine tkY 0 rgVd0 (v := ?_) rfl bd ?_ ?_
                  rotate_left
                  · intro w hSw
                    simp only [rgVd0]; go_simp
                    try with_reducible rfl
                  try simp only [rgVd0, Act.put, pA, pB, pC]
                  refine tkY 1 rgVd1 (v := ?_) rfl bd ?_ ?_
                  rotate_left
                  · intro w hSw
                    have f1 := (hSw.cell (p := ⟨gb, 0, none⟩) ltb).trans k0
                    have f2 := (hSw.cell (p := ⟨gb, 1, none⟩) ltb).trans k1
                    have f3 := (hSw.cell (p := ⟨g, i * 2, none⟩) ltg).trans c0'
                    have f4 := (hSw.cell (p := ⟨g, i * 2 + 1, none⟩) ltg).trans c1'
                    simp only [rgVd1]; go_simp
                    try with_reducible rfl
                  try simp only [rgVd1, Act.put, pA, pB, pC]
                  refine tkY 2 rgVd2 (v := ?_) rfl bd ?_ ?_
                  rotate_left
                  · intro w hSw
                    simp only [rgVd2]; go_simp
                    try with_reducible rfl
                  try simp only [rgVd2, Act.put, pA, pB, pC]
                  refine tkY 3 rgVd3 (v := ?_) rfl bd ?_ ?_
                  rotate_left
                  · intro w hSw
                    simp only [rgVd3]; go_simp
                    try with_reducible rfl
                  try simp only [rgVd3, Act.put, pA, pB, pC]
                  refine tkY 4 rgVd4 (v := ?_) rfl bd ?_ ?_
                  rotate_left
                  · intro w hSw
                    simp only [rgVd4]; go_simp
                    try with_reducible rfl
                  try simp only [rgVd4, Act.put, pA, pB, pC]
                  refine tkY 5 rgVd5 (v := ?_) rfl bd ?_ ?_
                  rotate_left
                  · intro w hSw
                    have f1 := (hSw.cell (p := ⟨gb, 0, none⟩) ltb).trans k0
                    have f2 := (hSw.cell (p := ⟨gb, 1, none⟩) ltb).trans k1
                    have f3 := (hSw.cell (p := ⟨g, i * 2, none⟩) ltg).trans c0'
                    have f4 := (hSw.cell (p := ⟨g, i * 2 + 1, none⟩) ltg).trans c1'
                    simp only [rgVd5]; go_simp
                    try with_reducible rfl
                  try simp only [rgVd5, Act.put, pA, pB, pC]
                  refine tkY 6 rgVd6 (v := ?_) rfl bd ?_ ?_
                  rotate_left
                  · intro w hSw
                    simp only [rgVd6]; go_simp
                    try with_reducible rfl
                  try simp only [rgVd6, Act.put, pA, pB, pC]
                  refine tkY 7 rgVd7 (v := ?_) rfl bd ?_ ?_
                  rotate_left
                  · intro w hSw
                    simp only [rgVd7]; go_simp
                    try with_reducible rfl
                  try simp only [rgVd7, Act.put, pA, pB, pC]
                  refine tkY 8 rgVd8 (v := ?_) rfl bd ?_ ?_
                  rotate_left
                  · intro w hSw
                    simp only [rgVd8]; go_simp
                    try with_reducible rfl
                  try simp only [rgVd8, Act.put, pA, pB, pC]
                  refine tkY 9 rgVd9 (v := ?_) rfl bd ?_ ?_
                  rotate_left
                  · intro w hSw
                    simp only [rgVd9]; go_simp
                    try with_reducible rfl
                  try simp only [rgVd9, Act.put, pA, pB, pC]
                  refine tkY 10 rgVd10 (v := ?_) rfl bd ?_ ?_
                  rotate_left
                  · intro w hSw
                    simp only [rgVd10]; go_simp
                    try with_reducible rfl
                  try simp only [rgVd10, Act.put, pA, pB, pC]
                  refine tkY 11 rgVd11 (v := ?_) rfl bd ?_ ?_
                  rotate_left
                  · intro w hSw
                    simp only [rgVd11]; go_simp
                    try with_reducible rfl
                  try simp only [rgVd11, Act.put, pA, pB, pC]
                  refine tkY 12 rgVd12 (v := ?_) rfl bd ?_ ?_
                  rotate_left
                  · intro w hSw
                    have f1 := (hSw.cell (p := ⟨gb, 0, none⟩) ltb).trans k0
                    have f2 := (hSw.cell (p := ⟨gb, 1, none⟩) ltb).trans k1
                    have f3 := (hSw.cell (p := ⟨g, i * 2, none⟩) ltg).trans c0'
                    have f4 := (hSw.cell (p := ⟨g, i * 2 + 1, none⟩) ltg).trans c1'
                    simp only [rgVd12]; go_simp
                    try with_reducible rfl
                  try simp only [rgVd12, Act.put, pA, pB, pC]
                  refine wpAnyH_ready (rs := [13]) (by kernel_rfl) (by simp) ?_
                  refine AllReadyH.cons (o := rgVd13) rfl (fun K hK => ?_) AllReadyH.nil
                  simp only [rgVd13]; go_simp
                  refine (ZR.out _ bd).mono ?_
                  rintro e V1 ⟨rfl, d1⟩
                  have b1 : Below W.heap.size W V1 := bd.trans (d1.mono bd.size)
                  go_wp2_with (fail)
                  refine hK.out _ _ b1 (fun hHeld => ?_)
                  clear hK K hHeld
                  try simp only [rgVd13, Act.put, pA, pB, pC]
                  refine tkY 14 rgVd14 (v := ?_) rfl b1 ?_ ?_
                  rotate_left
                  · intro w hSw
                    simp only [rgVd14]; go_simp
                    try with_reducible rfl
                  try simp only [rgVd14, Act.put, pA, pB, pC]
                  refine tkY 15 rgVd15 (v := ?_) rfl b1 ?_ ?_
                  rotate_left
                  · intro w hSw
                    simp only [rgVd15]; go_simp
                    try with_reducible rfl
                  try simp only [rgVd15, Act.put, pA, pB, pC]
                  refine tkY 16 rgVd16 (v := ?_) rfl b1 ?_ ?_
                  rotate_left
                  · intro w hSw
                    simp only [rgVd16]; go_simp
                    try with_reducible rfl
                  try simp only [rgVd16, Act.put, pA, pB, pC]
                  refine tkY 17 rgVd17 (v := ?_) rfl b1 ?_ ?_
                  rotate_left
                  · intro w hSw
                    simp only [rgVd17]; go_simp
                    try with_reducible rfl
                  try simp only [rgVd17, Act.put, pA, pB, pC]
                  refine tkY 18 rgVd18 (v := ?_) rfl b1 ?_ ?_
                  rotate_left
                  · intro w hSw
                    simp only [rgVd18]; go_simp
                    try with_reducible rfl
                  try simp only [rgVd18, Act.put, pA, pB, pC]
                  refine tkY 19 rgVd19 (v := ?_) rfl b1 ?_ ?_
                  rotate_left
                  · intro w hSw
                    simp only [rgVd19]; go_simp
                    try with_reducible rfl
                  try simp only [rgVd19, Act.put, pA, pB, pC]
                  refine tkY 20 rgVd20 (v := ?_) rfl b1 ?_ ?_
                  rotate_left
                  · intro w hSw
                    simp only [rgVd20]; go_simp
                    try with_reducible rfl
                  try simp only [rgVd20, Act.put, pA, pB, pC]
                  refine tkY 21 rgVd21 (v := ?_) rfl b1 ?_ ?_
                  rotate_left
                  · intro w hSw
                    simp only [rgVd21]; go_simp
                    try with_reducible rfl
                  try simp only [rgVd21, Act.put, pA, pB, pC]
                  refine tkY 22 rgVd22 (v := ?_) rfl b1 ?_ ?_
                  rotate_left
                  · intro w hSw
                    simp only [rgVd22]; go_simp
                    try with_reducible rfl
                  try simp only [rgVd22, Act.put, pA, pB, pC]
                  refine tkY 23 rgVd23 (v := ?_) rfl b1 ?_ ?_
                  rotate_left
                  · intro w hSw
                    simp only [rgVd23]; go_simp
                    try with_reducible rfl
                  try simp only [rgVd23, Act.put, pA, pB, pC]
                  refine tkY 24 rgVd24 (v := ?_) rfl b1 ?_ ?_
                  rotate_left
                  · intro w hSw
                    have f1 := (hSw.cell (p := ⟨gb, 0, none⟩) ltb).trans k0
                    have f2 := (hSw.cell (p := ⟨gb, 1, none⟩) ltb).trans k1
                    have f3 := (hSw.cell (p := ⟨g, i * 2, none⟩) ltg).trans c0'
                    have f4 := (hSw.cell (p := ⟨g, i * 2 + 1, none⟩) ltg).trans c1'
                    simp only [rgVd24]; go_simp
                    try with_reducible rfl
                  try simp only [rgVd24, Act.put, pA, pB, pC]
                  refine tkY 25 rgVd25 (v := ?_) rfl b1 ?_ ?_
                  rotate_left
                  · intro w hSw
                    have f1 := (hSw.cell (p := ⟨gb, 0, none⟩) ltb).trans k0
                    have f2 := (hSw.cell (p := ⟨gb, 1, none⟩) ltb).trans k1
                    have f3 := (hSw.cell (p := ⟨g, i * 2, none⟩) ltg).trans c0'
                    have f4 := (hSw.cell (p := ⟨g, i * 2 + 1, none⟩) ltg).trans c1'
                    simp only [rgVd25]; go_simp
                    try with_reducible rfl
                  try simp only [rgVd25, Act.put, pA, pB, pC]
                  refine wpAnyH_ready (rs := [26]) (by kernel_rfl) (by simp) ?_
                  refine AllReadyH.cons (o := rgVd26) rfl (fun K hK => ?_) AllReadyH.nil
                  simp only [rgVd26]; go_simp
                  refine (ZL.out _ b1).mono ?_
                  rintro e V2 ⟨rfl, d2⟩
                  have b2 : Below W.heap.size W V2 := b1.trans (d2.mono b1.size)
                  go_wp2_with (fail)
                  refine hK.out _ _ b2 (fun hHeld => ?_)
                  clear hK K hHeld
                  try simp only [rgVd26, Act.put, pA, pB, pC]
                  refine tkY 27 rgVd27 (v := ?_) rfl b2 ?_ ?_
                  rotate_left
                  · intro w hSw
                    simp only [rgVd27]; go_simp
                    try with_reducible rfl
                  try simp only [rgVd27, Act.put, pA, pB, pC]
                  refine tkY 28 rgVd28 (v := ?_) rfl b2 ?_ ?_
                  rotate_left
                  · intro w hSw
                    simp only [rgVd28]; go_simp
                    try with_reducible rfl
                  try simp only [rgVd28, Act.put, pA, pB, pC]
                  refine tkY 29 rgVd29 (v := ?_) rfl b2 ?_ ?_
                  rotate_left
                  · intro w hSw
                    simp only [rgVd29]; go_simp
                    try with_reducible rfl
                  try simp only [rgVd29, Act.put, pA, pB, pC]
                  refine wpAnyH_done (by kernel_rfl) ?_ _
                  have HB3 := Lib.hid (HB.out.trans (b2.mono HB.out.size))
                  clear ltb ltg bd ZR ZL k0 k1 c0' c1'
                  go_wp2
                  go_ret
                  exact ⟨by rw [E.out]; try rfl, HB3.out⟩
      · have E : Hid (rightItems s l = true) := Lib.hid (HIF.out.2 ⟨by first | trivial | rfl, fun i hi => HJ.out i (by omega), fun i hi => HE.out i (by omega)⟩)
        go_wp2
        go_ret
        exact ⟨by rw [E.out]; try rfl, HB.out⟩
end Go.Proofs.YtmefmnpmppdpmabDoor

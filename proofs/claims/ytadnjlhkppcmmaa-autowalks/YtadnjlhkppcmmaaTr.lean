/- The reference's SameItems, lessItem, RightItems. -/
import Derived.Test.YtadnjlhkppcmmaaTg
import Derived.Test.YtadnjlhkppcmmaaMc
import Derived.Deep.RegionHeld3
import Derived.Deep.CutBlock
import Derived.Deep.DeepCutAuto
import Derived.Deep.CutRange
namespace Go.Proofs.Ytadnjlhkppcmmaa
open Go.ChangeShapes Go.WideShapes Go.ChangeAt Go.RowKit
def rgTr0 : Oper := { dst := some 16, op := Op.move (Operand.tmp 0), type := 28, pos := "ref.go:480", after := #[], guard := none }
def rgTr1 : Oper := { dst := some 17, op := Op.move (Operand.tmp 5), type := 3, pos := "ref.go:480", after := #[], guard := none }
def rgTr2 : Oper := { dst := some 18, op := Op.indexAddr 28 (Operand.tmp 16) (Operand.tmp 17), type := 0, pos := "ref.go:480", after := #[{ on := 0, ground := Ground.data }, { on := 1, ground := Ground.data }], guard := none }
def rgTr3 : Oper := { dst := some 19, op := Op.fieldAddr 75 (Operand.tmp 18) 0, type := 0, pos := "ref.go:480", after := #[{ on := 2, ground := Ground.data }], guard := none }
def rgTr4 : Oper := { dst := some 20, op := Op.load 3 (Operand.tmp 19), type := 3, pos := "ref.go:480", after := #[{ on := 3, ground := Ground.data }], guard := none }
def rgTr5 : Oper := { dst := some 21, op := Op.move (Operand.tmp 1), type := 28, pos := "ref.go:480", after := #[], guard := none }
def rgTr6 : Oper := { dst := some 22, op := Op.move (Operand.tmp 5), type := 3, pos := "ref.go:480", after := #[], guard := none }
def rgTr7 : Oper := { dst := some 23, op := Op.indexAddr 28 (Operand.tmp 21) (Operand.tmp 22), type := 0, pos := "ref.go:480", after := #[{ on := 5, ground := Ground.data }, { on := 6, ground := Ground.data }], guard := none }
def rgTr8 : Oper := { dst := some 24, op := Op.fieldAddr 75 (Operand.tmp 23) 0, type := 0, pos := "ref.go:480", after := #[{ on := 7, ground := Ground.data }], guard := none }
def rgTr9 : Oper := { dst := some 25, op := Op.load 3 (Operand.tmp 24), type := 3, pos := "ref.go:480", after := #[{ on := 8, ground := Ground.data }], guard := none }
def rgTr10 : Oper := { dst := some 26, op := Op.binOp BinOp.neq 3 (Operand.tmp 20) (Operand.tmp 25) 3, type := 4, pos := "ref.go:480", after := #[{ on := 4, ground := Ground.data }, { on := 9, ground := Ground.data }], guard := none }
def rgTr11 : Oper := { dst := some 27, op := Op.move (Operand.tmp 26), type := 4, pos := "ref.go:480", after := #[{ on := 10, ground := Ground.data }], guard := none }
def rgTr12 : Oper := { dst := some 28, op := Op.move (Operand.tmp 0), type := 28, pos := "ref.go:480", after := #[{ on := 11, ground := Ground.guard }], guard := some (11, false) }
def rgTr13 : Oper := { dst := some 29, op := Op.move (Operand.tmp 5), type := 3, pos := "ref.go:480", after := #[{ on := 11, ground := Ground.guard }], guard := some (11, false) }
def rgTr14 : Oper := { dst := some 30, op := Op.indexAddr 28 (Operand.tmp 28) (Operand.tmp 29), type := 0, pos := "ref.go:480", after := #[{ on := 12, ground := Ground.data }, { on := 13, ground := Ground.data }, { on := 11, ground := Ground.guard }], guard := some (11, false) }
def rgTr15 : Oper := { dst := some 31, op := Op.fieldAddr 75 (Operand.tmp 30) 1, type := 0, pos := "ref.go:480", after := #[{ on := 14, ground := Ground.data }, { on := 11, ground := Ground.guard }], guard := some (11, false) }
def rgTr16 : Oper := { dst := some 32, op := Op.load 52 (Operand.tmp 31), type := 52, pos := "ref.go:480", after := #[{ on := 15, ground := Ground.data }, { on := 11, ground := Ground.guard }], guard := some (11, false) }
def rgTr17 : Oper := { dst := some 33, op := Op.move (Operand.tmp 1), type := 28, pos := "ref.go:480", after := #[{ on := 11, ground := Ground.guard }], guard := some (11, false) }
def rgTr18 : Oper := { dst := some 34, op := Op.move (Operand.tmp 5), type := 3, pos := "ref.go:480", after := #[{ on := 11, ground := Ground.guard }], guard := some (11, false) }
def rgTr19 : Oper := { dst := some 35, op := Op.indexAddr 28 (Operand.tmp 33) (Operand.tmp 34), type := 0, pos := "ref.go:480", after := #[{ on := 17, ground := Ground.data }, { on := 18, ground := Ground.data }, { on := 11, ground := Ground.guard }], guard := some (11, false) }
def rgTr20 : Oper := { dst := some 36, op := Op.fieldAddr 75 (Operand.tmp 35) 1, type := 0, pos := "ref.go:480", after := #[{ on := 19, ground := Ground.data }, { on := 11, ground := Ground.guard }], guard := some (11, false) }
def rgTr21 : Oper := { dst := some 37, op := Op.load 52 (Operand.tmp 36), type := 52, pos := "ref.go:480", after := #[{ on := 20, ground := Ground.data }, { on := 11, ground := Ground.guard }], guard := some (11, false) }
def rgTr22 : Oper := { dst := some 38, op := Op.call { callee := Callee.value (Operand.func 43), args := #[Operand.tmp 32, Operand.tmp 37], argTypes := #[52, 52] }, type := 4, pos := "ref.go:480", after := #[{ on := 16, ground := Ground.data }, { on := 21, ground := Ground.data }, { on := 11, ground := Ground.chain }, { on := 11, ground := Ground.guard }], guard := some (11, false) }
def rgTr23 : Oper := { dst := some 39, op := Op.unOp UnOp.not 4 (Operand.tmp 38), type := 4, pos := "ref.go:480", after := #[{ on := 22, ground := Ground.data }, { on := 11, ground := Ground.guard }], guard := some (11, false) }
def rgTr24 : Oper := { dst := some 40, op := Op.pick (Operand.tmp 27) (Operand.const (Value.bool true)) (Operand.tmp 39), type := 4, pos := "ref.go:480", after := #[{ on := 11, ground := Ground.data }, { on := 23, ground := Ground.data }], guard := none }
def rgTr25 : Oper := { dst := some 17, op := Op.fieldAddr 75 (Operand.tmp 6) 0, type := 0, pos := "ref.go:467", after := #[], guard := none }
def rgTr26 : Oper := { dst := some 18, op := Op.load 3 (Operand.tmp 17), type := 3, pos := "ref.go:467", after := #[{ on := 0, ground := Ground.data }], guard := none }
def rgTr27 : Oper := { dst := some 19, op := Op.binOp BinOp.lss 3 (Operand.tmp 18) (Operand.const (Value.int IntKind.i64 0)) 3, type := 4, pos := "ref.go:467", after := #[{ on := 1, ground := Ground.data }], guard := none }
def rgTr28 : Oper := { dst := some 20, op := Op.move (Operand.tmp 19), type := 4, pos := "ref.go:467", after := #[{ on := 2, ground := Ground.data }], guard := none }
def rgTr29 : Oper := { dst := some 21, op := Op.fieldAddr 75 (Operand.tmp 6) 0, type := 0, pos := "ref.go:467", after := #[{ on := 3, ground := Ground.guard }], guard := some (3, false) }
def rgTr30 : Oper := { dst := some 22, op := Op.load 3 (Operand.tmp 21), type := 3, pos := "ref.go:467", after := #[{ on := 4, ground := Ground.data }, { on := 3, ground := Ground.guard }], guard := some (3, false) }
def rgTr31 : Oper := { dst := some 23, op := Op.move (Operand.tmp 0), type := 26, pos := "ref.go:467", after := #[{ on := 3, ground := Ground.guard }], guard := some (3, false) }
def rgTr32 : Oper := { dst := some 24, op := Op.call { callee := Callee.builtin Builtin.len, args := #[Operand.tmp 23], argTypes := #[26] }, type := 3, pos := "ref.go:467", after := #[{ on := 6, ground := Ground.data }, { on := 3, ground := Ground.guard }], guard := some (3, false) }
def rgTr33 : Oper := { dst := some 25, op := Op.binOp BinOp.geq 3 (Operand.tmp 22) (Operand.tmp 24) 3, type := 4, pos := "ref.go:467", after := #[{ on := 5, ground := Ground.data }, { on := 7, ground := Ground.data }, { on := 3, ground := Ground.guard }], guard := some (3, false) }
def rgTr34 : Oper := { dst := some 26, op := Op.pick (Operand.tmp 20) (Operand.const (Value.bool true)) (Operand.tmp 25), type := 4, pos := "ref.go:467", after := #[{ on := 3, ground := Ground.data }, { on := 8, ground := Ground.data }], guard := none }
def rgTr35 : Oper := { dst := some 27, op := Op.move (Operand.tmp 26), type := 4, pos := "ref.go:467", after := #[{ on := 9, ground := Ground.data }, { on := 3, ground := Ground.chain }], guard := none }
def rgTr36 : Oper := { dst := some 28, op := Op.fieldAddr 75 (Operand.tmp 6) 1, type := 0, pos := "ref.go:467", after := #[{ on := 10, ground := Ground.guard }], guard := some (10, false) }
def rgTr37 : Oper := { dst := some 29, op := Op.load 52 (Operand.tmp 28), type := 52, pos := "ref.go:467", after := #[{ on := 11, ground := Ground.data }, { on := 10, ground := Ground.guard }], guard := some (10, false) }
def rgTr38 : Oper := { dst := some 30, op := Op.call { callee := Callee.value (Operand.func 47), args := #[Operand.tmp 29], argTypes := #[52] }, type := 4, pos := "ref.go:467", after := #[{ on := 12, ground := Ground.data }, { on := 10, ground := Ground.chain }, { on := 10, ground := Ground.guard }], guard := some (10, false) }
def rgTr39 : Oper := { dst := some 31, op := Op.unOp UnOp.not 4 (Operand.tmp 30), type := 4, pos := "ref.go:467", after := #[{ on := 13, ground := Ground.data }, { on := 10, ground := Ground.guard }], guard := some (10, false) }
def rgTr40 : Oper := { dst := some 32, op := Op.pick (Operand.tmp 27) (Operand.const (Value.bool true)) (Operand.tmp 31), type := 4, pos := "ref.go:467", after := #[{ on := 10, ground := Ground.data }, { on := 14, ground := Ground.data }], guard := none }
def rgTr41 : Oper := { dst := some 33, op := Op.move (Operand.tmp 32), type := 4, pos := "ref.go:467", after := #[{ on := 15, ground := Ground.data }, { on := 13, ground := Ground.chain }], guard := none }
def rgTr42 : Oper := { dst := some 34, op := Op.move (Operand.tmp 5), type := 3, pos := "ref.go:467", after := #[{ on := 16, ground := Ground.guard }], guard := some (16, false) }
def rgTr43 : Oper := { dst := some 35, op := Op.binOp BinOp.gtr 3 (Operand.tmp 34) (Operand.const (Value.int IntKind.i64 0)) 3, type := 4, pos := "ref.go:467", after := #[{ on := 17, ground := Ground.data }, { on := 16, ground := Ground.guard }], guard := some (16, false) }
def rgTr44 : Oper := { dst := some 36, op := Op.move (Operand.tmp 35), type := 4, pos := "ref.go:467", after := #[{ on := 18, ground := Ground.data }, { on := 16, ground := Ground.chain }, { on := 16, ground := Ground.guard }], guard := some (16, false) }
def rgTr45 : Oper := { dst := some 37, op := Op.move (Operand.tmp 1), type := 28, pos := "ref.go:467", after := #[{ on := 19, ground := Ground.guard }], guard := some (19, true) }
def rgTr46 : Oper := { dst := some 38, op := Op.move (Operand.tmp 5), type := 3, pos := "ref.go:467", after := #[{ on := 19, ground := Ground.guard }], guard := some (19, true) }
def rgTr47 : Oper := { dst := some 39, op := Op.binOp BinOp.sub 3 (Operand.tmp 38) (Operand.const (Value.int IntKind.i64 1)) 3, type := 3, pos := "ref.go:467", after := #[{ on := 21, ground := Ground.data }, { on := 19, ground := Ground.guard }], guard := some (19, true) }
def rgTr48 : Oper := { dst := some 40, op := Op.indexAddr 28 (Operand.tmp 37) (Operand.tmp 39), type := 0, pos := "ref.go:467", after := #[{ on := 20, ground := Ground.data }, { on := 22, ground := Ground.data }, { on := 19, ground := Ground.guard }], guard := some (19, true) }
def rgTr49 : Oper := { dst := some 41, op := Op.load 75 (Operand.tmp 40), type := 75, pos := "ref.go:467", after := #[{ on := 23, ground := Ground.data }, { on := 19, ground := Ground.guard }], guard := some (19, true) }
def rgTr50 : Oper := { dst := some 42, op := Op.load 75 (Operand.tmp 6), type := 75, pos := "ref.go:467", after := #[{ on := 19, ground := Ground.guard }], guard := some (19, true) }
def rgTr51 : Oper := { dst := some 43, op := Op.call { callee := Callee.value (Operand.func 48), args := #[Operand.tmp 41, Operand.tmp 42], argTypes := #[75, 75] }, type := 4, pos := "ref.go:467", after := #[{ on := 24, ground := Ground.data }, { on := 25, ground := Ground.data }, { on := 19, ground := Ground.chain }, { on := 19, ground := Ground.guard }], guard := some (19, true) }
def rgTr52 : Oper := { dst := some 44, op := Op.unOp UnOp.not 4 (Operand.tmp 43), type := 4, pos := "ref.go:467", after := #[{ on := 26, ground := Ground.data }, { on := 19, ground := Ground.guard }], guard := some (19, true) }
def rgTr53 : Oper := { dst := some 45, op := Op.pick (Operand.tmp 36) (Operand.tmp 44) (Operand.const (Value.bool false)), type := 4, pos := "ref.go:467", after := #[{ on := 19, ground := Ground.data }, { on := 27, ground := Ground.data }, { on := 16, ground := Ground.guard }], guard := some (16, false) }
def rgTr54 : Oper := { dst := some 46, op := Op.pick (Operand.tmp 33) (Operand.const (Value.bool true)) (Operand.tmp 45), type := 4, pos := "ref.go:467", after := #[{ on := 16, ground := Ground.data }, { on := 28, ground := Ground.data }], guard := none }

theorem sameBagT {x y : List Int} {n m : Nat} (hn : x.length = n) (hm : y.length = m) (W : World) (a b : Option Addr) (c d : Nat) (R : Bag W a c x) (S : Bag W b d y) :
    Calls Try.prog 43 #[.slice a n c, .slice b m d] W (TellsB (sameL x y) W) := by
  have Z := sameBag_any a b c d x y W R S
  rw [hn, hm] at Z
  exact Z.mono (fun e w' h => by
    obtain ⟨h1, q, h2⟩ := h
    subst h2
    exact ⟨h1, below_drewN _ _ _⟩)
set_option maxRecDepth 100000 in
set_option maxHeartbeats 4000000 in
theorem sameItems_any (a a' : Option Addr) (c c' : Nat) (s t : List It) (w : World) (R : Its w a c s) (R' : Its w a' c' t) :
    Calls Try.prog 16 #[.slice a s.length c, .slice a' t.length c'] w (TellsB (decide (s = t)) w) := by
  have hle := R.le
  have hle' := R'.le
  generalize hn : s.length = n at hle ⊢
  generalize hm : t.length = m at hle' ⊢
  have HN := Lib.hid hn
  have HM := Lib.hid hm
  have HR := Lib.hid R
  have HR' := Lib.hid R'
  clear R R' hn hm
  by_cases hl : n = m
  · subst hl
    have hb0 : ((n : Int) != (n : Int)) = false := by simp
    go_enter Try.func16, Try.ntmps16
    go_wp2
    go_loopw [4, 13] (fun r i wr => ∃ k : Nat, k ≤ n ∧ r = .bool false ∧ i = .int .i64 k ∧ Hid (Below w.heap.size w wr) ∧ Hid (∀ j, j < k → itAt s j = itAt t j)) (fun _ i _ => n - (intOf i).toNat)
    case atStart => exact ⟨0, Nat.zero_le _, rfl, rfl, Lib.hid (Below.refl _ _), Lib.hid (fun j h => by omega)⟩
    case round =>
      obtain ⟨k, hk, rfl, rfl, HB, HE⟩ := hrel
      by_cases hlt : k < n
      · obtain ⟨g, b, d, rfl, c0, c1, B1⟩ := (HR.out.below HB.out).at (k := k) (by rw [HN.out]; exact hlt)
        obtain ⟨g', b', d', rfl, c0', c1', B2⟩ := (HR'.out.below HB.out).at (k := k) (by rw [HM.out]; exact hlt)
        have lt1 := (HR.out.below HB.out).lt rfl
        have lt2 := (HR'.out.below HB.out).lt rfl
        generalize hu : (itAt s k).c.length = u at c1
        generalize hu' : (itAt t k).c.length = u' at c1'
        have ZB : Hid (∀ V, Below wr.heap.size wr V → Calls Try.prog 43 #[.slice b u d, .slice b' u' d'] V (TellsB (sameL (itAt s k).c (itAt t k).c) V)) := Lib.hid (fun V h => sameBagT hu hu' V b b' d d' (B1.below h) (B2.below h))
        have q1 := B1.le
        have q2 := B2.le
        rw [hu] at q1
        rw [hu'] at q2
        clear B1 B2 hu hu'
        generalize hj1 : (itAt s k).j = j1 at c0
        generalize hj2 : (itAt t k).j = j2 at c0'
        generalize hsb : sameL (itAt s k).c (itAt t k).c = sb at ZB
        have HSB := Lib.hid hsb
        have HJ1 := Lib.hid hj1
        have HJ2 := Lib.hid hj2
        clear hsb hj1 hj2
        have i1 : (0 : Int) ≤ (k : Int) := by omega
        have i2 : (k : Int) < (n : Int) := by omega
        go_upto_region 6 with (fail)
        have bd : Below wr.heap.size wr wr.drew := ⟨rfl, rfl, rfl, Nat.le_refl _, fun _ _ => rfl⟩
        generalize wr = W at *
        by_cases hj : j1 = j2
        · have hjb : (j1 != j2) = false := by simp [hj]
          cases sb with
          | false =>
            have E : Hid (decide (s = t) = false) := Lib.hid (by
              simp only [decide_eq_false_iff_not]
              rintro rfl
              have h := HSB.out
              rw [same_self] at h
              cases h)
            refine wp_region_held_drew (S := fun w' => Below W.heap.size W w') (by kernel_rfl) bd (fun hHeld => ?_)
            clear hHeld
            refine tkY 0 rgTr0 (v := ?_) rfl bd ?_ ?_
            rotate_left
            · intro w hSw
              simp only [rgTr0]; go_simp
              try with_reducible rfl
            try simp only [rgTr0, Act.put, pA, pB, pC]
            refine tkY 1 rgTr1 (v := ?_) rfl bd ?_ ?_
            rotate_left
            · intro w hSw
              simp only [rgTr1]; go_simp
              try with_reducible rfl
            try simp only [rgTr1, Act.put, pA, pB, pC]
            refine tkY 2 rgTr2 (v := ?_) rfl bd ?_ ?_
            rotate_left
            · intro w hSw
              simp only [rgTr2]; go_simp
              try with_reducible rfl
            try simp only [rgTr2, Act.put, pA, pB, pC]
            refine tkY 3 rgTr3 (v := ?_) rfl bd ?_ ?_
            rotate_left
            · intro w hSw
              simp only [rgTr3]; go_simp
              try with_reducible rfl
            try simp only [rgTr3, Act.put, pA, pB, pC]
            refine tkY 4 rgTr4 (v := ?_) rfl bd ?_ ?_
            rotate_left
            · intro w hSw
              have f1 := (hSw.cell (p := ⟨g, k * 2, none⟩) lt1).trans c0
              have f2 := (hSw.cell (p := ⟨g, k * 2 + 1, none⟩) lt1).trans c1
              have f3 := (hSw.cell (p := ⟨g', k * 2, none⟩) lt2).trans c0'
              have f4 := (hSw.cell (p := ⟨g', k * 2 + 1, none⟩) lt2).trans c1'
              simp only [rgTr4]; go_simp
              try with_reducible rfl
            try simp only [rgTr4, Act.put, pA, pB, pC]
            refine tkY 5 rgTr5 (v := ?_) rfl bd ?_ ?_
            rotate_left
            · intro w hSw
              simp only [rgTr5]; go_simp
              try with_reducible rfl
            try simp only [rgTr5, Act.put, pA, pB, pC]
            refine tkY 6 rgTr6 (v := ?_) rfl bd ?_ ?_
            rotate_left
            · intro w hSw
              simp only [rgTr6]; go_simp
              try with_reducible rfl
            try simp only [rgTr6, Act.put, pA, pB, pC]
            refine tkY 7 rgTr7 (v := ?_) rfl bd ?_ ?_
            rotate_left
            · intro w hSw
              simp only [rgTr7]; go_simp
              try with_reducible rfl
            try simp only [rgTr7, Act.put, pA, pB, pC]
            refine tkY 8 rgTr8 (v := ?_) rfl bd ?_ ?_
            rotate_left
            · intro w hSw
              simp only [rgTr8]; go_simp
              try with_reducible rfl
            try simp only [rgTr8, Act.put, pA, pB, pC]
            refine tkY 9 rgTr9 (v := ?_) rfl bd ?_ ?_
            rotate_left
            · intro w hSw
              have f1 := (hSw.cell (p := ⟨g, k * 2, none⟩) lt1).trans c0
              have f2 := (hSw.cell (p := ⟨g, k * 2 + 1, none⟩) lt1).trans c1
              have f3 := (hSw.cell (p := ⟨g', k * 2, none⟩) lt2).trans c0'
              have f4 := (hSw.cell (p := ⟨g', k * 2 + 1, none⟩) lt2).trans c1'
              simp only [rgTr9]; go_simp
              try with_reducible rfl
            try simp only [rgTr9, Act.put, pA, pB, pC]
            refine tkY 10 rgTr10 (v := ?_) rfl bd ?_ ?_
            rotate_left
            · intro w hSw
              simp only [rgTr10]; go_simp
              try with_reducible rfl
            try simp only [rgTr10, Act.put, pA, pB, pC]
            refine tkY 11 rgTr11 (v := ?_) rfl bd ?_ ?_
            rotate_left
            · intro w hSw
              simp only [rgTr11]; go_simp
              try with_reducible rfl
            try simp only [rgTr11, Act.put, pA, pB, pC]
            refine tkY 12 rgTr12 (v := ?_) rfl bd ?_ ?_
            rotate_left
            · intro w hSw
              simp only [rgTr12]; go_simp
              try with_reducible rfl
            try simp only [rgTr12, Act.put, pA, pB, pC]
            refine tkY 13 rgTr13 (v := ?_) rfl bd ?_ ?_
            rotate_left
            · intro w hSw
              simp only [rgTr13]; go_simp
              try with_reducible rfl
            try simp only [rgTr13, Act.put, pA, pB, pC]
            refine tkY 14 rgTr14 (v := ?_) rfl bd ?_ ?_
            rotate_left
            · intro w hSw
              simp only [rgTr14]; go_simp
              try with_reducible rfl
            try simp only [rgTr14, Act.put, pA, pB, pC]
            refine tkY 15 rgTr15 (v := ?_) rfl bd ?_ ?_
            rotate_left
            · intro w hSw
              simp only [rgTr15]; go_simp
              try with_reducible rfl
            try simp only [rgTr15, Act.put, pA, pB, pC]
            refine tkY 16 rgTr16 (v := ?_) rfl bd ?_ ?_
            rotate_left
            · intro w hSw
              have f1 := (hSw.cell (p := ⟨g, k * 2, none⟩) lt1).trans c0
              have f2 := (hSw.cell (p := ⟨g, k * 2 + 1, none⟩) lt1).trans c1
              have f3 := (hSw.cell (p := ⟨g', k * 2, none⟩) lt2).trans c0'
              have f4 := (hSw.cell (p := ⟨g', k * 2 + 1, none⟩) lt2).trans c1'
              simp only [rgTr16]; go_simp
              try with_reducible rfl
            try simp only [rgTr16, Act.put, pA, pB, pC]
            refine tkY 17 rgTr17 (v := ?_) rfl bd ?_ ?_
            rotate_left
            · intro w hSw
              simp only [rgTr17]; go_simp
              try with_reducible rfl
            try simp only [rgTr17, Act.put, pA, pB, pC]
            refine tkY 18 rgTr18 (v := ?_) rfl bd ?_ ?_
            rotate_left
            · intro w hSw
              simp only [rgTr18]; go_simp
              try with_reducible rfl
            try simp only [rgTr18, Act.put, pA, pB, pC]
            refine tkY 19 rgTr19 (v := ?_) rfl bd ?_ ?_
            rotate_left
            · intro w hSw
              simp only [rgTr19]; go_simp
              try with_reducible rfl
            try simp only [rgTr19, Act.put, pA, pB, pC]
            refine tkY 20 rgTr20 (v := ?_) rfl bd ?_ ?_
            rotate_left
            · intro w hSw
              simp only [rgTr20]; go_simp
              try with_reducible rfl
            try simp only [rgTr20, Act.put, pA, pB, pC]
            refine tkY 21 rgTr21 (v := ?_) rfl bd ?_ ?_
            rotate_left
            · intro w hSw
              have f1 := (hSw.cell (p := ⟨g, k * 2, none⟩) lt1).trans c0
              have f2 := (hSw.cell (p := ⟨g, k * 2 + 1, none⟩) lt1).trans c1
              have f3 := (hSw.cell (p := ⟨g', k * 2, none⟩) lt2).trans c0'
              have f4 := (hSw.cell (p := ⟨g', k * 2 + 1, none⟩) lt2).trans c1'
              simp only [rgTr21]; go_simp
              try with_reducible rfl
            try simp only [rgTr21, Act.put, pA, pB, pC]
            refine wpAnyH_ready (rs := [22]) (by kernel_rfl) (by simp) ?_
            refine AllReadyH.cons (o := rgTr22) rfl (fun K hK => ?_) AllReadyH.nil
            simp only [rgTr22]; go_simp
            refine (ZB.out _ bd).mono ?_
            rintro e V1 ⟨rfl, d1⟩
            have b1 : Below W.heap.size W V1 := bd.trans (d1.mono bd.size)
            go_wp2_with (fail)
            refine hK.out _ _ b1 (fun hHeld => ?_)
            clear hK K hHeld
            try simp only [rgTr22, Act.put, pA, pB, pC]
            refine tkY 23 rgTr23 (v := ?_) rfl b1 ?_ ?_
            rotate_left
            · intro w hSw
              simp only [rgTr23]; go_simp
              try with_reducible rfl
            try simp only [rgTr23, Act.put, pA, pB, pC]
            refine tkY 24 rgTr24 (v := ?_) rfl b1 ?_ ?_
            rotate_left
            · intro w hSw
              simp only [rgTr24]; go_simp
              try with_reducible rfl
            try simp only [rgTr24, Act.put, pA, pB, pC]
            refine wpAnyH_done (by kernel_rfl) ?_ _
            have HB3 := Lib.hid (HB.out.trans (b1.mono HB.out.size))
            clear c0 c1 c0' c1' lt1 lt2 bd ZB
            go_wp2
            go_ret
            exact ⟨by rw [E.out]; try rfl, HB3.out⟩
          | true =>
            have HE2 : Hid (∀ j, j < k + 1 → itAt s j = itAt t j) := Lib.hid (fun i hi => by
              by_cases e : i = k
              · subst e
                have e1 := sameL_iff.1 HSB.out
                have e2 : (itAt s i).j = (itAt t i).j := by rw [HJ1.out, HJ2.out]; exact hj
                generalize itAt s i = X at e1 e2 ⊢
                generalize itAt t i = Y at e1 e2 ⊢
                cases X; cases Y
                simp only at e1 e2
                rw [e1, e2]
              · exact HE.out i (by omega))
            refine wp_region_held_drew (S := fun w' => Below W.heap.size W w') (by kernel_rfl) bd (fun hHeld => ?_)
            clear hHeld
            refine tkY 0 rgTr0 (v := ?_) rfl bd ?_ ?_
            rotate_left
            · intro w hSw
              simp only [rgTr0]; go_simp
              try with_reducible rfl
            try simp only [rgTr0, Act.put, pA, pB, pC]
            refine tkY 1 rgTr1 (v := ?_) rfl bd ?_ ?_
            rotate_left
            · intro w hSw
              simp only [rgTr1]; go_simp
              try with_reducible rfl
            try simp only [rgTr1, Act.put, pA, pB, pC]
            refine tkY 2 rgTr2 (v := ?_) rfl bd ?_ ?_
            rotate_left
            · intro w hSw
              simp only [rgTr2]; go_simp
              try with_reducible rfl
            try simp only [rgTr2, Act.put, pA, pB, pC]
            refine tkY 3 rgTr3 (v := ?_) rfl bd ?_ ?_
            rotate_left
            · intro w hSw
              simp only [rgTr3]; go_simp
              try with_reducible rfl
            try simp only [rgTr3, Act.put, pA, pB, pC]
            refine tkY 4 rgTr4 (v := ?_) rfl bd ?_ ?_
            rotate_left
            · intro w hSw
              have f1 := (hSw.cell (p := ⟨g, k * 2, none⟩) lt1).trans c0
              have f2 := (hSw.cell (p := ⟨g, k * 2 + 1, none⟩) lt1).trans c1
              have f3 := (hSw.cell (p := ⟨g', k * 2, none⟩) lt2).trans c0'
              have f4 := (hSw.cell (p := ⟨g', k * 2 + 1, none⟩) lt2).trans c1'
              simp only [rgTr4]; go_simp
              try with_reducible rfl
            try simp only [rgTr4, Act.put, pA, pB, pC]
            refine tkY 5 rgTr5 (v := ?_) rfl bd ?_ ?_
            rotate_left
            · intro w hSw
              simp only [rgTr5]; go_simp
              try with_reducible rfl
            try simp only [rgTr5, Act.put, pA, pB, pC]
            refine tkY 6 rgTr6 (v := ?_) rfl bd ?_ ?_
            rotate_left
            · intro w hSw
              simp only [rgTr6]; go_simp
              try with_reducible rfl
            try simp only [rgTr6, Act.put, pA, pB, pC]
            refine tkY 7 rgTr7 (v := ?_) rfl bd ?_ ?_
            rotate_left
            · intro w hSw
              simp only [rgTr7]; go_simp
              try with_reducible rfl
            try simp only [rgTr7, Act.put, pA, pB, pC]
            refine tkY 8 rgTr8 (v := ?_) rfl bd ?_ ?_
            rotate_left
            · intro w hSw
              simp only [rgTr8]; go_simp
              try with_reducible rfl
            try simp only [rgTr8, Act.put, pA, pB, pC]
            refine tkY 9 rgTr9 (v := ?_) rfl bd ?_ ?_
            rotate_left
            · intro w hSw
              have f1 := (hSw.cell (p := ⟨g, k * 2, none⟩) lt1).trans c0
              have f2 := (hSw.cell (p := ⟨g, k * 2 + 1, none⟩) lt1).trans c1
              have f3 := (hSw.cell (p := ⟨g', k * 2, none⟩) lt2).trans c0'
              have f4 := (hSw.cell (p := ⟨g', k * 2 + 1, none⟩) lt2).trans c1'
              simp only [rgTr9]; go_simp
              try with_reducible rfl
            try simp only [rgTr9, Act.put, pA, pB, pC]
            refine tkY 10 rgTr10 (v := ?_) rfl bd ?_ ?_
            rotate_left
            · intro w hSw
              simp only [rgTr10]; go_simp
              try with_reducible rfl
            try simp only [rgTr10, Act.put, pA, pB, pC]
            refine tkY 11 rgTr11 (v := ?_) rfl bd ?_ ?_
            rotate_left
            · intro w hSw
              simp only [rgTr11]; go_simp
              try with_reducible rfl
            try simp only [rgTr11, Act.put, pA, pB, pC]
            refine tkY 12 rgTr12 (v := ?_) rfl bd ?_ ?_
            rotate_left
            · intro w hSw
              simp only [rgTr12]; go_simp
              try with_reducible rfl
            try simp only [rgTr12, Act.put, pA, pB, pC]
            refine tkY 13 rgTr13 (v := ?_) rfl bd ?_ ?_
            rotate_left
            · intro w hSw
              simp only [rgTr13]; go_simp
              try with_reducible rfl
            try simp only [rgTr13, Act.put, pA, pB, pC]
            refine tkY 14 rgTr14 (v := ?_) rfl bd ?_ ?_
            rotate_left
            · intro w hSw
              simp only [rgTr14]; go_simp
              try with_reducible rfl
            try simp only [rgTr14, Act.put, pA, pB, pC]
            refine tkY 15 rgTr15 (v := ?_) rfl bd ?_ ?_
            rotate_left
            · intro w hSw
              simp only [rgTr15]; go_simp
              try with_reducible rfl
            try simp only [rgTr15, Act.put, pA, pB, pC]
            refine tkY 16 rgTr16 (v := ?_) rfl bd ?_ ?_
            rotate_left
            · intro w hSw
              have f1 := (hSw.cell (p := ⟨g, k * 2, none⟩) lt1).trans c0
              have f2 := (hSw.cell (p := ⟨g, k * 2 + 1, none⟩) lt1).trans c1
              have f3 := (hSw.cell (p := ⟨g', k * 2, none⟩) lt2).trans c0'
              have f4 := (hSw.cell (p := ⟨g', k * 2 + 1, none⟩) lt2).trans c1'
              simp only [rgTr16]; go_simp
              try with_reducible rfl
            try simp only [rgTr16, Act.put, pA, pB, pC]
            refine tkY 17 rgTr17 (v := ?_) rfl bd ?_ ?_
            rotate_left
            · intro w hSw
              simp only [rgTr17]; go_simp
              try with_reducible rfl
            try simp only [rgTr17, Act.put, pA, pB, pC]
            refine tkY 18 rgTr18 (v := ?_) rfl bd ?_ ?_
            rotate_left
            · intro w hSw
              simp only [rgTr18]; go_simp
              try with_reducible rfl
            try simp only [rgTr18, Act.put, pA, pB, pC]
            refine tkY 19 rgTr19 (v := ?_) rfl bd ?_ ?_
            rotate_left
            · intro w hSw
              simp only [rgTr19]; go_simp
              try with_reducible rfl
            try simp only [rgTr19, Act.put, pA, pB, pC]
            refine tkY 20 rgTr20 (v := ?_) rfl bd ?_ ?_
            rotate_left
            · intro w hSw
              simp only [rgTr20]; go_simp
              try with_reducible rfl
            try simp only [rgTr20, Act.put, pA, pB, pC]
            refine tkY 21 rgTr21 (v := ?_) rfl bd ?_ ?_
            rotate_left
            · intro w hSw
              have f1 := (hSw.cell (p := ⟨g, k * 2, none⟩) lt1).trans c0
              have f2 := (hSw.cell (p := ⟨g, k * 2 + 1, none⟩) lt1).trans c1
              have f3 := (hSw.cell (p := ⟨g', k * 2, none⟩) lt2).trans c0'
              have f4 := (hSw.cell (p := ⟨g', k * 2 + 1, none⟩) lt2).trans c1'
              simp only [rgTr21]; go_simp
              try with_reducible rfl
            try simp only [rgTr21, Act.put, pA, pB, pC]
            refine wpAnyH_ready (rs := [22]) (by kernel_rfl) (by simp) ?_
            refine AllReadyH.cons (o := rgTr22) rfl (fun K hK => ?_) AllReadyH.nil
            simp only [rgTr22]; go_simp
            refine (ZB.out _ bd).mono ?_
            rintro e V1 ⟨rfl, d1⟩
            have b1 : Below W.heap.size W V1 := bd.trans (d1.mono bd.size)
            go_wp2_with (fail)
            refine hK.out _ _ b1 (fun hHeld => ?_)
            clear hK K hHeld
            try simp only [rgTr22, Act.put, pA, pB, pC]
            refine tkY 23 rgTr23 (v := ?_) rfl b1 ?_ ?_
            rotate_left
            · intro w hSw
              simp only [rgTr23]; go_simp
              try with_reducible rfl
            try simp only [rgTr23, Act.put, pA, pB, pC]
            refine tkY 24 rgTr24 (v := ?_) rfl b1 ?_ ?_
            rotate_left
            · intro w hSw
              simp only [rgTr24]; go_simp
              try with_reducible rfl
            try simp only [rgTr24, Act.put, pA, pB, pC]
            refine wpAnyH_done (by kernel_rfl) ?_ _
            have HB3 := Lib.hid (HB.out.trans (b1.mono HB.out.size))
            clear c0 c1 c0' c1' lt1 lt2 bd ZB
            go_wp2
            go_roundw
            case rel => exact ⟨k + 1, by omega, rfl, by go_num, HB3, HE2⟩
            case measure => simp [intOf]; omega
        · have hjb : (j1 != j2) = true := by simp [hj]
          have E : Hid (decide (s = t) = false) := Lib.hid (by
            simp only [decide_eq_false_iff_not]
            rintro rfl
            exact hj (HJ1.out.symm.trans HJ2.out))
          refine wp_region_held_drew (S := fun w' => Below W.heap.size W w') (by kernel_rfl) bd (fun hHeld => ?_)
          clear hHeld
          refine tkY 0 rgTr0 (v := ?_) rfl bd ?_ ?_
          rotate_left
          · intro w hSw
            simp only [rgTr0]; go_simp
            try with_reducible rfl
          try simp only [rgTr0, Act.put, pA, pB, pC]
          refine tkY 1 rgTr1 (v := ?_) rfl bd ?_ ?_
          rotate_left
          · intro w hSw
            simp only [rgTr1]; go_simp
            try with_reducible rfl
          try simp only [rgTr1, Act.put, pA, pB, pC]
          refine tkY 2 rgTr2 (v := ?_) rfl bd ?_ ?_
          rotate_left
          · intro w hSw
            simp only [rgTr2]; go_simp
            try with_reducible rfl
          try simp only [rgTr2, Act.put, pA, pB, pC]
          refine tkY 3 rgTr3 (v := ?_) rfl bd ?_ ?_
          rotate_left
          · intro w hSw
            simp only [rgTr3]; go_simp
            try with_reducible rfl
          try simp only [rgTr3, Act.put, pA, pB, pC]
          refine tkY 4 rgTr4 (v := ?_) rfl bd ?_ ?_
          rotate_left
          · intro w hSw
            have f1 := (hSw.cell (p := ⟨g, k * 2, none⟩) lt1).trans c0
            have f2 := (hSw.cell (p := ⟨g, k * 2 + 1, none⟩) lt1).trans c1
            have f3 := (hSw.cell (p := ⟨g', k * 2, none⟩) lt2).trans c0'
            have f4 := (hSw.cell (p := ⟨g', k * 2 + 1, none⟩) lt2).trans c1'
            simp only [rgTr4]; go_simp
            try with_reducible rfl
          try simp only [rgTr4, Act.put, pA, pB, pC]
          refine tkY 5 rgTr5 (v := ?_) rfl bd ?_ ?_
          rotate_left
          · intro w hSw
            simp only [rgTr5]; go_simp
            try with_reducible rfl
          try simp only [rgTr5, Act.put, pA, pB, pC]
          refine tkY 6 rgTr6 (v := ?_) rfl bd ?_ ?_
          rotate_left
          · intro w hSw
            simp only [rgTr6]; go_simp
            try with_reducible rfl
          try simp only [rgTr6, Act.put, pA, pB, pC]
          refine tkY 7 rgTr7 (v := ?_) rfl bd ?_ ?_
          rotate_left
          · intro w hSw
            simp only [rgTr7]; go_simp
            try with_reducible rfl
          try simp only [rgTr7, Act.put, pA, pB, pC]
          refine tkY 8 rgTr8 (v := ?_) rfl bd ?_ ?_
          rotate_left
          · intro w hSw
            simp only [rgTr8]; go_simp
            try with_reducible rfl
          try simp only [rgTr8, Act.put, pA, pB, pC]
          refine tkY 9 rgTr9 (v := ?_) rfl bd ?_ ?_
          rotate_left
          · intro w hSw
            have f1 := (hSw.cell (p := ⟨g, k * 2, none⟩) lt1).trans c0
            have f2 := (hSw.cell (p := ⟨g, k * 2 + 1, none⟩) lt1).trans c1
            have f3 := (hSw.cell (p := ⟨g', k * 2, none⟩) lt2).trans c0'
            have f4 := (hSw.cell (p := ⟨g', k * 2 + 1, none⟩) lt2).trans c1'
            simp only [rgTr9]; go_simp
            try with_reducible rfl
          try simp only [rgTr9, Act.put, pA, pB, pC]
          refine tkY 10 rgTr10 (v := ?_) rfl bd ?_ ?_
          rotate_left
          · intro w hSw
            simp only [rgTr10]; go_simp
            try with_reducible rfl
          try simp only [rgTr10, Act.put, pA, pB, pC]
          refine tkY 11 rgTr11 (v := ?_) rfl bd ?_ ?_
          rotate_left
          · intro w hSw
            simp only [rgTr11]; go_simp
            try with_reducible rfl
          try simp only [rgTr11, Act.put, pA, pB, pC]
          refine tkN 12 rgTr12 rfl bd ?_
          try simp only [rgTr12, Act.put, pA, pB, pC]
          refine tkN 13 rgTr13 rfl bd ?_
          try simp only [rgTr13, Act.put, pA, pB, pC]
          refine tkN 14 rgTr14 rfl bd ?_
          try simp only [rgTr14, Act.put, pA, pB, pC]
          refine tkN 15 rgTr15 rfl bd ?_
          try simp only [rgTr15, Act.put, pA, pB, pC]
          refine tkN 16 rgTr16 rfl bd ?_
          try simp only [rgTr16, Act.put, pA, pB, pC]
          refine tkN 17 rgTr17 rfl bd ?_
          try simp only [rgTr17, Act.put, pA, pB, pC]
          refine tkN 18 rgTr18 rfl bd ?_
          try simp only [rgTr18, Act.put, pA, pB, pC]
          refine tkN 19 rgTr19 rfl bd ?_
          try simp only [rgTr19, Act.put, pA, pB, pC]
          refine tkN 20 rgTr20 rfl bd ?_
          try simp only [rgTr20, Act.put, pA, pB, pC]
          refine tkN 21 rgTr21 rfl bd ?_
          try simp only [rgTr21, Act.put, pA, pB, pC]
          refine tkN 22 rgTr22 rfl bd ?_
          try simp only [rgTr22, Act.put, pA, pB, pC]
          refine tkN 23 rgTr23 rfl bd ?_
          try simp only [rgTr23, Act.put, pA, pB, pC]
          refine tkY 24 rgTr24 (v := ?_) rfl bd ?_ ?_
          rotate_left
          · intro w hSw
            simp only [rgTr24]; go_simp
            try with_reducible rfl
          try simp only [rgTr24, Act.put, pA, pB, pC]
          refine wpAnyH_done (by kernel_rfl) ?_ _
          have HB3 := Lib.hid (HB.out.trans (bd.mono HB.out.size))
          clear c0 c1 c0' c1' lt1 lt2 bd ZB
          go_wp2
          go_ret
          exact ⟨by rw [E.out]; try rfl, HB3.out⟩
      · have E : Hid (decide (s = t) = true) := Lib.hid (by
          simp only [decide_eq_true_eq]
          exact its_ext (by rw [HN.out, HM.out]) (fun j hj => HE.out j (by rw [HN.out] at hj; omega)))
        go_wp2
        go_ret
        exact ⟨by rw [E.out]; try rfl, HB.out⟩
  · have E : Hid (decide (s = t) = false) := Lib.hid (by
      simp only [decide_eq_false_iff_not]
      rintro rfl
      exact hl (HN.out.symm.trans HM.out))
    have hb0 : ((n : Int) != (m : Int)) = true := by simp; omega
    go_enter Try.func16, Try.ntmps16
    go_wp2
    go_ret
    exact ⟨by rw [E.out]; try rfl, Below.refl _ _⟩
/-- Is a ahead of b? -/
theorem lessItem_any (a b : Option Addr) (c d n m : Nat) (x y : It) (w : World) (hn : x.c.length = n) (hm : y.c.length = m) (R : Bag w a c x.c) (S : Bag w b d y.c) :
    Calls Try.prog 48 #[.agg #[.int .i64 x.j, .slice a n c], .agg #[.int .i64 y.j, .slice b m d]] w (TellsB (ltI x y) w) := by
  have b1 := below_alloc w (.cells #[.int .i64 x.j, .slice a n c] 75)
  have b2 := below_alloc (w.alloc (.cells #[.int .i64 x.j, .slice a n c] 75)) (.cells #[.int .i64 y.j, .slice b m d] 75)
  have HB := Lib.hid (b1.trans (b2.mono b1.size))
  have HX : Hid (Lies ((w.alloc (.cells #[.int .i64 x.j, .slice a n c] 75)).alloc (.cells #[.int .i64 y.j, .slice b m d] 75)) w.heap.size 75 [.int .i64 x.j, .slice a n c]) := Lib.hid ((Lies.new w 75 [.int .i64 x.j, .slice a n c]).alloc _)
  have HY : Hid (Lies ((w.alloc (.cells #[.int .i64 x.j, .slice a n c] 75)).alloc (.cells #[.int .i64 y.j, .slice b m d] 75)) (w.heap.size + 1) 75 [.int .i64 y.j, .slice b m d]) := Lib.hid (by
    have := Lies.new (w.alloc (.cells #[.int .i64 x.j, .slice a n c] 75)) 75 [.int .i64 y.j, .slice b m d]
    simpa using this)
  have HZ : Hid (∀ V, Below w.heap.size w V → Calls Try.prog 77 #[.slice a n c, .slice b m d] V (Tells (cmpL x.c y.c) V)) := Lib.hid (fun V h => by
    have Z := cmp22 a b c d x.c y.c V (R.below h) (S.below h)
    rwa [hn, hm] at Z)
  have HE : Hid (ltI x y = (decide (x.j < y.j) || (decide (x.j = y.j) && decide (cmpL x.c y.c < 0)))) := Lib.hid rfl
  clear R S hn hm b1 b2
  generalize x.j = j1 at *
  generalize y.j = j2 at *
  generalize cmpL x.c y.c = z at *
  go_enter Try.func48, Try.ntmps48
  go_upto_region 1 with (fail)
  have HZ2 := Lib.hid (HZ.out _ HB.out)
  generalize (w.alloc (.cells #[.int .i64 j1, .slice a n c] 75)).alloc (.cells #[.int .i64 j2, .slice b m d] 75) = W at HB HX HY HZ2 ⊢
  generalize hg : w.heap.size = gb at HX HY ⊢
  have HG := Lib.hid hg
  clear hg HZ
  have x0 : W.cell? ⟨gb, 0, none⟩ = some (.int .i64 j1) := HX.out.cell 0
  have x1 : W.cell? ⟨gb, 1, none⟩ = some (.slice a n c) := HX.out.cell 1
  have y0 : W.cell? ⟨gb + 1, 0, none⟩ = some (.int .i64 j2) := HY.out.cell 0
  have y1 : W.cell? ⟨gb + 1, 1, none⟩ = some (.slice b m d) := HY.out.cell 1
  by_cases h1 : j1 < j2
  · have E : Hid (ltI x y = true) := Lib.hid (by rw [HE.out]; simp [h1])
    go_wp2
    go_ret
    exact ⟨by rw [E.out]; try rfl, HB.out⟩
  · by_cases h2 : j1 = j2
    · have h2b : (j1 == j2) = true := by simp [h2]
      by_cases h3 : z < 0
      · have E : Hid (ltI x y = true) := Lib.hid (by rw [HE.out]; simp [h2, h3])
        go_wp2_with (fail)
        refine HZ2.out.mono ?_
        rintro e w3 ⟨rfl, b3⟩
        have HB3 := Lib.hid (HB.out.trans (b3.mono HB.out.size))
        clear b3 x0 x1 y0 y1
        go_wp2
        go_ret
        exact ⟨by rw [E.out]; try rfl, HB3.out⟩
      · have E : Hid (ltI x y = false) := Lib.hid (by rw [HE.out]; simp [h1, h3])
        have h3b : decide (z < 0) = false := by simpa using h3
        go_wp2_with (fail)
        refine HZ2.out.mono ?_
        rintro e w3 ⟨rfl, b3⟩
        have HB3 := Lib.hid (HB.out.trans (b3.mono HB.out.size))
        clear b3 x0 x1 y0 y1
        go_wp2
        go_ret
        exact ⟨by rw [E.out]; try rfl, HB3.out⟩
    · have h2b : (j1 == j2) = false := by simp [h2]
      have E : Hid (ltI x y = false) := Lib.hid (by rw [HE.out]; simp [h1, h2])
      go_wp2
      go_ret
      exact ⟨by rw [E.out]; try rfl, HB.out⟩
set_option maxRecDepth 100000 in
set_option maxHeartbeats 4000000 in
theorem rightItems_any (sa a : Option Addr) (sc c : Nat) (s : List Lin) (l : List It) (w : World) (R0 : Lins w sa sc s) (R : Its w a c l) :
    Calls Try.prog 19 #[.slice sa s.length sc, .slice a l.length c] w (TellsB (rightItems s l) w) := by
  have hle := R.le
  have hle0 := R0.le
  have Z := rightSemi_any sa sc s w R0
  have HIF := Lib.hid (rightItems_iff (s := s) (l := l))
  generalize hn : l.length = n at hle HIF ⊢
  generalize hm : s.length = m at hle0 Z HIF ⊢
  have HN := Lib.hid hn
  have HM := Lib.hid hm
  have HR := Lib.hid R
  generalize hv : rightS s = v at Z HIF
  have HZ := Lib.hid Z
  clear R R0 hn hm Z hv
  go_enter Try.func19, Try.ntmps19
  go_wp2_with (fail)
  refine HZ.out.mono ?_
  rintro e w1 ⟨rfl, b1⟩
  have HB := Lib.hid b1
  clear b1 HZ
  cases v with
  | false =>
    have E : Hid (rightItems s l = false) := Lib.hid (by rw [← Bool.not_eq_true, HIF.out]; exact fun h => Bool.false_ne_true h.1)
    go_wp2
    go_ret
    exact ⟨by rw [E.out]; try rfl, HB.out⟩
  | true =>
    go_wp2
    go_loopw [4, 12] (fun r i wr => ∃ k : Nat, k ≤ n ∧ r = .bool false ∧ i = .int .i64 k ∧ Hid (Below w.heap.size w wr) ∧ Hid (∀ j, j < k → 0 ≤ (itAt l j).j ∧ (itAt l j).j < (m : Int)) ∧ Hid (UpI l k)) (fun _ i _ => n - (intOf i).toNat)
    case atStart => exact ⟨0, Nat.zero_le _, rfl, rfl, HB, Lib.hid (fun j h => by omega), Lib.hid (fun j h => by omega)⟩
    case round =>
      clear HB
      obtain ⟨k, hk, rfl, rfl, HB, HJ, HE⟩ := hrel
      by_cases hlt : k < n
      · have HRW := Lib.hid (HR.out.below HB.out)
        obtain ⟨g, b, d, e1, c0, c1, B1⟩ := HRW.out.at (k := k) (by rw [HN.out]; exact hlt)
        have hbl := B1.le
        generalize hu : (itAt l k).c.length = u at c1 hbl
        have HU := Lib.hid hu
        clear hu
        generalize hj : (itAt l k).j = j at c0
        have HJV := Lib.hid hj
        clear hj
        have bb := below_alloc wr (.cells #[.int .i64 j, .slice b u d] 75)
        have HB2 := Lib.hid (HB.out.trans (bb.mono HB.out.size))
        have HL := Lib.hid (Lies.new wr 75 [.int .i64 j, .slice b u d])
        have HRW2 := Lib.hid (HRW.out.below bb)
        have HX := Lib.hid (B1.below bb)
        clear B1 bb
        subst e1
        go_upto_region 6 with (fail)
        clear c0 c1
        generalize wr.alloc (.cells #[.int .i64 j, .slice b u d] 75) = W at HB2 HL HRW2 HX ⊢
        generalize wr.heap.size = gb at HL ⊢
        clear HB HRW
        have HB := HB2
        clear HB2
        have k0 := HL.out.cell 0
        have k1 := HL.out.cell 1
        simp only [List.getElem?_cons_zero, List.getElem?_cons_succ] at k0 k1
        have ltb := HL.out.lt
        have ltg := HRW2.out.lt rfl
        have bd : Below W.heap.size W W.drew := ⟨rfl, rfl, rfl, Nat.le_refl _, fun _ _ => rfl⟩
        have ZR : Hid (∀ V, Below W.heap.size W V → Calls Try.prog 47 #[.slice b u d] V (TellsB (rightL (itAt l k).c) V)) := Lib.hid (fun V h => by
          have Z := right17 b d (itAt l k).c V (HX.out.below h)
          rw [HU.out] at Z
          exact Z.mono (fun e w' h => by obtain ⟨h1, h2⟩ := h; subst h2; exact ⟨h1, Below.refl _ _⟩))
        generalize hv : rightL (itAt l k).c = v at ZR
        have HV := Lib.hid hv
        clear hv
        have hbad : ¬ (0 ≤ j ∧ j < (m : Int) ∧ v = true ∧ (0 < k → ltI (itAt l (k - 1)) (itAt l k) = true)) → Hid (rightItems s l = false) := fun h => Lib.hid (by
          rw [← Bool.not_eq_true, HIF.out]
          rintro ⟨_, h2, h3⟩
          have a1 := h2 k hlt
          have a2 := h3 k hlt
          rw [HJV.out] at a1
          refine h ⟨a1.1, a1.2, ?_, fun h0 => ?_⟩
          · rw [← HV.out]; exact a2.1
          · exact (ltI_iff (h3 (k - 1) (by omega)).1 a2.1).2 (a2.2 h0))
        by_cases hj0 : j < 0
        · have E := hbad (by omega)
          have hj0b : decide (j < 0) = true := by simpa using hj0
          clear hbad
          refine wp_region_held_drew (S := fun w' => Below W.heap.size W w') (by kernel_rfl) bd (fun hHeld => ?_)
          clear hHeld
          refine tkY 0 rgTr25 (v := ?_) rfl bd ?_ ?_
          rotate_left
          · intro w hSw
            simp only [rgTr25]; go_simp
            try with_reducible rfl
          try simp only [rgTr25, Act.put, pA, pB, pC]
          refine tkY 1 rgTr26 (v := ?_) rfl bd ?_ ?_
          rotate_left
          · intro w hSw
            have f1 := (hSw.cell (p := ⟨gb, 0, none⟩) ltb).trans k0
            have f2 := (hSw.cell (p := ⟨gb, 1, none⟩) ltb).trans k1
            simp only [rgTr26]; go_simp
            try with_reducible rfl
          try simp only [rgTr26, Act.put, pA, pB, pC]
          refine tkY 2 rgTr27 (v := ?_) rfl bd ?_ ?_
          rotate_left
          · intro w hSw
            simp only [rgTr27]; go_simp
            try with_reducible rfl
          try simp only [rgTr27, Act.put, pA, pB, pC]
          refine tkY 3 rgTr28 (v := ?_) rfl bd ?_ ?_
          rotate_left
          · intro w hSw
            simp only [rgTr28]; go_simp
            try with_reducible rfl
          try simp only [rgTr28, Act.put, pA, pB, pC]
          refine tkN 4 rgTr29 rfl bd ?_
          try simp only [rgTr29, Act.put, pA, pB, pC]
          refine tkN 5 rgTr30 rfl bd ?_
          try simp only [rgTr30, Act.put, pA, pB, pC]
          refine tkN 6 rgTr31 rfl bd ?_
          try simp only [rgTr31, Act.put, pA, pB, pC]
          refine tkN 7 rgTr32 rfl bd ?_
          try simp only [rgTr32, Act.put, pA, pB, pC]
          refine tkN 8 rgTr33 rfl bd ?_
          try simp only [rgTr33, Act.put, pA, pB, pC]
          refine tkY 9 rgTr34 (v := ?_) rfl bd ?_ ?_
          rotate_left
          · intro w hSw
            simp only [rgTr34]; go_simp
            try with_reducible rfl
          try simp only [rgTr34, Act.put, pA, pB, pC]
          refine tkY 10 rgTr35 (v := ?_) rfl bd ?_ ?_
          rotate_left
          · intro w hSw
            simp only [rgTr35]; go_simp
            try with_reducible rfl
          try simp only [rgTr35, Act.put, pA, pB, pC]
          refine tkN 11 rgTr36 rfl bd ?_
          try simp only [rgTr36, Act.put, pA, pB, pC]
          refine tkN 12 rgTr37 rfl bd ?_
          try simp only [rgTr37, Act.put, pA, pB, pC]
          refine tkN 13 rgTr38 rfl bd ?_
          try simp only [rgTr38, Act.put, pA, pB, pC]
          refine tkN 14 rgTr39 rfl bd ?_
          try simp only [rgTr39, Act.put, pA, pB, pC]
          refine tkY 15 rgTr40 (v := ?_) rfl bd ?_ ?_
          rotate_left
          · intro w hSw
            simp only [rgTr40]; go_simp
            try with_reducible rfl
          try simp only [rgTr40, Act.put, pA, pB, pC]
          refine tkY 16 rgTr41 (v := ?_) rfl bd ?_ ?_
          rotate_left
          · intro w hSw
            simp only [rgTr41]; go_simp
            try with_reducible rfl
          try simp only [rgTr41, Act.put, pA, pB, pC]
          refine tkN 17 rgTr42 rfl bd ?_
          try simp only [rgTr42, Act.put, pA, pB, pC]
          refine tkN 18 rgTr43 rfl bd ?_
          try simp only [rgTr43, Act.put, pA, pB, pC]
          refine tkN 19 rgTr44 rfl bd ?_
          try simp only [rgTr44, Act.put, pA, pB, pC]
          refine tkN 20 rgTr45 rfl bd ?_
          try simp only [rgTr45, Act.put, pA, pB, pC]
          refine tkN 21 rgTr46 rfl bd ?_
          try simp only [rgTr46, Act.put, pA, pB, pC]
          refine tkN 22 rgTr47 rfl bd ?_
          try simp only [rgTr47, Act.put, pA, pB, pC]
          refine tkN 23 rgTr48 rfl bd ?_
          try simp only [rgTr48, Act.put, pA, pB, pC]
          refine tkN 24 rgTr49 rfl bd ?_
          try simp only [rgTr49, Act.put, pA, pB, pC]
          refine tkN 25 rgTr50 rfl bd ?_
          try simp only [rgTr50, Act.put, pA, pB, pC]
          refine tkN 26 rgTr51 rfl bd ?_
          try simp only [rgTr51, Act.put, pA, pB, pC]
          refine tkN 27 rgTr52 rfl bd ?_
          try simp only [rgTr52, Act.put, pA, pB, pC]
          refine tkN 28 rgTr53 rfl bd ?_
          try simp only [rgTr53, Act.put, pA, pB, pC]
          refine tkY 29 rgTr54 (v := ?_) rfl bd ?_ ?_
          rotate_left
          · intro w hSw
            simp only [rgTr54]; go_simp
            try with_reducible rfl
          try simp only [rgTr54, Act.put, pA, pB, pC]
          refine wpAnyH_done (by kernel_rfl) ?_ _
          have HB3 := Lib.hid (HB.out.trans (bd.mono HB.out.size))
          clear ltb ltg bd ZR k0 k1
          go_wp2
          go_ret
          exact ⟨by rw [E.out]; try rfl, HB3.out⟩
        · have hj0b : decide (j < 0) = false := by simpa using hj0
          by_cases hjm : (m : Int) ≤ j
          · have E := hbad (by omega)
            have hjmb : decide ((m : Int) ≤ j) = true := by simpa using hjm
            clear hbad
            refine wp_region_held_drew (S := fun w' => Below W.heap.size W w') (by kernel_rfl) bd (fun hHeld => ?_)
            clear hHeld
            refine tkY 0 rgTr25 (v := ?_) rfl bd ?_ ?_
            rotate_left
            · intro w hSw
              simp only [rgTr25]; go_simp
              try with_reducible rfl
            try simp only [rgTr25, Act.put, pA, pB, pC]
            refine tkY 1 rgTr26 (v := ?_) rfl bd ?_ ?_
            rotate_left
            · intro w hSw
              have f1 := (hSw.cell (p := ⟨gb, 0, none⟩) ltb).trans k0
              have f2 := (hSw.cell (p := ⟨gb, 1, none⟩) ltb).trans k1
              simp only [rgTr26]; go_simp
              try with_reducible rfl
            try simp only [rgTr26, Act.put, pA, pB, pC]
            refine tkY 2 rgTr27 (v := ?_) rfl bd ?_ ?_
            rotate_left
            · intro w hSw
              simp only [rgTr27]; go_simp
              try with_reducible rfl
            try simp only [rgTr27, Act.put, pA, pB, pC]
            refine tkY 3 rgTr28 (v := ?_) rfl bd ?_ ?_
            rotate_left
            · intro w hSw
              simp only [rgTr28]; go_simp
              try with_reducible rfl
            try simp only [rgTr28, Act.put, pA, pB, pC]
            refine tkY 4 rgTr29 (v := ?_) rfl bd ?_ ?_
            rotate_left
            · intro w hSw
              simp only [rgTr29]; go_simp
              try with_reducible rfl
            try simp only [rgTr29, Act.put, pA, pB, pC]
            refine tkY 5 rgTr30 (v := ?_) rfl bd ?_ ?_
            rotate_left
            · intro w hSw
              have f1 := (hSw.cell (p := ⟨gb, 0, none⟩) ltb).trans k0
              have f2 := (hSw.cell (p := ⟨gb, 1, none⟩) ltb).trans k1
              simp only [rgTr30]; go_simp
              try with_reducible rfl
            try simp only [rgTr30, Act.put, pA, pB, pC]
            refine tkY 6 rgTr31 (v := ?_) rfl bd ?_ ?_
            rotate_left
            · intro w hSw
              simp only [rgTr31]; go_simp
              try with_reducible rfl
            try simp only [rgTr31, Act.put, pA, pB, pC]
            refine tkY 7 rgTr32 (v := ?_) rfl bd ?_ ?_
            rotate_left
            · intro w hSw
              simp only [rgTr32]; go_simp
              try with_reducible rfl
            try simp only [rgTr32, Act.put, pA, pB, pC]
            refine tkY 8 rgTr33 (v := ?_) rfl bd ?_ ?_
            rotate_left
            · intro w hSw
              simp only [rgTr33]; go_simp
              try with_reducible rfl
            try simp only [rgTr33, Act.put, pA, pB, pC]
            refine tkY 9 rgTr34 (v := ?_) rfl bd ?_ ?_
            rotate_left
            · intro w hSw
              simp only [rgTr34]; go_simp
              try with_reducible rfl
            try simp only [rgTr34, Act.put, pA, pB, pC]
            refine tkY 10 rgTr35 (v := ?_) rfl bd ?_ ?_
            rotate_left
            · intro w hSw
              simp only [rgTr35]; go_simp
              try with_reducible rfl
            try simp only [rgTr35, Act.put, pA, pB, pC]
            refine tkN 11 rgTr36 rfl bd ?_
            try simp only [rgTr36, Act.put, pA, pB, pC]
            refine tkN 12 rgTr37 rfl bd ?_
            try simp only [rgTr37, Act.put, pA, pB, pC]
            refine tkN 13 rgTr38 rfl bd ?_
            try simp only [rgTr38, Act.put, pA, pB, pC]
            refine tkN 14 rgTr39 rfl bd ?_
            try simp only [rgTr39, Act.put, pA, pB, pC]
            refine tkY 15 rgTr40 (v := ?_) rfl bd ?_ ?_
            rotate_left
            · intro w hSw
              simp only [rgTr40]; go_simp
              try with_reducible rfl
            try simp only [rgTr40, Act.put, pA, pB, pC]
            refine tkY 16 rgTr41 (v := ?_) rfl bd ?_ ?_
            rotate_left
            · intro w hSw
              simp only [rgTr41]; go_simp
              try with_reducible rfl
            try simp only [rgTr41, Act.put, pA, pB, pC]
            refine tkN 17 rgTr42 rfl bd ?_
            try simp only [rgTr42, Act.put, pA, pB, pC]
            refine tkN 18 rgTr43 rfl bd ?_
            try simp only [rgTr43, Act.put, pA, pB, pC]
            refine tkN 19 rgTr44 rfl bd ?_
            try simp only [rgTr44, Act.put, pA, pB, pC]
            refine tkN 20 rgTr45 rfl bd ?_
            try simp only [rgTr45, Act.put, pA, pB, pC]
            refine tkN 21 rgTr46 rfl bd ?_
            try simp only [rgTr46, Act.put, pA, pB, pC]
            refine tkN 22 rgTr47 rfl bd ?_
            try simp only [rgTr47, Act.put, pA, pB, pC]
            refine tkN 23 rgTr48 rfl bd ?_
            try simp only [rgTr48, Act.put, pA, pB, pC]
            refine tkN 24 rgTr49 rfl bd ?_
            try simp only [rgTr49, Act.put, pA, pB, pC]
            refine tkN 25 rgTr50 rfl bd ?_
            try simp only [rgTr50, Act.put, pA, pB, pC]
            refine tkN 26 rgTr51 rfl bd ?_
            try simp only [rgTr51, Act.put, pA, pB, pC]
            refine tkN 27 rgTr52 rfl bd ?_
            try simp only [rgTr52, Act.put, pA, pB, pC]
            refine tkN 28 rgTr53 rfl bd ?_
            try simp only [rgTr53, Act.put, pA, pB, pC]
            refine tkY 29 rgTr54 (v := ?_) rfl bd ?_ ?_
            rotate_left
            · intro w hSw
              simp only [rgTr54]; go_simp
              try with_reducible rfl
            try simp only [rgTr54, Act.put, pA, pB, pC]
            refine wpAnyH_done (by kernel_rfl) ?_ _
            have HB3 := Lib.hid (HB.out.trans (bd.mono HB.out.size))
            clear ltb ltg bd ZR k0 k1
            go_wp2
            go_ret
            exact ⟨by rw [E.out]; try rfl, HB3.out⟩
          · have hjmb : decide ((m : Int) ≤ j) = false := by simpa using hjm
            have HJ2 : Hid (∀ i, i < k + 1 → 0 ≤ (itAt l i).j ∧ (itAt l i).j < (m : Int)) := Lib.hid (fun i hi => by
              by_cases e : i = k
              · rw [e, HJV.out]; omega
              · exact HJ.out i (by omega))
            cases v with
            | false =>
              have E := hbad (fun h => Bool.false_ne_true h.2.2.1)
              clear hbad
              refine wp_region_held_drew (S := fun w' => Below W.heap.size W w') (by kernel_rfl) bd (fun hHeld => ?_)
              clear hHeld
              refine tkY 0 rgTr25 (v := ?_) rfl bd ?_ ?_
              rotate_left
              · intro w hSw
                simp only [rgTr25]; go_simp
                try with_reducible rfl
              try simp only [rgTr25, Act.put, pA, pB, pC]
              refine tkY 1 rgTr26 (v := ?_) rfl bd ?_ ?_
              rotate_left
              · intro w hSw
                have f1 := (hSw.cell (p := ⟨gb, 0, none⟩) ltb).trans k0
                have f2 := (hSw.cell (p := ⟨gb, 1, none⟩) ltb).trans k1
                simp only [rgTr26]; go_simp
                try with_reducible rfl
              try simp only [rgTr26, Act.put, pA, pB, pC]
              refine tkY 2 rgTr27 (v := ?_) rfl bd ?_ ?_
              rotate_left
              · intro w hSw
                simp only [rgTr27]; go_simp
                try with_reducible rfl
              try simp only [rgTr27, Act.put, pA, pB, pC]
              refine tkY 3 rgTr28 (v := ?_) rfl bd ?_ ?_
              rotate_left
              · intro w hSw
                simp only [rgTr28]; go_simp
                try with_reducible rfl
              try simp only [rgTr28, Act.put, pA, pB, pC]
              refine tkY 4 rgTr29 (v := ?_) rfl bd ?_ ?_
              rotate_left
              · intro w hSw
                simp only [rgTr29]; go_simp
                try with_reducible rfl
              try simp only [rgTr29, Act.put, pA, pB, pC]
              refine tkY 5 rgTr30 (v := ?_) rfl bd ?_ ?_
              rotate_left
              · intro w hSw
                have f1 := (hSw.cell (p := ⟨gb, 0, none⟩) ltb).trans k0
                have f2 := (hSw.cell (p := ⟨gb, 1, none⟩) ltb).trans k1
                simp only [rgTr30]; go_simp
                try with_reducible rfl
              try simp only [rgTr30, Act.put, pA, pB, pC]
              refine tkY 6 rgTr31 (v := ?_) rfl bd ?_ ?_
              rotate_left
              · intro w hSw
                simp only [rgTr31]; go_simp
                try with_reducible rfl
              try simp only [rgTr31, Act.put, pA, pB, pC]
              refine tkY 7 rgTr32 (v := ?_) rfl bd ?_ ?_
              rotate_left
              · intro w hSw
                simp only [rgTr32]; go_simp
                try with_reducible rfl
              try simp only [rgTr32, Act.put, pA, pB, pC]
              refine tkY 8 rgTr33 (v := ?_) rfl bd ?_ ?_
              rotate_left
              · intro w hSw
                simp only [rgTr33]; go_simp
                try with_reducible rfl
              try simp only [rgTr33, Act.put, pA, pB, pC]
              refine tkY 9 rgTr34 (v := ?_) rfl bd ?_ ?_
              rotate_left
              · intro w hSw
                simp only [rgTr34]; go_simp
                try with_reducible rfl
              try simp only [rgTr34, Act.put, pA, pB, pC]
              refine tkY 10 rgTr35 (v := ?_) rfl bd ?_ ?_
              rotate_left
              · intro w hSw
                simp only [rgTr35]; go_simp
                try with_reducible rfl
              try simp only [rgTr35, Act.put, pA, pB, pC]
              refine tkY 11 rgTr36 (v := ?_) rfl bd ?_ ?_
              rotate_left
              · intro w hSw
                simp only [rgTr36]; go_simp
                try with_reducible rfl
              try simp only [rgTr36, Act.put, pA, pB, pC]
              refine tkY 12 rgTr37 (v := ?_) rfl bd ?_ ?_
              rotate_left
              · intro w hSw
                have f1 := (hSw.cell (p := ⟨gb, 0, none⟩) ltb).trans k0
                have f2 := (hSw.cell (p := ⟨gb, 1, none⟩) ltb).trans k1
                simp only [rgTr37]; go_simp
                try with_reducible rfl
              try simp only [rgTr37, Act.put, pA, pB, pC]
              refine wpAnyH_ready (rs := [13]) (by kernel_rfl) (by simp) ?_
              refine AllReadyH.cons (o := rgTr38) rfl (fun K hK => ?_) AllReadyH.nil
              simp only [rgTr38]; go_simp
              refine (ZR.out _ bd).mono ?_
              rintro e V1 ⟨rfl, d1⟩
              have b1 : Below W.heap.size W V1 := bd.trans (d1.mono bd.size)
              go_wp2_with (fail)
              refine hK.out _ _ b1 (fun hHeld => ?_)
              clear hK K hHeld
              try simp only [rgTr38, Act.put, pA, pB, pC]
              refine tkY 14 rgTr39 (v := ?_) rfl b1 ?_ ?_
              rotate_left
              · intro w hSw
                simp only [rgTr39]; go_simp
                try with_reducible rfl
              try simp only [rgTr39, Act.put, pA, pB, pC]
              refine tkY 15 rgTr40 (v := ?_) rfl b1 ?_ ?_
              rotate_left
              · intro w hSw
                simp only [rgTr40]; go_simp
                try with_reducible rfl
              try simp only [rgTr40, Act.put, pA, pB, pC]
              refine tkY 16 rgTr41 (v := ?_) rfl b1 ?_ ?_
              rotate_left
              · intro w hSw
                simp only [rgTr41]; go_simp
                try with_reducible rfl
              try simp only [rgTr41, Act.put, pA, pB, pC]
              refine tkN 17 rgTr42 rfl b1 ?_
              try simp only [rgTr42, Act.put, pA, pB, pC]
              refine tkN 18 rgTr43 rfl b1 ?_
              try simp only [rgTr43, Act.put, pA, pB, pC]
              refine tkN 19 rgTr44 rfl b1 ?_
              try simp only [rgTr44, Act.put, pA, pB, pC]
              refine tkN 20 rgTr45 rfl b1 ?_
              try simp only [rgTr45, Act.put, pA, pB, pC]
              refine tkN 21 rgTr46 rfl b1 ?_
              try simp only [rgTr46, Act.put, pA, pB, pC]
              refine tkN 22 rgTr47 rfl b1 ?_
              try simp only [rgTr47, Act.put, pA, pB, pC]
              refine tkN 23 rgTr48 rfl b1 ?_
              try simp only [rgTr48, Act.put, pA, pB, pC]
              refine tkN 24 rgTr49 rfl b1 ?_
              try simp only [rgTr49, Act.put, pA, pB, pC]
              refine tkN 25 rgTr50 rfl b1 ?_
              try simp only [rgTr50, Act.put, pA, pB, pC]
              refine tkN 26 rgTr51 rfl b1 ?_
              try simp only [rgTr51, Act.put, pA, pB, pC]
              refine tkN 27 rgTr52 rfl b1 ?_
              try simp only [rgTr52, Act.put, pA, pB, pC]
              refine tkN 28 rgTr53 rfl b1 ?_
              try simp only [rgTr53, Act.put, pA, pB, pC]
              refine tkY 29 rgTr54 (v := ?_) rfl b1 ?_ ?_
              rotate_left
              · intro w hSw
                simp only [rgTr54]; go_simp
                try with_reducible rfl
              try simp only [rgTr54, Act.put, pA, pB, pC]
              refine wpAnyH_done (by kernel_rfl) ?_ _
              have HB3 := Lib.hid (HB.out.trans (b1.mono HB.out.size))
              clear ltb ltg bd ZR k0 k1
              go_wp2
              go_ret
              exact ⟨by rw [E.out]; try rfl, HB3.out⟩
            | true =>
              by_cases h0 : k = 0
              · subst h0
                have HE2 : Hid (UpI l 1) := Lib.hid (fun i hi => by
                  obtain rfl : i = 0 := by omega
                  exact ⟨HV.out, fun h => by omega⟩)
                clear hbad
                refine wp_region_held_drew (S := fun w' => Below W.heap.size W w') (by kernel_rfl) bd (fun hHeld => ?_)
                clear hHeld
                refine tkY 0 rgTr25 (v := ?_) rfl bd ?_ ?_
                rotate_left
                · intro w hSw
                  simp only [rgTr25]; go_simp
                  try with_reducible rfl
                try simp only [rgTr25, Act.put, pA, pB, pC]
                refine tkY 1 rgTr26 (v := ?_) rfl bd ?_ ?_
                rotate_left
                · intro w hSw
                  have f1 := (hSw.cell (p := ⟨gb, 0, none⟩) ltb).trans k0
                  have f2 := (hSw.cell (p := ⟨gb, 1, none⟩) ltb).trans k1
                  simp only [rgTr26]; go_simp
                  try with_reducible rfl
                try simp only [rgTr26, Act.put, pA, pB, pC]
                refine tkY 2 rgTr27 (v := ?_) rfl bd ?_ ?_
                rotate_left
                · intro w hSw
                  simp only [rgTr27]; go_simp
                  try with_reducible rfl
                try simp only [rgTr27, Act.put, pA, pB, pC]
                refine tkY 3 rgTr28 (v := ?_) rfl bd ?_ ?_
                rotate_left
                · intro w hSw
                  simp only [rgTr28]; go_simp
                  try with_reducible rfl
                try simp only [rgTr28, Act.put, pA, pB, pC]
                refine tkY 4 rgTr29 (v := ?_) rfl bd ?_ ?_
                rotate_left
                · intro w hSw
                  simp only [rgTr29]; go_simp
                  try with_reducible rfl
                try simp only [rgTr29, Act.put, pA, pB, pC]
                refine tkY 5 rgTr30 (v := ?_) rfl bd ?_ ?_
                rotate_left
                · intro w hSw
                  have f1 := (hSw.cell (p := ⟨gb, 0, none⟩) ltb).trans k0
                  have f2 := (hSw.cell (p := ⟨gb, 1, none⟩) ltb).trans k1
                  simp only [rgTr30]; go_simp
                  try with_reducible rfl
                try simp only [rgTr30, Act.put, pA, pB, pC]
                refine tkY 6 rgTr31 (v := ?_) rfl bd ?_ ?_
                rotate_left
                · intro w hSw
                  simp only [rgTr31]; go_simp
                  try with_reducible rfl
                try simp only [rgTr31, Act.put, pA, pB, pC]
                refine tkY 7 rgTr32 (v := ?_) rfl bd ?_ ?_
                rotate_left
                · intro w hSw
                  simp only [rgTr32]; go_simp
                  try with_reducible rfl
                try simp only [rgTr32, Act.put, pA, pB, pC]
                refine tkY 8 rgTr33 (v := ?_) rfl bd ?_ ?_
                rotate_left
                · intro w hSw
                  simp only [rgTr33]; go_simp
                  try with_reducible rfl
                try simp only [rgTr33, Act.put, pA, pB, pC]
                refine tkY 9 rgTr34 (v := ?_) rfl bd ?_ ?_
                rotate_left
                · intro w hSw
                  simp only [rgTr34]; go_simp
                  try with_reducible rfl
                try simp only [rgTr34, Act.put, pA, pB, pC]
                refine tkY 10 rgTr35 (v := ?_) rfl bd ?_ ?_
                rotate_left
                · intro w hSw
                  simp only [rgTr35]; go_simp
                  try with_reducible rfl
                try simp only [rgTr35, Act.put, pA, pB, pC]
                refine tkY 11 rgTr36 (v := ?_) rfl bd ?_ ?_
                rotate_left
                · intro w hSw
                  simp only [rgTr36]; go_simp
                  try with_reducible rfl
                try simp only [rgTr36, Act.put, pA, pB, pC]
                refine tkY 12 rgTr37 (v := ?_) rfl bd ?_ ?_
                rotate_left
                · intro w hSw
                  have f1 := (hSw.cell (p := ⟨gb, 0, none⟩) ltb).trans k0
                  have f2 := (hSw.cell (p := ⟨gb, 1, none⟩) ltb).trans k1
                  simp only [rgTr37]; go_simp
                  try with_reducible rfl
                try simp only [rgTr37, Act.put, pA, pB, pC]
                refine wpAnyH_ready (rs := [13]) (by kernel_rfl) (by simp) ?_
                refine AllReadyH.cons (o := rgTr38) rfl (fun K hK => ?_) AllReadyH.nil
                simp only [rgTr38]; go_simp
                refine (ZR.out _ bd).mono ?_
                rintro e V1 ⟨rfl, d1⟩
                have b1 : Below W.heap.size W V1 := bd.trans (d1.mono bd.size)
                go_wp2_with (fail)
                refine hK.out _ _ b1 (fun hHeld => ?_)
                clear hK K hHeld
                try simp only [rgTr38, Act.put, pA, pB, pC]
                refine tkY 14 rgTr39 (v := ?_) rfl b1 ?_ ?_
                rotate_left
                · intro w hSw
                  simp only [rgTr39]; go_simp
                  try with_reducible rfl
                try simp only [rgTr39, Act.put, pA, pB, pC]
                refine tkY 15 rgTr40 (v := ?_) rfl b1 ?_ ?_
                rotate_left
                · intro w hSw
                  simp only [rgTr40]; go_simp
                  try with_reducible rfl
                try simp only [rgTr40, Act.put, pA, pB, pC]
                refine tkY 16 rgTr41 (v := ?_) rfl b1 ?_ ?_
                rotate_left
                · intro w hSw
                  simp only [rgTr41]; go_simp
                  try with_reducible rfl
                try simp only [rgTr41, Act.put, pA, pB, pC]
                refine tkY 17 rgTr42 (v := ?_) rfl b1 ?_ ?_
                rotate_left
                · intro w hSw
                  simp only [rgTr42]; go_simp
                  try with_reducible rfl
                try simp only [rgTr42, Act.put, pA, pB, pC]
                refine tkY 18 rgTr43 (v := ?_) rfl b1 ?_ ?_
                rotate_left
                · intro w hSw
                  simp only [rgTr43]; go_simp
                  try with_reducible rfl
                try simp only [rgTr43, Act.put, pA, pB, pC]
                refine tkY 19 rgTr44 (v := ?_) rfl b1 ?_ ?_
                rotate_left
                · intro w hSw
                  simp only [rgTr44]; go_simp
                  try with_reducible rfl
                try simp only [rgTr44, Act.put, pA, pB, pC]
                refine tkN 20 rgTr45 rfl b1 ?_
                try simp only [rgTr45, Act.put, pA, pB, pC]
                refine tkN 21 rgTr46 rfl b1 ?_
                try simp only [rgTr46, Act.put, pA, pB, pC]
                refine tkN 22 rgTr47 rfl b1 ?_
                try simp only [rgTr47, Act.put, pA, pB, pC]
                refine tkN 23 rgTr48 rfl b1 ?_
                try simp only [rgTr48, Act.put, pA, pB, pC]
                refine tkN 24 rgTr49 rfl b1 ?_
                try simp only [rgTr49, Act.put, pA, pB, pC]
                refine tkN 25 rgTr50 rfl b1 ?_
                try simp only [rgTr50, Act.put, pA, pB, pC]
                refine tkN 26 rgTr51 rfl b1 ?_
                try simp only [rgTr51, Act.put, pA, pB, pC]
                refine tkN 27 rgTr52 rfl b1 ?_
                try simp only [rgTr52, Act.put, pA, pB, pC]
                refine tkY 28 rgTr53 (v := ?_) rfl b1 ?_ ?_
                rotate_left
                · intro w hSw
                  simp only [rgTr53]; go_simp
                  try with_reducible rfl
                try simp only [rgTr53, Act.put, pA, pB, pC]
                refine tkY 29 rgTr54 (v := ?_) rfl b1 ?_ ?_
                rotate_left
                · intro w hSw
                  simp only [rgTr54]; go_simp
                  try with_reducible rfl
                try simp only [rgTr54, Act.put, pA, pB, pC]
                refine wpAnyH_done (by kernel_rfl) ?_ _
                have HB3 := Lib.hid (HB.out.trans (b1.mono HB.out.size))
                clear ltb ltg bd ZR k0 k1
                go_wp2
                go_roundw
                case rel => exact ⟨1, by omega, rfl, by go_num, HB3, HJ2, HE2⟩
                case measure => simp [intOf]; omega
              · obtain ⟨i, rfl⟩ : ∃ i, k = i + 1 := ⟨k - 1, by omega⟩
                obtain ⟨g2, b2, d2, e2, c0', c1', B2⟩ := HRW2.out.at (k := i) (by rw [HN.out]; omega)
                injection e2 with e2; injection e2 with e2
                subst e2
                have hbl2 := B2.le
                generalize hu2 : (itAt l i).c.length = u2 at c1' hbl2
                have ZL : Hid (∀ V, Below W.heap.size W V → Calls Try.prog 48 #[.agg #[.int .i64 (itAt l i).j, .slice b2 u2 d2], .agg #[.int .i64 j, .slice b u d]] V (TellsB (ltI (itAt l i) (itAt l (i + 1))) V)) := Lib.hid (fun V h => by
                  have Z := lessItem_any b2 b d2 d u2 u (itAt l i) (itAt l (i + 1)) V hu2 HU.out (B2.below h) (HX.out.below h)
                  rwa [HJV.out] at Z)
                generalize (itAt l i).j = j2 at c0' ZL
                generalize hcv : ltI (itAt l i) (itAt l (i + 1)) = cv at ZL
                have HCV := Lib.hid hcv
                clear B2 hu2 hcv h0
                have q1 : (0 : Int) < (i : Int) + 1 := by omega
                have q2 : IntKind.i64.wrap (i : Int) = (i : Int) := IntWalk.i64_in _ (by omega)
                have q3 : (0 : Int) ≤ (i : Int) := by omega
                have q4 : (i : Int) < (n : Int) := by omega
                have q5 : i < n := by omega
                cases cv with
                | true =>
                  have HE2 : Hid (UpI l (i + 1 + 1)) := Lib.hid (fun z hz => by
                    by_cases e : z = i + 1
                    · subst e
                      refine ⟨HV.out, fun _ => ?_⟩
                      rw [show i + 1 - 1 = i from rfl]
                      exact (ltI_iff (HE.out i (by omega)).1 HV.out).1 HCV.out
                    · exact HE.out z (by omega))
                  clear hbad
                  refine wp_region_held_drew (S := fun w' => Below W.heap.size W w') (by kernel_rfl) bd (fun hHeld => ?_)
                  clear hHeld
                  refine tkY 0 rgTr25 (v := ?_) rfl bd ?_ ?_
                  rotate_left
                  · intro w hSw
                    simp only [rgTr25]; go_simp
                    try with_reducible rfl
                  try simp only [rgTr25, Act.put, pA, pB, pC]
                  refine tkY 1 rgTr26 (v := ?_) rfl bd ?_ ?_
                  rotate_left
                  · intro w hSw
                    have f1 := (hSw.cell (p := ⟨gb, 0, none⟩) ltb).trans k0
                    have f2 := (hSw.cell (p := ⟨gb, 1, none⟩) ltb).trans k1
                    have f3 := (hSw.cell (p := ⟨g, i * 2, none⟩) ltg).trans c0'
                    have f4 := (hSw.cell (p := ⟨g, i * 2 + 1, none⟩) ltg).trans c1'
                    simp only [rgTr26]; go_simp
                    try with_reducible rfl
                  try simp only [rgTr26, Act.put, pA, pB, pC]
                  refine tkY 2 rgTr27 (v := ?_) rfl bd ?_ ?_
                  rotate_left
                  · intro w hSw
                    simp only [rgTr27]; go_simp
                    try with_reducible rfl
                  try simp only [rgTr27, Act.put, pA, pB, pC]
                  refine tkY 3 rgTr28 (v := ?_) rfl bd ?_ ?_
                  rotate_left
                  · intro w hSw
                    simp only [rgTr28]; go_simp
                    try with_reducible rfl
                  try simp only [rgTr28, Act.put, pA, pB, pC]
                  refine tkY 4 rgTr29 (v := ?_) rfl bd ?_ ?_
                  rotate_left
                  · intro w hSw
                    simp only [rgTr29]; go_simp
                    try with_reducible rfl
                  try simp only [rgTr29, Act.put, pA, pB, pC]
                  refine tkY 5 rgTr30 (v := ?_) rfl bd ?_ ?_
                  rotate_left
                  · intro w hSw
                    have f1 := (hSw.cell (p := ⟨gb, 0, none⟩) ltb).trans k0
                    have f2 := (hSw.cell (p := ⟨gb, 1, none⟩) ltb).trans k1
                    have f3 := (hSw.cell (p := ⟨g, i * 2, none⟩) ltg).trans c0'
                    have f4 := (hSw.cell (p := ⟨g, i * 2 + 1, none⟩) ltg).trans c1'
                    simp only [rgTr30]; go_simp
                    try with_reducible rfl
                  try simp only [rgTr30, Act.put, pA, pB, pC]
                  refine tkY 6 rgTr31 (v := ?_) rfl bd ?_ ?_
                  rotate_left
                  · intro w hSw
                    simp only [rgTr31]; go_simp
                    try with_reducible rfl
                  try simp only [rgTr31, Act.put, pA, pB, pC]
                  refine tkY 7 rgTr32 (v := ?_) rfl bd ?_ ?_
                  rotate_left
                  · intro w hSw
                    simp only [rgTr32]; go_simp
                    try with_reducible rfl
                  try simp only [rgTr32, Act.put, pA, pB, pC]
                  refine tkY 8 rgTr33 (v := ?_) rfl bd ?_ ?_
                  rotate_left
                  · intro w hSw
                    simp only [rgTr33]; go_simp
                    try with_reducible rfl
                  try simp only [rgTr33, Act.put, pA, pB, pC]
                  refine tkY 9 rgTr34 (v := ?_) rfl bd ?_ ?_
                  rotate_left
                  · intro w hSw
                    simp only [rgTr34]; go_simp
                    try with_reducible rfl
                  try simp only [rgTr34, Act.put, pA, pB, pC]
                  refine tkY 10 rgTr35 (v := ?_) rfl bd ?_ ?_
                  rotate_left
                  · intro w hSw
                    simp only [rgTr35]; go_simp
                    try with_reducible rfl
                  try simp only [rgTr35, Act.put, pA, pB, pC]
                  refine tkY 11 rgTr36 (v := ?_) rfl bd ?_ ?_
                  rotate_left
                  · intro w hSw
                    simp only [rgTr36]; go_simp
                    try with_reducible rfl
                  try simp only [rgTr36, Act.put, pA, pB, pC]
                  refine tkY 12 rgTr37 (v := ?_) rfl bd ?_ ?_
                  rotate_left
                  · intro w hSw
                    have f1 := (hSw.cell (p := ⟨gb, 0, none⟩) ltb).trans k0
                    have f2 := (hSw.cell (p := ⟨gb, 1, none⟩) ltb).trans k1
                    have f3 := (hSw.cell (p := ⟨g, i * 2, none⟩) ltg).trans c0'
                    have f4 := (hSw.cell (p := ⟨g, i * 2 + 1, none⟩) ltg).trans c1'
                    simp only [rgTr37]; go_simp
                    try with_reducible rfl
                  try simp only [rgTr37, Act.put, pA, pB, pC]
                  refine wpAnyH_ready (rs := [13]) (by kernel_rfl) (by simp) ?_
                  refine AllReadyH.cons (o := rgTr38) rfl (fun K hK => ?_) AllReadyH.nil
                  simp only [rgTr38]; go_simp
                  refine (ZR.out _ bd).mono ?_
                  rintro e V1 ⟨rfl, d1⟩
                  have b1 : Below W.heap.size W V1 := bd.trans (d1.mono bd.size)
                  go_wp2_with (fail)
                  refine hK.out _ _ b1 (fun hHeld => ?_)
                  clear hK K hHeld
                  try simp only [rgTr38, Act.put, pA, pB, pC]
                  refine tkY 14 rgTr39 (v := ?_) rfl b1 ?_ ?_
                  rotate_left
                  · intro w hSw
                    simp only [rgTr39]; go_simp
                    try with_reducible rfl
                  try simp only [rgTr39, Act.put, pA, pB, pC]
                  refine tkY 15 rgTr40 (v := ?_) rfl b1 ?_ ?_
                  rotate_left
                  · intro w hSw
                    simp only [rgTr40]; go_simp
                    try with_reducible rfl
                  try simp only [rgTr40, Act.put, pA, pB, pC]
                  refine tkY 16 rgTr41 (v := ?_) rfl b1 ?_ ?_
                  rotate_left
                  · intro w hSw
                    simp only [rgTr41]; go_simp
                    try with_reducible rfl
                  try simp only [rgTr41, Act.put, pA, pB, pC]
                  refine tkY 17 rgTr42 (v := ?_) rfl b1 ?_ ?_
                  rotate_left
                  · intro w hSw
                    simp only [rgTr42]; go_simp
                    try with_reducible rfl
                  try simp only [rgTr42, Act.put, pA, pB, pC]
                  refine tkY 18 rgTr43 (v := ?_) rfl b1 ?_ ?_
                  rotate_left
                  · intro w hSw
                    simp only [rgTr43]; go_simp
                    try with_reducible rfl
                  try simp only [rgTr43, Act.put, pA, pB, pC]
                  refine tkY 19 rgTr44 (v := ?_) rfl b1 ?_ ?_
                  rotate_left
                  · intro w hSw
                    simp only [rgTr44]; go_simp
                    try with_reducible rfl
                  try simp only [rgTr44, Act.put, pA, pB, pC]
                  refine tkY 20 rgTr45 (v := ?_) rfl b1 ?_ ?_
                  rotate_left
                  · intro w hSw
                    simp only [rgTr45]; go_simp
                    try with_reducible rfl
                  try simp only [rgTr45, Act.put, pA, pB, pC]
                  refine tkY 21 rgTr46 (v := ?_) rfl b1 ?_ ?_
                  rotate_left
                  · intro w hSw
                    simp only [rgTr46]; go_simp
                    try with_reducible rfl
                  try simp only [rgTr46, Act.put, pA, pB, pC]
                  refine tkY 22 rgTr47 (v := ?_) rfl b1 ?_ ?_
                  rotate_left
                  · intro w hSw
                    simp only [rgTr47]; go_simp
                    try with_reducible rfl
                  try simp only [rgTr47, Act.put, pA, pB, pC]
                  refine tkY 23 rgTr48 (v := ?_) rfl b1 ?_ ?_
                  rotate_left
                  · intro w hSw
                    simp only [rgTr48]; go_simp
                    try with_reducible rfl
                  try simp only [rgTr48, Act.put, pA, pB, pC]
                  refine tkY 24 rgTr49 (v := ?_) rfl b1 ?_ ?_
                  rotate_left
                  · intro w hSw
                    have f1 := (hSw.cell (p := ⟨gb, 0, none⟩) ltb).trans k0
                    have f2 := (hSw.cell (p := ⟨gb, 1, none⟩) ltb).trans k1
                    have f3 := (hSw.cell (p := ⟨g, i * 2, none⟩) ltg).trans c0'
                    have f4 := (hSw.cell (p := ⟨g, i * 2 + 1, none⟩) ltg).trans c1'
                    simp only [rgTr49]; go_simp
                    try with_reducible rfl
                  try simp only [rgTr49, Act.put, pA, pB, pC]
                  refine tkY 25 rgTr50 (v := ?_) rfl b1 ?_ ?_
                  rotate_left
                  · intro w hSw
                    have f1 := (hSw.cell (p := ⟨gb, 0, none⟩) ltb).trans k0
                    have f2 := (hSw.cell (p := ⟨gb, 1, none⟩) ltb).trans k1
                    have f3 := (hSw.cell (p := ⟨g, i * 2, none⟩) ltg).trans c0'
                    have f4 := (hSw.cell (p := ⟨g, i * 2 + 1, none⟩) ltg).trans c1'
                    simp only [rgTr50]; go_simp
                    try with_reducible rfl
                  try simp only [rgTr50, Act.put, pA, pB, pC]
                  refine wpAnyH_ready (rs := [26]) (by kernel_rfl) (by simp) ?_
                  refine AllReadyH.cons (o := rgTr51) rfl (fun K hK => ?_) AllReadyH.nil
                  simp only [rgTr51]; go_simp
                  refine (ZL.out _ b1).mono ?_
                  rintro e V2 ⟨rfl, d2⟩
                  have b2 : Below W.heap.size W V2 := b1.trans (d2.mono b1.size)
                  go_wp2_with (fail)
                  refine hK.out _ _ b2 (fun hHeld => ?_)
                  clear hK K hHeld
                  try simp only [rgTr51, Act.put, pA, pB, pC]
                  refine tkY 27 rgTr52 (v := ?_) rfl b2 ?_ ?_
                  rotate_left
                  · intro w hSw
                    simp only [rgTr52]; go_simp
                    try with_reducible rfl
                  try simp only [rgTr52, Act.put, pA, pB, pC]
                  refine tkY 28 rgTr53 (v := ?_) rfl b2 ?_ ?_
                  rotate_left
                  · intro w hSw
                    simp only [rgTr53]; go_simp
                    try with_reducible rfl
                  try simp only [rgTr53, Act.put, pA, pB, pC]
                  refine tkY 29 rgTr54 (v := ?_) rfl b2 ?_ ?_
                  rotate_left
                  · intro w hSw
                    simp only [rgTr54]; go_simp
                    try with_reducible rfl
                  try simp only [rgTr54, Act.put, pA, pB, pC]
                  refine wpAnyH_done (by kernel_rfl) ?_ _
                  have HB3 := Lib.hid (HB.out.trans (b2.mono HB.out.size))
                  clear ltb ltg bd ZR ZL k0 k1 c0' c1'
                  go_wp2
                  go_roundw
                  case rel => exact ⟨i + 1 + 1, by omega, rfl, by go_num, HB3, HJ2, HE2⟩
                  case measure => simp [intOf]; omega
                | false =>
                  have E := hbad (fun h => by
                    have := h.2.2.2 (by omega)
                    rw [show i + 1 - 1 = i from rfl, HCV.out] at this
                    exact Bool.false_ne_true this)
                  clear hbad
                  refine wp_region_held_drew (S := fun w' => Below W.heap.size W w') (by kernel_rfl) bd (fun hHeld => ?_)
                  clear hHeld
                  refine tkY 0 rgTr25 (v := ?_) rfl bd ?_ ?_
                  rotate_left
                  · intro w hSw
                    simp only [rgTr25]; go_simp
                    try with_reducible rfl
                  try simp only [rgTr25, Act.put, pA, pB, pC]
                  refine tkY 1 rgTr26 (v := ?_) rfl bd ?_ ?_
                  rotate_left
                  · intro w hSw
                    have f1 := (hSw.cell (p := ⟨gb, 0, none⟩) ltb).trans k0
                    have f2 := (hSw.cell (p := ⟨gb, 1, none⟩) ltb).trans k1
                    have f3 := (hSw.cell (p := ⟨g, i * 2, none⟩) ltg).trans c0'
                    have f4 := (hSw.cell (p := ⟨g, i * 2 + 1, none⟩) ltg).trans c1'
                    simp only [rgTr26]; go_simp
                    try with_reducible rfl
                  try simp only [rgTr26, Act.put, pA, pB, pC]
                  refine tkY 2 rgTr27 (v := ?_) rfl bd ?_ ?_
                  rotate_left
                  · intro w hSw
                    simp only [rgTr27]; go_simp
                    try with_reducible rfl
                  try simp only [rgTr27, Act.put, pA, pB, pC]
                  refine tkY 3 rgTr28 (v := ?_) rfl bd ?_ ?_
                  rotate_left
                  · intro w hSw
                    simp only [rgTr28]; go_simp
                    try with_reducible rfl
                  try simp only [rgTr28, Act.put, pA, pB, pC]
                  refine tkY 4 rgTr29 (v := ?_) rfl bd ?_ ?_
                  rotate_left
                  · intro w hSw
                    simp only [rgTr29]; go_simp
                    try with_reducible rfl
                  try simp only [rgTr29, Act.put, pA, pB, pC]
                  refine tkY 5 rgTr30 (v := ?_) rfl bd ?_ ?_
                  rotate_left
                  · intro w hSw
                    have f1 := (hSw.cell (p := ⟨gb, 0, none⟩) ltb).trans k0
                    have f2 := (hSw.cell (p := ⟨gb, 1, none⟩) ltb).trans k1
                    have f3 := (hSw.cell (p := ⟨g, i * 2, none⟩) ltg).trans c0'
                    have f4 := (hSw.cell (p := ⟨g, i * 2 + 1, none⟩) ltg).trans c1'
                    simp only [rgTr30]; go_simp
                    try with_reducible rfl
                  try simp only [rgTr30, Act.put, pA, pB, pC]
                  refine tkY 6 rgTr31 (v := ?_) rfl bd ?_ ?_
                  rotate_left
                  · intro w hSw
                    simp only [rgTr31]; go_simp
                    try with_reducible rfl
                  try simp only [rgTr31, Act.put, pA, pB, pC]
                  refine tkY 7 rgTr32 (v := ?_) rfl bd ?_ ?_
                  rotate_left
                  · intro w hSw
                    simp only [rgTr32]; go_simp
                    try with_reducible rfl
                  try simp only [rgTr32, Act.put, pA, pB, pC]
                  refine tkY 8 rgTr33 (v := ?_) rfl bd ?_ ?_
                  rotate_left
                  · intro w hSw
                    simp only [rgTr33]; go_simp
                    try with_reducible rfl
                  try simp only [rgTr33, Act.put, pA, pB, pC]
                  refine tkY 9 rgTr34 (v := ?_) rfl bd ?_ ?_
                  rotate_left
                  · intro w hSw
                    simp only [rgTr34]; go_simp
                    try with_reducible rfl
                  try simp only [rgTr34, Act.put, pA, pB, pC]
                  refine tkY 10 rgTr35 (v := ?_) rfl bd ?_ ?_
                  rotate_left
                  · intro w hSw
                    simp only [rgTr35]; go_simp
                    try with_reducible rfl
                  try simp only [rgTr35, Act.put, pA, pB, pC]
                  refine tkY 11 rgTr36 (v := ?_) rfl bd ?_ ?_
                  rotate_left
                  · intro w hSw
                    simp only [rgTr36]; go_simp
                    try with_reducible rfl
                  try simp only [rgTr36, Act.put, pA, pB, pC]
                  refine tkY 12 rgTr37 (v := ?_) rfl bd ?_ ?_
                  rotate_left
                  · intro w hSw
                    have f1 := (hSw.cell (p := ⟨gb, 0, none⟩) ltb).trans k0
                    have f2 := (hSw.cell (p := ⟨gb, 1, none⟩) ltb).trans k1
                    have f3 := (hSw.cell (p := ⟨g, i * 2, none⟩) ltg).trans c0'
                    have f4 := (hSw.cell (p := ⟨g, i * 2 + 1, none⟩) ltg).trans c1'
                    simp only [rgTr37]; go_simp
                    try with_reducible rfl
                  try simp only [rgTr37, Act.put, pA, pB, pC]
                  refine wpAnyH_ready (rs := [13]) (by kernel_rfl) (by simp) ?_
                  refine AllReadyH.cons (o := rgTr38) rfl (fun K hK => ?_) AllReadyH.nil
                  simp only [rgTr38]; go_simp
                  refine (ZR.out _ bd).mono ?_
                  rintro e V1 ⟨rfl, d1⟩
                  have b1 : Below W.heap.size W V1 := bd.trans (d1.mono bd.size)
                  go_wp2_with (fail)
                  refine hK.out _ _ b1 (fun hHeld => ?_)
                  clear hK K hHeld
                  try simp only [rgTr38, Act.put, pA, pB, pC]
                  refine tkY 14 rgTr39 (v := ?_) rfl b1 ?_ ?_
                  rotate_left
                  · intro w hSw
                    simp only [rgTr39]; go_simp
                    try with_reducible rfl
                  try simp only [rgTr39, Act.put, pA, pB, pC]
                  refine tkY 15 rgTr40 (v := ?_) rfl b1 ?_ ?_
                  rotate_left
                  · intro w hSw
                    simp only [rgTr40]; go_simp
                    try with_reducible rfl
                  try simp only [rgTr40, Act.put, pA, pB, pC]
                  refine tkY 16 rgTr41 (v := ?_) rfl b1 ?_ ?_
                  rotate_left
                  · intro w hSw
                    simp only [rgTr41]; go_simp
                    try with_reducible rfl
                  try simp only [rgTr41, Act.put, pA, pB, pC]
                  refine tkY 17 rgTr42 (v := ?_) rfl b1 ?_ ?_
                  rotate_left
                  · intro w hSw
                    simp only [rgTr42]; go_simp
                    try with_reducible rfl
                  try simp only [rgTr42, Act.put, pA, pB, pC]
                  refine tkY 18 rgTr43 (v := ?_) rfl b1 ?_ ?_
                  rotate_left
                  · intro w hSw
                    simp only [rgTr43]; go_simp
                    try with_reducible rfl
                  try simp only [rgTr43, Act.put, pA, pB, pC]
                  refine tkY 19 rgTr44 (v := ?_) rfl b1 ?_ ?_
                  rotate_left
                  · intro w hSw
                    simp only [rgTr44]; go_simp
                    try with_reducible rfl
                  try simp only [rgTr44, Act.put, pA, pB, pC]
                  refine tkY 20 rgTr45 (v := ?_) rfl b1 ?_ ?_
                  rotate_left
                  · intro w hSw
                    simp only [rgTr45]; go_simp
                    try with_reducible rfl
                  try simp only [rgTr45, Act.put, pA, pB, pC]
                  refine tkY 21 rgTr46 (v := ?_) rfl b1 ?_ ?_
                  rotate_left
                  · intro w hSw
                    simp only [rgTr46]; go_simp
                    try with_reducible rfl
                  try simp only [rgTr46, Act.put, pA, pB, pC]
                  refine tkY 22 rgTr47 (v := ?_) rfl b1 ?_ ?_
                  rotate_left
                  · intro w hSw
                    simp only [rgTr47]; go_simp
                    try with_reducible rfl
                  try simp only [rgTr47, Act.put, pA, pB, pC]
                  refine tkY 23 rgTr48 (v := ?_) rfl b1 ?_ ?_
                  rotate_left
                  · intro w hSw
                    simp only [rgTr48]; go_simp
                    try with_reducible rfl
                  try simp only [rgTr48, Act.put, pA, pB, pC]
                  refine tkY 24 rgTr49 (v := ?_) rfl b1 ?_ ?_
                  rotate_left
                  · intro w hSw
                    have f1 := (hSw.cell (p := ⟨gb, 0, none⟩) ltb).trans k0
                    have f2 := (hSw.cell (p := ⟨gb, 1, none⟩) ltb).trans k1
                    have f3 := (hSw.cell (p := ⟨g, i * 2, none⟩) ltg).trans c0'
                    have f4 := (hSw.cell (p := ⟨g, i * 2 + 1, none⟩) ltg).trans c1'
                    simp only [rgTr49]; go_simp
                    try with_reducible rfl
                  try simp only [rgTr49, Act.put, pA, pB, pC]
                  refine tkY 25 rgTr50 (v := ?_) rfl b1 ?_ ?_
                  rotate_left
                  · intro w hSw
                    have f1 := (hSw.cell (p := ⟨gb, 0, none⟩) ltb).trans k0
                    have f2 := (hSw.cell (p := ⟨gb, 1, none⟩) ltb).trans k1
                    have f3 := (hSw.cell (p := ⟨g, i * 2, none⟩) ltg).trans c0'
                    have f4 := (hSw.cell (p := ⟨g, i * 2 + 1, none⟩) ltg).trans c1'
                    simp only [rgTr50]; go_simp
                    try with_reducible rfl
                  try simp only [rgTr50, Act.put, pA, pB, pC]
                  refine wpAnyH_ready (rs := [26]) (by kernel_rfl) (by simp) ?_
                  refine AllReadyH.cons (o := rgTr51) rfl (fun K hK => ?_) AllReadyH.nil
                  simp only [rgTr51]; go_simp
                  refine (ZL.out _ b1).mono ?_
                  rintro e V2 ⟨rfl, d2⟩
                  have b2 : Below W.heap.size W V2 := b1.trans (d2.mono b1.size)
                  go_wp2_with (fail)
                  refine hK.out _ _ b2 (fun hHeld => ?_)
                  clear hK K hHeld
                  try simp only [rgTr51, Act.put, pA, pB, pC]
                  refine tkY 27 rgTr52 (v := ?_) rfl b2 ?_ ?_
                  rotate_left
                  · intro w hSw
                    simp only [rgTr52]; go_simp
                    try with_reducible rfl
                  try simp only [rgTr52, Act.put, pA, pB, pC]
                  refine tkY 28 rgTr53 (v := ?_) rfl b2 ?_ ?_
                  rotate_left
                  · intro w hSw
                    simp only [rgTr53]; go_simp
                    try with_reducible rfl
                  try simp only [rgTr53, Act.put, pA, pB, pC]
                  refine tkY 29 rgTr54 (v := ?_) rfl b2 ?_ ?_
                  rotate_left
                  · intro w hSw
                    simp only [rgTr54]; go_simp
                    try with_reducible rfl
                  try simp only [rgTr54, Act.put, pA, pB, pC]
                  refine wpAnyH_done (by kernel_rfl) ?_ _
                  have HB3 := Lib.hid (HB.out.trans (b2.mono HB.out.size))
                  clear ltb ltg bd ZR ZL k0 k1 c0' c1'
                  go_wp2
                  go_ret
                  exact ⟨by rw [E.out]; try rfl, HB3.out⟩
      · have E : Hid (rightItems s l = true) := Lib.hid (HIF.out.2 ⟨by first | trivial | rfl, fun i hi => HJ.out i (by omega), fun i hi => HE.out i (by omega)⟩)
        go_wp2
        go_ret
        exact ⟨by rw [E.out]; try rfl, HB.out⟩
end Go.Proofs.Ytadnjlhkppcmmaa

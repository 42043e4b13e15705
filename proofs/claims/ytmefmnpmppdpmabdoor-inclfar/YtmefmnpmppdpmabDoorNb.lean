import Derived.Test.YtmefmnpmppdpmabDoorMc
import Derived.Deep.RegionHeld3
import Derived.Deep.CutBlock
import Derived.Deep.DeepCutAuto
import Derived.Deep.CutRange
import Derived.Lib.SliceRun
/- Whether linear sets, and rows of them, are alike in all. -/

/-! Right of semilinear sets, and whether bags, and rows of bags, are alike. -/
namespace Go.Proofs.YtmefmnpmppdpmabDoor
open Go.ChangeShapes Go.WideShapes Go.ChangeAt Go.RowKit
def rgNa0 : Oper := { dst := some 12, op := Op.load 28 (Operand.tmp 4), type := 28, pos := "semi.go:15", after := #[], guard := none }
def rgNa1 : Oper := { dst := some 13, op := Op.call { callee := Callee.value (Operand.func 12), args := #[Operand.tmp 12], argTypes := #[28] }, type := 4, pos := "semi.go:15", after := #[{ on := 0, ground := Ground.data }], guard := none }
def rgNa2 : Oper := { dst := some 14, op := Op.unOp UnOp.not 4 (Operand.tmp 13), type := 4, pos := "semi.go:15", after := #[{ on := 1, ground := Ground.data }], guard := none }
def rgNa3 : Oper := { dst := some 15, op := Op.move (Operand.tmp 14), type := 4, pos := "semi.go:15", after := #[{ on := 2, ground := Ground.data }, { on := 1, ground := Ground.chain }], guard := none }
def rgNa4 : Oper := { dst := some 16, op := Op.move (Operand.tmp 3), type := 3, pos := "semi.go:15", after := #[{ on := 3, ground := Ground.guard }], guard := some (3, false) }
def rgNa5 : Oper := { dst := some 17, op := Op.binOp BinOp.gtr 3 (Operand.tmp 16) (Operand.const (Value.int IntKind.i64 0)) 3, type := 4, pos := "semi.go:15", after := #[{ on := 4, ground := Ground.data }, { on := 3, ground := Ground.guard }], guard := some (3, false) }
def rgNa6 : Oper := { dst := some 18, op := Op.move (Operand.tmp 17), type := 4, pos := "semi.go:15", after := #[{ on := 5, ground := Ground.data }, { on := 3, ground := Ground.chain }, { on := 3, ground := Ground.guard }], guard := some (3, false) }
def rgNa7 : Oper := { dst := some 19, op := Op.move (Operand.tmp 0), type := 30, pos := "semi.go:15", after := #[{ on := 6, ground := Ground.guard }], guard := some (6, true) }
def rgNa8 : Oper := { dst := some 20, op := Op.move (Operand.tmp 3), type := 3, pos := "semi.go:15", after := #[{ on := 6, ground := Ground.guard }], guard := some (6, true) }
def rgNa9 : Oper := { dst := some 21, op := Op.binOp BinOp.sub 3 (Operand.tmp 20) (Operand.const (Value.int IntKind.i64 1)) 3, type := 3, pos := "semi.go:15", after := #[{ on := 8, ground := Ground.data }, { on := 6, ground := Ground.guard }], guard := some (6, true) }
def rgNa10 : Oper := { dst := some 22, op := Op.indexAddr 30 (Operand.tmp 19) (Operand.tmp 21), type := 0, pos := "semi.go:15", after := #[{ on := 7, ground := Ground.data }, { on := 9, ground := Ground.data }, { on := 6, ground := Ground.guard }], guard := some (6, true) }
def rgNa11 : Oper := { dst := some 23, op := Op.load 28 (Operand.tmp 22), type := 28, pos := "semi.go:15", after := #[{ on := 10, ground := Ground.data }, { on := 6, ground := Ground.guard }], guard := some (6, true) }
def rgNa12 : Oper := { dst := some 24, op := Op.load 28 (Operand.tmp 4), type := 28, pos := "semi.go:15", after := #[{ on := 6, ground := Ground.guard }], guard := some (6, true) }
def rgNa13 : Oper := { dst := some 25, op := Op.call { callee := Callee.value (Operand.func 13), args := #[Operand.tmp 23, Operand.tmp 24], argTypes := #[28, 28] }, type := 3, pos := "semi.go:15", after := #[{ on := 11, ground := Ground.data }, { on := 12, ground := Ground.data }, { on := 6, ground := Ground.chain }, { on := 6, ground := Ground.guard }], guard := some (6, true) }
def rgNa14 : Oper := { dst := some 26, op := Op.binOp BinOp.geq 3 (Operand.tmp 25) (Operand.const (Value.int IntKind.i64 0)) 3, type := 4, pos := "semi.go:15", after := #[{ on := 13, ground := Ground.data }, { on := 6, ground := Ground.guard }], guard := some (6, true) }
def rgNa15 : Oper := { dst := some 27, op := Op.pick (Operand.tmp 18) (Operand.tmp 26) (Operand.const (Value.bool false)), type := 4, pos := "semi.go:15", after := #[{ on := 6, ground := Ground.data }, { on := 14, ground := Ground.data }, { on := 3, ground := Ground.guard }], guard := some (3, false) }
def rgNa16 : Oper := { dst := some 28, op := Op.pick (Operand.tmp 15) (Operand.const (Value.bool true)) (Operand.tmp 27), type := 4, pos := "semi.go:15", after := #[{ on := 3, ground := Ground.data }, { on := 15, ground := Ground.data }], guard := none }

set_option maxRecDepth 100000 in
set_option maxHeartbeats 4000000 in
theorem right11 (a : Option Addr) (c : Nat) (s : List Lin) (w : World) (R : Lins w a c s) :
    Calls Tryd.prog 9 #[.slice a s.length c] w (TellsB (rightS s) w) := by
  have hle := R.le
  obtain ⟨n, hn⟩ : ∃ n, n = s.length := ⟨_, rfl⟩
  rw [← hn] at hle ⊢
  have HN := Lib.hid hn.symm
  have HR := Lib.hid R
  clear R hn
  go_enter Tryd.func9, Tryd.ntmps9
  go_wp2
  go_loopw [2, 7] (fun r i wr => ∃ k : Nat, k ≤ n ∧ r = .bool false ∧ i = .int .i64 k ∧ Hid (Below w.heap.size w wr) ∧ Hid (UpTo s k)) (fun _ i _ => n - (intOf i).toNat)
  case atStart => exact ⟨0, by omega, rfl, rfl, Lib.hid (Below.refl _ _), Lib.hid (fun j h => by omega)⟩
  case round =>
    obtain ⟨k, hk, rfl, rfl, HB, HE⟩ := hrel
    by_cases hlt : k < n
    · have HRW := Lib.hid (HR.out.below HB.out)
      obtain ⟨g, b, d, pb, pd, e1, c0, c1, r1, t1⟩ := HRW.out.at (k := k) (by rw [HN.out]; exact hlt)
      have HE1 := Lib.hid e1
      generalize hu0 : (linAt s k).base.length = u0 at c0
      generalize hu1 : (linAt s k).ps.length = u1 at c1
      have bb := below_alloc wr (.cells #[.slice b u0 d, .slice pb u1 pd] 28)
      have HB2 := Lib.hid (HB.out.trans (bb.mono HB.out.size))
      have HL := Lib.hid (Lies.new wr 28 [.slice b u0 d, .slice pb u1 pd])
      have HRW2 := Lib.hid (HRW.out.below bb)
      have HX := Lib.hid (r1.below bb)
      have HP := Lib.hid (t1.below bb)
      have HU0 := Lib.hid hu0
      have HU1 := Lib.hid hu1
      clear r1 t1 bb hu0 hu1
      subst e1
      go_upto_region 4 with (fail)
      clear c0 c1
      generalize wr.alloc (.cells ([.slice b u0 d, .slice pb u1 pd] : List Value).toArray 28) = W at HB2 HL HRW2 HX HP ⊢
      generalize wr.heap.size = gb at HL ⊢
      clear HB HRW
      have HB := HB2
      clear HB2
      have k0 := HL.out.cell 0
      have k1 := HL.out.cell 1
      simp only [List.getElem?_cons_zero, List.getElem?_cons_succ] at k0 k1
      have ltb := HL.out.lt
      have ltg := HRW2.out.lt rfl
      have bd : Below W.heap.size W W.drew := ⟨rfl, rfl, rfl, Nat.le_refl _, fun _ _ => rfl⟩
      have Z := right13 b pb d pd (linAt s k) W.drew (HX.out.below bd) (HP.out.below bd)
      rw [HU0.out, HU1.out] at Z
      generalize hv : rightLin (linAt s k) = v at Z
      have HV := Lib.hid hv
      have HZ := Lib.hid Z
      clear Z hv
      cases v
      · have E : Hid (rightS s = false) := Lib.hid (rightS_bad (k := k) (by rw [HN.out]; exact hlt) (fun h => by rw [HV.out] at h; exact Bool.false_ne_true h.1))
        refine wp_region_held_drew (S := fun w' => Below W.heap.size W w') (by kernel_rfl) bd (fun hHeld => ?_)
        clear hHeld
        refine tkY 0 rgNa0 (v := ?_) rfl bd ?_ ?_
        rotate_left
        · intro w hSw
          have f1 := (hSw.cell (p := ⟨gb, 0, none⟩) ltb).trans k0
          have f2 := (hSw.cell (p := ⟨gb, 1, none⟩) ltb).trans k1
          simp only [rgNa0]; go_simp
          try with_reducible rfl
        try simp only [rgNa0, Act.put, pA, pB, pC]
        refine wpAnyH_ready (rs := [1]) (by kernel_rfl) (by simp) ?_
        refine AllReadyH.cons (o := rgNa1) rfl (fun K hK => ?_) AllReadyH.nil
        simp only [rgNa1]; go_simp
        refine HZ.out.mono ?_
        rintro e w3 ⟨rfl, b3⟩
        have b4 : Below W.heap.size W w3 := undrew b3
        go_wp2_with (fail)
        refine hK.out _ _ b4 (fun hHeld => ?_)
        clear hK K hHeld
        try simp only [rgNa1, Act.put, pA, pB, pC]
        refine tkY 2 rgNa2 (v := ?_) rfl b4 ?_ ?_
        rotate_left
        · intro w hSw
          simp only [rgNa2]; go_simp
          try with_reducible rfl
        try simp only [rgNa2, Act.put, pA, pB, pC]
        refine tkY 3 rgNa3 (v := ?_) rfl b4 ?_ ?_
        rotate_left
        · intro w hSw
          simp only [rgNa3]; go_simp
          try with_reducible rfl
        try simp only [rgNa3, Act.put, pA, pB, pC]
        refine tkN 4 rgNa4 rfl b4 ?_
        try simp only [rgNa4, Act.put, pA, pB, pC]
        refine tkN 5 rgNa5 rfl b4 ?_
        try simp only [rgNa5, Act.put, pA, pB, pC]
        refine tkN 6 rgNa6 rfl b4 ?_
        try simp only [rgNa6, Act.put, pA, pB, pC]
        refine tkN 7 rgNa7 rfl b4 ?_
        try simp only [rgNa7, Act.put, pA, pB, pC]
        refine tkN 8 rgNa8 rfl b4 ?_
        try simp only [rgNa8, Act.put, pA, pB, pC]
        refine tkN 9 rgNa9 rfl b4 ?_
        try simp only [rgNa9, Act.put, pA, pB, pC]
        refine tkN 10 rgNa10 rfl b4 ?_
        try simp only [rgNa10, Act.put, pA, pB, pC]
        refine tkN 11 rgNa11 rfl b4 ?_
        try simp only [rgNa11, Act.put, pA, pB, pC]
        refine tkN 12 rgNa12 rfl b4 ?_
        try simp only [rgNa12, Act.put, pA, pB, pC]
        refine tkN 13 rgNa13 rfl b4 ?_
        try simp only [rgNa13, Act.put, pA, pB, pC]
        refine tkN 14 rgNa14 rfl b4 ?_
        try simp only [rgNa14, Act.put, pA, pB, pC]
        refine tkN 15 rgNa15 rfl b4 ?_
        try simp only [rgNa15, Act.put, pA, pB, pC]
        refine tkY 16 rgNa16 (v := ?_) rfl b4 ?_ ?_
        rotate_left
        · intro w hSw
          simp only [rgNa16]; go_simp
          try with_reducible rfl
        try simp only [rgNa16, Act.put, pA, pB, pC]
        refine wpAnyH_done (by kernel_rfl) ?_ _
        have HB3 := Lib.hid (HB.out.trans (b4.mono HB.out.size))
        go_wp2
        go_ret
        exact ⟨by rw [E.out]; try rfl, HB3.out⟩
      · by_cases h0 : k = 0
        · subst h0
          have HE2 : Hid (UpTo s 1) := Lib.hid (fun j hj => by
            obtain rfl : j = 0 := by omega
            exact ⟨HV.out, fun h => by omega⟩)
          refine wp_region_held_drew (S := fun w' => Below W.heap.size W w') (by kernel_rfl) bd (fun hHeld => ?_)
          clear hHeld
          refine tkY 0 rgNa0 (v := ?_) rfl bd ?_ ?_
          rotate_left
          · intro w hSw
            have f1 := (hSw.cell (p := ⟨gb, 0, none⟩) ltb).trans k0
            have f2 := (hSw.cell (p := ⟨gb, 1, none⟩) ltb).trans k1
            simp only [rgNa0]; go_simp
            try with_reducible rfl
          try simp only [rgNa0, Act.put, pA, pB, pC]
          refine wpAnyH_ready (rs := [1]) (by kernel_rfl) (by simp) ?_
          refine AllReadyH.cons (o := rgNa1) rfl (fun K hK => ?_) AllReadyH.nil
          simp only [rgNa1]; go_simp
          refine HZ.out.mono ?_
          rintro e w3 ⟨rfl, b3⟩
          have b4 : Below W.heap.size W w3 := undrew b3
          go_wp2_with (fail)
          refine hK.out _ _ b4 (fun hHeld => ?_)
          clear hK K hHeld
          try simp only [rgNa1, Act.put, pA, pB, pC]
          refine tkY 2 rgNa2 (v := ?_) rfl b4 ?_ ?_
          rotate_left
          · intro w hSw
            simp only [rgNa2]; go_simp
            try with_reducible rfl
          try simp only [rgNa2, Act.put, pA, pB, pC]
          refine tkY 3 rgNa3 (v := ?_) rfl b4 ?_ ?_
          rotate_left
          · intro w hSw
            simp only [rgNa3]; go_simp
            try with_reducible rfl
          try simp only [rgNa3, Act.put, pA, pB, pC]
          refine tkY 4 rgNa4 (v := ?_) rfl b4 ?_ ?_
          rotate_left
          · intro w hSw
            simp only [rgNa4]; go_simp
            try with_reducible rfl
          try simp only [rgNa4, Act.put, pA, pB, pC]
          refine tkY 5 rgNa5 (v := ?_) rfl b4 ?_ ?_
          rotate_left
          · intro w hSw
            simp only [rgNa5]; go_simp
            try with_reducible rfl
          try simp only [rgNa5, Act.put, pA, pB, pC]
          refine tkY 6 rgNa6 (v := ?_) rfl b4 ?_ ?_
          rotate_left
          · intro w hSw
            simp only [rgNa6]; go_simp
            try with_reducible rfl
          try simp only [rgNa6, Act.put, pA, pB, pC]
          refine tkN 7 rgNa7 rfl b4 ?_
          try simp only [rgNa7, Act.put, pA, pB, pC]
          refine tkN 8 rgNa8 rfl b4 ?_
          try simp only [rgNa8, Act.put, pA, pB, pC]
          refine tkN 9 rgNa9 rfl b4 ?_
          try simp only [rgNa9, Act.put, pA, pB, pC]
          refine tkN 10 rgNa10 rfl b4 ?_
          try simp only [rgNa10, Act.put, pA, pB, pC]
          refine tkN 11 rgNa11 rfl b4 ?_
          try simp only [rgNa11, Act.put, pA, pB, pC]
          refine tkN 12 rgNa12 rfl b4 ?_
          try simp only [rgNa12, Act.put, pA, pB, pC]
          refine tkN 13 rgNa13 rfl b4 ?_
          try simp only [rgNa13, Act.put, pA, pB, pC]
          refine tkN 14 rgNa14 rfl b4 ?_
          try simp only [rgNa14, Act.put, pA, pB, pC]
          refine tkY 15 rgNa15 (v := ?_) rfl b4 ?_ ?_
          rotate_left
          · intro w hSw
            simp only [rgNa15]; go_simp
            try with_reducible rfl
          try simp only [rgNa15, Act.put, pA, pB, pC]
          refine tkY 16 rgNa16 (v := ?_) rfl b4 ?_ ?_
          rotate_left
          · intro w hSw
            simp only [rgNa16]; go_simp
            try with_reducible rfl
          try simp only [rgNa16, Act.put, pA, pB, pC]
          refine wpAnyH_done (by kernel_rfl) ?_ _
          have HB3 := Lib.hid (HB.out.trans (b4.mono HB.out.size))
          go_wp2
          go_roundw
          case rel => exact ⟨1, by omega, rfl, by go_num, HB3, HE2⟩
          case measure => simp [intOf]; omega
        · obtain ⟨j, rfl⟩ : ∃ j, k = j + 1 := ⟨k - 1, by omega⟩
          obtain ⟨g2, b2, d2, pb2, pd2, e2, c0', c1', r2, t2⟩ := HRW2.out.at (k := j) (by rw [HN.out]; omega)
          injection e2 with e2; injection e2 with e2
          subst e2
          have HY : Hid (∀ V, Below W.heap.size W V → Calls Tryd.prog 13 #[.agg #[.slice b2 (linAt s j).base.length d2, .slice pb2 (linAt s j).ps.length pd2], .agg #[.slice b u0 d, .slice pb u1 pd]] V (Tells (cmpLin (linAt s j) (linAt s (j + 1))) V)) := Lib.hid (fun V h => by
            have := compare18 b2 pb2 b pb d2 pd2 d pd (linAt s j) (linAt s (j + 1)) V (r2.below h) (t2.below h) (HX.out.below h) (HP.out.below h)
            rwa [HU0.out, HU1.out] at this)
          generalize (linAt s j).base.length = u2 at c0' HY
          generalize (linAt s j).ps.length = u3 at c1' HY
          generalize hcv : cmpLin (linAt s j) (linAt s (j + 1)) = cv at HY
          have HCV := Lib.hid hcv
          clear r2 t2 hcv h0
          have q1 : (0 : Int) < (j : Int) + 1 := by omega
          have q2 : IntKind.i64.wrap (j : Int) = (j : Int) := IntWalk.i64_in _ (by omega)
          have q3 : (0 : Int) ≤ (j : Int) := by omega
          have q4 : (j : Int) < (n : Int) := by omega
          have q5 : j < n := by omega
          by_cases hneg : cv < 0
          · have q6 : ¬ (0 : Int) ≤ cv := by omega
            have q7 : decide ((0 : Int) ≤ cv) = false := by simpa using q6
            have HE2 : Hid (UpTo s (j + 1 + 1)) := Lib.hid (fun i hi => by
              by_cases e : i = j + 1
              · subst e
                exact ⟨HV.out, fun _ => by rw [show j + 1 - 1 = j from rfl, HCV.out]; exact hneg⟩
              · exact HE.out i (by omega))
            refine wp_region_held_drew (S := fun w' => Below W.heap.size W w') (by kernel_rfl) bd (fun hHeld => ?_)
            clear hHeld
            refine tkY 0 rgNa0 (v := ?_) rfl bd ?_ ?_
            rotate_left
            · intro w hSw
              have f1 := (hSw.cell (p := ⟨gb, 0, none⟩) ltb).trans k0
              have f2 := (hSw.cell (p := ⟨gb, 1, none⟩) ltb).trans k1
              simp only [rgNa0]; go_simp
              try with_reducible rfl
            try simp only [rgNa0, Act.put, pA, pB, pC]
            refine wpAnyH_ready (rs := [1]) (by kernel_rfl) (by simp) ?_
            refine AllReadyH.cons (o := rgNa1) rfl (fun K hK => ?_) AllReadyH.nil
            simp only [rgNa1]; go_simp
            refine HZ.out.mono ?_
            rintro e w3 ⟨rfl, b3⟩
            have b4 : Below W.heap.size W w3 := undrew b3
            go_wp2_with (fail)
            refine hK.out _ _ b4 (fun hHeld => ?_)
            clear hK K hHeld
            try simp only [rgNa1, Act.put, pA, pB, pC]
            refine tkY 2 rgNa2 (v := ?_) rfl b4 ?_ ?_
            rotate_left
            · intro w hSw
              simp only [rgNa2]; go_simp
              try with_reducible rfl
            try simp only [rgNa2, Act.put, pA, pB, pC]
            refine tkY 3 rgNa3 (v := ?_) rfl b4 ?_ ?_
            rotate_left
            · intro w hSw
              simp only [rgNa3]; go_simp
              try with_reducible rfl
            try simp only [rgNa3, Act.put, pA, pB, pC]
            refine tkY 4 rgNa4 (v := ?_) rfl b4 ?_ ?_
            rotate_left
            · intro w hSw
              simp only [rgNa4]; go_simp
              try with_reducible rfl
            try simp only [rgNa4, Act.put, pA, pB, pC]
            refine tkY 5 rgNa5 (v := ?_) rfl b4 ?_ ?_
            rotate_left
            · intro w hSw
              simp only [rgNa5]; go_simp
              try with_reducible rfl
            try simp only [rgNa5, Act.put, pA, pB, pC]
            refine tkY 6 rgNa6 (v := ?_) rfl b4 ?_ ?_
            rotate_left
            · intro w hSw
              simp only [rgNa6]; go_simp
              try with_reducible rfl
            try simp only [rgNa6, Act.put, pA, pB, pC]
            refine tkY 7 rgNa7 (v := ?_) rfl b4 ?_ ?_
            rotate_left
            · intro w hSw
              simp only [rgNa7]; go_simp
              try with_reducible rfl
            try simp only [rgNa7, Act.put, pA, pB, pC]
            refine tkY 8 rgNa8 (v := ?_) rfl b4 ?_ ?_
            rotate_left
            · intro w hSw
              simp only [rgNa8]; go_simp
              try with_reducible rfl
            try simp only [rgNa8, Act.put, pA, pB, pC]
            refine tkY 9 rgNa9 (v := ?_) rfl b4 ?_ ?_
            rotate_left
            · intro w hSw
              simp only [rgNa9]; go_simp
              try with_reducible rfl
            try simp only [rgNa9, Act.put, pA, pB, pC]
            refine tkY 10 rgNa10 (v := ?_) rfl b4 ?_ ?_
            rotate_left
            · intro w hSw
              simp only [rgNa10]; go_simp
              try with_reducible rfl
            try simp only [rgNa10, Act.put, pA, pB, pC]
            refine tkY 11 rgNa11 (v := ?_) rfl b4 ?_ ?_
            rotate_left
            · intro w hSw
              have f1 := (hSw.cell (p := ⟨gb, 0, none⟩) ltb).trans k0
              have f2 := (hSw.cell (p := ⟨gb, 1, none⟩) ltb).trans k1
              have f3 := (hSw.cell (p := ⟨g, j * 2, none⟩) ltg).trans c0'
              have f4 := (hSw.cell (p := ⟨g, j * 2 + 1, none⟩) ltg).trans c1'
              simp only [rgNa11]; go_simp
              try with_reducible rfl
            try simp only [rgNa11, Act.put, pA, pB, pC]
            refine tkY 12 rgNa12 (v := ?_) rfl b4 ?_ ?_
            rotate_left
            · intro w hSw
              have f1 := (hSw.cell (p := ⟨gb, 0, none⟩) ltb).trans k0
              have f2 := (hSw.cell (p := ⟨gb, 1, none⟩) ltb).trans k1
              have f3 := (hSw.cell (p := ⟨g, j * 2, none⟩) ltg).trans c0'
              have f4 := (hSw.cell (p := ⟨g, j * 2 + 1, none⟩) ltg).trans c1'
              simp only [rgNa12]; go_simp
              try with_reducible rfl
            try simp only [rgNa12, Act.put, pA, pB, pC]
            refine wpAnyH_ready (rs := [13]) (by kernel_rfl) (by simp) ?_
            refine AllReadyH.cons (o := rgNa13) rfl (fun K hK => ?_) AllReadyH.nil
            simp only [rgNa13]; go_simp
            refine (HY.out w3 b4).mono ?_
            rintro e w5 ⟨rfl, b5⟩
            have b6 : Below W.heap.size W w5 := b4.trans (b5.mono b4.size)
            go_wp2_with (fail)
            refine hK.out _ _ b6 (fun hHeld => ?_)
            clear hK K hHeld
            try simp only [rgNa13, Act.put, pA, pB, pC]
            refine tkY 14 rgNa14 (v := ?_) rfl b6 ?_ ?_
            rotate_left
            · intro w hSw
              simp only [rgNa14]; go_simp
              try with_reducible rfl
            try simp only [rgNa14, Act.put, pA, pB, pC]
            refine tkY 15 rgNa15 (v := ?_) rfl b6 ?_ ?_
            rotate_left
            · intro w hSw
              simp only [rgNa15]; go_simp
              try with_reducible rfl
            try simp only [rgNa15, Act.put, pA, pB, pC]
            refine tkY 16 rgNa16 (v := ?_) rfl b6 ?_ ?_
            rotate_left
            · intro w hSw
              simp only [rgNa16]; go_simp
              try with_reducible rfl
            try simp only [rgNa16, Act.put, pA, pB, pC]
            refine wpAnyH_done (by kernel_rfl) ?_ _
            have HB3 := Lib.hid (HB.out.trans (b6.mono HB.out.size))
            go_wp2
            go_roundw
            case rel => exact ⟨j + 1 + 1, by omega, rfl, by go_num, HB3, HE2⟩
            case measure => simp [intOf]; omega
          · have q6 : (0 : Int) ≤ cv := by omega
            have q7 : decide ((0 : Int) ≤ cv) = true := by simpa using q6
            have E : Hid (rightS s = false) := Lib.hid (rightS_bad (k := j + 1) (by rw [HN.out]; exact hlt) (fun h => by
              have := h.2 (by omega)
              rw [show j + 1 - 1 = j from rfl, HCV.out] at this
              omega))
            refine wp_region_held_drew (S := fun w' => Below W.heap.size W w') (by kernel_rfl) bd (fun hHeld => ?_)
            clear hHeld
            refine tkY 0 rgNa0 (v := ?_) rfl bd ?_ ?_
            rotate_left
            · intro w hSw
              have f1 := (hSw.cell (p := ⟨gb, 0, none⟩) ltb).trans k0
              have f2 := (hSw.cell (p := ⟨gb, 1, none⟩) ltb).trans k1
              simp only [rgNa0]; go_simp
              try with_reducible rfl
            try simp only [rgNa0, Act.put, pA, pB, pC]
            refine wpAnyH_ready (rs := [1]) (by kernel_rfl) (by simp) ?_
            refine AllReadyH.cons (o := rgNa1) rfl (fun K hK => ?_) AllReadyH.nil
            simp only [rgNa1]; go_simp
            refine HZ.out.mono ?_
            rintro e w3 ⟨rfl, b3⟩
            have b4 : Below W.heap.size W w3 := undrew b3
            go_wp2_with (fail)
            refine hK.out _ _ b4 (fun hHeld => ?_)
            clear hK K hHeld
            try simp only [rgNa1, Act.put, pA, pB, pC]
            refine tkY 2 rgNa2 (v := ?_) rfl b4 ?_ ?_
            rotate_left
            · intro w hSw
              simp only [rgNa2]; go_simp
              try with_reducible rfl
            try simp only [rgNa2, Act.put, pA, pB, pC]
            refine tkY 3 rgNa3 (v := ?_) rfl b4 ?_ ?_
            rotate_left
            · intro w hSw
              simp only [rgNa3]; go_simp
              try with_reducible rfl
            try simp only [rgNa3, Act.put, pA, pB, pC]
            refine tkY 4 rgNa4 (v := ?_) rfl b4 ?_ ?_
            rotate_left
            · intro w hSw
              simp only [rgNa4]; go_simp
              try with_reducible rfl
            try simp only [rgNa4, Act.put, pA, pB, pC]
            refine tkY 5 rgNa5 (v := ?_) rfl b4 ?_ ?_
            rotate_left
            · intro w hSw
              simp only [rgNa5]; go_simp
              try with_reducible rfl
            try simp only [rgNa5, Act.put, pA, pB, pC]
            refine tkY 6 rgNa6 (v := ?_) rfl b4 ?_ ?_
            rotate_left
            · intro w hSw
              simp only [rgNa6]; go_simp
              try with_reducible rfl
            try simp only [rgNa6, Act.put, pA, pB, pC]
            refine tkY 7 rgNa7 (v := ?_) rfl b4 ?_ ?_
            rotate_left
            · intro w hSw
              simp only [rgNa7]; go_simp
              try with_reducible rfl
            try simp only [rgNa7, Act.put, pA, pB, pC]
            refine tkY 8 rgNa8 (v := ?_) rfl b4 ?_ ?_
            rotate_left
            · intro w hSw
              simp only [rgNa8]; go_simp
              try with_reducible rfl
            try simp only [rgNa8, Act.put, pA, pB, pC]
            refine tkY 9 rgNa9 (v := ?_) rfl b4 ?_ ?_
            rotate_left
            · intro w hSw
              simp only [rgNa9]; go_simp
              try with_reducible rfl
            try simp only [rgNa9, Act.put, pA, pB, pC]
            refine tkY 10 rgNa10 (v := ?_) rfl b4 ?_ ?_
            rotate_left
            · intro w hSw
              simp only [rgNa10]; go_simp
              try with_reducible rfl
            try simp only [rgNa10, Act.put, pA, pB, pC]
            refine tkY 11 rgNa11 (v := ?_) rfl b4 ?_ ?_
            rotate_left
            · intro w hSw
              have f1 := (hSw.cell (p := ⟨gb, 0, none⟩) ltb).trans k0
              have f2 := (hSw.cell (p := ⟨gb, 1, none⟩) ltb).trans k1
              have f3 := (hSw.cell (p := ⟨g, j * 2, none⟩) ltg).trans c0'
              have f4 := (hSw.cell (p := ⟨g, j * 2 + 1, none⟩) ltg).trans c1'
              simp only [rgNa11]; go_simp
              try with_reducible rfl
            try simp only [rgNa11, Act.put, pA, pB, pC]
            refine tkY 12 rgNa12 (v := ?_) rfl b4 ?_ ?_
            rotate_left
            · intro w hSw
              have f1 := (hSw.cell (p := ⟨gb, 0, none⟩) ltb).trans k0
              have f2 := (hSw.cell (p := ⟨gb, 1, none⟩) ltb).trans k1
              have f3 := (hSw.cell (p := ⟨g, j * 2, none⟩) ltg).trans c0'
              have f4 := (hSw.cell (p := ⟨g, j * 2 + 1, none⟩) ltg).trans c1'
              simp only [rgNa12]; go_simp
              try with_reducible rfl
            try simp only [rgNa12, Act.put, pA, pB, pC]
            refine wpAnyH_ready (rs := [13]) (by kernel_rfl) (by simp) ?_
            refine AllReadyH.cons (o := rgNa13) rfl (fun K hK => ?_) AllReadyH.nil
            simp only [rgNa13]; go_simp
            refine (HY.out w3 b4).mono ?_
            rintro e w5 ⟨rfl, b5⟩
            have b6 : Below W.heap.size W w5 := b4.trans (b5.mono b4.size)
            go_wp2_with (fail)
            refine hK.out _ _ b6 (fun hHeld => ?_)
            clear hK K hHeld
            try simp only [rgNa13, Act.put, pA, pB, pC]
            refine tkY 14 rgNa14 (v := ?_) rfl b6 ?_ ?_
            rotate_left
            · intro w hSw
              simp only [rgNa14]; go_simp
              try with_reducible rfl
            try simp only [rgNa14, Act.put, pA, pB, pC]
            refine tkY 15 rgNa15 (v := ?_) rfl b6 ?_ ?_
            rotate_left
            · intro w hSw
              simp only [rgNa15]; go_simp
              try with_reducible rfl
            try simp only [rgNa15, Act.put, pA, pB, pC]
            refine tkY 16 rgNa16 (v := ?_) rfl b6 ?_ ?_
            rotate_left
            · intro w hSw
              simp only [rgNa16]; go_simp
              try with_reducible rfl
            try simp only [rgNa16, Act.put, pA, pB, pC]
            refine wpAnyH_done (by kernel_rfl) ?_ _
            have HB3 := Lib.hid (HB.out.trans (b6.mono HB.out.size))
            go_wp2
            go_ret
            exact ⟨by rw [E.out]; try rfl, HB3.out⟩
    · have E : Hid (rightS s = true) := Lib.hid ((rightS_upTo s).2 (by rw [HN.out]; exact fun j hj => HE.out j (by omega)))
      go_wp2
      go_ret
      exact ⟨by rw [E.out]; try rfl, HB.out⟩




end Go.Proofs.YtmefmnpmppdpmabDoor

/-! Whether linear sets, and rows of them, are alike in all. -/
namespace Go.Proofs.YtmefmnpmppdpmabDoor
open Go.ChangeShapes Go.WideShapes Go.ChangeAt Go.RowKit

end Go.Proofs.YtmefmnpmppdpmabDoor

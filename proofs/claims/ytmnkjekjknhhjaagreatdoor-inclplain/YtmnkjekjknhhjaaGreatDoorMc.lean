/- The reference's RightSemi. -/
import Derived.Test.YtmnkjekjknhhjaaGreatDoorMb
import Derived.Test.YtmnkjekjknhhjaaGreatDoorJb
import Derived.Test.YtmnkjekjknhhjaaGreatDoorC
import Derived.Deep.RegionHeld3
import Derived.Deep.CutBlock
import Derived.Deep.DeepCutAuto
import Derived.Deep.CutRange
namespace Go.Proofs.YtmnkjekjknhhjaaGreatDoor
open Go.ChangeShapes Go.WideShapes Go.ChangeAt Go.RowKit
def rgMc0 : Oper := { dst := some 12, op := Op.load 53 (Operand.tmp 4), type := 53, pos := "ref.go:294", after := #[], guard := none }
def rgMc1 : Oper := { dst := some 13, op := Op.call { callee := Callee.value (Operand.func 79), args := #[Operand.tmp 12], argTypes := #[53] }, type := 4, pos := "ref.go:294", after := #[{ on := 0, ground := Ground.data }], guard := none }
def rgMc2 : Oper := { dst := some 14, op := Op.unOp UnOp.not 4 (Operand.tmp 13), type := 4, pos := "ref.go:294", after := #[{ on := 1, ground := Ground.data }], guard := none }
def rgMc3 : Oper := { dst := some 15, op := Op.move (Operand.tmp 14), type := 4, pos := "ref.go:294", after := #[{ on := 2, ground := Ground.data }, { on := 1, ground := Ground.chain }], guard := none }
def rgMc4 : Oper := { dst := some 16, op := Op.move (Operand.tmp 3), type := 3, pos := "ref.go:294", after := #[{ on := 3, ground := Ground.guard }], guard := some (3, false) }
def rgMc5 : Oper := { dst := some 17, op := Op.binOp BinOp.gtr 3 (Operand.tmp 16) (Operand.const (Value.int IntKind.i64 0)) 3, type := 4, pos := "ref.go:294", after := #[{ on := 4, ground := Ground.data }, { on := 3, ground := Ground.guard }], guard := some (3, false) }
def rgMc6 : Oper := { dst := some 18, op := Op.move (Operand.tmp 17), type := 4, pos := "ref.go:294", after := #[{ on := 5, ground := Ground.data }, { on := 3, ground := Ground.chain }, { on := 3, ground := Ground.guard }], guard := some (3, false) }
def rgMc7 : Oper := { dst := some 19, op := Op.move (Operand.tmp 0), type := 24, pos := "ref.go:294", after := #[{ on := 6, ground := Ground.guard }], guard := some (6, true) }
def rgMc8 : Oper := { dst := some 20, op := Op.move (Operand.tmp 3), type := 3, pos := "ref.go:294", after := #[{ on := 6, ground := Ground.guard }], guard := some (6, true) }
def rgMc9 : Oper := { dst := some 21, op := Op.binOp BinOp.sub 3 (Operand.tmp 20) (Operand.const (Value.int IntKind.i64 1)) 3, type := 3, pos := "ref.go:294", after := #[{ on := 8, ground := Ground.data }, { on := 6, ground := Ground.guard }], guard := some (6, true) }
def rgMc10 : Oper := { dst := some 22, op := Op.indexAddr 24 (Operand.tmp 19) (Operand.tmp 21), type := 0, pos := "ref.go:294", after := #[{ on := 7, ground := Ground.data }, { on := 9, ground := Ground.data }, { on := 6, ground := Ground.guard }], guard := some (6, true) }
def rgMc11 : Oper := { dst := some 23, op := Op.load 53 (Operand.tmp 22), type := 53, pos := "ref.go:294", after := #[{ on := 10, ground := Ground.data }, { on := 6, ground := Ground.guard }], guard := some (6, true) }
def rgMc12 : Oper := { dst := some 24, op := Op.load 53 (Operand.tmp 4), type := 53, pos := "ref.go:294", after := #[{ on := 6, ground := Ground.guard }], guard := some (6, true) }
def rgMc13 : Oper := { dst := some 25, op := Op.call { callee := Callee.value (Operand.func 80), args := #[Operand.tmp 23, Operand.tmp 24], argTypes := #[53, 53] }, type := 3, pos := "ref.go:294", after := #[{ on := 11, ground := Ground.data }, { on := 12, ground := Ground.data }, { on := 6, ground := Ground.chain }, { on := 6, ground := Ground.guard }], guard := some (6, true) }
def rgMc14 : Oper := { dst := some 26, op := Op.binOp BinOp.geq 3 (Operand.tmp 25) (Operand.const (Value.int IntKind.i64 0)) 3, type := 4, pos := "ref.go:294", after := #[{ on := 13, ground := Ground.data }, { on := 6, ground := Ground.guard }], guard := some (6, true) }
def rgMc15 : Oper := { dst := some 27, op := Op.pick (Operand.tmp 18) (Operand.tmp 26) (Operand.const (Value.bool false)), type := 4, pos := "ref.go:294", after := #[{ on := 6, ground := Ground.data }, { on := 14, ground := Ground.data }, { on := 3, ground := Ground.guard }], guard := some (3, false) }
def rgMc16 : Oper := { dst := some 28, op := Op.pick (Operand.tmp 15) (Operand.const (Value.bool true)) (Operand.tmp 27), type := 4, pos := "ref.go:294", after := #[{ on := 3, ground := Ground.data }, { on := 15, ground := Ground.data }], guard := none }

/-- Up to place k they are right, and rise. -/
def UpTo (s : List Lin) (k : Nat) : Prop := ∀ j, j < k → rightLin (linAt s j) = true ∧ (0 < j → cmpLin (linAt s (j - 1)) (linAt s j) < 0)
theorem upTo_cons {x : Lin} {r : List Lin} : UpTo (x :: r) (r.length + 1) ↔ rightLin x = true ∧ (0 < r.length → cmpLin x (linAt r 0) < 0) ∧ UpTo r r.length := by
  have e0 : linAt (x :: r) 0 = x := rfl
  have e1 : ∀ j, linAt (x :: r) (j + 1) = linAt r j := fun j => by simp [linAt, List.getD]
  constructor
  · intro h
    refine ⟨?_, fun hp => ?_, fun j hj => ?_⟩
    · have := (h 0 (by omega)).1
      rwa [e0] at this
    · have := (h 1 (by omega)).2 (by omega)
      rw [show (1 : Nat) - 1 = 0 from rfl, e0, show (1 : Nat) = 0 + 1 from rfl, e1] at this
      exact this
    · have := h (j + 1) (by omega)
      rw [e1] at this
      refine ⟨this.1, fun hp => ?_⟩
      have h2 := this.2 (by omega)
      obtain ⟨i, rfl⟩ : ∃ i, j = i + 1 := ⟨j - 1, by omega⟩
      rw [show i + 1 + 1 - 1 = i + 1 from rfl, e1] at h2
      exact h2
  · rintro ⟨h1, h2, h3⟩ j hj
    cases j with
    | zero => rw [e0]; exact ⟨h1, fun h => by omega⟩
    | succ j =>
      rw [e1]
      have := h3 j (by omega)
      refine ⟨this.1, fun _ => ?_⟩
      cases j with
      | zero => exact h2 (by omega)
      | succ i =>
        have h4 := this.2 (by omega)
        rw [show i + 1 + 1 - 1 = i + 1 from rfl, e1]
        exact h4
theorem rightS_upTo : ∀ (s : List Lin), rightS s = true ↔ UpTo s s.length
  | [] => by simp [rightS, UpTo]
  | x :: r => by
    rw [List.length_cons, upTo_cons, ← rightS_upTo r]
    cases r with
    | nil => simp [rightS]
    | cons y q =>
      have e : rightS (x :: y :: q) = (rightLin x && decide (cmpLin x y < 0) && rightS (y :: q)) := rfl
      rw [e, Bool.and_eq_true, Bool.and_eq_true, decide_eq_true_eq]
      have e0 : linAt (y :: q) 0 = y := rfl
      rw [e0]
      constructor
      · rintro ⟨⟨h1, h2⟩, h3⟩; exact ⟨h1, fun _ => h2, h3⟩
      · rintro ⟨h1, h2, h3⟩; exact ⟨⟨h1, h2 (by simp)⟩, h3⟩
theorem rightS_bad {s : List Lin} {k : Nat} (hk : k < s.length) (h : ¬ (rightLin (linAt s k) = true ∧ (0 < k → cmpLin (linAt s (k - 1)) (linAt s k) < 0))) : rightS s = false := by
  rw [← Bool.not_eq_true, rightS_upTo]
  exact fun h2 => h (h2 k hk)

set_option maxRecDepth 100000 in
set_option maxHeartbeats 4000000 in
theorem rightSemi_any (a : Option Addr) (c : Nat) (s : List Lin) (w : World) (R : Lins w a c s) :
    Calls Tryz.prog 46 #[.slice a s.length c] w (TellsB (rightS s) w) := by
  have hle := R.le
  obtain ⟨n, hn⟩ : ∃ n, n = s.length := ⟨_, rfl⟩
  rw [← hn] at hle ⊢
  have HN := Lib.hid hn.symm
  have HR := Lib.hid R
  clear R hn
  go_enter Tryz.func46, Tryz.ntmps46
  go_wp2
  go_loopw [2, 7] (fun r i wr => ∃ k : Nat, k ≤ n ∧ r = .bool false ∧ i = .int .i64 k ∧ Hid (Below w.heap.size w wr) ∧ Hid (UpTo s k)) (fun _ i _ => n - (intOf i).toNat)
  case atStart => exact ⟨0, by omega, rfl, rfl, Lib.hid (Below.refl _ _), Lib.hid (fun j h => by omega)⟩
  case round =>
    obtain ⟨k, hk, rfl, rfl, HB, HE⟩ := hrel
    by_cases hlt : k < n
    · have HRW := Lib.hid (HR.out.below HB.out)
      obtain ⟨g, b, d, pb, pd, e1, c0, c1, r1, t1⟩ := HRW.out.at (k := k) (by rw [HN.out]; exact hlt)
      have HE1 := Lib.hid e1
      generalize hu0 : (linAt s k).base.length = u0 at c0
      generalize hu1 : (linAt s k).ps.length = u1 at c1
      have bb := below_alloc wr (.cells #[.slice b u0 d, .slice pb u1 pd] 53)
      have HB2 := Lib.hid (HB.out.trans (bb.mono HB.out.size))
      have HL := Lib.hid (Lies.new wr 53 [.slice b u0 d, .slice pb u1 pd])
      have HRW2 := Lib.hid (HRW.out.below bb)
      have HX := Lib.hid (r1.below bb)
      have HP := Lib.hid (t1.below bb)
      have HU0 := Lib.hid hu0
      have HU1 := Lib.hid hu1
      clear r1 t1 bb hu0 hu1
      subst e1
      go_upto_region 4 with (fail)
      clear c0 c1
      generalize wr.alloc (.cells ([.slice b u0 d, .slice pb u1 pd] : List Value).toArray 53) = W at HB2 HL HRW2 HX HP ⊢
      generalize wr.heap.size = gb at HL ⊢
      clear HB HRW
      have HB := HB2
      clear HB2
      have k0 := HL.out.cell 0
      have k1 := HL.out.cell 1
      simp only [List.getElem?_cons_zero, List.getElem?_cons_succ] at k0 k1
      have ltb := HL.out.lt
      have ltg := HRW2.out.lt rfl
      have bd : Below W.heap.size W W.drew := ⟨rfl, rfl, rfl, Nat.le_refl _, fun _ _ => rfl⟩
      have Z := rightLin_any b pb d pd (linAt s k) W.drew (HX.out.below bd) (HP.out.below bd)
      rw [HU0.out, HU1.out] at Z
      generalize hv : rightLin (linAt s k) = v at Z
      have HV := Lib.hid hv
      have HZ := Lib.hid Z
      clear Z hv
      cases v
      · have E : Hid (rightS s = false) := Lib.hid (rightS_bad (k := k) (by rw [HN.out]; exact hlt) (fun h => by rw [HV.out] at h; exact Bool.false_ne_true h.1))
        refine wp_region_held_drew (S := fun w' => Below W.heap.size W w') (by kernel_rfl) bd (fun hHeld => ?_)
        clear hHeld
        refine tkY 0 rgMc0 (v := ?_) rfl bd ?_ ?_
        rotate_left
        · intro w hSw
          have f1 := (hSw.cell (p := ⟨gb, 0, none⟩) ltb).trans k0
          have f2 := (hSw.cell (p := ⟨gb, 1, none⟩) ltb).trans k1
          simp only [rgMc0]; go_simp
          try with_reducible rfl
        try simp only [rgMc0, Act.put, pA, pB, pC]
        refine wpAnyH_ready (rs := [1]) (by kernel_rfl) (by simp) ?_
        refine AllReadyH.cons (o := rgMc1) rfl (fun K hK => ?_) AllReadyH.nil
        simp only [rgMc1]; go_simp
        refine HZ.out.mono ?_
        rintro e w3 ⟨rfl, b3⟩
        have b4 : Below W.heap.size W w3 := undrew b3
        go_wp2_with (fail)
        refine hK.out _ _ b4 (fun hHeld => ?_)
        clear hK K hHeld
        try simp only [rgMc1, Act.put, pA, pB, pC]
        refine tkY 2 rgMc2 (v := ?_) rfl b4 ?_ ?_
        rotate_left
        · intro w hSw
          simp only [rgMc2]; go_simp
          try with_reducible rfl
        try simp only [rgMc2, Act.put, pA, pB, pC]
        refine tkY 3 rgMc3 (v := ?_) rfl b4 ?_ ?_
        rotate_left
        · intro w hSw
          simp only [rgMc3]; go_simp
          try with_reducible rfl
        try simp only [rgMc3, Act.put, pA, pB, pC]
        refine tkN 4 rgMc4 rfl b4 ?_
        try simp only [rgMc4, Act.put, pA, pB, pC]
        refine tkN 5 rgMc5 rfl b4 ?_
        try simp only [rgMc5, Act.put, pA, pB, pC]
        refine tkN 6 rgMc6 rfl b4 ?_
        try simp only [rgMc6, Act.put, pA, pB, pC]
        refine tkN 7 rgMc7 rfl b4 ?_
        try simp only [rgMc7, Act.put, pA, pB, pC]
        refine tkN 8 rgMc8 rfl b4 ?_
        try simp only [rgMc8, Act.put, pA, pB, pC]
        refine tkN 9 rgMc9 rfl b4 ?_
        try simp only [rgMc9, Act.put, pA, pB, pC]
        refine tkN 10 rgMc10 rfl b4 ?_
        try simp only [rgMc10, Act.put, pA, pB, pC]
        refine tkN 11 rgMc11 rfl b4 ?_
        try simp only [rgMc11, Act.put, pA, pB, pC]
        refine tkN 12 rgMc12 rfl b4 ?_
        try simp only [rgMc12, Act.put, pA, pB, pC]
        refine tkN 13 rgMc13 rfl b4 ?_
        try simp only [rgMc13, Act.put, pA, pB, pC]
        refine tkN 14 rgMc14 rfl b4 ?_
        try simp only [rgMc14, Act.put, pA, pB, pC]
        refine tkN 15 rgMc15 rfl b4 ?_
        try simp only [rgMc15, Act.put, pA, pB, pC]
        refine tkY 16 rgMc16 (v := ?_) rfl b4 ?_ ?_
        rotate_left
        · intro w hSw
          simp only [rgMc16]; go_simp
          try with_reducible rfl
        try simp only [rgMc16, Act.put, pA, pB, pC]
        refine wpAnyH_done (by kernel_rfl) ?_ _
        have HB3 := Lib.hid (HB.out.trans (b4.mono HB.out.size))
        go_wp2
        go_ret
        exact ⟨by rw [E.out]; try rfl, HB3.out⟩
      · by_cases h0 : k = 0
        · subst h0
          have HE2 : Hid (UpTo s 1) := Lib.hid (fun j hj => by
            obtain rfl : j = 0 := by omega
            exact ⟨HV.out, fun h => by omega⟩)
          refine wp_region_held_drew (S := fun w' => Below W.heap.size W w') (by kernel_rfl) bd (fun hHeld => ?_)
          clear hHeld
          refine tkY 0 rgMc0 (v := ?_) rfl bd ?_ ?_
          rotate_left
          · intro w hSw
            have f1 := (hSw.cell (p := ⟨gb, 0, none⟩) ltb).trans k0
            have f2 := (hSw.cell (p := ⟨gb, 1, none⟩) ltb).trans k1
            simp only [rgMc0]; go_simp
            try with_reducible rfl
          try simp only [rgMc0, Act.put, pA, pB, pC]
          refine wpAnyH_ready (rs := [1]) (by kernel_rfl) (by simp) ?_
          refine AllReadyH.cons (o := rgMc1) rfl (fun K hK => ?_) AllReadyH.nil
          simp only [rgMc1]; go_simp
          refine HZ.out.mono ?_
          rintro e w3 ⟨rfl, b3⟩
          have b4 : Below W.heap.size W w3 := undrew b3
          go_wp2_with (fail)
          refine hK.out _ _ b4 (fun hHeld => ?_)
          clear hK K hHeld
          try simp only [rgMc1, Act.put, pA, pB, pC]
          refine tkY 2 rgMc2 (v := ?_) rfl b4 ?_ ?_
          rotate_left
          · intro w hSw
            simp only [rgMc2]; go_simp
            try with_reducible rfl
          try simp only [rgMc2, Act.put, pA, pB, pC]
          refine tkY 3 rgMc3 (v := ?_) rfl b4 ?_ ?_
          rotate_left
          · intro w hSw
            simp only [rgMc3]; go_simp
            try with_reducible rfl
          try simp only [rgMc3, Act.put, pA, pB, pC]
          refine tkY 4 rgMc4 (v := ?_) rfl b4 ?_ ?_
          rotate_left
          · intro w hSw
            simp only [rgMc4]; go_simp
            try with_reducible rfl
          try simp only [rgMc4, Act.put, pA, pB, pC]
          refine tkY 5 rgMc5 (v := ?_) rfl b4 ?_ ?_
          rotate_left
          · intro w hSw
            simp only [rgMc5]; go_simp
            try with_reducible rfl
          try simp only [rgMc5, Act.put, pA, pB, pC]
          refine tkY 6 rgMc6 (v := ?_) rfl b4 ?_ ?_
          rotate_left
          · intro w hSw
            simp only [rgMc6]; go_simp
            try with_reducible rfl
          try simp only [rgMc6, Act.put, pA, pB, pC]
          refine tkN 7 rgMc7 rfl b4 ?_
          try simp only [rgMc7, Act.put, pA, pB, pC]
          refine tkN 8 rgMc8 rfl b4 ?_
          try simp only [rgMc8, Act.put, pA, pB, pC]
          refine tkN 9 rgMc9 rfl b4 ?_
          try simp only [rgMc9, Act.put, pA, pB, pC]
          refine tkN 10 rgMc10 rfl b4 ?_
          try simp only [rgMc10, Act.put, pA, pB, pC]
          refine tkN 11 rgMc11 rfl b4 ?_
          try simp only [rgMc11, Act.put, pA, pB, pC]
          refine tkN 12 rgMc12 rfl b4 ?_
          try simp only [rgMc12, Act.put, pA, pB, pC]
          refine tkN 13 rgMc13 rfl b4 ?_
          try simp only [rgMc13, Act.put, pA, pB, pC]
          refine tkN 14 rgMc14 rfl b4 ?_
          try simp only [rgMc14, Act.put, pA, pB, pC]
          refine tkY 15 rgMc15 (v := ?_) rfl b4 ?_ ?_
          rotate_left
          · intro w hSw
            simp only [rgMc15]; go_simp
            try with_reducible rfl
          try simp only [rgMc15, Act.put, pA, pB, pC]
          refine tkY 16 rgMc16 (v := ?_) rfl b4 ?_ ?_
          rotate_left
          · intro w hSw
            simp only [rgMc16]; go_simp
            try with_reducible rfl
          try simp only [rgMc16, Act.put, pA, pB, pC]
          refine wpAnyH_done (by kernel_rfl) ?_ _
          have HB3 := Lib.hid (HB.out.trans (b4.mono HB.out.size))
          go_wp2
          go_roundw
          case rel => exact ⟨1, by omega, rfl, by go_num, HB3, HE2⟩
          case measure => simp [intOf]; omega
        · obtain ⟨j, rfl⟩ : ∃ j, k = j + 1 := ⟨k - 1, by omega⟩
          obtain ⟨g2, b2, d2, pb2, pd2, e2, c0', c1', r2, t2⟩ := HRW2.out.at (k := j) (by rw [HN.out]; omega)
          injection e2 with e2; injection e2 with e2
          subst e2
          have HY : Hid (∀ V, Below W.heap.size W V → Calls Tryz.prog 80 #[.agg #[.slice b2 (linAt s j).base.length d2, .slice pb2 (linAt s j).ps.length pd2], .agg #[.slice b u0 d, .slice pb u1 pd]] V (Tells (cmpLin (linAt s j) (linAt s (j + 1))) V)) := Lib.hid (fun V h => by
            have := compareLin_any b2 pb2 b pb d2 pd2 d pd (linAt s j) (linAt s (j + 1)) V (r2.below h) (t2.below h) (HX.out.below h) (HP.out.below h)
            rwa [HU0.out, HU1.out] at this)
          generalize (linAt s j).base.length = u2 at c0' HY
          generalize (linAt s j).ps.length = u3 at c1' HY
          generalize hcv : cmpLin (linAt s j) (linAt s (j + 1)) = cv at HY
          have HCV := Lib.hid hcv
          clear r2 t2 hcv h0
          have q1 : (0 : Int) < (j : Int) + 1 := by omega
          have q2 : IntKind.i64.wrap (j : Int) = (j : Int) := IntWalk.i64_in _ (by omega)
          have q3 : (0 : Int) ≤ (j : Int) := by omega
          have q4 : (j : Int) < (n : Int) := by omega
          have q5 : j < n := by omega
          by_cases hneg : cv < 0
          · have q6 : ¬ (0 : Int) ≤ cv := by omega
            have q7 : decide ((0 : Int) ≤ cv) = false := by simpa using q6
            have HE2 : Hid (UpTo s (j + 1 + 1)) := Lib.hid (fun i hi => by
              by_cases e : i = j + 1
              · subst e
                exact ⟨HV.out, fun _ => by rw [show j + 1 - 1 = j from rfl, HCV.out]; exact hneg⟩
              · exact HE.out i (by omega))
            refine wp_region_held_drew (S := fun w' => Below W.heap.size W w') (by kernel_rfl) bd (fun hHeld => ?_)
            clear hHeld
            refine tkY 0 rgMc0 (v := ?_) rfl bd ?_ ?_
            rotate_left
            · intro w hSw
              have f1 := (hSw.cell (p := ⟨gb, 0, none⟩) ltb).trans k0
              have f2 := (hSw.cell (p := ⟨gb, 1, none⟩) ltb).trans k1
              simp only [rgMc0]; go_simp
              try with_reducible rfl
            try simp only [rgMc0, Act.put, pA, pB, pC]
            refine wpAnyH_ready (rs := [1]) (by kernel_rfl) (by simp) ?_
            refine AllReadyH.cons (o := rgMc1) rfl (fun K hK => ?_) AllReadyH.nil
            simp only [rgMc1]; go_simp
            refine HZ.out.mono ?_
            rintro e w3 ⟨rfl, b3⟩
            have b4 : Below W.heap.size W w3 := undrew b3
            go_wp2_with (fail)
            refine hK.out _ _ b4 (fun hHeld => ?_)
            clear hK K hHeld
            try simp only [rgMc1, Act.put, pA, pB, pC]
            refine tkY 2 rgMc2 (v := ?_) rfl b4 ?_ ?_
            rotate_left
            · intro w hSw
              simp only [rgMc2]; go_simp
              try with_reducible rfl
            try simp only [rgMc2, Act.put, pA, pB, pC]
            refine tkY 3 rgMc3 (v := ?_) rfl b4 ?_ ?_
            rotate_left
            · intro w hSw
              simp only [rgMc3]; go_simp
              try with_reducible rfl
            try simp only [rgMc3, Act.put, pA, pB, pC]
            refine tkY 4 rgMc4 (v := ?_) rfl b4 ?_ ?_
            rotate_left
            · intro w hSw
              simp only [rgMc4]; go_simp
              try with_reducible rfl
            try simp only [rgMc4, Act.put, pA, pB, pC]
            refine tkY 5 rgMc5 (v := ?_) rfl b4 ?_ ?_
            rotate_left
            · intro w hSw
              simp only [rgMc5]; go_simp
              try with_reducible rfl
            try simp only [rgMc5, Act.put, pA, pB, pC]
            refine tkY 6 rgMc6 (v := ?_) rfl b4 ?_ ?_
            rotate_left
            · intro w hSw
              simp only [rgMc6]; go_simp
              try with_reducible rfl
            try simp only [rgMc6, Act.put, pA, pB, pC]
            refine tkY 7 rgMc7 (v := ?_) rfl b4 ?_ ?_
            rotate_left
            · intro w hSw
              simp only [rgMc7]; go_simp
              try with_reducible rfl
            try simp only [rgMc7, Act.put, pA, pB, pC]
            refine tkY 8 rgMc8 (v := ?_) rfl b4 ?_ ?_
            rotate_left
            · intro w hSw
              simp only [rgMc8]; go_simp
              try with_reducible rfl
            try simp only [rgMc8, Act.put, pA, pB, pC]
            refine tkY 9 rgMc9 (v := ?_) rfl b4 ?_ ?_
            rotate_left
            · intro w hSw
              simp only [rgMc9]; go_simp
              try with_reducible rfl
            try simp only [rgMc9, Act.put, pA, pB, pC]
            refine tkY 10 rgMc10 (v := ?_) rfl b4 ?_ ?_
            rotate_left
            · intro w hSw
              simp only [rgMc10]; go_simp
              try with_reducible rfl
            try simp only [rgMc10, Act.put, pA, pB, pC]
            refine tkY 11 rgMc11 (v := ?_) rfl b4 ?_ ?_
            rotate_left
            · intro w hSw
              have f1 := (hSw.cell (p := ⟨gb, 0, none⟩) ltb).trans k0
              have f2 := (hSw.cell (p := ⟨gb, 1, none⟩) ltb).trans k1
              have f3 := (hSw.cell (p := ⟨g, j * 2, none⟩) ltg).trans c0'
              have f4 := (hSw.cell (p := ⟨g, j * 2 + 1, none⟩) ltg).trans c1'
              simp only [rgMc11]; go_simp
              try with_reducible rfl
            try simp only [rgMc11, Act.put, pA, pB, pC]
            refine tkY 12 rgMc12 (v := ?_) rfl b4 ?_ ?_
            rotate_left
            · intro w hSw
              have f1 := (hSw.cell (p := ⟨gb, 0, none⟩) ltb).trans k0
              have f2 := (hSw.cell (p := ⟨gb, 1, none⟩) ltb).trans k1
              have f3 := (hSw.cell (p := ⟨g, j * 2, none⟩) ltg).trans c0'
              have f4 := (hSw.cell (p := ⟨g, j * 2 + 1, none⟩) ltg).trans c1'
              simp only [rgMc12]; go_simp
              try with_reducible rfl
            try simp only [rgMc12, Act.put, pA, pB, pC]
            refine wpAnyH_ready (rs := [13]) (by kernel_rfl) (by simp) ?_
            refine AllReadyH.cons (o := rgMc13) rfl (fun K hK => ?_) AllReadyH.nil
            simp only [rgMc13]; go_simp
            refine (HY.out w3 b4).mono ?_
            rintro e w5 ⟨rfl, b5⟩
            have b6 : Below W.heap.size W w5 := b4.trans (b5.mono b4.size)
            go_wp2_with (fail)
            refine hK.out _ _ b6 (fun hHeld => ?_)
            clear hK K hHeld
            try simp only [rgMc13, Act.put, pA, pB, pC]
            refine tkY 14 rgMc14 (v := ?_) rfl b6 ?_ ?_
            rotate_left
            · intro w hSw
              simp only [rgMc14]; go_simp
              try with_reducible rfl
            try simp only [rgMc14, Act.put, pA, pB, pC]
            refine tkY 15 rgMc15 (v := ?_) rfl b6 ?_ ?_
            rotate_left
            · intro w hSw
              simp only [rgMc15]; go_simp
              try with_reducible rfl
            try simp only [rgMc15, Act.put, pA, pB, pC]
            refine tkY 16 rgMc16 (v := ?_) rfl b6 ?_ ?_
            rotate_left
            · intro w hSw
              simp only [rgMc16]; go_simp
              try with_reducible rfl
            try simp only [rgMc16, Act.put, pA, pB, pC]
            refine wpAnyH_done (by kernel_rfl) ?_ _
            have HB3 := Lib.hid (HB.out.trans (b6.mono HB.out.size))
            go_wp2
            go_roundw
            case rel => exact ⟨j + 1 + 1, by omega, rfl, by go_num, HB3, HE2⟩
            case measure => simp [intOf]; omega
          · have q6 : (0 : Int) ≤ cv := by omega
            have q7 : decide ((0 : Int) ≤ cv) = true := by simpa using q6
            have E : Hid (rightS s = false) := Lib.hid (rightS_bad (k := j + 1) (by rw [HN.out]; exact hlt) (fun h => by
              have := h.2 (by omega)
              rw [show j + 1 - 1 = j from rfl, HCV.out] at this
              omega))
            refine wp_region_held_drew (S := fun w' => Below W.heap.size W w') (by kernel_rfl) bd (fun hHeld => ?_)
            clear hHeld
            refine tkY 0 rgMc0 (v := ?_) rfl bd ?_ ?_
            rotate_left
            · intro w hSw
              have f1 := (hSw.cell (p := ⟨gb, 0, none⟩) ltb).trans k0
              have f2 := (hSw.cell (p := ⟨gb, 1, none⟩) ltb).trans k1
              simp only [rgMc0]; go_simp
              try with_reducible rfl
            try simp only [rgMc0, Act.put, pA, pB, pC]
            refine wpAnyH_ready (rs := [1]) (by kernel_rfl) (by simp) ?_
            refine AllReadyH.cons (o := rgMc1) rfl (fun K hK => ?_) AllReadyH.nil
            simp only [rgMc1]; go_simp
            refine HZ.out.mono ?_
            rintro e w3 ⟨rfl, b3⟩
            have b4 : Below W.heap.size W w3 := undrew b3
            go_wp2_with (fail)
            refine hK.out _ _ b4 (fun hHeld => ?_)
            clear hK K hHeld
            try simp only [rgMc1, Act.put, pA, pB, pC]
            refine tkY 2 rgMc2 (v := ?_) rfl b4 ?_ ?_
            rotate_left
            · intro w hSw
              simp only [rgMc2]; go_simp
              try with_reducible rfl
            try simp only [rgMc2, Act.put, pA, pB, pC]
            refine tkY 3 rgMc3 (v := ?_) rfl b4 ?_ ?_
            rotate_left
            · intro w hSw
              simp only [rgMc3]; go_simp
              try with_reducible rfl
            try simp only [rgMc3, Act.put, pA, pB, pC]
            refine tkY 4 rgMc4 (v := ?_) rfl b4 ?_ ?_
            rotate_left
            · intro w hSw
              simp only [rgMc4]; go_simp
              try with_reducible rfl
            try simp only [rgMc4, Act.put, pA, pB, pC]
            refine tkY 5 rgMc5 (v := ?_) rfl b4 ?_ ?_
            rotate_left
            · intro w hSw
              simp only [rgMc5]; go_simp
              try with_reducible rfl
            try simp only [rgMc5, Act.put, pA, pB, pC]
            refine tkY 6 rgMc6 (v := ?_) rfl b4 ?_ ?_
            rotate_left
            · intro w hSw
              simp only [rgMc6]; go_simp
              try with_reducible rfl
            try simp only [rgMc6, Act.put, pA, pB, pC]
            refine tkY 7 rgMc7 (v := ?_) rfl b4 ?_ ?_
            rotate_left
            · intro w hSw
              simp only [rgMc7]; go_simp
              try with_reducible rfl
            try simp only [rgMc7, Act.put, pA, pB, pC]
            refine tkY 8 rgMc8 (v := ?_) rfl b4 ?_ ?_
            rotate_left
            · intro w hSw
              simp only [rgMc8]; go_simp
              try with_reducible rfl
            try simp only [rgMc8, Act.put, pA, pB, pC]
            refine tkY 9 rgMc9 (v := ?_) rfl b4 ?_ ?_
            rotate_left
            · intro w hSw
              simp only [rgMc9]; go_simp
              try with_reducible rfl
            try simp only [rgMc9, Act.put, pA, pB, pC]
            refine tkY 10 rgMc10 (v := ?_) rfl b4 ?_ ?_
            rotate_left
            · intro w hSw
              simp only [rgMc10]; go_simp
              try with_reducible rfl
            try simp only [rgMc10, Act.put, pA, pB, pC]
            refine tkY 11 rgMc11 (v := ?_) rfl b4 ?_ ?_
            rotate_left
            · intro w hSw
              have f1 := (hSw.cell (p := ⟨gb, 0, none⟩) ltb).trans k0
              have f2 := (hSw.cell (p := ⟨gb, 1, none⟩) ltb).trans k1
              have f3 := (hSw.cell (p := ⟨g, j * 2, none⟩) ltg).trans c0'
              have f4 := (hSw.cell (p := ⟨g, j * 2 + 1, none⟩) ltg).trans c1'
              simp only [rgMc11]; go_simp
              try with_reducible rfl
            try simp only [rgMc11, Act.put, pA, pB, pC]
            refine tkY 12 rgMc12 (v := ?_) rfl b4 ?_ ?_
            rotate_left
            · intro w hSw
              have f1 := (hSw.cell (p := ⟨gb, 0, none⟩) ltb).trans k0
              have f2 := (hSw.cell (p := ⟨gb, 1, none⟩) ltb).trans k1
              have f3 := (hSw.cell (p := ⟨g, j * 2, none⟩) ltg).trans c0'
              have f4 := (hSw.cell (p := ⟨g, j * 2 + 1, none⟩) ltg).trans c1'
              simp only [rgMc12]; go_simp
              try with_reducible rfl
            try simp only [rgMc12, Act.put, pA, pB, pC]
            refine wpAnyH_ready (rs := [13]) (by kernel_rfl) (by simp) ?_
            refine AllReadyH.cons (o := rgMc13) rfl (fun K hK => ?_) AllReadyH.nil
            simp only [rgMc13]; go_simp
            refine (HY.out w3 b4).mono ?_
            rintro e w5 ⟨rfl, b5⟩
            have b6 : Below W.heap.size W w5 := b4.trans (b5.mono b4.size)
            go_wp2_with (fail)
            refine hK.out _ _ b6 (fun hHeld => ?_)
            clear hK K hHeld
            try simp only [rgMc13, Act.put, pA, pB, pC]
            refine tkY 14 rgMc14 (v := ?_) rfl b6 ?_ ?_
            rotate_left
            · intro w hSw
              simp only [rgMc14]; go_simp
              try with_reducible rfl
            try simp only [rgMc14, Act.put, pA, pB, pC]
            refine tkY 15 rgMc15 (v := ?_) rfl b6 ?_ ?_
            rotate_left
            · intro w hSw
              simp only [rgMc15]; go_simp
              try with_reducible rfl
            try simp only [rgMc15, Act.put, pA, pB, pC]
            refine tkY 16 rgMc16 (v := ?_) rfl b6 ?_ ?_
            rotate_left
            · intro w hSw
              simp only [rgMc16]; go_simp
              try with_reducible rfl
            try simp only [rgMc16, Act.put, pA, pB, pC]
            refine wpAnyH_done (by kernel_rfl) ?_ _
            have HB3 := Lib.hid (HB.out.trans (b6.mono HB.out.size))
            go_wp2
            go_ret
            exact ⟨by rw [E.out]; try rfl, HB3.out⟩
    · have E : Hid (rightS s = true) := Lib.hid ((rightS_upTo s).2 (by rw [HN.out]; exact fun j hj => HE.out j (by omega)))
      go_wp2
      go_ret
      exact ⟨by rw [E.out]; try rfl, HB.out⟩
end Go.Proofs.YtmnkjekjknhhjaaGreatDoor

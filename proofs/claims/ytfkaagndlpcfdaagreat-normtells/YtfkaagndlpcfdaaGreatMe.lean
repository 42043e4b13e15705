/- The reference's OfSemi. -/
import Derived.Test.YtfkaagndlpcfdaaGreatMd
import Derived.Deep.RegionHeld3
import Derived.Deep.CutBlock
import Derived.Deep.DeepCutAuto
import Derived.Deep.CutRange
namespace Go.Proofs.YtfkaagndlpcfdaaGreat
open Go.ChangeShapes Go.WideShapes Go.ChangeAt Go.RowKit

/-- What a call that makes a semilinear set comes to. -/
def MakesS (s : List Lin) (ok : Bool) (w : World) (e : Ending) (w' : World) : Prop :=
  ∃ a c ls, lins ls = s ∧ e = .returned (.tuple #[.slice a s.length c, .bool ok]) ∧ Lbs w' a c ls ∧ From w.heap.size a ∧ Below w.heap.size w w'
theorem takeS_snoc {l : List Lin} {k : Nat} (hk : k < l.length) : l.take (k + 1) = l.take k ++ [linAt l k] := by
  rw [List.take_succ_eq_append_getElem hk]; simp [linAt, List.getD, hk]

set_option maxRecDepth 100000 in
set_option maxHeartbeats 16000000 in
theorem ofSemi_any (a : Option Addr) (c : Nat) (s : List Lin) (w : World) (R : Lins w a c s) (hs : s.length ≤ 100000000000) (hps : ∀ k, (linAt s k).ps.length ≤ 100000000000) :
    Calls Tryz.prog 37 #[.slice a s.length c] w (MakesS (ofS s) (ofSOk s) w) := by
  have hle := R.le
  obtain ⟨n, hn⟩ : ∃ n, n = s.length := ⟨_, rfl⟩
  rw [← hn] at hle hs ⊢
  have HN := Lib.hid hn.symm
  have HR := Lib.hid R
  have HPS := Lib.hid hps
  clear R hn hps
  go_enter Tryz.func37, Tryz.ntmps37
  go_wp2
  go_loopw [2, 3, 4, 11] (fun r ok out i wr => ∃ (k : Nat) (oa : Option Addr) (oc m : Nat) (ls : List Lb), k ≤ n ∧ m ≤ k ∧ r = .slice none 0 0 ∧ ok = .bool false ∧ out = .slice oa m oc ∧ i = .int .i64 k ∧ Hid (OsSt w oa oc m ls wr) ∧ Hid (lins ls = putAllS [] (s.take k)) ∧ Hid (∀ j, j < k → rightLin (linAt s j) = true)) (fun _ _ _ i _ => n - (intOf i).toNat)
  case atStart => exact ⟨0, none, 0, 0, [], by omega, by omega, rfl, rfl, rfl, rfl, Lib.hid ⟨Below.refl _ _, Lbs.nil _, rfl, From.none _⟩, Lib.hid rfl, Lib.hid (fun j h => by omega)⟩
  case round =>
    obtain ⟨k, oa, oc, m, ls, hk, hmk, rfl, rfl, rfl, rfl, HT, HA, HG⟩ := hrel
    have hlo := HT.out.row.row.le
    rw [HT.out.num] at hlo
    by_cases hlt : k < n
    · obtain ⟨g, b, d, pb, pd, e1, c0, c1, r1, t1⟩ := (HR.out.below HT.out.bel).at (k := k) (by rw [HN.out]; exact hlt)
      generalize hu0 : (linAt s k).base.length = u0 at c0
      generalize hu1 : (linAt s k).ps.length = u1 at c1
      have HU0 := Lib.hid hu0
      have HU1 := Lib.hid hu1
      have bb := below_alloc wr (.cells #[.slice b u0 d, .slice pb u1 pd] 60)
      have HTW := Lib.hid (HT.out.below bb)
      have HLW := Lib.hid (Lies.new wr 60 [.slice b u0 d, .slice pb u1 pd])
      have HXW := Lib.hid (r1.below bb)
      have HPW := Lib.hid (t1.below bb)
      have HNE : Hid (oa ≠ some ⟨wr.heap.size, 0, none⟩) := Lib.hid (fun e => Nat.lt_irrefl _ (HT.out.row.row.lt e))
      have Z := rightLin_any b pb d pd (linAt s k) _ HXW.out HPW.out
      rw [hu0, hu1] at Z
      generalize hv : rightLin (linAt s k) = v at Z
      have HV := Lib.hid hv
      have HZ := Lib.hid Z
      clear Z r1 t1 bb hu0 hu1 hv HT
      subst e1
      go_wp2_with (fail)
      clear c0 c1
      generalize wr.alloc (.cells ([.slice b u0 d, .slice pb u1 pd] : List Value).toArray 60) = W at HTW HLW HXW HPW HZ ⊢
      generalize wr.heap.size = gb at HLW HNE ⊢
      refine HZ.out.mono ?_
      rintro e w1 ⟨rfl, bw⟩
      have HT1 := Lib.hid (HTW.out.below bw)
      have HLB := Lib.hid (HLW.out.below bw HLW.out.lt)
      have HX1 := Lib.hid (HXW.out.below bw)
      have HP1 := Lib.hid (HPW.out.below bw)
      clear HZ HTW HLW HXW HPW bw
      cases v
      · have E : Hid (MakesS (ofS s) (ofSOk s) w (.returned (.tuple #[.slice none 0 0, .bool false])) w1) := Lib.hid (by
          have h1 : ofSOk s = false := by
            rw [← Bool.not_eq_true, ofSOk_iff]
            intro h
            have h2 := h (linAt s k) (by simp [linAt, List.getD, HN.out, hlt])
            rw [HV.out] at h2
            cases h2
          have h2 : ofS s = [] := by unfold ofS; rw [h1]; rfl
          rw [h1, h2]
          exact ⟨none, 0, [], rfl, rfl, Lbs.nil _, From.none _, HT1.out.bel⟩)
        go_wp2
        go_ret2
        exact E.out
      · have HGX := Lib.hid (rightLin_iff.1 HV.out)
        go_upto_block 2 with (fail)
        go_cut [7] from 12 to 59 (fun p wx => ∃ j : Nat, j ≤ m ∧ p = .int .i64 j ∧ Hid (Below w1.heap.size w1 wx) ∧ Hid (spotS (linAt s k) (lins ls) = j))
        case first =>
          go_wp2_with (fail)
          go_loopw [7] (fun i wr => ∃ j : Nat, j ≤ m ∧ i = .int .i64 j ∧ Hid (Below w1.heap.size w1 wr) ∧ Hid (∀ t, t < j → cmpLin (linAt (lins ls) t) (linAt s k) < 0)) (fun i _ => m - (intOf i).toNat)
          case atStart => exact ⟨0, by omega, rfl, Lib.hid (Below.refl _ _), Lib.hid (fun t h => by omega)⟩
          case round =>
            obtain ⟨j, hj, rfl, HBV, HLT⟩ := hrel
            have HT2 := Lib.hid (HT1.out.below HBV.out)
            have HL2 := Lib.hid (HLB.out.below HBV.out HLB.out.lt)
            have HX2 := Lib.hid (HX1.out.below HBV.out)
            have HP2 := Lib.hid (HP1.out.below HBV.out)
            have bd : Below wr.heap.size wr wr.drew := ⟨rfl, rfl, rfl, Nat.le_refl _, fun _ _ => rfl⟩
            by_cases hjm : j < m
            · obtain ⟨go, b2, d2, pb2, pd2, e2, c0', c1', r2, t2⟩ := (show Lins wr oa oc (lins ls) from ⟨ls, rfl, HT2.out.row⟩).at (k := j) (by rw [lins_len, HT2.out.num]; exact hjm)
              have ltg := HT2.out.row.row.lt e2
              have k0 := HL2.out.cell 0
              have k1 := HL2.out.cell 1
              simp only [List.getElem?_cons_zero, List.getElem?_cons_succ] at k0 k1
              have ltb := HL2.out.lt
              have Z := compareLin_any b2 pb2 b pb d2 pd2 d pd (linAt (lins ls) j) (linAt s k) wr.drew (r2.below bd) (t2.below bd) (HX2.out.below bd) (HP2.out.below bd)
              rw [HU0.out, HU1.out] at Z
              generalize (linAt (lins ls) j).base.length = u2 at c0' Z
              generalize (linAt (lins ls) j).ps.length = u3 at c1' Z
              generalize hcv : cmpLin (linAt (lins ls) j) (linAt s k) = cv at Z
              have HCV := Lib.hid hcv
              have HZ := Lib.hid Z
              have HOA := Lib.hid e2
              clear Z r2 t2 hcv
              have q5 : j < oc := by omega
              subst e2
              by_cases hneg : cv < 0
              · have q7 : decide (cv < 0) = true := by simpa using hneg
                have HLT2 : Hid (∀ t, t < j + 1 → cmpLin (linAt (lins ls) t) (linAt s k) < 0) := Lib.hid (fun t ht => by
                  by_cases e : t = j
                  · rw [e, HCV.out]; exact hneg
                  · exact HLT.out t (by omega))
                go_wp2_with (fail)
                refine wp_region_held_drew (S := fun w' => Below wr.heap.size wr w') (by kernel_rfl) bd (fun hHeld => ?_)
                clear hHeld
                refine wpAnyH_take (i := 0) (oi := { dst := some 18, op := Op.move (Operand.tmp 7), type := 3, pos := "ref.go:318", after := #[], guard := none }) (v := ?_) rfl (by kernel_rfl) (by kernel_rfl) (by kernel_rfl) (fun _ _ _ h => h) (Or.inl ⟨by rfl, ?_⟩) bd ?_
                rotate_left
                · intro w hSw
                  go_simp
                  try with_reducible rfl
                try simp only [Act.put, List.setIfInBounds_toArray, List.set_cons_zero, List.set_cons_succ]
                refine wpAnyH_take (i := 1) (oi := { dst := some 19, op := Op.move (Operand.tmp 4), type := 32, pos := "ref.go:318", after := #[], guard := none }) (v := ?_) rfl (by kernel_rfl) (by kernel_rfl) (by kernel_rfl) (fun _ _ _ h => h) (Or.inl ⟨by rfl, ?_⟩) bd ?_
                rotate_left
                · intro w hSw
                  go_simp
                  try with_reducible rfl
                try simp only [Act.put, List.setIfInBounds_toArray, List.set_cons_zero, List.set_cons_succ]
                refine wpAnyH_take (i := 2) (oi := { dst := some 20, op := Op.call { callee := Callee.builtin Builtin.len, args := #[Operand.tmp 19], argTypes := #[32] }, type := 3, pos := "ref.go:318", after := #[{ on := 1, ground := Ground.data }], guard := none }) (v := ?_) rfl (by kernel_rfl) (by kernel_rfl) (by kernel_rfl) (fun _ _ _ h => h) (Or.inl ⟨by rfl, ?_⟩) bd ?_
                rotate_left
                · intro w hSw
                  go_simp
                  try with_reducible rfl
                try simp only [Act.put, List.setIfInBounds_toArray, List.set_cons_zero, List.set_cons_succ]
                refine wpAnyH_take (i := 3) (oi := { dst := some 21, op := Op.binOp BinOp.lss 3 (Operand.tmp 18) (Operand.tmp 20) 3, type := 4, pos := "ref.go:318", after := #[{ on := 0, ground := Ground.data }, { on := 2, ground := Ground.data }], guard := none }) (v := ?_) rfl (by kernel_rfl) (by kernel_rfl) (by kernel_rfl) (fun _ _ _ h => h) (Or.inl ⟨by rfl, ?_⟩) bd ?_
                rotate_left
                · intro w hSw
                  go_simp
                  try with_reducible rfl
                try simp only [Act.put, List.setIfInBounds_toArray, List.set_cons_zero, List.set_cons_succ]
                refine wpAnyH_take (i := 4) (oi := { dst := some 22, op := Op.move (Operand.tmp 21), type := 4, pos := "ref.go:318", after := #[{ on := 3, ground := Ground.data }], guard := none }) (v := ?_) rfl (by kernel_rfl) (by kernel_rfl) (by kernel_rfl) (fun _ _ _ h => h) (Or.inl ⟨by rfl, ?_⟩) bd ?_
                rotate_left
                · intro w hSw
                  go_simp
                  try with_reducible rfl
                try simp only [Act.put, List.setIfInBounds_toArray, List.set_cons_zero, List.set_cons_succ]
                refine wpAnyH_take (i := 5) (oi := { dst := some 23, op := Op.move (Operand.tmp 4), type := 32, pos := "ref.go:318", after := #[{ on := 4, ground := Ground.guard }], guard := some (4, true) }) (v := ?_) rfl (by kernel_rfl) (by kernel_rfl) (by kernel_rfl) (fun _ _ _ h => h) (Or.inl ⟨by rfl, ?_⟩) bd ?_
                rotate_left
                · intro w hSw
                  go_simp
                  try with_reducible rfl
                try simp only [Act.put, List.setIfInBounds_toArray, List.set_cons_zero, List.set_cons_succ]
                refine wpAnyH_take (i := 6) (oi := { dst := some 24, op := Op.move (Operand.tmp 7), type := 3, pos := "ref.go:318", after := #[{ on := 4, ground := Ground.guard }], guard := some (4, true) }) (v := ?_) rfl (by kernel_rfl) (by kernel_rfl) (by kernel_rfl) (fun _ _ _ h => h) (Or.inl ⟨by rfl, ?_⟩) bd ?_
                rotate_left
                · intro w hSw
                  go_simp
                  try with_reducible rfl
                try simp only [Act.put, List.setIfInBounds_toArray, List.set_cons_zero, List.set_cons_succ]
                refine wpAnyH_take (i := 7) (oi := { dst := some 25, op := Op.indexAddr 32 (Operand.tmp 23) (Operand.tmp 24), type := 0, pos := "ref.go:318", after := #[{ on := 5, ground := Ground.data }, { on := 6, ground := Ground.data }, { on := 4, ground := Ground.guard }], guard := some (4, true) }) (v := ?_) rfl (by kernel_rfl) (by kernel_rfl) (by kernel_rfl) (fun _ _ _ h => h) (Or.inl ⟨by rfl, ?_⟩) bd ?_
                rotate_left
                · intro w hSw
                  go_simp
                  try with_reducible rfl
                try simp only [Act.put, List.setIfInBounds_toArray, List.set_cons_zero, List.set_cons_succ]
                refine wpAnyH_take (i := 8) (oi := { dst := some 26, op := Op.load 60 (Operand.tmp 25), type := 60, pos := "ref.go:318", after := #[{ on := 7, ground := Ground.data }, { on := 4, ground := Ground.guard }], guard := some (4, true) }) (v := ?_) rfl (by kernel_rfl) (by kernel_rfl) (by kernel_rfl) (fun _ _ _ h => h) (Or.inl ⟨by rfl, ?_⟩) bd ?_
                rotate_left
                · intro w hSw
                  have f1 := (hSw.cell (p := ⟨gb, 0, none⟩) ltb).trans k0
                  have f2 := (hSw.cell (p := ⟨gb, 1, none⟩) ltb).trans k1
                  have f3 := (hSw.cell (p := ⟨go, j * 2, none⟩) ltg).trans c0'
                  have f4 := (hSw.cell (p := ⟨go, j * 2 + 1, none⟩) ltg).trans c1'
                  go_simp
                  try with_reducible rfl
                try simp only [Act.put, List.setIfInBounds_toArray, List.set_cons_zero, List.set_cons_succ]
                refine wpAnyH_take (i := 9) (oi := { dst := some 27, op := Op.load 60 (Operand.tmp 6), type := 60, pos := "ref.go:318", after := #[{ on := 4, ground := Ground.guard }], guard := some (4, true) }) (v := ?_) rfl (by kernel_rfl) (by kernel_rfl) (by kernel_rfl) (fun _ _ _ h => h) (Or.inl ⟨by rfl, ?_⟩) bd ?_
                rotate_left
                · intro w hSw
                  have f1 := (hSw.cell (p := ⟨gb, 0, none⟩) ltb).trans k0
                  have f2 := (hSw.cell (p := ⟨gb, 1, none⟩) ltb).trans k1
                  have f3 := (hSw.cell (p := ⟨go, j * 2, none⟩) ltg).trans c0'
                  have f4 := (hSw.cell (p := ⟨go, j * 2 + 1, none⟩) ltg).trans c1'
                  go_simp
                  try with_reducible rfl
                try simp only [Act.put, List.setIfInBounds_toArray, List.set_cons_zero, List.set_cons_succ]
                refine wpAnyH_ready (rs := [10]) (by kernel_rfl) (by simp) ?_
                refine AllReadyH.cons (o := { dst := some 28, op := Op.call { callee := Callee.value (Operand.func 52), args := #[Operand.tmp 26, Operand.tmp 27], argTypes := #[60, 60] }, type := 3, pos := "ref.go:318", after := #[{ on := 8, ground := Ground.data }, { on := 9, ground := Ground.data }, { on := 4, ground := Ground.chain }, { on := 4, ground := Ground.guard }], guard := some (4, true) }) rfl (fun K hK => ?_) AllReadyH.nil
                go_simp
                refine HZ.out.mono ?_
                rintro e w3 ⟨rfl, b3⟩
                have b4 : Below wr.heap.size wr w3 := undrew b3
                go_wp2_with (fail)
                refine hK.out _ _ b4 (fun hHeld => ?_)
                clear hK K hHeld
                try simp only [Act.put, List.setIfInBounds_toArray, List.set_cons_zero, List.set_cons_succ]
                refine wpAnyH_take (i := 11) (oi := { dst := some 29, op := Op.binOp BinOp.lss 3 (Operand.tmp 28) (Operand.const (Value.int IntKind.i64 0)) 3, type := 4, pos := "ref.go:318", after := #[{ on := 10, ground := Ground.data }, { on := 4, ground := Ground.guard }], guard := some (4, true) }) (v := ?_) rfl (by kernel_rfl) (by kernel_rfl) (by kernel_rfl) (fun _ _ _ h => h) (Or.inl ⟨by rfl, ?_⟩) b4 ?_
                rotate_left
                · intro w hSw
                  go_simp
                  try with_reducible rfl
                try simp only [Act.put, List.setIfInBounds_toArray, List.set_cons_zero, List.set_cons_succ]
                refine wpAnyH_take (i := 12) (oi := { dst := some 30, op := Op.pick (Operand.tmp 22) (Operand.tmp 29) (Operand.const (Value.bool false)), type := 4, pos := "ref.go:318", after := #[{ on := 4, ground := Ground.data }, { on := 11, ground := Ground.data }], guard := none }) (v := ?_) rfl (by kernel_rfl) (by kernel_rfl) (by kernel_rfl) (fun _ _ _ h => h) (Or.inl ⟨by rfl, ?_⟩) b4 ?_
                rotate_left
                · intro w hSw
                  go_simp
                  try with_reducible rfl
                try simp only [Act.put, List.setIfInBounds_toArray, List.set_cons_zero, List.set_cons_succ]
                refine wpAnyH_done (by kernel_rfl) ?_ _
                have HB3 := Lib.hid (HBV.out.trans (b4.mono HBV.out.size))
                clear b3 b4 HZ
                clear c0' c1' k0 k1 bd
                go_wp2
                go_roundw
                case rel => exact ⟨j + 1, by omega, by go_num, HB3, HLT2⟩
                case measure => simp [intOf]; omega
              · have q7 : decide (cv < 0) = false := by simpa using hneg
                have HSP : Hid (spotS (linAt s k) (lins ls) = j) := Lib.hid (spotS_of (by rw [lins_len, HT2.out.num]; omega) HLT.out (fun _ => by rw [HCV.out]; exact hneg))
                go_wp2_with (fail)
                refine wp_region_held_drew (S := fun w' => Below wr.heap.size wr w') (by kernel_rfl) bd (fun hHeld => ?_)
                clear hHeld
                refine wpAnyH_take (i := 0) (oi := { dst := some 18, op := Op.move (Operand.tmp 7), type := 3, pos := "ref.go:318", after := #[], guard := none }) (v := ?_) rfl (by kernel_rfl) (by kernel_rfl) (by kernel_rfl) (fun _ _ _ h => h) (Or.inl ⟨by rfl, ?_⟩) bd ?_
                rotate_left
                · intro w hSw
                  go_simp
                  try with_reducible rfl
                try simp only [Act.put, List.setIfInBounds_toArray, List.set_cons_zero, List.set_cons_succ]
                refine wpAnyH_take (i := 1) (oi := { dst := some 19, op := Op.move (Operand.tmp 4), type := 32, pos := "ref.go:318", after := #[], guard := none }) (v := ?_) rfl (by kernel_rfl) (by kernel_rfl) (by kernel_rfl) (fun _ _ _ h => h) (Or.inl ⟨by rfl, ?_⟩) bd ?_
                rotate_left
                · intro w hSw
                  go_simp
                  try with_reducible rfl
                try simp only [Act.put, List.setIfInBounds_toArray, List.set_cons_zero, List.set_cons_succ]
                refine wpAnyH_take (i := 2) (oi := { dst := some 20, op := Op.call { callee := Callee.builtin Builtin.len, args := #[Operand.tmp 19], argTypes := #[32] }, type := 3, pos := "ref.go:318", after := #[{ on := 1, ground := Ground.data }], guard := none }) (v := ?_) rfl (by kernel_rfl) (by kernel_rfl) (by kernel_rfl) (fun _ _ _ h => h) (Or.inl ⟨by rfl, ?_⟩) bd ?_
                rotate_left
                · intro w hSw
                  go_simp
                  try with_reducible rfl
                try simp only [Act.put, List.setIfInBounds_toArray, List.set_cons_zero, List.set_cons_succ]
                refine wpAnyH_take (i := 3) (oi := { dst := some 21, op := Op.binOp BinOp.lss 3 (Operand.tmp 18) (Operand.tmp 20) 3, type := 4, pos := "ref.go:318", after := #[{ on := 0, ground := Ground.data }, { on := 2, ground := Ground.data }], guard := none }) (v := ?_) rfl (by kernel_rfl) (by kernel_rfl) (by kernel_rfl) (fun _ _ _ h => h) (Or.inl ⟨by rfl, ?_⟩) bd ?_
                rotate_left
                · intro w hSw
                  go_simp
                  try with_reducible rfl
                try simp only [Act.put, List.setIfInBounds_toArray, List.set_cons_zero, List.set_cons_succ]
                refine wpAnyH_take (i := 4) (oi := { dst := some 22, op := Op.move (Operand.tmp 21), type := 4, pos := "ref.go:318", after := #[{ on := 3, ground := Ground.data }], guard := none }) (v := ?_) rfl (by kernel_rfl) (by kernel_rfl) (by kernel_rfl) (fun _ _ _ h => h) (Or.inl ⟨by rfl, ?_⟩) bd ?_
                rotate_left
                · intro w hSw
                  go_simp
                  try with_reducible rfl
                try simp only [Act.put, List.setIfInBounds_toArray, List.set_cons_zero, List.set_cons_succ]
                refine wpAnyH_take (i := 5) (oi := { dst := some 23, op := Op.move (Operand.tmp 4), type := 32, pos := "ref.go:318", after := #[{ on := 4, ground := Ground.guard }], guard := some (4, true) }) (v := ?_) rfl (by kernel_rfl) (by kernel_rfl) (by kernel_rfl) (fun _ _ _ h => h) (Or.inl ⟨by rfl, ?_⟩) bd ?_
                rotate_left
                · intro w hSw
                  go_simp
                  try with_reducible rfl
                try simp only [Act.put, List.setIfInBounds_toArray, List.set_cons_zero, List.set_cons_succ]
                refine wpAnyH_take (i := 6) (oi := { dst := some 24, op := Op.move (Operand.tmp 7), type := 3, pos := "ref.go:318", after := #[{ on := 4, ground := Ground.guard }], guard := some (4, true) }) (v := ?_) rfl (by kernel_rfl) (by kernel_rfl) (by kernel_rfl) (fun _ _ _ h => h) (Or.inl ⟨by rfl, ?_⟩) bd ?_
                rotate_left
                · intro w hSw
                  go_simp
                  try with_reducible rfl
                try simp only [Act.put, List.setIfInBounds_toArray, List.set_cons_zero, List.set_cons_succ]
                refine wpAnyH_take (i := 7) (oi := { dst := some 25, op := Op.indexAddr 32 (Operand.tmp 23) (Operand.tmp 24), type := 0, pos := "ref.go:318", after := #[{ on := 5, ground := Ground.data }, { on := 6, ground := Ground.data }, { on := 4, ground := Ground.guard }], guard := some (4, true) }) (v := ?_) rfl (by kernel_rfl) (by kernel_rfl) (by kernel_rfl) (fun _ _ _ h => h) (Or.inl ⟨by rfl, ?_⟩) bd ?_
                rotate_left
                · intro w hSw
                  go_simp
                  try with_reducible rfl
                try simp only [Act.put, List.setIfInBounds_toArray, List.set_cons_zero, List.set_cons_succ]
                refine wpAnyH_take (i := 8) (oi := { dst := some 26, op := Op.load 60 (Operand.tmp 25), type := 60, pos := "ref.go:318", after := #[{ on := 7, ground := Ground.data }, { on := 4, ground := Ground.guard }], guard := some (4, true) }) (v := ?_) rfl (by kernel_rfl) (by kernel_rfl) (by kernel_rfl) (fun _ _ _ h => h) (Or.inl ⟨by rfl, ?_⟩) bd ?_
                rotate_left
                · intro w hSw
                  have f1 := (hSw.cell (p := ⟨gb, 0, none⟩) ltb).trans k0
                  have f2 := (hSw.cell (p := ⟨gb, 1, none⟩) ltb).trans k1
                  have f3 := (hSw.cell (p := ⟨go, j * 2, none⟩) ltg).trans c0'
                  have f4 := (hSw.cell (p := ⟨go, j * 2 + 1, none⟩) ltg).trans c1'
                  go_simp
                  try with_reducible rfl
                try simp only [Act.put, List.setIfInBounds_toArray, List.set_cons_zero, List.set_cons_succ]
                refine wpAnyH_take (i := 9) (oi := { dst := some 27, op := Op.load 60 (Operand.tmp 6), type := 60, pos := "ref.go:318", after := #[{ on := 4, ground := Ground.guard }], guard := some (4, true) }) (v := ?_) rfl (by kernel_rfl) (by kernel_rfl) (by kernel_rfl) (fun _ _ _ h => h) (Or.inl ⟨by rfl, ?_⟩) bd ?_
                rotate_left
                · intro w hSw
                  have f1 := (hSw.cell (p := ⟨gb, 0, none⟩) ltb).trans k0
                  have f2 := (hSw.cell (p := ⟨gb, 1, none⟩) ltb).trans k1
                  have f3 := (hSw.cell (p := ⟨go, j * 2, none⟩) ltg).trans c0'
                  have f4 := (hSw.cell (p := ⟨go, j * 2 + 1, none⟩) ltg).trans c1'
                  go_simp
                  try with_reducible rfl
                try simp only [Act.put, List.setIfInBounds_toArray, List.set_cons_zero, List.set_cons_succ]
                refine wpAnyH_ready (rs := [10]) (by kernel_rfl) (by simp) ?_
                refine AllReadyH.cons (o := { dst := some 28, op := Op.call { callee := Callee.value (Operand.func 52), args := #[Operand.tmp 26, Operand.tmp 27], argTypes := #[60, 60] }, type := 3, pos := "ref.go:318", after := #[{ on := 8, ground := Ground.data }, { on := 9, ground := Ground.data }, { on := 4, ground := Ground.chain }, { on := 4, ground := Ground.guard }], guard := some (4, true) }) rfl (fun K hK => ?_) AllReadyH.nil
                go_simp
                refine HZ.out.mono ?_
                rintro e w3 ⟨rfl, b3⟩
                have b4 : Below wr.heap.size wr w3 := undrew b3
                go_wp2_with (fail)
                refine hK.out _ _ b4 (fun hHeld => ?_)
                clear hK K hHeld
                try simp only [Act.put, List.setIfInBounds_toArray, List.set_cons_zero, List.set_cons_succ]
                refine wpAnyH_take (i := 11) (oi := { dst := some 29, op := Op.binOp BinOp.lss 3 (Operand.tmp 28) (Operand.const (Value.int IntKind.i64 0)) 3, type := 4, pos := "ref.go:318", after := #[{ on := 10, ground := Ground.data }, { on := 4, ground := Ground.guard }], guard := some (4, true) }) (v := ?_) rfl (by kernel_rfl) (by kernel_rfl) (by kernel_rfl) (fun _ _ _ h => h) (Or.inl ⟨by rfl, ?_⟩) b4 ?_
                rotate_left
                · intro w hSw
                  go_simp
                  try with_reducible rfl
                try simp only [Act.put, List.setIfInBounds_toArray, List.set_cons_zero, List.set_cons_succ]
                refine wpAnyH_take (i := 12) (oi := { dst := some 30, op := Op.pick (Operand.tmp 22) (Operand.tmp 29) (Operand.const (Value.bool false)), type := 4, pos := "ref.go:318", after := #[{ on := 4, ground := Ground.data }, { on := 11, ground := Ground.data }], guard := none }) (v := ?_) rfl (by kernel_rfl) (by kernel_rfl) (by kernel_rfl) (fun _ _ _ h => h) (Or.inl ⟨by rfl, ?_⟩) b4 ?_
                rotate_left
                · intro w hSw
                  go_simp
                  try with_reducible rfl
                try simp only [Act.put, List.setIfInBounds_toArray, List.set_cons_zero, List.set_cons_succ]
                refine wpAnyH_done (by kernel_rfl) ?_ _
                have HB3 := Lib.hid (HBV.out.trans (b4.mono HBV.out.size))
                clear b3 b4 HZ
                clear c0' c1' k0 k1 bd
                go_wp2
                go_meet
                exact ⟨j, by omega, rfl, HB3, HSP⟩
            · obtain rfl : m = j := by omega
              have HSP : Hid (spotS (linAt s k) (lins ls) = m) := Lib.hid (spotS_of (by rw [lins_len, HT2.out.num]; omega) HLT.out (fun h => by rw [lins_len, HT2.out.num] at h; omega))
              go_wp2_with (fail)
              refine wp_region_held_drew (S := fun w' => Below wr.heap.size wr w') (by kernel_rfl) bd (fun hHeld => ?_)
              clear hHeld
              refine wpAnyH_take (i := 0) (oi := { dst := some 18, op := Op.move (Operand.tmp 7), type := 3, pos := "ref.go:318", after := #[], guard := none }) (v := ?_) rfl (by kernel_rfl) (by kernel_rfl) (by kernel_rfl) (fun _ _ _ h => h) (Or.inl ⟨by rfl, ?_⟩) bd ?_
              rotate_left
              · intro w hSw
                go_simp
                try with_reducible rfl
              try simp only [Act.put, List.setIfInBounds_toArray, List.set_cons_zero, List.set_cons_succ]
              refine wpAnyH_take (i := 1) (oi := { dst := some 19, op := Op.move (Operand.tmp 4), type := 32, pos := "ref.go:318", after := #[], guard := none }) (v := ?_) rfl (by kernel_rfl) (by kernel_rfl) (by kernel_rfl) (fun _ _ _ h => h) (Or.inl ⟨by rfl, ?_⟩) bd ?_
              rotate_left
              · intro w hSw
                go_simp
                try with_reducible rfl
              try simp only [Act.put, List.setIfInBounds_toArray, List.set_cons_zero, List.set_cons_succ]
              refine wpAnyH_take (i := 2) (oi := { dst := some 20, op := Op.call { callee := Callee.builtin Builtin.len, args := #[Operand.tmp 19], argTypes := #[32] }, type := 3, pos := "ref.go:318", after := #[{ on := 1, ground := Ground.data }], guard := none }) (v := ?_) rfl (by kernel_rfl) (by kernel_rfl) (by kernel_rfl) (fun _ _ _ h => h) (Or.inl ⟨by rfl, ?_⟩) bd ?_
              rotate_left
              · intro w hSw
                go_simp
                try with_reducible rfl
              try simp only [Act.put, List.setIfInBounds_toArray, List.set_cons_zero, List.set_cons_succ]
              refine wpAnyH_take (i := 3) (oi := { dst := some 21, op := Op.binOp BinOp.lss 3 (Operand.tmp 18) (Operand.tmp 20) 3, type := 4, pos := "ref.go:318", after := #[{ on := 0, ground := Ground.data }, { on := 2, ground := Ground.data }], guard := none }) (v := ?_) rfl (by kernel_rfl) (by kernel_rfl) (by kernel_rfl) (fun _ _ _ h => h) (Or.inl ⟨by rfl, ?_⟩) bd ?_
              rotate_left
              · intro w hSw
                go_simp
                try with_reducible rfl
              try simp only [Act.put, List.setIfInBounds_toArray, List.set_cons_zero, List.set_cons_succ]
              refine wpAnyH_take (i := 4) (oi := { dst := some 22, op := Op.move (Operand.tmp 21), type := 4, pos := "ref.go:318", after := #[{ on := 3, ground := Ground.data }], guard := none }) (v := ?_) rfl (by kernel_rfl) (by kernel_rfl) (by kernel_rfl) (fun _ _ _ h => h) (Or.inl ⟨by rfl, ?_⟩) bd ?_
              rotate_left
              · intro w hSw
                go_simp
                try with_reducible rfl
              try simp only [Act.put, List.setIfInBounds_toArray, List.set_cons_zero, List.set_cons_succ]
              refine wpAnyH_take (i := 5) (oi := { dst := some 23, op := Op.move (Operand.tmp 4), type := 32, pos := "ref.go:318", after := #[{ on := 4, ground := Ground.guard }], guard := some (4, true) }) (v := undef) rfl (by kernel_rfl) (by kernel_rfl) (by kernel_rfl) (fun _ _ _ h => h) (Or.inr ⟨by rfl, rfl⟩) bd ?_
              try simp only [Act.put, List.setIfInBounds_toArray, List.set_cons_zero, List.set_cons_succ]
              refine wpAnyH_take (i := 6) (oi := { dst := some 24, op := Op.move (Operand.tmp 7), type := 3, pos := "ref.go:318", after := #[{ on := 4, ground := Ground.guard }], guard := some (4, true) }) (v := undef) rfl (by kernel_rfl) (by kernel_rfl) (by kernel_rfl) (fun _ _ _ h => h) (Or.inr ⟨by rfl, rfl⟩) bd ?_
              try simp only [Act.put, List.setIfInBounds_toArray, List.set_cons_zero, List.set_cons_succ]
              refine wpAnyH_take (i := 7) (oi := { dst := some 25, op := Op.indexAddr 32 (Operand.tmp 23) (Operand.tmp 24), type := 0, pos := "ref.go:318", after := #[{ on := 5, ground := Ground.data }, { on := 6, ground := Ground.data }, { on := 4, ground := Ground.guard }], guard := some (4, true) }) (v := undef) rfl (by kernel_rfl) (by kernel_rfl) (by kernel_rfl) (fun _ _ _ h => h) (Or.inr ⟨by rfl, rfl⟩) bd ?_
              try simp only [Act.put, List.setIfInBounds_toArray, List.set_cons_zero, List.set_cons_succ]
              refine wpAnyH_take (i := 8) (oi := { dst := some 26, op := Op.load 60 (Operand.tmp 25), type := 60, pos := "ref.go:318", after := #[{ on := 7, ground := Ground.data }, { on := 4, ground := Ground.guard }], guard := some (4, true) }) (v := undef) rfl (by kernel_rfl) (by kernel_rfl) (by kernel_rfl) (fun _ _ _ h => h) (Or.inr ⟨by rfl, rfl⟩) bd ?_
              try simp only [Act.put, List.setIfInBounds_toArray, List.set_cons_zero, List.set_cons_succ]
              refine wpAnyH_take (i := 9) (oi := { dst := some 27, op := Op.load 60 (Operand.tmp 6), type := 60, pos := "ref.go:318", after := #[{ on := 4, ground := Ground.guard }], guard := some (4, true) }) (v := undef) rfl (by kernel_rfl) (by kernel_rfl) (by kernel_rfl) (fun _ _ _ h => h) (Or.inr ⟨by rfl, rfl⟩) bd ?_
              try simp only [Act.put, List.setIfInBounds_toArray, List.set_cons_zero, List.set_cons_succ]
              refine wpAnyH_take (i := 10) (oi := { dst := some 28, op := Op.call { callee := Callee.value (Operand.func 52), args := #[Operand.tmp 26, Operand.tmp 27], argTypes := #[60, 60] }, type := 3, pos := "ref.go:318", after := #[{ on := 8, ground := Ground.data }, { on := 9, ground := Ground.data }, { on := 4, ground := Ground.chain }, { on := 4, ground := Ground.guard }], guard := some (4, true) }) (v := undef) rfl (by kernel_rfl) (by kernel_rfl) (by kernel_rfl) (fun _ _ _ h => h) (Or.inr ⟨by rfl, rfl⟩) bd ?_
              try simp only [Act.put, List.setIfInBounds_toArray, List.set_cons_zero, List.set_cons_succ]
              refine wpAnyH_take (i := 11) (oi := { dst := some 29, op := Op.binOp BinOp.lss 3 (Operand.tmp 28) (Operand.const (Value.int IntKind.i64 0)) 3, type := 4, pos := "ref.go:318", after := #[{ on := 10, ground := Ground.data }, { on := 4, ground := Ground.guard }], guard := some (4, true) }) (v := undef) rfl (by kernel_rfl) (by kernel_rfl) (by kernel_rfl) (fun _ _ _ h => h) (Or.inr ⟨by rfl, rfl⟩) bd ?_
              try simp only [Act.put, List.setIfInBounds_toArray, List.set_cons_zero, List.set_cons_succ]
              refine wpAnyH_take (i := 12) (oi := { dst := some 30, op := Op.pick (Operand.tmp 22) (Operand.tmp 29) (Operand.const (Value.bool false)), type := 4, pos := "ref.go:318", after := #[{ on := 4, ground := Ground.data }, { on := 11, ground := Ground.data }], guard := none }) (v := ?_) rfl (by kernel_rfl) (by kernel_rfl) (by kernel_rfl) (fun _ _ _ h => h) (Or.inl ⟨by rfl, ?_⟩) bd ?_
              rotate_left
              · intro w hSw
                go_simp
                try with_reducible rfl
              try simp only [Act.put, List.setIfInBounds_toArray, List.set_cons_zero, List.set_cons_succ]
              refine wpAnyH_done (by kernel_rfl) ?_ _
              have HB3 := Lib.hid (HBV.out.trans (bd.mono HBV.out.size))
              clear bd
              go_wp2
              go_meet
              exact ⟨m, by omega, rfl, HB3, HSP⟩
        case rest =>
          obtain ⟨j, hj, rfl, HBV, HSP⟩ := hcut
          obtain ⟨dup, hdup⟩ : ∃ dup : Bool, dup = (decide (j < m) && decide (cmpLin (linAt (lins ls) j) (linAt s k) = 0)) := ⟨_, rfl⟩
          have HDU := Lib.hid hdup
          clear hdup
          go_upto_region 10 with (fail)
          go_cut [45] from 12 to 59 (fun p wx => p = .bool dup ∧ Hid (Below w1.heap.size w1 wx))
          case first =>
            generalize wc = wr at HBV ⊢
            have HT2 := Lib.hid (HT1.out.below HBV.out)
            have HL2 := Lib.hid (HLB.out.below HBV.out HLB.out.lt)
            have HX2 := Lib.hid (HX1.out.below HBV.out)
            have HP2 := Lib.hid (HP1.out.below HBV.out)
            have bd : Below wr.heap.size wr wr.drew := ⟨rfl, rfl, rfl, Nat.le_refl _, fun _ _ => rfl⟩
            by_cases hjm : j < m
            · obtain ⟨go, b2, d2, pb2, pd2, e2, c0', c1', r2, t2⟩ := (show Lins wr oa oc (lins ls) from ⟨ls, rfl, HT2.out.row⟩).at (k := j) (by rw [lins_len, HT2.out.num]; exact hjm)
              have ltg := HT2.out.row.row.lt e2
              have k0 := HL2.out.cell 0
              have k1 := HL2.out.cell 1
              simp only [List.getElem?_cons_zero, List.getElem?_cons_succ] at k0 k1
              have ltb := HL2.out.lt
              have Z := compareLin_any b2 pb2 b pb d2 pd2 d pd (linAt (lins ls) j) (linAt s k) wr.drew (r2.below bd) (t2.below bd) (HX2.out.below bd) (HP2.out.below bd)
              rw [HU0.out, HU1.out] at Z
              generalize (linAt (lins ls) j).base.length = u2 at c0' Z
              generalize (linAt (lins ls) j).ps.length = u3 at c1' Z
              generalize hcv : cmpLin (linAt (lins ls) j) (linAt s k) = cv at Z
              have HCV := Lib.hid hcv
              have HZ := Lib.hid Z
              have HOA := Lib.hid e2
              clear Z r2 t2 hcv
              have q5 : j < oc := by omega
              subst e2
              have HDUP : Hid (dup = decide (cv = 0)) := Lib.hid (by rw [HDU.out, HCV.out]; simp [hjm])
              by_cases h0 : cv = 0
              · subst h0
                have q8 : Hid (dup = true) := Lib.hid (by rw [HDUP.out]; rfl)
                refine wp_region_held_drew (S := fun w' => Below wr.heap.size wr w') (by kernel_rfl) bd (fun hHeld => ?_)
                clear hHeld
                refine wpAnyH_take (i := 0) (oi := { dst := some 33, op := Op.move (Operand.tmp 7), type := 3, pos := "ref.go:321", after := #[], guard := none }) (v := ?_) rfl (by kernel_rfl) (by kernel_rfl) (by kernel_rfl) (fun _ _ _ h => h) (Or.inl ⟨by rfl, ?_⟩) bd ?_
                rotate_left
                · intro w hSw
                  go_simp
                  try with_reducible rfl
                try simp only [Act.put, List.setIfInBounds_toArray, List.set_cons_zero, List.set_cons_succ]
                refine wpAnyH_take (i := 1) (oi := { dst := some 34, op := Op.move (Operand.tmp 4), type := 32, pos := "ref.go:321", after := #[], guard := none }) (v := ?_) rfl (by kernel_rfl) (by kernel_rfl) (by kernel_rfl) (fun _ _ _ h => h) (Or.inl ⟨by rfl, ?_⟩) bd ?_
                rotate_left
                · intro w hSw
                  go_simp
                  try with_reducible rfl
                try simp only [Act.put, List.setIfInBounds_toArray, List.set_cons_zero, List.set_cons_succ]
                refine wpAnyH_take (i := 2) (oi := { dst := some 35, op := Op.call { callee := Callee.builtin Builtin.len, args := #[Operand.tmp 34], argTypes := #[32] }, type := 3, pos := "ref.go:321", after := #[{ on := 1, ground := Ground.data }], guard := none }) (v := ?_) rfl (by kernel_rfl) (by kernel_rfl) (by kernel_rfl) (fun _ _ _ h => h) (Or.inl ⟨by rfl, ?_⟩) bd ?_
                rotate_left
                · intro w hSw
                  go_simp
                  try with_reducible rfl
                try simp only [Act.put, List.setIfInBounds_toArray, List.set_cons_zero, List.set_cons_succ]
                refine wpAnyH_take (i := 3) (oi := { dst := some 36, op := Op.binOp BinOp.lss 3 (Operand.tmp 33) (Operand.tmp 35) 3, type := 4, pos := "ref.go:321", after := #[{ on := 0, ground := Ground.data }, { on := 2, ground := Ground.data }], guard := none }) (v := ?_) rfl (by kernel_rfl) (by kernel_rfl) (by kernel_rfl) (fun _ _ _ h => h) (Or.inl ⟨by rfl, ?_⟩) bd ?_
                rotate_left
                · intro w hSw
                  go_simp
                  try with_reducible rfl
                try simp only [Act.put, List.setIfInBounds_toArray, List.set_cons_zero, List.set_cons_succ]
                refine wpAnyH_take (i := 4) (oi := { dst := some 37, op := Op.move (Operand.tmp 36), type := 4, pos := "ref.go:321", after := #[{ on := 3, ground := Ground.data }], guard := none }) (v := ?_) rfl (by kernel_rfl) (by kernel_rfl) (by kernel_rfl) (fun _ _ _ h => h) (Or.inl ⟨by rfl, ?_⟩) bd ?_
                rotate_left
                · intro w hSw
                  go_simp
                  try with_reducible rfl
                try simp only [Act.put, List.setIfInBounds_toArray, List.set_cons_zero, List.set_cons_succ]
                refine wpAnyH_take (i := 5) (oi := { dst := some 38, op := Op.move (Operand.tmp 4), type := 32, pos := "ref.go:321", after := #[{ on := 4, ground := Ground.guard }], guard := some (4, true) }) (v := ?_) rfl (by kernel_rfl) (by kernel_rfl) (by kernel_rfl) (fun _ _ _ h => h) (Or.inl ⟨by rfl, ?_⟩) bd ?_
                rotate_left
                · intro w hSw
                  go_simp
                  try with_reducible rfl
                try simp only [Act.put, List.setIfInBounds_toArray, List.set_cons_zero, List.set_cons_succ]
                refine wpAnyH_take (i := 6) (oi := { dst := some 39, op := Op.move (Operand.tmp 7), type := 3, pos := "ref.go:321", after := #[{ on := 4, ground := Ground.guard }], guard := some (4, true) }) (v := ?_) rfl (by kernel_rfl) (by kernel_rfl) (by kernel_rfl) (fun _ _ _ h => h) (Or.inl ⟨by rfl, ?_⟩) bd ?_
                rotate_left
                · intro w hSw
                  go_simp
                  try with_reducible rfl
                try simp only [Act.put, List.setIfInBounds_toArray, List.set_cons_zero, List.set_cons_succ]
                refine wpAnyH_take (i := 7) (oi := { dst := some 40, op := Op.indexAddr 32 (Operand.tmp 38) (Operand.tmp 39), type := 0, pos := "ref.go:321", after := #[{ on := 5, ground := Ground.data }, { on := 6, ground := Ground.data }, { on := 4, ground := Ground.guard }], guard := some (4, true) }) (v := ?_) rfl (by kernel_rfl) (by kernel_rfl) (by kernel_rfl) (fun _ _ _ h => h) (Or.inl ⟨by rfl, ?_⟩) bd ?_
                rotate_left
                · intro w hSw
                  go_simp
                  try with_reducible rfl
                try simp only [Act.put, List.setIfInBounds_toArray, List.set_cons_zero, List.set_cons_succ]
                refine wpAnyH_take (i := 8) (oi := { dst := some 41, op := Op.load 60 (Operand.tmp 40), type := 60, pos := "ref.go:321", after := #[{ on := 7, ground := Ground.data }, { on := 4, ground := Ground.guard }], guard := some (4, true) }) (v := ?_) rfl (by kernel_rfl) (by kernel_rfl) (by kernel_rfl) (fun _ _ _ h => h) (Or.inl ⟨by rfl, ?_⟩) bd ?_
                rotate_left
                · intro w hSw
                  have f1 := (hSw.cell (p := ⟨gb, 0, none⟩) ltb).trans k0
                  have f2 := (hSw.cell (p := ⟨gb, 1, none⟩) ltb).trans k1
                  have f3 := (hSw.cell (p := ⟨go, j * 2, none⟩) ltg).trans c0'
                  have f4 := (hSw.cell (p := ⟨go, j * 2 + 1, none⟩) ltg).trans c1'
                  go_simp
                  try with_reducible rfl
                try simp only [Act.put, List.setIfInBounds_toArray, List.set_cons_zero, List.set_cons_succ]
                refine wpAnyH_take (i := 9) (oi := { dst := some 42, op := Op.load 60 (Operand.tmp 6), type := 60, pos := "ref.go:321", after := #[{ on := 4, ground := Ground.guard }], guard := some (4, true) }) (v := ?_) rfl (by kernel_rfl) (by kernel_rfl) (by kernel_rfl) (fun _ _ _ h => h) (Or.inl ⟨by rfl, ?_⟩) bd ?_
                rotate_left
                · intro w hSw
                  have f1 := (hSw.cell (p := ⟨gb, 0, none⟩) ltb).trans k0
                  have f2 := (hSw.cell (p := ⟨gb, 1, none⟩) ltb).trans k1
                  have f3 := (hSw.cell (p := ⟨go, j * 2, none⟩) ltg).trans c0'
                  have f4 := (hSw.cell (p := ⟨go, j * 2 + 1, none⟩) ltg).trans c1'
                  go_simp
                  try with_reducible rfl
                try simp only [Act.put, List.setIfInBounds_toArray, List.set_cons_zero, List.set_cons_succ]
                refine wpAnyH_ready (rs := [10]) (by kernel_rfl) (by simp) ?_
                refine AllReadyH.cons (o := { dst := some 43, op := Op.call { callee := Callee.value (Operand.func 52), args := #[Operand.tmp 41, Operand.tmp 42], argTypes := #[60, 60] }, type := 3, pos := "ref.go:321", after := #[{ on := 8, ground := Ground.data }, { on := 9, ground := Ground.data }, { on := 4, ground := Ground.chain }, { on := 4, ground := Ground.guard }], guard := some (4, true) }) rfl (fun K hK => ?_) AllReadyH.nil
                go_simp
                refine HZ.out.mono ?_
                rintro e w3 ⟨rfl, b3⟩
                have b4 : Below wr.heap.size wr w3 := undrew b3
                go_wp2_with (fail)
                refine hK.out _ _ b4 (fun hHeld => ?_)
                clear hK K hHeld
                try simp only [Act.put, List.setIfInBounds_toArray, List.set_cons_zero, List.set_cons_succ]
                refine wpAnyH_take (i := 11) (oi := { dst := some 44, op := Op.binOp BinOp.eql 3 (Operand.tmp 43) (Operand.const (Value.int IntKind.i64 0)) 3, type := 4, pos := "ref.go:321", after := #[{ on := 10, ground := Ground.data }, { on := 4, ground := Ground.guard }], guard := some (4, true) }) (v := ?_) rfl (by kernel_rfl) (by kernel_rfl) (by kernel_rfl) (fun _ _ _ h => h) (Or.inl ⟨by rfl, ?_⟩) b4 ?_
                rotate_left
                · intro w hSw
                  go_simp
                  try with_reducible rfl
                try simp only [Act.put, List.setIfInBounds_toArray, List.set_cons_zero, List.set_cons_succ]
                refine wpAnyH_take (i := 12) (oi := { dst := some 45, op := Op.pick (Operand.tmp 37) (Operand.tmp 44) (Operand.const (Value.bool false)), type := 4, pos := "ref.go:321", after := #[{ on := 4, ground := Ground.data }, { on := 11, ground := Ground.data }], guard := none }) (v := ?_) rfl (by kernel_rfl) (by kernel_rfl) (by kernel_rfl) (fun _ _ _ h => h) (Or.inl ⟨by rfl, ?_⟩) b4 ?_
                rotate_left
                · intro w hSw
                  go_simp
                  try with_reducible rfl
                try simp only [Act.put, List.setIfInBounds_toArray, List.set_cons_zero, List.set_cons_succ]
                refine wpAnyH_done (by kernel_rfl) ?_ _
                have HB3 := Lib.hid (HBV.out.trans (b4.mono HBV.out.size))
                clear b3 b4 HZ
                clear c0' c1' k0 k1 bd
                go_wp2
                go_meet
                exact ⟨by rw [q8.out], HB3⟩
              · have q7 : (cv == 0) = false := by simpa using h0
                have q8 : Hid (dup = false) := Lib.hid (by rw [HDUP.out]; simpa using h0)
                refine wp_region_held_drew (S := fun w' => Below wr.heap.size wr w') (by kernel_rfl) bd (fun hHeld => ?_)
                clear hHeld
                refine wpAnyH_take (i := 0) (oi := { dst := some 33, op := Op.move (Operand.tmp 7), type := 3, pos := "ref.go:321", after := #[], guard := none }) (v := ?_) rfl (by kernel_rfl) (by kernel_rfl) (by kernel_rfl) (fun _ _ _ h => h) (Or.inl ⟨by rfl, ?_⟩) bd ?_
                rotate_left
                · intro w hSw
                  go_simp
                  try with_reducible rfl
                try simp only [Act.put, List.setIfInBounds_toArray, List.set_cons_zero, List.set_cons_succ]
                refine wpAnyH_take (i := 1) (oi := { dst := some 34, op := Op.move (Operand.tmp 4), type := 32, pos := "ref.go:321", after := #[], guard := none }) (v := ?_) rfl (by kernel_rfl) (by kernel_rfl) (by kernel_rfl) (fun _ _ _ h => h) (Or.inl ⟨by rfl, ?_⟩) bd ?_
                rotate_left
                · intro w hSw
                  go_simp
                  try with_reducible rfl
                try simp only [Act.put, List.setIfInBounds_toArray, List.set_cons_zero, List.set_cons_succ]
                refine wpAnyH_take (i := 2) (oi := { dst := some 35, op := Op.call { callee := Callee.builtin Builtin.len, args := #[Operand.tmp 34], argTypes := #[32] }, type := 3, pos := "ref.go:321", after := #[{ on := 1, ground := Ground.data }], guard := none }) (v := ?_) rfl (by kernel_rfl) (by kernel_rfl) (by kernel_rfl) (fun _ _ _ h => h) (Or.inl ⟨by rfl, ?_⟩) bd ?_
                rotate_left
                · intro w hSw
                  go_simp
                  try with_reducible rfl
                try simp only [Act.put, List.setIfInBounds_toArray, List.set_cons_zero, List.set_cons_succ]
                refine wpAnyH_take (i := 3) (oi := { dst := some 36, op := Op.binOp BinOp.lss 3 (Operand.tmp 33) (Operand.tmp 35) 3, type := 4, pos := "ref.go:321", after := #[{ on := 0, ground := Ground.data }, { on := 2, ground := Ground.data }], guard := none }) (v := ?_) rfl (by kernel_rfl) (by kernel_rfl) (by kernel_rfl) (fun _ _ _ h => h) (Or.inl ⟨by rfl, ?_⟩) bd ?_
                rotate_left
                · intro w hSw
                  go_simp
                  try with_reducible rfl
                try simp only [Act.put, List.setIfInBounds_toArray, List.set_cons_zero, List.set_cons_succ]
                refine wpAnyH_take (i := 4) (oi := { dst := some 37, op := Op.move (Operand.tmp 36), type := 4, pos := "ref.go:321", after := #[{ on := 3, ground := Ground.data }], guard := none }) (v := ?_) rfl (by kernel_rfl) (by kernel_rfl) (by kernel_rfl) (fun _ _ _ h => h) (Or.inl ⟨by rfl, ?_⟩) bd ?_
                rotate_left
                · intro w hSw
                  go_simp
                  try with_reducible rfl
                try simp only [Act.put, List.setIfInBounds_toArray, List.set_cons_zero, List.set_cons_succ]
                refine wpAnyH_take (i := 5) (oi := { dst := some 38, op := Op.move (Operand.tmp 4), type := 32, pos := "ref.go:321", after := #[{ on := 4, ground := Ground.guard }], guard := some (4, true) }) (v := ?_) rfl (by kernel_rfl) (by kernel_rfl) (by kernel_rfl) (fun _ _ _ h => h) (Or.inl ⟨by rfl, ?_⟩) bd ?_
                rotate_left
                · intro w hSw
                  go_simp
                  try with_reducible rfl
                try simp only [Act.put, List.setIfInBounds_toArray, List.set_cons_zero, List.set_cons_succ]
                refine wpAnyH_take (i := 6) (oi := { dst := some 39, op := Op.move (Operand.tmp 7), type := 3, pos := "ref.go:321", after := #[{ on := 4, ground := Ground.guard }], guard := some (4, true) }) (v := ?_) rfl (by kernel_rfl) (by kernel_rfl) (by kernel_rfl) (fun _ _ _ h => h) (Or.inl ⟨by rfl, ?_⟩) bd ?_
                rotate_left
                · intro w hSw
                  go_simp
                  try with_reducible rfl
                try simp only [Act.put, List.setIfInBounds_toArray, List.set_cons_zero, List.set_cons_succ]
                refine wpAnyH_take (i := 7) (oi := { dst := some 40, op := Op.indexAddr 32 (Operand.tmp 38) (Operand.tmp 39), type := 0, pos := "ref.go:321", after := #[{ on := 5, ground := Ground.data }, { on := 6, ground := Ground.data }, { on := 4, ground := Ground.guard }], guard := some (4, true) }) (v := ?_) rfl (by kernel_rfl) (by kernel_rfl) (by kernel_rfl) (fun _ _ _ h => h) (Or.inl ⟨by rfl, ?_⟩) bd ?_
                rotate_left
                · intro w hSw
                  go_simp
                  try with_reducible rfl
                try simp only [Act.put, List.setIfInBounds_toArray, List.set_cons_zero, List.set_cons_succ]
                refine wpAnyH_take (i := 8) (oi := { dst := some 41, op := Op.load 60 (Operand.tmp 40), type := 60, pos := "ref.go:321", after := #[{ on := 7, ground := Ground.data }, { on := 4, ground := Ground.guard }], guard := some (4, true) }) (v := ?_) rfl (by kernel_rfl) (by kernel_rfl) (by kernel_rfl) (fun _ _ _ h => h) (Or.inl ⟨by rfl, ?_⟩) bd ?_
                rotate_left
                · intro w hSw
                  have f1 := (hSw.cell (p := ⟨gb, 0, none⟩) ltb).trans k0
                  have f2 := (hSw.cell (p := ⟨gb, 1, none⟩) ltb).trans k1
                  have f3 := (hSw.cell (p := ⟨go, j * 2, none⟩) ltg).trans c0'
                  have f4 := (hSw.cell (p := ⟨go, j * 2 + 1, none⟩) ltg).trans c1'
                  go_simp
                  try with_reducible rfl
                try simp only [Act.put, List.setIfInBounds_toArray, List.set_cons_zero, List.set_cons_succ]
                refine wpAnyH_take (i := 9) (oi := { dst := some 42, op := Op.load 60 (Operand.tmp 6), type := 60, pos := "ref.go:321", after := #[{ on := 4, ground := Ground.guard }], guard := some (4, true) }) (v := ?_) rfl (by kernel_rfl) (by kernel_rfl) (by kernel_rfl) (fun _ _ _ h => h) (Or.inl ⟨by rfl, ?_⟩) bd ?_
                rotate_left
                · intro w hSw
                  have f1 := (hSw.cell (p := ⟨gb, 0, none⟩) ltb).trans k0
                  have f2 := (hSw.cell (p := ⟨gb, 1, none⟩) ltb).trans k1
                  have f3 := (hSw.cell (p := ⟨go, j * 2, none⟩) ltg).trans c0'
                  have f4 := (hSw.cell (p := ⟨go, j * 2 + 1, none⟩) ltg).trans c1'
                  go_simp
                  try with_reducible rfl
                try simp only [Act.put, List.setIfInBounds_toArray, List.set_cons_zero, List.set_cons_succ]
                refine wpAnyH_ready (rs := [10]) (by kernel_rfl) (by simp) ?_
                refine AllReadyH.cons (o := { dst := some 43, op := Op.call { callee := Callee.value (Operand.func 52), args := #[Operand.tmp 41, Operand.tmp 42], argTypes := #[60, 60] }, type := 3, pos := "ref.go:321", after := #[{ on := 8, ground := Ground.data }, { on := 9, ground := Ground.data }, { on := 4, ground := Ground.chain }, { on := 4, ground := Ground.guard }], guard := some (4, true) }) rfl (fun K hK => ?_) AllReadyH.nil
                go_simp
                refine HZ.out.mono ?_
                rintro e w3 ⟨rfl, b3⟩
                have b4 : Below wr.heap.size wr w3 := undrew b3
                go_wp2_with (fail)
                refine hK.out _ _ b4 (fun hHeld => ?_)
                clear hK K hHeld
                try simp only [Act.put, List.setIfInBounds_toArray, List.set_cons_zero, List.set_cons_succ]
                refine wpAnyH_take (i := 11) (oi := { dst := some 44, op := Op.binOp BinOp.eql 3 (Operand.tmp 43) (Operand.const (Value.int IntKind.i64 0)) 3, type := 4, pos := "ref.go:321", after := #[{ on := 10, ground := Ground.data }, { on := 4, ground := Ground.guard }], guard := some (4, true) }) (v := ?_) rfl (by kernel_rfl) (by kernel_rfl) (by kernel_rfl) (fun _ _ _ h => h) (Or.inl ⟨by rfl, ?_⟩) b4 ?_
                rotate_left
                · intro w hSw
                  go_simp
                  try with_reducible rfl
                try simp only [Act.put, List.setIfInBounds_toArray, List.set_cons_zero, List.set_cons_succ]
                refine wpAnyH_take (i := 12) (oi := { dst := some 45, op := Op.pick (Operand.tmp 37) (Operand.tmp 44) (Operand.const (Value.bool false)), type := 4, pos := "ref.go:321", after := #[{ on := 4, ground := Ground.data }, { on := 11, ground := Ground.data }], guard := none }) (v := ?_) rfl (by kernel_rfl) (by kernel_rfl) (by kernel_rfl) (fun _ _ _ h => h) (Or.inl ⟨by rfl, ?_⟩) b4 ?_
                rotate_left
                · intro w hSw
                  go_simp
                  try with_reducible rfl
                try simp only [Act.put, List.setIfInBounds_toArray, List.set_cons_zero, List.set_cons_succ]
                refine wpAnyH_done (by kernel_rfl) ?_ _
                have HB3 := Lib.hid (HBV.out.trans (b4.mono HBV.out.size))
                clear b3 b4 HZ
                clear c0' c1' k0 k1 bd
                go_wp2
                go_meet
                exact ⟨by rw [q8.out], HB3⟩
            · have q8 : Hid (dup = false) := Lib.hid (by rw [HDU.out]; simp [hjm])
              obtain rfl : m = j := by omega
              refine wp_region_held_drew (S := fun w' => Below wr.heap.size wr w') (by kernel_rfl) bd (fun hHeld => ?_)
              clear hHeld
              refine wpAnyH_take (i := 0) (oi := { dst := some 33, op := Op.move (Operand.tmp 7), type := 3, pos := "ref.go:321", after := #[], guard := none }) (v := ?_) rfl (by kernel_rfl) (by kernel_rfl) (by kernel_rfl) (fun _ _ _ h => h) (Or.inl ⟨by rfl, ?_⟩) bd ?_
              rotate_left
              · intro w hSw
                go_simp
                try with_reducible rfl
              try simp only [Act.put, List.setIfInBounds_toArray, List.set_cons_zero, List.set_cons_succ]
              refine wpAnyH_take (i := 1) (oi := { dst := some 34, op := Op.move (Operand.tmp 4), type := 32, pos := "ref.go:321", after := #[], guard := none }) (v := ?_) rfl (by kernel_rfl) (by kernel_rfl) (by kernel_rfl) (fun _ _ _ h => h) (Or.inl ⟨by rfl, ?_⟩) bd ?_
              rotate_left
              · intro w hSw
                go_simp
                try with_reducible rfl
              try simp only [Act.put, List.setIfInBounds_toArray, List.set_cons_zero, List.set_cons_succ]
              refine wpAnyH_take (i := 2) (oi := { dst := some 35, op := Op.call { callee := Callee.builtin Builtin.len, args := #[Operand.tmp 34], argTypes := #[32] }, type := 3, pos := "ref.go:321", after := #[{ on := 1, ground := Ground.data }], guard := none }) (v := ?_) rfl (by kernel_rfl) (by kernel_rfl) (by kernel_rfl) (fun _ _ _ h => h) (Or.inl ⟨by rfl, ?_⟩) bd ?_
              rotate_left
              · intro w hSw
                go_simp
                try with_reducible rfl
              try simp only [Act.put, List.setIfInBounds_toArray, List.set_cons_zero, List.set_cons_succ]
              refine wpAnyH_take (i := 3) (oi := { dst := some 36, op := Op.binOp BinOp.lss 3 (Operand.tmp 33) (Operand.tmp 35) 3, type := 4, pos := "ref.go:321", after := #[{ on := 0, ground := Ground.data }, { on := 2, ground := Ground.data }], guard := none }) (v := ?_) rfl (by kernel_rfl) (by kernel_rfl) (by kernel_rfl) (fun _ _ _ h => h) (Or.inl ⟨by rfl, ?_⟩) bd ?_
              rotate_left
              · intro w hSw
                go_simp
                try with_reducible rfl
              try simp only [Act.put, List.setIfInBounds_toArray, List.set_cons_zero, List.set_cons_succ]
              refine wpAnyH_take (i := 4) (oi := { dst := some 37, op := Op.move (Operand.tmp 36), type := 4, pos := "ref.go:321", after := #[{ on := 3, ground := Ground.data }], guard := none }) (v := ?_) rfl (by kernel_rfl) (by kernel_rfl) (by kernel_rfl) (fun _ _ _ h => h) (Or.inl ⟨by rfl, ?_⟩) bd ?_
              rotate_left
              · intro w hSw
                go_simp
                try with_reducible rfl
              try simp only [Act.put, List.setIfInBounds_toArray, List.set_cons_zero, List.set_cons_succ]
              refine wpAnyH_take (i := 5) (oi := { dst := some 38, op := Op.move (Operand.tmp 4), type := 32, pos := "ref.go:321", after := #[{ on := 4, ground := Ground.guard }], guard := some (4, true) }) (v := undef) rfl (by kernel_rfl) (by kernel_rfl) (by kernel_rfl) (fun _ _ _ h => h) (Or.inr ⟨by rfl, rfl⟩) bd ?_
              try simp only [Act.put, List.setIfInBounds_toArray, List.set_cons_zero, List.set_cons_succ]
              refine wpAnyH_take (i := 6) (oi := { dst := some 39, op := Op.move (Operand.tmp 7), type := 3, pos := "ref.go:321", after := #[{ on := 4, ground := Ground.guard }], guard := some (4, true) }) (v := undef) rfl (by kernel_rfl) (by kernel_rfl) (by kernel_rfl) (fun _ _ _ h => h) (Or.inr ⟨by rfl, rfl⟩) bd ?_
              try simp only [Act.put, List.setIfInBounds_toArray, List.set_cons_zero, List.set_cons_succ]
              refine wpAnyH_take (i := 7) (oi := { dst := some 40, op := Op.indexAddr 32 (Operand.tmp 38) (Operand.tmp 39), type := 0, pos := "ref.go:321", after := #[{ on := 5, ground := Ground.data }, { on := 6, ground := Ground.data }, { on := 4, ground := Ground.guard }], guard := some (4, true) }) (v := undef) rfl (by kernel_rfl) (by kernel_rfl) (by kernel_rfl) (fun _ _ _ h => h) (Or.inr ⟨by rfl, rfl⟩) bd ?_
              try simp only [Act.put, List.setIfInBounds_toArray, List.set_cons_zero, List.set_cons_succ]
              refine wpAnyH_take (i := 8) (oi := { dst := some 41, op := Op.load 60 (Operand.tmp 40), type := 60, pos := "ref.go:321", after := #[{ on := 7, ground := Ground.data }, { on := 4, ground := Ground.guard }], guard := some (4, true) }) (v := undef) rfl (by kernel_rfl) (by kernel_rfl) (by kernel_rfl) (fun _ _ _ h => h) (Or.inr ⟨by rfl, rfl⟩) bd ?_
              try simp only [Act.put, List.setIfInBounds_toArray, List.set_cons_zero, List.set_cons_succ]
              refine wpAnyH_take (i := 9) (oi := { dst := some 42, op := Op.load 60 (Operand.tmp 6), type := 60, pos := "ref.go:321", after := #[{ on := 4, ground := Ground.guard }], guard := some (4, true) }) (v := undef) rfl (by kernel_rfl) (by kernel_rfl) (by kernel_rfl) (fun _ _ _ h => h) (Or.inr ⟨by rfl, rfl⟩) bd ?_
              try simp only [Act.put, List.setIfInBounds_toArray, List.set_cons_zero, List.set_cons_succ]
              refine wpAnyH_take (i := 10) (oi := { dst := some 43, op := Op.call { callee := Callee.value (Operand.func 52), args := #[Operand.tmp 41, Operand.tmp 42], argTypes := #[60, 60] }, type := 3, pos := "ref.go:321", after := #[{ on := 8, ground := Ground.data }, { on := 9, ground := Ground.data }, { on := 4, ground := Ground.chain }, { on := 4, ground := Ground.guard }], guard := some (4, true) }) (v := undef) rfl (by kernel_rfl) (by kernel_rfl) (by kernel_rfl) (fun _ _ _ h => h) (Or.inr ⟨by rfl, rfl⟩) bd ?_
              try simp only [Act.put, List.setIfInBounds_toArray, List.set_cons_zero, List.set_cons_succ]
              refine wpAnyH_take (i := 11) (oi := { dst := some 44, op := Op.binOp BinOp.eql 3 (Operand.tmp 43) (Operand.const (Value.int IntKind.i64 0)) 3, type := 4, pos := "ref.go:321", after := #[{ on := 10, ground := Ground.data }, { on := 4, ground := Ground.guard }], guard := some (4, true) }) (v := undef) rfl (by kernel_rfl) (by kernel_rfl) (by kernel_rfl) (fun _ _ _ h => h) (Or.inr ⟨by rfl, rfl⟩) bd ?_
              try simp only [Act.put, List.setIfInBounds_toArray, List.set_cons_zero, List.set_cons_succ]
              refine wpAnyH_take (i := 12) (oi := { dst := some 45, op := Op.pick (Operand.tmp 37) (Operand.tmp 44) (Operand.const (Value.bool false)), type := 4, pos := "ref.go:321", after := #[{ on := 4, ground := Ground.data }, { on := 11, ground := Ground.data }], guard := none }) (v := ?_) rfl (by kernel_rfl) (by kernel_rfl) (by kernel_rfl) (fun _ _ _ h => h) (Or.inl ⟨by rfl, ?_⟩) bd ?_
              rotate_left
              · intro w hSw
                go_simp
                try with_reducible rfl
              try simp only [Act.put, List.setIfInBounds_toArray, List.set_cons_zero, List.set_cons_succ]
              refine wpAnyH_done (by kernel_rfl) ?_ _
              have HB3 := Lib.hid (HBV.out.trans (bd.mono HBV.out.size))
              clear bd
              go_wp2
              go_meet
              exact ⟨by rw [q8.out], HB3⟩
          case rest =>
            obtain ⟨rfl, HBV⟩ := hcut
            generalize wc = wr at HBV ⊢
            have HT2 := Lib.hid (HT1.out.below HBV.out)
            have HL2 := Lib.hid (HLB.out.below HBV.out HLB.out.lt)
            have HX2 := Lib.hid (HX1.out.below HBV.out)
            have HP2 := Lib.hid (HP1.out.below HBV.out)
            have bd : Below wr.heap.size wr wr.drew := ⟨rfl, rfl, rfl, Nat.le_refl _, fun _ _ => rfl⟩
            cases dup
            · have HNW : Hid (putS (linAt s k) (lins ls) = (lins ls).take j ++ [linAt s k] ++ (lins ls).drop j) := Lib.hid (by
                have := putS_new (b := linAt s k) (l := lins ls) (fun h => by
                  rw [HSP.out] at h ⊢
                  rw [lins_len, HT2.out.num] at h
                  have h2 := HDU.out
                  intro h3
                  rw [h3] at h2
                  simp [h] at h2)
                rwa [HSP.out] at this)
              go_upto_region 11 with (fail)
              go_cut [8] from 12 to 59 (fun p wx => ∃ (ra : Option Addr) (rc : Nat), p = .slice ra (m - j) rc ∧ Hid (Row2 wx ra rc (m - j) (lflat (ls.drop j))) ∧ Hid (From wr.heap.size ra) ∧ Hid (Below wr.heap.size wr wx))
              case first =>
                clear bd
                have hfm := HT2.out.row.row.form
                rcases hfm with rfl | ⟨go, rfl⟩
                · have hz := HT2.out.row.row
                  have hz2 : oc = 0 ∧ m = 0 := by
                    rcases hz.2 with ⟨_, h1, h2⟩ | ⟨_, _, h1, _⟩
                    · exact ⟨h1, by rw [HT2.out.num] at h2; exact h2⟩
                    · cases h1
                  obtain ⟨rfl, rfl⟩ := hz2
                  obtain rfl : j = 0 := by omega
                  clear hz
                  obtain ⟨ra, rc, w6, hr6, R6, F6, b6⟩ := HT2.out.rest (k := 0) (d := 0) (src := none) hj (by omega) (.inl ⟨rfl, rfl, rfl, rfl⟩)
                  rw [Nat.sub_self] at hr6 R6
                  have HR6 := Lib.hid R6
                  have HF6 := Lib.hid F6
                  have HB6 := Lib.hid b6
                  clear R6 F6 b6
                  go_wp2_with (at_builtin; refine Lib.wpList_append_run _ rfl _ _ _ _ rfl _ _ rfl rfl _ _ hr6 ?_)
                  go_meet
                  exact ⟨ra, rc, rfl, HR6, HF6, HB6⟩
                · by_cases hcj : oc = j
                  · obtain rfl : j = m := by omega
                    obtain rfl : oc = j := hcj
                    obtain ⟨ra, rc, w6, hr6, R6, F6, b6⟩ := HT2.out.rest (k := oc) (d := 0) (src := (some ⟨go, 0, none⟩)) hj (by omega) (.inr ⟨go, _, rfl, rfl, fun h => by omega⟩)
                    rw [Nat.sub_self] at hr6 R6
                    have HR6 := Lib.hid R6
                    have HF6 := Lib.hid F6
                    have HB6 := Lib.hid b6
                    clear R6 F6 b6
                    go_wp2_with (at_builtin; refine Lib.wpList_append_run _ rfl _ _ _ _ rfl _ _ rfl rfl _ _ hr6 ?_)
                    go_meet
                    exact ⟨ra, rc, by rw [Nat.sub_self], by rw [Nat.sub_self]; exact HR6, HF6, HB6⟩
                  · have hcj2 : j < oc := by omega
                    obtain ⟨ra, rc, w6, hr6, R6, F6, b6⟩ := HT2.out.rest (k := j) (d := (oc - j)) (src := (some ⟨go, j * 2, none⟩)) hj (by omega) (.inr ⟨go, _, rfl, rfl, fun _ => rfl⟩)
                    have HR6 := Lib.hid R6
                    have HF6 := Lib.hid F6
                    have HB6 := Lib.hid b6
                    clear R6 F6 b6
                    go_wp2_with (at_builtin; refine Lib.wpList_append_run _ rfl _ _ _ _ rfl _ _ rfl rfl _ _ hr6 ?_)
                    go_meet
                    exact ⟨ra, rc, rfl, HR6, HF6, HB6⟩
              case rest =>
                clear bd
                obtain ⟨ra, rc, rfl, HR6, HF6, HB6⟩ := hcut
                generalize wc = V6 at HR6 HB6 ⊢
                have HL6 := Lib.hid (HL2.out.below HB6.out HL2.out.lt)
                have k0 := HL6.out.cell 0
                have k1 := HL6.out.cell 1
                simp only [List.getElem?_cons_zero, List.getElem?_cons_succ] at k0 k1
                have bd : Below V6.heap.size V6 V6.drew := ⟨rfl, rfl, rfl, Nat.le_refl _, fun _ _ => rfl⟩
                have Z := copyLin_any b pb d pd (linAt s k) V6.drew ((HX2.out.below HB6.out).below bd) ((HP2.out.below HB6.out).below bd) (by have := (right_iff.1 HGX.out.1).1; omega) (goods_short HGX.out.2.1) (HPS.out k)
                rw [HU0.out, HU1.out] at Z
                have HZ := Lib.hid Z
                have q1 : (0 : Int) ≤ (j : Int) := by omega
                have q2 : (j : Int) ≤ (oc : Int) := by omega
                have q3 : j ≤ oc := by omega
                clear Z bd
                go_wp2_with (fail)
                refine wp_region_held_drew (S := fun w' => w'.cell? ⟨gb, 0, none⟩ = some (.slice b u0 d) ∧ w'.cell? ⟨gb, 1, none⟩ = some (.slice pb u1 pd)) (by kernel_rfl) ⟨k0, k1⟩ (fun hHeld => ?_)
                clear hHeld
                refine wpAnyH_take (i := 0) (oi := { dst := some 50, op := Op.move (Operand.tmp 4), type := 32, pos := "ref.go:325", after := #[], guard := none }) (v := ?_) rfl (by kernel_rfl) (by kernel_rfl) (by kernel_rfl) (fun _ _ _ h => h) (Or.inl ⟨by rfl, ?_⟩) ⟨k0, k1⟩ ?_
                rotate_left
                · intro w hSw
                  go_simp
                  try with_reducible rfl
                try simp only [Act.put, List.setIfInBounds_toArray, List.set_cons_zero, List.set_cons_succ]
                refine wpAnyH_take (i := 1) (oi := { dst := some 51, op := Op.move (Operand.tmp 7), type := 3, pos := "ref.go:325", after := #[], guard := none }) (v := ?_) rfl (by kernel_rfl) (by kernel_rfl) (by kernel_rfl) (fun _ _ _ h => h) (Or.inl ⟨by rfl, ?_⟩) ⟨k0, k1⟩ ?_
                rotate_left
                · intro w hSw
                  go_simp
                  try with_reducible rfl
                try simp only [Act.put, List.setIfInBounds_toArray, List.set_cons_zero, List.set_cons_succ]
                refine wpAnyH_take (i := 2) (oi := { dst := some 52, op := Op.slice 32 (Operand.tmp 50) none (some (Operand.tmp 51)) none, type := 32, pos := "ref.go:325", after := #[{ on := 0, ground := Ground.data }, { on := 1, ground := Ground.data }], guard := none }) (v := ?_) rfl (by kernel_rfl) (by kernel_rfl) (by kernel_rfl) (fun _ _ _ h => h) (Or.inl ⟨by rfl, ?_⟩) ⟨k0, k1⟩ ?_
                rotate_left
                · intro w hSw
                  go_simp
                  try with_reducible rfl
                try simp only [Act.put, List.setIfInBounds_toArray, List.set_cons_zero, List.set_cons_succ]
                refine wpAnyH_take (i := 3) (oi := { dst := some 53, op := Op.load 60 (Operand.tmp 6), type := 60, pos := "ref.go:325", after := #[], guard := none }) (v := ?_) rfl (by kernel_rfl) (by kernel_rfl) (by kernel_rfl) (fun _ _ _ h => h) (Or.inl ⟨by rfl, ?_⟩) ⟨k0, k1⟩ ?_
                rotate_left
                · intro w hSw
                  obtain ⟨f1, f2⟩ := hSw
                  go_simp
                  try with_reducible rfl
                try simp only [Act.put, List.setIfInBounds_toArray, List.set_cons_zero, List.set_cons_succ]
                refine wpAnyH_take (i := 7) (oi := { dst := some 57, op := Op.move (Operand.tmp 8), type := 32, pos := "ref.go:325", after := #[], guard := none }) (v := ?_) rfl (by kernel_rfl) (by kernel_rfl) (by kernel_rfl) (fun _ _ _ h => h) (Or.inl ⟨by rfl, ?_⟩) ⟨k0, k1⟩ ?_
                rotate_left
                · intro w hSw
                  go_simp
                  try with_reducible rfl
                try simp only [Act.put, List.setIfInBounds_toArray, List.set_cons_zero, List.set_cons_succ]
                refine wpAnyH_ready (rs := [4]) (by kernel_rfl) (by simp) ?_
                refine AllReadyH.cons (o := { dst := some 54, op := Op.call { callee := Callee.value (Operand.func 53), args := #[Operand.tmp 53], argTypes := #[60] }, type := 60, pos := "ref.go:325", after := #[{ on := 3, ground := Ground.data }], guard := none }) rfl (fun K hK => ?_) AllReadyH.nil
                go_simp
                refine HZ.out.mono ?_
                rintro e w7 ⟨al, cl, pl, ql, rfl, rl, tl, b7⟩
                rw [HU0.out, HU1.out]
                have b67 : Below V6.heap.size V6 w7 := undrew b7
                obtain ⟨a2, c2, w8, a5, c5, w9, hr8, hr9, T9, o9⟩ := HT2.out.ins hj (by omega) (HB6.out.trans (b67.mono HB6.out.size)) (HR6.out.below b67) HF6.out ⟨al, cl, pl, ql, linAt s k⟩ u0 u1 HU0.out HU1.out ⟨rl, tl⟩
                obtain ⟨l8, l9⟩ := o9 gb _ HL2.out HNE.out
                have HT9 := Lib.hid T9
                have m0 := (HL6.out.below b67 HL6.out.lt).cell 0
                have m1 := (HL6.out.below b67 HL6.out.lt).cell 1
                have n0 := ((HL6.out.below b67 HL6.out.lt).alloc (.cells #[.slice al u0 cl, .slice pl u1 ql] 60)).cell 0
                have n1 := ((HL6.out.below b67 HL6.out.lt).alloc (.cells #[.slice al u0 cl, .slice pl u1 ql] 60)).cell 1
                have s0 := l8.cell 0
                have s1 := l8.cell 1
                have t0 := l9.cell 0
                have t1 := l9.cell 1
                simp only [List.getElem?_cons_zero, List.getElem?_cons_succ] at m0 m1 n0 n1 s0 s1 t0 t1
                clear rl tl b7 T9 o9 l8 l9 HZ
                go_wp2_with (fail)
                refine hK.out _ _ ⟨m0, m1⟩ (fun hHeld => ?_)
                clear hK K hHeld
                try simp only [Act.put, List.setIfInBounds_toArray, List.set_cons_zero, List.set_cons_succ]
                refine wpAnyH_ready (rs := [5]) (by kernel_rfl) (by simp) ?_
                refine AllReadyH.cons (o := { dst := some 55, op := Op.buildSlice 32 1 #[(0, Operand.tmp 54)], type := 32, pos := "ref.go:325", after := #[{ on := 4, ground := Ground.data }], guard := none }) rfl (fun K hK => ?_) AllReadyH.nil
                go_simp
                refine hK.out _ _ ⟨n0, n1⟩ (fun hHeld => ?_)
                clear hK K hHeld
                try simp only [Act.put, List.setIfInBounds_toArray, List.set_cons_zero, List.set_cons_succ]
                refine wpAnyH_ready (rs := [6]) (by kernel_rfl) (by simp) ?_
                refine AllReadyH.cons (o := { dst := some 56, op := Op.call { callee := Callee.builtin Builtin.append, args := #[Operand.tmp 52, Operand.tmp 55], argTypes := #[32, 32] }, type := 32, pos := "ref.go:325", after := #[{ on := 2, ground := Ground.data }, { on := 5, ground := Ground.data }, { on := 4, ground := Ground.chain }], guard := none }) rfl (fun K hK => ?_) AllReadyH.nil
                refine step_append_run _ rfl _ _ _ _ rfl _ _ rfl rfl _ _ hr8 ?_
                refine hK.out _ _ ⟨s0, s1⟩ (fun hHeld => ?_)
                clear hK K hHeld
                try simp only [Act.put, List.setIfInBounds_toArray, List.set_cons_zero, List.set_cons_succ]
                refine wpAnyH_ready (rs := [8]) (by kernel_rfl) (by simp) ?_
                refine AllReadyH.cons (o := { dst := some 58, op := Op.call { callee := Callee.builtin Builtin.append, args := #[Operand.tmp 56, Operand.tmp 57], argTypes := #[32, 32] }, type := 32, pos := "ref.go:325", after := #[{ on := 6, ground := Ground.data }, { on := 7, ground := Ground.data }, { on := 6, ground := Ground.chain }], guard := none }) rfl (fun K hK => ?_) AllReadyH.nil
                refine step_append_run _ rfl _ _ _ _ rfl _ _ rfl rfl _ _ hr9 ?_
                refine hK.out _ _ ⟨t0, t1⟩ (fun hHeld => ?_)
                clear hK K hHeld
                try simp only [Act.put, List.setIfInBounds_toArray, List.set_cons_zero, List.set_cons_succ]
                refine wpAnyH_take (i := 9) (oi := { dst := some 4, op := Op.assign (Operand.tmp 58), type := 32, pos := "ref.go:325", after := #[{ on := 8, ground := Ground.data }, { on := 8, ground := Ground.chain }, { on := 0, ground := Ground.phase }, { on := 1, ground := Ground.phase }, { on := 2, ground := Ground.phase }, { on := 3, ground := Ground.phase }, { on := 4, ground := Ground.phase }, { on := 5, ground := Ground.phase }, { on := 6, ground := Ground.phase }, { on := 7, ground := Ground.phase }, { on := 8, ground := Ground.phase }], guard := none }) (v := ?_) rfl (by kernel_rfl) (by kernel_rfl) (by kernel_rfl) (fun _ _ _ h => h) (Or.inl ⟨by rfl, ?_⟩) ⟨t0, t1⟩ ?_
                rotate_left
                · intro w hSw
                  go_simp
                  try with_reducible rfl
                try simp only [Act.put, List.setIfInBounds_toArray, List.set_cons_zero, List.set_cons_succ]
                refine wpAnyH_done (by kernel_rfl) ?_ _
                clear m0 m1 n0 n1 s0 s1 t0 t1 hr8 hr9
                have HA2 : Hid (lins (ls.take j ++ [⟨al, cl, pl, ql, linAt s k⟩] ++ ls.drop j) = putAllS [] (s.take (k + 1))) := Lib.hid (by
                  rw [takeS_snoc (by rw [HN.out]; exact hlt), putAllS_snoc, ← HA.out, HNW.out]
                  simp [lins, List.map_take, List.map_drop])
                have HG2 : Hid (∀ i, i < k + 1 → rightLin (linAt s i) = true) := Lib.hid (fun i hi => by
                  by_cases e : i = k
                  · rw [e]; exact HV.out
                  · exact HG.out i (by omega))
                go_wp2
                go_roundw
                case rel => exact ⟨k + 1, a5, c5, m + 1, _, by omega, by omega, rfl, rfl, rfl, by go_num, HT9, HA2, HG2⟩
                case measure => simp [intOf]; omega
            · have HA2 : Hid (lins ls = putAllS [] (s.take (k + 1))) := Lib.hid (by
                have h2 := HDU.out
                have h3 := h2.symm
                simp only [Bool.and_eq_true, decide_eq_true_eq] at h3
                have := putS_same (b := linAt s k) (l := lins ls) (by rw [HSP.out, lins_len, HT2.out.num]; exact h3.1) (by rw [HSP.out]; exact h3.2)
                rw [takeS_snoc (by rw [HN.out]; exact hlt), putAllS_snoc, ← HA.out, this])
              have HG2 : Hid (∀ i, i < k + 1 → rightLin (linAt s i) = true) := Lib.hid (fun i hi => by
                by_cases e : i = k
                · rw [e]; exact HV.out
                · exact HG.out i (by omega))
              clear bd
              go_wp2
              go_roundw
              case rel => exact ⟨k + 1, oa, oc, m, ls, by omega, by omega, rfl, rfl, rfl, by go_num, HT2, HA2, HG2⟩
              case measure => simp [intOf]; omega
    · have E : Hid (MakesS (ofS s) (ofSOk s) w (.returned (.tuple #[.slice oa m oc, .bool true])) wr) := Lib.hid (by
        have g : GoodS s := fun x hx => by
          obtain ⟨j, hj, rfl⟩ := List.getElem_of_mem hx
          have := HG.out j (by rw [HN.out] at hj; omega)
          simpa [linAt, List.getD, hj] using this
        have e2 : ofS s = lins ls := by
          rw [of_yesS g, HA.out, List.take_of_length_le (by rw [HN.out]; omega)]
        rw [ofSOk_iff.2 g, e2]
        exact ⟨oa, oc, ls, rfl, by rw [lins_len, HT.out.num], HT.out.row, HT.out.own, HT.out.bel⟩)
      go_wp2
      go_ret2
      exact E.out
end Go.Proofs.YtfkaagndlpcfdaaGreat

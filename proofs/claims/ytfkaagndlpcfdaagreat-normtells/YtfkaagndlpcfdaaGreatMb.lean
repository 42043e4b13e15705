/- The reference's SameSemi. -/
import Derived.Test.YtfkaagndlpcfdaaGreatMa
import Derived.Test.YtfkaagndlpcfdaaGreatC
import Derived.Test.YtfkaagndlpcfdaaGreatCd
import Derived.Deep.RegionHeld3
namespace Go.Proofs.YtfkaagndlpcfdaaGreat
open Go.ChangeShapes Go.WideShapes Go.ChangeAt Go.RowKit

theorem ext_lins {s t : List Lin} (hl : s.length = t.length) (h : ∀ j, j < s.length → linAt s j = linAt t j) : s = t := by
  apply List.ext_getElem hl
  intro j h1 h2
  have := h j h1
  simpa [linAt, List.getD, h1, h2] using this

set_option maxRecDepth 100000 in
set_option maxHeartbeats 4000000 in
theorem sameSemi_any (a a' : Option Addr) (c c' : Nat) (s t : List Lin) (w : World) (R : Lins w a c s) (R' : Lins w a' c' t) :
    Calls Tryz.prog 10 #[.slice a s.length c, .slice a' t.length c'] w (TellsB (decide (s = t)) w) := by
  have hle := R.le
  have hle' := R'.le
  obtain ⟨n, hn⟩ : ∃ n, n = s.length := ⟨_, rfl⟩
  obtain ⟨n', hn'⟩ : ∃ n, n = t.length := ⟨_, rfl⟩
  rw [← hn] at hle ⊢
  rw [← hn'] at hle' ⊢
  have HN := Lib.hid hn.symm
  have HN' := Lib.hid hn'.symm
  have HR := Lib.hid R
  have HR' := Lib.hid R'
  clear R R' hn hn'
  by_cases hl : n = n'
  · subst hl
    go_enter Tryz.func10, Tryz.ntmps10
    go_wp2
    go_loopw [4, 13] (fun r i wr => ∃ k : Nat, k ≤ n ∧ r = .bool false ∧ i = .int .i64 k ∧ Hid (Below w.heap.size w wr) ∧ Hid (∀ j, j < k → linAt s j = linAt t j)) (fun _ i _ => n - (intOf i).toNat)
    case atStart => exact ⟨0, by omega, rfl, rfl, Lib.hid (Below.refl _ _), Lib.hid (fun j h => by omega)⟩
    case round =>
      obtain ⟨k, hk, rfl, rfl, HB, HE⟩ := hrel
      by_cases hlt : k < n
      · obtain ⟨g, b, d, pb, pd, e1, c0, c1, r1, t1⟩ := (HR.out.below HB.out).at (k := k) (by rw [HN.out]; exact hlt)
        obtain ⟨g', b', d', pb', pd', e1', c0', c1', r1', t1'⟩ := (HR'.out.below HB.out).at (k := k) (by rw [HN'.out]; exact hlt)
        have ltg := (HR.out.below HB.out).lt e1
        have ltg' := (HR'.out.below HB.out).lt e1'
        have bd : Below wr.heap.size wr wr.drew := ⟨rfl, rfl, rfl, Nat.le_refl _, fun _ _ => rfl⟩
        have Z := sameLin_any b pb b' pb' d pd d' pd' (linAt s k) (linAt t k) wr.drew (r1.below bd) (t1.below bd) (r1'.below bd) (t1'.below bd)
        generalize (linAt s k).base.length = u0 at c0 Z
        generalize (linAt s k).ps.length = u1 at c1 Z
        generalize (linAt t k).base.length = u0' at c0' Z
        generalize (linAt t k).ps.length = u1' at c1' Z
        generalize hv : decide (linAt s k = linAt t k) = v at Z
        have HV := Lib.hid hv
        have HZ := Lib.hid Z
        clear Z r1 t1 r1' t1' hv
        subst e1
        subst e1'
        go_wp2_with (fail)
        refine wp_region_held_drew (S := fun w' => Below wr.heap.size wr w') (by kernel_rfl) bd (fun hHeld => ?_)
        clear hHeld
        refine wpAnyH_take (i := 0) (oi := { dst := some 16, op := Op.move (Operand.tmp 0), type := 32, pos := "ref.go:405", after := #[], guard := none }) (v := ?_) rfl (by kernel_rfl) (by kernel_rfl) (by kernel_rfl) (fun _ _ _ h => h) (Or.inl ⟨by rfl, ?_⟩) bd ?_
        rotate_left
        · intro w hSw
          go_simp
          try with_reducible rfl
        try simp only [Act.put, List.setIfInBounds_toArray, List.set_cons_zero, List.set_cons_succ]
        refine wpAnyH_take (i := 1) (oi := { dst := some 17, op := Op.move (Operand.tmp 5), type := 3, pos := "ref.go:405", after := #[], guard := none }) (v := ?_) rfl (by kernel_rfl) (by kernel_rfl) (by kernel_rfl) (fun _ _ _ h => h) (Or.inl ⟨by rfl, ?_⟩) bd ?_
        rotate_left
        · intro w hSw
          go_simp
          try with_reducible rfl
        try simp only [Act.put, List.setIfInBounds_toArray, List.set_cons_zero, List.set_cons_succ]
        refine wpAnyH_take (i := 2) (oi := { dst := some 18, op := Op.indexAddr 32 (Operand.tmp 16) (Operand.tmp 17), type := 0, pos := "ref.go:405", after := #[{ on := 0, ground := Ground.data }, { on := 1, ground := Ground.data }], guard := none }) (v := ?_) rfl (by kernel_rfl) (by kernel_rfl) (by kernel_rfl) (fun _ _ _ h => h) (Or.inl ⟨by rfl, ?_⟩) bd ?_
        rotate_left
        · intro w hSw
          go_simp
          try with_reducible rfl
        try simp only [Act.put, List.setIfInBounds_toArray, List.set_cons_zero, List.set_cons_succ]
        refine wpAnyH_take (i := 3) (oi := { dst := some 19, op := Op.load 60 (Operand.tmp 18), type := 60, pos := "ref.go:405", after := #[{ on := 2, ground := Ground.data }], guard := none }) (v := ?_) rfl (by kernel_rfl) (by kernel_rfl) (by kernel_rfl) (fun _ _ _ h => h) (Or.inl ⟨by rfl, ?_⟩) bd ?_
        rotate_left
        · intro w hSw
          have f1 := (hSw.cell (p := ⟨g, k * 2, none⟩) ltg).trans c0
          have f2 := (hSw.cell (p := ⟨g, k * 2 + 1, none⟩) ltg).trans c1
          have f3 := (hSw.cell (p := ⟨g', k * 2, none⟩) ltg').trans c0'
          have f4 := (hSw.cell (p := ⟨g', k * 2 + 1, none⟩) ltg').trans c1'
          go_simp
          try with_reducible rfl
        try simp only [Act.put, List.setIfInBounds_toArray, List.set_cons_zero, List.set_cons_succ]
        refine wpAnyH_take (i := 4) (oi := { dst := some 20, op := Op.move (Operand.tmp 1), type := 32, pos := "ref.go:405", after := #[], guard := none }) (v := ?_) rfl (by kernel_rfl) (by kernel_rfl) (by kernel_rfl) (fun _ _ _ h => h) (Or.inl ⟨by rfl, ?_⟩) bd ?_
        rotate_left
        · intro w hSw
          go_simp
          try with_reducible rfl
        try simp only [Act.put, List.setIfInBounds_toArray, List.set_cons_zero, List.set_cons_succ]
        refine wpAnyH_take (i := 5) (oi := { dst := some 21, op := Op.move (Operand.tmp 5), type := 3, pos := "ref.go:405", after := #[], guard := none }) (v := ?_) rfl (by kernel_rfl) (by kernel_rfl) (by kernel_rfl) (fun _ _ _ h => h) (Or.inl ⟨by rfl, ?_⟩) bd ?_
        rotate_left
        · intro w hSw
          go_simp
          try with_reducible rfl
        try simp only [Act.put, List.setIfInBounds_toArray, List.set_cons_zero, List.set_cons_succ]
        refine wpAnyH_take (i := 6) (oi := { dst := some 22, op := Op.indexAddr 32 (Operand.tmp 20) (Operand.tmp 21), type := 0, pos := "ref.go:405", after := #[{ on := 4, ground := Ground.data }, { on := 5, ground := Ground.data }], guard := none }) (v := ?_) rfl (by kernel_rfl) (by kernel_rfl) (by kernel_rfl) (fun _ _ _ h => h) (Or.inl ⟨by rfl, ?_⟩) bd ?_
        rotate_left
        · intro w hSw
          go_simp
          try with_reducible rfl
        try simp only [Act.put, List.setIfInBounds_toArray, List.set_cons_zero, List.set_cons_succ]
        refine wpAnyH_take (i := 7) (oi := { dst := some 23, op := Op.load 60 (Operand.tmp 22), type := 60, pos := "ref.go:405", after := #[{ on := 6, ground := Ground.data }], guard := none }) (v := ?_) rfl (by kernel_rfl) (by kernel_rfl) (by kernel_rfl) (fun _ _ _ h => h) (Or.inl ⟨by rfl, ?_⟩) bd ?_
        rotate_left
        · intro w hSw
          have f1 := (hSw.cell (p := ⟨g, k * 2, none⟩) ltg).trans c0
          have f2 := (hSw.cell (p := ⟨g, k * 2 + 1, none⟩) ltg).trans c1
          have f3 := (hSw.cell (p := ⟨g', k * 2, none⟩) ltg').trans c0'
          have f4 := (hSw.cell (p := ⟨g', k * 2 + 1, none⟩) ltg').trans c1'
          go_simp
          try with_reducible rfl
        try simp only [Act.put, List.setIfInBounds_toArray, List.set_cons_zero, List.set_cons_succ]
        refine wpAnyH_ready (rs := [8]) (by kernel_rfl) (by simp) ?_
        refine AllReadyH.cons (o := { dst := some 24, op := Op.call { callee := Callee.value (Operand.func 26), args := #[Operand.tmp 19, Operand.tmp 23], argTypes := #[60, 60] }, type := 4, pos := "ref.go:405", after := #[{ on := 3, ground := Ground.data }, { on := 7, ground := Ground.data }], guard := none }) rfl (fun K hK => ?_) AllReadyH.nil
        go_simp
        refine HZ.out.mono ?_
        rintro e w3 ⟨rfl, b3⟩
        have b4 : Below wr.heap.size wr w3 := undrew b3
        go_wp2_with (fail)
        refine hK.out _ _ b4 (fun hHeld => ?_)
        clear hK K hHeld
        try simp only [Act.put, List.setIfInBounds_toArray, List.set_cons_zero, List.set_cons_succ]
        refine wpAnyH_take (i := 9) (oi := { dst := some 25, op := Op.unOp UnOp.not 4 (Operand.tmp 24), type := 4, pos := "ref.go:405", after := #[{ on := 8, ground := Ground.data }], guard := none }) (v := ?_) rfl (by kernel_rfl) (by kernel_rfl) (by kernel_rfl) (fun _ _ _ h => h) (Or.inl ⟨by rfl, ?_⟩) b4 ?_
        rotate_left
        · intro w hSw
          go_simp
          try with_reducible rfl
        try simp only [Act.put, List.setIfInBounds_toArray, List.set_cons_zero, List.set_cons_succ]
        refine wpAnyH_done (by kernel_rfl) ?_ _
        have HB3 := Lib.hid (HB.out.trans (b4.mono HB.out.size))
        clear b3 b4 HZ HB c0 c1 c0' c1' bd
        cases v
        · have E : Hid (decide (s = t) = false) := Lib.hid (by
            simp only [decide_eq_false_iff_not]
            rintro rfl
            have := HV.out
            simp at this)
          go_wp2
          go_ret
          exact ⟨by rw [E.out]; try rfl, HB3.out⟩
        · have HE2 : Hid (∀ j, j < k + 1 → linAt s j = linAt t j) := Lib.hid (fun j hj => by
            by_cases e : j = k
            · rw [e]; exact of_decide_eq_true HV.out
            · exact HE.out j (by omega))
          go_wp2
          go_roundw
          case rel => exact ⟨k + 1, by omega, rfl, by go_num, HB3, HE2⟩
          case measure => simp [intOf]; omega
      · have E : Hid (decide (s = t) = true) := Lib.hid (decide_eq_true (ext_lins (by rw [HN.out, HN'.out]) (fun j hj => HE.out j (by rw [HN.out] at hj; omega))))
        go_wp2
        go_ret
        exact ⟨by rw [E.out]; try rfl, HB.out⟩
  · have E : Hid (decide (s = t) = false) := Lib.hid (by
      simp only [decide_eq_false_iff_not]
      rintro rfl
      exact hl (HN.out.symm.trans HN'.out))
    go_enter Tryz.func10, Tryz.ntmps10
    go_wp2
    go_ret
    exact ⟨by rw [E.out]; try rfl, Below.refl _ _⟩
end Go.Proofs.YtfkaagndlpcfdaaGreat

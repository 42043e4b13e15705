/- Whether linear sets, and rows of them, are alike in all. -/
import Derived.Test.YtmapohpabepmfaaGreatNa
import Derived.Lib.SliceRun
namespace Go.Proofs.YtmapohpabepmfaaGreat
open Go.ChangeShapes Go.WideShapes Go.ChangeAt Go.RowKit

theorem lin_eq {x y : Lin} : x = y ↔ x.base = y.base ∧ x.ps = y.ps := by
  cases x; cases y; simp
set_option maxHeartbeats 1000000 in
theorem alike_any (a pa a' pa' : Option Addr) (c pc c' pc' : Nat) (x y : Lin) (w : World) (R : Bag w a c x.base) (P : Bags w pa pc x.ps) (R' : Bag w a' c' y.base) (P' : Bags w pa' pc' y.ps) :
    Calls Tryz.prog 46 #[.agg #[.slice a x.base.length c, .slice pa x.ps.length pc], .agg #[.slice a' y.base.length c', .slice pa' y.ps.length pc']] w (TellsB (decide (x = y)) w) := by
  have hle := P.le
  have hle' := P'.le
  obtain ⟨n, hn⟩ : ∃ n, n = x.base.length := ⟨_, rfl⟩
  obtain ⟨m, hm⟩ : ∃ m, m = x.ps.length := ⟨_, rfl⟩
  obtain ⟨n', hn'⟩ : ∃ n, n = y.base.length := ⟨_, rfl⟩
  obtain ⟨m', hm'⟩ : ∃ m, m = y.ps.length := ⟨_, rfl⟩
  have HB1 : Hid (Below w.heap.size w (w.alloc (.cells #[.slice a n c, .slice pa m pc] 60))) := Lib.hid ((Below.refl _ _).alloc (Nat.le_refl _) _)
  have HX0 := Lies.new w 60 [.slice a n c, .slice pa m pc]
  have HB0 : Hid (Below w.heap.size w ((w.alloc (.cells #[.slice a n c, .slice pa m pc] 60)).alloc (.cells #[.slice a' n' c', .slice pa' m' pc'] 60))) := Lib.hid (HB1.out.alloc HB1.out.size _)
  have HX : Hid (Lies ((w.alloc (.cells #[.slice a n c, .slice pa m pc] 60)).alloc (.cells #[.slice a' n' c', .slice pa' m' pc'] 60)) w.heap.size 60 [.slice a n c, .slice pa m pc]) := Lib.hid (HX0.alloc _)
  have HY : Hid (Lies ((w.alloc (.cells #[.slice a n c, .slice pa m pc] 60)).alloc (.cells #[.slice a' n' c', .slice pa' m' pc'] 60)) (w.heap.size + 1) 60 [.slice a' n' c', .slice pa' m' pc']) := Lib.hid (by
    have := Lies.new (w.alloc (.cells #[.slice a n c, .slice pa m pc] 60)) 60 [.slice a' n' c', .slice pa' m' pc']
    simpa using this)
  have HR := Lib.hid (R.below HB0.out)
  have HP := Lib.hid (P.below HB0.out)
  have HR' := Lib.hid (R'.below HB0.out)
  have HP' := Lib.hid (P'.below HB0.out)
  rw [← hm] at hle
  rw [← hm'] at hle'
  rw [← hn, ← hm, ← hn', ← hm']
  have HN := Lib.hid hn.symm
  have HM := Lib.hid hm.symm
  have HN' := Lib.hid hn'.symm
  have HM' := Lib.hid hm'.symm
  clear R P R' P' hn hm hn' hm' HX0 HB1
  go_enter Tryz.func46, Tryz.ntmps46
  go_upto_region 1 with (fail)
  generalize (w.alloc (.cells #[.slice a n c, .slice pa m pc] 60)).alloc (.cells #[.slice a' n' c', .slice pa' m' pc'] 60) = W at HB0 HX HY HR HP HR' HP' ⊢
  generalize hg : w.heap.size = gb at HX HY ⊢
  have HG := Lib.hid hg
  clear hg
  have k0 : W.cell? ⟨gb, 0, none⟩ = some (.slice a n c) := HX.out.cell 0
  have k1 : W.cell? ⟨gb, 1, none⟩ = some (.slice pa m pc) := HX.out.cell 1
  have j0 : W.cell? ⟨gb + 1, 0, none⟩ = some (.slice a' n' c') := HY.out.cell 0
  have j1 : W.cell? ⟨gb + 1, 1, none⟩ = some (.slice pa' m' pc') := HY.out.cell 1
  have Z := equalB a a' c c' x.base y.base W HR.out HR'.out
  rw [HN.out, HN'.out] at Z
  generalize hv : sameL x.base y.base = v at Z
  have HV := Lib.hid hv
  have HZ := Lib.hid Z
  clear Z hv
  go_wp2_with (fail)
  refine HZ.out.mono ?_
  rintro e w1 ⟨rfl, q, rfl⟩
  clear HZ k0 k1 j0 j1
  have B1 : Below W.heap.size W (W.drewN q) := below_drewN _ _ _
  have HB1 := Lib.hid (HB0.out.trans (B1.mono HB0.out.size))
  have HX1 := Lib.hid (HX.out.below B1 HX.out.lt)
  have HY1 := Lib.hid (HY.out.below B1 HY.out.lt)
  have HP1 := Lib.hid (HP.out.below B1)
  have HP1' := Lib.hid (HP'.out.below B1)
  clear B1
  generalize W.drewN q = w1 at HB1 HX1 HY1 HP1 HP1' ⊢
  have k1 : w1.cell? ⟨gb, 1, none⟩ = some (.slice pa m pc) := HX1.out.cell 1
  have j1 : w1.cell? ⟨gb + 1, 1, none⟩ = some (.slice pa' m' pc') := HY1.out.cell 1
  cases v with
  | false =>
    have HK : Hid (decide (x = y) = false) := Lib.hid (decide_eq_false (fun e => by
      have := HV.out
      rw [e] at this
      exact absurd (sameL_iff.2 rfl) (by rw [this]; exact Bool.false_ne_true)))
    go_wp2
    go_ret
    exact ⟨by rw [HK.out]; try rfl, HB1.out⟩
  | true =>
    have Z := equalFuncB pa pa' pc pc' x.ps y.ps w1 HP1.out HP1'.out
    rw [HM.out, HM'.out] at Z
    have hd : decide (x = y) = decide (x.ps = y.ps) := by
      have := sameL_iff.1 HV.out
      rw [decide_eq_decide, lin_eq]
      exact ⟨fun h => h.2, fun h => ⟨this, h⟩⟩
    generalize decide (x.ps = y.ps) = v at Z hd
    have HD := Lib.hid hd
    have HZ := Lib.hid Z
    clear Z hd
    go_wp2_with (fail)
    refine HZ.out.mono ?_
    rintro e w2 ⟨rfl, b2⟩
    clear HZ
    have HB2 := Lib.hid (HB1.out.trans (b2.mono HB1.out.size))
    clear b2 k1 j1
    go_wp2
    go_ret
    exact ⟨by rw [HD.out]; try rfl, HB2.out⟩

/-- Alike up to place k. -/
def alikeTo (s t : List Lin) (k : Nat) : Prop := ∀ j, j < k → linAt s j = linAt t j
set_option maxHeartbeats 2000000 in
theorem equalFuncL (a b : Option Addr) (c d : Nat) (s t : List Lin) (w : World) (R : Lins w a c s) (S : Lins w b d t) :
    Calls Tryz.prog 45 #[.slice a s.length c, .slice b t.length d, .func (.func 46) #[] #[]] w (TellsB (decide (s = t)) w) := by
  have hle := R.le
  have hle' := S.le
  have HR := Lib.hid R
  have HS := Lib.hid S
  clear R S
  by_cases hl : s.length = t.length
  · obtain ⟨n, hn⟩ : ∃ n, n = s.length := ⟨_, rfl⟩
    have hl' : n = t.length := hn.trans hl
    rw [← hn] at hle ⊢
    rw [← hl'] at hle' ⊢
    have HN := Lib.hid hn.symm
    have HL := Lib.hid hl'
    clear hn hl hl'
    go_enter Tryz.func45, Tryz.ntmps45
    go_wp2
    go_loopw [17] (fun i wr => ∃ k : Nat, k ≤ n ∧ i = .int .i64 k ∧ Hid (Below w.heap.size w wr) ∧ Hid (alikeTo s t k)) (fun i _ => n - (intOf i).toNat)
    case atStart => exact ⟨0, Nat.zero_le _, rfl, Lib.hid (Below.refl _ _), Lib.hid (fun j h => by omega)⟩
    case round =>
      obtain ⟨k, hk, rfl, HW, HE⟩ := hrel
      by_cases hlt : k < n
      · obtain ⟨g, b1, d1, p1, q1, rfl, c0, c1, r1, t1⟩ := (HR.out.below HW.out).at (k := k) (by rw [HN.out]; exact hlt)
        obtain ⟨g2, b2, d2, p2, q2, rfl, c0', c1', r2, t2⟩ := (HS.out.below HW.out).at (k := k) (by rw [← HL.out]; exact hlt)
        have B1 := below_alloc wr (.cells #[.slice b1 (linAt s k).base.length d1, .slice p1 (linAt s k).ps.length q1] 60)
        have B2 := B1.alloc B1.size (.cells #[.slice b2 (linAt t k).base.length d2, .slice p2 (linAt t k).ps.length q2] 60)
        have Z := alike_any b1 p1 b2 p2 d1 q1 d2 q2 (linAt s k) (linAt t k) _ (r1.below B2) (t1.below B2) (r2.below B2) (t2.below B2)
        have HB := Lib.hid (HW.out.trans (B2.mono HW.out.size))
        have HL1 := Lib.hid ((Lies.new wr 60 [.slice b1 (linAt s k).base.length d1, .slice p1 (linAt s k).ps.length q1]).alloc (.cells #[.slice b2 (linAt t k).base.length d2, .slice p2 (linAt t k).ps.length q2] 60))
        have HL2 := Lib.hid (Lies.new (wr.alloc (.cells #[.slice b1 (linAt s k).base.length d1, .slice p1 (linAt s k).ps.length q1] 60)) 60 [.slice b2 (linAt t k).base.length d2, .slice p2 (linAt t k).ps.length q2])
        generalize hv : decide (linAt s k = linAt t k) = v at Z
        have HV := Lib.hid hv
        have HZ := Lib.hid Z
        clear Z r1 t1 r2 t2 hv B1 B2
        generalize (linAt s k).base.length = n1 at *
        generalize (linAt s k).ps.length = n2 at *
        generalize (linAt t k).base.length = n3 at *
        generalize (linAt t k).ps.length = n4 at *
        have c2 : (wr.alloc (.cells #[.slice b1 n1 d1, .slice p1 n2 q1] 60)).cell? ⟨g2, k * 2, none⟩ = some (.slice b2 n3 d2) := Lib.cell?_alloc_some _ c0'
        have c3 : (wr.alloc (.cells #[.slice b1 n1 d1, .slice p1 n2 q1] 60)).cell? ⟨g2, k * 2 + 1, none⟩ = some (.slice p2 n4 q2) := Lib.cell?_alloc_some _ c1'
        have c4 : ((wr.alloc (.cells #[.slice b1 n1 d1, .slice p1 n2 q1] 60)).alloc (.cells #[.slice b2 n3 d2, .slice p2 n4 q2] 60)).cell? ⟨wr.heap.size, 0, none⟩ = some (.slice b1 n1 d1) := HL1.out.cell 0
        have c5 : ((wr.alloc (.cells #[.slice b1 n1 d1, .slice p1 n2 q1] 60)).alloc (.cells #[.slice b2 n3 d2, .slice p2 n4 q2] 60)).cell? ⟨wr.heap.size, 1, none⟩ = some (.slice p1 n2 q1) := HL1.out.cell 1
        go_wp2_with (fail)
        refine HZ.out.mono ?_
        rintro e w2 ⟨rfl, bb⟩
        clear HZ c0 c1 c0' c1' c2 c3 c4 c5
        have HW2 := Lib.hid (HB.out.trans (bb.mono HB.out.size))
        clear bb HB HL1 HL2
        cases v with
        | false =>
          have HK : Hid (decide (s = t) = false) := Lib.hid (decide_eq_false (fun e => by
            have := HV.out
            rw [e] at this
            simp at this))
          go_wp2
          go_ret
          exact ⟨by rw [HK.out]; try rfl, HW2.out⟩
        | true =>
          go_wp2
          go_roundw
          case rel => exact ⟨k + 1, by omega, by go_num, HW2, Lib.hid (fun j hj => by
            by_cases e : j = k
            · rw [e]; exact of_decide_eq_true HV.out
            · exact HE.out j (by omega))⟩
          case measure => simp [intOf]; omega
      · have HK : Hid (decide (s = t) = true) := Lib.hid (decide_eq_true (getD_all (by rw [HN.out, HL.out]) (fun j hj => HE.out j (by rw [HN.out] at hj; omega))))
        go_wp2
        go_ret
        exact ⟨by rw [HK.out]; try rfl, HW.out⟩
  · have HK : Hid (decide (s = t) = false) := Lib.hid (decide_eq_false (fun e => hl (by rw [e])))
    go_enter Tryz.func45, Tryz.ntmps45
    go_wp2
    go_ret
    exact ⟨by rw [HK.out]; try rfl, Below.refl _ _⟩
theorem same16 (a b : Option Addr) (c d : Nat) (s t : List Lin) (w : World) (R : Lins w a c s) (S : Lins w b d t) :
    Calls Tryz.prog 16 #[.slice a s.length c, .slice b t.length d] w (TellsB (decide (s = t)) w) := by
  have Z := equalFuncL a b c d s t w R S
  generalize decide (s = t) = v at *
  generalize s.length = n at *
  generalize t.length = m at *
  have HZ := Lib.hid Z
  clear Z R S
  go_enter Tryz.func16, Tryz.ntmps16
  go_wp2_with (fail)
  refine HZ.out.mono ?_
  rintro e w2 ⟨rfl, bb⟩
  go_wp2
  go_ret
  exact ⟨rfl, bb⟩
end Go.Proofs.YtmapohpabepmfaaGreat

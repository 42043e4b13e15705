/- Whether linear sets, and rows of them, are alike in all. -/
import Derived.Test.YtfkaagndlpcfdaaGreatNa
import Derived.Lib.SliceRun
namespace Go.Proofs.YtfkaagndlpcfdaaGreat
open Go.ChangeShapes Go.WideShapes Go.ChangeAt Go.RowKit

theorem lin_eq {x y : Lin} : x = y ↔ x.base = y.base ∧ x.ps = y.ps := by
  cases x; cases y; simp
set_option maxHeartbeats 1000000 in
theorem alike_any (a pa a' pa' : Option Addr) (c pc c' pc' : Nat) (x y : Lin) (w : World) (R : Bag w a c x.base) (P : Bags w pa pc x.ps) (R' : Bag w a' c' y.base) (P' : Bags w pa' pc' y.ps) :
    Calls Tryz.prog 66 #[.agg #[.slice a x.base.length c, .slice pa x.ps.length pc], .agg #[.slice a' y.base.length c', .slice pa' y.ps.length pc']] w (TellsB (decide (x = y)) w) := by
  have hle := P.le
  have hle' := P'.le
  obtain ⟨n, hn⟩ : ∃ n, n = x.base.length := ⟨_, rfl⟩
  obtain ⟨m, hm⟩ : ∃ m, m = x.ps.length := ⟨_, rfl⟩
  obtain ⟨n', hn'⟩ : ∃ n, n = y.base.length := ⟨_, rfl⟩
  obtain ⟨m', hm'⟩ : ∃ m, m = y.ps.length := ⟨_, rfl⟩
  have HB1 : Hid (Below w.heap.size w (w.alloc (.cells #[.slice a n c, .slice pa m pc] 60))) := Lib.hid ((Below.refl _ _).alloc (Nat.le_refl _) _)
  have HX0 := Lies.new w 60 [.slice a n c, .slice pa m pc]
  have HB0 : Hid (Below w.heap.size w ((w.alloc (.cells #[.slice a n c, .slice pa m pc] 60)).alloc (.cells #[.slice a' n' c', .slice pa' m' pc'] 60))) := Lib.hid (HB1.out.alloc HB1.out.size _)
  have HX : Hid (Lies ((w.alloc (.cells #[.slice a n c, .slice pa m pc] 60)).alloc (.cells #[.slice a' n' c', .slice pa' m' pc'] 60)) w.heap.size 60 [.slice a n c, .slice pa m pc]) := Lib.hid (HX0.alloc _)
  have HY : Hid (Lies ((w.alloc (.cells #[.slice a n c, .slice pa m pc] 60)).alloc (.cells #[.slice a' n' c', .slice pa' m' pc'] 60)) (w.heap.size + 1) 60 [.slice a' n' c', .slice pa' m' pc']) := Lib.hid (by
    have := Lies.new (w.alloc (.cells #[.slice a n c, .slice pa m pc] 60)) 60 [.slice a' n' c', .slice pa' m' pc']
    simpa using this)
  have HR := Lib.hid (R.below HB0.out)
  have HP := Lib.hid (P.below HB0.out)
  have HR' := Lib.hid (R'.below HB0.out)
  have HP' := Lib.hid (P'.below HB0.out)
  rw [← hm] at hle
  rw [← hm'] at hle'
  rw [← hn, ← hm, ← hn', ← hm']
  have HN := Lib.hid hn.symm
  have HM := Lib.hid hm.symm
  have HN' := Lib.hid hn'.symm
  have HM' := Lib.hid hm'.symm
  clear R P R' P' hn hm hn' hm' HX0 HB1
  go_enter Tryz.func66, Tryz.ntmps66
  go_upto_region 1 with (fail)
  generalize (w.alloc (.cells #[.slice a n c, .slice pa m pc] 60)).alloc (.cells #[.slice a' n' c', .slice pa' m' pc'] 60) = W at HB0 HX HY HR HP HR' HP' ⊢
  generalize hg : w.heap.size = gb at HX HY ⊢
  have HG := Lib.hid hg
  clear hg
  have k0 : W.cell? ⟨gb, 0, none⟩ = some (.slice a n c) := HX.out.cell 0
  have k1 : W.cell? ⟨gb, 1, none⟩ = some (.slice pa m pc) := HX.out.cell 1
  have j0 : W.cell? ⟨gb + 1, 0, none⟩ = some (.slice a' n' c') := HY.out.cell 0
  have j1 : W.cell? ⟨gb + 1, 1, none⟩ = some (.slice pa' m' pc') := HY.out.cell 1
  have Z := equalB a a' c c' x.base y.base W HR.out HR'.out
  rw [HN.out, HN'.out] at Z
  generalize hv : sameL x.base y.base = v at Z
  have HV := Lib.hid hv
  have HZ := Lib.hid Z
  clear Z hv
  go_wp2_with (fail)
  refine HZ.out.mono ?_
  rintro e w1 ⟨rfl, q, rfl⟩
  clear HZ k0 k1 j0 j1
  have B1 : Below W.heap.size W (W.drewN q) := below_drewN _ _ _
  have HB1 := Lib.hid (HB0.out.trans (B1.mono HB0.out.size))
  have HX1 := Lib.hid (HX.out.below B1 HX.out.lt)
  have HY1 := Lib.hid (HY.out.below B1 HY.out.lt)
  have HP1 := Lib.hid (HP.out.below B1)
  have HP1' := Lib.hid (HP'.out.below B1)
  clear B1
  generalize W.drewN q = w1 at HB1 HX1 HY1 HP1 HP1' ⊢
  have k1 : w1.cell? ⟨gb, 1, none⟩ = some (.slice pa m pc) := HX1.out.cell 1
  have j1 : w1.cell? ⟨gb + 1, 1, none⟩ = some (.slice pa' m' pc') := HY1.out.cell 1
  cases v with
  | false =>
    have HK : Hid (decide (x = y) = false) := Lib.hid (decide_eq_false (fun e => by
      have := HV.out
      rw [e] at this
      exact absurd (sameL_iff.2 rfl) (by rw [this]; exact Bool.false_ne_true)))
    go_wp2
    go_ret
    exact ⟨by rw [HK.out]; try rfl, HB1.out⟩
  | true =>
    have Z := equalFuncB pa pa' pc pc' x.ps y.ps w1 HP1.out HP1'.out
    rw [HM.out, HM'.out] at Z
    have hd : decide (x = y) = decide (x.ps = y.ps) := by
      have := sameL_iff.1 HV.out
      rw [decide_eq_decide, lin_eq]
      exact ⟨fun h => h.2, fun h => ⟨this, h⟩⟩
    generalize decide (x.ps = y.ps) = v at Z hd
    have HD := Lib.hid hd
    have HZ := Lib.hid Z
    clear Z hd
    go_wp2_with (fail)
    refine HZ.out.mono ?_
    rintro e w2 ⟨rfl, b2⟩
    clear HZ
    have HB2 := Lib.hid (HB1.out.trans (b2.mono HB1.out.size))
    clear b2 k1 j1
    go_wp2
    go_ret
    exact ⟨by rw [HD.out]; try rfl, HB2.out⟩

/-- Alike up to place k. -/
def alikeTo (s t : List Lin) (k : Nat) : Prop := ∀ j, j < k → linAt s j = linAt t j
end Go.Proofs.YtfkaagndlpcfdaaGreat

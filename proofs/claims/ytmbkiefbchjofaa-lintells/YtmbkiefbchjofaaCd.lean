/- The program's Compare of linear sets, Point, and the example. -/
import Derived.Test.YtmbkiefbchjofaaCc
namespace Go.Proofs.Ytmbkiefbchjofaa
open Go.ChangeShapes Go.WideShapes Go.ChangeAt Go.RowKit

theorem bag_new3 (w : World) (x y z : Int) : Bag (w.alloc (.cells #[.int .i64 x, .int .i64 y, .int .i64 z] 3)) (some ⟨w.heap.size, 0, none⟩) 3 [x, y, z] :=
  .inr ⟨_, [], rfl, rfl, by omega, Lies.new w 3 [.int .i64 x, .int .i64 y, .int .i64 z]⟩

theorem undrew {w w' : World} (h : Below w.drew.heap.size w.drew w') : Below w.heap.size w w' := ⟨h.os, h.tape, h.output, h.size, h.block⟩

set_option maxHeartbeats 1000000 in
theorem compare18 (a pa a' pa' : Option Addr) (c pc c' pc' : Nat) (x y : Lin) (w : World) (R : Bag w a c x.base) (P : Bags w pa pc x.ps) (R' : Bag w a' c' y.base) (P' : Bags w pa' pc' y.ps) :
    Calls Try.prog 18 #[.agg #[.slice a x.base.length c, .slice pa x.ps.length pc], .agg #[.slice a' y.base.length c', .slice pa' y.ps.length pc']] w (Tells (cmpLin x y) w) := by
  have hle := P.le
  have hle' := P'.le
  obtain ⟨n, hn⟩ : ∃ n, n = x.base.length := ⟨_, rfl⟩
  obtain ⟨m, hm⟩ : ∃ m, m = x.ps.length := ⟨_, rfl⟩
  obtain ⟨n', hn'⟩ : ∃ n, n = y.base.length := ⟨_, rfl⟩
  obtain ⟨m', hm'⟩ : ∃ m, m = y.ps.length := ⟨_, rfl⟩
  have HB1 : Hid (Below w.heap.size w (w.alloc (.cells #[.slice a n c, .slice pa m pc] 29))) := Lib.hid ((Below.refl _ _).alloc (Nat.le_refl _) _)
  have HX0 := Lies.new w 29 [.slice a n c, .slice pa m pc]
  have HB0 : Hid (Below w.heap.size w ((w.alloc (.cells #[.slice a n c, .slice pa m pc] 29)).alloc (.cells #[.slice a' n' c', .slice pa' m' pc'] 29))) := Lib.hid (HB1.out.alloc HB1.out.size _)
  have HX : Hid (Lies ((w.alloc (.cells #[.slice a n c, .slice pa m pc] 29)).alloc (.cells #[.slice a' n' c', .slice pa' m' pc'] 29)) w.heap.size 29 [.slice a n c, .slice pa m pc]) := Lib.hid (HX0.alloc _)
  have HY : Hid (Lies ((w.alloc (.cells #[.slice a n c, .slice pa m pc] 29)).alloc (.cells #[.slice a' n' c', .slice pa' m' pc'] 29)) (w.heap.size + 1) 29 [.slice a' n' c', .slice pa' m' pc']) := Lib.hid (by
    have := Lies.new (w.alloc (.cells #[.slice a n c, .slice pa m pc] 29)) 29 [.slice a' n' c', .slice pa' m' pc']
    simpa using this)
  have HR := Lib.hid (R.below HB0.out)
  have HP := Lib.hid (P.below HB0.out)
  have HR' := Lib.hid (R'.below HB0.out)
  have HP' := Lib.hid (P'.below HB0.out)
  rw [← hm] at hle
  rw [← hm'] at hle'
  rw [← hn, ← hm, ← hn', ← hm']
  have HN := Lib.hid hn.symm
  have HM := Lib.hid hm.symm
  have HN' := Lib.hid hn'.symm
  have HM' := Lib.hid hm'.symm
  clear R P R' P' hn hm hn' hm' HX0 HB1
  go_enter Try.func18, Try.ntmps18
  go_wp2_with (fail)
  have Z := right13 a pa c pc x _ HR.out HP.out
  rw [HN.out, HM.out] at Z
  generalize (w.alloc (.cells #[.slice a n c, .slice pa m pc] 29)).alloc (.cells #[.slice a' n' c', .slice pa' m' pc'] 29) = W at HB0 HX HY HR HP HR' HP' Z ⊢
  generalize hg : w.heap.size = gb at HX HY ⊢
  have HG := Lib.hid hg
  clear hg
  refine Z.mono ?_
  rintro e w1 ⟨rfl, b1⟩
  clear Z
  have hs1 := HY.out.lt
  have q0 : w1.cell? ⟨gb + 1, 0, none⟩ = some (.slice a' n' c') := (b1.cell (p := ⟨gb + 1, 0, none⟩) hs1).trans (HY.out.cell 0)
  have q1 : w1.cell? ⟨gb + 1, 1, none⟩ = some (.slice pa' m' pc') := (b1.cell (p := ⟨gb + 1, 1, none⟩) hs1).trans (HY.out.cell 1)
  have HB1 := Lib.hid b1
  clear b1
  cases hx : rightLin x with
  | false =>
    have E := Lib.hid (cmpLin_no1 (y := y) hx)
    clear hx
    go_wp2
    go_ret
    exact ⟨by rw [E.out]; try rfl, HB0.out.trans (HB1.out.mono HB0.out.size)⟩
  | true =>
    have HRX := Lib.hid hx
    clear hx
    have Z := right13 a' pa' c' pc' y _ (HR'.out.below HB1.out) (HP'.out.below HB1.out)
    rw [HN'.out, HM'.out] at Z
    go_wp2_with (fail)
    refine Z.mono ?_
    rintro e w2 ⟨rfl, b2⟩
    clear Z q0 q1
    have HB2 := Lib.hid (HB1.out.trans (b2.mono HB1.out.size))
    clear b2 HB1
    have q0 : w2.cell? ⟨gb + 1, 0, none⟩ = some (.slice a' n' c') := (HB2.out.cell (p := ⟨gb + 1, 0, none⟩) hs1).trans (HY.out.cell 0)
    have q1 : w2.cell? ⟨gb + 1, 1, none⟩ = some (.slice pa' m' pc') := (HB2.out.cell (p := ⟨gb + 1, 1, none⟩) hs1).trans (HY.out.cell 1)
    have p0 : w2.cell? ⟨gb, 0, none⟩ = some (.slice a n c) := (HB2.out.cell (p := ⟨gb, 0, none⟩) HX.out.lt).trans (HX.out.cell 0)
    have p1 : w2.cell? ⟨gb, 1, none⟩ = some (.slice pa m pc) := (HB2.out.cell (p := ⟨gb, 1, none⟩) HX.out.lt).trans (HX.out.cell 1)
    cases hy : rightLin y with
    | false =>
      have E := Lib.hid (cmpLin_no2 (x := x) hy)
      clear hy
      go_wp2
      go_ret
      exact ⟨by rw [E.out]; try rfl, HB0.out.trans (HB2.out.mono HB0.out.size)⟩
    | true =>
      have E := Lib.hid (cmpLin_or HRX.out hy)
      clear hy
      have HR2 := Lib.hid (HR.out.below HB2.out)
      have HP2 := Lib.hid (HP.out.below HB2.out)
      have HR2' := Lib.hid (HR'.out.below HB2.out)
      have HP2' := Lib.hid (HP'.out.below HB2.out)
      have HXs := Lib.hid (Nat.lt_of_lt_of_le HX.out.lt HB2.out.size)
      have HYs := Lib.hid (Nat.lt_of_lt_of_le HY.out.lt HB2.out.size)
      have HBB := Lib.hid (HB0.out.trans (HB2.out.mono HB0.out.size))
      have Z1 : Hid (Calls Try.prog 32 #[.slice a n c, .slice a' n' c'] w2.drew (Tells (cmpL x.base y.base) w2.drew)) := Lib.hid (by
        have := cmp21 a a' c c' x.base y.base w2.drew HR2.out HR2'.out
        rwa [HN.out, HN'.out] at this)
      have Z3 : Hid (∀ W3, Below w2.heap.size w2 W3 → Calls Try.prog 46 #[.slice pa m pc, .slice pa' m' pc', .func (.func 32) #[] #[]] W3 (Tells (lexPs x.ps y.ps) W3)) := Lib.hid (fun W3 h => by
        have := cmpFunc pa pa' pc pc' x.ps y.ps W3 (HP2.out.below h) (HP2'.out.below h)
        rwa [HM.out, HM'.out] at this)
      rw [HM.out, HM'.out] at E
      generalize cmpL x.base y.base = v1 at Z1 E
      generalize lexPs x.ps y.ps = v3 at Z3 E
      generalize hv2 : sgn m m' = v2 at E
      have HV2 := Lib.hid hv2
      clear hv2 HX HY HR HP HR' HP' HB0 HB2 HR2 HP2 HR2' HP2'
      go_wp2_with (fail)
      go_region_held3 (fun w' => w'.cell? ⟨gb, 0, none⟩ = some (.slice a n c) ∧ w'.cell? ⟨gb + 1, 0, none⟩ = some (.slice a' n' c') ∧ w'.cell? ⟨gb, 1, none⟩ = some (.slice pa m pc) ∧ w'.cell? ⟨gb + 1, 1, none⟩ = some (.slice pa' m' pc'))
        (first | (exact ⟨p0, q0, p1, q1⟩) | (exact ⟨p03, q03, p13, q13⟩) | (exact ⟨p04, q04, p14, q14⟩) | go_keep)
        (first
          | (go_at_call 32; refine Z1.out.mono ?_; rintro e w3 ⟨rfl, b3⟩; (replace b3 : Below w2.heap.size w2 w3 := undrew b3); (have p03 := (b3.cell (p := ⟨gb, 0, none⟩) HXs.out).trans p0); (have q03 := (b3.cell (p := ⟨gb + 1, 0, none⟩) HYs.out).trans q0); (have p13 := (b3.cell (p := ⟨gb, 1, none⟩) HXs.out).trans p1); (have q13 := (b3.cell (p := ⟨gb + 1, 1, none⟩) HYs.out).trans q1))
          | (go_at_call 45; refine (cmp_int _ _ _).mono ?_; rintro e w' ⟨rfl, rfl⟩; rw [HV2.out])
          | (go_at_call 46; refine (Z3.out _ b3).mono ?_; rintro e w4 ⟨rfl, b4⟩; (have b4 : Below w2.heap.size w2 w4 := b3.trans (b4.mono b3.size)); (have p04 := (b4.cell (p := ⟨gb, 0, none⟩) HXs.out).trans p0); (have q04 := (b4.cell (p := ⟨gb + 1, 0, none⟩) HYs.out).trans q0); (have p14 := (b4.cell (p := ⟨gb, 1, none⟩) HXs.out).trans p1); (have q14 := (b4.cell (p := ⟨gb + 1, 1, none⟩) HYs.out).trans q1))
          | (go_at_call 44; refine (or_any (some ⟨w4.heap.size, 0, none⟩) 3 [v1, v2, v3] _ (bag_new3 w4 v1 v2 v3)).mono ?_; rintro e w' ⟨rfl, rfl⟩))
      go_wp2
      go_ret
      exact ⟨by rw [E.out]; try rfl, HBB.out.trans ((b4.alloc (by exact b4.size) _).mono (by exact HBB.out.size))⟩
end Go.Proofs.Ytmbkiefbchjofaa

/- Contracts of Sub and of the reference's SubBag. -/
import Derived.Test.YtmnkjekjknhhjaaGreatDoorG
namespace Go.Proofs.YtmnkjekjknhhjaaGreatDoor
open Go.ChangeShapes Go.WideShapes Go.ChangeAt Go.RowKit
set_option maxRecDepth 100000

/-- What is left, as far as place k. -/
def subK (xs ys : List Int) (n k : Nat) : List Int := tab n (fun j => xs.getD j 0 - if j < k then ys.getD j 0 else 0)
theorem subK_len (xs ys : List Int) (n k : Nat) : (subK xs ys n k).length = n := tab_len _ _
theorem subK_zero {xs ys : List Int} : xs = subK xs ys xs.length 0 := by
  apply ext_getD
  · rw [subK_len]
  · intro j hj
    rw [subK, tab_at hj, if_neg (by omega), Int.sub_zero]
theorem subK_at {xs ys : List Int} {n k : Nat} (hk : k < n) : (subK xs ys n k).getD k 0 = xs.getD k 0 := by
  rw [subK, tab_at hk, if_neg (by omega), Int.sub_zero]
theorem subK_set {xs ys : List Int} {n k : Nat} : (subK xs ys n k).set k (xs.getD k 0 - ys.getD k 0) = subK xs ys n (k + 1) := by
  unfold subK
  rw [tab_set]
  refine tab_congr (fun j _ => ?_)
  by_cases h : j = k
  · subst h; rw [if_pos rfl, if_pos (by omega)]
  · rw [if_neg h]
    by_cases h' : j < k
    · rw [if_pos h', if_pos (by omega)]
    · rw [if_neg h', if_neg (by omega)]
theorem subK_end {xs ys : List Int} : subK xs ys xs.length ys.length = subT xs ys := by
  unfold subK subT
  refine tab_congr (fun j _ => ?_)
  by_cases h' : j < ys.length
  · rw [if_pos h']
  · rw [if_neg h', getD_past (l := ys) (by omega)]




theorem sub13_no1 (a b : Option Addr) (c d : Nat) (xs ys : List Int) (w : World) (R : Bag w a c xs) (hx : rightL xs = false) :
    Calls Tryz.prog 56 #[.slice a xs.length c, .slice b ys.length d] w (Makes2 (subS xs ys) (subOk xs ys) w) := by
  have H := Lib.hid (sub_no1 (b := ys) hx)
  have Z := right17 a c xs w R
  rw [hx] at Z
  clear hx R
  go_enter Tryz.func56, Tryz.ntmps56
  go_wp2_with (fail)
  refine Z.mono ?_
  rintro e w' ⟨rfl, rfl⟩
  go_wp2
  go_ret2
  exact makes2_nil H.out.2 H.out.1 (Below.refl _ _)
theorem sub13_no2 (a b : Option Addr) (c d : Nat) (xs ys : List Int) (w : World) (R : Bag w a c xs) (S : Bag w b d ys) (hx : rightL xs = true) (hy : rightL ys = false) :
    Calls Tryz.prog 56 #[.slice a xs.length c, .slice b ys.length d] w (Makes2 (subS xs ys) (subOk xs ys) w) := by
  have H := Lib.hid (sub_no2 (a := xs) hy)
  have Z := right17 a c xs w R
  have Z2 := right17 b d ys w S
  rw [hx] at Z
  rw [hy] at Z2
  clear hx hy R S
  go_enter Tryz.func56, Tryz.ntmps56
  go_wp2_with (fail)
  refine Z.mono ?_
  rintro e w' ⟨rfl, rfl⟩
  go_wp2_with (fail)
  refine Z2.mono ?_
  rintro e w' ⟨rfl, rfl⟩
  go_wp2
  go_ret2
  exact makes2_nil H.out.2 H.out.1 (Below.refl _ _)
theorem sub13_no3 (a b : Option Addr) (c d : Nat) (xs ys : List Int) (w : World) (R : Bag w a c xs) (S : Bag w b d ys) (hx : rightL xs = true) (hy : rightL ys = true) (hl : xs.length < ys.length) :
    Calls Tryz.prog 56 #[.slice a xs.length c, .slice b ys.length d] w (Makes2 (subS xs ys) (subOk xs ys) w) := by
  have H := Lib.hid (sub_no3 hl)
  have Z := right17 a c xs w R
  have Z2 := right17 b d ys w S
  rw [hx] at Z
  rw [hy] at Z2
  clear hx hy R S
  go_enter Tryz.func56, Tryz.ntmps56
  go_wp2_with (fail)
  refine Z.mono ?_
  rintro e w' ⟨rfl, rfl⟩
  go_wp2_with (fail)
  refine Z2.mono ?_
  rintro e w' ⟨rfl, rfl⟩
  go_wp2
  go_ret2
  exact makes2_nil H.out.2 H.out.1 (Below.refl _ _)

set_option maxHeartbeats 2000000 in
theorem sub13_le (a b : Option Addr) (c d : Nat) (xs ys : List Int) (w : World) (R : Bag w a c xs) (S : Bag w b d ys) (hx : rightL xs = true) (hy : rightL ys = true) (hle : ys.length ≤ xs.length) :
    Calls Tryz.prog 56 #[.slice a xs.length c, .slice b ys.length d] w (Makes2 (subS xs ys) (subOk xs ys) w) := by
  have Z := right17 a c xs w R
  have Z2 := right17 b d ys w S
  rw [hx] at Z
  rw [hy] at Z2
  have hl12 : xs.length ≤ 12 := (right_iff.1 hx).1
  obtain ⟨v, w1, hr, sa, sc, e, r1, f1, b1⟩ := run_copy 31 31 Tryz.underlying31 a c xs w R (by omega)
  injection e with e
  subst e
  obtain ⟨l, hl⟩ : ∃ l, l = xs.length := ⟨_, rfl⟩
  obtain ⟨m, hm⟩ : ∃ m, m = ys.length := ⟨_, rfl⟩
  have hlm : m ≤ l := by rw [hl, hm]; exact hle
  have HX := Lib.hid hx
  have HY := Lib.hid hy
  rw [← hl, ← hm]
  rw [← hl] at Z hl12 hr
  rw [← hm] at Z2
  have HL := Lib.hid hl.symm
  have HM := Lib.hid hm.symm
  have HS := Lib.hid S
  clear hl hm hx hy R S hle
  go_enter Tryz.func56, Tryz.ntmps56
  go_wp2_with (fail)
  refine Z.mono ?_
  rintro e w' ⟨rfl, rfl⟩
  go_wp2_with (fail)
  refine Z2.mono ?_
  rintro e w' ⟨rfl, rfl⟩
  clear Z Z2
  go_wp2_with (at_builtin; refine Lib.wpList_append_run _ rfl _ _ _ _ rfl _ _ rfl rfl _ _ hr ?_)
  rw [subK_zero (xs := xs) (ys := ys), HL.out] at r1
  have HR1 := Lib.hid r1
  have HF1 := Lib.hid f1
  clear r1 f1
  go_wp2_with (fail)
  go_loopw [28] (fun i wr => ∃ k : Nat, k ≤ m ∧ i = .int .i64 k ∧ Hid (Bag wr sa sc (subK xs ys l k)) ∧ Below w.heap.size w wr ∧ Hid (∀ j, j < k → ys.getD j 0 ≤ xs.getD j 0)) (fun i _ => m - (intOf i).toNat)
  case atStart => exact ⟨0, Nat.zero_le _, rfl, HR1, b1, Lib.hid (fun j h => by omega)⟩
  case round =>
    clear HR1 b1
    obtain ⟨k, hk, rfl, HB, bel, HE⟩ := hrel
    by_cases hlt : k < m
    · obtain ⟨g', rfl, hc0⟩ := HS.out.at (k := k) (by rw [HM.out]; exact hlt)
      have hc := (bel.cell (p := ⟨g', k, none⟩) (HS.out.lt rfl)).trans hc0
      clear hc0
      obtain ⟨g, rfl, hs⟩ := HB.out.at (k := k) (by rw [subK_len]; omega)
      have hgw : w.heap.size ≤ g := HF1.out g rfl
      rw [subK_at (by omega)] at hs
      have hf := HB.out.frozen k
      have P := HB.out.set (j := k) (by rw [subK_len]; omega) (xs.getD k 0 - ys.getD k 0)
      rw [subK_set] at P
      have HP := Lib.hid P
      have p1 := right_at HX.out k
      have p2 := right_at HY.out k
      clear P
      by_cases hfit : ys.getD k 0 ≤ xs.getD k 0
      · have HF : Hid (∀ j, j < k + 1 → ys.getD j 0 ≤ xs.getD j 0) := Lib.hid (fun j hj => by
          by_cases e : j = k
          · rw [e]; exact hfit
          · exact HE.out j (by omega))
        clear HE
        generalize xs.getD k 0 = p at hs HP p1 hfit
        generalize ys.getD k 0 = q at hc HP p2 hfit
        have h1 : ¬ p < q := by omega
        have h2 : 0 ≤ q := p2.1
        have h3 : p ≤ 1152921504606846976 := p1.2
        have h4 : 0 ≤ p := p1.1
        clear p1 p2
        go_wp2
        go_roundw
        case rel => exact ⟨k + 1, by omega, by go_num, HP, bel.setCell hgw _, HF⟩
        case measure => simp [intOf]; omega
      · have H := Lib.hid (sub_no4 (a := xs) (b := ys) (j := k) (by rw [HM.out]; omega) (by omega))
        clear HE HP
        generalize xs.getD k 0 = p at hs p1 hfit
        generalize ys.getD k 0 = q at hc p2 hfit
        have h1 : p < q := by omega
        clear p1 p2 hfit
        go_wp2
        go_ret2
        exact makes2_nil H.out.2 H.out.1 bel
    · obtain rfl : k = m := by omega
      have hfit : ∀ j, j < ys.length → ys.getD j 0 ≤ xs.getD j 0 := fun j hj => HE.out j (by rw [HM.out] at hj; exact hj)
      have H := Lib.hid (sub_yes HX.out HY.out (by rw [HL.out, HM.out]; omega) hfit)
      have HQ := Lib.hid (sub_right HX.out HY.out (by rw [HL.out, HM.out]; omega) hfit)
      have E : subK xs ys l k = subT xs ys := by rw [← HL.out, ← HM.out]; exact subK_end
      have r2 : Bag wr sa sc (subT xs ys) := by rw [← E]; exact HB.out
      have hln : (subT xs ys).length = l := by rw [subT, tab_len]; exact HL.out
      have T := norm20 sa sc (subT xs ys) wr r2 (by omega)
      rw [hln, norm_yes HQ.out] at T
      clear E r2 hln HB HE hfit
      generalize trimL (subT xs ys) = zs at *
      go_wp2_with (fail)
      refine T.mono ?_
      rintro e w2 ⟨ta, tc, rfl, r3, f3, b3⟩
      go_wp2
      go_ret2
      rw [H.out.1, H.out.2]
      exact ⟨ta, tc, rfl, r3, fun g e => Nat.le_trans bel.size (f3 g e), bel.trans (b3.mono bel.size)⟩

theorem sub13 (a b : Option Addr) (c d : Nat) (xs ys : List Int) (w : World) (R : Bag w a c xs) (S : Bag w b d ys) :
    Calls Tryz.prog 56 #[.slice a xs.length c, .slice b ys.length d] w (Makes2 (subS xs ys) (subOk xs ys) w) := by
  cases hx : rightL xs with
  | false => exact sub13_no1 a b c d xs ys w R hx
  | true =>
    cases hy : rightL ys with
    | false => exact sub13_no2 a b c d xs ys w R S hx hy
    | true =>
      by_cases h : xs.length < ys.length
      · exact sub13_no3 a b c d xs ys w R S hx hy h
      · exact sub13_le a b c d xs ys w R S hx hy (by omega)
end Go.Proofs.YtmnkjekjknhhjaaGreatDoor

/- Contract of the reference's AddBag. -/
import Derived.Test.YtmnkjekjknhhjaaGreatDoorG
namespace Go.Proofs.YtmnkjekjknhhjaaGreatDoor
open Go.ChangeShapes Go.WideShapes Go.ChangeAt Go.RowKit

/-- The sum, as far as place k; noughts behind. -/
def refK (xs ys : List Int) (n k : Nat) : List Int := tab n (fun j => if j < k then xs.getD j 0 + ys.getD j 0 else 0)
theorem refK_len (xs ys : List Int) (n k : Nat) : (refK xs ys n k).length = n := tab_len _ _
theorem refK_zero {xs ys : List Int} {n : Nat} : tab n (fun _ => 0) = refK xs ys n 0 := tab_congr (fun j _ => by rw [if_neg (by omega)])
theorem refK_set {xs ys : List Int} {n k : Nat} : (refK xs ys n k).set k (xs.getD k 0 + ys.getD k 0) = refK xs ys n (k + 1) := by
  unfold refK
  rw [tab_set]
  refine tab_congr (fun j _ => ?_)
  by_cases h : j = k
  · subst h; rw [if_pos rfl, if_pos (by omega)]
  · rw [if_neg h]
    by_cases h' : j < k
    · rw [if_pos h', if_pos (by omega)]
    · rw [if_neg h', if_neg (by omega)]
theorem refK_end {xs ys : List Int} {n : Nat} (hn : n = max xs.length ys.length) : refK xs ys n n = addT xs ys := by
  unfold refK addT
  rw [← hn]
  exact tab_congr (fun j hj => by rw [if_pos hj])

theorem add11_no1 (a b : Option Addr) (c d : Nat) (xs ys : List Int) (w : World) (R : Bag w a c xs) (hx : rightL xs = false) :
    Calls Tryz.prog 55 #[.slice a xs.length c, .slice b ys.length d] w (Makes2 (addS xs ys) (addOk xs ys) w) := by
  have H := Lib.hid (add_no1 (b := ys) hx)
  have Z := right17 a c xs w R
  rw [hx] at Z
  clear hx R
  go_enter Tryz.func55, Tryz.ntmps55
  go_wp2_with (fail)
  refine Z.mono ?_
  rintro e w' ⟨rfl, rfl⟩
  go_wp2
  go_ret2
  exact makes2_nil H.out.2 H.out.1 (Below.refl _ _)
theorem add11_no2 (a b : Option Addr) (c d : Nat) (xs ys : List Int) (w : World) (R : Bag w a c xs) (S : Bag w b d ys) (hx : rightL xs = true) (hy : rightL ys = false) :
    Calls Tryz.prog 55 #[.slice a xs.length c, .slice b ys.length d] w (Makes2 (addS xs ys) (addOk xs ys) w) := by
  have H := Lib.hid (add_no2 (a := xs) hy)
  have Z := right17 a c xs w R
  have Z2 := right17 b d ys w S
  rw [hx] at Z
  rw [hy] at Z2
  clear hx hy R S
  go_enter Tryz.func55, Tryz.ntmps55
  go_wp2_with (fail)
  refine Z.mono ?_
  rintro e w' ⟨rfl, rfl⟩
  go_wp2_with (fail)
  refine Z2.mono ?_
  rintro e w' ⟨rfl, rfl⟩
  go_wp2
  go_ret2
  exact makes2_nil H.out.2 H.out.1 (Below.refl _ _)

set_option maxHeartbeats 2000000 in
set_option maxRecDepth 10000 in
theorem add11_le (a b : Option Addr) (c d : Nat) (xs ys : List Int) (w : World) (R : Bag w a c xs) (S : Bag w b d ys) (hx : rightL xs = true) (hy : rightL ys = true) (hle : xs.length < ys.length) :
    Calls Tryz.prog 55 #[.slice a xs.length c, .slice b ys.length d] w (Makes2 (addS xs ys) (addOk xs ys) w) := by
  have Z := right17 a c xs w R
  have Z2 := right17 b d ys w S
  rw [hx] at Z
  rw [hy] at Z2
  obtain ⟨l, hl⟩ : ∃ l, l = xs.length := ⟨_, rfl⟩
  obtain ⟨m, hm⟩ : ∃ m, m = ys.length := ⟨_, rfl⟩
  have hl12 : l ≤ 12 := by rw [hl]; exact (right_iff.1 hx).1
  have hm12 : m ≤ 12 := by rw [hm]; exact (right_iff.1 hy).1
  have hlm : l < m := by rw [hl, hm]; exact hle
  have HX := Lib.hid hx
  have HY := Lib.hid hy
  rw [← hl, ← hm]
  rw [← hl] at Z
  rw [← hm] at Z2
  have HL := Lib.hid hl.symm
  have HM := Lib.hid hm.symm
  have HR := Lib.hid R
  have HS := Lib.hid S
  clear hl hm hx hy R S hle
  go_enter Tryz.func55, Tryz.ntmps55
  go_wp2_with (fail)
  refine Z.mono ?_
  rintro e w' ⟨rfl, rfl⟩
  go_wp2_with (fail)
  refine Z2.mono ?_
  rintro e w' ⟨rfl, rfl⟩
  clear Z Z2
  go_wp2_with (at_make; refine wpList_make_bag _ rfl _ _ rfl _ _ m rfl rfl rfl rfl (by omega) ?_)
  intro w1 r1 b1
  rw [refK_zero (xs := xs) (ys := ys)] at r1
  have HR1 := Lib.hid r1
  clear r1
  go_wp2_with (fail)
  go_loopw [28] (fun i wr => ∃ k : Nat, k ≤ m ∧ i = .int .i64 k ∧ Hid (Bag wr (some ⟨w.heap.size, 0, none⟩) m (refK xs ys m k)) ∧ Below w.heap.size w wr ∧ Hid (∀ j, j < k → xs.getD j 0 + ys.getD j 0 ≤ 1152921504606846976)) (fun i _ => m - (intOf i).toNat)
  case atStart => exact ⟨0, Nat.zero_le _, rfl, HR1, b1, Lib.hid (fun j h => by omega)⟩
  case round =>
    clear HR1 b1
    obtain ⟨k, hk, rfl, HB, bel, HE⟩ := hrel
    by_cases hlt : k < m
    · obtain ⟨g, e, hs⟩ := HB.out.at (k := k) (by rw [refK_len]; omega)
      injection e with e; injection e with e
      have hg : w.heap.size = g := e
      subst hg
      clear e
      generalize (refK xs ys m k).getD k 0 = z0 at hs
      have hf := HB.out.frozen k
      have P := HB.out.set (j := k) (by rw [refK_len]; omega) (xs.getD k 0 + ys.getD k 0)
      rw [refK_set] at P
      have p1 : okN (xs.getD k 0) = true := okN_iff.2 (right_at HX.out k)
      have p2 : okN (ys.getD k 0) = true := okN_iff.2 (right_at HY.out k)
      by_cases hkl : k < l
      · obtain ⟨g', rfl, hc0⟩ := HR.out.at (k := k) (by rw [HL.out]; exact hkl)
        have hc := (bel.cell (p := ⟨g', k, none⟩) (HR.out.lt rfl)).trans hc0
        clear hc0
        by_cases hkm : k < m
        · obtain ⟨g2, rfl, hd0⟩ := HS.out.at (k := k) (by rw [HM.out]; exact hkm)
          have hd := (bel.cell (p := ⟨g2, k, none⟩) (HS.out.lt rfl)).trans hd0
          clear hd0
          have HP := Lib.hid P
          clear P
          by_cases hfit : xs.getD k 0 + ys.getD k 0 ≤ 1152921504606846976
          · have M := radd_yes (xs.getD k 0) (ys.getD k 0) wr p1 p2 (by omega)
            have HF : Hid (∀ j, j < k + 1 → xs.getD j 0 + ys.getD j 0 ≤ 1152921504606846976) := Lib.hid (fun j hj => by
              by_cases e : j = k
              · rw [e]; exact hfit
              · exact HE.out j (by omega))
            clear hfit HE
            clear p1 p2
            generalize xs.getD k 0 = p at *
            generalize ys.getD k 0 = q at *
            go_wp2_with (fail)
            refine M.mono ?_
            rintro e w' ⟨rfl, rfl⟩
            clear M
            go_wp2
            go_roundw
            case rel => exact ⟨k + 1, by omega, by go_num, HP, bel.setCell (Nat.le_refl _) _, HF⟩
            case measure => simp [intOf]; omega
          · have M := radd_no (xs.getD k 0) (ys.getD k 0) wr p1 p2 (by omega)
            have H := Lib.hid (add_no3 (a := xs) (b := ys) (j := k) (by rw [HL.out, HM.out]; omega) (by omega))
            clear hfit HE
            clear p1 p2
            generalize xs.getD k 0 = p at *
            generalize ys.getD k 0 = q at *
            go_wp2_with (fail)
            refine M.mono ?_
            rintro e w' ⟨rfl, rfl⟩
            clear M
            go_wp2
            go_ret2
            exact makes2_nil H.out.2 H.out.1 bel
        · exact absurd hkm (by omega)
      · have q0 : xs.getD k 0 = 0 := getD_past (by rw [HL.out]; omega)
        rw [q0] at p1 P
        rw [Int.zero_add] at P
        have HP := Lib.hid P
        clear P
        have hkm : k < m := by omega
        obtain ⟨g2, rfl, hd0⟩ := HS.out.at (k := k) (by rw [HM.out]; exact hkm)
        have hd := (bel.cell (p := ⟨g2, k, none⟩) (HS.out.lt rfl)).trans hd0
        clear hd0
        by_cases hfit : xs.getD k 0 + ys.getD k 0 ≤ 1152921504606846976
        · have M := radd_yes 0 (ys.getD k 0) wr p1 p2 (by omega)
          have HF : Hid (∀ j, j < k + 1 → xs.getD j 0 + ys.getD j 0 ≤ 1152921504606846976) := Lib.hid (fun j hj => by
            by_cases e : j = k
            · rw [e]; exact hfit
            · exact HE.out j (by omega))
          clear hfit HE
          clear p1 p2 q0
          generalize ys.getD k 0 = q at *
          go_wp2_with (fail)
          refine M.mono ?_
          rintro e w' ⟨rfl, rfl⟩
          clear M
          go_wp2
          go_roundw
          case rel => exact ⟨k + 1, by omega, by go_num, HP, bel.setCell (Nat.le_refl _) _, HF⟩
          case measure => simp [intOf]; omega
        · have M := radd_no 0 (ys.getD k 0) wr p1 p2 (by omega)
          have H := Lib.hid (add_no3 (a := xs) (b := ys) (j := k) (by rw [HL.out, HM.out]; omega) (by omega))
          clear hfit HE
          clear p1 p2 q0
          generalize ys.getD k 0 = q at *
          go_wp2_with (fail)
          refine M.mono ?_
          rintro e w' ⟨rfl, rfl⟩
          clear M
          go_wp2
          go_ret2
          exact makes2_nil H.out.2 H.out.1 bel
    · obtain rfl : k = m := by omega
      have H := Lib.hid (add_yes HX.out HY.out (fun j hj => HE.out j (by rw [HL.out, HM.out] at hj; omega)))
      have E : refK xs ys k k = addT xs ys := refK_end (by rw [HL.out, HM.out]; omega)
      have HE2 := Lib.hid E
      have HL2 : Hid ((addT xs ys).length = k) := Lib.hid (by rw [add_len, HL.out, HM.out]; omega)
      clear E
      go_wp2
      go_ret2
      rw [H.out.1, H.out.2]
      refine ⟨some ⟨w.heap.size, 0, none⟩, k, by rw [HL2.out]; rfl, ?_, fun g e => ?_, bel⟩
      · rw [← HE2.out]; exact HB.out
      · injection e with e; injection e with e; omega

set_option maxHeartbeats 2000000 in
set_option maxRecDepth 10000 in
theorem add11_gt (a b : Option Addr) (c d : Nat) (xs ys : List Int) (w : World) (R : Bag w a c xs) (S : Bag w b d ys) (hx : rightL xs = true) (hy : rightL ys = true) (hle : ys.length ≤ xs.length) :
    Calls Tryz.prog 55 #[.slice a xs.length c, .slice b ys.length d] w (Makes2 (addS xs ys) (addOk xs ys) w) := by
  have Z := right17 a c xs w R
  have Z2 := right17 b d ys w S
  rw [hx] at Z
  rw [hy] at Z2
  obtain ⟨l, hl⟩ : ∃ l, l = xs.length := ⟨_, rfl⟩
  obtain ⟨m, hm⟩ : ∃ m, m = ys.length := ⟨_, rfl⟩
  have hl12 : l ≤ 12 := by rw [hl]; exact (right_iff.1 hx).1
  have hm12 : m ≤ 12 := by rw [hm]; exact (right_iff.1 hy).1
  have hlm : m ≤ l := by rw [hl, hm]; exact hle
  have HX := Lib.hid hx
  have HY := Lib.hid hy
  rw [← hl, ← hm]
  rw [← hl] at Z
  rw [← hm] at Z2
  have HL := Lib.hid hl.symm
  have HM := Lib.hid hm.symm
  have HR := Lib.hid R
  have HS := Lib.hid S
  clear hl hm hx hy R S hle
  go_enter Tryz.func55, Tryz.ntmps55
  go_wp2_with (fail)
  refine Z.mono ?_
  rintro e w' ⟨rfl, rfl⟩
  go_wp2_with (fail)
  refine Z2.mono ?_
  rintro e w' ⟨rfl, rfl⟩
  clear Z Z2
  go_wp2_with (at_make; refine wpList_make_bag _ rfl _ _ rfl _ _ l rfl rfl rfl rfl (by omega) ?_)
  intro w1 r1 b1
  rw [refK_zero (xs := xs) (ys := ys)] at r1
  have HR1 := Lib.hid r1
  clear r1
  go_wp2_with (fail)
  go_loopw [28] (fun i wr => ∃ k : Nat, k ≤ l ∧ i = .int .i64 k ∧ Hid (Bag wr (some ⟨w.heap.size, 0, none⟩) l (refK xs ys l k)) ∧ Below w.heap.size w wr ∧ Hid (∀ j, j < k → xs.getD j 0 + ys.getD j 0 ≤ 1152921504606846976)) (fun i _ => l - (intOf i).toNat)
  case atStart => exact ⟨0, Nat.zero_le _, rfl, HR1, b1, Lib.hid (fun j h => by omega)⟩
  case round =>
    clear HR1 b1
    obtain ⟨k, hk, rfl, HB, bel, HE⟩ := hrel
    by_cases hlt : k < l
    · obtain ⟨g, e, hs⟩ := HB.out.at (k := k) (by rw [refK_len]; omega)
      injection e with e; injection e with e
      have hg : w.heap.size = g := e
      subst hg
      clear e
      generalize (refK xs ys l k).getD k 0 = z0 at hs
      have hf := HB.out.frozen k
      have P := HB.out.set (j := k) (by rw [refK_len]; omega) (xs.getD k 0 + ys.getD k 0)
      rw [refK_set] at P
      have p1 : okN (xs.getD k 0) = true := okN_iff.2 (right_at HX.out k)
      have p2 : okN (ys.getD k 0) = true := okN_iff.2 (right_at HY.out k)
      by_cases hkl : k < l
      · obtain ⟨g', rfl, hc0⟩ := HR.out.at (k := k) (by rw [HL.out]; exact hkl)
        have hc := (bel.cell (p := ⟨g', k, none⟩) (HR.out.lt rfl)).trans hc0
        clear hc0
        by_cases hkm : k < m
        · obtain ⟨g2, rfl, hd0⟩ := HS.out.at (k := k) (by rw [HM.out]; exact hkm)
          have hd := (bel.cell (p := ⟨g2, k, none⟩) (HS.out.lt rfl)).trans hd0
          clear hd0
          have HP := Lib.hid P
          clear P
          by_cases hfit : xs.getD k 0 + ys.getD k 0 ≤ 1152921504606846976
          · have M := radd_yes (xs.getD k 0) (ys.getD k 0) wr p1 p2 (by omega)
            have HF : Hid (∀ j, j < k + 1 → xs.getD j 0 + ys.getD j 0 ≤ 1152921504606846976) := Lib.hid (fun j hj => by
              by_cases e : j = k
              · rw [e]; exact hfit
              · exact HE.out j (by omega))
            clear hfit HE
            clear p1 p2
            generalize xs.getD k 0 = p at *
            generalize ys.getD k 0 = q at *
            go_wp2_with (fail)
            refine M.mono ?_
            rintro e w' ⟨rfl, rfl⟩
            clear M
            go_wp2
            go_roundw
            case rel => exact ⟨k + 1, by omega, by go_num, HP, bel.setCell (Nat.le_refl _) _, HF⟩
            case measure => simp [intOf]; omega
          · have M := radd_no (xs.getD k 0) (ys.getD k 0) wr p1 p2 (by omega)
            have H := Lib.hid (add_no3 (a := xs) (b := ys) (j := k) (by rw [HL.out, HM.out]; omega) (by omega))
            clear hfit HE
            clear p1 p2
            generalize xs.getD k 0 = p at *
            generalize ys.getD k 0 = q at *
            go_wp2_with (fail)
            refine M.mono ?_
            rintro e w' ⟨rfl, rfl⟩
            clear M
            go_wp2
            go_ret2
            exact makes2_nil H.out.2 H.out.1 bel
        · have q0 : ys.getD k 0 = 0 := getD_past (by rw [HM.out]; omega)
          rw [q0] at p2 P
          rw [Int.add_zero] at P
          have HP := Lib.hid P
          clear P
          by_cases hfit : xs.getD k 0 + ys.getD k 0 ≤ 1152921504606846976
          · have M := radd_yes (xs.getD k 0) 0 wr p1 p2 (by omega)
            have HF : Hid (∀ j, j < k + 1 → xs.getD j 0 + ys.getD j 0 ≤ 1152921504606846976) := Lib.hid (fun j hj => by
              by_cases e : j = k
              · rw [e]; exact hfit
              · exact HE.out j (by omega))
            clear hfit HE
            clear p1 p2 q0
            generalize xs.getD k 0 = p at *
            go_wp2_with (fail)
            refine M.mono ?_
            rintro e w' ⟨rfl, rfl⟩
            clear M
            go_wp2
            go_roundw
            case rel => exact ⟨k + 1, by omega, by go_num, HP, bel.setCell (Nat.le_refl _) _, HF⟩
            case measure => simp [intOf]; omega
          · have M := radd_no (xs.getD k 0) 0 wr p1 p2 (by omega)
            have H := Lib.hid (add_no3 (a := xs) (b := ys) (j := k) (by rw [HL.out, HM.out]; omega) (by omega))
            clear hfit HE
            clear p1 p2 q0
            generalize xs.getD k 0 = p at *
            go_wp2_with (fail)
            refine M.mono ?_
            rintro e w' ⟨rfl, rfl⟩
            clear M
            go_wp2
            go_ret2
            exact makes2_nil H.out.2 H.out.1 bel
      · exact absurd hkl (by omega)
    · obtain rfl : k = l := by omega
      have H := Lib.hid (add_yes HX.out HY.out (fun j hj => HE.out j (by rw [HL.out, HM.out] at hj; omega)))
      have E : refK xs ys k k = addT xs ys := refK_end (by rw [HL.out, HM.out]; omega)
      have HE2 := Lib.hid E
      have HL2 : Hid ((addT xs ys).length = k) := Lib.hid (by rw [add_len, HL.out, HM.out]; omega)
      clear E
      go_wp2
      go_ret2
      rw [H.out.1, H.out.2]
      refine ⟨some ⟨w.heap.size, 0, none⟩, k, by rw [HL2.out]; rfl, ?_, fun g e => ?_, bel⟩
      · rw [← HE2.out]; exact HB.out
      · injection e with e; injection e with e; omega

theorem add11 (a b : Option Addr) (c d : Nat) (xs ys : List Int) (w : World) (R : Bag w a c xs) (S : Bag w b d ys) :
    Calls Tryz.prog 55 #[.slice a xs.length c, .slice b ys.length d] w (Makes2 (addS xs ys) (addOk xs ys) w) := by
  cases hx : rightL xs with
  | false => exact add11_no1 a b c d xs ys w R hx
  | true =>
    cases hy : rightL ys with
    | false => exact add11_no2 a b c d xs ys w R S hx hy
    | true =>
      by_cases h : xs.length < ys.length
      · exact add11_le a b c d xs ys w R S hx hy h
      · exact add11_gt a b c d xs ys w R S hx hy (by omega)
end Go.Proofs.YtmnkjekjknhhjaaGreatDoor

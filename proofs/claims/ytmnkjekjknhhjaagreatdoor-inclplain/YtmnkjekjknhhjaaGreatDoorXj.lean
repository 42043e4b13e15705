/- InclPlain's walk. -/
import Derived.Test.YtmnkjekjknhhjaaGreatDoorXi
namespace Go.Proofs.YtmnkjekjknhhjaaGreatDoor
open Go.ChangeShapes Go.WideShapes Go.ChangeAt Go.RowKit

theorem norm39 {ys : List Int} (hl : ys.length ≤ 4) (h : ∀ j, 0 ≤ ys.getD j 0 ∧ ys.getD j 0 ≤ 39) : Small 39 (normL ys) := by
  have hr : rightL (trimL ys) = true := right_of (by rw [trim_len]; have := cut_le ys; omega) (fun j _ => by rw [trim_at]; have := h j; omega) trim_last
  rw [norm_yes hr]
  exact ⟨hr, (right_iff.1 hr).1, fun j => by rw [trim_at]; exact (h j).2⟩
theorem has_none {s : List Lin} (hs : Thin s) (w : List Int) (D : Nat) {N : Mr} (hN : N = none) : hasM N s w D = (finalL (readGo s w D 0 (startL s) N).1, 0, N) := by
  have h := (readGo_free hs w D 0 (startL s) N hN (stand_start hs)).1
  unfold hasM
  rw [h, if_pos rfl]
set_option maxRecDepth 100000 in
set_option maxHeartbeats 8000000 in
theorem plain_walk (a0 : Option Addr) (l0 c0 : Nat) (z0 : List Int) (a1 : Option Addr) (l1 c1 : Nat) (z1 : List Int) (w : World) (h0 : Hid (Came w a0 l0 c0 z0)) (h1 : Hid (Came w a1 l1 c1 z1)) :
    Calls Tryz.prog 5 #[.slice a0 l0 c0, .slice a1 l1 c1] w (True_ w) := by
  have hlen := h0.out.1
  have hcap := h0.out.2.2.1
  have hlen2 := h1.out.1
  have hcap2 := h1.out.2.2.1
  have HZ := Lib.hid (small25 a0 l0 c0 z0 w h0)
  go_enter Tryz.func5, Tryz.ntmps5
  go_wp2_with (fail)
  refine HZ.out.mono ?_
  rintro e W1 ⟨sa, sc, s, rfl, L1, T1, F1, b1⟩
  have HB1 := Lib.hid b1
  have HT := Lib.hid T1
  have HF4 := Lib.hid F1
  have HS1 := Lib.hid L1
  have hls := L1.le
  have HZ2 := Lib.hid (play_any4 a1 l1 c1 z1 W1 (h1.out.below b1))
  generalize hn : s.length = n at hls ⊢
  have HN := Lib.hid hn
  clear L1 T1 F1 b1 hn HZ h0 h1
  go_wp2_with (fail)
  refine HZ2.out.mono ?_
  rintro e W2 ⟨xs, hx39, hx4, a2, c2, rfl, B2, f2, b2⟩
  have hl2 := B2.le
  have HBX := Lib.hid B2
  have HFX := Lib.hid f2
  have HB2 := Lib.hid b2
  have HXB : Hid (xs.length = xs.length ∧ ∀ j, 0 ≤ xs.getD j 0 ∧ xs.getD j 0 ≤ 39) := Lib.hid ⟨rfl, fun j => ⟨(right_at hx39.right j).1, hx39.top j⟩⟩
  generalize hm : xs.length = m at hl2 hx4 HXB ⊢
  have HM := Lib.hid hm
  clear B2 f2 b2 hm hx39 HZ2
  go_wp2
  go_loopw [19] (fun i wr => ∃ (k : Nat) (ys : List Int), k ≤ m ∧ i = .int .i64 k ∧ Hid (ys.length = m ∧ ∀ j, 0 ≤ ys.getD j 0 ∧ ys.getD j 0 ≤ 39) ∧ Hid (Bag wr a2 c2 ys) ∧ Hid (Below W1.heap.size W1 wr)) (fun i _ => m - (intOf i).toNat)
  case atStart => exact ⟨0, xs, Nat.zero_le _, rfl, Lib.hid ⟨HM.out, HXB.out.2⟩, HBX, HB2⟩
  case round =>
    clear HBX HB2 HXB
    obtain ⟨k, ys, hk, rfl, HY, HB, HBL⟩ := hrel
    by_cases hlt : k < m
    · obtain ⟨g, e, hc⟩ := HB.out.at (k := k) (by rw [HY.out.1]; exact hlt)
      subst e
      have hge := HFX.out g rfl
      have hfz := HB.out.frozen k
      have hy := HY.out.2 k
      have HP := Lib.hid (HB.out.set (j := k) (by rw [HY.out.1]; exact hlt) (ys.getD k 0 % 5))
      have hq : (ys.getD k 0).tmod 5 = ys.getD k 0 % 5 := Int.tmod_eq_emod_of_nonneg hy.1
      have HY2 : Hid ((ys.set k (ys.getD k 0 % 5)).length = m ∧ ∀ j, 0 ≤ (ys.set k (ys.getD k 0 % 5)).getD j 0 ∧ (ys.set k (ys.getD k 0 % 5)).getD j 0 ≤ 39) := Lib.hid ⟨by rw [List.length_set]; exact HY.out.1, fun j => by
        by_cases e : j = k
        · subst e
          have : (ys.set j (ys.getD j 0 % 5)).getD j 0 = ys.getD j 0 % 5 := by simp [List.getD, HY.out.1, hlt]
          rw [this]
          omega
        · have : (ys.set k (ys.getD k 0 % 5)).getD j 0 = ys.getD j 0 := by simp [List.getD, Ne.symm e]
          rw [this]
          exact HY.out.2 j⟩
      have HBL2 : Hid (Below W1.heap.size W1 (wr.setCell ⟨g, k, none⟩ (.int .i64 (ys.getD k 0 % 5)))) := Lib.hid (HBL.out.setCell (p := ⟨g, k, none⟩) hge _)
      generalize ys.set k (ys.getD k 0 % 5) = y2 at HP HY2
      generalize ys.getD k 0 = v at hc hq HP HBL2 hy
      have i1 : (0 : Int) ≤ (k : Int) := by omega
      have i2 : (k : Int) < (m : Int) := by omega
      clear HB HBL HY
      go_wp2
      go_roundw
      case rel => exact ⟨k + 1, y2, by omega, by go_num, HY2, HP, HBL2⟩
      case measure => simp [intOf]; omega
    · obtain rfl : k = m := by omega
      have Z := norm20 a2 c2 ys wr HB.out (by rw [HY.out.1]; omega)
      have hsm := norm39 (by rw [HY.out.1]; omega) HY.out.2
      rw [HY.out.1] at Z
      obtain ⟨ws, hws⟩ : ∃ ws, ws = normL ys := ⟨_, rfl⟩
      rw [← hws] at Z hsm
      have HSM := Lib.hid hsm
      have HZ := Lib.hid Z
      clear Z hws hsm
      go_wp2_with (fail)
      refine HZ.out.mono ?_
      clear HZ
      rintro e W3 ⟨a3, c3, rfl, B3, _, b3⟩
      have hl3 := B3.le
      have HW3 := Lib.hid B3
      have HB3 := Lib.hid (HBL.out.trans (b3.mono HBL.out.size))
      generalize hwl : ws.length = wl at hl3 ⊢
      have HWL := Lib.hid hwl
      clear B3 b3 hwl HB HBL HY
      go_wp2
      go_loopw [8, 33] (fun wv i wr => ∃ (k : Nat) (wb : Bool), k ≤ n ∧ wv = .bool wb ∧ i = .int .i64 k ∧ Hid (wb = true ↔ ∃ j, j < k ∧ MadeOf (linAt s j).base (linAt s j).ps ws) ∧ Hid (Below W3.heap.size W3 wr)) (fun _ i _ => n - (intOf i).toNat)
      case atStart => exact ⟨0, false, Nat.zero_le _, rfl, rfl, Lib.hid ⟨fun h => (by cases h), fun ⟨j, h, _⟩ => absurd h (Nat.not_lt_zero _)⟩, Lib.hid (Below.refl _ _)⟩
      case round =>
        obtain ⟨k, wb, hk, rfl, rfl, HWB, HBW⟩ := hrel
        have HBT := Lib.hid (HB3.out.trans (HBW.out.mono HB3.out.size))
        by_cases hlt : k < n
        · obtain ⟨g, b, d, pb, pd, e1, q0, q1, B0, P0⟩ := (HS1.out.below HBT.out).at (k := k) (by rw [HN.out]; exact hlt)
          subst e1
          have hX := HT.out.each _ (lin_at_mem (s := s) (k := k) (by rw [HN.out]; exact hlt))
          have hrl := (rightLin_iff.1 hX.trim.right)
          have hbl := B0.le
          have hpl := P0.le
          have bb := below_alloc wr (.cells #[.slice b (linAt s k).base.length d, .slice pb (linAt s k).ps.length pd] 53)
          have Z := made29 ws HSM.out.right (HSM.out.more (by omega)) wl HWL.out _ (linAt s k).base (linAt s k).ps b pb a3 d _ pd c3 _ hrl.1 (hX.trim.base.more (by omega)) (fun p hp => ⟨(hX.pers p hp).right, (hrl.2.1 p hp).2, (hX.pers p hp).more (by omega)⟩) (Nat.le_refl _) (B0.below bb) (Pers.of (P0.below bb) rfl) ((HW3.out.below HBW.out).below bb)
          have HBI := Lib.hid (HBW.out.trans (bb.mono HBW.out.size))
          have HMO : Hid (∀ r : Bool, (r = true ↔ MadeOf (linAt s k).base (linAt s k).ps ws) → (r = true ↔ ∃ j, j < k + 1 ∧ MadeOf (linAt s j).base (linAt s j).ps ws) ∨ wb = true) := Lib.hid (fun r hr => by
            cases wb with
            | true => exact .inr rfl
            | false =>
              left
              constructor
              · intro h
                exact ⟨k, Nat.lt_succ_self k, hr.1 h⟩
              · rintro ⟨j, hj, hm⟩
                by_cases e : j = k
                · subst e; exact hr.2 hm
                · exact absurd (HWB.out.2 ⟨j, by omega, hm⟩) (by simp))
          generalize hu : (linAt s k).base.length = u at q0 hbl Z HBI
          generalize hz : (linAt s k).ps.length = z at q1 hpl Z HBI
          have HZ := Lib.hid Z
          have i1 : (0 : Int) ≤ (k : Int) := by omega
          have i2 : (k : Int) < (n : Int) := by omega
          clear B0 P0 bb Z hX hrl hu hz
          cases wb with
          | true =>
            have HW2 : Hid (true = true ↔ ∃ j, j < k + 1 ∧ MadeOf (linAt s j).base (linAt s j).ps ws) := Lib.hid ⟨fun h => by
              obtain ⟨j, hj, hm⟩ := HWB.out.1 h
              exact ⟨j, by omega, hm⟩, fun _ => rfl⟩
            go_wp2
            go_roundw
            case rel => exact ⟨k + 1, true, by omega, by first | rfl | trivial, by go_num, HW2, HBI⟩
            case measure => simp [intOf]; omega
          | false =>
            go_wp2_with (fail)
            refine HZ.out.mono ?_
            rintro e W4 ⟨r, rfl, hr, b4⟩
            have HBJ := Lib.hid (HBI.out.trans (b4.mono HBI.out.size))
            have HW2 := Lib.hid ((HMO.out r hr).resolve_right (by simp))
            clear b4 hr HZ
            go_wp2
            go_roundw
            case rel => exact ⟨k + 1, r, by omega, by first | rfl | trivial, by go_num, HW2, HBJ⟩
            case measure => simp [intOf]; omega
        · obtain rfl : k = n := by omega
          have Z := has15 none sa a3 sc c3 none s ws wr rfl (HS1.out.below HBT.out) (HW3.out.below HBW.out) HT.out
          rw [HN.out, HWL.out] at Z
          have HZ := Lib.hid Z
          clear Z
          go_wp2_with (fail)
          refine HZ.out.mono ?_
          clear HZ
          rintro e W5 hh
          have hh2 : ∃ D, D ≤ 62 ∧ DigP ws D ∧ HasSp none (hasM none s ws D) wr e W5 := by
            rcases hh with ⟨h, _⟩ | ⟨D, h1, _, h3, h4⟩
            · rw [HSM.out.right] at h; cases h
            · exact ⟨D, h1, h3, h4⟩
          obtain ⟨D, hD, hdp, rfl, m5, k5⟩ := hh2
          rw [has_none HT.out ws D rfl]
          have hin := final_in HT.out HSM.out.right hD hdp.1 (N := (none : Mr)) rfl
          have HEQ : Hid (finalL (readGo s ws D 0 (startL s) none).1 = wb) := Lib.hid (by
            have h1 : finalL (readGo s ws D 0 (startL s) none).1 = true ↔ wb = true := by
              rw [hin, HWB.out]
              constructor
              · rintro ⟨j, ns, hj, hn, hm⟩
                exact ⟨j, by rw [← HN.out]; exact hj, ns, hn, hm⟩
              · rintro ⟨j, hj, ns, hn, hm⟩
                exact ⟨j, ns, by rw [HN.out]; exact hj, hn, hm⟩
            cases h2 : finalL (readGo s ws D 0 (startL s) none).1 with
            | true => exact (h1.1 h2).symm
            | false =>
              cases h3 : wb with
              | false => rfl
              | true => exact absurd (h1.2 h3) (by rw [h2]; simp))
          rw [HEQ.out]
          have HB5 := Lib.hid (HBT.out.trans ((mk_none k5).mono HBT.out.size))
          clear hin hdp m5 k5 HEQ
          dsimp only
          have HW := Lib.hid (wakes24 W5)
          go_wp2_with (fail)
          refine HW.out.mono ?_
          rintro e W6 ⟨rfl, b6⟩
          have HB6 := Lib.hid (HB1.out.trans ((HB5.out.trans (b6.mono HB5.out.size)).mono HB1.out.size))
          clear b6 HW
          go_wp2
          go_ret
          exact ⟨by first | rfl | (cases wb <;> rfl), HB6.out⟩
end Go.Proofs.YtmnkjekjknhhjaaGreatDoor

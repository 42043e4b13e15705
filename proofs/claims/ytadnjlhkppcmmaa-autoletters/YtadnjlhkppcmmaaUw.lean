/- The walks of AutoLetters and AutoCost, over the program's functions handed in. -/
import Derived.Test.YtadnjlhkppcmmaaUo
import Derived.WalkSmall
namespace Go.Proofs.Ytadnjlhkppcmmaa
open Go.ChangeShapes Go.WideShapes Go.ChangeAt Go.RowKit

def Plays4 (w : World) (e : Ending) (w' : World) : Prop := ∃ xs, Small 39 xs ∧ xs.length ≤ 4 ∧ Makes xs w e w'
theorem four_len {vs : List Int} (h : Four vs) : (normL vs).length ≤ 4 := by
  have hs := h.small
  refine short_of hs.right (fun t ht => ?_)
  have hr : rightL (trimL vs) = true := right_of (by rw [trim_len]; have := cut_le vs; have := h.1; omega) (fun j _ => by rw [trim_at]; have := h.2 j; omega) trim_last
  rw [norm_yes hr, trim_at, getD_past (by rw [h.1]; exact ht)]
set_option maxHeartbeats 2000000 in
theorem play_any4 (a : Option Addr) (len cap : Nat) (zs : List Int) (w : World) (h : Came w a len cap zs) :
    Calls Try.prog 25 #[.slice a len cap] w (Plays4 w) := by
  have HC := Lib.hid h
  clear h
  go_enter Try.func25, Try.ntmps25
  go_wp2_with (at_make; refine wpList_make_bag _ rfl _ _ rfl _ _ 4 rfl rfl rfl rfl (by omega) ?_)
  intro w1 r1 b1
  have HR1 := Lib.hid r1
  clear r1
  go_wp2_with (fail)
  go_loopw [9] (fun i wr => ∃ (k : Nat) (vs : List Int), k ≤ 4 ∧ i = .int .i64 k ∧ Hid (Four vs) ∧ Hid (Bag wr (some ⟨w.heap.size, 0, none⟩) 4 vs) ∧ Below w.heap.size w wr) (fun i _ => 4 - (intOf i).toNat)
  case atStart => exact ⟨0, _, Nat.zero_le _, rfl, Lib.hid four_zero, HR1, b1⟩
  case round =>
    clear HR1 b1
    obtain ⟨k, vs, hk, rfl, HF, HB, bel⟩ := hrel
    by_cases hlt : k < 4
    · have A := at_any a len cap zs k wr (HC.out.below bel) (by omega)
      obtain ⟨g, e, hs⟩ := HB.out.at (k := k) (by rw [HF.out.1]; omega)
      injection e with e; injection e with e
      have hg : w.heap.size = g := e
      subst hg
      clear e
      generalize vs.getD k 0 = z0 at hs
      have hf := HB.out.frozen k
      go_wp2_with (fail)
      refine A.mono ?_
      rintro e w' ⟨n, n0, n1, rfl, rfl⟩
      clear A
      go_wp2_with (fail)
      refine (within_any n 4 _ (by omega) (by omega) n0 n1).mono ?_
      rintro e w' ⟨r, p0, p1, rfl, rfl⟩
      have HP := Lib.hid (HB.out.set (j := k) (by rw [HF.out.1]; omega) r)
      have HF1 := Lib.hid (HF.out.set k p0 (z := r) (by omega))
      have bel1 : Below w.heap.size w (wr.setCell ⟨w.heap.size, k, none⟩ (.int .i64 r)) := bel.setCell (Nat.le_refl _) _
      by_cases h10 : n.tmod 11 = 10
      · go_wp2_with (fail)
        refine (within_any n 40 _ (by omega) (by omega) n0 n1).mono ?_
        rintro e w' ⟨r2, q0, q1, rfl, rfl⟩
        have HP2 := Lib.hid (HP.out.set (j := k) (by rw [HF1.out.1]; omega) r2)
        have HF2 := Lib.hid (HF1.out.set k q0 (z := r2) (by omega))
        have bel2 := bel1.setCell (p := ⟨w.heap.size, k, none⟩) (Nat.le_refl _) (.int .i64 r2)
        have hf1 : (wr.setCell ⟨w.heap.size, k, none⟩ (.int .i64 r)).frozen? ⟨w.heap.size, k, none⟩ = false := HP.out.frozen k
        go_wp2
        go_roundw
        case rel => exact ⟨k + 1, _, by omega, by go_num, HF2, HP2, bel2⟩
        case measure => simp [intOf]; omega
      · go_wp2
        go_roundw
        case rel => exact ⟨k + 1, _, by omega, by go_num, HF1, HP, bel1⟩
        case measure => simp [intOf]; omega
    · have N := norm20 _ 4 vs wr HB.out (by rw [HF.out.1]; omega)
      rw [HF.out.1] at N
      have HS := Lib.hid (And.intro HF.out.small (four_len HF.out))
      generalize normL vs = ys at *
      go_wp2_with (fail)
      refine N.mono ?_
      rintro e w2 ⟨a2, c2, rfl, r2, f2, b2⟩
      go_wp2
      go_ret
      exact ⟨ys, HS.out.1, HS.out.2, a2, c2, rfl, r2, fun g e => Nat.le_trans bel.size (f2 g e), bel.trans (b2.mono bel.size)⟩
set_option maxRecDepth 100000 in
theorem cut14i (a : Option Addr) (len cap : Nat) (zs : List Int) (w : World) (hlen : len ≤ 9223372036854775807) (hn : a = none → len = 0 ∧ cap = 0) (hcap : len ≤ cap) (hz : len ≤ zs.length) (HR : Hid (∀ k, k < len → RowAt w a zs k)) :
    Calls Try.prog 27 #[.slice a len cap, .int .i64 14] w (Makes (zs.take (min len 14)) w) := by
  have hlt : (zs.take (min len 14)).length = min len 14 := by rw [List.length_take]; omega
  have HL := Lib.hid hlt
  clear hlt
  by_cases h0 : len = 0
  · subst h0
    have e : zs.take (min 0 14) = [] := by simp
    rw [e]
    clear HL HR e
    cases a with
    | none =>
      obtain rfl := (hn rfl).2
      have C := copy_any none 0 [] w (Bag.nil w) (by simp)
      go_enter Try.func27, Try.ntmps27
      go_wp2_with (fail)
      try rw [show (min (len : Int) 14).toNat = len by omega]
      try rw [show (min (len : Int) 14).toNat = 14 by omega]
      refine C.mono ?_
      rintro e w' ⟨a', c', rfl, r, f, bel⟩
      go_wp2
      go_ret
      exact ⟨a', c', rfl, r, f, bel⟩
    | some ad =>
      have C := copy_at ad cap [] w (by simp [ints]) (by simp)
      go_enter Try.func27, Try.ntmps27
      go_wp2_with (fail)
      try rw [show (min (len : Int) 14).toNat = len by omega]
      try rw [show (min (len : Int) 14).toNat = 14 by omega]
      refine C.mono ?_
      rintro e w' ⟨a', c', rfl, r, f, bel⟩
      go_wp2
      go_ret
      exact ⟨a', c', rfl, r, f, bel⟩
  · obtain ⟨b, off, rfl, _⟩ := HR.out 0 (by omega)
    have C := copy_at ⟨b, off, none⟩ cap (zs.take (min len 14)) w (by
      intro j u hj
      have hj' := (List.getElem?_eq_some_iff.1 hj).1
      rw [ints_len, HL.out] at hj'
      obtain ⟨b', off', e, hc, _⟩ := HR.out j (by omega)
      injection e with e; injection e with e1 e2; subst e1; subst e2
      rw [Addr.add_lit, hc]
      rw [← hj]
      simp [ints, List.getD, show j < zs.length by omega, show j < min len 14 by omega]) (by rw [HL.out]; omega)
    rw [HL.out] at C
    clear HR
    have h1 : min len 14 ≤ cap := by omega
    by_cases h9 : len ≤ 14
    · have e9 : min len 14 = len := by omega
      rw [e9] at C ⊢
      clear e9 HL
      generalize zs.take len = ys at C ⊢
      go_enter Try.func27, Try.ntmps27
      go_wp2_with (fail)
      try rw [show (min (len : Int) 14).toNat = len by omega]
      try rw [show (min (len : Int) 14).toNat = 14 by omega]
      refine C.mono ?_
      rintro e w' ⟨a', c', rfl, r, f, bel⟩
      go_wp2
      go_ret
      exact ⟨a', c', rfl, r, f, bel⟩
    · have e9 : min len 14 = 14 := by omega
      rw [e9] at C ⊢
      clear e9 HL
      generalize zs.take 14 = ys at C ⊢
      go_enter Try.func27, Try.ntmps27
      go_wp2_with (fail)
      try rw [show (min (len : Int) 14).toNat = len by omega]
      try rw [show (min (len : Int) 14).toNat = 14 by omega]
      refine C.mono ?_
      rintro e w' ⟨a', c', rfl, r, f, bel⟩
      go_wp2
      go_ret
      exact ⟨a', c', rfl, r, f, bel⟩
/-- The word as far as it was put together. -/
def backT (xs : List Int) (d k : Nat) : List Int := tab 4 (fun t => gather (xs.getD t 0) (if t < k then d + 1 else d))
theorem back_len (xs : List Int) (d k : Nat) : (backT xs d k).length = 4 := tab_len _ _
theorem back_zero (xs : List Int) : backT xs 0 0 = tab 4 (fun _ => 0) := tab_congr (fun j _ => by rw [if_neg (by omega)]; rfl)
theorem back_next (xs : List Int) (d : Nat) : backT xs d 4 = backT xs (d + 1) 0 := tab_congr (fun j hj => by rw [if_pos hj, if_neg (by omega)])
theorem back_at {xs : List Int} {d k : Nat} (hk : k < 4) : (backT xs d k).getD k 0 = gather (xs.getD k 0) d := by
  unfold backT
  rw [tab_at hk, if_neg (by omega)]
theorem back_set {xs : List Int} {d k : Nat} : (backT xs d k).set k (gather (xs.getD k 0) d + xs.getD k 0 / 2 ^ d % 2 * 2 ^ d) = backT xs d (k + 1) := by
  unfold backT
  rw [tab_set]
  refine tab_congr (fun j _ => ?_)
  by_cases h : j = k
  · subst h
    rw [if_pos rfl, if_pos (by omega)]
    rfl
  · rw [if_neg h]
    by_cases h2 : j < k
    · rw [if_pos h2, if_pos (by omega)]
    · rw [if_neg h2, if_neg (by omega)]
theorem back_all {xs : List Int} (h : rightL xs = true) (h4 : xs.length ≤ 4) : normL (backT xs 62 0) = xs := by
  have e : ∀ t, (backT xs 62 0).getD t 0 = xs.getD t 0 := fun t => by
    by_cases ht : t < 4
    · unfold backT
      rw [tab_at ht, if_neg (by omega), gather_all (right_at h t).1 (right_at h t).2]
    · unfold backT
      rw [tab_past (by omega), getD_past (by omega)]
  have hr : rightL (trimL (backT xs 62 0)) = true := right_of (by rw [trim_len]; have := cut_le (backT xs 62 0); rw [back_len] at this; omega) (fun j _ => by rw [trim_at, e]; exact right_at h j) trim_last
  rw [norm_yes hr]
  exact right_ext hr h (fun t => by rw [trim_at, e])
theorem gather_bound {n : Int} (h0 : 0 ≤ n) (h1 : n ≤ 1152921504606846976) (k : Nat) : 0 ≤ gather n k ∧ gather n k ≤ 1152921504606846976 := by
  obtain ⟨m, rfl⟩ : ∃ m : Nat, n = m := ⟨n.toNat, by omega⟩
  rw [gather_mod]
  have := Nat.mod_le m (2 ^ k)
  omega
theorem letter_small {m : Int} {xs : List Int} (h : Small m xs) {d : Nat} (hd : d ≤ 62) : 0 ≤ letterN xs (d : Int) ∧ letterN xs (d : Int) ≤ 18446744073709551615 := by
  unfold letterN
  rw [if_pos ⟨h.right, by omega, by omega⟩, Int.toNat_natCast]
  have h1 := pack_bound (digitL xs d)
  have h2 : (digitL xs d).length ≤ 12 := by unfold digitL; rw [List.length_map]; exact h.len
  have h3 : (2 : Int) ^ (digitL xs d).length ≤ 2 ^ 12 := by
    have : (2 : Nat) ^ (digitL xs d).length ≤ 2 ^ 12 := Nat.pow_le_pow_right (by omega) h2
    have e1 : (2 : Int) ^ (digitL xs d).length = ((2 ^ (digitL xs d).length : Nat) : Int) := by simp
    rw [e1]
    omega
  omega
theorem digit_and {L : Int} {k : Nat} (h0 : 0 ≤ L) (h1 : L ≤ 18446744073709551615) : bits .and .u64 (L / 2 ^ k) 1 = L / 2 ^ k % 2 := by
  have hp : (0 : Int) ≤ 2 ^ k := Int.pow_nonneg (by omega)
  have e1 := Int.ediv_nonneg h0 hp
  have e2 := Int.ediv_le_self (2 ^ k) h0
  exact and_one_u64 _ e1 (by omega)
set_option maxRecDepth 100000 in
set_option maxHeartbeats 4000000 in
theorem letters_walk (PL : Hid (∀ (a : Option Addr) (c : Nat) (xs : List Int) (d : Int) (w : World), Bag w a c xs → -9223372036854775808 ≤ d → d ≤ 9223372036854775807 → Calls Try.prog 26 #[.slice a xs.length c, .int .i64 d] w (fun e w' => e = .returned (.int .u64 (letterN xs d)) ∧ Below w.heap.size w w')))
    (PW : Hid (∀ w, Calls Try.prog 23 #[] w (TellsB true w)))
    (a : Option Addr) (len cap : Nat) (zs : List Int) (at_ : Int) (w : World) (h : Hid (Came w a len cap zs)) (h0 : -9223372036854775808 ≤ at_) (h1 : at_ ≤ 9223372036854775807) :
    Calls Try.prog 5 #[.slice a len cap, .int .i64 at_] w (True_ w) := by
  have HZ := Lib.hid (play_any4 a len cap zs w h.out)
  have hlen := h.out.1
  have hcap := h.out.2.2.1
  go_enter Try.func5, Try.ntmps5
  go_wp2_with (fail)
  refine HZ.out.mono ?_
  rintro e w1 ⟨xs, hxs, hx4, ba, bc, rfl, r1, f1, b1⟩
  have hbl := r1.le
  have HXS := Lib.hid hxs
  have HX4 := Lib.hid hx4
  have HB1 := Lib.hid b1
  have HR1 := Lib.hid r1
  have HLT : Hid (∀ g, ba = some ⟨g, 0, none⟩ → g < w1.heap.size) := Lib.hid (fun g e => r1.lt e)
  generalize hn : xs.length = n at hbl hx4 ⊢
  have HN := Lib.hid hn
  clear hxs b1 r1 f1 HZ hn
  go_wp2_with (at_make; refine wpList_make_bag _ rfl _ _ rfl _ _ 4 rfl rfl rfl rfl (by omega) ?_)
  intro w2 r2 b2
  have HO0 : Hid (Bag w2 (some ⟨w1.heap.size, 0, none⟩) 4 (backT xs 0 0)) := Lib.hid (by rw [back_zero]; exact r2)
  have HR2 := Lib.hid (HR1.out.below b2)
  have HB2 := Lib.hid b2
  clear r2 b2
  generalize hg : w1.heap.size = gb at HO0 HLT ⊢
  have HG := Lib.hid hg
  clear hg
  go_wp2
  go_loopw [7] (fun i wr => ∃ d : Nat, d ≤ 62 ∧ i = .int .i64 d ∧ Hid (Bag wr (some ⟨gb, 0, none⟩) 4 (backT xs d 0)) ∧ Hid (Bag wr ba bc xs) ∧ Hid (Below w1.heap.size w1 wr)) (fun i _ => 62 - (intOf i).toNat)
  case atStart => exact ⟨0, by omega, rfl, HO0, HR2, HB2⟩
  case round =>
    clear HO0 HR2 HB2
    obtain ⟨d, hd, rfl, HO, HR, HB⟩ := hrel
    by_cases hlt : d < 62
    · have Z := PL.out ba bc xs (d : Int) wr HR.out (by omega) (by omega)
      rw [HN.out] at Z
      have HZ := Lib.hid Z
      clear Z
      go_wp2_with (fail)
      refine HZ.out.mono ?_
      rintro e w4 ⟨rfl, b4⟩
      have HO4 := Lib.hid (HO.out.below b4)
      have HR4 := Lib.hid (HR.out.below b4)
      have HB4 := Lib.hid (HB.out.trans (b4.mono HB.out.size))
      have HLD := Lib.hid (letter_digit HXS.out.right (show d ≤ 62 by omega))
      clear HO HR HB HZ b4
      have HLB : Hid (0 ≤ letterN xs (d : Int) ∧ letterN xs (d : Int) ≤ 18446744073709551615) := Lib.hid (letter_small HXS.out (by omega))
      generalize letterN xs (d : Int) = L at HLD HLB ⊢
      go_wp2
      go_loopw [23] (fun i wr => ∃ k : Nat, k ≤ 4 ∧ i = .int .i64 k ∧ Hid (Bag wr (some ⟨gb, 0, none⟩) 4 (backT xs d k)) ∧ Hid (Bag wr ba bc xs) ∧ Hid (Below w1.heap.size w1 wr)) (fun i _ => 4 - (intOf i).toNat)
      case atStart => exact ⟨0, by omega, rfl, HO4, HR4, HB4⟩
      case round =>
        clear HO4 HR4 HB4
        obtain ⟨k, hk, rfl, HO, HR, HB⟩ := hrel
        by_cases hk4 : k < 4
        · obtain ⟨g0, e0, hc0⟩ := HO.out.at (k := k) (by rw [back_len]; exact hk4)
          injection e0 with e0; injection e0 with e0
          subst e0
          have hfz := HO.out.frozen k
          rw [back_at hk4] at hc0
          have hx := right_at HXS.out.right k
          have hgb := gather_bound hx.1 hx.2 d
          have hgn := gather_bound hx.1 hx.2 (d + 1)
          have O2 := HO.out.set (j := k) (by rw [back_len]; exact hk4) (gather (xs.getD k 0) d + xs.getD k 0 / 2 ^ d % 2 * 2 ^ d)
          rw [back_set] at O2
          have kx : Kept (fun i => i = gb) wr (wr.setCell ⟨gb, k, none⟩ (.int .i64 (gather (xs.getD k 0) d + xs.getD k 0 / 2 ^ d % 2 * 2 ^ d))) := (Kept.refl (fun i => i = gb) wr).setCell (p := ⟨gb, k, none⟩) (fun _ => rfl) _
          have HO2 := Lib.hid O2
          have HR2 := Lib.hid (HR.out.kept kx (fun g' e e2 => by have := HLT.out g' e; omega))
          have HB2 : Hid (Below w1.heap.size w1 (wr.setCell ⟨gb, k, none⟩ (.int .i64 (gather (xs.getD k 0) d + xs.getD k 0 / 2 ^ d % 2 * 2 ^ d)))) := Lib.hid (HB.out.setCell (p := ⟨gb, k, none⟩) (by have := HG.out; show w1.heap.size ≤ gb; omega) _)
          have hdig := HLD.out k
          rw [gather] at hgn
          generalize gather (xs.getD k 0) d = G at hc0 HO2 HR2 HB2 hgb hgn
          clear O2 kx HO HR HB hx
          have hand := digit_and (L := L) (k := k) HLB.out.1 HLB.out.2
          rw [hdig] at hand
          clear hdig
          have hv0 : 0 ≤ xs.getD k 0 / 2 ^ d % 2 := by omega
          have hv1 : xs.getD k 0 / 2 ^ d % 2 ≤ 1 := by omega
          generalize xs.getD k 0 / 2 ^ d % 2 = v at hand HO2 HR2 HB2 hgn hv0 hv1
          have HVAL : Hid (wrap64 (G + wrap64 (wrap64 v * 2 ^ d)) = G + v * 2 ^ d) := Lib.hid (by
            rw [IntWalk.wrap64_in v (by omega)]
            have h0 : 0 ≤ v * 2 ^ d := Int.mul_nonneg hv0 (Int.pow_nonneg (by omega))
            generalize v * 2 ^ d = D at h0 hgn ⊢
            rw [IntWalk.wrap64_in D (by omega)]
            exact IntWalk.wrap64_in _ (by omega))
          clear hgn hv0 hv1
          go_wp2
          rw [HVAL.out]
          go_roundw
          case rel => exact ⟨k + 1, by omega, by go_num, HO2, HR2, HB2⟩
          case measure => simp [intOf]; omega
        · obtain rfl : k = 4 := by omega
          have HO2 : Hid (Bag wr (some ⟨gb, 0, none⟩) 4 (backT xs (d + 1) 0)) := Lib.hid (by rw [← back_next]; exact HO.out)
          go_wp2
          go_roundw
          case rel => exact ⟨d + 1, by omega, by go_num, HO2, HR, HB⟩
          case measure => simp [intOf]; omega
    · obtain rfl : d = 62 := by omega
      have HCM := Lib.hid ((h.out.below HB1.out).below HB.out)
      have Z := cut14i a len cap zs wr HCM.out.1 HCM.out.2.1 HCM.out.2.2.1 HCM.out.2.2.2.1 (Lib.hid HCM.out.2.2.2.2)
      have hr14 : (zs.take (min len 14)).length ≤ 14 := by rw [List.length_take]; omega
      generalize zs.take (min len 14) = rs at Z hr14
      have HZ := Lib.hid Z
      clear Z HCM
      go_wp2_with (fail)
      refine HZ.out.mono ?_
      rintro e w5 ⟨ra, rc, rfl, r5, f5, b5⟩
      have HRS := Lib.hid r5
      have HO5 := Lib.hid (HO.out.below b5)
      have HR5 := Lib.hid (HR.out.below b5)
      have HB5 := Lib.hid (HB.out.trans (b5.mono HB.out.size))
      have hrl := r5.le
      generalize hrn : rs.length = rn at hrl hr14 ⊢
      have HRN := Lib.hid hrn
      have Z := norm20 (some ⟨gb, 0, none⟩) 4 (backT xs 62 0) w5 HO5.out (by rw [back_len]; omega)
      rw [back_len, back_all HXS.out.right HX4.out] at Z
      have HZ2 := Lib.hid Z
      clear Z r5 f5 b5 HO HR HB hrn HZ
      go_wp2_with (fail)
      refine HZ2.out.mono ?_
      rintro e w6 ⟨na, nc, rfl, r6, f6, b6⟩
      have hnl := r6.le
      rw [HN.out]
      rw [HN.out] at hnl
      have HN6 := Lib.hid r6
      have HR6 := Lib.hid (HR5.out.below b6)
      have HRS6 := Lib.hid (HRS.out.below b6)
      have HB6 := Lib.hid (HB5.out.trans (b6.mono HB5.out.size))
      clear r6 f6 b6 HO5 HR5 HRS HB5 HZ2
      have Z := same32 na ba nc bc xs xs w6 HN6.out HR6.out
      rw [same_self, HN.out] at Z
      have HZ := Lib.hid Z
      clear Z
      go_wp2_with (fail)
      refine HZ.out.mono ?_
      rintro e w7 ⟨rfl, q7, rfl⟩
      have b7 := below_drewN w6.heap.size w6 q7
      have HRW := Lib.hid (HR6.out.below b7)
      have HRSW := Lib.hid (HRS6.out.below b7)
      have HBW := Lib.hid (HB6.out.trans (b7.mono HB6.out.size))
      clear HZ b7 HR6 HRS6 HB6 HN6
      generalize w6.drewN q7 = W at HRW HRSW HBW ⊢
      have Z := PL.out ba bc xs (-1) W HRW.out (by omega) (by omega)
      rw [HN.out, show letterN xs (-1) = 0 from if_neg (fun h => by omega)] at Z
      have HZ := Lib.hid Z
      clear Z
      go_wp2_with (fail)
      refine HZ.out.mono ?_
      rintro e w8 ⟨rfl, b8⟩
      have HR8 := Lib.hid (HRW.out.below b8)
      have HRS8 := Lib.hid (HRSW.out.below b8)
      have HB8 := Lib.hid (HBW.out.trans (b8.mono HBW.out.size))
      clear HZ b8 HRW HRSW HBW
      have Z := PL.out ba bc xs 63 w8 HR8.out (by omega) (by omega)
      rw [HN.out, show letterN xs 63 = 0 from if_neg (fun h => by omega)] at Z
      have HZ := Lib.hid Z
      clear Z
      go_wp2_with (fail)
      refine HZ.out.mono ?_
      rintro e w9 ⟨rfl, b9⟩
      have HRS9 := Lib.hid (HRS8.out.below b9)
      have HB9 := Lib.hid (HB8.out.trans (b9.mono HB8.out.size))
      clear HZ b9 HR8 HRS8 HB8
      have Z := PL.out ra rc rs at_ w9 HRS9.out h0 h1
      rw [HRN.out] at Z
      have HZ := Lib.hid Z
      clear Z
      go_wp2_with (fail)
      refine HZ.out.mono ?_
      rintro e w10 ⟨rfl, b10⟩
      have HRS10 := Lib.hid (HRS9.out.below b10)
      have HB10 := Lib.hid (HB9.out.trans (b10.mono HB9.out.size))
      clear HZ b10 HRS9 HB9
      have Z := letter_any ra rc rs at_ w10 HRS10.out
      rw [HRN.out] at Z
      have HZ := Lib.hid Z
      clear Z
      go_wp2_with (fail)
      refine HZ.out.mono ?_
      rintro e w11 ⟨rfl, b11⟩
      have HB11 := Lib.hid (HB10.out.trans (b11.mono HB10.out.size))
      clear HZ b11 HRS10 HB10
      generalize letterN rs at_ = LN
      go_wp2_with (fail)
      refine (PW.out w11).mono ?_
      rintro e w12 ⟨rfl, b12⟩
      have HB12 := Lib.hid (HB1.out.trans ((HB11.out.trans (b12.mono HB11.out.size)).mono HB1.out.size))
      clear b12 HB11
      go_wp2
      go_ret
      exact ⟨rfl, HB12.out⟩
set_option maxRecDepth 100000 in
set_option maxHeartbeats 4000000 in
theorem cost_walk (PS : Hid (∀ (a : Option Addr) (c : Nat) (s : List Lin) (w : World), Lins w a c s → s.length ≤ 1000000 → Calls Try.prog 10 #[.slice a s.length c] w (MakesI (startL s) w)))
    (PN : Hid (∀ (mp sa a : Option Addr) (sc c : Nat) (M : Mr) (s : List Lin) (l : List It) (letter : Int) (w : World), MrAt w 78 mp M → Lins w sa sc s → Its w a c l → 0 ≤ letter → letter ≤ 18446744073709551615 → costI s l ≤ 100000000000 →
      Calls Try.prog 14 #[.pointer mp, .slice sa s.length sc, .slice a l.length c, .int .u64 letter] w (NextsT 78 mp (nextM M s l letter) w)))
    (PW : Hid (∀ w, Calls Try.prog 23 #[] w (TellsB true w)))
    (a : Option Addr) (len cap : Nat) (zs : List Int) (letter : Int) (w : World) (h : Hid (Came w a len cap zs)) (h0 : 0 ≤ letter) (h1 : letter ≤ 18446744073709551615) :
    Calls Try.prog 7 #[.slice a len cap, .int .u64 letter] w (True_ w) := by
  have HZ := Lib.hid (semi18w a len cap zs w h)
  have hlen := h.out.1
  have hcap := h.out.2.2.1
  go_enter Try.func7, Try.ntmps7
  go_wp2_with (fail)
  refine HZ.out.mono ?_
  rintro e w1 ⟨sa, sc, s, rfl, L1, T1, b1⟩
  have HB1 := Lib.hid b1
  have HT := Lib.hid T1
  have HL1 := Lib.hid L1
  have hle := L1.le
  have hfew := T1.few
  have Z := PS.out sa sc s w1 L1 (by omega)
  unfold MakesI at Z
  have hlen2 : (startL s).length = s.length := by rw [startL_thin T1, startK_len]
  rw [hlen2] at Z
  generalize hn : s.length = n at hle hfew Z ⊢
  have HN := Lib.hid hn
  have HZ1 := Lib.hid Z
  clear b1 L1 T1 HZ hlen2 hn Z
  go_wp2_with (fail)
  refine HZ1.out.mono ?_
  rintro e w2 ⟨ia, ic, rfl, I2, _, b2⟩
  have HI2 := Lib.hid I2
  have HL2 := Lib.hid (HL1.out.below b2)
  have HB2 := Lib.hid (HB1.out.trans (b2.mono HB1.out.size))
  have hil := I2.le
  rw [startL_thin HT.out, startK_len, HN.out] at hil
  have HCB : Hid (costK s n ≤ 1536) := Lib.hid (by have h := costK_bound HT.out; rwa [HN.out] at h)
  clear I2 b2 HZ1 HL1 HB1
  go_wp2
  go_loopw [7, 22] (fun x i wr => ∃ (k C : Nat), k ≤ n ∧ i = .int .i64 k ∧ x = .int .i64 C ∧ Hid (C = costK s k) ∧ Hid (Below w2.heap.size w2 wr)) (fun _ i _ => n - (intOf i).toNat)
  case atStart => exact ⟨0, 0, Nat.zero_le _, rfl, rfl, Lib.hid rfl, Lib.hid (Below.refl _ _)⟩
  case round =>
    obtain ⟨k, C, hk, rfl, rfl, HC, HB⟩ := hrel
    by_cases hlt : k < n
    · obtain ⟨g, b, d, pb, pd, e1, c0, c1, r1, t1⟩ := (HL2.out.below HB.out).at (k := k) (by rw [HN.out]; exact hlt)
      subst e1
      have hl0 := r1.le
      have hl1 := t1.le
      have h8 := ((HT.out.each _ (lin_at_mem (s := s) (k := k) (by rw [HN.out]; exact hlt))).trim.few)
      have HC2 := Lib.hid (costK_succ s k)
      have HC3 := Lib.hid (costK_mono s (k := k + 1) (n := n) hlt)
      generalize (linAt s k).base.length = u at c0 hl0
      generalize (linAt s k).ps.length = z at c1 hl1 h8 HC2
      obtain ⟨N, hN⟩ : ∃ N : Nat, N = 2 ^ z := ⟨_, rfl⟩
      rw [← hN] at HC2
      have hCb : C + N ≤ 1536 := by
        have e1 := HC.out
        have e2 := HC2.out
        have e3 := HC3.out
        have e4 := HCB.out
        clear hN
        omega
      have HVAL : Hid (wrap64 ((C : Int) + wrap64 ((2 : Int) ^ z)) = ((C + N : Nat) : Int)) := Lib.hid (by
        have e : ((2 : Int) ^ z) = (N : Int) := by rw [hN]; simp
        rw [e]
        clear hN e
        rw [IntWalk.wrap64_in (N : Int) (by omega), IntWalk.wrap64_in _ (by omega)]
        omega)
      have HC4 : Hid (C + N = costK s (k + 1)) := Lib.hid (by rw [HC2.out, HC.out])
      have bb := below_alloc wr (.cells #[.slice b u d, .slice pb z pd] 61)
      have HBB := Lib.hid (HB.out.trans (bb.mono HB.out.size))
      clear bb hN r1 t1
      go_wp2
      rw [HVAL.out]
      go_roundw
      case rel => exact ⟨k + 1, C + N, hlt, by go_num, rfl, HC4, HBB⟩
      case measure => simp [intOf]; omega
    · obtain rfl : k = n := by omega
      have hCb : C ≤ 1536 := by
        have e1 := HC.out
        have e2 := HCB.out
        omega
      obtain ⟨L, hL, L0, L1⟩ : ∃ L, bits .and .u64 letter 15 = L ∧ 0 ≤ L ∧ L ≤ 15 := by
        obtain ⟨m, rfl⟩ : ∃ m : Nat, letter = m := ⟨letter.toNat, by omega⟩
        refine ⟨_, bits_and_u64_nat m 15 (by omega) (by omega), by omega, ?_⟩
        have := Nat.and_le_right (n := m) (m := 15)
        omega
      have HI3 := Lib.hid (HI2.out.below HB.out)
      have HL3 := Lib.hid (HL2.out.below HB.out)
      have HB3 := Lib.hid (HB2.out.trans (HB.out.mono HB2.out.size))
      have HBZ := Lib.hid HB3.out.size
      clear HB HI2 HL2 HB2
      go_wp2_with (fail)
      refine (new_any (C : Int) wr).mono ?_
      rintro e w4 ⟨rfl, A4, b4, s4⟩
      have HI4 := Lib.hid (HI3.out.below b4)
      have HL4 := Lib.hid (HL3.out.below b4)
      have HB4 := Lib.hid (HB3.out.trans (b4.mono HB3.out.size))
      have HM4 : Hid (MrAt w4 78 (some ⟨wr.heap.size, 0, none⟩) (some ((C : Int), 0, false))) := Lib.hid (by
        rw [show max (C : Int) 0 = (C : Int) by omega] at A4
        exact ⟨_, rfl, A4, by omega, by omega, by omega⟩)
      have hg4 := s4
      clear A4 b4 s4 HI3 HL3 HB3
      go_wp2_with (fail)
      refine (new_any ((C : Int) - 1) w4).mono ?_
      rintro e w5 ⟨rfl, A5, b5, s5⟩
      have HI5 := Lib.hid (HI4.out.below b5)
      have HL5 := Lib.hid (HL4.out.below b5)
      have HB5 := Lib.hid (HB4.out.trans (b5.mono HB4.out.size))
      have HM5 := Lib.hid (HM4.out.below b5)
      have HN5 : Hid (MrAt w5 78 (some ⟨w4.heap.size, 0, none⟩) (some (max ((C : Int) - 1) 0, 0, false))) := Lib.hid (by
        exact ⟨_, rfl, A5, by omega, by omega, by omega⟩)
      have hz3 := HBZ.out
      generalize wr.heap.size = gm at HM5 hg4 hz3 ⊢
      generalize w4.heap.size = gn at HN5 hg4 ⊢
      have hgg : gm ≠ gn := by omega
      have hgm : w.heap.size ≤ gm := by omega
      have hgn : w.heap.size ≤ gn := by omega
      clear A5 b5 s5 HI4 HL4 HB4 HM4 hg4
      have hcost : Hid (costI s (startL s) = C) := Lib.hid (by rw [startL_thin HT.out, HN.out]; exact HC.out.symm)
      have hslen : Hid ((startL s).length = k) := Lib.hid (by rw [startL_thin HT.out, startK_len, HN.out])
      have hall := Lib.hid (start_all HT.out (Nat.le_refl s.length))
      obtain ⟨Mm, hMm⟩ : ∃ M : Mr, M = (some ((C : Int), 0, false) : Mr) := ⟨_, rfl⟩
      have Z := PN.out (some ⟨gm, 0, none⟩) sa ia sc ic Mm s (startL s) L w5 (by rw [hMm]; exact HM5.out) HL5.out HI5.out L0 (by omega) (by rw [hcost.out]; omega)
      rw [hslen.out, HN.out] at Z
      have hr := itGo_paid HT.out L (startK s s.length) (C : Int) 0 Mm [] hMm hall.out (by have := hcost.out; rw [startL_thin HT.out] at this; rw [this]; omega)
      rw [← next_start HT.out] at hr
      have e1 : (0 : Int) + ((costI s (startK s s.length) : Nat) : Int) = (C : Int) := by have := hcost.out; rw [startL_thin HT.out] at this; rw [this]; omega
      rw [e1] at hr
      generalize nextM Mm s (startL s) L = r at Z hr
      obtain ⟨r1, r2⟩ := r
      have hr : r2 = (0, (some ((C : Int), (C : Int), false) : Mr)) := hr
      subst hr
      have HZ := Lib.hid Z
      clear Z e1 HC
      go_wp2_with (fail)
      refine HZ.out.mono ?_
      rintro e w6 ⟨a6, c6, rfl, I6, _, M6, k6⟩
      have hl6 := I6.le
      have HM6 : Hid (MrAt w6 78 (some ⟨gm, 0, none⟩) (some ((C : Int), (C : Int), false))) := Lib.hid M6
      have HN6 := Lib.hid (HN5.out.kept k6 (fun g e e2 => by
        injection e2 with e2; injection e2 with e2
        injection e with e; injection e with e
        omega))
      have HL6 := Lib.hid (HL5.out.mk HM5.out (by unfold MT; decide) k6)
      have HI6 := Lib.hid (HI5.out.mk HM5.out (by decide) (by decide) k6)
      have HB6 : Hid (Below w.heap.size w w6) := Lib.hid (HB5.out.trans (k6.below (fun g e => by injection e with e; injection e with e; rw [← e]; exact hgm) HB5.out.size))
      generalize r1.length = l6 at hl6 ⊢
      clear I6 M6 k6 HM5 HN5 HL5 HI5 HB5 hMm HZ
      obtain ⟨Mn, hMn⟩ : ∃ M : Mr, M = (some (max ((C : Int) - 1) 0, 0, false) : Mr) := ⟨_, rfl⟩
      have Z := PN.out (some ⟨gn, 0, none⟩) sa ia sc ic Mn s (startL s) L w6 (by rw [hMn]; exact HN6.out) HL6.out HI6.out L0 (by omega) (by rw [hcost.out]; omega)
      rw [hslen.out, HN.out] at Z
      have hr : (nextM Mn s (startL s) L).1 = [] ∧ (nextM Mn s (startL s) L).2.1 = if C = 0 then 0 else 7 := by
        have hc := hcost.out
        rw [startL_thin HT.out] at hc
        rw [next_start HT.out]
        by_cases h0 : C = 0
        · have hk0 : s.length = 0 := by
            by_cases h2 : 0 < s.length
            · have := costK_pos (s := s) h2
              unfold costK at this
              omega
            · omega
          rw [if_pos h0, hk0]
          exact ⟨rfl, rfl⟩
        · rw [if_neg h0]
          exact itGo_short HT.out L (startK s s.length) (max ((C : Int) - 1) 0) 0 Mn [] hMn (by omega) hall.out (by rw [hc]; omega)
      generalize nextM Mn s (startL s) L = r at Z hr
      obtain ⟨r1, r2, r3⟩ := r
      obtain ⟨g1, g2⟩ := hr
      have h1 : r1 = [] := g1
      have h2 : r2 = if C = 0 then 0 else 7 := g2
      clear g1 g2
      subst h1
      have HZ := Lib.hid Z
      clear Z
      go_wp2_with (fail)
      refine HZ.out.mono ?_
      rintro e w7 ⟨a7, c7, rfl, _, _, _, k7⟩
      have HM7 := Lib.hid (HM6.out.kept k7 (fun g e e2 => by
        injection e2 with e2; injection e2 with e2
        injection e with e; injection e with e
        omega))
      have HB7 : Hid (Below w.heap.size w w7) := Lib.hid (HB6.out.trans (k7.below (fun g e => by injection e with e; injection e with e; rw [← e]; exact hgn) HB6.out.size))
      obtain ⟨b7, eb7, A7, _⟩ := HM7.out
      injection eb7 with eb7; injection eb7 with eb7
      subst eb7
      have HSPT := Lib.hid (spent_any gm (C : Int) (C : Int) false w7 A7)
      clear k7 HM6 HN6 HL6 HI6 HB6 A7 HM7
      by_cases h0 : C = 0
      · rw [if_pos h0] at h2
        subst h2
        have h0b : ((C : Int) == 0) = true := by simp [h0]
        go_wp2_with (fail)
        refine HSPT.out.mono ?_
        rintro e w8 ⟨rfl, rfl⟩
        go_wp2_with (fail)
        refine (PW.out w7).mono ?_
        rintro e w9 ⟨rfl, b9⟩
        have HB9 := Lib.hid (HB7.out.trans (b9.mono HB7.out.size))
        clear b9 HB7
        go_wp2
        go_ret
        exact ⟨rfl, HB9.out⟩
      · rw [if_neg h0] at h2
        subst h2
        have h0b : ((C : Int) == 0) = false := by simp; omega
        go_wp2_with (fail)
        refine HSPT.out.mono ?_
        rintro e w8 ⟨rfl, rfl⟩
        go_wp2_with (fail)
        refine (PW.out w7).mono ?_
        rintro e w9 ⟨rfl, b9⟩
        have HB9 := Lib.hid (HB7.out.trans (b9.mono HB7.out.size))
        clear b9 HB7
        go_wp2
        go_ret
        exact ⟨rfl, HB9.out⟩
end Go.Proofs.Ytadnjlhkppcmmaa

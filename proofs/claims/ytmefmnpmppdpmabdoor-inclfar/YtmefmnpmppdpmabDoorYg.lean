import Derived.Test.YtmefmnpmppdpmabDoorYf
/- The law InclFar: its walk. -/
namespace Go.Proofs.YtmefmnpmppdpmabDoor
open Go.ChangeShapes Go.WideShapes Go.ChangeAt Go.RowKit

set_option maxRecDepth 100000 in
set_option maxHeartbeats 16000000 in
theorem far_walk (n3 n4 : Int) (w : World) (hn3 : -9223372036854775808 ≤ n3 ∧ n3 ≤ 9223372036854775807) (hn4 : -9223372036854775808 ≤ n4 ∧ n4 ≤ 9223372036854775807) (htab : Hid (Lib.TabIs Tryd.prog w "internal/strconv.uint64pow10" .u64 Lib.pow10Tab)) :
    Calls Tryd.prog 3 #[.int .i64 n3, .int .i64 n4] w (True_ w) := by
  go_enter Tryd.func3, Tryd.ntmps3
  obtain ⟨u, hu, hu0, hu1⟩ : ∃ u : Int, n3 % ((999999999 : Nat) : Int) = u ∧ 0 ≤ u ∧ u < 999999999 := ⟨_, rfl, Int.emod_nonneg _ (by omega), Int.emod_lt_of_pos _ (by omega)⟩
  obtain ⟨v, hv, hv0, hv1⟩ : ∃ v : Int, n4 % ((5 : Nat) : Int) = v ∧ 0 ≤ v ∧ v < 5 := ⟨_, rfl, Int.emod_nonneg _ (by omega), Int.emod_lt_of_pos _ (by omega)⟩
  have Z3 : Hid (∀ V, Calls Tryd.prog 4 #[.int .i64 n3, .int .i64 999999999] V fun e w' => e = .returned (.int .i64 u) ∧ V = w') := Lib.hid (fun V => by
    have Z := Q.within_mod n3 999999999 V (by omega) (by omega) hn3.1 hn3.2
    rwa [hu] at Z)
  have Z4 : Hid (∀ V, Calls Tryd.prog 4 #[.int .i64 n4, .int .i64 5] V fun e w' => e = .returned (.int .i64 v) ∧ V = w') := Lib.hid (fun V => by
    have Z := Q.within_mod n4 5 V (by omega) (by omega) hn4.1 hn4.2
    rwa [hv] at Z)
  clear hu hv hn3 hn4
  go_wp2_with (fail)
  refine (Z3.out _).mono ?_
  rintro e _ ⟨rfl, rfl⟩
  go_wp2_with (fail)
  refine (Z4.out _).mono ?_
  rintro e _ ⟨rfl, rfl⟩
  clear Z3 Z4
  have HB0 := Lib.hid (Below.refl w.heap.size w)
  go_wp2_with (fail)
  refine (one_bag (n := u + 1) (by omega) (by omega) _).mono ?_
  rintro e X1 ⟨xa1, xc1, rfl, hx1, hy1, B1, b1⟩
  replace HB0 := Lib.hid (HB0.out.trans (b1.mono HB0.out.size))
  have ba1 := below_alloc X1 (.cells #[.slice xa1 1 xc1, .slice none 0 0] 28)
  have L1 : Lins _ _ _ [(wordX (u + 1))] := lins_fresh X1 xa1 none xc1 0 1 0 (wordX (u + 1)) rfl rfl B1 (Bags.nil _)
  replace HB0 := Lib.hid (HB0.out.trans (ba1.mono HB0.out.size))
  have HL1 := Lib.hid L1
  clear L1 ba1 b1 B1
  go_wp2_with (fail)
  refine (one_bag (n := u + 1 + 1) (by omega) (by omega) _).mono ?_
  rintro e X2 ⟨xa2, xc2, rfl, hx2, hy2, B2, b2⟩
  replace HB0 := Lib.hid (HB0.out.trans (b2.mono HB0.out.size))
  replace HL1 := Lib.hid (HL1.out.below b2)
  have ba2 := below_alloc X2 (.cells #[.slice xa2 1 xc2, .slice none 0 0] 28)
  have L2 : Lins _ _ _ [(wordX ((u + 1) + 1))] := lins_fresh X2 xa2 none xc2 0 1 0 (wordX ((u + 1) + 1)) rfl rfl B2 (Bags.nil _)
  replace HB0 := Lib.hid (HB0.out.trans (ba2.mono HB0.out.size))
  replace HL1 := Lib.hid (HL1.out.below ba2)
  have HL2 := Lib.hid L2
  clear L2 ba2 b2 B2
  go_wp2_with (fail)
  refine (one_bag (n := 1) (by omega) (by omega) _).mono ?_
  rintro e X3 ⟨xa3, xc3, rfl, hx3, hy3, B3, b3⟩
  replace HB0 := Lib.hid (HB0.out.trans (b3.mono HB0.out.size))
  replace HL1 := Lib.hid (HL1.out.below b3)
  replace HL2 := Lib.hid (HL2.out.below b3)
  obtain ⟨L3, ba3⟩ := per_fresh X3 xa3 xc3 (1) B3
  replace HB0 := Lib.hid (HB0.out.trans (ba3.mono HB0.out.size))
  replace HL1 := Lib.hid (HL1.out.below ba3)
  replace HL2 := Lib.hid (HL2.out.below ba3)
  have HL3 := Lib.hid L3
  clear L3 ba3 b3 B3
  go_wp2_with (fail)
  refine (one_bag (n := v + 2) (by omega) (by omega) _).mono ?_
  rintro e X4 ⟨xa4, xc4, rfl, hx4, hy4, B4, b4⟩
  replace HB0 := Lib.hid (HB0.out.trans (b4.mono HB0.out.size))
  replace HL1 := Lib.hid (HL1.out.below b4)
  replace HL2 := Lib.hid (HL2.out.below b4)
  replace HL3 := Lib.hid (HL3.out.below b4)
  obtain ⟨L4, ba4⟩ := per_fresh X4 xa4 xc4 (v + 2) B4
  replace HB0 := Lib.hid (HB0.out.trans (ba4.mono HB0.out.size))
  replace HL1 := Lib.hid (HL1.out.below ba4)
  replace HL2 := Lib.hid (HL2.out.below ba4)
  replace HL3 := Lib.hid (HL3.out.below ba4)
  have HL4 := Lib.hid L4
  clear L4 ba4 b4 B4
  have Z := call_next (n := (u + 1)) (by omega) (by omega) (tabN_of htab.out HB0.out) HL1.out HL2.out
  have HZ := Lib.hid Z
  clear Z
  go_wp2_with (fail)
  refine HZ.out.mono ?_
  rintro e Y5 ⟨va5, vc5, rfl, -, hx5, hy5, V5, c5⟩
  replace HB0 := Lib.hid (HB0.out.trans (c5.mono HB0.out.size))
  replace HL1 := Lib.hid (HL1.out.below c5)
  replace HL2 := Lib.hid (HL2.out.below c5)
  replace HL3 := Lib.hid (HL3.out.below c5)
  replace HL4 := Lib.hid (HL4.out.below c5)
  have HV5 := Lib.hid V5
  clear HZ c5 V5
  clear HL2
  have Z := call_one (n := (u + 1)) (by omega) (by omega) (tabN_of htab.out HB0.out) HL1.out HL3.out
  have HZ := Lib.hid Z
  clear Z
  go_wp2_with (fail)
  refine HZ.out.mono ?_
  rintro e Y6 ⟨va6, vc6, rfl, -, hx6, hy6, V6, c6⟩
  replace HB0 := Lib.hid (HB0.out.trans (c6.mono HB0.out.size))
  replace HL1 := Lib.hid (HL1.out.below c6)
  replace HL3 := Lib.hid (HL3.out.below c6)
  replace HL4 := Lib.hid (HL4.out.below c6)
  replace HV5 := Lib.hid (HV5.out.below c6)
  clear HZ c6 V6
  have Z := call_step (n := (u + 1)) (k := (v + 2)) (by omega) (by omega) (by omega) (by omega) (tabN_of htab.out HB0.out) HL1.out HL4.out
  have HZ := Lib.hid Z
  clear Z
  go_wp2_with (fail)
  refine HZ.out.mono ?_
  rintro e Y7 ⟨ws7, l7, va7, vc7, rfl, -, hx7, hy7, V7, c7⟩
  replace HB0 := Lib.hid (HB0.out.trans (c7.mono HB0.out.size))
  replace HL1 := Lib.hid (HL1.out.below c7)
  replace HL3 := Lib.hid (HL3.out.below c7)
  replace HL4 := Lib.hid (HL4.out.below c7)
  replace HV5 := Lib.hid (HV5.out.below c7)
  clear HZ c7 V7
  have Z := call_any (k := (v + 2)) (by omega) (by omega) (tabN_of htab.out HB0.out) HL3.out HL4.out
  have HZ := Lib.hid Z
  clear Z
  go_wp2_with (fail)
  refine HZ.out.mono ?_
  rintro e Y8 ⟨va8, vc8, rfl, -, hx8, hy8, V8, c8⟩
  replace HB0 := Lib.hid (HB0.out.trans (c8.mono HB0.out.size))
  replace HL1 := Lib.hid (HL1.out.below c8)
  replace HL3 := Lib.hid (HL3.out.below c8)
  replace HL4 := Lib.hid (HL4.out.below c8)
  replace HV5 := Lib.hid (HV5.out.below c8)
  have HV8 := Lib.hid V8
  clear HZ c8 V8
  have Z := call_back (k := (v + 2)) (by omega) (by omega) (tabN_of htab.out HB0.out) HL4.out HL3.out
  have HZ := Lib.hid Z
  clear Z
  go_wp2_with (fail)
  refine HZ.out.mono ?_
  rintro e Y9 ⟨va9, vc9, rfl, -, hx9, hy9, V9, c9⟩
  replace HB0 := Lib.hid (HB0.out.trans (c9.mono HB0.out.size))
  replace HL1 := Lib.hid (HL1.out.below c9)
  replace HL3 := Lib.hid (HL3.out.below c9)
  replace HL4 := Lib.hid (HL4.out.below c9)
  replace HV5 := Lib.hid (HV5.out.below c9)
  replace HV8 := Lib.hid (HV8.out.below c9)
  clear HZ c9 V9
  clear HL3
  clear HL4
  generalize X1.heap.size = g1 at HL1 ⊢
  generalize Y9 = WR at HL1 HV5 HV8 HB0 ⊢
  obtain ⟨xb, xd, hxd1, hxd2, e1, B1⟩ := lins_base1 HL1.out
  obtain ⟨g9, rfl, e9⟩ := bag_cell1 HV8.out
  have lt1 := World.block_lt_of_cell? WR _ e1
  have lt9 := World.block_lt_of_cell? WR _ e9
  have HB1 := Lib.hid B1
  clear B1
  have ZE : Hid (∀ V, Below WR.heap.size WR V → Calls Tryd.prog 7 #[.slice va5 1 vc5, .slice xb 1 xd] V (TellsF (.bool true) V)) := Lib.hid (fun V h => by
    have Z := same32 va5 xb vc5 xd [u + 1] [u + 1] V (HV5.out.below h) (HB1.out.below h)
    rw [show sameL [u + 1] [u + 1] = true by simp [sameL]] at Z
    exact Z.mono (fun e w' h => by
      obtain ⟨h1, q, rfl⟩ := h
      exact ⟨h1, ⟨rfl, rfl, rfl, Nat.le_refl _, fun _ _ => rfl⟩⟩))
  have ZW : Hid (∀ V, Below WR.heap.size WR V → Calls Tryd.prog 8 #[] V (TellsF (.bool true) V)) := Lib.hid (fun V h => wakes24 V)
  have hk0 : (0 : Int) < v + 2 := by omega
  have hq0 := rem_low (a := u + 1) (k := v + 2) (by omega) hk0
  have hq1 := rem_low (a := 1) (k := v + 2) (by omega) hk0
  have hq2 := rem_eq (a := u + 1) (k := v + 2) (by omega) hk0
  have hq3 := rem_one (k := v + 2) (by omega)
  go_wp2_with (fail)
  refine (ZE.out _ (Below.refl _ _)).mono ?_
  rintro e V1 ⟨rfl, d1⟩
  have e9 := (d1.cell (p := ⟨g9, 0, none⟩) lt9).trans e9
  go_wp2_with (fail)
  refine (ZW.out _ d1).mono ?_
  rintro e V2 ⟨rfl, d2⟩
  have HF := Lib.hid (HB0.out.trans (((d1.trans (d2.mono d1.size))).mono HB0.out.size))
  clear d1 d2
  go_wp2
  go_ret
  exact ⟨rfl, HF.out⟩
end Go.Proofs.YtmefmnpmppdpmabDoor

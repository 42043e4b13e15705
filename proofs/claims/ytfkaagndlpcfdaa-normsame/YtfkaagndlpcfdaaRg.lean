/- The law NormSame: its walk. -/
import Derived.Test.YtfkaagndlpcfdaaRf
import Derived.Test.YtfkaagndlpcfdaaQPd
namespace Go.Proofs.Ytfkaagndlpcfdaa
open Go.ChangeShapes Go.WideShapes Go.ChangeAt Go.RowKit

set_option maxRecDepth 100000 in
set_option maxHeartbeats 8000000 in
theorem same_walk8 (a0 : Option Addr) (l0 c0 : Nat) (z0 : List Int) (nm : ByteArray) (w : World) (h0 : Hid (Came w a0 l0 c0 z0)) :
    Calls Try.prog 4 #[.slice a0 l0 c0, .string nm] w (True_ w) := by
  go_enter Try.func4, Try.ntmps4
  have HZ := Lib.hid (Q.pattern_any a0 l0 c0 z0 w h0.out.1 (Lib.hid h0.out.2.2.2.2))
  go_wp2_with (fail)
  refine HZ.out.mono ?_
  rintro e W1 ⟨pa, pc, ns, rfl, P1, hc, h1, h24, _, _, b1⟩
  obtain ⟨gp, rfl, ltp⟩ := nds_some P1 h1
  have HB := Lib.hid b1
  have HP := Lib.hid P1
  have hle1 := P1.le
  obtain ⟨es, _, _, hx, _, _⟩ := normM_fine (T := 4) (by omega) (by omega) hc h1 h24
  have hx2 := (normM_named nm ns (none : Mr) 4).trans hx
  generalize es.getD (ns.length - 1) [] = x at hx hx2
  have HNX := Lib.hid hx
  have HNY := Lib.hid hx2
  have HC := Lib.hid hc
  generalize hxl : x.length = L
  have HXL := Lib.hid hxl
  clear hx hx2 hxl hc P1 b1 HZ h0
  generalize hn : ns.length = n at hle1 h1 h24 ⊢
  have HN := Lib.hid hn
  clear hn
  have HZ := Lib.hid (copyN gp pc ns W1 HP.out HN.out (by omega))
  go_wp2_with (fail)
  refine HZ.out.mono ?_
  rintro e W2 ⟨qa, qc, rfl, Q2, f2, b2⟩
  obtain ⟨gq, rfl, ltq⟩ := nds_some Q2 (by rw [HN.out]; exact h1)
  have hgq : W1.heap.size ≤ gq := f2 gq rfl
  have hpq : gp ≠ gq := by omega
  have hwq : w.heap.size ≤ gq := Nat.le_trans HB.out.size hgq
  have HB := Lib.hid (HB.out.trans (b2.mono HB.out.size))
  have HP := Lib.hid (HP.out.below b2)
  have hle2 := Q2.le
  have HQ : Hid (Q.Nds W2 (some ⟨gq, 0, none⟩) qc (halfN nm ns 0)) := Lib.hid (by
    have e : halfN nm ns 0 = ns := by simp [halfN]
    rw [e]; exact Q2)
  rw [HN.out] at hle2
  clear Q2 f2 b2 HZ ltp ltq hgq
  go_wp2
  go_loopw [20] (fun i wr => ∃ k : Nat, k ≤ n ∧ i = .int .i64 k ∧ Hid (Q.Nds wr (some ⟨gq, 0, none⟩) qc (halfN nm ns k)) ∧ Hid (Q.Nds wr (some ⟨gp, 0, none⟩) pc ns) ∧ Hid (Below w.heap.size w wr)) (fun i _ => n - (intOf i).toNat)
  case atStart => exact ⟨0, Nat.zero_le _, rfl, HQ, HP, HB⟩
  case round =>
    obtain ⟨k, hk, rfl, HQ, HP, HB⟩ := hrel
    by_cases hlt : k < n
    · have hk' : k < ns.length := by rw [HN.out]; exact hlt
      have hat := half_at nm hk'
      obtain ⟨g, e, X⟩ := HQ.out.there (j := k) (by rw [half_len]; exact hk')
      injection e with e; injection e with e; subst e
      obtain ⟨u4, x4⟩ : ∃ u, wr.cell? ⟨gq, k * 5 + 4, none⟩ = some u := ⟨_, X.c4⟩
      have hfz := nds_frozen HQ.out (k * 5 + 4)
      have Q3 := nds_name HQ.out hat nm
      rw [half_step nm hk'] at Q3
      have k3 : Kept (fun i => i = gq) wr (wr.setCell ⟨gq, k * 5 + 4, none⟩ (.string nm)) := (Kept.refl (fun i => i = gq) wr).setCell (p := ⟨gq, k * 5 + 4, none⟩) (fun _ => rfl) _
      have P3 := HP.out.kept k3 (fun g' e e2 => by injection e with e; injection e with e; exact hpq (e.trans e2))
      have B3 : Below w.heap.size w (wr.setCell ⟨gq, k * 5 + 4, none⟩ (.string nm)) := HB.out.setCell (p := ⟨gq, k * 5 + 4, none⟩) hwq _
      have HQ3 := Lib.hid Q3
      have HP3 := Lib.hid P3
      have HB3 := Lib.hid B3
      clear X hat Q3 k3 P3 B3 HQ HP HB hk'
      have i1 : (0 : Int) ≤ (k : Int) := by omega
      have i2 : (k : Int) < (n : Int) := by omega
      go_wp2
      go_roundw
      case rel => exact ⟨k + 1, by omega, by go_num, HQ3, HP3, HB3⟩
      case measure => simp [intOf]; omega
    · obtain rfl : k = n := by omega
      have hh : halfN nm ns k = ns.map (named nm) := by rw [← HN.out]; exact half_all nm ns
      have hml : (ns.map (named nm)).length = k := by rw [List.length_map]; exact HN.out
      have HQ2 : Hid (Q.Nds wr (some ⟨gq, 0, none⟩) qc (ns.map (named nm))) := Lib.hid (by rw [← hh]; exact HQ.out)
      have HML := Lib.hid hml
      clear HQ hh hml
      have HZ := Lib.hid (ofN HNX.out HN.out HXL.out (by omega) wr _ _ HP.out)
      go_wp2_with (fail)
      refine HZ.out.mono ?_
      rintro e V1 ⟨As, Cs, rfl, Ls, b1⟩
      have HXs := Lib.hid Ls
      have hls := Ls.le
      have HB := Lib.hid (HB.out.trans (b1.mono HB.out.size))
      have HP := Lib.hid (HP.out.below b1)
      have HQ2 := Lib.hid (HQ2.out.below b1)
      rw [HXL.out] at hls
      clear Ls b1 HZ
      have HZ := Lib.hid (ofN HNY.out HML.out HXL.out (by omega) V1 _ _ HQ2.out)
      go_wp2_with (fail)
      refine HZ.out.mono ?_
      rintro e V2 ⟨At, Ct, rfl, Lt, b2⟩
      have HXt := Lib.hid Lt
      have hlt2 := Lt.le
      have HB := Lib.hid (HB.out.trans (b2.mono HB.out.size))
      have HP := Lib.hid (HP.out.below b2)
      have HXs := Lib.hid (HXs.out.below b2)
      rw [HXL.out] at hlt2
      clear Lt b2 HZ HQ2
      have HZ := Lib.hid (copyN gp pc ns V2 HP.out HN.out (by omega))
      go_wp2_with (fail)
      refine HZ.out.mono ?_
      rintro e V3 ⟨ra, rc, rfl, R3, f3, b3⟩
      obtain ⟨gr, rfl, ltr⟩ := nds_some R3 (by rw [HN.out]; exact h1)
      have hgr : V2.heap.size ≤ gr := f3 gr rfl
      have HB3 := Lib.hid (HB.out.trans (b3.mono HB.out.size))
      have HXs := Lib.hid (HXs.out.below b3)
      have HXt := Lib.hid (HXt.out.below b3)
      obtain ⟨N, rfl⟩ : ∃ N, k = N + 1 := ⟨k - 1, by omega⟩
      have hw1 : IntKind.i64.wrap ((N : Int) + 1 - 1) = (N : Int) := by rw [Int.add_sub_cancel]; exact IntWalk.i64_in _ (by omega)
      have b4 := below_alloc V3 (.cells #[.int .i64 1, .int .i64 0, .int .i64 0, .int .i64 0, .string Q.emp, .int .i64 4, .int .i64 (N : Int), .int .i64 ((N : Int) + 1), .int .i64 0, .string Q.emp] 35)
      have S4 := nds_new (ns := [⟨1, 0, 0, 0, Q.emp⟩, ⟨4, (N : Int), (N : Int) + 1, 0, Q.emp⟩]) (n := 2) (Lies.new V3 35 [.int .i64 1, .int .i64 0, .int .i64 0, .int .i64 0, .string Q.emp, .int .i64 4, .int .i64 (N : Int), .int .i64 ((N : Int) + 1), .int .i64 0, .string Q.emp]) rfl (by omega)
      obtain ⟨ua, uc, V4, hr, U4, k4, f4⟩ := run_appNs 23 23 Try.underlying23 (some ⟨gr, 0, none⟩) rc ns V3.heap.size 2 _ _ (R3.below b4) S4 (n := N + 1) (m := 2) HN.out rfl (by omega)
      have ew : ns ++ [⟨1, 0, 0, 0, Q.emp⟩, ⟨4, (N : Int), (N : Int) + 1, 0, Q.emp⟩] = withNo ns := by
        unfold withNo
        rw [HN.out]
        simp
      rw [ew] at U4
      have HU := Lib.hid U4
      have hul := U4.le
      have hwl : (withNo ns).length = N + 1 + 2 := by simp [withNo, HN.out]
      rw [hwl] at hul
      have HWL := Lib.hid hwl
      have bV : Below V2.heap.size V2 V4 := (b3.trans (b4.mono b3.size)).trans (k4.below (fun g e => by injection e with e; injection e with e; omega) (Nat.le_trans b3.size b4.size))
      have HB := Lib.hid (HB.out.trans (bV.mono HB.out.size))
      have hXr : ∀ g, (fun g => some (⟨gr, 0, none⟩ : Addr) = some ⟨g, 0, none⟩) g → ∃ T cs, Lies (V3.alloc (.cells #[.int .i64 1, .int .i64 0, .int .i64 0, .int .i64 0, .string Q.emp, .int .i64 4, .int .i64 (N : Int), .int .i64 ((N : Int) + 1), .int .i64 0, .string Q.emp] 35)) g T cs ∧ MT T := fun g e => by
        injection e with e; injection e with e; subst e
        rcases R3.below b4 with ⟨h3, _⟩ | ⟨g3, sp, h3, _, _, _, l3⟩
        · cases h3
        · injection h3 with h3; injection h3 with h3; subst h3
          exact ⟨_, _, l3, by unfold MT; decide⟩
      have HXs := Lib.hid ((HXs.out.below b4).keptOf k4 hXr)
      have HXt := Lib.hid ((HXt.out.below b4).keptOf k4 hXr)
      have HR := Lib.hid hr
      clear R3 f3 b3 b4 S4 U4 k4 f4 bV hXr ew hwl hgr ltr HB3 HZ hr
      have hn1 : ((N + 1 : Nat) : Int) = (N : Int) + 1 := by omega
      go_wp2_with (at_builtin; refine Lib.wpList_append_run _ rfl _ _ _ _ rfl _ _ rfl rfl _ _ HR.out ?_)
      by_cases h22 : N + 1 + 2 ≤ 24
      · have e := withNo_same (T := 4) (by omega) (by omega) HC.out (by rw [HN.out]; exact h22)
        have HZ := Lib.hid (ofN (e.trans HNX.out) HWL.out HXL.out (by omega) V4 _ _ HU.out)
        clear e HU
        go_wp2_with (fail)
        refine HZ.out.mono ?_
        rintro e V5 ⟨Au, Cu, rfl, Lu, b5⟩
        have HXu := Lib.hid Lu
        have hlu := Lu.le
        have HB := Lib.hid (HB.out.trans (b5.mono HB.out.size))
        have HXs := Lib.hid (HXs.out.below b5)
        have HXt := Lib.hid (HXt.out.below b5)
        rw [HXL.out] at hlu
        clear Lu b5 HZ
        have hgt : ¬ (24 : Int) < (N : Int) + 1 + 2 := by omega
        have HZ := Lib.hid (sameP (s := x) (t := x) HXL.out HXL.out rfl V5 As At Cs Ct HXs.out HXt.out)
        go_wp2_with (fail)
        refine HZ.out.mono ?_
        rintro e V6 ⟨rfl, b6⟩
        have HB := Lib.hid (HB.out.trans (b6.mono HB.out.size))
        have HXs := Lib.hid (HXs.out.below b6)
        have HXu := Lib.hid (HXu.out.below b6)
        clear b6 HZ
        have HZ := Lib.hid (sameP (s := x) (t := x) HXL.out HXL.out rfl V6 As Au Cs Cu HXs.out HXu.out)
        go_wp2_with (fail)
        refine HZ.out.mono ?_
        rintro e V7 ⟨rfl, b7⟩
        have HB := Lib.hid (HB.out.trans (b7.mono HB.out.size))
        clear b7 HZ
        go_wp2_with (fail)
        refine (wakes10 V7).mono ?_
        rintro e V8 ⟨rfl, b9⟩
        have HB := Lib.hid (HB.out.trans (b9.mono HB.out.size))
        clear b9
        go_wp2
        go_ret
        exact ⟨rfl, HB.out⟩
      · have e := withNo_far (T := 4) (ns := ns) (M := (none : Mr)) (by rw [HN.out]; exact h22)
        have HZ := Lib.hid (ofN (l := 0) e HWL.out rfl (by omega) V4 _ _ HU.out)
        clear e HU
        go_wp2_with (fail)
        refine HZ.out.mono ?_
        rintro e V5 ⟨Au, Cu, rfl, Lu, b5⟩
        have HB := Lib.hid (HB.out.trans (b5.mono HB.out.size))
        have HXs := Lib.hid (HXs.out.below b5)
        have HXt := Lib.hid (HXt.out.below b5)
        clear Lu b5 HZ
        have hgt : (24 : Int) < (N : Int) + 1 + 2 := by omega
        have HZ := Lib.hid (sameP (s := x) (t := x) HXL.out HXL.out rfl V5 As At Cs Ct HXs.out HXt.out)
        go_wp2_with (fail)
        refine HZ.out.mono ?_
        rintro e V6 ⟨rfl, b6⟩
        have HB := Lib.hid (HB.out.trans (b6.mono HB.out.size))
        clear b6 HZ
        go_wp2_with (fail)
        refine (wakes10 V6).mono ?_
        rintro e V8 ⟨rfl, b9⟩
        have HB := Lib.hid (HB.out.trans (b9.mono HB.out.size))
        clear b9
        go_wp2
        go_ret
        exact ⟨rfl, HB.out⟩
end Go.Proofs.Ytfkaagndlpcfdaa

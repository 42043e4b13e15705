/- The law NormBudget: its walk. -/
import Derived.Test.YtfkaagndlpcfdaaRf
import Derived.Test.YtfkaagndlpcfdaaQPd
namespace Go.Proofs.Ytfkaagndlpcfdaa
open Go.ChangeShapes Go.WideShapes Go.ChangeAt Go.RowKit

theorem at_some {w : World} {T : TypeId} {g : Nat} {B S : Int} {o : Bool} (h : MrAt w T (some ⟨g, 0, none⟩) (some (B, S, o))) : At w T g B S o := by
  obtain ⟨b, e, a, _⟩ := h
  injection e with e; injection e with e; subst e
  exact a
/-- Tells a value, makes new memory at most. -/
def TellsV (v : Value) (w : World) (e : Ending) (w' : World) : Prop := e = .returned v ∧ Below w.heap.size w w'
theorem spentV {g : Nat} {B S : Int} {o : Bool} {w : World} (h : MrAt w 72 (some ⟨g, 0, none⟩) (some (B, S, o))) : Calls Try.prog 18 #[.pointer (some ⟨g, 0, none⟩)] w (TellsV (.int .i64 S) w) :=
  (spent_any g B S o w (at_some h)).mono fun e w' ⟨h1, h2⟩ => by subst h2; exact ⟨h1, Below.refl _ _⟩
set_option maxRecDepth 100000 in
set_option maxHeartbeats 8000000 in
theorem budget_walk8 (a0 : Option Addr) (l0 c0 : Nat) (z0 : List Int) (n1 : Int) (w : World) (h0 : Hid (Came w a0 l0 c0 z0)) (hn1 : -9223372036854775808 ≤ n1 ∧ n1 ≤ 9223372036854775807) :
    Calls Try.prog 5 #[.slice a0 l0 c0, .int .i64 n1] w (True_ w) := by
  go_enter Try.func5, Try.ntmps5
  have HZ := Lib.hid (Q.pattern_any a0 l0 c0 z0 w h0.out.1 (Lib.hid h0.out.2.2.2.2))
  go_wp2_with (fail)
  refine HZ.out.mono ?_
  rintro e W1 ⟨pa, pc, ns, rfl, P1, hc, h1, h24, _, _, b1⟩
  have HB := Lib.hid b1
  have HP := Lib.hid P1
  have hle1 := P1.le
  obtain ⟨es, _, _, hx, _, hcost⟩ := normM_fine (T := 4) (by omega) (by omega) hc h1 h24
  have hpos := costGo_len ns []
  have HBD : Hid (∀ B : Int, 0 ≤ B → (costGo ns [] ≤ B → normM (some (B, 0, false)) ns 4 = ((normM none ns 4).1, 0, some (B, costGo ns [], false))) ∧ (¬ costGo ns [] ≤ B → ∃ S', normM (some (B, 0, false)) ns 4 = ([], 7, some (B, S', true)))) := Lib.hid (fun B hB => normM_bound (by omega) (by omega) hc h1 h24 hB)
  rw [hx] at HBD
  dsimp only at HBD
  generalize es.getD (ns.length - 1) [] = x at HBD
  generalize costGo ns [] = q at HBD hcost hpos
  clear hx hc P1 b1 HZ h0
  generalize hn : ns.length = n at hle1 h1 h24 hpos ⊢
  have HN := Lib.hid hn
  clear hn
  generalize hxl : x.length = L
  have HXL := Lib.hid hxl
  clear hxl
  have hq0 : 1 ≤ q := by omega
  have hqn : (n : Int) ≤ q := hpos
  go_wp2_with (fail)
  refine (new_any 1099511627776 W1).mono ?_
  rintro e W2 ⟨rfl, m2, b2, _⟩
  have HMM : Hid (MrAt W2 72 (some ⟨W1.heap.size, 0, none⟩) (some (1099511627776, 0, false))) := Lib.hid ⟨_, rfl, m2, by omega, by omega, by omega⟩
  have hgm : w.heap.size ≤ W1.heap.size := HB.out.size
  have HB := Lib.hid (HB.out.trans (b2.mono HB.out.size))
  have HP := Lib.hid (HP.out.below b2)
  clear m2 b2
  generalize W1.heap.size = gm at HMM hgm ⊢
  have Z := of_any 4 (some ⟨gm, 0, none⟩) pa pc ns _ W2 HMM.out HP.out (by rw [HN.out]; omega)
  rw [(HBD.out 1099511627776 (by omega)).1 (by omega), HN.out] at Z
  have HZ := Lib.hid Z
  clear Z
  go_wp2_with (fail)
  refine HZ.out.mono ?_
  rintro e W3 ⟨As, Cs, rfl, Ls, m3, k3⟩
  have hls := Ls.le
  dsimp only at Ls m3 hls ⊢
  rw [HXL.out] at hls
  rw [HXL.out]
  have HXs := Lib.hid Ls
  have HP := Lib.hid (nds_mk HMM.out (by decide) k3 HP.out)
  have HM3 := Lib.hid m3
  have HB := Lib.hid (HB.out.trans (k3.below (fun g e => by injection e with e; injection e with e; omega) HB.out.size))
  clear Ls m3 k3 HZ HMM
  have HZ := Lib.hid (spentV HM3.out)
  go_wp2_with (fail)
  refine HZ.out.mono ?_
  rintro e W4 ⟨rfl, b4⟩
  have HP := Lib.hid (HP.out.below b4)
  have HXs := Lib.hid (HXs.out.below b4)
  have HB := Lib.hid (HB.out.trans (b4.mono HB.out.size))
  clear b4 HZ HM3 hgm
  go_wp2_with (fail)
  refine (new_any (q) W4).mono ?_
  rintro e W5 ⟨rfl, ma, ba, _⟩
  have HMa : Hid (MrAt W5 72 (some ⟨W4.heap.size, 0, none⟩) (some (q, 0, false))) := Lib.hid ⟨_, rfl, by rw [show max (q) 0 = q by omega] at ma; exact ma, by omega, by omega, by omega⟩
  have hga : w.heap.size ≤ W4.heap.size := HB.out.size
  have hla : W4.heap.size < W5.heap.size := ma.lt
  have HP := Lib.hid (HP.out.below ba)
  have HXs := Lib.hid (HXs.out.below ba)
  have HB := Lib.hid (HB.out.trans (ba.mono HB.out.size))
  clear ma ba
  generalize W4.heap.size = ga at HMa hga hla ⊢
  go_wp2_with (fail)
  refine (new_any (q - 1) W5).mono ?_
  rintro e W6 ⟨rfl, mb, bb, _⟩
  have HMb : Hid (MrAt W6 72 (some ⟨W5.heap.size, 0, none⟩) (some (q - 1, 0, false))) := Lib.hid ⟨_, rfl, by rw [show max (q - 1) 0 = q - 1 by omega] at mb; exact mb, by omega, by omega, by omega⟩
  have hgb : w.heap.size ≤ W5.heap.size := HB.out.size
  have hlb : W5.heap.size < W6.heap.size := mb.lt
  have HP := Lib.hid (HP.out.below bb)
  have HXs := Lib.hid (HXs.out.below bb)
  have HB := Lib.hid (HB.out.trans (bb.mono HB.out.size))
  have HMa := Lib.hid (HMa.out.below bb)
  have hab : ga < W5.heap.size := hla
  clear mb bb
  generalize W5.heap.size = gb at HMb hgb hlb hab ⊢
  go_wp2_with (fail)
  refine (within_any n1 100 _ (by omega) (by omega) hn1.1 hn1.2).mono ?_
  rintro e _ ⟨r, hr0, hr1, rfl, rfl⟩
  go_wp2_with (fail)
  refine (new_any (q + r) W6).mono ?_
  rintro e W7 ⟨rfl, mc, bc, _⟩
  have HMc : Hid (MrAt W7 72 (some ⟨W6.heap.size, 0, none⟩) (some (q + r, 0, false))) := Lib.hid ⟨_, rfl, by rw [show max (q + r) 0 = q + r by omega] at mc; exact mc, by omega, by omega, by omega⟩
  have hgc : w.heap.size ≤ W6.heap.size := HB.out.size
  have hlc : W6.heap.size < W7.heap.size := mc.lt
  have HP := Lib.hid (HP.out.below bc)
  have HXs := Lib.hid (HXs.out.below bc)
  have HB := Lib.hid (HB.out.trans (bc.mono HB.out.size))
  have HMa := Lib.hid (HMa.out.below bc)
  have HMb := Lib.hid (HMb.out.below bc)
  have hac : ga < W6.heap.size := by omega
  have hbc : gb < W6.heap.size := hlb
  clear mc bc
  generalize W6.heap.size = gc at HMc hgc hlc hac hbc ⊢
  have Z := of_any 4 (some ⟨ga, 0, none⟩) pa pc ns _ W7 HMa.out HP.out (by rw [HN.out]; omega)
  rw [(HBD.out q (by omega)).1 (by omega)] at Z
  rw [HN.out] at Z
  have HZ := Lib.hid Z
  clear Z
  go_wp2_with (fail)
  refine HZ.out.mono ?_
  rintro e W8 ⟨At, Ct, rfl, Lt, ma, ka⟩
  dsimp only at Lt ma ⊢
  have hlt := Lt.le
  rw [HXL.out] at hlt
  rw [HXL.out]
  have HXt := Lib.hid Lt
  have HXs := Lib.hid (Lins.mk HMa.out mt_meterP ka HXs.out)
  have HP := Lib.hid (nds_mk HMa.out (by decide) ka HP.out)
  have HMb := Lib.hid (mr_kept HMb.out ka (by omega))
  have HMc := Lib.hid (mr_kept HMc.out ka (by omega))
  have HMa := Lib.hid ma
  have HB := Lib.hid (HB.out.trans (ka.below (fun g e => by injection e with e; injection e with e; omega) HB.out.size))
  clear Lt ma ka HZ
  obtain ⟨S1, hS1⟩ := (HBD.out (q - 1) (by omega)).2 (by omega)
  have Z := of_any 4 (some ⟨gb, 0, none⟩) pa pc ns _ W8 HMb.out HP.out (by rw [HN.out]; omega)
  rw [hS1] at Z
  rw [HN.out] at Z
  have HZ := Lib.hid Z
  clear Z
  go_wp2_with (fail)
  refine HZ.out.mono ?_
  rintro e W9 ⟨Au, Cu, rfl, Lu, mb, kb⟩
  dsimp only at Lu mb ⊢
  have hlu := Lu.le
  dsimp only [List.length_nil] at hlu
  try dsimp only [List.length_nil]
  have HXu := Lib.hid Lu
  have HXs := Lib.hid (Lins.mk HMb.out mt_meterP kb HXs.out)
  have HXt := Lib.hid (Lins.mk HMb.out mt_meterP kb HXt.out)
  have HP := Lib.hid (nds_mk HMb.out (by decide) kb HP.out)
  have HMc := Lib.hid (mr_kept HMc.out kb (by omega))
  have HMb := Lib.hid mb
  have HB := Lib.hid (HB.out.trans (kb.below (fun g e => by injection e with e; injection e with e; omega) HB.out.size))
  clear Lu mb kb HZ
  have Z := of_any 4 (some ⟨gc, 0, none⟩) pa pc ns _ W9 HMc.out HP.out (by rw [HN.out]; omega)
  rw [(HBD.out (q + r) (by omega)).1 (by omega)] at Z
  rw [HN.out] at Z
  have HZ := Lib.hid Z
  clear Z
  go_wp2_with (fail)
  refine HZ.out.mono ?_
  rintro e X0 ⟨Av, Cv, rfl, Lv, mc, kc⟩
  dsimp only at Lv mc ⊢
  have hlv := Lv.le
  rw [HXL.out] at hlv
  rw [HXL.out]
  have HXv := Lib.hid Lv
  have HXs := Lib.hid (Lins.mk HMc.out mt_meterP kc HXs.out)
  have HXt := Lib.hid (Lins.mk HMc.out mt_meterP kc HXt.out)
  have HP := Lib.hid (nds_mk HMc.out (by decide) kc HP.out)
  have HMc := Lib.hid mc
  have HB := Lib.hid (HB.out.trans (kc.below (fun g e => by injection e with e; injection e with e; omega) HB.out.size))
  clear Lv mc kc HZ
  have HZ := Lib.hid (sameP (s := x) (t := x) HXL.out HXL.out rfl X0 As At Cs Ct HXs.out HXt.out)
  go_wp2_with (fail)
  refine HZ.out.mono ?_
  rintro e X1 ⟨rfl, b1⟩
  have HB := Lib.hid (HB.out.trans (b1.mono HB.out.size))
  have HXs := Lib.hid (HXs.out.below b1)
  have HXv := Lib.hid (HXv.out.below b1)
  have HMc := Lib.hid (HMc.out.below b1)
  clear b1 HZ
  have HZ := Lib.hid (sameP (s := x) (t := x) HXL.out HXL.out rfl X1 As Av Cs Cv HXs.out HXv.out)
  go_wp2_with (fail)
  refine HZ.out.mono ?_
  rintro e X2 ⟨rfl, b2⟩
  have HB := Lib.hid (HB.out.trans (b2.mono HB.out.size))
  have HMc := Lib.hid (HMc.out.below b2)
  clear b2 HZ
  have HZ := Lib.hid (spentV HMc.out)
  go_wp2_with (fail)
  refine HZ.out.mono ?_
  rintro e X3 ⟨rfl, b3⟩
  have HB := Lib.hid (HB.out.trans (b3.mono HB.out.size))
  clear b3 HZ
  go_wp2_with (fail)
  refine (wakes10 X3).mono ?_
  rintro e X4 ⟨rfl, b4⟩
  have HB := Lib.hid (HB.out.trans (b4.mono HB.out.size))
  clear b4
  go_wp2
  go_ret
  exact ⟨rfl, HB.out⟩
end Go.Proofs.Ytfkaagndlpcfdaa

/- The reference's Next. -/
import Derived.Test.YtadnjlhkppcmmaaTh
import Derived.Test.YtadnjlhkppcmmaaTj
import Derived.Test.YtadnjlhkppcmmaaNl
namespace Go.Proofs.Ytadnjlhkppcmmaa
open Go.ChangeShapes Go.WideShapes Go.ChangeAt Go.RowKit

theorem rspend_nil (n : Int) (w : World) : Calls Try.prog 39 #[.pointer none, .int .i64 n] w fun e w' => e = .returned (.bool true) ∧ w = w' := by
  go_enter Try.func39, Try.ntmps39
  go_wp2
  go_ret
  exact ⟨rfl, rfl⟩
theorem rspendM (mp : Option Addr) (M : Mr) (n : Int) (w : World) (h : MrAt w 46 mp M) : Calls Try.prog 39 #[.pointer mp, .int .i64 n] w (SpendsM 46 mp M n w) := by
  by_cases hm : M = none
  · subst hm
    obtain rfl : mp = none := h
    exact (rspend_nil n w).mono fun e w' ⟨he, hw⟩ => by subst hw; exact ⟨he, rfl, Kept.refl _ _⟩
  · exact spend51 mp M n w h hm
/-- Where Next's work stands: only the meter has turned beside what is new; the items so far. -/
structure NxSt (w : World) (mp : Option Addr) (M : Mr) (oa : Option Addr) (oc : Nat) (O : List It) (W : World) : Prop where
  kept : MK mp w W
  old : ∀ g, mp = some ⟨g, 0, none⟩ → g < w.heap.size
  meter : MrAt W 46 mp M
  out : Its W oa oc O
  rise : RiseI O
  fresh : From w.heap.size oa
section
variable {w W W' : World} {mp oa : Option Addr} {M : Mr} {oc : Nat} {O : List It}
theorem NxSt.zero (h : MrAt w 46 mp M) (b : Below w.heap.size w W) : NxSt w mp M none 0 [] W :=
  ⟨Kept.of_below b, fun g e => h.lt e, h.below b, Its.nil _, ⟨fun x hx => (by cases hx), List.Pairwise.nil⟩, From.none _⟩
theorem NxSt.below (h : NxSt w mp M oa oc O W) (b : Below W.heap.size W W') : NxSt w mp M oa oc O W' :=
  ⟨h.kept.then b, h.old, h.meter.below b, h.out.below b, h.rise, h.fresh⟩
theorem NxSt.spent {M' : Mr} (h : NxSt w mp M oa oc O W) (m : MrAt W' 46 mp M') (k : MK mp W W') : NxSt w mp M' oa oc O W' :=
  ⟨h.kept.and k, h.old, m, h.out.mk h.meter (by decide) (by decide) k, h.rise, h.fresh⟩
theorem NxSt.put (h : NxSt w mp M oa oc O W) {z : It} (hz : rightIt z = true) {a' : Option Addr} {c' : Nat} (r : Its W' a' c' (putI z O)) (k : Kept (fun g => oa = some ⟨g, 0, none⟩) W W') (f : ∀ g, a' = some ⟨g, 0, none⟩ → oa = some ⟨g, 0, none⟩ ∨ W.heap.size ≤ g) : NxSt w mp M a' c' (putI z O) W' := by
  have hs := h.kept.size
  refine ⟨h.kept.trans k (fun i hi e => ?_), h.old, h.meter.kept k (fun g e e2 => ?_), r, putI_rise hz h.rise, fun g e => ?_⟩
  · have := h.fresh i e
    omega
  · have := h.fresh g e2
    have := h.old g e
    omega
  · rcases f g e with h2 | h2
    · exact h.fresh g h2
    · omega
theorem NxSt.lins (h : NxSt w mp M oa oc O W) {M0 : Mr} (m : MrAt w 46 mp M0) {a : Option Addr} {c : Nat} {s : List Lin} (r : Lins w a c s) : Lins W a c s := r.mk m (by unfold MT; decide) h.kept
theorem NxSt.its (h : NxSt w mp M oa oc O W) {M0 : Mr} (m : MrAt w 46 mp M0) {a : Option Addr} {c : Nat} {s : List It} (r : Its w a c s) : Its W a c s := r.mk m (by decide) (by decide) h.kept
end
/-- What Next comes to. -/
def NextsI (mp : Option Addr) (r : List It × Int × Mr) (w : World) (e : Ending) (w' : World) : Prop :=
  ∃ a c, e = .returned (.tuple #[.slice a r.1.length c, .int .i64 r.2.1]) ∧ Its w' a c r.1 ∧ From w.heap.size a ∧ MrAt w' 46 mp r.2.2 ∧ MK mp w w'
theorem nextsI_none {mp : Option Addr} {r : List It × Int × Mr} {q : Int} {M : Mr} {w w' : World} (h : r = ([], q, M)) (m : MrAt w' 46 mp M) (k : MK mp w w') : NextsI mp r w (.returned (.tuple #[.slice none 0 0, .int .i64 q])) w' := by
  subst h
  exact ⟨none, 0, rfl, Its.nil _, From.none _, m, k⟩
theorem count0 {q N y r B : Nat} (h : q + (N - y) + r ≤ B) (hy : y < N) : q + (N - (y + 1)) + r ≤ B := by omega
theorem count1 {p q N y r B : Nat} (h : q + (N - y) + r ≤ B) (hy : y < N) (hp : p ≤ q + 1) : p + (N - (y + 1)) + r ≤ B := by omega
set_option maxRecDepth 100000 in
set_option maxHeartbeats 4000000 in
theorem rnext_any (mp sa a : Option Addr) (sc c : Nat) (M : Mr) (s : List Lin) (l : List It) (letter : Int) (w : World) (HMM0 : MrAt w 46 mp M) (R0 : Lins w sa sc s) (R : Its w a c l) (hcost : costI s l ≤ 100000000000) :
    Calls Try.prog 15 #[.pointer mp, .slice sa s.length sc, .slice a l.length c, .int .u64 letter] w (NextsI mp (nextM M s l letter) w) := by
  have hle := R.le
  have hle0 := R0.le
  have Z := rightItems_any sa a sc c s l w R0 R
  have HIF := Lib.hid (rightItems_iff (s := s) (l := l))
  have HR := Lib.hid R
  have HRS := Lib.hid R0
  have HMM := Lib.hid HMM0
  have HCO := Lib.hid hcost
  generalize hn : l.length = n at hle Z HIF ⊢
  generalize hm : s.length = m at hle0 Z HIF ⊢
  have HN := Lib.hid hn
  have HM := Lib.hid hm
  generalize hv : rightItems s l = v at Z HIF
  have HV := Lib.hid hv
  have HZ := Lib.hid Z
  clear R R0 hn hm Z hv HMM0 hcost
  go_enter Try.func15, Try.ntmps15
  go_wp2_with (fail)
  refine HZ.out.mono ?_
  rintro e w1 ⟨rfl, b1⟩
  have HB := Lib.hid b1
  clear b1 HZ
  cases v with
  | false =>
    have HF : Hid (NextsI mp (nextM M s l letter) w (.returned (.tuple #[.slice none 0 0, .int .i64 1])) w1) := Lib.hid (nextsI_none (by unfold nextM; rw [HV.out]; rfl) (HMM.out.below HB.out) (Kept.of_below HB.out))
    go_wp2
    exact bodyPost_ret (v := .tuple #[.slice none 0 0, .int .i64 1]) (by simp [results, Try.results15, go_sem]) rfl HF.out
  | true =>
    have HGO : Hid (nextM M s l letter = itGo s letter l M []) := Lib.hid (by unfold nextM; rw [HV.out]; rfl)
    go_wp2
    go_loopw [8, 9, 10, 25] (fun r er al i wr => ∃ (k q : Nat) (oa : Option Addr) (oc : Nat) (O : List It) (Mi : Mr), k ≤ n ∧ r = .slice none 0 0 ∧ er = .int .i64 0 ∧ al = .slice oa q oc ∧ i = .int .i64 k ∧ Hid (O.length = q) ∧ Hid (NxSt w mp Mi oa oc O wr) ∧ Hid (nextM M s l letter = itGo s letter (l.drop k) Mi O) ∧ Hid (q + costI s (l.drop k) ≤ 100000000000)) (fun _ _ _ i _ => n - (intOf i).toNat)
    case atStart => exact ⟨0, 0, none, 0, [], M, Nat.zero_le _, rfl, rfl, rfl, rfl, Lib.hid rfl, Lib.hid (NxSt.zero HMM.out HB.out), HGO, Lib.hid (by rw [List.drop_zero]; have := HCO.out; omega)⟩
    case round =>
      obtain ⟨k, q, oa, oc, O, Mi, hk, rfl, rfl, rfl, rfl, HQ, HT, HE, HC⟩ := hrel
      by_cases hlt : k < n
      · obtain ⟨g, b, d, e1, c0, c1, B1⟩ := (HT.out.its HMM.out HR.out).at (k := k) (by rw [HN.out]; exact hlt)
        subst e1
        have hbl := B1.le
        have ltg := HT.out.kept.size
        generalize hu : (itAt l k).c.length = u at c1 hbl
        have HU := Lib.hid hu
        clear hu
        generalize hj : (itAt l k).j = j at c0
        have HJV := Lib.hid hj
        clear hj
        obtain ⟨jn, hjn⟩ : ∃ jn : Nat, j = (jn : Int) := ⟨j.toNat, by
          have := (HIF.out.1 trivial).2.1 k hlt
          rw [HJV.out] at this
          omega⟩
        subst hjn
        have hjm : jn < m := by
          have := (HIF.out.1 trivial).2.1 k hlt
          rw [HJV.out] at this
          omega
        have bb := below_alloc wr (.cells #[.int .i64 jn, .slice b u d] 75)
        have HTW := Lib.hid (HT.out.below bb)
        have HX := Lib.hid (Lies.new wr 75 [.int .i64 jn, .slice b u d])
        have HNE : Hid (oa ≠ some ⟨wr.heap.size, 0, none⟩) := Lib.hid (fun e => Nat.lt_irrefl _ (HT.out.out.lt e))
        have HB1 := Lib.hid (B1.below bb)
        clear B1 bb
        go_upto_region 7 with (fail)
        clear c0 c1
        generalize wr.alloc (.cells #[.int .i64 jn, .slice b u d] 75) = W at HTW HX HB1 ⊢
        generalize wr.heap.size = gx at HX HNE ltg ⊢
        clear HT
        obtain ⟨g2, b2, d2, pb, pd, e2, _, c3, _, P1⟩ := (HTW.out.lins HMM.out HRS.out).at (k := jn) (by rw [HM.out]; exact hjm)
        subst e2
        have x0 := HX.out.cell 0
        have x1 := HX.out.cell 1
        simp only [List.getElem?_cons_zero, List.getElem?_cons_succ] at x0 x1
        have HPJ : Hid (linAt s (itAt l k).j.toNat = linAt s jn) := Lib.hid (by rw [HJV.out, Int.toNat_natCast])
        have HD := Lib.hid (drop_itAt (l := l) (k := k) (by rw [HN.out]; exact hlt))
        generalize hz : (linAt s jn).ps.length = z at c3
        have HZL := Lib.hid hz
        clear hz
        have i1 : (0 : Int) ≤ (jn : Int) := by omega
        have i2 : (jn : Int) < (m : Int) := by omega
        by_cases h20 : 20 < z
        · have h20b : (20 : Int) < (z : Int) := by omega
          have HF : Hid (NextsI mp (nextM M s l letter) w (.returned (.tuple #[.slice none 0 0, .int .i64 3])) W) := Lib.hid (nextsI_none (M := Mi) (by rw [HE.out, HD.out]; exact itGo_20 (by rw [HPJ.out, HZL.out]; exact h20)) HTW.out.meter HTW.out.kept)
          go_wp2
          exact bodyPost_ret (v := .tuple #[.slice none 0 0, .int .i64 3]) (by simp [results, Try.results15, go_sem]) rfl HF.out
        · have h20b : ¬ (20 : Int) < (z : Int) := by omega
          obtain ⟨N, hN⟩ : ∃ N : Nat, N = 2 ^ z := ⟨_, rfl⟩
          have hNb : N ≤ 1048576 := by rw [hN]; exact Nat.le_trans (Nat.pow_le_pow_right (by omega) (by omega : z ≤ 20)) (by decide)
          have hw : wrap64 ((2 : Int) ^ z) = (N : Int) := by
            have e : ((2 : Int) ^ z) = (N : Int) := by rw [hN]; simp
            rw [e]
            exact IntWalk.wrap64_in _ (by omega)
          have HNP : Hid ((2 ^ (linAt s (itAt l k).j.toNat).ps.length : Nat) = N) := Lib.hid (by rw [HPJ.out, HZL.out, hN])
          have H20 : Hid (¬ 20 < (linAt s (itAt l k).j.toNat).ps.length) := Lib.hid (by rw [HPJ.out, HZL.out]; exact h20)
          clear hN
          have Z := rspendM mp Mi (N : Int) W HTW.out.meter
          unfold SpendsM at Z
          generalize hq : spendM Mi (N : Int) = p at Z
          have HSP : Hid (spendM Mi ((2 ^ (linAt s (itAt l k).j.toNat).ps.length : Nat) : Int) = p) := Lib.hid (by rw [HNP.out]; exact hq)
          clear hq
          obtain ⟨v, M1⟩ := p
          have HZ := Lib.hid Z
          clear Z
          go_wp2_with (fail)
          refine HZ.out.mono ?_
          rintro e w3 ⟨rfl, m3, k3⟩
          have HT3 := Lib.hid (HTW.out.spent m3 k3)
          have HX3 := Lib.hid (HX.out.kept k3 (fun e => by
            have := HMM.out.lt e
            omega))
          have HB3 : Hid (Bag w3 b d (itAt l k).c) := Lib.hid (HB1.out.kept k3 (fun g e => bag_apartM HTW.out.meter (by decide) HB1.out e))
          have HP3 : Hid (Bags w3 pb pd (linAt s jn).ps) := Lib.hid (by
            obtain ⟨ps, e, Q⟩ := P1
            exact ⟨ps, e, Q.row.kept k3 (fun g e => row_apartM HTW.out.meter (by decide) Q.row e), fun p hp => (Q.each p hp).kept k3 (fun g e => bag_apartM HTW.out.meter (by decide) (Q.each p hp) e)⟩)
          clear HTW HX HZ m3 k3 x0 x1 c3 HB1 P1
          cases v with
          | false =>
            have HF : Hid (NextsI mp (nextM M s l letter) w (.returned (.tuple #[.slice none 0 0, .int .i64 7])) w3) := Lib.hid (nextsI_none (M := M1) (by rw [HE.out, HD.out]; exact itGo_7 H20.out HSP.out rfl) HT3.out.meter HT3.out.kept)
            go_wp2
            exact bodyPost_ret (v := .tuple #[.slice none 0 0, .int .i64 7]) (by simp [results, Try.results15, go_sem]) rfl HF.out
          | true =>
            generalize hmq : maskF (itAt l k) (linAt s (itAt l k).j.toNat).ps letter (2 ^ (linAt s (itAt l k).j.toNat).ps.length) 0 O = mq
            have HMQ := Lib.hid hmq
            clear hmq
            have HMQ0 : Hid (maskF (itAt l k) (linAt s jn).ps letter N 0 O = mq) := Lib.hid (by have h := HMQ.out; rw [HNP.out, HPJ.out] at h; exact h)
            have HC2 : Hid (q + N + costI s (l.drop (k + 1)) ≤ 100000000000) := Lib.hid (by
              have h := HC.out
              rw [HD.out, costI_cons, HNP.out, ← Nat.add_assoc] at h
              exact h)
            go_wp2
            go_loopw [8, 9, 10, 14] (fun r er al i wr => ∃ (y q : Nat) (oa : Option Addr) (oc : Nat) (O : List It), y ≤ N ∧ r = .slice none 0 0 ∧ er = .int .i64 0 ∧ al = .slice oa q oc ∧ i = .int .i64 y ∧ Hid (O.length = q) ∧ Hid (NxSt w mp M1 oa oc O wr) ∧ Hid (Lies wr gx 75 [.int .i64 jn, .slice b u d]) ∧ Hid (oa ≠ some ⟨gx, 0, none⟩) ∧ Hid (Bag wr b d (itAt l k).c) ∧ Hid (Bags wr pb pd (linAt s jn).ps) ∧ Hid (maskF (itAt l k) (linAt s jn).ps letter (N - y) y O = mq) ∧ Hid (q + (N - y) + costI s (l.drop (k + 1)) ≤ 100000000000)) (fun _ _ _ i _ => N - (intOf i).toNat)
            case atStart => exact ⟨0, q, oa, oc, O, Nat.zero_le _, rfl, rfl, rfl, rfl, HQ, HT3, HX3, HNE, HB3, HP3, Lib.hid (by rw [Nat.sub_zero]; exact HMQ0.out), Lib.hid (by rw [Nat.sub_zero]; exact HC2.out)⟩
            case round =>
              clear HT3 HX3 HNE HMQ0 HC2 HQ HC HB3 HP3
              obtain ⟨y, q, oa, oc, O, hy, rfl, rfl, rfl, rfl, HQ, HT, HX, HNE, HB, HP, HMF, HC⟩ := hrel
              by_cases hyN : y < N
              · have x1 := HX.out.cell 1
                have x0 := HX.out.cell 0
                simp only [List.getElem?_cons_zero, List.getElem?_cons_succ] at x0 x1
                have hps := HP.out.le
                have hci : rightL (itAt l k).c = true := ((HIF.out.1 trivial).2.2 k hlt).1
                have Z := chosen_any b pb d pd (itAt l k).c (linAt s jn).ps y _ HB.out HP.out hci (by rw [HZL.out]; exact Nat.le_of_not_lt h20) (Nat.lt_of_lt_of_le hyN (Nat.le_trans hNb (by decide)))
                have HM1 : Hid (mq = match chosenL (itAt l k).c (linAt s jn).ps y with
                    | none => none
                    | some c => maskF (itAt l k) (linAt s jn).ps letter (N - (y + 1)) (y + 1) (if oddN c = letter then putI ⟨(itAt l k).j, halfL c⟩ O else O)) := Lib.hid (by
                  have h := HMF.out
                  rw [show N - y = N - (y + 1) + 1 from (Nat.succ_sub_succ N y).symm ▸ (Nat.succ_sub hyN)] at h
                  exact h.symm)
                generalize ho : chosenL (itAt l k).c (linAt s jn).ps y = o at Z HM1
                have HO := Lib.hid ho
                rw [HU.out, HZL.out] at Z
                rw [HZL.out] at hps
                have HZ := Lib.hid Z
                clear Z ho hci HMF
                have hyI : (y : Int) < (N : Int) := Int.ofNat_lt.2 hyN
                go_wp2_with (fail)
                clear hw
                refine HZ.out.mono ?_
                rintro e w4 h4
                cases o with
                | none =>
                  obtain ⟨rfl, b4⟩ := h4
                  have HT4 := Lib.hid (HT.out.below b4)
                  have HF : Hid (NextsI mp (nextM M s l letter) w (.returned (.tuple #[.slice none 0 0, .int .i64 3])) w4) := Lib.hid (nextsI_none (M := M1) (by rw [HE.out, HD.out]; exact itGo_3 H20.out HSP.out rfl (HMQ.out.trans HM1.out)) HT4.out.meter HT4.out.kept)
                  clear x0 x1 b4 HZ HT HX HB HP HM1 HC
                  go_wp2
                  exact bodyPost_ret (v := .tuple #[.slice none 0 0, .int .i64 3]) (by simp [results, Try.results15, go_sem]) rfl HF.out
                | some cc =>
                  obtain ⟨a4, c4, rfl, B4, r4, f4, b4⟩ := h4
                  have HT4 := Lib.hid (HT.out.below b4)
                  have HX4 := Lib.hid (HX.out.below b4 HX.out.lt)
                  have HB4 := Lib.hid (HB.out.below b4)
                  have HP4 := Lib.hid (HP.out.below b4)
                  have HM2 : Hid (mq = maskF (itAt l k) (linAt s jn).ps letter (N - (y + 1)) (y + 1) (if oddN cc = letter then putI ⟨(itAt l k).j, halfL cc⟩ O else O)) := Lib.hid HM1.out
                  have Z2 := halved_any a4 c4 cc w4 B4 r4
                  unfold Halves at Z2
                  have hc4 := B4.le
                  generalize cc.length = cl at Z2 hc4 ⊢
                  generalize hod : oddN cc = od at Z2 HM2
                  generalize hhl : (halfL cc).length = hn5 at Z2
                  have HHL := Lib.hid hhl
                  have HZ2 := Lib.hid Z2
                  have HRI5 : Hid (rightL (halfL cc) = true) := Lib.hid (normR_right _)
                  clear x0 x1 b4 f4 HZ HT HX HB HP HM1 HO Z2 hod hhl r4 B4
                  generalize halfL cc = hc5 at HZ2 HM2 HHL HRI5
                  go_wp2_with (fail)
                  refine HZ2.out.mono ?_
                  rintro e w5 ⟨a5, c5, rfl, B5, f5, b5⟩
                  have HT5 := Lib.hid (HT4.out.below b5)
                  have HX5 := Lib.hid (HX4.out.below b5 HX4.out.lt)
                  have HB5 := Lib.hid (HB4.out.below b5)
                  have HP5 := Lib.hid (HP4.out.below b5)
                  have HC5 := Lib.hid B5
                  have hb5 := B5.le
                  rw [HHL.out] at hb5
                  clear b5 f5 B5 HT4 HX4 HB4 HP4 HZ2
                  have x0 := HX5.out.cell 0
                  have x1 := HX5.out.cell 1
                  simp only [List.getElem?_cons_zero, List.getElem?_cons_succ] at x0 x1
                  by_cases hol : od = letter
                  · have HM3 : Hid (mq = maskF (itAt l k) (linAt s jn).ps letter (N - (y + 1)) (y + 1) (putI ⟨(jn : Int), hc5⟩ O)) := Lib.hid (by have h := HM2.out; rwa [if_pos hol, HJV.out] at h)
                    have holb : (od == letter) = true := by rw [hol]; exact BEq.rfl
                    have Z3 := putItem_any oa oc O ⟨(jn : Int), hc5⟩ a5 hn5 c5 w5 HT5.out.out HT5.out.rise HRI5.out HC5.out HHL.out (by
                      have h := HC.out
                      rw [HQ.out]
                      exact Nat.le_trans (Nat.le_trans (Nat.le_add_right _ _) (Nat.le_add_right _ _)) h)
                    rw [HQ.out] at Z3
                    unfold PutsI at Z3
                    have hlen := putI_len (⟨(jn : Int), hc5⟩ : It) O
                    rw [HQ.out] at hlen
                    generalize hpo : putI (⟨(jn : Int), hc5⟩ : It) O = PO at Z3 hlen HM3
                    have HPO := Lib.hid hpo
                    generalize hpl : PO.length = pl at Z3 hlen
                    have HPL := Lib.hid hpl
                    have HZ3 := Lib.hid Z3
                    clear Z3 hpo hpl HM2
                    go_wp2_with (fail)
                    refine HZ3.out.mono ?_
                    rintro e w6 ⟨a6, c6, rfl, I6, k6, f6⟩
                    have HT6 : Hid (NxSt w mp M1 a6 c6 PO w6) := Lib.hid (by
                      have h := HPO.out
                      subst h
                      exact HT5.out.put (z := ⟨(jn : Int), hc5⟩) HRI5.out I6 k6 f6)
                    have HX6 := Lib.hid (HX5.out.kept k6 (fun e => HNE.out e))
                    have HNE6 : Hid (a6 ≠ some ⟨gx, 0, none⟩) := Lib.hid (fun e => by
                      rcases f6 gx e with h | h
                      · exact HNE.out h
                      · exact Nat.lt_irrefl _ (Nat.lt_of_lt_of_le HX5.out.lt h))
                    have HB6 := Lib.hid (bag_put HT5.out.out k6 HB5.out)
                    have HP6 := Lib.hid (bags_put HT5.out.out k6 HP5.out)
                    have HC6 : Hid (pl + (N - (y + 1)) + costI s (l.drop (k + 1)) ≤ 100000000000) := Lib.hid (count1 HC.out hyN hlen)
                    have hq6 := HT6.out.out.le
                    rw [HPL.out] at hq6
                    clear I6 k6 f6 HT5 HX5 HB5 HP5 HZ3 x0 x1 HC HQ hlen
                    go_wp2
                    go_roundw
                    case rel => exact ⟨y + 1, pl, a6, c6, PO, hyN, rfl, rfl, rfl, by go_num, HPL, HT6, HX6, HNE6, HB6, HP6, Lib.hid HM3.out.symm, HC6⟩
                    case measure => simp [intOf]; omega
                  · have HM3 : Hid (mq = maskF (itAt l k) (linAt s jn).ps letter (N - (y + 1)) (y + 1) O) := Lib.hid (by have h := HM2.out; rwa [if_neg hol] at h)
                    have holb : (od == letter) = false := by simpa using hol
                    have HC6 : Hid (q + (N - (y + 1)) + costI s (l.drop (k + 1)) ≤ 100000000000) := Lib.hid (count0 HC.out hyN)
                    clear HM2
                    go_wp2
                    go_roundw
                    case rel => exact ⟨y + 1, q, oa, oc, O, hyN, rfl, rfl, rfl, by go_num, HQ, HT5, HX5, HNE, HB5, HP5, Lib.hid HM3.out.symm, HC6⟩
                    case measure => simp [intOf]; omega
              · obtain rfl : y = N := Nat.le_antisymm hy (Nat.le_of_not_lt hyN)
                have HMF2 : Hid (mq = some O) := Lib.hid (by
                  have h := HMF.out
                  rw [Nat.sub_self] at h
                  exact h.symm)
                have HE2 : Hid (nextM M s l letter = itGo s letter (l.drop (k + 1)) M1 O) := Lib.hid (by rw [HE.out, HD.out]; exact itGo_0 H20.out HSP.out rfl (HMQ.out.trans HMF2.out))
                have HC2 : Hid (q + costI s (l.drop (k + 1)) ≤ 100000000000) := Lib.hid (by
                  have h := HC.out
                  rw [Nat.sub_self] at h
                  exact h)
                go_wp2
                clear hw
                go_roundw
                case rel => exact ⟨k + 1, q, oa, oc, O, M1, hlt, rfl, rfl, rfl, by go_num, HQ, HT, HE2, HC2⟩
                case measure => simp [intOf]; omega
      · have hkn : k = n := Nat.le_antisymm hk (Nat.le_of_not_lt hlt)
        have HF : Hid (NextsI mp (nextM M s l letter) w (.returned (.tuple #[.slice oa q oc, .int .i64 0])) wr) := Lib.hid (by
          have h := HE.out
          rw [hkn, ← HN.out, List.drop_length] at h
          rw [h, ← HQ.out]
          exact ⟨oa, oc, rfl, HT.out.out, HT.out.fresh, HT.out.meter, HT.out.kept⟩)
        go_wp2
        exact bodyPost_ret (v := .tuple #[.slice oa q oc, .int .i64 0]) (by simp [results, Try.results15, go_sem]) rfl HF.out
end Go.Proofs.Ytadnjlhkppcmmaa

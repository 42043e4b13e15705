/- The program's Has, over thin sets: the walk. -/
import Derived.Test.YtmnkjekjknhhjaaGreatDoorXb
namespace Go.Proofs.YtmnkjekjknhhjaaGreatDoor
open Go.ChangeShapes Go.WideShapes Go.ChangeAt Go.RowKit

/-- What a call with the program's meter that tells yes or no, and an error, comes to. -/
def HasSp (mp : Option Addr) (r : Bool × Int × Mr) (w : World) (e : Ending) (w' : World) : Prop :=
  e = .returned (.tuple #[.bool r.1, .int .i64 r.2.1]) ∧ MrAt w' 72 mp r.2.2 ∧ MK mp w w'
def HasPp (mp : Option Addr) (M : Mr) (s : List Lin) (xs : List Int) (w : World) (e : Ending) (w' : World) : Prop :=
  (rightL xs = false ∧ HasSp mp (false, 1, M) w e w') ∨ ∃ D, D ≤ 62 ∧ rightL xs = true ∧ DigP xs D ∧ HasSp mp (hasM M s xs D) w e w'
theorem mtP : MT 72 := by unfold MT; decide
theorem bag_mkP {w w' : World} {mp : Option Addr} {M : Mr} (h : MrAt w 72 mp M) (k : MK mp w w') {a : Option Addr} {c : Nat} {xs : List Int} (r : Bag w a c xs) : Bag w' a c xs :=
  r.kept k (fun _ e => bag_apartM h (by decide) r e)
theorem letter_bd {xs : List Int} (h : rightL xs = true) (d : Int) : 0 ≤ letterN xs d ∧ letterN xs d ≤ 18446744073709551615 := by
  unfold letterN
  split
  · have h1 := pack_bound (digitL xs d.toNat)
    have h2 : (digitL xs d.toNat).length ≤ 12 := by rw [digit_len]; exact (right_iff.1 h).1
    have h3 : (2 : Nat) ^ (digitL xs d.toNat).length ≤ 2 ^ 12 := Nat.pow_le_pow_right (by omega) h2
    have e : (2 : Int) ^ (digitL xs d.toNat).length = ((2 ^ (digitL xs d.toNat).length : Nat) : Int) := by simp
    omega
  · omega
set_option maxRecDepth 100000 in
set_option maxHeartbeats 4000000 in
theorem has15 (mp sa wa : Option Addr) (sc wc : Nat) (M : Mr) (s : List Lin) (xs : List Int) (w : World) (HMM0 : MrAt w 72 mp M) (R0 : Lins w sa sc s) (R : Bag w wa wc xs) (hs : Thin s) :
    Calls Tryz.prog 15 #[.pointer mp, .slice sa s.length sc, .slice wa xs.length wc] w (HasPp mp M s xs w) := by
  have hle := R.le
  have hle0 := R0.le
  have HT := Lib.hid hs
  have HR := Lib.hid R
  have HRS := Lib.hid R0
  have HMM := Lib.hid HMM0
  have Z0 := right11 sa sc s w R0
  rw [rightS_iff.2 HT.out.rise] at Z0
  have Z1 := right16 wa wc xs
  have ZD := digits42 wa wc xs
  generalize hn : xs.length = n at hle Z1 ZD ⊢
  generalize hm : s.length = m at hle0 Z0 ⊢
  have HN := Lib.hid hn
  have HM := Lib.hid hm
  have HZ0 := Lib.hid Z0
  have HZ1 := Lib.hid Z1
  have HZD := Lib.hid ZD
  clear R0 R HMM0 hs hn hm Z0 Z1 ZD
  go_enter Tryz.func15, Tryz.ntmps15
  go_wp2_with (fail)
  refine HZ0.out.mono ?_
  clear HZ0
  rintro e w1 ⟨rfl, b1⟩
  have HB1 := Lib.hid b1
  have HZ2 := Lib.hid (HZ1.out w1 (HR.out.below b1))
  clear b1 HZ1
  generalize hv : rightL xs = v at HZ2
  have HV := Lib.hid hv
  clear hv
  go_wp2_with (fail)
  refine HZ2.out.mono ?_
  clear HZ2
  rintro e _ ⟨rfl, rfl⟩
  cases v with
  | false =>
    have HF : Hid (HasPp mp M s xs w (.returned (.tuple #[.bool false, .int .i64 1])) w1) := Lib.hid (.inl ⟨HV.out, rfl, HMM.out.below HB1.out, Kept.of_below HB1.out⟩)
    go_wp2
    exact bodyPost_ret (v := .tuple #[.bool false, .int .i64 1]) (by simp [results, Tryz.results15, go_sem]) rfl HF.out
  | true =>
    have Z := start10 sa sc s w1 (HRS.out.below HB1.out) (by have := HT.out.few; omega)
    rw [HM.out] at Z
    have HZ := Lib.hid Z
    clear Z
    go_wp2_with (fail)
    refine HZ.out.mono ?_
    clear HZ
    rintro e w2 ⟨a2, c2, rfl, r2, f2, b2⟩
    have HB2 := Lib.hid (HB1.out.trans (b2.mono HB1.out.size))
    have HI2 := Lib.hid r2
    have hle2 := r2.le
    have HZD2 := Lib.hid (HZD.out w2 (HR.out.below HB2.out) HV.out)
    obtain ⟨hdp, hd62⟩ := bit_digits HV.out
    generalize Lib.bitLen (orN xs) = D at HZD2 hdp hd62
    have HDP := Lib.hid hdp
    have HGO : Hid (hasM M s xs D = if (readGo s xs D 0 (startL s) M).2.1 = 0 then (finalL (readGo s xs D 0 (startL s) M).1, (readGo s xs D 0 (startL s) M).2) else (false, (readGo s xs D 0 (startL s) M).2)) := Lib.hid rfl
    have HST := Lib.hid (stand_start HT.out)
    have HM2 := Lib.hid (HMM.out.below HB2.out)
    have HK2 : Hid (MK mp w w2) := Lib.hid (Kept.of_below HB2.out)
    obtain ⟨RR, hRR⟩ : ∃ RR, RR = readGo s xs D 0 (startL s) M := ⟨_, rfl⟩
    rw [← hRR] at HGO
    have HRR : Hid (RR = readGo s xs (D - 0) 0 (startL s) M) := Lib.hid hRR
    clear hRR hdp
    generalize startL s = l0 at HI2 HST hle2 HRR ⊢
    generalize hq : l0.length = q0 at hle2 ⊢
    have HQ0 := Lib.hid hq
    clear hq r2 f2 b2 HB2 HB1 HZD
    go_wp2_with (fail)
    refine HZD2.out.mono ?_
    clear HZD2
    rintro e _ ⟨rfl, rfl⟩
    go_wp2
    go_loopw [8, 24] (fun lv dv wr => ∃ (d q : Nat) (la : Option Addr) (lc : Nat) (l : List It) (Mi : Mr), d ≤ D ∧ lv = .slice la q lc ∧ dv = .int .i64 d ∧ Hid (l.length = q) ∧ Hid (Its wr la lc l) ∧ Hid (MrAt wr 72 mp Mi) ∧ Hid (MK mp w wr) ∧ Hid (Stand s l) ∧ Hid (RR = readGo s xs (D - d) d l Mi)) (fun _ dv _ => D - (intOf dv).toNat)
    case atStart => exact ⟨0, q0, a2, c2, l0, M, Nat.zero_le _, rfl, rfl, HQ0, HI2, HM2, HK2, HST, HRR⟩
    case round =>
      clear HQ0 HI2 HM2 HK2 HST HRR hle2
      obtain ⟨d, q, la, lc, l, Mi, hd, rfl, rfl, HQ, HI, HMi, HK, HST, HRR⟩ := hrel
      by_cases hdd : d < D
      · have i3 : (0 : Int) ≤ (d : Int) := by omega
        have i4 : (d : Int) < (D : Int) := by omega
        have hle3 := HI.out.le
        rw [HQ.out] at hle3
        have HWB := Lib.hid (bag_mkP HMM.out HK.out HR.out)
        have Z := letter26 wa wc xs (d : Int) wr HWB.out (by omega) (by omega)
        rw [HN.out] at Z
        have HZ := Lib.hid Z
        have HLS := Lib.hid (Lins.mk HMM.out mtP HK.out HRS.out)
        have HCO := Lib.hid (cost_bound HT.out HST.out.1 HST.out.2)
        have HNO := Lib.hid (fun h => readGo_no (s := s) (w := xs) (k := D - d - 1) (d := d) (l := l) (M := Mi) h)
        have HYE := Lib.hid (fun h => readGo_yes (s := s) (w := xs) (k := D - d - 1) (d := d) (l := l) (M := Mi) h)
        rw [show D - d - 1 + 1 = D - d by omega] at HNO HYE
        have HSO := Lib.hid (stand_ok HT.out HST.out (letterN xs (d : Int)) Mi)
        have HLB := Lib.hid (letter_bd HV.out (d : Int))
        clear Z
        go_wp2_with (fail)
        refine HZ.out.mono ?_
        clear HZ
        rintro e w5 ⟨rfl, b5⟩
        generalize letterN xs (d : Int) = ln at HNO HYE HSO HLB ⊢
        have HK5 := Lib.hid (HK.out.then b5)
        have HM5 := Lib.hid (HMi.out.below b5)
        have Z := next14 mp sa la sc lc Mi s l ln w5 HM5.out (HLS.out.below b5) (HI.out.below b5) HLB.out.1 HLB.out.2 HCO.out
        rw [HM.out, HQ.out] at Z
        have HZ := Lib.hid Z
        clear Z b5 HMi HI HLS HWB HCO
        generalize nextM Mi s l ln = r at HZ HNO HYE HSO
        obtain ⟨y, ye, My⟩ := r
        generalize hyl : y.length = yl
        have HYL := Lib.hid hyl
        clear hyl
        go_wp2_with (fail)
        refine HZ.out.mono ?_
        clear HZ
        rintro e w6 ⟨a6, c6, rfl, I6, _, m6, k6⟩
        dsimp only at I6 m6 HNO HYE HSO ⊢
        have HI6 := Lib.hid I6
        have HM6 := Lib.hid m6
        have HK6 := Lib.hid (HK5.out.and k6)
        have hle6 := I6.le
        rw [HYL.out] at hle6
        rw [HYL.out]
        clear I6 m6 k6 HK5 HM5 HK
        by_cases h0 : ye = 0
        · subst h0
          have HS6 := Lib.hid (HSO.out rfl)
          have HR6 : Hid (RR = readGo s xs (D - (d + 1)) (d + 1) y My) := Lib.hid (by rw [HRR.out, HYE.out rfl, show D - d - 1 = D - (d + 1) by omega])
          go_wp2
          go_roundw
          case rel => exact ⟨d + 1, yl, a6, c6, y, My, by omega, rfl, by go_num, HYL, HI6, HM6, HK6, HS6, HR6⟩
          case measure => simp [intOf]; omega
        · have HF : Hid (HasPp mp M s xs w (.returned (.tuple #[.bool false, .int .i64 ye])) w6) := Lib.hid (.inr ⟨D, hd62, HV.out, HDP.out, by
            have e := HNO.out h0
            rw [← HRR.out] at e
            have e2 := HGO.out
            rw [e, if_neg h0] at e2
            rw [e2]
            exact ⟨rfl, HM6.out, HK6.out⟩⟩)
          go_wp2
          exact bodyPost_ret (v := .tuple #[.bool false, .int .i64 ye]) (by simp [results, Tryz.results15, go_sem]) rfl HF.out
      · obtain rfl : d = D := by omega
        have Z := final20 la lc l wr HI.out
        rw [HQ.out] at Z
        have HZ := Lib.hid Z
        clear Z
        have hle3 := HI.out.le
        rw [HQ.out] at hle3
        go_wp2_with (fail)
        refine HZ.out.mono ?_
        clear HZ
        rintro e w5 ⟨rfl, b5⟩
        have HF : Hid (HasPp mp M s xs w (.returned (.tuple #[.bool (finalL l), .int .i64 0])) w5) := Lib.hid (.inr ⟨d, hd62, HV.out, HDP.out, by
          have e := HRR.out
          rw [Nat.sub_self, readGo_zero] at e
          have e2 := HGO.out
          rw [e, if_pos rfl] at e2
          rw [e2]
          exact ⟨rfl, HMi.out.below b5, HK.out.then b5⟩⟩)
        clear b5
        go_wp2
        exact bodyPost_ret (v := .tuple #[.bool (finalL l), .int .i64 0]) (by simp [results, Tryz.results15, go_sem]) rfl HF.out
end Go.Proofs.YtmnkjekjknhhjaaGreatDoor

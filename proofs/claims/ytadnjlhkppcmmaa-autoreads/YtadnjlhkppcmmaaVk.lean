/- The law AutoReads: its walk. -/
import Derived.Test.YtadnjlhkppcmmaaVy
import Derived.Test.YtadnjlhkppcmmaaTm
namespace Go.Proofs.Ytadnjlhkppcmmaa
open Go.ChangeShapes Go.WideShapes Go.ChangeAt Go.RowKit

theorem mul_snoc (p : List Int) (n : Nat) (t : Nat) : ∀ (ps : List (List Int)) (ns : List Nat), ns.length = ps.length → mulAt (ps ++ [p]) (ns ++ [n]) t = mulAt ps ns t + (n : Int) * p.getD t 0
  | [], [], _ => by
    show (n : Int) * p.getD t 0 + mulAt [] [] t = 0 + _
    show (n : Int) * p.getD t 0 + 0 = 0 + _
    omega
  | [], _ :: _, h => by simp at h
  | _ :: _, [], h => by simp at h
  | q :: r, m :: k, h => by
    have ih := mul_snoc p n t r k (by simpa using h)
    show (m : Int) * q.getD t 0 + mulAt (r ++ [p]) (k ++ [n]) t = (m : Int) * q.getD t 0 + mulAt r k t + _
    rw [ih]
    omega
/-- What was made of the first i periods, each so many times, beside a base. -/
structure Made (base : List Int) (ps : List (List Int)) (i : Nat) (X : List Int) (ns : List Nat) : Prop where
  len : ns.length = i
  small : Small (45 + 225 * (i : Int)) X
  eq : ∀ t, X.getD t 0 = base.getD t 0 + mulAt (ps.take i) ns t
/-- What was made of c times a period more. -/
structure Adds (i : Nat) (Y p : List Int) (c : Nat) (X : List Int) : Prop where
  small : Small (45 + 225 * (i : Int) + 45 * (c : Int)) X
  eq : ∀ t, X.getD t 0 = Y.getD t 0 + (c : Int) * p.getD t 0
theorem Made.zero {base : List Int} {ps : List (List Int)} {i : Nat} {X : List Int} {ns : List Nat} (h : Made base ps i X ns) {p : List Int} : Adds i X p 0 X :=
  ⟨h.small.more (by omega), fun t => by rw [Int.natCast_zero, Int.zero_mul]; omega⟩
theorem Adds.step {i : Nat} {Y p X : List Int} {c : Nat} (h : Adds i Y p c X) (hp : Small 45 p) (hi : i ≤ 8) (hc : c ≤ 5) : addS X p = addT X p ∧ addOk X p = true ∧ Adds i Y p (c + 1) (addT X p) := by
  have A := h.small.add hp (by omega)
  refine ⟨by unfold addS; rw [if_pos A.1], A.1, A.2.2.more (by omega), fun t => ?_⟩
  rw [add_at, h.eq t, Int.natCast_add, Int.add_mul]
  omega
theorem Made.next {base : List Int} {ps : List (List Int)} {i : Nat} {Y X p : List Int} {ns : List Nat} {c : Nat} (h : Made base ps i Y ns) (hp : i < ps.length ∧ ps.getD i [] = p) (a : Adds i Y p c X) (hc : c ≤ 5) : Made base ps (i + 1) X (ns ++ [c]) := by
  refine ⟨by rw [List.length_append, h.len]; rfl, a.small.more (by omega), fun t => ?_⟩
  have e : ps.take (i + 1) = ps.take i ++ [p] := by
    obtain ⟨hp1, hp2⟩ := hp
    subst hp2
    rw [List.take_succ_eq_append_getElem hp1]
    simp [List.getD, hp1]
  rw [a.eq t, h.eq t, e, mul_snoc _ _ _ _ _ (by rw [h.len, List.length_take]; omega)]
  omega
theorem made_zero {base : List Int} {ps : List (List Int)} (h : Small 45 base) : Made base ps 0 base [] :=
  ⟨rfl, h.more (by omega), fun t => by show _ = _ + (0 : Int); omega⟩
theorem letter_bounds {xs : List Int} (h : rightL xs = true) {d : Nat} (hd : d ≤ 62) : 0 ≤ letterN xs (d : Int) ∧ letterN xs (d : Int) ≤ 18446744073709551615 := by
  unfold letterN
  rw [if_pos ⟨h, by omega, by omega⟩, Int.toNat_natCast]
  have h1 := pack_bound (digitL xs d)
  have h2 : (digitL xs d).length ≤ 12 := by unfold digitL; rw [List.length_map]; exact (right_iff.1 h).1
  have h3 : (2 : Int) ^ (digitL xs d).length ≤ 2 ^ 12 := by
    have : (2 : Nat) ^ (digitL xs d).length ≤ 2 ^ 12 := Nat.pow_le_pow_right (by omega) h2
    have e1 : (2 : Int) ^ (digitL xs d).length = ((2 ^ (digitL xs d).length : Nat) : Int) := by simp
    rw [e1]
    omega
  omega
/-- It may be read: it stands ahead of the first letter. -/
theorem made_reads {s : List Lin} (hs : Thin s) {j : Nat} (hj : j < s.length) {X : List Int} {ns : List Nat} (h : Made (linAt s j).base (linAt s j).ps (linAt s j).ps.length X ns) : ∃ ns c, ReadsW s j X 0 ns c ∧ (⟨(j : Int), c⟩ : It) ∈ startL s := by
  refine ⟨ns, (linAt s j).base, ⟨h.len, fun t => ?_, start_ok hs hj⟩, ?_⟩
  · have h2 := h.eq t
    rw [List.take_of_length_le (Nat.le_refl _)] at h2
    rw [Int.pow_zero, Int.ediv_one]
    exact h2
  · rw [startL_thin hs]
    exact List.mem_map.2 ⟨j, List.mem_range.2 hj, rfl⟩
set_option maxRecDepth 100000 in
set_option maxHeartbeats 8000000 in
theorem reads_walk9 (a0 : Option Addr) (l0 c0 : Nat) (z0 : List Int) (n1 : Int) (a2 : Option Addr) (l2 c2 : Nat) (z2 : List Int) (w : World) (h0 : Hid (Came w a0 l0 c0 z0)) (hn1 : -9223372036854775808 ≤ n1 ∧ n1 ≤ 9223372036854775807) (h2 : Hid (Came w a2 l2 c2 z2)) :
    Calls Try.prog 6 #[.slice a0 l0 c0, .int .i64 n1, .slice a2 l2 c2] w (True_ w) := by
  have hlen := h0.out.1
  have hcap := h0.out.2.2.1
  have hlen2 := h2.out.1
  have hcap2 := h2.out.2.2.1
  go_enter Try.func6, Try.ntmps6
  have HZ := Lib.hid (semi18w a0 l0 c0 z0 w h0)
  go_wp2_with (fail)
  refine HZ.out.mono ?_
  rintro e W1 ⟨sa, sc, s, rfl, L1, T1, b1⟩
  have HB1 := Lib.hid b1
  have HT := Lib.hid T1
  have HS1 := Lib.hid L1
  have HC1 := Lib.hid (h2.out.below b1)
  have hls := L1.le
  have hfew := T1.few
  generalize hn : s.length = n at hls hfew ⊢
  have HN := Lib.hid hn
  clear L1 T1 b1 HZ hn h0 h2
  have HYL : Hid ((startL s).length = n) := Lib.hid (by rw [startL_thin HT.out, startK_len, HN.out])
  by_cases hn0 : n = 0
  · have h0b : ((n : Int) == 0) = true := by simp [hn0]
    have HZ := Lib.hid (startP HT.out HN.out W1 sa sc HS1.out)
    have HN0 := Lib.hid hn0
    clear hn0
    go_wp2_with (fail)
    refine HZ.out.mono ?_
    rintro e W2 ⟨xa, xc, rfl, X2, b2⟩
    have hlx := X2.le
    rw [HYL.out] at hlx
    have HB2 := Lib.hid (HB1.out.trans (b2.mono HB1.out.size))
    clear X2 b2 HZ HB1
    go_wp2_with (fail)
    refine (wakes23 W2).mono ?_
    rintro e W3 ⟨rfl, b3⟩
    have HB3 := Lib.hid (HB2.out.trans (b3.mono HB2.out.size))
    clear b3 HB2
    go_wp2
    go_ret
    exact ⟨rfl, HB3.out⟩
  · have h0b : ((n : Int) == 0) = false := by simp; omega
    go_wp2_with (fail)
    refine (within_any n1 n W1 (by omega) (by omega) hn1.1 hn1.2).mono ?_
    rintro e _ ⟨r, p0, p1, rfl, rfl⟩
    obtain ⟨jn, rfl⟩ : ∃ jn : Nat, r = (jn : Int) := ⟨r.toNat, by omega⟩
    have hjn : jn < n := by omega
    clear hn1
    obtain ⟨g, b, d, pb, pd, e1, q0, q1, B1, P1⟩ := HS1.out.at (k := jn) (by rw [HN.out]; exact hjn)
    subst e1
    have hX := HT.out.each _ (lin_at_mem (s := s) (k := jn) (by rw [HN.out]; exact hjn))
    have HSL := Lib.hid hX
    have h8 := hX.trim.few
    have HMD0 : Hid (Made (linAt s jn).base (linAt s jn).ps 0 (linAt s jn).base []) := Lib.hid (made_zero hX.trim.base)
    have hbl := B1.le
    have hpl := P1.le
    have HBB := Lib.hid B1
    have HPP1 := Lib.hid P1
    generalize hu : (linAt s jn).base.length = u at q0 hbl
    have HU := Lib.hid hu
    generalize hz : (linAt s jn).ps.length = z at q1 hpl h8
    have HZL := Lib.hid hz
    have bb := below_alloc W1 (.cells #[.slice b u d, .slice pb z pd] 61)
    have HBA := Lib.hid bb
    have HBI := Lib.hid (B1.below bb)
    clear B1 P1 hu hz bb hX
    go_wp2
    go_loopw [9, 45] (fun wv iv wr => ∃ (i : Nat) (wa : Option Addr) (wc wn : Nat) (Y : List Int) (ns : List Nat), i ≤ z ∧ wv = .slice wa wn wc ∧ iv = .int .i64 i ∧ Hid (Y.length = wn) ∧ Hid (Bag wr wa wc Y) ∧ Hid (Made (linAt s jn).base (linAt s jn).ps i Y ns) ∧ Hid (Below W1.heap.size W1 wr)) (fun _ iv _ => z - (intOf iv).toNat)
    case atStart => exact ⟨0, b, d, u, _, [], Nat.zero_le _, rfl, rfl, HU, HBI, HMD0, HBA⟩
    case round =>
      clear HMD0 HBA HBI q0 q1
      obtain ⟨i, wa, wc, wn, Y, ns, hiz, rfl, rfl, HWN, HWB, HMD, HB⟩ := hrel
      have hwl := HWB.out.le
      rw [HWN.out] at hwl
      by_cases hi : i < z
      · obtain ⟨g2, pa2, pc2, e2, q2, BP⟩ := (HPP1.out.below HB.out).at (k := i) (by rw [HZL.out]; exact hi)
        subst e2
        have hpl2 := BP.le
        have HPD0 : Hid (i < (linAt s jn).ps.length ∧ (linAt s jn).ps.getD i [] = (linAt s jn).ps.getD i []) := Lib.hid ⟨by rw [HZL.out]; exact hi, rfl⟩
        have HPS0 : Hid (Small 45 ((linAt s jn).ps.getD i [])) := Lib.hid (HSL.out.pers _ (by
          have hk : i < (linAt s jn).ps.length := by rw [HZL.out]; exact hi
          have e : (linAt s jn).ps.getD i [] = (linAt s jn).ps[i] := by simp [List.getD, hk]
          rw [e]
          exact List.getElem_mem hk))
        obtain ⟨p, hp⟩ : ∃ p, p = (linAt s jn).ps.getD i [] := ⟨_, rfl⟩
        rw [← hp] at q2 BP hpl2
        have HPD : Hid (i < (linAt s jn).ps.length ∧ (linAt s jn).ps.getD i [] = p) := Lib.hid ⟨HPD0.out.1, hp.symm⟩
        have HPS : Hid (Small 45 p) := Lib.hid (by rw [hp]; exact HPS0.out)
        generalize hpn : p.length = pn at q2 hpl2
        have HPN := Lib.hid hpn
        have HPW := Lib.hid BP
        clear BP hp HPD0 HPS0 hpn
        have i1 : (0 : Int) ≤ (i : Int) := by omega
        have i2 : (i : Int) < (z : Int) := by omega
        by_cases ht : i < l2
        · have ht2 : (i : Int) < (l2 : Int) := by omega
          obtain ⟨bt, off, et, ct, _, g0, g1⟩ := ((HC1.out.below HB.out).2.2.2.2 i ht)
          subst et
          generalize z2.getD i 0 = tv at ct g0 g1
          go_wp2_with (fail)
          refine (within_any tv 6 wr (by omega) (by omega) g0 g1).mono ?_
          rintro e _ ⟨r, r0, r1, rfl, rfl⟩
          obtain ⟨N, rfl⟩ : ∃ N : Nat, r = (N : Int) := ⟨r.toNat, by omega⟩
          have hcN5 : N ≤ 5 := by omega
          have HPP := HPW
          generalize wr = V0 at *
          clear g0 g1 ct
          go_wp2
          go_loopw [9, 13] (fun wv kv wr => ∃ (c : Nat) (wa : Option Addr) (wc wn : Nat) (X : List Int), c ≤ N ∧ wv = .slice wa wn wc ∧ kv = .int .i64 c ∧ Hid (X.length = wn) ∧ Hid (Bag wr wa wc X) ∧ Hid (Adds i Y p c X) ∧ Hid (Below W1.heap.size W1 wr) ∧ Hid (Below V0.heap.size V0 wr)) (fun _ kv _ => N - (intOf kv).toNat)
          case atStart => exact ⟨0, wa, wc, wn, Y, Nat.zero_le _, rfl, rfl, HWN, HWB, Lib.hid HMD.out.zero, HB, Lib.hid (Below.refl _ _)⟩
          case round =>
            clear HWN HWB HB hwl
            obtain ⟨c, wa, wc, wn, X, hcN, rfl, rfl, HWN, HWB, HAD, HB, HBI2⟩ := hrel
            have hwl := HWB.out.le
            rw [HWN.out] at hwl
            by_cases hc : c < N
            · have HPB := Lib.hid (HPP.out.below HBI2.out)
              have Z := add11 wa pa2 wc pc2 X p wr HWB.out HPB.out
              have hst := HAD.out.step HPS.out (by omega) (by omega)
              rw [HWN.out, HPN.out, hst.1, hst.2.1] at Z
              have HAD2 := Lib.hid hst.2.2
              have HZ := Lib.hid Z
              clear Z hst
              go_wp2_with (fail)
              refine HZ.out.mono ?_
              rintro e W3 ⟨a3, c3, rfl, B3, _, b3⟩
              have hl3 := B3.le
              have HX3 := Lib.hid B3
              have HB3 := Lib.hid (HB.out.trans (b3.mono HB.out.size))
              have HBI3 := Lib.hid (HBI2.out.trans (b3.mono HBI2.out.size))
              generalize hx3 : (addT X p).length = x3 at hl3 ⊢
              have HN3 := Lib.hid hx3
              clear B3 b3 HZ hx3
              go_wp2
              go_roundw
              case rel => exact ⟨c + 1, a3, c3, x3, _, hc, rfl, by go_num, HN3, HX3, HAD2, HB3, HBI3⟩
              case measure => simp [intOf]; omega
            · have hcn : c = N := by omega
              subst hcn
              have HMD2 := Lib.hid (HMD.out.next HPD.out HAD.out hcN5)
              go_wp2
              go_roundw
              case rel => exact ⟨i + 1, wa, wc, wn, X, _, by omega, rfl, by go_num, HWN, HWB, HMD2, HB⟩
              case measure => simp [intOf]; omega
        · have ht2 : ¬ (i : Int) < (l2 : Int) := by omega
          have HMD2 := Lib.hid (HMD.out.next HPD.out HMD.out.zero (by omega))
          go_wp2
          go_loopw [9, 13] (fun wv kv wr2 => wv = .slice wa wn wc ∧ kv = .int .i64 0 ∧ wr = wr2) (fun _ _ _ => 0)
          case atStart => exact ⟨rfl, rfl, rfl⟩
          case round =>
            obtain ⟨rfl, rfl, rfl⟩ := hrel
            go_wp2
            go_roundw
            case rel => exact ⟨i + 1, wa, wc, wn, Y, _, by omega, rfl, by go_num, HWN, HWB, HMD2, HB⟩
            case measure => simp [intOf]; omega
      · have hiz2 : i = z := by omega
        subst hiz2
        have HRD : Hid (∃ ns c, ReadsW s jn Y 0 ns c ∧ (⟨(jn : Int), c⟩ : It) ∈ startL s) := Lib.hid (made_reads HT.out (by rw [HN.out]; exact hjn) (by rw [HZL.out]; exact HMD.out))
        have HYR : Hid (rightL Y = true) := Lib.hid HMD.out.small.right
        have HS2 := Lib.hid (HS1.out.below HB.out)
        have HB2 := Lib.hid (HB1.out.trans (HB.out.mono HB1.out.size))
        have HZ := Lib.hid (startP HT.out HN.out wr _ sc HS2.out)
        go_wp2_with (fail)
        refine HZ.out.mono ?_
        rintro e W2 ⟨xa, xc, rfl, X2, b2⟩
        have hlx := X2.le
        rw [HYL.out] at hlx
        have HX2 := Lib.hid X2
        have HW2 := Lib.hid (HWB.out.below b2)
        have HS3 := Lib.hid (HS2.out.below b2)
        have HB3 := Lib.hid (HB2.out.trans (b2.mono HB2.out.size))
        have HST := Lib.hid (stand_start HT.out)
        clear X2 b2 HZ HB HB2 HWB HMD HS2
        go_wp2
        go_loopw [6, 14, 15] (fun rv xv dv wr => ∃ (dn q : Nat) (xa : Option Addr) (xc : Nat) (X : List It), dn ≤ 12 ∧ rv = .bool false ∧ xv = .slice xa q xc ∧ dv = .int .i64 dn ∧ Hid (X.length = q) ∧ Hid (Stand s X) ∧ Hid (∃ ns c, ReadsW s jn Y dn ns c ∧ (⟨(jn : Int), c⟩ : It) ∈ X) ∧ Hid (Its wr xa xc X) ∧ Hid (Below W2.heap.size W2 wr)) (fun _ _ dv _ => 12 - (intOf dv).toNat)
        case atStart => exact ⟨0, n, xa, xc, startL s, Nat.zero_le _, rfl, rfl, rfl, HYL, HST, HRD, HX2, Lib.hid (Below.refl _ _)⟩
        case round =>
          clear HYL HST HRD HX2 hlx
          obtain ⟨dn, q, xa, xc, X, hd, rfl, rfl, rfl, HXL, HST, HRD, HX, HB⟩ := hrel
          have hlx := HX.out.le
          rw [HXL.out] at hlx
          have HSW := Lib.hid (HS3.out.below HB.out)
          have HWW := Lib.hid (HW2.out.below HB.out)
          by_cases hd12 : dn < 12
          · have Z := letter26 wa wc Y (dn : Int) wr HWW.out (by omega) (by omega)
            rw [HWN.out] at Z
            have HLB : Hid (0 ≤ letterN Y (dn : Int) ∧ letterN Y (dn : Int) ≤ 18446744073709551615) := Lib.hid (letter_bounds (d := dn) HYR.out (by omega))
            obtain ⟨M0, hM0⟩ : ∃ M : Mr, M = (none : Mr) := ⟨_, rfl⟩
            obtain ⟨y, hy, hsy, hyi⟩ := stand_next HT.out HST.out (letterN Y (dn : Int)) hM0
            have hrd := reads_next HT.out HYR.out (show dn ≤ 62 by omega) HST.out.2 hM0 HRD.out
            rw [← hyi] at hrd
            generalize letterN Y (dn : Int) = L at Z HLB hy
            have HZ := Lib.hid Z
            have HY0 := Lib.hid hy
            have HSY := Lib.hid hsy
            have HRY := Lib.hid hrd
            have HM0 := Lib.hid hM0
            have HCO := Lib.hid (cost_bound HT.out HST.out.1 HST.out.2)
            generalize hyl : y.length = yl
            have HYN := Lib.hid hyl
            clear hy hsy hyi hrd hM0 hyl Z HRD
            go_wp2_with (fail)
            refine HZ.out.mono ?_
            rintro e W4 ⟨rfl, b4⟩
            have HS4 := Lib.hid (HSW.out.below b4)
            have HX4 := Lib.hid (HX.out.below b4)
            have HB4 := Lib.hid (HB.out.trans (b4.mono HB.out.size))
            clear b4 HZ HSW HX HB HWW
            have Z := next14 none _ xa sc xc M0 s X L W4 (by rw [HM0.out]; exact rfl) HS4.out HX4.out HLB.out.1 HLB.out.2 HCO.out
            rw [HY0.out, HXL.out, HN.out] at Z
            have HZ := Lib.hid Z
            clear Z
            go_wp2_with (fail)
            refine HZ.out.mono ?_
            rintro e W5 ⟨Aa, Ac, rfl, I5, _, _, k5⟩
            dsimp only at I5 ⊢
            have b5 := mk_none k5
            have hl5 := I5.le
            rw [HYN.out] at hl5
            rw [HYN.out]
            have HA5 := Lib.hid I5
            have HB5 := Lib.hid (HB4.out.trans (b5.mono HB4.out.size))
            have HW5 := Lib.hid ((HW2.out.below HB4.out).below b5)
            clear I5 k5 b5 HZ HX4 HS4 HB4 HY0 HCO HST
            go_wp2
            go_loopw [18, 91] (fun bv kv wr2 => ∃ (k : Nat) (bo : Bool), k ≤ wn ∧ bv = .bool bo ∧ kv = .int .i64 k ∧ Hid (bo = true → ∀ t, t < k → Y.getD t 0 / 2 ^ (dn + 1) = 0) ∧ W5 = wr2) (fun _ kv _ => wn - (intOf kv).toNat)
            case atStart => exact ⟨0, true, Nat.zero_le _, rfl, rfl, Lib.hid (fun _ t ht => absurd ht (Nat.not_lt_zero _)), rfl⟩
            case round =>
              obtain ⟨k, bo, hk, rfl, rfl, HBO, rfl⟩ := hrel
              by_cases hkw : k < wn
              · obtain ⟨g3, e3, q3⟩ := HW5.out.at (k := k) (by rw [HWN.out]; exact hkw)
                subst e3
                have hb := right_at HYR.out k
                have i1 : (0 : Int) ≤ (k : Int) := by omega
                have i2 : (k : Int) < (wn : Int) := by omega
                cases bo with
                | false =>
                  have HBO2 : Hid (false = true → ∀ t, t < k + 1 → Y.getD t 0 / 2 ^ (dn + 1) = 0) := Lib.hid (fun h => by cases h)
                  clear HBO hb
                  generalize Y.getD k 0 = v at q3
                  go_wp2
                  go_roundw
                  case rel => exact ⟨k + 1, false, hkw, rfl, by go_num, HBO2, by first | rfl | trivial⟩
                  case measure => simp [intOf]; omega
                | true =>
                  have HBO1 := Lib.hid (HBO.out rfl)
                  have HBO2 : Hid (((Y.getD k 0 / 2 ^ (dn + 1) == 0) : Bool) = true → ∀ t, t < k + 1 → Y.getD t 0 / 2 ^ (dn + 1) = 0) := Lib.hid (fun h t ht => by
                    by_cases e : t = k
                    · rw [e]; simpa using h
                    · exact HBO1.out t (by omega))
                  clear HBO
                  have hsh : IntKind.i64.wrap ((dn : Int) + 1) = (dn : Int) + 1 := IntWalk.i64_in _ (by omega)
                  generalize Y.getD k 0 = v at q3 hb HBO2
                  go_wp2
                  go_roundw
                  case rel => exact ⟨k + 1, _, hkw, rfl, by go_num, HBO2, by first | rfl | trivial⟩
                  case measure => simp [intOf]; omega
              · have hkn : k = wn := by omega
                subst hkn
                cases bo with
                | false =>
                  clear HBO
                  go_wp2
                  go_roundw
                  case rel => exact ⟨dn + 1, yl, Aa, Ac, y, hd12, rfl, rfl, by go_num, HYN, HSY, HRY, HA5, HB5⟩
                  case measure => simp [intOf]; omega
                | true =>
                  have hfin : finalL y = true := reads_final HT.out (d := dn + 1) (fun t => by
                    by_cases ht : t < k
                    · exact HBO.out rfl t ht
                    · have hyk := HWN.out
                      rw [getD_past (by omega)]
                      exact Int.zero_ediv _) HRY.out
                  have Z := final20 Aa Ac y W5 HA5.out
                  rw [HYN.out, hfin] at Z
                  have HZ := Lib.hid Z
                  clear Z hfin HBO
                  go_wp2_with (fail)
                  refine HZ.out.mono ?_
                  rintro e W6 ⟨rfl, b6⟩
                  have HA6 := Lib.hid (HA5.out.below b6)
                  have HB6 := Lib.hid (HB5.out.trans (b6.mono HB5.out.size))
                  clear b6 HZ HA5 HB5 HW5
                  go_wp2
                  go_roundw
                  case rel => exact ⟨dn + 1, yl, Aa, Ac, y, hd12, rfl, rfl, by go_num, HYN, HSY, HRY, HA6, HB6⟩
                  case measure => simp [intOf]; omega
          · go_wp2_with (fail)
            refine (wakes23 wr).mono ?_
            rintro e W5 ⟨rfl, b5⟩
            have HB5 := Lib.hid (HB3.out.trans ((HB.out.trans (b5.mono HB.out.size)).mono HB3.out.size))
            clear b5
            go_wp2
            go_ret
            exact ⟨rfl, HB5.out⟩
end Go.Proofs.Ytadnjlhkppcmmaa

/- InclPlain's parts: wakes, small, made. -/
import Derived.Test.YtmnkjekjknhhjaaGreatDoorXh
import Derived.Test.YtmnkjekjknhhjaaGreatDoorWg
import Derived.Test.YtmnkjekjknhhjaaGreatDoorUw
import Derived.Test.YtmnkjekjknhhjaaGreatDoorNd
import Derived.Test.YtmnkjekjknhhjaaGreatDoorH
import Derived.Test.YtmnkjekjknhhjaaGreatDoorI
namespace Go.Proofs.YtmnkjekjknhhjaaGreatDoor
open Go.ChangeShapes Go.WideShapes Go.ChangeAt Go.RowKit

set_option maxRecDepth 100000 in
set_option maxHeartbeats 2000000 in
/-- Within of no set: yes. -/
theorem within18_nil (mp ba : Option Addr) (bc : Nat) (b : List Lin) (w : World) (R : Lins w ba bc b) (hr : rightS b = true) :
    Calls Tryz.prog 18 #[.pointer mp, .slice none 0 0, .slice ba b.length bc] w (fun e w' => e = .returned (.tuple #[.bool true, .slice none 0 0, .int .i64 0]) ∧ Below w.heap.size w w') := by
  have hle := R.le
  have Z0 := right11 none 0 [] w (Lins.nil w)
  rw [show rightS [] = true from rfl] at Z0
  have Z1 := fun W (h : Below w.heap.size w W) => right11 ba bc b W (R.below h)
  rw [hr] at Z1
  generalize b.length = n at hle Z1 ⊢
  have HZ0 := Lib.hid Z0
  have HZ1 := Lib.hid Z1
  clear Z0 Z1 R hr
  go_enter Tryz.func18, Tryz.ntmps18
  go_wp2_with (fail)
  refine HZ0.out.mono ?_
  rintro e w1 ⟨rfl, b1⟩
  have HB1 := Lib.hid b1
  clear b1 HZ0
  go_wp2_with (fail)
  refine (HZ1.out w1 HB1.out).mono ?_
  rintro e w2 ⟨rfl, b2⟩
  have HB2 := Lib.hid (HB1.out.trans (b2.mono HB1.out.size))
  clear b2 HZ1 HB1
  go_wp2
  go_loopw [21] (fun i wr => i = .int .i64 0 ∧ w2 = wr) (fun _ _ => 0)
  case atStart => exact ⟨rfl, rfl⟩
  case round =>
    obtain ⟨rfl, rfl⟩ := hrel
    go_wp2
    exact bodyPost_ret (v := .tuple #[.bool true, .slice none 0 0, .int .i64 0]) (by simp [results, Tryz.results18, go_sem]) rfl ⟨rfl, HB2.out⟩
theorem rightS_one : rightS oneS = true := rightS_iff.2 one_rise
set_option maxRecDepth 100000 in
set_option maxHeartbeats 2000000 in
theorem wakes24 (w : World) : Calls Tryz.prog 24 #[] w (fun e w' => e = .returned (.bool true) ∧ Below w.heap.size w w') := by
  go_enter Tryz.func24, Tryz.ntmps24
  go_wp2_with (fail)
  refine (one_any w).mono ?_
  rintro e w1 ⟨a, c, rfl, A⟩
  have HB1 := Lib.hid A.bel
  have hL : Lins w1 a c oneS := ⟨_, rfl, A.row⟩
  have hle := hL.le
  have Z := within18_nil none a c oneS w1 hL rightS_one
  rw [show oneS.length = 1 from rfl] at Z hle
  have HZ := Lib.hid Z
  clear Z A hL
  go_wp2_with (fail)
  refine HZ.out.mono ?_
  rintro e w2 ⟨rfl, b2⟩
  have HB2 := Lib.hid (HB1.out.trans (b2.mono HB1.out.size))
  clear b2 HZ HB1
  go_wp2
  go_ret
  exact ⟨rfl, HB2.out⟩
/-- What small comes to: a thin set of few periods each. -/
def SmallOut (w : World) (e : Ending) (w' : World) : Prop := ∃ sa sc s, e = .returned (.slice sa (s : List Lin).length sc) ∧ Lins w' sa sc s ∧ Thin s ∧ (∀ x ∈ s, x.ps.length ≤ 4) ∧ Below w.heap.size w w'
set_option maxRecDepth 100000 in
set_option maxHeartbeats 2000000 in
theorem small25 (a : Option Addr) (len cap : Nat) (zs : List Int) (w : World) (K0 : Hid (Came w a len cap zs)) :
    Calls Tryz.prog 25 #[.slice a len cap] w (SmallOut w) := by
  have hlen := K0.out.1
  have hcap := K0.out.2.2.1
  have HZ := Lib.hid (semi18w a len cap zs w K0)
  go_enter Tryz.func25, Tryz.ntmps25
  go_wp2_with (fail)
  refine HZ.out.mono ?_
  rintro e w1 ⟨sa, sc, s, rfl, L1, T1, b1⟩
  have HL := Lib.hid L1
  have HT := Lib.hid T1
  have HB1 := Lib.hid b1
  have hls := L1.le
  have HSE : Hid (∀ W, Below w1.heap.size w1 W → (∀ x ∈ s, x.ps.length ≤ 4) → SmallOut w (.returned (.slice sa s.length sc)) W) := Lib.hid (fun W h h4 => ⟨sa, sc, s, rfl, L1.below h, T1, h4, b1.trans (h.mono b1.size)⟩)
  have HNE : Hid (∀ W, Below w1.heap.size w1 W → SmallOut w (.returned (.slice none 0 0)) W) := Lib.hid (fun W h => ⟨none, 0, [], rfl, Lins.nil W, thin_nil, fun x hx => by simp at hx, b1.trans (h.mono b1.size)⟩)
  generalize hn : s.length = n at hls HSE ⊢
  have HN := Lib.hid hn
  clear L1 T1 b1 hn HZ
  go_wp2
  go_loopw [10] (fun i wr => ∃ k : Nat, k ≤ n ∧ i = .int .i64 k ∧ Hid (∀ j, j < k → (linAt s j).ps.length ≤ 4) ∧ Hid (Below w1.heap.size w1 wr)) (fun i _ => n - (intOf i).toNat)
  case atStart => exact ⟨0, Nat.zero_le _, rfl, Lib.hid (fun j h => absurd h (Nat.not_lt_zero _)), Lib.hid (Below.refl _ _)⟩
  case round =>
    obtain ⟨k, hk, rfl, H4, HB⟩ := hrel
    by_cases hlt : k < n
    · obtain ⟨g, b, d, pb, pd, e1, q0, q1, B1, P1⟩ := (HL.out.below HB.out).at (k := k) (by rw [HN.out]; exact hlt)
      subst e1
      have hbl := B1.le
      have hpl := P1.le
      have bb := HB.out.trans ((below_alloc wr (.cells #[.slice b (linAt s k).base.length d, .slice pb (linAt s k).ps.length pd] 53)).mono HB.out.size)
      generalize hu : (linAt s k).base.length = u at q0 hbl bb
      generalize hz : (linAt s k).ps.length = z at q1 hpl bb
      have HZL := Lib.hid hz
      have HB2 := Lib.hid bb
      have i1 : (0 : Int) ≤ (k : Int) := by omega
      have i2 : (k : Int) < (n : Int) := by omega
      clear B1 P1 hu hz bb
      by_cases h4 : z ≤ 4
      · have h4b : decide ((4 : Int) < (z : Int)) = false := by simp; omega
        go_wp2
        go_roundw
        case rel => exact ⟨k + 1, by omega, by go_num, Lib.hid (fun j hj => by
          by_cases e : j = k
          · subst e; rw [HZL.out]; exact h4
          · exact H4.out j (by omega)), HB2⟩
        case measure => simp [intOf]; omega
      · have h4b : decide ((4 : Int) < (z : Int)) = true := by simp; omega
        go_wp2
        go_ret
        exact HNE.out _ HB2.out
    · obtain rfl : k = n := by omega
      have HF := HSE.out wr HB.out (fun x hx => by
        obtain ⟨j, hj, rfl⟩ := List.getElem_of_mem hx
        have h := H4.out j (by rw [← HN.out]; exact hj)
        have e : linAt s j = s[j] := by simp [linAt, List.getD, hj]
        rw [e] at h
        exact h)
      go_wp2
      go_ret
      exact HF
/-! ### made -/
theorem sub_hid {w v : List Int} (hw : rightL w = true) (hv : rightL v = true) (h : ∀ t, v.getD t 0 ≤ w.getD t 0) : subOk w v = true ∧ ((subS w v = [] ↔ ∀ t, w.getD t 0 = v.getD t 0)) := by
  have hl : v.length ≤ w.length := by
    rcases Nat.lt_or_ge w.length v.length with h1 | h1
    · exfalso
      have h2 := right_last hv (by omega)
      have h3 := h (v.length - 1)
      have h4 : w.getD (v.length - 1) 0 = 0 := getD_past (by omega)
      have h5 := (right_at hv (v.length - 1)).1
      omega
    · exact h1
  obtain ⟨s1, s2⟩ := sub_yes hw hv hl (fun j _ => h j)
  refine ⟨s1, ?_⟩
  rw [s2]
  constructor
  · intro e t
    have h1 := trim_at (subT w v) t
    rw [e, sub_at hl] at h1
    have h2 : ([] : List Int).getD t 0 = 0 := by simp
    rw [h2] at h1
    omega
  · intro e
    by_cases h0 : trimL (subT w v) = []
    · exact h0
    · exfalso
      have hlen : 0 < (trimL (subT w v)).length := List.length_pos_iff.2 h0
      have h1 : (trimL (subT w v)).getD ((trimL (subT w v)).length - 1) 0 ≠ 0 := trim_last hlen
      rw [trim_at, sub_at hl] at h1
      have := e ((trimL (subT w v)).length - 1)
      omega
/-- What a call that decides comes to. -/
def Decides (P : Prop) (w : World) (e : Ending) (w' : World) : Prop := ∃ r : Bool, e = .returned (.bool r) ∧ (r = true ↔ P) ∧ Below w.heap.size w w'
set_option maxRecDepth 100000 in
set_option maxHeartbeats 400000 in
theorem made29 (ws : List Int) (hw : rightL ws = true) (hws : Small 1000 ws) (wl : Nat) (hwl : ws.length = wl) : ∀ (N : Nat) (vs : List Int) (rest : List (List Int)) (va pv wa : Option Addr) (vc m pd wc : Nat) (W : World), rightL vs = true → Small 2000 vs →
    (∀ p ∈ rest, rightL p = true ∧ p ≠ [] ∧ Small 1000 p) → rest.length + (sumT ws 12 - sumT vs 12).toNat ≤ N → Bag W va vc vs → Pers W pv m pd rest → Bag W wa wc ws →
    Calls Tryz.prog 29 #[.slice va vs.length vc, .slice pv m pd, .slice wa wl wc] W (Decides (MadeOf vs rest ws) W) := by
  intro N
  induction N using Nat.strongRecOn with
  | _ N ih =>
  intro vs rest va pv wa vc m pd wc W hv hvs hr hN RV PR RW
  have hlv := RV.le
  have hlw := RW.le
  rw [hwl] at hlw
  have hml := PR.1
  have hmd := PR.2.1
  have hpd := PR.2.2.1
  have Z := sub13 wa va wc vc ws vs W RW RV
  have HV := Lib.hid hv
  have HVS := Lib.hid hvs
  have HR := Lib.hid hr
  have HN := Lib.hid hN
  have HRV := Lib.hid RV
  have HPR := Lib.hid PR
  have HRW := Lib.hid RW
  have HIH := Lib.hid ih
  by_cases hle : ∀ t, vs.getD t 0 ≤ ws.getD t 0
  · obtain ⟨hok, hnil⟩ := sub_hid hw hv hle
    have HLE := Lib.hid hle
    have HNIL := Lib.hid hnil
    rw [hok, hwl] at Z
    generalize hvl : vs.length = vl at hlv Z ⊢
    have HVL := Lib.hid hvl
    have HZ := Lib.hid Z
    clear Z RV PR RW hv hvs hr hN ih hok hnil hle hvl
    go_enter Tryz.func29, Tryz.ntmps29
    go_wp2_with (fail)
    refine HZ.out.mono ?_
    clear HZ
    rintro e w1 ⟨a1, c1, rfl, B1, _, b1⟩
    have HB1 := Lib.hid b1
    have hl1 := B1.le
    have HSL : Hid ((subS ws vs).length = 0 ↔ ∀ t, ws.getD t 0 = vs.getD t 0) := Lib.hid (by rw [← HNIL.out]; exact List.length_eq_zero_iff)
    generalize (subS ws vs).length = sl at hl1 HSL ⊢
    clear B1 b1 HNIL
    by_cases h0 : sl = 0
    · have h0b : ((sl : Int) == 0) = true := by simp [h0]
      have HF : Hid (Decides (MadeOf vs rest ws) W (.returned (.bool true)) w1) := Lib.hid ⟨true, rfl, ⟨fun _ => made_same rest (HSL.out.1 h0), fun _ => rfl⟩, HB1.out⟩
      clear HSL
      go_wp2
      go_ret
      exact HF.out
    · have h0b : ((sl : Int) == 0) = false := by simp [h0]
      have HNE : Hid (¬ ∀ t, ws.getD t 0 = vs.getD t 0) := Lib.hid (fun h => h0 (HSL.out.2 h))
      clear HSL
      by_cases hm0 : m = 0
      · have hm0b : ((m : Int) == 0) = true := by simp [hm0]
        have HF : Hid (Decides (MadeOf vs rest ws) W (.returned (.bool false)) w1) := Lib.hid ⟨false, rfl, ⟨fun h => (by cases h), fun h => by
          have e : rest = [] := List.eq_nil_of_length_eq_zero (by omega)
          rw [e] at h
          exact absurd (made_nil.1 h) HNE.out⟩, HB1.out⟩
        go_wp2
        go_ret
        exact HF.out
      · obtain ⟨m, rfl⟩ : ∃ m', m = m' + 1 := ⟨m - 1, by omega⟩
        have hm0b : ((m : Int) + 1 == 0) = false := by simp; omega
        have hm0c : ¬ ((m : Int) + 1 = 0) := by omega
        obtain ⟨hrl, hmp, hpm, hP⟩ := HPR.out
        obtain ⟨g, k, pc, ps, rfl, hpc, HPB0, hkm, rfl⟩ := hP.resolve_left hm0
        clear hP
        have hk : k < ps.length := by omega
        obtain ⟨p, hp⟩ : ∃ p, p = ps.getD k [] := ⟨_, rfl⟩
        have hrd : ps.drop k = p :: ps.drop (k + 1) := by
          rw [List.drop_eq_getElem_cons hk, hp]; simp [List.getD, hk]
        obtain ⟨hpr, hpn, hps⟩ := HR.out p (by rw [hrd]; simp)
        have hNN : ps.length - k + (sumT ws 12 - sumT vs 12).toNat ≤ N := by have := HN.out; rwa [List.length_drop] at this
        have HIH1 : Hid (∀ V ad cp, Below W.heap.size W V → m ≤ cp → cp ≤ 9223372036854775807 → (m = 0 ∨ (ad = some ⟨g, k + 1, none⟩ ∧ cp = pd - 1)) → Calls Tryz.prog 29 #[.slice va vl vc, .slice ad m cp, .slice wa wl wc] V (Decides (MadeOf vs (ps.drop (k + 1)) ws) V)) := Lib.hid (fun V ad cp h hc1 hc2 hor => by
          have hP2 : Pers V ad m cp (ps.drop (k + 1)) := by
            refine ⟨by rw [List.length_drop]; omega, hc1, hc2, ?_⟩
            rcases hor with hm1 | ⟨e1, e2⟩
            · exact .inl hm1
            · exact .inr ⟨g, k + 1, pc, ps, e1, by omega, HPB0.below h, by omega, rfl⟩
          have := HIH.out (N - 1) (by omega) vs (ps.drop (k + 1)) va ad wa vc m cp wc V HV.out HVS.out (fun q hq => HR.out q (by rw [hrd]; exact List.mem_cons_of_mem _ hq))
            (by rw [List.length_drop]; omega) (HRV.out.below h) hP2 (HRW.out.below h)
          rwa [HVL.out] at this)
        have hadd := add_yes HV.out hpr (fun j _ => by
          have h1 := HVS.out.top j
          have h2 := hps.top j
          omega)
        have hnx : rightL (addT vs p) = true := add_right hadd.1
        have hvw : ∀ t, vs.getD t 0 ≤ 1000 := fun t => Int.le_trans (HLE.out t) (hws.top t)
        have hsn : Small 2000 (addT vs p) := ⟨hnx, (right_iff.1 hnx).1, fun j => by
          rw [add_at]
          have h1 := hvw j
          have h2 := hps.top j
          omega⟩
        have hsum : (sumT ws 12 - sumT (addT vs p) 12).toNat < (sumT ws 12 - sumT vs 12).toNat := by
          obtain ⟨t, ht, ht1⟩ := right_tag hpr hpn
          have h1 : sumT vs 12 < sumT (addT vs p) 12 := sumT_lt (fun j => by rw [add_at]; have := (right_at hpr j).1; omega) (k := t) (by rw [add_at]; omega) 12 ht
          have h2 : ∃ j, j < 12 ∧ vs.getD j 0 < ws.getD j 0 := by
            by_cases h : ∃ j, j < 12 ∧ vs.getD j 0 < ws.getD j 0
            · exact h
            · exfalso
              refine HNE.out (fun j => ?_)
              by_cases hj : j < 12
              · have h3 := HLE.out j
                have h4 : ¬ vs.getD j 0 < ws.getD j 0 := fun h4 => h ⟨j, hj, h4⟩
                omega
              · rw [getD_past (by have := (right_iff.1 hw).1; omega), getD_past (by have := (right_iff.1 HV.out).1; omega)]
          obtain ⟨j, hj, hj1⟩ := h2
          have h3 := sumT_lt HLE.out hj1 12 hj
          omega
        have HIH2 : Hid (∀ V a c, Below W.heap.size W V → Bag V a c (addT vs p) → Calls Tryz.prog 29 #[.slice a (addT vs p).length c, .slice (some ⟨g, k, none⟩) (m + 1 : Nat) pd, .slice wa wl wc] V (Decides (MadeOf (addT vs p) (ps.drop k) ws) V)) := Lib.hid (fun V a c h B =>
          HIH.out (N - 1) (by omega) (addT vs p) (ps.drop k) a (some ⟨g, k, none⟩) wa c (m + 1) pd wc V hnx hsn HR.out
            (by rw [List.length_drop]; omega) B ⟨hrl, hmp, hpm, .inr ⟨g, k, pc, ps, rfl, hpc, HPB0.below h, hkm, rfl⟩⟩ (HRW.out.below h))
        obtain ⟨g', b, d, e1, c00, B0⟩ := HPB0.at hk
        injection e1 with e1; injection e1 with e1; subst e1
        rw [← hp] at c00 B0
        have hlg := HPB0.lt rfl
        have hpl := B0.le
        have ZA : Hid (∀ V, Below W.heap.size W V → Calls Tryz.prog 55 #[.slice va vl vc, .slice b p.length d] V (Makes2 (addT vs p) true V)) := Lib.hid (fun V h => by
          have Z := add11 va b vc d vs p V (HRV.out.below h) (B0.below h)
          rw [HVL.out, hadd.1, hadd.2] at Z
          exact Z)
        have HMC : Hid (MadeOf vs (ps.drop k) ws ↔ MadeOf vs (ps.drop (k + 1)) ws ∨ MadeOf (addT vs p) (ps.drop k) ws) := Lib.hid (by rw [hrd]; exact made_cons)
        generalize hq : p.length = pl at c00 hpl ZA
        have HPC := Lib.hid hpc
        have HKM := Lib.hid hkm
        have i1 : (0 : Int) < (m : Int) + 1 := by omega
        have i4 : (1 : Int) ≤ (m : Int) + 1 := by omega
        clear B0 hq hadd hnx hsn hsum hvw hpr hpn hps hrd hrl hNN hp HPB0 hpc hkm
        by_cases hp1 : pd = 1
        · subst hp1
          obtain rfl : m = 0 := by omega
          go_wp2_with (fail)
          refine (HIH1.out w1 (some ⟨g, k, none⟩) 0 HB1.out (by omega) (by omega) (.inl (by first | trivial | rfl))).mono ?_
          rintro e w2 ⟨r1, rfl, hr1, b2⟩
          have HB2 := Lib.hid (HB1.out.trans (b2.mono HB1.out.size))
          have HR1 := Lib.hid hr1
          clear b2 hr1 HIH1
          cases r1 with
          | true =>
            have HF : Hid (Decides (MadeOf vs (ps.drop k) ws) W (.returned (.bool true)) w2) := Lib.hid ⟨true, rfl, ⟨fun _ => HMC.out.2 (.inl (HR1.out.1 rfl)), fun _ => rfl⟩, HB2.out⟩
            go_wp2
            go_ret
            exact HF.out
          | false =>
            have c0 := (HB2.out.cell (p := ⟨g, k, none⟩) hlg).trans c00
            go_wp2_with (fail)
            refine (ZA.out w2 HB2.out).mono ?_
            rintro e w3 ⟨a3, c3, rfl, B3, _, b3⟩
            have HB3 := Lib.hid (HB2.out.trans (b3.mono HB2.out.size))
            have hl3 := B3.le
            have Z := HIH2.out w3 a3 c3 HB3.out B3
            generalize (addT vs p).length = al at hl3 Z ⊢
            have HZ := Lib.hid Z
            clear B3 b3 Z HIH2 ZA c0 c00
            go_wp2_with (fail)
            refine HZ.out.mono ?_
            rintro e w4 ⟨r2, rfl, hr2, b4⟩
            have HF : Hid (Decides (MadeOf vs (ps.drop k) ws) W (.returned (.bool r2)) w4) := Lib.hid ⟨r2, rfl, by
              rw [HMC.out, ← hr2]
              exact ⟨fun h => .inr h, fun h => h.elim (fun h1 => by have := HR1.out.2 h1; cases this) id⟩, HB3.out.trans (b4.mono HB3.out.size)⟩
            clear b4 hr2
            go_wp2
            go_ret
            exact HF.out
        · go_wp2_with (fail)
          refine (HIH1.out w1 (some ⟨g, k + 1, none⟩) (pd - 1) HB1.out (by omega) (by omega) (.inr ⟨rfl, rfl⟩)).mono ?_
          rintro e w2 ⟨r1, rfl, hr1, b2⟩
          have HB2 := Lib.hid (HB1.out.trans (b2.mono HB1.out.size))
          have HR1 := Lib.hid hr1
          clear b2 hr1 HIH1
          cases r1 with
          | true =>
            have HF : Hid (Decides (MadeOf vs (ps.drop k) ws) W (.returned (.bool true)) w2) := Lib.hid ⟨true, rfl, ⟨fun _ => HMC.out.2 (.inl (HR1.out.1 rfl)), fun _ => rfl⟩, HB2.out⟩
            go_wp2
            go_ret
            exact HF.out
          | false =>
            have c0 := (HB2.out.cell (p := ⟨g, k, none⟩) hlg).trans c00
            go_wp2_with (fail)
            refine (ZA.out w2 HB2.out).mono ?_
            rintro e w3 ⟨a3, c3, rfl, B3, _, b3⟩
            have HB3 := Lib.hid (HB2.out.trans (b3.mono HB2.out.size))
            have hl3 := B3.le
            have Z := HIH2.out w3 a3 c3 HB3.out B3
            generalize (addT vs p).length = al at hl3 Z ⊢
            have HZ := Lib.hid Z
            clear B3 b3 Z HIH2 ZA c0 c00
            go_wp2_with (fail)
            refine HZ.out.mono ?_
            rintro e w4 ⟨r2, rfl, hr2, b4⟩
            have HF : Hid (Decides (MadeOf vs (ps.drop k) ws) W (.returned (.bool r2)) w4) := Lib.hid ⟨r2, rfl, by
              rw [HMC.out, ← hr2]
              exact ⟨fun h => .inr h, fun h => h.elim (fun h1 => by have := HR1.out.2 h1; cases this) id⟩, HB3.out.trans (b4.mono HB3.out.size)⟩
            clear b4 hr2
            go_wp2
            go_ret
            exact HF.out
  · have hex : ∃ t, ws.getD t 0 < vs.getD t 0 := by
      by_cases h : ∃ t, ws.getD t 0 < vs.getD t 0
      · exact h
      · exfalso
        refine hle (fun t => ?_)
        have : ¬ ws.getD t 0 < vs.getD t 0 := fun h1 => h ⟨t, h1⟩
        omega
    obtain ⟨t, ht⟩ := hex
    have htl : t < vs.length := by
      rcases Nat.lt_or_ge t vs.length with h | h
      · exact h
      · rw [getD_past h] at ht
        have := (right_at hw t).1
        omega
    have hok := (sub_no4 htl ht).1
    have hno := made_over (fun p hp => (hr p hp).1) ht
    rw [hok, hwl] at Z
    generalize vs.length = vl at hlv Z ⊢
    have HZ := Lib.hid Z
    have HNO := Lib.hid hno
    clear Z RV PR RW hv hvs hr hN ih hok hno hle htl ht HV HVS HR HN HRV HPR HRW HIH
    go_enter Tryz.func29, Tryz.ntmps29
    go_wp2_with (fail)
    refine HZ.out.mono ?_
    clear HZ
    rintro e w1 ⟨a1, c1, rfl, B1, _, b1⟩
    have HF : Hid (Decides (MadeOf vs rest ws) W (.returned (.bool false)) w1) := Lib.hid ⟨false, rfl, ⟨fun h => (by cases h), fun h => absurd h HNO.out⟩, b1⟩
    have hl1 := B1.le
    generalize (subS ws vs).length = sl at hl1 ⊢
    clear B1 b1
    go_wp2
    go_ret
    exact HF.out
end Go.Proofs.YtmnkjekjknhhjaaGreatDoor

/- The reference's OfLin. -/
import Derived.Test.YtmbkiefbchjofaaDc
namespace Go.Proofs.Ytmbkiefbchjofaa
open Go.ChangeShapes Go.WideShapes Go.ChangeAt Go.RowKit

set_option maxRecDepth 100000 in
set_option maxHeartbeats 4000000 in
theorem ofLin_any (a pa : Option Addr) (c pc : Nat) (b : List Int) (ps : List (List Int)) (w : World) (R : Bag w a c b) (P : Bags w pa pc ps) (hb : b.length ≤ 1000) (hps : ∀ j, (ps.getD j []).length ≤ 1000) (hl : ps.length ≤ 900) :
    Calls Try.prog 10 #[.slice a b.length c, .slice pa ps.length pc] w (MakesLin (ofLin b ps) (ofOk b ps) w) := by
  have hle := P.le
  have hle' := R.le
  obtain ⟨n0, hn0⟩ : ∃ n, n = b.length := ⟨_, rfl⟩
  obtain ⟨m, hm⟩ : ∃ m, m = ps.length := ⟨_, rfl⟩
  have B0 : Below w.heap.size w (w.alloc (.cells #[.slice none 0 0, .slice none 0 0] 29)) := below_alloc _ _
  have HB0 := Lib.hid B0
  have HL4 : Hid (Lies (w.alloc (.cells #[.slice none 0 0, .slice none 0 0] 29)) w.heap.size 29 [.slice none 0 0, .slice none 0 0]) := Lib.hid (Lies.new w _ _)
  have HRB := Lib.hid (R.below B0)
  have HP := Lib.hid P
  have HPL := Lib.hid hps
  have HZ := Lib.hid (norm20 a c b _ (R.below B0) hb)
  rw [← hm] at hle hl ⊢
  rw [← hn0] at hle' hb HZ ⊢
  have HN0 := Lib.hid hn0.symm
  have HM := Lib.hid hm.symm
  clear R P hn0 hm B0 hps
  go_enter Try.func10, Try.ntmps10
  go_wp2_with (fail)
  generalize w.alloc (.cells #[.slice none 0 0, .slice none 0 0] 29) = W0 at HB0 HL4 HRB HZ ⊢
  generalize hg4 : w.heap.size = g4 at HL4 ⊢
  have HG4 := Lib.hid hg4
  clear hg4
  refine HZ.out.mono ?_
  rintro e w1 ⟨a1, c1, rfl, r1, f1, b1⟩
  clear HZ
  have hle3 := r1.le
  have HLO := Lib.hid (lost_eq b)
  generalize hn1 : (normL b).length = n1 at hle3 ⊢
  have HN1 := Lib.hid hn1
  have b2 : Below w1.heap.size w1 (w1.alloc (.cells #[.slice a1 n1 c1, .slice none 0 0] 29)) := below_alloc _ _
  have HS : Hid (OfSt w g4 w1.heap.size a1 c1 n1 (normL b) none 0 0 (putAll [] (ofNorm (ps.take 0))) (w1.alloc (.cells #[.slice a1 n1 c1, .slice none 0 0] 29))) := Lib.hid
    ⟨(HB0.out.trans (b1.mono HB0.out.size)).trans (b2.mono (Nat.le_trans HB0.out.size b1.size)), (HL4.out.below b1 HL4.out.lt).alloc _, Lies.new w1 _ _, r1.below b2, Bags.nil _, hn1, rfl, by rw [HG4.out]; exact Nat.le_refl _, Nat.le_trans HB0.out.size b1.size, by have := HL4.out.lt; have := b1.size; omega⟩
  have HRB1 := Lib.hid ((HRB.out.below b1).below b2)
  clear r1 f1 b1 b2 hn1 HRB
  by_cases h0 : n1 = 0
  · have HNI : Hid (normL b = []) := Lib.hid (List.eq_nil_of_length_eq_zero (by rw [HN1.out]; exact h0))
    have Z := zero_any a c b _ HRB1.out
    rw [HN0.out] at Z
    have HZ := Lib.hid Z
    clear Z
    obtain rfl := h0
    go_wp2_with (fail)
    generalize w1.alloc (.cells #[.slice a1 0 c1, .slice none 0 0] 29) = W1 at HS HRB1 HZ ⊢
    generalize w1.heap.size = g6 at HS ⊢
    refine HZ.out.mono ?_
    rintro e w' ⟨rfl, rfl⟩
    clear HZ
    cases hz : zeroL b with
    | false =>
      have HL : Hid (ofOk b ps = false ∧ ofLin b ps = ⟨[], []⟩) := Lib.hid (of_lost0 (by rw [HLO.out, HNI.out, hz]; rfl))
      clear hz
      obtain ⟨e0, e1, eb⟩ := HS.out.none4
      have HF := Lib.hid (makesLin_none HL.out.2 HL.out.1 eb)
      have HE0 := Lib.hid e0
      have HE1 := Lib.hid e1
      have d0 := HS.out.d0
      have d1 := HS.out.d1
      have z0 := HS.out.z4 0
      have z1 := HS.out.z4 1
      clear e0 e1 eb
      go_wp2
      generalize (W1.setCell ⟨g4, 0, none⟩ (.slice none 0 0)).setCell ⟨g4, 1, none⟩ (.slice none 0 0) = WF at HE0 HE1 HF ⊢
      have e0 := HE0.out
      have e1 := HE1.out
      exact bodyPost_ret (v := .tuple #[.agg #[.slice none 0 0, .slice none 0 0], .bool false]) (by simp [results, Try.results10, go_sem, e0, e1]) rfl HF.out
    | true =>
      have HLB : Hid (lostL b = false) := Lib.hid (by rw [HLO.out, hz]; simp)
      clear hz HRB1
      go_wp2
      go_loopw [25] (fun i wr => ∃ (k : Nat) (qa : Option Addr) (qc qm : Nat), k ≤ m ∧ i = .int .i64 k ∧ Hid (OfSt w g4 g6 a1 c1 0 (normL b) qa qc qm (putAll [] (ofNorm (ps.take k))) wr) ∧ Hid (∀ j, j < k → lostL (ps.getD j []) = false)) (fun i _ => m - (intOf i).toNat)
      case atStart => exact ⟨0, none, 0, 0, Nat.zero_le _, rfl, HS, Lib.hid (fun j h => by omega)⟩
      case round =>
        obtain ⟨k, qa, qc, qm, hk, rfl, HT, HE⟩ := hrel
        by_cases hlt : k < m
        · obtain ⟨g, pb, pd, rfl, hc, hbag⟩ := (HP.out.below HT.out.bel).at (k := k) (by rw [HM.out]; exact hlt)
          have hpl : (ps.getD k []).length ≤ 1000 := HPL.out k
          have HTS := Lib.hid (take_snocB (l := ps) (k := k) (by rw [HM.out]; exact hlt))
          have HA := Lib.hid (ofNorm_len (ps.take k))
          have HTK : Hid ((ps.take k).length = k) := Lib.hid (by rw [List.length_take, HM.out]; omega)
          generalize hp : ps.getD k [] = p at hc hbag hpl HTS
          have HPP := Lib.hid hp
          have hle2 := hbag.le
          have Z := norm20 pb pd p wr hbag hpl
          have HBG := Lib.hid hbag
          generalize hlp : p.length = lp at hc Z hle2
          have HLP := Lib.hid hlp
          have HZ := Lib.hid Z
          clear Z hbag hp hlp
          go_wp2_with (fail)
          refine HZ.out.mono ?_
          rintro e w2 ⟨a2, c2, rfl, r2, f2, b2⟩
          clear HZ
          have HT2 := Lib.hid (HT.out.below b2)
          have HB2 := Lib.hid (HBG.out.below b2)
          have hle3 := r2.le
          have hs := norm_short p
          have HLO := Lib.hid (lost_eq p)
          generalize hn2 : (normL p).length = n2 at hle3 hs ⊢
          have HN2 := Lib.hid hn2
          have HR2 := Lib.hid r2
          clear r2 f2 b2 hn2 hc
          by_cases h0 : n2 = 0
          · have HNI : Hid (normL p = []) := Lib.hid (List.eq_nil_of_length_eq_zero (by rw [HN2.out]; exact h0))
            have Z := zero_any pb pd p w2 HB2.out
            rw [HLP.out] at Z
            have HZ := Lib.hid Z
            clear Z
            rw [h0]
            clear h0
            go_wp2_with (fail)
            refine HZ.out.mono ?_
            rintro e w' ⟨rfl, rfl⟩
            clear HZ
            cases hz : zeroL p with
            | false =>
              have HL : Hid (ofOk b ps = false ∧ ofLin b ps = ⟨[], []⟩) := Lib.hid (of_lost1 (k := k) (by rw [HM.out]; exact hlt) (by rw [HPP.out, HLO.out, HNI.out, hz]; rfl))
              clear hz
              obtain ⟨e0, e1, eb⟩ := HT2.out.none4
              have HF := Lib.hid (makesLin_none HL.out.2 HL.out.1 eb)
              have HE0 := Lib.hid e0
              have HE1 := Lib.hid e1
              have d0 := HT2.out.d0
              have d1 := HT2.out.d1
              have z0 := HT2.out.z4 0
              have z1 := HT2.out.z4 1
              clear e0 e1 eb
              go_wp2
              generalize (w2.setCell ⟨g4, 0, none⟩ (.slice none 0 0)).setCell ⟨g4, 1, none⟩ (.slice none 0 0) = WF at HE0 HE1 HF ⊢
              have e0 := HE0.out
              have e1 := HE1.out
              exact bodyPost_ret (v := .tuple #[.agg #[.slice none 0 0, .slice none 0 0], .bool false]) (by simp [results, Try.results10, go_sem, e0, e1]) rfl HF.out
            | true =>
              have HL : Hid (lostL p = false) := Lib.hid (by rw [HLO.out, hz]; simp)
              clear hz
              have HT3 : Hid (OfSt w g4 g6 a1 c1 0 (normL b) qa qc qm (putAll [] (ofNorm (ps.take (k + 1)))) w2) := Lib.hid (by
                rw [HTS.out, ofNorm_snoc, HNI.out, if_pos rfl, List.append_nil]; exact HT2.out)
              go_wp2
              go_roundw
              case rel => exact ⟨k + 1, qa, qc, qm, by omega, by go_num, HT3, Lib.hid (fun j hj => by
                by_cases e : j = k
                · rw [e, HPP.out]; exact HL.out
                · exact HE.out j (by omega))⟩
              case measure => simp [intOf]; omega
          · have HNI : Hid (normL p ≠ []) := Lib.hid (fun e => h0 (by rw [← HN2.out, e]; rfl))
            have HL : Hid (lostL p = false) := Lib.hid (by
              rw [HLO.out]
              have := HNI.out
              cases h : normL p with
              | nil => exact absurd h this
              | cons _ _ => rfl)
            have hl0 : ((n2 : Int) == 0) = false := by simp; omega
            have hl1 : 0 < n2 := by omega
            have k1 := HT2.out.c1
            have Z := put_any qa a2 qc c2 (putAll [] (ofNorm (ps.take k))) (normL p) w2 HT2.out.ps HR2.out (by have := putAll_len (ofNorm (ps.take k)) []; have h1 := HA.out; have h2 := HTK.out; rw [List.length_nil] at this; omega) (by rw [HN2.out]; omega)
            rw [HT2.out.num, HN2.out] at Z
            have HZ := Lib.hid Z
            clear Z
            go_wp2_with (fail)
            refine HZ.out.mono ?_
            rintro e w3 ⟨a3, c3, rfl, r3, b3⟩
            clear HZ k1
            have HT3 := Lib.hid (HT2.out.below b3)
            have HR3 := Lib.hid r3
            clear r3 b3
            generalize hm3 : (putL (normL p) (putAll [] (ofNorm (ps.take k)))).length = m3
            have HT4 : Hid (OfSt w g4 g6 a1 c1 0 (normL b) a3 c3 m3 (putAll [] (ofNorm (ps.take (k + 1)))) (w3.setCell ⟨g6, 1, none⟩ (.slice a3 m3 c3))) := Lib.hid (by
              have := HT3.out.store HR3.out hm3
              rwa [HTS.out, ofNorm_snoc, if_neg HNI.out, putAll_snoc])
            have k1 := HT3.out.c1
            have z1 := HT3.out.z6 1
            clear hm3
            go_wp2
            go_roundw
            case rel => exact ⟨k + 1, a3, c3, m3, by omega, by go_num, HT4, Lib.hid (fun j hj => by
              by_cases e : j = k
              · rw [e, HPP.out]; exact HL.out
              · exact HE.out j (by omega))⟩
            case measure => simp [intOf]; omega
        · obtain ⟨e0, e1, eB, eP, eb⟩ := HT.out.full
          have HL : Hid (ofOk b ps = true ∧ ofLin b ps = ⟨normL b, putAll [] (ofNorm (ps.take k))⟩) := Lib.hid (by
            have h := of_found (b := b) (ps := ps) HLB.out (fun j hj => HE.out j (by rw [HM.out] at hj; omega))
            rwa [List.take_of_length_le (by rw [HM.out]; omega)])
          have HF := Lib.hid (makesLin_of HL.out.2 HL.out.1 HT.out.len HT.out.num eB eP eb)
          have HE0 := Lib.hid e0
          have HE1 := Lib.hid e1
          have k0 := HT.out.c0
          have k1 := HT.out.c1
          have d0 := HT.out.d0
          have d1 := HT.out.d1
          have z0 := HT.out.z4 0
          have z1 := HT.out.z4 1
          clear e0 e1 eb eB eP
          go_wp2
          generalize (wr.setCell ⟨g4, 0, none⟩ (.slice a1 0 c1)).setCell ⟨g4, 1, none⟩ (.slice qa qm qc) = WF at HE0 HE1 HF ⊢
          have e0 := HE0.out
          have e1 := HE1.out
          exact bodyPost_ret (v := .tuple #[.agg #[.slice a1 0 c1, .slice qa qm qc], .bool true]) (by simp [results, Try.results10, go_sem, e0, e1]) rfl HF.out
  · have HLB : Hid (lostL b = false) := Lib.hid (by
      rw [HLO.out]
      cases h : normL b with
      | nil => exact absurd (by rw [← HN1.out, h]; rfl) h0
      | cons _ _ => rfl)
    have hl0 : ((n1 : Int) == 0) = false := by simp; omega
    go_wp2
    generalize w1.alloc (.cells #[.slice a1 n1 c1, .slice none 0 0] 29) = W1 at HS HRB1 ⊢
    generalize w1.heap.size = g6 at HS ⊢
    clear HRB1
    go_loopw [25] (fun i wr => ∃ (k : Nat) (qa : Option Addr) (qc qm : Nat), k ≤ m ∧ i = .int .i64 k ∧ Hid (OfSt w g4 g6 a1 c1 n1 (normL b) qa qc qm (putAll [] (ofNorm (ps.take k))) wr) ∧ Hid (∀ j, j < k → lostL (ps.getD j []) = false)) (fun i _ => m - (intOf i).toNat)
    case atStart => exact ⟨0, none, 0, 0, Nat.zero_le _, rfl, HS, Lib.hid (fun j h => by omega)⟩
    case round =>
      obtain ⟨k, qa, qc, qm, hk, rfl, HT, HE⟩ := hrel
      by_cases hlt : k < m
      · obtain ⟨g, pb, pd, rfl, hc, hbag⟩ := (HP.out.below HT.out.bel).at (k := k) (by rw [HM.out]; exact hlt)
        have hpl : (ps.getD k []).length ≤ 1000 := HPL.out k
        have HTS := Lib.hid (take_snocB (l := ps) (k := k) (by rw [HM.out]; exact hlt))
        have HA := Lib.hid (ofNorm_len (ps.take k))
        have HTK : Hid ((ps.take k).length = k) := Lib.hid (by rw [List.length_take, HM.out]; omega)
        generalize hp : ps.getD k [] = p at hc hbag hpl HTS
        have HPP := Lib.hid hp
        have hle2 := hbag.le
        have Z := norm20 pb pd p wr hbag hpl
        have HBG := Lib.hid hbag
        generalize hlp : p.length = lp at hc Z hle2
        have HLP := Lib.hid hlp
        have HZ := Lib.hid Z
        clear Z hbag hp hlp
        go_wp2_with (fail)
        refine HZ.out.mono ?_
        rintro e w2 ⟨a2, c2, rfl, r2, f2, b2⟩
        clear HZ
        have HT2 := Lib.hid (HT.out.below b2)
        have HB2 := Lib.hid (HBG.out.below b2)
        have hle3 := r2.le
        have hs := norm_short p
        have HLO := Lib.hid (lost_eq p)
        generalize hn2 : (normL p).length = n2 at hle3 hs ⊢
        have HN2 := Lib.hid hn2
        have HR2 := Lib.hid r2
        clear r2 f2 b2 hn2 hc
        by_cases h0 : n2 = 0
        · have HNI : Hid (normL p = []) := Lib.hid (List.eq_nil_of_length_eq_zero (by rw [HN2.out]; exact h0))
          have Z := zero_any pb pd p w2 HB2.out
          rw [HLP.out] at Z
          have HZ := Lib.hid Z
          clear Z
          rw [h0]
          clear h0
          go_wp2_with (fail)
          refine HZ.out.mono ?_
          rintro e w' ⟨rfl, rfl⟩
          clear HZ
          cases hz : zeroL p with
          | false =>
            have HL : Hid (ofOk b ps = false ∧ ofLin b ps = ⟨[], []⟩) := Lib.hid (of_lost1 (k := k) (by rw [HM.out]; exact hlt) (by rw [HPP.out, HLO.out, HNI.out, hz]; rfl))
            clear hz
            obtain ⟨e0, e1, eb⟩ := HT2.out.none4
            have HF := Lib.hid (makesLin_none HL.out.2 HL.out.1 eb)
            have HE0 := Lib.hid e0
            have HE1 := Lib.hid e1
            have d0 := HT2.out.d0
            have d1 := HT2.out.d1
            have z0 := HT2.out.z4 0
            have z1 := HT2.out.z4 1
            clear e0 e1 eb
            go_wp2
            generalize (w2.setCell ⟨g4, 0, none⟩ (.slice none 0 0)).setCell ⟨g4, 1, none⟩ (.slice none 0 0) = WF at HE0 HE1 HF ⊢
            have e0 := HE0.out
            have e1 := HE1.out
            exact bodyPost_ret (v := .tuple #[.agg #[.slice none 0 0, .slice none 0 0], .bool false]) (by simp [results, Try.results10, go_sem, e0, e1]) rfl HF.out
          | true =>
            have HL : Hid (lostL p = false) := Lib.hid (by rw [HLO.out, hz]; simp)
            clear hz
            have HT3 : Hid (OfSt w g4 g6 a1 c1 n1 (normL b) qa qc qm (putAll [] (ofNorm (ps.take (k + 1)))) w2) := Lib.hid (by
              rw [HTS.out, ofNorm_snoc, HNI.out, if_pos rfl, List.append_nil]; exact HT2.out)
            go_wp2
            go_roundw
            case rel => exact ⟨k + 1, qa, qc, qm, by omega, by go_num, HT3, Lib.hid (fun j hj => by
              by_cases e : j = k
              · rw [e, HPP.out]; exact HL.out
              · exact HE.out j (by omega))⟩
            case measure => simp [intOf]; omega
        · have HNI : Hid (normL p ≠ []) := Lib.hid (fun e => h0 (by rw [← HN2.out, e]; rfl))
          have HL : Hid (lostL p = false) := Lib.hid (by
            rw [HLO.out]
            have := HNI.out
            cases h : normL p with
            | nil => exact absurd h this
            | cons _ _ => rfl)
          have hl0 : ((n2 : Int) == 0) = false := by simp; omega
          have hl1 : 0 < n2 := by omega
          have k1 := HT2.out.c1
          have Z := put_any qa a2 qc c2 (putAll [] (ofNorm (ps.take k))) (normL p) w2 HT2.out.ps HR2.out (by have := putAll_len (ofNorm (ps.take k)) []; have h1 := HA.out; have h2 := HTK.out; rw [List.length_nil] at this; omega) (by rw [HN2.out]; omega)
          rw [HT2.out.num, HN2.out] at Z
          have HZ := Lib.hid Z
          clear Z
          go_wp2_with (fail)
          refine HZ.out.mono ?_
          rintro e w3 ⟨a3, c3, rfl, r3, b3⟩
          clear HZ k1
          have HT3 := Lib.hid (HT2.out.below b3)
          have HR3 := Lib.hid r3
          clear r3 b3
          generalize hm3 : (putL (normL p) (putAll [] (ofNorm (ps.take k)))).length = m3
          have HT4 : Hid (OfSt w g4 g6 a1 c1 n1 (normL b) a3 c3 m3 (putAll [] (ofNorm (ps.take (k + 1)))) (w3.setCell ⟨g6, 1, none⟩ (.slice a3 m3 c3))) := Lib.hid (by
            have := HT3.out.store HR3.out hm3
            rwa [HTS.out, ofNorm_snoc, if_neg HNI.out, putAll_snoc])
          have k1 := HT3.out.c1
          have z1 := HT3.out.z6 1
          clear hm3
          go_wp2
          go_roundw
          case rel => exact ⟨k + 1, a3, c3, m3, by omega, by go_num, HT4, Lib.hid (fun j hj => by
            by_cases e : j = k
            · rw [e, HPP.out]; exact HL.out
            · exact HE.out j (by omega))⟩
          case measure => simp [intOf]; omega
      · obtain ⟨e0, e1, eB, eP, eb⟩ := HT.out.full
        have HL : Hid (ofOk b ps = true ∧ ofLin b ps = ⟨normL b, putAll [] (ofNorm (ps.take k))⟩) := Lib.hid (by
          have h := of_found (b := b) (ps := ps) HLB.out (fun j hj => HE.out j (by rw [HM.out] at hj; omega))
          rwa [List.take_of_length_le (by rw [HM.out]; omega)])
        have HF := Lib.hid (makesLin_of HL.out.2 HL.out.1 HT.out.len HT.out.num eB eP eb)
        have HE0 := Lib.hid e0
        have HE1 := Lib.hid e1
        have k0 := HT.out.c0
        have k1 := HT.out.c1
        have d0 := HT.out.d0
        have d1 := HT.out.d1
        have z0 := HT.out.z4 0
        have z1 := HT.out.z4 1
        clear e0 e1 eb eB eP
        go_wp2
        generalize (wr.setCell ⟨g4, 0, none⟩ (.slice a1 n1 c1)).setCell ⟨g4, 1, none⟩ (.slice qa qm qc) = WF at HE0 HE1 HF ⊢
        have e0 := HE0.out
        have e1 := HE1.out
        exact bodyPost_ret (v := .tuple #[.agg #[.slice a1 n1 c1, .slice qa qm qc], .bool true]) (by simp [results, Try.results10, go_sem, e0, e1]) rfl HF.out
end Go.Proofs.Ytmbkiefbchjofaa

/- The program's Right of a linear set. -/
import Derived.Test.YtmbkiefbchjofaaBe
import Derived.Test.YtmbkiefbchjofaaCa
namespace Go.Proofs.Ytmbkiefbchjofaa
open Go.ChangeShapes Go.WideShapes Go.ChangeAt Go.RowKit

theorem lt_right {a b : List Int} (h : cmpL a b < 0) : rightL a = true ∧ rightL b = true := by
  cases ha : rightL a with
  | false => rw [cmp_no1 ha] at h; omega
  | true =>
    cases hb : rightL b with
    | false => rw [cmp_no2 hb] at h; omega
    | true => exact ⟨rfl, rfl⟩
theorem lt_ne {a b : List Int} (h : cmpL a b < 0) : b ≠ [] := by
  rintro rfl
  obtain ⟨ha, hb⟩ := lt_right h
  rw [cmp_yes ha hb] at h
  cases a with
  | nil => simp [sgn, lex, orI] at h
  | cons x r =>
    rcases sgn_cases ((x :: r).length : Nat) (([] : List Int).length : Nat) with ⟨h', e⟩ | ⟨h', e⟩ | ⟨h', e⟩
    · simp at h'; omega
    · simp at h'; omega
    · rw [e] at h; simp [orI] at h
theorem nil_lt {p : List Int} (hp : rightL p = true) (hn : p ≠ []) : cmpL [] p < 0 := by
  rw [cmp_yes right_nil hp]
  cases p with
  | nil => exact absurd rfl hn
  | cons x r =>
    rcases sgn_cases (([] : List Int).length : Nat) ((x :: r).length : Nat) with ⟨h', e⟩ | ⟨h', e⟩ | ⟨h', e⟩
    · rw [e]; simp [orI]
    · simp at h'; omega
    · simp at h'; omega
/-- The one ahead of place k. -/
def ahead (l : List (List Int)) (k : Nat) : List Int := if k = 0 then [] else l.getD (k - 1) []

theorem right13 (a pa : Option Addr) (c pc : Nat) (x : Lin) (w : World) (R : Bag w a c x.base) (P : Bags w pa pc x.ps) :
    Calls Try.prog 13 #[.agg #[.slice a x.base.length c, .slice pa x.ps.length pc]] w (TellsB (rightLin x) w) := by
  have hle := P.le
  obtain ⟨n, hn⟩ : ∃ n, n = x.base.length := ⟨_, rfl⟩
  obtain ⟨m, hm⟩ : ∃ m, m = x.ps.length := ⟨_, rfl⟩
  have HB0 : Hid (Below w.heap.size w (w.alloc (.cells #[.slice a n c, .slice pa m pc] 29))) := Lib.hid ((Below.refl _ _).alloc (Nat.le_refl _) _)
  have HX : Hid (Lies (w.alloc (.cells #[.slice a n c, .slice pa m pc] 29)) w.heap.size 29 [.slice a n c, .slice pa m pc]) := Lib.hid (Lies.new w _ _)
  have HS : Hid (w.heap.size < (w.alloc (.cells #[.slice a n c, .slice pa m pc] 29)).heap.size) := Lib.hid HX.out.lt
  have HR : Hid (Bag (w.alloc (.cells #[.slice a n c, .slice pa m pc] 29)) a c x.base) := Lib.hid (R.below HB0.out)
  have HP : Hid (Bags (w.alloc (.cells #[.slice a n c, .slice pa m pc] 29)) pa pc x.ps) := Lib.hid (P.below HB0.out)
  rw [← hm] at hle
  rw [← hn, ← hm]
  have HN := Lib.hid hn.symm
  have HM := Lib.hid hm.symm
  clear R P hn hm
  go_enter Try.func13, Try.ntmps13
  go_wp2_with (fail)
  generalize w.alloc (.cells #[.slice a n c, .slice pa m pc] 29) = W at HB0 HX HS HR HP ⊢
  generalize hg : w.heap.size = gb at HX HS ⊢
  have HG := Lib.hid hg
  clear hg
  have p0 : W.cell? ⟨gb, 0, none⟩ = some (.slice a n c) := HX.out.cell 0
  have p1 : W.cell? ⟨gb, 1, none⟩ = some (.slice pa m pc) := HX.out.cell 1
  go_wp2
  go_loopw [3, 9] (fun b i wr => ∃ (k : Nat) (ba : Option Addr) (bc : Nat), k ≤ m ∧ i = .int .i64 k ∧ b = .slice ba (ahead x.ps k).length bc ∧ Hid (Bag W ba bc (ahead x.ps k)) ∧ Hid (Below W.heap.size W wr) ∧ Hid (∀ j, j < k → rightL (x.ps.getD j []) = true ∧ x.ps.getD j [] ≠ [] ∧ (0 < j → cmpL (x.ps.getD (j - 1) []) (x.ps.getD j []) < 0))) (fun _ i _ => m - (intOf i).toNat)
  case atStart => exact ⟨0, none, 0, Nat.zero_le _, rfl, rfl, Lib.hid (Bag.nil _), Lib.hid (Below.refl _ _), Lib.hid (fun j h => by omega)⟩
  case round =>
    obtain ⟨k, ba, bc, hk, rfl, rfl, HA, HW, HE⟩ := hrel
    clear p0 p1
    have p0 : wr.cell? ⟨gb, 0, none⟩ = some (.slice a n c) := (HW.out.cell (p := ⟨gb, 0, none⟩) HS.out).trans (HX.out.cell 0)
    by_cases hlt : k < m
    · obtain ⟨g, b, d, rfl, hc, hbag⟩ := (HP.out.below HW.out).at (k := k) (by rw [HM.out]; exact hlt)
      have HK : Hid (Bag W b d (x.ps.getD k [])) := Lib.hid (by
        obtain ⟨g', b', d', eg, hc', hbag'⟩ := HP.out.at (k := k) (by rw [HM.out]; exact hlt)
        injection eg with eg
        injection eg with eg
        subst eg
        have h2 := (HW.out.cell (p := ⟨g, k, none⟩) (HP.out.lt rfl)).symm.trans hc
        rw [hc'] at h2
        injection h2 with h2
        injection h2 with e1 _ e3
        subst e1; subst e3
        exact hbag')
      have Z := cmp21 ba b bc d (ahead x.ps k) (x.ps.getD k []) wr (HA.out.below HW.out) hbag
      have hab := HA.out.le
      have hbl := hbag.le
      generalize hl1 : (ahead x.ps k).length = l1 at Z hab ⊢
      generalize hl2 : (x.ps.getD k []).length = l2 at Z hbl hc
      have HL2 := Lib.hid hl2
      have HZ := Lib.hid Z
      clear Z hbag hl1 hl2
      go_wp2_with (fail)
      refine HZ.out.mono ?_
      rintro e w2 ⟨rfl, b2⟩
      clear HZ
      have HW2 : Hid (Below W.heap.size W w2) := Lib.hid (HW.out.trans (b2.mono HW.out.size))
      clear b2
      generalize hv : cmpL (ahead x.ps k) (x.ps.getD k []) = v
      by_cases hneg : v < 0
      · have HV : Hid (cmpL (ahead x.ps k) (x.ps.getD k []) < 0) := Lib.hid (by rw [hv]; exact hneg)
        clear hv
        have hx1 : ¬ 0 ≤ v := by omega
        have HK2 : Hid (Bag W b d (ahead x.ps (k + 1))) := Lib.hid (by unfold ahead; simpa using HK.out)
        have HL3 : Hid (l2 = (ahead x.ps (k + 1)).length) := Lib.hid (by unfold ahead; simpa using HL2.out.symm)
        go_wp2
        go_roundw
        case rel => exact ⟨k + 1, b, d, by omega, by go_num, by rw [HL3.out], HK2, HW2, Lib.hid (fun j hj => by
          by_cases e : j = k
          · rw [e]
            exact ⟨(lt_right HV.out).2, lt_ne HV.out, fun h0 => by
              have := HV.out
              unfold ahead at this
              rwa [if_neg (by omega)] at this⟩
          · exact HE.out j (by omega))⟩
        case measure => simp [intOf]; omega
      · have E : Hid (rightLin x = false) := Lib.hid (by
          have := rises_bad (l := x.ps) (j := k) (by rw [HM.out]; exact hlt) (fun h => by
            by_cases h0 : k = 0
            · have := nil_lt h.1 h.2.1
              unfold ahead at hv
              rw [if_pos h0] at hv
              omega
            · have := h.2.2 (by omega)
              unfold ahead at hv
              rw [if_neg h0] at hv
              omega)
          simp [rightLin, this])
        clear hv
        have hx1 : 0 ≤ v := by omega
        go_wp2
        go_ret
        exact ⟨by rw [E.out]; rfl, HB0.out.trans (HW2.out.mono (by have := HS.out; have := HG.out; omega))⟩
    · have E : Hid (rightLin x = rightL x.base) := Lib.hid (by
        have := rises_at (l := x.ps) (fun j hj => HE.out j (by rw [HM.out] at hj; omega))
        simp [rightLin, this])
      have Z := right16 a c x.base wr (HR.out.below HW.out)
      rw [HN.out] at Z
      have HZ := Lib.hid Z
      clear Z
      go_wp2_with (fail)
      refine HZ.out.mono ?_
      rintro e w' ⟨rfl, rfl⟩
      go_wp2
      go_ret
      exact ⟨by rw [E.out]; try rfl, HB0.out.trans (HW.out.mono (by have := HS.out; have := HG.out; omega))⟩
end Go.Proofs.Ytmbkiefbchjofaa

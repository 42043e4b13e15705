/- The reference's RightLin. -/
import Derived.Test.YtmbkiefbchjofaaBb
namespace Go.Proofs.Ytmbkiefbchjofaa
open Go.ChangeShapes Go.WideShapes Go.ChangeAt Go.RowKit

def TellsB (b : Bool) (w : World) (e : Ending) (w' : World) : Prop := e = .returned (.bool b) ∧ Below w.heap.size w w'

theorem rightLin_any (a pa : Option Addr) (c pc : Nat) (x : Lin) (w : World) (R : Bag w a c x.base) (P : Bags w pa pc x.ps) :
    Calls Try.prog 14 #[.agg #[.slice a x.base.length c, .slice pa x.ps.length pc]] w (TellsB (rightLin x) w) := by
  have hle := P.le
  obtain ⟨n, hn⟩ : ∃ n, n = x.base.length := ⟨_, rfl⟩
  obtain ⟨m, hm⟩ : ∃ m, m = x.ps.length := ⟨_, rfl⟩
  have HB0 : Hid (Below w.heap.size w (w.alloc (.cells #[.slice a n c, .slice pa m pc] 29))) := Lib.hid ((Below.refl _ _).alloc (Nat.le_refl _) _)
  have HX : Hid (Lies (w.alloc (.cells #[.slice a n c, .slice pa m pc] 29)) w.heap.size 29 [.slice a n c, .slice pa m pc]) := Lib.hid (Lies.new w _ _)
  have HS : Hid (w.heap.size < (w.alloc (.cells #[.slice a n c, .slice pa m pc] 29)).heap.size) := Lib.hid HX.out.lt
  have HR : Hid (Bag (w.alloc (.cells #[.slice a n c, .slice pa m pc] 29)) a c x.base) := Lib.hid (R.below HB0.out)
  have HP : Hid (Bags (w.alloc (.cells #[.slice a n c, .slice pa m pc] 29)) pa pc x.ps) := Lib.hid (P.below HB0.out)
  rw [← hm] at hle
  rw [← hn, ← hm]
  have HN := Lib.hid hn.symm
  have HM := Lib.hid hm.symm
  clear R P hn hm
  go_enter Try.func14, Try.ntmps14
  go_wp2_with (fail)
  generalize w.alloc (.cells #[.slice a n c, .slice pa m pc] 29) = W at HB0 HX HS HR HP ⊢
  generalize hg : w.heap.size = gb at HX HS ⊢
  have HG := Lib.hid hg
  clear hg
  have p0 : W.cell? ⟨gb, 0, none⟩ = some (.slice a n c) := HX.out.cell 0
  have p1 : W.cell? ⟨gb, 1, none⟩ = some (.slice pa m pc) := HX.out.cell 1
  go_wp2_with (fail)
  have Z := right17 a c x.base W HR.out
  rw [HN.out] at Z
  refine Z.mono ?_
  rintro e w' ⟨rfl, rfl⟩
  clear Z
  cases hb : rightL x.base with
  | false =>
    have E : Hid (rightLin x = false) := Lib.hid (by simp [rightLin, hb])
    go_wp2
    go_ret
    exact ⟨by rw [E.out]; rfl, HG.out ▸ HB0.out⟩
  | true =>
    have HB := Lib.hid hb
    clear hb
    go_wp2
    go_loopw [12] (fun i wr => ∃ k : Nat, k ≤ m ∧ i = .int .i64 k ∧ Hid (Below W.heap.size W wr) ∧ Hid (∀ j, j < k → rightL (x.ps.getD j []) = true ∧ x.ps.getD j [] ≠ [] ∧ (0 < j → cmpL (x.ps.getD (j - 1) []) (x.ps.getD j []) < 0))) (fun i _ => m - (intOf i).toNat)
    case atStart => exact ⟨0, Nat.zero_le _, rfl, Lib.hid (Below.refl _ _), Lib.hid (fun j h => by omega)⟩
    case round =>
      obtain ⟨k, hk, rfl, HW, HE⟩ := hrel
      clear p0 p1
      have p1 : wr.cell? ⟨gb, 1, none⟩ = some (.slice pa m pc) := (HW.out.cell (p := ⟨gb, 1, none⟩) HS.out).trans (HX.out.cell 1)
      by_cases hlt : k < m
      · obtain ⟨g, b, d, rfl, hc, hbag⟩ := (HP.out.below HW.out).at (k := k) (by rw [HM.out]; exact hlt)
        have Z := right17 b d (x.ps.getD k []) wr hbag
        obtain ⟨l, hl⟩ : ∃ l, l = (x.ps.getD k []).length := ⟨_, rfl⟩
        rw [← hl] at hc Z
        have hll := hbag.le
        rw [← hl] at hll
        have HL := Lib.hid hl.symm
        have HK := Lib.hid hbag
        clear hl hbag
        have HZ := Lib.hid Z
        clear Z
        go_wp2_with (fail)
        refine HZ.out.mono ?_
        rintro e w' ⟨rfl, rfl⟩
        clear HZ
        cases hr : rightL (x.ps.getD k []) with
        | false =>
          have E : Hid (rightLin x = false) := Lib.hid (by
            have := rises_bad (l := x.ps) (j := k) (by rw [HM.out]; exact hlt) (fun h => by rw [hr] at h; exact absurd h.1 (by decide))
            simp [rightLin, this])
          clear hr
          go_wp2
          go_ret
          exact ⟨by rw [E.out]; rfl, HB0.out.trans (HW.out.mono (by have := HS.out; have := HG.out; omega))⟩
        | true =>
          have HRk := Lib.hid hr
          clear hr
          by_cases h0 : l = 0
          · subst h0
            have E : Hid (rightLin x = false) := Lib.hid (by
              have := rises_bad (l := x.ps) (j := k) (by rw [HM.out]; exact hlt) (fun h => h.2.1 (List.eq_nil_of_length_eq_zero HL.out))
              simp [rightLin, this])
            go_wp2
            go_ret
            exact ⟨by rw [E.out]; rfl, HB0.out.trans (HW.out.mono (by have := HS.out; have := HG.out; omega))⟩
          · have HNe : Hid (x.ps.getD k [] ≠ []) := Lib.hid (fun e => h0 (by rw [← HL.out, e]; rfl))
            by_cases hz : k = 0
            · subst hz
              go_wp2
              go_round
              case rel => exact ⟨1, by omega, by go_num, HW, Lib.hid (fun j hj => by
                obtain rfl : j = 0 := by omega
                exact ⟨HRk.out, HNe.out, fun h => by omega⟩)⟩
              case measure => simp [intOf]; omega
            · obtain ⟨g', b', d', eg, hc', hbag'⟩ := (HP.out.below HW.out).at (k := k - 1) (by rw [HM.out]; omega)
              injection eg with eg
              injection eg with eg
              subst eg
              have Z := cmp22 b' b d' d (x.ps.getD (k - 1) []) (x.ps.getD k []) wr hbag' HK.out
              obtain ⟨l', hl'⟩ : ∃ l', l' = (x.ps.getD (k - 1) []).length := ⟨_, rfl⟩
              have hll' := hbag'.le
              rw [← hl'] at hc' hll'
              rw [← hl', HL.out] at Z
              have HZ := Lib.hid Z
              clear Z hbag' hl'
              have hk1 : (k : Int) - 1 = ((k - 1 : Nat) : Int) := by omega
              go_wp2_with (fail)
              refine HZ.out.mono ?_
              rintro e w2 ⟨rfl, b2⟩
              clear HZ
              have HW2 : Hid (Below W.heap.size W w2) := Lib.hid (HW.out.trans (b2.mono HW.out.size))
              clear b2
              generalize hv : cmpL (x.ps.getD (k - 1) []) (x.ps.getD k []) = v
              by_cases hneg : v < 0
              · have HV := Lib.hid hv
                clear hv
                have hx1 : ¬ 0 ≤ v := by omega
                have hl0 : ((l : Int) == 0) = false := by simp; omega
                go_wp2
                go_round
                case rel => exact ⟨k + 1, by omega, by go_num, HW2, Lib.hid (fun j hj => by
                  by_cases e : j = k
                  · rw [e]; exact ⟨HRk.out, HNe.out, fun _ => by rw [HV.out]; exact hneg⟩
                  · exact HE.out j (by omega))⟩
                case measure => simp [intOf]; omega
              · have E : Hid (rightLin x = false) := Lib.hid (by
                  have := rises_bad (l := x.ps) (j := k) (by rw [HM.out]; exact hlt) (fun h => by have := h.2.2 (by omega); omega)
                  simp [rightLin, this])
                clear hv
                have hx1 : 0 ≤ v := by omega
                go_wp2
                go_ret
                exact ⟨by rw [E.out]; rfl, HB0.out.trans (HW2.out.mono (by have := HS.out; have := HG.out; omega))⟩
      · have E : Hid (rightLin x = true) := Lib.hid (by
          have := rises_at (l := x.ps) (fun j hj => HE.out j (by rw [HM.out] at hj; omega))
          simp [rightLin, this, HB.out])
        go_wp2
        go_ret
        exact ⟨by rw [E.out]; rfl, HB0.out.trans (HW.out.mono (by have := HS.out; have := HG.out; omega))⟩
end Go.Proofs.Ytmbkiefbchjofaa

/- The reference's SameLin. -/
import Derived.Test.YtmbkiefbchjofaaBd
namespace Go.Proofs.Ytmbkiefbchjofaa
open Go.ChangeShapes Go.WideShapes Go.ChangeAt Go.RowKit

theorem ext_bags {a b : List (List Int)} (hl : a.length = b.length) (h : ∀ j, j < a.length → a.getD j [] = b.getD j []) : a = b := by
  apply List.ext_getElem hl
  intro j h1 h2
  have := h j h1
  simpa [List.getD, h1, h2] using this
theorem sameL_iff {a b : List Int} : sameL a b = true ↔ a = b := by simp [sameL]

theorem sameLin_any (a pa a' pa' : Option Addr) (c pc c' pc' : Nat) (x y : Lin) (w : World) (R : Bag w a c x.base) (P : Bags w pa pc x.ps) (R' : Bag w a' c' y.base) (P' : Bags w pa' pc' y.ps) :
    Calls Try.prog 17 #[.agg #[.slice a x.base.length c, .slice pa x.ps.length pc], .agg #[.slice a' y.base.length c', .slice pa' y.ps.length pc']] w (TellsB (decide (x = y)) w) := by
  have hle := P.le
  have hle' := P'.le
  obtain ⟨n, hn⟩ : ∃ n, n = x.base.length := ⟨_, rfl⟩
  obtain ⟨m, hm⟩ : ∃ m, m = x.ps.length := ⟨_, rfl⟩
  obtain ⟨n', hn'⟩ : ∃ n, n = y.base.length := ⟨_, rfl⟩
  obtain ⟨m', hm'⟩ : ∃ m, m = y.ps.length := ⟨_, rfl⟩
  have HB1 : Hid (Below w.heap.size w (w.alloc (.cells #[.slice a n c, .slice pa m pc] 29))) := Lib.hid ((Below.refl _ _).alloc (Nat.le_refl _) _)
  have HX0 := Lies.new w 29 [.slice a n c, .slice pa m pc]
  have HB0 : Hid (Below w.heap.size w ((w.alloc (.cells #[.slice a n c, .slice pa m pc] 29)).alloc (.cells #[.slice a' n' c', .slice pa' m' pc'] 29))) := Lib.hid (HB1.out.alloc HB1.out.size _)
  have HX : Hid (Lies ((w.alloc (.cells #[.slice a n c, .slice pa m pc] 29)).alloc (.cells #[.slice a' n' c', .slice pa' m' pc'] 29)) w.heap.size 29 [.slice a n c, .slice pa m pc]) := Lib.hid (HX0.alloc _)
  have HY : Hid (Lies ((w.alloc (.cells #[.slice a n c, .slice pa m pc] 29)).alloc (.cells #[.slice a' n' c', .slice pa' m' pc'] 29)) (w.heap.size + 1) 29 [.slice a' n' c', .slice pa' m' pc']) := Lib.hid (by
    have := Lies.new (w.alloc (.cells #[.slice a n c, .slice pa m pc] 29)) 29 [.slice a' n' c', .slice pa' m' pc']
    simpa using this)
  have HR := Lib.hid (R.below HB0.out)
  have HP := Lib.hid (P.below HB0.out)
  have HR' := Lib.hid (R'.below HB0.out)
  have HP' := Lib.hid (P'.below HB0.out)
  rw [← hm] at hle
  rw [← hm'] at hle'
  rw [← hn, ← hm, ← hn', ← hm']
  have HN := Lib.hid hn.symm
  have HM := Lib.hid hm.symm
  have HN' := Lib.hid hn'.symm
  have HM' := Lib.hid hm'.symm
  clear R P R' P' hn hm hn' hm' HX0 HB1
  go_enter Try.func17, Try.ntmps17
  go_wp2_with (fail)
  have Z := sameBag_any a a' c c' x.base y.base _ HR.out HR'.out
  rw [HN.out, HN'.out] at Z
  generalize (w.alloc (.cells #[.slice a n c, .slice pa m pc] 29)).alloc (.cells #[.slice a' n' c', .slice pa' m' pc'] 29) = W at HB0 HX HY HR HP HR' HP' Z ⊢
  generalize hg : w.heap.size = gb at HX HY ⊢
  have HG := Lib.hid hg
  clear hg
  refine Z.mono ?_
  rintro e w' ⟨rfl, q, rfl⟩
  clear Z
  have p1 : (W.drewN q).cell? ⟨gb, 1, none⟩ = some (.slice pa m pc) := HX.out.cell 1
  have p2 : (W.drewN q).cell? ⟨gb + 1, 1, none⟩ = some (.slice pa' m' pc') := HY.out.cell 1
  cases hs : sameL x.base y.base with
  | false =>
    have E : Hid (decide (x = y) = false) := Lib.hid (by
      simp only [decide_eq_false_iff_not]
      rintro rfl
      rw [same_self] at hs
      cases hs)
    clear hs
    go_wp2
    go_ret
    exact ⟨by rw [E.out]; try rfl, (HB0.out).trans (below_drewN _ _ _)⟩
  | true =>
    have HE := Lib.hid (sameL_iff.1 hs)
    clear hs
    by_cases hl : m = m'
    · subst hl
      go_wp2
      go_loopw [24] (fun i wr => ∃ k q : Nat, k ≤ m ∧ i = .int .i64 k ∧ Hid (wr = W.drewN q) ∧ Hid (∀ j, j < k → x.ps.getD j [] = y.ps.getD j [])) (fun i _ => m - (intOf i).toNat)
      case atStart => exact ⟨0, q, Nat.zero_le _, rfl, Lib.hid rfl, Lib.hid (fun j h => by omega)⟩
      case round =>
        obtain ⟨k, q, hk, rfl, HQ, HK⟩ := hrel
        clear p1 p2
        have p1 : wr.cell? ⟨gb, 1, none⟩ = some (.slice pa m pc) := by rw [HQ.out]; exact HX.out.cell 1
        have p2 : wr.cell? ⟨gb + 1, 1, none⟩ = some (.slice pa' m pc') := by rw [HQ.out]; exact HY.out.cell 1
        by_cases hlt : k < m
        · obtain ⟨g, b, d, rfl, hc, hb⟩ := HP.out.at (k := k) (by rw [HM.out]; exact hlt)
          obtain ⟨g', b', d', rfl, hc', hb'⟩ := HP'.out.at (k := k) (by rw [HM'.out]; exact hlt)
          have Z : ∀ r, Calls Try.prog 43 #[.slice b (x.ps.getD k []).length d, .slice b' (y.ps.getD k []).length d'] (wr.drewN r) (fun e w' => e = .returned (.bool (sameL (x.ps.getD k []) (y.ps.getD k []))) ∧ ∃ m, w' = (wr.drewN r).drewN m) := fun r => by
            rw [HQ.out]
            exact sameBag_any b b' d d' _ _ _ ((hb.drewN q).drewN r) ((hb'.drewN q).drewN r)
          generalize hu : (x.ps.getD k []).length = u at hc Z
          generalize hu' : (y.ps.getD k []).length = u' at hc' Z
          have hbl := hb.le
          have hbl' := hb'.le
          rw [hu] at hbl
          rw [hu'] at hbl'
          clear hb hb' hu hu'
          have c1 : wr.cell? ⟨g, k, none⟩ = some (.slice b u d) := by rw [HQ.out]; exact hc
          have c2 : wr.cell? ⟨g', k, none⟩ = some (.slice b' u' d') := by rw [HQ.out]; exact hc'
          generalize hv : sameL (x.ps.getD k []) (y.ps.getD k []) = v at Z
          clear hc hc'
          cases v with
          | false =>
            have E : Hid (decide (x = y) = false) := Lib.hid (by
              simp only [decide_eq_false_iff_not]
              rintro rfl
              rw [same_self] at hv
              cases hv)
            clear hv
            go_wp2
            go_quiet ((go_at_call 43; exact Calls.quiet_of (Z _)))
            go_wp2
            go_ret
            exact ⟨by rw [E.out]; try rfl, by rw [HQ.out]; exact ((HB0.out).trans (below_drewN _ _ _)).trans (below_drewN _ _ _)⟩
          | true =>
            have HV := Lib.hid (sameL_iff.1 hv)
            clear hv
            go_wp2
            go_quiet ((go_at_call 43; exact Calls.quiet_of (Z _)))
            go_wp2
            go_roundw
            case rel => exact ⟨k + 1, _, by omega, by go_num, Lib.hid (by rw [HQ.out, World.drewN_drewN]), Lib.hid (fun j hj => by
              by_cases e : j = k
              · rw [e]; exact HV.out
              · exact HK.out j (by omega))⟩
            case measure => simp [intOf]; omega
        · have E : Hid (decide (x = y) = true) := Lib.hid (by
            have e2 := ext_bags (a := x.ps) (b := y.ps) (by rw [HM.out, HM'.out]) (fun j hj => HK.out j (by rw [HM.out] at hj; omega))
            have e1 := HE.out
            cases x; cases y
            simp_all)
          go_wp2
          go_ret
          exact ⟨by rw [E.out]; try rfl, by rw [HQ.out]; exact (HB0.out).trans (below_drewN _ _ _)⟩
    · have E : Hid (decide (x = y) = false) := Lib.hid (by
        simp only [decide_eq_false_iff_not]
        rintro rfl
        exact hl (HM.out.symm.trans HM'.out))
      go_wp2
      go_ret
      exact ⟨by rw [E.out]; try rfl, (HB0.out).trans (below_drewN _ _ _)⟩
end Go.Proofs.Ytmbkiefbchjofaa

/- The reference's put. -/
import Derived.Test.YtmbkiefbchjofaaDa
namespace Go.Proofs.Ytmbkiefbchjofaa
open Go.ChangeShapes Go.WideShapes Go.ChangeAt Go.RowKit

set_option maxHeartbeats 1000000 in
theorem put_nil (a' : Option Addr) (c' : Nat) (ys : List Int) (w : World) (R : Bag w a' c' ys) (hy : ys.length ≤ 1000) :
    Calls Try.prog 37 #[.slice none 0 0, .slice a' ys.length c'] w (MakesBs (putL ys []) w) := by
  have hle := R.le
  obtain ⟨a1, c1, w3, ab, cb, w4, a2, c2, w5, v6, w6, hr1, hr2, hr3, hr4, HF⟩ := put_runs none a' 0 c' 0 0 none [] ys w w (Below.refl _ _) (Bags.nil w) R (by simp) hy (by simp) (.inl ⟨rfl, rfl, rfl, rfl⟩) (by simp [putL])
  have HFin := Lib.hid HF
  clear HF R
  generalize ys.length = n at hle hr2 hr3 ⊢
  simp only [List.length_nil, Nat.sub_self, Nat.zero_add] at hr3 hr4
  go_enter Try.func37, Try.ntmps37
  go_wp2
  go_loop [5] (fun i => i = .int .i64 0) (fun _ => 0)
  case atStart => rfl
  case round =>
    obtain rfl := hrel
    go_wp2_with (at_builtin; first | refine Lib.wpList_append_run (o := ⟨some 39, _, _, _, _, _⟩) _ rfl _ _ _ _ rfl _ _ rfl rfl _ _ hr1 ?_ | refine Lib.wpList_append_run (o := ⟨some 42, _, _, _, _, _⟩) _ rfl _ _ _ _ rfl _ _ rfl rfl _ _ hr2 ?_ | refine Lib.wpList_append_run (o := ⟨some 44, _, _, _, _, _⟩) _ rfl _ _ _ _ rfl _ _ rfl rfl _ _ hr3 ?_ | refine Lib.wpList_append_run (o := ⟨some 49, _, _, _, _, _⟩) _ rfl _ _ _ _ rfl _ _ rfl rfl _ _ hr4 ?_)
    go_ret
    exact HFin.out

set_option maxRecDepth 100000 in
set_option maxHeartbeats 2000000 in
theorem put_some (g : Nat) (a' : Option Addr) (c c' : Nat) (xss : List (List Int)) (ys : List Int) (w : World) (P : Bags w (some ⟨g, 0, none⟩) c xss) (R : Bag w a' c' ys) (hx : xss.length ≤ 1000) (hy : ys.length ≤ 1000) :
    Calls Try.prog 37 #[.slice (some ⟨g, 0, none⟩) xss.length c, .slice a' ys.length c'] w (MakesBs (putL ys xss) w) := by
  have hle := P.le
  have hle' := R.le
  obtain ⟨m, hm⟩ : ∃ m, m = xss.length := ⟨_, rfl⟩
  obtain ⟨n, hn⟩ : ∃ n, n = ys.length := ⟨_, rfl⟩
  have hx' := hx
  rw [← hm] at hle hx' ⊢
  rw [← hn] at hle' ⊢
  have HM := Lib.hid hm.symm
  have HY := Lib.hid hn.symm
  have HP := Lib.hid P
  have HR := Lib.hid R
  clear hm hn P R
  go_enter Try.func37, Try.ntmps37
  go_wp2
  go_loopw [5] (fun i wr => ∃ k : Nat, k ≤ m ∧ i = .int .i64 k ∧ Hid (Below w.heap.size w wr) ∧ Hid (∀ j, j < k → cmpL (xss.getD j []) ys < 0)) (fun i _ => m - (intOf i).toNat)
  case atStart => exact ⟨0, Nat.zero_le _, rfl, Lib.hid (Below.refl _ _), Lib.hid (fun j h => by omega)⟩
  case round =>
    obtain ⟨k, hk, rfl, HW, HE⟩ := hrel
    by_cases hlt : k < m
    · obtain ⟨g', b, d, eg, hc, hbag⟩ := (HP.out.below HW.out).at (k := k) (by rw [HM.out]; exact hlt)
      injection eg with eg
      injection eg with eg
      subst eg
      have Z := cmp22 b a' d c' (xss.getD k []) ys wr hbag (HR.out.below HW.out)
      generalize hl : (xss.getD k []).length = l at hc Z
      have hll := hbag.le
      rw [hl] at hll
      rw [HY.out] at Z
      have HK := Lib.hid hbag
      have HL := Lib.hid hl
      have HZ := Lib.hid Z
      clear Z hbag hl
      go_wp2_with (fail)
      refine HZ.out.mono ?_
      rintro e w2 ⟨rfl, b2⟩
      clear HZ
      have hc2 : w2.cell? ⟨g, k, none⟩ = some (.slice b l d) := (b2.cell (p := ⟨g, k, none⟩) ((HP.out.below HW.out).lt rfl)).trans hc
      have HW2 : Hid (Below w.heap.size w w2) := Lib.hid (HW.out.trans (b2.mono HW.out.size))
      have HK2 := Lib.hid (HK.out.below b2)
      clear b2 hc
      generalize hv : cmpL (xss.getD k []) ys = v
      have HV := Lib.hid hv
      clear hv
      by_cases hneg : v < 0
      · go_wp2
        go_round
        case rel => exact ⟨k + 1, by omega, by go_num, HW2, Lib.hid (fun j hj => by
          by_cases e : j = k
          · rw [e, HV.out]; exact hneg
          · exact HE.out j (by omega))⟩
        case measure => simp [intOf]; omega
      · have HSP : Hid (spot ys xss = k) := Lib.hid (spot_of (by rw [HM.out]; exact hk) HE.out (fun _ => by rw [HV.out]; exact hneg))
        have Z := cmp22 b a' d c' (xss.getD k []) ys w2 HK2.out (HR.out.below HW2.out)
        rw [HY.out, HL.out, HV.out] at Z
        have HZ := Lib.hid Z
        clear Z
        go_wp2_with (fail)
        refine HZ.out.mono ?_
        rintro e w7 ⟨rfl, b2⟩
        clear HZ
        have HW7 : Hid (Below w.heap.size w w7) := Lib.hid (HW2.out.trans (b2.mono HW2.out.size))
        clear b2
        by_cases h0 : v = 0
        · have HPU : Hid (putL ys xss = xss) := Lib.hid (put_same (by rw [HSP.out, HM.out]; exact hlt) (by rw [HSP.out, HV.out]; exact h0))
          have HFin : Hid (MakesBs (putL ys xss) w (.returned (.slice (some ⟨g, 0, none⟩) m c)) w7) := Lib.hid ⟨_, _, by rw [HPU.out, HM.out], by rw [HPU.out]; exact HP.out.below HW7.out, HW7.out⟩
          subst h0
          go_wp2
          go_ret
          exact HFin.out
        · have HPU : Hid (putL ys xss = xss.take k ++ [ys] ++ xss.drop k) := Lib.hid (by
            have := put_new (b := ys) (l := xss) (fun h => by rw [HSP.out, HV.out]; exact h0)
            rwa [HSP.out] at this)
          have hkc : k < c := by omega
          clear hc2
          obtain ⟨a1, c1, w3, ab, cb, w4, a2, c2, w5, v6, w6, hr1, hr2, hr3, hr4, HF⟩ := put_runs (some ⟨g, 0, none⟩) a' c c' k (c - k) (some ⟨g, k, none⟩) xss ys w w7 HW7.out (HP.out.below HW7.out) (HR.out.below HW7.out) hx hy (by rw [HM.out]; exact hk) (.inr ⟨g, _, rfl, rfl, fun h => rfl⟩) HPU.out
          rw [HM.out] at hr4
          rw [HY.out] at hr2 hr3
          have HFin := Lib.hid HF
          clear HF
          go_wp2_with (at_builtin; first | refine Lib.wpList_append_run (o := ⟨some 39, _, _, _, _, _⟩) _ rfl _ _ _ _ rfl _ _ rfl rfl _ _ hr1 ?_ | refine Lib.wpList_append_run (o := ⟨some 42, _, _, _, _, _⟩) _ rfl _ _ _ _ rfl _ _ rfl rfl _ _ hr2 ?_ | refine Lib.wpList_append_run (o := ⟨some 44, _, _, _, _, _⟩) _ rfl _ _ _ _ rfl _ _ rfl rfl _ _ hr3 ?_ | refine Lib.wpList_append_run (o := ⟨some 49, _, _, _, _, _⟩) _ rfl _ _ _ _ rfl _ _ rfl rfl _ _ hr4 ?_)
          go_ret
          exact HFin.out
    · obtain rfl : k = m := by omega
      have HPU : Hid (putL ys xss = xss.take k ++ [ys] ++ xss.drop k) := Lib.hid (by
        have e := spot_of (b := ys) (l := xss) (k := k) (by rw [HM.out]; exact Nat.le_refl _) HE.out (fun h => by rw [HM.out] at h; omega)
        have := put_new (b := ys) (l := xss) (fun h => by rw [e, HM.out] at h; omega)
        rwa [e] at this)
      by_cases hkc : k < c
      · obtain ⟨a1, c1, w3, ab, cb, w4, a2, c2, w5, v6, w6, hr1, hr2, hr3, hr4, HF⟩ := put_runs (some ⟨g, 0, none⟩) a' c c' k (c - k) (some ⟨g, k, none⟩) xss ys w wr HW.out (HP.out.below HW.out) (HR.out.below HW.out) hx hy (by rw [HM.out]; exact hk) (.inr ⟨g, _, rfl, rfl, fun h => rfl⟩) HPU.out
        rw [HM.out] at hr4
        rw [HY.out] at hr2 hr3
        have HFin := Lib.hid HF
        clear HF
        rw [Nat.sub_self] at hr4
        go_wp2_with (at_builtin; first | refine Lib.wpList_append_run (o := ⟨some 39, _, _, _, _, _⟩) _ rfl _ _ _ _ rfl _ _ rfl rfl _ _ hr1 ?_ | refine Lib.wpList_append_run (o := ⟨some 42, _, _, _, _, _⟩) _ rfl _ _ _ _ rfl _ _ rfl rfl _ _ hr2 ?_ | refine Lib.wpList_append_run (o := ⟨some 44, _, _, _, _, _⟩) _ rfl _ _ _ _ rfl _ _ rfl rfl _ _ hr3 ?_ | refine Lib.wpList_append_run (o := ⟨some 49, _, _, _, _, _⟩) _ rfl _ _ _ _ rfl _ _ rfl rfl _ _ hr4 ?_)
        go_ret
        exact HFin.out
      · obtain rfl : k = c := by omega
        obtain ⟨a1, c1, w3, ab, cb, w4, a2, c2, w5, v6, w6, hr1, hr2, hr3, hr4, HF⟩ := put_runs (some ⟨g, 0, none⟩) a' k c' k 0 (some ⟨g, 0, none⟩) xss ys w wr HW.out (HP.out.below HW.out) (HR.out.below HW.out) hx hy (by rw [HM.out]; exact hk) (.inr ⟨g, _, rfl, rfl, fun h => by rw [HM.out] at h; omega⟩) HPU.out
        rw [HM.out] at hr4
        rw [HY.out] at hr2 hr3
        have HFin := Lib.hid HF
        clear HF
        rw [Nat.sub_self] at hr4
        go_wp2_with (at_builtin; first | refine Lib.wpList_append_run (o := ⟨some 39, _, _, _, _, _⟩) _ rfl _ _ _ _ rfl _ _ rfl rfl _ _ hr1 ?_ | refine Lib.wpList_append_run (o := ⟨some 42, _, _, _, _, _⟩) _ rfl _ _ _ _ rfl _ _ rfl rfl _ _ hr2 ?_ | refine Lib.wpList_append_run (o := ⟨some 44, _, _, _, _, _⟩) _ rfl _ _ _ _ rfl _ _ rfl rfl _ _ hr3 ?_ | refine Lib.wpList_append_run (o := ⟨some 49, _, _, _, _, _⟩) _ rfl _ _ _ _ rfl _ _ rfl rfl _ _ hr4 ?_)
        go_ret
        exact HFin.out

theorem put_any (a a' : Option Addr) (c c' : Nat) (xss : List (List Int)) (ys : List Int) (w : World) (P : Bags w a c xss) (R : Bag w a' c' ys) (hx : xss.length ≤ 1000) (hy : ys.length ≤ 1000) :
    Calls Try.prog 37 #[.slice a xss.length c, .slice a' ys.length c'] w (MakesBs (putL ys xss) w) := by
  have P' := P
  obtain ⟨ps, rfl, hr, _⟩ := P'
  rcases hr with ⟨rfl, rfl, h⟩ | ⟨g, _, rfl, _⟩
  · obtain rfl : ps = [] := List.map_eq_nil_iff.1 h
    exact put_nil a' c' ys w R hy
  · exact put_some g a' c c' _ ys w P R hx hy
end Go.Proofs.Ytmbkiefbchjofaa

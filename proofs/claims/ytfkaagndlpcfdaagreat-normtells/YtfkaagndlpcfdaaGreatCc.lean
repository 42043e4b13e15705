/- The program's Compare of linear sets: cmp.Or of three, slices.CompareFunc; Point; the example. -/
import Derived.Test.YtfkaagndlpcfdaaGreatC
import Derived.Deep.RegionHeld3
namespace Go.Proofs.YtfkaagndlpcfdaaGreat
open Go.ChangeShapes Go.WideShapes Go.ChangeAt Go.RowKit

/-- The first that is not 0. -/
def orL : List Int → Int
  | [] => 0
  | x :: r => orI x (orL r)
theorem orL_step {zs : List Int} {k : Nat} (hk : k < zs.length) : orL (zs.drop k) = orI (zs.getD k 0) (orL (zs.drop (k + 1))) := by
  rw [List.drop_eq_getElem_cons hk, getD_at hk]; rfl
theorem or_any (a : Option Addr) (c : Nat) (zs : List Int) (w : World) (R : Bag w a c zs) :
    Calls Tryz.prog 77 #[.slice a zs.length c] w fun e w' => e = .returned (.int .i64 (orL zs)) ∧ w = w' := by
  have hle := R.le
  obtain ⟨n, hn⟩ : ∃ n, n = zs.length := ⟨_, rfl⟩
  rw [← hn] at hle ⊢
  have HN := Lib.hid hn.symm
  have HR := Lib.hid R
  clear hn R
  go_enter Tryz.func77, Tryz.ntmps77
  go_wp2
  go_loop [8] (fun i => ∃ k : Nat, k ≤ n ∧ i = .int .i64 k ∧ Hid (orL zs = orL (zs.drop k))) (fun i => n - (intOf i).toNat)
  case atStart => exact ⟨0, Nat.zero_le _, rfl, Lib.hid rfl⟩
  case round =>
    obtain ⟨k, hk, rfl, HE⟩ := hrel
    by_cases hlt : k < n
    · obtain ⟨g, rfl, hc⟩ := HR.out.at (k := k) (by rw [HN.out]; exact hlt)
      have st := HE.out.trans (orL_step (zs := zs) (k := k) (by rw [HN.out]; exact hlt))
      by_cases h0 : zs.getD k 0 = 0
      · have HK : Hid (orL zs = orL (zs.drop (k + 1))) := Lib.hid (by rw [st, h0]; rfl)
        rw [h0] at hc
        clear h0 st
        go_wp2
        go_round
        case rel => exact ⟨k + 1, by omega, by go_num, HK⟩
        case measure => simp [intOf]; omega
      · have HK : Hid (orL zs = zs.getD k 0) := Lib.hid (by rw [st]; unfold orI; rw [if_neg h0])
        clear st
        generalize zs.getD k 0 = z at hc h0 HK
        go_wp2
        go_ret
        exact ⟨by rw [HK.out]; try rfl, rfl⟩
    · go_wp2
      go_ret
      exact ⟨by rw [HE.out, List.drop_eq_nil_of_le (by rw [HN.out]; omega)]; rfl, rfl⟩

/-- By the first that are unlike; the shorter one first. -/
def lexPs : List (List Int) → List (List Int) → Int
  | [], [] => 0
  | [], _ :: _ => -1
  | _ :: _, [] => 1
  | x :: r, y :: s => orI (cmpL x y) (lexPs r s)
theorem lexPs_step {a b : List (List Int)} {k : Nat} (h1 : k < a.length) (h2 : k < b.length) : lexPs (a.drop k) (b.drop k) = orI (cmpL (a.getD k []) (b.getD k [])) (lexPs (a.drop (k + 1)) (b.drop (k + 1))) := by
  rw [List.drop_eq_getElem_cons h1, List.drop_eq_getElem_cons h2]
  simp [lexPs, List.getD, h1, h2]
theorem lexPs_one {a b : List (List Int)} {k : Nat} (h1 : k < a.length) (h2 : b.length ≤ k) : lexPs (a.drop k) (b.drop k) = 1 := by
  rw [List.drop_eq_getElem_cons h1, List.drop_eq_nil_of_le h2]; rfl
theorem lexPs_two {a b : List (List Int)} {k : Nat} (h1 : a.length ≤ k) (h2 : k < b.length) : lexPs (a.drop k) (b.drop k) = -1 := by
  rw [List.drop_eq_getElem_cons h2, List.drop_eq_nil_of_le h1]; rfl
theorem lexPs_end {a b : List (List Int)} {k : Nat} (h1 : a.length ≤ k) (h2 : b.length ≤ k) : lexPs (a.drop k) (b.drop k) = 0 := by
  rw [List.drop_eq_nil_of_le h2, List.drop_eq_nil_of_le h1]; rfl
theorem lexPs_eq : ∀ {a b : List (List Int)}, a.length = b.length → lexPs a b = cmpPs a b
  | [], [], _ => rfl
  | [], _ :: _, h => by simp at h
  | _ :: _, [], h => by simp at h
  | x :: r, y :: s, h => by simp [lexPs, cmpPs, lexPs_eq (a := r) (b := s) (by simpa using h)]
theorem cmpLin_or {x y : Lin} (hx : rightLin x = true) (hy : rightLin y = true) : cmpLin x y = orL [cmpL x.base y.base, sgn x.ps.length y.ps.length, lexPs x.ps y.ps] := by
  simp only [cmpLin, hx, hy, Bool.and_self, if_true, orL]
  rcases sgn_cases x.ps.length y.ps.length with ⟨h, e⟩ | ⟨h, e⟩ | ⟨h, e⟩
  · rw [e]; simp [orI]
  · rw [e, lexPs_eq (by omega)]
    generalize cmpPs x.ps y.ps = q
    unfold orI
    by_cases q0 : q = 0 <;> simp [q0]
  · rw [e]; simp [orI]
theorem cmpLin_no1 {x y : Lin} (hx : rightLin x = false) : cmpLin x y = 0 := by simp [cmpLin, hx]
theorem cmpLin_no2 {x y : Lin} (hy : rightLin y = false) : cmpLin x y = 0 := by simp [cmpLin, hy]

set_option maxHeartbeats 1000000 in
theorem cmpFunc (a b : Option Addr) (c d : Nat) (xs ys : List (List Int)) (w : World) (R : Bags w a c xs) (S : Bags w b d ys) :
    Calls Tryz.prog 79 #[.slice a xs.length c, .slice b ys.length d, .func (.func 70) #[] #[]] w (Tells (lexPs xs ys) w) := by
  have hle := R.le
  have hle' := S.le
  obtain ⟨l, hl⟩ : ∃ l, l = xs.length := ⟨_, rfl⟩
  obtain ⟨m, hm⟩ : ∃ m, m = ys.length := ⟨_, rfl⟩
  rw [← hl] at hle ⊢
  rw [← hm] at hle' ⊢
  have HL := Lib.hid hl.symm
  have HM := Lib.hid hm.symm
  have HR := Lib.hid R
  have HS := Lib.hid S
  clear hl hm R S
  go_enter Tryz.func79, Tryz.ntmps79
  go_wp2
  go_loopw [13] (fun i wr => ∃ k : Nat, k ≤ l ∧ i = .int .i64 k ∧ Hid (Below w.heap.size w wr) ∧ Hid (lexPs xs ys = lexPs (xs.drop k) (ys.drop k))) (fun i _ => l - (intOf i).toNat)
  case atStart => exact ⟨0, Nat.zero_le _, rfl, Lib.hid (Below.refl _ _), Lib.hid rfl⟩
  case round =>
    obtain ⟨k, hk, rfl, HW, HE⟩ := hrel
    by_cases hlt : k < l
    · obtain ⟨g, b1, d1, rfl, hc, hb1⟩ := (HR.out.below HW.out).at (k := k) (by rw [HL.out]; exact hlt)
      by_cases hkm : k < m
      · obtain ⟨g2, b2, d2, rfl, hc2, hb2⟩ := (HS.out.below HW.out).at (k := k) (by rw [HM.out]; exact hkm)
        have Z := cmp21 b1 b2 d1 d2 (xs.getD k []) (ys.getD k []) wr hb1 hb2
        have hl1 := hb1.le
        have hl2 := hb2.le
        have HT := Lib.hid (HE.out.trans (lexPs_step (a := xs) (b := ys) (k := k) (by rw [HL.out]; exact hlt) (by rw [HM.out]; exact hkm)))
        generalize (xs.getD k []).length = n1 at Z hl1 hc
        generalize (ys.getD k []).length = n2 at Z hl2 hc2
        have HZ := Lib.hid Z
        clear Z hb1 hb2
        go_wp2_with (fail)
        refine HZ.out.mono ?_
        rintro e w2 ⟨rfl, bel⟩
        clear HZ
        have HW2 : Hid (Below w.heap.size w w2) := Lib.hid (HW.out.trans (bel.mono HW.out.size))
        clear bel
        generalize cmpL (xs.getD k []) (ys.getD k []) = v at HT ⊢
        by_cases h0 : v = 0
        · have HK : Hid (lexPs xs ys = lexPs (xs.drop (k + 1)) (ys.drop (k + 1))) := Lib.hid (by rw [HT.out, h0]; rfl)
          rw [h0]
          clear h0 HT
          go_wp2
          go_roundw
          case rel => exact ⟨k + 1, by omega, by go_num, HW2, HK⟩
          case measure => simp [intOf]; omega
        · have HK : Hid (lexPs xs ys = v) := Lib.hid (by rw [HT.out]; unfold orI; rw [if_neg h0])
          clear HT
          go_wp2
          go_ret
          exact ⟨by rw [HK.out]; try rfl, HW2.out⟩
      · have HK := Lib.hid (HE.out.trans (lexPs_one (a := xs) (b := ys) (k := k) (by rw [HL.out]; exact hlt) (by rw [HM.out]; omega)))
        generalize (xs.getD k []).length = n1 at hc
        clear hb1
        go_wp2
        go_ret
        exact ⟨by rw [HK.out]; rfl, HW.out⟩
    · by_cases hlm : l < m
      · have H := Lib.hid (HE.out.trans (lexPs_two (a := xs) (b := ys) (k := k) (by rw [HL.out]; omega) (by rw [HM.out]; omega)))
        go_wp2
        go_ret
        exact ⟨by rw [H.out]; rfl, HW.out⟩
      · have H := Lib.hid (HE.out.trans (lexPs_end (a := xs) (b := ys) (k := k) (by rw [HL.out]; omega) (by rw [HM.out]; omega)))
        go_wp2
        go_ret
        exact ⟨by rw [H.out]; rfl, HW.out⟩
end Go.Proofs.YtfkaagndlpcfdaaGreat

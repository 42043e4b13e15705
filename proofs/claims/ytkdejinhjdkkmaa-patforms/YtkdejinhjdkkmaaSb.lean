/- PatMany's walk: patterns of as many nodes as may be, and one more; no condition. -/
import Derived.Test.YtkdejinhjdkkmaaSa
namespace Go.Proofs.Ytkdejinhjdkkmaa
open Go.ChangeShapes Go.WideShapes Go.ChangeAt Go.RowKit Go.Maps

def manyT (r : Nat) : Nat → Txt
  | 0 => [97]
  | k + 1 => manyT r k ++ ([32, 43, 32] ++ namesL.getD ((r + k + 1) % 4) [])
theorem many1e_0 : (parseT keysL namesL (manyT 0 11)).1 = 0 := by kernel_rfl
theorem many1n_0 : (parseT keysL namesL (manyT 0 11)).2.length = 23 := by kernel_rfl
theorem many1e_1 : (parseT keysL namesL (manyT 1 11)).1 = 0 := by kernel_rfl
theorem many1n_1 : (parseT keysL namesL (manyT 1 11)).2.length = 23 := by kernel_rfl
theorem many1e_2 : (parseT keysL namesL (manyT 2 11)).1 = 0 := by kernel_rfl
theorem many1n_2 : (parseT keysL namesL (manyT 2 11)).2.length = 23 := by kernel_rfl
theorem many1e_3 : (parseT keysL namesL (manyT 3 11)).1 = 0 := by kernel_rfl
theorem many1n_3 : (parseT keysL namesL (manyT 3 11)).2.length = 23 := by kernel_rfl
theorem many1_all (r : Nat) (h : r < 4) : (parseT keysL namesL (manyT r 11)).2.length = 23 ∧ (parseT keysL namesL (manyT r 11)).1 = 0 := by
  match r, h with
  | 0, _ => exact ⟨many1n_0, many1e_0⟩
  | 1, _ => exact ⟨many1n_1, many1e_1⟩
  | 2, _ => exact ⟨many1n_2, many1e_2⟩
  | 3, _ => exact ⟨many1n_3, many1e_3⟩
theorem many2e_0 : (parseT keysL namesL ([42, 40] ++ manyT 0 11 ++ [41])).1 = 0 := by kernel_rfl
theorem many2n_0 : (parseT keysL namesL ([42, 40] ++ manyT 0 11 ++ [41])).2.length = 24 := by kernel_rfl
theorem many2e_1 : (parseT keysL namesL ([42, 40] ++ manyT 1 11 ++ [41])).1 = 0 := by kernel_rfl
theorem many2n_1 : (parseT keysL namesL ([42, 40] ++ manyT 1 11 ++ [41])).2.length = 24 := by kernel_rfl
theorem many2e_2 : (parseT keysL namesL ([42, 40] ++ manyT 2 11 ++ [41])).1 = 0 := by kernel_rfl
theorem many2n_2 : (parseT keysL namesL ([42, 40] ++ manyT 2 11 ++ [41])).2.length = 24 := by kernel_rfl
theorem many2e_3 : (parseT keysL namesL ([42, 40] ++ manyT 3 11 ++ [41])).1 = 0 := by kernel_rfl
theorem many2n_3 : (parseT keysL namesL ([42, 40] ++ manyT 3 11 ++ [41])).2.length = 24 := by kernel_rfl
theorem many2_all (r : Nat) (h : r < 4) : (parseT keysL namesL ([42, 40] ++ manyT r 11 ++ [41])).2.length = 24 ∧ (parseT keysL namesL ([42, 40] ++ manyT r 11 ++ [41])).1 = 0 := by
  match r, h with
  | 0, _ => exact ⟨many2n_0, many2e_0⟩
  | 1, _ => exact ⟨many2n_1, many2e_1⟩
  | 2, _ => exact ⟨many2n_2, many2e_2⟩
  | 3, _ => exact ⟨many2n_3, many2e_3⟩
theorem many3e_0 : (parseT keysL namesL (manyT 0 11 ++ [32, 46, 32, 98])).1 = 3 := by kernel_rfl
theorem many3n_0 : (parseT keysL namesL (manyT 0 11 ++ [32, 46, 32, 98])).2.length = 0 := by kernel_rfl
theorem many3e_1 : (parseT keysL namesL (manyT 1 11 ++ [32, 46, 32, 98])).1 = 3 := by kernel_rfl
theorem many3n_1 : (parseT keysL namesL (manyT 1 11 ++ [32, 46, 32, 98])).2.length = 0 := by kernel_rfl
theorem many3e_2 : (parseT keysL namesL (manyT 2 11 ++ [32, 46, 32, 98])).1 = 3 := by kernel_rfl
theorem many3n_2 : (parseT keysL namesL (manyT 2 11 ++ [32, 46, 32, 98])).2.length = 0 := by kernel_rfl
theorem many3e_3 : (parseT keysL namesL (manyT 3 11 ++ [32, 46, 32, 98])).1 = 3 := by kernel_rfl
theorem many3n_3 : (parseT keysL namesL (manyT 3 11 ++ [32, 46, 32, 98])).2.length = 0 := by kernel_rfl
theorem many3_all (r : Nat) (h : r < 4) : (parseT keysL namesL (manyT r 11 ++ [32, 46, 32, 98])).2.length = 0 ∧ (parseT keysL namesL (manyT r 11 ++ [32, 46, 32, 98])).1 = 3 := by
  match r, h with
  | 0, _ => exact ⟨many3n_0, many3e_0⟩
  | 1, _ => exact ⟨many3n_1, many3e_1⟩
  | 2, _ => exact ⟨many3n_2, many3e_2⟩
  | 3, _ => exact ⟨many3n_3, many3e_3⟩
theorem str_app (a b : Txt) : str a ++ str b = str (a ++ b) := by
  unfold str
  apply ByteArray.ext
  simp
theorem many_size (r : Nat) (k : Nat) : (manyT r k).length ≤ 1 + 6 * k := by
  induction k with
  | zero => simp [manyT]
  | succ k ih =>
    have : ∀ m, m < 4 → (namesL.getD m []).length ≤ 3 := by decide
    have := this ((r + k + 1) % 4) (Nat.mod_lt _ (by omega))
    simp only [manyT, List.length_append, List.length_cons, List.length_nil]
    omega
theorem names_get (m : Nat) (h : m < namesL.length) : namesL[m] = namesL.getD m [] := by simp [List.getD_eq_getElem?_getD, List.getElem?_eq_getElem h]
theorem wrap_bounds (x : Int) : -9223372036854775808 ≤ wrap64 x ∧ wrap64 x ≤ 9223372036854775807 := by unfold wrap64; omega
theorem many_mod (n : Int) (j : Nat) (v : Int) (h : v = wrap64 (n + ((j : Int) + 1))) : v % 4 = (((n % 4).toNat + j + 1) % 4 : Nat) := by
  subst h
  unfold wrap64
  omega

set_option maxRecDepth 100000 in
set_option maxHeartbeats 8000000 in
theorem many_walk (n : Int) (w : World) : Calls Try.prog 6 #[.int .i64 n] w (True_ w) := by
  obtain ⟨r, hr⟩ : ∃ r, r = (n % 4).toNat := ⟨_, rfl⟩
  have hr4 : r < 4 := by omega
  have HR := Lib.hid hr
  clear hr
  go_enter Try.func6, Try.ntmps6
  go_wp2_with (fail)
  go_loopw [3, 4] (fun s i wr => ∃ j : Nat, j ≤ 11 ∧ i = .int .i64 ((j : Int) + 1) ∧ s = .string (str (manyT r j)) ∧ Hid (Below w.heap.size w wr)) (fun _ i _ => 12 - (intOf i).toNat)
  case atStart => exact ⟨0, by omega, rfl, rfl, Lib.hid (Below.refl _ _)⟩
  case round =>
    obtain ⟨j, hj, rfl, rfl, HB⟩ := hrel
    by_cases hlt : j < 11
    · have hz := many_size r j
      have hsz : (str (manyT r j)).size ≤ 200 := by rw [str_size]; omega
      have HT : Hid (manyT r (j + 1) = manyT r j ++ ([32, 43, 32] ++ namesL.getD ((r + j + 1) % 4) [])) := Lib.hid rfl
      go_wp2_with (fail)
      refine (names_any _).mono ?_
      rintro e w1 ⟨g, rfl, L, b⟩
      have HB1 : Hid (Below w.heap.size w w1) := Lib.hid (HB.out.trans (b.mono HB.out.size))
      have HL := Lib.hid L
      clear L b
      go_wp2_with (fail)
      obtain ⟨v, hv⟩ : ∃ v, v = wrap64 (n + ((j : Int) + 1)) := ⟨_, rfl⟩
      have hvb := wrap_bounds (n + ((j : Int) + 1))
      rw [← hv] at hvb ⊢
      have hmod := many_mod n j v hv
      rw [← HR.out] at hmod
      have HV := Lib.hid hv
      clear hv
      have C := within_mod v 4 w1 (by omega) (by omega) hvb.1 hvb.2
      rw [show ((4 : Nat) : Int) = 4 from rfl, hmod] at C
      have hm4 : (r + j + 1) % 4 < 4 := Nat.mod_lt _ (by omega)
      generalize (r + j + 1) % 4 = m at *
      have C := Lib.hid C
      clear hmod hvb
      refine C.out.mono ?_
      rintro e w2 ⟨rfl, rfl⟩
      have hml : m < namesL.length := hm4
      have hc := there_str HL.out hml
      rw [names_get m hml] at hc
      have hn3 : (namesL.getD m []).length ≤ 3 := by
        have : ∀ m, m < 4 → (namesL.getD m []).length ≤ 3 := by decide
        exact this m hm4
      have hl4 : namesL.length = 4 := rfl
      rw [hl4]
      have hsz2 : (str (namesL.getD m [])).size ≤ 3 := by rw [str_size]; exact hn3
      have HST : Hid (str (manyT r j) ++ (str [32, 43, 32] ++ str (namesL.getD m [])) = str (manyT r (j + 1))) := Lib.hid (by rw [str_app, str_app, HT.out])
      generalize str (namesL.getD m []) = y at hc hsz2 HST
      generalize str (manyT r j) = x at hsz HST ⊢
      clear hn3 hl4 hml HL C
      go_wp2
      go_roundw
      case rel => exact ⟨j + 1, by omega, by go_num, by rw [← HST.out]; rfl, HB1⟩
      case measure => simp [intOf]; omega
    · obtain rfl : j = 11 := by omega
      have hz := many_size r 11
      have hnl : ∀ x ∈ namesL, x.length ≤ maxLen := by unfold maxLen; decide
      have hl4 : namesL.length = 4 := rfl
      have C1 : Hid (∀ W g, Lies W g 9 (strs namesL) → Calls Try.prog 16 #[.string (str (manyT r 11)), .slice (some ⟨g, 0, none⟩) 4 4] W (Parses (parseT keysL namesL (manyT r 11)) W)) := Lib.hid (fun W g L =>
        parse_lit _ namesL _ 4 W (by omega) (strs_of L) (by decide) hnl)
      have C2 : Hid (∀ W g, Lies W g 9 (strs namesL) → Calls Try.prog 16 #[.string (⟨#[42, 40]⟩ ++ str (manyT r 11) ++ ⟨#[41]⟩), .slice (some ⟨g, 0, none⟩) 4 4] W (Parses (parseT keysL namesL ([42, 40] ++ manyT r 11 ++ [41])) W)) := Lib.hid (fun W g L => by
        show Calls Try.prog 16 #[.string (str [42, 40] ++ str (manyT r 11) ++ str [41]), .slice (some ⟨g, 0, none⟩) 4 4] W _
        rw [str_app, str_app]; exact parse_lit _ namesL _ 4 W (by simp; omega) (strs_of L) (by decide) hnl)
      have C3 : Hid (∀ W g, Lies W g 9 (strs namesL) → Calls Try.prog 16 #[.string (str (manyT r 11) ++ ⟨#[32, 46, 32, 98]⟩), .slice (some ⟨g, 0, none⟩) 4 4] W (Parses (parseT keysL namesL (manyT r 11 ++ [32, 46, 32, 98])) W)) := Lib.hid (fun W g L => by
        show Calls Try.prog 16 #[.string (str (manyT r 11) ++ str [32, 46, 32, 98]), .slice (some ⟨g, 0, none⟩) 4 4] W _
        rw [str_app]; exact parse_lit _ namesL _ 4 W (by simp; omega) (strs_of L) (by decide) hnl)
      have R1 : Hid ((parseT keysL namesL (manyT r 11)).2.length = 23 ∧ (parseT keysL namesL (manyT r 11)).1 = 0) := Lib.hid (many1_all r hr4)
      have R2 : Hid ((parseT keysL namesL ([42, 40] ++ manyT r 11 ++ [41])).2.length = 24 ∧ (parseT keysL namesL ([42, 40] ++ manyT r 11 ++ [41])).1 = 0) := Lib.hid (many2_all r hr4)
      have R3 : Hid ((parseT keysL namesL (manyT r 11 ++ [32, 46, 32, 98])).2.length = 0 ∧ (parseT keysL namesL (manyT r 11 ++ [32, 46, 32, 98])).1 = 3) := Lib.hid (many3_all r hr4)
      generalize parseT keysL namesL (manyT r 11) = p1 at C1 R1
      generalize parseT keysL namesL ([42, 40] ++ manyT r 11 ++ [41]) = p2 at C2 R2
      generalize parseT keysL namesL (manyT r 11 ++ [32, 46, 32, 98]) = p3 at C3 R3
      have hsz : (str (manyT r 11)).size ≤ 200 := by rw [str_size]; omega
      generalize str (manyT r 11) = x at *
      have HBx := HB
      clear HB hz hnl
      go_wp2_with (fail)
      refine (names_any _).mono ?_
      rintro e W1 ⟨g1, rfl, L1, b1⟩
      have HL1 := Lib.hid L1
      have HB1 : Hid (Below w.heap.size w W1) := Lib.hid (HBx.out.trans (b1.mono HBx.out.size))
      clear L1 b1 HBx
      rw [hl4]
      go_wp2_with (fail)
      with_reducible refine (C1.out W1 g1 HL1.out).mono ?_
      rintro e V1 ⟨a1, c1, rfl, T1, o1, d1⟩
      rw [R1.out.1, R1.out.2]
      have HBx : Hid (Below w.heap.size w V1) := Lib.hid (HB1.out.trans (d1.mono HB1.out.size))
      clear T1 o1 d1 C1 HL1 HB1
      go_wp2_with (fail)
      refine (names_any _).mono ?_
      rintro e W2 ⟨g2, rfl, L2, b2⟩
      have HL2 := Lib.hid L2
      have HB2 : Hid (Below w.heap.size w W2) := Lib.hid (HBx.out.trans (b2.mono HBx.out.size))
      clear L2 b2 HBx
      rw [hl4]
      go_wp2_with (fail)
      with_reducible refine (C2.out W2 g2 HL2.out).mono ?_
      rintro e V2 ⟨a2, c2, rfl, T2, o2, d2⟩
      rw [R2.out.1, R2.out.2]
      have HBx : Hid (Below w.heap.size w V2) := Lib.hid (HB2.out.trans (d2.mono HB2.out.size))
      clear T2 o2 d2 C2 HL2 HB2
      go_wp2_with (fail)
      refine (names_any _).mono ?_
      rintro e W3 ⟨g3, rfl, L3, b3⟩
      have HL3 := Lib.hid L3
      have HB3 : Hid (Below w.heap.size w W3) := Lib.hid (HBx.out.trans (b3.mono HBx.out.size))
      clear L3 b3 HBx
      rw [hl4]
      go_wp2_with (fail)
      with_reducible refine (C3.out W3 g3 HL3.out).mono ?_
      rintro e V3 ⟨a3, c3, rfl, T3, o3, d3⟩
      rw [R3.out.1, R3.out.2]
      have HBx : Hid (Below w.heap.size w V3) := Lib.hid (HB3.out.trans (d3.mono HB3.out.size))
      clear T3 o3 d3 C3 HL3 HB3
      go_wp2_with (fail)
      refine (wakes_any _).mono ?_
      rintro e V4 ⟨rfl, d4⟩
      have HB4 : Hid (Below w.heap.size w V4) := Lib.hid (HBx.out.trans (d4.mono HBx.out.size))
      clear d4
      go_wp2
      go_ret
      exact ⟨rfl, HB4.out⟩
end Go.Proofs.Ytkdejinhjdkkmaa

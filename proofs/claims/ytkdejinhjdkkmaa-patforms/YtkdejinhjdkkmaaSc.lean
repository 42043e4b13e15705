/- PatForms' walk: texts that are patterns, and texts that are none; no condition. -/
import Derived.Test.YtkdejinhjdkkmaaSb
import Derived.Test.YtkdejinhjdkkmaaCc
import Derived.Deep.RegionHeld3
namespace Go.Proofs.Ytkdejinhjdkkmaa
open Go.ChangeShapes Go.WideShapes Go.ChangeAt Go.RowKit Go.Maps

def goodL : List Txt := [[97], [48], [49], [97, 32, 43, 32, 98], [97, 32, 46, 32, 98, 32, 43, 32, 99, 49], [40, 97, 32, 43, 32, 98, 41, 32, 46, 32, 99, 49], [42, 97], [42, 40, 97, 32, 46, 32, 98, 41], [42, 97, 32, 46, 32, 42, 98], [97, 94, 53], [42, 97, 94, 51, 32, 46, 32, 98], [40, 40, 97, 41, 41], [97, 94, 49], [97, 46, 98, 46, 99, 49, 46, 100, 95, 120]]
def badL : List Txt := [[], [43], [97, 32, 43], [97, 32, 98], [42, 42, 97], [42, 40, 97, 32, 46, 32, 42, 98, 41], [42, 40, 42, 97, 41], [40, 97], [97, 41], [97, 94, 48], [97, 94], [97, 94, 98], [50], [97, 32, 33, 32, 98], [105, 110, 116], [102, 114, 101, 101], [97, 94, 49, 94, 50]]
def errT : Txt := [97, 32, 43, 32, 122, 122, 32, 46, 32, 33]
def deepT : Nat → Txt
  | 0 => [97]
  | k + 1 => [40] ++ deepT k ++ [41]
theorem good_e : goodL.all (fun l => (parseT keysL namesL l).1 == 0) = true := by kernel_rfl
theorem bad_e : badL.all (fun l => (parseT keysL namesL l).1 == 2 && (parseT keysL namesL l).2.length == 0) = true := by kernel_rfl
theorem err_e : (parseT keysL namesL errT).1 = 4 := by kernel_rfl
theorem err_n : (parseT keysL namesL errT).2.length = 0 := by kernel_rfl
theorem deep_e : (parseT keysL [[97]] (deepT 12)).1 = 0 := by kernel_rfl
theorem deep_l : (parseT keysL [[97]] (deepT 13)).1 = 3 := by kernel_rfl
theorem good_at (k : Nat) (h : k < goodL.length) : (parseT keysL namesL goodL[k]).1 = 0 := by
  have := List.all_eq_true.1 good_e _ (List.getElem_mem h)
  exact of_decide_eq_true this
theorem bad_at (k : Nat) (h : k < badL.length) : (parseT keysL namesL badL[k]).1 = 2 ∧ (parseT keysL namesL badL[k]).2.length = 0 := by
  have := List.all_eq_true.1 bad_e _ (List.getElem_mem h)
  rw [Bool.and_eq_true] at this
  exact ⟨of_decide_eq_true this.1, of_decide_eq_true this.2⟩
theorem parse_len (keys nm : List Txt) (l : Txt) : (parseT keys nm l).2.length ≤ 24 := by
  unfold parseT parseP
  split
  · simp
  · split
    · simp
    · split
      · simp
      · split
        · simp
        · simp only; omega
theorem deep_size (k : Nat) : (deepT k).length = 2 * k + 1 := by
  induction k with
  | zero => rfl
  | succ k ih => simp only [deepT, List.length_append, List.length_cons, List.length_nil, ih]; omega
theorem hnl : ∀ x ∈ namesL, x.length ≤ maxLen := by unfold maxLen; decide
theorem hnl1 : ∀ x ∈ ([[97]] : List Txt), x.length ≤ maxLen := by unfold maxLen; decide

set_option maxRecDepth 100000 in
set_option maxHeartbeats 16000000 in
theorem forms_walk (n : Int) (w : World) (h0 : -9223372036854775808 ≤ n) (h1 : n ≤ 9223372036854775807) : Calls Try.prog 5 #[.int .i64 n] w (True_ w) := by
  obtain ⟨k, hk⟩ : ∃ k : Nat, n % 14 = (k : Int) := ⟨(n % 14).toNat, by omega⟩
  obtain ⟨j, hj⟩ : ∃ j : Nat, n % 17 = (j : Int) := ⟨(n % 17).toNat, by omega⟩
  have hk14 : k < 14 := by omega
  have hj17 : j < 17 := by omega
  have hki : (k : Int) < 14 := by omega
  have hji : (j : Int) < 17 := by omega
  have hk0 : (0 : Int) ≤ (k : Int) := by omega
  have hj0 : (0 : Int) ≤ (j : Int) := by omega
  have hkl : k < goodL.length := hk14
  have hjl : j < badL.length := hj17
  have HG := Lib.hid (good_at k hkl)
  have HD := Lib.hid (bad_at j hjl)
  have CW1 : Hid (∀ W, Calls Try.prog 8 #[.int .i64 n, .int .i64 14] W fun e w' => e = .returned (.int .i64 k) ∧ W = w') := Lib.hid (fun W => by have := within_mod n 14 W (by omega) (by omega) h0 h1; rw [show ((14 : Nat) : Int) = 14 from rfl, hk] at this; exact this)
  have CW2 : Hid (∀ W, Calls Try.prog 8 #[.int .i64 n, .int .i64 17] W fun e w' => e = .returned (.int .i64 j) ∧ W = w') := Lib.hid (fun W => by have := within_mod n 17 W (by omega) (by omega) h0 h1; rw [show ((17 : Nat) : Int) = 17 from rfl, hj] at this; exact this)
  have hl4 : namesL.length = 4 := rfl
  have hgs : (goodL[k]).length ≤ 1000 := by
    have : ∀ l ∈ goodL, l.length ≤ 1000 := by decide
    exact this _ (List.getElem_mem hkl)
  have hbs : (badL[j]).length ≤ 1000 := by
    have : ∀ l ∈ badL, l.length ≤ 1000 := by decide
    exact this _ (List.getElem_mem hjl)
  have CP1 : Hid (∀ W g, Lies W g 9 (strs namesL) → Calls Try.prog 16 #[.string (str goodL[k]), .slice (some ⟨g, 0, none⟩) 4 4] W (Parses (parseT keysL namesL goodL[k]) W)) := Lib.hid (fun W g L => parse_lit _ namesL _ 4 W (by omega) (strs_of L) (by decide) hnl)
  have CP2 : Hid (∀ W g, Lies W g 9 (strs namesL) → Calls Try.prog 16 #[.string (str badL[j]), .slice (some ⟨g, 0, none⟩) 4 4] W (Parses (parseT keysL namesL badL[j]) W)) := Lib.hid (fun W g L => parse_lit _ namesL _ 4 W (by omega) (strs_of L) (by decide) hnl)
  have CP3 : Hid (∀ W g, Lies W g 9 (strs namesL) → Calls Try.prog 16 #[.string ⟨#[97, 32, 43, 32, 122, 122, 32, 46, 32, 33]⟩, .slice (some ⟨g, 0, none⟩) 4 4] W (Parses (parseT keysL namesL errT) W)) := Lib.hid (fun W g L => parse_lit errT namesL _ 4 W (by decide) (strs_of L) (by decide) hnl)
  have R3 : Hid ((parseT keysL namesL errT).2.length = 0 ∧ (parseT keysL namesL errT).1 = 4) := Lib.hid ⟨err_n, err_e⟩
  have HCK : Hid (chkB (parseT keysL namesL goodL[k]).2 4 = true) := Lib.hid (parse_chk keysL namesL _ (good_at k hkl))
  have HPL := Lib.hid (parse_len keysL namesL goodL[k])
  generalize parseT keysL namesL goodL[k] = p1 at CP1 HG HCK HPL
  generalize parseT keysL namesL badL[j] = p2 at CP2 HD
  generalize parseT keysL namesL errT = p3 at CP3 R3
  have HGC : Hid (∀ W g, Lies W g 9 (strs goodL) → W.cell? ⟨g, k, none⟩ = some (.string (str goodL[k]))) := Lib.hid (fun W g L => there_str L hkl)
  have HBC : Hid (∀ W g, Lies W g 9 (strs badL) → W.cell? ⟨g, j, none⟩ = some (.string (str badL[j]))) := Lib.hid (fun W g L => there_str L hjl)
  generalize str goodL[k] = sg at CP1 HGC
  generalize str badL[j] = sb at CP2 HBC
  clear hk hj hkl hjl hgs hbs
  have L1 := Lies.new w 9 (strs goodL)
  have L2 := Lies.new (w.alloc (.cells (strs goodL).toArray 9)) 9 (strs badL)
  have L1' := L1.alloc (.cells (strs badL).toArray 9)
  have B2 : Below w.heap.size w ((w.alloc (.cells (strs goodL).toArray 9)).alloc (.cells (strs badL).toArray 9)) := ((Below.refl _ _).alloc (Nat.le_refl _) _).alloc (by simp) _
  have d1 := HGC.out _ _ L1'
  have d2 := HBC.out _ _ L2
  have hs2 : (w.alloc (.cells (strs goodL).toArray 9)).heap.size = w.heap.size + 1 := by simp
  rw [hs2] at L2 d2
  have l1 := L1'.lt
  have l2 := L2.lt
  clear L1 L1' L2 hs2
  have HB2 := Lib.hid B2
  clear B2
  go_enter Try.func5, Try.ntmps5
  go_wp2_with (fail)
  change Calls _ _ _ ((w.alloc (.cells (strs goodL).toArray 9)).alloc (.cells (strs badL).toArray 9)) _
  generalize ((w.alloc (.cells (strs goodL).toArray 9)).alloc (.cells (strs badL).toArray 9)) = W0 at d1 d2 l1 l2 HB2 ⊢
  refine (CW1.out _).mono ?_
  rintro e w1 ⟨rfl, rfl⟩
  go_wp2_with (fail)
  refine (CW2.out _).mono ?_
  rintro e w1 ⟨rfl, rfl⟩
  go_wp2_with (fail)
  go_region_held3 (fun w' => w'.cell? ⟨w.heap.size, k, none⟩ = some (.string sg))
    (first
      | go_keep
      | exact (b1.cell (p := ⟨w.heap.size, k, none⟩) l1).trans d1
      | exact (b2.cell (p := ⟨w.heap.size, k, none⟩) (Nat.lt_of_lt_of_le l1 b1.size)).trans ((b1.cell (p := ⟨w.heap.size, k, none⟩) l1).trans d1))
    (first
      | (go_at_call 12; refine (names_any _).mono ?_; rintro e w1 ⟨g1, rfl, L1, b1⟩; rw [hl4])
      | (go_at_call 16; refine (CP1.out _ g1 (by exact L1)).mono ?_; rintro e w2 ⟨a1, c1, rfl, T1, o1, b2⟩; rw [HG.out]))
  have HB3 : Hid (Below w.heap.size w w1) := Lib.hid ((HB2.out.trans (below_drewN _ _ 1)).trans (b1.mono HB2.out.size))
  have HB4 : Hid (Below w.heap.size w w2) := Lib.hid (HB3.out.trans (b2.mono HB3.out.size))
  have e2 : w2.cell? ⟨w.heap.size + 1, j, none⟩ = some (.string sb) := (b2.cell (p := ⟨w.heap.size + 1, j, none⟩) (Nat.lt_of_lt_of_le l2 b1.size)).trans ((b1.cell (p := ⟨w.heap.size + 1, j, none⟩) l2).trans d2)
  have m2 : w.heap.size + 1 < w2.heap.size := Nat.lt_of_lt_of_le l2 (Nat.le_trans b1.size b2.size)
  have HT1 := Lib.hid T1
  clear L1 b1 b2 T1 o1 d1 d2 l1 l2 HB2 HB3
  go_wp2_with (fail)
  go_region_held3 (fun w' => w'.cell? ⟨w.heap.size + 1, j, none⟩ = some (.string sb))
    (first
      | go_keep
      | exact (b3.cell (p := ⟨w.heap.size + 1, j, none⟩) m2).trans e2
      | exact (b4.cell (p := ⟨w.heap.size + 1, j, none⟩) (Nat.lt_of_lt_of_le m2 b3.size)).trans ((b3.cell (p := ⟨w.heap.size + 1, j, none⟩) m2).trans e2))
    (first
      | (go_at_call 12; refine (names_any _).mono ?_; rintro e w3 ⟨g3, rfl, L3, b3⟩; rw [hl4])
      | (go_at_call 16; refine (CP2.out _ g3 (by exact L3)).mono ?_; rintro e w4 ⟨a2, c2, rfl, T2, o2, b4⟩; rw [HD.out.1, HD.out.2]))
  have HB5 : Hid (Below w.heap.size w w3) := Lib.hid ((HB4.out.trans (below_drewN _ _ 1)).trans (b3.mono HB4.out.size))
  have HB6 : Hid (Below w.heap.size w w4) := Lib.hid (HB5.out.trans (b4.mono HB5.out.size))
  have HT2 : Hid (Nds w4 a1 c1 p1.2) := Lib.hid ((Nds.below (w := w2.drew) HT1.out b3).below b4)
  clear L3 b3 b4 T2 o2 e2 m2 HB4 HB5 HT1
  go_wp2_with (fail)
  refine (names_any _).mono ?_
  rintro e w5 ⟨g5, rfl, L5, b5⟩
  rw [hl4]
  have HL5 := Lib.hid L5
  have HB7 : Hid (Below w.heap.size w w5) := Lib.hid (HB6.out.trans (b5.mono HB6.out.size))
  have HT3 : Hid (Nds w5 a1 c1 p1.2) := Lib.hid (HT2.out.below b5)
  clear L5 b5 HB6 HT2
  go_wp2_with (fail)
  with_reducible refine (CP3.out _ g5 HL5.out).mono ?_
  rintro e w6 ⟨a3, c3, rfl, T3, o3, b6⟩
  rw [R3.out.1, R3.out.2]
  have HB8 : Hid (Below w.heap.size w w6) := Lib.hid (HB7.out.trans (b6.mono HB7.out.size))
  have HT4 : Hid (Nds w6 a1 c1 p1.2) := Lib.hid (HT3.out.below b6)
  clear T3 o3 b6 HB7 HT3
  go_wp2_with (fail)
  go_loop [13, 14] (fun s i => ∃ m : Nat, m ≤ 12 ∧ i = .int .i64 m ∧ s = .string (str (deepT m))) (fun _ i => 12 - (intOf i).toNat)
  case atStart => exact ⟨0, by omega, rfl, rfl⟩
  case round =>
    obtain ⟨m, hm, rfl, rfl⟩ := hrel
    by_cases hlt : m < 12
    · have hsz : (str (deepT m)).size ≤ 100 := by rw [str_size, deep_size]; omega
      have HST : Hid ((⟨#[40]⟩ ++ str (deepT m)) ++ ⟨#[41]⟩ = str (deepT (m + 1))) := Lib.hid (by
        show (str [40] ++ str (deepT m)) ++ str [41] = _
        rw [str_app, str_app]; rfl)
      generalize str (deepT m) = x at hsz HST ⊢
      go_wp2
      go_round
      case rel => exact ⟨m + 1, by omega, by go_num, by rw [← HST.out]⟩
      case measure => simp [intOf]; omega
    · obtain rfl : m = 12 := by omega
      have S1 := strs_of (Lies.new w6 9 (strs [[97]]))
      have CP4 : Hid (Calls Try.prog 16 #[.string (str (deepT 12)), .slice (some ⟨w6.heap.size, 0, none⟩) 1 1] (w6.alloc (.cells #[.string ⟨#[97]⟩] 9)) (Parses (parseT keysL [[97]] (deepT 12)) (w6.alloc (.cells #[.string ⟨#[97]⟩] 9)))) := Lib.hid (parse_lit _ [[97]] _ 1 _ (by rw [deep_size]; omega) S1 (by decide) hnl1)
      have CP5 : Hid (∀ W g, Lies W g 9 (strs [[97]]) → Calls Try.prog 16 #[.string ((⟨#[40]⟩ ++ str (deepT 12)) ++ ⟨#[41]⟩), .slice (some ⟨g, 0, none⟩) 1 1] W (Parses (parseT keysL [[97]] (deepT 13)) W)) := Lib.hid (fun W g L => by
        have e : (⟨#[40]⟩ ++ str (deepT 12)) ++ ⟨#[41]⟩ = str (deepT 13) := by
          show (str [40] ++ str (deepT 12)) ++ str [41] = _
          rw [str_app, str_app]; rfl
        rw [e]
        exact parse_lit _ [[97]] _ 1 _ (by rw [deep_size]; omega) (strs_of L) (by decide) hnl1)
      have R4 := Lib.hid deep_e
      have R5 := Lib.hid deep_l
      have hsz : (str (deepT 12)).size ≤ 100 := by rw [str_size, deep_size]; omega
      generalize parseT keysL [[97]] (deepT 12) = p4 at CP4 R4
      generalize parseT keysL [[97]] (deepT 13) = p5 at CP5 R5
      generalize str (deepT 12) = x at *
      clear S1
      go_wp2_with (fail)
      with_reducible refine CP4.out.mono ?_
      rintro e w7 ⟨a4, c4, rfl, T4, o4, b7⟩
      rw [R4.out]
      have HB9 : Hid (Below w.heap.size w w7) := Lib.hid ((HB8.out.alloc HB8.out.size _).trans (b7.mono (by have := HB8.out.size; simp; omega)))
      have HT5 : Hid (Nds w7 a1 c1 p1.2) := Lib.hid ((HT4.out.alloc _).below b7)
      have HL7 : Hid (Lies (w7.alloc (.cells #[.string ⟨#[97]⟩] 9)) w7.heap.size 9 (strs [[97]])) := Lib.hid (Lies.new w7 9 (strs [[97]]))
      clear T4 o4 b7 HB8 HT4 CP4
      go_wp2_with (fail)
      with_reducible refine (CP5.out (w7.alloc (.cells #[.string ⟨#[97]⟩] 9)) w7.heap.size HL7.out).mono ?_
      rintro e w8 ⟨a5, c5, rfl, T5, o5, b8⟩
      rw [R5.out]
      have HB10 : Hid (Below w.heap.size w w8) := Lib.hid ((HB9.out.alloc HB9.out.size _).trans (b8.mono (by have := HB9.out.size; simp; omega)))
      have HT6 : Hid (Nds w8 a1 c1 p1.2) := Lib.hid ((HT5.out.alloc _).below b8)
      clear T5 o5 b8 HB9 HT5 CP5
      have CK := Lib.hid (check_any p1.2 4 a1 c1 w8 HT6.out.at (by have := HPL.out; omega))
      go_wp2_with (fail)
      refine CK.out.mono ?_
      rintro e w9 ⟨rfl, b9⟩
      rw [HCK.out]
      have HB11 : Hid (Below w.heap.size w w9) := Lib.hid (HB10.out.trans (b9.mono HB10.out.size))
      clear b9 HB10 HT6 CK
      go_wp2_with (fail)
      refine (wakes_any _).mono ?_
      rintro e w10 ⟨rfl, b10⟩
      have HB12 : Hid (Below w.heap.size w w10) := Lib.hid (HB11.out.trans (b10.mono HB11.out.size))
      clear b10
      go_wp2
      go_ret
      exact ⟨rfl, HB12.out⟩
end Go.Proofs.Ytkdejinhjdkkmaa

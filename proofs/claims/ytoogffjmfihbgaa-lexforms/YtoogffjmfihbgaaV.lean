/- The walk of the law LexForms; no condition. -/
import Derived.Test.YtoogffjmfihbgaaU
import Derived.Laws.IdiomStrings
import Derived.Lib.SlBytesConst
namespace Go.Proofs.Ytoogffjmfihbgaa
open Go.ChangeShapes Go.WideShapes Go.ChangeAt Go.RowKit

def tail19 : Txt := [95, 48, 49, 50, 51, 52, 53, 54, 55, 56, 57, 97, 98, 99, 100, 101, 102, 103, 104]
def longL (n : Nat) : Txt := List.replicate n 113 ++ tail19.take (17 - n)
theorem forms_words : ∀ n, n < 15 → 1 ≤ n → isWord ((longL n).take 16) = true ∧ isWord (longL n ++ [120]) = false ∧ isWord (49 :: List.replicate n 113) = false ∧ (longL n).length = 17 := by decide
theorem forms_digits : ∀ n, n < 15 → 1 ≤ n → (n ≤ 9 → (ans (32 :: List.replicate n 55)).2.2.2 = 0) ∧ (¬ n ≤ 9 → (ans (32 :: List.replicate n 55)).2.1 = 1 ∧ (ans (32 :: List.replicate n 55)).2.2.1 = 2 ∧ (ans (32 :: List.replicate n 55)).2.2.2 = 2) ∧ (ans (48 :: List.replicate n 55)).2.2.1 = 1 ∧ (ans (48 :: List.replicate n 55)).2.2.2 = 2 := by decide
/-- How many tokens there are of a, a byte, b. -/
def want (c : UInt8) : Nat := if inWord c = true then 2 else if c = 35 then 2 else if c = 32 ∨ c = 9 ∨ c = 10 then 3 else if sign c = true then 4 else 0
set_option maxRecDepth 100000 in
theorem forms_byte : ∀ n, n < 256 → ((ans [97, UInt8.ofNat n, 98]).2.2.2 = 0 ↔ 0 < want (UInt8.ofNat n)) ∧ (ans [97, UInt8.ofNat n, 98]).1.length = want (UInt8.ofNat n) := by decide +kernel
theorem str_snoc (k : Nat) (c : UInt8) : str (List.replicate k c) ++ ⟨#[c]⟩ = str (List.replicate (k + 1) c) := by
  apply ByteArray.ext
  rw [ByteArray.data_append]
  apply Array.toList_inj.1
  rw [Array.toList_append]
  show List.replicate k c ++ [c] = List.replicate (k + 1) c
  rw [List.replicate_succ']

theorem sign_cells : ∀ j (h : j < 18), (#[.int .u8 40, .int .u8 41, .int .u8 123, .int .u8 125, .int .u8 91, .int .u8 93, .int .u8 44, .int .u8 59, .int .u8 58, .int .u8 61, .int .u8 46, .int .u8 43, .int .u8 45, .int .u8 42, .int .u8 60, .int .u8 94, .int .u8 33, .int .u8 63] : Array Value)[j]? = some (.int .u8 (signs[j].toNat : Int)) := by
  intro j h
  rcases (show j = 0 ∨ j = 1 ∨ j = 2 ∨ j = 3 ∨ j = 4 ∨ j = 5 ∨ j = 6 ∨ j = 7 ∨ j = 8 ∨ j = 9 ∨ j = 10 ∨ j = 11 ∨ j = 12 ∨ j = 13 ∨ j = 14 ∨ j = 15 ∨ j = 16 ∨ j = 17 by omega) with rfl | rfl | rfl | rfl | rfl | rfl | rfl | rfl | rfl | rfl | rfl | rfl | rfl | rfl | rfl | rfl | rfl | rfl <;> rfl
theorem want_word {c : UInt8} (h : inWord c = true) : want c = 2 := by unfold want; rw [if_pos h]
theorem want_sign {c : UInt8} (h : inWord c = false) (h1 : ¬ c = 35) (h2 : ¬ (c = 32 ∨ c = 9 ∨ c = 10)) : want c = if sign c = true then 4 else 0 := by
  unfold want; rw [if_neg (by rw [h]; decide), if_neg h1, if_neg h2]
def hasS (c : UInt8) (k : Nat) : Bool := (signs.take k).contains c
theorem hasS_zero (c : UInt8) : hasS c 0 = false := rfl
theorem hasS_all (c : UInt8) : hasS c 18 = sign c := rfl
theorem hasS_succ (c : UInt8) (k : Nat) (h : k < signs.length) : hasS c (k + 1) = (hasS c k || decide ((c.toNat : Int) = (signs[k].toNat : Int))) := by
  unfold hasS
  rw [List.take_succ_eq_append_getElem h, List.contains_eq_mem, List.contains_eq_mem, Bool.eq_iff_iff]
  simp only [List.mem_append, List.mem_singleton, decide_eq_true_eq, Bool.or_eq_true]
  constructor
  · rintro (h | h)
    · exact .inl h
    · exact .inr (by rw [h])
  · rintro (h | h)
    · exact .inl h
    · exact .inr (UInt8.toNat_inj.1 (by omega))
theorem byte_int (c : UInt8) (n : Nat) (hn : n < 256) : (c = UInt8.ofNat n) ↔ (c.toNat : Int) = (n : Int) := by
  have e : (UInt8.ofNat n).toNat = n := by rw [UInt8.toNat_ofNat']; exact Nat.mod_eq_of_lt hn
  rw [← UInt8.toNat_inj, e]
  omega
theorem byte_list (c : UInt8) : ((⟨#[97]⟩ ++ ⟨[c].toArray⟩ ++ ⟨#[98]⟩ : ByteArray)).data.toList = [97, c, 98] := by
  rw [app_list, app_list]; rfl
theorem byte_tokens (c : UInt8) (w : World) : Calls Try.prog 10 #[.string (⟨#[97]⟩ ++ ⟨[c].toArray⟩ ++ ⟨#[98]⟩)] w (Tells [97, c, 98] w) := by
  have h := tokens_any (⟨#[97]⟩ ++ ⟨[c].toArray⟩ ++ ⟨#[98]⟩) w (by unfold maxLen; rw [Lib.size_eq, byte_list]; simp)
  rw [byte_list] at h
  exact h
theorem byte_all (c : UInt8) : ((ans [97, c, 98]).2.2.2 = 0 ↔ 0 < want c) ∧ (ans [97, c, 98]).1.length = want c := by
  have := forms_byte c.toNat c.toNat_lt
  rwa [UInt8.ofNat_toNat] at this

set_option maxHeartbeats 8000000 in
set_option maxRecDepth 100000 in
theorem forms_walk (a0 : Int) (c : UInt8) (w : World) (h0 : -9223372036854775808 ≤ a0) (h0' : a0 ≤ 9223372036854775807) :
    Calls Try.prog 7 #[.int .i64 a0, .int .u8 (c.toNat : Int)] w fun e w' => e = .returned (.bool true) ∧ Below w.heap.size w w' := by
  go_enter Try.func7, Try.ntmps7
  go_wp2_with (fail)
  refine (within_any a0 14 _ (by omega) (by omega) h0 h0').mono ?_
  rintro e w' ⟨r, hr, rfl, rfl⟩
  have hr2 : r < 14 := by omega
  go_wp2_with (fail)
  obtain ⟨n, hn⟩ : ∃ n, n = r + 1 := ⟨_, rfl⟩
  have hn1 : 1 ≤ n := by omega
  have hn2 : n < 15 := by omega
  have hrn : (r : Int) + 1 = (n : Int) := by omega
  rw [hrn]
  clear hrn hn hr hr2
  go_loop [5, 6, 7] (fun u v i => ∃ k : Nat, k ≤ n ∧ i = .int .i64 k ∧ u = .string (str (List.replicate k 113)) ∧ v = .string (str (List.replicate k 55))) (fun _ _ i => n - (intOf i).toNat)
  case atStart => exact ⟨0, Nat.zero_le _, rfl, rfl, rfl⟩
  case round =>
    obtain ⟨k, hk, rfl, rfl, rfl⟩ := hrel
    have hz1 : (str (List.replicate k 113)).size = k := by rw [str_size, List.length_replicate]
    have hz2 : (str (List.replicate k 55)).size = k := by rw [str_size, List.length_replicate]
    by_cases hlt : k < n
    · have hki : (k : Int) < (n : Int) := by omega
      have E1 := Lib.hid (str_snoc k 113)
      have E2 := Lib.hid (str_snoc k 55)
      generalize str (List.replicate k 113) = u at E1 hz1
      generalize str (List.replicate k 55) = v at E2 hz2
      go_wp2
      go_round
      case rel => exact ⟨k + 1, by omega, by go_num, by rw [← E1.out], by rw [← E2.out]⟩
      case measure => simp [intOf]; omega
    · have hki : ¬ (k : Int) < (n : Int) := by omega
      obtain rfl : k = n := by omega
      obtain ⟨f1, f2, f3, f4⟩ := forms_words k hn2 hn1
      obtain ⟨g1, g2, g3, g4⟩ := forms_digits k hn2 hn1
      have e1 : ((str (List.replicate k 113) ++ (⟨#[95, 48, 49, 50, 51, 52, 53, 54, 55, 56, 57, 97, 98, 99, 100, 101, 102, 103, 104]⟩ : ByteArray).extract 0 (17 - k)) : ByteArray) = str (longL k) := by
        apply ByteArray.ext
        rw [ByteArray.data_append]
        apply Array.toList_inj.1
        rw [Array.toList_append, ext_take']
        rfl
      have C1 : Hid (∀ w, Calls Try.prog 15 #[.string ((str (longL k)).extract 0 16)] w fun e w' => e = .returned (.bool true) ∧ w = w') := Lib.hid (fun w => by
        have := lword ((str (longL k)).extract 0 16) w (by unfold maxLen; rw [ByteArray.size_extract]; omega)
        rw [ext_take', str_data, f1] at this; exact this)
      have C2 : Hid (∀ w, Calls Try.prog 15 #[.string (str (longL k) ++ ⟨#[120]⟩)] w fun e w' => e = .returned (.bool false) ∧ w = w') := Lib.hid (fun w => by
        have := lword (str (longL k) ++ ⟨#[120]⟩) w (by unfold maxLen; rw [app_size, str_size, f4]; decide)
        rw [app_list, str_data] at this
        rw [show (⟨#[120]⟩ : ByteArray).data.toList = [120] from rfl, f2] at this; exact this)
      have C3 : Hid (∀ w, Calls Try.prog 15 #[.string ⟨#[]⟩] w fun e w' => e = .returned (.bool false) ∧ w = w') := Lib.hid (fun w => lword ⟨#[]⟩ w (by unfold maxLen; decide))
      have C4 : Hid (∀ w, Calls Try.prog 15 #[.string (⟨#[49]⟩ ++ str (List.replicate k 113))] w fun e w' => e = .returned (.bool false) ∧ w = w') := Lib.hid (fun w => by
        have := lword (⟨#[49]⟩ ++ str (List.replicate k 113)) w (by unfold maxLen; rw [app_size, hz1]; show 1 + k ≤ _; omega)
        rw [app_list, str_data] at this
        rw [show (⟨#[49]⟩ : ByteArray).data.toList ++ List.replicate k 113 = 49 :: List.replicate k 113 from rfl, f3] at this; exact this)
      have C5 : Hid (∀ w, Calls Try.prog 15 #[.string ⟨#[81]⟩] w fun e w' => e = .returned (.bool false) ∧ w = w') := Lib.hid (fun w => lword ⟨#[81]⟩ w (by unfold maxLen; decide))
      have D1 : Hid (∀ w, Calls Try.prog 10 #[.string (⟨#[32]⟩ ++ str (List.replicate k 55))] w (Tells (32 :: List.replicate k 55) w)) := Lib.hid (fun w => by
        have := tokens_any (⟨#[32]⟩ ++ str (List.replicate k 55)) w (by unfold maxLen; rw [app_size, hz2]; show 1 + k ≤ _; omega)
        rw [app_list, str_data] at this
        exact this)
      have D2 : Hid (∀ w, Calls Try.prog 10 #[.string (⟨#[48]⟩ ++ str (List.replicate k 55))] w (Tells (48 :: List.replicate k 55) w)) := Lib.hid (fun w => by
        have := tokens_any (⟨#[48]⟩ ++ str (List.replicate k 55)) w (by unfold maxLen; rw [app_size, hz2]; show 1 + k ≤ _; omega)
        rw [app_list, str_data] at this
        exact this)
      have hls : (str (longL k)).size = 17 := by rw [str_size, f4]
      have hls1 : (16 : Int) ≤ ((str (longL k)).size : Int) := by omega
      have hls2 : (str (longL k)).size ≤ 17 := by omega
      have hzz1 : (str (List.replicate k 113)).size ≤ 14 := by omega
      have hzz2 : (str (List.replicate k 55)).size ≤ 14 := by omega
      have HE1 := Lib.hid e1
      clear f1 f2 f3 f4 hz1 hz2 hls e1
      have hcut : ((16 : Int) - (k : Int) + 1).toNat = 17 - k := by omega
      have hc0 : (0 : Int) ≤ (16 : Int) - (k : Int) + 1 := by omega
      have hc1 : (16 : Int) - (k : Int) + 1 ≤ 19 := by omega
      have hc16 : decide ((16 : Int) < (k : Int)) = false := by simp; omega
      have e1 := HE1.out
      have G : Hid ((k ≤ 9 → (ans (32 :: List.replicate k 55)).2.2.2 = 0) ∧ (¬ k ≤ 9 → (ans (32 :: List.replicate k 55)).2.1 = 1 ∧ (ans (32 :: List.replicate k 55)).2.2.1 = 2 ∧ (ans (32 :: List.replicate k 55)).2.2.2 = 2) ∧ (ans (48 :: List.replicate k 55)).2.2.1 = 1 ∧ (ans (48 :: List.replicate k 55)).2.2.2 = 2) := Lib.hid ⟨g1, g2, g3, g4⟩
      clear g1 g2 g3 g4
      unfold Tells at D1 D2
      generalize ans (32 :: List.replicate k 55) = A1 at G D1
      generalize ans (48 :: List.replicate k 55) = A2 at G D2
      go_wp2_with (fail)
      with_reducible refine (C1.out _).mono ?_
      rintro e w' ⟨rfl, rfl⟩
      clear e1 hcut hc0 hc1
      go_wp2_with (fail)
      with_reducible refine (C2.out _).mono ?_
      rintro e w' ⟨rfl, rfl⟩
      go_wp2_with (fail)
      with_reducible refine (C3.out _).mono ?_
      rintro e w' ⟨rfl, rfl⟩
      go_wp2_with (fail)
      with_reducible refine (C4.out _).mono ?_
      rintro e w' ⟨rfl, rfl⟩
      go_wp2_with (fail)
      with_reducible refine (C5.out _).mono ?_
      rintro e w' ⟨rfl, rfl⟩
      go_wp2_with (fail)
      refine (D1.out _).mono ?_
      rintro e w2 ⟨a2, c2, rfl, -, b2⟩
      have HB2 := Lib.hid b2
      clear b2
      go_wp2_with (fail)
      refine (D2.out _).mono ?_
      rintro e w3 ⟨a3, c3, rfl, -, b3⟩
      have HB3 := Lib.hid (HB2.out.trans (b3.mono HB2.out.size))
      clear b3 HB2 C1 C2 C3 C4 C5 D1 D2
      obtain ⟨t1, l1, o1, x1⟩ := A1
      obtain ⟨t2, l2, o2, x2⟩ := A2
      obtain ⟨G1, G2, G3, G4⟩ := G.out
      simp only at G1 G2 G3 G4
      clear G
      subst G3
      subst G4
      simp only
      generalize t1.length = m1
      generalize t2.length = m2
      clear HE1 hls1 hls2 hzz1 hzz2 hc16
      generalize str (longL k) = lw
      generalize str (List.replicate k 113) = wd
      generalize str (List.replicate k 55) = dg
      have SC : k ≤ 9 ∨ ¬ k ≤ 9 := by omega
      rcases SC with h9 | h9
      · have hk9 : decide ((k : Int) ≤ 9) = true := by simp; omega
        obtain rfl := G1 h9
        clear G1 G2
        have hconv := run_convert_bytes_back (P := Try.prog) (w3.alloc (.cells #[.int .u8 (c.toNat : Int)] 5)) 41 9 5 ⟨w3.heap.size, 0, none⟩ 1 [c] Try.underlying41 Try.underlying5 Try.underlying9 (fun j hj => by
          obtain rfl : j = 0 := by simpa using hj
          rw [Addr.add_lit]
          exact (Lies.new w3 5 [.int .u8 (c.toNat : Int)]).cell 0)
        rw [show [c].length = 1 from rfl] at hconv
        have HB3a : Hid (Below w.heap.size w (w3.alloc (.cells #[.int .u8 (c.toNat : Int)] 5))) := Lib.hid (HB3.out.alloc HB3.out.size _)
        have D3 := Lib.hid (fun w => byte_tokens c w)
        have HF0 := Lib.hid (byte_all c)
        unfold Tells at D3
        generalize ans [97, c, 98] = A3 at D3 HF0
        obtain ⟨t3, l3, o3, x3⟩ := A3
        have HF : Hid ((x3 = 0 ↔ 0 < want c) ∧ t3.length = want c) := HF0
        clear HF0
        go_wp2_with (fail)
        clear hconv
        refine (D3.out _).mono ?_
        rintro e w4 ⟨a4, c4, rfl, -, b4⟩
        have HB4 := Lib.hid (HB3a.out.trans (b4.mono HB3a.out.size))
        clear b4 D3 HB3 HB3a
        simp only
        generalize t3.length = m3 at HF ⊢
        have hconst := Lib.run_convert_bytes_const (P := Try.prog) w4 41 5 #[.int .u8 40, .int .u8 41, .int .u8 123, .int .u8 125, .int .u8 91, .int .u8 93, .int .u8 44, .int .u8 59, .int .u8 58, .int .u8 61, .int .u8 46, .int .u8 43, .int .u8 45, .int .u8 42, .int .u8 60, .int .u8 94, .int .u8 33, .int .u8 63] 18 18 Try.underlying41 Try.underlying5
        have HB5 : Hid (Below w.heap.size w (w4.alloc (.cells #[.int .u8 40, .int .u8 41, .int .u8 123, .int .u8 125, .int .u8 91, .int .u8 93, .int .u8 44, .int .u8 59, .int .u8 58, .int .u8 61, .int .u8 46, .int .u8 43, .int .u8 45, .int .u8 42, .int .u8 60, .int .u8 94, .int .u8 33, .int .u8 63] 5 (18, 19)))) := Lib.hid (HB4.out.alloc HB4.out.size _)
        have HCL : Hid (∀ j (h : j < 18), (w4.alloc (.cells #[.int .u8 40, .int .u8 41, .int .u8 123, .int .u8 125, .int .u8 91, .int .u8 93, .int .u8 44, .int .u8 59, .int .u8 58, .int .u8 61, .int .u8 46, .int .u8 43, .int .u8 45, .int .u8 42, .int .u8 60, .int .u8 94, .int .u8 33, .int .u8 63] 5 (18, 19))).cell? ⟨w4.heap.size, j, none⟩ = some (.int .u8 (signs[j].toNat : Int))) := Lib.hid (by
          have key : ∀ j (h : j < 18), (#[.int .u8 40, .int .u8 41, .int .u8 123, .int .u8 125, .int .u8 91, .int .u8 93, .int .u8 44, .int .u8 59, .int .u8 58, .int .u8 61, .int .u8 46, .int .u8 43, .int .u8 45, .int .u8 42, .int .u8 60, .int .u8 94, .int .u8 33, .int .u8 63] : Array Value)[j]? = some (.int .u8 (signs[j].toNat : Int)) := sign_cells
          intro j h
          rw [World.cell?_alloc_mark]
          exact key j h)
        clear HB4
        have hcb : (c.toNat : Int) < 256 := by have := c.toNat_lt; omega
        have hcb0 : (0 : Int) ≤ (c.toNat : Int) := by omega
        have cases6 : ((97 ≤ (c.toNat : Int)) ∧ ((c.toNat : Int) ≤ 122)) ∨ (¬ (97 ≤ (c.toNat : Int)) ∧ (48 ≤ (c.toNat : Int)) ∧ ((c.toNat : Int) ≤ 57)) ∨ (¬ (97 ≤ (c.toNat : Int)) ∧ (48 ≤ (c.toNat : Int)) ∧ ¬ ((c.toNat : Int) ≤ 57) ∧ ((c.toNat : Int) = 95)) ∨ (¬ (97 ≤ (c.toNat : Int)) ∧ ¬ (48 ≤ (c.toNat : Int)) ∧ ¬ ((c.toNat : Int) = 95)) ∨ (¬ (97 ≤ (c.toNat : Int)) ∧ (48 ≤ (c.toNat : Int)) ∧ ¬ ((c.toNat : Int) ≤ 57) ∧ ¬ ((c.toNat : Int) = 95)) ∨ ((97 ≤ (c.toNat : Int)) ∧ ¬ ((c.toNat : Int) ≤ 122) ∧ (48 ≤ (c.toNat : Int)) ∧ ¬ ((c.toNat : Int) ≤ 57) ∧ ¬ ((c.toNat : Int) = 95)) := by omega
        rcases cases6 with ⟨r0, r1⟩ | ⟨r0, r1, r2⟩ | ⟨r0, r1, r2, r3⟩ | ⟨r0, r1, r2⟩ | ⟨r0, r1, r2, r3⟩ | ⟨r0, r1, r2, r3, r4⟩
        · have _u : True := trivial
          have s0 : decide (97 ≤ (c.toNat : Int)) = true := by simpa using r0
          have s1 : decide ((c.toNat : Int) ≤ 122) = true := by simpa using r1
          go_wp2_with (fail)
          generalize w4.alloc (.cells #[.int .u8 40, .int .u8 41, .int .u8 123, .int .u8 125, .int .u8 91, .int .u8 93, .int .u8 44, .int .u8 59, .int .u8 58, .int .u8 61, .int .u8 46, .int .u8 43, .int .u8 45, .int .u8 42, .int .u8 60, .int .u8 94, .int .u8 33, .int .u8 63] 5 (18, 19)) = W5 at HB5 HCL ⊢
          obtain ⟨g, hg⟩ : ∃ g, g = w4.heap.size := ⟨_, rfl⟩
          rw [← hg] at HCL ⊢
          clear hg hconst
          go_loop [22, 24, 141] (fun u _ i => ∃ j : Nat, j ≤ 18 ∧ i = .int .i64 j ∧ u = .bool (hasS c j)) (fun _ _ i => 18 - (intOf i).toNat)
          case atStart => exact ⟨0, Nat.zero_le _, rfl, rfl⟩
          case round =>
            obtain ⟨j, hj, rfl, rfl⟩ := hrel
            by_cases hjl : j < 18
            · have hji : (j : Int) < 18 := by omega
              have hcl := HCL.out j hjl
              have HSU := Lib.hid (hasS_succ c j hjl)
              have hb : (signs[j].toNat : Int) < 256 := by have := signs[j].toNat_lt; omega
              have hb0 : (0 : Int) ≤ (signs[j].toNat : Int) := by omega
              generalize (signs[j].toNat : Int) = z at hcl HSU hb hb0
              generalize hasS c j = bb at HSU
              cases bb
              · by_cases hz : (c.toNat : Int) = z
                · have hz2 : ((c.toNat : Int) == z) = true := by simpa using hz
                  have HZ := Lib.hid hz
                  clear hz
                  go_wp2
                  go_round
                  case rel => exact ⟨j + 1, by omega, by go_num, by rw [HSU.out]; simp [HZ.out]⟩
                  case measure => simp [intOf]; omega
                · have hz2 : ((c.toNat : Int) == z) = false := by simpa using hz
                  have HZ := Lib.hid hz
                  clear hz
                  go_wp2
                  go_round
                  case rel => exact ⟨j + 1, by omega, by go_num, by rw [HSU.out]; simp [HZ.out]⟩
                  case measure => simp [intOf]; omega
              · go_wp2
                go_round
                case rel => exact ⟨j + 1, by omega, by go_num, by rw [HSU.out]; rfl⟩
                case measure => simp [intOf]; omega
            · have hji : ¬ (j : Int) < 18 := by omega
              obtain rfl : j = 18 := by omega
              rw [hasS_all]
              generalize sign c = bb
              have hv : want c = 2 := want_word (inWord_of (.inl (letter_iff.2 ⟨by omega, by omega⟩)))
              obtain ⟨F1, F2⟩ := HF.out
              rw [hv] at F1 F2
              obtain rfl := F1.2 (by omega)
              obtain rfl := F2
              clear F1 hv HF
              go_wp2_with (fail)
              refine (wakes_any _).mono ?_
              rintro e w6 ⟨rfl, b6⟩
              have HB6 := Lib.hid (HB5.out.trans (b6.mono HB5.out.size))
              clear b6
              go_wp2
              go_ret
              exact ⟨rfl, HB6.out⟩
        · have _u : True := trivial
          have s0 : decide (97 ≤ (c.toNat : Int)) = false := by simpa using r0
          have s1 : decide (48 ≤ (c.toNat : Int)) = true := by simpa using r1
          have s2 : decide ((c.toNat : Int) ≤ 57) = true := by simpa using r2
          go_wp2_with (fail)
          generalize w4.alloc (.cells #[.int .u8 40, .int .u8 41, .int .u8 123, .int .u8 125, .int .u8 91, .int .u8 93, .int .u8 44, .int .u8 59, .int .u8 58, .int .u8 61, .int .u8 46, .int .u8 43, .int .u8 45, .int .u8 42, .int .u8 60, .int .u8 94, .int .u8 33, .int .u8 63] 5 (18, 19)) = W5 at HB5 HCL ⊢
          obtain ⟨g, hg⟩ : ∃ g, g = w4.heap.size := ⟨_, rfl⟩
          rw [← hg] at HCL ⊢
          clear hg hconst
          go_loop [22, 24, 141] (fun u _ i => ∃ j : Nat, j ≤ 18 ∧ i = .int .i64 j ∧ u = .bool (hasS c j)) (fun _ _ i => 18 - (intOf i).toNat)
          case atStart => exact ⟨0, Nat.zero_le _, rfl, rfl⟩
          case round =>
            obtain ⟨j, hj, rfl, rfl⟩ := hrel
            by_cases hjl : j < 18
            · have hji : (j : Int) < 18 := by omega
              have hcl := HCL.out j hjl
              have HSU := Lib.hid (hasS_succ c j hjl)
              have hb : (signs[j].toNat : Int) < 256 := by have := signs[j].toNat_lt; omega
              have hb0 : (0 : Int) ≤ (signs[j].toNat : Int) := by omega
              generalize (signs[j].toNat : Int) = z at hcl HSU hb hb0
              generalize hasS c j = bb at HSU
              cases bb
              · by_cases hz : (c.toNat : Int) = z
                · have hz2 : ((c.toNat : Int) == z) = true := by simpa using hz
                  have HZ := Lib.hid hz
                  clear hz
                  go_wp2
                  go_round
                  case rel => exact ⟨j + 1, by omega, by go_num, by rw [HSU.out]; simp [HZ.out]⟩
                  case measure => simp [intOf]; omega
                · have hz2 : ((c.toNat : Int) == z) = false := by simpa using hz
                  have HZ := Lib.hid hz
                  clear hz
                  go_wp2
                  go_round
                  case rel => exact ⟨j + 1, by omega, by go_num, by rw [HSU.out]; simp [HZ.out]⟩
                  case measure => simp [intOf]; omega
              · go_wp2
                go_round
                case rel => exact ⟨j + 1, by omega, by go_num, by rw [HSU.out]; rfl⟩
                case measure => simp [intOf]; omega
            · have hji : ¬ (j : Int) < 18 := by omega
              obtain rfl : j = 18 := by omega
              rw [hasS_all]
              generalize sign c = bb
              have hv : want c = 2 := want_word (inWord_of (.inr (.inl (digit_iff.2 ⟨by omega, by omega⟩))))
              obtain ⟨F1, F2⟩ := HF.out
              rw [hv] at F1 F2
              obtain rfl := F1.2 (by omega)
              obtain rfl := F2
              clear F1 hv HF
              go_wp2_with (fail)
              refine (wakes_any _).mono ?_
              rintro e w6 ⟨rfl, b6⟩
              have HB6 := Lib.hid (HB5.out.trans (b6.mono HB5.out.size))
              clear b6
              go_wp2
              go_ret
              exact ⟨rfl, HB6.out⟩
        · have _u : True := trivial
          have s0 : decide (97 ≤ (c.toNat : Int)) = false := by simpa using r0
          have s1 : decide (48 ≤ (c.toNat : Int)) = true := by simpa using r1
          have s2 : decide ((c.toNat : Int) ≤ 57) = false := by simpa using r2
          have s3 : ((c.toNat : Int) == 95) = true := by simpa using r3
          have R3 := Lib.hid r3
          clear r3
          go_wp2_with (fail)
          generalize w4.alloc (.cells #[.int .u8 40, .int .u8 41, .int .u8 123, .int .u8 125, .int .u8 91, .int .u8 93, .int .u8 44, .int .u8 59, .int .u8 58, .int .u8 61, .int .u8 46, .int .u8 43, .int .u8 45, .int .u8 42, .int .u8 60, .int .u8 94, .int .u8 33, .int .u8 63] 5 (18, 19)) = W5 at HB5 HCL ⊢
          obtain ⟨g, hg⟩ : ∃ g, g = w4.heap.size := ⟨_, rfl⟩
          rw [← hg] at HCL ⊢
          clear hg hconst
          go_loop [22, 24, 141] (fun u _ i => ∃ j : Nat, j ≤ 18 ∧ i = .int .i64 j ∧ u = .bool (hasS c j)) (fun _ _ i => 18 - (intOf i).toNat)
          case atStart => exact ⟨0, Nat.zero_le _, rfl, rfl⟩
          case round =>
            obtain ⟨j, hj, rfl, rfl⟩ := hrel
            by_cases hjl : j < 18
            · have hji : (j : Int) < 18 := by omega
              have hcl := HCL.out j hjl
              have HSU := Lib.hid (hasS_succ c j hjl)
              have hb : (signs[j].toNat : Int) < 256 := by have := signs[j].toNat_lt; omega
              have hb0 : (0 : Int) ≤ (signs[j].toNat : Int) := by omega
              generalize (signs[j].toNat : Int) = z at hcl HSU hb hb0
              generalize hasS c j = bb at HSU
              cases bb
              · by_cases hz : (c.toNat : Int) = z
                · have hz2 : ((c.toNat : Int) == z) = true := by simpa using hz
                  have HZ := Lib.hid hz
                  clear hz
                  go_wp2
                  go_round
                  case rel => exact ⟨j + 1, by omega, by go_num, by rw [HSU.out]; simp [HZ.out]⟩
                  case measure => simp [intOf]; omega
                · have hz2 : ((c.toNat : Int) == z) = false := by simpa using hz
                  have HZ := Lib.hid hz
                  clear hz
                  go_wp2
                  go_round
                  case rel => exact ⟨j + 1, by omega, by go_num, by rw [HSU.out]; simp [HZ.out]⟩
                  case measure => simp [intOf]; omega
              · go_wp2
                go_round
                case rel => exact ⟨j + 1, by omega, by go_num, by rw [HSU.out]; rfl⟩
                case measure => simp [intOf]; omega
            · have hji : ¬ (j : Int) < 18 := by omega
              obtain rfl : j = 18 := by omega
              rw [hasS_all]
              generalize sign c = bb
              have hv : want c = 2 := want_word (inWord_of (.inr (.inr R3.out)))
              obtain ⟨F1, F2⟩ := HF.out
              rw [hv] at F1 F2
              obtain rfl := F1.2 (by omega)
              obtain rfl := F2
              clear F1 hv HF
              go_wp2_with (fail)
              refine (wakes_any _).mono ?_
              rintro e w6 ⟨rfl, b6⟩
              have HB6 := Lib.hid (HB5.out.trans (b6.mono HB5.out.size))
              clear b6
              go_wp2
              go_ret
              exact ⟨rfl, HB6.out⟩
        · have _u : True := trivial
          have s0 : decide (97 ≤ (c.toNat : Int)) = false := by simpa using r0
          have s1 : decide (48 ≤ (c.toNat : Int)) = false := by simpa using r1
          have s2 : ((c.toNat : Int) == 95) = false := by simpa using r2
          go_wp2_with (fail)
          generalize w4.alloc (.cells #[.int .u8 40, .int .u8 41, .int .u8 123, .int .u8 125, .int .u8 91, .int .u8 93, .int .u8 44, .int .u8 59, .int .u8 58, .int .u8 61, .int .u8 46, .int .u8 43, .int .u8 45, .int .u8 42, .int .u8 60, .int .u8 94, .int .u8 33, .int .u8 63] 5 (18, 19)) = W5 at HB5 HCL ⊢
          obtain ⟨g, hg⟩ : ∃ g, g = w4.heap.size := ⟨_, rfl⟩
          rw [← hg] at HCL ⊢
          clear hg hconst
          go_loop [22, 24, 141] (fun u _ i => ∃ j : Nat, j ≤ 18 ∧ i = .int .i64 j ∧ u = .bool (hasS c j)) (fun _ _ i => 18 - (intOf i).toNat)
          case atStart => exact ⟨0, Nat.zero_le _, rfl, rfl⟩
          case round =>
            obtain ⟨j, hj, rfl, rfl⟩ := hrel
            by_cases hjl : j < 18
            · have hji : (j : Int) < 18 := by omega
              have hcl := HCL.out j hjl
              have HSU := Lib.hid (hasS_succ c j hjl)
              have hb : (signs[j].toNat : Int) < 256 := by have := signs[j].toNat_lt; omega
              have hb0 : (0 : Int) ≤ (signs[j].toNat : Int) := by omega
              generalize (signs[j].toNat : Int) = z at hcl HSU hb hb0
              generalize hasS c j = bb at HSU
              cases bb
              · by_cases hz : (c.toNat : Int) = z
                · have hz2 : ((c.toNat : Int) == z) = true := by simpa using hz
                  have HZ := Lib.hid hz
                  clear hz
                  go_wp2
                  go_round
                  case rel => exact ⟨j + 1, by omega, by go_num, by rw [HSU.out]; simp [HZ.out]⟩
                  case measure => simp [intOf]; omega
                · have hz2 : ((c.toNat : Int) == z) = false := by simpa using hz
                  have HZ := Lib.hid hz
                  clear hz
                  go_wp2
                  go_round
                  case rel => exact ⟨j + 1, by omega, by go_num, by rw [HSU.out]; simp [HZ.out]⟩
                  case measure => simp [intOf]; omega
              · go_wp2
                go_round
                case rel => exact ⟨j + 1, by omega, by go_num, by rw [HSU.out]; rfl⟩
                case measure => simp [intOf]; omega
            · have hji : ¬ (j : Int) < 18 := by omega
              obtain rfl : j = 18 := by omega
              rw [hasS_all]
              have hinw : inWord c = false := not_inWord (by rw [Bool.eq_false_iff]; intro e; have := letter_iff.1 e; omega) (by rw [Bool.eq_false_iff]; intro e; have := digit_iff.1 e; omega) (by omega)
              by_cases k35 : (c.toNat : Int) = 35
              · have q35 : ((c.toNat : Int) == 35) = true := by simpa using k35
                have hcv : c = 35 := (byte_int c 35 (by omega)).2 (by omega)
                generalize sign c = bb
                have hv : want c = 2 := by rw [hcv]; decide
                obtain ⟨F1, F2⟩ := HF.out
                rw [hv] at F1 F2
                obtain rfl := F1.2 (by omega)
                obtain rfl := F2
                clear F1 hv HF hcv
                go_wp2_with (fail)
                refine (wakes_any _).mono ?_
                rintro e w6 ⟨rfl, b6⟩
                have HB6 := Lib.hid (HB5.out.trans (b6.mono HB5.out.size))
                clear b6
                go_wp2
                go_ret
                exact ⟨rfl, HB6.out⟩
              have q35 : ((c.toNat : Int) == 35) = false := by simpa using k35
              by_cases k32 : (c.toNat : Int) = 32
              · have q32 : ((c.toNat : Int) == 32) = true := by simpa using k32
                have hcv : c = 32 := (byte_int c 32 (by omega)).2 (by omega)
                generalize sign c = bb
                have hv : want c = 3 := by rw [hcv]; decide
                obtain ⟨F1, F2⟩ := HF.out
                rw [hv] at F1 F2
                obtain rfl := F1.2 (by omega)
                obtain rfl := F2
                clear F1 hv HF hcv
                go_wp2_with (fail)
                refine (wakes_any _).mono ?_
                rintro e w6 ⟨rfl, b6⟩
                have HB6 := Lib.hid (HB5.out.trans (b6.mono HB5.out.size))
                clear b6
                go_wp2
                go_ret
                exact ⟨rfl, HB6.out⟩
              have q32 : ((c.toNat : Int) == 32) = false := by simpa using k32
              by_cases k9 : (c.toNat : Int) = 9
              · have q9 : ((c.toNat : Int) == 9) = true := by simpa using k9
                have hcv : c = 9 := (byte_int c 9 (by omega)).2 (by omega)
                generalize sign c = bb
                have hv : want c = 3 := by rw [hcv]; decide
                obtain ⟨F1, F2⟩ := HF.out
                rw [hv] at F1 F2
                obtain rfl := F1.2 (by omega)
                obtain rfl := F2
                clear F1 hv HF hcv
                go_wp2_with (fail)
                refine (wakes_any _).mono ?_
                rintro e w6 ⟨rfl, b6⟩
                have HB6 := Lib.hid (HB5.out.trans (b6.mono HB5.out.size))
                clear b6
                go_wp2
                go_ret
                exact ⟨rfl, HB6.out⟩
              have q9 : ((c.toNat : Int) == 9) = false := by simpa using k9
              by_cases k10 : (c.toNat : Int) = 10
              · have q10 : ((c.toNat : Int) == 10) = true := by simpa using k10
                have hcv : c = 10 := (byte_int c 10 (by omega)).2 (by omega)
                generalize sign c = bb
                have hv : want c = 3 := by rw [hcv]; decide
                obtain ⟨F1, F2⟩ := HF.out
                rw [hv] at F1 F2
                obtain rfl := F1.2 (by omega)
                obtain rfl := F2
                clear F1 hv HF hcv
                go_wp2_with (fail)
                refine (wakes_any _).mono ?_
                rintro e w6 ⟨rfl, b6⟩
                have HB6 := Lib.hid (HB5.out.trans (b6.mono HB5.out.size))
                clear b6
                go_wp2
                go_ret
                exact ⟨rfl, HB6.out⟩
              have q10 : ((c.toNat : Int) == 10) = false := by simpa using k10
              have hws := want_sign hinw (fun e => k35 ((byte_int c 35 (by omega)).1 e)) (fun e => by
                rcases e with e | e | e
                · exact k32 ((byte_int c 32 (by omega)).1 e)
                · exact k9 ((byte_int c 9 (by omega)).1 e)
                · exact k10 ((byte_int c 10 (by omega)).1 e))
              have HWS := Lib.hid hws
              clear hws
              cases hsg : sign c
              · have HSG := Lib.hid hsg
                clear hsg
                have hv : want c = 0 := by rw [HWS.out, HSG.out]; rfl
                obtain ⟨F1, F2⟩ := HF.out
                rw [hv] at F1 F2
                have hx0 : ((x3 : Int) == 0) = false := by simp; have := F1.1; omega
                obtain rfl := F2
                clear F1 hv HF
                go_wp2_with (fail)
                refine (wakes_any _).mono ?_
                rintro e w6 ⟨rfl, b6⟩
                have HB6 := Lib.hid (HB5.out.trans (b6.mono HB5.out.size))
                clear b6
                go_wp2
                go_ret
                exact ⟨rfl, HB6.out⟩
              · have HSG := Lib.hid hsg
                clear hsg
                have hv : want c = 4 := by rw [HWS.out, HSG.out]; rfl
                obtain ⟨F1, F2⟩ := HF.out
                rw [hv] at F1 F2
                obtain rfl := F1.2 (by omega)
                obtain rfl := F2
                clear F1 hv HF
                go_wp2_with (fail)
                refine (wakes_any _).mono ?_
                rintro e w6 ⟨rfl, b6⟩
                have HB6 := Lib.hid (HB5.out.trans (b6.mono HB5.out.size))
                clear b6
                go_wp2
                go_ret
                exact ⟨rfl, HB6.out⟩
        · have _u : True := trivial
          have s0 : decide (97 ≤ (c.toNat : Int)) = false := by simpa using r0
          have s1 : decide (48 ≤ (c.toNat : Int)) = true := by simpa using r1
          have s2 : decide ((c.toNat : Int) ≤ 57) = false := by simpa using r2
          have s3 : ((c.toNat : Int) == 95) = false := by simpa using r3
          go_wp2_with (fail)
          generalize w4.alloc (.cells #[.int .u8 40, .int .u8 41, .int .u8 123, .int .u8 125, .int .u8 91, .int .u8 93, .int .u8 44, .int .u8 59, .int .u8 58, .int .u8 61, .int .u8 46, .int .u8 43, .int .u8 45, .int .u8 42, .int .u8 60, .int .u8 94, .int .u8 33, .int .u8 63] 5 (18, 19)) = W5 at HB5 HCL ⊢
          obtain ⟨g, hg⟩ : ∃ g, g = w4.heap.size := ⟨_, rfl⟩
          rw [← hg] at HCL ⊢
          clear hg hconst
          go_loop [22, 24, 141] (fun u _ i => ∃ j : Nat, j ≤ 18 ∧ i = .int .i64 j ∧ u = .bool (hasS c j)) (fun _ _ i => 18 - (intOf i).toNat)
          case atStart => exact ⟨0, Nat.zero_le _, rfl, rfl⟩
          case round =>
            obtain ⟨j, hj, rfl, rfl⟩ := hrel
            by_cases hjl : j < 18
            · have hji : (j : Int) < 18 := by omega
              have hcl := HCL.out j hjl
              have HSU := Lib.hid (hasS_succ c j hjl)
              have hb : (signs[j].toNat : Int) < 256 := by have := signs[j].toNat_lt; omega
              have hb0 : (0 : Int) ≤ (signs[j].toNat : Int) := by omega
              generalize (signs[j].toNat : Int) = z at hcl HSU hb hb0
              generalize hasS c j = bb at HSU
              cases bb
              · by_cases hz : (c.toNat : Int) = z
                · have hz2 : ((c.toNat : Int) == z) = true := by simpa using hz
                  have HZ := Lib.hid hz
                  clear hz
                  go_wp2
                  go_round
                  case rel => exact ⟨j + 1, by omega, by go_num, by rw [HSU.out]; simp [HZ.out]⟩
                  case measure => simp [intOf]; omega
                · have hz2 : ((c.toNat : Int) == z) = false := by simpa using hz
                  have HZ := Lib.hid hz
                  clear hz
                  go_wp2
                  go_round
                  case rel => exact ⟨j + 1, by omega, by go_num, by rw [HSU.out]; simp [HZ.out]⟩
                  case measure => simp [intOf]; omega
              · go_wp2
                go_round
                case rel => exact ⟨j + 1, by omega, by go_num, by rw [HSU.out]; rfl⟩
                case measure => simp [intOf]; omega
            · have hji : ¬ (j : Int) < 18 := by omega
              obtain rfl : j = 18 := by omega
              rw [hasS_all]
              have hinw : inWord c = false := not_inWord (by rw [Bool.eq_false_iff]; intro e; have := letter_iff.1 e; omega) (by rw [Bool.eq_false_iff]; intro e; have := digit_iff.1 e; omega) (by omega)
              by_cases k35 : (c.toNat : Int) = 35
              · have q35 : ((c.toNat : Int) == 35) = true := by simpa using k35
                have hcv : c = 35 := (byte_int c 35 (by omega)).2 (by omega)
                generalize sign c = bb
                have hv : want c = 2 := by rw [hcv]; decide
                obtain ⟨F1, F2⟩ := HF.out
                rw [hv] at F1 F2
                obtain rfl := F1.2 (by omega)
                obtain rfl := F2
                clear F1 hv HF hcv
                go_wp2_with (fail)
                refine (wakes_any _).mono ?_
                rintro e w6 ⟨rfl, b6⟩
                have HB6 := Lib.hid (HB5.out.trans (b6.mono HB5.out.size))
                clear b6
                go_wp2
                go_ret
                exact ⟨rfl, HB6.out⟩
              have q35 : ((c.toNat : Int) == 35) = false := by simpa using k35
              by_cases k32 : (c.toNat : Int) = 32
              · have q32 : ((c.toNat : Int) == 32) = true := by simpa using k32
                have hcv : c = 32 := (byte_int c 32 (by omega)).2 (by omega)
                generalize sign c = bb
                have hv : want c = 3 := by rw [hcv]; decide
                obtain ⟨F1, F2⟩ := HF.out
                rw [hv] at F1 F2
                obtain rfl := F1.2 (by omega)
                obtain rfl := F2
                clear F1 hv HF hcv
                go_wp2_with (fail)
                refine (wakes_any _).mono ?_
                rintro e w6 ⟨rfl, b6⟩
                have HB6 := Lib.hid (HB5.out.trans (b6.mono HB5.out.size))
                clear b6
                go_wp2
                go_ret
                exact ⟨rfl, HB6.out⟩
              have q32 : ((c.toNat : Int) == 32) = false := by simpa using k32
              by_cases k9 : (c.toNat : Int) = 9
              · have q9 : ((c.toNat : Int) == 9) = true := by simpa using k9
                have hcv : c = 9 := (byte_int c 9 (by omega)).2 (by omega)
                generalize sign c = bb
                have hv : want c = 3 := by rw [hcv]; decide
                obtain ⟨F1, F2⟩ := HF.out
                rw [hv] at F1 F2
                obtain rfl := F1.2 (by omega)
                obtain rfl := F2
                clear F1 hv HF hcv
                go_wp2_with (fail)
                refine (wakes_any _).mono ?_
                rintro e w6 ⟨rfl, b6⟩
                have HB6 := Lib.hid (HB5.out.trans (b6.mono HB5.out.size))
                clear b6
                go_wp2
                go_ret
                exact ⟨rfl, HB6.out⟩
              have q9 : ((c.toNat : Int) == 9) = false := by simpa using k9
              by_cases k10 : (c.toNat : Int) = 10
              · have q10 : ((c.toNat : Int) == 10) = true := by simpa using k10
                have hcv : c = 10 := (byte_int c 10 (by omega)).2 (by omega)
                generalize sign c = bb
                have hv : want c = 3 := by rw [hcv]; decide
                obtain ⟨F1, F2⟩ := HF.out
                rw [hv] at F1 F2
                obtain rfl := F1.2 (by omega)
                obtain rfl := F2
                clear F1 hv HF hcv
                go_wp2_with (fail)
                refine (wakes_any _).mono ?_
                rintro e w6 ⟨rfl, b6⟩
                have HB6 := Lib.hid (HB5.out.trans (b6.mono HB5.out.size))
                clear b6
                go_wp2
                go_ret
                exact ⟨rfl, HB6.out⟩
              have q10 : ((c.toNat : Int) == 10) = false := by simpa using k10
              have hws := want_sign hinw (fun e => k35 ((byte_int c 35 (by omega)).1 e)) (fun e => by
                rcases e with e | e | e
                · exact k32 ((byte_int c 32 (by omega)).1 e)
                · exact k9 ((byte_int c 9 (by omega)).1 e)
                · exact k10 ((byte_int c 10 (by omega)).1 e))
              have HWS := Lib.hid hws
              clear hws
              cases hsg : sign c
              · have HSG := Lib.hid hsg
                clear hsg
                have hv : want c = 0 := by rw [HWS.out, HSG.out]; rfl
                obtain ⟨F1, F2⟩ := HF.out
                rw [hv] at F1 F2
                have hx0 : ((x3 : Int) == 0) = false := by simp; have := F1.1; omega
                obtain rfl := F2
                clear F1 hv HF
                go_wp2_with (fail)
                refine (wakes_any _).mono ?_
                rintro e w6 ⟨rfl, b6⟩
                have HB6 := Lib.hid (HB5.out.trans (b6.mono HB5.out.size))
                clear b6
                go_wp2
                go_ret
                exact ⟨rfl, HB6.out⟩
              · have HSG := Lib.hid hsg
                clear hsg
                have hv : want c = 4 := by rw [HWS.out, HSG.out]; rfl
                obtain ⟨F1, F2⟩ := HF.out
                rw [hv] at F1 F2
                obtain rfl := F1.2 (by omega)
                obtain rfl := F2
                clear F1 hv HF
                go_wp2_with (fail)
                refine (wakes_any _).mono ?_
                rintro e w6 ⟨rfl, b6⟩
                have HB6 := Lib.hid (HB5.out.trans (b6.mono HB5.out.size))
                clear b6
                go_wp2
                go_ret
                exact ⟨rfl, HB6.out⟩
        · have _u : True := trivial
          have s0 : decide (97 ≤ (c.toNat : Int)) = true := by simpa using r0
          have s1 : decide ((c.toNat : Int) ≤ 122) = false := by simpa using r1
          have s2 : decide (48 ≤ (c.toNat : Int)) = true := by simpa using r2
          have s3 : decide ((c.toNat : Int) ≤ 57) = false := by simpa using r3
          have s4 : ((c.toNat : Int) == 95) = false := by simpa using r4
          go_wp2_with (fail)
          generalize w4.alloc (.cells #[.int .u8 40, .int .u8 41, .int .u8 123, .int .u8 125, .int .u8 91, .int .u8 93, .int .u8 44, .int .u8 59, .int .u8 58, .int .u8 61, .int .u8 46, .int .u8 43, .int .u8 45, .int .u8 42, .int .u8 60, .int .u8 94, .int .u8 33, .int .u8 63] 5 (18, 19)) = W5 at HB5 HCL ⊢
          obtain ⟨g, hg⟩ : ∃ g, g = w4.heap.size := ⟨_, rfl⟩
          rw [← hg] at HCL ⊢
          clear hg hconst
          go_loop [22, 24, 141] (fun u _ i => ∃ j : Nat, j ≤ 18 ∧ i = .int .i64 j ∧ u = .bool (hasS c j)) (fun _ _ i => 18 - (intOf i).toNat)
          case atStart => exact ⟨0, Nat.zero_le _, rfl, rfl⟩
          case round =>
            obtain ⟨j, hj, rfl, rfl⟩ := hrel
            by_cases hjl : j < 18
            · have hji : (j : Int) < 18 := by omega
              have hcl := HCL.out j hjl
              have HSU := Lib.hid (hasS_succ c j hjl)
              have hb : (signs[j].toNat : Int) < 256 := by have := signs[j].toNat_lt; omega
              have hb0 : (0 : Int) ≤ (signs[j].toNat : Int) := by omega
              generalize (signs[j].toNat : Int) = z at hcl HSU hb hb0
              generalize hasS c j = bb at HSU
              cases bb
              · by_cases hz : (c.toNat : Int) = z
                · have hz2 : ((c.toNat : Int) == z) = true := by simpa using hz
                  have HZ := Lib.hid hz
                  clear hz
                  go_wp2
                  go_round
                  case rel => exact ⟨j + 1, by omega, by go_num, by rw [HSU.out]; simp [HZ.out]⟩
                  case measure => simp [intOf]; omega
                · have hz2 : ((c.toNat : Int) == z) = false := by simpa using hz
                  have HZ := Lib.hid hz
                  clear hz
                  go_wp2
                  go_round
                  case rel => exact ⟨j + 1, by omega, by go_num, by rw [HSU.out]; simp [HZ.out]⟩
                  case measure => simp [intOf]; omega
              · go_wp2
                go_round
                case rel => exact ⟨j + 1, by omega, by go_num, by rw [HSU.out]; rfl⟩
                case measure => simp [intOf]; omega
            · have hji : ¬ (j : Int) < 18 := by omega
              obtain rfl : j = 18 := by omega
              rw [hasS_all]
              have hinw : inWord c = false := not_inWord (by rw [Bool.eq_false_iff]; intro e; have := letter_iff.1 e; omega) (by rw [Bool.eq_false_iff]; intro e; have := digit_iff.1 e; omega) (by omega)
              by_cases k35 : (c.toNat : Int) = 35
              · have q35 : ((c.toNat : Int) == 35) = true := by simpa using k35
                have hcv : c = 35 := (byte_int c 35 (by omega)).2 (by omega)
                generalize sign c = bb
                have hv : want c = 2 := by rw [hcv]; decide
                obtain ⟨F1, F2⟩ := HF.out
                rw [hv] at F1 F2
                obtain rfl := F1.2 (by omega)
                obtain rfl := F2
                clear F1 hv HF hcv
                go_wp2_with (fail)
                refine (wakes_any _).mono ?_
                rintro e w6 ⟨rfl, b6⟩
                have HB6 := Lib.hid (HB5.out.trans (b6.mono HB5.out.size))
                clear b6
                go_wp2
                go_ret
                exact ⟨rfl, HB6.out⟩
              have q35 : ((c.toNat : Int) == 35) = false := by simpa using k35
              by_cases k32 : (c.toNat : Int) = 32
              · have q32 : ((c.toNat : Int) == 32) = true := by simpa using k32
                have hcv : c = 32 := (byte_int c 32 (by omega)).2 (by omega)
                generalize sign c = bb
                have hv : want c = 3 := by rw [hcv]; decide
                obtain ⟨F1, F2⟩ := HF.out
                rw [hv] at F1 F2
                obtain rfl := F1.2 (by omega)
                obtain rfl := F2
                clear F1 hv HF hcv
                go_wp2_with (fail)
                refine (wakes_any _).mono ?_
                rintro e w6 ⟨rfl, b6⟩
                have HB6 := Lib.hid (HB5.out.trans (b6.mono HB5.out.size))
                clear b6
                go_wp2
                go_ret
                exact ⟨rfl, HB6.out⟩
              have q32 : ((c.toNat : Int) == 32) = false := by simpa using k32
              by_cases k9 : (c.toNat : Int) = 9
              · have q9 : ((c.toNat : Int) == 9) = true := by simpa using k9
                have hcv : c = 9 := (byte_int c 9 (by omega)).2 (by omega)
                generalize sign c = bb
                have hv : want c = 3 := by rw [hcv]; decide
                obtain ⟨F1, F2⟩ := HF.out
                rw [hv] at F1 F2
                obtain rfl := F1.2 (by omega)
                obtain rfl := F2
                clear F1 hv HF hcv
                go_wp2_with (fail)
                refine (wakes_any _).mono ?_
                rintro e w6 ⟨rfl, b6⟩
                have HB6 := Lib.hid (HB5.out.trans (b6.mono HB5.out.size))
                clear b6
                go_wp2
                go_ret
                exact ⟨rfl, HB6.out⟩
              have q9 : ((c.toNat : Int) == 9) = false := by simpa using k9
              by_cases k10 : (c.toNat : Int) = 10
              · have q10 : ((c.toNat : Int) == 10) = true := by simpa using k10
                have hcv : c = 10 := (byte_int c 10 (by omega)).2 (by omega)
                generalize sign c = bb
                have hv : want c = 3 := by rw [hcv]; decide
                obtain ⟨F1, F2⟩ := HF.out
                rw [hv] at F1 F2
                obtain rfl := F1.2 (by omega)
                obtain rfl := F2
                clear F1 hv HF hcv
                go_wp2_with (fail)
                refine (wakes_any _).mono ?_
                rintro e w6 ⟨rfl, b6⟩
                have HB6 := Lib.hid (HB5.out.trans (b6.mono HB5.out.size))
                clear b6
                go_wp2
                go_ret
                exact ⟨rfl, HB6.out⟩
              have q10 : ((c.toNat : Int) == 10) = false := by simpa using k10
              have hws := want_sign hinw (fun e => k35 ((byte_int c 35 (by omega)).1 e)) (fun e => by
                rcases e with e | e | e
                · exact k32 ((byte_int c 32 (by omega)).1 e)
                · exact k9 ((byte_int c 9 (by omega)).1 e)
                · exact k10 ((byte_int c 10 (by omega)).1 e))
              have HWS := Lib.hid hws
              clear hws
              cases hsg : sign c
              · have HSG := Lib.hid hsg
                clear hsg
                have hv : want c = 0 := by rw [HWS.out, HSG.out]; rfl
                obtain ⟨F1, F2⟩ := HF.out
                rw [hv] at F1 F2
                have hx0 : ((x3 : Int) == 0) = false := by simp; have := F1.1; omega
                obtain rfl := F2
                clear F1 hv HF
                go_wp2_with (fail)
                refine (wakes_any _).mono ?_
                rintro e w6 ⟨rfl, b6⟩
                have HB6 := Lib.hid (HB5.out.trans (b6.mono HB5.out.size))
                clear b6
                go_wp2
                go_ret
                exact ⟨rfl, HB6.out⟩
              · have HSG := Lib.hid hsg
                clear hsg
                have hv : want c = 4 := by rw [HWS.out, HSG.out]; rfl
                obtain ⟨F1, F2⟩ := HF.out
                rw [hv] at F1 F2
                obtain rfl := F1.2 (by omega)
                obtain rfl := F2
                clear F1 hv HF
                go_wp2_with (fail)
                refine (wakes_any _).mono ?_
                rintro e w6 ⟨rfl, b6⟩
                have HB6 := Lib.hid (HB5.out.trans (b6.mono HB5.out.size))
                clear b6
                go_wp2
                go_ret
                exact ⟨rfl, HB6.out⟩
      · have hk9 : decide ((k : Int) ≤ 9) = false := by simp; omega
        obtain ⟨rfl, rfl, rfl⟩ := G2 h9
        clear G1 G2
        have hconv := run_convert_bytes_back (P := Try.prog) (w3.alloc (.cells #[.int .u8 (c.toNat : Int)] 5)) 41 9 5 ⟨w3.heap.size, 0, none⟩ 1 [c] Try.underlying41 Try.underlying5 Try.underlying9 (fun j hj => by
          obtain rfl : j = 0 := by simpa using hj
          rw [Addr.add_lit]
          exact (Lies.new w3 5 [.int .u8 (c.toNat : Int)]).cell 0)
        rw [show [c].length = 1 from rfl] at hconv
        have HB3a : Hid (Below w.heap.size w (w3.alloc (.cells #[.int .u8 (c.toNat : Int)] 5))) := Lib.hid (HB3.out.alloc HB3.out.size _)
        have D3 := Lib.hid (fun w => byte_tokens c w)
        have HF0 := Lib.hid (byte_all c)
        unfold Tells at D3
        generalize ans [97, c, 98] = A3 at D3 HF0
        obtain ⟨t3, l3, o3, x3⟩ := A3
        have HF : Hid ((x3 = 0 ↔ 0 < want c) ∧ t3.length = want c) := HF0
        clear HF0
        go_wp2_with (fail)
        clear hconv
        refine (D3.out _).mono ?_
        rintro e w4 ⟨a4, c4, rfl, -, b4⟩
        have HB4 := Lib.hid (HB3a.out.trans (b4.mono HB3a.out.size))
        clear b4 D3 HB3 HB3a
        simp only
        generalize t3.length = m3 at HF ⊢
        have hconst := Lib.run_convert_bytes_const (P := Try.prog) w4 41 5 #[.int .u8 40, .int .u8 41, .int .u8 123, .int .u8 125, .int .u8 91, .int .u8 93, .int .u8 44, .int .u8 59, .int .u8 58, .int .u8 61, .int .u8 46, .int .u8 43, .int .u8 45, .int .u8 42, .int .u8 60, .int .u8 94, .int .u8 33, .int .u8 63] 18 18 Try.underlying41 Try.underlying5
        have HB5 : Hid (Below w.heap.size w (w4.alloc (.cells #[.int .u8 40, .int .u8 41, .int .u8 123, .int .u8 125, .int .u8 91, .int .u8 93, .int .u8 44, .int .u8 59, .int .u8 58, .int .u8 61, .int .u8 46, .int .u8 43, .int .u8 45, .int .u8 42, .int .u8 60, .int .u8 94, .int .u8 33, .int .u8 63] 5 (18, 19)))) := Lib.hid (HB4.out.alloc HB4.out.size _)
        have HCL : Hid (∀ j (h : j < 18), (w4.alloc (.cells #[.int .u8 40, .int .u8 41, .int .u8 123, .int .u8 125, .int .u8 91, .int .u8 93, .int .u8 44, .int .u8 59, .int .u8 58, .int .u8 61, .int .u8 46, .int .u8 43, .int .u8 45, .int .u8 42, .int .u8 60, .int .u8 94, .int .u8 33, .int .u8 63] 5 (18, 19))).cell? ⟨w4.heap.size, j, none⟩ = some (.int .u8 (signs[j].toNat : Int))) := Lib.hid (by
          have key : ∀ j (h : j < 18), (#[.int .u8 40, .int .u8 41, .int .u8 123, .int .u8 125, .int .u8 91, .int .u8 93, .int .u8 44, .int .u8 59, .int .u8 58, .int .u8 61, .int .u8 46, .int .u8 43, .int .u8 45, .int .u8 42, .int .u8 60, .int .u8 94, .int .u8 33, .int .u8 63] : Array Value)[j]? = some (.int .u8 (signs[j].toNat : Int)) := sign_cells
          intro j h
          rw [World.cell?_alloc_mark]
          exact key j h)
        clear HB4
        have hcb : (c.toNat : Int) < 256 := by have := c.toNat_lt; omega
        have hcb0 : (0 : Int) ≤ (c.toNat : Int) := by omega
        have cases6 : ((97 ≤ (c.toNat : Int)) ∧ ((c.toNat : Int) ≤ 122)) ∨ (¬ (97 ≤ (c.toNat : Int)) ∧ (48 ≤ (c.toNat : Int)) ∧ ((c.toNat : Int) ≤ 57)) ∨ (¬ (97 ≤ (c.toNat : Int)) ∧ (48 ≤ (c.toNat : Int)) ∧ ¬ ((c.toNat : Int) ≤ 57) ∧ ((c.toNat : Int) = 95)) ∨ (¬ (97 ≤ (c.toNat : Int)) ∧ ¬ (48 ≤ (c.toNat : Int)) ∧ ¬ ((c.toNat : Int) = 95)) ∨ (¬ (97 ≤ (c.toNat : Int)) ∧ (48 ≤ (c.toNat : Int)) ∧ ¬ ((c.toNat : Int) ≤ 57) ∧ ¬ ((c.toNat : Int) = 95)) ∨ ((97 ≤ (c.toNat : Int)) ∧ ¬ ((c.toNat : Int) ≤ 122) ∧ (48 ≤ (c.toNat : Int)) ∧ ¬ ((c.toNat : Int) ≤ 57) ∧ ¬ ((c.toNat : Int) = 95)) := by omega
        rcases cases6 with ⟨r0, r1⟩ | ⟨r0, r1, r2⟩ | ⟨r0, r1, r2, r3⟩ | ⟨r0, r1, r2⟩ | ⟨r0, r1, r2, r3⟩ | ⟨r0, r1, r2, r3, r4⟩
        · have _u : True := trivial
          have s0 : decide (97 ≤ (c.toNat : Int)) = true := by simpa using r0
          have s1 : decide ((c.toNat : Int) ≤ 122) = true := by simpa using r1
          go_wp2_with (fail)
          generalize w4.alloc (.cells #[.int .u8 40, .int .u8 41, .int .u8 123, .int .u8 125, .int .u8 91, .int .u8 93, .int .u8 44, .int .u8 59, .int .u8 58, .int .u8 61, .int .u8 46, .int .u8 43, .int .u8 45, .int .u8 42, .int .u8 60, .int .u8 94, .int .u8 33, .int .u8 63] 5 (18, 19)) = W5 at HB5 HCL ⊢
          obtain ⟨g, hg⟩ : ∃ g, g = w4.heap.size := ⟨_, rfl⟩
          rw [← hg] at HCL ⊢
          clear hg hconst
          go_loop [22, 24, 141] (fun u _ i => ∃ j : Nat, j ≤ 18 ∧ i = .int .i64 j ∧ u = .bool (hasS c j)) (fun _ _ i => 18 - (intOf i).toNat)
          case atStart => exact ⟨0, Nat.zero_le _, rfl, rfl⟩
          case round =>
            obtain ⟨j, hj, rfl, rfl⟩ := hrel
            by_cases hjl : j < 18
            · have hji : (j : Int) < 18 := by omega
              have hcl := HCL.out j hjl
              have HSU := Lib.hid (hasS_succ c j hjl)
              have hb : (signs[j].toNat : Int) < 256 := by have := signs[j].toNat_lt; omega
              have hb0 : (0 : Int) ≤ (signs[j].toNat : Int) := by omega
              generalize (signs[j].toNat : Int) = z at hcl HSU hb hb0
              generalize hasS c j = bb at HSU
              cases bb
              · by_cases hz : (c.toNat : Int) = z
                · have hz2 : ((c.toNat : Int) == z) = true := by simpa using hz
                  have HZ := Lib.hid hz
                  clear hz
                  go_wp2
                  go_round
                  case rel => exact ⟨j + 1, by omega, by go_num, by rw [HSU.out]; simp [HZ.out]⟩
                  case measure => simp [intOf]; omega
                · have hz2 : ((c.toNat : Int) == z) = false := by simpa using hz
                  have HZ := Lib.hid hz
                  clear hz
                  go_wp2
                  go_round
                  case rel => exact ⟨j + 1, by omega, by go_num, by rw [HSU.out]; simp [HZ.out]⟩
                  case measure => simp [intOf]; omega
              · go_wp2
                go_round
                case rel => exact ⟨j + 1, by omega, by go_num, by rw [HSU.out]; rfl⟩
                case measure => simp [intOf]; omega
            · have hji : ¬ (j : Int) < 18 := by omega
              obtain rfl : j = 18 := by omega
              rw [hasS_all]
              generalize sign c = bb
              have hv : want c = 2 := want_word (inWord_of (.inl (letter_iff.2 ⟨by omega, by omega⟩)))
              obtain ⟨F1, F2⟩ := HF.out
              rw [hv] at F1 F2
              obtain rfl := F1.2 (by omega)
              obtain rfl := F2
              clear F1 hv HF
              go_wp2_with (fail)
              refine (wakes_any _).mono ?_
              rintro e w6 ⟨rfl, b6⟩
              have HB6 := Lib.hid (HB5.out.trans (b6.mono HB5.out.size))
              clear b6
              go_wp2
              go_ret
              exact ⟨rfl, HB6.out⟩
        · have _u : True := trivial
          have s0 : decide (97 ≤ (c.toNat : Int)) = false := by simpa using r0
          have s1 : decide (48 ≤ (c.toNat : Int)) = true := by simpa using r1
          have s2 : decide ((c.toNat : Int) ≤ 57) = true := by simpa using r2
          go_wp2_with (fail)
          generalize w4.alloc (.cells #[.int .u8 40, .int .u8 41, .int .u8 123, .int .u8 125, .int .u8 91, .int .u8 93, .int .u8 44, .int .u8 59, .int .u8 58, .int .u8 61, .int .u8 46, .int .u8 43, .int .u8 45, .int .u8 42, .int .u8 60, .int .u8 94, .int .u8 33, .int .u8 63] 5 (18, 19)) = W5 at HB5 HCL ⊢
          obtain ⟨g, hg⟩ : ∃ g, g = w4.heap.size := ⟨_, rfl⟩
          rw [← hg] at HCL ⊢
          clear hg hconst
          go_loop [22, 24, 141] (fun u _ i => ∃ j : Nat, j ≤ 18 ∧ i = .int .i64 j ∧ u = .bool (hasS c j)) (fun _ _ i => 18 - (intOf i).toNat)
          case atStart => exact ⟨0, Nat.zero_le _, rfl, rfl⟩
          case round =>
            obtain ⟨j, hj, rfl, rfl⟩ := hrel
            by_cases hjl : j < 18
            · have hji : (j : Int) < 18 := by omega
              have hcl := HCL.out j hjl
              have HSU := Lib.hid (hasS_succ c j hjl)
              have hb : (signs[j].toNat : Int) < 256 := by have := signs[j].toNat_lt; omega
              have hb0 : (0 : Int) ≤ (signs[j].toNat : Int) := by omega
              generalize (signs[j].toNat : Int) = z at hcl HSU hb hb0
              generalize hasS c j = bb at HSU
              cases bb
              · by_cases hz : (c.toNat : Int) = z
                · have hz2 : ((c.toNat : Int) == z) = true := by simpa using hz
                  have HZ := Lib.hid hz
                  clear hz
                  go_wp2
                  go_round
                  case rel => exact ⟨j + 1, by omega, by go_num, by rw [HSU.out]; simp [HZ.out]⟩
                  case measure => simp [intOf]; omega
                · have hz2 : ((c.toNat : Int) == z) = false := by simpa using hz
                  have HZ := Lib.hid hz
                  clear hz
                  go_wp2
                  go_round
                  case rel => exact ⟨j + 1, by omega, by go_num, by rw [HSU.out]; simp [HZ.out]⟩
                  case measure => simp [intOf]; omega
              · go_wp2
                go_round
                case rel => exact ⟨j + 1, by omega, by go_num, by rw [HSU.out]; rfl⟩
                case measure => simp [intOf]; omega
            · have hji : ¬ (j : Int) < 18 := by omega
              obtain rfl : j = 18 := by omega
              rw [hasS_all]
              generalize sign c = bb
              have hv : want c = 2 := want_word (inWord_of (.inr (.inl (digit_iff.2 ⟨by omega, by omega⟩))))
              obtain ⟨F1, F2⟩ := HF.out
              rw [hv] at F1 F2
              obtain rfl := F1.2 (by omega)
              obtain rfl := F2
              clear F1 hv HF
              go_wp2_with (fail)
              refine (wakes_any _).mono ?_
              rintro e w6 ⟨rfl, b6⟩
              have HB6 := Lib.hid (HB5.out.trans (b6.mono HB5.out.size))
              clear b6
              go_wp2
              go_ret
              exact ⟨rfl, HB6.out⟩
        · have _u : True := trivial
          have s0 : decide (97 ≤ (c.toNat : Int)) = false := by simpa using r0
          have s1 : decide (48 ≤ (c.toNat : Int)) = true := by simpa using r1
          have s2 : decide ((c.toNat : Int) ≤ 57) = false := by simpa using r2
          have s3 : ((c.toNat : Int) == 95) = true := by simpa using r3
          have R3 := Lib.hid r3
          clear r3
          go_wp2_with (fail)
          generalize w4.alloc (.cells #[.int .u8 40, .int .u8 41, .int .u8 123, .int .u8 125, .int .u8 91, .int .u8 93, .int .u8 44, .int .u8 59, .int .u8 58, .int .u8 61, .int .u8 46, .int .u8 43, .int .u8 45, .int .u8 42, .int .u8 60, .int .u8 94, .int .u8 33, .int .u8 63] 5 (18, 19)) = W5 at HB5 HCL ⊢
          obtain ⟨g, hg⟩ : ∃ g, g = w4.heap.size := ⟨_, rfl⟩
          rw [← hg] at HCL ⊢
          clear hg hconst
          go_loop [22, 24, 141] (fun u _ i => ∃ j : Nat, j ≤ 18 ∧ i = .int .i64 j ∧ u = .bool (hasS c j)) (fun _ _ i => 18 - (intOf i).toNat)
          case atStart => exact ⟨0, Nat.zero_le _, rfl, rfl⟩
          case round =>
            obtain ⟨j, hj, rfl, rfl⟩ := hrel
            by_cases hjl : j < 18
            · have hji : (j : Int) < 18 := by omega
              have hcl := HCL.out j hjl
              have HSU := Lib.hid (hasS_succ c j hjl)
              have hb : (signs[j].toNat : Int) < 256 := by have := signs[j].toNat_lt; omega
              have hb0 : (0 : Int) ≤ (signs[j].toNat : Int) := by omega
              generalize (signs[j].toNat : Int) = z at hcl HSU hb hb0
              generalize hasS c j = bb at HSU
              cases bb
              · by_cases hz : (c.toNat : Int) = z
                · have hz2 : ((c.toNat : Int) == z) = true := by simpa using hz
                  have HZ := Lib.hid hz
                  clear hz
                  go_wp2
                  go_round
                  case rel => exact ⟨j + 1, by omega, by go_num, by rw [HSU.out]; simp [HZ.out]⟩
                  case measure => simp [intOf]; omega
                · have hz2 : ((c.toNat : Int) == z) = false := by simpa using hz
                  have HZ := Lib.hid hz
                  clear hz
                  go_wp2
                  go_round
                  case rel => exact ⟨j + 1, by omega, by go_num, by rw [HSU.out]; simp [HZ.out]⟩
                  case measure => simp [intOf]; omega
              · go_wp2
                go_round
                case rel => exact ⟨j + 1, by omega, by go_num, by rw [HSU.out]; rfl⟩
                case measure => simp [intOf]; omega
            · have hji : ¬ (j : Int) < 18 := by omega
              obtain rfl : j = 18 := by omega
              rw [hasS_all]
              generalize sign c = bb
              have hv : want c = 2 := want_word (inWord_of (.inr (.inr R3.out)))
              obtain ⟨F1, F2⟩ := HF.out
              rw [hv] at F1 F2
              obtain rfl := F1.2 (by omega)
              obtain rfl := F2
              clear F1 hv HF
              go_wp2_with (fail)
              refine (wakes_any _).mono ?_
              rintro e w6 ⟨rfl, b6⟩
              have HB6 := Lib.hid (HB5.out.trans (b6.mono HB5.out.size))
              clear b6
              go_wp2
              go_ret
              exact ⟨rfl, HB6.out⟩
        · have _u : True := trivial
          have s0 : decide (97 ≤ (c.toNat : Int)) = false := by simpa using r0
          have s1 : decide (48 ≤ (c.toNat : Int)) = false := by simpa using r1
          have s2 : ((c.toNat : Int) == 95) = false := by simpa using r2
          go_wp2_with (fail)
          generalize w4.alloc (.cells #[.int .u8 40, .int .u8 41, .int .u8 123, .int .u8 125, .int .u8 91, .int .u8 93, .int .u8 44, .int .u8 59, .int .u8 58, .int .u8 61, .int .u8 46, .int .u8 43, .int .u8 45, .int .u8 42, .int .u8 60, .int .u8 94, .int .u8 33, .int .u8 63] 5 (18, 19)) = W5 at HB5 HCL ⊢
          obtain ⟨g, hg⟩ : ∃ g, g = w4.heap.size := ⟨_, rfl⟩
          rw [← hg] at HCL ⊢
          clear hg hconst
          go_loop [22, 24, 141] (fun u _ i => ∃ j : Nat, j ≤ 18 ∧ i = .int .i64 j ∧ u = .bool (hasS c j)) (fun _ _ i => 18 - (intOf i).toNat)
          case atStart => exact ⟨0, Nat.zero_le _, rfl, rfl⟩
          case round =>
            obtain ⟨j, hj, rfl, rfl⟩ := hrel
            by_cases hjl : j < 18
            · have hji : (j : Int) < 18 := by omega
              have hcl := HCL.out j hjl
              have HSU := Lib.hid (hasS_succ c j hjl)
              have hb : (signs[j].toNat : Int) < 256 := by have := signs[j].toNat_lt; omega
              have hb0 : (0 : Int) ≤ (signs[j].toNat : Int) := by omega
              generalize (signs[j].toNat : Int) = z at hcl HSU hb hb0
              generalize hasS c j = bb at HSU
              cases bb
              · by_cases hz : (c.toNat : Int) = z
                · have hz2 : ((c.toNat : Int) == z) = true := by simpa using hz
                  have HZ := Lib.hid hz
                  clear hz
                  go_wp2
                  go_round
                  case rel => exact ⟨j + 1, by omega, by go_num, by rw [HSU.out]; simp [HZ.out]⟩
                  case measure => simp [intOf]; omega
                · have hz2 : ((c.toNat : Int) == z) = false := by simpa using hz
                  have HZ := Lib.hid hz
                  clear hz
                  go_wp2
                  go_round
                  case rel => exact ⟨j + 1, by omega, by go_num, by rw [HSU.out]; simp [HZ.out]⟩
                  case measure => simp [intOf]; omega
              · go_wp2
                go_round
                case rel => exact ⟨j + 1, by omega, by go_num, by rw [HSU.out]; rfl⟩
                case measure => simp [intOf]; omega
            · have hji : ¬ (j : Int) < 18 := by omega
              obtain rfl : j = 18 := by omega
              rw [hasS_all]
              have hinw : inWord c = false := not_inWord (by rw [Bool.eq_false_iff]; intro e; have := letter_iff.1 e; omega) (by rw [Bool.eq_false_iff]; intro e; have := digit_iff.1 e; omega) (by omega)
              by_cases k35 : (c.toNat : Int) = 35
              · have q35 : ((c.toNat : Int) == 35) = true := by simpa using k35
                have hcv : c = 35 := (byte_int c 35 (by omega)).2 (by omega)
                generalize sign c = bb
                have hv : want c = 2 := by rw [hcv]; decide
                obtain ⟨F1, F2⟩ := HF.out
                rw [hv] at F1 F2
                obtain rfl := F1.2 (by omega)
                obtain rfl := F2
                clear F1 hv HF hcv
                go_wp2_with (fail)
                refine (wakes_any _).mono ?_
                rintro e w6 ⟨rfl, b6⟩
                have HB6 := Lib.hid (HB5.out.trans (b6.mono HB5.out.size))
                clear b6
                go_wp2
                go_ret
                exact ⟨rfl, HB6.out⟩
              have q35 : ((c.toNat : Int) == 35) = false := by simpa using k35
              by_cases k32 : (c.toNat : Int) = 32
              · have q32 : ((c.toNat : Int) == 32) = true := by simpa using k32
                have hcv : c = 32 := (byte_int c 32 (by omega)).2 (by omega)
                generalize sign c = bb
                have hv : want c = 3 := by rw [hcv]; decide
                obtain ⟨F1, F2⟩ := HF.out
                rw [hv] at F1 F2
                obtain rfl := F1.2 (by omega)
                obtain rfl := F2
                clear F1 hv HF hcv
                go_wp2_with (fail)
                refine (wakes_any _).mono ?_
                rintro e w6 ⟨rfl, b6⟩
                have HB6 := Lib.hid (HB5.out.trans (b6.mono HB5.out.size))
                clear b6
                go_wp2
                go_ret
                exact ⟨rfl, HB6.out⟩
              have q32 : ((c.toNat : Int) == 32) = false := by simpa using k32
              by_cases k9 : (c.toNat : Int) = 9
              · have q9 : ((c.toNat : Int) == 9) = true := by simpa using k9
                have hcv : c = 9 := (byte_int c 9 (by omega)).2 (by omega)
                generalize sign c = bb
                have hv : want c = 3 := by rw [hcv]; decide
                obtain ⟨F1, F2⟩ := HF.out
                rw [hv] at F1 F2
                obtain rfl := F1.2 (by omega)
                obtain rfl := F2
                clear F1 hv HF hcv
                go_wp2_with (fail)
                refine (wakes_any _).mono ?_
                rintro e w6 ⟨rfl, b6⟩
                have HB6 := Lib.hid (HB5.out.trans (b6.mono HB5.out.size))
                clear b6
                go_wp2
                go_ret
                exact ⟨rfl, HB6.out⟩
              have q9 : ((c.toNat : Int) == 9) = false := by simpa using k9
              by_cases k10 : (c.toNat : Int) = 10
              · have q10 : ((c.toNat : Int) == 10) = true := by simpa using k10
                have hcv : c = 10 := (byte_int c 10 (by omega)).2 (by omega)
                generalize sign c = bb
                have hv : want c = 3 := by rw [hcv]; decide
                obtain ⟨F1, F2⟩ := HF.out
                rw [hv] at F1 F2
                obtain rfl := F1.2 (by omega)
                obtain rfl := F2
                clear F1 hv HF hcv
                go_wp2_with (fail)
                refine (wakes_any _).mono ?_
                rintro e w6 ⟨rfl, b6⟩
                have HB6 := Lib.hid (HB5.out.trans (b6.mono HB5.out.size))
                clear b6
                go_wp2
                go_ret
                exact ⟨rfl, HB6.out⟩
              have q10 : ((c.toNat : Int) == 10) = false := by simpa using k10
              have hws := want_sign hinw (fun e => k35 ((byte_int c 35 (by omega)).1 e)) (fun e => by
                rcases e with e | e | e
                · exact k32 ((byte_int c 32 (by omega)).1 e)
                · exact k9 ((byte_int c 9 (by omega)).1 e)
                · exact k10 ((byte_int c 10 (by omega)).1 e))
              have HWS := Lib.hid hws
              clear hws
              cases hsg : sign c
              · have HSG := Lib.hid hsg
                clear hsg
                have hv : want c = 0 := by rw [HWS.out, HSG.out]; rfl
                obtain ⟨F1, F2⟩ := HF.out
                rw [hv] at F1 F2
                have hx0 : ((x3 : Int) == 0) = false := by simp; have := F1.1; omega
                obtain rfl := F2
                clear F1 hv HF
                go_wp2_with (fail)
                refine (wakes_any _).mono ?_
                rintro e w6 ⟨rfl, b6⟩
                have HB6 := Lib.hid (HB5.out.trans (b6.mono HB5.out.size))
                clear b6
                go_wp2
                go_ret
                exact ⟨rfl, HB6.out⟩
              · have HSG := Lib.hid hsg
                clear hsg
                have hv : want c = 4 := by rw [HWS.out, HSG.out]; rfl
                obtain ⟨F1, F2⟩ := HF.out
                rw [hv] at F1 F2
                obtain rfl := F1.2 (by omega)
                obtain rfl := F2
                clear F1 hv HF
                go_wp2_with (fail)
                refine (wakes_any _).mono ?_
                rintro e w6 ⟨rfl, b6⟩
                have HB6 := Lib.hid (HB5.out.trans (b6.mono HB5.out.size))
                clear b6
                go_wp2
                go_ret
                exact ⟨rfl, HB6.out⟩
        · have _u : True := trivial
          have s0 : decide (97 ≤ (c.toNat : Int)) = false := by simpa using r0
          have s1 : decide (48 ≤ (c.toNat : Int)) = true := by simpa using r1
          have s2 : decide ((c.toNat : Int) ≤ 57) = false := by simpa using r2
          have s3 : ((c.toNat : Int) == 95) = false := by simpa using r3
          go_wp2_with (fail)
          generalize w4.alloc (.cells #[.int .u8 40, .int .u8 41, .int .u8 123, .int .u8 125, .int .u8 91, .int .u8 93, .int .u8 44, .int .u8 59, .int .u8 58, .int .u8 61, .int .u8 46, .int .u8 43, .int .u8 45, .int .u8 42, .int .u8 60, .int .u8 94, .int .u8 33, .int .u8 63] 5 (18, 19)) = W5 at HB5 HCL ⊢
          obtain ⟨g, hg⟩ : ∃ g, g = w4.heap.size := ⟨_, rfl⟩
          rw [← hg] at HCL ⊢
          clear hg hconst
          go_loop [22, 24, 141] (fun u _ i => ∃ j : Nat, j ≤ 18 ∧ i = .int .i64 j ∧ u = .bool (hasS c j)) (fun _ _ i => 18 - (intOf i).toNat)
          case atStart => exact ⟨0, Nat.zero_le _, rfl, rfl⟩
          case round =>
            obtain ⟨j, hj, rfl, rfl⟩ := hrel
            by_cases hjl : j < 18
            · have hji : (j : Int) < 18 := by omega
              have hcl := HCL.out j hjl
              have HSU := Lib.hid (hasS_succ c j hjl)
              have hb : (signs[j].toNat : Int) < 256 := by have := signs[j].toNat_lt; omega
              have hb0 : (0 : Int) ≤ (signs[j].toNat : Int) := by omega
              generalize (signs[j].toNat : Int) = z at hcl HSU hb hb0
              generalize hasS c j = bb at HSU
              cases bb
              · by_cases hz : (c.toNat : Int) = z
                · have hz2 : ((c.toNat : Int) == z) = true := by simpa using hz
                  have HZ := Lib.hid hz
                  clear hz
                  go_wp2
                  go_round
                  case rel => exact ⟨j + 1, by omega, by go_num, by rw [HSU.out]; simp [HZ.out]⟩
                  case measure => simp [intOf]; omega
                · have hz2 : ((c.toNat : Int) == z) = false := by simpa using hz
                  have HZ := Lib.hid hz
                  clear hz
                  go_wp2
                  go_round
                  case rel => exact ⟨j + 1, by omega, by go_num, by rw [HSU.out]; simp [HZ.out]⟩
                  case measure => simp [intOf]; omega
              · go_wp2
                go_round
                case rel => exact ⟨j + 1, by omega, by go_num, by rw [HSU.out]; rfl⟩
                case measure => simp [intOf]; omega
            · have hji : ¬ (j : Int) < 18 := by omega
              obtain rfl : j = 18 := by omega
              rw [hasS_all]
              have hinw : inWord c = false := not_inWord (by rw [Bool.eq_false_iff]; intro e; have := letter_iff.1 e; omega) (by rw [Bool.eq_false_iff]; intro e; have := digit_iff.1 e; omega) (by omega)
              by_cases k35 : (c.toNat : Int) = 35
              · have q35 : ((c.toNat : Int) == 35) = true := by simpa using k35
                have hcv : c = 35 := (byte_int c 35 (by omega)).2 (by omega)
                generalize sign c = bb
                have hv : want c = 2 := by rw [hcv]; decide
                obtain ⟨F1, F2⟩ := HF.out
                rw [hv] at F1 F2
                obtain rfl := F1.2 (by omega)
                obtain rfl := F2
                clear F1 hv HF hcv
                go_wp2_with (fail)
                refine (wakes_any _).mono ?_
                rintro e w6 ⟨rfl, b6⟩
                have HB6 := Lib.hid (HB5.out.trans (b6.mono HB5.out.size))
                clear b6
                go_wp2
                go_ret
                exact ⟨rfl, HB6.out⟩
              have q35 : ((c.toNat : Int) == 35) = false := by simpa using k35
              by_cases k32 : (c.toNat : Int) = 32
              · have q32 : ((c.toNat : Int) == 32) = true := by simpa using k32
                have hcv : c = 32 := (byte_int c 32 (by omega)).2 (by omega)
                generalize sign c = bb
                have hv : want c = 3 := by rw [hcv]; decide
                obtain ⟨F1, F2⟩ := HF.out
                rw [hv] at F1 F2
                obtain rfl := F1.2 (by omega)
                obtain rfl := F2
                clear F1 hv HF hcv
                go_wp2_with (fail)
                refine (wakes_any _).mono ?_
                rintro e w6 ⟨rfl, b6⟩
                have HB6 := Lib.hid (HB5.out.trans (b6.mono HB5.out.size))
                clear b6
                go_wp2
                go_ret
                exact ⟨rfl, HB6.out⟩
              have q32 : ((c.toNat : Int) == 32) = false := by simpa using k32
              by_cases k9 : (c.toNat : Int) = 9
              · have q9 : ((c.toNat : Int) == 9) = true := by simpa using k9
                have hcv : c = 9 := (byte_int c 9 (by omega)).2 (by omega)
                generalize sign c = bb
                have hv : want c = 3 := by rw [hcv]; decide
                obtain ⟨F1, F2⟩ := HF.out
                rw [hv] at F1 F2
                obtain rfl := F1.2 (by omega)
                obtain rfl := F2
                clear F1 hv HF hcv
                go_wp2_with (fail)
                refine (wakes_any _).mono ?_
                rintro e w6 ⟨rfl, b6⟩
                have HB6 := Lib.hid (HB5.out.trans (b6.mono HB5.out.size))
                clear b6
                go_wp2
                go_ret
                exact ⟨rfl, HB6.out⟩
              have q9 : ((c.toNat : Int) == 9) = false := by simpa using k9
              by_cases k10 : (c.toNat : Int) = 10
              · have q10 : ((c.toNat : Int) == 10) = true := by simpa using k10
                have hcv : c = 10 := (byte_int c 10 (by omega)).2 (by omega)
                generalize sign c = bb
                have hv : want c = 3 := by rw [hcv]; decide
                obtain ⟨F1, F2⟩ := HF.out
                rw [hv] at F1 F2
                obtain rfl := F1.2 (by omega)
                obtain rfl := F2
                clear F1 hv HF hcv
                go_wp2_with (fail)
                refine (wakes_any _).mono ?_
                rintro e w6 ⟨rfl, b6⟩
                have HB6 := Lib.hid (HB5.out.trans (b6.mono HB5.out.size))
                clear b6
                go_wp2
                go_ret
                exact ⟨rfl, HB6.out⟩
              have q10 : ((c.toNat : Int) == 10) = false := by simpa using k10
              have hws := want_sign hinw (fun e => k35 ((byte_int c 35 (by omega)).1 e)) (fun e => by
                rcases e with e | e | e
                · exact k32 ((byte_int c 32 (by omega)).1 e)
                · exact k9 ((byte_int c 9 (by omega)).1 e)
                · exact k10 ((byte_int c 10 (by omega)).1 e))
              have HWS := Lib.hid hws
              clear hws
              cases hsg : sign c
              · have HSG := Lib.hid hsg
                clear hsg
                have hv : want c = 0 := by rw [HWS.out, HSG.out]; rfl
                obtain ⟨F1, F2⟩ := HF.out
                rw [hv] at F1 F2
                have hx0 : ((x3 : Int) == 0) = false := by simp; have := F1.1; omega
                obtain rfl := F2
                clear F1 hv HF
                go_wp2_with (fail)
                refine (wakes_any _).mono ?_
                rintro e w6 ⟨rfl, b6⟩
                have HB6 := Lib.hid (HB5.out.trans (b6.mono HB5.out.size))
                clear b6
                go_wp2
                go_ret
                exact ⟨rfl, HB6.out⟩
              · have HSG := Lib.hid hsg
                clear hsg
                have hv : want c = 4 := by rw [HWS.out, HSG.out]; rfl
                obtain ⟨F1, F2⟩ := HF.out
                rw [hv] at F1 F2
                obtain rfl := F1.2 (by omega)
                obtain rfl := F2
                clear F1 hv HF
                go_wp2_with (fail)
                refine (wakes_any _).mono ?_
                rintro e w6 ⟨rfl, b6⟩
                have HB6 := Lib.hid (HB5.out.trans (b6.mono HB5.out.size))
                clear b6
                go_wp2
                go_ret
                exact ⟨rfl, HB6.out⟩
        · have _u : True := trivial
          have s0 : decide (97 ≤ (c.toNat : Int)) = true := by simpa using r0
          have s1 : decide ((c.toNat : Int) ≤ 122) = false := by simpa using r1
          have s2 : decide (48 ≤ (c.toNat : Int)) = true := by simpa using r2
          have s3 : decide ((c.toNat : Int) ≤ 57) = false := by simpa using r3
          have s4 : ((c.toNat : Int) == 95) = false := by simpa using r4
          go_wp2_with (fail)
          generalize w4.alloc (.cells #[.int .u8 40, .int .u8 41, .int .u8 123, .int .u8 125, .int .u8 91, .int .u8 93, .int .u8 44, .int .u8 59, .int .u8 58, .int .u8 61, .int .u8 46, .int .u8 43, .int .u8 45, .int .u8 42, .int .u8 60, .int .u8 94, .int .u8 33, .int .u8 63] 5 (18, 19)) = W5 at HB5 HCL ⊢
          obtain ⟨g, hg⟩ : ∃ g, g = w4.heap.size := ⟨_, rfl⟩
          rw [← hg] at HCL ⊢
          clear hg hconst
          go_loop [22, 24, 141] (fun u _ i => ∃ j : Nat, j ≤ 18 ∧ i = .int .i64 j ∧ u = .bool (hasS c j)) (fun _ _ i => 18 - (intOf i).toNat)
          case atStart => exact ⟨0, Nat.zero_le _, rfl, rfl⟩
          case round =>
            obtain ⟨j, hj, rfl, rfl⟩ := hrel
            by_cases hjl : j < 18
            · have hji : (j : Int) < 18 := by omega
              have hcl := HCL.out j hjl
              have HSU := Lib.hid (hasS_succ c j hjl)
              have hb : (signs[j].toNat : Int) < 256 := by have := signs[j].toNat_lt; omega
              have hb0 : (0 : Int) ≤ (signs[j].toNat : Int) := by omega
              generalize (signs[j].toNat : Int) = z at hcl HSU hb hb0
              generalize hasS c j = bb at HSU
              cases bb
              · by_cases hz : (c.toNat : Int) = z
                · have hz2 : ((c.toNat : Int) == z) = true := by simpa using hz
                  have HZ := Lib.hid hz
                  clear hz
                  go_wp2
                  go_round
                  case rel => exact ⟨j + 1, by omega, by go_num, by rw [HSU.out]; simp [HZ.out]⟩
                  case measure => simp [intOf]; omega
                · have hz2 : ((c.toNat : Int) == z) = false := by simpa using hz
                  have HZ := Lib.hid hz
                  clear hz
                  go_wp2
                  go_round
                  case rel => exact ⟨j + 1, by omega, by go_num, by rw [HSU.out]; simp [HZ.out]⟩
                  case measure => simp [intOf]; omega
              · go_wp2
                go_round
                case rel => exact ⟨j + 1, by omega, by go_num, by rw [HSU.out]; rfl⟩
                case measure => simp [intOf]; omega
            · have hji : ¬ (j : Int) < 18 := by omega
              obtain rfl : j = 18 := by omega
              rw [hasS_all]
              have hinw : inWord c = false := not_inWord (by rw [Bool.eq_false_iff]; intro e; have := letter_iff.1 e; omega) (by rw [Bool.eq_false_iff]; intro e; have := digit_iff.1 e; omega) (by omega)
              by_cases k35 : (c.toNat : Int) = 35
              · have q35 : ((c.toNat : Int) == 35) = true := by simpa using k35
                have hcv : c = 35 := (byte_int c 35 (by omega)).2 (by omega)
                generalize sign c = bb
                have hv : want c = 2 := by rw [hcv]; decide
                obtain ⟨F1, F2⟩ := HF.out
                rw [hv] at F1 F2
                obtain rfl := F1.2 (by omega)
                obtain rfl := F2
                clear F1 hv HF hcv
                go_wp2_with (fail)
                refine (wakes_any _).mono ?_
                rintro e w6 ⟨rfl, b6⟩
                have HB6 := Lib.hid (HB5.out.trans (b6.mono HB5.out.size))
                clear b6
                go_wp2
                go_ret
                exact ⟨rfl, HB6.out⟩
              have q35 : ((c.toNat : Int) == 35) = false := by simpa using k35
              by_cases k32 : (c.toNat : Int) = 32
              · have q32 : ((c.toNat : Int) == 32) = true := by simpa using k32
                have hcv : c = 32 := (byte_int c 32 (by omega)).2 (by omega)
                generalize sign c = bb
                have hv : want c = 3 := by rw [hcv]; decide
                obtain ⟨F1, F2⟩ := HF.out
                rw [hv] at F1 F2
                obtain rfl := F1.2 (by omega)
                obtain rfl := F2
                clear F1 hv HF hcv
                go_wp2_with (fail)
                refine (wakes_any _).mono ?_
                rintro e w6 ⟨rfl, b6⟩
                have HB6 := Lib.hid (HB5.out.trans (b6.mono HB5.out.size))
                clear b6
                go_wp2
                go_ret
                exact ⟨rfl, HB6.out⟩
              have q32 : ((c.toNat : Int) == 32) = false := by simpa using k32
              by_cases k9 : (c.toNat : Int) = 9
              · have q9 : ((c.toNat : Int) == 9) = true := by simpa using k9
                have hcv : c = 9 := (byte_int c 9 (by omega)).2 (by omega)
                generalize sign c = bb
                have hv : want c = 3 := by rw [hcv]; decide
                obtain ⟨F1, F2⟩ := HF.out
                rw [hv] at F1 F2
                obtain rfl := F1.2 (by omega)
                obtain rfl := F2
                clear F1 hv HF hcv
                go_wp2_with (fail)
                refine (wakes_any _).mono ?_
                rintro e w6 ⟨rfl, b6⟩
                have HB6 := Lib.hid (HB5.out.trans (b6.mono HB5.out.size))
                clear b6
                go_wp2
                go_ret
                exact ⟨rfl, HB6.out⟩
              have q9 : ((c.toNat : Int) == 9) = false := by simpa using k9
              by_cases k10 : (c.toNat : Int) = 10
              · have q10 : ((c.toNat : Int) == 10) = true := by simpa using k10
                have hcv : c = 10 := (byte_int c 10 (by omega)).2 (by omega)
                generalize sign c = bb
                have hv : want c = 3 := by rw [hcv]; decide
                obtain ⟨F1, F2⟩ := HF.out
                rw [hv] at F1 F2
                obtain rfl := F1.2 (by omega)
                obtain rfl := F2
                clear F1 hv HF hcv
                go_wp2_with (fail)
                refine (wakes_any _).mono ?_
                rintro e w6 ⟨rfl, b6⟩
                have HB6 := Lib.hid (HB5.out.trans (b6.mono HB5.out.size))
                clear b6
                go_wp2
                go_ret
                exact ⟨rfl, HB6.out⟩
              have q10 : ((c.toNat : Int) == 10) = false := by simpa using k10
              have hws := want_sign hinw (fun e => k35 ((byte_int c 35 (by omega)).1 e)) (fun e => by
                rcases e with e | e | e
                · exact k32 ((byte_int c 32 (by omega)).1 e)
                · exact k9 ((byte_int c 9 (by omega)).1 e)
                · exact k10 ((byte_int c 10 (by omega)).1 e))
              have HWS := Lib.hid hws
              clear hws
              cases hsg : sign c
              · have HSG := Lib.hid hsg
                clear hsg
                have hv : want c = 0 := by rw [HWS.out, HSG.out]; rfl
                obtain ⟨F1, F2⟩ := HF.out
                rw [hv] at F1 F2
                have hx0 : ((x3 : Int) == 0) = false := by simp; have := F1.1; omega
                obtain rfl := F2
                clear F1 hv HF
                go_wp2_with (fail)
                refine (wakes_any _).mono ?_
                rintro e w6 ⟨rfl, b6⟩
                have HB6 := Lib.hid (HB5.out.trans (b6.mono HB5.out.size))
                clear b6
                go_wp2
                go_ret
                exact ⟨rfl, HB6.out⟩
              · have HSG := Lib.hid hsg
                clear hsg
                have hv : want c = 4 := by rw [HWS.out, HSG.out]; rfl
                obtain ⟨F1, F2⟩ := HF.out
                rw [hv] at F1 F2
                obtain rfl := F1.2 (by omega)
                obtain rfl := F2
                clear F1 hv HF
                go_wp2_with (fail)
                refine (wakes_any _).mono ?_
                rintro e w6 ⟨rfl, b6⟩
                have HB6 := Lib.hid (HB5.out.trans (b6.mono HB5.out.size))
                clear b6
                go_wp2
                go_ret
                exact ⟨rfl, HB6.out⟩
end Go.Proofs.Ytoogffjmfihbgaa

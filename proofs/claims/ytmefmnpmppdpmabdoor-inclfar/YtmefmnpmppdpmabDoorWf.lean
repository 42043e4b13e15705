import Derived.Test.YtmefmnpmppdpmabDoorWk
/- Plain words: the word that a search tells is one of the linear set and none of the set. -/
namespace Go.Proofs.YtmefmnpmppdpmabDoor
open Go.ChangeShapes Go.WideShapes Go.ChangeAt Go.RowKit

theorem one_at2 {t : Nat} {n : Int} (h : oneOk (t : Int) n = true) (j : Nat) : (oneL (t : Int) n).getD j 0 = if j = t then n else 0 := by
  unfold oneL
  rw [if_pos h, Int.toNat_natCast]
  by_cases hj : j < t + 1
  · rw [tab_at hj]
  · rw [tab_past (by omega), if_neg (by omega)]
theorem pow59 {n : Nat} (hn : n ≤ 59) : (1 : Int) ≤ 2 ^ n ∧ (2 : Int) ^ n ≤ 576460752303423488 := by
  have h1 : 0 < (2 : Nat) ^ n := Nat.two_pow_pos n
  have h2 : (2 : Nat) ^ n ≤ 2 ^ 59 := Nat.pow_le_pow_right (by omega) hn
  have e : (2 : Int) ^ n = ((2 ^ n : Nat) : Int) := by simp
  have e2 : (2 : Nat) ^ 59 = 576460752303423488 := by decide
  rw [e]
  omega
/-- A letter put to a word: each tag of it, 2 to the power of n. -/
theorem tagsGo_at (odd : Int) {n : Nat} (hn : n ≤ 59) : ∀ (k T : Nat) (v : List Int), rightL v = true → (∀ t, T ≤ t → v.getD t 0 < 2 ^ n) → T + k ≤ 12 →
    rightL (tagsGo odd n k T v) = true ∧ ∀ t, (tagsGo odd n k T v).getD t 0 = v.getD t 0 + if T ≤ t ∧ t < T + k then odd / 2 ^ t % 2 * 2 ^ n else 0
  | 0, T, v, hv, _, _ => ⟨hv, fun t => by rw [if_neg (by omega)]; show v.getD t 0 = _; omega⟩
  | k + 1, T, v, hv, hlow, hT => by
    have hp := pow59 hn
    unfold tagsGo
    by_cases hb : odd / 2 ^ T % 2 = 1
    · rw [if_pos hb]
      have ok : oneOk (T : Int) (2 ^ n) = true := one_iff.2 ⟨⟨by omega, by omega⟩, hp.1, by omega⟩
      have hat := one_at2 ok
      have A := add_yes hv (one_right ok) (fun j _ => by
        rw [hat]
        have h1 := right_at hv j
        split
        · next e =>
          have := hlow j (by omega)
          omega
        · omega)
      rw [A.2]
      obtain ⟨r1, r2⟩ := tagsGo_at odd hn k (T + 1) (addT v (oneL (T : Int) (2 ^ n))) (addT_right A.1) (fun t ht => by
        rw [add_at, hat, if_neg (by omega)]
        have := hlow t (by omega)
        omega) (by omega)
      refine ⟨r1, fun t => ?_⟩
      rw [r2, add_at, hat]
      by_cases e : t = T
      · subst e
        rw [if_pos rfl, if_neg (by omega), if_pos (by omega), hb]
        omega
      · rw [if_neg e]
        by_cases h1 : T + 1 ≤ t ∧ t < T + 1 + k
        · rw [if_pos h1, if_pos (by omega)]
          omega
        · rw [if_neg h1, if_neg (by omega)]
          omega
    · rw [if_neg hb]
      obtain ⟨r1, r2⟩ := tagsGo_at odd hn k (T + 1) v hv (fun t ht => hlow t (by omega)) (by omega)
      refine ⟨r1, fun t => ?_⟩
      rw [r2]
      have h0 : odd / 2 ^ T % 2 = 0 := by omega
      by_cases e : t = T
      · subst e
        rw [if_neg (by omega), if_pos (by omega), h0]
        omega
      · by_cases h1 : T + 1 ≤ t ∧ t < T + 1 + k
        · rw [if_pos h1, if_pos (by omega)]
        · rw [if_neg h1, if_neg (by omega)]
theorem word_step {w c : List Int} {n : Nat} (hn : n ≤ 59) (hw : rightL w = true) (hlow : ∀ t, w.getD t 0 < 2 ^ n) (hc : c.length ≤ 12) :
    rightL (wordStep w (oddN c) n) = true ∧ ∀ t, (wordStep w (oddN c) n).getD t 0 = w.getD t 0 + c.getD t 0 % 2 * 2 ^ n := by
  obtain ⟨r1, r2⟩ := tagsGo_at (oddN c) hn 12 0 w hw (fun t _ => hlow t) (by omega)
  refine ⟨r1, fun t => ?_⟩
  have h1 := r2 t
  have h2 := pack_digit c t
  show (tagsGo (oddN c) n 12 0 w).getD t 0 = _
  rw [h1]
  by_cases ht : t < 12
  · rw [if_pos (by omega)]
    show _ + packN c / 2 ^ t % 2 * 2 ^ n = _
    rw [h2]
  · rw [if_neg (by omega), getD_past (l := c) (by omega)]
    simp
/-- What a pair of the search stands for. -/
structure PrOk (a b : List Lin) (j : Nat) (N : Mr) (q : Pr) : Prop where
  right : rightL q.w = true
  low : ∀ t, q.w.getD t 0 < 2 ^ q.n
  read : HasRead a q.w q.n ⟨(j : Int), q.c⟩
  items : q.l = itemsAt b q.w q.n N
  far : q.n ≤ 60
theorem prOk_first {a b : List Lin} (ha : Thin a) {j : Nat} (hj : j < a.length) {N : Mr} : PrOk a b j N (first (linAt a j) b) := by
  refine ⟨right_empty, fun t => by show ([] : List Int).getD t 0 < 2 ^ 0; simp, ?_, rfl, Nat.zero_le _⟩
  refine read_start ha [] _ ?_
  rw [startL_thin ha]
  exact List.mem_map.2 ⟨j, List.mem_range.2 hj, rfl⟩
theorem prOk_step {a b : List Lin} (ha : Thin a) (hb : Thin b) {j : Nat} {N : Mr} (hN : N = none) {q : Pr} (h : PrOk a b j N q) (hn : q.n ≤ 59) {m : Nat} {c : List Int} (hc : chosenL q.c (linAt a j).ps m = some c) :
    PrOk a b j N ⟨halfL c, (nextM N b q.l (oddN c)).1, wordStep q.w (oddN c) q.n, q.n + 1⟩ := by
  have ej : ((⟨(j : Int), q.c⟩ : It).j).toNat = j := Int.toNat_natCast j
  have hS := ha.each _ (lin_mem h.read.ok)
  rw [ej] at hS
  have hf := hS.trim.few
  have h8 : (45 : Int) * ((linAt a j).ps.length : Nat) ≤ 360 := by omega
  obtain ⟨c3, e3, hc3⟩ := chosen_small (K := 45) (by omega) (linAt a j).ps 45 q.c m h.read.ok.small (by omega) hS.pers (by omega)
  rw [hc] at e3
  injection e3 with e3
  subst e3
  obtain ⟨w1, w2⟩ := word_step hn h.right h.low hc3.len
  have hlowq : ∀ t, (wordStep q.w (oddN c) q.n).getD t 0 % 2 ^ q.n = q.w.getD t 0 ∧ (wordStep q.w (oddN c) q.n).getD t 0 / 2 ^ q.n = c.getD t 0 % 2 := fun t => by
    have h0 := (right_at h.right t).1
    have h1 := h.low t
    have hp := (pow59 hn).1
    rw [w2]
    constructor
    · rw [Int.add_mul_emod_self_right, Int.emod_eq_of_lt h0 h1]
    · rw [Int.add_mul_ediv_right _ _ (by omega), Int.ediv_eq_zero_of_lt h0 h1, Int.zero_add]
  have hodd : oddN c = letterN (wordStep q.w (oddN c) q.n) (q.n : Int) := letter_odd w1 (by omega) (fun t => by
    rw [(hlowq t).2]
    omega)
  have hrd : HasRead a (wordStep q.w (oddN c) q.n) q.n ⟨(j : Int), q.c⟩ := by
    obtain ⟨ok, ns, hl, hr⟩ := h.read
    refine ⟨ok, ns, hl, fun t => ?_⟩
    have h1 := hr t
    have h2 : q.w.getD t 0 % 2 ^ q.n = q.w.getD t 0 := Int.emod_eq_of_lt (right_at h.right t).1 (h.low t)
    rw [h1, h2, (hlowq t).1]
  have hitems : itemsAt b (wordStep q.w (oddN c) q.n) q.n N = itemsAt b q.w q.n N := by
    unfold itemsAt
    rw [readGo_congr b q.n 0 (startL b) N (fun i _ hi => ?_)]
    have hi' : i < q.n := by omega
    unfold letterN
    rw [if_pos ⟨w1, by omega, by omega⟩, if_pos ⟨h.right, by omega, by omega⟩, Int.toNat_natCast]
    refine pack_ext (fun t => ?_)
    rw [digit_get, digit_get, w2]
    obtain ⟨k, hk⟩ : ∃ k, q.n = i + 1 + k := ⟨q.n - (i + 1), by omega⟩
    have e1 : c.getD t 0 % 2 * (2 : Int) ^ q.n = (c.getD t 0 % 2 * 2 ^ k * 2) * 2 ^ i := by
      rw [hk, Int.pow_add, Int.pow_succ]
      ac_rfl
    have hpi : (2 : Int) ^ i ≠ 0 := by
      have := (pow59 (show i ≤ 59 by omega)).1
      omega
    rw [e1, Int.add_mul_ediv_right _ _ hpi]
    omega
  have hst := read_step ha w1 (show q.n ≤ 62 by omega) hrd (m := m) (c := c) (by rw [ej]; exact hc) hodd
  refine ⟨w1, fun t => ?_, hst, ?_, by show q.n + 1 ≤ 60; omega⟩
  · show (wordStep q.w (oddN c) q.n).getD t 0 < 2 ^ (q.n + 1)
    rw [w2, Int.pow_succ]
    have h1 := h.low t
    have hp := (pow59 hn).1
    rcases (show c.getD t 0 % 2 = 0 ∨ c.getD t 0 % 2 = 1 by omega) with h2 | h2
    · rw [h2]; omega
    · rw [h2]; omega
  · show (nextM N b q.l (oddN c)).1 = itemsAt b (wordStep q.w (oddN c) q.n) (q.n + 1) N
    rw [items_succ hb _ _ hN, hitems, ← h.items, ← hodd]
end Go.Proofs.YtmefmnpmppdpmabDoor

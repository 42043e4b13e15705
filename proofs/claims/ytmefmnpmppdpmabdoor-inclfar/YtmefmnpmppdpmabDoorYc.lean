import Derived.Test.YtmefmnpmppdpmabDoorYb
/- Plain words: what the five searches of InclFar come to. -/
namespace Go.Proofs.YtmefmnpmppdpmabDoor
open Go.ChangeShapes Go.WideShapes Go.ChangeAt Go.RowKit

section
variable {n k : Int} {N : Mr}
theorem fam_mem (h1 : 1 ≤ n) (h2 : n ≤ 1152921504606846976) (k1 : 1 ≤ k) (k2 : k ≤ 6) (hN : N = none) : ∀ i, i ≤ 60 → (lineP [n] (stepS k) N i).l ∈ famK k := by
  have hf := famOk_yes k1 k2
  unfold famOk at hf
  rw [Bool.and_eq_true, Bool.and_eq_true, List.all_eq_true] at hf
  intro i
  induction i with
  | zero => intro _; exact List.contains_iff_mem.1 hf.1.2
  | succ i ih =>
    intro hi
    have h := hf.2 _ (ih (by omega))
    rw [Bool.and_eq_true] at h
    have hl := line_letter (b := stepS k) (N := N) h1 h2 (show i ≤ 60 by omega)
    have e : (lineP [n] (stepS k) N (i + 1)).l = (nextM N (stepS k) (lineP [n] (stepS k) N i).l (oddN (lineP [n] (stepS k) N i).c)).1 := rfl
    rw [e, hl.1, hl.2, hN]
    rw [hN] at h
    rcases (show n / 2 ^ i % 2 = 0 ∨ n / 2 ^ i % 2 = 1 by omega) with e | e
    · rw [e]; exact List.contains_iff_mem.1 h.1
    · rw [e]; exact List.contains_iff_mem.1 h.2
theorem step_alike (h1 : 1 ≤ n) (h2 : n ≤ 1073741823) (k1 : 1 ≤ k) (k2 : k ≤ 6) (hN : N = none) : ∃ i j, i < j ∧ j ≤ 60 ∧ AlikeP (lineP [n] (stepS k) N i) (lineP [n] (stepS k) N j) := by
  have hf := famOk_yes k1 k2
  unfold famOk at hf
  rw [Bool.and_eq_true, Bool.and_eq_true, decide_eq_true_eq] at hf
  obtain ⟨i, j, hij, hj, e⟩ := php (famK k) (fun i => (lineP [n] (stepS k) N (30 + i)).l) 30 (by omega) (fun i hi => fam_mem h1 (by omega) k1 k2 hN _ (by omega))
  refine ⟨30 + i, 30 + j, by omega, by omega, ?_, e⟩
  rw [(line_empty h1 (by omega) (by omega)).2 (far_zero h1 h2 (by omega)), (line_empty h1 (by omega) (by omega)).2 (far_zero h1 h2 (by omega))]
theorem step_in (h1 : 1 ≤ n) (h2 : n ≤ 1152921504606846976) (k1 : 1 ≤ k) : InS (stepS k) [n] ↔ n % k = 0 := by
  constructor
  · rintro ⟨j, ns, hj, hl, h⟩
    have ej : j = 0 := by simp [stepS] at hj; exact hj
    subst ej
    obtain ⟨m, rfl⟩ : ∃ m, ns = [m] := List.length_eq_one_iff.1 hl
    have h0 := h 0
    have e : (linAt (stepS k) 0).base.getD 0 0 + mulAt (linAt (stepS k) 0).ps [m] 0 = (0 : Int) + ((m : Int) * k + 0) := rfl
    rw [e, one_at, if_pos rfl] at h0
    rw [h0, Int.zero_add, Int.add_zero]
    exact Int.mul_emod_left _ _
  · intro h
    obtain ⟨q, hq⟩ := Int.dvd_of_emod_eq_zero h
    have hq0 : 0 ≤ q := by
      by_cases hneg : 0 ≤ q
      · exact hneg
      · exfalso
        have : k * q ≤ k * (-1) := Int.mul_le_mul_of_nonneg_left (by omega) (by omega)
        omega
    refine ⟨0, [q.toNat], by simp [stepS], rfl, fun t => ?_⟩
    cases t with
    | zero =>
      show n = (0 : Int) + (((q.toNat : Nat) : Int) * k + 0)
      rw [Int.toNat_of_nonneg hq0, Int.zero_add, Int.add_zero, Int.mul_comm]
      exact hq
    | succ t =>
      show [n].getD (t + 1) 0 = (0 : Int) + (((q.toNat : Nat) : Int) * [k].getD (t + 1) 0 + 0)
      simp
/-- One word within the words of any number of k. -/
theorem far_step (h1 : 1 ≤ n) (h2 : n ≤ 1073741823) (k1 : 1 ≤ k) (k2 : k ≤ 6) (hN : N = none) :
    ∃ r, searchM 62 (wordX n) (stepS k) N = some r ∧ r.e = 0 ∧ r.q.length ≤ 61 ∧ (r.ok = true ↔ n % k = 0) := by
  have hb := thin_step k1 k2
  have hw := one_word h1 (show n ≤ 1152921504606846976 by omega)
  obtain ⟨r, hr, he, hq, hc⟩ := line_search (X := wordX n) (b := stepS k) rfl hN (fun i hi => line_err hb hN h1 (by omega) i hi) (step_alike h1 h2 k1 k2 hN)
  have hz : ∀ (j t : Nat), n / 2 ^ j = 0 → [n].getD t 0 / 2 ^ j = 0 := fun j t h => by
    rw [one_at]
    split
    · exact h
    · simp
  refine ⟨r, hr, he, hq, ?_⟩
  rcases hc with ⟨ho, j, hj, hno, _⟩ | ⟨ho, _, j, k', hjk, hk', hal, hno⟩
  · rw [ho]
    refine ⟨(fun h => by cases h), fun h => ?_⟩
    have h0 := (line_empty h1 (by omega) hj).1 hno.1
    have hin := (final_in hb hw (show j ≤ 62 by omega) (fun t => hz j t h0) hN).2 ((step_in h1 (by omega) k1).2 h)
    have hl : (lineP [n] (stepS k) N j).l = itemsAt (stepS k) [n] j N := line_items hb hN h1 (by omega) j hj
    have hf : finalL (lineP [n] (stepS k) N j).l = false := hno.2
    rw [hl] at hf
    unfold itemsAt at hf
    rw [hf] at hin
    cases hin
  · refine ⟨fun _ => ?_, fun _ => ho⟩
    have h0 : n / 2 ^ j = 0 := alike_empty h1 (by omega) hjk hk' hal
    have hce : (lineP [n] (stepS k) N j).c = [] := (line_empty h1 (by omega) (by omega)).2 h0
    have hfin : finalL (lineP [n] (stepS k) N j).l = true := by
      cases hf : finalL (lineP [n] (stepS k) N j).l with
      | true => rfl
      | false => exact absurd ⟨hce, hf⟩ (hno j (Nat.le_refl _))
    rw [line_items hb hN h1 (by omega) j (by omega)] at hfin
    exact (step_in h1 (by omega) k1).1 ((final_in hb hw (show j ≤ 62 by omega) (fun t => hz j t h0) hN).1 hfin)

/-! ### One more -/
theorem next_right (h1 : 1 ≤ n) (h2 : n + 1 ≤ 1152921504606846976) : rightS (nextS (n + 1)) = true := by
  refine rightS_iff.2 ⟨fun z hz => ?_, by simp [nextS]⟩
  rw [nextS, List.mem_singleton] at hz
  subst hz
  exact rightLin_iff.2 ⟨one_word (by omega) (by omega), (rightLin_iff (x := ⟨[], []⟩)).1 (by decide) |>.2⟩
theorem start_one (h1 : 1 ≤ n) (h2 : n + 1 ≤ 1152921504606846976) : startL (nextS (n + 1)) = [⟨0, [n + 1]⟩] := by
  unfold startL
  rw [if_pos (next_right h1 h2)]
  rfl
theorem next_first (h1 : 1 ≤ n) (h2 : n + 1 ≤ 1152921504606846976) (hN : N = none) : nextM N (nextS (n + 1)) [⟨0, [n + 1]⟩] (oddN [n]) = ([], 0, N) := by
  have hr : rightItems (nextS (n + 1)) [⟨0, [n + 1]⟩] = true := by
    have hi : rightIt ⟨0, [n + 1]⟩ = true := one_word (by omega) (by omega)
    have hr0 := next_right h1 h2
    simp [nextS] at hr0
    simp [rightItems, hr0, nextS, rightsI, hi]
  have ho : ¬ oddN [n + 1] = oddN [n] := by
    show ¬ packN [n + 1] = packN [n]
    rw [packN_cons, packN_cons, packN_nil]
    omega
  have hm : maskF ⟨0, [n + 1]⟩ [] (oddN [n]) (2 ^ 0) 0 [] = some [] := by
    show maskF ⟨0, [n + 1]⟩ [] (oddN [n]) 1 0 [] = some []
    unfold maskF
    show maskF ⟨0, [n + 1]⟩ [] (oddN [n]) 0 1 (if oddN [n + 1] = oddN [n] then _ else []) = some []
    rw [if_neg ho]
    rfl
  unfold nextM
  rw [if_pos hr]
  unfold itGo
  have el : (linAt (nextS (n + 1)) ((⟨0, [n + 1]⟩ : It).j).toNat).ps = [] := rfl
  rw [el]
  rw [if_neg (by simp), if_pos (by rw [hN]; rfl)]
  have hm' : maskF ⟨0, [n + 1]⟩ [] (oddN [n]) (2 ^ ([] : List (List Int)).length) 0 [] = some [] := hm
  rw [hm', hN]
  rfl
theorem next_none (h1 : 1 ≤ n) (h2 : n + 1 ≤ 1152921504606846976) (u : Int) : nextM N (nextS (n + 1)) [] u = ([], 0, N) := by
  unfold nextM
  rw [if_pos (by simp [rightItems, next_right h1 h2, rightsI])]
  rfl
theorem next_line (h1 : 1 ≤ n) (h2 : n + 1 ≤ 1152921504606846976) (hN : N = none) : ∀ i, (lineP [n] (nextS (n + 1)) N (i + 1)).l = []
  | 0 => by
    show (nextM N (nextS (n + 1)) (startL (nextS (n + 1))) (oddN [n])).1 = []
    rw [start_one h1 h2, next_first h1 h2 hN]
  | i + 1 => by
    show (nextM N (nextS (n + 1)) (lineP [n] (nextS (n + 1)) N (i + 1)).l _).1 = []
    rw [next_line h1 h2 hN i, next_none h1 h2]
theorem next_err (h1 : 1 ≤ n) (h2 : n + 1 ≤ 1152921504606846976) (hN : N = none) (i : Nat) : (nextM N (nextS (n + 1)) (lineP [n] (nextS (n + 1)) N i).l (oddN (lineP [n] (nextS (n + 1)) N i).c)).2 = (0, N) := by
  cases i with
  | zero =>
    show (nextM N (nextS (n + 1)) (startL (nextS (n + 1))) (oddN [n])).2 = (0, N)
    rw [start_one h1 h2, next_first h1 h2 hN]
  | succ i => rw [next_line h1 h2 hN i, next_none h1 h2]
/-- One word within one more: no, and that word. -/
theorem far_next (h1 : 1 ≤ n) (h2 : n ≤ 1073741823) (hN : N = none) :
    ∃ r, searchM 62 (wordX n) (nextS (n + 1)) N = some r ∧ r.e = 0 ∧ r.q.length ≤ 61 ∧ r.ok = false ∧ r.w = [n] := by
  obtain ⟨r, hr, he, hq, hc⟩ := line_search (X := wordX n) (b := nextS (n + 1)) rfl hN (fun i _ => next_err h1 (by omega) hN i)
    ⟨30, 31, by omega, by omega, by show (lineP [n] (nextS (n + 1)) N 30).c = (lineP [n] (nextS (n + 1)) N 31).c; rw [(line_empty h1 (by omega) (by omega)).2 (far_zero h1 h2 (by omega)), (line_empty h1 (by omega) (by omega)).2 (far_zero h1 h2 (by omega))], by show (lineP [n] (nextS (n + 1)) N 30).l = (lineP [n] (nextS (n + 1)) N 31).l; rw [next_line h1 (by omega) hN 29, next_line h1 (by omega) hN 30]⟩
  refine ⟨r, hr, he, hq, ?_⟩
  rcases hc with ⟨ho, j, hj, hno, hw⟩ | ⟨_, _, j, k', hjk, hk', hal, hno⟩
  · exact ⟨ho, hw.trans (line_whole h1 (by omega) hj hno.1)⟩
  · exfalso
    have h0 : n / 2 ^ j = 0 := alike_empty h1 (by omega) hjk hk' hal
    have hce : (lineP [n] (nextS (n + 1)) N j).c = [] := (line_empty h1 (by omega) (by omega)).2 h0
    cases j with
    | zero => rw [Int.pow_zero, Int.ediv_one] at h0; omega
    | succ j =>
      refine hno (j + 1) (Nat.le_refl _) ⟨hce, ?_⟩
      have hl : (lineP [n] (nextS (n + 1)) N (j + 1)).l = [] := next_line h1 (by omega) hN j
      show finalL (lineP [n] (nextS (n + 1)) N (j + 1)).l = false
      rw [hl]
      rfl
/-! ### Any number, and any number of k -/
def anyX : Lin := ⟨[], [[1]]⟩
def stepX (k : Int) : Lin := ⟨[], [[k]]⟩
def backOk (k : Int) : Bool := match searchM 62 (stepX k) (stepS 1) none with
  | none => false
  | some r => decide (r.e = 0) && decide (r.q.length ≤ 100) && decide (r.ok = true)
theorem far_back (k1 : 2 ≤ k) (k2 : k ≤ 6) : ∃ r, searchM 62 (stepX k) (stepS 1) none = some r ∧ r.e = 0 ∧ r.q.length ≤ 100 ∧ r.ok = true := by
  have h : backOk k = true := by
    rcases (show k = 2 ∨ k = 3 ∨ k = 4 ∨ k = 5 ∨ k = 6 by omega) with rfl | rfl | rfl | rfl | rfl <;> decide +kernel
  unfold backOk at h
  cases hs : searchM 62 (stepX k) (stepS 1) none with
  | none => rw [hs] at h; cases h
  | some r =>
    rw [hs] at h
    simp only [Bool.and_eq_true, decide_eq_true_eq] at h
    exact ⟨r, rfl, h.1.1, h.1.2, h.2⟩
end
end Go.Proofs.YtmefmnpmppdpmabDoor

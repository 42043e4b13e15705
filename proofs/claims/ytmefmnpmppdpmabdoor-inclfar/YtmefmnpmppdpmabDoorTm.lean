import Derived.Test.YtmefmnpmppdpmabDoorWa
import Derived.Test.YtmefmnpmppdpmabDoorTc
import Derived.Test.YtmefmnpmppdpmabDoorCk
/- Plain words: a word's letters put together; what the items' choices cost. -/

/-! Plain words: a word of a set is read to the end. -/
namespace Go.Proofs.YtmefmnpmppdpmabDoor
open Go.ChangeShapes Go.WideShapes Go.ChangeAt Go.RowKit

/-- Periods, each so many times: what they have of tag t. -/
def mulAt : List (List Int) → List Nat → Nat → Int
  | [], _, _ => 0
  | _ :: _, [], _ => 0
  | p :: r, n :: q, t => (n : Int) * p.getD t 0 + mulAt r q t
/-- Which of the numbers are odd. -/
def maskOf : List Nat → Nat
  | [] => 0
  | n :: q => n % 2 + 2 * maskOf q
def halves (ns : List Nat) : List Nat := ns.map (· / 2)
theorem halves_len (ns : List Nat) : (halves ns).length = ns.length := by unfold halves; rw [List.length_map]
theorem mask_lt : ∀ ns : List Nat, maskOf ns < 2 ^ ns.length
  | [] => Nat.one_pos
  | n :: q => by
    have ih := mask_lt q
    have h : n % 2 < 2 := Nat.mod_lt _ (by omega)
    unfold maskOf
    rw [List.length_cons, Nat.pow_succ]
    omega
theorem mul_split (t : Nat) : ∀ (ps : List (List Int)) (ns : List Nat), ns.length = ps.length → mulAt ps ns t = sumAt ps (maskOf ns) t + 2 * mulAt ps (halves ns) t
  | [], _, _ => rfl
  | p :: r, [], h => by simp at h
  | p :: r, n :: q, h => by
    have ih := mul_split t r q (by simpa using h)
    have e : halves (n :: q) = n / 2 :: halves q := rfl
    have e1 : maskOf (n :: q) % 2 = n % 2 := by show (n % 2 + 2 * maskOf q) % 2 = n % 2; omega
    have e2 : maskOf (n :: q) / 2 = maskOf q := by show (n % 2 + 2 * maskOf q) / 2 = maskOf q; omega
    rw [e]
    unfold mulAt sumAt
    rw [e1, e2, ih, Int.mul_add]
    have h2 : n % 2 = 0 ∨ n % 2 = 1 := by omega
    rcases h2 with h2 | h2
    · rw [if_neg (by omega)]
      have e3 : (n : Int) = 2 * ((n / 2 : Nat) : Int) := by omega
      have e4 : (n : Int) * p.getD t 0 = 2 * (((n / 2 : Nat) : Int) * p.getD t 0) := by rw [← Int.mul_assoc, ← e3]
      omega
    · rw [if_pos h2]
      have e3 : (n : Int) = 2 * ((n / 2 : Nat) : Int) + 1 := by omega
      have e4 : (n : Int) * p.getD t 0 = 2 * (((n / 2 : Nat) : Int) * p.getD t 0) + p.getD t 0 := by
        generalize ((n / 2 : Nat) : Int) = v at e3 ⊢
        rw [e3, Int.add_mul, Int.one_mul, Int.mul_assoc]
      omega
theorem mul_pos (t : Nat) : ∀ (ps : List (List Int)) (ns : List Nat), (∀ p ∈ ps, rightL p = true) → 0 ≤ mulAt ps ns t
  | [], _, _ => Int.le_refl _
  | _ :: _, [], _ => Int.le_refl _
  | p :: r, n :: q, h => by
    have ih := mul_pos t r q (fun x hx => h x (List.mem_cons_of_mem _ hx))
    have hp := (right_at (h p (by simp)) t).1
    have := Int.mul_nonneg (show (0 : Int) ≤ (n : Int) by omega) hp
    unfold mulAt
    omega
/-- What is still to be read of w behind d digits, beside a carry. -/
structure ReadsW (s : List Lin) (j : Nat) (w : List Int) (d : Nat) (ns : List Nat) (c : List Int) : Prop where
  len : ns.length = (linAt s j).ps.length
  eq : ∀ t, w.getD t 0 / 2 ^ d = c.getD t 0 + mulAt (linAt s j).ps ns t
  ok : ItOk s ⟨(j : Int), c⟩
theorem ReadsW.step {s : List Lin} (hs : Thin s) {j : Nat} {w : List Int} {d : Nat} {ns : List Nat} {c : List Int} (h : ReadsW s j w d ns c) :
    ∃ c', chosenL c (linAt s j).ps (maskOf ns) = some c' ∧ maskOf ns < 2 ^ (linAt s j).ps.length ∧ (∀ t, c'.getD t 0 % 2 = w.getD t 0 / 2 ^ d % 2) ∧ ReadsW s j w (d + 1) (halves ns) (halfL c') := by
  obtain ⟨c', e, k⟩ := next_ok hs h.ok (maskOf ns)
  rw [show ((⟨(j : Int), c⟩ : It).j).toNat = j from Int.toNat_natCast j] at e
  have hm := mask_lt ns
  rw [h.len] at hm
  have hat : ∀ t, c'.getD t 0 = c.getD t 0 + sumAt (linAt s j).ps (maskOf ns) t := chosen_at _ _ _ _ e
  have hhalf : ∀ t, (halfL c').getD t 0 = c'.getD t 0 / 2 := by
    have hS := hs.each _ (lin_mem h.ok)
    rw [show ((⟨(j : Int), c⟩ : It).j).toNat = j from Int.toNat_natCast j] at hS
    have hf := hS.trim.few
    have h8 : (45 : Int) * ((linAt s j).ps.length : Nat) ≤ 360 := by omega
    obtain ⟨c2, e2, hc2⟩ := chosen_small (K := 45) (by omega) (linAt s j).ps 45 c (maskOf ns) h.ok.small (by omega) hS.pers (by omega)
    rw [e] at e2
    injection e2 with e2
    subst e2
    exact fun t => half_at hc2 t
  refine ⟨c', e, hm, fun t => ?_, ⟨by rw [halves_len]; exact h.len, fun t => ?_, k⟩⟩
  · have h1 := h.eq t
    have h2 := mul_split t (linAt s j).ps ns h.len
    have h3 := hat t
    omega
  · have h1 := h.eq t
    have h2 := mul_split t (linAt s j).ps ns h.len
    have h3 := hat t
    have h4 : w.getD t 0 / 2 ^ (d + 1) = w.getD t 0 / 2 ^ d / 2 := by
      rw [Int.pow_succ, Int.ediv_ediv_of_nonneg (Int.pow_nonneg (by omega))]
    rw [h4, hhalf t]
    omega
theorem digitL_at (w : List Int) (d t : Nat) : (digitL w d).getD t 0 = w.getD t 0 / 2 ^ d := by
  unfold digitL
  rw [List.getD_eq_getElem?_getD, List.getD_eq_getElem?_getD, List.getElem?_map]
  cases w[t]? with
  | none => simp
  | some v => rfl
theorem letter_odd {w c : List Int} (hw : rightL w = true) {d : Nat} (hd : d ≤ 62) (h : ∀ t, c.getD t 0 % 2 = w.getD t 0 / 2 ^ d % 2) : oddN c = letterN w (d : Int) := by
  unfold letterN oddN
  rw [if_pos ⟨hw, by omega, by omega⟩, Int.toNat_natCast]
  exact pack_ext (fun t => by rw [digitL_at]; exact h t)
theorem itGo_keeps {s : List Lin} (hs : Thin s) (letter : Int) : ∀ (l : List It) (M : Mr) (O : List It), M = none → (∀ x ∈ l, ItOk s x) → RiseI O → ∀ z ∈ O, z ∈ (itGo s letter l M O).1
  | [], M, O, _, _, _, z, hz => hz
  | x :: r, M, O, hM, hl, hO, z, hz => by
    have hx := hl x (by simp)
    have h20 : ¬ 20 < (linAt s x.j.toNat).ps.length := by have := (hs.each _ (lin_mem hx)).trim.few; omega
    obtain ⟨O', e⟩ := maskF_some x (linAt s x.j.toNat).ps letter (fun m => by obtain ⟨c, e, _⟩ := next_ok hs hx m; exact ⟨c, e⟩) (2 ^ (linAt s x.j.toNat).ps.length) 0 O
    have hA := maskF_all x _ letter _ 0 O O' hO e
    rw [itGo_0 (p := (true, M)) h20 (spendM_free hM _) rfl e]
    exact itGo_keeps hs letter r M O' hM (fun z hz => hl z (List.mem_cons_of_mem _ hz)) hA.1 z ((hA.2 z).2 (.inl hz))
theorem itGo_has {s : List Lin} (hs : Thin s) (letter : Int) {x : It} {i : Nat} {c : List Int} (hi : i < 2 ^ (linAt s x.j.toNat).ps.length) (hc : chosenL x.c (linAt s x.j.toNat).ps i = some c) (ho : oddN c = letter) :
    ∀ (l : List It) (M : Mr) (O : List It), M = none → (∀ x ∈ l, ItOk s x) → RiseI O → x ∈ l → (⟨x.j, halfL c⟩ : It) ∈ (itGo s letter l M O).1
  | [], M, O, _, _, _, hx => by cases hx
  | y :: r, M, O, hM, hl, hO, hx => by
    have hy := hl y (by simp)
    have h20 : ¬ 20 < (linAt s y.j.toNat).ps.length := by have := (hs.each _ (lin_mem hy)).trim.few; omega
    obtain ⟨O', e⟩ := maskF_some y (linAt s y.j.toNat).ps letter (fun m => by obtain ⟨c, e, _⟩ := next_ok hs hy m; exact ⟨c, e⟩) (2 ^ (linAt s y.j.toNat).ps.length) 0 O
    have hA := maskF_all y _ letter _ 0 O O' hO e
    have hr : ∀ z ∈ r, ItOk s z := fun z hz => hl z (List.mem_cons_of_mem _ hz)
    rw [itGo_0 (p := (true, M)) h20 (spendM_free hM _) rfl e]
    rcases List.mem_cons.1 hx with rfl | hx
    · exact itGo_keeps hs letter r M O' hM hr hA.1 _ ((hA.2 _).2 (.inr ⟨i, c, by omega, by omega, hc, ho, rfl⟩))
    · exact itGo_has hs letter hi hc ho r M O' hM hr hA.1 hx
/-- One digit more is read. -/
theorem reads_next {s : List Lin} (hs : Thin s) {j : Nat} {w : List Int} (hw : rightL w = true) {d : Nat} (hd : d ≤ 62) {l : List It} (hl : ∀ x ∈ l, ItOk s x) {M : Mr} (hM : M = none)
    (h : ∃ ns c, ReadsW s j w d ns c ∧ (⟨(j : Int), c⟩ : It) ∈ l) : ∃ ns c, ReadsW s j w (d + 1) ns c ∧ (⟨(j : Int), c⟩ : It) ∈ (itGo s (letterN w (d : Int)) l M []).1 := by
  obtain ⟨ns, c, hR, hm⟩ := h
  obtain ⟨c', e, hi, ho, hR'⟩ := hR.step hs
  refine ⟨_, _, hR', ?_⟩
  have e1 : ((⟨(j : Int), c⟩ : It).j).toNat = j := Int.toNat_natCast j
  exact itGo_has hs _ (x := ⟨(j : Int), c⟩) (i := maskOf ns) (c := c') (by rw [e1]; exact hi) (by rw [e1]; exact e) (letter_odd hw hd ho) l M [] hM hl ⟨fun z hz => (by cases hz), List.Pairwise.nil⟩ hm
/-- All digits are read: the items are final. -/
theorem reads_final {s : List Lin} (hs : Thin s) {j : Nat} {w : List Int} {d : Nat} (h0 : ∀ t, w.getD t 0 / 2 ^ d = 0) {l : List It} (h : ∃ ns c, ReadsW s j w d ns c ∧ (⟨(j : Int), c⟩ : It) ∈ l) : finalL l = true := by
  obtain ⟨ns, c, hR, hm⟩ := h
  unfold finalL
  rw [List.any_eq_true]
  refine ⟨_, hm, ?_⟩
  rw [decide_eq_true_eq]
  refine zero_empty hR.ok.small.right (fun t => ?_)
  have h1 := hR.eq t
  have hS := hs.each _ (lin_mem hR.ok)
  rw [show ((⟨(j : Int), c⟩ : It).j).toNat = j from Int.toNat_natCast j] at hS
  have h2 := mul_pos t (linAt s j).ps ns (fun p hp => (hS.pers p hp).right)
  have h3 := hR.ok.small.pos t
  rw [h0 t] at h1
  have h4 : (0 : Int) ≤ c.getD t 0 := h3
  show c.getD t 0 = 0
  omega
end Go.Proofs.YtmefmnpmppdpmabDoor

/-! Plain words: a word's letters put together; what the items' choices cost. -/
namespace Go.Proofs.YtmefmnpmppdpmabDoor
open Go.ChangeShapes Go.WideShapes Go.ChangeAt Go.RowKit

/-- One digit of one tag, out of a letter. -/
theorem letter_digit {w : List Int} (hw : rightL w = true) {d : Nat} (hd : d ≤ 62) (t : Nat) : letterN w (d : Int) / 2 ^ t % 2 = w.getD t 0 / 2 ^ d % 2 := by
  unfold letterN
  rw [if_pos ⟨hw, by omega, by omega⟩, Int.toNat_natCast, pack_digit, digitL_at]

/-! ### What a step costs -/
theorem start_all {s : List Lin} (hs : Thin s) : ∀ {k : Nat}, k ≤ s.length → ∀ x ∈ startK s k, ItOk s x := by
  intro k hk x hx
  obtain ⟨i, hi, rfl⟩ := List.mem_map.1 hx
  rw [List.mem_range] at hi
  exact start_ok hs (by omega)
end Go.Proofs.YtmefmnpmppdpmabDoor

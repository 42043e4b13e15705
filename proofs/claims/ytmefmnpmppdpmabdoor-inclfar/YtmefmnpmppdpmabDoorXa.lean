import Derived.Test.YtmefmnpmppdpmabDoorWk
import Derived.Test.YtmefmnpmppdpmabDoorWf
import Derived.Lib.ItoaNum
import Derived.Lib.ItoaLen
import Derived.Lib.ItoaMem
/- Plain words: pairs of a search as the program's texts; how many digits there are; the choices one by one. -/
namespace Go.Proofs.YtmefmnpmppdpmabDoor
open Go.ChangeShapes Go.WideShapes Go.ChangeAt Go.RowKit

/-! ### Texts -/
def isDg (c : UInt8) : Bool := decide (48 ≤ c.toNat) && decide (c.toNat ≤ 57)
def dgNum (l : List UInt8) : Nat := l.foldl (fun n c => n * 10 + (c.toNat - 48)) 0
theorem dgNum_snoc (l : List UInt8) (c : UInt8) : dgNum (l ++ [c]) = dgNum l * 10 + (c.toNat - 48) := by unfold dgNum; rw [List.foldl_append]; rfl
theorem dec_dg (n : Nat) : (∀ c ∈ Lib.decDigits n, isDg c = true) ∧ dgNum (Lib.decDigits n) = n := by
  induction n using Nat.strongRecOn with
  | _ n ih =>
    by_cases h : n < 10
    · have e : Lib.decDigits n = [UInt8.ofNat (48 + n)] := by rw [Lib.decDigits, dif_pos h]
      have ht : (UInt8.ofNat (48 + n)).toNat = 48 + n := by rw [UInt8.toNat_ofNat']; omega
      rw [e]
      refine ⟨fun c hc => ?_, ?_⟩
      · rw [List.mem_singleton] at hc; rw [hc]; unfold isDg; rw [ht]; simp; omega
      · unfold dgNum; simp only [List.foldl_cons, List.foldl_nil]; rw [ht]; omega
    · have e : Lib.decDigits n = Lib.decDigits (n / 10) ++ [UInt8.ofNat (48 + n % 10)] := by rw [Lib.decDigits, dif_neg h]
      have ht : (UInt8.ofNat (48 + n % 10)).toNat = 48 + n % 10 := by rw [UInt8.toNat_ofNat']; omega
      obtain ⟨i1, i2⟩ := ih (n / 10) (by omega)
      rw [e]
      refine ⟨fun c hc => ?_, ?_⟩
      · rcases List.mem_append.1 hc with hc | hc
        · exact i1 c hc
        · rw [List.mem_singleton] at hc; rw [hc]; unfold isDg; rw [ht]; simp; omega
      · rw [dgNum_snoc, i2, ht]; omega
/-- Two texts whose digits end at something that is none. -/
theorem dg_split : ∀ (a b : List UInt8) (x y : UInt8) (r s : List UInt8), (∀ c ∈ a, isDg c = true) → (∀ c ∈ b, isDg c = true) → isDg x = false → isDg y = false → a ++ x :: r = b ++ y :: s → a = b ∧ x = y ∧ r = s
  | [], [], x, y, r, s, _, _, _, _, h => by
    rw [List.nil_append, List.nil_append] at h
    injection h with h1 h2
    exact ⟨rfl, h1, h2⟩
  | [], d :: b, x, y, r, s, _, hb, hx, _, h => by
    rw [List.nil_append, List.cons_append] at h
    injection h with h1 h2
    have := hb d (by simp)
    rw [← h1, hx] at this
    cases this
  | c :: a, [], x, y, r, s, ha, _, _, hy, h => by
    rw [List.nil_append, List.cons_append] at h
    injection h with h1 h2
    have := ha c (by simp)
    rw [h1, hy] at this
    cases this
  | c :: a, d :: b, x, y, r, s, ha, hb, hx, hy, h => by
    rw [List.cons_append, List.cons_append] at h
    injection h with h1 h2
    obtain ⟨e1, e2, e3⟩ := dg_split a b x y r s (fun z hz => ha z (List.mem_cons_of_mem _ hz)) (fun z hz => hb z (List.mem_cons_of_mem _ hz)) hx hy h2
    exact ⟨by rw [h1, e1], e2, e3⟩
/-- A number and what ends it. -/
def numB (n : Int) (x : UInt8) : List UInt8 := Lib.itoa n ++ [x]
theorem itoa_pos {n : Int} (h : 0 ≤ n) : Lib.itoa n = Lib.decDigits n.toNat := by
  obtain ⟨u, rfl⟩ : ∃ u : Nat, n = u := ⟨n.toNat, by omega⟩
  rw [Lib.itoa_nonneg, Int.toNat_natCast]
theorem numB_split {n m : Int} {x y : UInt8} {r s : List UInt8} (hn : 0 ≤ n) (hm : 0 ≤ m) (hx : isDg x = false) (hy : isDg y = false) (h : numB n x ++ r = numB m y ++ s) : n = m ∧ x = y ∧ r = s := by
  unfold numB at h
  rw [itoa_pos hn, itoa_pos hm, List.append_assoc, List.append_assoc] at h
  obtain ⟨e1, e2, e3⟩ := dg_split _ _ x y r s (dec_dg _).1 (dec_dg _).1 hx hy h
  have h2 := (dec_dg n.toNat).2
  rw [e1, (dec_dg m.toNat).2] at h2
  exact ⟨by omega, e2, e3⟩
/-- A word: a blank ends each number. -/
def wordB (c : List Int) : List UInt8 := c.flatMap (fun n => numB n 32)
def itemK (x : It) : List UInt8 := numB x.j 58 ++ wordB x.c
/-- A pair's text. -/
def keyB (c : List Int) (l : List It) : List UInt8 := wordB c ++ l.flatMap itemK
/-- A text that no number with a blank begins. -/
def NoBlank (r : List UInt8) : Prop := r = [] ∨ ∃ n s, 0 ≤ n ∧ r = numB n 58 ++ s
theorem word_split : ∀ (c d : List Int) (r s : List UInt8), (∀ n ∈ c, (0 : Int) ≤ n) → (∀ n ∈ d, (0 : Int) ≤ n) → NoBlank r → NoBlank s → wordB c ++ r = wordB d ++ s → c = d ∧ r = s
  | [], [], r, s, _, _, _, _, h => ⟨rfl, by simpa [wordB] using h⟩
  | [], m :: d, r, s, _, hd, hr, _, h => by
    have h : r = numB m 32 ++ (wordB d ++ s) := by simpa [wordB, List.append_assoc] using h
    rcases hr with e | ⟨n, t, hn, e⟩
    · rw [e] at h; simp [numB] at h
    · rw [e] at h
      have := (numB_split hn (hd m (by simp)) (by decide) (by decide) h).2.1
      exact absurd this (by decide)
  | n :: c, [], r, s, hc, _, _, hs, h => by
    have h : numB n 32 ++ (wordB c ++ r) = s := by simpa [wordB, List.append_assoc] using h
    rcases hs with e | ⟨m, t, hm, e⟩
    · rw [e] at h; simp [numB] at h
    · rw [e] at h
      have := (numB_split (hc n (by simp)) hm (by decide) (by decide) h).2.1
      exact absurd this (by decide)
  | n :: c, m :: d, r, s, hc, hd, hr, hs, h => by
    have h : numB n 32 ++ (wordB c ++ r) = numB m 32 ++ (wordB d ++ s) := by simpa [wordB, List.append_assoc] using h
    obtain ⟨e1, _, e3⟩ := numB_split (hc n (by simp)) (hd m (by simp)) (by decide) (by decide) h
    obtain ⟨e4, e5⟩ := word_split c d r s (fun z hz => hc z (List.mem_cons_of_mem _ hz)) (fun z hz => hd z (List.mem_cons_of_mem _ hz)) hr hs e3
    exact ⟨by rw [e1, e4], e5⟩
theorem right_nat {c : List Int} (h : rightL c = true) : ∀ n ∈ c, (0 : Int) ≤ n := fun n hn => (right_num h n hn).1
theorem items_noBlank {l : List It} (h : TextI l) : NoBlank (l.flatMap itemK) := by
  cases l with
  | nil => exact .inl rfl
  | cons x r => exact .inr ⟨x.j, wordB x.c ++ r.flatMap itemK, (h x (by simp)).2.1, by rw [List.flatMap_cons]; unfold itemK; rw [List.append_assoc]⟩
theorem itemsK_inj : ∀ (l k : List It), TextI l → TextI k → l.flatMap itemK = k.flatMap itemK → l = k
  | [], [], _, _, _ => rfl
  | [], y :: k, _, _, h => by simp [itemK, numB] at h
  | x :: l, [], _, _, h => by simp [itemK, numB] at h
  | x :: l, y :: k, hl, hk, h => by
    obtain ⟨x1, x2, x3⟩ := hl x (by simp)
    obtain ⟨y1, y2, y3⟩ := hk y (by simp)
    have hl' : TextI l := fun z hz => hl z (List.mem_cons_of_mem _ hz)
    have hk' : TextI k := fun z hz => hk z (List.mem_cons_of_mem _ hz)
    rw [List.flatMap_cons, List.flatMap_cons] at h
    have hx : itemK x = numB x.j 58 ++ wordB x.c := rfl
    have hy : itemK y = numB y.j 58 ++ wordB y.c := rfl
    rw [hx, hy, List.append_assoc, List.append_assoc] at h
    obtain ⟨e1, _, h⟩ := numB_split x2 y2 (by decide) (by decide) h
    obtain ⟨e2, h⟩ := word_split _ _ _ _ (right_nat x1) (right_nat y1) (items_noBlank hl') (items_noBlank hk') h
    have ih := itemsK_inj l k hl' hk' h
    obtain ⟨xj, xc⟩ := x
    obtain ⟨yj, yc⟩ := y
    simp only at e1 e2
    rw [e1, e2, ih]
theorem key_inj {c d : List Int} {l k : List It} (hc : rightL c = true) (hd : rightL d = true) (hl : TextI l) (hk : TextI k) (h : keyB c l = keyB d k) : c = d ∧ l = k := by
  unfold keyB at h
  obtain ⟨e1, e2⟩ := word_split _ _ _ _ (right_nat hc) (right_nat hd) (items_noBlank hl) (items_noBlank hk) h
  exact ⟨e1, itemsK_inj l k hl hk e2⟩
theorem numB_len {n : Int} (h0 : 0 ≤ n) (h1 : n ≤ 9223372036854775807) (x : UInt8) : (numB n x).length ≤ 22 := by
  unfold numB
  have := Lib.itoa_length_le n (by omega) h1
  rw [List.length_append, List.length_singleton]
  omega
theorem wordB_len : ∀ {c : List Int}, (∀ n ∈ c, 0 ≤ n ∧ n ≤ 9223372036854775807) → (wordB c).length ≤ 22 * c.length
  | [], _ => by simp [wordB]
  | n :: c, h => by
    have h1 := numB_len (h n (by simp)).1 (h n (by simp)).2 32
    have h2 := wordB_len (c := c) (fun z hz => h z (List.mem_cons_of_mem _ hz))
    have e : wordB (n :: c) = numB n 32 ++ wordB c := rfl
    rw [e, List.length_append, List.length_cons]
    omega
theorem right_i64 {c : List Int} (h : rightL c = true) : ∀ n ∈ c, 0 ≤ n ∧ n ≤ 9223372036854775807 := fun n hn => by
  obtain ⟨k, hk, rfl⟩ := List.getElem_of_mem hn
  have := right_at h k
  rw [getD_at hk] at this
  omega
theorem itemK_len {x : It} (h : rightIt x = true) (h0 : 0 ≤ x.j) (h1 : x.j < 65536) : (itemK x).length ≤ 286 := by
  have h2 := numB_len h0 (by omega) 58
  have h3 := wordB_len (right_i64 (show rightL x.c = true from h))
  have h4 := (right_iff.1 (show rightL x.c = true from h)).1
  unfold itemK
  rw [List.length_append]
  omega
theorem keyB_len {c : List Int} {l : List It} (hc : rightL c = true) (hl : TextI l) : (keyB c l).length ≤ 264 + 286 * l.length := by
  unfold keyB
  have h3 := wordB_len (right_i64 hc)
  have h4 := (right_iff.1 hc).1
  have h5 : ∀ k : List It, TextI k → (k.flatMap itemK).length ≤ 286 * k.length := by
    intro k
    induction k with
    | nil => intro _; simp
    | cons x r ih =>
      intro hk
      obtain ⟨x1, x2, x3⟩ := hk x (by simp)
      have h6 := itemK_len x1 x2 x3
      have h7 := ih (fun z hz => hk z (List.mem_cons_of_mem _ hz))
      rw [List.flatMap_cons, List.length_append, List.length_cons]
      omega
  have := h5 l hl
  rw [List.length_append]
  omega

/-! ### How many digits -/
theorem bitLen_low : ∀ (f x : Nat), x < 2 ^ f → x / 2 ^ Lib.bitLenAux f x = 0 ∧ (0 < Lib.bitLenAux f x → x / 2 ^ (Lib.bitLenAux f x - 1) ≠ 0)
  | 0, x, h => by
    have : x = 0 := by simpa using h
    subst this
    simp [Lib.bitLenAux]
  | f + 1, x, h => by
    unfold Lib.bitLenAux
    by_cases h0 : x = 0
    · subst h0; simp
    · rw [if_neg h0]
      obtain ⟨i1, i2⟩ := bitLen_low f (x / 2) (by rw [Nat.pow_succ] at h; omega)
      constructor
      · rw [Nat.add_comm, Nat.pow_succ', ← Nat.div_div_eq_div_mul]
        exact i1
      · intro _
        rw [Nat.add_sub_cancel_left]
        by_cases h2 : Lib.bitLenAux f (x / 2) = 0
        · rw [h2, Nat.pow_zero, Nat.div_one]; exact h0
        · have := i2 (by omega)
          intro h3
          apply this
          rw [Nat.div_div_eq_div_mul, ← Nat.pow_succ', show (Lib.bitLenAux f (x / 2) - 1).succ = Lib.bitLenAux f (x / 2) by omega]
          exact h3
/-! ### The choices of a pair, as the program makes them -/
/-- What is behind one sum. -/
def readP (_x : Lin) (b : List Lin) (q : Pr) (c : List Int) (Q : List Pr) (M : Mr) : List Pr × Int × Mr :=
  if (nextM M b q.l (oddN c)).2.1 = 0 then
    if metP Q (halfL c) (nextM M b q.l (oddN c)).1 = true then (Q, 0, (nextM M b q.l (oddN c)).2.2)
    else if (spendM (nextM M b q.l (oddN c)).2.2 1).1 = true then (Q ++ [⟨halfL c, (nextM M b q.l (oddN c)).1, wordStep q.w (oddN c) q.n, q.n + 1⟩], 0, (spendM (nextM M b q.l (oddN c)).2.2 1).2)
    else (Q, 7, (spendM (nextM M b q.l (oddN c)).2.2 1).2)
  else (Q, (nextM M b q.l (oddN c)).2)
/-- The first i periods' choices beside a sum. -/
def chGo (x : Lin) (b : List Lin) (q : Pr) : Nat → List Int → List Pr → Mr → List Pr × Int × Mr
  | 0, c, Q, M => readP x b q c Q M
  | i + 1, c, Q, M =>
    if (chGo x b q i c Q M).2.1 = 0 then
      if addOk c (x.ps.getD i []) = true then chGo x b q i (addT c (x.ps.getD i [])) (chGo x b q i c Q M).1 (chGo x b q i c Q M).2.2
      else ((chGo x b q i c Q M).1, 3, (chGo x b q i c Q M).2.2)
    else chGo x b q i c Q M
theorem kids_one {x : Lin} {b : List Lin} {q : Pr} {m : Nat} {c : List Int} (h : chosenL q.c x.ps m = some c) (Q : List Pr) (M : Mr) : kidsGo x b q 1 m Q M = readP x b q c Q M := by
  unfold readP
  by_cases h1 : (nextM M b q.l (oddN c)).2.1 = 0
  · rw [if_pos h1]
    by_cases h2 : metP Q (halfL c) (nextM M b q.l (oddN c)).1 = true
    · rw [if_pos h2, kids_met h h1 h2]; rfl
    · rw [if_neg h2]
      by_cases h3 : (spendM (nextM M b q.l (oddN c)).2.2 1).1 = true
      · rw [if_pos h3, kids_put h h1 h2 h3]; rfl
      · rw [if_neg h3, kids_work h h1 h2 h3]
  · rw [if_neg h1, kids_err h h1]
theorem kids_add (x : Lin) (b : List Lin) (q : Pr) : ∀ (k k2 m : Nat) (Q : List Pr) (M : Mr), kidsGo x b q (k + k2) m Q M =
    if (kidsGo x b q k m Q M).2.1 = 0 then kidsGo x b q k2 (m + k) (kidsGo x b q k m Q M).1 (kidsGo x b q k m Q M).2.2 else kidsGo x b q k m Q M
  | 0, k2, m, Q, M => by
    rw [Nat.zero_add]
    show _ = if (0 : Int) = 0 then kidsGo x b q k2 m Q M else _
    rw [if_pos rfl]
  | k + 1, k2, m, Q, M => by
    have e : k + 1 + k2 = (k + k2) + 1 := by omega
    have e2 : m + (k + 1) = m + 1 + k := by omega
    rw [e, e2]
    cases h : chosenL q.c x.ps m with
    | none =>
      rw [kids_none h, kids_none h]
      rw [if_neg (by show ¬ (3 : Int) = 0; decide)]
    | some c =>
      by_cases h1 : (nextM M b q.l (oddN c)).2.1 = 0
      · by_cases h2 : metP Q (halfL c) (nextM M b q.l (oddN c)).1 = true
        · rw [kids_met h h1 h2, kids_met h h1 h2]
          exact kids_add x b q k k2 (m + 1) Q _
        · by_cases h3 : (spendM (nextM M b q.l (oddN c)).2.2 1).1 = true
          · rw [kids_put h h1 h2 h3, kids_put h h1 h2 h3]
            exact kids_add x b q k k2 (m + 1) _ _
          · rw [kids_work h h1 h2 h3, kids_work h h1 h2 h3]
            rw [if_neg (by show ¬ (7 : Int) = 0; decide)]
      · rw [kids_err h h1, kids_err h h1]
        rw [if_neg h1]
theorem kids_stop {x : Lin} {b : List Lin} {q : Pr} {k m : Nat} {Q : List Pr} {M : Mr} (h : chosenL q.c x.ps m = none) (hk : 0 < k) : kidsGo x b q k m Q M = (Q, 3, M) := by
  obtain ⟨j, rfl⟩ : ∃ j, k = j + 1 := ⟨k - 1, by omega⟩
  exact kids_none h
theorem addOk_at {a b : List Int} (ha : rightL a = true) (hb : rightL b = true) : addOk a b = true ↔ ∀ t, a.getD t 0 + b.getD t 0 ≤ 1152921504606846976 := by
  constructor
  · intro h t
    have h1 := right_at (add_right h) t
    rw [add_at] at h1
    exact h1.2
  · intro h
    exact (add_yes ha hb (fun j _ => h j)).1
theorem chosen_right : ∀ (ps : List (List Int)) (c : List Int) (m : Nat) (s : List Int), rightL c = true → chosenL c ps m = some s → rightL s = true
  | [], c, m, s, hc, h => by
    injection h with h
    subst h
    exact hc
  | p :: r, c, m, s, hc, h => by
    unfold chosenL at h
    split at h
    · split at h
      · next ha => exact chosen_right r _ _ s (add_right ha) h
      · cases h
    · exact chosen_right r _ _ s hc h
theorem chosen_fits : ∀ (ps : List (List Int)) (c : List Int) (m : Nat), rightL c = true → (∀ p ∈ ps, rightL p = true) → (∀ t, c.getD t 0 + sumAt ps m t ≤ 1152921504606846976) → ∃ s, chosenL c ps m = some s
  | [], c, m, _, _, _ => ⟨c, rfl⟩
  | p :: r, c, m, hc, hp, h => by
    have hr : ∀ q ∈ r, rightL q = true := fun q hq => hp q (List.mem_cons_of_mem _ hq)
    unfold chosenL
    by_cases hm : m % 2 = 1
    · rw [if_pos hm]
      have h1 : ∀ t, c.getD t 0 + (p.getD t 0 + sumAt r (m / 2) t) ≤ 1152921504606846976 := fun t => by
        have := h t
        unfold sumAt at this
        rw [if_pos hm] at this
        exact this
      have ha : addOk c p = true := (addOk_at hc (hp p (by simp))).2 (fun t => by
        have h2 := h1 t
        have h3 := (sumAt_le t r (m / 2) hr).1
        omega)
      rw [if_pos ha]
      exact chosen_fits r _ _ (add_right ha) hr (fun t => by
        have := h1 t
        rw [add_at]
        omega)
    · rw [if_neg hm]
      exact chosen_fits r _ _ hc hr (fun t => by
        have := h t
        unfold sumAt at this
        rw [if_neg hm] at this
        omega)
theorem sumAt_more (t : Nat) : ∀ (ps : List (List Int)) (i m : Nat), i < ps.length → m % 2 ^ (i + 1) = 0 → sumAt ps (m + 2 ^ i) t = sumAt ps m t + (ps.getD i []).getD t 0
  | [], i, m, h, _ => by simp at h
  | p :: r, 0, m, _, hm => by
    have hm : m % 2 = 0 := by simpa using hm
    have e1 : (m + 2 ^ 0) % 2 = 1 := by rw [Nat.pow_zero]; omega
    have e2 : (m + 2 ^ 0) / 2 = m / 2 := by rw [Nat.pow_zero]; omega
    unfold sumAt
    rw [if_pos e1, if_neg (by omega), e2, List.getD_cons_zero]
    omega
  | p :: r, i + 1, m, h, hm => by
    have e0 : 2 ^ (i + 1) = 2 * 2 ^ i := by rw [Nat.pow_succ]; omega
    have e00 : 2 ^ (i + 1 + 1) = 2 * 2 ^ (i + 1) := by rw [Nat.pow_succ]; omega
    rw [e00, Nat.mod_mul] at hm
    have h2 : m % 2 = 0 := by omega
    have h3 : m / 2 % 2 ^ (i + 1) = 0 := by omega
    have ih := sumAt_more t r i (m / 2) (by simpa using h) h3
    have e1 : (m + 2 ^ (i + 1)) % 2 = 0 := by omega
    have e2 : (m + 2 ^ (i + 1)) / 2 = m / 2 + 2 ^ i := by omega
    have e3 : sumAt (p :: r) (m + 2 ^ (i + 1)) t = 0 + sumAt r (m / 2 + 2 ^ i) t := by
      show (if _ then _ else _) + sumAt r ((m + 2 ^ (i + 1)) / 2) t = _
      rw [if_neg (by omega), e2]
    have e4 : sumAt (p :: r) m t = 0 + sumAt r (m / 2) t := by
      show (if _ then _ else _) + sumAt r (m / 2) t = _
      rw [if_neg (by omega)]
    rw [e3, e4, ih, List.getD_cons_succ]
    omega
/-- The mask with one period more that is ahead of all that it has. -/
theorem chosen_more (ps : List (List Int)) (c : List Int) (i m : Nat) (s : List Int) (hi : i < ps.length) (hp : ∀ p ∈ ps, rightL p = true) (hc : rightL c = true) (hm : m % 2 ^ (i + 1) = 0) (h : chosenL c ps m = some s) :
    rightL s = true ∧ chosenL c ps (m + 2 ^ i) = if addOk s (ps.getD i []) = true then some (addT s (ps.getD i [])) else none := by
  have hs := chosen_right ps c m s hc h
  have hat := chosen_at ps c m s h
  have hpi : rightL (ps.getD i []) = true := by
    have e : ps.getD i [] = ps[i] := by simp [List.getD, hi]
    rw [e]
    exact hp _ (List.getElem_mem hi)
  refine ⟨hs, ?_⟩
  split
  · next ha =>
    have h1 := (addOk_at hs hpi).1 ha
    obtain ⟨u, hu⟩ := chosen_fits ps c (m + 2 ^ i) hc hp (fun t => by
      rw [sumAt_more t ps i m hi hm]
      have := h1 t
      have := hat t
      omega)
    rw [hu]
    congr 1
    refine right_ext (chosen_right _ _ _ _ hc hu) (add_right ha) (fun t => ?_)
    rw [chosen_at _ _ _ _ hu t, sumAt_more t ps i m hi hm, add_at, hat]
    omega
  · next ha =>
    cases hu : chosenL c ps (m + 2 ^ i) with
    | none => rfl
    | some u =>
      exfalso
      refine ha ((addOk_at hs hpi).2 (fun t => ?_))
      have h1 := chosen_at _ _ _ _ hu t
      rw [sumAt_more t ps i m hi hm] at h1
      have h2 := (right_at (chosen_right _ _ _ _ hc hu) t).2
      have := hat t
      omega
/-- As many choices as there are of the first i periods. -/
theorem ch_kids {x : Lin} {b : List Lin} {q : Pr} (hx : ∀ p ∈ x.ps, rightL p = true) (hq : rightL q.c = true) : ∀ (i m : Nat) (c : List Int) (Q : List Pr) (M : Mr), i ≤ x.ps.length → m % 2 ^ i = 0 → chosenL q.c x.ps m = some c →
    chGo x b q i c Q M = kidsGo x b q (2 ^ i) m Q M
  | 0, m, c, Q, M, _, _, h => by
    rw [Nat.pow_zero, kids_one h]
    rfl
  | i + 1, m, c, Q, M, hi, hm, h => by
    have hm2 : m % 2 ^ i = 0 := by
      have : m % 2 ^ (i + 1) % 2 ^ i = m % 2 ^ i := Nat.mod_mod_of_dvd m ⟨2, Nat.pow_succ 2 i⟩
      rw [hm, Nat.zero_mod] at this
      exact this.symm
    have e : 2 ^ (i + 1) = 2 ^ i + 2 ^ i := by rw [Nat.pow_succ]; omega
    have ih := ch_kids (b := b) hx hq i m c Q M (by omega) hm2 h
    obtain ⟨_, hmore⟩ := chosen_more x.ps q.c i m c (by omega) hx hq hm h
    have hp := Nat.two_pow_pos i
    rw [e, kids_add]
    unfold chGo
    rw [ih]
    split
    · split
      · next ha =>
        rw [if_pos ha] at hmore
        exact ch_kids hx hq i (m + 2 ^ i) _ _ _ (by omega) (by rw [Nat.add_mod_right]; exact hm2) hmore
      · next ha =>
        rw [if_neg ha] at hmore
        rw [kids_stop hmore hp]
    · rfl
end Go.Proofs.YtmefmnpmppdpmabDoor

/- Plain mathematics of words (lists of numbers): right, trimmed, together, without, in order, in all. Nothing of the program. -/
namespace Go.Proofs.YtmefmnpmppdpmabDoor

def okN (n : Int) : Bool := decide (0 ≤ n) && decide (n ≤ 1152921504606846976)
theorem okN_iff {n : Int} : okN n = true ↔ 0 ≤ n ∧ n ≤ 1152921504606846976 := by simp [okN]
theorem okN_no {n : Int} : okN n = false ↔ n < 0 ∨ 1152921504606846976 < n := by
  rw [← Bool.not_eq_true, okN_iff]; omega

/-- The list of n numbers, f of each place. -/
def tab (n : Nat) (f : Nat → Int) : List Int := (List.range n).map f
theorem tab_len (n : Nat) (f : Nat → Int) : (tab n f).length = n := by simp [tab]
theorem tab_at {n : Nat} {f : Nat → Int} {j : Nat} (hj : j < n) : (tab n f).getD j 0 = f j := by simp [tab, List.getD, hj]
theorem tab_past {n : Nat} {f : Nat → Int} {j : Nat} (hj : n ≤ j) : (tab n f).getD j 0 = 0 := by
  simp [tab, List.getD, hj]
theorem tab_get {n : Nat} {f : Nat → Int} {j : Nat} (hj : j < (tab n f).length) : (tab n f)[j] = f j := by simp [tab]
theorem tab_congr {n : Nat} {f g : Nat → Int} (h : ∀ j, j < n → f j = g j) : tab n f = tab n g := by
  unfold tab; exact List.map_congr_left (fun j hj => h j (List.mem_range.1 hj))
theorem tab_set {n : Nat} {f : Nat → Int} (i : Nat) (v : Int) : (tab n f).set i v = tab n (fun j => if j = i then v else f j) := by
  apply List.ext_getElem (by simp [tab])
  intro j h1 h2
  rw [tab_get, List.getElem_set]
  by_cases h : i = j
  · rw [if_pos h, if_pos h.symm]
  · rw [if_neg h, if_neg (fun e => h e.symm), tab_get]
theorem getD_past {l : List Int} {j : Nat} (hj : l.length ≤ j) : l.getD j 0 = 0 := by simp [List.getD, hj]
theorem getD_at {l : List Int} {j : Nat} (hj : j < l.length) : l.getD j 0 = l[j] := by simp [List.getD, hj]
theorem ext_getD {a b : List Int} (hl : a.length = b.length) (h : ∀ j, j < a.length → a.getD j 0 = b.getD j 0) : a = b := by
  apply List.ext_getElem hl
  intro j h1 h2
  have := h j h1
  rwa [getD_at h1, getD_at h2] at this
/-- Right: at most twelve, each from 0 to Far, the last not 0. -/
def rightL (l : List Int) : Bool := decide (l.length ≤ 12) && l.all okN && decide (l = [] ∨ l.getD (l.length - 1) 0 ≠ 0)
theorem right_iff {l : List Int} : rightL l = true ↔ l.length ≤ 12 ∧ (∀ n ∈ l, 0 ≤ n ∧ n ≤ 1152921504606846976) ∧ (l = [] ∨ l.getD (l.length - 1) 0 ≠ 0) := by
  simp only [rightL, Bool.and_eq_true, decide_eq_true_eq, List.all_eq_true, okN_iff, and_assoc]
theorem right_at {l : List Int} (h : rightL l = true) (j : Nat) : 0 ≤ l.getD j 0 ∧ l.getD j 0 ≤ 1152921504606846976 := by
  by_cases hj : j < l.length
  · rw [getD_at hj]; exact (right_iff.1 h).2.1 _ (List.getElem_mem hj)
  · rw [getD_past (by omega)]; omega
theorem right_last {l : List Int} (h : rightL l = true) (hl : 0 < l.length) : l.getD (l.length - 1) 0 ≠ 0 := by
  rcases (right_iff.1 h).2.2 with rfl | h
  · simp at hl
  · exact h
theorem right_of {l : List Int} (h1 : l.length ≤ 12) (h2 : ∀ j, j < l.length → 0 ≤ l.getD j 0 ∧ l.getD j 0 ≤ 1152921504606846976) (h3 : 0 < l.length → l.getD (l.length - 1) 0 ≠ 0) : rightL l = true := by
  rw [right_iff]
  refine ⟨h1, fun n hn => ?_, ?_⟩
  · obtain ⟨j, hj, rfl⟩ := List.getElem_of_mem hn
    have := h2 j hj
    rwa [getD_at hj] at this
  · cases l with
    | nil => exact .inl rfl
    | cons x r => exact .inr (h3 (by simp))
theorem right_long {l : List Int} (h : 12 < l.length) : rightL l = false := by
  rw [← Bool.not_eq_true, right_iff]; omega
theorem right_bad {l : List Int} {j : Nat} (h : okN (l.getD j 0) = false) : rightL l = false := by
  rw [← Bool.not_eq_true]
  intro hr
  have := right_at hr j
  rw [okN_no] at h
  omega
theorem right_zero {l : List Int} (hl : 0 < l.length) (h : l.getD (l.length - 1) 0 = 0) : rightL l = false := by
  rw [← Bool.not_eq_true]
  intro hr
  exact right_last hr hl h

/-- How many numbers are left when the noughts at the end are not counted. -/
def cut : List Int → Nat
  | [] => 0
  | x :: r => if cut r = 0 then (if x = 0 then 0 else 1) else cut r + 1
theorem cut_le : ∀ l : List Int, cut l ≤ l.length
  | [] => Nat.le_refl _
  | x :: r => by
    have := cut_le r
    unfold cut
    simp only [List.length_cons]
    split
    · split <;> omega
    · omega
theorem cut_of : ∀ (l : List Int) (k : Nat), (∀ i, k ≤ i → l.getD i 0 = 0) → (k = 0 ∨ l.getD (k - 1) 0 ≠ 0) → cut l = k
  | [], k, _, h => by
    rcases h with rfl | h
    · rfl
    · simp at h
  | x :: r, 0, h, _ => by
    have h0 : x = 0 := by simpa using h 0 (Nat.le_refl _)
    have := cut_of r 0 (fun i _ => by simpa using h (i + 1) (Nat.zero_le _)) (.inl rfl)
    simp [cut, this, h0]
  | x :: r, k + 1, h, h' => by
    have hx : (x :: r).getD k 0 ≠ 0 := by
      rcases h' with h' | h'
      · omega
      · simpa using h'
    have hr : ∀ i, k ≤ i → r.getD i 0 = 0 := fun i hi => by simpa using h (i + 1) (by omega)
    by_cases hk : k = 0
    · subst hk
      have := cut_of r 0 hr (.inl rfl)
      have hx' : x ≠ 0 := by simpa using hx
      simp [cut, this, hx']
    · have := cut_of r k hr (.inr (by
        obtain ⟨m, rfl⟩ : ∃ m, k = m + 1 := ⟨k - 1, by omega⟩
        simpa using hx))
      simp [cut, this, hk]
theorem cut_past : ∀ (l : List Int) (i : Nat), cut l ≤ i → l.getD i 0 = 0
  | [], i, _ => by simp
  | x :: r, i, h => by
    unfold cut at h
    split at h
    · rename_i h0
      split at h
      · rename_i hx
        cases i with
        | zero => simpa using hx
        | succ i => simpa using cut_past r i (by omega)
      · cases i with
        | zero => omega
        | succ i => simpa using cut_past r i (by omega)
    · cases i with
      | zero => omega
      | succ i => simpa using cut_past r i (by omega)
theorem cut_last : ∀ (l : List Int), 0 < cut l → l.getD (cut l - 1) 0 ≠ 0
  | [], h => by simp [cut] at h
  | x :: r, h => by
    by_cases h0 : cut r = 0
    · by_cases hx : x = 0
      · simp [cut, h0, hx] at h
      · simp [cut, h0, hx]
    · have e : cut (x :: r) = cut r + 1 := by simp [cut, h0]
      have := cut_last r (by omega)
      rw [e]
      obtain ⟨m, hm⟩ : ∃ m, cut r = m + 1 := ⟨cut r - 1, by omega⟩
      rw [hm] at this ⊢
      simpa using this

def trimL (l : List Int) : List Int := l.take (cut l)
theorem trim_len (l : List Int) : (trimL l).length = cut l := by
  have := cut_le l
  simp [trimL]; omega
theorem trim_at (l : List Int) (j : Nat) : (trimL l).getD j 0 = l.getD j 0 := by
  by_cases hj : j < cut l
  · simp [trimL, List.getD, hj]
  · rw [getD_past (by rw [trim_len]; omega), cut_past l j (by omega)]
theorem trim_last {l : List Int} (h : 0 < (trimL l).length) : (trimL l).getD ((trimL l).length - 1) 0 ≠ 0 := by
  rw [trim_at, trim_len]
  rw [trim_len] at h
  exact cut_last l h
theorem trim_of {l : List Int} {k : Nat} (h : ∀ i, k ≤ i → l.getD i 0 = 0) (h' : k = 0 ∨ l.getD (k - 1) 0 ≠ 0) : trimL l = l.take k := by
  unfold trimL; rw [cut_of l k h h']

def normL (l : List Int) : List Int := if rightL (trimL l) then trimL l else []
theorem norm_yes {l : List Int} (h : rightL (trimL l) = true) : normL l = trimL l := by simp [normL, h]
theorem norm_no {l : List Int} (h : rightL (trimL l) = false) : normL l = [] := by simp [normL, h]

/-- One tag. -/
def oneOk (t n : Int) : Bool := decide (0 ≤ t) && decide (t < 12) && decide (1 ≤ n) && decide (n ≤ 1152921504606846976)
def oneL (t n : Int) : List Int := if oneOk t n then tab (t.toNat + 1) (fun j => if j = t.toNat then n else 0) else []
theorem one_iff {t n : Int} : oneOk t n = true ↔ (0 ≤ t ∧ t < 12) ∧ 1 ≤ n ∧ n ≤ 1152921504606846976 := by
  simp [oneOk, and_assoc]
theorem one_right {t n : Int} (h : oneOk t n = true) : rightL (oneL t n) = true := by
  have h' := one_iff.1 h
  unfold oneL
  rw [if_pos h]
  refine right_of ?_ ?_ ?_
  · rw [tab_len]; omega
  · intro j hj
    rw [tab_len] at hj
    rw [tab_at hj]
    split <;> omega
  · intro _
    rw [tab_len, tab_at (by omega), if_pos (by omega)]
    omega

/-- Both together. -/
def addT (a b : List Int) : List Int := tab (max a.length b.length) (fun j => a.getD j 0 + b.getD j 0)
def addFit (a b : List Int) : Bool := (List.range (max a.length b.length)).all fun j => decide (a.getD j 0 + b.getD j 0 ≤ 1152921504606846976)
def addOk (a b : List Int) : Bool := rightL a && rightL b && addFit a b
def addS (a b : List Int) : List Int := if addOk a b then addT a b else []
theorem addFit_iff {a b : List Int} : addFit a b = true ↔ ∀ j, j < max a.length b.length → a.getD j 0 + b.getD j 0 ≤ 1152921504606846976 := by
  simp [addFit, List.all_eq_true]
theorem add_len (a b : List Int) : (addT a b).length = max a.length b.length := tab_len _ _
theorem add_at (a b : List Int) (j : Nat) : (addT a b).getD j 0 = a.getD j 0 + b.getD j 0 := by
  by_cases hj : j < max a.length b.length
  · exact tab_at hj
  · rw [addT, tab_past (by omega), getD_past (l := a) (by omega), getD_past (l := b) (by omega)]; rfl
theorem add_no1 {a b : List Int} (h : rightL a = false) : addOk a b = false ∧ addS a b = [] := by
  have : addOk a b = false := by simp [addOk, h]
  exact ⟨this, by simp [addS, this]⟩
theorem add_no2 {a b : List Int} (h : rightL b = false) : addOk a b = false ∧ addS a b = [] := by
  have : addOk a b = false := by simp [addOk, h]
  exact ⟨this, by simp [addS, this]⟩
theorem add_no3 {a b : List Int} {j : Nat} (hj : j < max a.length b.length) (h : 1152921504606846976 < a.getD j 0 + b.getD j 0) : addOk a b = false ∧ addS a b = [] := by
  have hf : addFit a b = false := by
    rw [← Bool.not_eq_true, addFit_iff]
    intro hh
    have := hh j hj
    omega
  have : addOk a b = false := by simp [addOk, hf]
  exact ⟨this, by simp [addS, this]⟩
theorem add_yes {a b : List Int} (ha : rightL a = true) (hb : rightL b = true) (h : ∀ j, j < max a.length b.length → a.getD j 0 + b.getD j 0 ≤ 1152921504606846976) : addOk a b = true ∧ addS a b = addT a b := by
  have : addOk a b = true := by simp [addOk, ha, hb, addFit_iff.2 h]
  exact ⟨this, by simp [addS, this]⟩

/-- One without the other. -/
def subT (a b : List Int) : List Int := tab a.length (fun j => a.getD j 0 - b.getD j 0)
def subFit (a b : List Int) : Bool := (List.range b.length).all fun j => decide (b.getD j 0 ≤ a.getD j 0)
def subOk (a b : List Int) : Bool := rightL a && rightL b && decide (b.length ≤ a.length) && subFit a b
def subS (a b : List Int) : List Int := if subOk a b then trimL (subT a b) else []
theorem subFit_iff {a b : List Int} : subFit a b = true ↔ ∀ j, j < b.length → b.getD j 0 ≤ a.getD j 0 := by
  simp [subFit, List.all_eq_true]
theorem sub_at {a b : List Int} (h : b.length ≤ a.length) (j : Nat) : (subT a b).getD j 0 = a.getD j 0 - b.getD j 0 := by
  by_cases hj : j < a.length
  · exact tab_at hj
  · rw [subT, tab_past (by omega), getD_past (l := a) (by omega), getD_past (l := b) (by omega)]; rfl
theorem sub_yes {a b : List Int} (ha : rightL a = true) (hb : rightL b = true) (hl : b.length ≤ a.length) (h : ∀ j, j < b.length → b.getD j 0 ≤ a.getD j 0) : subOk a b = true ∧ subS a b = trimL (subT a b) := by
  have : subOk a b = true := by simp [subOk, ha, hb, hl, subFit_iff.2 h]
  exact ⟨this, by simp [subS, this]⟩
theorem sub_right {a b : List Int} (ha : rightL a = true) (hb : rightL b = true) (hl : b.length ≤ a.length) (h : ∀ j, j < b.length → b.getD j 0 ≤ a.getD j 0) : rightL (trimL (subT a b)) = true := by
  refine right_of ?_ ?_ trim_last
  · have := cut_le (subT a b)
    have h2 := (right_iff.1 ha).1
    rw [trim_len]
    rw [subT, tab_len] at this
    unfold subT; omega
  · intro j _
    rw [trim_at, sub_at hl]
    have h1 := right_at ha j
    have h2 := right_at hb j
    by_cases hj : j < b.length
    · have := h j hj; omega
    · rw [getD_past (l := b) (by omega)] at h2 ⊢; omega

/-- In all. -/
def totOk (l : List Int) : Bool := rightL l && decide (l.sum ≤ 1152921504606846976)
def totN (l : List Int) : Int := if totOk l then l.sum else 0
theorem sum_nonneg : ∀ {l : List Int}, (∀ n ∈ l, 0 ≤ n) → 0 ≤ l.sum
  | [], _ => by simp
  | x :: r, h => by
    have h1 := h x (by simp)
    have h2 := sum_nonneg (l := r) (fun n hn => h n (by simp [hn]))
    rw [List.sum_cons]; omega
theorem right_pos {l : List Int} (h : rightL l = true) : ∀ n ∈ l, 0 ≤ n := fun n hn => ((right_iff.1 h).2.1 n hn).1
theorem tot_yes {l : List Int} (hr : rightL l = true) (h : l.sum ≤ 1152921504606846976) : totOk l = true ∧ totN l = l.sum := by
  have : totOk l = true := by simp [totOk, hr, h]
  exact ⟨this, by simp [totN, this]⟩

/-- Order: number by number, the shorter one ahead where one ends. -/
def lex : List Int → List Int → Int
  | [], [] => 0
  | [], _ :: _ => -1
  | _ :: _, [] => 1
  | x :: a, y :: b => if x < y then -1 else if y < x then 1 else lex a b
def sgn (x y : Int) : Int := if x < y then -1 else if y < x then 1 else 0
def orI (p q : Int) : Int := if p = 0 then q else p
def cmpL (a b : List Int) : Int := if rightL a && rightL b then orI (sgn a.length b.length) (lex a b) else 0
theorem lex_step {a b : List Int} {k : Nat} (ha : k < a.length) (hb : k < b.length) : lex (a.drop k) (b.drop k) = if a.getD k 0 < b.getD k 0 then -1 else if b.getD k 0 < a.getD k 0 then 1 else lex (a.drop (k + 1)) (b.drop (k + 1)) := by
  rw [List.drop_eq_getElem_cons ha, List.drop_eq_getElem_cons hb, getD_at ha, getD_at hb, lex]
theorem lex_end {a b : List Int} {k : Nat} (ha : a.length ≤ k) (hb : k < b.length) : lex (a.drop k) (b.drop k) = -1 := by
  rw [List.drop_eq_nil_of_le ha, List.drop_eq_getElem_cons hb, lex]
theorem lex_end' {a b : List Int} {k : Nat} (ha : k < a.length) (hb : b.length ≤ k) : lex (a.drop k) (b.drop k) = 1 := by
  rw [List.drop_eq_nil_of_le hb, List.drop_eq_getElem_cons ha, lex]
theorem lex_both {a b : List Int} {k : Nat} (ha : a.length ≤ k) (hb : b.length ≤ k) : lex (a.drop k) (b.drop k) = 0 := by
  rw [List.drop_eq_nil_of_le hb, List.drop_eq_nil_of_le ha, lex]
theorem lex_neg : ∀ a b : List Int, lex b a = - lex a b
  | [], [] => by simp [lex]
  | [], _ :: _ => by simp [lex]
  | _ :: _, [] => by simp [lex]
  | x :: a, y :: b => by
    have := lex_neg a b
    unfold lex
    by_cases h1 : x < y
    · rw [if_neg (by omega), if_pos h1, if_pos h1]; rfl
    · by_cases h2 : y < x
      · rw [if_pos h2, if_neg h1, if_pos h2]
      · rw [if_neg h2, if_neg h1, if_neg h1, if_neg h2]; exact this
theorem lex_zero : ∀ a b : List Int, lex a b = 0 ↔ a = b
  | [], [] => by simp [lex]
  | [], _ :: _ => by simp [lex]
  | _ :: _, [] => by simp [lex]
  | x :: a, y :: b => by
    have := lex_zero a b
    unfold lex
    by_cases h1 : x < y
    · rw [if_pos h1]; simp; intro h; omega
    · by_cases h2 : y < x
      · rw [if_neg h1, if_pos h2]; simp; intro h; omega
      · rw [if_neg h1, if_neg h2, this]
        have : x = y := by omega
        simp [this]
theorem lex_trans : ∀ a b c : List Int, lex a b ≤ 0 → lex b c ≤ 0 → lex a c ≤ 0
  | [], [], [], _, _ => by simp [lex]
  | [], [], _ :: _, _, _ => by simp [lex]
  | [], _ :: _, [], _, _ => by simp [lex]
  | [], _ :: _, _ :: _, _, _ => by simp [lex]
  | _ :: _, [], _, h, _ => by simp [lex] at h
  | _ :: _, _ :: _, [], _, h => by simp [lex] at h
  | x :: a, y :: b, z :: c, h1, h2 => by
    have ih := lex_trans a b c
    unfold lex at h1 h2 ⊢
    by_cases p1 : x < y <;> by_cases p2 : y < x <;> by_cases p3 : y < z <;> by_cases p4 : z < y <;> simp only [p1, p2, p3, p4, if_true, if_false] at h1 h2 <;> first
      | omega
      | (rw [if_pos (by omega)]; omega)
      | (rw [if_neg (by omega), if_neg (by omega)]; exact ih h1 h2)
theorem sgn_cases (x y : Int) : (x < y ∧ sgn x y = -1) ∨ (x = y ∧ sgn x y = 0) ∨ (y < x ∧ sgn x y = 1) := by
  unfold sgn
  by_cases h1 : x < y
  · simp [h1]
  · by_cases h2 : y < x
    · simp [h1, h2]
    · have : x = y := by omega
      simp [this]
theorem cmp_yes {a b : List Int} (ha : rightL a = true) (hb : rightL b = true) : cmpL a b = orI (sgn a.length b.length) (lex a b) := by simp [cmpL, ha, hb]
theorem cmp_no1 {a b : List Int} (ha : rightL a = false) : cmpL a b = 0 := by simp [cmpL, ha]
theorem cmp_no2 {a b : List Int} (hb : rightL b = false) : cmpL a b = 0 := by simp [cmpL, hb]
section
variable {a b c : List Int}
theorem cmp_neg (ha : rightL a = true) (hb : rightL b = true) : cmpL b a = - cmpL a b := by
  rw [cmp_yes ha hb, cmp_yes hb ha]
  have := lex_neg a b
  unfold orI
  rcases sgn_cases a.length b.length with ⟨h, e⟩ | ⟨h, e⟩ | ⟨h, e⟩ <;> rcases sgn_cases b.length a.length with ⟨h', e'⟩ | ⟨h', e'⟩ | ⟨h', e'⟩ <;> rw [e, e'] <;> first | omega | rfl | simpa using this
theorem cmp_zero (ha : rightL a = true) (hb : rightL b = true) : cmpL a b = 0 ↔ a = b := by
  rw [cmp_yes ha hb]
  have := lex_zero a b
  unfold orI
  rcases sgn_cases a.length b.length with ⟨h, e⟩ | ⟨h, e⟩ | ⟨h, e⟩ <;> rw [e]
  · simp; rintro rfl; omega
  · simpa using this
  · simp; rintro rfl; omega
theorem cmp_trans (ha : rightL a = true) (hb : rightL b = true) (hc : rightL c = true) (h1 : cmpL a b ≤ 0) (h2 : cmpL b c ≤ 0) : cmpL a c ≤ 0 := by
  rw [cmp_yes ha hb] at h1
  rw [cmp_yes hb hc] at h2
  rw [cmp_yes ha hc]
  have ih := lex_trans a b c
  unfold orI at *
  rcases sgn_cases a.length b.length with ⟨h, e⟩ | ⟨h, e⟩ | ⟨h, e⟩ <;> rcases sgn_cases b.length c.length with ⟨h', e'⟩ | ⟨h', e'⟩ | ⟨h', e'⟩ <;> rcases sgn_cases a.length c.length with ⟨h'', e''⟩ | ⟨h'', e''⟩ | ⟨h'', e''⟩ <;>
    rw [e] at h1 <;> rw [e'] at h2 <;> rw [e''] <;> simp at h1 h2 ⊢ <;> first | omega | exact ih h1 h2
end

/-- Small: right, at most twelve numbers, none above m. -/
structure Small (m : Int) (l : List Int) : Prop where
  right : rightL l = true
  len : l.length ≤ 12
  top : ∀ j, l.getD j 0 ≤ m
section
variable {m k : Int} {x y z : List Int}
theorem Small.pos (h : Small m x) (j : Nat) : 0 ≤ x.getD j 0 := (right_at h.right j).1
theorem Small.add (hx : Small m x) (hy : Small k y) (hm : m + k ≤ 1000000000000000) : addOk x y = true ∧ addS x y = addT x y ∧ Small (m + k) (addT x y) := by
  have hle : ∀ j, x.getD j 0 + y.getD j 0 ≤ m + k := fun j => by have := hx.top j; have := hy.top j; omega
  have A := add_yes hx.right hy.right (fun j _ => by have := hle j; omega)
  have hl : (addT x y).length ≤ 12 := by rw [add_len]; have := hx.len; have := hy.len; omega
  refine ⟨A.1, A.2, ?_, hl, fun j => by rw [add_at]; exact hle j⟩
  refine right_of (by omega) (fun j _ => ?_) (fun h0 => ?_)
  · rw [add_at]
    have := hx.pos j; have := hy.pos j; have := hle j
    omega
  · rw [add_at]
    have p1 := hx.pos ((addT x y).length - 1)
    have p2 := hy.pos ((addT x y).length - 1)
    rw [add_len] at h0 p1 p2 ⊢
    by_cases h : x.length ≤ y.length
    · have e : max x.length y.length = y.length := by omega
      rw [e] at h0 p1 p2 ⊢
      have := right_last hy.right (by omega)
      omega
    · have e : max x.length y.length = x.length := by omega
      rw [e] at h0 p1 p2 ⊢
      have := right_last hx.right (by omega)
      omega
theorem sum_bound : ∀ {l : List Int}, (∀ n ∈ l, n ≤ m) → l.sum ≤ l.length * m
  | [], _ => by simp
  | x :: r, h => by
    have h1 := h x (by simp)
    have h2 := sum_bound (l := r) (fun n hn => h n (by simp [hn]))
    rw [List.sum_cons, List.length_cons, Int.natCast_succ, Int.add_mul]; omega
theorem Small.tot (hx : Small m x) (hm : m ≤ 1000) (h0 : 0 ≤ m) : totOk x = true ∧ totN x = x.sum ∧ 0 ≤ x.sum ∧ x.sum ≤ 12000 := by
  have h1 := sum_nonneg (right_pos hx.right)
  have h2 : x.sum ≤ x.length * m := sum_bound (fun n hn => by
    obtain ⟨j, hj, rfl⟩ := List.getElem_of_mem hn
    have := hx.top j
    rwa [getD_at hj] at this)
  have h3 : (x.length : Int) * m ≤ 12 * 1000 := Int.mul_le_mul (by have := hx.len; omega) hm h0 (by omega)
  have T := tot_yes hx.right (by omega)
  exact ⟨T.1, T.2, h1, by omega⟩

theorem Small.take (hx : Small m x) (hy : Small k y) (h : subOk x y = true) : addOk (subS x y) y = true ∧ addS (subS x y) y = x := by
  have h' := h
  simp only [subOk, Bool.and_eq_true, decide_eq_true_eq, subFit_iff] at h'
  obtain ⟨⟨_, hl⟩, hf⟩ := h'
  have S := sub_yes hx.right hy.right hl hf
  have R := sub_right hx.right hy.right hl hf
  rw [S.2]
  have hat : ∀ j, (trimL (subT x y)).getD j 0 + y.getD j 0 = x.getD j 0 := fun j => by rw [trim_at, sub_at hl]; omega
  have A := add_yes R hy.right (fun j _ => by rw [hat]; exact (right_at hx.right j).2)
  refine ⟨A.1, A.2.trans (ext_getD ?_ (fun j _ => by rw [add_at, hat]))⟩
  rw [add_len, trim_len]
  have hc : cut (subT x y) ≤ x.length := by have := cut_le (subT x y); rwa [subT, tab_len] at this
  by_cases he : y.length = x.length
  · omega
  · have : cut (subT x y) = x.length := cut_of _ _ (fun i hi => by rw [sub_at hl, getD_past hi, getD_past (by omega)]; rfl) (.inr (by
      rw [sub_at hl, getD_past (l := y) (by omega)]
      have := right_last hx.right (by omega)
      omega))
    omega
end
end Go.Proofs.YtmefmnpmppdpmabDoor

/-! Plain mathematics of linear sets: a base and rising periods. Nothing of the program. -/
namespace Go.Proofs.YtmefmnpmppdpmabDoor

/-- A word into rising ones, once. -/
def putL (b : List Int) : List (List Int) → List (List Int)
  | [] => [b]
  | x :: r => if cmpL x b < 0 then x :: putL b r else if cmpL x b = 0 then x :: r else b :: x :: r

/-- They are right, not empty, and rise. -/
def risesB : List (List Int) → Bool
  | [] => true
  | x :: r => rightL x && decide (x ≠ []) && (match r with | [] => true | y :: _ => decide (cmpL x y < 0)) && risesB r

/-- Right ones that are not empty. -/
def Goods (l : List (List Int)) : Prop := ∀ x ∈ l, rightL x = true ∧ x ≠ []

/-- Each is behind all ahead of it. -/
def Rise (l : List (List Int)) : Prop := Goods l ∧ l.Pairwise (fun x y => cmpL x y < 0)

theorem cmp_lt_trans {a b c : List Int} (ha : rightL a = true) (hb : rightL b = true) (hc : rightL c = true) (h1 : cmpL a b < 0) (h2 : cmpL b c < 0) : cmpL a c < 0 := by
  have h3 := cmp_trans ha hb hc (by omega) (by omega)
  by_cases h : cmpL a c = 0
  · have e := (cmp_zero ha hc).1 h
    subst e
    have := cmp_neg ha hb
    omega
  · omega
theorem cmp_self {a : List Int} (ha : rightL a = true) : cmpL a a = 0 := (cmp_zero ha ha).2 rfl

theorem rises_iff : ∀ {l : List (List Int)}, risesB l = true ↔ Rise l
  | [] => by simp [risesB, Rise, Goods]
  | [x] => by simp [risesB, Rise, Goods]
  | x :: y :: r => by
    have ih := rises_iff (l := y :: r)
    have e : risesB (x :: y :: r) = (rightL x && decide (x ≠ []) && decide (cmpL x y < 0) && risesB (y :: r)) := rfl
    rw [e, Bool.and_eq_true, Bool.and_eq_true, Bool.and_eq_true, decide_eq_true_eq, decide_eq_true_eq, ih]
    constructor
    · rintro ⟨⟨⟨h1, h2⟩, h3⟩, g, p⟩
      refine ⟨?_, List.pairwise_cons.2 ⟨?_, p⟩⟩
      · intro z hz
        rcases List.mem_cons.1 hz with rfl | hz
        · exact ⟨h1, h2⟩
        · exact g z hz
      · intro z hz
        rcases List.mem_cons.1 hz with rfl | hz'
        · exact h3
        · exact cmp_lt_trans h1 (g y (by simp)).1 (g z hz).1 h3 ((List.pairwise_cons.1 p).1 z hz')
    · rintro ⟨g, p⟩
      have p' := List.pairwise_cons.1 p
      exact ⟨⟨⟨(g x (by simp)).1, (g x (by simp)).2⟩, p'.1 y (by simp)⟩, fun z hz => g z (List.mem_cons_of_mem _ hz), p'.2⟩

theorem put_mem {b : List Int} (hb : rightL b = true) : ∀ {l : List (List Int)}, Goods l → ∀ z, z ∈ putL b l ↔ z = b ∨ z ∈ l
  | [], _, z => by simp [putL]
  | x :: r, g, z => by
    have ih := put_mem hb (l := r) (fun y hy => g y (List.mem_cons_of_mem _ hy)) z
    unfold putL
    split
    · rw [List.mem_cons, ih, List.mem_cons]
      constructor
      · rintro (h | h | h) <;> simp [h]
      · rintro (h | h | h) <;> simp [h]
    · split
      · next h =>
        have e : x = b := (cmp_zero (g x (by simp)).1 hb).1 h
        subst e
        simp
      · simp

theorem put_rise {b : List Int} (hb : rightL b = true) (hn : b ≠ []) : ∀ {l : List (List Int)}, Rise l → Rise (putL b l)
  | [], _ => by
    refine ⟨fun z hz => ?_, by simp [putL]⟩
    simp [putL] at hz
    exact hz ▸ ⟨hb, hn⟩
  | x :: r, ⟨g, p⟩ => by
    have gr : Goods r := fun y hy => g y (List.mem_cons_of_mem _ hy)
    have p' := List.pairwise_cons.1 p
    have ih := put_rise hb hn (l := r) ⟨gr, p'.2⟩
    have hx := g x (by simp)
    unfold putL
    split
    · next h =>
      refine ⟨fun z hz => ?_, List.pairwise_cons.2 ⟨fun z hz => ?_, ih.2⟩⟩
      · rcases List.mem_cons.1 hz with rfl | hz
        · exact hx
        · exact ih.1 z hz
      · rcases (put_mem hb gr z).1 hz with rfl | hz
        · exact h
        · exact p'.1 z hz
    · split
      · exact ⟨g, p⟩
      · next h1 h2 =>
        have h3 : cmpL b x < 0 := by
          have := cmp_neg hx.1 hb
          omega
        refine ⟨fun z hz => ?_, List.pairwise_cons.2 ⟨fun z hz => ?_, p⟩⟩
        · rcases List.mem_cons.1 hz with rfl | hz
          · exact ⟨hb, hn⟩
          · exact g z hz
        · rcases List.mem_cons.1 hz with rfl | hz'
          · exact h3
          · exact cmp_lt_trans hb hx.1 (g z hz).1 h3 (p'.1 z hz')

/-- Rising ones of the same members are the same. -/
theorem rise_ext : ∀ {a b : List (List Int)}, Rise a → Rise b → (∀ z, z ∈ a ↔ z ∈ b) → a = b
  | [], [], _, _, _ => rfl
  | [], y :: _, _, _, h => by have := (h y).2 (by simp); simp at this
  | x :: _, [], _, _, h => by have := (h x).1 (by simp); simp at this
  | x :: r, y :: s, ⟨g, p⟩, ⟨k, q⟩, h => by
    have p' := List.pairwise_cons.1 p
    have q' := List.pairwise_cons.1 q
    have hx := g x (by simp)
    have hy := k y (by simp)
    have e : x = y := by
      rcases List.mem_cons.1 ((h x).1 (by simp)) with e | hx'
      · exact e
      · rcases List.mem_cons.1 ((h y).2 (by simp)) with e | hy'
        · exact e.symm
        · have h1 := q'.1 x hx'
          have h2 := p'.1 y hy'
          have := cmp_neg hx.1 hy.1
          omega
    subst e
    have : r = s := by
      apply rise_ext ⟨fun z hz => g z (List.mem_cons_of_mem _ hz), p'.2⟩ ⟨fun z hz => k z (List.mem_cons_of_mem _ hz), q'.2⟩
      intro z
      constructor
      · intro hz
        rcases List.mem_cons.1 ((h z).1 (List.mem_cons_of_mem _ hz)) with rfl | hz'
        · have := p'.1 z hz
          rw [cmp_self hx.1] at this
          omega
        · exact hz'
      · intro hz
        rcases List.mem_cons.1 ((h z).2 (List.mem_cons_of_mem _ hz)) with rfl | hz'
        · have := q'.1 z hz
          rw [cmp_self hx.1] at this
          omega
        · exact hz'
    rw [this]

/-- All of them, put one by one. -/
def putAll (l ps : List (List Int)) : List (List Int) := ps.foldl (fun l b => putL b l) l
theorem putAll_rise : ∀ {ps l : List (List Int)}, Goods ps → Rise l → Rise (putAll l ps)
  | [], _, _, h => h
  | b :: r, l, g, h => putAll_rise (ps := r) (l := putL b l) (fun z hz => g z (List.mem_cons_of_mem _ hz)) (put_rise (g b (by simp)).1 (g b (by simp)).2 h)
theorem putAll_mem : ∀ {ps l : List (List Int)}, Goods ps → Rise l → ∀ z, z ∈ putAll l ps ↔ z ∈ l ∨ z ∈ ps
  | [], _, _, _, z => by simp [putAll]
  | b :: r, l, g, h, z => by
    have ih := putAll_mem (ps := r) (l := putL b l) (fun z hz => g z (List.mem_cons_of_mem _ hz)) (put_rise (g b (by simp)).1 (g b (by simp)).2 h) z
    have e : putAll l (b :: r) = putAll (putL b l) r := rfl
    rw [e, ih, put_mem (g b (by simp)).1 h.1, List.mem_cons]
    constructor
    · rintro ((h | h) | h) <;> simp [h]
    · rintro (h | h | h) <;> simp [h]
theorem rise_nil : Rise [] := ⟨by simp [Goods], .nil⟩
/-- A linear set in plain words. -/
structure Lin where
  base : List Int
  ps : List (List Int)
  deriving DecidableEq

def rightLin (x : Lin) : Bool := rightL x.base && risesB x.ps
theorem rightLin_iff {x : Lin} : rightLin x = true ↔ rightL x.base = true ∧ Rise x.ps := by
  simp [rightLin, rises_iff]

/-- Is its Norm none though a number of it is not 0? -/
def lostL (b : List Int) : Bool := (normL b).isEmpty && b.any (fun n => decide (n ≠ 0))
def ofOk (b : List Int) (ps : List (List Int)) : Bool := !lostL b && ps.all (fun p => !lostL p)
def ofNorm (ps : List (List Int)) : List (List Int) := (ps.map normL).filter (fun p => decide (p ≠ []))
def ofLin (b : List Int) (ps : List (List Int)) : Lin := if ofOk b ps then ⟨normL b, putAll [] (ofNorm ps)⟩ else ⟨[], []⟩

theorem norm_right (b : List Int) : rightL (normL b) = true := by
  unfold normL
  split
  · assumption
  · decide
theorem ofNorm_good (ps : List (List Int)) : Goods (ofNorm ps) := by
  intro z hz
  simp only [ofNorm, List.mem_filter, List.mem_map, decide_eq_true_eq] at hz
  obtain ⟨⟨p, _, rfl⟩, hn⟩ := hz
  exact ⟨norm_right p, hn⟩
/-- By the first periods that are unlike. -/
def cmpPs : List (List Int) → List (List Int) → Int
  | x :: r, y :: s => orI (cmpL x y) (cmpPs r s)
  | _, _ => 0
def cmpLin (x y : Lin) : Int :=
  if rightLin x && rightLin y then orI (cmpL x.base y.base) (orI (sgn x.ps.length y.ps.length) (cmpPs x.ps y.ps)) else 0
theorem cmpPs_neg : ∀ {a b : List (List Int)}, Goods a → Goods b → cmpPs b a = - cmpPs a b
  | [], [], _, _ => rfl
  | [], _ :: _, _, _ => rfl
  | _ :: _, [], _, _ => rfl
  | x :: r, y :: s, g, k => by
    have ih := cmpPs_neg (a := r) (b := s) (fun z hz => g z (List.mem_cons_of_mem _ hz)) (fun z hz => k z (List.mem_cons_of_mem _ hz))
    have h := cmp_neg (g x (by simp)).1 (k y (by simp)).1
    simp only [cmpPs, orI, h, ih]
    by_cases e : cmpL x y = 0
    · simp [e]
    · rw [if_neg e, if_neg (by omega)]
theorem cmpPs_zero : ∀ {a b : List (List Int)}, Goods a → Goods b → a.length = b.length → (cmpPs a b = 0 ↔ a = b)
  | [], [], _, _, _ => by simp [cmpPs]
  | [], _ :: _, _, _, h => by simp at h
  | _ :: _, [], _, _, h => by simp at h
  | x :: r, y :: s, g, k, h => by
    have ih := cmpPs_zero (a := r) (b := s) (fun z hz => g z (List.mem_cons_of_mem _ hz)) (fun z hz => k z (List.mem_cons_of_mem _ hz)) (by simpa using h)
    have hz := cmp_zero (g x (by simp)).1 (k y (by simp)).1
    simp only [cmpPs, orI, List.cons.injEq]
    by_cases e : cmpL x y = 0
    · rw [if_pos e, ih]
      exact ⟨fun h => ⟨hz.1 e, h⟩, fun h => h.2⟩
    · rw [if_neg e]
      constructor
      · intro h; exact absurd h e
      · rintro ⟨rfl, _⟩; exact hz.2 rfl
theorem cmpPs_trans : ∀ {a b c : List (List Int)}, Goods a → Goods b → Goods c → a.length = b.length → b.length = c.length → cmpPs a b ≤ 0 → cmpPs b c ≤ 0 → cmpPs a c ≤ 0
  | [], _, _, _, _, _, _, _, _, _ => by simp [cmpPs]
  | _ :: _, [], _, _, _, _, h, _, _, _ => by simp at h
  | _ :: _, _ :: _, [], _, _, _, _, h, _, _ => by simp at h
  | x :: r, y :: s, z :: t, g, k, m, h, h', h1, h2 => by
    have ih := cmpPs_trans (a := r) (b := s) (c := t) (fun z hz => g z (List.mem_cons_of_mem _ hz)) (fun z hz => k z (List.mem_cons_of_mem _ hz)) (fun z hz => m z (List.mem_cons_of_mem _ hz)) (by simpa using h) (by simpa using h')
    have hx := (g x (by simp)).1
    have hy := (k y (by simp)).1
    have hz := (m z (by simp)).1
    simp only [cmpPs, orI] at h1 h2 ⊢
    by_cases e1 : cmpL x y = 0
    · rw [if_pos e1] at h1
      have e := (cmp_zero hx hy).1 e1
      subst e
      by_cases e2 : cmpL x z = 0
      · rw [if_pos e2] at h2 ⊢
        exact ih h1 h2
      · rw [if_neg e2] at h2 ⊢
        exact h2
    · rw [if_neg e1] at h1
      by_cases e2 : cmpL y z = 0
      · have e := (cmp_zero hy hz).1 e2
        subst e
        rw [if_neg e1]
        exact h1
      · rw [if_neg e2] at h2
        have := cmp_lt_trans hx hy hz (by omega) (by omega)
        rw [if_neg (by omega)]
        omega

section
variable {x y z : Lin}
theorem cmpLin_neg (hx : rightLin x = true) (hy : rightLin y = true) : cmpLin y x = - cmpLin x y := by
  have X := rightLin_iff.1 hx
  have Y := rightLin_iff.1 hy
  have h1 := cmp_neg X.1 Y.1
  have h2 := cmpPs_neg X.2.1 Y.2.1
  simp only [cmpLin, hx, hy, Bool.and_self, if_true, orI, h1, h2]
  rcases sgn_cases x.ps.length y.ps.length with ⟨_, e⟩ | ⟨_, e⟩ | ⟨_, e⟩ <;> rcases sgn_cases y.ps.length x.ps.length with ⟨_, e'⟩ | ⟨_, e'⟩ | ⟨_, e'⟩ <;> rw [e, e'] <;>
    first
      | (exfalso; omega)
      | (by_cases c : cmpL x.base y.base = 0
         · simp [c]
         · rw [if_neg c, if_neg (by omega)])
theorem cmpLin_zero (hx : rightLin x = true) (hy : rightLin y = true) : cmpLin x y = 0 ↔ x = y := by
  have X := rightLin_iff.1 hx
  have Y := rightLin_iff.1 hy
  have h1 := cmp_zero X.1 Y.1
  simp only [cmpLin, hx, hy, Bool.and_self, if_true, orI]
  constructor
  · intro h
    by_cases c : cmpL x.base y.base = 0
    · rw [if_pos c] at h
      rcases sgn_cases x.ps.length y.ps.length with ⟨_, e⟩ | ⟨e', e⟩ | ⟨_, e⟩
      · rw [e] at h; simp at h
      · rw [e, if_pos rfl] at h
        have h3 := (cmpPs_zero X.2.1 Y.2.1 (by omega)).1 h
        cases x; cases y
        simp only [Lin.mk.injEq]
        exact ⟨h1.1 c, h3⟩
      · rw [e] at h; simp at h
    · rw [if_neg c] at h
      exact absurd h c
  · rintro rfl
    rw [if_pos (h1.2 rfl)]
    rcases sgn_cases x.ps.length x.ps.length with ⟨e', e⟩ | ⟨e', e⟩ | ⟨e', e⟩
    · omega
    · rw [e, if_pos rfl]
      exact (cmpPs_zero X.2.1 Y.2.1 rfl).2 rfl
    · omega
theorem cmpLin_trans (hx : rightLin x = true) (hy : rightLin y = true) (hz : rightLin z = true) (h1 : cmpLin x y ≤ 0) (h2 : cmpLin y z ≤ 0) : cmpLin x z ≤ 0 := by
  have X := rightLin_iff.1 hx
  have Y := rightLin_iff.1 hy
  have Z := rightLin_iff.1 hz
  simp only [cmpLin, hx, hy, hz, Bool.and_self, if_true, orI] at h1 h2 ⊢
  by_cases c1 : cmpL x.base y.base = 0
  · rw [if_pos c1] at h1
    have e := (cmp_zero X.1 Y.1).1 c1
    rw [← e] at h2
    by_cases c2 : cmpL x.base z.base = 0
    · rw [if_pos c2] at h2 ⊢
      have T := @cmpPs_trans x.ps y.ps z.ps X.2.1 Y.2.1 Z.2.1
      rcases sgn_cases x.ps.length y.ps.length with ⟨l1, e1⟩ | ⟨l1, e1⟩ | ⟨l1, e1⟩ <;> rcases sgn_cases y.ps.length z.ps.length with ⟨l2, e2⟩ | ⟨l2, e2⟩ | ⟨l2, e2⟩ <;> rcases sgn_cases x.ps.length z.ps.length with ⟨l3, e3⟩ | ⟨l3, e3⟩ | ⟨l3, e3⟩ <;>
        rw [e1] at h1 <;> rw [e2] at h2 <;> rw [e3] <;>
        first
          | (exfalso; omega)
          | (simp at h1; done)
          | (simp at h2; done)
          | (simp; done)
          | (rw [if_pos rfl] at h1 h2 ⊢; exact T (by omega) (by omega) h1 h2)
    · rw [if_neg c2] at h2 ⊢
      exact h2
  · rw [if_neg c1] at h1
    by_cases c2 : cmpL y.base z.base = 0
    · rw [← (cmp_zero Y.1 Z.1).1 c2, if_neg c1]
      exact h1
    · rw [if_neg c2] at h2
      have := cmp_lt_trans X.1 Y.1 Z.1 (by omega) (by omega)
      rw [if_neg (by omega)]
      omega

/-- The right one is found again, whatever the order, and however often each period is told. -/
theorem of_again {b : List Int} {ps : List (List Int)} (hx : rightLin x = true) (hb : normL b = x.base) (hl : lostL b = false) (hp : ∀ p ∈ ps, lostL p = false) (hm : ∀ q, q ∈ ofNorm ps ↔ q ∈ x.ps) : ofOk b ps = true ∧ ofLin b ps = x := by
  have X := rightLin_iff.1 hx
  have h : ofOk b ps = true := by
    simp only [ofOk, hl, Bool.not_false, Bool.true_and, List.all_eq_true]
    intro p h
    rw [hp p h]; rfl
  refine ⟨h, ?_⟩
  unfold ofLin
  rw [if_pos h, hb]
  have e : putAll [] (ofNorm ps) = x.ps := rise_ext (putAll_rise (ofNorm_good ps) rise_nil) X.2 (fun q => by rw [putAll_mem (ofNorm_good ps) rise_nil]; simp [hm])
  rw [e]

/-- Noughts behind a right word. -/
theorem norm_noughts {q r : List Int} (hq : rightL q = true) (hr : ∀ n ∈ r, n = 0) : normL (q ++ r) = q := by
  have z : ∀ i, q.length ≤ i → (q ++ r).getD i 0 = 0 := by
    intro i hi
    by_cases h : i < (q ++ r).length
    · rw [getD_at h]
      have : (q ++ r)[i] = r[i - q.length]'(by simp at h; omega) := List.getElem_append_right hi
      rw [this]
      exact hr _ (List.getElem_mem _)
    · exact getD_past (by omega)
  have e : trimL (q ++ r) = q := by
    rw [trim_of z ?_]
    · simp
    · by_cases h : q.length = 0
      · exact .inl h
      · right
        have hl : q.length - 1 < (q ++ r).length := by simp; omega
        have := right_last hq (by omega)
        rw [getD_at (by omega)] at this
        rw [getD_at hl, List.getElem_append_left (by omega)]
        exact this
  rw [norm_yes (by rw [e]; exact hq), e]
theorem lost_right {q r : List Int} (hq : rightL q = true) (hr : ∀ n ∈ r, n = 0) : lostL (q ++ r) = false := by
  unfold lostL
  rw [norm_noughts hq hr]
  cases q with
  | nil =>
    simp only [List.nil_append, List.isEmpty_nil, Bool.true_and, List.any_eq_false, decide_eq_true_eq]
    intro n hn h
    exact h (hr n hn)
  | cons _ _ => rfl
theorem norm_zeros {r : List Int} (hr : ∀ n ∈ r, n = 0) : normL r = [] := norm_noughts (q := []) (by decide) hr
theorem lost_zeros {r : List Int} (hr : ∀ n ∈ r, n = 0) : lostL r = false := lost_right (q := []) (by decide) hr
end
end Go.Proofs.YtmefmnpmppdpmabDoor

/-! Plain mathematics of semilinear sets: rising linear sets. Nothing of the program. -/
namespace Go.Proofs.YtmefmnpmppdpmabDoor

theorem cmpLin_lt_trans {a b c : Lin} (ha : rightLin a = true) (hb : rightLin b = true) (hc : rightLin c = true) (h1 : cmpLin a b < 0) (h2 : cmpLin b c < 0) : cmpLin a c < 0 := by
  have h3 := cmpLin_trans ha hb hc (by omega) (by omega)
  by_cases h : cmpLin a c = 0
  · have e := (cmpLin_zero ha hc).1 h
    subst e
    have := cmpLin_neg ha hb
    omega
  · omega

/-- They are right, and rise. -/
def rightS : List Lin → Bool
  | [] => true
  | x :: r => rightLin x && (match r with | [] => true | y :: _ => decide (cmpLin x y < 0)) && rightS r
def GoodS (l : List Lin) : Prop := ∀ x ∈ l, rightLin x = true
def RiseS (l : List Lin) : Prop := GoodS l ∧ l.Pairwise (fun x y => cmpLin x y < 0)

theorem rightS_iff : ∀ {l : List Lin}, rightS l = true ↔ RiseS l
  | [] => by simp [rightS, RiseS, GoodS]
  | [x] => by simp [rightS, RiseS, GoodS]
  | x :: y :: r => by
    have ih := rightS_iff (l := y :: r)
    have e : rightS (x :: y :: r) = (rightLin x && decide (cmpLin x y < 0) && rightS (y :: r)) := rfl
    rw [e, Bool.and_eq_true, Bool.and_eq_true, decide_eq_true_eq, ih]
    constructor
    · rintro ⟨⟨h1, h3⟩, g, p⟩
      refine ⟨?_, List.pairwise_cons.2 ⟨?_, p⟩⟩
      · intro z hz
        rcases List.mem_cons.1 hz with rfl | hz
        · exact h1
        · exact g z hz
      · intro z hz
        rcases List.mem_cons.1 hz with rfl | hz'
        · exact h3
        · exact cmpLin_lt_trans h1 (g y (by simp)) (g z hz) h3 ((List.pairwise_cons.1 p).1 z hz')
    · rintro ⟨g, p⟩
      have p' := List.pairwise_cons.1 p
      exact ⟨⟨g x (by simp), p'.1 y (by simp)⟩, fun z hz => g z (List.mem_cons_of_mem _ hz), p'.2⟩
/-! ### The calls of chapter 7 -/
def oneS : List Lin := [⟨[], []⟩]
theorem addT_right {a b : List Int} (h : addOk a b = true) : rightL (addT a b) = true := by
  simp only [addOk, Bool.and_eq_true] at h
  obtain ⟨⟨ha, hb⟩, hf⟩ := h
  have la := (right_iff.1 ha).1
  have lb := (right_iff.1 hb).1
  refine right_of (by rw [add_len]; omega) (fun j hj => ?_) (fun hp => ?_)
  · rw [add_len] at hj
    rw [add_at]
    have h1 := right_at ha j
    have h2 := right_at hb j
    have h3 := addFit_iff.1 hf j hj
    omega
  · rw [add_len] at hp ⊢
    rw [add_at]
    have h1 := right_at ha (max a.length b.length - 1)
    have h2 := right_at hb (max a.length b.length - 1)
    by_cases hab : b.length ≤ a.length
    · have e : max a.length b.length = a.length := by omega
      have h3 := right_last ha (by omega)
      rw [e] at h1 h2 ⊢
      omega
    · have e : max a.length b.length = b.length := by omega
      have h3 := right_last hb (by omega)
      rw [e] at h1 h2 ⊢
      omega
/-- Right, its base small, its periods few. -/
structure Trim (m : Int) (k : Nat) (x : Lin) : Prop where
  right : rightLin x = true
  base : Small m x.base
  few : x.ps.length ≤ k
/-- A right set of such. -/
structure TrimS (m : Int) (k n : Nat) (s : List Lin) : Prop where
  rise : RiseS s
  each : ∀ x ∈ s, Trim m k x
  few : s.length ≤ n
theorem Trim.mono {m m' : Int} {k k' : Nat} {x : Lin} (h : Trim m k x) (hk : k ≤ k') (hs : Small m x.base → Small m' x.base) : Trim m' k' x := ⟨h.right, hs h.base, Nat.le_trans h.few hk⟩
/-! ### The laws -/
section
variable {x y z : List Lin}
theorem right_empty : rightLin ⟨[], []⟩ = true := by decide
theorem one_rise : RiseS oneS := ⟨fun z hz => by simp [oneS] at hz; subst hz; exact right_empty, by simp [oneS]⟩
end
end Go.Proofs.YtmefmnpmppdpmabDoor

/- Plain mathematics of words (lists of numbers): right, trimmed, together, without, in order, in all. Nothing of the program. -/
namespace Go.Proofs.Ytmbkiefbchjofaa

def okN (n : Int) : Bool := decide (0 ≤ n) && decide (n ≤ 1152921504606846976)
theorem okN_iff {n : Int} : okN n = true ↔ 0 ≤ n ∧ n ≤ 1152921504606846976 := by simp [okN]
theorem okN_no {n : Int} : okN n = false ↔ n < 0 ∨ 1152921504606846976 < n := by
  rw [← Bool.not_eq_true, okN_iff]; omega

/-- The list of n numbers, f of each place. -/
def tab (n : Nat) (f : Nat → Int) : List Int := (List.range n).map f
theorem tab_len (n : Nat) (f : Nat → Int) : (tab n f).length = n := by simp [tab]
theorem tab_at {n : Nat} {f : Nat → Int} {j : Nat} (hj : j < n) : (tab n f).getD j 0 = f j := by simp [tab, List.getD, hj]
theorem tab_past {n : Nat} {f : Nat → Int} {j : Nat} (hj : n ≤ j) : (tab n f).getD j 0 = 0 := by
  simp [tab, List.getD, hj]
theorem tab_get {n : Nat} {f : Nat → Int} {j : Nat} (hj : j < (tab n f).length) : (tab n f)[j] = f j := by simp [tab]
theorem tab_congr {n : Nat} {f g : Nat → Int} (h : ∀ j, j < n → f j = g j) : tab n f = tab n g := by
  unfold tab; exact List.map_congr_left (fun j hj => h j (List.mem_range.1 hj))
theorem tab_set {n : Nat} {f : Nat → Int} (i : Nat) (v : Int) : (tab n f).set i v = tab n (fun j => if j = i then v else f j) := by
  apply List.ext_getElem (by simp [tab])
  intro j h1 h2
  rw [tab_get, List.getElem_set]
  by_cases h : i = j
  · rw [if_pos h, if_pos h.symm]
  · rw [if_neg h, if_neg (fun e => h e.symm), tab_get]
theorem getD_past {l : List Int} {j : Nat} (hj : l.length ≤ j) : l.getD j 0 = 0 := by simp [List.getD, hj]
theorem getD_at {l : List Int} {j : Nat} (hj : j < l.length) : l.getD j 0 = l[j] := by simp [List.getD, hj]
theorem ext_getD {a b : List Int} (hl : a.length = b.length) (h : ∀ j, j < a.length → a.getD j 0 = b.getD j 0) : a = b := by
  apply List.ext_getElem hl
  intro j h1 h2
  have := h j h1
  rwa [getD_at h1, getD_at h2] at this
theorem tab_self (l : List Int) : tab l.length (fun j => l.getD j 0) = l := by
  apply ext_getD (tab_len _ _)
  intro j hj
  rw [tab_len] at hj
  rw [tab_at hj]

/-- Right: at most twelve, each from 0 to Far, the last not 0. -/
def rightL (l : List Int) : Bool := decide (l.length ≤ 12) && l.all okN && decide (l = [] ∨ l.getD (l.length - 1) 0 ≠ 0)
theorem right_iff {l : List Int} : rightL l = true ↔ l.length ≤ 12 ∧ (∀ n ∈ l, 0 ≤ n ∧ n ≤ 1152921504606846976) ∧ (l = [] ∨ l.getD (l.length - 1) 0 ≠ 0) := by
  simp only [rightL, Bool.and_eq_true, decide_eq_true_eq, List.all_eq_true, okN_iff, and_assoc]
theorem right_at {l : List Int} (h : rightL l = true) (j : Nat) : 0 ≤ l.getD j 0 ∧ l.getD j 0 ≤ 1152921504606846976 := by
  by_cases hj : j < l.length
  · rw [getD_at hj]; exact (right_iff.1 h).2.1 _ (List.getElem_mem hj)
  · rw [getD_past (by omega)]; omega
theorem right_last {l : List Int} (h : rightL l = true) (hl : 0 < l.length) : l.getD (l.length - 1) 0 ≠ 0 := by
  rcases (right_iff.1 h).2.2 with rfl | h
  · simp at hl
  · exact h
theorem right_of {l : List Int} (h1 : l.length ≤ 12) (h2 : ∀ j, j < l.length → 0 ≤ l.getD j 0 ∧ l.getD j 0 ≤ 1152921504606846976) (h3 : 0 < l.length → l.getD (l.length - 1) 0 ≠ 0) : rightL l = true := by
  rw [right_iff]
  refine ⟨h1, fun n hn => ?_, ?_⟩
  · obtain ⟨j, hj, rfl⟩ := List.getElem_of_mem hn
    have := h2 j hj
    rwa [getD_at hj] at this
  · cases l with
    | nil => exact .inl rfl
    | cons x r => exact .inr (h3 (by simp))
theorem right_long {l : List Int} (h : 12 < l.length) : rightL l = false := by
  rw [← Bool.not_eq_true, right_iff]; omega
theorem right_bad {l : List Int} {j : Nat} (h : okN (l.getD j 0) = false) : rightL l = false := by
  rw [← Bool.not_eq_true]
  intro hr
  have := right_at hr j
  rw [okN_no] at h
  omega
theorem right_zero {l : List Int} (hl : 0 < l.length) (h : l.getD (l.length - 1) 0 = 0) : rightL l = false := by
  rw [← Bool.not_eq_true]
  intro hr
  exact right_last hr hl h

/-- How many numbers are left when the noughts at the end are not counted. -/
def cut : List Int → Nat
  | [] => 0
  | x :: r => if cut r = 0 then (if x = 0 then 0 else 1) else cut r + 1
theorem cut_le : ∀ l : List Int, cut l ≤ l.length
  | [] => Nat.le_refl _
  | x :: r => by
    have := cut_le r
    unfold cut
    simp only [List.length_cons]
    split
    · split <;> omega
    · omega
theorem cut_of : ∀ (l : List Int) (k : Nat), (∀ i, k ≤ i → l.getD i 0 = 0) → (k = 0 ∨ l.getD (k - 1) 0 ≠ 0) → cut l = k
  | [], k, _, h => by
    rcases h with rfl | h
    · rfl
    · simp at h
  | x :: r, 0, h, _ => by
    have h0 : x = 0 := by simpa using h 0 (Nat.le_refl _)
    have := cut_of r 0 (fun i _ => by simpa using h (i + 1) (Nat.zero_le _)) (.inl rfl)
    simp [cut, this, h0]
  | x :: r, k + 1, h, h' => by
    have hx : (x :: r).getD k 0 ≠ 0 := by
      rcases h' with h' | h'
      · omega
      · simpa using h'
    have hr : ∀ i, k ≤ i → r.getD i 0 = 0 := fun i hi => by simpa using h (i + 1) (by omega)
    by_cases hk : k = 0
    · subst hk
      have := cut_of r 0 hr (.inl rfl)
      have hx' : x ≠ 0 := by simpa using hx
      simp [cut, this, hx']
    · have := cut_of r k hr (.inr (by
        obtain ⟨m, rfl⟩ : ∃ m, k = m + 1 := ⟨k - 1, by omega⟩
        simpa using hx))
      simp [cut, this, hk]
theorem cut_past : ∀ (l : List Int) (i : Nat), cut l ≤ i → l.getD i 0 = 0
  | [], i, _ => by simp
  | x :: r, i, h => by
    unfold cut at h
    split at h
    · rename_i h0
      split at h
      · rename_i hx
        cases i with
        | zero => simpa using hx
        | succ i => simpa using cut_past r i (by omega)
      · cases i with
        | zero => omega
        | succ i => simpa using cut_past r i (by omega)
    · cases i with
      | zero => omega
      | succ i => simpa using cut_past r i (by omega)
theorem cut_last : ∀ (l : List Int), 0 < cut l → l.getD (cut l - 1) 0 ≠ 0
  | [], h => by simp [cut] at h
  | x :: r, h => by
    by_cases h0 : cut r = 0
    · by_cases hx : x = 0
      · simp [cut, h0, hx] at h
      · simp [cut, h0, hx]
    · have e : cut (x :: r) = cut r + 1 := by simp [cut, h0]
      have := cut_last r (by omega)
      rw [e]
      obtain ⟨m, hm⟩ : ∃ m, cut r = m + 1 := ⟨cut r - 1, by omega⟩
      rw [hm] at this ⊢
      simpa using this

def trimL (l : List Int) : List Int := l.take (cut l)
theorem trim_len (l : List Int) : (trimL l).length = cut l := by
  have := cut_le l
  simp [trimL]; omega
theorem trim_at (l : List Int) (j : Nat) : (trimL l).getD j 0 = l.getD j 0 := by
  by_cases hj : j < cut l
  · simp [trimL, List.getD, hj]
  · rw [getD_past (by rw [trim_len]; omega), cut_past l j (by omega)]
theorem trim_last {l : List Int} (h : 0 < (trimL l).length) : (trimL l).getD ((trimL l).length - 1) 0 ≠ 0 := by
  rw [trim_at, trim_len]
  rw [trim_len] at h
  exact cut_last l h
theorem trim_of {l : List Int} {k : Nat} (h : ∀ i, k ≤ i → l.getD i 0 = 0) (h' : k = 0 ∨ l.getD (k - 1) 0 ≠ 0) : trimL l = l.take k := by
  unfold trimL; rw [cut_of l k h h']

def normL (l : List Int) : List Int := if rightL (trimL l) then trimL l else []
theorem norm_yes {l : List Int} (h : rightL (trimL l) = true) : normL l = trimL l := by simp [normL, h]
theorem norm_no {l : List Int} (h : rightL (trimL l) = false) : normL l = [] := by simp [normL, h]

/-- One tag. -/
def oneOk (t n : Int) : Bool := decide (0 ≤ t) && decide (t < 12) && decide (1 ≤ n) && decide (n ≤ 1152921504606846976)
def oneL (t n : Int) : List Int := if oneOk t n then tab (t.toNat + 1) (fun j => if j = t.toNat then n else 0) else []
theorem one_iff {t n : Int} : oneOk t n = true ↔ (0 ≤ t ∧ t < 12) ∧ 1 ≤ n ∧ n ≤ 1152921504606846976 := by
  simp [oneOk, and_assoc]
theorem one_right {t n : Int} (h : oneOk t n = true) : rightL (oneL t n) = true := by
  have h' := one_iff.1 h
  unfold oneL
  rw [if_pos h]
  refine right_of ?_ ?_ ?_
  · rw [tab_len]; omega
  · intro j hj
    rw [tab_len] at hj
    rw [tab_at hj]
    split <;> omega
  · intro _
    rw [tab_len, tab_at (by omega), if_pos (by omega)]
    omega

/-- Both together. -/
def addT (a b : List Int) : List Int := tab (max a.length b.length) (fun j => a.getD j 0 + b.getD j 0)
def addFit (a b : List Int) : Bool := (List.range (max a.length b.length)).all fun j => decide (a.getD j 0 + b.getD j 0 ≤ 1152921504606846976)
def addOk (a b : List Int) : Bool := rightL a && rightL b && addFit a b
def addS (a b : List Int) : List Int := if addOk a b then addT a b else []
theorem addFit_iff {a b : List Int} : addFit a b = true ↔ ∀ j, j < max a.length b.length → a.getD j 0 + b.getD j 0 ≤ 1152921504606846976 := by
  simp [addFit, List.all_eq_true]
theorem add_len (a b : List Int) : (addT a b).length = max a.length b.length := tab_len _ _
theorem add_at (a b : List Int) (j : Nat) : (addT a b).getD j 0 = a.getD j 0 + b.getD j 0 := by
  by_cases hj : j < max a.length b.length
  · exact tab_at hj
  · rw [addT, tab_past (by omega), getD_past (l := a) (by omega), getD_past (l := b) (by omega)]; rfl
theorem add_comm' (a b : List Int) : addT a b = addT b a := by
  apply ext_getD
  · rw [add_len, add_len, Nat.max_comm]
  · intro j _
    rw [add_at, add_at, Int.add_comm]
theorem add_assoc' (a b c : List Int) : addT (addT a b) c = addT a (addT b c) := by
  apply ext_getD
  · rw [add_len, add_len, add_len, add_len, Nat.max_assoc]
  · intro j _
    rw [add_at, add_at, add_at, add_at, Int.add_assoc]
theorem add_no1 {a b : List Int} (h : rightL a = false) : addOk a b = false ∧ addS a b = [] := by
  have : addOk a b = false := by simp [addOk, h]
  exact ⟨this, by simp [addS, this]⟩
theorem add_no2 {a b : List Int} (h : rightL b = false) : addOk a b = false ∧ addS a b = [] := by
  have : addOk a b = false := by simp [addOk, h]
  exact ⟨this, by simp [addS, this]⟩
theorem add_no3 {a b : List Int} {j : Nat} (hj : j < max a.length b.length) (h : 1152921504606846976 < a.getD j 0 + b.getD j 0) : addOk a b = false ∧ addS a b = [] := by
  have hf : addFit a b = false := by
    rw [← Bool.not_eq_true, addFit_iff]
    intro hh
    have := hh j hj
    omega
  have : addOk a b = false := by simp [addOk, hf]
  exact ⟨this, by simp [addS, this]⟩
theorem add_yes {a b : List Int} (ha : rightL a = true) (hb : rightL b = true) (h : ∀ j, j < max a.length b.length → a.getD j 0 + b.getD j 0 ≤ 1152921504606846976) : addOk a b = true ∧ addS a b = addT a b := by
  have : addOk a b = true := by simp [addOk, ha, hb, addFit_iff.2 h]
  exact ⟨this, by simp [addS, this]⟩

/-- One without the other. -/
def subT (a b : List Int) : List Int := tab a.length (fun j => a.getD j 0 - b.getD j 0)
def subFit (a b : List Int) : Bool := (List.range b.length).all fun j => decide (b.getD j 0 ≤ a.getD j 0)
def subOk (a b : List Int) : Bool := rightL a && rightL b && decide (b.length ≤ a.length) && subFit a b
def subS (a b : List Int) : List Int := if subOk a b then trimL (subT a b) else []
theorem subFit_iff {a b : List Int} : subFit a b = true ↔ ∀ j, j < b.length → b.getD j 0 ≤ a.getD j 0 := by
  simp [subFit, List.all_eq_true]
theorem sub_at {a b : List Int} (h : b.length ≤ a.length) (j : Nat) : (subT a b).getD j 0 = a.getD j 0 - b.getD j 0 := by
  by_cases hj : j < a.length
  · exact tab_at hj
  · rw [subT, tab_past (by omega), getD_past (l := a) (by omega), getD_past (l := b) (by omega)]; rfl
theorem sub_no1 {a b : List Int} (h : rightL a = false) : subOk a b = false ∧ subS a b = [] := by
  have : subOk a b = false := by simp [subOk, h]
  exact ⟨this, by simp [subS, this]⟩
theorem sub_no2 {a b : List Int} (h : rightL b = false) : subOk a b = false ∧ subS a b = [] := by
  have : subOk a b = false := by simp [subOk, h]
  exact ⟨this, by simp [subS, this]⟩
theorem sub_no3 {a b : List Int} (h : a.length < b.length) : subOk a b = false ∧ subS a b = [] := by
  have : subOk a b = false := by simp [subOk, show ¬ b.length ≤ a.length by omega]
  exact ⟨this, by simp [subS, this]⟩
theorem sub_no4 {a b : List Int} {j : Nat} (hj : j < b.length) (h : a.getD j 0 < b.getD j 0) : subOk a b = false ∧ subS a b = [] := by
  have hf : subFit a b = false := by
    rw [← Bool.not_eq_true, subFit_iff]
    intro hh
    have := hh j hj
    omega
  have : subOk a b = false := by simp [subOk, hf]
  exact ⟨this, by simp [subS, this]⟩
theorem sub_yes {a b : List Int} (ha : rightL a = true) (hb : rightL b = true) (hl : b.length ≤ a.length) (h : ∀ j, j < b.length → b.getD j 0 ≤ a.getD j 0) : subOk a b = true ∧ subS a b = trimL (subT a b) := by
  have : subOk a b = true := by simp [subOk, ha, hb, hl, subFit_iff.2 h]
  exact ⟨this, by simp [subS, this]⟩
theorem sub_right {a b : List Int} (ha : rightL a = true) (hb : rightL b = true) (hl : b.length ≤ a.length) (h : ∀ j, j < b.length → b.getD j 0 ≤ a.getD j 0) : rightL (trimL (subT a b)) = true := by
  refine right_of ?_ ?_ trim_last
  · have := cut_le (subT a b)
    have h2 := (right_iff.1 ha).1
    rw [trim_len]
    rw [subT, tab_len] at this
    unfold subT; omega
  · intro j _
    rw [trim_at, sub_at hl]
    have h1 := right_at ha j
    have h2 := right_at hb j
    by_cases hj : j < b.length
    · have := h j hj; omega
    · rw [getD_past (l := b) (by omega)] at h2 ⊢; omega

/-- In all. -/
def totOk (l : List Int) : Bool := rightL l && decide (l.sum ≤ 1152921504606846976)
def totN (l : List Int) : Int := if totOk l then l.sum else 0
theorem tot_no1 {l : List Int} (h : rightL l = false) : totOk l = false ∧ totN l = 0 := by
  have : totOk l = false := by simp [totOk, h]
  exact ⟨this, by simp [totN, this]⟩
theorem sum_nonneg : ∀ {l : List Int}, (∀ n ∈ l, 0 ≤ n) → 0 ≤ l.sum
  | [], _ => by simp
  | x :: r, h => by
    have h1 := h x (by simp)
    have h2 := sum_nonneg (l := r) (fun n hn => h n (by simp [hn]))
    rw [List.sum_cons]; omega
theorem sum_take {l : List Int} (h : ∀ n ∈ l, 0 ≤ n) (k : Nat) : 0 ≤ (l.take k).sum ∧ (l.take k).sum ≤ l.sum := by
  have h1 := sum_nonneg (l := l.take k) (fun n hn => h n (List.mem_of_mem_take hn))
  have h2 := sum_nonneg (l := l.drop k) (fun n hn => h n (List.mem_of_mem_drop hn))
  have h3 : (l.take k).sum + (l.drop k).sum = l.sum := by rw [← List.sum_append, List.take_append_drop]
  omega
theorem sum_snoc {l : List Int} {k : Nat} (hk : k < l.length) : (l.take (k + 1)).sum = (l.take k).sum + l.getD k 0 := by
  rw [List.take_succ_eq_append_getElem hk, List.sum_append, getD_at hk]; simp
theorem right_pos {l : List Int} (h : rightL l = true) : ∀ n ∈ l, 0 ≤ n := fun n hn => ((right_iff.1 h).2.1 n hn).1
theorem tot_no2 {l : List Int} {k : Nat} (hr : rightL l = true) (h : 1152921504606846976 < (l.take k).sum) : totOk l = false ∧ totN l = 0 := by
  have h2 := (sum_take (right_pos hr) k).2
  have : totOk l = false := by simp [totOk]; intro _; omega
  exact ⟨this, by simp [totN, this]⟩
theorem tot_yes {l : List Int} (hr : rightL l = true) (h : l.sum ≤ 1152921504606846976) : totOk l = true ∧ totN l = l.sum := by
  have : totOk l = true := by simp [totOk, hr, h]
  exact ⟨this, by simp [totN, this]⟩

/-- Order: number by number, the shorter one ahead where one ends. -/
def lex : List Int → List Int → Int
  | [], [] => 0
  | [], _ :: _ => -1
  | _ :: _, [] => 1
  | x :: a, y :: b => if x < y then -1 else if y < x then 1 else lex a b
def sgn (x y : Int) : Int := if x < y then -1 else if y < x then 1 else 0
def orI (p q : Int) : Int := if p = 0 then q else p
def cmpL (a b : List Int) : Int := if rightL a && rightL b then orI (sgn a.length b.length) (lex a b) else 0
theorem lex_step {a b : List Int} {k : Nat} (ha : k < a.length) (hb : k < b.length) : lex (a.drop k) (b.drop k) = if a.getD k 0 < b.getD k 0 then -1 else if b.getD k 0 < a.getD k 0 then 1 else lex (a.drop (k + 1)) (b.drop (k + 1)) := by
  rw [List.drop_eq_getElem_cons ha, List.drop_eq_getElem_cons hb, getD_at ha, getD_at hb, lex]
theorem lex_end {a b : List Int} {k : Nat} (ha : a.length ≤ k) (hb : k < b.length) : lex (a.drop k) (b.drop k) = -1 := by
  rw [List.drop_eq_nil_of_le ha, List.drop_eq_getElem_cons hb, lex]
theorem lex_end' {a b : List Int} {k : Nat} (ha : k < a.length) (hb : b.length ≤ k) : lex (a.drop k) (b.drop k) = 1 := by
  rw [List.drop_eq_nil_of_le hb, List.drop_eq_getElem_cons ha, lex]
theorem lex_both {a b : List Int} {k : Nat} (ha : a.length ≤ k) (hb : b.length ≤ k) : lex (a.drop k) (b.drop k) = 0 := by
  rw [List.drop_eq_nil_of_le hb, List.drop_eq_nil_of_le ha, lex]
theorem lex_bound : ∀ a b : List Int, lex a b = -1 ∨ lex a b = 0 ∨ lex a b = 1
  | [], [] => by simp [lex]
  | [], _ :: _ => by simp [lex]
  | _ :: _, [] => by simp [lex]
  | x :: a, y :: b => by
    have := lex_bound a b
    unfold lex
    split
    · simp
    · split
      · simp
      · exact this
theorem lex_neg : ∀ a b : List Int, lex b a = - lex a b
  | [], [] => by simp [lex]
  | [], _ :: _ => by simp [lex]
  | _ :: _, [] => by simp [lex]
  | x :: a, y :: b => by
    have := lex_neg a b
    unfold lex
    by_cases h1 : x < y
    · rw [if_neg (by omega), if_pos h1, if_pos h1]; rfl
    · by_cases h2 : y < x
      · rw [if_pos h2, if_neg h1, if_pos h2]
      · rw [if_neg h2, if_neg h1, if_neg h1, if_neg h2]; exact this
theorem lex_zero : ∀ a b : List Int, lex a b = 0 ↔ a = b
  | [], [] => by simp [lex]
  | [], _ :: _ => by simp [lex]
  | _ :: _, [] => by simp [lex]
  | x :: a, y :: b => by
    have := lex_zero a b
    unfold lex
    by_cases h1 : x < y
    · rw [if_pos h1]; simp; intro h; omega
    · by_cases h2 : y < x
      · rw [if_neg h1, if_pos h2]; simp; intro h; omega
      · rw [if_neg h1, if_neg h2, this]
        have : x = y := by omega
        simp [this]
theorem lex_trans : ∀ a b c : List Int, lex a b ≤ 0 → lex b c ≤ 0 → lex a c ≤ 0
  | [], [], [], _, _ => by simp [lex]
  | [], [], _ :: _, _, _ => by simp [lex]
  | [], _ :: _, [], _, _ => by simp [lex]
  | [], _ :: _, _ :: _, _, _ => by simp [lex]
  | _ :: _, [], _, h, _ => by simp [lex] at h
  | _ :: _, _ :: _, [], _, h => by simp [lex] at h
  | x :: a, y :: b, z :: c, h1, h2 => by
    have ih := lex_trans a b c
    unfold lex at h1 h2 ⊢
    by_cases p1 : x < y <;> by_cases p2 : y < x <;> by_cases p3 : y < z <;> by_cases p4 : z < y <;> simp only [p1, p2, p3, p4, if_true, if_false] at h1 h2 <;> first
      | omega
      | (rw [if_pos (by omega)]; omega)
      | (rw [if_neg (by omega), if_neg (by omega)]; exact ih h1 h2)
theorem sgn_cases (x y : Int) : (x < y ∧ sgn x y = -1) ∨ (x = y ∧ sgn x y = 0) ∨ (y < x ∧ sgn x y = 1) := by
  unfold sgn
  by_cases h1 : x < y
  · simp [h1]
  · by_cases h2 : y < x
    · simp [h1, h2]
    · have : x = y := by omega
      simp [this]
theorem cmp_yes {a b : List Int} (ha : rightL a = true) (hb : rightL b = true) : cmpL a b = orI (sgn a.length b.length) (lex a b) := by simp [cmpL, ha, hb]
theorem cmp_no1 {a b : List Int} (ha : rightL a = false) : cmpL a b = 0 := by simp [cmpL, ha]
theorem cmp_no2 {a b : List Int} (hb : rightL b = false) : cmpL a b = 0 := by simp [cmpL, hb]
theorem cmp_bound (a b : List Int) : cmpL a b = -1 ∨ cmpL a b = 0 ∨ cmpL a b = 1 := by
  unfold cmpL
  split
  · have := lex_bound a b
    unfold orI
    rcases sgn_cases a.length b.length with ⟨_, h⟩ | ⟨_, h⟩ | ⟨_, h⟩ <;> rw [h] <;> simp <;> exact this
  · simp
section
variable {a b c : List Int}
theorem cmp_neg (ha : rightL a = true) (hb : rightL b = true) : cmpL b a = - cmpL a b := by
  rw [cmp_yes ha hb, cmp_yes hb ha]
  have := lex_neg a b
  unfold orI
  rcases sgn_cases a.length b.length with ⟨h, e⟩ | ⟨h, e⟩ | ⟨h, e⟩ <;> rcases sgn_cases b.length a.length with ⟨h', e'⟩ | ⟨h', e'⟩ | ⟨h', e'⟩ <;> rw [e, e'] <;> first | omega | rfl | simpa using this
theorem cmp_zero (ha : rightL a = true) (hb : rightL b = true) : cmpL a b = 0 ↔ a = b := by
  rw [cmp_yes ha hb]
  have := lex_zero a b
  unfold orI
  rcases sgn_cases a.length b.length with ⟨h, e⟩ | ⟨h, e⟩ | ⟨h, e⟩ <;> rw [e]
  · simp; rintro rfl; omega
  · simpa using this
  · simp; rintro rfl; omega
theorem cmp_len (ha : rightL a = true) (hb : rightL b = true) (hne : a.length ≠ b.length) : cmpL a b < 0 ↔ a.length < b.length := by
  rw [cmp_yes ha hb]
  unfold orI
  rcases sgn_cases a.length b.length with ⟨h, e⟩ | ⟨h, e⟩ | ⟨h, e⟩ <;> rw [e] <;> simp <;> omega
theorem cmp_trans (ha : rightL a = true) (hb : rightL b = true) (hc : rightL c = true) (h1 : cmpL a b ≤ 0) (h2 : cmpL b c ≤ 0) : cmpL a c ≤ 0 := by
  rw [cmp_yes ha hb] at h1
  rw [cmp_yes hb hc] at h2
  rw [cmp_yes ha hc]
  have ih := lex_trans a b c
  unfold orI at *
  rcases sgn_cases a.length b.length with ⟨h, e⟩ | ⟨h, e⟩ | ⟨h, e⟩ <;> rcases sgn_cases b.length c.length with ⟨h', e'⟩ | ⟨h', e'⟩ | ⟨h', e'⟩ <;> rcases sgn_cases a.length c.length with ⟨h'', e''⟩ | ⟨h'', e''⟩ | ⟨h'', e''⟩ <;>
    rw [e] at h1 <;> rw [e'] at h2 <;> rw [e''] <;> simp at h1 h2 ⊢ <;> first | omega | exact ih h1 h2
end

/-- Small: right, at most four numbers, none above m. -/
structure Small (m : Int) (l : List Int) : Prop where
  right : rightL l = true
  len : l.length ≤ 4
  top : ∀ j, l.getD j 0 ≤ m
section
variable {m k : Int} {x y z : List Int}
theorem Small.pos (h : Small m x) (j : Nat) : 0 ≤ x.getD j 0 := (right_at h.right j).1
theorem Small.add (hx : Small m x) (hy : Small k y) (hm : m + k ≤ 1000) : addOk x y = true ∧ addS x y = addT x y ∧ Small (m + k) (addT x y) := by
  have hle : ∀ j, x.getD j 0 + y.getD j 0 ≤ m + k := fun j => by have := hx.top j; have := hy.top j; omega
  have A := add_yes hx.right hy.right (fun j _ => by have := hle j; omega)
  have hl : (addT x y).length ≤ 4 := by rw [add_len]; have := hx.len; have := hy.len; omega
  refine ⟨A.1, A.2, ?_, hl, fun j => by rw [add_at]; exact hle j⟩
  refine right_of (by omega) (fun j _ => ?_) (fun h0 => ?_)
  · rw [add_at]
    have := hx.pos j; have := hy.pos j; have := hle j
    omega
  · rw [add_at]
    have p1 := hx.pos ((addT x y).length - 1)
    have p2 := hy.pos ((addT x y).length - 1)
    rw [add_len] at h0 p1 p2 ⊢
    by_cases h : x.length ≤ y.length
    · have e : max x.length y.length = y.length := by omega
      rw [e] at h0 p1 p2 ⊢
      have := right_last hy.right (by omega)
      omega
    · have e : max x.length y.length = x.length := by omega
      rw [e] at h0 p1 p2 ⊢
      have := right_last hx.right (by omega)
      omega
theorem Small.back (hx : Small m x) (hy : Small k y) (hm : m + k ≤ 1000) : subOk (addT x y) y = true ∧ subS (addT x y) y = x := by
  have A := (hx.add hy hm).2.2
  have hl : y.length ≤ (addT x y).length := by rw [add_len]; omega
  have S := sub_yes A.right hy.right hl (fun j _ => by rw [add_at]; have := hx.pos j; omega)
  refine ⟨S.1, S.2.trans ?_⟩
  have hat : ∀ j, (subT (addT x y) y).getD j 0 = x.getD j 0 := fun j => by rw [sub_at hl, add_at]; omega
  rw [trim_of (k := x.length) (fun i hi => by rw [hat, getD_past hi]) (by
    by_cases h0 : x.length = 0
    · exact .inl h0
    · exact .inr (by rw [hat]; exact right_last hx.right (by omega)))]
  have hlen : (subT (addT x y) y).length = max x.length y.length := by rw [subT, tab_len, add_len]
  apply ext_getD
  · rw [List.length_take, hlen]; omega
  · intro j hj
    rw [List.length_take] at hj
    rw [← hat j]
    simp [List.getD, show j < x.length by omega]
theorem sum_tab (l : List Int) : ∀ n, l.length ≤ n → (tab n (fun j => l.getD j 0)).sum = l.sum
  | 0, h => by
    obtain rfl : l = [] := List.eq_nil_of_length_eq_zero (by omega)
    simp [tab]
  | n + 1, h => by
    have hs : tab (n + 1) (fun j => l.getD j 0) = tab n (fun j => l.getD j 0) ++ [l.getD n 0] := by simp [tab, List.range_succ]
    rw [hs, List.sum_append]
    by_cases hn : l.length ≤ n
    · rw [sum_tab l n hn, getD_past hn]; simp
    · have e : n + 1 = l.length := by omega
      have ht : tab n (fun j => l.getD j 0) ++ [l.getD n 0] = l := by rw [← hs, e, tab_self]
      rw [← List.sum_append, ht]
theorem sum_tab_add (f g : Nat → Int) (n : Nat) : (tab n (fun j => f j + g j)).sum = (tab n f).sum + (tab n g).sum := by
  induction n with
  | zero => simp [tab]
  | succ n ih =>
    have hs : ∀ f : Nat → Int, tab (n + 1) f = tab n f ++ [f n] := fun f => by simp [tab, List.range_succ]
    simp only [hs, List.sum_append, ih, List.sum_cons, List.sum_nil]
    omega
theorem sum_add (x y : List Int) : (addT x y).sum = x.sum + y.sum := by
  unfold addT
  rw [sum_tab_add, sum_tab x _ (by omega), sum_tab y _ (by omega)]
theorem sum_bound : ∀ {l : List Int}, (∀ n ∈ l, n ≤ m) → l.sum ≤ l.length * m
  | [], _ => by simp
  | x :: r, h => by
    have h1 := h x (by simp)
    have h2 := sum_bound (l := r) (fun n hn => h n (by simp [hn]))
    rw [List.sum_cons, List.length_cons, Int.natCast_succ, Int.add_mul]; omega
theorem Small.tot (hx : Small m x) (hm : m ≤ 1000) (h0 : 0 ≤ m) : totOk x = true ∧ totN x = x.sum ∧ 0 ≤ x.sum ∧ x.sum ≤ 4000 := by
  have h1 := sum_nonneg (right_pos hx.right)
  have h2 : x.sum ≤ x.length * m := sum_bound (fun n hn => by
    obtain ⟨j, hj, rfl⟩ := List.getElem_of_mem hn
    have := hx.top j
    rwa [getD_at hj] at this)
  have h3 : (x.length : Int) * m ≤ 4 * 1000 := Int.mul_le_mul (by have := hx.len; omega) hm h0 (by omega)
  have T := tot_yes hx.right (by omega)
  exact ⟨T.1, T.2, h1, by omega⟩

/-- What can be taken away, said number by number. -/
def canL (x y : List Int) : Bool := (List.range y.length).all fun j => decide (y.getD j 0 = 0) || (decide (j < x.length) && decide (y.getD j 0 ≤ x.getD j 0))
theorem can_iff {x y : List Int} : canL x y = true ↔ ∀ j, j < y.length → y.getD j 0 = 0 ∨ (j < x.length ∧ y.getD j 0 ≤ x.getD j 0) := by
  simp [canL, List.all_eq_true]
theorem Small.can (hx : Small m x) (hy : Small k y) : subOk x y = canL x y := by
  rw [Bool.eq_iff_iff, can_iff]
  constructor
  · intro h j hj
    simp only [subOk, Bool.and_eq_true, decide_eq_true_eq, subFit_iff] at h
    exact .inr ⟨by omega, h.2 j hj⟩
  · intro h
    have hl : y.length ≤ x.length := by
      by_cases h0 : 0 < y.length
      · have := right_last hy.right h0
        rcases h (y.length - 1) (by omega) with e | ⟨e, _⟩
        · exact absurd e this
        · omega
      · omega
    exact (sub_yes hx.right hy.right hl (fun j hj => by
      rcases h j hj with e | ⟨_, e⟩
      · rw [e]; exact hx.pos j
      · exact e)).1
theorem Small.take (hx : Small m x) (hy : Small k y) (h : subOk x y = true) : addOk (subS x y) y = true ∧ addS (subS x y) y = x := by
  have h' := h
  simp only [subOk, Bool.and_eq_true, decide_eq_true_eq, subFit_iff] at h'
  obtain ⟨⟨_, hl⟩, hf⟩ := h'
  have S := sub_yes hx.right hy.right hl hf
  have R := sub_right hx.right hy.right hl hf
  rw [S.2]
  have hat : ∀ j, (trimL (subT x y)).getD j 0 + y.getD j 0 = x.getD j 0 := fun j => by rw [trim_at, sub_at hl]; omega
  have A := add_yes R hy.right (fun j _ => by rw [hat]; exact (right_at hx.right j).2)
  refine ⟨A.1, A.2.trans (ext_getD ?_ (fun j _ => by rw [add_at, hat]))⟩
  rw [add_len, trim_len]
  have hc : cut (subT x y) ≤ x.length := by have := cut_le (subT x y); rwa [subT, tab_len] at this
  by_cases he : y.length = x.length
  · omega
  · have : cut (subT x y) = x.length := cut_of _ _ (fun i hi => by rw [sub_at hl, getD_past hi, getD_past (by omega)]; rfl) (.inr (by
      rw [sub_at hl, getD_past (l := y) (by omega)]
      have := right_last hx.right (by omega)
      omega))
    omega
end
end Go.Proofs.Ytmbkiefbchjofaa

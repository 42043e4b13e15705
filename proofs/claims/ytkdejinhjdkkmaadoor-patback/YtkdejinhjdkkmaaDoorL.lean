/- Plain words for texts as lists of bytes: which bytes are letters, digits, signs; the tokens of a text, each with its place, or where it is wrong; no condition. -/
namespace Go.Proofs.YtkdejinhjdkkmaaDoor

abbrev Txt := List UInt8
def letter (c : UInt8) : Bool := decide (97 ≤ c.toNat) && decide (c.toNat ≤ 122)
def digit (c : UInt8) : Bool := decide (48 ≤ c.toNat) && decide (c.toNat ≤ 57)
def inWord (c : UInt8) : Bool := letter c || (digit c || c == 95)
def inLine (c : UInt8) : Bool := c != 10
def signs : Txt := [40, 41, 123, 125, 91, 93, 44, 59, 58, 61, 46, 43, 45, 42, 60, 94, 33, 63]
def sign (c : UInt8) : Bool := signs.contains c
def span (p : UInt8 → Bool) (l : Txt) : Nat := (l.takeWhile p).length
def num (l : Txt) : Nat := l.foldl (fun n c => n * 10 + (c.toNat - 48)) 0
def isWord (l : Txt) : Bool :=
  match l with
  | [] => false
  | c :: r => letter c && (r.all inWord && decide (r.length ≤ 15))

/-- Of what kind the token at the head of a text is, how long, whether it is right, and what number it says. -/
def kindOf (l : Txt) : Nat := match l with | [] => 0 | c :: _ => if letter c then 1 else if digit c then 2 else if sign c then 3 else 0
def lenOf (l : Txt) : Nat := match l with | [] => 0 | c :: _ => if letter c then span inWord l else if digit c then span digit l else 1
def okOf (l : Txt) : Bool :=
  match l with
  | [] => false
  | c :: _ => if letter c then decide (span inWord l ≤ 16) else if digit c then decide (span digit l ≤ 9) && !(decide (1 < span digit l) && c == 48) else sign c
def numOf (l : Txt) : Nat := if kindOf l = 2 then num (l.take (lenOf l)) else 0

structure Tok where
  kind : Nat
  n : Nat
  line : Nat
  col : Nat
  text : Txt
deriving DecidableEq

inductive Res where
  | ok (ts : List Tok)
  | bad (line col : Nat)
deriving DecidableEq

def pre (t : Tok) : Res → Res
  | .ok ts => .ok (t :: ts)
  | .bad l c => .bad l c

def tokAt (l : Txt) (line col : Nat) : Tok := ⟨kindOf l, numOf l, line, col, l.take (lenOf l)⟩
def endAt (line col : Nat) : Tok := ⟨4, 0, line, col, []⟩

/-- The tokens of a text whose first byte stands at a line and a column. -/
def goF : Nat → Txt → Nat → Nat → Res
  | 0, _, line, col => .bad line col
  | _ + 1, [], line, col => .ok [endAt line col]
  | f + 1, c :: r, line, col =>
    if c = 10 then goF f r (line + 1) 1
    else if c = 32 ∨ c = 9 then goF f r line (col + 1)
    else if c = 35 then goF f (r.drop (span inLine r)) line (col + 1 + span inLine r)
    else if okOf (c :: r) = true then pre (tokAt (c :: r) line col) (goF f ((c :: r).drop (lenOf (c :: r))) line (col + lenOf (c :: r)))
    else .bad line col
def go (l : Txt) (line col : Nat) : Res := goF (l.length + 1) l line col

theorem span_le (p : UInt8 → Bool) (l : Txt) : span p l ≤ l.length := by
  unfold span
  exact (List.takeWhile_sublist p).length_le
theorem span_cons (p : UInt8 → Bool) (c : UInt8) (r : Txt) : span p (c :: r) = if p c then span p r + 1 else 0 := by
  unfold span
  rw [List.takeWhile_cons]
  by_cases h : p c <;> simp [h]
theorem letter_word {c : UInt8} (h : letter c = true) : inWord c = true := by simp [inWord, h]
theorem lenOf_pos {c : UInt8} {r : Txt} : 1 ≤ lenOf (c :: r) := by
  unfold lenOf
  simp only
  by_cases h : letter c
  · rw [if_pos h, span_cons, if_pos (letter_word h)]; omega
  · rw [if_neg h]
    by_cases h : digit c
    · rw [if_pos h, span_cons, if_pos h]; omega
    · rw [if_neg h]; omega
theorem lenOf_le {c : UInt8} {r : Txt} : lenOf (c :: r) ≤ r.length + 1 := by
  unfold lenOf
  simp only
  split
  · exact span_le _ _
  · split
    · exact span_le _ _
    · omega

theorem goF_same : ∀ (f g : Nat) (l : Txt) (line col : Nat), l.length < f → l.length < g → goF f l line col = goF g l line col
  | 0, _, _, _, _, h, _ => by omega
  | _ + 1, 0, _, _, _, _, h => by omega
  | f + 1, g + 1, [], line, col, _, _ => rfl
  | f + 1, g + 1, c :: r, line, col, h, k => by
    simp only [List.length_cons] at h k
    have hp := lenOf_pos (c := c) (r := r)
    rw [goF, goF, goF_same f g r (line + 1) 1 (by omega) (by omega), goF_same f g r line (col + 1) (by omega) (by omega),
      goF_same f g (r.drop (span inLine r)) line (col + 1 + span inLine r) (by rw [List.length_drop]; omega) (by rw [List.length_drop]; omega),
      goF_same f g ((c :: r).drop (lenOf (c :: r))) line (col + lenOf (c :: r)) (by simp only [List.length_drop, List.length_cons]; omega) (by simp only [List.length_drop, List.length_cons]; omega)]

theorem go_nil (line col : Nat) : go [] line col = .ok [endAt line col] := rfl
theorem go_nl (r : Txt) (line col : Nat) : go (10 :: r) line col = go r (line + 1) 1 := by
  unfold go
  rw [List.length_cons, goF, if_pos rfl]
theorem go_blank {c : UInt8} (hc : c = 32 ∨ c = 9) (r : Txt) (line col : Nat) : go (c :: r) line col = go r line (col + 1) := by
  unfold go
  rw [List.length_cons, goF, if_neg (by rcases hc with rfl | rfl <;> decide), if_pos hc]
theorem go_hash (r : Txt) (line col : Nat) : go (35 :: r) line col = go (r.drop (span inLine r)) line (col + 1 + span inLine r) := by
  unfold go
  rw [List.length_cons, goF, if_neg (by decide), if_neg (by decide), if_pos rfl]
  exact goF_same _ _ _ _ _ (by rw [List.length_drop]; omega) (by omega)
/-- A byte at which a token may begin, or that none has. -/
def solid (c : UInt8) : Prop := c ≠ 10 ∧ c ≠ 32 ∧ c ≠ 9 ∧ c ≠ 35
theorem go_tok {c : UInt8} {r : Txt} (hs : solid c) (h : okOf (c :: r) = true) (line col : Nat) :
    go (c :: r) line col = pre (tokAt (c :: r) line col) (go ((c :: r).drop (lenOf (c :: r))) line (col + lenOf (c :: r))) := by
  obtain ⟨h1, h2, h3, h4⟩ := hs
  have hp := lenOf_pos (c := c) (r := r)
  unfold go
  rw [List.length_cons, goF, if_neg h1, if_neg (by simp [h2, h3]), if_neg h4, if_pos h]
  rw [goF_same _ _ ((c :: r).drop (lenOf (c :: r))) _ _ (by simp only [List.length_drop, List.length_cons]; omega) (Nat.lt_succ_self _)]
theorem go_bad {c : UInt8} {r : Txt} (hs : solid c) (h : okOf (c :: r) = false) (line col : Nat) : go (c :: r) line col = .bad line col := by
  obtain ⟨h1, h2, h3, h4⟩ := hs
  unfold go
  rw [List.length_cons, goF, if_neg h1, if_neg (by simp [h2, h3]), if_neg h4, if_neg (by simp [h])]

theorem pre_ok {t : Tok} {r : Res} {ts : List Tok} (h : pre t r = .ok ts) : ∃ ts', r = .ok ts' ∧ ts = t :: ts' := by
  cases r with
  | ok ts' => exact ⟨ts', rfl, by simpa [pre] using h.symm⟩
  | bad a b => simp [pre] at h

/-- What was told is put ahead of what is still to come. -/
def app (l : List Tok) : Res → Res
  | .ok ts => .ok (l ++ ts)
  | .bad a b => .bad a b
theorem app_nil (r : Res) : app [] r = r := by cases r <;> rfl
theorem app_pre (l : List Tok) (t : Tok) (r : Res) : app l (pre t r) = app (l ++ [t]) r := by cases r <;> simp [app, pre]

/-- Rules for each byte, by parting. -/
theorem parts (c : UInt8) : c = 10 ∨ (c = 32 ∨ c = 9) ∨ c = 35 ∨ solid c := by
  unfold solid
  by_cases h1 : c = 10
  · exact .inl h1
  · by_cases h2 : c = 32
    · exact .inr (.inl (.inl h2))
    · by_cases h3 : c = 9
      · exact .inr (.inl (.inr h3))
      · by_cases h4 : c = 35
        · exact .inr (.inr (.inl h4))
        · exact .inr (.inr (.inr ⟨h1, h2, h3, h4⟩))

/-- An end of a line stops whatever a token or a line holds. -/
theorem span_stop {p : UInt8 → Bool} (hp : p 10 = false) (x y : Txt) : span p (x ++ 10 :: y) = span p x := by
  unfold span
  induction x with
  | nil => simp [hp]
  | cons c r ih =>
    rw [List.cons_append, List.takeWhile_cons, List.takeWhile_cons]
    by_cases h : p c
    · simp only [h, if_true, List.length_cons, ih]
    · simp [h]
theorem lenOf_stop (c : UInt8) (x y : Txt) : lenOf (c :: x ++ 10 :: y) = lenOf (c :: x) := by
  unfold lenOf
  rw [List.cons_append]
  simp only
  rw [← List.cons_append, span_stop (by decide), span_stop (by decide)]
theorem okOf_stop (c : UInt8) (x y : Txt) : okOf (c :: x ++ 10 :: y) = okOf (c :: x) := by
  unfold okOf
  rw [List.cons_append]
  simp only
  rw [← List.cons_append, span_stop (by decide), span_stop (by decide)]
theorem kindOf_stop (c : UInt8) (x y : Txt) : kindOf (c :: x ++ 10 :: y) = kindOf (c :: x) := rfl
theorem take_stop (c : UInt8) (x y : Txt) : (c :: x ++ 10 :: y).take (lenOf (c :: x)) = (c :: x).take (lenOf (c :: x)) :=
  List.take_append_of_le_length (by have := lenOf_le (c := c) (r := x); simpa using this)
theorem tokAt_stop (c : UInt8) (x y : Txt) (line col : Nat) : tokAt (c :: x ++ 10 :: y) line col = tokAt (c :: x) line col := by
  unfold tokAt numOf
  rw [lenOf_stop, take_stop, kindOf_stop]

def nls (x : Txt) : Nat := x.count 10
/-- Two texts with an end of a line between: the tokens of the first, but its end, then those of the second. -/
def join (x y : Txt) (line : Nat) : Res → Res
  | .ok ts => app ts.dropLast (go y (line + nls x + 1) 1)
  | .bad a b => .bad a b
theorem go_ne : ∀ (n : Nat) (l : Txt) (line col : Nat), l.length ≤ n → go l line col ≠ .ok []
  | n, [], line, col, _ => by simp [go_nil]
  | 0, _ :: _, _, _, h => by simp at h
  | n + 1, c :: r, line, col, h => by
    simp only [List.length_cons] at h
    rcases parts c with rfl | hc | rfl | hs
    · rw [go_nl]; exact go_ne n r _ _ (by omega)
    · rw [go_blank hc]; exact go_ne n r _ _ (by omega)
    · rw [go_hash]; exact go_ne n _ _ _ (by rw [List.length_drop]; omega)
    · cases h : okOf (c :: r) with
      | false => rw [go_bad hs h]; simp
      | true =>
        rw [go_tok hs h]
        intro e
        obtain ⟨_, _, h⟩ := pre_ok e
        cases h
theorem nls_drop (p : UInt8 → Bool) (hp : p 10 = false) (x : Txt) : nls (x.drop (span p x)) = nls x := by
  unfold nls span
  induction x with
  | nil => rfl
  | cons c r ih =>
    rw [List.takeWhile_cons]
    cases h : p c with
    | false => simp
    | true =>
      have hc : c ≠ 10 := by rintro rfl; rw [hp] at h; cases h
      simp only [if_true, List.length_cons, List.drop_succ_cons, ih, List.count_cons, beq_iff_eq, hc, if_false, Nat.add_zero]
theorem nls_tok {c : UInt8} {r : Txt} (hs : solid c) : nls ((c :: r).drop (lenOf (c :: r))) = nls (c :: r) := by
  unfold lenOf
  simp only
  split
  · exact nls_drop inWord (by decide) _
  · split
    · exact nls_drop digit (by decide) _
    · rw [List.drop_one, List.tail_cons]
      unfold nls
      simp [hs.1]

theorem go_join : ∀ (n : Nat) (x y : Txt) (line col : Nat), x.length ≤ n → go (x ++ 10 :: y) line col = join x y line (go x line col)
  | n, [], y, line, col, _ => by simp [go_nil, go_nl, join, app_nil, nls]
  | 0, _ :: _, _, _, _, h => by simp at h
  | n + 1, c :: r, y, line, col, h => by
    simp only [List.length_cons] at h
    rcases parts c with rfl | hc | rfl | hs
    · rw [List.cons_append, go_nl, go_nl, go_join n r y _ _ (by omega)]
      have : nls (10 :: r) = nls r + 1 := by simp [nls]
      cases go r (line + 1) 1 with
      | bad a b => rfl
      | ok ts => simp only [join, this]; rw [show line + 1 + nls r + 1 = line + (nls r + 1) + 1 by omega]
    · rw [List.cons_append, go_blank hc, go_blank hc, go_join n r y _ _ (by omega)]
      have : nls (c :: r) = nls r := by rcases hc with rfl | rfl <;> simp [nls]
      cases go r line (col + 1) with
      | bad a b => rfl
      | ok ts => simp only [join, this]
    · rw [List.cons_append, go_hash, go_hash, span_stop (by decide), List.drop_append_of_le_length (span_le _ _), go_join n _ y _ _ (by rw [List.length_drop]; omega)]
      have : nls (35 :: r) = nls r := by simp [nls]
      cases go (r.drop (span inLine r)) line (col + 1 + span inLine r) with
      | bad a b => rfl
      | ok ts => simp only [join, this, nls_drop inLine (by decide)]
    · have hl := lenOf_pos (c := c) (r := r)
      have hm := lenOf_le (c := c) (r := r)
      cases ho : okOf (c :: r) with
      | false =>
        rw [go_bad hs ho, List.cons_append, go_bad hs (by rw [← List.cons_append, okOf_stop]; exact ho)]
        rfl
      | true =>
        rw [go_tok hs ho, List.cons_append, go_tok hs (by rw [← List.cons_append, okOf_stop]; exact ho), ← List.cons_append, lenOf_stop, tokAt_stop,
          List.drop_append_of_le_length (by simpa using hm), go_join n _ y _ _ (by simp only [List.length_drop, List.length_cons]; omega)]
        have hne := go_ne _ ((c :: r).drop (lenOf (c :: r))) line (col + lenOf (c :: r)) (Nat.le_refl _)
        cases hg : go ((c :: r).drop (lenOf (c :: r))) line (col + lenOf (c :: r)) with
        | bad a b => rfl
        | ok ts =>
          rw [hg] at hne
          cases ts with
          | nil => exact absurd rfl hne
          | cons t ts =>
            simp only [join, pre, nls_tok hs]
            rw [show (tokAt (c :: r) line col :: t :: ts).dropLast = tokAt (c :: r) line col :: (t :: ts).dropLast from rfl]
            generalize (t :: ts).dropLast = q
            cases go y (line + nls (c :: r) + 1) 1 <;> rfl

def shiftT (d : Nat) (t : Tok) : Tok := { t with line := t.line + d }
def shift (d : Nat) : Res → Res
  | .ok ts => .ok (ts.map (shiftT d))
  | .bad a b => .bad (a + d) b
theorem go_shift (d : Nat) : ∀ (n : Nat) (x : Txt) (line col : Nat), x.length ≤ n → go x (line + d) col = shift d (go x line col)
  | n, [], line, col, _ => rfl
  | 0, _ :: _, _, _, h => by simp at h
  | n + 1, c :: r, line, col, h => by
    simp only [List.length_cons] at h
    rcases parts c with rfl | hc | rfl | hs
    · rw [go_nl, go_nl, ← go_shift d n r _ _ (by omega), show line + d + 1 = line + 1 + d by omega]
    · rw [go_blank hc, go_blank hc, ← go_shift d n r _ _ (by omega)]
    · rw [go_hash, go_hash, ← go_shift d n _ _ _ (by rw [List.length_drop]; omega)]
    · have hl := lenOf_pos (c := c) (r := r)
      cases ho : okOf (c :: r) with
      | false => rw [go_bad hs ho, go_bad hs ho]; rfl
      | true =>
        rw [go_tok hs ho, go_tok hs ho, go_shift d n _ _ _ (by simp only [List.length_drop, List.length_cons]; omega)]
        cases go ((c :: r).drop (lenOf (c :: r))) line (col + lenOf (c :: r)) <;> rfl

/-- No token stands ahead of the place at which the text begins. -/
theorem go_after : ∀ (n : Nat) (l : Txt) (line col : Nat) (t : Tok) (ts : List Tok), l.length ≤ n → go l line col = .ok (t :: ts) → line < t.line ∨ (line = t.line ∧ col ≤ t.col)
  | n, [], line, col, t, ts, _, e => by
    rw [go_nil] at e
    injection e with e; injection e with e _; subst e
    exact .inr ⟨rfl, Nat.le_refl _⟩
  | 0, _ :: _, _, _, _, _, h, _ => by simp at h
  | n + 1, c :: r, line, col, t, ts, h, e => by
    simp only [List.length_cons] at h
    rcases parts c with rfl | hc | rfl | hs
    · rw [go_nl] at e
      rcases go_after n r _ _ t ts (by omega) e with h | ⟨h, _⟩ <;> exact .inl (by omega)
    · rw [go_blank hc] at e
      rcases go_after n r _ _ t ts (by omega) e with h | ⟨h, k⟩
      · exact .inl h
      · exact .inr ⟨h, by omega⟩
    · rw [go_hash] at e
      rcases go_after n _ _ _ t ts (by rw [List.length_drop]; omega) e with h | ⟨h, k⟩
      · exact .inl h
      · exact .inr ⟨h, by omega⟩
    · cases ho : okOf (c :: r) with
      | false => rw [go_bad hs ho] at e; cases e
      | true =>
        rw [go_tok hs ho] at e
        obtain ⟨_, _, e⟩ := pre_ok e
        injection e with e _; subst e
        exact .inr ⟨rfl, Nat.le_refl _⟩
end Go.Proofs.YtkdejinhjdkkmaaDoor

/- Plain words for patterns: their nodes, which lists of nodes are patterns, how tokens are read as a pattern; no condition. -/
import Derived.Test.YtkdejinhjdkkmaaDoorL
namespace Go.Proofs.YtkdejinhjdkkmaaDoor

structure Nd where
  kind : Int
  a : Int
  b : Int
  n : Int
  name : ByteArray
deriving DecidableEq

def emp : ByteArray := ⟨#[]⟩
def nLeaf (k : Int) : Nd := ⟨k, 0, 0, 0, emp⟩
def nTag (k : Nat) (m : Nat) : Nd := ⟨3, m, 0, k, emp⟩
def nTwo (kind : Int) (a b : Int) : Nd := ⟨kind, a, b, 0, emp⟩
def nStar (a : Int) : Nd := ⟨6, a, 0, 0, emp⟩

/-- What is read: an error, or what is left of the tokens and all nodes so far. -/
inductive Out where
  | bad (e : Nat)
  | ok (rest : List Tok) (ns : List Nd)
deriving DecidableEq

/-- The next token's text is the one byte c. -/
def isT (c : UInt8) : List Tok → Bool
  | t :: _ => t.text == [c]
  | [] => false
def isName (keys : List Txt) (x : Txt) : Bool := isWord x && !keys.contains x
def posF (x : Txt) : List Txt → Nat → Option Nat
  | [], _ => none
  | y :: r, k => if y = x then some k else posF x r (k + 1)

/-- What stands behind a tag of number k. -/
def countP (k : Nat) (r : List Tok) (ns : List Nd) : Out :=
  if isT 94 r then
    match r.tail with
    | t :: r' => if t.kind = 2 ∧ 1 ≤ t.n ∧ t.n ≤ 999999999 then .ok r' (ns ++ [nTag k t.n]) else .bad 2
    | [] => .bad 2
  else .ok r (ns ++ [nTag k 1])
def tagP (nm : List Txt) (x : Txt) (r : List Tok) (ns : List Nd) : Out :=
  match posF x nm 0 with
  | none => .bad 4
  | some k => countP k r ns
def singleP (keys nm : List Txt) (br : List Tok → List Nd → Out) (ts : List Tok) (ns : List Nd) : Out :=
  match ts with
  | [] => .bad 2
  | t :: r =>
    if t.text = [40] then br r ns
    else if t.text = [48] then .ok r (ns ++ [nLeaf 1])
    else if t.text = [49] then .ok r (ns ++ [nLeaf 2])
    else if isName keys t.text = true then tagP nm t.text r ns
    else .bad 2
def closeP : Out → Out
  | .bad e => .bad e
  | .ok ts ns => if isT 41 ts then .ok ts.tail ns else .bad 2
def addStar : Out → Out
  | .bad e => .bad e
  | .ok ts ns => .ok ts (ns ++ [nStar ((ns.length : Int) - 1)])
def starP (keys nm : List Txt) (st : Bool) (br : Bool → List Tok → List Nd → Out) (ts : List Tok) (ns : List Nd) : Out :=
  if isT 42 ts then (if st then .bad 2 else addStar (singleP keys nm (br true) ts.tail ns)) else singleP keys nm (br st) ts ns
/-- One more piece has been read, whose left one ends at 'left'. -/
def addTwo (kind : Int) (left : Int) : Out → Out
  | .bad e => .bad e
  | .ok ts ns => .ok ts (ns ++ [nTwo kind left ((ns.length : Int) - 1)])
def rowL (piece : List Tok → List Nd → Out) (c : UInt8) (kind : Int) : Nat → List Tok → List Nd → Out
  | 0, ts, ns => .ok ts ns
  | f + 1, ts, ns =>
    if isT c ts then
      match addTwo kind ((ns.length : Int) - 1) (piece ts.tail ns) with
      | .bad e => .bad e
      | .ok ts' ns' => rowL piece c kind f ts' ns'
    else .ok ts ns
def rowP (piece : List Tok → List Nd → Out) (c : UInt8) (kind : Int) (ts : List Tok) (ns : List Nd) : Out :=
  match piece ts ns with
  | .bad e => .bad e
  | .ok ts' ns' => rowL piece c kind ts'.length ts' ns'
def catP (keys nm : List Txt) (st : Bool) (br : Bool → List Tok → List Nd → Out) : List Tok → List Nd → Out := rowP (starP keys nm st br) 46 5
def sumPB (keys nm : List Txt) (st : Bool) (br : Bool → List Tok → List Nd → Out) : List Tok → List Nd → Out := rowP (catP keys nm st br) 43 4
/-- What stands behind a bracket, where d more may be opened. -/
def brP (keys nm : List Txt) : Nat → Bool → List Tok → List Nd → Out
  | 0, _, _, _ => .bad 3
  | d + 1, st, ts, ns => closeP (sumPB keys nm st (brP keys nm d) ts ns)
def sumP (keys nm : List Txt) (d : Nat) (st : Bool) : List Tok → List Nd → Out := sumPB keys nm st (brP keys nm d)
def wholeP (keys nm : List Txt) (ts : List Tok) : Out :=
  match sumP keys nm 12 false ts [] with
  | .bad e => .bad e
  | .ok ts' ns => if (ts'.head?.map Tok.kind) = some 4 then .ok ts'.tail ns else .bad 2
/-- The pattern, or the error. -/
def parseP (keys nm : List Txt) : Res → Nat × List Nd
  | .bad _ _ => (2, [])
  | .ok ts =>
    match wholeP keys nm ts with
    | .bad e => (e, [])
    | .ok _ ns => if 24 < ns.length then (3, []) else (0, ns)

/-- A token as the lexer makes it. -/
def wfT (t : Tok) : Prop :=
  (t.kind = 1 ∧ isWord t.text = true) ∨
  (t.kind = 2 ∧ t.text ≠ [] ∧ (∀ c ∈ t.text, digit c = true) ∧ t.text.length ≤ 9 ∧ (1 < t.text.length → t.text.head? ≠ some 48) ∧ t.n = num t.text) ∨
  (t.kind = 3 ∧ ∃ c, sign c = true ∧ t.text = [c])
/-- Tokens, the last of which is the end. -/
def Ended : List Tok → Prop
  | [] => False
  | [t] => t.kind = 4 ∧ t.text = []
  | t :: u :: ts => wfT t ∧ Ended (u :: ts)

theorem wfT_ne {t : Tok} (h : wfT t) : t.text ≠ [] := by
  rcases h with ⟨_, h⟩ | ⟨_, h, _⟩ | ⟨_, c, _, h⟩
  · intro e; rw [e] at h; cases h
  · exact h
  · rw [h]; simp
theorem wfT_kind {t : Tok} (h : wfT t) : t.kind ≠ 4 := by
  rcases h with ⟨h, _⟩ | ⟨h, _⟩ | ⟨h, _⟩ <;> omega
theorem Ended.ne {ts : List Tok} (h : Ended ts) : ts ≠ [] := by rintro rfl; exact h
theorem Ended.tail {t : Tok} {r : List Tok} (h : Ended (t :: r)) (ht : t.text ≠ []) : Ended r ∧ wfT t := by
  cases r with
  | nil => exact absurd h.2 ht
  | cons u ts => exact ⟨h.2, h.1⟩
theorem Ended.last {t : Tok} {r : List Tok} (h : Ended (t :: r)) (ht : t.kind = 4) : r = [] := by
  cases r with
  | nil => rfl
  | cons u ts => exact absurd ht (wfT_kind h.1)
theorem isT_tail {c : UInt8} {ts : List Tok} (h : Ended ts) (hc : isT c ts = true) : Ended ts.tail ∧ ts.tail.length + 1 = ts.length := by
  cases ts with
  | nil => cases hc
  | cons t r =>
    have : t.text = [c] := by simpa [isT] using hc
    exact ⟨(h.tail (by rw [this]; simp)).1, rfl⟩

/-- What a reader of a piece keeps: tokens are used up, at most one node a token is made. -/
def Fine (p : List Tok → List Nd → Out) : Prop :=
  ∀ ts ns, Ended ts → match p ts ns with
    | .bad e => 2 ≤ e ∧ e ≤ 4
    | .ok rest ns' => Ended rest ∧ rest.length < ts.length ∧ ns'.length + rest.length ≤ ns.length + ts.length ∧ ns.length < ns'.length
theorem fine_bad {p : List Tok → List Nd → Out} (h : Fine p) {ts : List Tok} {ns : List Nd} {e : Nat} (ht : Ended ts) (hp : p ts ns = .bad e) : 2 ≤ e ∧ e ≤ 4 := by
  have := h ts ns ht; rw [hp] at this; exact this
theorem fine_ok {p : List Tok → List Nd → Out} (h : Fine p) {ts rest : List Tok} {ns ns' : List Nd} (ht : Ended ts) (hp : p ts ns = .ok rest ns') : Ended rest ∧ rest.length < ts.length ∧ ns'.length + rest.length ≤ ns.length + ts.length ∧ ns.length < ns'.length := by
  have := h ts ns ht; rw [hp] at this; exact this

/-- What is kept behind the first piece's beginning, when 'k' tokens were taken ahead of it. -/
theorem fine_count (k : Nat) (r : List Tok) (ns : List Nd) (h : Ended r) : match countP k r ns with
    | .bad e => 2 ≤ e ∧ e ≤ 4
    | .ok rest ns' => Ended rest ∧ rest.length ≤ r.length ∧ ns'.length = ns.length + 1 := by
  unfold countP
  by_cases h1 : isT 94 r = true
  · rw [if_pos h1]
    have := isT_tail h h1
    cases hr : r.tail with
    | nil => exact ⟨by omega, by omega⟩
    | cons t r' =>
      rw [hr] at this
      simp only
      by_cases h2 : t.kind = 2 ∧ 1 ≤ t.n ∧ t.n ≤ 999999999
      · rw [if_pos h2]
        have e := this.1
        refine ⟨?_, by have := this.2; simp only [List.length_cons] at this; omega, by simp⟩
        cases r' with
        | nil => have := e.1; omega
        | cons u ts => exact e.2
      · rw [if_neg h2]; exact ⟨by omega, by omega⟩
  · rw [if_neg h1]
    exact ⟨h, Nat.le_refl _, by simp⟩
theorem fine_single (keys nm : List Txt) (br : List Tok → List Nd → Out) (hb : Fine br) : Fine (singleP keys nm br) := by
  intro ts ns ht
  cases ts with
  | nil => exact ht.elim
  | cons t r =>
    unfold singleP
    simp only
    by_cases h1 : t.text = [40]
    · rw [if_pos h1]
      have hr := (ht.tail (by rw [h1]; simp)).1
      have := hb r ns hr
      cases hx : br r ns with
      | bad e => rw [hx] at this; exact this
      | ok rest ns' => rw [hx] at this; simp only at this ⊢; simp only [List.length_cons]; refine ⟨this.1, by omega, by omega, by omega⟩
    · rw [if_neg h1]
      by_cases h2 : t.text = [48]
      · rw [if_pos h2]; exact ⟨(ht.tail (by rw [h2]; simp)).1, by simp, by simp; omega, by simp⟩
      · rw [if_neg h2]
        by_cases h3 : t.text = [49]
        · rw [if_pos h3]; exact ⟨(ht.tail (by rw [h3]; simp)).1, by simp, by simp; omega, by simp⟩
        · rw [if_neg h3]
          by_cases h4 : isName keys t.text = true
          · rw [if_pos h4]
            have hne : t.text ≠ [] := by intro e; rw [e] at h4; simp [isName, isWord] at h4
            have hr := (ht.tail hne).1
            unfold tagP
            cases posF t.text nm 0 with
            | none => exact ⟨by omega, by omega⟩
            | some k =>
              simp only
              have := fine_count k r ns hr
              cases hx : countP k r ns with
              | bad e => rw [hx] at this; exact this
              | ok rest ns' => rw [hx] at this; simp only at this ⊢; simp only [List.length_cons]; refine ⟨this.1, by omega, by omega, by omega⟩
          · rw [if_neg h4]; exact ⟨by omega, by omega⟩
theorem fine_star (keys nm : List Txt) (st : Bool) (br : Bool → List Tok → List Nd → Out) (hb : ∀ s, Fine (br s)) : Fine (starP keys nm st br) := by
  intro ts ns ht
  unfold starP
  by_cases h1 : isT 42 ts = true
  · rw [if_pos h1]
    cases st with
    | true => exact ⟨by omega, by omega⟩
    | false =>
      have e := isT_tail ht h1
      have := fine_single keys nm (br true) (hb true) ts.tail ns e.1
      simp only [Bool.false_eq_true, if_false]
      cases hx : singleP keys nm (br true) ts.tail ns with
      | bad e => rw [hx] at this; exact this
      | ok rest ns' =>
        rw [hx] at this
        simp only [addStar] at this ⊢
        simp only [List.length_append, List.length_cons, List.length_nil]
        refine ⟨this.1, by omega, by omega, by omega⟩
  · rw [if_neg h1]
    exact fine_single keys nm (br st) (hb st) ts ns ht
theorem fine_rowL (p : List Tok → List Nd → Out) (hp : Fine p) (c : UInt8) (kind : Int) : ∀ (f : Nat) (ts : List Tok) (ns : List Nd), Ended ts → match rowL p c kind f ts ns with
    | .bad e => 2 ≤ e ∧ e ≤ 4
    | .ok rest ns' => Ended rest ∧ rest.length ≤ ts.length ∧ ns'.length + rest.length ≤ ns.length + ts.length ∧ ns.length ≤ ns'.length
  | 0, ts, ns, ht => by simp only [rowL]; exact ⟨ht, Nat.le_refl _, Nat.le_refl _, Nat.le_refl _⟩
  | f + 1, ts, ns, ht => by
    unfold rowL
    by_cases h1 : isT c ts = true
    · rw [if_pos h1]
      have e := isT_tail ht h1
      have := hp ts.tail ns e.1
      cases hx : p ts.tail ns with
      | bad e => rw [hx] at this; simpa only [addTwo] using this
      | ok ts' ns' =>
        rw [hx] at this
        simp only [addTwo] at this ⊢
        have ih := fine_rowL p hp c kind f ts' (ns' ++ [nTwo kind ((ns.length : Int) - 1) ((ns'.length : Int) - 1)]) this.1
        cases hy : rowL p c kind f ts' (ns' ++ [nTwo kind ((ns.length : Int) - 1) ((ns'.length : Int) - 1)]) with
        | bad e => rw [hy] at ih; exact ih
        | ok rest ns'' =>
          rw [hy] at ih
          simp only [List.length_append, List.length_cons, List.length_nil] at ih ⊢
          refine ⟨ih.1, by omega, by omega, by omega⟩
    · rw [if_neg h1]; exact ⟨ht, Nat.le_refl _, Nat.le_refl _, Nat.le_refl _⟩
theorem fine_row (p : List Tok → List Nd → Out) (hp : Fine p) (c : UInt8) (kind : Int) : Fine (rowP p c kind) := by
  intro ts ns ht
  unfold rowP
  have := hp ts ns ht
  cases hx : p ts ns with
  | bad e => rw [hx] at this; exact this
  | ok ts' ns' =>
    rw [hx] at this
    simp only at this ⊢
    have ih := fine_rowL p hp c kind ts'.length ts' ns' this.1
    cases hy : rowL p c kind ts'.length ts' ns' with
    | bad e => rw [hy] at ih; exact ih
    | ok rest ns'' => rw [hy] at ih; simp only at ih ⊢; refine ⟨ih.1, by omega, by omega, by omega⟩
theorem fine_cat (keys nm : List Txt) (st : Bool) (br : Bool → List Tok → List Nd → Out) (hb : ∀ s, Fine (br s)) : Fine (catP keys nm st br) := fine_row _ (fine_star keys nm st br hb) _ _
theorem fine_sumB (keys nm : List Txt) (st : Bool) (br : Bool → List Tok → List Nd → Out) (hb : ∀ s, Fine (br s)) : Fine (sumPB keys nm st br) := fine_row _ (fine_cat keys nm st br hb) _ _
theorem fine_br (keys nm : List Txt) : ∀ (d : Nat) (st : Bool), Fine (brP keys nm d st)
  | 0, _ => fun _ _ _ => ⟨by omega, by omega⟩
  | d + 1, st => by
    intro ts ns ht
    unfold brP
    have := fine_sumB keys nm st (brP keys nm d) (fine_br keys nm d) ts ns ht
    cases hx : sumPB keys nm st (brP keys nm d) ts ns with
    | bad e => rw [hx] at this; exact this
    | ok ts' ns' =>
      rw [hx] at this
      simp only [closeP] at this ⊢
      by_cases h1 : isT 41 ts' = true
      · rw [if_pos h1]
        have e := isT_tail this.1 h1
        exact ⟨e.1, by omega, by omega, by omega⟩
      · rw [if_neg h1]; exact ⟨by omega, by omega⟩
theorem fine_sum (keys nm : List Txt) (d : Nat) (st : Bool) : Fine (sumP keys nm d st) := fine_sumB keys nm st _ (fine_br keys nm d)
end Go.Proofs.YtkdejinhjdkkmaaDoor

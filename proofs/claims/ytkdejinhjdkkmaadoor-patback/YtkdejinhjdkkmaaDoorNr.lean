/- Plain words: a pattern that is printed and read again is what it was; the condition: its tags are known by their names, its nodes bear no names of their own. -/
import Derived.Test.YtkdejinhjdkkmaaDoorNq
namespace Go.Proofs.YtkdejinhjdkkmaaDoor

/-- The nodes from s up to e are a part of a pattern: has it a star, how deep are its brackets, what kind is its last node. -/
inductive Sub (ns : List Nd) (tags : Int) : Nat → Nat → Bool → Nat → Int → Prop
  | leaf {s : Nat} {x : Nd} : ns[s]? = some x → (x.kind = 1 ∨ x.kind = 2) → x.a = 0 → x.b = 0 → x.n = 0 → Sub ns tags s (s + 1) false 0 x.kind
  | tag {s : Nat} {x : Nd} : ns[s]? = some x → x.kind = 3 → 0 ≤ x.n → x.n < tags → 1 ≤ x.a → x.a ≤ 999999999 → x.b = 0 → Sub ns tags s (s + 1) false 0 x.kind
  | two {s m e D1 D2 D : Nat} {st1 st2 : Bool} {k1 k2 : Int} {x : Nd} : Sub ns tags s m st1 D1 k1 → Sub ns tags m e st2 D2 k2 → ns[e]? = some x → (x.kind = 4 ∨ x.kind = 5) → x.a = (m : Int) - 1 → x.b = (e : Int) - 1 → x.n = 0 →
      D1 ≤ D → D2 ≤ D → (k1 = 4 ∨ k1 = 5 → D1 + 1 ≤ D) → (k2 = 4 ∨ k2 = 5 → D2 + 1 ≤ D) → Sub ns tags s (e + 1) (st1 || st2) D x.kind
  | star {s e D1 D : Nat} {k1 : Int} {x : Nd} : Sub ns tags s e false D1 k1 → ns[e]? = some x → x.kind = 6 → x.a = (e : Int) - 1 → x.b = 0 → x.n = 0 → D1 ≤ D → (k1 = 4 ∨ k1 = 5 → D1 + 1 ≤ D) → Sub ns tags s (e + 1) true D x.kind
theorem Sub.lt {ns : List Nd} {tags : Int} {s e D : Nat} {st : Bool} {k : Int} (h : Sub ns tags s e st D k) : s < e ∧ e ≤ ns.length ∧ ∃ x, ns[e - 1]? = some x ∧ x.kind = k := by
  induction h with
  | leaf h hk => exact ⟨by omega, (List.getElem?_eq_some_iff.1 h).1, _, h, rfl⟩
  | tag h hk => exact ⟨by omega, (List.getElem?_eq_some_iff.1 h).1, _, h, rfl⟩
  | two h1 h2 h _ _ _ _ _ _ _ _ i1 i2 => exact ⟨by omega, (List.getElem?_eq_some_iff.1 h).1, _, h, rfl⟩
  | star h1 h _ _ _ _ _ _ i1 => exact ⟨by omega, (List.getElem?_eq_some_iff.1 h).1, _, h, rfl⟩
/-- A part, whose brackets are no deeper than its nodes let them be. -/
def SubB (ns : List Nd) (tags : Int) (s e : Nat) (st : Bool) : Prop := ∃ D k, Sub ns tags s e st D k ∧ 2 * D + 1 ≤ e - s ∧ (k = 4 ∨ k = 5 → 2 * D + 3 ≤ e - s)
inductive Chain (ns : List Nd) (tags : Int) : List (Int × Bool) → Nat → Prop
  | nil : Chain ns tags [] 0
  | snoc {fl : List (Int × Bool)} {s e : Nat} {st : Bool} : Chain ns tags fl s → SubB ns tags s e st → Chain ns tags (fl ++ [((e : Int) - 1, st)]) e
theorem Chain.inv {ns : List Nd} {tags : Int} {fl : List (Int × Bool)} {e : Nat} {p : Int × Bool} (h : Chain ns tags (fl ++ [p]) e) : ∃ s, Chain ns tags fl s ∧ SubB ns tags s e p.2 ∧ p.1 = (e : Int) - 1 := by
  generalize hg : fl ++ [p] = g at h
  cases h with
  | nil => simp at hg
  | snoc hc hs =>
    obtain ⟨e1, e2⟩ := List.append_inj' hg rfl
    injection e2 with e2
    subst e1; subst e2
    exact ⟨_, hc, hs, rfl⟩
theorem lastOne {α : Type} {l : List α} (h : ¬ l.length < 1) : ∃ l0 p, l = l0 ++ [p] ∧ l.drop (l.length - 1) = [p] ∧ l.take (l.length - 1) = l0 := by
  rcases List.eq_nil_or_concat l with rfl | ⟨l0, p, rfl⟩
  · simp at h
  · rw [List.concat_eq_append]; exact ⟨l0, p, rfl, by simp, by simp⟩
theorem lastTwo {α : Type} {l : List α} (h : ¬ l.length < 2) : ∃ l0 p q, l = l0 ++ [p] ++ [q] ∧ l.drop (l.length - 2) = [p, q] ∧ l.take (l.length - 2) = l0 := by
  obtain ⟨l1, q, rfl, _, _⟩ := lastOne (l := l) (by omega)
  obtain ⟨l0, p, rfl, _, _⟩ := lastOne (l := l1) (by simp at h; omega)
  exact ⟨l0, p, q, rfl, by simp, by simp⟩
theorem chain_step {ns : List Nd} {tags : Int} {i : Nat} {x : Nd} {fl fl' : List (Int × Bool)} (hx : ns[i]? = some x) (h : chkStep tags i x fl = some fl') (hc : Chain ns tags fl i) : Chain ns tags fl' (i + 1) := by
  have hci : (((i + 1 : Nat) : Int) - 1) = (i : Int) := by omega
  unfold chkStep at h
  by_cases h1 : fl.length < partsK x.kind
  · rw [if_pos h1] at h; cases h
  rw [if_neg h1] at h
  by_cases h2 : rightB x tags (fl.drop (fl.length - partsK x.kind)) = true
  · rw [if_pos h2] at h
    injection h with h
    subst h
    by_cases k1 : x.kind = 1 ∨ x.kind = 2
    · have hp : partsK x.kind = 0 := by unfold partsK; rw [if_neg (by omega), if_neg (by omega)]
      unfold rightB at h2
      rw [if_pos k1] at h2
      simp only [Bool.and_eq_true, decide_eq_true_eq] at h2
      rw [hp, Nat.sub_zero, List.take_length, List.drop_length]
      have h6 : ¬ x.kind = 6 := by omega
      simp only [h6, decide_false, List.any_nil, Bool.or_false]
      rw [← hci]
      exact hc.snoc ⟨0, x.kind, Sub.leaf hx k1 h2.1 h2.2.1 h2.2.2, by omega, by omega⟩
    by_cases k3 : x.kind = 3
    · have hp : partsK x.kind = 0 := by unfold partsK; rw [if_neg (by omega), if_neg (by omega)]
      unfold rightB at h2
      rw [if_neg k1, if_pos k3] at h2
      simp only [Bool.and_eq_true, decide_eq_true_eq] at h2
      rw [hp, Nat.sub_zero, List.take_length, List.drop_length]
      have h6 : ¬ x.kind = 6 := by omega
      simp only [h6, decide_false, List.any_nil, Bool.or_false]
      rw [← hci]
      exact hc.snoc ⟨0, x.kind, Sub.tag hx k3 h2.1 h2.2.1 h2.2.2.1 h2.2.2.2.1 h2.2.2.2.2, by omega, by omega⟩
    by_cases k45 : x.kind = 4 ∨ x.kind = 5
    · have hp : partsK x.kind = 2 := by unfold partsK; rw [if_pos k45]
      rw [hp] at h1 h2 ⊢
      obtain ⟨l0, p, q, hfl, hd, ht⟩ := lastTwo h1
      rw [hd] at h2 ⊢
      rw [ht]
      unfold rightB at h2
      rw [if_neg k1, if_neg k3] at h2
      simp only [Bool.and_eq_true, decide_eq_true_eq] at h2
      rw [hfl] at hc
      obtain ⟨m, hc1, ⟨D2, kk2, S2, b2, c2⟩, hq⟩ := hc.inv
      obtain ⟨s, hc0, ⟨D1, kk1, S1, b1, c1⟩, hp1⟩ := hc1.inv
      have h6 : ¬ x.kind = 6 := by omega
      have l1 := S1.lt
      have l2 := S2.lt
      simp only [h6, decide_false, Bool.false_or, List.any_cons, List.any_nil, Bool.or_false]
      rw [← hci]
      refine hc0.snoc ⟨max (if kk1 = 4 ∨ kk1 = 5 then D1 + 1 else D1) (if kk2 = 4 ∨ kk2 = 5 then D2 + 1 else D2), x.kind, Sub.two S1 S2 hx k45 (by rw [h2.2.1, hp1]) (by rw [h2.2.2.1, hq]) h2.2.2.2 ?_ ?_ ?_ ?_, ?_, fun _ => ?_⟩
      · split <;> omega
      · split <;> split <;> omega
      · intro h; rw [if_pos h]; omega
      · intro h; rw [if_pos h]; omega
      · by_cases e1 : kk1 = 4 ∨ kk1 = 5 <;> by_cases e2 : kk2 = 4 ∨ kk2 = 5 <;> simp only [e1, e2, if_true, if_false] <;> (try have := c1 e1) <;> (try have := c2 e2) <;> omega
      · by_cases e1 : kk1 = 4 ∨ kk1 = 5 <;> by_cases e2 : kk2 = 4 ∨ kk2 = 5 <;> simp only [e1, e2, if_true, if_false] <;> (try have := c1 e1) <;> (try have := c2 e2) <;> omega
    · by_cases k6 : x.kind = 6
      · have hp : partsK x.kind = 1 := by unfold partsK; rw [if_neg k45, if_pos k6]
        rw [hp] at h1 h2 ⊢
        obtain ⟨l0, p, hfl, hd, ht⟩ := lastOne h1
        rw [hd] at h2 ⊢
        rw [ht]
        unfold rightB at h2
        rw [if_neg k1, if_neg k3] at h2
        simp only [Bool.and_eq_true, decide_eq_true_eq, Bool.not_eq_true'] at h2
        rw [hfl] at hc
        obtain ⟨s, hc0, ⟨D1, kk1, S1, b1, c1⟩, hp1⟩ := hc.inv
        rw [h2.2.1] at S1
        have l1 := S1.lt
        simp only [k6, decide_true, Bool.true_or]
        rw [← hci]
        refine hc0.snoc ⟨if kk1 = 4 ∨ kk1 = 5 then D1 + 1 else D1, x.kind, Sub.star S1 hx k6 (by rw [h2.2.2.1, hp1]) h2.2.2.2.1 h2.2.2.2.2 ?_ ?_, ?_, by omega⟩
        · split <;> omega
        · intro h; rw [if_pos h]; omega
        · by_cases e1 : kk1 = 4 ∨ kk1 = 5 <;> simp only [e1, if_true, if_false] <;> (try have := c1 e1) <;> omega
      · exfalso
        have hp : partsK x.kind = 0 := by unfold partsK; rw [if_neg k45, if_neg k6]
        rw [hp, Nat.sub_zero, List.drop_length] at h2
        unfold rightB at h2
        rw [if_neg k1, if_neg k3] at h2
        cases h2
  · rw [if_neg h2] at h; cases h
theorem chain_all {ns : List Nd} {tags : Int} : ∀ (r : List Nd) (i : Nat) (fl fl' : List (Int × Bool)), ns.drop i = r → chkL tags i r fl = some fl' → Chain ns tags fl i → Chain ns tags fl' (i + r.length)
  | [], i, fl, fl', _, h, hc => by simp only [chkL] at h; injection h with h; subst h; exact hc
  | x :: r, i, fl, fl', hr, h, hc => by
    simp only [chkL] at h
    have hx : ns[i]? = some x := by
      have := congrArg (fun l => l[0]?) hr
      simpa using this
    cases hs : chkStep tags i x fl with
    | none => rw [hs] at h; cases h
    | some fl2 =>
      rw [hs] at h
      have hr' : ns.drop (i + 1) = r := by rw [← List.drop_drop, Nat.add_comm] at *; have := congrArg List.tail hr; simpa using this
      have := chain_all r (i + 1) fl2 fl' hr' h (chain_step hx hs hc)
      rw [List.length_cons, show i + (r.length + 1) = i + 1 + r.length by omega]
      exact this
theorem chk_sub {ns : List Nd} {tags : Int} (h : chkB ns tags = true) : ∃ st, SubB ns tags 0 ns.length st := by
  unfold chkB at h
  simp only [Bool.and_eq_true, decide_eq_true_eq] at h
  cases hc : chkL tags 0 ns [] with
  | none => rw [hc] at h; exact absurd h.2 (by simp [oneB])
  | some fl =>
    rw [hc] at h
    have hch := chain_all ns 0 [] fl rfl hc Chain.nil
    rw [Nat.zero_add] at hch
    match fl, h.2, hch with
    | [p], _, hch =>
      obtain ⟨s, hc0, hs, _⟩ := Chain.inv (fl := []) (p := p) hch
      generalize hg : ([] : List (Int × Bool)) = g at hc0
      cases hc0 with
      | nil => exact ⟨_, hs⟩
      | snoc => simp at hg
end Go.Proofs.YtkdejinhjdkkmaaDoor

/- Plain words: the text of a pattern, node by node; which nodes of a pattern have which parts; no condition. -/
import Derived.Test.YtkdejinhjdkkmaaDoorN3
import Derived.Lib.ItoaNum
namespace Go.Proofs.YtkdejinhjdkkmaaDoor

/-- A node that may stand at place i. -/
def wfN (tags : Int) (i : Nat) (x : Nd) : Prop :=
  (x.kind = 1 ∨ x.kind = 2) ∨ (x.kind = 3 ∧ 0 ≤ x.n ∧ x.n < tags ∧ 1 ≤ x.a ∧ x.a ≤ 999999999) ∨
  ((x.kind = 4 ∨ x.kind = 5) ∧ 0 ≤ x.a ∧ x.a < i ∧ 0 ≤ x.b ∧ x.b < i) ∨ (x.kind = 6 ∧ 0 ≤ x.a ∧ x.a < i)
theorem step_wf {tags : Int} {i : Nat} {x : Nd} {fl fl' : List (Int × Bool)} (h : chkStep tags i x fl = some fl') (hb : ∀ p ∈ fl, 0 ≤ p.1 ∧ p.1 < i) : wfN tags i x ∧ ∀ p ∈ fl', 0 ≤ p.1 ∧ p.1 < ((i + 1 : Nat) : Int) := by
  unfold chkStep at h
  by_cases h1 : fl.length < partsK x.kind
  · rw [if_pos h1] at h; cases h
  rw [if_neg h1] at h
  by_cases h2 : rightB x tags (fl.drop (fl.length - partsK x.kind)) = true
  · rw [if_pos h2] at h
    injection h with h
    subst h
    have hd : ∀ p ∈ fl.drop (fl.length - partsK x.kind), 0 ≤ p.1 ∧ p.1 < i := fun p hp => hb p (List.mem_of_mem_drop hp)
    refine ⟨?_, fun p hp => ?_⟩
    · generalize fl.drop (fl.length - partsK x.kind) = l at h2 hd
      unfold rightB at h2
      by_cases k1 : x.kind = 1 ∨ x.kind = 2
      · exact .inl k1
      rw [if_neg k1] at h2
      by_cases k3 : x.kind = 3
      · rw [if_pos k3] at h2
        simp only [Bool.and_eq_true, decide_eq_true_eq] at h2
        exact .inr (.inl ⟨k3, h2.1, h2.2.1, h2.2.2.1, h2.2.2.2.1⟩)
      rw [if_neg k3] at h2
      match l, h2, hd with
      | [p, q], h2, hd =>
        simp only [Bool.and_eq_true, decide_eq_true_eq] at h2
        have hp := hd p (by simp)
        have hq := hd q (by simp)
        refine .inr (.inr (.inl ⟨h2.1, ?_⟩))
        rw [h2.2.1, h2.2.2.1]
        exact ⟨hp.1, hp.2, hq.1, hq.2⟩
      | [p], h2, hd =>
        simp only [Bool.and_eq_true, decide_eq_true_eq] at h2
        have hp := hd p (by simp)
        refine .inr (.inr (.inr ⟨h2.1, ?_⟩))
        rw [h2.2.2.1]
        exact hp
      | [], h2, _ => cases h2
      | _ :: _ :: _ :: _, h2, _ => cases h2
    · rcases List.mem_append.1 hp with hp | hp
      · have := hb p (List.mem_of_mem_take hp); omega
      · simp at hp; subst hp; simp only; omega
  · rw [if_neg h2] at h; cases h
theorem chkL_wf {tags : Int} : ∀ (r : List Nd) (i : Nat) (fl fl' : List (Int × Bool)), chkL tags i r fl = some fl' → (∀ p ∈ fl, 0 ≤ p.1 ∧ p.1 < i) → ∀ j (h : j < r.length), wfN tags (i + j) r[j]
  | [], _, _, _, _, _ => fun j h => by simp at h
  | x :: r, i, fl, fl', h, hb => fun j hj => by
    simp only [chkL] at h
    cases hs : chkStep tags i x fl with
    | none => rw [hs] at h; cases h
    | some fl2 =>
      rw [hs] at h
      obtain ⟨h1, h2⟩ := step_wf hs hb
      cases j with
      | zero => exact h1
      | succ j =>
        have := chkL_wf r (i + 1) fl2 fl' h h2 j (by simpa using hj)
        rw [show i + 1 + j = i + (j + 1) by omega] at this
        exact this
theorem chk_wf {ns : List Nd} {tags : Int} (h : chkB ns tags = true) : 0 < ns.length ∧ ns.length ≤ 24 ∧ ∀ j (h : j < ns.length), wfN tags j ns[j] := by
  unfold chkB at h
  simp only [Bool.and_eq_true, decide_eq_true_eq] at h
  obtain ⟨h1, h2⟩ := h
  cases hc : chkL tags 0 ns [] with
  | none => rw [hc] at h2; cases h2
  | some fl =>
    refine ⟨?_, h1, fun j hj => ?_⟩
    · cases ns with
      | nil => simp only [chkL] at hc; injection hc with hc; subst hc; rw [chkL] at h2; cases h2
      | cons x r => simp
    · have := chkL_wf ns 0 [] fl hc (fun p hp => by cases hp) j hj
      rw [Nat.zero_add] at this
      exact this

def wrapT (b : Bool) (t : Txt) : Txt := if b then 40 :: (t ++ [41]) else t
def kindAt (ns : List Nd) (i : Int) : Int := match ns[i.toNat]? with
  | some x => x.kind
  | none => 0
def tagT (nm : List Txt) (x : Nd) : Txt := nm.getD x.n.toNat [] ++ (if 1 < x.a then 94 :: Lib.decDigits x.a.toNat else [])
/-- The text of a node, by the texts of its parts. -/
def nodeT (nm : List Txt) (ns : List Nd) (l : Nat → Txt) (x : Nd) : Txt :=
  if x.kind = 1 then [48] else if x.kind = 2 then [49] else if x.kind = 3 then tagT nm x
  else if x.kind = 4 then l x.a.toNat ++ ([32, 43, 32] ++ wrapT (kindAt ns x.b == 4) (l x.b.toNat))
  else if x.kind = 5 then wrapT (kindAt ns x.a == 4) (l x.a.toNat) ++ ([32, 46, 32] ++ wrapT (kindAt ns x.b == 4 || kindAt ns x.b == 5) (l x.b.toNat))
  else if x.kind = 6 then 42 :: wrapT (kindAt ns x.a == 4 || kindAt ns x.a == 5) (l x.a.toNat)
  else []
def noNd : Nd := ⟨0, 0, 0, 0, emp⟩
/-- The texts of the first nodes. -/
def textsN (nm : List Txt) (ns : List Nd) : Nat → List Txt
  | 0 => []
  | k + 1 => textsN nm ns k ++ [nodeT nm ns (fun j => (textsN nm ns k).getD j []) (ns.getD k noNd)]
theorem textsN_len (nm : List Txt) (ns : List Nd) : ∀ k, (textsN nm ns k).length = k
  | 0 => rfl
  | k + 1 => by rw [textsN, List.length_append, textsN_len nm ns k]; rfl
def textAt (nm : List Txt) (ns : List Nd) (i : Nat) : Txt := (textsN nm ns (i + 1)).getD i []
theorem textsN_at (nm : List Txt) (ns : List Nd) (j : Nat) : ∀ k, j < k → (textsN nm ns k).getD j [] = textAt nm ns j
  | 0, h => by omega
  | k + 1, h => by
    by_cases e : j = k
    · subst e; rfl
    · rw [textsN, List.getD_eq_getElem?_getD, List.getElem?_append_left (by rw [textsN_len]; omega), ← List.getD_eq_getElem?_getD]
      exact textsN_at nm ns j k (by omega)
theorem nodeT_same {nm : List Txt} {ns : List Nd} {l l' : Nat → Txt} {tags : Int} {i : Nat} {x : Nd} (h : wfN tags i x) (hl : ∀ j, j < i → l j = l' j) : nodeT nm ns l x = nodeT nm ns l' x := by
  unfold nodeT
  by_cases k1 : x.kind = 1
  · rw [if_pos k1, if_pos k1]
  by_cases k2 : x.kind = 2
  · rw [if_neg k1, if_pos k2, if_neg k1, if_pos k2]
  by_cases k3 : x.kind = 3
  · rw [if_neg k1, if_neg k2, if_pos k3, if_neg k1, if_neg k2, if_pos k3]
  rw [if_neg k1, if_neg k2, if_neg k3, if_neg k1, if_neg k2, if_neg k3]
  rcases h with h | h | h | h
  · omega
  · omega
  · rw [hl x.a.toNat (by omega), hl x.b.toNat (by omega)]
  · have h4 : ¬ x.kind = 4 := by omega
    have h5 : ¬ x.kind = 5 := by omega
    rw [if_neg h4, if_neg h5, if_neg h4, if_neg h5, hl x.a.toNat (by omega)]
theorem textAt_eq {nm : List Txt} {ns : List Nd} {tags : Int} {i : Nat} (hi : i < ns.length) (h : wfN tags i ns[i]) : textAt nm ns i = nodeT nm ns (textAt nm ns) ns[i] := by
  unfold textAt
  rw [textsN, List.getD_eq_getElem?_getD, List.getElem?_append_right (by rw [textsN_len]; omega), textsN_len, Nat.sub_self]
  simp only [List.getElem?_cons_zero, Option.getD_some]
  rw [show ns.getD i noNd = ns[i] by simp [List.getD, hi]]
  exact nodeT_same h (fun j hj => textsN_at nm ns j i hj)

theorem dec_len (n : Nat) : ∀ k, n < 10 ^ (k + 1) → (Lib.decDigits n).length ≤ k + 1
  | 0, h => by rw [Lib.decDigits]; simp at h; simp [h]
  | k + 1, h => by
    rw [Lib.decDigits]
    by_cases h10 : n < 10
    · simp [h10]
    · simp only [h10, dite_false, List.length_append, List.length_cons, List.length_nil]
      have := dec_len (n / 10) k (by rw [Nat.pow_succ] at h; omega)
      omega
/-- A name that a pattern's tag has is no longer than a word may be. -/
def named16 (nm : List Txt) (ns : List Nd) : Prop := ∀ x ∈ ns, x.kind = 3 → (nm.getD x.n.toNat []).length ≤ 16
theorem wrap_len (b : Bool) (t : Txt) : (wrapT b t).length ≤ t.length + 2 := by unfold wrapT; split <;> simp
theorem text_bound {nm : List Txt} {ns : List Nd} {tags : Int} (hw : ∀ j (h : j < ns.length), wfN tags j ns[j]) (hn : named16 nm ns) : ∀ (i : Nat), i < ns.length → (textAt nm ns i).length + 8 ≤ 64 * 2 ^ i := by
  intro i
  induction i using Nat.strongRecOn with
  | _ i ih =>
    intro hi
    have h := hw i hi
    rw [textAt_eq hi h]
    have hp : 1 ≤ 2 ^ i := Nat.pow_pos (by omega)
    unfold nodeT
    split
    · simp; omega
    split
    · simp; omega
    split
    · rename_i k3
      rcases h with h | ⟨_, h⟩ | h | h
      · omega
      · unfold tagT
        have hnm := hn _ (List.getElem_mem hi) k3
        have hd : (Lib.decDigits ns[i].a.toNat).length ≤ 9 := dec_len _ 8 (by omega)
        rw [List.length_append]
        split
        · rw [List.length_cons]; omega
        · simp only [List.length_nil]; omega
      · omega
      · omega
    rcases h with h | h | ⟨_, a0, a1, b0, b1⟩ | ⟨k6, a0, a1⟩
    · omega
    · omega
    · have ha := ih (ns[i].a.toNat) (by omega) (by omega)
      have hb := ih (ns[i].b.toNat) (by omega) (by omega)
      have hpa : 2 ^ (ns[i].a.toNat) * 2 ≤ 2 ^ i := by rw [← Nat.pow_succ]; exact Nat.pow_le_pow_right (by omega) (by omega)
      have hpb : 2 ^ (ns[i].b.toNat) * 2 ≤ 2 ^ i := by rw [← Nat.pow_succ]; exact Nat.pow_le_pow_right (by omega) (by omega)
      split
      · simp only [List.length_append, List.length_cons, List.length_nil]
        have := wrap_len (kindAt ns ns[i].b == 4) (textAt nm ns ns[i].b.toNat)
        omega
      split
      · simp only [List.length_append, List.length_cons, List.length_nil]
        have := wrap_len (kindAt ns ns[i].a == 4) (textAt nm ns ns[i].a.toNat)
        have := wrap_len (kindAt ns ns[i].b == 4 || kindAt ns ns[i].b == 5) (textAt nm ns ns[i].b.toNat)
        omega
      split
      · rw [List.length_cons]
        have := wrap_len (kindAt ns ns[i].a == 4 || kindAt ns ns[i].a == 5) (textAt nm ns ns[i].a.toNat)
        omega
      · simp; omega
    · have ha := ih (ns[i].a.toNat) (by omega) (by omega)
      have hpa : 2 ^ (ns[i].a.toNat) * 2 ≤ 2 ^ i := by rw [← Nat.pow_succ]; exact Nat.pow_le_pow_right (by omega) (by omega)
      rw [if_neg (by omega), if_neg (by omega), if_pos k6, List.length_cons]
      have := wrap_len (kindAt ns ns[i].a == 4 || kindAt ns ns[i].a == 5) (textAt nm ns ns[i].a.toNat)
      omega
/-- What the document asks of Print: are all tags known by their names? -/
def namedB (keys nm : List Txt) (ns : List Nd) : Bool := ns.all (fun x => !decide (x.kind = 3) || (isName keys (nm.getD x.n.toNat []) && decide (posF (nm.getD x.n.toNat []) nm 0 = some x.n.toNat)))
/-- The error, and the text. -/
def printP (keys nm : List Txt) (ns : List Nd) : Nat × Txt := if chkB ns (nm.length : Int) && namedB keys nm ns then (0, textAt nm ns (ns.length - 1)) else (1, [])
end Go.Proofs.YtkdejinhjdkkmaaDoor

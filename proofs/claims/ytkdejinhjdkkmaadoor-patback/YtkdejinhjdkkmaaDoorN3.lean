/- Plain words: which lists of nodes are patterns, and that what is read from a text is one; no condition. -/
import Derived.Test.YtkdejinhjdkkmaaDoorN2
namespace Go.Proofs.YtkdejinhjdkkmaaDoor

def partsK (k : Int) : Nat := if k = 4 ∨ k = 5 then 2 else if k = 6 then 1 else 0
def rightB (x : Nd) (tags : Int) (l : List (Int × Bool)) : Bool :=
  if x.kind = 1 ∨ x.kind = 2 then decide (x.a = 0) && (decide (x.b = 0) && decide (x.n = 0))
  else if x.kind = 3 then decide (0 ≤ x.n) && (decide (x.n < tags) && (decide (1 ≤ x.a) && (decide (x.a ≤ 999999999) && decide (x.b = 0))))
  else match l with
    | [p, q] => decide (x.kind = 4 ∨ x.kind = 5) && (decide (x.a = p.1) && (decide (x.b = q.1) && decide (x.n = 0)))
    | [p] => decide (x.kind = 6) && (!p.2 && (decide (x.a = p.1) && (decide (x.b = 0) && decide (x.n = 0))))
    | _ => false
def chkStep (tags : Int) (i : Nat) (x : Nd) (fl : List (Int × Bool)) : Option (List (Int × Bool)) :=
  if fl.length < partsK x.kind then none
  else if rightB x tags (fl.drop (fl.length - partsK x.kind)) = true then
    some (fl.take (fl.length - partsK x.kind) ++ [((i : Int), decide (x.kind = 6) || (fl.drop (fl.length - partsK x.kind)).any (·.2))])
  else none
def chkL (tags : Int) : Nat → List Nd → List (Int × Bool) → Option (List (Int × Bool))
  | _, [], fl => some fl
  | i, x :: r, fl => match chkStep tags i x fl with
    | none => none
    | some fl' => chkL tags (i + 1) r fl'
def oneB : Option (List (Int × Bool)) → Bool
  | some [_] => true
  | _ => false
def chkB (ns : List Nd) (tags : Int) : Bool := decide (ns.length ≤ 24) && oneB (chkL tags 0 ns [])
theorem chkL_snoc (tags : Int) (x : Nd) : ∀ (i : Nat) (ns : List Nd) (fl : List (Int × Bool)), chkL tags i (ns ++ [x]) fl = match chkL tags i ns fl with | none => none | some fl' => chkStep tags (i + ns.length) x fl'
  | i, [], fl => by
    simp only [List.nil_append, chkL, List.length_nil, Nat.add_zero]
    cases chkStep tags i x fl <;> rfl
  | i, y :: r, fl => by
    simp only [List.cons_append, chkL]
    cases chkStep tags i y fl with
    | none => rfl
    | some fl' => simp only; rw [chkL_snoc tags x (i + 1) r fl', List.length_cons, show i + 1 + r.length = i + (r.length + 1) by omega]

/-- What a reader makes of what stood there: one part more. -/
def Sound (tags : Int) (st : Bool) (p : List Tok → List Nd → Out) : Prop :=
  ∀ ts ns rest ns' fl, p ts ns = .ok rest ns' → chkL tags 0 ns [] = some fl → ∃ s, chkL tags 0 ns' [] = some (fl ++ [(((ns'.length : Int) - 1), s)]) ∧ (st = true → s = false)
theorem chk_leaf {tags : Int} {ns : List Nd} {fl : List (Int × Bool)} (h : chkL tags 0 ns [] = some fl) (x : Nd) (hp : partsK x.kind = 0) (hk : ¬ x.kind = 6) (hr : rightB x tags [] = true) :
    chkL tags 0 (ns ++ [x]) [] = some (fl ++ [((((ns ++ [x]).length : Int) - 1), false)]) := by
  rw [chkL_snoc, h]
  simp only
  unfold chkStep
  rw [hp, if_neg (by omega), Nat.sub_zero, List.drop_length, List.take_length, if_pos hr]
  simp [hk]
theorem chk_two {tags : Int} {ns : List Nd} {fl : List (Int × Bool)} {p q : Int × Bool} (h : chkL tags 0 ns [] = some (fl ++ [p] ++ [q])) (kind : Int) (hk : kind = 4 ∨ kind = 5) :
    chkL tags 0 (ns ++ [nTwo kind p.1 q.1]) [] = some (fl ++ [((((ns ++ [nTwo kind p.1 q.1]).length : Int) - 1), p.2 || q.2)]) := by
  have hp : partsK (nTwo kind p.1 q.1).kind = 2 := by unfold partsK; exact if_pos hk
  have hl : (fl ++ [p] ++ [q]).length - 2 = fl.length := by simp
  have hd : (fl ++ [p] ++ [q]).drop fl.length = [p, q] := by simp
  have ht : (fl ++ [p] ++ [q]).take fl.length = fl := by simp
  rw [chkL_snoc, h]
  simp only
  unfold chkStep
  rw [hp, if_neg (by simp), hl, hd, ht]
  have hr : rightB (nTwo kind p.1 q.1) tags [p, q] = true := by
    unfold rightB
    rcases hk with rfl | rfl <;> simp [nTwo]
  have h6 : ¬ (nTwo kind p.1 q.1).kind = 6 := by rcases hk with rfl | rfl <;> simp [nTwo]
  rw [if_pos hr]
  simp [h6]
theorem chk_star {tags : Int} {ns : List Nd} {fl : List (Int × Bool)} {p : Int} (h : chkL tags 0 ns [] = some (fl ++ [(p, false)])) :
    chkL tags 0 (ns ++ [nStar p]) [] = some (fl ++ [((((ns ++ [nStar p]).length : Int) - 1), true)]) := by
  rw [chkL_snoc, h]
  simp only
  unfold chkStep
  have hp : partsK (nStar p).kind = 1 := rfl
  have hl : (fl ++ [(p, false)]).length - 1 = fl.length := by simp
  rw [hp, if_neg (by simp), hl]
  simp [nStar, rightB]
theorem posF_lt (x : Txt) : ∀ (l : List Txt) (m k : Nat), posF x l m = some k → m ≤ k ∧ k < m + l.length
  | [], m, k, h => by cases h
  | y :: r, m, k, h => by
    unfold posF at h
    by_cases e : y = x
    · rw [if_pos e] at h; injection h with h; subst h; simp
    · rw [if_neg e] at h
      have := posF_lt x r (m + 1) k h
      simp only [List.length_cons]; omega
theorem sound_count {nm : List Txt} {st : Bool} (k : Nat) (hk : k < nm.length) (r : List Tok) (ns : List Nd) (rest : List Tok) (ns' : List Nd) (fl : List (Int × Bool)) (h : countP k r ns = .ok rest ns') (hc : chkL (nm.length : Int) 0 ns [] = some fl) :
    ∃ s, chkL (nm.length : Int) 0 ns' [] = some (fl ++ [(((ns'.length : Int) - 1), s)]) ∧ (st = true → s = false) := by
  have key : ∀ m : Nat, 1 ≤ m → m ≤ 999999999 → chkL (nm.length : Int) 0 (ns ++ [nTag k m]) [] = some (fl ++ [((((ns ++ [nTag k m]).length : Int) - 1), false)]) := fun m h1 h2 =>
    chk_leaf hc (nTag k m) rfl (by simp [nTag]) (by simp [rightB, nTag, hk]; exact ⟨decide_eq_true (by omega), decide_eq_true (by omega)⟩)
  unfold countP at h
  by_cases h1 : isT 94 r = true
  · rw [if_pos h1] at h
    cases hr : r.tail with
    | nil => rw [hr] at h; cases h
    | cons t r' =>
      rw [hr] at h
      simp only at h
      by_cases h2 : t.kind = 2 ∧ 1 ≤ t.n ∧ t.n ≤ 999999999
      · rw [if_pos h2] at h
        injection h with _ h; subst h
        exact ⟨false, key t.n h2.2.1 h2.2.2, fun _ => rfl⟩
      · rw [if_neg h2] at h; cases h
  · rw [if_neg h1] at h
    injection h with _ h; subst h
    exact ⟨false, key 1 (by omega) (by omega), fun _ => rfl⟩
theorem sound_single (keys nm : List Txt) (st : Bool) (br : List Tok → List Nd → Out) (hb : Sound (nm.length : Int) st br) : Sound (nm.length : Int) st (singleP keys nm br) := by
  intro ts ns rest ns' fl h hc
  cases ts with
  | nil => cases h
  | cons t r =>
    unfold singleP at h
    simp only at h
    by_cases h1 : t.text = [40]
    · rw [if_pos h1] at h; exact hb r ns rest ns' fl h hc
    · rw [if_neg h1] at h
      by_cases h2 : t.text = [48]
      · rw [if_pos h2] at h
        injection h with _ h; subst h
        exact ⟨false, chk_leaf hc (nLeaf 1) rfl (by simp [nLeaf]) (by simp [rightB, nLeaf]), fun _ => rfl⟩
      · rw [if_neg h2] at h
        by_cases h3 : t.text = [49]
        · rw [if_pos h3] at h
          injection h with _ h; subst h
          exact ⟨false, chk_leaf hc (nLeaf 2) rfl (by simp [nLeaf]) (by simp [rightB, nLeaf]), fun _ => rfl⟩
        · rw [if_neg h3] at h
          by_cases h4 : isName keys t.text = true
          · rw [if_pos h4] at h
            unfold tagP at h
            cases hp : posF t.text nm 0 with
            | none => rw [hp] at h; cases h
            | some k => rw [hp] at h; exact sound_count k (by have := posF_lt _ _ _ _ hp; omega) r ns rest ns' fl h hc
          · rw [if_neg h4] at h; cases h
theorem sound_star (keys nm : List Txt) (st : Bool) (br : Bool → List Tok → List Nd → Out) (hb : ∀ s, Sound (nm.length : Int) s (br s)) : Sound (nm.length : Int) st (starP keys nm st br) := by
  intro ts ns rest ns' fl h hc
  unfold starP at h
  by_cases h1 : isT 42 ts = true
  · rw [if_pos h1] at h
    cases st with
    | true => cases h
    | false =>
      simp only [Bool.false_eq_true, if_false] at h
      cases hx : singleP keys nm (br true) ts.tail ns with
      | bad e => rw [hx] at h; cases h
      | ok r1 n1 =>
        rw [hx] at h
        simp only [addStar] at h
        injection h with _ h; subst h
        obtain ⟨s, hs, hf⟩ := sound_single keys nm true (br true) (hb true) _ _ _ _ fl hx hc
        obtain rfl := hf rfl
        exact ⟨true, chk_star hs, fun e => by cases e⟩
  · rw [if_neg h1] at h
    exact sound_single keys nm st (br st) (hb st) _ _ _ _ fl h hc
theorem sound_rowL (tags : Int) (st : Bool) (p : List Tok → List Nd → Out) (hp : Sound tags st p) (c : UInt8) (kind : Int) (hk : kind = 4 ∨ kind = 5) : ∀ (f : Nat) (ts : List Tok) (ns : List Nd) (rest : List Tok) (ns' : List Nd) (fl : List (Int × Bool)) (s : Bool),
    rowL p c kind f ts ns = .ok rest ns' → chkL tags 0 ns [] = some (fl ++ [(((ns.length : Int) - 1), s)]) → (st = true → s = false) → ∃ s', chkL tags 0 ns' [] = some (fl ++ [(((ns'.length : Int) - 1), s')]) ∧ (st = true → s' = false)
  | 0, ts, ns, rest, ns', fl, s, h, hc, hs => by
    simp only [rowL] at h
    injection h with _ h; subst h
    exact ⟨s, hc, hs⟩
  | f + 1, ts, ns, rest, ns', fl, s, h, hc, hs => by
    unfold rowL at h
    by_cases h1 : isT c ts = true
    · rw [if_pos h1] at h
      cases hx : p ts.tail ns with
      | bad e => rw [hx] at h; cases h
      | ok r1 n1 =>
        rw [hx] at h
        simp only [addTwo] at h
        obtain ⟨s1, hs1, hf1⟩ := hp _ _ _ _ _ hx hc
        have := chk_two (p := (((ns.length : Int) - 1), s)) (q := (((n1.length : Int) - 1), s1)) hs1 kind hk
        exact sound_rowL tags st p hp c kind hk f _ _ rest ns' fl (s || s1) h this (fun e => by rw [hs e, hf1 e]; rfl)
    · rw [if_neg h1] at h
      injection h with _ h; subst h
      exact ⟨s, hc, hs⟩
theorem sound_row (tags : Int) (st : Bool) (p : List Tok → List Nd → Out) (hp : Sound tags st p) (c : UInt8) (kind : Int) (hk : kind = 4 ∨ kind = 5) : Sound tags st (rowP p c kind) := by
  intro ts ns rest ns' fl h hc
  unfold rowP at h
  cases hx : p ts ns with
  | bad e => rw [hx] at h; cases h
  | ok r1 n1 =>
    rw [hx] at h
    obtain ⟨s, hs, hf⟩ := hp _ _ _ _ _ hx hc
    exact sound_rowL tags st p hp c kind hk _ _ _ _ _ fl s h hs hf
theorem sound_br (keys nm : List Txt) : ∀ (d : Nat) (st : Bool), Sound (nm.length : Int) st (brP keys nm d st)
  | 0, st => fun _ _ _ _ _ h _ => by simp [brP] at h
  | d + 1, st => by
    intro ts ns rest ns' fl h hc
    unfold brP at h
    cases hx : sumPB keys nm st (brP keys nm d) ts ns with
    | bad e => rw [hx] at h; cases h
    | ok r1 n1 =>
      rw [hx] at h
      simp only [closeP] at h
      have hs := sound_row _ st _ (sound_row _ st _ (sound_star keys nm st (brP keys nm d) (sound_br keys nm d)) 46 5 (.inr rfl)) 43 4 (.inl rfl) _ _ _ _ fl hx hc
      by_cases h1 : isT 41 r1 = true
      · rw [if_pos h1] at h
        injection h with _ h; subst h
        exact hs
      · rw [if_neg h1] at h; cases h
/-- What is read is a pattern. -/
theorem parse_chk (keys nm : List Txt) (l : Txt) (h : (parseT keys nm l).1 = 0) : chkB (parseT keys nm l).2 (nm.length : Int) = true := by
  unfold parseT at h ⊢
  by_cases h1 : 16384 < l.length
  · rw [if_pos h1] at h; cases h
  · rw [if_neg h1] at h ⊢
    cases hg : go l 1 1 with
    | bad a b => rw [hg] at h; cases h
    | ok ts =>
      rw [hg] at h
      have hE := (go_ended _ _ _ _ ts (Nat.le_refl _) hg).1
      simp only [parseP] at h ⊢
      cases hw : wholeP keys nm ts with
      | bad e =>
        rw [hw] at h
        have he : 2 ≤ e := by
          unfold wholeP at hw
          cases hx : sumP keys nm 12 false ts [] with
          | bad e' => rw [hx] at hw; injection hw with hw; subst hw; exact (fine_bad (fine_sum keys nm 12 false) hE hx).1
          | ok rest ns =>
            rw [hx] at hw
            simp only at hw
            split at hw
            · cases hw
            · injection hw with hw; omega
        simp only at h
        omega
      | ok rest ns =>
        rw [hw] at h
        simp only at h ⊢
        by_cases h2 : 24 < ns.length
        · rw [if_pos h2] at h; cases h
        · rw [if_neg h2]
          unfold wholeP at hw
          cases hx : sumP keys nm 12 false ts [] with
          | bad e' => rw [hx] at hw; cases hw
          | ok rest' ns' =>
            rw [hx] at hw
            simp only at hw
            split at hw
            · injection hw with _ hw
              subst hw
              obtain ⟨s, hs, _⟩ := sound_row _ false _ (sound_row _ false _ (sound_star keys nm false (brP keys nm 12) (sound_br keys nm 12)) 46 5 (.inr rfl)) 43 4 (.inl rfl) _ _ _ _ [] hx rfl
              unfold chkB
              rw [hs]
              simp [oneB]
              omega
            · cases hw
end Go.Proofs.YtkdejinhjdkkmaaDoor

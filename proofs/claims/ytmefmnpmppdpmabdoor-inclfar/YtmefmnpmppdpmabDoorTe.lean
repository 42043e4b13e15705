import Derived.Test.YtmefmnpmppdpmabDoorL
import Derived.Test.YtmefmnpmppdpmabDoorTc
import Derived.Test.YtmefmnpmppdpmabDoorMc
/- Rows of items in memory: slices whose elements are a number and a slice. -/

/-! Plain words: items, their order, rising lists of them; words digit by digit. -/
namespace Go.Proofs.YtmefmnpmppdpmabDoor

/-- An item: its set's place, what is still to come. -/
structure It where
  j : Int
  c : List Int
deriving DecidableEq
def rightIt (x : It) : Bool := rightL x.c
def cmpI (x y : It) : Int := if rightIt x && rightIt y then orI (sgn x.j y.j) (cmpL x.c y.c) else 0
/-- Is x ahead of y? -/
def ltI (x y : It) : Bool := decide (x.j < y.j) || (decide (x.j = y.j) && decide (cmpL x.c y.c < 0))
section
variable {x y z : It}
theorem sgn_zero {a b : Int} : sgn a b = 0 ↔ a = b := by
  unfold sgn
  split
  · omega
  · split <;> omega
theorem cmpI_yes (hx : rightIt x = true) (hy : rightIt y = true) : cmpI x y = orI (sgn x.j y.j) (cmpL x.c y.c) := by simp [cmpI, hx, hy]
theorem cmpI_lt (hx : rightIt x = true) (hy : rightIt y = true) : cmpI x y < 0 ↔ x.j < y.j ∨ x.j = y.j ∧ cmpL x.c y.c < 0 := by
  rw [cmpI_yes hx hy]
  unfold orI sgn
  by_cases h1 : x.j < y.j
  · simp [h1]
  · by_cases h2 : y.j < x.j
    · simp [h1, h2]; omega
    · have h3 : x.j = y.j := by omega
      simp [h3]
theorem ltI_iff (hx : rightIt x = true) (hy : rightIt y = true) : ltI x y = true ↔ cmpI x y < 0 := by
  rw [cmpI_lt hx hy]
  simp [ltI]
theorem cmpI_zero (hx : rightIt x = true) (hy : rightIt y = true) : cmpI x y = 0 ↔ x = y := by
  rw [cmpI_yes hx hy]
  have h := cmp_zero (a := x.c) (b := y.c) hx hy
  unfold orI
  by_cases e : sgn x.j y.j = 0
  · rw [if_pos e, h]
    have e2 := sgn_zero.1 e
    constructor
    · intro e3
      cases x; cases y
      simp only at e2 e3
      rw [e2, e3]
    · rintro rfl; rfl
  · rw [if_neg e]
    constructor
    · intro e3; exact absurd e3 e
    · rintro rfl; exact absurd (sgn_zero.2 rfl) e
theorem cmpI_neg (hx : rightIt x = true) (hy : rightIt y = true) : cmpI y x = - cmpI x y := by
  rw [cmpI_yes hx hy, cmpI_yes hy hx]
  have h := cmp_neg (a := x.c) (b := y.c) hx hy
  unfold orI sgn
  by_cases h1 : x.j < y.j
  · have h2 : ¬ y.j < x.j := by omega
    simp [h1, h2]
  · by_cases h2 : y.j < x.j
    · simp [h1, h2]
    · simp [h1, h2, h]
theorem cmpI_self (hx : rightIt x = true) : cmpI x x = 0 := (cmpI_zero hx hx).2 rfl
theorem cmpI_lt_trans (hx : rightIt x = true) (hy : rightIt y = true) (hz : rightIt z = true) (h1 : cmpI x y < 0) (h2 : cmpI y z < 0) : cmpI x z < 0 := by
  rw [cmpI_lt hx hy] at h1
  rw [cmpI_lt hy hz] at h2
  rw [cmpI_lt hx hz]
  rcases h1 with h1 | ⟨e1, h1⟩
  · rcases h2 with h2 | ⟨e2, h2⟩
    · exact .inl (by omega)
    · exact .inl (by omega)
  · rcases h2 with h2 | ⟨e2, h2⟩
    · exact .inl (by omega)
    · exact .inr ⟨by omega, cmp_lt_trans hx hy hz h1 h2⟩
end

/-- An item into rising ones, once. -/
def putI (b : It) : List It → List It
  | [] => [b]
  | x :: r => if cmpI x b < 0 then x :: putI b r else if cmpI x b = 0 then x :: r else b :: x :: r
/-- They are right, and rise. -/
def rightsI : List It → Bool
  | [] => true
  | x :: r => rightIt x && (match r with | [] => true | y :: _ => decide (cmpI x y < 0)) && rightsI r
def GoodI (l : List It) : Prop := ∀ x ∈ l, rightIt x = true
def RiseI (l : List It) : Prop := GoodI l ∧ l.Pairwise (fun x y => cmpI x y < 0)

theorem rightsI_iff : ∀ {l : List It}, rightsI l = true ↔ RiseI l
  | [] => by simp [rightsI, RiseI, GoodI]
  | [x] => by simp [rightsI, RiseI, GoodI]
  | x :: y :: r => by
    have ih := rightsI_iff (l := y :: r)
    have e : rightsI (x :: y :: r) = (rightIt x && decide (cmpI x y < 0) && rightsI (y :: r)) := rfl
    rw [e, Bool.and_eq_true, Bool.and_eq_true, decide_eq_true_eq, ih]
    constructor
    · rintro ⟨⟨h1, h3⟩, g, p⟩
      refine ⟨?_, List.pairwise_cons.2 ⟨?_, p⟩⟩
      · intro z hz
        rcases List.mem_cons.1 hz with rfl | hz
        · exact h1
        · exact g z hz
      · intro z hz
        rcases List.mem_cons.1 hz with rfl | hz'
        · exact h3
        · exact cmpI_lt_trans h1 (g y (by simp)) (g z hz) h3 ((List.pairwise_cons.1 p).1 z hz')
    · rintro ⟨g, p⟩
      have p' := List.pairwise_cons.1 p
      exact ⟨⟨g x (by simp), p'.1 y (by simp)⟩, fun z hz => g z (List.mem_cons_of_mem _ hz), p'.2⟩
theorem putI_mem {b : It} (hb : rightIt b = true) : ∀ {l : List It}, GoodI l → ∀ z, z ∈ putI b l ↔ z = b ∨ z ∈ l
  | [], _, z => by simp [putI]
  | x :: r, g, z => by
    have ih := putI_mem hb (l := r) (fun y hy => g y (List.mem_cons_of_mem _ hy)) z
    unfold putI
    split
    · rw [List.mem_cons, ih, List.mem_cons]
      constructor
      · rintro (h | h | h) <;> simp [h]
      · rintro (h | h | h) <;> simp [h]
    · split
      · next h =>
        have e : x = b := (cmpI_zero (g x (by simp)) hb).1 h
        subst e
        simp
      · simp
theorem putI_rise {b : It} (hb : rightIt b = true) : ∀ {l : List It}, RiseI l → RiseI (putI b l)
  | [], _ => by
    refine ⟨fun z hz => ?_, by simp [putI]⟩
    simp [putI] at hz
    exact hz ▸ hb
  | x :: r, ⟨g, p⟩ => by
    have gr : GoodI r := fun y hy => g y (List.mem_cons_of_mem _ hy)
    have p' := List.pairwise_cons.1 p
    have ih := putI_rise hb (l := r) ⟨gr, p'.2⟩
    have hx := g x (by simp)
    unfold putI
    split
    · next h =>
      refine ⟨fun z hz => ?_, List.pairwise_cons.2 ⟨fun z hz => ?_, ih.2⟩⟩
      · rcases List.mem_cons.1 hz with rfl | hz
        · exact hx
        · exact ih.1 z hz
      · rcases (putI_mem hb gr z).1 hz with rfl | hz
        · exact h
        · exact p'.1 z hz
    · split
      · exact ⟨g, p⟩
      · next h1 h2 =>
        have h3 : cmpI b x < 0 := by
          have := cmpI_neg hx hb
          omega
        refine ⟨fun z hz => ?_, List.pairwise_cons.2 ⟨fun z hz => ?_, p⟩⟩
        · rcases List.mem_cons.1 hz with rfl | hz
          · exact hb
          · exact g z hz
        · rcases List.mem_cons.1 hz with rfl | hz'
          · exact h3
          · exact cmpI_lt_trans hb hx (g z hz) h3 (p'.1 z hz')
/-- Rising ones of the same members are the same. -/
theorem riseI_ext : ∀ {a b : List It}, RiseI a → RiseI b → (∀ z, z ∈ a ↔ z ∈ b) → a = b
  | [], [], _, _, _ => rfl
  | [], y :: _, _, _, h => by have := (h y).2 (by simp); simp at this
  | x :: _, [], _, _, h => by have := (h x).1 (by simp); simp at this
  | x :: r, y :: s, ⟨g, p⟩, ⟨k, q⟩, h => by
    have p' := List.pairwise_cons.1 p
    have q' := List.pairwise_cons.1 q
    have hx := g x (by simp)
    have hy := k y (by simp)
    have e : x = y := by
      rcases List.mem_cons.1 ((h x).1 (by simp)) with e | hx'
      · exact e
      · rcases List.mem_cons.1 ((h y).2 (by simp)) with e | hy'
        · exact e.symm
        · have h1 := q'.1 x hx'
          have h2 := p'.1 y hy'
          have := cmpI_neg hx hy
          omega
    subst e
    have : r = s := by
      apply riseI_ext ⟨fun z hz => g z (List.mem_cons_of_mem _ hz), p'.2⟩ ⟨fun z hz => k z (List.mem_cons_of_mem _ hz), q'.2⟩
      intro z
      constructor
      · intro hz
        rcases List.mem_cons.1 ((h z).1 (List.mem_cons_of_mem _ hz)) with rfl | hz'
        · have := p'.1 z hz
          rw [cmpI_self hx] at this
          omega
        · exact hz'
      · intro hz
        rcases List.mem_cons.1 ((h z).2 (List.mem_cons_of_mem _ hz)) with rfl | hz'
        · have := q'.1 z hz
          rw [cmpI_self hx] at this
          omega
        · exact hz'
    rw [this]
def putAllI (l ps : List It) : List It := ps.foldl (fun l b => putI b l) l
theorem putAllI_rise : ∀ {ps l : List It}, GoodI ps → RiseI l → RiseI (putAllI l ps)
  | [], _, _, h => h
  | b :: r, l, g, h => putAllI_rise (ps := r) (l := putI b l) (fun z hz => g z (List.mem_cons_of_mem _ hz)) (putI_rise (g b (by simp)) h)
theorem putAllI_mem : ∀ {ps l : List It}, GoodI ps → RiseI l → ∀ z, z ∈ putAllI l ps ↔ z ∈ l ∨ z ∈ ps
  | [], _, _, _, z => by simp [putAllI]
  | b :: r, l, g, h, z => by
    have ih := putAllI_mem (ps := r) (l := putI b l) (fun z hz => g z (List.mem_cons_of_mem _ hz)) (putI_rise (g b (by simp)) h) z
    have e : putAllI l (b :: r) = putAllI (putI b l) r := rfl
    rw [e, ih, putI_mem (g b (by simp)) h.1, List.mem_cons]
    constructor
    · rintro ((h | h) | h) <;> simp [h]
    · rintro (h | h | h) <;> simp [h]
theorem riseI_nil : RiseI [] := ⟨by simp [GoodI], .nil⟩
theorem putI_len (b : It) : ∀ l : List It, (putI b l).length ≤ l.length + 1
  | [] => by simp [putI]
  | x :: r => by
    have := putI_len b r
    unfold putI
    split
    · simp only [List.length_cons]; omega
    · split <;> simp only [List.length_cons] <;> omega
theorem putAllI_len : ∀ ps l : List It, (putAllI l ps).length ≤ l.length + ps.length
  | [], l => by simp [putAllI]
  | b :: r, l => by
    have h1 := putAllI_len r (putI b l)
    have h2 := putI_len b l
    have e : putAllI l (b :: r) = putAllI (putI b l) r := rfl
    rw [e]; simp only [List.length_cons]; omega
/-! ### Words, digit by digit -/
/-- The number whose binary digits are the given ones, the lowest first. -/
def packN : List Int → Int
  | [] => 0
  | b :: r => b % 2 + 2 * packN r
/-- The digit-th digits of a word's numbers. -/
def digitL (w : List Int) (d : Nat) : List Int := w.map (fun n => n / 2 ^ d)
def letterN (w : List Int) (d : Int) : Int := if rightL w = true ∧ 0 ≤ d ∧ d ≤ 62 then packN (digitL w d.toNat) else 0
def oddN (b : List Int) : Int := packN b
def halfT (b : List Int) : List Int := b.map (· / 2)
def halfL (b : List Int) : List Int := normL (halfT b)
/-- What is carried, with some of the periods, by a mask. -/
def chosenL : List Int → List (List Int) → Nat → Option (List Int)
  | c, [], _ => some c
  | c, p :: r, m => if m % 2 = 1 then (if addOk c p = true then chosenL (addT c p) r (m / 2) else none) else chosenL c r (m / 2)
theorem packN_cons (b : Int) (r : List Int) : packN (b :: r) = b % 2 + 2 * packN r := rfl
theorem packN_nil : packN [] = 0 := rfl
theorem pack_bound : ∀ l : List Int, 0 ≤ packN l ∧ packN l < 2 ^ l.length
  | [] => by simp [packN_nil]
  | b :: r => by
    have h := pack_bound r
    have e : (2 : Int) ^ (b :: r).length = 2 * 2 ^ r.length := by rw [List.length_cons, Int.pow_succ]; omega
    rw [packN_cons, e]
    omega
/-- Digit t of what is packed is the t-th digit. -/
theorem pack_digit : ∀ (l : List Int) (t : Nat), packN l / 2 ^ t % 2 = l.getD t 0 % 2
  | [], t => by simp [packN_nil]
  | b :: r, 0 => by
    rw [packN_cons, Int.pow_zero, Int.ediv_one, List.getD_cons_zero]
    omega
  | b :: r, t + 1 => by
    have h := pack_digit r t
    have e2 : (2 : Int) ^ (t + 1) = 2 * 2 ^ t := by rw [Int.pow_succ]; omega
    have e : (b % 2 + 2 * packN r) / 2 = packN r := by omega
    rw [packN_cons, e2, ← Int.ediv_ediv_of_nonneg (show (0 : Int) ≤ 2 by omega), e, h, List.getD_cons_succ]
theorem pack_ext : ∀ {a b : List Int}, (∀ t, a.getD t 0 % 2 = b.getD t 0 % 2) → packN a = packN b
  | [], [], _ => rfl
  | [], y :: s, h => by
    have h0 := h 0
    have h1 : packN [] = packN s := pack_ext (fun t => by have := h (t + 1); rw [List.getD_cons_succ] at this; exact this)
    rw [List.getD_cons_zero, List.getD_nil] at h0
    rw [packN_cons, ← h1, packN_nil]
    omega
  | x :: r, [], h => by
    have h0 := h 0
    have h1 : packN r = packN [] := pack_ext (fun t => by have := h (t + 1); rw [List.getD_cons_succ] at this; exact this)
    rw [List.getD_cons_zero, List.getD_nil] at h0
    rw [packN_cons, h1, packN_nil]
    omega
  | x :: r, y :: s, h => by
    have h0 := h 0
    have h1 : packN r = packN s := pack_ext (fun t => by have := h (t + 1); rw [List.getD_cons_succ, List.getD_cons_succ] at this; exact this)
    rw [List.getD_cons_zero, List.getD_cons_zero] at h0
    rw [packN_cons, packN_cons, h1, h0]
end Go.Proofs.YtmefmnpmppdpmabDoor

/-! Plain words: the next items. -/
namespace Go.Proofs.YtmefmnpmppdpmabDoor
open Go.ChangeShapes Go.WideShapes Go.ChangeAt Go.RowKit

theorem normR_right (l : List Int) : rightL (normL l) = true := by
  unfold normL
  split
  · assumption
  · decide
def rightItems (s : List Lin) (l : List It) : Bool := rightS s && l.all (fun x => decide (0 ≤ x.j) && decide (x.j < s.length)) && rightsI l
def startL (s : List Lin) : List It := if rightS s = true then (List.range s.length).map (fun j : Nat => (⟨(j : Int), (linAt s j).base⟩ : It)) else []
def finalL (l : List It) : Bool := l.any (fun x => decide (x.c = []))
/-- The choices from the m-th on, k of them. -/
def maskF (x : It) (ps : List (List Int)) (letter : Int) : Nat → Nat → List It → Option (List It)
  | 0, _, out => some out
  | k + 1, m, out => match chosenL x.c ps m with
    | none => none
    | some c => maskF x ps letter k (m + 1) (if oddN c = letter then putI ⟨x.j, halfL c⟩ out else out)
def itGo (s : List Lin) (letter : Int) : List It → Mr → List It → List It × Int × Mr
  | [], M, out => (out, 0, M)
  | x :: r, M, out =>
    if 20 < (linAt s x.j.toNat).ps.length then ([], 3, M)
    else if (spendM M ((2 ^ (linAt s x.j.toNat).ps.length : Nat) : Int)).1 = true then
      match maskF x (linAt s x.j.toNat).ps letter (2 ^ (linAt s x.j.toNat).ps.length) 0 out with
      | none => ([], 3, (spendM M ((2 ^ (linAt s x.j.toNat).ps.length : Nat) : Int)).2)
      | some out' => itGo s letter r (spendM M ((2 ^ (linAt s x.j.toNat).ps.length : Nat) : Int)).2 out'
    else ([], 7, (spendM M ((2 ^ (linAt s x.j.toNat).ps.length : Nat) : Int)).2)
def nextM (M : Mr) (s : List Lin) (l : List It) (letter : Int) : List It × Int × Mr := if rightItems s l = true then itGo s letter l M [] else ([], 1, M)

/-! ### Choices -/
/-- What the chosen periods have of tag t. -/
def sumAt : List (List Int) → Nat → Nat → Int
  | [], _, _ => 0
  | p :: r, m, t => (if m % 2 = 1 then p.getD t 0 else 0) + sumAt r (m / 2) t
theorem chosen_at : ∀ (ps : List (List Int)) (c : List Int) (m : Nat) (c' : List Int), chosenL c ps m = some c' → ∀ t, c'.getD t 0 = c.getD t 0 + sumAt ps m t
  | [], c, m, c', h, t => by
    injection h with h
    subst h
    show _ = _ + (0 : Int)
    omega
  | p :: r, c, m, c', h, t => by
    unfold chosenL at h
    unfold sumAt
    split at h
    · next hm =>
      split at h
      · have ih := chosen_at r _ _ _ h t
        rw [add_at] at ih
        rw [if_pos hm]
        omega
      · cases h
    · next hm =>
      have ih := chosen_at r _ _ _ h t
      rw [if_neg hm]
      omega
theorem chosen_small {K : Int} (hK : 0 ≤ K) : ∀ (ps : List (List Int)) (C : Int) (c : List Int) (m : Nat), Small C c → 0 ≤ C → (∀ p ∈ ps, Small K p) → C + K * ps.length ≤ 1000000000000000 → ∃ c', chosenL c ps m = some c' ∧ Small (C + K * ps.length) c'
  | [], C, c, m, hc, _, _, _ => ⟨c, rfl, hc.more (by simp)⟩
  | p :: r, C, c, m, hc, h0, hp, hb => by
    have e : K * ((p :: r).length : Nat) = K + K * (r.length : Nat) := by
      rw [List.length_cons, Int.natCast_add, Int.mul_add]; omega
    have hr : 0 ≤ K * (r.length : Nat) := Int.mul_nonneg hK (by omega)
    rw [e] at hb
    unfold chosenL
    split
    · have A := hc.add (hp p (by simp)) (by omega)
      rw [if_pos A.1]
      obtain ⟨c', h1, h2⟩ := chosen_small hK r (C + K) (addT c p) (m / 2) A.2.2 (by omega) (fun q hq => hp q (List.mem_cons_of_mem _ hq)) (by omega)
      exact ⟨c', h1, h2.more (by rw [e]; omega)⟩
    · obtain ⟨c', h1, h2⟩ := chosen_small hK r C c (m / 2) hc h0 (fun q hq => hp q (List.mem_cons_of_mem _ hq)) (by omega)
      exact ⟨c', h1, h2.more (by rw [e]; omega)⟩
theorem half_len (b : List Int) : (halfT b).length = b.length := by unfold halfT; rw [List.length_map]
theorem half_get (b : List Int) (t : Nat) : (halfT b).getD t 0 = b.getD t 0 / 2 := by
  unfold halfT
  rw [List.getD_eq_getElem?_getD, List.getD_eq_getElem?_getD, List.getElem?_map]
  cases b[t]? with
  | none => rfl
  | some v => rfl
theorem half_trim {C : Int} {c : List Int} (h : Small C c) : halfL c = trimL (halfT c) ∧ Small (C / 2) (halfL c) := by
  have hr : rightL (trimL (halfT c)) = true := by
    refine right_of ?_ (fun j _ => ?_) (fun h0 => trim_last h0)
    · have h1 := trim_len (halfT c)
      have h2 := cut_le (halfT c)
      rw [half_len] at h2
      have := h.len
      omega
    · rw [trim_at, half_get]
      have h1 := (right_at h.right j).1
      have h2 := (right_at h.right j).2
      omega
  have e : halfL c = trimL (halfT c) := norm_yes hr
  refine ⟨e, by rw [e]; exact hr, ?_, fun j => ?_⟩
  · rw [e]; exact (right_iff.1 hr).1
  · rw [e, trim_at, half_get]
    have := h.top j
    omega
theorem half_at {C : Int} {c : List Int} (h : Small C c) (t : Nat) : (halfL c).getD t 0 = c.getD t 0 / 2 := by
  rw [(half_trim h).1, trim_at, half_get]
/-- A right word of noughts alone is empty. -/
theorem zero_empty {c : List Int} (h : rightL c = true) (h0 : ∀ t, c.getD t 0 = 0) : c = [] := by
  cases hl : c.length with
  | zero => exact List.eq_nil_of_length_eq_zero hl
  | succ n => exact absurd (h0 (c.length - 1)) (right_last h (by omega))

/-! ### What comes of an item's choices -/
theorem half_rightI (j : Int) (c : List Int) : rightIt ⟨j, halfL c⟩ = true := normR_right _
theorem maskF_all (x : It) (ps : List (List Int)) (letter : Int) : ∀ (k m : Nat) (out out' : List It), RiseI out → maskF x ps letter k m out = some out' →
    RiseI out' ∧ ∀ z, z ∈ out' ↔ z ∈ out ∨ ∃ i c, m ≤ i ∧ i < m + k ∧ chosenL x.c ps i = some c ∧ oddN c = letter ∧ z = ⟨x.j, halfL c⟩
  | 0, m, out, out', h, e => by
    injection e with e
    subst e
    refine ⟨h, fun z => ⟨fun hz => .inl hz, fun hz => ?_⟩⟩
    rcases hz with hz | ⟨i, c, h1, h2, _⟩
    · exact hz
    · omega
  | k + 1, m, out, out', h, e => by
    unfold maskF at e
    split at e
    · cases e
    · next c hc =>
      by_cases ho : oddN c = letter
      · rw [if_pos ho] at e
        obtain ⟨r1, r2⟩ := maskF_all x ps letter k (m + 1) _ _ (putI_rise (half_rightI x.j c) h) e
        refine ⟨r1, fun z => ?_⟩
        rw [r2, putI_mem (half_rightI x.j c) h.1]
        constructor
        · rintro ((h1 | h1) | ⟨i, c2, h1, h2, h3⟩)
          · exact .inr ⟨m, c, Nat.le_refl _, by omega, hc, ho, h1⟩
          · exact .inl h1
          · exact .inr ⟨i, c2, by omega, by omega, h3⟩
        · rintro (h1 | ⟨i, c2, h1, h2, h3, h4, h5⟩)
          · exact .inl (.inr h1)
          · by_cases hi : i = m
            · subst hi
              rw [hc] at h3
              injection h3 with h3
              subst h3
              exact .inl (.inl h5)
            · exact .inr ⟨i, c2, by omega, by omega, h3, h4, h5⟩
      · rw [if_neg ho] at e
        obtain ⟨r1, r2⟩ := maskF_all x ps letter k (m + 1) _ _ h e
        refine ⟨r1, fun z => ?_⟩
        rw [r2]
        constructor
        · rintro (h1 | ⟨i, c2, h1, h2, h3⟩)
          · exact .inl h1
          · exact .inr ⟨i, c2, by omega, by omega, h3⟩
        · rintro (h1 | ⟨i, c2, h1, h2, h3, h4, h5⟩)
          · exact .inl h1
          · by_cases hi : i = m
            · subst hi
              rw [hc] at h3
              injection h3 with h3
              subst h3
              exact absurd h4 ho
            · exact .inr ⟨i, c2, by omega, by omega, h3, h4, h5⟩
theorem maskF_some (x : It) (ps : List (List Int)) (letter : Int) (hc : ∀ m, ∃ c, chosenL x.c ps m = some c) : ∀ (k m : Nat) (out : List It), ∃ out', maskF x ps letter k m out = some out'
  | 0, _, out => ⟨out, rfl⟩
  | k + 1, m, out => by
    obtain ⟨c, e⟩ := hc m
    unfold maskF
    rw [e]
    exact maskF_some x ps letter hc k (m + 1) _
end Go.Proofs.YtmefmnpmppdpmabDoor

/-! Rows of items in memory: slices whose elements are a number and a slice. -/
namespace Go.Proofs.YtmefmnpmppdpmabDoor
open Go.ChangeShapes Go.WideShapes Go.ChangeAt Go.RowKit

/-- An item in memory: its slice, what it says. -/
structure Ib where
  a : Option Addr
  c : Nat
  x : It
def Ib.cells (l : Ib) : List Value := [.int .i64 l.x.j, .slice l.a l.x.c.length l.c]
def iflat (ls : List Ib) : List Value := ls.flatMap Ib.cells
def its (ls : List Ib) : List It := ls.map Ib.x
theorem its_len (ls : List Ib) : (its ls).length = ls.length := List.length_map ..
theorem iflat_len : ∀ ls : List Ib, (iflat ls).length = ls.length * 2
  | [] => rfl
  | l :: r => by
    have e : iflat (l :: r) = l.cells ++ iflat r := rfl
    rw [e, List.length_append, iflat_len r, List.length_cons]
    show 2 + _ = _
    omega
theorem iflat_app (a b : List Ib) : iflat (a ++ b) = iflat a ++ iflat b := by simp [iflat]
theorem iflat_get : ∀ (ls : List Ib) (k : Nat) (hk : k < ls.length) (i : Nat), i < 2 → (iflat ls)[k * 2 + i]? = (ls[k]).cells[i]?
  | [], _, hk, _, _ => by simp at hk
  | l :: r, 0, _, i, hi => by
    have e : iflat (l :: r) = l.cells ++ iflat r := rfl
    rw [e, List.getElem?_append_left (by show 0 * 2 + i < 2; omega)]
    simp
  | l :: r, k + 1, hk, i, hi => by
    have e : iflat (l :: r) = l.cells ++ iflat r := rfl
    rw [e, List.getElem?_append_right (by show 2 ≤ _; omega)]
    have := iflat_get r k (by simpa using hk) i hi
    have e2 : (k + 1) * 2 + i - l.cells.length = k * 2 + i := by show (k + 1) * 2 + i - 2 = _; omega
    rw [e2, this]
    simp
theorem iflat_one (ls : List Ib) : ∀ x ∈ iflat ls, x.oneCell' = true := fun x hx => by
  obtain ⟨l, _, h⟩ := List.mem_flatMap.1 hx
  simp only [Ib.cells, List.mem_cons, List.not_mem_nil, or_false] at h
  rcases h with rfl | rfl <;> rfl

/-- A slice of n elements of two cells each. -/
def RowI (w : World) (a : Option Addr) (c n : Nat) (xs : List Value) : Prop :=
  xs.length = n * 2 ∧ ((a = none ∧ c = 0 ∧ n = 0) ∨ ∃ g sp, a = some ⟨g, 0, none⟩ ∧ c * 2 = xs.length + sp.length ∧ n ≤ c ∧ c ≤ 9223372036854775807 ∧ Lies w g 65 (xs ++ sp))
section
variable {w w' : World} {a : Option Addr} {c n : Nat} {xs : List Value}
theorem RowI.nil (w : World) : RowI w none 0 0 [] := ⟨rfl, .inl ⟨rfl, rfl, rfl⟩⟩
theorem RowI.kept {X : Nat → Prop} (h : RowI w a c n xs) (k : Kept X w w') (hx : ∀ g, a = some ⟨g, 0, none⟩ → ¬ X g) : RowI w' a c n xs := by
  obtain ⟨h0, h⟩ := h
  rcases h with h | ⟨g, sp, e, h1, h2, h3, l⟩
  · exact ⟨h0, .inl h⟩
  · exact ⟨h0, .inr ⟨g, sp, e, h1, h2, h3, l.kept k (hx g e)⟩⟩
theorem RowI.below (h : RowI w a c n xs) (k : Below w.heap.size w w') : RowI w' a c n xs := h.kept (X := fun _ => False) (Kept.of_below k) (fun _ _ h => h)
theorem RowI.lt (h : RowI w a c n xs) {g : Nat} (e : a = some ⟨g, 0, none⟩) : g < w.heap.size := by
  obtain ⟨_, h⟩ := h
  rcases h with ⟨h, _⟩ | ⟨g', sp, e', _, _, _, l⟩
  · rw [h] at e; cases e
  · rw [e'] at e; injection e with e; injection e with e; subst e; exact l.lt
theorem RowI.le (h : RowI w a c n xs) : n ≤ c ∧ c ≤ 9223372036854775807 := by
  obtain ⟨_, h⟩ := h
  rcases h with ⟨_, h1, h2⟩ | ⟨_, _, _, _, h1, h2, _⟩
  · omega
  · exact ⟨h1, h2⟩
theorem RowI.form (h : RowI w a c n xs) : a = none ∨ ∃ g, a = some ⟨g, 0, none⟩ := by
  obtain ⟨_, h⟩ := h
  rcases h with ⟨e, _⟩ | ⟨g, _, e, _⟩
  · exact .inl e
  · exact .inr ⟨g, e⟩
theorem RowI.cell (h : RowI w a c n xs) {j : Nat} {u : Value} (hj : xs[j]? = some u) : ∃ g, a = some ⟨g, 0, none⟩ ∧ w.cell? ⟨g, j, none⟩ = some u := by
  obtain ⟨h0, h⟩ := h
  rcases h with ⟨_, _, h2⟩ | ⟨g, sp, e, _, _, _, l⟩
  · have : xs = [] := List.eq_nil_of_length_eq_zero (by omega)
    rw [this] at hj; simp at hj
  · refine ⟨g, e, ?_⟩
    rw [l.cell, List.getElem?_append_left (List.getElem?_eq_some_iff.1 hj).1]
    exact hj
theorem RowI.own (h : RowI w a c n xs) : w.ownsRow 0 65 2 (.slice a n c) n xs := by
  obtain ⟨h0, h⟩ := h
  refine ⟨h0, ?_⟩
  rcases h with ⟨rfl, rfl, rfl⟩ | ⟨g, sp, rfl, h1, h2, h3, l⟩
  · exact .inl ⟨rfl, rfl⟩
  · refine .inr ⟨g, c, _, rfl, Nat.zero_le _, l, h2, by unfold maxLen; omega, ?_, ?_⟩
    · simp; omega
    · rw [← h0]; simp
theorem own_rowI {v : Value} (h : w.ownsRow 0 65 2 v n xs) : ∃ a c, v = .slice a n c ∧ RowI w a c n xs := by
  obtain ⟨hl, h⟩ := h
  rcases h with ⟨rfl, rfl⟩ | ⟨g, cap, cur, rfl, _, hh, hn, hm, hs, ht⟩
  · obtain rfl : xs = [] := List.eq_nil_of_length_eq_zero (by omega)
    exact ⟨none, 0, rfl, RowI.nil w⟩
  · unfold maxLen at hm
    refine ⟨_, _, rfl, hl, .inr ⟨g, cur.toList.drop (n * 2), rfl, ?_, hn, by omega, (lies_arr hh).to ?_⟩⟩
    · have h1 : cur.toList.length = cap * 2 := by simpa using hs
      rw [List.length_drop, h1, hl]; omega
    · rw [← ht, List.take_append_drop]
end
theorem Tryd.infoItem : (Tryd.prog.info? 65).map (fun i => (i.zero, i.size, i.bytes)) = some (some (.agg #[.int .i64 0, .slice none 0 0]), 2, 32) := by kernel_rfl

/-- What append of the cells ys (m elements) to the row a comes to. -/
def AppendsI (a : Option Addr) (n m : Nat) (xs ys : List Value) (w : World) (v : Value) (w' : World) : Prop :=
  ∃ a' c', v = .slice a' (n + m) c' ∧ RowI w' a' c' (n + m) (xs ++ ys) ∧ Kept (fun g => a = some ⟨g, 0, none⟩) w w' ∧ ∀ g, a' = some ⟨g, 0, none⟩ → a = some ⟨g, 0, none⟩ ∨ w.heap.size ≤ g
theorem AppendsI.below {a : Option Addr} {n m : Nat} {xs ys : List Value} {w w' : World} {v : Value} (h : AppendsI a n m xs ys w v w') {B : Nat} (hB : B ≤ w.heap.size) (hf : From B a) : Below B w w' ∧ ∀ a' k c', v = .slice a' k c' → From B a' := by
  obtain ⟨a', c', rfl, r, k, f⟩ := h
  refine ⟨k.below (fun g e => hf g e) hB, fun a2 n c2 e g h => ?_⟩
  injection e with e
  subst e
  rcases f g h with h | h
  · exact hf g h
  · omega
theorem run_appIt_at (t ty : TypeId) (hu : Tryd.prog.underlying t = some (.slice 65))
    (a : Option Addr) (c n : Nat) (xs : List Value) (w : World) (R : RowI w a c n xs) (ad : Addr) (m d : Nat) (ys : List Value) (hm : ys.length = m * 2) (hc : ∀ j u, ys[j]? = some u → w.cell? (ad.add j) = some u) (h1 : ∀ u ∈ ys, u.oneCell' = true) (hb : n + m ≤ 1000000000000) :
    ∃ v w', (Builtin.append_ #[t, t] ty #[.slice a n c, .slice (some ad) m d]).run Tryd.prog w = .ok v w' ∧ AppendsI a n m xs ys w v w' := by
  obtain ⟨i, hi, hz, hsz, hby⟩ := info_parts Tryd.infoItem
  have hform := R.form
  have hx := R.1
  obtain ⟨v', w', hr, h2, h3, _, h5⟩ := run_append_own_at (P := Tryd.prog) w 0 t ty 65 i _ 2 32 hu hi hz hsz hby (by simp [Value.cells]) (by omega) _ n xs R.own
    ad m d ys hm hc h1 (by unfold maxLen; omega) (by omega) (Nat.zero_le _)
  obtain ⟨a', c', rfl, r'⟩ := own_rowI h2
  refine ⟨_, w', hr, a', c', rfl, r', ?_, fun g e => ?_⟩
  · refine ⟨h3.os, h3.tape, h3.output, h3.size, fun g hg hx => h3.block g hg (fun e => ?_)⟩
    obtain ⟨x, rfl, hx'⟩ := (ownBlock_slice a _ _ g).1 e.symm
    rcases hform with h | ⟨g', h⟩
    · cases h
    · injection h with h; subst h; subst hx'; exact hx rfl
  · subst e
    rcases h5 with h5 | h5
    · obtain ⟨x, rfl, hx⟩ := (ownBlock_slice a n c g).1 (by rw [← h5]; rfl)
      rcases hform with h | ⟨g', h⟩
      · cases h
      · injection h with h; subst h; subst hx; exact .inl rfl
    · have : g = w.heap.size := by simpa [Value.ownBlock] using h5
      exact .inr (by omega)
theorem run_appIt_nil (t ty : TypeId) (hu : Tryd.prog.underlying t = some (.slice 65)) (a : Option Addr) (c n : Nat) (xs : List Value) (w : World) (R : RowI w a c n xs) :
    ∃ v w', (Builtin.append_ #[t, t] ty #[.slice a n c, .slice none 0 0]).run Tryd.prog w = .ok v w' ∧ AppendsI a n 0 xs [] w v w' := by
  obtain ⟨i, hi, hz, hsz, hby⟩ := info_parts Tryd.infoItem
  refine ⟨_, _, run_append_owned_none (w := w) 0 t ty 65 i 2 hu hi _ n xs R.own, a, c, by simp, by simpa using R, Kept.refl _ _, fun g e => .inl e⟩

/-- A slice of items. -/
structure Ibs (w : World) (a : Option Addr) (c : Nat) (ls : List Ib) : Prop where
  row : RowI w a c ls.length (iflat ls)
  each : ∀ l ∈ ls, Bag w l.a l.c l.x.c
def Its (w : World) (a : Option Addr) (c : Nat) (s : List It) : Prop := ∃ ls, its ls = s ∧ Ibs w a c ls
def itAt (s : List It) (k : Nat) : It := s.getD k ⟨0, []⟩
section
variable {w w' : World} {a : Option Addr} {c : Nat} {ls : List Ib} {s : List It}
theorem Ibs.nil (w : World) : Ibs w none 0 [] := ⟨RowI.nil w, fun l h => by simp at h⟩
theorem Ibs.below (h : Ibs w a c ls) (k : Below w.heap.size w w') : Ibs w' a c ls := ⟨h.row.below k, fun l hl => (h.each l hl).below k⟩
theorem Its.nil (w : World) : Its w none 0 [] := ⟨[], rfl, Ibs.nil w⟩
theorem Its.below (h : Its w a c s) (k : Below w.heap.size w w') : Its w' a c s := by
  obtain ⟨ls, e, h⟩ := h
  exact ⟨ls, e, h.below k⟩
theorem Its.le (h : Its w a c s) : s.length ≤ c ∧ c ≤ 9223372036854775807 := by
  obtain ⟨ls, rfl, h⟩ := h
  rw [its_len]
  exact h.row.le
theorem Its.lt (h : Its w a c s) {g : Nat} (e : a = some ⟨g, 0, none⟩) : g < w.heap.size := by
  obtain ⟨ls, _, h⟩ := h
  exact h.row.lt e
theorem Ibs.at (h : Ibs w a c ls) {k : Nat} (hk : k < ls.length) : ∃ g, a = some ⟨g, 0, none⟩ ∧ w.cell? ⟨g, k * 2, none⟩ = some (.int .i64 (ls[k]).x.j) ∧ w.cell? ⟨g, k * 2 + 1, none⟩ = some (.slice (ls[k]).a (ls[k]).x.c.length (ls[k]).c) ∧ Bag w (ls[k]).a (ls[k]).c (ls[k]).x.c := by
  have f0 := iflat_get ls k hk 0 (by omega)
  have f1 := iflat_get ls k hk 1 (by omega)
  obtain ⟨g, e0, c0⟩ := h.row.cell (j := k * 2 + 0) (u := .int .i64 (ls[k]).x.j) (by rw [f0]; rfl)
  obtain ⟨g', e1, c1⟩ := h.row.cell (j := k * 2 + 1) (u := .slice (ls[k]).a (ls[k]).x.c.length (ls[k]).c) (by rw [f1]; rfl)
  rw [e0] at e1
  injection e1 with e1; injection e1 with e1; subst e1
  exact ⟨g, e0, c0, c1, h.each _ (List.getElem_mem hk)⟩
theorem Its.at (h : Its w a c s) {k : Nat} (hk : k < s.length) : ∃ g b d, a = some ⟨g, 0, none⟩ ∧ w.cell? ⟨g, k * 2, none⟩ = some (.int .i64 (itAt s k).j) ∧ w.cell? ⟨g, k * 2 + 1, none⟩ = some (.slice b (itAt s k).c.length d) ∧ Bag w b d (itAt s k).c := by
  obtain ⟨ls, rfl, h⟩ := h
  rw [its_len] at hk
  have e : itAt (its ls) k = (ls[k]).x := by simp [itAt, its, List.getD, hk]
  obtain ⟨g, h1, h2, h3, h4⟩ := h.at hk
  rw [e]
  exact ⟨g, _, _, h1, h2, h3, h4⟩
end
end Go.Proofs.YtmefmnpmppdpmabDoor

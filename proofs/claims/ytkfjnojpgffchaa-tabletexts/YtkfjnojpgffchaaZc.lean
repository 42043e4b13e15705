/- What a key has behind a row of Puts: the last that was put. -/
import Derived.Test.YtkfjnojpgffchaaZb
namespace Go.Proofs.Ytkfjnojpgffchaa
open Go.ChangeShapes Go.WideShapes Go.ChangeAt Go.RowKit

section
variable {K V : Type} [DecidableEq K] {lt : K → K → Bool} {ks : List K} {vs : List V}
theorem spot_of (O : Order lt) (h : Up lt ks) {j : Nat} {k : K} (hj : ks[j]? = some k) : spot lt ks k = j := by
  have hk := (spot_has O h k).1 ((has_mem _ _).2 (List.mem_of_getElem? hj))
  obtain ⟨h1, e1⟩ := List.getElem?_eq_some_iff.1 hj
  obtain ⟨h2, e2⟩ := List.getElem?_eq_some_iff.1 hk
  have hp := List.pairwise_iff_getElem.1 h
  rcases Nat.lt_trichotomy (spot lt ks k) j with hlt | he | hgt
  · have := hp _ _ h2 h1 hlt
    rw [e1, e2, O.irr] at this; cases this
  · exact he
  · have := hp _ _ h1 h2 hgt
    rw [e1, e2, O.irr] at this; cases this
theorem hasV_at (O : Order lt) (h : Up lt ks) {j : Nat} {k : K} {u z : V} (hj : ks[j]? = some k) (hu : vs[j]? = some u) : hasV lt ks vs k z = u ∧ has ks k = true := by
  have hh : has ks k = true := (has_mem _ _).2 (List.mem_of_getElem? hj)
  obtain ⟨h1, e1⟩ := List.getElem?_eq_some_iff.1 hu
  exact ⟨by rw [hasV_yes hh (spot_of O h hj) h1, e1], hh⟩

theorem mid_at {α : Type} (l : List α) (i : Nat) (hi : i ≤ l.length) (x : α) : (l.take i ++ x :: l.drop i)[i]? = some x ∧ ∀ j, (j < i → (l.take i ++ x :: l.drop i)[j]? = l[j]?) ∧ (i ≤ j → (l.take i ++ x :: l.drop i)[j + 1]? = l[j]?) := by
  have hl : (l.take i).length = i := by rw [List.length_take]; omega
  refine ⟨?_, fun j => ⟨fun hj => ?_, fun hj => ?_⟩⟩
  · rw [List.getElem?_append_right (by omega), hl, Nat.sub_self]; rfl
  · rw [List.getElem?_append_left (by omega), List.getElem?_take, if_pos hj]
  · rw [List.getElem?_append_right (by omega), hl, show j + 1 - i = (j - i) + 1 by omega, List.getElem?_cons_succ, List.getElem?_drop, show i + (j - i) = j by omega]

theorem put_self (O : Order lt) (h : Up lt ks) (hl : ks.length = vs.length) (k : K) (v z : V) : hasV lt (putK lt ks k) (putV lt ks vs k v) k z = v ∧ has (putK lt ks k) k = true := by
  have hu := putK_up O h k
  have hle := spot_le (lt := lt) ks k
  cases hh : has ks k with
  | true =>
    have hi := spot_lt O h hh
    refine hasV_at O hu (j := spot lt ks k) ?_ ?_
    · unfold putK; rw [hh, if_pos rfl]; exact (spot_has O h k).1 hh
    · unfold putV; rw [hh, if_pos rfl, List.getElem?_set_self (by omega)]
  | false =>
    refine hasV_at O hu (j := spot lt ks k) ?_ ?_
    · unfold putK; rw [hh]; exact (mid_at ks _ hle k).1
    · unfold putV; rw [hh]; exact (mid_at vs _ (by omega) v).1

theorem put_other (O : Order lt) (h : Up lt ks) (hl : ks.length = vs.length) (k k' : K) (v z : V) (hne : k ≠ k') : hasV lt (putK lt ks k) (putV lt ks vs k v) k' z = hasV lt ks vs k' z ∧ has (putK lt ks k) k' = has ks k' := by
  have hu := putK_up O h k
  have hle := spot_le (lt := lt) ks k
  cases hh' : has ks k' with
  | true =>
    have hj := (spot_has O h k').1 hh'
    have hjl := spot_lt O h hh'
    obtain ⟨u, hu'⟩ : ∃ u, vs[spot lt ks k']? = some u := ⟨_, List.getElem?_eq_getElem (by omega)⟩
    have h0 := hasV_at (z := z) O h hj hu'
    cases hh : has ks k with
    | true =>
      have hi := (spot_has O h k).1 hh
      have hne' : spot lt ks k ≠ spot lt ks k' := fun e => by rw [e, hj] at hi; injection hi with hi; exact hne hi.symm
      have := hasV_at (z := z) (vs := putV lt ks vs k v) (u := u) O hu (j := spot lt ks k') (k := k') (by unfold putK; rw [hh, if_pos rfl]; exact hj) (by unfold putV; rw [hh, if_pos rfl, List.getElem?_set_ne hne']; exact hu')
      exact ⟨this.1.trans h0.1.symm, this.2⟩
    | false =>
      by_cases hlt : spot lt ks k' < spot lt ks k
      · have := hasV_at (z := z) (vs := putV lt ks vs k v) (u := u) O hu (j := spot lt ks k') (k := k') (by unfold putK; rw [hh]; exact (((mid_at ks _ hle k).2 _).1 hlt).trans hj) (by unfold putV; rw [hh]; exact (((mid_at vs _ (by omega) v).2 _).1 hlt).trans hu')
        exact ⟨this.1.trans h0.1.symm, this.2⟩
      · have := hasV_at (z := z) (vs := putV lt ks vs k v) (u := u) O hu (j := spot lt ks k' + 1) (k := k') (by unfold putK; rw [hh]; exact (((mid_at ks _ hle k).2 _).2 (by omega)).trans hj) (by unfold putV; rw [hh]; exact (((mid_at vs _ (by omega) v).2 _).2 (by omega)).trans hu')
        exact ⟨this.1.trans h0.1.symm, this.2⟩
  | false =>
    have hn : has (putK lt ks k) k' = false := by
      have hm := (has_not _ _).1 hh'
      refine (has_not _ _).2 (fun hm' => hm ?_)
      unfold putK at hm'
      split at hm'
      · exact hm'
      · rcases List.mem_append.1 hm' with h1 | h1
        · exact List.mem_of_mem_take h1
        · rcases List.mem_cons.1 h1 with h1 | h1
          · exact absurd h1.symm hne
          · exact List.mem_of_mem_drop h1
    exact ⟨by rw [hasV_no hn, hasV_no hh'], hn⟩
end

/-- The i-th text. -/
def txt (S : List ByteArray) (i : Nat) : ByteArray := S.getD i ByteArray.empty
/-- What a text has behind the first n Puts, and whether it has something. -/
def lastV (S : List ByteArray) (a : Option Addr) (c : Nat) (k : ByteArray) : Nat → Value
  | 0 => .slice none 0 0
  | n + 1 => if txt S n = k then .slice a n c else lastV S a c k n
def lastH (S : List ByteArray) (k : ByteArray) : Nat → Bool
  | 0 => false
  | n + 1 => if txt S n = k then true else lastH S k n
/-- The last place from i on, before m, where k stands. -/
def lastI (S : List ByteArray) (k : ByteArray) (i : Nat) : Nat → Nat
  | 0 => i
  | m + 1 => if i ≤ m ∧ txt S m = k then m else lastI S k i m

theorem lastI_le {S : List ByteArray} {k : ByteArray} {i m n : Nat} (hi : i < n) (hm : m ≤ n) : lastI S k i m < n := by
  induction m with
  | zero => exact hi
  | succ m ih =>
    unfold lastI
    split
    · omega
    · exact ih (by omega)
theorem lastI_start {S : List ByteArray} {k : ByteArray} {i m : Nat} (h : m ≤ i) : lastI S k i m = i := by
  induction m with
  | zero => rfl
  | succ m ih =>
    unfold lastI
    rw [if_neg (by omega)]
    exact ih (by omega)
theorem lastV_eq {S : List ByteArray} {a : Option Addr} {c : Nat} {i : Nat} : ∀ {m : Nat}, i < m → lastV S a c (txt S i) m = .slice a (lastI S (txt S i) i m) c ∧ lastH S (txt S i) m = true
  | 0, h => by omega
  | m + 1, h => by
    unfold lastV lastI lastH
    by_cases he : txt S m = txt S i
    · rw [if_pos he, if_pos he, if_pos ⟨by omega, he⟩]
      exact ⟨rfl, rfl⟩
    · rw [if_neg he, if_neg he, if_neg (fun h => he h.2)]
      have hm : i < m := by
        rcases Nat.lt_or_ge i m with h' | h'
        · exact h'
        · obtain rfl : m = i := by omega
          exact absurd rfl he
      exact lastV_eq hm

/-- What a table of texts has behind the first n Puts. -/
structure Told (S : List ByteArray) (a : Option Addr) (c n : Nat) (ks : List ByteArray) (vs : List Value) : Prop where
  up : Up strLt ks
  len : ks.length = vs.length
  few : ks.length ≤ n
  one : ∀ x ∈ vs, x.oneCell' = true
  val : ∀ k, hasV strLt ks vs k (.slice none 0 0) = lastV S a c k n ∧ has ks k = lastH S k n

theorem told_none (S : List ByteArray) (a : Option Addr) (c : Nat) : Told S a c 0 [] [] :=
  ⟨up_strs_nil, rfl, Nat.le_refl _, (by simp), fun k => ⟨rfl, rfl⟩⟩
theorem Told.put {S : List ByteArray} {a : Option Addr} {c n : Nat} {ks : List ByteArray} {vs : List Value} (h : Told S a c n ks vs) : Told S a c (n + 1) (putK strLt ks (txt S n)) (putV strLt ks vs (txt S n) (.slice a n c)) := by
  refine ⟨putK_up strOrder h.up _, putV_len _ _ _ _ h.len, by have := putK_len (lt := strLt) ks (txt S n); have := h.few; omega, fun x hx => ?_, fun k => ?_⟩
  · unfold putV at hx
    split at hx
    · rcases List.mem_or_eq_of_mem_set hx with hx | rfl
      · exact h.one x hx
      · rfl
    · rcases List.mem_append.1 hx with hx | hx
      · exact h.one x (List.mem_of_mem_take hx)
      · rcases List.mem_cons.1 hx with rfl | hx
        · rfl
        · exact h.one x (List.mem_of_mem_drop hx)
  · unfold lastV lastH
    by_cases he : txt S n = k
    · rw [if_pos he, if_pos he, he]
      exact put_self strOrder h.up h.len _ _ _
    · rw [if_neg he, if_neg he]
      have := put_other strOrder h.up h.len (txt S n) k (.slice a n c) (.slice none 0 0) he
      exact ⟨this.1.trans (h.val k).1, this.2.trans (h.val k).2⟩
end Go.Proofs.Ytkfjnojpgffchaa

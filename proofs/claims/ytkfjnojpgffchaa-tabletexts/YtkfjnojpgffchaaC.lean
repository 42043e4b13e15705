/- Lists that rise: where a key stands, or would; one more key; one less. -/
import Derived.Test.YtkfjnojpgffchaaB
namespace Go.Proofs.Ytkfjnojpgffchaa
open Go.ChangeShapes Go.WideShapes Go.ChangeAt Go.RowKit

section
variable {K : Type}

/-- A strict order in which of two keys one is ahead. -/
structure Order (lt : K → K → Bool) : Prop where
  irr : ∀ a, lt a a = false
  tr : ∀ a b c, lt a b = true → lt b c = true → lt a c = true
  tot : ∀ a b, lt a b = false → lt b a = false → a = b

def Up (lt : K → K → Bool) (ks : List K) : Prop := ks.Pairwise (fun a b => lt a b = true)
def spot (lt : K → K → Bool) (ks : List K) (k : K) : Nat := ks.countP (fun x => lt x k)

variable {lt : K → K → Bool}
theorem spot_le (ks : List K) (k : K) : spot lt ks k ≤ ks.length := List.countP_le_length

theorem spot_split (O : Order lt) : ∀ (ks : List K) (k : K), Up lt ks → (∀ x ∈ ks.take (spot lt ks k), lt x k = true) ∧ (∀ x ∈ ks.drop (spot lt ks k), lt x k = false)
  | [], _, _ => by simp
  | a :: l, k, h => by
    unfold Up at h
    rw [List.pairwise_cons] at h
    have ih := spot_split O l k h.2
    by_cases hak : lt a k = true
    · have e : spot lt (a :: l) k = spot lt l k + 1 := by unfold spot; rw [List.countP_cons_of_pos (p := fun x => lt x k) hak]
      rw [e]
      simp only [List.take_succ_cons, List.drop_succ_cons]
      refine ⟨fun x hx => ?_, ih.2⟩
      rcases List.mem_cons.1 hx with rfl | hx
      · exact hak
      · exact ih.1 x hx
    · have hf : ∀ x ∈ l, lt x k = false := fun x hx => by
        cases hxk : lt x k with
        | false => rfl
        | true => exact absurd (O.tr a x k (h.1 x hx) hxk) hak
      have e : spot lt (a :: l) k = 0 := by
        unfold spot
        rw [List.countP_eq_zero]
        intro x hx
        rcases List.mem_cons.1 hx with rfl | hx
        · exact hak
        · rw [hf x hx]; simp
      rw [e]
      refine ⟨by simp, fun x hx => ?_⟩
      rw [List.drop_zero] at hx
      rcases List.mem_cons.1 hx with rfl | hx
      · simpa using hak
      · exact hf x hx

theorem up_del {ks : List K} (h : Up lt ks) (i : Nat) : Up lt (ks.take i ++ ks.drop (i + 1)) := by
  rw [← List.eraseIdx_eq_take_drop_succ]
  exact List.Pairwise.sublist (List.eraseIdx_sublist _ _) h

variable [DecidableEq K]
/-- Is k among the keys? -/
def has (ks : List K) (k : K) : Bool := ks.contains k
theorem has_mem (ks : List K) (k : K) : has ks k = true ↔ k ∈ ks := by unfold has; simp
theorem has_not (ks : List K) (k : K) : has ks k = false ↔ k ∉ ks := by unfold has; simp
theorem spot_has (O : Order lt) {ks : List K} (h : Up lt ks) (k : K) : has ks k = true ↔ ks[spot lt ks k]? = some k := by
  have hs := spot_split O ks k h
  constructor
  · intro hc
    have hm : k ∈ ks := (has_mem ks k).1 hc
    rw [← List.take_append_drop (spot lt ks k) ks, List.mem_append] at hm
    rcases hm with hm | hm
    · have := hs.1 k hm; rw [O.irr] at this; cases this
    · rw [← List.head?_drop]
      cases hd : ks.drop (spot lt ks k) with
      | nil => rw [hd] at hm; cases hm
      | cons y r =>
        rw [hd] at hm hs
        have hup : (y :: r).Pairwise (fun a b => lt a b = true) := hd ▸ (List.Pairwise.sublist (List.drop_sublist _ _) h)
        rw [List.pairwise_cons] at hup
        rcases List.mem_cons.1 hm with rfl | hm
        · rfl
        · have h1 := hup.1 k hm
          have h2 := hs.2 y (by simp)
          rw [h1] at h2
          cases h2
  · intro he
    exact (has_mem ks k).2 (List.mem_of_getElem? he)

theorem spot_lt (O : Order lt) {ks : List K} (h : Up lt ks) {k : K} (hc : has ks k = true) : spot lt ks k < ks.length :=
  (List.getElem?_eq_some_iff.1 ((spot_has O h k).1 hc)).1

theorem up_ins (O : Order lt) {ks : List K} (h : Up lt ks) {k : K} (hc : has ks k = false) : Up lt (ks.take (spot lt ks k) ++ k :: ks.drop (spot lt ks k)) := by
  have hs := spot_split O ks k h
  have hm : k ∉ ks := (has_not ks k).1 hc
  unfold Up at h ⊢
  rw [← List.take_append_drop (spot lt ks k) ks, List.pairwise_append] at h
  have hk : ∀ b ∈ ks.drop (spot lt ks k), lt k b = true := fun b hb => by
    cases hkb : lt k b with
    | true => rfl
    | false =>
      have := O.tot k b hkb (hs.2 b hb)
      subst this
      exact absurd (List.mem_of_mem_drop hb) hm
  rw [List.pairwise_append, List.pairwise_cons]
  refine ⟨h.1, ⟨hk, h.2.1⟩, fun a ha b hb => ?_⟩
  rcases List.mem_cons.1 hb with rfl | hb
  · exact hs.1 a ha
  · exact h.2.2 a ha b hb

/-- The keys behind a Put of k. -/
def putK (lt : K → K → Bool) (ks : List K) (k : K) : List K := if has ks k then ks else ks.take (spot lt ks k) ++ k :: ks.drop (spot lt ks k)
/-- The values behind a Put of k, v. -/
def putV {V : Type} (lt : K → K → Bool) (ks : List K) (vs : List V) (k : K) (v : V) : List V := if has ks k then vs.set (spot lt ks k) v else vs.take (spot lt ks k) ++ v :: vs.drop (spot lt ks k)

theorem putK_up (O : Order lt) {ks : List K} (h : Up lt ks) (k : K) : Up lt (putK lt ks k) := by
  unfold putK
  split
  · exact h
  · rename_i hc; exact up_ins O h (by simpa using hc)
theorem putK_len (ks : List K) (k : K) : (putK lt ks k).length ≤ ks.length + 1 := by
  unfold putK
  have := spot_le (lt := lt) ks k
  split <;> simp <;> omega
theorem putV_len {V : Type} (ks : List K) (vs : List V) (k : K) (v : V) (h : ks.length = vs.length) : (putK lt ks k).length = (putV lt ks vs k v).length := by
  unfold putK putV
  have := spot_le (lt := lt) ks k
  split <;> simp <;> omega
end

def intLt (a b : Int) : Bool := decide (a < b)
theorem intOrder : Order intLt := ⟨fun a => by simp [intLt], fun a b c => by simp [intLt]; omega, fun a b => by simp [intLt]; omega⟩
theorem up_le {ks : List Int} (h : Up intLt ks) : ks.Pairwise (· ≤ ·) := List.Pairwise.imp (fun {a b} h => by simp [intLt] at h; omega) h
theorem spot_int (ks : List Int) (k : Int) : ks.countP (· < k) = spot intLt ks k := rfl
theorem up_nil : Up intLt [] := List.Pairwise.nil

end Go.Proofs.Ytkfjnojpgffchaa

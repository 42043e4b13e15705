/- Sorting by insertion, in plain words, over bags in memory. -/
import Derived.Test.YtmbkiefbchjofaaDe
namespace Go.Proofs.Ytmbkiefbchjofaa
open Go.ChangeShapes Go.WideShapes Go.ChangeAt Go.RowKit

def bg0 : Bg := ⟨none, 0, []⟩
/-- Place p of them. -/
def bgAt (l : List Bg) (p : Nat) : Bg := l.getD p bg0
theorem bgAt_get {l : List Bg} {p : Nat} (h : p < l.length) : bgAt l p = l[p] := by simp [bgAt, List.getD, h]
/-- Not behind. -/
def Le (a b : Bg) : Prop := cmpL a.xs b.xs ≤ 0
def Rights (l : List Bg) : Prop := ∀ p ∈ l, rightL p.xs = true
/-- Up to place k they rise, but for the one at place j, of which nothing is known of those ahead of it. -/
def Ins (l : List Bg) (j k : Nat) : Prop := ∀ p q, p < q → q ≤ k → q ≠ j → Le (bgAt l p) (bgAt l q)
/-- Up to place k they rise. -/
def Up (l : List Bg) (k : Nat) : Prop := ∀ p q, p < q → q < k → Le (bgAt l p) (bgAt l q)
/-- Places j and j + 1, exchanged. -/
def swap (l : List Bg) (j : Nat) : List Bg := (l.set (j + 1) (bgAt l j)).set j (bgAt l (j + 1))
theorem swap_len (l : List Bg) (j : Nat) : (swap l j).length = l.length := by simp [swap]
theorem swap_at {l : List Bg} {j p : Nat} (h : j + 1 < l.length) : bgAt (swap l j) p = if p = j then bgAt l (j + 1) else if p = j + 1 then bgAt l j else bgAt l p := by
  unfold swap bgAt
  simp only [List.getD_eq_getElem?_getD, List.getElem?_set, List.length_set]
  by_cases h1 : p = j
  · subst h1; simp [show p < l.length by omega]
  · by_cases h2 : p = j + 1
    · subst h2; simp [h]
    · rw [if_neg (by omega), if_neg (by omega), if_neg h1, if_neg h2]
theorem swap_mem {l : List Bg} {j : Nat} (h : j + 1 < l.length) (x : Bg) : x ∈ swap l j ↔ x ∈ l := by
  have key : ∀ (m : List Bg), x ∈ m ↔ ∃ p, p < m.length ∧ bgAt m p = x := fun m => by
    rw [List.mem_iff_getElem]
    constructor
    · rintro ⟨p, hp, e⟩; exact ⟨p, hp, by rw [bgAt_get hp]; exact e⟩
    · rintro ⟨p, hp, e⟩; exact ⟨p, hp, by rw [← bgAt_get hp]; exact e⟩
  rw [key, key]
  constructor
  · rintro ⟨p, hp, e⟩
    rw [swap_len] at hp
    rw [swap_at h] at e
    split at e
    · exact ⟨j + 1, h, e⟩
    · split at e
      · exact ⟨j, by omega, e⟩
      · exact ⟨p, hp, e⟩
  · rintro ⟨p, hp, e⟩
    by_cases h1 : p = j
    · subst h1; exact ⟨p + 1, by rw [swap_len]; exact h, by rw [swap_at h, if_neg (by omega), if_pos rfl]; exact e⟩
    · by_cases h2 : p = j + 1
      · subst h2; exact ⟨j, by rw [swap_len]; omega, by rw [swap_at h, if_pos rfl]; exact e⟩
      · exact ⟨p, by rw [swap_len]; exact hp, by rw [swap_at h, if_neg h1, if_neg h2]; exact e⟩
theorem at_right {l : List Bg} (h : Rights l) (p : Nat) : rightL (bgAt l p).xs = true := by
  by_cases hp : p < l.length
  · rw [bgAt_get hp]; exact h _ (List.getElem_mem hp)
  · have : bgAt l p = bg0 := by simp [bgAt, List.getD, hp]
    rw [this]; exact right_nil
theorem ins_swap {l : List Bg} {j k : Nat} (_r : Rights l) (hl : k < l.length) (hj : j + 1 ≤ k) (h : Ins l (j + 1) k) (hlt : cmpL (bgAt l (j + 1)).xs (bgAt l j).xs < 0) : Ins (swap l j) j k := by
  intro p q hpq hq hqj
  have hs : j + 1 < l.length := by omega
  rw [swap_at hs, swap_at hs]
  rw [if_neg hqj]
  by_cases h2 : q = j + 1
  · rw [if_pos h2]
    by_cases h1 : p = j
    · rw [if_pos h1]; exact Int.le_of_lt hlt
    · rw [if_neg h1, if_neg (by omega)]; exact h p j (by omega) (by omega) (by omega)
  · rw [if_neg h2]
    by_cases h1 : p = j
    · rw [if_pos h1]; exact h (j + 1) q (by omega) hq (by omega)
    · rw [if_neg h1]
      by_cases h3 : p = j + 1
      · rw [if_pos h3]; exact h j q (by omega) hq (by omega)
      · rw [if_neg h3]; exact h p q hpq hq (by omega)
theorem ins_first {l : List Bg} {k : Nat} (h : Ins l 0 k) : Up l (k + 1) := fun p q hpq hq => h p q hpq (by omega) (by omega)
theorem ins_done {l : List Bg} {j k : Nat} (r : Rights l) (h : Ins l (j + 1) k) (hj : j + 1 ≤ k) (hge : 0 ≤ cmpL (bgAt l (j + 1)).xs (bgAt l j).xs) : Up l (k + 1) := by
  intro p q hpq hq
  by_cases e : q = j + 1
  · have h1 : Le (bgAt l j) (bgAt l (j + 1)) := by
      have := cmp_neg (at_right r (j + 1)) (at_right r j)
      unfold Le; omega
    subst e
    by_cases e2 : p = j
    · subst e2; exact h1
    · exact cmp_trans (at_right r p) (at_right r j) (at_right r (j + 1)) (h p j (by omega) (by omega) (by omega)) h1
  · exact h p q hpq (by omega) e
theorem up_ins {l : List Bg} {k : Nat} (h : Up l k) : Ins l k k := fun p q hpq hq hqk => h p q hpq (by omega)
/-- A row of the same bags in another order. -/
structure Sorts (w : World) (a : Option Addr) (c : Nat) (ps : List Bg) (W : World) (l : List Bg) : Prop where
  bgs : Bgs W a c l
  len : l.length = ps.length
  mem : ∀ x, x ∈ l ↔ x ∈ ps
  kept : Kept (fun g => a = some ⟨g, 0, none⟩) w W
theorem Sorts.refl {w : World} {a : Option Addr} {c : Nat} {ps : List Bg} (h : Bgs w a c ps) : Sorts w a c ps w ps := ⟨h, rfl, fun _ => Iff.rfl, Kept.refl _ _⟩
theorem Sorts.rights {w W : World} {a : Option Addr} {c : Nat} {ps l : List Bg} (h : Sorts w a c ps W l) (r : Rights ps) : Rights l := fun p hp => r p ((h.mem p).1 hp)
theorem Sorts.below {w W W' : World} {a : Option Addr} {c : Nat} {ps l : List Bg} (h : Sorts w a c ps W l) (b : Below W.heap.size W W') : Sorts w a c ps W' l :=
  ⟨h.bgs.below b, h.len, h.mem, h.kept.trans (Y := fun _ => False) (Kept.of_below b) (fun _ _ e => e.elim)⟩
theorem Row.put {w : World} {t : TypeId} {g c : Nat} {xs : List Value} (h : Row w t (some ⟨g, 0, none⟩) c xs) {j : Nat} (hj : j < xs.length) (u : Value) : Row (w.setCell ⟨g, j, none⟩ u) t (some ⟨g, 0, none⟩) c (xs.set j u) := by
  rcases h with ⟨e, _⟩ | ⟨g', sp, e, hc, hm, l⟩
  · cases e
  · injection e with e; injection e with e; subst e
    refine .inr ⟨g, sp, rfl, by rw [List.length_set]; exact hc, hm, (l.set j u).to ?_⟩
    rw [List.set_append_left _ _ hj]
theorem Sorts.swap {w W : World} {g c : Nat} {ps l : List Bg} (h : Sorts w (some ⟨g, 0, none⟩) c ps W l) {j : Nat} (hj : j + 1 < l.length) :
    Sorts w (some ⟨g, 0, none⟩) c ps ((W.setCell ⟨g, j + 1, none⟩ (bgAt l j).val).setCell ⟨g, j, none⟩ (bgAt l (j + 1)).val) (swap l j) := by
  have k1 : Kept (fun x => (some ⟨g, 0, none⟩ : Option Addr) = some ⟨x, 0, none⟩) W ((W.setCell ⟨g, j + 1, none⟩ (bgAt l j).val).setCell ⟨g, j, none⟩ (bgAt l (j + 1)).val) :=
    ((Kept.refl (fun x => (some ⟨g, 0, none⟩ : Option Addr) = some ⟨x, 0, none⟩) W).setCell (p := ⟨g, j + 1, none⟩) (fun _ => rfl) _).setCell (p := ⟨g, j, none⟩) (fun _ => rfl) _
  refine ⟨⟨?_, ?_⟩, by rw [swap_len]; exact h.len, fun x => by rw [swap_mem hj]; exact h.mem x, h.kept.trans k1 (fun _ _ e => e)⟩
  · have r1 := (h.bgs.row.put (j := j + 1) (by rw [vals_len]; exact hj) (bgAt l j).val).put (j := j) (by rw [List.length_set, vals_len]; omega) (bgAt l (j + 1)).val
    have e : vals (Go.Proofs.Ytmbkiefbchjofaa.swap l j) = ((vals l).set (j + 1) (bgAt l j).val).set j (bgAt l (j + 1)).val := by simp [vals, Go.Proofs.Ytmbkiefbchjofaa.swap, List.map_set]
    rw [e]; exact r1
  · intro p hp
    exact h.bgs.keptEach k1 p ((swap_mem hj p).1 hp)
theorem Sorts.at {w W : World} {g c : Nat} {ps l : List Bg} (h : Sorts w (some ⟨g, 0, none⟩) c ps W l) {j : Nat} (hj : j < l.length) : W.cell? ⟨g, j, none⟩ = some (.slice (bgAt l j).a (bgAt l j).xs.length (bgAt l j).c) ∧ Bag W (bgAt l j).a (bgAt l j).c (bgAt l j).xs := by
  obtain ⟨g', e, hc, hb⟩ := h.bgs.at hj
  injection e with e; injection e with e; subst e
  rw [bgAt_get hj]
  exact ⟨hc, hb⟩
end Go.Proofs.Ytmbkiefbchjofaa

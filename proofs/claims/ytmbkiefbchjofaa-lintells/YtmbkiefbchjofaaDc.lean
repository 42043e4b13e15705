/- A linear set under construction: its block, the result's block, its base and its periods in memory. -/
import Derived.Test.YtmbkiefbchjofaaDb
namespace Go.Proofs.Ytmbkiefbchjofaa
open Go.ChangeShapes Go.WideShapes Go.ChangeAt Go.RowKit

/-- What a call that makes a linear set comes to. -/
def MakesLin (x : Lin) (ok : Bool) (w : World) (e : Ending) (w' : World) : Prop :=
  ∃ a c pa pc, e = .returned (.tuple #[.agg #[.slice a x.base.length c, .slice pa x.ps.length pc], .bool ok]) ∧ Bag w' a c x.base ∧ Bags w' pa pc x.ps ∧ Below w.heap.size w w'
/-- The same, told alone. -/
def MakesLin1 (x : Lin) (w : World) (e : Ending) (w' : World) : Prop :=
  ∃ a c pa pc, e = .returned (.agg #[.slice a x.base.length c, .slice pa x.ps.length pc]) ∧ Bag w' a c x.base ∧ Bags w' pa pc x.ps ∧ Below w.heap.size w w'

section
variable {w w' W : World} {a : Option Addr} {c g : Nat} {xs : List Int} {ps : List Bg} {xss : List (List Int)} {cs : List Value}
theorem Bag.far (h : Bag w a c xs) (l : Lies w g 29 cs) (k : Kept (fun i => i = g) w w') : Bag w' a c xs := by
  refine h.kept k fun g' e e2 => ?_
  subst e2
  rcases h with ⟨h, _⟩ | ⟨g1, sp, h, _, _, l1⟩
  · rw [h] at e; cases e
  · rw [h] at e; injection e with e; injection e with e; subst e
    exact l1.other l (by decide) rfl
theorem Bgs.far (h : Bgs w a c ps) (l : Lies w g 29 cs) (k : Kept (fun i => i = g) w w') : Bgs w' a c ps := by
  refine ⟨h.row.kept k fun g' e e2 => ?_, fun p hp => (h.each p hp).far l k⟩
  subst e2
  rcases h.row with ⟨h, _⟩ | ⟨g1, sp, h, _, _, l1⟩
  · rw [h] at e; cases e
  · rw [h] at e; injection e with e; injection e with e; subst e
    exact l1.other l (by decide) rfl
theorem Bags.far (h : Bags w a c xss) (l : Lies w g 29 cs) (k : Kept (fun i => i = g) w w') : Bags w' a c xss := by
  obtain ⟨ps, e, h⟩ := h
  exact ⟨ps, e, h.far l k⟩
end
theorem kept_set (w : World) (g o : Nat) (u : Value) : Kept (fun i => i = g) w (w.setCell ⟨g, o, none⟩ u) := (Kept.refl (fun i => i = g) w).setCell (p := ⟨g, o, none⟩) (fun _ => rfl) u

/-- The linear set in block g6, the result's block g4 still empty. -/
structure OfSt (w : World) (g4 g6 : Nat) (a : Option Addr) (c n : Nat) (nb : List Int) (pa : Option Addr) (pc m : Nat) (acc : List (List Int)) (W : World) : Prop where
  bel : Below w.heap.size w W
  l4 : Lies W g4 29 [.slice none 0 0, .slice none 0 0]
  l6 : Lies W g6 29 [.slice a n c, .slice pa m pc]
  base : Bag W a c nb
  ps : Bags W pa pc acc
  len : nb.length = n
  num : acc.length = m
  h4 : w.heap.size ≤ g4
  h6 : w.heap.size ≤ g6
  ne : g4 ≠ g6
section
variable {w W W' : World} {g4 g6 : Nat} {a pa pa' : Option Addr} {c n pc m pc' m' : Nat} {nb : List Int} {acc acc' : List (List Int)}
theorem OfSt.below (h : OfSt w g4 g6 a c n nb pa pc m acc W) (k : Below W.heap.size W W') : OfSt w g4 g6 a c n nb pa pc m acc W' :=
  ⟨h.bel.trans (k.mono h.bel.size), h.l4.below k h.l4.lt, h.l6.below k h.l6.lt, h.base.below k, h.ps.below k, h.len, h.num, h.h4, h.h6, h.ne⟩
/-- New periods are laid into it. -/
theorem OfSt.store (h : OfSt w g4 g6 a c n nb pa pc m acc W) (p : Bags W pa' pc' acc') (e : acc'.length = m') : OfSt w g4 g6 a c n nb pa' pc' m' acc' (W.setCell ⟨g6, 1, none⟩ (.slice pa' m' pc')) := by
  have k := kept_set W g6 1 (.slice pa' m' pc')
  exact ⟨h.bel.setCell h.h6 _, h.l4.far (p := ⟨g6, 1, none⟩) h.ne _, (h.l6.set 1 _).to rfl, h.base.far h.l6 k, p.far h.l6 k, h.len, e, h.h4, h.h6, h.ne⟩
theorem OfSt.c0 (h : OfSt w g4 g6 a c n nb pa pc m acc W) : W.cell? ⟨g6, 0, none⟩ = some (.slice a n c) := h.l6.cell 0
theorem OfSt.c1 (h : OfSt w g4 g6 a c n nb pa pc m acc W) : W.cell? ⟨g6, 1, none⟩ = some (.slice pa m pc) := h.l6.cell 1
theorem OfSt.d0 (h : OfSt w g4 g6 a c n nb pa pc m acc W) : W.cell? ⟨g4, 0, none⟩ = some (.slice none 0 0) := h.l4.cell 0
theorem OfSt.d1 (h : OfSt w g4 g6 a c n nb pa pc m acc W) : W.cell? ⟨g4, 1, none⟩ = some (.slice none 0 0) := h.l4.cell 1
theorem OfSt.z4 (h : OfSt w g4 g6 a c n nb pa pc m acc W) (j : Nat) : W.frozen? ⟨g4, j, none⟩ = false := h.l4.frozen j
theorem OfSt.z6 (h : OfSt w g4 g6 a c n nb pa pc m acc W) (j : Nat) : W.frozen? ⟨g6, j, none⟩ = false := h.l6.frozen j
/-- It is told: the result's block has it. -/
theorem OfSt.full (h : OfSt w g4 g6 a c n nb pa pc m acc W) :
    ((W.setCell ⟨g4, 0, none⟩ (.slice a n c)).setCell ⟨g4, 1, none⟩ (.slice pa m pc)).cell? ⟨g4, 0, none⟩ = some (.slice a n c) ∧
    ((W.setCell ⟨g4, 0, none⟩ (.slice a n c)).setCell ⟨g4, 1, none⟩ (.slice pa m pc)).cell? ⟨g4, 1, none⟩ = some (.slice pa m pc) ∧
    Bag ((W.setCell ⟨g4, 0, none⟩ (.slice a n c)).setCell ⟨g4, 1, none⟩ (.slice pa m pc)) a c nb ∧
    Bags ((W.setCell ⟨g4, 0, none⟩ (.slice a n c)).setCell ⟨g4, 1, none⟩ (.slice pa m pc)) pa pc acc ∧
    Below w.heap.size w ((W.setCell ⟨g4, 0, none⟩ (.slice a n c)).setCell ⟨g4, 1, none⟩ (.slice pa m pc)) := by
  have l1 : Lies (W.setCell ⟨g4, 0, none⟩ (.slice a n c)) g4 29 [.slice a n c, .slice none 0 0] := h.l4.set 0 _
  have l2 : Lies ((W.setCell ⟨g4, 0, none⟩ (.slice a n c)).setCell ⟨g4, 1, none⟩ (.slice pa m pc)) g4 29 [.slice a n c, .slice pa m pc] := l1.set 1 _
  have k1 := kept_set W g4 0 (.slice a n c)
  have k2 := kept_set (W.setCell ⟨g4, 0, none⟩ (.slice a n c)) g4 1 (.slice pa m pc)
  exact ⟨l2.cell 0, l2.cell 1, (h.base.far h.l4 k1).far l1 k2, (h.ps.far h.l4 k1).far l1 k2, (h.bel.setCell h.h4 _).setCell h.h4 _⟩
theorem OfSt.none4 (h : OfSt w g4 g6 a c n nb pa pc m acc W) :
    ((W.setCell ⟨g4, 0, none⟩ (.slice none 0 0)).setCell ⟨g4, 1, none⟩ (.slice none 0 0)).cell? ⟨g4, 0, none⟩ = some (.slice none 0 0) ∧
    ((W.setCell ⟨g4, 0, none⟩ (.slice none 0 0)).setCell ⟨g4, 1, none⟩ (.slice none 0 0)).cell? ⟨g4, 1, none⟩ = some (.slice none 0 0) ∧
    Below w.heap.size w ((W.setCell ⟨g4, 0, none⟩ (.slice none 0 0)).setCell ⟨g4, 1, none⟩ (.slice none 0 0)) := by
  have l1 : Lies (W.setCell ⟨g4, 0, none⟩ (.slice none 0 0)) g4 29 [.slice none 0 0, .slice none 0 0] := h.l4.set 0 _
  have l2 : Lies ((W.setCell ⟨g4, 0, none⟩ (.slice none 0 0)).setCell ⟨g4, 1, none⟩ (.slice none 0 0)) g4 29 [.slice none 0 0, .slice none 0 0] := l1.set 1 _
  exact ⟨l2.cell 0, l2.cell 1, (h.bel.setCell h.h4 _).setCell h.h4 _⟩
end
theorem makesLin_none {x : Lin} {ok : Bool} {w w' : World} (hx : x = ⟨[], []⟩) (ho : ok = false) (b : Below w.heap.size w w') : MakesLin x ok w (.returned (.tuple #[.agg #[.slice none 0 0, .slice none 0 0], .bool false])) w' := by
  subst hx; subst ho
  exact ⟨none, 0, none, 0, rfl, Bag.nil _, Bags.nil _, b⟩
theorem makesLin_of {x : Lin} {ok : Bool} {w w' : World} {a pa : Option Addr} {c n pc m : Nat} {nb : List Int} {acc : List (List Int)} (hx : x = ⟨nb, acc⟩) (ho : ok = true) (hn : nb.length = n) (hm : acc.length = m) (B : Bag w' a c nb) (P : Bags w' pa pc acc) (b : Below w.heap.size w w') :
    MakesLin x ok w (.returned (.tuple #[.agg #[.slice a n c, .slice pa m pc], .bool true])) w' := by
  subst hx; subst ho; subst hn; subst hm
  exact ⟨a, c, pa, pc, rfl, B, P, b⟩

theorem ofNorm_snoc (l : List (List Int)) (p : List Int) : ofNorm (l ++ [p]) = ofNorm l ++ (if normL p = [] then [] else [normL p]) := by
  unfold ofNorm
  rw [List.map_append, List.filter_append]
  by_cases h : normL p = [] <;> simp [h]
theorem putAll_snoc (l ps : List (List Int)) (b : List Int) : putAll l (ps ++ [b]) = putL b (putAll l ps) := by
  unfold putAll; rw [List.foldl_append]; rfl
theorem take_snocB {l : List (List Int)} {k : Nat} (hk : k < l.length) : l.take (k + 1) = l.take k ++ [l.getD k []] := by
  rw [List.take_succ_eq_append_getElem hk]; simp [List.getD, hk]
theorem ofNorm_len (l : List (List Int)) : (ofNorm l).length ≤ l.length := by
  unfold ofNorm
  have := List.length_filter_le (fun p : List Int => decide (p ≠ [])) (l.map normL)
  rwa [List.length_map] at this
theorem norm_short (l : List Int) : (normL l).length ≤ 12 := (right_iff.1 (norm_right l)).1
/-- Lost: none. -/
theorem of_lost0 {b : List Int} {ps : List (List Int)} (h : lostL b = true) : ofOk b ps = false ∧ ofLin b ps = ⟨[], []⟩ := by
  have e : ofOk b ps = false := by simp [ofOk, h]
  exact ⟨e, by unfold ofLin; rw [e]; rfl⟩
theorem of_lost1 {b : List Int} {ps : List (List Int)} {k : Nat} (hk : k < ps.length) (h : lostL (ps.getD k []) = true) : ofOk b ps = false ∧ ofLin b ps = ⟨[], []⟩ := by
  have e : ofOk b ps = false := by
    have hm : ps.getD k [] ∈ ps := by simp [List.getD, hk]
    simp only [ofOk, Bool.and_eq_false_iff]
    right
    rw [← Bool.not_eq_true, List.all_eq_true]
    intro h2
    have := h2 _ hm
    rw [h] at this
    cases this
  exact ⟨e, by unfold ofLin; rw [e]; rfl⟩
theorem of_found {b : List Int} {ps : List (List Int)} (h : lostL b = false) (hp : ∀ j, j < ps.length → lostL (ps.getD j []) = false) : ofOk b ps = true ∧ ofLin b ps = ⟨normL b, putAll [] (ofNorm ps)⟩ := by
  have e : ofOk b ps = true := by
    simp only [ofOk, h, Bool.not_false, Bool.true_and, List.all_eq_true]
    intro p hp'
    obtain ⟨j, hj, rfl⟩ := List.getElem_of_mem hp'
    have := hp j hj
    simp [List.getD, hj] at this
    rw [this]; rfl
  exact ⟨e, by unfold ofLin; rw [if_pos e]⟩
end Go.Proofs.Ytmbkiefbchjofaa

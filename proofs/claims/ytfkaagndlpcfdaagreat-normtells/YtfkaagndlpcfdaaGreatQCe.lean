/- Contract of the reference's CheckPat: it says of every list of nodes what Check says; the condition: the nodes lie there. -/
import Derived.Test.YtfkaagndlpcfdaaGreatQO
import Derived.Deep.OwnRows
namespace Go.Proofs.YtfkaagndlpcfdaaGreat.Q
open Go.ChangeShapes Go.WideShapes Go.ChangeAt Go.RowKit

theorem kept_below {X : Nat → Prop} {w x y : World} (b : Below w.heap.size w x) (k : Kept X x y) (hX : ∀ g, X g → w.heap.size ≤ g) : Below w.heap.size w y := b.trans (k.below hX b.size)

def bools (l : List Bool) : List Value := l.map Value.bool
theorem bools_get {l : List Bool} {k : Nat} (h : k < l.length) : (bools l)[k]? = some (.bool l[k]) := by simp [bools, h]
theorem bools_set (l : List Bool) (k : Nat) (b : Bool) : (bools l).set k (.bool b) = bools (l.set k b) := by simp [bools, List.map_set]
theorem Tryz.info4 : (Tryz.prog.info? 4).map (fun i => (i.zero, i.size, i.bytes)) = some (some (.bool false), 1, 1) := by kernel_rfl
/-- What the reference knows of the parts: where they end, and of each place whether there is a star. -/
structure RefSt (w wr : World) (ns : List Nd) (tags : Int) (i : Nat) (fl : List Pr) (a : Option Addr) (c : Nat) (gs : Nat) (sl : List Bool) : Prop where
  ins : Ins wr a c (fl.map (·.1))
  own : ∀ g, a = some ⟨g, 0, none⟩ → w.heap.size ≤ g
  stars : Lies wr gs 4 (bools sl)
  sown : w.heap.size ≤ gs
  bel : Below w.heap.size w wr
  eq : chkL tags i (ns.drop i) fl = chkL tags 0 ns []
  len : fl.length ≤ i
  sln : sl.length = ns.length
  tie : ∀ e ∈ fl, ∃ j : Nat, e.1 = (j : Int) ∧ j < i ∧ sl.getD j false = e.2
  rest : ∀ j, i ≤ j → sl.getD j false = false
theorem getD_set_same (l : List Bool) (k : Nat) (b : Bool) (h : k < l.length) : (l.set k b).getD k false = b := by simp [List.getD_eq_getElem?_getD, h]
theorem getD_set_other (l : List Bool) (k j : Nat) (b : Bool) (h : ¬ j = k) : (l.set k b).getD j false = l.getD j false := by
  simp only [List.getD_eq_getElem?_getD]
  rw [List.getElem?_set_ne (Ne.symm h)]
theorem stars_cell {w : World} {gs : Nat} {sl : List Bool} (h : Lies w gs 4 (bools sl)) {j : Nat} (hj : j < sl.length) : w.cell? ⟨gs, j, none⟩ = some (.bool (sl.getD j false)) := by
  rw [h.cell, bools_get hj, List.getD_eq_getElem?_getD, List.getElem?_eq_getElem hj]; rfl
theorem ins_other {w : World} {gs : Nat} {sl : List Bool} {a : Option Addr} {c : Nat} {xs : List Int} (h : Lies w gs 4 (bools sl)) (i : Ins w a c xs) : ¬ a = some ⟨gs, 0, none⟩ := by
  rintro rfl
  rcases i with ⟨e, _⟩ | ⟨g', sp, e, _, _, _, l⟩
  · cases e
  · injection e with e; injection e with e; subst e
    exact Lies.other h l (by decide) rfl

theorem Lies.newAt (w : World) (t : TypeId) (cs : List Value) {g : Nat} (h : g = w.heap.size) : Lies (w.alloc (.cells cs.toArray t)) g t cs := by subst h; exact Lies.new w t cs
theorem RefSt.next {w wr W w5 : World} {o : Obj} {ns : List Nd} {tags : Int} {k : Nat} {fl : List Pr} {fa a' : Option Addr} {fc c' gs m : Nat} {sl sl' : List Bool} {sb : Bool} (h : RefSt w wr ns tags k fl fa fc gs sl)
    (hW : Below w.heap.size w W) (S : Lies W gs 4 (bools sl')) (T : Ins w5 a' c' ((fl.map (·.1)).take m ++ [(k : Int)])) (K : Kept (fun g => fa = some ⟨g, 0, none⟩) (W.alloc o) w5)
    (O : ∀ g, a' = some ⟨g, 0, none⟩ → fa = some ⟨g, 0, none⟩ ∨ (W.alloc o).heap.size ≤ g) (hx : ¬ fa = some ⟨gs, 0, none⟩) (hm : m ≤ fl.length)
    (eq : chkL tags 0 ns [] = chkL tags (k + 1) (ns.drop (k + 1)) (fl.take m ++ [((k : Int), sb)])) (s1 : sl'.getD k false = sb) (s2 : ∀ j, ¬ j = k → sl'.getD j false = sl.getD j false) (s3 : sl'.length = sl.length) :
    RefSt w w5 ns tags (k + 1) (fl.take m ++ [((k : Int), sb)]) a' c' gs sl' := by
  refine ⟨?_, fun g e => ?_, lies_app K S hx, h.sown, kept_below (hW.alloc hW.size _) K h.own, eq.symm, ?_, by rw [s3, h.sln], ?_, fun j hj => by rw [s2 j (by omega)]; exact h.rest j (by omega)⟩
  · rw [List.map_append, List.map_take]; exact T
  · rcases O g e with h' | h'
    · exact h.own g h'
    · have := hW.size
      simp at h'
      omega
  · rw [List.length_append, List.length_take]; have := h.len; simp only [List.length_cons, List.length_nil]; omega
  · intro e he
    rw [List.mem_append] at he
    rcases he with he | he
    · obtain ⟨j, e1, e2, e3⟩ := h.tie e (List.mem_of_mem_take he)
      exact ⟨j, e1, by omega, by rw [s2 j (by omega)]; exact e3⟩
    · simp only [List.mem_singleton] at he
      subst he
      exact ⟨k, rfl, by omega, s1⟩
theorem chk_no {ns : List Nd} {tags : Int} {k : Nat} {fl : List Pr} {y : Nd} {o : Option (List Pr)} (hq : o = match chkStep tags k y fl with | none => none | some fl' => chkL tags (k + 1) (ns.drop (k + 1)) fl') (h : chkStep tags k y fl = none) : o = none := by rw [hq, h]
theorem chk_go {ns : List Nd} {tags : Int} {k : Nat} {fl fl' : List Pr} {y : Nd} {o : Option (List Pr)} (hq : o = match chkStep tags k y fl with | none => none | some fl' => chkL tags (k + 1) (ns.drop (k + 1)) fl') (h : chkStep tags k y fl = some fl') : o = chkL tags (k + 1) (ns.drop (k + 1)) fl' := by rw [hq, h]
theorem step_leaf {tags : Int} {k : Nat} {y : Nd} (fl : List Pr) (hp : partsK y.kind = 0) (h6 : ¬ y.kind = 6) : (rightB y tags [] = true → chkStep tags k y fl = some (fl.take fl.length ++ [((k : Int), false)])) ∧ (rightB y tags [] = false → chkStep tags k y fl = none) := by
  unfold chkStep
  rw [hp, if_neg (by omega), Nat.sub_zero, List.drop_length]
  exact ⟨fun h => by rw [if_pos h]; simp [h6], fun h => by rw [if_neg (by simp [h])]⟩
theorem step_short {tags : Int} {k : Nat} {y : Nd} {fl : List Pr} (h : fl.length < partsK y.kind) : chkStep tags k y fl = none := by unfold chkStep; rw [if_pos h]
theorem step_two {tags : Int} {k : Nat} {y : Nd} (F : List Pr) (p q : Pr) (hk : y.kind = 4 ∨ y.kind = 5) : chkStep tags k y (F ++ [p, q]) = if y.a = p.1 ∧ y.b = q.1 ∧ y.n = 0 then some ((F ++ [p, q]).take F.length ++ [((k : Int), p.2 || q.2)]) else none := by
  have hp : partsK y.kind = 2 := by unfold partsK; rw [if_pos hk]
  have h6 : ¬ y.kind = 6 := by omega
  unfold chkStep
  have hl : (F ++ [p, q]).length - 2 = F.length := by simp
  have hd : (F ++ [p, q]).drop F.length = [p, q] := by simp
  rw [hp, if_neg (by simp), hl, hd]
  have hr : rightB y tags [p, q] = decide (y.a = p.1 ∧ y.b = q.1 ∧ y.n = 0) := by
    unfold rightB
    rw [if_neg (by omega), if_neg (by omega)]
    simp only [decide_eq_true hk, Bool.true_and]
    by_cases h1 : y.a = p.1 <;> by_cases h2 : y.b = q.1 <;> by_cases h3 : y.n = 0 <;> simp [h1, h2, h3]
  rw [hr]
  by_cases h : y.a = p.1 ∧ y.b = q.1 ∧ y.n = 0
  · rw [if_pos (decide_eq_true h), if_pos h]; simp [h6]
  · rw [if_neg (by simpa using h), if_neg h]
theorem step_star {tags : Int} {k : Nat} {y : Nd} (F : List Pr) (p : Pr) (hk : y.kind = 6) : chkStep tags k y (F ++ [p]) = if p.2 = false ∧ y.a = p.1 ∧ y.b = 0 ∧ y.n = 0 then some ((F ++ [p]).take F.length ++ [((k : Int), true)]) else none := by
  have hp : partsK y.kind = 1 := by unfold partsK; rw [if_neg (by omega), if_pos hk]
  unfold chkStep
  have hl : (F ++ [p]).length - 1 = F.length := by simp
  have hd : (F ++ [p]).drop F.length = [p] := by simp
  rw [hp, if_neg (by simp), hl, hd]
  have hr : rightB y tags [p] = decide (p.2 = false ∧ y.a = p.1 ∧ y.b = 0 ∧ y.n = 0) := by
    unfold rightB
    rw [if_neg (by omega), if_neg (by omega)]
    simp only [decide_eq_true hk, Bool.true_and]
    cases h0 : p.2 <;> by_cases h1 : y.a = p.1 <;> by_cases h2 : y.b = 0 <;> by_cases h3 : y.n = 0 <;> simp [h1, h2, h3]
  rw [hr]
  by_cases h : p.2 = false ∧ y.a = p.1 ∧ y.b = 0 ∧ y.n = 0
  · rw [if_pos (decide_eq_true h), if_pos h]; simp [hk]
  · rw [if_neg (by simpa using h), if_neg h]
theorem last_two {fl : List Pr} (h : 2 ≤ fl.length) : ∃ F p q, fl = F ++ [p, q] := by
  refine ⟨fl.take (fl.length - 2), fl[fl.length - 2], fl[fl.length - 1], ?_⟩
  conv => lhs; rw [← List.take_append_drop (fl.length - 2) fl]
  congr 1
  rw [List.drop_eq_getElem_cons (by omega)]
  congr 1
  have e : fl.length - 2 + 1 = fl.length - 1 := by omega
  rw [List.drop_eq_getElem_cons (i := fl.length - 2 + 1) (by omega)]
  congr 1
  · simp only [e]
  · exact List.drop_eq_nil_of_le (by omega)
theorem last_one {fl : List Pr} (h : 1 ≤ fl.length) : ∃ F p, fl = F ++ [p] := by
  refine ⟨fl.take (fl.length - 1), fl[fl.length - 1], ?_⟩
  conv => lhs; rw [← List.take_append_drop (fl.length - 1) fl]
  congr 1
  rw [List.drop_eq_getElem_cons (by omega)]
  congr 1
  exact List.drop_eq_nil_of_le (by omega)
end Go.Proofs.YtfkaagndlpcfdaaGreat.Q

/- Rows of the parts of a pattern (two cells each) in memory, and append to them; the condition: what is read lies there. -/
import Derived.Test.YtkdejinhjdkkmaaDoorO
import Derived.Test.YtkdejinhjdkkmaaDoorN3
namespace Go.Proofs.YtkdejinhjdkkmaaDoor
open Go.ChangeShapes Go.WideShapes Go.ChangeAt Go.RowKit

abbrev Pr := Int × Bool
def prCells (t : Pr) : List Value := [.int .i64 t.1, .bool t.2]
def flatP (ts : List Pr) : List Value := ts.flatMap prCells
theorem flatP_cons (t : Pr) (ts : List Pr) : flatP (t :: ts) = prCells t ++ flatP ts := rfl
theorem flatP_len (ts : List Pr) : (flatP ts).length = ts.length * 2 := by
  induction ts with
  | nil => rfl
  | cons p kv ih => rw [flatP_cons, List.length_append, ih]; simp [prCells]; omega
theorem flatP_append (a b : List Pr) : flatP (a ++ b) = flatP a ++ flatP b := by unfold flatP; rw [List.flatMap_append]
theorem flatP_one (ts : List Pr) : ∀ x ∈ flatP ts, x.oneCell' = true := fun x hx => by
  unfold flatP at hx
  obtain ⟨p, _, hx⟩ := List.mem_flatMap.1 hx
  simp [prCells] at hx
  rcases hx with rfl | rfl <;> rfl
theorem flatP_get (ts : List Pr) (j : Nat) (hj : j < ts.length) (i : Nat) (hi : i < 2) : (flatP ts)[j * 2 + i]? = (prCells ts[j])[i]? := by
  induction ts generalizing j with
  | nil => simp at hj
  | cons t ts ih =>
    rw [flatP_cons]
    cases j with
    | zero => rw [List.getElem?_append_left (by simp [prCells]; omega)]; simp
    | succ j =>
      rw [List.getElem?_append_right (by simp [prCells]; omega)]
      have e : (j + 1) * 2 + i - (prCells t).length = j * 2 + i := by simp [prCells]; omega
      rw [e, ih j (by simpa using hj)]
      rfl

/-- The slice of address a and capacity c is nil, or stands at the head of a block of its own: the tokens ts, and spare room. -/
def Prs (w : World) (a : Option Addr) (c : Nat) (ts : List Pr) : Prop :=
  (a = none ∧ c = 0 ∧ ts = []) ∨ ∃ g sp, a = some ⟨g, 0, none⟩ ∧ sp.length = (c - ts.length) * 2 ∧ ts.length ≤ c ∧ c ≤ 9223372036854775807 ∧ Lies w g 77 (flatP ts ++ sp)

section
variable {w w' : World} {a : Option Addr} {c : Nat} {ts : List Pr}
theorem Prs.nil (w : World) : Prs w none 0 [] := .inl ⟨rfl, rfl, rfl⟩
theorem Prs.kept {X : Nat → Prop} (h : Prs w a c ts) (k : Kept X w w') (hx : ∀ g, a = some ⟨g, 0, none⟩ → ¬ X g) : Prs w' a c ts := by
  rcases h with h | ⟨g, sp, rfl, h1, h2, h3, l⟩
  · exact .inl h
  · exact .inr ⟨g, sp, rfl, h1, h2, h3, l.kept k (hx g rfl)⟩
theorem Prs.below (h : Prs w a c ts) (k : Below w.heap.size w w') : Prs w' a c ts := h.kept (X := fun _ => False) (Kept.of_below k) (fun _ _ h => h)
theorem Prs.lt (h : Prs w a c ts) {g : Nat} (e : a = some ⟨g, 0, none⟩) : g < w.heap.size := by
  subst e
  rcases h with ⟨h, _⟩ | ⟨g', sp, h, _, _, _, l⟩
  · cases h
  · injection h with h; injection h with h; subst h; exact l.lt
theorem Prs.le (h : Prs w a c ts) : ts.length ≤ c ∧ c ≤ 9223372036854775807 := by
  rcases h with ⟨_, rfl, rfl⟩ | ⟨g', sp, _, _, h1, h2, _⟩
  · simp
  · omega
theorem Prs.form (h : Prs w a c ts) : a = none ∨ ∃ g, a = some ⟨g, 0, none⟩ := by
  rcases h with ⟨e, _⟩ | ⟨g, _, e, _⟩
  · exact .inl e
  · exact .inr ⟨g, e⟩
/-- Where a token of a row lies. -/
structure PrAt (w : World) (g o : Nat) (t : Pr) : Prop where
  c0 : w.cell? ⟨g, o, none⟩ = some (.int .i64 t.1)
  c1 : w.cell? ⟨g, o + 1, none⟩ = some (.bool t.2)
theorem Prs.there (h : Prs w a c ts) {j : Nat} (hj : j < ts.length) : ∃ g, a = some ⟨g, 0, none⟩ ∧ PrAt w g (j * 2) ts[j] := by
  rcases h with ⟨_, _, rfl⟩ | ⟨g, sp, rfl, _, _, _, l⟩
  · simp at hj
  · have hl := flatP_len ts
    have hg : ∀ i, i < 2 → w.cell? ⟨g, j * 2 + i, none⟩ = (prCells ts[j])[i]? := fun i hi => by
      rw [l.cell, List.getElem?_append_left (by omega), flatP_get ts j hj i hi]
    exact ⟨g, rfl, ⟨hg 0 (by omega), hg 1 (by omega)⟩⟩
theorem Prs.own (h : Prs w a c ts) : w.ownsRow 0 77 2 (.slice a ts.length c) ts.length (flatP ts) := by
  refine ⟨flatP_len ts, ?_⟩
  rcases h with ⟨rfl, rfl, rfl⟩ | ⟨g, sp, rfl, h1, h2, h3, l⟩
  · exact .inl ⟨rfl, rfl⟩
  · refine .inr ⟨g, c, _, rfl, Nat.zero_le _, l, h2, by unfold maxLen; omega, ?_, ?_⟩
    · simp [flatP_len, h1]; omega
    · rw [← flatP_len ts]; simp
theorem own_prs {v : Value} {n : Nat} (hn : n = ts.length) (h : w.ownsRow 0 77 2 v n (flatP ts)) : ∃ a c, v = .slice a n c ∧ Prs w a c ts := by
  subst hn
  rcases h.2 with ⟨rfl, e⟩ | ⟨g, cap, cur, rfl, _, hh, hn, hm, hs, ht⟩
  · obtain rfl : ts = [] := List.eq_nil_of_length_eq_zero e
    exact ⟨none, 0, rfl, Prs.nil w⟩
  · unfold maxLen at hm
    refine ⟨_, _, rfl, .inr ⟨g, cur.toList.drop (ts.length * 2), rfl, ?_, hn, by omega, (lies_arr hh).to ?_⟩⟩
    · rw [List.length_drop, Array.length_toList, hs]; omega
    · rw [← ht, List.take_append_drop]
end

theorem Tryd.info77 : (Tryd.prog.info? 77).map (fun i => (i.zero, i.size, i.bytes)) = some (some (.agg #[.int .i64 0, .bool false]), 2, 16) := by kernel_rfl

/-- append of one token, which lies in a block of its own, to a row of tokens. -/
theorem appP (ty : TypeId) (a : Option Addr) (c : Nat) (ts : List Pr) (g : Nat) (t : Pr) (w : World) (R : Prs w a c ts) (hg : Lies w g 77 (prCells t)) (hb : ts.length ≤ 1000000) {n : Nat} (hn : n = ts.length) :
    ∃ a' c' w', (Builtin.append_ #[72, 72] ty #[.slice a n c, .slice (some ⟨g, 0, none⟩) 1 1]).run Tryd.prog w = .ok (.slice a' (n + 1) c') w' ∧ Prs w' a' c' (ts ++ [t]) ∧ Kept (fun g => a = some ⟨g, 0, none⟩) w w' ∧
      ∀ g, a' = some ⟨g, 0, none⟩ → a = some ⟨g, 0, none⟩ ∨ w.heap.size ≤ g := by
  subst hn
  obtain ⟨i, hi, hz, hsz, hby⟩ := info_parts Tryd.info77
  have hform := R.form
  obtain ⟨v', w', hr, h2, h3, _, h5⟩ := run_append_own_at (P := Tryd.prog) w 0 72 ty 77 i _ 2 16 Tryd.underlying72 hi hz hsz hby (by simp [Value.cells]) (by omega) _ ts.length (flatP ts) R.own
    ⟨g, 0, none⟩ 1 1 (flatP [t]) (flatP_len [t]) (fun j u hj => by
      rw [Addr.add_lit, Nat.zero_add, hg.cell]
      rw [← hj]
      simp [flatP]) (flatP_one [t]) (by unfold maxLen; omega) (by omega) (Nat.zero_le _)
  rw [← flatP_append] at h2
  obtain ⟨a', c', rfl, r'⟩ := own_prs (by simp) h2
  refine ⟨a', c', w', hr, r', ?_, fun g e => ?_⟩
  · refine ⟨h3.os, h3.tape, h3.output, h3.size, fun g hg hx => h3.block g hg (fun e => ?_)⟩
    obtain ⟨x, rfl, hx'⟩ := (ownBlock_slice a _ _ g).1 e.symm
    rcases hform with h | ⟨g', h⟩
    · cases h
    · injection h with h; subst h; subst hx'; exact hx rfl
  · subst e
    rcases h5 with h5 | h5
    · obtain ⟨x, rfl, hx⟩ := (ownBlock_slice a ts.length c g).1 (by rw [← h5]; rfl)
      rcases hform with h | ⟨g', h⟩
      · cases h
      · injection h with h; subst h; subst hx; exact .inl rfl
    · have : g = w.heap.size := by simpa [Value.ownBlock] using h5
      exact .inr (by omega)

theorem Prs.alloc {w : World} {a : Option Addr} {c : Nat} {ts : List Pr} (h : Prs w a c ts) (o : Obj) : Prs (w.alloc o) a c ts := h.kept (X := fun _ => False) ((Kept.refl _ w).alloc o) (fun _ _ h => h)
theorem step_appP (w : World) {ops : Array Oper} {o : Oper} {x : Act} {K : Act → World → Prop} {Q : Exit → Act → World → Prop} {E : Prop} (hgd : o.guard = none) (s y : Operand)
    (ho : o.op = .call { callee := .builtin .append, args := #[s, y], argTypes := #[72, 72] }) (a : Option Addr) (c n : Nat) (g : Nat) (hs : x.eval s = .slice a n c) (hx : x.eval y = .slice (some ⟨g, 0, none⟩) 1 1)
    (ts : List Pr) (t : Pr) (R : Prs w a c ts) (hg : Lies w g 77 (prCells t)) (hb : ts.length ≤ 1000000) (hn : n = ts.length)
    (h : ∀ a' c' w', Prs w' a' c' (ts ++ [t]) → Kept (fun g => a = some ⟨g, 0, none⟩) w w' → (∀ g, a' = some ⟨g, 0, none⟩ → a = some ⟨g, 0, none⟩ ∨ w.heap.size ≤ g) → K (x.put o.dst (.slice a' (n + 1) c')) w') :
    if Region.wanted o (yielded ops x.tmps) = true then Oper.wp Tryd.prog o x w K Q else E := by
  obtain ⟨a', c', w', hr, h1, h2, h3⟩ := appP o.type a c ts g t w R hg hb hn
  exact step_append_run w hgd s y 72 72 ho _ _ hs hx _ _ hr (h a' c' w' h1 h2 h3)
theorem wpList_appP (w : World) {ops : Array Oper} {rest : List Oper} {o : Oper} {x : Act} {Q : Exit → Act → World → Prop} (hgd : o.guard = none) (s y : Operand)
    (ho : o.op = .call { callee := .builtin .append, args := #[s, y], argTypes := #[72, 72] }) (a : Option Addr) (c n : Nat) (g : Nat) (hs : x.eval s = .slice a n c) (hx : x.eval y = .slice (some ⟨g, 0, none⟩) 1 1)
    (ts : List Pr) (t : Pr) (R : Prs w a c ts) (hg : Lies w g 77 (prCells t)) (hb : ts.length ≤ 1000000) (hn : n = ts.length)
    (h : ∀ a' c' w', Prs w' a' c' (ts ++ [t]) → Kept (fun g => a = some ⟨g, 0, none⟩) w w' → (∀ g, a' = some ⟨g, 0, none⟩ → a = some ⟨g, 0, none⟩ ∨ w.heap.size ≤ g) → wpList Tryd.prog ops Q rest (x.put o.dst (.slice a' (n + 1) c')) w') :
    wpList Tryd.prog ops Q (o :: rest) x w := by
  obtain ⟨a', c', w', hr, h1, h2, h3⟩ := appP o.type a c ts g t w R hg hb hn
  exact Lib.wpList_append_run w hgd s y 72 72 ho _ _ hs hx _ _ hr (h a' c' w' h1 h2 h3)

theorem Prs.cut {w : World} {a : Option Addr} {c : Nat} {ts : List Pr} (h : Prs w a c ts) {k : Nat} (hk : k ≤ ts.length) : Prs w a c (ts.take k) := by
  rcases h with ⟨e1, e2, rfl⟩ | ⟨g, sp, e, h1, h2, h3, l⟩
  · exact .inl ⟨e1, e2, by simp⟩
  · refine .inr ⟨g, flatP (ts.drop k) ++ sp, e, ?_, ?_, h3, l.to ?_⟩
    · rw [List.length_append, flatP_len, List.length_take, List.length_drop, h1, Nat.min_eq_left hk]; omega
    · rw [List.length_take]; omega
    · rw [← List.append_assoc, ← flatP_append, List.take_append_drop]
end Go.Proofs.YtkdejinhjdkkmaaDoor

/- Rows of bools (one cell each) in memory, and append to them; the condition: what is read lies there. -/
import Derived.Test.YtmapohpabepmfaaGreatQCe
namespace Go.Proofs.YtmapohpabepmfaaGreat.Q
open Go.ChangeShapes Go.WideShapes Go.ChangeAt Go.RowKit

def blCells (t : Bool) : List Value := [.bool t]
def flatB (ts : List Bool) : List Value := ts.flatMap blCells
theorem flatB_cons (t : Bool) (ts : List Bool) : flatB (t :: ts) = blCells t ++ flatB ts := rfl
theorem flatB_len (ts : List Bool) : (flatB ts).length = ts.length * 1 := by
  induction ts with
  | nil => rfl
  | cons p kv ih => rw [flatB_cons, List.length_append, ih]; simp [blCells]; omega
theorem flatB_append (a b : List Bool) : flatB (a ++ b) = flatB a ++ flatB b := by unfold flatB; rw [List.flatMap_append]
theorem flatB_one (ts : List Bool) : ∀ x ∈ flatB ts, x.oneCell' = true := fun x hx => by
  unfold flatB at hx
  obtain ⟨p, _, hx⟩ := List.mem_flatMap.1 hx
  simp [blCells] at hx
  rw [hx]; rfl
theorem flatB_get (ts : List Bool) (j : Nat) (hj : j < ts.length) (i : Nat) (hi : i < 1) : (flatB ts)[j * 1 + i]? = (blCells ts[j])[i]? := by
  induction ts generalizing j with
  | nil => simp at hj
  | cons t ts ih =>
    rw [flatB_cons]
    cases j with
    | zero => rw [List.getElem?_append_left (by simp [blCells] <;> omega)]; simp
    | succ j =>
      rw [List.getElem?_append_right (by simp [blCells] <;> omega)]
      have e : (j + 1) * 1 + i - (blCells t).length = j * 1 + i := by simp [blCells]
      rw [e, ih j (by simpa using hj)]
      rfl

/-- The slice of address a and capacity c is nil, or stands at the head of a block of its own: the tokens ts, and spare room. -/
def Bls (w : World) (a : Option Addr) (c : Nat) (ts : List Bool) : Prop :=
  (a = none ∧ c = 0 ∧ ts = []) ∨ ∃ g sp, a = some ⟨g, 0, none⟩ ∧ sp.length = (c - ts.length) * 1 ∧ ts.length ≤ c ∧ c ≤ 9223372036854775807 ∧ Lies w g 4 (flatB ts ++ sp)

section
variable {w w' : World} {a : Option Addr} {c : Nat} {ts : List Bool}
theorem Bls.nil (w : World) : Bls w none 0 [] := .inl ⟨rfl, rfl, rfl⟩
theorem Bls.kept {X : Nat → Prop} (h : Bls w a c ts) (k : Kept X w w') (hx : ∀ g, a = some ⟨g, 0, none⟩ → ¬ X g) : Bls w' a c ts := by
  rcases h with h | ⟨g, sp, rfl, h1, h2, h3, l⟩
  · exact .inl h
  · exact .inr ⟨g, sp, rfl, h1, h2, h3, l.kept k (hx g rfl)⟩
theorem Bls.below (h : Bls w a c ts) (k : Below w.heap.size w w') : Bls w' a c ts := h.kept (X := fun _ => False) (Kept.of_below k) (fun _ _ h => h)
theorem Bls.lt (h : Bls w a c ts) {g : Nat} (e : a = some ⟨g, 0, none⟩) : g < w.heap.size := by
  subst e
  rcases h with ⟨h, _⟩ | ⟨g', sp, h, _, _, _, l⟩
  · cases h
  · injection h with h; injection h with h; subst h; exact l.lt
theorem Bls.le (h : Bls w a c ts) : ts.length ≤ c ∧ c ≤ 9223372036854775807 := by
  rcases h with ⟨_, rfl, rfl⟩ | ⟨g', sp, _, _, h1, h2, _⟩
  · simp
  · omega
theorem Bls.form (h : Bls w a c ts) : a = none ∨ ∃ g, a = some ⟨g, 0, none⟩ := by
  rcases h with ⟨e, _⟩ | ⟨g, _, e, _⟩
  · exact .inl e
  · exact .inr ⟨g, e⟩
/-- Where a token of a row lies. -/
structure BlAt (w : World) (g o : Nat) (t : Bool) : Prop where
  c0 : w.cell? ⟨g, o, none⟩ = some (.bool t)
theorem Bls.there (h : Bls w a c ts) {j : Nat} (hj : j < ts.length) : ∃ g, a = some ⟨g, 0, none⟩ ∧ BlAt w g (j * 1) ts[j] := by
  rcases h with ⟨_, _, rfl⟩ | ⟨g, sp, rfl, _, _, _, l⟩
  · simp at hj
  · have hl := flatB_len ts
    have hg : ∀ i, i < 1 → w.cell? ⟨g, j * 1 + i, none⟩ = (blCells ts[j])[i]? := fun i hi => by
      rw [l.cell, List.getElem?_append_left (by omega), flatB_get ts j hj i hi]
    exact ⟨g, rfl, ⟨hg 0 (by omega)⟩⟩
theorem Bls.own (h : Bls w a c ts) : w.ownsRow 0 4 1 (.slice a ts.length c) ts.length (flatB ts) := by
  refine ⟨flatB_len ts, ?_⟩
  rcases h with ⟨rfl, rfl, rfl⟩ | ⟨g, sp, rfl, h1, h2, h3, l⟩
  · exact .inl ⟨rfl, rfl⟩
  · refine .inr ⟨g, c, _, rfl, Nat.zero_le _, l, h2, by unfold maxLen; omega, ?_, ?_⟩
    · simp [flatB_len, h1]; omega
    · rw [← flatB_len ts]; simp
theorem own_bls {v : Value} {n : Nat} (hn : n = ts.length) (h : w.ownsRow 0 4 1 v n (flatB ts)) : ∃ a c, v = .slice a n c ∧ Bls w a c ts := by
  subst hn
  rcases h.2 with ⟨rfl, e⟩ | ⟨g, cap, cur, rfl, _, hh, hn, hm, hs, ht⟩
  · obtain rfl : ts = [] := List.eq_nil_of_length_eq_zero e
    exact ⟨none, 0, rfl, Bls.nil w⟩
  · unfold maxLen at hm
    refine ⟨_, _, rfl, .inr ⟨g, cur.toList.drop (ts.length * 1), rfl, ?_, hn, by omega, (lies_arr hh).to ?_⟩⟩
    · rw [List.length_drop, Array.length_toList, hs]; omega
    · rw [← ht, List.take_append_drop]
end


/-- append of one token, which lies in a block of its own, to a row of tokens. -/
theorem appB (ty : TypeId) (a : Option Addr) (c : Nat) (ts : List Bool) (g : Nat) (t : Bool) (w : World) (R : Bls w a c ts) (hg : Lies w g 4 (blCells t)) (hb : ts.length ≤ 1000000) {n : Nat} (hn : n = ts.length) :
    ∃ a' c' w', (Builtin.append_ #[106, 106] ty #[.slice a n c, .slice (some ⟨g, 0, none⟩) 1 1]).run Tryz.prog w = .ok (.slice a' (n + 1) c') w' ∧ Bls w' a' c' (ts ++ [t]) ∧ Kept (fun g => a = some ⟨g, 0, none⟩) w w' ∧
      ∀ g, a' = some ⟨g, 0, none⟩ → a = some ⟨g, 0, none⟩ ∨ w.heap.size ≤ g := by
  subst hn
  obtain ⟨i, hi, hz, hsz, hby⟩ := info_parts Tryz.info4
  have hform := R.form
  obtain ⟨v', w', hr, h2, h3, _, h5⟩ := run_append_own_at (P := Tryz.prog) w 0 106 ty 4 i _ 1 1 Tryz.underlying106 hi hz hsz hby (by simp [Value.cells]) (by omega) _ ts.length (flatB ts) R.own
    ⟨g, 0, none⟩ 1 1 (flatB [t]) (flatB_len [t]) (fun j u hj => by
      rw [Addr.add_lit, Nat.zero_add, hg.cell]
      rw [← hj]
      simp [flatB]) (flatB_one [t]) (by unfold maxLen; omega) (by omega) (Nat.zero_le _)
  rw [← flatB_append] at h2
  obtain ⟨a', c', rfl, r'⟩ := own_bls (by simp) h2
  refine ⟨a', c', w', hr, r', ?_, fun g e => ?_⟩
  · refine ⟨h3.os, h3.tape, h3.output, h3.size, fun g hg hx => h3.block g hg (fun e => ?_)⟩
    obtain ⟨x, rfl, hx'⟩ := (ownBlock_slice a _ _ g).1 e.symm
    rcases hform with h | ⟨g', h⟩
    · cases h
    · injection h with h; subst h; subst hx'; exact hx rfl
  · subst e
    rcases h5 with h5 | h5
    · obtain ⟨x, rfl, hx⟩ := (ownBlock_slice a ts.length c g).1 (by rw [← h5]; rfl)
      rcases hform with h | ⟨g', h⟩
      · cases h
      · injection h with h; subst h; subst hx; exact .inl rfl
    · have : g = w.heap.size := by simpa [Value.ownBlock] using h5
      exact .inr (by omega)

theorem Bls.alloc {w : World} {a : Option Addr} {c : Nat} {ts : List Bool} (h : Bls w a c ts) (o : Obj) : Bls (w.alloc o) a c ts := h.kept (X := fun _ => False) ((Kept.refl _ w).alloc o) (fun _ _ h => h)
theorem step_appB (w : World) {ops : Array Oper} {o : Oper} {x : Act} {K : Act → World → Prop} {Q : Exit → Act → World → Prop} {E : Prop} (hgd : o.guard = none) (s y : Operand)
    (ho : o.op = .call { callee := .builtin .append, args := #[s, y], argTypes := #[106, 106] }) (a : Option Addr) (c n : Nat) (g : Nat) (hs : x.eval s = .slice a n c) (hx : x.eval y = .slice (some ⟨g, 0, none⟩) 1 1)
    (ts : List Bool) (t : Bool) (R : Bls w a c ts) (hg : Lies w g 4 (blCells t)) (hb : ts.length ≤ 1000000) (hn : n = ts.length)
    (h : ∀ a' c' w', Bls w' a' c' (ts ++ [t]) → Kept (fun g => a = some ⟨g, 0, none⟩) w w' → (∀ g, a' = some ⟨g, 0, none⟩ → a = some ⟨g, 0, none⟩ ∨ w.heap.size ≤ g) → K (x.put o.dst (.slice a' (n + 1) c')) w') :
    if Region.wanted o (yielded ops x.tmps) = true then Oper.wp Tryz.prog o x w K Q else E := by
  obtain ⟨a', c', w', hr, h1, h2, h3⟩ := appB o.type a c ts g t w R hg hb hn
  exact step_append_run w hgd s y 106 106 ho _ _ hs hx _ _ hr (h a' c' w' h1 h2 h3)
theorem wpList_appB (w : World) {ops : Array Oper} {rest : List Oper} {o : Oper} {x : Act} {Q : Exit → Act → World → Prop} (hgd : o.guard = none) (s y : Operand)
    (ho : o.op = .call { callee := .builtin .append, args := #[s, y], argTypes := #[106, 106] }) (a : Option Addr) (c n : Nat) (g : Nat) (hs : x.eval s = .slice a n c) (hx : x.eval y = .slice (some ⟨g, 0, none⟩) 1 1)
    (ts : List Bool) (t : Bool) (R : Bls w a c ts) (hg : Lies w g 4 (blCells t)) (hb : ts.length ≤ 1000000) (hn : n = ts.length)
    (h : ∀ a' c' w', Bls w' a' c' (ts ++ [t]) → Kept (fun g => a = some ⟨g, 0, none⟩) w w' → (∀ g, a' = some ⟨g, 0, none⟩ → a = some ⟨g, 0, none⟩ ∨ w.heap.size ≤ g) → wpList Tryz.prog ops Q rest (x.put o.dst (.slice a' (n + 1) c')) w') :
    wpList Tryz.prog ops Q (o :: rest) x w := by
  obtain ⟨a', c', w', hr, h1, h2, h3⟩ := appB o.type a c ts g t w R hg hb hn
  exact Lib.wpList_append_run w hgd s y 106 106 ho _ _ hs hx _ _ hr (h a' c' w' h1 h2 h3)

theorem Bls.cut {w : World} {a : Option Addr} {c : Nat} {ts : List Bool} (h : Bls w a c ts) {k : Nat} (hk : k ≤ ts.length) : Bls w a c (ts.take k) := by
  rcases h with ⟨e1, e2, rfl⟩ | ⟨g, sp, e, h1, h2, h3, l⟩
  · exact .inl ⟨e1, e2, by simp⟩
  · refine .inr ⟨g, flatB (ts.drop k) ++ sp, e, ?_, ?_, h3, l.to ?_⟩
    · rw [List.length_append, flatB_len, List.length_take, List.length_drop, h1, Nat.min_eq_left hk]; omega
    · rw [List.length_take]; omega
    · rw [← List.append_assoc, ← flatB_append, List.take_append_drop]
end Go.Proofs.YtmapohpabepmfaaGreat.Q

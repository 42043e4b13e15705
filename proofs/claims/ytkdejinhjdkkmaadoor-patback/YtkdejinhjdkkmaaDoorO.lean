/- Rows of a pattern's nodes (five cells each) in memory, and append to them; the condition: what is read lies there. -/
import Derived.Test.YtkdejinhjdkkmaaDoorK
import Derived.Test.YtkdejinhjdkkmaaDoorN
namespace Go.Proofs.YtkdejinhjdkkmaaDoor
open Go.ChangeShapes Go.WideShapes Go.ChangeAt Go.RowKit

def ndCells (t : Nd) : List Value := [.int .i64 t.kind, .int .i64 t.a, .int .i64 t.b, .int .i64 t.n, .string t.name]
def flatN (ts : List Nd) : List Value := ts.flatMap ndCells
theorem flatN_cons (t : Nd) (ts : List Nd) : flatN (t :: ts) = ndCells t ++ flatN ts := rfl
theorem flatN_len (ts : List Nd) : (flatN ts).length = ts.length * 5 := by
  induction ts with
  | nil => rfl
  | cons p kv ih => rw [flatN_cons, List.length_append, ih]; simp [ndCells]; omega
theorem flatN_append (a b : List Nd) : flatN (a ++ b) = flatN a ++ flatN b := by unfold flatN; rw [List.flatMap_append]
theorem flatN_one (ts : List Nd) : ∀ x ∈ flatN ts, x.oneCell' = true := fun x hx => by
  unfold flatN at hx
  obtain ⟨p, _, hx⟩ := List.mem_flatMap.1 hx
  simp [ndCells] at hx
  rcases hx with rfl | rfl | rfl | rfl | rfl <;> rfl
theorem flatN_get (ts : List Nd) (j : Nat) (hj : j < ts.length) (i : Nat) (hi : i < 5) : (flatN ts)[j * 5 + i]? = (ndCells ts[j])[i]? := by
  induction ts generalizing j with
  | nil => simp at hj
  | cons t ts ih =>
    rw [flatN_cons]
    cases j with
    | zero => rw [List.getElem?_append_left (by simp [ndCells]; omega)]; simp
    | succ j =>
      rw [List.getElem?_append_right (by simp [ndCells]; omega)]
      have e : (j + 1) * 5 + i - (ndCells t).length = j * 5 + i := by simp [ndCells]; omega
      rw [e, ih j (by simpa using hj)]
      rfl

/-- The slice of address a and capacity c is nil, or stands at the head of a block of its own: the tokens ts, and spare room. -/
def Nds (w : World) (a : Option Addr) (c : Nat) (ts : List Nd) : Prop :=
  (a = none ∧ c = 0 ∧ ts = []) ∨ ∃ g sp, a = some ⟨g, 0, none⟩ ∧ sp.length = (c - ts.length) * 5 ∧ ts.length ≤ c ∧ c ≤ 9223372036854775807 ∧ Lies w g 45 (flatN ts ++ sp)

section
variable {w w' : World} {a : Option Addr} {c : Nat} {ts : List Nd}
theorem Nds.nil (w : World) : Nds w none 0 [] := .inl ⟨rfl, rfl, rfl⟩
theorem Nds.kept {X : Nat → Prop} (h : Nds w a c ts) (k : Kept X w w') (hx : ∀ g, a = some ⟨g, 0, none⟩ → ¬ X g) : Nds w' a c ts := by
  rcases h with h | ⟨g, sp, rfl, h1, h2, h3, l⟩
  · exact .inl h
  · exact .inr ⟨g, sp, rfl, h1, h2, h3, l.kept k (hx g rfl)⟩
theorem Nds.below (h : Nds w a c ts) (k : Below w.heap.size w w') : Nds w' a c ts := h.kept (X := fun _ => False) (Kept.of_below k) (fun _ _ h => h)
theorem Nds.lt (h : Nds w a c ts) {g : Nat} (e : a = some ⟨g, 0, none⟩) : g < w.heap.size := by
  subst e
  rcases h with ⟨h, _⟩ | ⟨g', sp, h, _, _, _, l⟩
  · cases h
  · injection h with h; injection h with h; subst h; exact l.lt
theorem Nds.le (h : Nds w a c ts) : ts.length ≤ c ∧ c ≤ 9223372036854775807 := by
  rcases h with ⟨_, rfl, rfl⟩ | ⟨g', sp, _, _, h1, h2, _⟩
  · simp
  · omega
theorem Nds.form (h : Nds w a c ts) : a = none ∨ ∃ g, a = some ⟨g, 0, none⟩ := by
  rcases h with ⟨e, _⟩ | ⟨g, _, e, _⟩
  · exact .inl e
  · exact .inr ⟨g, e⟩
/-- Where a token of a row lies. -/
structure NdAt (w : World) (g o : Nat) (t : Nd) : Prop where
  c0 : w.cell? ⟨g, o, none⟩ = some (.int .i64 t.kind)
  c1 : w.cell? ⟨g, o + 1, none⟩ = some (.int .i64 t.a)
  c2 : w.cell? ⟨g, o + 2, none⟩ = some (.int .i64 t.b)
  c3 : w.cell? ⟨g, o + 3, none⟩ = some (.int .i64 t.n)
  c4 : w.cell? ⟨g, o + 4, none⟩ = some (.string t.name)
theorem Nds.there (h : Nds w a c ts) {j : Nat} (hj : j < ts.length) : ∃ g, a = some ⟨g, 0, none⟩ ∧ NdAt w g (j * 5) ts[j] := by
  rcases h with ⟨_, _, rfl⟩ | ⟨g, sp, rfl, _, _, _, l⟩
  · simp at hj
  · have hl := flatN_len ts
    have hg : ∀ i, i < 5 → w.cell? ⟨g, j * 5 + i, none⟩ = (ndCells ts[j])[i]? := fun i hi => by
      rw [l.cell, List.getElem?_append_left (by omega), flatN_get ts j hj i hi]
    exact ⟨g, rfl, ⟨hg 0 (by omega), hg 1 (by omega), hg 2 (by omega), hg 3 (by omega), hg 4 (by omega)⟩⟩
theorem Nds.own (h : Nds w a c ts) : w.ownsRow 0 45 5 (.slice a ts.length c) ts.length (flatN ts) := by
  refine ⟨flatN_len ts, ?_⟩
  rcases h with ⟨rfl, rfl, rfl⟩ | ⟨g, sp, rfl, h1, h2, h3, l⟩
  · exact .inl ⟨rfl, rfl⟩
  · refine .inr ⟨g, c, _, rfl, Nat.zero_le _, l, h2, by unfold maxLen; omega, ?_, ?_⟩
    · simp [flatN_len, h1]; omega
    · rw [← flatN_len ts]; simp
theorem own_nds {v : Value} {n : Nat} (hn : n = ts.length) (h : w.ownsRow 0 45 5 v n (flatN ts)) : ∃ a c, v = .slice a n c ∧ Nds w a c ts := by
  subst hn
  rcases h.2 with ⟨rfl, e⟩ | ⟨g, cap, cur, rfl, _, hh, hn, hm, hs, ht⟩
  · obtain rfl : ts = [] := List.eq_nil_of_length_eq_zero e
    exact ⟨none, 0, rfl, Nds.nil w⟩
  · unfold maxLen at hm
    refine ⟨_, _, rfl, .inr ⟨g, cur.toList.drop (ts.length * 5), rfl, ?_, hn, by omega, (lies_arr hh).to ?_⟩⟩
    · rw [List.length_drop, Array.length_toList, hs]; omega
    · rw [← ht, List.take_append_drop]
end

theorem Tryd.info45 : (Tryd.prog.info? 45).map (fun i => (i.zero, i.size, i.bytes)) = some (some (.agg #[.int .i64 0, .int .i64 0, .int .i64 0, .int .i64 0, .string ⟨#[]⟩]), 5, 48) := by kernel_rfl

/-- append of one token, which lies in a block of its own, to a row of tokens. -/
theorem appN (ty : TypeId) (a : Option Addr) (c : Nat) (ts : List Nd) (g : Nat) (t : Nd) (w : World) (R : Nds w a c ts) (hg : Lies w g 45 (ndCells t)) (hb : ts.length ≤ 1000000) {n : Nat} (hn : n = ts.length) :
    ∃ a' c' w', (Builtin.append_ #[26, 26] ty #[.slice a n c, .slice (some ⟨g, 0, none⟩) 1 1]).run Tryd.prog w = .ok (.slice a' (n + 1) c') w' ∧ Nds w' a' c' (ts ++ [t]) ∧ Kept (fun g => a = some ⟨g, 0, none⟩) w w' ∧
      ∀ g, a' = some ⟨g, 0, none⟩ → a = some ⟨g, 0, none⟩ ∨ w.heap.size ≤ g := by
  subst hn
  obtain ⟨i, hi, hz, hsz, hby⟩ := info_parts Tryd.info45
  have hform := R.form
  obtain ⟨v', w', hr, h2, h3, _, h5⟩ := run_append_own_at (P := Tryd.prog) w 0 26 ty 45 i _ 5 48 Tryd.underlying26 hi hz hsz hby (by simp [Value.cells]) (by omega) _ ts.length (flatN ts) R.own
    ⟨g, 0, none⟩ 1 1 (flatN [t]) (flatN_len [t]) (fun j u hj => by
      rw [Addr.add_lit, Nat.zero_add, hg.cell]
      rw [← hj]
      simp [flatN]) (flatN_one [t]) (by unfold maxLen; omega) (by omega) (Nat.zero_le _)
  rw [← flatN_append] at h2
  obtain ⟨a', c', rfl, r'⟩ := own_nds (by simp) h2
  refine ⟨a', c', w', hr, r', ?_, fun g e => ?_⟩
  · refine ⟨h3.os, h3.tape, h3.output, h3.size, fun g hg hx => h3.block g hg (fun e => ?_)⟩
    obtain ⟨x, rfl, hx'⟩ := (ownBlock_slice a _ _ g).1 e.symm
    rcases hform with h | ⟨g', h⟩
    · cases h
    · injection h with h; subst h; subst hx'; exact hx rfl
  · subst e
    rcases h5 with h5 | h5
    · obtain ⟨x, rfl, hx⟩ := (ownBlock_slice a ts.length c g).1 (by rw [← h5]; rfl)
      rcases hform with h | ⟨g', h⟩
      · cases h
      · injection h with h; subst h; subst hx; exact .inl rfl
    · have : g = w.heap.size := by simpa [Value.ownBlock] using h5
      exact .inr (by omega)

theorem Nds.alloc {w : World} {a : Option Addr} {c : Nat} {ts : List Nd} (h : Nds w a c ts) (o : Obj) : Nds (w.alloc o) a c ts := h.kept (X := fun _ => False) ((Kept.refl _ w).alloc o) (fun _ _ h => h)
theorem step_appN (w : World) {ops : Array Oper} {o : Oper} {x : Act} {K : Act → World → Prop} {Q : Exit → Act → World → Prop} {E : Prop} (hgd : o.guard = none) (s y : Operand)
    (ho : o.op = .call { callee := .builtin .append, args := #[s, y], argTypes := #[26, 26] }) (a : Option Addr) (c n : Nat) (g : Nat) (hs : x.eval s = .slice a n c) (hx : x.eval y = .slice (some ⟨g, 0, none⟩) 1 1)
    (ts : List Nd) (t : Nd) (R : Nds w a c ts) (hg : Lies w g 45 (ndCells t)) (hb : ts.length ≤ 1000000) (hn : n = ts.length)
    (h : ∀ a' c' w', Nds w' a' c' (ts ++ [t]) → Kept (fun g => a = some ⟨g, 0, none⟩) w w' → (∀ g, a' = some ⟨g, 0, none⟩ → a = some ⟨g, 0, none⟩ ∨ w.heap.size ≤ g) → K (x.put o.dst (.slice a' (n + 1) c')) w') :
    if Region.wanted o (yielded ops x.tmps) = true then Oper.wp Tryd.prog o x w K Q else E := by
  obtain ⟨a', c', w', hr, h1, h2, h3⟩ := appN o.type a c ts g t w R hg hb hn
  exact step_append_run w hgd s y 26 26 ho _ _ hs hx _ _ hr (h a' c' w' h1 h2 h3)
theorem wpList_appN (w : World) {ops : Array Oper} {rest : List Oper} {o : Oper} {x : Act} {Q : Exit → Act → World → Prop} (hgd : o.guard = none) (s y : Operand)
    (ho : o.op = .call { callee := .builtin .append, args := #[s, y], argTypes := #[26, 26] }) (a : Option Addr) (c n : Nat) (g : Nat) (hs : x.eval s = .slice a n c) (hx : x.eval y = .slice (some ⟨g, 0, none⟩) 1 1)
    (ts : List Nd) (t : Nd) (R : Nds w a c ts) (hg : Lies w g 45 (ndCells t)) (hb : ts.length ≤ 1000000) (hn : n = ts.length)
    (h : ∀ a' c' w', Nds w' a' c' (ts ++ [t]) → Kept (fun g => a = some ⟨g, 0, none⟩) w w' → (∀ g, a' = some ⟨g, 0, none⟩ → a = some ⟨g, 0, none⟩ ∨ w.heap.size ≤ g) → wpList Tryd.prog ops Q rest (x.put o.dst (.slice a' (n + 1) c')) w') :
    wpList Tryd.prog ops Q (o :: rest) x w := by
  obtain ⟨a', c', w', hr, h1, h2, h3⟩ := appN o.type a c ts g t w R hg hb hn
  exact Lib.wpList_append_run w hgd s y 26 26 ho _ _ hs hx _ _ hr (h a' c' w' h1 h2 h3)

end Go.Proofs.YtkdejinhjdkkmaaDoor

/- Rows of tokens (five cells each) in memory; the reader of the program in memory; what its column is; strings.Clone; the condition: what is read lies there. -/
import Derived.Test.YtkdejinhjdkkmaaDoorF
import Derived.Test.YtkdejinhjdkkmaaDoorG
import Derived.Lib.AppendZeros
namespace Go.Proofs.YtkdejinhjdkkmaaDoor
open Go.ChangeShapes Go.WideShapes Go.ChangeAt Go.RowKit

def tokCells (t : Tok) : List Value := [.int .i64 (t.kind : Nat), .int .i64 (t.n : Nat), .int .i64 (t.line : Nat), .int .i64 (t.col : Nat), .string (str t.text)]
def flat (ts : List Tok) : List Value := ts.flatMap tokCells
theorem flat_cons (t : Tok) (ts : List Tok) : flat (t :: ts) = tokCells t ++ flat ts := rfl
theorem flat_len (ts : List Tok) : (flat ts).length = ts.length * 5 := by
  induction ts with
  | nil => rfl
  | cons p kv ih => rw [flat_cons, List.length_append, ih]; simp [tokCells]; omega
theorem flat_append (a b : List Tok) : flat (a ++ b) = flat a ++ flat b := by unfold flat; rw [List.flatMap_append]
theorem flat_one (ts : List Tok) : ∀ x ∈ flat ts, x.oneCell' = true := fun x hx => by
  unfold flat at hx
  obtain ⟨p, _, hx⟩ := List.mem_flatMap.1 hx
  simp [tokCells] at hx
  rcases hx with rfl | rfl | rfl | rfl | rfl <;> rfl
theorem flat_get (ts : List Tok) (j : Nat) (hj : j < ts.length) (i : Nat) (hi : i < 5) : (flat ts)[j * 5 + i]? = (tokCells ts[j])[i]? := by
  induction ts generalizing j with
  | nil => simp at hj
  | cons t ts ih =>
    rw [flat_cons]
    cases j with
    | zero => rw [List.getElem?_append_left (by simp [tokCells]; omega)]; simp
    | succ j =>
      rw [List.getElem?_append_right (by simp [tokCells]; omega)]
      have e : (j + 1) * 5 + i - (tokCells t).length = j * 5 + i := by simp [tokCells]; omega
      rw [e, ih j (by simpa using hj)]
      rfl

/-- The slice of address a and capacity c is nil, or stands at the head of a block of its own: the tokens ts, and spare room. -/
def Toks (w : World) (a : Option Addr) (c : Nat) (ts : List Tok) : Prop :=
  (a = none ∧ c = 0 ∧ ts = []) ∨ ∃ g sp, a = some ⟨g, 0, none⟩ ∧ sp.length = (c - ts.length) * 5 ∧ ts.length ≤ c ∧ c ≤ 9223372036854775807 ∧ Lies w g 90 (flat ts ++ sp)

section
variable {w w' : World} {a : Option Addr} {c : Nat} {ts : List Tok}
theorem Toks.nil (w : World) : Toks w none 0 [] := .inl ⟨rfl, rfl, rfl⟩
theorem Toks.kept {X : Nat → Prop} (h : Toks w a c ts) (k : Kept X w w') (hx : ∀ g, a = some ⟨g, 0, none⟩ → ¬ X g) : Toks w' a c ts := by
  rcases h with h | ⟨g, sp, rfl, h1, h2, h3, l⟩
  · exact .inl h
  · exact .inr ⟨g, sp, rfl, h1, h2, h3, l.kept k (hx g rfl)⟩
theorem Toks.below (h : Toks w a c ts) (k : Below w.heap.size w w') : Toks w' a c ts := h.kept (X := fun _ => False) (Kept.of_below k) (fun _ _ h => h)
theorem Toks.lt (h : Toks w a c ts) {g : Nat} (e : a = some ⟨g, 0, none⟩) : g < w.heap.size := by
  subst e
  rcases h with ⟨h, _⟩ | ⟨g', sp, h, _, _, _, l⟩
  · cases h
  · injection h with h; injection h with h; subst h; exact l.lt
theorem Toks.le (h : Toks w a c ts) : ts.length ≤ c ∧ c ≤ 9223372036854775807 := by
  rcases h with ⟨_, rfl, rfl⟩ | ⟨g', sp, _, _, h1, h2, _⟩
  · simp
  · omega
theorem Toks.form (h : Toks w a c ts) : a = none ∨ ∃ g, a = some ⟨g, 0, none⟩ := by
  rcases h with ⟨e, _⟩ | ⟨g, _, e, _⟩
  · exact .inl e
  · exact .inr ⟨g, e⟩
/-- Where a token of a row lies. -/
structure TokAt (w : World) (g o : Nat) (t : Tok) : Prop where
  c0 : w.cell? ⟨g, o, none⟩ = some (.int .i64 (t.kind : Nat))
  c1 : w.cell? ⟨g, o + 1, none⟩ = some (.int .i64 (t.n : Nat))
  c2 : w.cell? ⟨g, o + 2, none⟩ = some (.int .i64 (t.line : Nat))
  c3 : w.cell? ⟨g, o + 3, none⟩ = some (.int .i64 (t.col : Nat))
  c4 : w.cell? ⟨g, o + 4, none⟩ = some (.string (str t.text))
theorem Toks.there (h : Toks w a c ts) {j : Nat} (hj : j < ts.length) : ∃ g, a = some ⟨g, 0, none⟩ ∧ TokAt w g (j * 5) ts[j] := by
  rcases h with ⟨_, _, rfl⟩ | ⟨g, sp, rfl, _, _, _, l⟩
  · simp at hj
  · have hl := flat_len ts
    have hg : ∀ i, i < 5 → w.cell? ⟨g, j * 5 + i, none⟩ = (tokCells ts[j])[i]? := fun i hi => by
      rw [l.cell, List.getElem?_append_left (by omega), flat_get ts j hj i hi]
    exact ⟨g, rfl, ⟨hg 0 (by omega), hg 1 (by omega), hg 2 (by omega), hg 3 (by omega), hg 4 (by omega)⟩⟩
theorem Toks.own (h : Toks w a c ts) : w.ownsRow 0 90 5 (.slice a ts.length c) ts.length (flat ts) := by
  refine ⟨flat_len ts, ?_⟩
  rcases h with ⟨rfl, rfl, rfl⟩ | ⟨g, sp, rfl, h1, h2, h3, l⟩
  · exact .inl ⟨rfl, rfl⟩
  · refine .inr ⟨g, c, _, rfl, Nat.zero_le _, l, h2, by unfold maxLen; omega, ?_, ?_⟩
    · simp [flat_len, h1]; omega
    · rw [← flat_len ts]; simp
theorem own_toks {v : Value} {n : Nat} (hn : n = ts.length) (h : w.ownsRow 0 90 5 v n (flat ts)) : ∃ a c, v = .slice a n c ∧ Toks w a c ts := by
  subst hn
  rcases h.2 with ⟨rfl, e⟩ | ⟨g, cap, cur, rfl, _, hh, hn, hm, hs, ht⟩
  · obtain rfl : ts = [] := List.eq_nil_of_length_eq_zero e
    exact ⟨none, 0, rfl, Toks.nil w⟩
  · unfold maxLen at hm
    refine ⟨_, _, rfl, .inr ⟨g, cur.toList.drop (ts.length * 5), rfl, ?_, hn, by omega, (lies_arr hh).to ?_⟩⟩
    · rw [List.length_drop, Array.length_toList, hs]; omega
    · rw [← ht, List.take_append_drop]
end

theorem Tryd.info90 : (Tryd.prog.info? 90).map (fun i => (i.zero, i.size, i.bytes)) = some (some (.agg #[.int .i64 0, .int .i64 0, .int .i64 0, .int .i64 0, .string ⟨#[]⟩]), 5, 48) := by kernel_rfl

theorem ownBlock_slice (a : Option Addr) (n c : Nat) (g : Nat) : (Value.slice a n c).ownBlock = some g ↔ ∃ x, a = some x ∧ x.block = g := by
  cases a <;> simp [Value.ownBlock]
/-- append of one token, which lies in a block of its own, to a row of tokens. -/
theorem app5 (ty : TypeId) (a : Option Addr) (c : Nat) (ts : List Tok) (g : Nat) (t : Tok) (w : World) (R : Toks w a c ts) (hg : Lies w g 90 (tokCells t)) (hb : ts.length ≤ 1000000) {n : Nat} (hn : n = ts.length) :
    ∃ a' c' w', (Builtin.append_ #[58, 58] ty #[.slice a n c, .slice (some ⟨g, 0, none⟩) 1 1]).run Tryd.prog w = .ok (.slice a' (n + 1) c') w' ∧ Toks w' a' c' (ts ++ [t]) ∧ Kept (fun g => a = some ⟨g, 0, none⟩) w w' ∧
      ∀ g, a' = some ⟨g, 0, none⟩ → a = some ⟨g, 0, none⟩ ∨ w.heap.size ≤ g := by
  subst hn
  obtain ⟨i, hi, hz, hsz, hby⟩ := info_parts Tryd.info90
  have hform := R.form
  obtain ⟨v', w', hr, h2, h3, _, h5⟩ := run_append_own_at (P := Tryd.prog) w 0 58 ty 90 i _ 5 48 Tryd.underlying58 hi hz hsz hby (by simp [Value.cells]) (by omega) _ ts.length (flat ts) R.own
    ⟨g, 0, none⟩ 1 1 (flat [t]) (flat_len [t]) (fun j u hj => by
      rw [Addr.add_lit, Nat.zero_add, hg.cell]
      rw [← hj]
      simp [flat]) (flat_one [t]) (by unfold maxLen; omega) (by omega) (Nat.zero_le _)
  rw [← flat_append] at h2
  obtain ⟨a', c', rfl, r'⟩ := own_toks (by simp) h2
  refine ⟨a', c', w', hr, r', ?_, fun g e => ?_⟩
  · refine ⟨h3.os, h3.tape, h3.output, h3.size, fun g hg hx => h3.block g hg (fun e => ?_)⟩
    obtain ⟨x, rfl, hx'⟩ := (ownBlock_slice a _ _ g).1 e.symm
    rcases hform with h | ⟨g', h⟩
    · cases h
    · injection h with h; subst h; subst hx'; exact hx rfl
  · subst e
    rcases h5 with h5 | h5
    · obtain ⟨x, rfl, hx⟩ := (ownBlock_slice a ts.length c g).1 (by rw [← h5]; rfl)
      rcases hform with h | ⟨g', h⟩
      · cases h
      · injection h with h; subst h; subst hx; exact .inl rfl
    · have : g = w.heap.size := by simpa [Value.ownBlock] using h5
      exact .inr (by omega)

/-- The reader in block g: it reads s, stands at byte 'at' of a line that begins at byte 'beg'. -/
def Rd (w : World) (g : Nat) (s : ByteArray) (at' line beg : Nat) : Prop := Lies w g 88 [.string s, .int .i64 (at' : Nat), .int .i64 (line : Nat), .int .i64 (beg : Nat)]
theorem Rd.c0 {w : World} {g : Nat} {s : ByteArray} {i l b : Nat} (h : Rd w g s i l b) : w.cell? ⟨g, 0, none⟩ = some (.string s) := Lies.cell h 0
theorem Rd.c1 {w : World} {g : Nat} {s : ByteArray} {i l b : Nat} (h : Rd w g s i l b) : w.cell? ⟨g, 1, none⟩ = some (.int .i64 (i : Nat)) := Lies.cell h 1
theorem Rd.c2 {w : World} {g : Nat} {s : ByteArray} {i l b : Nat} (h : Rd w g s i l b) : w.cell? ⟨g, 2, none⟩ = some (.int .i64 (l : Nat)) := Lies.cell h 2
theorem Rd.c3 {w : World} {g : Nat} {s : ByteArray} {i l b : Nat} (h : Rd w g s i l b) : w.cell? ⟨g, 3, none⟩ = some (.int .i64 (b : Nat)) := Lies.cell h 3
theorem Rd.fz {w : World} {g : Nat} {s : ByteArray} {i l b : Nat} (h : Rd w g s i l b) (k : Nat) : w.frozen? ⟨g, k, none⟩ = false := Lies.frozen h k

theorem col_any (g : Nat) (s : ByteArray) (i l b : Nat) (w : World) (R : Rd w g s i l b) (hb : b ≤ i) (hi : i ≤ 20000) :
    Calls Tryd.prog 42 #[.pointer (some ⟨g, 0, none⟩)] w (Reads (.int .i64 (i + 1 - b : Nat)) w) := by
  have c1 := R.c1
  have c3 := R.c3
  clear R
  go_enter Tryd.func42, Tryd.ntmps42
  go_wp2_with (fail)
  go_quiet (fail)
  go_wp2
  go_ret
  exact ⟨ret_int (by omega), _, rfl⟩

theorem clone_any (s : ByteArray) (w : World) (hlim : s.size ≤ 281474976710656) :
    Calls Tryd.prog 43 #[.string s] w fun e w' => e = .returned (.string s) ∧ Below w.heap.size w w' := by
  have C := Lib.hid (Tryd.stringslite_Clone s w hlim)
  go_enter Tryd.func43, Tryd.ntmps43
  go_wp2_with (fail)
  refine C.out.mono ?_
  rintro e w' ⟨rfl, b⟩
  have HB := Lib.hid b
  clear b
  go_wp2
  go_ret
  exact ⟨rfl, HB.out⟩
end Go.Proofs.YtkdejinhjdkkmaaDoor

/- Rows of the law's raw nodes in memory; contracts of columbarykeep.Copy and Cut at them; the condition: what is read lies there. -/
import Derived.Test.YtkdejinhjdkkmaaDoorCc
namespace Go.Proofs.YtkdejinhjdkkmaaDoor
open Go.ChangeShapes Go.WideShapes Go.ChangeAt Go.RowKit

/-- The slice of address a and capacity c is nil, or stands at the head of a block of its own: the tokens ts, and spare room. -/
def Rws (w : World) (a : Option Addr) (c : Nat) (ts : List Nd) : Prop :=
  (a = none ∧ c = 0 ∧ ts = []) ∨ ∃ g sp, a = some ⟨g, 0, none⟩ ∧ sp.length = (c - ts.length) * 5 ∧ ts.length ≤ c ∧ c ≤ 9223372036854775807 ∧ Lies w g 69 (flatN ts ++ sp)

section
variable {w w' : World} {a : Option Addr} {c : Nat} {ts : List Nd}
theorem Rws.nil (w : World) : Rws w none 0 [] := .inl ⟨rfl, rfl, rfl⟩
theorem Rws.kept {X : Nat → Prop} (h : Rws w a c ts) (k : Kept X w w') (hx : ∀ g, a = some ⟨g, 0, none⟩ → ¬ X g) : Rws w' a c ts := by
  rcases h with h | ⟨g, sp, rfl, h1, h2, h3, l⟩
  · exact .inl h
  · exact .inr ⟨g, sp, rfl, h1, h2, h3, l.kept k (hx g rfl)⟩
theorem Rws.below (h : Rws w a c ts) (k : Below w.heap.size w w') : Rws w' a c ts := h.kept (X := fun _ => False) (Kept.of_below k) (fun _ _ h => h)
theorem Rws.lt (h : Rws w a c ts) {g : Nat} (e : a = some ⟨g, 0, none⟩) : g < w.heap.size := by
  subst e
  rcases h with ⟨h, _⟩ | ⟨g', sp, h, _, _, _, l⟩
  · cases h
  · injection h with h; injection h with h; subst h; exact l.lt
theorem Rws.le (h : Rws w a c ts) : ts.length ≤ c ∧ c ≤ 9223372036854775807 := by
  rcases h with ⟨_, rfl, rfl⟩ | ⟨g', sp, _, _, h1, h2, _⟩
  · simp
  · omega
theorem Rws.form (h : Rws w a c ts) : a = none ∨ ∃ g, a = some ⟨g, 0, none⟩ := by
  rcases h with ⟨e, _⟩ | ⟨g, _, e, _⟩
  · exact .inl e
  · exact .inr ⟨g, e⟩
theorem Rws.there (h : Rws w a c ts) {j : Nat} (hj : j < ts.length) : ∃ g, a = some ⟨g, 0, none⟩ ∧ NdAt w g (j * 5) ts[j] := by
  rcases h with ⟨_, _, rfl⟩ | ⟨g, sp, rfl, _, _, _, l⟩
  · simp at hj
  · have hl := flatN_len ts
    have hg : ∀ i, i < 5 → w.cell? ⟨g, j * 5 + i, none⟩ = (ndCells ts[j])[i]? := fun i hi => by
      rw [l.cell, List.getElem?_append_left (by omega), flatN_get ts j hj i hi]
    exact ⟨g, rfl, ⟨hg 0 (by omega), hg 1 (by omega), hg 2 (by omega), hg 3 (by omega), hg 4 (by omega)⟩⟩
theorem Rws.own (h : Rws w a c ts) : w.ownsRow 0 69 5 (.slice a ts.length c) ts.length (flatN ts) := by
  refine ⟨flatN_len ts, ?_⟩
  rcases h with ⟨rfl, rfl, rfl⟩ | ⟨g, sp, rfl, h1, h2, h3, l⟩
  · exact .inl ⟨rfl, rfl⟩
  · refine .inr ⟨g, c, _, rfl, Nat.zero_le _, l, h2, by unfold maxLen; omega, ?_, ?_⟩
    · simp [flatN_len, h1]; omega
    · rw [← flatN_len ts]; simp
theorem own_rws {v : Value} {n : Nat} (hn : n = ts.length) (h : w.ownsRow 0 69 5 v n (flatN ts)) : ∃ a c, v = .slice a n c ∧ Rws w a c ts := by
  subst hn
  rcases h.2 with ⟨rfl, e⟩ | ⟨g, cap, cur, rfl, _, hh, hn, hm, hs, ht⟩
  · obtain rfl : ts = [] := List.eq_nil_of_length_eq_zero e
    exact ⟨none, 0, rfl, Rws.nil w⟩
  · unfold maxLen at hm
    refine ⟨_, _, rfl, .inr ⟨g, cur.toList.drop (ts.length * 5), rfl, ?_, hn, by omega, (lies_arr hh).to ?_⟩⟩
    · rw [List.length_drop, Array.length_toList, hs]; omega
    · rw [← ht, List.take_append_drop]
end

theorem Tryd.info69 : (Tryd.prog.info? 69).map (fun i => (i.zero, i.size, i.bytes)) = some (some (.agg #[.int .i64 0, .int .i64 0, .int .i64 0, .int .i64 0, .string ⟨#[]⟩]), 5, 48) := by kernel_rfl
theorem Rws.at {w : World} {a : Option Addr} {c : Nat} {ns : List Nd} (h : Rws w a c ns) : NodesAt w a ns := fun j hj => by
  obtain ⟨g, e, p⟩ := h.there hj
  exact ⟨g, 0, e, by rw [Nat.zero_add]; exact p, h.lt e⟩
/-- What a call that copies raw nodes comes to. -/
def MakesRaw (rs : List Nd) (w : World) (e : Ending) (w' : World) : Prop := ∃ a c, e = .returned (.slice a rs.length c) ∧ Rws w' a c rs ∧ Below w.heap.size w w'
theorem flatN_cell {rs : List Nd} {j : Nat} {u : Value} (h : (flatN rs)[j]? = some u) : ∃ i f, j = i * 5 + f ∧ f < 5 ∧ ∃ hi : i < rs.length, (ndCells rs[i])[f]? = some u := by
  have hj : j < (flatN rs).length := (List.getElem?_eq_some_iff.1 h).1
  rw [flatN_len] at hj
  refine ⟨j / 5, j % 5, by omega, by omega, by omega, ?_⟩
  have := flatN_get rs (j / 5) (by omega) (j % 5) (by omega)
  rw [show j / 5 * 5 + j % 5 = j by omega] at this
  rw [← this]; exact h
theorem nodes_flat {w : World} {b off : Nat} {rs : List Nd} (h : NodesAt w (some ⟨b, off, none⟩) rs) : ∀ j u, (flatN rs)[j]? = some u → w.cell? ((⟨b, off, none⟩ : Addr).add j) = some u := fun j u hu => by
  obtain ⟨i, f, rfl, hf, hi, hc⟩ := flatN_cell hu
  obtain ⟨b', off', e, p, _⟩ := h i hi
  injection e with e; injection e with e1 e2
  subst e1 e2
  rw [Addr.add_lit]
  match f, hf with
  | 0, _ => rw [← hc]; exact p.c0
  | 1, _ => rw [← hc, ← Nat.add_assoc]; exact p.c1
  | 2, _ => rw [← hc, ← Nat.add_assoc]; exact p.c2
  | 3, _ => rw [← hc, ← Nat.add_assoc]; exact p.c3
  | 4, _ => rw [← hc, ← Nat.add_assoc]; exact p.c4
theorem nodes_flat' {w : World} {x : Addr} {rs : List Nd} (h : NodesAt w (some x) rs) : ∀ j u, (flatN rs)[j]? = some u → w.cell? (x.add j) = some u := fun j u hu => by
  obtain ⟨i, f, _, _, hi, _⟩ := flatN_cell hu
  obtain ⟨b, off, e, _, _⟩ := h i hi
  injection e with e
  subst e
  exact nodes_flat h j u hu
theorem run_copy_raw (ty : TypeId) (a : Option Addr) (c : Nat) (rs : List Nd) (w : World) (hn : a = none → rs = [] ∧ c = 0) (h : NodesAt w a rs) (hb : rs.length ≤ 1000) :
    ∃ v w', (Builtin.append_ #[37, 37] ty #[.slice none 0 0, .slice a rs.length c]).run Tryd.prog w = .ok v w' ∧ MakesRaw rs w (.returned v) w' := by
  obtain ⟨i, hi, hz, hsz, hby⟩ := info_parts Tryd.info69
  cases a with
  | none =>
    obtain ⟨rfl, rfl⟩ := hn rfl
    exact ⟨_, _, run_append_owned_none (w := w) w.heap.size 37 ty 69 i 5 Tryd.underlying37 hi _ 0 [] (World.ownsRow_nil w _ 69 5), none, 0, rfl, Rws.nil _, Below.refl _ _⟩
  | some x =>
    obtain ⟨v', w', hr, h2, h3, _, _⟩ := run_append_own_at (P := Tryd.prog) w 0 37 ty 69 i _ 5 48 Tryd.underlying37 hi hz hsz hby (by simp [Value.cells]) (by omega) (.slice none 0 0) 0 [] (World.ownsRow_nil w _ 69 5)
      x rs.length c (flatN rs) (flatN_len rs) (nodes_flat' h) (flatN_one rs) (by unfold maxLen; omega) (by omega) (Nat.zero_le _)
    rw [List.nil_append, Nat.zero_add] at h2
    obtain ⟨a', c', rfl, r'⟩ := own_rws rfl h2
    exact ⟨_, _, hr, a', c', rfl, r', (Below.refl _ _).grown h3 (Nat.le_refl _) (fun k e => by simp [Value.ownBlock] at e)⟩
theorem copyRaw_any (a : Option Addr) (c : Nat) (rs : List Nd) (w : World) (hn : a = none → rs = [] ∧ c = 0) (h : NodesAt w a rs) (hb : rs.length ≤ 1000) :
    Calls Tryd.prog 47 #[.slice a rs.length c] w (MakesRaw rs w) := by
  obtain ⟨v, w', hr, a', c', e, r, bel⟩ := run_copy_raw 37 a c rs w hn h hb
  injection e with e
  subst e
  clear h hn
  go_enter Tryd.func47, Tryd.ntmps47
  go_wp2_with (at_builtin; refine Lib.wpList_append_run _ rfl _ _ _ _ rfl _ _ rfl rfl _ _ hr ?_)
  go_ret
  exact ⟨a', c', rfl, r, bel⟩
theorem NodesAt.take {w : World} {a : Option Addr} {rs : List Nd} (h : NodesAt w a rs) (k : Nat) : NodesAt w a (rs.take k) := fun j hj => by
  have hj' : j < rs.length := by rw [List.length_take] at hj; omega
  obtain ⟨b, off, e, p, hb⟩ := h j hj'
  exact ⟨b, off, e, by rw [List.getElem_take]; exact p, hb⟩
theorem cutRaw_any (a : Option Addr) (c : Nat) (rs : List Nd) (w : World) (hn : a = none → rs = [] ∧ c = 0) (h : NodesAt w a rs) (hlc : rs.length ≤ c) (_hc : c ≤ 9223372036854775807) :
    Calls Tryd.prog 27 #[.slice a rs.length c, .int .i64 30] w (MakesRaw (rs.take 30) w) := by
  have hl : (rs.take 30).length = min rs.length 30 := by rw [List.length_take]; omega
  have C := copyRaw_any a c (rs.take 30) w (fun e => by rw [(hn e).1]; exact ⟨rfl, (hn e).2⟩) (h.take 30) (by omega)
  rw [hl] at C
  clear hl
  have C := Lib.hid C
  generalize rs.take 30 = ts at C ⊢
  clear h hn
  obtain ⟨n, hnn⟩ : ∃ n, n = rs.length := ⟨_, rfl⟩
  rw [← hnn] at C hlc ⊢
  clear hnn
  by_cases h30 : n ≤ 30
  · rw [Nat.min_eq_left h30] at C
    go_enter Tryd.func27, Tryd.ntmps27
    go_wp2_with (fail)
    rw [show (min (n : Int) 30).toNat = n by omega]
    refine C.out.mono ?_
    rintro e w' ⟨a', c', rfl, r, bel⟩
    have HR := Lib.hid r
    have HB := Lib.hid bel
    clear r bel
    go_wp2
    go_ret
    exact ⟨a', c', rfl, HR.out, HB.out⟩
  · rw [Nat.min_eq_right (by omega)] at C
    go_enter Tryd.func27, Tryd.ntmps27
    go_wp2_with (fail)
    rw [show (min (n : Int) 30).toNat = 30 by omega]
    refine C.out.mono ?_
    rintro e w' ⟨a', c', rfl, r, bel⟩
    have HR := Lib.hid r
    have HB := Lib.hid bel
    clear r bel
    go_wp2
    go_ret
    exact ⟨a', c', rfl, HR.out, HB.out⟩
end Go.Proofs.YtkdejinhjdkkmaaDoor

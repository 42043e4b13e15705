/- Rows of nodes: copied, appended to, named; meters side by side. -/
import Derived.Test.YtfkaagndlpcfdaaGreatRe
namespace Go.Proofs.YtfkaagndlpcfdaaGreat
open Go.ChangeShapes Go.WideShapes Go.ChangeAt Go.RowKit

theorem own_ndsB {w : World} {B : Nat} {v : Value} {n : Nat} {ts : List Q.Nd} (hn : n = ts.length) (h : w.ownsRow B 46 5 v n (Q.flatN ts)) : ∃ a c, v = .slice a n c ∧ Q.Nds w a c ts ∧ From B a := by
  subst hn
  rcases h.2 with ⟨rfl, e⟩ | ⟨g, cap, cur, rfl, hg, hh, hn, hm, hs, ht⟩
  · obtain rfl : ts = [] := List.eq_nil_of_length_eq_zero e
    exact ⟨none, 0, rfl, Q.Nds.nil w, From.none _⟩
  · unfold maxLen at hm
    refine ⟨_, _, rfl, .inr ⟨g, cur.toList.drop (ts.length * 5), rfl, ?_, hn, by omega, (lies_arr hh).to ?_⟩, fun g' e => by injection e with e; injection e with e; subst e; exact hg⟩
    · rw [List.length_drop, Array.length_toList, hs]; omega
    · rw [← ht, List.take_append_drop]
theorem nds_cell {w : World} {g c : Nat} {ns : List Q.Nd} (R : Q.Nds w (some ⟨g, 0, none⟩) c ns) (j : Nat) (u : Value) (hj : (Q.flatN ns)[j]? = some u) : w.cell? ((⟨g, 0, none⟩ : Addr).add j) = some u := by
  rcases R with ⟨e, _⟩ | ⟨g', sp, e, _, _, _, l⟩
  · cases e
  · injection e with e; injection e with e; subst e
    rw [Addr.add_lit, Nat.zero_add, l.cell, List.getElem?_append_left (List.getElem?_eq_some_iff.1 hj).1]
    exact hj
/-- append of nodes to nil: a copy. -/
theorem run_copyN (t ty : TypeId) (hu : Tryz.prog.underlying t = some (.slice 46)) (g c : Nat) (ns : List Q.Nd) (w : World) (R : Q.Nds w (some ⟨g, 0, none⟩) c ns) {n : Nat} (hn : ns.length = n) (hb : n ≤ 1000000) :
    ∃ a' c' w', (Builtin.append_ #[t, t] ty #[.slice none 0 0, .slice (some ⟨g, 0, none⟩) n c]).run Tryz.prog w = .ok (.slice a' n c') w' ∧ Q.Nds w' a' c' ns ∧ From w.heap.size a' ∧ Below w.heap.size w w' := by
  subst hn
  obtain ⟨i, hi, hz, hsz, hby⟩ := info_parts Q.Tryz.info46
  obtain ⟨v', w', hr, h2, h3, _, _⟩ := run_append_own_at (P := Tryz.prog) w w.heap.size t ty 46 i _ 5 48 hu hi hz hsz hby (by simp [Value.cells]) (by omega) (.slice none 0 0) 0 [] (World.ownsRow_nil w _ 46 5)
    ⟨g, 0, none⟩ ns.length c (Q.flatN ns) (Q.flatN_len ns) (nds_cell R) (Q.flatN_one ns) (by unfold maxLen; omega) (by omega) (Nat.le_refl _)
  rw [List.nil_append] at h2
  obtain ⟨a', c', rfl, r, f⟩ := own_ndsB (by simp) h2
  rw [Nat.zero_add] at hr
  exact ⟨a', c', w', hr, r, f, (Below.refl _ _).grown h3 (Nat.le_refl _) (fun k e => by simp [Value.ownBlock] at e)⟩
/-- append of nodes to nodes. -/
theorem run_appNs (t ty : TypeId) (hu : Tryz.prog.underlying t = some (.slice 46)) (a : Option Addr) (c : Nat) (ts : List Q.Nd) (g d : Nat) (us : List Q.Nd) (w : World) (R : Q.Nds w a c ts) (S : Q.Nds w (some ⟨g, 0, none⟩) d us) {n m : Nat} (hn : ts.length = n) (hm : us.length = m) (hb : n + m ≤ 1000000) :
    ∃ a' c' w', (Builtin.append_ #[t, t] ty #[.slice a n c, .slice (some ⟨g, 0, none⟩) m d]).run Tryz.prog w = .ok (.slice a' (n + m) c') w' ∧ Q.Nds w' a' c' (ts ++ us) ∧ Kept (fun g => a = some ⟨g, 0, none⟩) w w' ∧
      ∀ g, a' = some ⟨g, 0, none⟩ → a = some ⟨g, 0, none⟩ ∨ w.heap.size ≤ g := by
  subst hn; subst hm
  obtain ⟨i, hi, hz, hsz, hby⟩ := info_parts Q.Tryz.info46
  have hform := R.form
  obtain ⟨v', w', hr, h2, h3, _, h5⟩ := run_append_own_at (P := Tryz.prog) w 0 t ty 46 i _ 5 48 hu hi hz hsz hby (by simp [Value.cells]) (by omega) _ ts.length (Q.flatN ts) R.own
    ⟨g, 0, none⟩ us.length d (Q.flatN us) (Q.flatN_len us) (nds_cell S) (Q.flatN_one us) (by unfold maxLen; omega) (by omega) (Nat.zero_le _)
  rw [← Q.flatN_append] at h2
  obtain ⟨a', c', rfl, r'⟩ := Q.own_nds (by simp) h2
  refine ⟨a', c', w', hr, r', ?_, fun g e => ?_⟩
  · refine ⟨h3.os, h3.tape, h3.output, h3.size, fun g hg hx => h3.block g hg (fun e => ?_)⟩
    obtain ⟨x, rfl, hx'⟩ := (Q.ownBlock_slice a _ _ g).1 e.symm
    rcases hform with h | ⟨g', h⟩
    · cases h
    · injection h with h; subst h; subst hx'; exact hx rfl
  · subst e
    rcases h5 with h5 | h5
    · obtain ⟨x, rfl, hx⟩ := (Q.ownBlock_slice a ts.length c g).1 (by rw [← h5]; rfl)
      rcases hform with h | ⟨g', h⟩
      · cases h
      · injection h with h; subst h; subst hx; exact .inl rfl
    · have : g = w.heap.size := by simpa [Value.ownBlock] using h5
      exact .inr (by omega)
/-- What a call that copies nodes comes to. -/
def MakesN (ns : List Q.Nd) (n : Nat) (w : World) (e : Ending) (w' : World) : Prop := ∃ a c, e = .returned (.slice a n c) ∧ Q.Nds w' a c ns ∧ From w.heap.size a ∧ Below w.heap.size w w'
theorem flatN_setName (nm : ByteArray) : ∀ (ts : List Q.Nd) (j : Nat) (x : Q.Nd), ts[j]? = some x → (Q.flatN ts).set (j * 5 + 4) (.string nm) = Q.flatN (ts.set j (named nm x))
  | [], _, _, h => by simp at h
  | t :: ts, 0, x, h => by
    simp at h
    subst h
    rw [Q.flatN_cons]
    simp only [List.set_cons_zero]
    rw [Q.flatN_cons, List.set_append_left _ _ (by simp [Q.ndCells])]
    simp [Q.ndCells, named]
  | t :: ts, j + 1, x, h => by
    have h' : ts[j]? = some x := by simpa using h
    rw [Q.flatN_cons, List.set_cons_succ, Q.flatN_cons, List.set_append_right _ _ (by simp [Q.ndCells]; omega), ← flatN_setName nm ts j x h']
    have e : (j + 1) * 5 + 4 - (Q.ndCells t).length = j * 5 + 4 := by simp [Q.ndCells]; omega
    rw [e]
theorem nds_name {w : World} {g c : Nat} {ts : List Q.Nd} (h : Q.Nds w (some ⟨g, 0, none⟩) c ts) {j : Nat} {x : Q.Nd} (hx : ts[j]? = some x) (nm : ByteArray) : Q.Nds (w.setCell ⟨g, j * 5 + 4, none⟩ (.string nm)) (some ⟨g, 0, none⟩) c (ts.set j (named nm x)) := by
  have hj : j < ts.length := (List.getElem?_eq_some_iff.1 hx).1
  rcases h with ⟨e, _⟩ | ⟨g', sp, e, h1, h2, h3, l⟩
  · cases e
  · injection e with e; injection e with e; subst e
    refine .inr ⟨g, sp, rfl, by rw [List.length_set]; exact h1, by rw [List.length_set]; exact h2, h3, (l.set (j * 5 + 4) (.string nm)).to ?_⟩
    rw [List.set_append_left _ _ (by rw [Q.flatN_len]; omega), flatN_setName nm ts j x hx]
theorem nds_frozen {w : World} {g c : Nat} {ts : List Q.Nd} (h : Q.Nds w (some ⟨g, 0, none⟩) c ts) (j : Nat) : w.frozen? ⟨g, j, none⟩ = false := by
  rcases h with ⟨e, _⟩ | ⟨g', sp, e, h1, h2, h3, l⟩
  · cases e
  · injection e with e; injection e with e; subst e
    exact l.frozen j
/-- The first k of the nodes named. -/
def halfN (nm : ByteArray) (ns : List Q.Nd) (k : Nat) : List Q.Nd := (ns.take k).map (named nm) ++ ns.drop k
theorem half_len (nm : ByteArray) (ns : List Q.Nd) (k : Nat) : (halfN nm ns k).length = ns.length := by
  unfold halfN
  rw [List.length_append, List.length_map, List.length_take, List.length_drop]; omega
theorem half_at (nm : ByteArray) {ns : List Q.Nd} {k : Nat} (hk : k < ns.length) : (halfN nm ns k)[k]? = some ns[k] := by
  unfold halfN
  rw [List.getElem?_append_right (by simp; omega)]
  simp
  rw [Nat.min_eq_left (by omega), Nat.sub_self, Nat.add_zero]
  exact List.getElem?_eq_getElem hk
theorem half_step (nm : ByteArray) {ns : List Q.Nd} {k : Nat} (hk : k < ns.length) : (halfN nm ns k).set k (named nm ns[k]) = halfN nm ns (k + 1) := by
  unfold halfN
  have hl : ((ns.take k).map (named nm)).length = k := by simp; omega
  rw [List.set_append_right _ _ (by omega), hl, Nat.sub_self, List.drop_eq_getElem_cons hk, List.set_cons_zero, List.take_succ_eq_append_getElem hk, List.map_append, List.append_assoc]
  rfl
theorem half_all (nm : ByteArray) (ns : List Q.Nd) : halfN nm ns ns.length = ns.map (named nm) := by simp [halfN]
theorem mr_kept {w w' : World} {T : TypeId} {g g' : Nat} {M : Mr} (h : MrAt w T (some ⟨g, 0, none⟩) M) (k : MK (some ⟨g', 0, none⟩) w w') (hne : g' ≠ g) : MrAt w' T (some ⟨g, 0, none⟩) M := by
  cases M with
  | none => exact h
  | some p =>
    obtain ⟨B, S, o⟩ := p
    obtain ⟨b, e, a, r⟩ := h
    refine ⟨b, e, Lies.kept a k (fun e2 => ?_), r⟩
    injection e with e; injection e with e
    injection e2 with e2; injection e2 with e2
    exact hne (e2.trans e.symm)
theorem nds_mk {w w' : World} {T : TypeId} {mp : Option Addr} {M : Mr} (h : MrAt w T mp M) (hT : T ≠ 46) (k : MK mp w w') {a : Option Addr} {c : Nat} {ns : List Q.Nd} (P : Q.Nds w a c ns) : Q.Nds w' a c ns :=
  P.kept k (fun g eg e2 => by
    rcases h.form with h | ⟨b, h, cs, l2⟩
    · rw [h] at e2; cases e2
    · rcases P with ⟨h3, _⟩ | ⟨g3, sp, h3, _, _, _, l3⟩
      · rw [h3] at eg; cases eg
      · rw [h3] at eg; injection eg with eg; injection eg with eg; subst eg
        rw [h] at e2; injection e2 with e2; injection e2 with e2; subst e2
        exact Lies.other l2 l3 hT rfl)
theorem nds_some {w : World} {a : Option Addr} {c : Nat} {ns : List Q.Nd} (P : Q.Nds w a c ns) (h : 1 ≤ ns.length) : ∃ g, a = some ⟨g, 0, none⟩ ∧ g < w.heap.size := by
  rcases P with ⟨_, _, h3⟩ | ⟨g3, sp, h3, _, _, _, l3⟩
  · subst h3; simp at h
  · exact ⟨g3, h3, l3.lt⟩
end Go.Proofs.YtfkaagndlpcfdaaGreat

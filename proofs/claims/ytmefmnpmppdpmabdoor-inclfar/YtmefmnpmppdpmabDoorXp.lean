import Derived.Test.YtmefmnpmppdpmabDoorWk
import Derived.Test.YtmefmnpmppdpmabDoorCk
/- Rows of the program's pairs in memory: slices whose elements are three slices. -/
namespace Go.Proofs.YtmefmnpmppdpmabDoor
open Go.ChangeShapes Go.WideShapes Go.ChangeAt Go.RowKit

/-- A pair in memory: its slices, what it says. -/
structure Qb where
  ca : Option Addr
  cc : Nat
  la : Option Addr
  lc : Nat
  wa : Option Addr
  wc : Nat
  x : Pr
def Qb.cells (l : Qb) : List Value := [.slice l.ca l.x.c.length l.cc, .slice l.la l.x.l.length l.lc, .slice l.wa l.x.w.length l.wc]
def qflat (ls : List Qb) : List Value := ls.flatMap Qb.cells
def qrs (ls : List Qb) : List Pr := ls.map Qb.x
theorem qrs_len (ls : List Qb) : (qrs ls).length = ls.length := List.length_map ..
theorem qflat_app (a b : List Qb) : qflat (a ++ b) = qflat a ++ qflat b := by simp [qflat]
theorem qflat_get : ∀ (ls : List Qb) (k : Nat) (hk : k < ls.length) (i : Nat), i < 3 → (qflat ls)[k * 3 + i]? = (ls[k]).cells[i]?
  | [], _, hk, _, _ => by simp at hk
  | l :: r, 0, _, i, hi => by
    have e : qflat (l :: r) = l.cells ++ qflat r := rfl
    rw [e, List.getElem?_append_left (by show 0 * 3 + i < 3; omega)]
    simp
  | l :: r, k + 1, hk, i, hi => by
    have e : qflat (l :: r) = l.cells ++ qflat r := rfl
    rw [e, List.getElem?_append_right (by show 3 ≤ _; omega)]
    have := qflat_get r k (by simpa using hk) i hi
    have e2 : (k + 1) * 3 + i - l.cells.length = k * 3 + i := by show (k + 1) * 3 + i - 3 = _; omega
    rw [e2, this]
    simp
/-- A slice of n elements of three cells each. -/
def RowQ (w : World) (a : Option Addr) (c n : Nat) (xs : List Value) : Prop :=
  xs.length = n * 3 ∧ ((a = none ∧ c = 0 ∧ n = 0) ∨ ∃ g sp, a = some ⟨g, 0, none⟩ ∧ c * 3 = xs.length + sp.length ∧ n ≤ c ∧ c ≤ 9223372036854775807 ∧ Lies w g 51 (xs ++ sp))
section
variable {w w' : World} {a : Option Addr} {c n : Nat} {xs : List Value}
theorem RowQ.nil (w : World) : RowQ w none 0 0 [] := ⟨rfl, .inl ⟨rfl, rfl, rfl⟩⟩
theorem RowQ.kept {X : Nat → Prop} (h : RowQ w a c n xs) (k : Kept X w w') (hx : ∀ g, a = some ⟨g, 0, none⟩ → ¬ X g) : RowQ w' a c n xs := by
  obtain ⟨h0, h⟩ := h
  rcases h with h | ⟨g, sp, e, h1, h2, h3, l⟩
  · exact ⟨h0, .inl h⟩
  · exact ⟨h0, .inr ⟨g, sp, e, h1, h2, h3, l.kept k (hx g e)⟩⟩
theorem RowQ.below (h : RowQ w a c n xs) (k : Below w.heap.size w w') : RowQ w' a c n xs := h.kept (X := fun _ => False) (Kept.of_below k) (fun _ _ h => h)
theorem RowQ.lt (h : RowQ w a c n xs) {g : Nat} (e : a = some ⟨g, 0, none⟩) : g < w.heap.size := by
  obtain ⟨_, h⟩ := h
  rcases h with ⟨h, _⟩ | ⟨g', sp, e', _, _, _, l⟩
  · rw [h] at e; cases e
  · rw [e'] at e; injection e with e; injection e with e; subst e; exact l.lt
theorem RowQ.le (h : RowQ w a c n xs) : n ≤ c ∧ c ≤ 9223372036854775807 := by
  obtain ⟨_, h⟩ := h
  rcases h with ⟨_, h1, h2⟩ | ⟨_, _, _, _, h1, h2, _⟩
  · omega
  · exact ⟨h1, h2⟩
theorem RowQ.form (h : RowQ w a c n xs) : a = none ∨ ∃ g, a = some ⟨g, 0, none⟩ := by
  obtain ⟨_, h⟩ := h
  rcases h with ⟨e, _⟩ | ⟨g, _, e, _⟩
  · exact .inl e
  · exact .inr ⟨g, e⟩
theorem RowQ.cell (h : RowQ w a c n xs) {j : Nat} {u : Value} (hj : xs[j]? = some u) : ∃ g, a = some ⟨g, 0, none⟩ ∧ w.cell? ⟨g, j, none⟩ = some u := by
  obtain ⟨h0, h⟩ := h
  rcases h with ⟨_, _, h2⟩ | ⟨g, sp, e, _, _, _, l⟩
  · have : xs = [] := List.eq_nil_of_length_eq_zero (by omega)
    rw [this] at hj; simp at hj
  · refine ⟨g, e, ?_⟩
    rw [l.cell, List.getElem?_append_left (List.getElem?_eq_some_iff.1 hj).1]
    exact hj
theorem RowQ.own (h : RowQ w a c n xs) : w.ownsRow 0 51 3 (.slice a n c) n xs := by
  obtain ⟨h0, h⟩ := h
  refine ⟨h0, ?_⟩
  rcases h with ⟨rfl, rfl, rfl⟩ | ⟨g, sp, rfl, h1, h2, h3, l⟩
  · exact .inl ⟨rfl, rfl⟩
  · refine .inr ⟨g, c, _, rfl, Nat.zero_le _, l, h2, by unfold maxLen; omega, ?_, ?_⟩
    · simp; omega
    · rw [← h0]; simp
theorem own_rowQ {v : Value} (h : w.ownsRow 0 51 3 v n xs) : ∃ a c, v = .slice a n c ∧ RowQ w a c n xs := by
  obtain ⟨hl, h⟩ := h
  rcases h with ⟨rfl, rfl⟩ | ⟨g, cap, cur, rfl, _, hh, hn, hm, hs, ht⟩
  · obtain rfl : xs = [] := List.eq_nil_of_length_eq_zero (by omega)
    exact ⟨none, 0, rfl, RowQ.nil w⟩
  · unfold maxLen at hm
    refine ⟨_, _, rfl, hl, .inr ⟨g, cur.toList.drop (n * 3), rfl, ?_, hn, by omega, (lies_arr hh).to ?_⟩⟩
    · have h1 : cur.toList.length = cap * 3 := by simpa using hs
      rw [List.length_drop, h1, hl]; omega
    · rw [← ht, List.take_append_drop]
end
theorem Tryd.infoPairI : (Tryd.prog.info? 51).map (fun i => (i.zero, i.size, i.bytes)) = some (some (.agg #[.slice none 0 0, .slice none 0 0, .slice none 0 0]), 3, 72) := by kernel_rfl

/-- What append of the cells ys (m elements) to the row a comes to. -/
def AppendsQ (a : Option Addr) (n m : Nat) (xs ys : List Value) (w : World) (v : Value) (w' : World) : Prop :=
  ∃ a' c', v = .slice a' (n + m) c' ∧ RowQ w' a' c' (n + m) (xs ++ ys) ∧ Kept (fun g => a = some ⟨g, 0, none⟩) w w' ∧ ∀ g, a' = some ⟨g, 0, none⟩ → a = some ⟨g, 0, none⟩ ∨ w.heap.size ≤ g
theorem AppendsQ.below {a : Option Addr} {n m : Nat} {xs ys : List Value} {w w' : World} {v : Value} (h : AppendsQ a n m xs ys w v w') {B : Nat} (hB : B ≤ w.heap.size) (hf : From B a) : Below B w w' ∧ ∀ a' k c', v = .slice a' k c' → From B a' := by
  obtain ⟨a', c', rfl, r, k, f⟩ := h
  refine ⟨k.below (fun g e => hf g e) hB, fun a2 n c2 e g h => ?_⟩
  injection e with e
  subst e
  rcases f g h with h | h
  · exact hf g h
  · omega
theorem run_appQr_at (t ty : TypeId) (hu : Tryd.prog.underlying t = some (.slice 51))
    (a : Option Addr) (c n : Nat) (xs : List Value) (w : World) (R : RowQ w a c n xs) (ad : Addr) (m d : Nat) (ys : List Value) (hm : ys.length = m * 3) (hc : ∀ j u, ys[j]? = some u → w.cell? (ad.add j) = some u) (h1 : ∀ u ∈ ys, u.oneCell' = true) (hb : n + m ≤ 1000000000000) :
    ∃ v w', (Builtin.append_ #[t, t] ty #[.slice a n c, .slice (some ad) m d]).run Tryd.prog w = .ok v w' ∧ AppendsQ a n m xs ys w v w' := by
  obtain ⟨i, hi, hz, hsz, hby⟩ := info_parts Tryd.infoPairI
  have hform := R.form
  have hx := R.1
  obtain ⟨v', w', hr, h2, h3, _, h5⟩ := run_append_own_at (P := Tryd.prog) w 0 t ty 51 i _ 3 72 hu hi hz hsz hby (by simp [Value.cells]) (by omega) _ n xs R.own
    ad m d ys hm hc h1 (by unfold maxLen; omega) (by omega) (Nat.zero_le _)
  obtain ⟨a', c', rfl, r'⟩ := own_rowQ h2
  refine ⟨_, w', hr, a', c', rfl, r', ?_, fun g e => ?_⟩
  · refine ⟨h3.os, h3.tape, h3.output, h3.size, fun g hg hx => h3.block g hg (fun e => ?_)⟩
    obtain ⟨x, rfl, hx'⟩ := (ownBlock_slice a _ _ g).1 e.symm
    rcases hform with h | ⟨g', h⟩
    · cases h
    · injection h with h; subst h; subst hx'; exact hx rfl
  · subst e
    rcases h5 with h5 | h5
    · obtain ⟨x, rfl, hx⟩ := (ownBlock_slice a n c g).1 (by rw [← h5]; rfl)
      rcases hform with h | ⟨g', h⟩
      · cases h
      · injection h with h; subst h; subst hx; exact .inl rfl
    · have : g = w.heap.size := by simpa [Value.ownBlock] using h5
      exact .inr (by omega)
/-- What a pair holds lies where it says. -/
structure QbAt (W : World) (p : Qb) : Prop where
  c : Bag W p.ca p.cc p.x.c
  l : Its W p.la p.lc p.x.l
  w : Bag W p.wa p.wc p.x.w
/-- A slice of pairs. -/
structure Qbs (w : World) (a : Option Addr) (c : Nat) (ls : List Qb) : Prop where
  row : RowQ w a c ls.length (qflat ls)
  each : ∀ l ∈ ls, QbAt w l
def Qrs (w : World) (a : Option Addr) (c : Nat) (Q : List Pr) : Prop := ∃ ls, qrs ls = Q ∧ Qbs w a c ls
/-- Nothing in X is a block of bags' or of items. -/
def FarQ (X : Nat → Prop) (w : World) : Prop := (∀ g cs, Lies w g 65 cs → ¬ X g) ∧ ∀ g cs, Lies w g 3 cs → ¬ X g
section
variable {w w' : World} {a : Option Addr} {c : Nat} {ls : List Qb} {Q : List Pr} {X : Nat → Prop}
theorem Bag.farQ {b : Option Addr} {d : Nat} {xs : List Int} (h : Bag w b d xs) (k : Kept X w w') (f : FarQ X w) : Bag w' b d xs := h.kept k (fun g e => by
  rcases h with ⟨h3, _⟩ | ⟨g', sp, h3, _, _, l⟩
  · rw [h3] at e; cases e
  · rw [h3] at e; injection e with e; injection e with e; subst e
    exact f.2 _ _ l)
theorem QbAt.far {l : Qb} (h : QbAt w l) (k : Kept X w w') (f : FarQ X w) : QbAt w' l := ⟨h.c.farQ k f, h.l.kept k f.1 f.2, h.w.farQ k f⟩
theorem QbAt.below {l : Qb} (h : QbAt w l) (k : Below w.heap.size w w') : QbAt w' l := ⟨h.c.below k, h.l.below k, h.w.below k⟩
theorem Qbs.nil (w : World) : Qbs w none 0 [] := ⟨RowQ.nil w, fun l h => by simp at h⟩
theorem Qbs.below (h : Qbs w a c ls) (k : Below w.heap.size w w') : Qbs w' a c ls := ⟨h.row.below k, fun l hl => (h.each l hl).below k⟩
theorem Qrs.below (h : Qrs w a c Q) (k : Below w.heap.size w w') : Qrs w' a c Q := by
  obtain ⟨ls, e, h⟩ := h
  exact ⟨ls, e, h.below k⟩
theorem RowQ.lies {n : Nat} {xs : List Value} (h : RowQ w a c n xs) {g : Nat} (e : a = some ⟨g, 0, none⟩) : ∃ cs, Lies w g 51 cs := by
  rcases h.2 with ⟨h3, _⟩ | ⟨g', sp, h3, _, _, _, l⟩
  · rw [h3] at e; cases e
  · rw [h3] at e; injection e with e; injection e with e; subst e
    exact ⟨_, l⟩
theorem Qrs.far (h : Qrs w a c Q) (k : Kept X w w') (f : FarQ X w) (hp : ∀ g, a = some ⟨g, 0, none⟩ → ¬ X g) : Qrs w' a c Q := by
  obtain ⟨ls, e, h⟩ := h
  exact ⟨ls, e, h.row.kept k hp, fun l hl => (h.each l hl).far k f⟩
theorem Qrs.le (h : Qrs w a c Q) : Q.length ≤ c ∧ c ≤ 9223372036854775807 := by
  obtain ⟨ls, rfl, h⟩ := h
  rw [qrs_len]
  exact h.row.le
theorem Qrs.lt (h : Qrs w a c Q) {g : Nat} (e : a = some ⟨g, 0, none⟩) : g < w.heap.size := by
  obtain ⟨ls, _, h⟩ := h
  exact h.row.lt e
theorem Qrs.lies (h : Qrs w a c Q) {g : Nat} (e : a = some ⟨g, 0, none⟩) : ∃ cs, Lies w g 51 cs := by
  obtain ⟨ls, _, h⟩ := h
  exact h.row.lies e
theorem Qrs.at (h : Qrs w a c Q) {k : Nat} (hk : k < Q.length) : ∃ g l, a = some ⟨g, 0, none⟩ ∧ Qb.x l = prAt Q k ∧ (∀ i, i < 3 → w.cell? ⟨g, k * 3 + i, none⟩ = l.cells[i]?) ∧ QbAt w l := by
  obtain ⟨ls, rfl, h⟩ := h
  rw [qrs_len] at hk
  have e : (ls[k]).x = prAt (qrs ls) k := by simp [prAt, qrs, List.getD, hk]
  obtain ⟨g, ha⟩ : ∃ g, a = some ⟨g, 0, none⟩ := by
    have f0 := qflat_get ls k hk 0 (by omega)
    obtain ⟨g, e0, _⟩ := h.row.cell (j := k * 3 + 0) (u := .slice (ls[k]).ca (ls[k]).x.c.length (ls[k]).cc) (by rw [f0]; rfl)
    exact ⟨g, e0⟩
  refine ⟨g, ls[k], ha, e, fun i hi => ?_, h.each _ (List.getElem_mem hk)⟩
  have f := qflat_get ls k hk i hi
  have hi' : i < (ls[k]).cells.length := hi
  rw [List.getElem?_eq_getElem hi'] at f
  obtain ⟨g', e', c'⟩ := h.row.cell f
  rw [ha] at e'
  injection e' with e'; injection e' with e'; subst e'
  rw [c', List.getElem?_eq_getElem hi']
/-- append of one pair. -/
theorem qrs_push {l : Qb} {n : Nat} {v : Value} (hs : qrs ls = Q) (h : Qbs w a c ls) (hl : QbAt w l) (hn : Q.length = n) (r : AppendsQ a n 1 (qflat ls) l.cells w v w') :
    ∃ a' c', v = .slice a' (n + 1) c' ∧ Qrs w' a' c' (Q ++ [l.x]) ∧ Kept (fun g => a = some ⟨g, 0, none⟩) w w' ∧ ∀ g, a' = some ⟨g, 0, none⟩ → a = some ⟨g, 0, none⟩ ∨ w.heap.size ≤ g := by
  subst hn hs
  obtain ⟨a', c', rfl, R, k, f⟩ := r
  have fr : FarQ (fun g => a = some ⟨g, 0, none⟩) w := ⟨fun g cs l e => by
      obtain ⟨ds, l2⟩ := h.row.lies e
      exact l.other l2 (by decide) rfl, fun g cs l e => by
      obtain ⟨ds, l2⟩ := h.row.lies e
      exact l.other l2 (by decide) rfl⟩
  refine ⟨a', c', rfl, ⟨ls ++ [l], by simp [qrs], ⟨?_, fun z hz => ?_⟩⟩, k, f⟩
  · rw [qflat_app, List.length_append]
    have e : qflat [l] = l.cells := by simp [qflat]
    rw [e]
    rw [qrs_len] at R
    exact R
  · rcases List.mem_append.1 hz with hz | hz
    · exact (h.each z hz).far k fr
    · rw [List.mem_singleton] at hz; subst hz
      exact hl.far k fr
end
end Go.Proofs.YtmefmnpmppdpmabDoor

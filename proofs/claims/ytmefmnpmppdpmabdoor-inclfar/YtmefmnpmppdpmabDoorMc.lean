import Derived.Test.YtmefmnpmppdpmabDoorL
import Derived.Test.YtmefmnpmppdpmabDoorHa
import Derived.Test.YtmefmnpmppdpmabDoorC
import Derived.Test.YtmefmnpmppdpmabDoorCd
import Derived.Deep.RegionHeld3
import Derived.Deep.CutBlock
import Derived.Deep.DeepCutAuto
import Derived.Deep.CutRange
/- The reference's SameSemi. -/

/-! Rows of linear sets: slices whose elements are two slices. -/
namespace Go.Proofs.YtmefmnpmppdpmabDoor
open Go.ChangeShapes Go.WideShapes Go.ChangeAt Go.RowKit

/-- A linear set in memory: its two slices, what it says. -/
structure Lb where
  a : Option Addr
  c : Nat
  pa : Option Addr
  pc : Nat
  x : Lin
def Lb.cells (l : Lb) : List Value := [.slice l.a l.x.base.length l.c, .slice l.pa l.x.ps.length l.pc]
def lflat (ls : List Lb) : List Value := ls.flatMap Lb.cells
def lins (ls : List Lb) : List Lin := ls.map Lb.x
theorem lins_len (ls : List Lb) : (lins ls).length = ls.length := List.length_map ..
theorem lflat_len : ∀ ls : List Lb, (lflat ls).length = ls.length * 2
  | [] => rfl
  | l :: r => by
    have e : lflat (l :: r) = l.cells ++ lflat r := rfl
    rw [e, List.length_append, lflat_len r, List.length_cons]
    show 2 + _ = _
    omega
theorem lflat_app (a b : List Lb) : lflat (a ++ b) = lflat a ++ lflat b := by simp [lflat]
theorem lflat_get : ∀ (ls : List Lb) (k : Nat) (hk : k < ls.length) (i : Nat), i < 2 → (lflat ls)[k * 2 + i]? = (ls[k]).cells[i]?
  | [], _, hk, _, _ => by simp at hk
  | l :: r, 0, _, i, hi => by
    have e : lflat (l :: r) = l.cells ++ lflat r := rfl
    rw [e, List.getElem?_append_left (by show 0 * 2 + i < 2; omega)]
    simp
  | l :: r, k + 1, hk, i, hi => by
    have e : lflat (l :: r) = l.cells ++ lflat r := rfl
    rw [e, List.getElem?_append_right (by show 2 ≤ _; omega)]
    have := lflat_get r k (by simpa using hk) i hi
    have e2 : (k + 1) * 2 + i - l.cells.length = k * 2 + i := by show (k + 1) * 2 + i - 2 = _; omega
    rw [e2, this]
    simp
theorem lflat_one (ls : List Lb) : ∀ x ∈ lflat ls, x.oneCell' = true := fun x hx => by
  obtain ⟨l, _, h⟩ := List.mem_flatMap.1 hx
  simp only [Lb.cells, List.mem_cons, List.not_mem_nil, or_false] at h
  rcases h with rfl | rfl <;> rfl

/-- A slice of n elements of two cells each. -/
def Row2 (w : World) (a : Option Addr) (c n : Nat) (xs : List Value) : Prop :=
  xs.length = n * 2 ∧ ((a = none ∧ c = 0 ∧ n = 0) ∨ ∃ g sp, a = some ⟨g, 0, none⟩ ∧ c * 2 = xs.length + sp.length ∧ n ≤ c ∧ c ≤ 9223372036854775807 ∧ Lies w g 28 (xs ++ sp))
section
variable {w w' : World} {a : Option Addr} {c n : Nat} {xs : List Value}
theorem Row2.nil (w : World) : Row2 w none 0 0 [] := ⟨rfl, .inl ⟨rfl, rfl, rfl⟩⟩
theorem Row2.kept {X : Nat → Prop} (h : Row2 w a c n xs) (k : Kept X w w') (hx : ∀ g, a = some ⟨g, 0, none⟩ → ¬ X g) : Row2 w' a c n xs := by
  obtain ⟨h0, h⟩ := h
  rcases h with h | ⟨g, sp, e, h1, h2, h3, l⟩
  · exact ⟨h0, .inl h⟩
  · exact ⟨h0, .inr ⟨g, sp, e, h1, h2, h3, l.kept k (hx g e)⟩⟩
theorem Row2.below (h : Row2 w a c n xs) (k : Below w.heap.size w w') : Row2 w' a c n xs := h.kept (X := fun _ => False) (Kept.of_below k) (fun _ _ h => h)
theorem Row2.lt (h : Row2 w a c n xs) {g : Nat} (e : a = some ⟨g, 0, none⟩) : g < w.heap.size := by
  obtain ⟨_, h⟩ := h
  rcases h with ⟨h, _⟩ | ⟨g', sp, e', _, _, _, l⟩
  · rw [h] at e; cases e
  · rw [e'] at e; injection e with e; injection e with e; subst e; exact l.lt
theorem Row2.le (h : Row2 w a c n xs) : n ≤ c ∧ c ≤ 9223372036854775807 := by
  obtain ⟨_, h⟩ := h
  rcases h with ⟨_, h1, h2⟩ | ⟨_, _, _, _, h1, h2, _⟩
  · omega
  · exact ⟨h1, h2⟩
theorem Row2.form (h : Row2 w a c n xs) : a = none ∨ ∃ g, a = some ⟨g, 0, none⟩ := by
  obtain ⟨_, h⟩ := h
  rcases h with ⟨e, _⟩ | ⟨g, _, e, _⟩
  · exact .inl e
  · exact .inr ⟨g, e⟩
theorem Row2.cell (h : Row2 w a c n xs) {j : Nat} {u : Value} (hj : xs[j]? = some u) : ∃ g, a = some ⟨g, 0, none⟩ ∧ w.cell? ⟨g, j, none⟩ = some u := by
  obtain ⟨h0, h⟩ := h
  rcases h with ⟨_, _, h2⟩ | ⟨g, sp, e, _, _, _, l⟩
  · have : xs = [] := List.eq_nil_of_length_eq_zero (by omega)
    rw [this] at hj; simp at hj
  · refine ⟨g, e, ?_⟩
    rw [l.cell, List.getElem?_append_left (List.getElem?_eq_some_iff.1 hj).1]
    exact hj
theorem Row2.own (h : Row2 w a c n xs) : w.ownsRow 0 28 2 (.slice a n c) n xs := by
  obtain ⟨h0, h⟩ := h
  refine ⟨h0, ?_⟩
  rcases h with ⟨rfl, rfl, rfl⟩ | ⟨g, sp, rfl, h1, h2, h3, l⟩
  · exact .inl ⟨rfl, rfl⟩
  · refine .inr ⟨g, c, _, rfl, Nat.zero_le _, l, h2, by unfold maxLen; omega, ?_, ?_⟩
    · simp; omega
    · rw [← h0]; simp
theorem own_row2 {v : Value} (h : w.ownsRow 0 28 2 v n xs) : ∃ a c, v = .slice a n c ∧ Row2 w a c n xs := by
  obtain ⟨hl, h⟩ := h
  rcases h with ⟨rfl, rfl⟩ | ⟨g, cap, cur, rfl, _, hh, hn, hm, hs, ht⟩
  · obtain rfl : xs = [] := List.eq_nil_of_length_eq_zero (by omega)
    exact ⟨none, 0, rfl, Row2.nil w⟩
  · unfold maxLen at hm
    refine ⟨_, _, rfl, hl, .inr ⟨g, cur.toList.drop (n * 2), rfl, ?_, hn, by omega, (lies_arr hh).to ?_⟩⟩
    · have h1 : cur.toList.length = cap * 2 := by simpa using hs
      rw [List.length_drop, h1, hl]; omega
    · rw [← ht, List.take_append_drop]
end
theorem Tryd.infoLin : (Tryd.prog.info? 28).map (fun i => (i.zero, i.size, i.bytes)) = some (some (.agg #[.slice none 0 0, .slice none 0 0]), 2, 48) := by kernel_rfl

/-- What append of the cells ys (m elements) to the row a comes to. -/
def Appends2 (a : Option Addr) (n m : Nat) (xs ys : List Value) (w : World) (v : Value) (w' : World) : Prop :=
  ∃ a' c', v = .slice a' (n + m) c' ∧ Row2 w' a' c' (n + m) (xs ++ ys) ∧ Kept (fun g => a = some ⟨g, 0, none⟩) w w' ∧ ∀ g, a' = some ⟨g, 0, none⟩ → a = some ⟨g, 0, none⟩ ∨ w.heap.size ≤ g
theorem Appends2.below {a : Option Addr} {n m : Nat} {xs ys : List Value} {w w' : World} {v : Value} (h : Appends2 a n m xs ys w v w') {B : Nat} (hB : B ≤ w.heap.size) (hf : From B a) : Below B w w' ∧ ∀ a' k c', v = .slice a' k c' → From B a' := by
  obtain ⟨a', c', rfl, r, k, f⟩ := h
  refine ⟨k.below (fun g e => hf g e) hB, fun a2 n c2 e g h => ?_⟩
  injection e with e
  subst e
  rcases f g h with h | h
  · exact hf g h
  · omega
theorem run_app2_at (t ty : TypeId) (hu : Tryd.prog.underlying t = some (.slice 28))
    (a : Option Addr) (c n : Nat) (xs : List Value) (w : World) (R : Row2 w a c n xs) (ad : Addr) (m d : Nat) (ys : List Value) (hm : ys.length = m * 2) (hc : ∀ j u, ys[j]? = some u → w.cell? (ad.add j) = some u) (h1 : ∀ u ∈ ys, u.oneCell' = true) (hb : n + m ≤ 1000000000000) :
    ∃ v w', (Builtin.append_ #[t, t] ty #[.slice a n c, .slice (some ad) m d]).run Tryd.prog w = .ok v w' ∧ Appends2 a n m xs ys w v w' := by
  obtain ⟨i, hi, hz, hsz, hby⟩ := info_parts Tryd.infoLin
  have hform := R.form
  have hx := R.1
  obtain ⟨v', w', hr, h2, h3, _, h5⟩ := run_append_own_at (P := Tryd.prog) w 0 t ty 28 i _ 2 48 hu hi hz hsz hby (by simp [Value.cells]) (by omega) _ n xs R.own
    ad m d ys hm hc h1 (by unfold maxLen; omega) (by omega) (Nat.zero_le _)
  obtain ⟨a', c', rfl, r'⟩ := own_row2 h2
  refine ⟨_, w', hr, a', c', rfl, r', ?_, fun g e => ?_⟩
  · refine ⟨h3.os, h3.tape, h3.output, h3.size, fun g hg hx => h3.block g hg (fun e => ?_)⟩
    obtain ⟨x, rfl, hx'⟩ := (ownBlock_slice a _ _ g).1 e.symm
    rcases hform with h | ⟨g', h⟩
    · cases h
    · injection h with h; subst h; subst hx'; exact hx rfl
  · subst e
    rcases h5 with h5 | h5
    · obtain ⟨x, rfl, hx⟩ := (ownBlock_slice a n c g).1 (by rw [← h5]; rfl)
      rcases hform with h | ⟨g', h⟩
      · cases h
      · injection h with h; subst h; subst hx; exact .inl rfl
    · have : g = w.heap.size := by simpa [Value.ownBlock] using h5
      exact .inr (by omega)
theorem run_app2_nil (t ty : TypeId) (hu : Tryd.prog.underlying t = some (.slice 28)) (a : Option Addr) (c n : Nat) (xs : List Value) (w : World) (R : Row2 w a c n xs) :
    ∃ v w', (Builtin.append_ #[t, t] ty #[.slice a n c, .slice none 0 0]).run Tryd.prog w = .ok v w' ∧ Appends2 a n 0 xs [] w v w' := by
  obtain ⟨i, hi, hz, hsz, hby⟩ := info_parts Tryd.infoLin
  refine ⟨_, _, run_append_owned_none (w := w) 0 t ty 28 i 2 hu hi _ n xs R.own, a, c, by simp, by simpa using R, Kept.refl _ _, fun g e => .inl e⟩

/-- A slice of linear sets. -/
structure Lbs (w : World) (a : Option Addr) (c : Nat) (ls : List Lb) : Prop where
  row : Row2 w a c ls.length (lflat ls)
  each : ∀ l ∈ ls, Bag w l.a l.c l.x.base ∧ Bags w l.pa l.pc l.x.ps
def Lins (w : World) (a : Option Addr) (c : Nat) (s : List Lin) : Prop := ∃ ls, lins ls = s ∧ Lbs w a c ls
section
variable {w w' : World} {a : Option Addr} {c : Nat} {ls : List Lb} {s : List Lin}
theorem Lbs.nil (w : World) : Lbs w none 0 [] := ⟨Row2.nil w, fun l h => by simp at h⟩
theorem Lbs.below (h : Lbs w a c ls) (k : Below w.heap.size w w') : Lbs w' a c ls := ⟨h.row.below k, fun l hl => ⟨(h.each l hl).1.below k, (h.each l hl).2.below k⟩⟩
theorem Lins.nil (w : World) : Lins w none 0 [] := ⟨[], rfl, Lbs.nil w⟩
theorem Lins.below (h : Lins w a c s) (k : Below w.heap.size w w') : Lins w' a c s := by
  obtain ⟨ls, e, h⟩ := h
  exact ⟨ls, e, h.below k⟩
theorem Lins.le (h : Lins w a c s) : s.length ≤ c ∧ c ≤ 9223372036854775807 := by
  obtain ⟨ls, rfl, h⟩ := h
  rw [lins_len]
  exact h.row.le
theorem Lins.lt (h : Lins w a c s) {g : Nat} (e : a = some ⟨g, 0, none⟩) : g < w.heap.size := by
  obtain ⟨ls, _, h⟩ := h
  exact h.row.lt e
theorem Lbs.at (h : Lbs w a c ls) {k : Nat} (hk : k < ls.length) : ∃ g, a = some ⟨g, 0, none⟩ ∧ w.cell? ⟨g, k * 2, none⟩ = some (.slice (ls[k]).a (ls[k]).x.base.length (ls[k]).c) ∧ w.cell? ⟨g, k * 2 + 1, none⟩ = some (.slice (ls[k]).pa (ls[k]).x.ps.length (ls[k]).pc) ∧
    Bag w (ls[k]).a (ls[k]).c (ls[k]).x.base ∧ Bags w (ls[k]).pa (ls[k]).pc (ls[k]).x.ps := by
  have f0 := lflat_get ls k hk 0 (by omega)
  have f1 := lflat_get ls k hk 1 (by omega)
  obtain ⟨g, e0, c0⟩ := h.row.cell (j := k * 2 + 0) (u := .slice (ls[k]).a (ls[k]).x.base.length (ls[k]).c) (by rw [f0]; rfl)
  obtain ⟨g', e1, c1⟩ := h.row.cell (j := k * 2 + 1) (u := .slice (ls[k]).pa (ls[k]).x.ps.length (ls[k]).pc) (by rw [f1]; rfl)
  rw [e0] at e1
  injection e1 with e1; injection e1 with e1; subst e1
  exact ⟨g, e0, c0, c1, h.each _ (List.getElem_mem hk)⟩
def linAt (s : List Lin) (k : Nat) : Lin := s.getD k ⟨[], []⟩
theorem Lins.at (h : Lins w a c s) {k : Nat} (hk : k < s.length) : ∃ g b d pb pd, a = some ⟨g, 0, none⟩ ∧ w.cell? ⟨g, k * 2, none⟩ = some (.slice b (linAt s k).base.length d) ∧ w.cell? ⟨g, k * 2 + 1, none⟩ = some (.slice pb (linAt s k).ps.length pd) ∧
    Bag w b d (linAt s k).base ∧ Bags w pb pd (linAt s k).ps := by
  obtain ⟨ls, rfl, h⟩ := h
  rw [lins_len] at hk
  have e : linAt (lins ls) k = (ls[k]).x := by simp [linAt, lins, List.getD, hk]
  obtain ⟨g, h1, h2, h3, h4, h5⟩ := h.at hk
  rw [e]
  exact ⟨g, _, _, _, _, h1, h2, h3, h4, h5⟩
end
end Go.Proofs.YtmefmnpmppdpmabDoor

/-! The reference's SameSemi. -/
namespace Go.Proofs.YtmefmnpmppdpmabDoor
open Go.ChangeShapes Go.WideShapes Go.ChangeAt Go.RowKit
end Go.Proofs.YtmefmnpmppdpmabDoor
/- The reference's CompareLin. -/
namespace Go.Proofs.YtmefmnpmppdpmabDoor
open Go.ChangeShapes Go.WideShapes Go.ChangeAt Go.RowKit
/-- Two linear sets in boxes gb, gb + 1. -/
structure TwoSt (w : World) (gb : Nat) (a pa a' pa' : Option Addr) (c n pc m c' n' pc' m' : Nat) (x y : Lin) (W : World) : Prop where
  bel : Below w.heap.size w W
  lx : Lies W gb 28 [.slice a n c, .slice pa m pc]
  ly : Lies W (gb + 1) 28 [.slice a' n' c', .slice pa' m' pc']
  bx : Bag W a c x.base
  px : Bags W pa pc x.ps
  bY : Bag W a' c' y.base
  pY : Bags W pa' pc' y.ps
theorem TwoSt.below {w W W' : World} {gb : Nat} {a pa a' pa' : Option Addr} {c n pc m c' n' pc' m' : Nat} {x y : Lin} (h : TwoSt w gb a pa a' pa' c n pc m c' n' pc' m' x y W) (k : Below W.heap.size W W') : TwoSt w gb a pa a' pa' c n pc m c' n' pc' m' x y W' :=
  ⟨h.bel.trans (k.mono h.bel.size), h.lx.below k h.lx.lt, h.ly.below k h.ly.lt, h.bx.below k, h.px.below k, h.bY.below k, h.pY.below k⟩
end Go.Proofs.YtmefmnpmppdpmabDoor
/- The reference's RightSemi. -/
namespace Go.Proofs.YtmefmnpmppdpmabDoor
open Go.ChangeShapes Go.WideShapes Go.ChangeAt Go.RowKit
/-- Up to place k they are right, and rise. -/
def UpTo (s : List Lin) (k : Nat) : Prop := ∀ j, j < k → rightLin (linAt s j) = true ∧ (0 < j → cmpLin (linAt s (j - 1)) (linAt s j) < 0)
theorem upTo_cons {x : Lin} {r : List Lin} : UpTo (x :: r) (r.length + 1) ↔ rightLin x = true ∧ (0 < r.length → cmpLin x (linAt r 0) < 0) ∧ UpTo r r.length := by
  have e0 : linAt (x :: r) 0 = x := rfl
  have e1 : ∀ j, linAt (x :: r) (j + 1) = linAt r j := fun j => by simp [linAt, List.getD]
  constructor
  · intro h
    refine ⟨?_, fun hp => ?_, fun j hj => ?_⟩
    · have := (h 0 (by omega)).1
      rwa [e0] at this
    · have := (h 1 (by omega)).2 (by omega)
      rw [show (1 : Nat) - 1 = 0 from rfl, e0, show (1 : Nat) = 0 + 1 from rfl, e1] at this
      exact this
    · have := h (j + 1) (by omega)
      rw [e1] at this
      refine ⟨this.1, fun hp => ?_⟩
      have h2 := this.2 (by omega)
      obtain ⟨i, rfl⟩ : ∃ i, j = i + 1 := ⟨j - 1, by omega⟩
      rw [show i + 1 + 1 - 1 = i + 1 from rfl, e1] at h2
      exact h2
  · rintro ⟨h1, h2, h3⟩ j hj
    cases j with
    | zero => rw [e0]; exact ⟨h1, fun h => by omega⟩
    | succ j =>
      rw [e1]
      have := h3 j (by omega)
      refine ⟨this.1, fun _ => ?_⟩
      cases j with
      | zero => exact h2 (by omega)
      | succ i =>
        have h4 := this.2 (by omega)
        rw [show i + 1 + 1 - 1 = i + 1 from rfl, e1]
        exact h4
theorem rightS_upTo : ∀ (s : List Lin), rightS s = true ↔ UpTo s s.length
  | [] => by simp [rightS, UpTo]
  | x :: r => by
    rw [List.length_cons, upTo_cons, ← rightS_upTo r]
    cases r with
    | nil => simp [rightS]
    | cons y q =>
      have e : rightS (x :: y :: q) = (rightLin x && decide (cmpLin x y < 0) && rightS (y :: q)) := rfl
      rw [e, Bool.and_eq_true, Bool.and_eq_true, decide_eq_true_eq]
      have e0 : linAt (y :: q) 0 = y := rfl
      rw [e0]
      constructor
      · rintro ⟨⟨h1, h2⟩, h3⟩; exact ⟨h1, fun _ => h2, h3⟩
      · rintro ⟨h1, h2, h3⟩; exact ⟨⟨h1, h2 (by simp)⟩, h3⟩
theorem rightS_bad {s : List Lin} {k : Nat} (hk : k < s.length) (h : ¬ (rightLin (linAt s k) = true ∧ (0 < k → cmpLin (linAt s (k - 1)) (linAt s k) < 0))) : rightS s = false := by
  rw [← Bool.not_eq_true, rightS_upTo]
  exact fun h2 => h (h2 k hk)

end Go.Proofs.YtmefmnpmppdpmabDoor

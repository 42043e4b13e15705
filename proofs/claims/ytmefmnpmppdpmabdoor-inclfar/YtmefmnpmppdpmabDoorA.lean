import Derived.Test.YtmefmnpmppdpmabDoorRows
import Derived.Test.YtmefmnpmppdpmabDoorL
import Derived.OwnWalk
import Derived.Maps.AppendAt
import Derived.Lib.AppendZeros
import Derived.Laws.OwnMore
import Derived.Laws.CopyOwn
import Derived.IntWalk
import Derived.WalkKit
import Derived.ProofKit
import Derived.OpenShut
import Derived.Below
import Derived.Lib.Hide
import Derived.Deep.QuietTactic
import Derived.BigQuiet
/- Words for memory: what a call leaves alone, a block that is known whole, a slice of numbers at the head of a block of its own; a slice of numbers that came in. -/
namespace Go.Proofs.YtmefmnpmppdpmabDoor
open Go.ChangeShapes Go.WideShapes Go.ChangeAt Go.RowKit

/-- Of the blocks that there were none but those of X has turned. -/
structure Kept (X : Nat → Prop) (w w' : World) : Prop where
  os : w'.os = w.os
  tape : w'.tape = w.tape
  output : w'.output = w.output
  size : w.heap.size ≤ w'.heap.size
  block : ∀ k, k < w.heap.size → ¬ X k → w'.heap[k]? = w.heap[k]?

section
variable {X Y : Nat → Prop} {w w' a b c : World}
theorem Kept.refl (X : Nat → Prop) (w : World) : Kept X w w := ⟨rfl, rfl, rfl, Nat.le_refl _, fun _ _ _ => rfl⟩
theorem Kept.trans (h : Kept X a b) (k : Kept Y b c) (hY : ∀ i, i < a.heap.size → Y i → X i) : Kept X a c :=
  ⟨k.os.trans h.os, k.tape.trans h.tape, k.output.trans h.output, Nat.le_trans h.size k.size,
   fun i hi hx => (k.block i (Nat.lt_of_lt_of_le hi h.size) (fun y => hx (hY i hi y))).trans (h.block i hi hx)⟩
theorem Kept.mono (h : Kept X a b) (hY : ∀ i, i < a.heap.size → X i → Y i) : Kept Y a b :=
  ⟨h.os, h.tape, h.output, h.size, fun i hi hx => h.block i hi (fun y => hx (hY i hi y))⟩
theorem Kept.drewN (h : Kept X a b) (n : Nat) : Kept X a (b.drewN n) := ⟨h.os, h.tape, h.output, h.size, h.block⟩
theorem Kept.drew (h : Kept X a b) : Kept X a b.drew := ⟨h.os, h.tape, h.output, h.size, h.block⟩
theorem Kept.alloc (h : Kept X a b) (o : Obj) : Kept X a (b.alloc o) :=
  h.trans (Y := fun _ => False) ⟨rfl, rfl, rfl, by simp, fun k hk _ => Below.heap_alloc _ _ _ hk⟩ (fun _ _ h => h.elim)
theorem Kept.setCell (h : Kept X a b) {p : Addr} (hp : p.block < a.heap.size → X p.block) (u : Value) : Kept X a (b.setCell p u) :=
  h.trans (Y := fun k => k = p.block) ⟨rfl, rfl, rfl, by simp [World.setCell], fun k _ hx => Below.heap_setCell _ _ _ _ hx⟩ (fun i hi e => by subst e; exact hp hi)
theorem Kept.below {B : Nat} (h : Kept X a b) (hX : ∀ k, X k → B ≤ k) (hB : B ≤ a.heap.size) : Below B a b :=
  ⟨h.os, h.tape, h.output, h.size, fun k hk => h.block k (by omega) (fun x => by have := hX k x; omega)⟩
theorem Kept.of_below (h : Below a.heap.size a b) : Kept X a b := ⟨h.os, h.tape, h.output, h.size, fun k hk _ => h.block k hk⟩
end

/-- Block g is just the cells cs of elements t, none frozen. -/
def Lies (w : World) (g : Nat) (t : TypeId) (cs : List Value) : Prop := w.heap[g]? = some (.cells cs.toArray t (0, 0))

section
variable {w w' : World} {g : Nat} {t : TypeId} {cs : List Value}
theorem Lies.lt (h : Lies w g t cs) : g < w.heap.size := (Array.getElem?_eq_some_iff.1 h).1
theorem Lies.cell (h : Lies w g t cs) (i : Nat) : w.cell? ⟨g, i, none⟩ = cs[i]? := by
  unfold Lies at h
  simp [World.cell?, h]
theorem Lies.frozen (h : Lies w g t cs) (i : Nat) : w.frozen? ⟨g, i, none⟩ = false := by
  unfold Lies at h
  simp [World.frozen?, h]
theorem Lies.kept {X : Nat → Prop} (h : Lies w g t cs) (k : Kept X w w') (hx : ¬ X g) : Lies w' g t cs := (k.block g h.lt hx).trans h
theorem Lies.below {B : Nat} (h : Lies w g t cs) (k : Below B w w') (hx : g < B) : Lies w' g t cs := (k.block g hx).trans h
theorem Lies.drewN (h : Lies w g t cs) (n : Nat) : Lies (w.drewN n) g t cs := h
theorem Lies.drew (h : Lies w g t cs) : Lies w.drew g t cs := h
theorem Lies.alloc (h : Lies w g t cs) (o : Obj) : Lies (w.alloc o) g t cs := (Below.heap_alloc w o g h.lt).trans h
theorem Lies.new (w : World) (t : TypeId) (cs : List Value) : Lies (w.alloc (.cells cs.toArray t)) w.heap.size t cs := heap_alloc_new w _
theorem Lies.set (h : Lies w g t cs) (i : Nat) (u : Value) : Lies (w.setCell ⟨g, i, none⟩ u) g t (cs.set i u) := by
  unfold Lies at h ⊢
  simp [World.setCell, Array.getElem?_modify, h]
theorem Lies.far (h : Lies w g t cs) {p : Addr} (hp : g ≠ p.block) (u : Value) : Lies (w.setCell p u) g t cs := (Below.heap_setCell w p u g hp).trans h
theorem Lies.to {cs' : List Value} (h : Lies w g t cs) (e : cs = cs') : Lies w g t cs' := e ▸ h
theorem Lies.other {g' : Nat} {t' : TypeId} {cs' : List Value} (h : Lies w g t cs) (h' : Lies w g' t' cs') (hne : t ≠ t') : g ≠ g' := by
  rintro rfl
  unfold Lies at h h'
  rw [h] at h'
  injection h' with h'
  injection h' with _ ht
  exact hne ht
end

theorem Lies.setCells {g : Nat} {t : TypeId} : ∀ (vs : List Value) (o : Nat) (w : World) (cs : List Value), Lies w g t cs → o + vs.length ≤ cs.length →
    Lies (w.setCells g o vs) g t (cs.take o ++ vs ++ cs.drop (o + vs.length))
  | [], o, w, cs, h, _ => by simpa [World.setCells] using h
  | v :: r, o, w, cs, h, hl => by
    simp only [List.length_cons] at hl
    have := Lies.setCells r (o + 1) _ _ (h.set o v) (by simp; omega)
    rw [World.setCells]
    refine this.to ?_
    rw [List.drop_set_of_lt (by omega), List.take_succ_eq_append_getElem (by simp; omega), List.take_set_of_le (Nat.le_refl _)]
    simp [show o + 1 + r.length = o + (r.length + 1) by omega]

theorem setCells_kept (g : Nat) : ∀ (vs : List Value) (o : Nat) (w : World), Kept (fun k => k = g) w (w.setCells g o vs)
  | [], _, w => Kept.refl _ w
  | v :: r, o, w => ((Kept.refl (fun k => k = g) w).setCell (p := ⟨g, o, none⟩) (fun _ => rfl) v).trans (setCells_kept g r (o + 1) _) (fun _ _ h => h)

/-- The slice of address a, length xs.length and capacity c is nil, or stands at the head of a block of its own: xs, and spare room. -/
def Row (w : World) (t : TypeId) (a : Option Addr) (c : Nat) (xs : List Value) : Prop :=
  (a = none ∧ c = 0 ∧ xs = []) ∨ ∃ g sp, a = some ⟨g, 0, none⟩ ∧ c = xs.length + sp.length ∧ c ≤ 9223372036854775807 ∧ Lies w g t (xs ++ sp)

theorem Row.nil (w : World) (t : TypeId) : Row w t none 0 [] := .inl ⟨rfl, rfl, rfl⟩
theorem Row.kept {X : Nat → Prop} {w w' : World} {t : TypeId} {a : Option Addr} {c : Nat} {xs : List Value} (h : Row w t a c xs) (k : Kept X w w') (hx : ∀ g, a = some ⟨g, 0, none⟩ → ¬ X g) : Row w' t a c xs := by
  rcases h with h | ⟨g, sp, rfl, h1, h2, h3⟩
  · exact .inl h
  · exact .inr ⟨g, sp, rfl, h1, h2, h3.kept k (hx g rfl)⟩
theorem Row.lt {w : World} {t : TypeId} {a : Option Addr} {c : Nat} {xs : List Value} (h : Row w t a c xs) {g : Nat} (e : a = some ⟨g, 0, none⟩) : g < w.heap.size := by
  subst e
  rcases h with ⟨h, _⟩ | ⟨g', sp, h, _, _, h3⟩
  · cases h
  · injection h with h; injection h with h; subst h; exact h3.lt
theorem Row.le {w : World} {t : TypeId} {a : Option Addr} {c : Nat} {xs : List Value} (h : Row w t a c xs) : xs.length ≤ c ∧ c ≤ 9223372036854775807 := by
  rcases h with ⟨_, rfl, rfl⟩ | ⟨g', sp, _, h1, h2, h3⟩
  · simp
  · omega
theorem Row.drewN {w : World} {t : TypeId} {a : Option Addr} {c : Nat} {xs : List Value} (h : Row w t a c xs) (n : Nat) : Row (w.drewN n) t a c xs := h

def ints (ks : List Int) : List Value := ks.map (Value.int .i64)
theorem ints_len (ks : List Int) : (ints ks).length = ks.length := List.length_map ..
theorem ints_one (ks : List Int) : ∀ x ∈ ints ks, x.oneCell' = true := fun x hx => by
  obtain ⟨z, _, rfl⟩ := List.mem_map.1 hx
  rfl
theorem ints_get {ks : List Int} {k : Nat} (hk : k < ks.length) (h : k < (ints ks).length) : (ints ks)[k] = .int .i64 (ks[k]) := by simp [ints]
theorem one_cell {w : World} {g : Nat} {t : TypeId} {xs sp : List Value} (h : Lies w g t (xs ++ sp)) {j : Nat} {v : Value} (hj : xs[j]? = some v) : w.cell? ⟨g, 0 + j, none⟩ = some v := by
  rw [Nat.zero_add, h.cell, List.getElem?_append_left (List.getElem?_eq_some_iff.1 hj).1]
  exact hj
theorem lies_arr {w : World} {g : Nat} {t : TypeId} {cs : Array Value} (h : w.heap[g]? = some (.cells cs t (0, 0))) : Lies w g t cs.toList := by
  unfold Lies; simpa using h
theorem Row.there {w : World} {t : TypeId} {a : Option Addr} {c : Nat} {xs : List Value} (h : Row w t a c xs) {i : Nat} (hi : i < xs.length) : ∃ g, a = some ⟨g, 0, none⟩ ∧ w.cell? ⟨g, i, none⟩ = some xs[i] := by
  rcases h with ⟨_, _, rfl⟩ | ⟨g, sp, rfl, _, _, l⟩
  · simp at hi
  · exact ⟨g, rfl, by rw [l.cell, List.getElem?_append_left hi, List.getElem?_eq_getElem hi]⟩
theorem Row.frozen {w : World} {t : TypeId} {g c : Nat} {xs : List Value} (h : Row w t (some ⟨g, 0, none⟩) c xs) (j : Nat) : w.frozen? ⟨g, j, none⟩ = false := by
  rcases h with ⟨e, _⟩ | ⟨g', sp, e, hc, hm, l⟩
  · cases e
  · injection e with e; injection e with e; subst e
    exact l.frozen j
theorem Row.below {w w' : World} {t : TypeId} {a : Option Addr} {c : Nat} {xs : List Value} (h : Row w t a c xs) (k : Below w.heap.size w w') : Row w' t a c xs := h.kept (X := fun _ => False) (Kept.of_below k) (fun _ _ h => h)
theorem below_drewN (B : Nat) (w : World) (q : Nat) : Below B w (w.drewN q) := ⟨rfl, rfl, rfl, Nat.le_refl _, fun _ _ => rfl⟩

/-- A slice of the numbers xs, at the head of a block of its own, or nil. -/
def Bag (w : World) (a : Option Addr) (c : Nat) (xs : List Int) : Prop := Row w 3 a c (ints xs)
section
variable {w w' : World} {a : Option Addr} {c : Nat} {xs : List Int}
theorem Bag.nil (w : World) : Bag w none 0 [] := Row.nil w 3
theorem Bag.below (h : Bag w a c xs) (k : Below w.heap.size w w') : Bag w' a c xs := Row.below h k
theorem Bag.drewN (h : Bag w a c xs) (n : Nat) : Bag (w.drewN n) a c xs := h
theorem Bag.kept {X : Nat → Prop} (h : Bag w a c xs) (k : Kept X w w') (hx : ∀ g, a = some ⟨g, 0, none⟩ → ¬ X g) : Bag w' a c xs := Row.kept h k hx
theorem Bag.lt (h : Bag w a c xs) {g : Nat} (e : a = some ⟨g, 0, none⟩) : g < w.heap.size := Row.lt h e
theorem Bag.le (h : Bag w a c xs) : xs.length ≤ c ∧ c ≤ 9223372036854775807 := by
  have := Row.le h
  rwa [ints_len] at this
theorem Bag.at (h : Bag w a c xs) {k : Nat} (hk : k < xs.length) : ∃ g, a = some ⟨g, 0, none⟩ ∧ w.cell? ⟨g, k, none⟩ = some (.int .i64 (xs.getD k 0)) := by
  obtain ⟨g, e, hc⟩ := Row.there h (i := k) (by rw [ints_len]; exact hk)
  exact ⟨g, e, hc.trans (by rw [ints_get hk, getD_at hk])⟩
theorem Bag.frozen {g : Nat} (h : Bag w (some ⟨g, 0, none⟩) c xs) (j : Nat) : w.frozen? ⟨g, j, none⟩ = false := Row.frozen h j
theorem Bag.set {g : Nat} (h : Bag w (some ⟨g, 0, none⟩) c xs) {j : Nat} (hj : j < xs.length) (z : Int) : Bag (w.setCell ⟨g, j, none⟩ (.int .i64 z)) (some ⟨g, 0, none⟩) c (xs.set j z) := by
  rcases h with ⟨e, _⟩ | ⟨g', sp, e, hc, hm, l⟩
  · cases e
  · injection e with e; injection e with e; subst e
    refine .inr ⟨g, sp, rfl, by rw [ints_len, List.length_set, ← ints_len]; exact hc, hm, (l.set j _).to ?_⟩
    rw [List.set_append_left _ _ (by rw [ints_len]; exact hj)]
    simp [ints, List.map_set]
theorem Bag.cut (h : Bag w a c xs) {k : Nat} (hk : k ≤ xs.length) : Bag w a c (xs.take k) := by
  rcases h with ⟨e1, e2, e3⟩ | ⟨g', sp, e, hc, hm, l⟩
  · refine .inl ⟨e1, e2, ?_⟩
    obtain rfl : xs = [] := List.map_eq_nil_iff.1 e3
    simp [ints]
  · refine .inr ⟨g', ints (xs.drop k) ++ sp, e, ?_, hm, l.to ?_⟩
    · rw [List.length_append, ints_len, ints_len, List.length_take, List.length_drop, hc, ints_len]; omega
    · rw [← List.append_assoc]
      simp only [ints, ← List.map_append, List.take_append_drop]
theorem Bag.form (h : Bag w a c xs) : (a = none ∧ c = 0 ∧ xs = []) ∨ ∃ g, a = some ⟨g, 0, none⟩ := by
  rcases h with ⟨e1, e2, e3⟩ | ⟨g', sp, e, hc, hm, l⟩
  · exact .inl ⟨e1, e2, List.map_eq_nil_iff.1 e3⟩
  · exact .inr ⟨g', e⟩
end

/-- What a call that makes a bag of xs comes to. -/
def Makes (xs : List Int) (w : World) (e : Ending) (w' : World) : Prop :=
  ∃ a c, e = .returned (.slice a xs.length c) ∧ Bag w' a c xs ∧ (∀ g, a = some ⟨g, 0, none⟩ → w.heap.size ≤ g) ∧ Below w.heap.size w w'
/-- What a call that makes a bag of xs, and tells b, comes to. -/
def Makes2 (xs : List Int) (b : Bool) (w : World) (e : Ending) (w' : World) : Prop :=
  ∃ a c, e = .returned (.tuple #[.slice a xs.length c, .bool b]) ∧ Bag w' a c xs ∧ (∀ g, a = some ⟨g, 0, none⟩ → w.heap.size ≤ g) ∧ Below w.heap.size w w'
/-- What a call that reads comes to. -/
def Reads (v : Value) (w : World) (e : Ending) (w' : World) : Prop := e = .returned v ∧ ∃ q, w' = w.drewN q
def True_ (w : World) (e : Ending) (w' : World) : Prop := e = .returned (.bool true) ∧ Below w.heap.size w w'

theorem own_row {w : World} {B : Nat} {t : TypeId} {v : Value} {n : Nat} {xs : List Value} (h : w.ownsRow B t 1 v n xs) : ∃ a c, v = .slice a xs.length c ∧ Row w t a c xs ∧ ∀ g, a = some ⟨g, 0, none⟩ → B ≤ g := by
  obtain ⟨hl, h⟩ := h
  rw [Nat.mul_one] at hl
  rcases h with ⟨rfl, rfl⟩ | ⟨g, cap, cur, rfl, hg, hh, hn, hm, hs, ht⟩
  · obtain rfl : xs = [] := List.eq_nil_of_length_eq_zero hl
    exact ⟨none, 0, rfl, Row.nil _ _, (fun _ e => nomatch e)⟩
  · rw [Nat.mul_one] at hs ht
    unfold maxLen at hm
    have hc : xs ++ cur.toList.drop n = cur.toList := by rw [← ht, List.take_append_drop]
    have hd : (cur.toList.drop n).length = cap - n := by rw [List.length_drop]; simp [hs]
    refine ⟨some ⟨g, 0, none⟩, cap, by rw [hl], .inr ⟨g, cur.toList.drop n, rfl, by rw [hd]; omega, by omega, (lies_arr hh).to hc.symm⟩, fun g' e => ?_⟩
    injection e with e; injection e with e; subst e; exact hg

theorem Tryd.info3 : (Tryd.prog.info? 3).map (fun i => (i.zero, i.size, i.bytes)) = some (some (.int .i64 0), 1, 8) := by kernel_rfl
theorem Tryd.one3 : (Tryd.prog.info? 3).map (·.size) = some 1 := by kernel_rfl

/-- append of numbers, wherever they lie, to nil: a copy. -/
theorem run_copy_at (t ty : TypeId) (hu : Tryd.prog.underlying t = some (.slice 3)) (ad : Addr) (c : Nat) (xs : List Int) (w : World) (hc : ∀ j u, (ints xs)[j]? = some u → w.cell? (ad.add j) = some u) (hb : xs.length * 8 ≤ 140737488355328) :
    ∃ v w', (Builtin.append_ #[t, t] ty #[.slice none 0 0, .slice (some ad) xs.length c]).run Tryd.prog w = .ok v w' ∧ Makes xs w (.returned v) w' := by
  obtain ⟨i, hi, hz, hsz, hby⟩ := info_parts Tryd.info3
  obtain ⟨v', w', hr, h2, h3, _, _⟩ := run_append_own_at (P := Tryd.prog) w w.heap.size t ty 3 i _ 1 8 hu hi hz hsz hby (by simp [Value.cells]) (by omega) (.slice none 0 0) 0 [] (World.ownsRow_nil w _ 3 1)
      ad xs.length c (ints xs) (by rw [ints_len]; omega) hc (ints_one xs) (by unfold maxLen; omega) (by omega) (Nat.le_refl _)
  rw [List.nil_append] at h2
  obtain ⟨a, c, rfl, r, f⟩ := own_row h2
  rw [ints_len] at hr
  exact ⟨_, _, hr, a, c, rfl, r, f, (Below.refl _ _).grown h3 (Nat.le_refl _) (fun k e => by simp [Value.ownBlock] at e)⟩
theorem run_copy_nil' (t ty : TypeId) (hu : Tryd.prog.underlying t = some (.slice 3)) (w : World) :
    ∃ v w', (Builtin.append_ #[t, t] ty #[.slice none 0 0, .slice none 0 0]).run Tryd.prog w = .ok v w' ∧ Makes [] w (.returned v) w' := by
  obtain ⟨i, hi, hz, hsz, hby⟩ := info_parts Tryd.info3
  exact ⟨_, _, run_append_owned_none (w := w) w.heap.size t ty 3 i 1 hu hi _ 0 [] (World.ownsRow_nil w _ 3 1), none, 0, rfl, Bag.nil _, (fun _ e => nomatch e), Below.refl _ _⟩
theorem run_copy (t ty : TypeId) (hu : Tryd.prog.underlying t = some (.slice 3)) (a : Option Addr) (c : Nat) (xs : List Int) (w : World) (R : Bag w a c xs) (hb : xs.length * 8 ≤ 140737488355328) :
    ∃ v w', (Builtin.append_ #[t, t] ty #[.slice none 0 0, .slice a xs.length c]).run Tryd.prog w = .ok v w' ∧ Makes xs w (.returned v) w' := by
  rcases R with ⟨rfl, rfl, e⟩ | ⟨g, sp, rfl, hc, hm, hl⟩
  · obtain rfl : xs = [] := List.map_eq_nil_iff.1 e
    exact run_copy_nil' t ty hu w
  · exact run_copy_at t ty hu _ c xs w (fun j u hj => by rw [Addr.add_lit]; exact one_cell hl hj) hb

/-- Place k of the slice at a holds the number 'zs k'; it lies in memory that was there. -/
def RowAt (w : World) (a : Option Addr) (zs : List Int) (k : Nat) : Prop :=
  ∃ b off, a = some ⟨b, off, none⟩ ∧ w.cell? ⟨b, off + k, none⟩ = some (.int .i64 (zs.getD k 0)) ∧ b < w.heap.size ∧ -9223372036854775808 ≤ zs.getD k 0 ∧ zs.getD k 0 ≤ 9223372036854775807

end Go.Proofs.YtmefmnpmppdpmabDoor

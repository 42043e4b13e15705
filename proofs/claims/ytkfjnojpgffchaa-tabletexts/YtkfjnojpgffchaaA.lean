/- Words for memory: what a call leaves alone, a block that is known whole, a slice at the head of a block of its own. -/
import Derived.Test.YtkfjnojpgffchaaRows
import Derived.Test.YtkfjnojpgffchaaShelf
import Derived.WalkKit
import Derived.ProofKit
import Derived.OpenShut
import Derived.Below
import Derived.Lib.Hide
import Derived.Deep.QuietTactic
import Derived.BigQuiet
namespace Go.Proofs.Ytkfjnojpgffchaa
open Go.ChangeShapes Go.WideShapes Go.ChangeAt Go.RowKit

/-- Of the blocks that there were none but those of X has turned. -/
structure Kept (X : Nat → Prop) (w w' : World) : Prop where
  os : w'.os = w.os
  tape : w'.tape = w.tape
  output : w'.output = w.output
  size : w.heap.size ≤ w'.heap.size
  block : ∀ k, k < w.heap.size → ¬ X k → w'.heap[k]? = w.heap[k]?

section
variable {X Y : Nat → Prop} {w w' a b c : World}
theorem Kept.refl (X : Nat → Prop) (w : World) : Kept X w w := ⟨rfl, rfl, rfl, Nat.le_refl _, fun _ _ _ => rfl⟩
theorem Kept.trans (h : Kept X a b) (k : Kept Y b c) (hY : ∀ i, i < a.heap.size → Y i → X i) : Kept X a c :=
  ⟨k.os.trans h.os, k.tape.trans h.tape, k.output.trans h.output, Nat.le_trans h.size k.size,
   fun i hi hx => (k.block i (Nat.lt_of_lt_of_le hi h.size) (fun y => hx (hY i hi y))).trans (h.block i hi hx)⟩
theorem Kept.mono (h : Kept X a b) (hY : ∀ i, i < a.heap.size → X i → Y i) : Kept Y a b :=
  ⟨h.os, h.tape, h.output, h.size, fun i hi hx => h.block i hi (fun y => hx (hY i hi y))⟩
theorem Kept.drewN (h : Kept X a b) (n : Nat) : Kept X a (b.drewN n) := ⟨h.os, h.tape, h.output, h.size, h.block⟩
theorem Kept.drew (h : Kept X a b) : Kept X a b.drew := ⟨h.os, h.tape, h.output, h.size, h.block⟩
theorem Kept.alloc (h : Kept X a b) (o : Obj) : Kept X a (b.alloc o) :=
  h.trans (Y := fun _ => False) ⟨rfl, rfl, rfl, by simp, fun k hk _ => Below.heap_alloc _ _ _ hk⟩ (fun _ _ h => h.elim)
theorem Kept.setCell (h : Kept X a b) {p : Addr} (hp : p.block < a.heap.size → X p.block) (u : Value) : Kept X a (b.setCell p u) :=
  h.trans (Y := fun k => k = p.block) ⟨rfl, rfl, rfl, by simp [World.setCell], fun k _ hx => Below.heap_setCell _ _ _ _ hx⟩ (fun i hi e => by subst e; exact hp hi)
theorem Kept.below {B : Nat} (h : Kept X a b) (hX : ∀ k, X k → B ≤ k) (hB : B ≤ a.heap.size) : Below B a b :=
  ⟨h.os, h.tape, h.output, h.size, fun k hk => h.block k (by omega) (fun x => by have := hX k x; omega)⟩
theorem Kept.of_below (h : Below a.heap.size a b) : Kept X a b := ⟨h.os, h.tape, h.output, h.size, fun k hk _ => h.block k hk⟩
end

/-- Block g is just the cells cs of elements t, none frozen. -/
def Lies (w : World) (g : Nat) (t : TypeId) (cs : List Value) : Prop := w.heap[g]? = some (.cells cs.toArray t (0, 0))

section
variable {w w' : World} {g : Nat} {t : TypeId} {cs : List Value}
theorem Lies.lt (h : Lies w g t cs) : g < w.heap.size := (Array.getElem?_eq_some_iff.1 h).1
theorem Lies.cell (h : Lies w g t cs) (i : Nat) : w.cell? ⟨g, i, none⟩ = cs[i]? := by
  unfold Lies at h
  simp [World.cell?, h]
theorem Lies.frozen (h : Lies w g t cs) (i : Nat) : w.frozen? ⟨g, i, none⟩ = false := by
  unfold Lies at h
  simp [World.frozen?, h]
theorem Lies.shape (h : Lies w g t cs) : w.shape? g = some (t, cs.length) := by
  unfold Lies at h
  simp [World.shape?, h]
theorem Lies.kept {X : Nat → Prop} (h : Lies w g t cs) (k : Kept X w w') (hx : ¬ X g) : Lies w' g t cs := (k.block g h.lt hx).trans h
theorem Lies.below {B : Nat} (h : Lies w g t cs) (k : Below B w w') (hx : g < B) : Lies w' g t cs := (k.block g hx).trans h
theorem Lies.drewN (h : Lies w g t cs) (n : Nat) : Lies (w.drewN n) g t cs := h
theorem Lies.drew (h : Lies w g t cs) : Lies w.drew g t cs := h
theorem Lies.alloc (h : Lies w g t cs) (o : Obj) : Lies (w.alloc o) g t cs := (Below.heap_alloc w o g h.lt).trans h
theorem Lies.new (w : World) (t : TypeId) (cs : List Value) : Lies (w.alloc (.cells cs.toArray t)) w.heap.size t cs := heap_alloc_new w _
theorem Lies.set (h : Lies w g t cs) (i : Nat) (u : Value) : Lies (w.setCell ⟨g, i, none⟩ u) g t (cs.set i u) := by
  unfold Lies at h ⊢
  simp [World.setCell, Array.getElem?_modify, h]
theorem Lies.far (h : Lies w g t cs) {p : Addr} (hp : g ≠ p.block) (u : Value) : Lies (w.setCell p u) g t cs := (Below.heap_setCell w p u g hp).trans h
theorem Lies.to {cs' : List Value} (h : Lies w g t cs) (e : cs = cs') : Lies w g t cs' := e ▸ h
theorem Lies.other {g' : Nat} {t' : TypeId} {cs' : List Value} (h : Lies w g t cs) (h' : Lies w g' t' cs') (hne : t ≠ t') : g ≠ g' := by
  rintro rfl
  unfold Lies at h h'
  rw [h] at h'
  injection h' with h'
  injection h' with _ ht
  exact hne ht
end

theorem Lies.setCells {g : Nat} {t : TypeId} : ∀ (vs : List Value) (o : Nat) (w : World) (cs : List Value), Lies w g t cs → o + vs.length ≤ cs.length →
    Lies (w.setCells g o vs) g t (cs.take o ++ vs ++ cs.drop (o + vs.length))
  | [], o, w, cs, h, _ => by simpa [World.setCells] using h
  | v :: r, o, w, cs, h, hl => by
    simp only [List.length_cons] at hl
    have := Lies.setCells r (o + 1) _ _ (h.set o v) (by simp; omega)
    rw [World.setCells]
    refine this.to ?_
    rw [List.drop_set_of_lt (by omega), List.take_succ_eq_append_getElem (by simp; omega), List.take_set_of_le (Nat.le_refl _)]
    simp [show o + 1 + r.length = o + (r.length + 1) by omega]

theorem setCells_kept (g : Nat) : ∀ (vs : List Value) (o : Nat) (w : World), Kept (fun k => k = g) w (w.setCells g o vs)
  | [], _, w => Kept.refl _ w
  | v :: r, o, w => ((Kept.refl (fun k => k = g) w).setCell (p := ⟨g, o, none⟩) (fun _ => rfl) v).trans (setCells_kept g r (o + 1) _) (fun _ _ h => h)

/-- The slice of address a, length xs.length and capacity c is nil, or stands at the head of a block of its own: xs, and spare room. -/
def Row (w : World) (t : TypeId) (a : Option Addr) (c : Nat) (xs : List Value) : Prop :=
  (a = none ∧ c = 0 ∧ xs = []) ∨ ∃ g sp, a = some ⟨g, 0, none⟩ ∧ c = xs.length + sp.length ∧ c ≤ 9223372036854775807 ∧ Lies w g t (xs ++ sp)

theorem Row.nil (w : World) (t : TypeId) : Row w t none 0 [] := .inl ⟨rfl, rfl, rfl⟩
theorem Row.kept {X : Nat → Prop} {w w' : World} {t : TypeId} {a : Option Addr} {c : Nat} {xs : List Value} (h : Row w t a c xs) (k : Kept X w w') (hx : ∀ g, a = some ⟨g, 0, none⟩ → ¬ X g) : Row w' t a c xs := by
  rcases h with h | ⟨g, sp, rfl, h1, h2, h3⟩
  · exact .inl h
  · exact .inr ⟨g, sp, rfl, h1, h2, h3.kept k (hx g rfl)⟩
theorem Row.lt {w : World} {t : TypeId} {a : Option Addr} {c : Nat} {xs : List Value} (h : Row w t a c xs) {g : Nat} (e : a = some ⟨g, 0, none⟩) : g < w.heap.size := by
  subst e
  rcases h with ⟨h, _⟩ | ⟨g', sp, h, _, _, h3⟩
  · cases h
  · injection h with h; injection h with h; subst h; exact h3.lt
theorem Row.le {w : World} {t : TypeId} {a : Option Addr} {c : Nat} {xs : List Value} (h : Row w t a c xs) : xs.length ≤ c ∧ c ≤ 9223372036854775807 := by
  rcases h with ⟨_, rfl, rfl⟩ | ⟨g', sp, _, h1, h2, h3⟩
  · simp
  · omega
theorem Row.drewN {w : World} {t : TypeId} {a : Option Addr} {c : Nat} {xs : List Value} (h : Row w t a c xs) (n : Nat) : Row (w.drewN n) t a c xs := h

/-- What an insertion of v at place i of xs comes to. -/
def Ins (t : TypeId) (a : Option Addr) (xs : List Value) (i : Nat) (v : Value) (w : World) (e : Ending) (w' : World) : Prop :=
  ∃ a' c', e = .returned (.slice a' (xs.length + 1) c') ∧ Row w' t a' c' (xs.take i ++ v :: xs.drop i) ∧ Kept (fun k => a = some ⟨k, 0, none⟩) w w' ∧
    ∀ g, a' = some ⟨g, 0, none⟩ → a = some ⟨g, 0, none⟩ ∨ w.heap.size ≤ g

theorem mid_len {xs : List Value} {i : Nat} {v : Value} (hi : i ≤ xs.length) : (xs.take i ++ v :: xs.drop i).length = xs.length + 1 := by
  simp; omega

/-- In place. -/
theorem Ins.shift {t : TypeId} {g : Nat} {xs sp : List Value} {i : Nat} {v : Value} {w : World} (h : Lies w g t (xs ++ sp)) (hi : i ≤ xs.length) (hs : 0 < sp.length) (hc : xs.length + sp.length ≤ 9223372036854775807) :
    Ins t (some ⟨g, 0, none⟩) xs i v w (.returned (.slice (some ⟨g, 0, none⟩) (xs.length + 1) (xs.length + sp.length))) ((w.drew.setCells g (i + 1) (xs.drop i)).setCells g i [v]) := by
  have h1 := Lies.setCells (xs.drop i) (i + 1) _ _ h.drew (by simp; omega)
  have h2 := Lies.setCells [v] i _ _ h1 (by simp; omega)
  refine ⟨_, _, rfl, .inr ⟨g, sp.drop 1, rfl, ?_, hc, h2.to ?_⟩, ?_, fun g' e => .inl e⟩
  · rw [mid_len hi, List.length_drop]; omega
  · have e1 : i + 1 + (xs.drop i).length = xs.length + 1 := by simp; omega
    rw [e1]
    have e2 : (xs ++ sp).drop (xs.length + 1) = sp.drop 1 := by rw [List.drop_append]; simp
    rw [e2]
    have e3 : (List.take (i + 1) (xs ++ sp)).length = i + 1 := by simp; omega
    have e4 : List.take i (List.take (i + 1) (xs ++ sp) ++ xs.drop i ++ sp.drop 1) = xs.take i := by
      rw [List.append_assoc, List.take_append_of_le_length (by omega), List.take_take, Nat.min_eq_left (by omega), List.take_append_of_le_length hi]
    have e5 : List.drop (i + [v].length) (List.take (i + 1) (xs ++ sp) ++ xs.drop i ++ sp.drop 1) = xs.drop i ++ sp.drop 1 := by
      rw [List.append_assoc]
      conv => lhs; arg 1; rw [show i + [v].length = (List.take (i + 1) (xs ++ sp)).length by rw [e3]; rfl]
      rw [List.drop_left]
    rw [e4, e5]
    simp
  · have := ((Kept.refl (fun k => k = g) w).drew.trans (setCells_kept g (xs.drop i) (i + 1) _) (fun _ _ h => h)).trans (setCells_kept g [v] i _) (fun _ _ h => h)
    exact this.mono (fun k _ e => by subst e; rfl)

/-- At the end, in place. -/
theorem Ins.room {t : TypeId} {g : Nat} {xs sp : List Value} {v : Value} {w : World} (h : Lies w g t (xs ++ sp)) (hs : 0 < sp.length) (hc : xs.length + sp.length ≤ 9223372036854775807) :
    Ins t (some ⟨g, 0, none⟩) xs xs.length v w (.returned (.slice (some ⟨g, 0, none⟩) (xs.length + 1) (xs.length + sp.length))) (w.setCells g xs.length [v]) := by
  have h2 := Lies.setCells [v] xs.length _ _ h (by simp; omega)
  refine ⟨_, _, rfl, .inr ⟨g, sp.drop 1, rfl, ?_, hc, h2.to ?_⟩, ?_, fun g' e => .inl e⟩
  · rw [mid_len (Nat.le_refl _), List.length_drop]; omega
  · simp [List.drop_append]
  · exact (setCells_kept g [v] xs.length w).mono (fun k _ e => by subst e; rfl)

theorem lies_arr {w : World} {g : Nat} {t : TypeId} {cs : Array Value} (h : w.heap[g]? = some (.cells cs t (0, 0))) : Lies w g t cs.toList := by
  unfold Lies; simpa using h

/-- In a new block. -/
theorem Ins.grow {t : TypeId} {a : Option Addr} {xs : List Value} {i : Nat} {v : Value} {w w' : World} {g c : Nat} (hi : i ≤ xs.length) {sp : List Value} (h : Lies w' g t ((xs.take i ++ v :: xs.drop i) ++ sp)) (hg : w.heap.size ≤ g)
    (hc : c = xs.length + 1 + sp.length) (hm : c ≤ 9223372036854775807) (hk : Kept (fun k => a = some ⟨k, 0, none⟩) w w') :
    Ins t a xs i v w (.returned (.slice (some ⟨g, 0, none⟩) (xs.length + 1) c)) w' := by
  refine ⟨_, _, rfl, .inr ⟨g, sp, rfl, by rw [mid_len hi]; exact hc, hm, h⟩, hk, fun g' e => .inr ?_⟩
  injection e with e; injection e with e; subst e; exact hg

end Go.Proofs.Ytkfjnojpgffchaa

/- Contracts of tables. -/
import Derived.Test.YtkfjnojpgffchaaC
namespace Go.Proofs.Ytkfjnojpgffchaa
open Go.ChangeShapes Go.WideShapes Go.ChangeAt Go.RowKit

/-- Block b holds a table: two slices in blocks of their own, all of X. -/
structure Parts (T tk tv : TypeId) (w : World) (X : Nat → Prop) (b : Nat) (ka : Option Addr) (kc : Nat) (va : Option Addr) (vc : Nat) (ks vs : List Value) : Prop where
  lb : Lies w b T [.slice ka ks.length kc, .slice va vs.length vc]
  rk : Row w tk ka kc ks
  rv : Row w tv va vc vs
  hb : X b
  hk : ∀ g, ka = some ⟨g, 0, none⟩ → X g ∧ g ≠ b
  hv : ∀ g, va = some ⟨g, 0, none⟩ → X g ∧ g ≠ b
  apart : ∀ g, ka = some ⟨g, 0, none⟩ → va ≠ some ⟨g, 0, none⟩
def Tab (T tk tv : TypeId) (w : World) (X : Nat → Prop) (b : Nat) (ks vs : List Value) : Prop := ∃ ka kc va vc, Parts T tk tv w X b ka kc va vc ks vs

section
variable {T tk tv : TypeId} {w w' w2 : World} {X Y : Nat → Prop} {b : Nat} {ka va : Option Addr} {kc vc : Nat} {ks vs : List Value}
theorem Parts.kept (h : Parts T tk tv w X b ka kc va vc ks vs) (k : Kept Y w w') (hX : ∀ g, X g → ¬ Y g) : Parts T tk tv w' X b ka kc va vc ks vs :=
  ⟨h.lb.kept k (hX b h.hb), h.rk.kept k (fun g e => hX g (h.hk g e).1), h.rv.kept k (fun g e => hX g (h.hv g e).1), h.hb, h.hk, h.hv, h.apart⟩
theorem Parts.all (h : Parts T tk tv w X b ka kc va vc ks vs) (k : Kept (fun _ => False) w w') : Parts T tk tv w' X b ka kc va vc ks vs := h.kept k (fun _ _ h => h)
theorem Parts.mono (h : Parts T tk tv w X b ka kc va vc ks vs) (hX : ∀ g, g < w.heap.size → X g → Y g) : Parts T tk tv w Y b ka kc va vc ks vs :=
  ⟨h.lb, h.rk, h.rv, hX b h.lb.lt h.hb, fun g e => ⟨hX g (h.rk.lt e) (h.hk g e).1, (h.hk g e).2⟩, fun g e => ⟨hX g (h.rv.lt e) (h.hv g e).1, (h.hv g e).2⟩, h.apart⟩
theorem Tab.kept (h : Tab T tk tv w X b ks vs) (k : Kept Y w w') (hX : ∀ g, X g → ¬ Y g) : Tab T tk tv w' X b ks vs := by
  obtain ⟨_, _, _, _, h⟩ := h
  exact ⟨_, _, _, _, h.kept k hX⟩
theorem Tab.mono (h : Tab T tk tv w X b ks vs) (hX : ∀ g, g < w.heap.size → X g → Y g) : Tab T tk tv w Y b ks vs := by
  obtain ⟨_, _, _, _, h⟩ := h
  exact ⟨_, _, _, _, h.mono hX⟩
theorem Tab.drewN (h : Tab T tk tv w X b ks vs) (n : Nat) : Tab T tk tv (w.drewN n) X b ks vs := h.kept (Y := fun _ => False) ((Kept.refl _ w).drewN n) (fun _ _ h => h)
theorem Tab.in_ (h : Tab T tk tv w X b ks vs) : X b ∧ b < w.heap.size := by
  obtain ⟨_, _, _, _, h⟩ := h
  exact ⟨h.hb, h.lb.lt⟩

/-- The keys have another row. -/
theorem Parts.keys {a' : Option Addr} {c' : Nat} {ks' : List Value} (h : Parts T tk tv w X b ka kc va vc ks vs) (r : Row w2 tk a' c' ks') (k : Kept (fun g => ka = some ⟨g, 0, none⟩) w w2)
    (f : ∀ g, a' = some ⟨g, 0, none⟩ → ka = some ⟨g, 0, none⟩ ∨ w.heap.size ≤ g) {n : Nat} (hn : n = ks'.length) :
    Parts T tk tv (w2.setCell ⟨b, 0, none⟩ (.slice a' n c')) (fun g => X g ∨ w.heap.size ≤ g) b a' c' va vc ks' vs := by
  subst hn
  have hkb : ∀ g, ka = some ⟨g, 0, none⟩ → g ≠ b := fun g e => (h.hk g e).2
  have hab : ∀ g, a' = some ⟨g, 0, none⟩ → g ≠ b := fun g e => by
    rcases f g e with e | e
    · exact hkb g e
    · have := h.lb.lt; omega
  have l2 : Lies w2 b T [.slice ka ks.length kc, .slice va vs.length vc] := h.lb.kept k (fun e => hkb b e rfl)
  refine ⟨(l2.set 0 _).to rfl, r.kept ((Kept.refl (fun g => g = b) w2).setCell (fun _ => rfl) _) hab,
    (h.rv.kept k (fun g e e' => h.apart g e' e)).kept ((Kept.refl (fun g => g = b) w2).setCell (fun _ => rfl) _) (fun g e => (h.hv g e).2), .inl h.hb, fun g e => ⟨?_, hab g e⟩, fun g e => ⟨.inl (h.hv g e).1, (h.hv g e).2⟩, fun g e e' => ?_⟩
  · rcases f g e with e | e
    · exact .inl (h.hk g e).1
    · exact .inr e
  · rcases f g e with e | e
    · exact h.apart g e e'
    · have := h.rv.lt e'; omega
/-- The values have another row. -/
theorem Parts.vals {a' : Option Addr} {c' : Nat} {vs' : List Value} (h : Parts T tk tv w X b ka kc va vc ks vs) (r : Row w2 tv a' c' vs') (k : Kept (fun g => va = some ⟨g, 0, none⟩) w w2)
    (f : ∀ g, a' = some ⟨g, 0, none⟩ → va = some ⟨g, 0, none⟩ ∨ w.heap.size ≤ g) {n : Nat} (hn : n = vs'.length) :
    Parts T tk tv (w2.setCell ⟨b, 1, none⟩ (.slice a' n c')) (fun g => X g ∨ w.heap.size ≤ g) b ka kc a' c' ks vs' := by
  subst hn
  have hkb : ∀ g, va = some ⟨g, 0, none⟩ → g ≠ b := fun g e => (h.hv g e).2
  have hab : ∀ g, a' = some ⟨g, 0, none⟩ → g ≠ b := fun g e => by
    rcases f g e with e | e
    · exact hkb g e
    · have := h.lb.lt; omega
  have l2 : Lies w2 b T [.slice ka ks.length kc, .slice va vs.length vc] := h.lb.kept k (fun e => hkb b e rfl)
  refine ⟨(l2.set 1 _).to rfl, (h.rk.kept k (fun g e e' => h.apart g e e')).kept ((Kept.refl (fun g => g = b) w2).setCell (fun _ => rfl) _) (fun g e => (h.hk g e).2),
    r.kept ((Kept.refl (fun g => g = b) w2).setCell (fun _ => rfl) _) hab, .inl h.hb, fun g e => ⟨.inl (h.hk g e).1, (h.hk g e).2⟩, fun g e => ⟨?_, hab g e⟩, fun g e e' => ?_⟩
  · rcases f g e with e | e
    · exact .inl (h.hv g e).1
    · exact .inr e
  · rcases f g e' with e' | e'
    · exact h.apart g e e'
    · have := h.rk.lt e; omega
theorem Parts.lb_keys (h : Parts T tk tv w X b ka kc va vc ks vs) (k : Kept (fun g => ka = some ⟨g, 0, none⟩) w w2) : Lies w2 b T [.slice ka ks.length kc, .slice va vs.length vc] := h.lb.kept k (fun e => (h.hk b e).2 rfl)
theorem Parts.lb_vals (h : Parts T tk tv w X b ka kc va vc ks vs) (k : Kept (fun g => va = some ⟨g, 0, none⟩) w w2) : Lies w2 b T [.slice ka ks.length kc, .slice va vs.length vc] := h.lb.kept k (fun e => (h.hv b e).2 rfl)
end

theorem tab_new (T tk tv : TypeId) (w : World) : Tab T tk tv (w.alloc (.cells #[.slice none 0 0, .slice none 0 0] T)) (fun k => k = w.heap.size) w.heap.size [] [] :=
  ⟨none, 0, none, 0, ⟨Lies.new w T _, Row.nil _ _, Row.nil _ _, rfl, (fun _ e => nomatch e), (fun _ e => nomatch e), (fun _ e => nomatch e)⟩⟩

def ints (ks : List Int) : List Value := ks.map (Value.int .i64)
theorem ints_len (ks : List Int) : (ints ks).length = ks.length := List.length_map ..
theorem ints_one (ks : List Int) : ∀ x ∈ ints ks, x.oneCell' = true := fun x hx => by
  obtain ⟨z, _, rfl⟩ := List.mem_map.1 hx
  rfl

/-- slices.BinarySearch of a rising slice of ints. -/
theorem search (a : Option Addr) (c : Nat) (ks : List Int) (x : Int) (w : World) (R : Row w 3 a c (ints ks)) (hb : ks.length < 4611686018427387904) (h : Up intLt ks) :
    Calls Try.prog 37 #[.slice a ks.length c, .int .i64 x] w fun e w' => e = .returned (.tuple #[.int .i64 (spot intLt ks x : Nat), .bool (has ks x)]) ∧ ∃ q, w' = w.drewN q := by
  rcases R with ⟨rfl, rfl, e⟩ | ⟨g, sp, rfl, hc, hm, hl⟩
  · obtain rfl : ks = [] := List.map_eq_nil_iff.1 e
    refine (Any.slices_BinarySearch_int_empty Try.laysNm225 none 0 x w).mono ?_
    rintro e w' ⟨rfl, rfl⟩
    exact ⟨rfl, 0, rfl⟩
  · refine (Any.slices_BinarySearch_int Try.laysNm225 g 0 ks.length c ks x w (Nat.le_refl _) hb ?_ ?_).mono ?_
    · intro j hj
      rw [Nat.zero_add, hl.cell, List.getElem?_append_left (by rw [ints_len]; exact hj)]
      simp [ints, hj]
    · rw [List.take_length]; exact up_le h
    · rintro e w' ⟨rfl, q, rfl⟩
      rw [List.take_length]
      exact ⟨rfl, q, rfl⟩

theorem isNo_int (k : Int) (w : World) : Calls Try.prog 36 #[.int .i64 k] w fun e w' => e = .returned (.bool false) ∧ w = w' := by
  go_enter Try.func36, Try.ntmps36
  go_wp2
  go_ret
  exact ⟨rfl, rfl⟩

theorem new_ii (w : World) : Calls Try.prog 8 #[] w fun e w' => e = .returned (.pointer (some ⟨w.heap.size, 0, none⟩)) ∧ w' = w.alloc (.cells #[.slice none 0 0, .slice none 0 0] 60) := by
  go_enter Try.func8, Try.ntmps8
  go_wp2
  go_ret
  exact ⟨rfl, rfl⟩

theorem len_ii (X : Nat → Prop) (b : Nat) (ks vs : List Value) (w : World) (h : Tab 60 3 3 w X b ks vs) : Calls Try.prog 22 #[.pointer (some ⟨b, 0, none⟩)] w fun e w' => e = .returned (.int .i64 ks.length) ∧ w = w' := by
  obtain ⟨ka, kc, va, vc, ⟨l, -⟩⟩ := h
  have c0 : w.cell? ⟨b, 0, none⟩ = some (.slice ka ks.length kc) := l.cell 0
  clear l
  go_enter Try.func22, Try.ntmps22
  go_wp2
  go_ret
  exact ⟨rfl, rfl⟩

theorem place_ii (X : Nat → Prop) (b : Nat) (ks : List Int) (vs : List Value) (k : Int) (w : World) (h : Tab 60 3 3 w X b (ints ks) vs) (hb : ks.length < 4611686018427387904) (hu : Up intLt ks) :
    Calls Try.prog 34 #[.pointer (some ⟨b, 0, none⟩), .int .i64 k] w fun e w' => e = .returned (.tuple #[.int .i64 (spot intLt ks k : Nat), .bool (has ks k)]) ∧ ∃ q, w' = w.drewN q := by
  obtain ⟨ka, kc, va, vc, ⟨l, r, -⟩⟩ := h
  have c0 : w.cell? ⟨b, 0, none⟩ = some (.slice ka ks.length kc) := by rw [← ints_len]; exact l.cell 0
  clear l
  go_enter Try.func34, Try.ntmps34
  go_wp2_with (fail)
  refine (search ka kc ks k _ r hb hu).mono ?_
  rintro e w' ⟨rfl, q, rfl⟩
  go_wp2
  go_ret2
  exact ⟨rfl, _, rfl⟩
end Go.Proofs.Ytkfjnojpgffchaa

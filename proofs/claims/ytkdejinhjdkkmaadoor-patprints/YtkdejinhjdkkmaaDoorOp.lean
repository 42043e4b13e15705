/- A law's argument of type []Raw, opened: the nodes that it reads as; no condition. -/
import Derived.Test.YtkdejinhjdkkmaaDoorCc
import Derived.Deep.Slices
import Derived.ChangeArms
import Derived.OpenShut
namespace Go.Proofs.YtkdejinhjdkkmaaDoor
open Go.ChangeShapes Go.WideShapes Go.ChangeAt Go.RowKit

/-- A node's numbers are machine numbers, its name a machine's text. -/
structure NdWf (x : Nd) : Prop where
  k0 : -9223372036854775808 ≤ x.kind
  k1 : x.kind ≤ 9223372036854775807
  a0 : -9223372036854775808 ≤ x.a
  a1 : x.a ≤ 9223372036854775807
  b0 : -9223372036854775808 ≤ x.b
  b1 : x.b ≤ 9223372036854775807
  n0 : -9223372036854775808 ≤ x.n
  n1 : x.n ≤ 9223372036854775807
  nm : x.name.size ≤ maxLen

theorem list_five {α : Type} {l : List α} (h : l.length = 5) : ∃ a b c d e, l = [a, b, c, d, e] := by
  match l, h with
  | [a, b, c, d, e], _ => exact ⟨a, b, c, d, e, rfl⟩

set_option maxRecDepth 100000 in
theorem open_raws {H : Type} {enc : TypeId × Value → H} {w : World} {base : Nat} {spare : Nat → Bool} {held : Bool} {fuel : Nat} {cs : List Value} {x : DataW H × List MemPlace}
    (h : DataW.trod enc Tryd.prog w base spare held fuel 37 cs = some x) :
    cs = [.slice none 0 0] ∨ ∃ (a : Addr) (len cap : Nat) (rs : List Nd), cs = [.slice (some a) len cap] ∧ len ≤ cap ∧ cap ≤ maxLen ∧ rs.length = len ∧ NodesAt w (some a) rs ∧ ∀ y ∈ rs, NdWf y := by
  rcases Go.Deep.open_slice Tryd.underlying37 h with ⟨h0, _⟩ | ⟨a, len, cap, m, n, D, Pl, hcs, _, hl, hm, hmm, _, hi⟩
  · exact .inl h0
  · have hle : len ≤ m := by rw [hmm]; split <;> omega
    have hC : Program.cellsOf Tryd.prog 69 = 5 := by kernel_rfl
    have spotless : 0 < len → a.spot = none := fun h0 => by
      obtain ⟨cs', hc, _⟩ := hi 0 (by omega)
      rw [hC] at hc
      obtain ⟨_, hlen, hat⟩ := World.cells?_some hc
      obtain ⟨c0, c1, c2, c3, c4, rfl⟩ := list_five hlen
      have q0 := hat 0 (by omega)
      rw [Go.Deep.add_add] at q0
      exact World.cell?_spot (w := w) (a := a) q0
    have each : ∀ i, i < len → ∃ y : Nd, (∃ b off, a = ⟨b, off, none⟩ ∧ NdAt w b (off + i * 5) y ∧ b < w.heap.size) ∧ NdWf y := fun i hil => by
      obtain ⟨cs', hc, ht⟩ := hi i (by omega)
      rw [hC] at hc
      obtain ⟨_, hlen, hat⟩ := World.cells?_some hc
      obtain ⟨c0, c1, c2, c3, c4, rfl⟩ := list_five hlen
      obtain ⟨ys, n', _, _, _, hyl, hf⟩ := DataW.trod_struct Tryd.underlying69 ht
      obtain ⟨y0, y1, y2, y3, y4, rfl⟩ := list_five (show ys.length = 5 from hyl)
      have f0 := hf 0 _ rfl
      have f1 := hf 1 _ rfl
      have f2 := hf 2 _ rfl
      have f3 := hf 3 _ rfl
      have f4 := hf 4 _ rfl
      obtain ⟨n0, e0, _, w0⟩ := DataW.trod_int Tryd.underlying3 (cs := [c0]) (x := y0) f0
      obtain ⟨n1, e1, _, w1⟩ := DataW.trod_int Tryd.underlying3 (cs := [c1]) (x := y1) f1
      obtain ⟨n2, e2, _, w2⟩ := DataW.trod_int Tryd.underlying3 (cs := [c2]) (x := y2) f2
      obtain ⟨n3, e3, _, w3⟩ := DataW.trod_int Tryd.underlying3 (cs := [c3]) (x := y3) f3
      obtain ⟨s4, e4, _, w4⟩ := DataW.trod_string Tryd.underlying9 (cs := [c4]) (x := y4) f4
      injection e0 with e0 _
      injection e1 with e1 _
      injection e2 with e2 _
      injection e3 with e3 _
      injection e4 with e4 _
      subst e0 e1 e2 e3 e4
      have q0 := hat 0 (by omega)
      have q1 := hat 1 (by omega)
      have q2 := hat 2 (by omega)
      have q3 := hat 3 (by omega)
      have q4 := hat 4 (by omega)
      rw [Go.Deep.add_add] at q0 q1 q2 q3 q4
      obtain ⟨b, off, spot⟩ := a
      have hs : spot = none := spotless (by omega)
      subst hs
      rw [add_plain] at q0 q1 q2 q3 q4
      have b0 := bounds_i64 w0
      have b1 := bounds_i64 w1
      have b2 := bounds_i64 w2
      have b3 := bounds_i64 w3
      exact ⟨⟨n0, n1, n2, n3, s4⟩, ⟨b, off, rfl, ⟨q0, by rw [Nat.add_assoc]; exact q1, by rw [Nat.add_assoc]; exact q2, by rw [Nat.add_assoc]; exact q3, by rw [Nat.add_assoc]; exact q4⟩, World.block_lt_of_cell? w _ q0⟩, ⟨b0.1, b0.2, b1.1, b1.2, b2.1, b2.2, b3.1, b3.2, w4⟩⟩
    have : Inhabited Nd := ⟨⟨0, 0, 0, 0, emp⟩⟩
    obtain ⟨f, hff⟩ := Go.Deep.choose_lt each
    refine .inr ⟨a, len, cap, (List.range len).map f, hcs, hl, hm, by simp, fun j hj => ?_, fun y hy => ?_⟩
    · have hj' : j < len := by simpa using hj
      obtain ⟨b, off, e, p, hb⟩ := (hff j hj').1
      exact ⟨b, off, by rw [e], by simpa using p, hb⟩
    · obtain ⟨i, hi', rfl⟩ := List.mem_map.1 hy
      exact (hff i (List.mem_range.1 hi')).2
end Go.Proofs.YtkdejinhjdkkmaaDoor

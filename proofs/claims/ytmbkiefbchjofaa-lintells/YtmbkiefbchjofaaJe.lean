/- A law's argument of type Raw, opened: a slice of numbers, a slice of slices of numbers; no condition. -/
import Derived.Test.YtmbkiefbchjofaaJc
import Derived.Deep.Matrix
import Derived.ChangeArms
import Derived.OpenShut
namespace Go.Proofs.Ytmbkiefbchjofaa
open Go.ChangeShapes Go.WideShapes Go.ChangeAt Go.RowKit

theorem list_two {α : Type} {l : List α} (h : l.length = 2) : ∃ a b, l = [a, b] := by
  match l, h with
  | [a, b], _ => exact ⟨a, b, rfl⟩

theorem open_rows {H : Type} {enc : TypeId × Value → H} {w : World} {base : Nat} {held : Bool} {fuel : Nat} {cs : List Value} {x : DataW H × List MemPlace}
    (h : DataW.trod enc Try.prog w base (fun _ => true) held fuel 23 cs = some x) : ∃ pa m pc rs, cs = [.slice pa m pc] ∧ CameRows w pa m pc rs := by
  rcases Go.Deep.open_int_rows Try.underlying23 Try.underlying22 Try.underlying3 (by kernel_rfl) (by kernel_rfl) h with ⟨rfl, _⟩ | ⟨a, len, cap, A, L, C, Z, rfl, _, hl, hm, _, hr⟩
  · exact ⟨none, 0, 0, [], rfl, by omega, fun _ => ⟨rfl, rfl⟩, by omega, rfl, (fun k u hu => by simp [rvals] at hu), (fun r hr => by simp at hr)⟩
  · refine ⟨some a, len, cap, (List.range len).map (fun r => ⟨A r, L r, C r, Z r⟩), rfl, by unfold maxLen at hm; omega, (fun e => nomatch e), hl, by simp, fun k u hu => ?_, fun r hr' => ?_⟩
    · have hk : k < len := by
        have := (List.getElem?_eq_some_iff.1 hu).1
        simpa [rvals] using this
      have hu' : u = .slice (A k) (L k) (C k) := by
        simp [rvals, Rw.val, hk] at hu
        exact hu.symm
      obtain ⟨hc, _⟩ := hr k (by omega)
      have hs := World.cell?_spot (w := w) (a := a) (hr 0 (by omega)).1
      obtain ⟨b, off, s⟩ := a
      have hs' : s = none := hs
      subst hs'
      rw [Addr.add_lit] at hc
      exact ⟨b, off, rfl, by rw [hu']; exact hc, World.block_lt_of_cell? w _ hc⟩
    · obtain ⟨k, hk, rfl⟩ := List.mem_map.1 hr'
      have hk' : k < len := List.mem_range.1 hk
      obtain ⟨_, h1, h2, h3, h4, h5, h6⟩ := hr k (by omega)
      apply row_facts
      show (A k = none ∧ L k = 0 ∧ C k = 0 ∧ Z k = []) ∨ ∃ x, A k = some x ∧ L k ≤ C k ∧ C k ≤ maxLen ∧ (Z k).length = C k ∧ (∀ i, i < (Z k).length → w.cell? (x.add i) = some (.int .i64 ((Z k).getD i 0))) ∧ ∀ n ∈ Z k, (Lit.int .i64 n).wf = true
      cases hA : A k with
      | none =>
        have := h5 hA
        exact .inl ⟨rfl, by omega, this, List.eq_nil_of_length_eq_zero (by omega)⟩
      | some a' => exact .inr ⟨a', rfl, h1, h2, h3, fun i hi => (h6 a' hA).2 i (by omega), h4⟩
theorem open_raw {H : Type} {enc : TypeId × Value → H} {w : World} {base : Nat} {held : Bool} {fuel : Nat} {cs : List Value} {x : DataW H × List MemPlace}
    (h : DataW.trod enc Try.prog w base (fun _ => true) held fuel 25 cs = some x) :
    ∃ a l c zs pa m pc rs, cs = [.slice a l c, .slice pa m pc] ∧ Came w a l c zs ∧ CameRows w pa m pc rs := by
  have hC : Program.cellsOf Try.prog 25 = 2 := by kernel_rfl
  obtain ⟨ys, n', _, _, hlen, hyl, hf⟩ := DataW.trod_struct Try.underlying25 h
  rw [hC] at hlen
  obtain ⟨s0, s1, rfl⟩ := list_two hlen
  obtain ⟨y0, y1, rfl⟩ := list_two (show ys.length = 2 from hyl)
  have f0 : DataW.trod enc Try.prog w base (fun _ => true) held n' 22 [s0] = some y0 := hf 0 _ rfl
  have f1 : DataW.trod enc Try.prog w base (fun _ => true) held n' 23 [s1] = some y1 := hf 1 _ rfl
  obtain ⟨pa, m, pc, rs, e1, J⟩ := open_rows f1
  injection e1 with e1 _
  subst e1
  rcases open_ints Try.underlying22 Try.underlying3 (by kernel_rfl) f0 with ⟨hcs, _⟩ | ⟨x, l, c, zs, hcs, _, hl, hm, hz, _, hcell, hwz⟩
  · injection hcs with hcs _
    subst hcs
    exact ⟨none, 0, 0, [], pa, m, pc, rs, rfl, row_facts (.inl ⟨rfl, rfl, rfl, rfl⟩), J⟩
  · injection hcs with hcs _
    subst hcs
    exact ⟨some x, l, c, zs, pa, m, pc, rs, rfl, row_facts (.inr ⟨_, rfl, hl, hm, by simpa using hz, hcell, hwz⟩), J⟩
end Go.Proofs.Ytmbkiefbchjofaa

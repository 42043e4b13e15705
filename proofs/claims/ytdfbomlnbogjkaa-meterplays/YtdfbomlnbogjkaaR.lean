/- A slice of ints that came in, as a loop over it wants it. -/
import Derived.Test.YtdfbomlnbogjkaaL
namespace Go.Proofs.Ytdfbomlnbogjkaa
open Go.ChangeShapes Go.WideShapes Go.ChangeAt Go.RowKit

/-- Place k of the slice at 'a' holds the number 'zs k'; it lies in memory that was there. -/
def RowAt (w : World) (a : Option Addr) (zs : List Int) (k : Nat) : Prop :=
  ∃ b off, a = some ⟨b, off, none⟩ ∧ w.cell? ⟨b, off + k, none⟩ = some (.int .i64 (zs.getD k 0)) ∧ b < w.heap.size ∧ -9223372036854775808 ≤ zs.getD k 0 ∧ zs.getD k 0 ≤ 9223372036854775807

theorem rowAt_of {w : World} {a : Option Addr} {len cap : Nat} {zs : List Int}
    (h : (a = none ∧ len = 0 ∧ cap = 0 ∧ zs = []) ∨
      ∃ x, a = some x ∧ len ≤ cap ∧ cap ≤ maxLen ∧ zs.length = cap ∧ (∀ i, i < zs.length → w.cell? (x.add i) = some (.int .i64 (zs.getD i 0))) ∧ ∀ n ∈ zs, (Lit.int .i64 n).wf = true) :
    len ≤ 9223372036854775807 ∧ ∀ k, k < len → RowAt w a zs k := by
  rcases h with ⟨_, rfl, _, _⟩ | ⟨x, rfl, hl, hm, hz, hc, hwf⟩
  · exact ⟨by omega, fun k hk => by omega⟩
  · unfold maxLen at hm
    refine ⟨by omega, fun k hk => ?_⟩
    obtain ⟨b, off, rfl, hc'⟩ := ints_at hc (by omega)
    have hk' : k < zs.length := by omega
    have hcell := hc' k hk'
    have hw : (Lit.int .i64 (zs.getD k 0)).wf = true := by
      rw [List.getD_eq_getElem?_getD, List.getElem?_eq_getElem hk']
      exact hwf _ (List.getElem_mem hk')
    have hb := bounds_i64 hw
    exact ⟨b, off, rfl, hcell, World.block_lt_of_cell? w _ hcell, hb.1, hb.2⟩

end Go.Proofs.Ytdfbomlnbogjkaa

/- CopyLin: a linear set in memory of its own. -/
import Derived.Test.YtfkaagndlpcfdaaGa
import Derived.Deep.RegionLaw
namespace Go.Proofs.Ytfkaagndlpcfdaa
open Go.ChangeShapes Go.WideShapes Go.ChangeAt Go.RowKit

section
variable {w W W' : World} {g4 : Nat} {a pa pa' : Option Addr} {c n pc m pc' m' : Nat} {nb : List Int} {ps ps' : List Bg}
/-- One more; other blocks of linear sets stay. -/
theorem OfP.app' (h : OfP w g4 a c n nb pa pc m ps W) {b : Option Addr} {d l : Nat} {ys : List Int} (R : Bag W b d ys) (hl : ys.length = l) (f : From w.heap.size b) (hs : m ≤ 100000000000) :
    ∃ a2 c2 w2, (Builtin.append_ #[48, 48] 48 #[.slice pa m pc, .slice (some ⟨W.heap.size, 0, none⟩) 1 1]).run Try.prog (W.alloc (.cells #[.slice b l d] 47)) = .ok (.slice a2 (m + 1) c2) w2 ∧
      Lies w2 g4 50 [.slice a n c, .slice pa m pc] ∧ OfP w g4 a c n nb a2 c2 (m + 1) (ps ++ [⟨b, d, ys⟩]) (w2.setCell ⟨g4, 1, none⟩ (.slice a2 (m + 1) c2)) ∧
      ∀ g cs, Lies W g 50 cs → g ≠ g4 → Lies (w2.setCell ⟨g4, 1, none⟩ (.slice a2 (m + 1) c2)) g 50 cs := by
  obtain ⟨a2, c2, w2, hr, q2, k2, f2⟩ := app1 pa pc m ps W h.row h.num b d l ys R hl hs
  obtain ⟨f3, b3⟩ := f2 w.heap.size h.bel.size h.op
  have l2 := h.l4.kept k2 (h.l4.apartRow h.row.row)
  refine ⟨a2, c2, w2, hr, l2, OfP.put (h.bel.trans b3) l2 (h.base.kept k2 (fun _ e => h.base.apart h.row.row e)) q2 h.len (by simp [h.num]) h.h4 h.oa f3 ?_, fun g cs l hne => ?_⟩
  · intro p hp
    rcases List.mem_append.1 hp with hp | hp
    · exact h.each p hp
    · rw [List.mem_singleton.1 hp]; exact f
  · exact (l.kept k2 (l.apartRow h.row.row)).far hne _
end
/-- The copy so far, and the block of the answer. -/
structure CpS (w : World) (g2 g3 : Nat) (a : Option Addr) (c n : Nat) (nb : List Int) (pa : Option Addr) (pc m : Nat) (ps : List Bg) (W : World) : Prop where
  p : OfP w g3 a c n nb pa pc m ps W
  l2 : Lies W g2 50 [.slice none 0 0, .slice none 0 0]
  ne : g2 ≠ g3
  h2 : w.heap.size ≤ g2
theorem CpS.below {w W W' : World} {g2 g3 : Nat} {a pa : Option Addr} {c n pc m : Nat} {nb : List Int} {ps : List Bg} (h : CpS w g2 g3 a c n nb pa pc m ps W) (k : Below W.heap.size W W') : CpS w g2 g3 a c n nb pa pc m ps W' :=
  ⟨h.p.below k, h.l2.below k h.l2.lt, h.ne, h.h2⟩
theorem CpS.full {w W : World} {g2 g3 : Nat} {a pa : Option Addr} {c n pc m : Nat} {nb : List Int} {ps : List Bg} (h : CpS w g2 g3 a c n nb pa pc m ps W) {x : Lin} (hx : x = ⟨nb, words ps⟩) :
    ((W.setCell ⟨g2, 0, none⟩ (.slice a n c)).setCell ⟨g2, 1, none⟩ (.slice pa m pc)).cell? ⟨g2, 0, none⟩ = some (.slice a n c) ∧
    ((W.setCell ⟨g2, 0, none⟩ (.slice a n c)).setCell ⟨g2, 1, none⟩ (.slice pa m pc)).cell? ⟨g2, 1, none⟩ = some (.slice pa m pc) ∧
    MakesLin1 x w (.returned (.agg #[.slice a n c, .slice pa m pc])) ((W.setCell ⟨g2, 0, none⟩ (.slice a n c)).setCell ⟨g2, 1, none⟩ (.slice pa m pc)) := by
  have l1 : Lies (W.setCell ⟨g2, 0, none⟩ (.slice a n c)) g2 50 [.slice a n c, .slice none 0 0] := h.l2.set 0 _
  have l2 : Lies ((W.setCell ⟨g2, 0, none⟩ (.slice a n c)).setCell ⟨g2, 1, none⟩ (.slice pa m pc)) g2 50 [.slice a n c, .slice pa m pc] := l1.set 1 _
  have k1 := kept_set W g2 0 (.slice a n c)
  have k2 := kept_set (W.setCell ⟨g2, 0, none⟩ (.slice a n c)) g2 1 (.slice pa m pc)
  subst hx
  refine ⟨l2.cell 0, l2.cell 1, a, c, pa, pc, ?_, (h.p.base.far h.l2 k1).far l1 k2, ⟨ps, rfl, (h.p.row.far h.l2 k1).far l1 k2⟩, (h.p.bel.setCell h.h2 _).setCell h.h2 _⟩
  rw [h.p.len, words_len, h.p.num]

end Go.Proofs.Ytfkaagndlpcfdaa

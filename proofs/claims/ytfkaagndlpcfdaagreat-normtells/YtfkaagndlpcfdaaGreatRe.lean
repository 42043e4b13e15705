/- The law NormOne: its walk. -/
import Derived.Test.YtfkaagndlpcfdaaGreatRd
namespace Go.Proofs.YtfkaagndlpcfdaaGreat
open Go.ChangeShapes Go.WideShapes Go.ChangeAt Go.RowKit

theorem open1 {W : World} {a : Option Addr} {c : Nat} {b : List Int} {ps : List (List Int)} {n m : Nat} (hn : b.length = n) (hm : ps.length = m) (h : Lins W a c [⟨b, ps⟩]) :
    ∃ g ba da pa qa, a = some ⟨g, 0, none⟩ ∧ g < W.heap.size ∧ W.cell? ⟨g, 0, none⟩ = some (.slice ba n da) ∧ W.cell? ⟨g, 1, none⟩ = some (.slice pa m qa) ∧ Bag W ba da b ∧ Bags W pa qa ps := by
  obtain ⟨g, ba, da, pa, qa, e, c0, c1, B, P⟩ := h.at (k := 0) (by simp)
  subst hn; subst hm
  exact ⟨g, ba, da, pa, qa, e, h.lt e, c0, c1, B, P⟩
theorem openB {W : World} {a : Option Addr} {c : Nat} {b : List Int} {n : Nat} (hn : b.length = n) (h : Bags W a c [b]) :
    ∃ g ba da, a = some ⟨g, 0, none⟩ ∧ g < W.heap.size ∧ W.cell? ⟨g, 0, none⟩ = some (.slice ba n da) ∧ Bag W ba da b := by
  obtain ⟨g, ba, da, e, c0, B⟩ := h.at (k := 0) (by simp)
  subst hn
  exact ⟨g, ba, da, e, h.lt e, c0, B⟩
theorem sameP {s t : List Lin} {n m : Nat} (hn : s.length = n) (hm : t.length = m) (h : s = t) (W : World) (a b : Option Addr) (c d : Nat) (R : Lins W a c s) (S : Lins W b d t) :
    Calls Tryz.prog 10 #[.slice a n c, .slice b m d] W (TellsB true W) := by
  have Z := sameSemi_any a b c d s t W R S
  rw [decide_eq_true h, hn, hm] at Z
  exact Z
theorem onesP (W : World) : Calls Tryz.prog 31 #[] W (fun e w' => ∃ a c, e = .returned (.slice a 1 c) ∧ Lins w' a c oneS ∧ Below W.heap.size W w') := by
  refine (one_any W).mono ?_
  rintro e w' ⟨a, c, e1, A⟩
  exact ⟨a, c, e1, ⟨_, rfl, A.row⟩, A.bel⟩

end Go.Proofs.YtfkaagndlpcfdaaGreat

/- make of a bag; contracts of One and of the reference's OneBag; the example; the walk of the law BagOne. -/
import Derived.Test.YtmbkiefbchjofaaE
namespace Go.Proofs.Ytmbkiefbchjofaa
open Go.ChangeShapes Go.WideShapes Go.ChangeAt Go.RowKit

theorem made_bag {w w' : World} {g n : Nat} (h : w'.ownsRow w.heap.size 3 1 (.slice (some ⟨g, 0, none⟩) n n) n (madeCells (Value.int .i64 0).cells (n * 1)).toList) : Bag w' (some ⟨g, 0, none⟩) n (tab n (fun _ => 0)) := by
  have e : (madeCells (Value.int .i64 0).cells (n * 1)).toList = ints (tab n (fun _ => 0)) := by
    rw [Nat.mul_one, show (Value.int .i64 0).cells = #[.int .i64 0] from rfl, toList_madeCells_one]
    apply List.ext_getElem
    · rw [List.length_replicate, ints_len, tab_len]
    · intro j h1 h2
      rw [List.getElem_replicate, ints_get (by rw [ints_len] at h2; exact h2), tab_get]
  rw [e] at h
  obtain ⟨a, c, e1, r, _⟩ := own_row h
  injection e1 with e1 _ e2
  subst e1; subst e2
  exact r

theorem wpList_make_bag (w : World) {ops : Array Oper} {rest : List Oper} {o : Oper} {a : Act} {Q : Exit → Act → World → Prop} (hg : o.guard = none) (l c : Operand) (hop : o.op = Op.makeSlice 26 l c)
    (L C : Int) (n : Nat) (hl : a.eval l = .int .i64 L) (hc : a.eval c = .int .i64 C) (hL : L = n) (hC : C = n) (hn : n ≤ 1000)
    (hK : ∀ w', Bag w' (some ⟨w.heap.size, 0, none⟩) n (tab n (fun _ => 0)) → Below w.heap.size w w' → wpList Try.prog ops Q rest (a.put o.dst (.slice (some ⟨w.heap.size, 0, none⟩) n n)) w') :
    wpList Try.prog ops Q (o :: rest) a w := by
  obtain ⟨i, hi, hz, hsz, hby⟩ := info_parts Try.info3
  refine wpList_make_full w hg l c 26 hop w.heap.size 3 i _ 1 Try.underlying26 hi hz hsz .i64 .i64 L C n hl hc hL hC (by rw [hby]; omega) (by unfold maxLen; omega) (Nat.le_refl _) ?_
  intro w' h1 h2
  exact hK w' (made_bag h1) ((Below.refl _ _).grown h2 (Nat.le_refl _) (fun k e => nomatch e))








theorem bag_new2 (w : World) (x y : Int) : Bag (w.alloc (.cells #[.int .i64 x, .int .i64 y] 3)) (some ⟨w.heap.size, 0, none⟩) 2 [x, y] :=
  .inr ⟨_, [], rfl, rfl, by omega, Lies.new w 3 [.int .i64 x, .int .i64 y]⟩
theorem below_alloc (w : World) (o : Obj) : Below w.heap.size w (w.alloc o) := (Below.refl _ _).alloc (Nat.le_refl _) o

end Go.Proofs.Ytmbkiefbchjofaa

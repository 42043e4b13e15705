/- AutoCost's walk, over the program's Start and Next that are handed in. -/
import Derived.Test.YtadnjlhkppcmmaaTm
import Derived.WalkSmall

/-! columbaryplay.Bag: at most four tags; AutoLetters' walk. -/
namespace Go.Proofs.Ytadnjlhkppcmmaa
open Go.ChangeShapes Go.WideShapes Go.ChangeAt Go.RowKit

end Go.Proofs.Ytadnjlhkppcmmaa

/-! AutoCost's walk, over the program's Start and Next that are handed in. -/
namespace Go.Proofs.Ytadnjlhkppcmmaa
open Go.ChangeShapes Go.WideShapes Go.ChangeAt Go.RowKit

/-- What the program's Next comes to. -/
def NextsT (T : TypeId) (mp : Option Addr) (r : List It × Int × Mr) (w : World) (e : Ending) (w' : World) : Prop :=
  ∃ a c, e = .returned (.tuple #[.slice a r.1.length c, .int .i64 r.2.1]) ∧ Its w' a c r.1 ∧ From w.heap.size a ∧ MrAt w' T mp r.2.2 ∧ MK mp w w'
theorem startL_thin {s : List Lin} (hs : Thin s) : startL s = startK s s.length := by
  unfold startL startK
  rw [if_pos (rightS_iff.2 hs.rise)]
theorem start_right {s : List Lin} (hs : Thin s) : rightItems s (startL s) = true := by
  rw [startL_thin hs]
  have hok := start_all hs (Nat.le_refl s.length)
  unfold rightItems
  rw [Bool.and_eq_true, Bool.and_eq_true]
  refine ⟨⟨rightS_iff.2 hs.rise, ?_⟩, rightsI_iff.2 ⟨fun x hx => (hok x hx).small.right, ?_⟩⟩
  · rw [List.all_eq_true]
    intro x hx
    rw [Bool.and_eq_true, decide_eq_true_eq, decide_eq_true_eq]
    exact ⟨(hok x hx).lo, (hok x hx).hi⟩
  · unfold startK at hok ⊢
    refine List.pairwise_map.2 (List.Pairwise.imp_of_mem (fun {i j} hi hj hij => ?_) List.pairwise_lt_range)
    exact (cmpI_lt (hok _ (List.mem_map.2 ⟨i, hi, rfl⟩)).small.right (hok _ (List.mem_map.2 ⟨j, hj, rfl⟩)).small.right).2 (.inl (by show (i : Int) < (j : Int); omega))
theorem next_start {s : List Lin} (hs : Thin s) (M : Mr) (letter : Int) : nextM M s (startL s) letter = itGo s letter (startK s s.length) M [] := by
  unfold nextM
  rw [start_right hs, if_pos rfl, startL_thin hs]
theorem costK_bound {s : List Lin} (hs : Thin s) : costK s s.length ≤ 1536 := by
  have h := cost_few hs (start_all hs (Nat.le_refl s.length))
  rw [startK_len] at h
  have := hs.few
  unfold costK
  omega
theorem costK_mono (s : List Lin) : ∀ {k n : Nat}, k ≤ n → costK s k ≤ costK s n
  | k, 0, h => by obtain rfl : k = 0 := by omega
                  exact Nat.le_refl _
  | k, n + 1, h => by
    by_cases e : k = n + 1
    · rw [e]; exact Nat.le_refl _
    · have := costK_mono s (k := k) (n := n) (by omega)
      rw [costK_succ]
      exact Nat.le_trans this (Nat.le_add_right _ _)
theorem costK_pos {s : List Lin} {n : Nat} (hn : 0 < n) : 0 < costK s n := by
  have h := costK_mono s (k := 1) (n := n) hn
  rw [costK_succ] at h
  exact Nat.lt_of_lt_of_le (Nat.two_pow_pos (linAt s 0).ps.length) (Nat.le_trans (Nat.le_add_left _ _) h)
theorem lin_at_mem {s : List Lin} {k : Nat} (hk : k < s.length) : linAt s k ∈ s := by
  have e : linAt s k = s[k] := by simp [linAt, List.getD, hk]
  rw [e]
  exact List.getElem_mem hk
end Go.Proofs.Ytadnjlhkppcmmaa

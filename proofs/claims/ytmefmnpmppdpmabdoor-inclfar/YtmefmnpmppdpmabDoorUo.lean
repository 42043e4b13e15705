import Derived.Test.YtmefmnpmppdpmabDoorTm
import Derived.WalkSmall
/- AutoCost's walk, over the program's Start and Next that are handed in. -/

/-! columbaryplay.Bag: at most four tags; AutoLetters' walk. -/
namespace Go.Proofs.YtmefmnpmppdpmabDoor
open Go.ChangeShapes Go.WideShapes Go.ChangeAt Go.RowKit

end Go.Proofs.YtmefmnpmppdpmabDoor

/-! AutoCost's walk, over the program's Start and Next that are handed in. -/
namespace Go.Proofs.YtmefmnpmppdpmabDoor
open Go.ChangeShapes Go.WideShapes Go.ChangeAt Go.RowKit

/-- What the program's Next comes to. -/
def NextsT (T : TypeId) (mp : Option Addr) (r : List It × Int × Mr) (w : World) (e : Ending) (w' : World) : Prop :=
  ∃ a c, e = .returned (.tuple #[.slice a r.1.length c, .int .i64 r.2.1]) ∧ Its w' a c r.1 ∧ From w.heap.size a ∧ MrAt w' T mp r.2.2 ∧ MK mp w w'
theorem startL_thin {s : List Lin} (hs : Thin s) : startL s = startK s s.length := by
  unfold startL startK
  rw [if_pos (rightS_iff.2 hs.rise)]
theorem start_right {s : List Lin} (hs : Thin s) : rightItems s (startL s) = true := by
  rw [startL_thin hs]
  have hok := start_all hs (Nat.le_refl s.length)
  unfold rightItems
  rw [Bool.and_eq_true, Bool.and_eq_true]
  refine ⟨⟨rightS_iff.2 hs.rise, ?_⟩, rightsI_iff.2 ⟨fun x hx => (hok x hx).small.right, ?_⟩⟩
  · rw [List.all_eq_true]
    intro x hx
    rw [Bool.and_eq_true, decide_eq_true_eq, decide_eq_true_eq]
    exact ⟨(hok x hx).lo, (hok x hx).hi⟩
  · unfold startK at hok ⊢
    refine List.pairwise_map.2 (List.Pairwise.imp_of_mem (fun {i j} hi hj hij => ?_) List.pairwise_lt_range)
    exact (cmpI_lt (hok _ (List.mem_map.2 ⟨i, hi, rfl⟩)).small.right (hok _ (List.mem_map.2 ⟨j, hj, rfl⟩)).small.right).2 (.inl (by show (i : Int) < (j : Int); omega))
theorem lin_at_mem {s : List Lin} {k : Nat} (hk : k < s.length) : linAt s k ∈ s := by
  have e : linAt s k = s[k] := by simp [linAt, List.getD, hk]
  rw [e]
  exact List.getElem_mem hk
end Go.Proofs.YtmefmnpmppdpmabDoor

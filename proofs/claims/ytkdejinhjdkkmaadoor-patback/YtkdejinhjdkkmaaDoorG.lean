/- Contracts of the program's Key and Name; no condition but that a text fits. -/
import Derived.Test.YtkdejinhjdkkmaaDoorE
import Derived.Test.YtkdejinhjdkkmaaDoorF
namespace Go.Proofs.YtkdejinhjdkkmaaDoor
open Go.ChangeShapes Go.WideShapes Go.ChangeAt Go.RowKit

theorem key_chain (s : ByteArray) : isKey s.data.toList = ((s.toList == [109, 115, 103]) || ((s.toList == [114, 101, 99]) || ((s.toList == [100, 101, 102]) || ((s.toList == [97, 99, 116, 111, 114]) || ((s.toList == [111, 110]) || ((s.toList == [108, 101, 116]) || ((s.toList == [110, 101, 119]) || ((s.toList == [115, 116, 97, 114, 116]) || ((s.toList == [103, 101, 116]) || ((s.toList == [115, 101, 116]) || ((s.toList == [115, 119, 97, 112]) || ((s.toList == [114, 101, 99, 111, 118, 101, 114]) || ((s.toList == [103, 105, 118, 101]) || ((s.toList == [108, 111, 111, 112]) || ((s.toList == [115, 112, 97, 119, 110]) || ((s.toList == [99, 97, 108, 108]) || ((s.toList == [97, 103, 97, 105, 110]) || ((s.toList == [103, 117, 97, 114, 100]) || ((s.toList == [102, 114, 101, 101]) || ((s.toList == [97, 115]) || ((s.toList == [105, 102]) || ((s.toList == [101, 108, 115, 101]) || ((s.toList == [100, 111, 110, 101]) || ((s.toList == [109, 111, 118, 101]) || ((s.toList == [105, 110, 116]) || ((s.toList == [97, 114, 114]) || ((s.toList == [105, 115, 111]) || ((s.toList == [118, 97, 108]) || ((s.toList == [114, 101, 102]) || ((s.toList == [116, 97, 103]))))))))))))))))))))))))))))))) := by
  rw [← Lib.toList_data]
  simp only [isKey, keysL, List.contains_cons, List.contains_nil, Bool.or_false]
set_option maxHeartbeats 4000000 in
set_option maxRecDepth 100000 in
theorem lkey (s : ByteArray) (w : World) : Calls Tryd.prog 55 #[.string s] w fun e w' => e = .returned (.bool (isKey s.data.toList)) ∧ w = w' := by
  have E := Lib.hid (key_chain s)
  generalize isKey s.data.toList = b at E ⊢
  go_enter Tryd.func55, Tryd.ntmps55
  go_wp2
  all_goals first
    | (rename_i h1 h2; exact absurd (h1.symm.trans h2) (by decide))
    | (go_ret; exact ⟨ret_bool (by rw [E.out]; simp [*]), rfl⟩)

theorem lname (s : ByteArray) (w : World) (hs : s.size ≤ maxLen) : Calls Tryd.prog 35 #[.string s] w fun e w' => e = .returned (.bool (isWord s.data.toList && !isKey s.data.toList)) ∧ w = w' := by
  have C1 := Lib.hid (lword s w hs)
  have C2 := Lib.hid (lkey s w)
  unfold maxLen at hs
  generalize isWord s.data.toList = b1 at C1 ⊢
  generalize isKey s.data.toList = b2 at C2 ⊢
  cases b1
  · go_enter Tryd.func35, Tryd.ntmps35
    go_wp2_with (fail)
    refine C1.out.mono ?_
    rintro e w' ⟨rfl, rfl⟩
    go_wp2
    go_ret
    exact ⟨rfl, rfl⟩
  · go_enter Tryd.func35, Tryd.ntmps35
    go_wp2_with (fail)
    refine C1.out.mono ?_
    rintro e w' ⟨rfl, rfl⟩
    go_wp2_with (fail)
    refine C2.out.mono ?_
    rintro e w' ⟨rfl, rfl⟩
    go_wp2
    go_ret
    exact ⟨rfl, rfl⟩
end Go.Proofs.YtkdejinhjdkkmaaDoor

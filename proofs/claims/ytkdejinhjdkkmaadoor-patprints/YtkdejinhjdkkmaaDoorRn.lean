/- Contract of the reference's Name; the condition: the text is no longer than a text may be. -/
import Derived.Test.YtkdejinhjdkkmaaDoorE
import Derived.Test.YtkdejinhjdkkmaaDoorF
import Derived.Test.YtkdejinhjdkkmaaDoorN
namespace Go.Proofs.YtkdejinhjdkkmaaDoor
open Go.ChangeShapes Go.WideShapes Go.ChangeAt Go.RowKit

theorem rnamed_any (x : Txt) (w : World) (h : x.length ≤ maxLen) : Calls Tryd.prog 29 #[.string (str x)] w fun e w' => e = .returned (.bool (isName keysL x)) ∧ Below w.heap.size w w' := by
  have CW := Lib.hid (fun W => rword (str x) W (by rw [str_size]; exact h))
  have CK := Lib.hid (fun W => rkey (str x) W)
  rw [str_data] at CW CK
  have HE : Hid (isName keysL x = (isWord x && !isKey x)) := Lib.hid rfl
  generalize str x = sx at CW CK ⊢
  generalize isName keysL x = r at HE ⊢
  generalize isKey x = kx at CK HE
  cases hw : isWord x with
  | true =>
    rw [hw] at CW HE
    have HE2 : Hid (r = !kx) := Lib.hid HE.out
    clear hw HE
    go_enter Tryd.func29, Tryd.ntmps29
    go_wp2_with (fail)
    refine (CW.out _).mono ?_
    rintro e w1 ⟨rfl, rfl⟩
    go_wp2_with (fail)
    refine (CK.out _).mono ?_
    rintro e w2 ⟨rfl, b⟩
    have HB := Lib.hid b
    clear b
    go_wp2
    go_ret
    exact ⟨by rw [HE2.out]; rfl, HB.out⟩
  | false =>
    rw [hw] at CW HE
    have HE2 : Hid (r = false) := Lib.hid HE.out
    clear hw HE
    go_enter Tryd.func29, Tryd.ntmps29
    go_wp2_with (fail)
    refine (CW.out _).mono ?_
    rintro e w1 ⟨rfl, rfl⟩
    go_wp2
    go_ret
    exact ⟨by rw [HE2.out]; rfl, Below.refl _ _⟩

end Go.Proofs.YtkdejinhjdkkmaaDoor

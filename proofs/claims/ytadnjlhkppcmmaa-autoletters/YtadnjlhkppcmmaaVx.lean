/- The walks of AutoLetters and AutoCost, over the program's own contracts. -/
import Derived.Test.YtadnjlhkppcmmaaVg
import Derived.Test.YtadnjlhkppcmmaaUw
namespace Go.Proofs.Ytadnjlhkppcmmaa
open Go.ChangeShapes Go.WideShapes Go.ChangeAt Go.RowKit

theorem cost_walk9 (a : Option Addr) (len cap : Nat) (zs : List Int) (letter : Int) (w : World) (h : Hid (Came w a len cap zs)) (hl : 0 ≤ letter ∧ letter ≤ 18446744073709551615) :
    Calls Try.prog 7 #[.slice a len cap, .int .u64 letter] w (True_ w) :=
  cost_walk (Lib.hid start10) (Lib.hid next14) (Lib.hid wakes23) a len cap zs letter w h hl.1 hl.2
theorem letters_walk9 (a : Option Addr) (len cap : Nat) (zs : List Int) (at_ : Int) (w : World) (h : Hid (Came w a len cap zs)) (hl : -9223372036854775808 ≤ at_ ∧ at_ ≤ 9223372036854775807) :
    Calls Try.prog 5 #[.slice a len cap, .int .i64 at_] w (True_ w) :=
  letters_walk (Lib.hid letter26) (Lib.hid wakes23) a len cap zs at_ w h hl.1 hl.2
end Go.Proofs.Ytadnjlhkppcmmaa

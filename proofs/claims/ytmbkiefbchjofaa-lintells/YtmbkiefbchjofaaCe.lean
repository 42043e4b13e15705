/- The program's Point, and the example. -/
import Derived.Test.YtmbkiefbchjofaaCd
namespace Go.Proofs.Ytmbkiefbchjofaa
open Go.ChangeShapes Go.WideShapes Go.ChangeAt Go.RowKit

theorem point15 (a pa : Option Addr) (c pc : Nat) (x : Lin) (w : World) (R : Bag w a c x.base) (P : Bags w pa pc x.ps) :
    Calls Try.prog 15 #[.agg #[.slice a x.base.length c, .slice pa x.ps.length pc]] w (TellsB (pointLin x) w) := by
  have hle := P.le
  obtain ⟨n, hn⟩ : ∃ n, n = x.base.length := ⟨_, rfl⟩
  obtain ⟨m, hm⟩ : ∃ m, m = x.ps.length := ⟨_, rfl⟩
  have HB0 : Hid (Below w.heap.size w (w.alloc (.cells #[.slice a n c, .slice pa m pc] 29))) := Lib.hid ((Below.refl _ _).alloc (Nat.le_refl _) _)
  have HX : Hid (Lies (w.alloc (.cells #[.slice a n c, .slice pa m pc] 29)) w.heap.size 29 [.slice a n c, .slice pa m pc]) := Lib.hid (Lies.new w _ _)
  have HZ : Hid (Calls Try.prog 13 #[.agg #[.slice a n c, .slice pa m pc]] (w.alloc (.cells #[.slice a n c, .slice pa m pc] 29)) (TellsB (rightLin x) (w.alloc (.cells #[.slice a n c, .slice pa m pc] 29)))) := Lib.hid (by
    have := right13 a pa c pc x _ (R.below HB0.out) (P.below HB0.out)
    rwa [← hn, ← hm] at this)
  have HE : Hid (pointLin x = (decide (m = 0) && rightLin x)) := Lib.hid (by
    rw [hm]
    cases h : x.ps <;> simp [pointLin, h])
  rw [← hm] at hle
  rw [← hn, ← hm]
  clear R P hn hm
  go_enter Try.func15, Try.ntmps15
  by_cases h0 : m = 0
  · subst h0
    go_wp2_with (fail)
    refine HZ.out.mono ?_
    rintro e w' ⟨rfl, b1⟩
    clear HZ
    have HB1 : Hid (Below w.heap.size w w') := Lib.hid (HB0.out.trans (b1.mono (by have := HX.out.lt; omega)))
    clear b1
    generalize rightLin x = r at HE ⊢
    go_wp2
    go_ret
    exact ⟨by rw [HE.out]; try simp, HB1.out⟩
  · have hl0 : ((m : Int) == 0) = false := by simp; omega
    go_wp2
    go_ret
    exact ⟨by rw [HE.out]; simp [h0], HB0.out⟩

theorem wakes_any (w : World) : Calls Try.prog 20 #[] w (True_ w) := by
  have Z1 : Hid (∀ W, Calls Try.prog 15 #[.agg #[.slice none 0 0, .slice none 0 0]] W (TellsB true W)) := Lib.hid (fun W => point15 none none 0 0 ⟨[], []⟩ W (Bag.nil W) (Bags.nil W))
  have Z2 : Hid (∀ W, Calls Try.prog 13 #[.agg #[.slice none 0 0, .slice none 0 0]] W (TellsB true W)) := Lib.hid (fun W => right13 none none 0 0 ⟨[], []⟩ W (Bag.nil W) (Bags.nil W))
  go_enter Try.func20, Try.ntmps20
  go_wp2_with (fail)
  refine (Z1.out _).mono ?_
  rintro e w1 ⟨rfl, b1⟩
  have HB1 := Lib.hid b1
  clear b1
  go_wp2_with (fail)
  refine (Z2.out _).mono ?_
  rintro e w2 ⟨rfl, b2⟩
  have HB2 := Lib.hid (HB1.out.trans (b2.mono HB1.out.size))
  clear b2
  go_wp2
  go_ret
  exact ⟨rfl, HB2.out⟩
end Go.Proofs.Ytmbkiefbchjofaa

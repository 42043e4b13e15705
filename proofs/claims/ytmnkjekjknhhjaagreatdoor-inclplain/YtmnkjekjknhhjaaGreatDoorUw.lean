/- The walks of AutoLetters and AutoCost, over the program's functions handed in. -/
import Derived.Test.YtmnkjekjknhhjaaGreatDoorUo
import Derived.WalkSmall
namespace Go.Proofs.YtmnkjekjknhhjaaGreatDoor
open Go.ChangeShapes Go.WideShapes Go.ChangeAt Go.RowKit

def Plays4 (w : World) (e : Ending) (w' : World) : Prop := ∃ xs, Small 39 xs ∧ xs.length ≤ 4 ∧ Makes xs w e w'
theorem four_len {vs : List Int} (h : Four vs) : (normL vs).length ≤ 4 := by
  have hs := h.small
  refine short_of hs.right (fun t ht => ?_)
  have hr : rightL (trimL vs) = true := right_of (by rw [trim_len]; have := cut_le vs; have := h.1; omega) (fun j _ => by rw [trim_at]; have := h.2 j; omega) trim_last
  rw [norm_yes hr, trim_at, getD_past (by rw [h.1]; exact ht)]
set_option maxHeartbeats 2000000 in
theorem play_any4 (a : Option Addr) (len cap : Nat) (zs : List Int) (w : World) (h : Came w a len cap zs) :
    Calls Tryz.prog 13 #[.slice a len cap] w (Plays4 w) := by
  have HC := Lib.hid h
  clear h
  go_enter Tryz.func13, Tryz.ntmps13
  go_wp2_with (at_make; refine wpList_make_bag _ rfl _ _ rfl _ _ 4 rfl rfl rfl rfl (by omega) ?_)
  intro w1 r1 b1
  have HR1 := Lib.hid r1
  clear r1
  go_wp2_with (fail)
  go_loopw [9] (fun i wr => ∃ (k : Nat) (vs : List Int), k ≤ 4 ∧ i = .int .i64 k ∧ Hid (Four vs) ∧ Hid (Bag wr (some ⟨w.heap.size, 0, none⟩) 4 vs) ∧ Below w.heap.size w wr) (fun i _ => 4 - (intOf i).toNat)
  case atStart => exact ⟨0, _, Nat.zero_le _, rfl, Lib.hid four_zero, HR1, b1⟩
  case round =>
    clear HR1 b1
    obtain ⟨k, vs, hk, rfl, HF, HB, bel⟩ := hrel
    by_cases hlt : k < 4
    · have A := at_any a len cap zs k wr (HC.out.below bel) (by omega)
      obtain ⟨g, e, hs⟩ := HB.out.at (k := k) (by rw [HF.out.1]; omega)
      injection e with e; injection e with e
      have hg : w.heap.size = g := e
      subst hg
      clear e
      generalize vs.getD k 0 = z0 at hs
      have hf := HB.out.frozen k
      go_wp2_with (fail)
      refine A.mono ?_
      rintro e w' ⟨n, n0, n1, rfl, rfl⟩
      clear A
      go_wp2_with (fail)
      refine (within_any n 4 _ (by omega) (by omega) n0 n1).mono ?_
      rintro e w' ⟨r, p0, p1, rfl, rfl⟩
      have HP := Lib.hid (HB.out.set (j := k) (by rw [HF.out.1]; omega) r)
      have HF1 := Lib.hid (HF.out.set k p0 (z := r) (by omega))
      have bel1 : Below w.heap.size w (wr.setCell ⟨w.heap.size, k, none⟩ (.int .i64 r)) := bel.setCell (Nat.le_refl _) _
      by_cases h10 : n.tmod 11 = 10
      · go_wp2_with (fail)
        refine (within_any n 40 _ (by omega) (by omega) n0 n1).mono ?_
        rintro e w' ⟨r2, q0, q1, rfl, rfl⟩
        have HP2 := Lib.hid (HP.out.set (j := k) (by rw [HF1.out.1]; omega) r2)
        have HF2 := Lib.hid (HF1.out.set k q0 (z := r2) (by omega))
        have bel2 := bel1.setCell (p := ⟨w.heap.size, k, none⟩) (Nat.le_refl _) (.int .i64 r2)
        have hf1 : (wr.setCell ⟨w.heap.size, k, none⟩ (.int .i64 r)).frozen? ⟨w.heap.size, k, none⟩ = false := HP.out.frozen k
        go_wp2
        go_roundw
        case rel => exact ⟨k + 1, _, by omega, by go_num, HF2, HP2, bel2⟩
        case measure => simp [intOf]; omega
      · go_wp2
        go_roundw
        case rel => exact ⟨k + 1, _, by omega, by go_num, HF1, HP, bel1⟩
        case measure => simp [intOf]; omega
    · have N := norm20 _ 4 vs wr HB.out (by rw [HF.out.1]; omega)
      rw [HF.out.1] at N
      have HS := Lib.hid (And.intro HF.out.small (four_len HF.out))
      generalize normL vs = ys at *
      go_wp2_with (fail)
      refine N.mono ?_
      rintro e w2 ⟨a2, c2, rfl, r2, f2, b2⟩
      go_wp2
      go_ret
      exact ⟨ys, HS.out.1, HS.out.2, a2, c2, rfl, r2, fun g e => Nat.le_trans bel.size (f2 g e), bel.trans (b2.mono bel.size)⟩
end Go.Proofs.YtmnkjekjknhhjaaGreatDoor

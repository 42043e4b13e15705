/- Words that are made of any numbers: the contract of columbaryplay.Bag. -/
import Derived.Test.YtmbkiefbchjofaaK
namespace Go.Proofs.Ytmbkiefbchjofaa
open Go.ChangeShapes Go.WideShapes Go.ChangeAt Go.RowKit

theorem RowAt.below {w w' : World} {a : Option Addr} {zs : List Int} {k : Nat} (h : RowAt w a zs k) (b : Below w.heap.size w w') : RowAt w' a zs k := by
  obtain ⟨bk, off, e, hc, hb, h1, h2⟩ := h
  exact ⟨bk, off, e, (b.cell (p := ⟨bk, off + k, none⟩) hb).trans hc, Nat.lt_of_lt_of_le hb b.size, h1, h2⟩

/-- Some number. -/
def SomeI (w : World) (e : Ending) (w' : World) : Prop := ∃ n : Int, -9223372036854775808 ≤ n ∧ n ≤ 9223372036854775807 ∧ e = .returned (.int .i64 n) ∧ w = w'
/-- What is known of a slice of numbers that came in. -/
def Came (w : World) (a : Option Addr) (len cap : Nat) (zs : List Int) : Prop :=
  len ≤ 9223372036854775807 ∧ (a = none → len = 0 ∧ cap = 0) ∧ len ≤ cap ∧ len ≤ zs.length ∧ ∀ k, k < len → RowAt w a zs k
theorem Came.below {w w' : World} {a : Option Addr} {len cap : Nat} {zs : List Int} (h : Came w a len cap zs) (b : Below w.heap.size w w') : Came w' a len cap zs :=
  ⟨h.1, h.2.1, h.2.2.1, h.2.2.2.1, fun k hk => (h.2.2.2.2 k hk).below b⟩

theorem at_any (a : Option Addr) (len cap : Nat) (zs : List Int) (k : Nat) (w : World) (h : Came w a len cap zs) (hk : k ≤ 1000) :
    Calls Try.prog 58 #[.slice a len cap, .int .i64 k] w (SomeI w) := by
  have hlen := h.1
  have HR := Lib.hid h.2.2.2.2
  clear h
  have h0 : ¬ ((k : Int) < 0) := by omega
  by_cases hlt : k < len
  · obtain ⟨b, off, rfl, hc, hb, h1, h2⟩ := HR.out k hlt
    generalize zs.getD k 0 = z at hc h1 h2
    go_enter Try.func58, Try.ntmps58
    go_wp2
    go_ret
    exact ⟨z, h1, h2, rfl, rfl⟩
  · go_enter Try.func58, Try.ntmps58
    go_wp2
    go_ret
    exact ⟨0, by omega, by omega, rfl, rfl⟩

/-- Four numbers from 0 to 39. -/
def Four (vs : List Int) : Prop := vs.length = 4 ∧ ∀ j, 0 ≤ vs.getD j 0 ∧ vs.getD j 0 ≤ 39
theorem four_zero : Four (tab 4 (fun _ => 0)) := by
  refine ⟨tab_len _ _, fun j => ?_⟩
  by_cases hj : j < 4
  · rw [tab_at hj]; omega
  · rw [tab_past (by omega)]; omega
theorem Four.set {vs : List Int} (h : Four vs) (k : Nat) {z : Int} (h0 : 0 ≤ z) (h1 : z ≤ 39) : Four (vs.set k z) := by
  refine ⟨by rw [List.length_set]; exact h.1, fun j => ?_⟩
  have := h.2 j
  rw [List.getD_eq_getElem?_getD, List.getElem?_set]
  by_cases e : k = j
  · rw [if_pos e]
    by_cases hl : k < vs.length
    · rw [if_pos hl]; exact ⟨h0, h1⟩
    · rw [if_neg hl]; simp
  · rw [if_neg e, ← List.getD_eq_getElem?_getD]; exact this
theorem Four.small {vs : List Int} (h : Four vs) : Small 39 (normL vs) := by
  have hc := cut_le vs
  have hr : rightL (trimL vs) = true := right_of (by rw [trim_len]; have := h.1; omega) (fun j _ => by rw [trim_at]; have := h.2 j; omega) trim_last
  rw [norm_yes hr]
  exact ⟨hr, by rw [trim_len]; have := h.1; omega, fun j => by rw [trim_at]; exact (h.2 j).2⟩

/-- What play.Bag comes to: a small word. -/
def Plays (w : World) (e : Ending) (w' : World) : Prop := ∃ xs, Small 39 xs ∧ Makes xs w e w'

set_option maxHeartbeats 2000000 in
theorem play_any (a : Option Addr) (len cap : Nat) (zs : List Int) (w : World) (h : Came w a len cap zs) :
    Calls Try.prog 47 #[.slice a len cap] w (Plays w) := by
  have HC := Lib.hid h
  clear h
  go_enter Try.func47, Try.ntmps47
  go_wp2_with (at_make; refine wpList_make_bag _ rfl _ _ rfl _ _ 4 rfl rfl rfl rfl (by omega) ?_)
  intro w1 r1 b1
  have HR1 := Lib.hid r1
  clear r1
  go_wp2_with (fail)
  go_loopw [9] (fun i wr => ∃ (k : Nat) (vs : List Int), k ≤ 4 ∧ i = .int .i64 k ∧ Hid (Four vs) ∧ Hid (Bag wr (some ⟨w.heap.size, 0, none⟩) 4 vs) ∧ Below w.heap.size w wr) (fun i _ => 4 - (intOf i).toNat)
  case atStart => exact ⟨0, _, Nat.zero_le _, rfl, Lib.hid four_zero, HR1, b1⟩
  case round =>
    clear HR1 b1
    obtain ⟨k, vs, hk, rfl, HF, HB, bel⟩ := hrel
    by_cases hlt : k < 4
    · have A := at_any a len cap zs k wr (HC.out.below bel) (by omega)
      obtain ⟨g, e, hs⟩ := HB.out.at (k := k) (by rw [HF.out.1]; omega)
      injection e with e; injection e with e
      have hg : w.heap.size = g := e
      subst hg
      clear e
      generalize vs.getD k 0 = z0 at hs
      have hf := HB.out.frozen k
      go_wp2_with (fail)
      refine A.mono ?_
      rintro e w' ⟨n, n0, n1, rfl, rfl⟩
      clear A
      go_wp2_with (fail)
      refine (within_any n 4 _ (by omega) (by omega) n0 n1).mono ?_
      rintro e w' ⟨r, p0, p1, rfl, rfl⟩
      have HP := Lib.hid (HB.out.set (j := k) (by rw [HF.out.1]; omega) r)
      have HF1 := Lib.hid (HF.out.set k p0 (z := r) (by omega))
      have bel1 : Below w.heap.size w (wr.setCell ⟨w.heap.size, k, none⟩ (.int .i64 r)) := bel.setCell (Nat.le_refl _) _
      by_cases h10 : n.tmod 11 = 10
      · go_wp2_with (fail)
        refine (within_any n 40 _ (by omega) (by omega) n0 n1).mono ?_
        rintro e w' ⟨r2, q0, q1, rfl, rfl⟩
        have HP2 := Lib.hid (HP.out.set (j := k) (by rw [HF1.out.1]; omega) r2)
        have HF2 := Lib.hid (HF1.out.set k q0 (z := r2) (by omega))
        have bel2 := bel1.setCell (p := ⟨w.heap.size, k, none⟩) (Nat.le_refl _) (.int .i64 r2)
        have hf1 : (wr.setCell ⟨w.heap.size, k, none⟩ (.int .i64 r)).frozen? ⟨w.heap.size, k, none⟩ = false := HP.out.frozen k
        go_wp2
        go_roundw
        case rel => exact ⟨k + 1, _, by omega, by go_num, HF2, HP2, bel2⟩
        case measure => simp [intOf]; omega
      · go_wp2
        go_roundw
        case rel => exact ⟨k + 1, _, by omega, by go_num, HF1, HP, bel1⟩
        case measure => simp [intOf]; omega
    · have N := norm20 _ 4 vs wr HB.out (by rw [HF.out.1]; omega)
      rw [HF.out.1] at N
      have HS := Lib.hid HF.out.small
      generalize normL vs = ys at *
      go_wp2_with (fail)
      refine N.mono ?_
      rintro e w2 ⟨a2, c2, rfl, r2, f2, b2⟩
      go_wp2
      go_ret
      exact ⟨ys, HS.out, a2, c2, rfl, r2, fun g e => Nat.le_trans bel.size (f2 g e), bel.trans (b2.mono bel.size)⟩
end Go.Proofs.Ytmbkiefbchjofaa

/- The walk of the law MeterPlays of chapter 1. -/
import Derived.Test.YtdfbomlnbogjkaaR
import Derived.Deep.DeepCutAuto
import Derived.Deep.RegionWith
namespace Go.Proofs.Ytdfbomlnbogjkaa
open Go.ChangeShapes Go.WideShapes Go.ChangeAt Go.RowKit

theorem At.drew {w : World} {b : Nat} {B S : Int} {o : Bool} (a : At w b B S o) : At w.drew b B S o := ⟨a.c0, a.c1, a.c2, a.f1, a.f2⟩
/-- Both meters hold the same, within the budget; nothing that was there has turned. -/
def Mid (w : World) (r : Nat) (B : Int) (wx : World) : Prop := ∃ (S : Int) (o : Bool), 0 ≤ S ∧ S ≤ B ∧ At wx w.heap.size B S o ∧ At wx r B S o ∧ Below w.heap.size w wx

set_option maxRecDepth 100000 in
set_option maxHeartbeats 4000000 in
theorem plays (z : Int) (a : Option Addr) (len cap : Nat) (zs : List Int) (w : World)
    (hz1 : z ≤ 9223372036854775807) (hlen : len ≤ 9223372036854775807) (HR : Hid (∀ k, k < len → RowAt w a zs k)) :
    Calls Try.prog 3 #[.int .i64 z, .slice a len cap] w (LastPost w) := by
  obtain ⟨B, hB⟩ : ∃ B, B = max z 0 := ⟨_, rfl⟩
  have hB0 : 0 ≤ B := by omega
  have hB1 : B ≤ 9223372036854775807 := by omega
  have HB := Lib.hid hB
  clear hB
  go_enter Try.func3, Try.ntmps3
  go_wp2_with (fail)
  refine (new_any _ _).mono ?_
  rintro e w1 ⟨rfl, a1, b1, s1⟩
  go_wp2_with (fail)
  refine (rnew_any _ _).mono ?_
  rintro e w2 ⟨rfl, a2, b2, s2⟩
  have A0 : At w2 w.heap.size B 0 false := (a1.below b2 (by omega)).to HB.out.symm rfl
  have R0 : At w2 w1.heap.size B 0 false := a2.to HB.out.symm rfl
  have ne : w1.heap.size ≠ w.heap.size := by omega
  have le : w.heap.size ≤ w1.heap.size := by omega
  have b0 : Below w.heap.size w w2 := b1.trans (b2.mono le)
  have NE := Lib.hid ne
  clear a1 a2 b1 b2 s1 s2 ne
  generalize w1.heap.size = r at A0 R0 NE le ⊢
  go_wp2_with (fail)
  go_loopw [17] (fun i wr => ∃ (k : Nat) (S : Int) (o : Bool), k ≤ len ∧ i = .int .i64 k ∧ 0 ≤ S ∧ S ≤ B ∧ At wr w.heap.size B S o ∧ At wr r B S o ∧ Below w.heap.size w wr) (fun i _ => len - (intOf i).toNat)
  case atStart => exact ⟨0, 0, false, Nat.zero_le _, rfl, by omega, by omega, A0, R0, b0⟩
  case round =>
    clear A0 b0 R0
    obtain ⟨k, S, o, hk, rfl, hS0, hS1, A1, R1, bel⟩ := hrel
    by_cases hlt : k < len
    · obtain ⟨b, off, rfl, hc0, hb, hn0, hn1⟩ := HR.out k hlt
      have hc := (bel.cell (p := ⟨b, off + k, none⟩) hb).trans hc0
      clear hc0
      generalize zs.getD k 0 = n at hc hn0 hn1
      go_wp2_with (fail)
      go_cut [45] (fun v wx => v = .bool false ∧ Mid w r B wx)
      case first =>
        have D1 := A1.drew
        have D2 := R1.drew
        go_region_with (first
          | (go_at_call 10; refine (spend_any _ B S n o _ ?_ hS0 hS1 hB1).mono ?_; exact D1; rintro e w3 ⟨rfl, A3, O3⟩; have R3 := O3.at NE.out D2)
          | (go_at_call 11; refine (rspend_any _ B S n o _ ?_ hS0 hS1 hB1).mono ?_; exact R3; rintro e w4 ⟨rfl, R4, O4⟩; have A4 := O4.at (Ne.symm NE.out) A3; have c1 := R4.c1; have c2 := R4.c2)
          | (go_at_call 12; refine (spent_any _ _ _ _ _ A4).mono ?_; rintro e w5 ⟨rfl, rfl⟩)
          | (go_at_call 13; refine (out_any _ _ _ _ _ A4).mono ?_; rintro e w5 ⟨rfl, rfl⟩))
        all_goals
          go_wp2_with (fail)
          go_meet
          exact ⟨rfl, _, _, (next_bd hS0 hS1).1, (next_bd hS0 hS1).2, A4, R4, (bel.drew.trans (O3.below (Nat.le_refl _))).trans (O4.below le)⟩
      case rest =>
        obtain ⟨rfl, S', o', h0, h1, A2, R2, bel2⟩ := hcut
        go_wp2
        go_roundw
        case rel => exact ⟨k + 1, S', o', by omega, by go_num, h0, h1, A2, R2, bel2⟩
        case measure => simp [intOf]; omega
    · go_wp2_with (fail)
      have D1 := A1.drew
      have c1 := R1.c1
      have c2 := R1.c2
      go_region_with (first
        | (go_at_call 12; refine (spent_any _ B S o _ ?_).mono ?_; exact D1; rintro e w5 ⟨rfl, rfl⟩)
        | (go_at_call 13; refine (out_any _ B S o _ ?_).mono ?_; exact D1; rintro e w5 ⟨rfl, rfl⟩)
        | (go_at_call 14; refine (wakes_any _).mono ?_; rintro e w9 ⟨rfl, b9⟩))
      all_goals
        go_wp2
        go_ret
        exact ⟨rfl, bel.drew.trans (b9.mono bel.size)⟩
end Go.Proofs.Ytdfbomlnbogjkaa

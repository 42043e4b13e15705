/- The walk of the law TableFold of chapter 2. -/
import Derived.Test.YtkfjnojpgffchaaQ
namespace Go.Proofs.Ytkfjnojpgffchaa
open Go.ChangeShapes Go.WideShapes Go.ChangeAt Go.RowKit

theorem at_int (X : Nat → Prop) (b : Nat) (ks vs : List Int) (i : Nat) (w : World) (h : Tab 60 3 3 w X b (ints ks) (ints vs)) (hi : i < ks.length) (hi2 : i < vs.length) :
    Calls Try.prog 23 #[.pointer (some ⟨b, 0, none⟩), .int .i64 i] w fun e w' => e = .returned (.tuple #[.int .i64 ks[i], .int .i64 vs[i], .bool true]) ∧ ∃ q, w' = w.drewN q := by
  refine (at_in X b (ints ks) (ints vs) i w h (by rw [ints_len]; exact hi) (by rw [ints_len]; exact hi2)).mono ?_
  rintro e w' ⟨rfl, h⟩
  exact ⟨by rw [ints_get hi, ints_get hi2], h⟩

theorem len_int (X : Nat → Prop) (b : Nat) (ks : List Int) (vs : List Value) (w : World) (h : Tab 60 3 3 w X b (ints ks) vs) : Calls Try.prog 22 #[.pointer (some ⟨b, 0, none⟩)] w fun e w' => e = .returned (.int .i64 ks.length) ∧ w = w' := by
  have := len_ii X b (ints ks) vs w h
  rwa [ints_len] at this

theorem Tab.below {T tk tv : TypeId} {w w' : World} {X : Nat → Prop} {b : Nat} {ks vs : List Value} (h : Tab T tk tv w X b ks vs) (k : Below w.heap.size w w') : Tab T tk tv w' X b ks vs := h.kept (Y := fun _ => False) (Kept.of_below k) (fun _ _ h => h)

set_option maxHeartbeats 4000000 in
theorem fold_walk (a : Option Addr) (len cap : Nat) (zs : List Int) (f : Int) (w : World) (hlen : len ≤ 9223372036854775807) (hsz : len * 8 ≤ 140737488355328) (HR : Hid (∀ k, k < len → RowAt w a zs k)) :
    Calls Try.prog 5 #[.slice a len cap, .int .i64 f] w (True_ w) := by
  go_enter Try.func5, Try.ntmps5
  go_wp2_with (fail)
  refine (new_ii _).mono ?_
  rintro e w1 ⟨rfl, e1⟩
  have M0 : Made w w.heap.size [] [] 0 w1 := e1 ▸ made_new w
  clear e1
  go_wp2_with (fail)
  go_loopw [21] (fun i wr => ∃ (k : Nat) (ks vs : List Int), k ≤ len ∧ i = .int .i64 k ∧ Made w w.heap.size ks vs k wr) (fun i _ => len - (intOf i).toNat)
  case atStart => exact ⟨0, [], [], Nat.zero_le _, rfl, M0⟩
  case round =>
    clear M0
    obtain ⟨k, ks, vs, hk, rfl, M⟩ := hrel
    by_cases hlt : k < len
    · obtain ⟨bk, off, rfl, hc0, hb, _, _⟩ := HR.out k hlt
      have hc := (M.2.2.2.2.cell (p := ⟨bk, off + k, none⟩) hb).trans hc0
      clear hc0
      generalize zs.getD k 0 = n at hc
      have P := made_put w _ ks vs k n k _ M (by omega)
      clear M
      go_wp2_with (fail)
      refine P.mono ?_
      clear P
      rintro e w2 ⟨rfl, M2⟩
      go_wp2
      go_roundw
      case rel => exact ⟨k + 1, _, _, by omega, by go_num, M2⟩
      case measure => simp [intOf]; omega
    · obtain ⟨t, -, hl, hkl, bel⟩ := M
      have HL := Lib.hid hl
      clear hl
      go_wp2_with (fail)
      go_loopw [8, 9] (fun x i wy => ∃ j q : Nat, j ≤ ks.length ∧ i = .int .i64 j ∧ x = .int .i64 (mixN ks vs f j) ∧ wy = wr.drewN q) (fun _ i _ => ks.length - (intOf i).toNat)
      case atStart => exact ⟨0, 0, Nat.zero_le _, rfl, rfl, rfl⟩
      case round =>
        obtain ⟨j, q, hj, rfl, rfl, rfl⟩ := hrel
        by_cases hjl : j < ks.length
        · have hjv : j < vs.length := by rw [← HL.out]; exact hjl
          have A := at_int _ _ ks vs j _ (t.drewN q) hjl hjv
          have HM := Lib.hid (mixN_succ (f := f) hjl hjv)
          generalize ks[j] = x at A HM
          generalize vs[j] = y at A HM
          go_wp2_with (fail)
          refine (len_int _ _ ks (ints vs) _ (t.drewN q)).mono ?_
          rintro e w' ⟨rfl, rfl⟩
          go_wp2_with (fail)
          refine A.mono ?_
          rintro e w' ⟨rfl, q2, rfl⟩
          go_wp2
          go_roundw
          case rel => exact ⟨j + 1, q + q2, by omega, by go_num, by rw [HM.out]; rfl, by simp [World.drewN]⟩
          case measure => simp [intOf]; omega
        · obtain rfl : j = ks.length := by omega
          have t0 := t.drewN q
          have bel0 := bel.trans (below_drewN _ wr q)
          clear t bel
          generalize wr.drewN q = wx at *
          generalize hm : mixN ks vs f ks.length = m at *
          have HMM := Lib.hid hm
          clear hm
          go_wp2_with (fail)
          refine (len_int _ _ ks (ints vs) _ t0).mono ?_
          rintro e w' ⟨rfl, rfl⟩
          go_wp2_with (fail)
          refine (fold_ii _ _ ks vs f _ t0 HL.out (by omega)).mono ?_
          rintro e w2 ⟨rfl, b2⟩
          rw [HMM.out]
          have t2 := t0.below b2
          have bel2 := bel0.trans (b2.mono bel0.size)
          clear t0 bel0 b2
          go_wp2_with (fail)
          refine (fold_ir _ _ ks vs _ t2 HL.out (by omega)).mono ?_
          rintro e w3 ⟨ra, rc, rfl, r3, b3⟩
          have t3 := t2.below b3
          have bel3 := bel2.trans (b3.mono bel2.size)
          clear t2 bel2 b3
          go_wp2_with (fail)
          refine (new_ii _).mono ?_
          rintro e w4 ⟨rfl, e4⟩
          have lb : Lies w4 w3.heap.size 60 [.slice none 0 0, .slice none 0 0] := e4 ▸ Lies.new w3 60 _
          have b4 : Below w3.heap.size w3 w4 := e4 ▸ (Below.refl _ _).alloc (Nat.le_refl _) _
          have t4 := t3.below b4
          have r4 := r3.below b4
          have bel4 := bel3.trans (b4.mono bel3.size)
          clear t3 r3 b4 bel3 e4
          go_wp2_with (fail)
          refine (fold_i_new _ f _ lb).mono ?_
          rintro e w5 ⟨rfl, b5⟩
          have t5 := t4.below b5
          have r5 := r4.below b5
          have bel5 := bel4.trans (b5.mono bel4.size)
          clear t4 r4 b5 bel4 lb
          go_wp2_with (fail)
          refine (keys_ii _ _ ks (ints vs) _ t5 (by omega)).mono ?_
          rintro e w6 ⟨na, nc, rfl, r6, f6, b6⟩
          rw [ints_len]
          have r6' := r5.below b6
          have bel6 := bel5.trans (b6.mono bel5.size)
          clear t5 r5 b6 bel5 f6
          go_wp2_with (fail)
          refine (same_yes ra na rc nc ks w6 r6' r6).mono ?_
          rintro e w7 ⟨rfl, q7, rfl⟩
          go_wp2_with (fail)
          refine (wakes_any _).mono ?_
          rintro e w8 ⟨rfl, b8⟩
          go_wp2
          go_ret
          exact ⟨rfl, (bel6.trans (below_drewN _ _ q7)).trans (b8.mono bel6.size)⟩
end Go.Proofs.Ytkfjnojpgffchaa

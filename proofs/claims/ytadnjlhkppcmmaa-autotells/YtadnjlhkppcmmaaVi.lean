/- The law AutoTells: its walk. -/
import Derived.Test.YtadnjlhkppcmmaaVy
import Derived.Test.YtadnjlhkppcmmaaUb
import Derived.Test.YtadnjlhkppcmmaaTq
import Derived.Deep.CutBlock
import Derived.Deep.DeepCutAuto
import Derived.Deep.CutRange
import Derived.Deep.RegionHeld3
namespace Go.Proofs.Ytadnjlhkppcmmaa
open Go.ChangeShapes Go.WideShapes Go.ChangeAt Go.RowKit
def rgVi0 : Oper := { dst := some 54, op := Op.move (Operand.tmp 11), type := 26, pos := "law.go:45", after := #[], guard := none }
def rgVi1 : Oper := { dst := some 56, op := Op.move (Operand.tmp 11), type := 26, pos := "law.go:45", after := #[], guard := none }
def rgVi2 : Oper := { dst := some 55, op := Op.call { callee := Callee.value (Operand.func 10), args := #[Operand.tmp 54], argTypes := #[26] }, type := 28, pos := "law.go:45", after := #[{ on := 0, ground := Ground.data }], guard := none }
def rgVi3 : Oper := { dst := some 57, op := Op.call { callee := Callee.value (Operand.func 17), args := #[Operand.tmp 56], argTypes := #[26] }, type := 28, pos := "law.go:45", after := #[{ on := 2, ground := Ground.data }, { on := 1, ground := Ground.chain }], guard := none }
def rgVi4 : Oper := { dst := some 58, op := Op.call { callee := Callee.value (Operand.func 16), args := #[Operand.tmp 55, Operand.tmp 57], argTypes := #[28, 28] }, type := 4, pos := "law.go:45", after := #[{ on := 1, ground := Ground.data }, { on := 3, ground := Ground.data }, { on := 3, ground := Ground.chain }], guard := none }
def rgVi5 : Oper := { dst := some 59, op := Op.move (Operand.tmp 58), type := 4, pos := "law.go:45", after := #[{ on := 4, ground := Ground.data }, { on := 4, ground := Ground.chain }], guard := none }
def rgVi6 : Oper := { dst := some 60, op := Op.move (Operand.tmp 11), type := 26, pos := "law.go:45", after := #[{ on := 5, ground := Ground.guard }], guard := some (5, true) }
def rgVi7 : Oper := { dst := some 61, op := Op.move (Operand.tmp 12), type := 28, pos := "law.go:45", after := #[{ on := 5, ground := Ground.guard }], guard := some (5, true) }
def rgVi8 : Oper := { dst := some 63, op := Op.move (Operand.tmp 11), type := 26, pos := "law.go:45", after := #[{ on := 5, ground := Ground.guard }], guard := some (5, true) }
def rgVi9 : Oper := { dst := some 64, op := Op.move (Operand.tmp 12), type := 28, pos := "law.go:45", after := #[{ on := 5, ground := Ground.guard }], guard := some (5, true) }
def rgVi10 : Oper := { dst := some 62, op := Op.call { callee := Callee.value (Operand.func 18), args := #[Operand.tmp 60, Operand.tmp 61], argTypes := #[26, 28] }, type := 4, pos := "law.go:45", after := #[{ on := 6, ground := Ground.data }, { on := 7, ground := Ground.data }, { on := 5, ground := Ground.chain }, { on := 5, ground := Ground.guard }], guard := some (5, true) }
def rgVi11 : Oper := { dst := some 65, op := Op.call { callee := Callee.value (Operand.func 19), args := #[Operand.tmp 63, Operand.tmp 64], argTypes := #[26, 28] }, type := 4, pos := "law.go:45", after := #[{ on := 9, ground := Ground.data }, { on := 10, ground := Ground.data }, { on := 8, ground := Ground.chain }, { on := 5, ground := Ground.guard }], guard := some (5, true) }
def rgVi12 : Oper := { dst := some 66, op := Op.binOp BinOp.eql 4 (Operand.tmp 62) (Operand.tmp 65) 4, type := 4, pos := "law.go:45", after := #[{ on := 8, ground := Ground.data }, { on := 11, ground := Ground.data }, { on := 5, ground := Ground.guard }], guard := some (5, true) }
def rgVi13 : Oper := { dst := some 67, op := Op.pick (Operand.tmp 59) (Operand.tmp 66) (Operand.const (Value.bool false)), type := 4, pos := "law.go:45", after := #[{ on := 5, ground := Ground.data }, { on := 12, ground := Ground.data }], guard := none }
def rgVi14 : Oper := { dst := some 68, op := Op.move (Operand.tmp 67), type := 4, pos := "law.go:45", after := #[{ on := 13, ground := Ground.data }, { on := 11, ground := Ground.chain }], guard := none }
def rgVi15 : Oper := { dst := some 69, op := Op.move (Operand.tmp 12), type := 28, pos := "law.go:45", after := #[{ on := 14, ground := Ground.guard }], guard := some (14, true) }
def rgVi16 : Oper := { dst := some 71, op := Op.move (Operand.tmp 12), type := 28, pos := "law.go:45", after := #[{ on := 14, ground := Ground.guard }], guard := some (14, true) }
def rgVi17 : Oper := { dst := some 70, op := Op.call { callee := Callee.value (Operand.func 20), args := #[Operand.tmp 69], argTypes := #[28] }, type := 4, pos := "law.go:45", after := #[{ on := 15, ground := Ground.data }, { on := 14, ground := Ground.chain }, { on := 14, ground := Ground.guard }], guard := some (14, true) }
def rgVi18 : Oper := { dst := some 72, op := Op.call { callee := Callee.value (Operand.func 21), args := #[Operand.tmp 71], argTypes := #[28] }, type := 4, pos := "law.go:45", after := #[{ on := 17, ground := Ground.data }, { on := 16, ground := Ground.chain }, { on := 14, ground := Ground.guard }], guard := some (14, true) }
def rgVi19 : Oper := { dst := some 73, op := Op.binOp BinOp.eql 4 (Operand.tmp 70) (Operand.tmp 72) 4, type := 4, pos := "law.go:45", after := #[{ on := 16, ground := Ground.data }, { on := 18, ground := Ground.data }, { on := 14, ground := Ground.guard }], guard := some (14, true) }
def rgVi20 : Oper := { dst := some 74, op := Op.pick (Operand.tmp 68) (Operand.tmp 73) (Operand.const (Value.bool false)), type := 4, pos := "law.go:45", after := #[{ on := 14, ground := Ground.data }, { on := 19, ground := Ground.data }], guard := none }
def rgVi21 : Oper := { dst := some 75, op := Op.move (Operand.tmp 74), type := 4, pos := "law.go:45", after := #[{ on := 20, ground := Ground.data }, { on := 18, ground := Ground.chain }], guard := none }
def rgVi22 : Oper := { dst := some 76, op := Op.move (Operand.tmp 15), type := 28, pos := "law.go:45", after := #[{ on := 21, ground := Ground.guard }], guard := some (21, true) }
def rgVi23 : Oper := { dst := some 77, op := Op.move (Operand.tmp 17), type := 28, pos := "law.go:45", after := #[{ on := 21, ground := Ground.guard }], guard := some (21, true) }
def rgVi24 : Oper := { dst := some 78, op := Op.call { callee := Callee.value (Operand.func 16), args := #[Operand.tmp 76, Operand.tmp 77], argTypes := #[28, 28] }, type := 4, pos := "law.go:45", after := #[{ on := 22, ground := Ground.data }, { on := 23, ground := Ground.data }, { on := 21, ground := Ground.chain }, { on := 21, ground := Ground.guard }], guard := some (21, true) }
def rgVi25 : Oper := { dst := some 79, op := Op.pick (Operand.tmp 75) (Operand.tmp 78) (Operand.const (Value.bool false)), type := 4, pos := "law.go:45", after := #[{ on := 21, ground := Ground.data }, { on := 24, ground := Ground.data }], guard := none }
def rgVi26 : Oper := { dst := some 80, op := Op.move (Operand.tmp 79), type := 4, pos := "law.go:45", after := #[{ on := 25, ground := Ground.data }, { on := 24, ground := Ground.chain }], guard := none }
def rgVi27 : Oper := { dst := some 81, op := Op.move (Operand.tmp 16), type := 36, pos := "law.go:45", after := #[{ on := 26, ground := Ground.guard }], guard := some (26, true) }
def rgVi28 : Oper := { dst := some 82, op := Op.move (Operand.tmp 18), type := 3, pos := "law.go:45", after := #[{ on := 26, ground := Ground.guard }], guard := some (26, true) }
def rgVi29 : Oper := { dst := some 83, op := Op.binOp BinOp.eql 3 (Operand.tmp 81) (Operand.tmp 82) 3, type := 4, pos := "law.go:45", after := #[{ on := 27, ground := Ground.data }, { on := 28, ground := Ground.data }, { on := 26, ground := Ground.guard }], guard := some (26, true) }
def rgVi30 : Oper := { dst := some 84, op := Op.pick (Operand.tmp 80) (Operand.tmp 83) (Operand.const (Value.bool false)), type := 4, pos := "law.go:45", after := #[{ on := 26, ground := Ground.data }, { on := 29, ground := Ground.data }], guard := none }
def rgVi31 : Oper := { dst := some 85, op := Op.move (Operand.tmp 84), type := 4, pos := "law.go:45", after := #[{ on := 30, ground := Ground.data }, { on := 26, ground := Ground.chain }], guard := none }
def rgVi32 : Oper := { dst := some 86, op := Op.move (Operand.tmp 13), type := 31, pos := "law.go:45", after := #[{ on := 31, ground := Ground.guard }], guard := some (31, true) }
def rgVi33 : Oper := { dst := some 88, op := Op.move (Operand.tmp 14), type := 34, pos := "law.go:45", after := #[{ on := 31, ground := Ground.guard }], guard := some (31, true) }
def rgVi34 : Oper := { dst := some 89, op := Op.nilCheck (Operand.tmp 88), type := 0, pos := "law.go:45", after := #[{ on := 34, ground := Ground.data }, { on := 31, ground := Ground.guard }], guard := some (31, true) }
def rgVi35 : Oper := { dst := some 90, op := Op.fieldAddr 46 (Operand.tmp 89) 1, type := 0, pos := "law.go:45", after := #[{ on := 35, ground := Ground.data }, { on := 31, ground := Ground.guard }], guard := some (31, true) }
def rgVi36 : Oper := { dst := some 91, op := Op.load 3 (Operand.tmp 90), type := 3, pos := "law.go:45", after := #[{ on := 36, ground := Ground.data }, { on := 31, ground := Ground.guard }], guard := some (31, true) }
def rgVi37 : Oper := { dst := some 87, op := Op.call { callee := Callee.value (Operand.func 22), args := #[Operand.tmp 86], argTypes := #[31] }, type := 3, pos := "law.go:45", after := #[{ on := 32, ground := Ground.data }, { on := 31, ground := Ground.chain }, { on := 31, ground := Ground.guard }], guard := some (31, true) }
def rgVi38 : Oper := { dst := some 92, op := Op.binOp BinOp.eql 3 (Operand.tmp 87) (Operand.tmp 91) 3, type := 4, pos := "law.go:45", after := #[{ on := 33, ground := Ground.data }, { on := 37, ground := Ground.data }, { on := 31, ground := Ground.guard }], guard := some (31, true) }
def rgVi39 : Oper := { dst := some 93, op := Op.pick (Operand.tmp 85) (Operand.tmp 92) (Operand.const (Value.bool false)), type := 4, pos := "law.go:45", after := #[{ on := 31, ground := Ground.data }, { on := 38, ground := Ground.data }], guard := none }
def rgVi40 : Oper := { dst := some 94, op := Op.move (Operand.tmp 93), type := 4, pos := "law.go:45", after := #[{ on := 39, ground := Ground.data }, { on := 33, ground := Ground.chain }], guard := none }
def rgVi41 : Oper := { dst := some 95, op := Op.call { callee := Callee.value (Operand.func 23), args := #[], argTypes := #[] }, type := 4, pos := "law.go:45", after := #[{ on := 40, ground := Ground.chain }, { on := 40, ground := Ground.guard }], guard := some (40, true) }
def rgVi42 : Oper := { dst := some 96, op := Op.pick (Operand.tmp 94) (Operand.tmp 95) (Operand.const (Value.bool false)), type := 4, pos := "law.go:45", after := #[{ on := 40, ground := Ground.data }, { on := 41, ground := Ground.data }], guard := none }
def rgVi43 : Oper := { dst := some 10, op := Op.assign (Operand.tmp 96), type := 4, pos := "law.go:45", after := #[{ on := 42, ground := Ground.data }, { on := 41, ground := Ground.chain }, { on := 0, ground := Ground.phase }, { on := 1, ground := Ground.phase }, { on := 2, ground := Ground.phase }, { on := 3, ground := Ground.phase }, { on := 4, ground := Ground.phase }, { on := 5, ground := Ground.phase }, { on := 6, ground := Ground.phase }, { on := 7, ground := Ground.phase }, { on := 8, ground := Ground.phase }, { on := 9, ground := Ground.phase }, { on := 10, ground := Ground.phase }, { on := 11, ground := Ground.phase }, { on := 12, ground := Ground.phase }, { on := 13, ground := Ground.phase }, { on := 14, ground := Ground.phase }, { on := 15, ground := Ground.phase }, { on := 16, ground := Ground.phase }, { on := 17, ground := Ground.phase }, { on := 18, ground := Ground.phase }, { on := 19, ground := Ground.phase }, { on := 20, ground := Ground.phase }, { on := 21, ground := Ground.phase }, { on := 22, ground := Ground.phase }, { on := 23, ground := Ground.phase }, { on := 24, ground := Ground.phase }, { on := 25, ground := Ground.phase }, { on := 26, ground := Ground.phase }, { on := 27, ground := Ground.phase }, { on := 28, ground := Ground.phase }, { on := 29, ground := Ground.phase }, { on := 30, ground := Ground.phase }, { on := 31, ground := Ground.phase }, { on := 32, ground := Ground.phase }, { on := 33, ground := Ground.phase }, { on := 34, ground := Ground.phase }, { on := 35, ground := Ground.phase }, { on := 36, ground := Ground.phase }, { on := 37, ground := Ground.phase }, { on := 38, ground := Ground.phase }, { on := 39, ground := Ground.phase }, { on := 40, ground := Ground.phase }, { on := 41, ground := Ground.phase }, { on := 42, ground := Ground.phase }], guard := none }

theorem spendM_form {B S : Int} {o : Bool} {n : Int} (h0 : 0 ≤ S) (h1 : S ≤ B) : ∃ S' o', (spendM (some (B, S, o)) n).2 = some (B, S', o') ∧ 0 ≤ S' ∧ S' ≤ B :=
  ⟨_, _, rfl, (next_bd h0 h1).1, (next_bd h0 h1).2⟩
theorem itGo_form {B : Int} (s : List Lin) (letter : Int) : ∀ (l : List It) (S : Int) (o : Bool) (O : List It) (M : Mr), M = (some (B, S, o) : Mr) → 0 ≤ S → S ≤ B → ∃ x q S' o', itGo s letter l M O = (x, q, (some (B, S', o') : Mr)) ∧ 0 ≤ S' ∧ S' ≤ B
  | [], S, o, O, M, hM, h0, h1 => ⟨O, 0, S, o, by rw [hM]; rfl, h0, h1⟩
  | x :: r, S, o, O, M, hM, h0, h1 => by
    by_cases h20 : 20 < (linAt s x.j.toNat).ps.length
    · exact ⟨[], 3, S, o, by rw [itGo_20 h20, hM]; rfl, h0, h1⟩
    · obtain ⟨S1, o1, e1, g0, g1⟩ := spendM_form (o := o) (n := ((2 ^ (linAt s x.j.toNat).ps.length : Nat) : Int)) h0 h1
      have e2 : (spendM M ((2 ^ (linAt s x.j.toNat).ps.length : Nat) : Int)).2 = (some (B, S1, o1) : Mr) := by rw [hM]; exact e1
      cases hv : (spendM M ((2 ^ (linAt s x.j.toNat).ps.length : Nat) : Int)).1 with
      | false => exact ⟨[], 7, S1, o1, by rw [itGo_7 h20 rfl hv, e2]; rfl, g0, g1⟩
      | true =>
        cases hc : maskF x (linAt s x.j.toNat).ps letter (2 ^ (linAt s x.j.toNat).ps.length) 0 O with
        | none => exact ⟨[], 3, S1, o1, by rw [itGo_3 h20 rfl hv hc, e2]; rfl, g0, g1⟩
        | some O' =>
          rw [itGo_0 h20 rfl hv hc]
          exact itGo_form s letter r S1 o1 O' _ e2 g0 g1
theorem nextM_form {B S : Int} {o : Bool} (s : List Lin) (l : List It) (letter : Int) {M : Mr} (hM : M = (some (B, S, o) : Mr)) (h0 : 0 ≤ S) (h1 : S ≤ B) : ∃ x q S' o', nextM M s l letter = (x, q, (some (B, S', o') : Mr)) ∧ 0 ≤ S' ∧ S' ≤ B := by
  unfold nextM
  split
  · exact itGo_form s letter l S o [] M hM h0 h1
  · exact ⟨[], 1, S, o, by rw [hM]; rfl, h0, h1⟩
theorem costI_few {s : List Lin} (hs : Thin s) : ∀ l : List It, costI s l ≤ l.length * 256
  | [] => Nat.le_refl _
  | x :: r => by
    have ih := costI_few hs r
    have h8 : (linAt s x.j.toNat).ps.length ≤ 8 := by
      by_cases h : x.j.toNat < s.length
      · exact (hs.each _ (lin_at_mem h)).trim.few
      · have e : linAt s x.j.toNat = ⟨[], []⟩ := by simp [linAt, List.getD, h]
        rw [e]
        exact Nat.zero_le _
    have hp : 2 ^ (linAt s x.j.toNat).ps.length ≤ 2 ^ 8 := Nat.pow_le_pow_right (by omega) h8
    have e : (2 : Nat) ^ 8 = 256 := rfl
    rw [costI_cons, List.length_cons]
    omega
theorem MrAt.mk {w w' : World} {T T' : TypeId} {mp rp : Option Addr} {M R : Mr} (h : MrAt w T mp M) (hne : T' ≠ T) (k : MK mp w w') (h' : MrAt w T' rp R) : MrAt w' T' rp R := by
  cases R with
  | none => exact h'
  | some p =>
    obtain ⟨B, S, o⟩ := p
    obtain ⟨g, e, a, r⟩ := h'
    refine ⟨g, e, Lies.kept a k (fun e2 => ?_), r⟩
    rcases h.form with h3 | ⟨b, h3, cs, l⟩
    · rw [h3] at e2; cases e2
    · rw [h3] at e2; injection e2 with e2; injection e2 with e2; subst e2
      exact Lies.other a l hne rfl
theorem at_some {w : World} {T : TypeId} {g : Nat} {B S : Int} {o : Bool} (h : MrAt w T (some ⟨g, 0, none⟩) (some (B, S, o))) : At w T g B S o := by
  obtain ⟨b, e, a, _⟩ := h
  injection e with e; injection e with e; subst e
  exact a
/-- Tells a value, makes new memory at most. -/
def TellsV (v : Value) (w : World) (e : Ending) (w' : World) : Prop := e = .returned v ∧ Below w.heap.size w w'
theorem spentV {g : Nat} {B S : Int} {o : Bool} {w : World} (h : MrAt w 78 (some ⟨g, 0, none⟩) (some (B, S, o))) : Calls Try.prog 22 #[.pointer (some ⟨g, 0, none⟩)] w (TellsV (.int .i64 S) w) :=
  (spent_any g B S o w (at_some h)).mono fun e w' ⟨h1, h2⟩ => by subst h2; exact ⟨h1, Below.refl _ _⟩
theorem sameI {s : List It} {n : Nat} (hn : s.length = n) (V : World) (a b : Option Addr) (c d : Nat) (P : Its V a c s) (Q : Its V b d s) :
    Calls Try.prog 16 #[.slice a n c, .slice b n d] V (TellsB true V) := by
  have Z := sameItems_any a b c d s s V P Q
  rwa [hn, decide_eq_true rfl] at Z
set_option maxRecDepth 100000 in
set_option maxHeartbeats 8000000 in
theorem tells_walk9 (a0 : Option Addr) (l0 c0 : Nat) (z0 : List Int) (pa : Option Addr) (m pc : Nat) (qs : List Raw9) (letter n3 n4 : Int) (w : World) (h0 : Hid (Came w a0 l0 c0 z0)) (h1 : Hid (CameIts w pa m pc qs)) (hl : 0 ≤ letter ∧ letter ≤ 18446744073709551615) (hn3 : -9223372036854775808 ≤ n3 ∧ n3 ≤ 9223372036854775807) :
    Calls Try.prog 3 #[.slice a0 l0 c0, .slice pa m pc, .int .u64 letter, .int .i64 n3, .int .i64 n4] w (True_ w) := by
  obtain ⟨hL0, hL1⟩ := hl
  have hlen := h0.out.1
  have hcap := h0.out.2.2.1
  have hlen1 := h1.out.len
  have hcap1 := h1.out.cap
  go_enter Try.func3, Try.ntmps3
  have HZ := Lib.hid (semi18w a0 l0 c0 z0 w h0)
  go_wp2_with (fail)
  refine HZ.out.mono ?_
  rintro e W1 ⟨sa, sc, s, rfl, L1, T1, b1⟩
  have HB1 := Lib.hid b1
  have HT := Lib.hid T1
  have HS1 := Lib.hid L1
  have HCI := Lib.hid (h1.out.below b1)
  have hls := L1.le
  have hfew := T1.few
  generalize hn : s.length = n at hls hfew ⊢
  have HN := Lib.hid hn
  clear L1 T1 b1 HZ hn h0 h1
  have HZ := Lib.hid (of9 pa m pc qs W1 HCI)
  go_wp2_with (fail)
  refine HZ.out.mono ?_
  rintro e W2 ⟨xa, xc, x, rfl, X2, hx6, b2⟩
  have HB2 := Lib.hid (HB1.out.trans (b2.mono HB1.out.size))
  have HS2 := Lib.hid (HS1.out.below b2)
  have HX2 := Lib.hid X2
  have hlx := X2.le
  generalize hxn : x.length = xn at hlx hx6 ⊢
  have HXN := Lib.hid hxn
  clear X2 b2 hxn HZ HCI HB1 HS1
  go_upto_if 25 with (fail)
  go_cut [2, 12] from 23 to 29 (fun lv xv wx => ∃ (L : Int) (xa : Option Addr) (xc xn : Nat) (x : List It), lv = .int .u64 L ∧ xv = .slice xa xn xc ∧ 0 ≤ L ∧ L ≤ 18446744073709551615 ∧ xn ≤ 6 ∧ xn ≤ xc ∧ xc ≤ 9223372036854775807 ∧ Hid (x.length = xn) ∧ Hid (Its wx xa xc x) ∧ Hid (Lins wx sa sc s) ∧ Hid (Below w.heap.size w wx))
  case first =>
    by_cases ho : n4.tmod 3 = 0
    · have hmb : (n4.tmod 3 != 0) = false := by simp [ho]
      go_wp2
      go_meet
      exact ⟨letter, xa, xc, xn, x, rfl, rfl, hL0, hL1, hx6, hlx.1, hlx.2, HXN, HX2, HS2, HB2⟩
    · have hmb : (n4.tmod 3 != 0) = true := by simp [ho]
      have HZ := Lib.hid (startP HT.out HN.out W2 sa sc HS2.out)
      go_wp2_with (fail)
      refine HZ.out.mono ?_
      rintro e W3 ⟨ya, yc, rfl, Y3, b3⟩
      have hly := Y3.le
      have HYL : Hid ((startL s).length = n) := Lib.hid (by rw [startL_thin HT.out, startK_len, HN.out])
      rw [HYL.out] at hly
      have HY3 := Lib.hid Y3
      have HS3 := Lib.hid (HS2.out.below b3)
      have HB3 := Lib.hid (HB2.out.trans (b3.mono HB2.out.size))
      clear Y3 b3 HZ
      obtain ⟨L, hL, g0, g1⟩ := letter15 hL0 hL1
      go_wp2
      go_meet
      exact ⟨L, ya, yc, n, startL s, by first | rw [hL] | rfl, rfl, g0, by omega, hfew, hly.1, hly.2, HYL, HY3, HS3, HB3⟩
  case rest =>
    obtain ⟨L, xa, xc, xn, x, rfl, rfl, g0, g1, hx6, hl1, hl2, HXN, HX, HS, HB⟩ := hcut
    clear HX2 HS2 HB2 hlx hL0 hL1
    generalize wc = W1 at HX HS HB ⊢
    obtain ⟨B, hB, hB0⟩ : ∃ B : Int, n3 % ((60 : Nat) : Int) = B ∧ 0 ≤ B := ⟨_, rfl, Int.emod_nonneg _ (by omega)⟩
    have hB60 : B < 60 := by omega
    have ZW : Hid (∀ V, Calls Try.prog 12 #[.int .i64 n3, .int .i64 60] V fun e w' => e = .returned (.int .i64 B) ∧ V = w') := Lib.hid (fun V => by
      have Z := Q.within_mod n3 60 V (by omega) (by omega) hn3.1 hn3.2
      rwa [hB] at Z)
    clear hB hn3
    go_wp2_with (fail)
    refine (ZW.out _).mono ?_
    rintro e _ ⟨rfl, rfl⟩
    go_wp2_with (fail)
    refine (new_any B W1).mono ?_
    rintro e W2 ⟨rfl, m2, b2, _⟩
    go_wp2_with (fail)
    refine (ZW.out _).mono ?_
    rintro e _ ⟨rfl, rfl⟩
    go_wp2_with (fail)
    refine (rnew_any B W2).mono ?_
    rintro e W3 ⟨rfl, m3, b3, _⟩
    have hmax : max B 0 = B := by omega
    rw [hmax] at m2 m3
    have HM : Hid (MrAt W3 78 (some ⟨W1.heap.size, 0, none⟩) (some (B, 0, false))) := Lib.hid ⟨_, rfl, m2.below b3, by omega, by omega, by omega⟩
    have HR : Hid (MrAt W3 46 (some ⟨W2.heap.size, 0, none⟩) (some (B, 0, false))) := Lib.hid ⟨_, rfl, m3, by omega, by omega, by omega⟩
    have hgm : w.heap.size ≤ W1.heap.size := HB.out.size
    have hgr : w.heap.size ≤ W2.heap.size := Nat.le_trans HB.out.size b2.size
    have HB := Lib.hid (HB.out.trans ((b2.trans (b3.mono b2.size)).mono HB.out.size))
    have HX := Lib.hid ((HX.out.below b2).below b3)
    have HS := Lib.hid ((HS.out.below b2).below b3)
    clear m2 m3 b2 b3 hmax ZW
    generalize W1.heap.size = gm at HM hgm ⊢
    generalize W2.heap.size = gr at HR hgr ⊢
    obtain ⟨M0, hM0⟩ : ∃ M : Mr, M = (some (B, 0, false) : Mr) := ⟨_, rfl⟩
    obtain ⟨y, q, S, o, hf, hS0, hS1⟩ := nextM_form s x L hM0 (by omega) hB0
    have HF := Lib.hid hf
    have HM0 := Lib.hid hM0
    clear hf hM0
    have hcost : costI s x ≤ 100000000000 := by
      have := costI_few HT.out x
      rw [HXN.out] at this
      omega
    have HCO := Lib.hid hcost
    clear hcost
    generalize hyl : y.length = yl
    have HYN := Lib.hid hyl
    clear hyl
    have Z := next14 (some ⟨gm, 0, none⟩) sa xa sc xc M0 s x L W3 (by rw [HM0.out]; exact HM.out) HS.out HX.out g0 g1 HCO.out
    rw [HF.out, HXN.out, HN.out] at Z
    have HZ := Lib.hid Z
    clear Z
    go_wp2_with (fail)
    refine HZ.out.mono ?_
    rintro e W4 ⟨Aa, Ac, rfl, I4, _, m4, k4⟩
    dsimp only at I4 m4 ⊢
    have hl4 := I4.le
    rw [HYN.out] at hl4
    rw [HYN.out]
    have HA := Lib.hid I4
    have HX := Lib.hid (HX.out.mk HM.out (by decide) (by decide) k4)
    have HS := Lib.hid (HS.out.mk HM.out (by unfold MT; decide) k4)
    have HR := Lib.hid (HM.out.mk (by decide) k4 HR.out)
    have HM := Lib.hid m4
    have HB := Lib.hid (HB.out.trans (k4.below (fun g e => by injection e with e; injection e with e; omega) HB.out.size))
    clear I4 m4 k4 HZ
    have Z := rnext_any (some ⟨gr, 0, none⟩) sa xa sc xc M0 s x L W4 (by rw [HM0.out]; exact HR.out) HS.out HX.out HCO.out
    rw [HF.out, HXN.out, HN.out] at Z
    have HZ := Lib.hid Z
    clear Z
    go_wp2_with (fail)
    refine HZ.out.mono ?_
    rintro e W5 ⟨Ba, Bc, rfl, I5, _, m5, k5⟩
    dsimp only at I5 m5 ⊢
    have hl5 := I5.le
    rw [HYN.out] at hl5
    rw [HYN.out]
    have HBI := Lib.hid I5
    have HA := Lib.hid (HA.out.mk HR.out (by decide) (by decide) k5)
    have HX := Lib.hid (HX.out.mk HR.out (by decide) (by decide) k5)
    have HS := Lib.hid (HS.out.mk HR.out (by unfold MT; decide) k5)
    have HM := Lib.hid (HR.out.mk (by decide) k5 HM.out)
    have HR := Lib.hid m5
    have HB := Lib.hid (HB.out.trans (k5.below (fun g e => by injection e with e; injection e with e; omega) HB.out.size))
    clear I5 m5 k5 HZ
    have HYL : Hid ((startL s).length = n) := Lib.hid (by rw [startL_thin HT.out, startK_len, HN.out])
    have ZA : Hid (∀ V, Below W5.heap.size W5 V → Calls Try.prog 10 #[.slice sa n sc] V (MakesIn (startL s) n V)) := Lib.hid (fun V h => startP HT.out HN.out V sa sc (HS.out.below h))
    have ZC : Hid (∀ V, Below W5.heap.size W5 V → Calls Try.prog 17 #[.slice sa n sc] V (MakesIn (startL s) n V)) := Lib.hid (fun V h => startR HT.out HN.out V sa sc (HS.out.below h))
    have ZP : Hid (∀ V, Below W5.heap.size W5 V → Calls Try.prog 18 #[.slice sa n sc, .slice xa xn xc] V (TellsB (rightItems s x) V)) := Lib.hid (fun V h => by
      have Z := right18 sa xa sc xc s x V (HS.out.below h) (HX.out.below h)
      rwa [HN.out, HXN.out] at Z)
    have ZQ : Hid (∀ V, Below W5.heap.size W5 V → Calls Try.prog 19 #[.slice sa n sc, .slice xa xn xc] V (TellsB (rightItems s x) V)) := Lib.hid (fun V h => by
      have Z := rightItems_any sa xa sc xc s x V (HS.out.below h) (HX.out.below h)
      rwa [HN.out, HXN.out] at Z)
    generalize rightItems s x = vr at ZP ZQ
    have ZF : Hid (∀ V, Below W5.heap.size W5 V → Calls Try.prog 20 #[.slice xa xn xc] V (TellsB (finalL x) V)) := Lib.hid (fun V h => by
      have Z := final20 xa xc x V (HX.out.below h)
      rwa [HXN.out] at Z)
    have ZG : Hid (∀ V, Below W5.heap.size W5 V → Calls Try.prog 21 #[.slice xa xn xc] V (TellsB (finalL x) V)) := Lib.hid (fun V h => by
      have Z := final_any xa xc x V (HX.out.below h)
      rwa [HXN.out] at Z)
    generalize finalL x = vf at ZF ZG
    have ZS : Hid (∀ V, Below W5.heap.size W5 V → Calls Try.prog 16 #[.slice Aa yl Ac, .slice Ba yl Bc] V (TellsB true V)) := Lib.hid (fun V h => sameI HYN.out V Aa Ba Ac Bc (HA.out.below h) (HBI.out.below h))
    have ZU : Hid (∀ V, Below W5.heap.size W5 V → Calls Try.prog 22 #[.pointer (some ⟨gm, 0, none⟩)] V (TellsV (.int .i64 S) V)) := Lib.hid (fun V h => spentV (HM.out.below h))
    have ZW : Hid (∀ V, Below W5.heap.size W5 V → Calls Try.prog 23 #[] V (TellsB true V)) := Lib.hid (fun V _ => wakes23 V)
    have eu := (at_some HR.out).c1
    have ltr := Lies.lt (at_some HR.out)
    have bd : Below W5.heap.size W5 W5.drew := ⟨rfl, rfl, rfl, Nat.le_refl _, fun _ _ => rfl⟩
    clear HF HM0 HCO HA HBI HX HS HM HR
    go_upto_region 11 with (fail)
    refine wp_region_held_drew (S := fun w' => Below W5.heap.size W5 w') (by kernel_rfl) bd (fun hHeld => ?_)
    clear hHeld
    refine tkY 0 rgVi0 (v := ?_) rfl bd ?_ ?_
    rotate_left
    · intro w hSw
      simp only [rgVi0]; go_simp
      try with_reducible rfl
    try simp only [rgVi0, Act.put, pA, pB, pC]
    refine tkY 2 rgVi1 (v := ?_) rfl bd ?_ ?_
    rotate_left
    · intro w hSw
      simp only [rgVi1]; go_simp
      try with_reducible rfl
    try simp only [rgVi1, Act.put, pA, pB, pC]
    refine wpAnyH_ready (rs := [1]) (by kernel_rfl) (by simp) ?_
    refine AllReadyH.cons (o := rgVi2) rfl (fun K hK => ?_) AllReadyH.nil
    simp only [rgVi2]; go_simp
    refine (ZA.out _ bd).mono ?_
    rintro e V1 ⟨pa1, pc1, rfl, P1, d1⟩
    have b1 : Below W5.heap.size W5 V1 := bd.trans (d1.mono bd.size)
    have HP1 := Lib.hid P1
    clear P1 d1
    go_wp2_with (fail)
    refine hK.out _ _ b1 (fun hHeld => ?_)
    clear hK K hHeld
    try simp only [rgVi2, Act.put, pA, pB, pC]
    refine wpAnyH_ready (rs := [3]) (by kernel_rfl) (by simp) ?_
    refine AllReadyH.cons (o := rgVi3) rfl (fun K hK => ?_) AllReadyH.nil
    simp only [rgVi3]; go_simp
    refine (ZC.out _ b1).mono ?_
    rintro e V3 ⟨pa3, pc3, rfl, P3, d3⟩
    have b3 : Below W5.heap.size W5 V3 := b1.trans (d3.mono b1.size)
    have HP3 := Lib.hid P3
    have HP1 := Lib.hid (HP1.out.below d3)
    clear P3 d3
    go_wp2_with (fail)
    refine hK.out _ _ b3 (fun hHeld => ?_)
    clear hK K hHeld
    try simp only [rgVi3, Act.put, pA, pB, pC]
    refine wpAnyH_ready (rs := [4]) (by kernel_rfl) (by simp) ?_
    refine AllReadyH.cons (o := rgVi4) rfl (fun K hK => ?_) AllReadyH.nil
    simp only [rgVi4]; go_simp
    refine (sameI HYL.out V3 pa1 pa3 pc1 pc3 HP1.out HP3.out).mono ?_
    rintro e V4 ⟨rfl, d4⟩
    have b4 : Below W5.heap.size W5 V4 := b3.trans (d4.mono b3.size)
    clear HP1 HP3
    go_wp2_with (fail)
    refine hK.out _ _ b4 (fun hHeld => ?_)
    clear hK K hHeld
    try simp only [rgVi4, Act.put, pA, pB, pC]
    refine tkY 5 rgVi5 (v := ?_) rfl b4 ?_ ?_
    rotate_left
    · intro w hSw
      simp only [rgVi5]; go_simp
      try with_reducible rfl
    try simp only [rgVi5, Act.put, pA, pB, pC]
    refine tkY 6 rgVi6 (v := ?_) rfl b4 ?_ ?_
    rotate_left
    · intro w hSw
      simp only [rgVi6]; go_simp
      try with_reducible rfl
    try simp only [rgVi6, Act.put, pA, pB, pC]
    refine tkY 7 rgVi7 (v := ?_) rfl b4 ?_ ?_
    rotate_left
    · intro w hSw
      simp only [rgVi7]; go_simp
      try with_reducible rfl
    try simp only [rgVi7, Act.put, pA, pB, pC]
    refine tkY 9 rgVi8 (v := ?_) rfl b4 ?_ ?_
    rotate_left
    · intro w hSw
      simp only [rgVi8]; go_simp
      try with_reducible rfl
    try simp only [rgVi8, Act.put, pA, pB, pC]
    refine tkY 10 rgVi9 (v := ?_) rfl b4 ?_ ?_
    rotate_left
    · intro w hSw
      simp only [rgVi9]; go_simp
      try with_reducible rfl
    try simp only [rgVi9, Act.put, pA, pB, pC]
    refine wpAnyH_ready (rs := [8]) (by kernel_rfl) (by simp) ?_
    refine AllReadyH.cons (o := rgVi10) rfl (fun K hK => ?_) AllReadyH.nil
    simp only [rgVi10]; go_simp
    refine (ZP.out _ b4).mono ?_
    rintro e V8 ⟨rfl, d8⟩
    have b8 : Below W5.heap.size W5 V8 := b4.trans (d8.mono b4.size)
    go_wp2_with (fail)
    refine hK.out _ _ b8 (fun hHeld => ?_)
    clear hK K hHeld
    try simp only [rgVi10, Act.put, pA, pB, pC]
    refine wpAnyH_ready (rs := [11]) (by kernel_rfl) (by simp) ?_
    refine AllReadyH.cons (o := rgVi11) rfl (fun K hK => ?_) AllReadyH.nil
    simp only [rgVi11]; go_simp
    refine (ZQ.out _ b8).mono ?_
    rintro e V11 ⟨rfl, d11⟩
    have b11 : Below W5.heap.size W5 V11 := b8.trans (d11.mono b8.size)
    go_wp2_with (fail)
    refine hK.out _ _ b11 (fun hHeld => ?_)
    clear hK K hHeld
    try simp only [rgVi11, Act.put, pA, pB, pC]
    refine tkY 12 rgVi12 (v := ?_) rfl b11 ?_ ?_
    rotate_left
    · intro w hSw
      simp only [rgVi12]; go_simp
      try with_reducible rfl
    try simp only [rgVi12, Act.put, pA, pB, pC]
    refine tkY 13 rgVi13 (v := ?_) rfl b11 ?_ ?_
    rotate_left
    · intro w hSw
      simp only [rgVi13]; go_simp
      try with_reducible rfl
    try simp only [rgVi13, Act.put, pA, pB, pC]
    refine tkY 14 rgVi14 (v := ?_) rfl b11 ?_ ?_
    rotate_left
    · intro w hSw
      simp only [rgVi14]; go_simp
      try with_reducible rfl
    try simp only [rgVi14, Act.put, pA, pB, pC]
    refine tkY 15 rgVi15 (v := ?_) rfl b11 ?_ ?_
    rotate_left
    · intro w hSw
      simp only [rgVi15]; go_simp
      try with_reducible rfl
    try simp only [rgVi15, Act.put, pA, pB, pC]
    refine tkY 17 rgVi16 (v := ?_) rfl b11 ?_ ?_
    rotate_left
    · intro w hSw
      simp only [rgVi16]; go_simp
      try with_reducible rfl
    try simp only [rgVi16, Act.put, pA, pB, pC]
    refine wpAnyH_ready (rs := [16]) (by kernel_rfl) (by simp) ?_
    refine AllReadyH.cons (o := rgVi17) rfl (fun K hK => ?_) AllReadyH.nil
    simp only [rgVi17]; go_simp
    refine (ZF.out _ b11).mono ?_
    rintro e V16 ⟨rfl, d16⟩
    have b16 : Below W5.heap.size W5 V16 := b11.trans (d16.mono b11.size)
    go_wp2_with (fail)
    refine hK.out _ _ b16 (fun hHeld => ?_)
    clear hK K hHeld
    try simp only [rgVi17, Act.put, pA, pB, pC]
    refine wpAnyH_ready (rs := [18]) (by kernel_rfl) (by simp) ?_
    refine AllReadyH.cons (o := rgVi18) rfl (fun K hK => ?_) AllReadyH.nil
    simp only [rgVi18]; go_simp
    refine (ZG.out _ b16).mono ?_
    rintro e V18 ⟨rfl, d18⟩
    have b18 : Below W5.heap.size W5 V18 := b16.trans (d18.mono b16.size)
    go_wp2_with (fail)
    refine hK.out _ _ b18 (fun hHeld => ?_)
    clear hK K hHeld
    try simp only [rgVi18, Act.put, pA, pB, pC]
    refine tkY 19 rgVi19 (v := ?_) rfl b18 ?_ ?_
    rotate_left
    · intro w hSw
      simp only [rgVi19]; go_simp
      try with_reducible rfl
    try simp only [rgVi19, Act.put, pA, pB, pC]
    refine tkY 20 rgVi20 (v := ?_) rfl b18 ?_ ?_
    rotate_left
    · intro w hSw
      simp only [rgVi20]; go_simp
      try with_reducible rfl
    try simp only [rgVi20, Act.put, pA, pB, pC]
    refine tkY 21 rgVi21 (v := ?_) rfl b18 ?_ ?_
    rotate_left
    · intro w hSw
      simp only [rgVi21]; go_simp
      try with_reducible rfl
    try simp only [rgVi21, Act.put, pA, pB, pC]
    refine tkY 22 rgVi22 (v := ?_) rfl b18 ?_ ?_
    rotate_left
    · intro w hSw
      simp only [rgVi22]; go_simp
      try with_reducible rfl
    try simp only [rgVi22, Act.put, pA, pB, pC]
    refine tkY 23 rgVi23 (v := ?_) rfl b18 ?_ ?_
    rotate_left
    · intro w hSw
      simp only [rgVi23]; go_simp
      try with_reducible rfl
    try simp only [rgVi23, Act.put, pA, pB, pC]
    refine wpAnyH_ready (rs := [24]) (by kernel_rfl) (by simp) ?_
    refine AllReadyH.cons (o := rgVi24) rfl (fun K hK => ?_) AllReadyH.nil
    simp only [rgVi24]; go_simp
    refine (ZS.out _ b18).mono ?_
    rintro e V24 ⟨rfl, d24⟩
    have b24 : Below W5.heap.size W5 V24 := b18.trans (d24.mono b18.size)
    go_wp2_with (fail)
    refine hK.out _ _ b24 (fun hHeld => ?_)
    clear hK K hHeld
    try simp only [rgVi24, Act.put, pA, pB, pC]
    refine tkY 25 rgVi25 (v := ?_) rfl b24 ?_ ?_
    rotate_left
    · intro w hSw
      simp only [rgVi25]; go_simp
      try with_reducible rfl
    try simp only [rgVi25, Act.put, pA, pB, pC]
    refine tkY 26 rgVi26 (v := ?_) rfl b24 ?_ ?_
    rotate_left
    · intro w hSw
      simp only [rgVi26]; go_simp
      try with_reducible rfl
    try simp only [rgVi26, Act.put, pA, pB, pC]
    refine tkY 27 rgVi27 (v := ?_) rfl b24 ?_ ?_
    rotate_left
    · intro w hSw
      simp only [rgVi27]; go_simp
      try with_reducible rfl
    try simp only [rgVi27, Act.put, pA, pB, pC]
    refine tkY 28 rgVi28 (v := ?_) rfl b24 ?_ ?_
    rotate_left
    · intro w hSw
      simp only [rgVi28]; go_simp
      try with_reducible rfl
    try simp only [rgVi28, Act.put, pA, pB, pC]
    refine tkY 29 rgVi29 (v := ?_) rfl b24 ?_ ?_
    rotate_left
    · intro w hSw
      simp only [rgVi29]; go_simp
      try with_reducible rfl
    try simp only [rgVi29, Act.put, pA, pB, pC]
    refine tkY 30 rgVi30 (v := ?_) rfl b24 ?_ ?_
    rotate_left
    · intro w hSw
      simp only [rgVi30]; go_simp
      try with_reducible rfl
    try simp only [rgVi30, Act.put, pA, pB, pC]
    refine tkY 31 rgVi31 (v := ?_) rfl b24 ?_ ?_
    rotate_left
    · intro w hSw
      simp only [rgVi31]; go_simp
      try with_reducible rfl
    try simp only [rgVi31, Act.put, pA, pB, pC]
    refine tkY 32 rgVi32 (v := ?_) rfl b24 ?_ ?_
    rotate_left
    · intro w hSw
      simp only [rgVi32]; go_simp
      try with_reducible rfl
    try simp only [rgVi32, Act.put, pA, pB, pC]
    refine tkY 34 rgVi33 (v := ?_) rfl b24 ?_ ?_
    rotate_left
    · intro w hSw
      simp only [rgVi33]; go_simp
      try with_reducible rfl
    try simp only [rgVi33, Act.put, pA, pB, pC]
    refine tkY 35 rgVi34 (v := ?_) rfl b24 ?_ ?_
    rotate_left
    · intro w hSw
      simp only [rgVi34]; go_simp
      try with_reducible rfl
    try simp only [rgVi34, Act.put, pA, pB, pC]
    refine tkY 36 rgVi35 (v := ?_) rfl b24 ?_ ?_
    rotate_left
    · intro w hSw
      simp only [rgVi35]; go_simp
      try with_reducible rfl
    try simp only [rgVi35, Act.put, pA, pB, pC]
    refine tkY 37 rgVi36 (v := ?_) rfl b24 ?_ ?_
    rotate_left
    · intro w hSw
      have fu := (hSw.cell (p := ⟨gr, 1, none⟩) ltr).trans eu
      simp only [rgVi36]; go_simp
      try with_reducible rfl
    try simp only [rgVi36, Act.put, pA, pB, pC]
    refine wpAnyH_ready (rs := [33]) (by kernel_rfl) (by simp) ?_
    refine AllReadyH.cons (o := rgVi37) rfl (fun K hK => ?_) AllReadyH.nil
    simp only [rgVi37]; go_simp
    refine (ZU.out _ b24).mono ?_
    rintro e V33 ⟨rfl, d33⟩
    have b33 : Below W5.heap.size W5 V33 := b24.trans (d33.mono b24.size)
    go_wp2_with (fail)
    refine hK.out _ _ b33 (fun hHeld => ?_)
    clear hK K hHeld
    try simp only [rgVi37, Act.put, pA, pB, pC]
    refine tkY 38 rgVi38 (v := ?_) rfl b33 ?_ ?_
    rotate_left
    · intro w hSw
      simp only [rgVi38]; go_simp
      try with_reducible rfl
    try simp only [rgVi38, Act.put, pA, pB, pC]
    refine tkY 39 rgVi39 (v := ?_) rfl b33 ?_ ?_
    rotate_left
    · intro w hSw
      simp only [rgVi39]; go_simp
      try with_reducible rfl
    try simp only [rgVi39, Act.put, pA, pB, pC]
    refine tkY 40 rgVi40 (v := ?_) rfl b33 ?_ ?_
    rotate_left
    · intro w hSw
      simp only [rgVi40]; go_simp
      try with_reducible rfl
    try simp only [rgVi40, Act.put, pA, pB, pC]
    refine wpAnyH_ready (rs := [41]) (by kernel_rfl) (by simp) ?_
    refine AllReadyH.cons (o := rgVi41) rfl (fun K hK => ?_) AllReadyH.nil
    simp only [rgVi41]; go_simp
    refine (ZW.out _ b33).mono ?_
    rintro e V41 ⟨rfl, d41⟩
    have b41 : Below W5.heap.size W5 V41 := b33.trans (d41.mono b33.size)
    go_wp2_with (fail)
    refine hK.out _ _ b41 (fun hHeld => ?_)
    clear hK K hHeld
    try simp only [rgVi41, Act.put, pA, pB, pC]
    refine tkY 42 rgVi42 (v := ?_) rfl b41 ?_ ?_
    rotate_left
    · intro w hSw
      simp only [rgVi42]; go_simp
      try with_reducible rfl
    try simp only [rgVi42, Act.put, pA, pB, pC]
    refine tkY 43 rgVi43 (v := ?_) rfl b41 ?_ ?_
    rotate_left
    · intro w hSw
      simp only [rgVi43]; go_simp
      try with_reducible rfl
    try simp only [rgVi43, Act.put, pA, pB, pC]
    refine wpAnyH_done (by kernel_rfl) ?_ _
    have HB := Lib.hid (HB.out.trans ((b41).mono HB.out.size))
    clear eu ltr bd ZA ZC ZP ZQ ZF ZG ZS ZU ZW
    go_wp2
    go_ret
    exact ⟨rfl, HB.out⟩
end Go.Proofs.Ytadnjlhkppcmmaa

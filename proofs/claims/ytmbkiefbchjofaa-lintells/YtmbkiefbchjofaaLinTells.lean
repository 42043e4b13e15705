/- The law LinTells of chapter 6 holds: of any two raw linear sets (a list of numbers, a list of lists of numbers) the call answers true, and the arguments read afterwards as before. No condition. -/
import Derived.Test.YtmbkiefbchjofaaRows
import Derived.Test.YtmbkiefbchjofaaJd
import Derived.Test.YtmbkiefbchjofaaJe
import Derived.WalkKit
import Derived.ProofKit
import Derived.OpenShut
import Derived.ShutString
import Derived.ChangeOld
import Derived.Below
import Derived.SliceStrings
namespace Go.Proofs.Ytmbkiefbchjofaa.linTells
open Go.ChangeShapes Go.WideShapes Go.ChangeAt Go.RowKit
open Go.ChangeMaps (open_string shut_string)
set_option linter.unusedVariables false

theorem own : ownKnob Try.prog.godebug = none := by kernel_rfl
theorem laidOut : laidOutB Try.prog = true := by kernel_rfl

theorem walk (a0 : Option Addr) (len0 cap0 : Nat) (z0 : List Int) (pa0 : Option Addr) (m0 pc0 : Nat) (rw0 : List Rw) (a1 : Option Addr) (len1 cap1 : Nat) (z1 : List Int) (pa1 : Option Addr) (m1 pc1 : Nat) (rw1 : List Rw) (w : World) (w0 : Came w a0 len0 cap0 z0) (x0 : CameRows w pa0 m0 pc0 rw0) (w1 : Came w a1 len1 cap1 z1) (x1 : CameRows w pa1 m1 pc1 rw1) :
    Calls Try.prog 3 #[.agg #[.slice a0 len0 cap0, .slice pa0 m0 pc0], .agg #[.slice a1 len1 cap1, .slice pa1 m1 pc1]] w fun e w' => e = .returned (.bool true) ∧ Below w.heap.size w w' := by
  exact tells_walk a0 pa0 a1 pa1 len0 cap0 m0 pc0 len1 cap1 m1 pc1 z0 z1 rw0 rw1 w (Lib.hid w0) (Lib.hid x0) (Lib.hid w1) (Lib.hid x1)

set_option maxRecDepth 100000 in
theorem lifted (os : Os) (started : os.Started) (H : Type) (enc : TypeId × Value → H) :
    ReturnsInHanded {} Try.checked os 3 .any (Rows.linTellsSpec.pre6 enc Try.prog Try.f3 Rows.linTellsRow.domain false) (Rows.linTellsSpec.post enc Try.prog Try.f3 false true false false) := by
  refine returnsInHanded_of_change (C := Try.checked) own started (by kernel_rfl) Try.func3
    (ChangeSpec.witness6 (enc := enc) (C := Try.checked) false ⟨#[], #[.agg #[.slice none 0 0, .slice none 0 0], .agg #[.slice none 0 0, .slice none 0 0]], []⟩ 8 (by kernel_rfl) (by kernel_rfl) (by kernel_rfl) (by kernel_rfl)) ?_
  intro W base args ds gs before hval0 hW hcnd _
  have hval : ∀ (j : Nat) t v, Try.f3.params[j]? = some t → args[j]? = some v → Value.okWide Try.prog W .any base t v := hval0
  have hW' := hW
  obtain ⟨p, q, hA0, hV, rfl, hfz, hnd⟩ := hW
  have hA : DataW.TrodAll enc Try.prog W 0 (fun _ => true) true Try.f3.params.toList args.toList ds p := hA0
  rw [Try.params3] at hA hval
  obtain ⟨v0, vs0, d0, ds0, p0, q0, hargs, rfl, rfl, h0, r0⟩ := trodAll_cons hA
  obtain ⟨v1, vs1, d1, ds1, p1, q1, rfl, rfl, rfl, h1, r1⟩ := trodAll_cons r0
  obtain ⟨rfl, rfl, rfl⟩ := trodAll_nil r1
  obtain rfl : args = #[v0, v1] := by cases args; simp_all
  obtain ⟨rfl, rfl⟩ := trodVars_none hV
  obtain ⟨cs0, rfl, -⟩ := okWide_struct Try.underlying25 (hval 0 25 v0 rfl rfl)
  have k0 := h0
  have lt0 : ∀ x ∈ p0, x.block < W.heap.size := by obtain ⟨m, hm⟩ := k0; exact DataW.trod_lt m _ _ _ hm
  obtain ⟨a0, len0, cap0, z0, pa0, m0, pc0, rw0, e0, w0, x0⟩ : ∃ a l c zs pa m pc rs, cs0 = #[Value.slice a l c, .slice pa m pc] ∧ Came W a l c zs ∧ CameRows W pa m pc rs := by
    obtain ⟨fuel, hf⟩ := h0
    obtain ⟨a, l, c, zs, pa, m, pc, rs, hcs, hC, hR⟩ := open_raw hf
    refine ⟨a, l, c, zs, pa, m, pc, rs, ?_, hC, hR⟩
    have hcs' : cs0.toList = [.slice a l c, .slice pa m pc] := hcs
    rw [← Array.toArray_toList (xs := cs0), hcs']
  subst e0
  obtain ⟨cs1, rfl, -⟩ := okWide_struct Try.underlying25 (hval 1 25 v1 rfl rfl)
  have k1 := h1
  have lt1 : ∀ x ∈ p1, x.block < W.heap.size := by obtain ⟨m, hm⟩ := k1; exact DataW.trod_lt m _ _ _ hm
  obtain ⟨a1, len1, cap1, z1, pa1, m1, pc1, rw1, e1, w1, x1⟩ : ∃ a l c zs pa m pc rs, cs1 = #[Value.slice a l c, .slice pa m pc] ∧ Came W a l c zs ∧ CameRows W pa m pc rs := by
    obtain ⟨fuel, hf⟩ := h1
    obtain ⟨a, l, c, zs, pa, m, pc, rs, hcs, hC, hR⟩ := open_raw hf
    refine ⟨a, l, c, zs, pa, m, pc, rs, ?_, hC, hR⟩
    have hcs' : cs1.toList = [.slice a l c, .slice pa m pc] := hcs
    rw [← Array.toArray_toList (xs := cs1), hcs']
  subst e1
  clear hA0 hval0
  refine (walk a0 len0 cap0 z0 pa0 m0 pc0 rw0 a1 len1 cap1 z1 pa1 m1 pc1 rw1 W w0 x0 w1 x1).mono fun e W' ⟨he, bel⟩ => ?_
  subst he
  exact ⟨_, rfl, _, _, _, [], _, [], hW', trodAll_mk1 (shut_bool Try.underlying4 _), (trodAll_cons_mk (Below.trod laidOut (by kernel_rfl) (of_decide_eq_true (by kernel_rfl)) k0 bel lt0) (trodAll_cons_mk (Below.trod laidOut (by kernel_rfl) (of_decide_eq_true (by kernel_rfl)) k1 bel lt1) trodAll_mk0)), rfl, bel.frame _, fun h => by cases h⟩

theorem over : Rows.linTellsRow.holds Try.pinned (OpenSpec.ofChange Rows.linTellsSpec) :=
  OpenClaim.holds_of_wide 3 Try.f3 rfl rfl rfl rfl rfl rfl rfl ⟨rfl, rfl, rfl, rfl, rfl⟩ rfl rfl rfl rfl rfl (by kernel_rfl) Try.func3 (by kernel_rfl)
    (of_decide_eq_true (by kernel_rfl)) (by unfold Func.isWrapper; first | (rw [if_pos (by decide +kernel)]; kernel_rfl) | (rw [if_neg (by decide +kernel)]; exact ⟨rfl, rfl⟩))
    (fun os started H enc _ => lifted os started H enc)

theorem proved : Rows.LinTellsSaid := over
end Go.Proofs.Ytmbkiefbchjofaa.linTells
namespace Go.Proofs.Ytmbkiefbchjofaa
theorem linTells_holds : Rows.LinTellsSaid := linTells.proved
end Go.Proofs.Ytmbkiefbchjofaa

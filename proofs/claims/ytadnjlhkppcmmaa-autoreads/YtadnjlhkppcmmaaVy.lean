/- What the walks of AutoTells, AutoWalks, AutoReads share. -/
import Derived.Test.YtadnjlhkppcmmaaVg
namespace Go.Proofs.Ytadnjlhkppcmmaa
open Go.ChangeShapes Go.WideShapes Go.ChangeAt Go.RowKit

/-- Items that are made. -/
def MakesIn (st : List It) (n : Nat) (w : World) (e : Ending) (w' : World) : Prop := ∃ a c, e = .returned (.slice a n c) ∧ Its w' a c st ∧ Below w.heap.size w w'
theorem startP {s : List Lin} {n : Nat} (hs : Thin s) (hn : s.length = n) (V : World) (a : Option Addr) (c : Nat) (P : Lins V a c s) : Calls Try.prog 10 #[.slice a n c] V (MakesIn (startL s) n V) := by
  have hf := hs.few
  have Z := start10 a c s V P (by omega)
  have e : (startL s).length = n := by rw [startL_thin hs, startK_len, hn]
  unfold MakesI at Z
  rw [e, hn] at Z
  exact Z.mono (fun e w' h => by obtain ⟨a', c', h1, h2, _, h3⟩ := h; exact ⟨a', c', h1, h2, h3⟩)
theorem startR {s : List Lin} {n : Nat} (hs : Thin s) (hn : s.length = n) (V : World) (a : Option Addr) (c : Nat) (P : Lins V a c s) : Calls Try.prog 17 #[.slice a n c] V (MakesIn (startL s) n V) := by
  have hf := hs.few
  have Z := start_any a c s V P (by omega)
  have e : (startL s).length = n := by rw [startL_thin hs, startK_len, hn]
  unfold MakesI at Z
  rw [e, hn] at Z
  exact Z.mono (fun e w' h => by obtain ⟨a', c', h1, h2, _, h3⟩ := h; exact ⟨a', c', h1, h2, h3⟩)
theorem letter15 {letter : Int} (h0 : 0 ≤ letter) (h1 : letter ≤ 18446744073709551615) : ∃ L, bits .and .u64 letter 15 = L ∧ 0 ≤ L ∧ L ≤ 15 := by
  obtain ⟨m, rfl⟩ : ∃ m : Nat, letter = m := ⟨letter.toNat, by omega⟩
  refine ⟨_, bits_and_u64_nat m 15 (by omega) (by omega), by omega, ?_⟩
  have := Nat.and_le_right (n := m) (m := 15)
  omega
/-- Rising items of a set are right. -/
theorem right_items {s : List Lin} (hs : Thin s) {l : List It} (hr : RiseI l) (ho : ∀ x ∈ l, ItOk s x) : rightItems s l = true := by
  unfold rightItems
  rw [Bool.and_eq_true, Bool.and_eq_true]
  refine ⟨⟨rightS_iff.2 hs.rise, ?_⟩, rightsI_iff.2 hr⟩
  rw [List.all_eq_true]
  intro x hx
  rw [Bool.and_eq_true, decide_eq_true_eq, decide_eq_true_eq]
  exact ⟨(ho x hx).lo, (ho x hx).hi⟩
/-- Items that stand right, all of a thin set. -/
def Stand (s : List Lin) (l : List It) : Prop := RiseI l ∧ ∀ x ∈ l, ItOk s x
theorem stand_start {s : List Lin} (hs : Thin s) : Stand s (startL s) := by
  have h := start_right hs
  unfold rightItems at h
  rw [Bool.and_eq_true] at h
  refine ⟨rightsI_iff.1 h.2, ?_⟩
  rw [startL_thin hs]
  exact start_all hs (Nat.le_refl s.length)
/-- One letter more, without a meter. -/
theorem stand_next {s : List Lin} (hs : Thin s) {l : List It} (h : Stand s l) (letter : Int) {M : Mr} (hM : M = none) : ∃ y, nextM M s l letter = (y, 0, M) ∧ Stand s y ∧ y = (itGo s letter l M []).1 := by
  have e := itGo_free hs letter l M [] hM h.2
  have k := itGo_ok hs letter l M [] h.2 riseI_nil (fun z hz => by cases hz)
  refine ⟨(itGo s letter l M []).1, ?_, k, rfl⟩
  unfold nextM
  rw [right_items hs h.1 h.2, if_pos rfl]
  generalize itGo s letter l M [] = r at e
  obtain ⟨r1, r2⟩ := r
  have e : r2 = (0, M) := e
  rw [e]
theorem mk_none {w w' : World} (k : MK none w w') : Below w.heap.size w w' := ⟨k.os, k.tape, k.output, k.size, fun i hi => k.block i hi (fun e => by cases e)⟩
end Go.Proofs.Ytadnjlhkppcmmaa

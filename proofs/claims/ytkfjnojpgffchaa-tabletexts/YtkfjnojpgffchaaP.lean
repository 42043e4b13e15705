/- Contracts of Fold. -/
import Derived.Test.YtkfjnojpgffchaaO
import Derived.Defers
import Derived.Recover
import Derived.StillTailTactics
import Derived.Deep.RegionHeld3
namespace Go.Proofs.Ytkfjnojpgffchaa
open Go.ChangeShapes Go.WideShapes Go.ChangeAt Go.RowKit

theorem catch_i (p q : Addr) (w : World) :
    CallsD Try.prog 64 #[.pointer (some p), .pointer (some q)] .returning w fun e u' w' => e = .returned (.tuple #[]) ∧ u' = .returning ∧ w' = w := by
  refine callsD_of_wpS Try.func64 rfl fun c₀ cs hu => ?_
  apply wpS_seq
  apply wpS_region
  simp [wpOpsS, go_sem, recoverD, hu, Try.ntmps64, Exit.thenS]
  refine wpS_cond (t := false) (by simp [Act.eval, Array.replicate]) ?_
  simp only [Bool.false_eq_true, if_false]
  refine wpS_of_wp (wp_skip ?_)
  cases c₀
  simp_all [bodyPostS, results, Try.results64]

/-- What the law makes of one key and value, and what was made before. -/
def mix (a k v : Int) : Int := bits BinOp.xor IntKind.i64 (wrap64 (wrap64 (a * 31) + k)) v
def mixN (ks vs : List Int) (f : Int) : Nat → Int
  | 0 => f
  | n + 1 => mix (mixN ks vs f n) (ks.getD n 0) (vs.getD n 0)
theorem mixN_succ {ks vs : List Int} {f : Int} {n : Nat} (h1 : n < ks.length) (h2 : n < vs.length) : mixN ks vs f (n + 1) = mix (mixN ks vs f n) ks[n] vs[n] := by
  rw [mixN, List.getD_eq_getElem?_getD, List.getD_eq_getElem?_getD, List.getElem?_eq_getElem h1, List.getElem?_eq_getElem h2]
  rfl
theorem mix_any (a k v : Int) (w : World) : Calls Try.prog 25 #[.int .i64 a, .int .i64 k, .int .i64 v] w fun e w' => e = .returned (.int .i64 (mix a k v)) ∧ w = w' := by
  go_enter Try.func25, Try.ntmps25
  go_wp2
  go_ret
  exact ⟨rfl, rfl⟩
theorem row_below {w w' : World} {t : TypeId} {a : Option Addr} {c : Nat} {xs : List Value} {B : Nat} (h : Row w t a c xs) (k : Below B w w') (hB : w.heap.size ≤ B) : Row w' t a c xs := h.below (k.mono hB)

set_option maxHeartbeats 1000000 in
theorem fold_i (ka va : Option Addr) (kc vc : Nat) (ks vs : List Int) (f : Int) (w : World) (RK : Row w 3 ka kc (ints ks)) (RV : Row w 3 va vc (ints vs)) (hl : ks.length = vs.length) :
    Calls Try.prog 50 #[.slice ka ks.length kc, .slice va ks.length vc, .int .i64 f, .func (.func 25) #[] #[]] w fun e w' => e = .returned (.int .i64 (mixN ks vs f ks.length)) ∧ Below w.heap.size w w' := by
  have hmf : ∀ (fn : Fn) (first cap : Array Value) (w : World), (Instr.makeFunc fn first cap).run Try.prog w = .ok (.func fn first cap) w := fun _ _ _ _ => rfl
  have hle := RK.le
  rw [ints_len] at hle
  have HL := Lib.hid hl
  clear hl
  go_enter_defers Try.func50, Try.ntmps50
  go_wp2
  go_loopw [15] (fun i wr => ∃ k : Nat, k ≤ ks.length ∧ i = .int .i64 k ∧ Lies wr (w.heap.size + 1) 3 [.int .i64 (mixN ks vs f k)] ∧ Below w.heap.size w wr) (fun i _ => ks.length - (intOf i).toNat)
  case atStart =>
    refine ⟨0, Nat.zero_le _, rfl, ?_, ((Below.refl _ _).alloc (Nat.le_refl _) _).alloc (by simp) _⟩
    have := Lies.new (w.alloc (.cells #[.int .i64 f] 3)) 3 [.int .i64 f]
    rw [show mixN ks vs f 0 = f from rfl]
    simpa using this
  case round =>
    obtain ⟨k, hk, rfl, L, bel⟩ := hrel
    by_cases hlt : k < ks.length
    · have hlv : k < vs.length := by rw [← HL.out]; exact hlt
      obtain ⟨kg, rfl, ck⟩ := (RK.below bel).int hlt
      obtain ⟨vg, rfl, cv⟩ := (RV.below bel).int hlv
      have cl : wr.cell? ⟨w.heap.size + 1, 0, none⟩ = some (.int .i64 (mixN ks vs f k)) := L.cell 0
      have fl : wr.frozen? ⟨w.heap.size + 1, 0, none⟩ = false := L.frozen 0
      have HM := Lib.hid (mixN_succ (f := f) hlt hlv)
      generalize ks[k] = x at ck HM
      generalize vs[k] = y at cv HM
      go_wp2_with (fail)
      refine wp_region_still_tail 7 (by kernel_rfl) (by kernel_rfl) ?_
      change wpStill _ _ wr.drew (fun a' => wpList _ _ _ _ a' wr.drew) _ _
      have L' : Lies wr.drew (w.heap.size + 1) 3 [.int .i64 (mixN ks vs f k)] := L
      have b' : Below w.heap.size w wr.drew := bel.drew
      have cl' : wr.drew.cell? ⟨w.heap.size + 1, 0, none⟩ = some (.int .i64 (mixN ks vs f k)) := cl
      have cv' : wr.drew.cell? ⟨vg, k, none⟩ = some (.int .i64 y) := cv
      have fl' : wr.drew.frozen? ⟨w.heap.size + 1, 0, none⟩ = false := fl
      clear L bel cl cv fl ck
      generalize wr.drew = w2 at *
      simp only [List.take_succ_cons, List.take_zero, List.drop_succ_cons, List.drop_zero]
      repeat still_step
      refine wpStill_nil ?_
      go_wp2_with (fail)
      refine (mix_any _ _ _ _).mono ?_
      rintro e w' ⟨rfl, rfl⟩
      go_wp2
      go_roundw
      case rel => exact ⟨k + 1, by omega, by go_num, by rw [HM.out]; exact L'.set 0 _, b'.setCell (by simp) _⟩
      case measure => simp [intOf]; omega
    · obtain rfl : k = ks.length := by omega
      have cl : wr.cell? ⟨w.heap.size + 1, 0, none⟩ = some (.int .i64 (mixN ks vs f ks.length)) := L.cell 0
      have fl : wr.frozen? ⟨w.heap.size + 1, 0, none⟩ = false := L.frozen 0
      generalize hm : mixN ks vs f ks.length = m at *
      have HMM := Lib.hid hm
      clear hm
      go_wp2
      refine leaves_cons (f := 64) (args := #[.pointer (some ⟨w.heap.size, 0, none⟩), .pointer (some ⟨w.heap.size + 1, 0, none⟩)]) (by simp) (by simp [go_sem]) ?_
      refine (catch_i _ _ _).mono ?_
      rintro e u' w'' ⟨rfl, rfl, rfl⟩
      simp [Leaves, settle, results, Try.results50, go_sem, cl]
      exact ⟨HMM.out.symm, bel.setCell (Nat.le_succ _) _⟩

theorem fold_i0 (a a' : Option Addr) (c c' : Nat) (f : Int) (w : World) :
    Calls Try.prog 50 #[.slice a 0 c, .slice a' 0 c', .int .i64 f, .func (.func 28) #[] #[]] w fun e w' => e = .returned (.int .i64 f) ∧ Below w.heap.size w w' := by
  have hmf : ∀ (fn : Fn) (first cap : Array Value) (w : World), (Instr.makeFunc fn first cap).run Try.prog w = .ok (.func fn first cap) w := fun _ _ _ _ => rfl
  go_enter_defers Try.func50, Try.ntmps50
  go_wp2
  go_loopw [15] (fun i wr => i = .int .i64 0 ∧ wr = (w.alloc (.cells #[.int .i64 f] 3)).alloc (.cells #[.int .i64 f] 3)) (fun _ _ => 0)
  case atStart => exact ⟨rfl, rfl⟩
  case round =>
    obtain ⟨rfl, rfl⟩ := hrel
    go_wp2
    refine leaves_cons (f := 64) (args := #[.pointer (some ⟨w.heap.size, 0, none⟩), .pointer (some ⟨w.heap.size + 1, 0, none⟩)]) (by simp) (by simp [go_sem]) ?_
    refine (catch_i _ _ _).mono ?_
    rintro e u' w'' ⟨rfl, rfl, rfl⟩
    simp [Leaves, settle, results, Try.results50, go_sem]
    exact ((Below.refl _ _).alloc (Nat.le_refl _) _).alloc (by simp) _

theorem row_own {w : World} {t : TypeId} {a : Option Addr} {c : Nat} {xs : List Value} (h : Row w t a c xs) : w.ownsRow 0 t 1 (.slice a xs.length c) xs.length xs := by
  refine ⟨by omega, ?_⟩
  rcases h with ⟨rfl, rfl, rfl⟩ | ⟨g, sp, rfl, hc, hm, l⟩
  · exact .inl ⟨rfl, rfl⟩
  · exact .inr ⟨g, c, _, rfl, Nat.zero_le _, l, by omega, by unfold maxLen; omega, by simp; omega, by simp⟩

/-- What an append of one value to the row xs comes to. -/
def Appends (t : TypeId) (a : Option Addr) (xs : List Value) (v : Value) (w : World) (e : Ending) (w' : World) : Prop :=
  ∃ a' c', e = .returned (.slice a' (xs.length + 1) c') ∧ Row w' t a' c' (xs ++ [v]) ∧ Kept (fun k => a = some ⟨k, 0, none⟩) w w' ∧ ∀ g, a' = some ⟨g, 0, none⟩ → a = some ⟨g, 0, none⟩ ∨ w.heap.size ≤ g

theorem ownBlock_slice (a : Option Addr) (n c : Nat) (g : Nat) : (Value.slice a n c).ownBlock = some g ↔ ∃ x, a = some x ∧ x.block = g := by
  cases a <;> simp [Value.ownBlock]

theorem app_one (a : Option Addr) (c : Nat) (xs : List Value) (k v : Int) (w : World) (R : Row w 3 a c xs) (hb : (xs.length + 1) * 8 ≤ 140737488355328) :
    Calls Try.prog 27 #[.slice a xs.length c, .int .i64 k, .int .i64 v] w (Appends 3 a xs (.int .i64 k) w) := by
  obtain ⟨i, hi, hz, hsz, hby⟩ := info_parts Try.info3
  have R1 : Row (w.alloc (.cells #[.int .i64 k] 3)) 3 a c xs := R.kept (X := fun _ => False) ((Kept.refl _ w).alloc _) (fun _ _ h => h)
  have hform : a = none ∨ ∃ g, a = some ⟨g, 0, none⟩ := by
    rcases R with ⟨e, _⟩ | ⟨g, _, e, _⟩
    · exact .inl e
    · exact .inr ⟨g, e⟩
  obtain ⟨v', w', hr, h2, h3, _, h5⟩ := run_append_own_at (P := Try.prog) (w.alloc (.cells #[.int .i64 k] 3)) 0 22 22 3 i _ 1 8 Try.underlying22 hi hz hsz hby (by simp [Value.cells]) (by omega) _ xs.length xs (row_own R1)
      ⟨w.heap.size, 0, none⟩ 1 1 [.int .i64 k] (by simp) (cell_one_new w _ 3) (by simp [Value.oneCell']) (by unfold maxLen; omega) hb (Nat.zero_le _)
  obtain ⟨a', c', rfl, r', _⟩ := own_row h2
  rw [show (xs ++ [Value.int .i64 k]).length = xs.length + 1 by simp] at hr
  have hend : Appends 3 a xs (.int .i64 k) w (.returned (.slice a' (xs.length + 1) c')) w' := by
    refine ⟨a', c', rfl, r', ?_, fun g e => ?_⟩
    · refine ((Kept.refl _ w).alloc _).trans (Y := fun g => a = some ⟨g, 0, none⟩) ⟨h3.os, h3.tape, h3.output, h3.size, fun g hg hx => h3.block g hg (fun e => ?_)⟩ (fun _ _ h => h)
      obtain ⟨x, rfl, hx'⟩ := (ownBlock_slice a _ _ g).1 e.symm
      rcases hform with h | ⟨g', h⟩
      · cases h
      · injection h with h; subst h; subst hx'; exact hx rfl
    · subst e
      rcases h5 with h5 | h5
      · have := (ownBlock_slice a xs.length c g).1 (by rw [← h5]; rfl)
        obtain ⟨x, rfl, hx⟩ := this
        rcases hform with h | ⟨g', h⟩
        · cases h
        · injection h with h; subst h; subst hx; exact .inl rfl
      · have : g = w.heap.size + 1 := by simpa [Value.ownBlock] using h5
        exact .inr (by omega)
  clear h2 h3 h5 R1 R hi hz hsz hby r'
  go_enter Try.func27, Try.ntmps27
  go_wp2_with (at_builtin; refine Lib.wpList_append_run _ rfl _ _ _ _ rfl _ _ rfl rfl _ _ hr ?_)
  go_ret
  exact hend

end Go.Proofs.Ytkfjnojpgffchaa

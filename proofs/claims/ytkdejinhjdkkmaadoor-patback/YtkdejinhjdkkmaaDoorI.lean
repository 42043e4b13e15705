/- Contract of the reader's skip: it goes on to a byte of a token or to the end, and nothing is lost; the condition: the reader lies there. -/
import Derived.Test.YtkdejinhjdkkmaaDoorH
import Derived.StillTailTactics
namespace Go.Proofs.YtkdejinhjdkkmaaDoor
open Go.ChangeShapes Go.WideShapes Go.ChangeAt Go.RowKit

theorem drop_at (s : ByteArray) (k : Nat) (h : k < s.size) : s.data.toList.drop k = s[k] :: s.data.toList.drop (k + 1) := by
  rw [List.drop_eq_getElem_cons (by rw [size_list]; exact h)]; rfl
theorem drop_end (s : ByteArray) : s.data.toList.drop s.size = [] := List.drop_eq_nil_of_le (by rw [size_list]; exact Nat.le_refl _)
theorem ext_drop (s : ByteArray) (i : Nat) : (s.extract i s.size).data.toList = s.data.toList.drop i := by
  rw [Lib.extract_data]
  exact List.take_of_length_le (by rw [List.length_drop, size_list]; exact Nat.le_refl _)
theorem step_nl (s : ByteArray) (k line col : Nat) (h : k < s.size) (hc : s[k] = 10) : go (s.data.toList.drop k) line col = go (s.data.toList.drop (k + 1)) (line + 1) 1 := by
  rw [drop_at s k h, hc, go_nl]
theorem step_blank (s : ByteArray) (k line col : Nat) (h : k < s.size) (hc : s[k] = 32 ∨ s[k] = 9) : go (s.data.toList.drop k) line col = go (s.data.toList.drop (k + 1)) line (col + 1) := by
  rw [drop_at s k h, go_blank hc]
theorem step_hash (s : ByteArray) (k line col : Nat) (h : k < s.size) (hc : s[k] = 35) :
    go (s.data.toList.drop k) line col = go (s.data.toList.drop (k + span inLine (s.data.toList.drop k))) line (col + span inLine (s.data.toList.drop k)) ∧ 0 < span inLine (s.data.toList.drop k) ∧ k + span inLine (s.data.toList.drop k) ≤ s.size := by
  have hl := span_le inLine (s.data.toList.drop k)
  rw [List.length_drop, size_list] at hl
  have e : span inLine (s.data.toList.drop k) = span inLine (s.data.toList.drop (k + 1)) + 1 := by rw [drop_at s k h, hc, span_cons, if_pos (by decide)]
  refine ⟨?_, by omega, by omega⟩
  rw [e, drop_at s k h, hc, go_hash, List.drop_drop]
  congr 1
  · rw [show k + 1 + span inLine (s.data.toList.drop (k + 1)) = k + (span inLine (s.data.toList.drop (k + 1)) + 1) by omega]
  · omega

section
variable {w : World} {g : Nat} {s : ByteArray} {i l b : Nat}
theorem Rd.set1 (h : Rd w g s i l b) {v : Int} {n : Nat} (e : v = (n : Nat)) : Rd (w.setCell ⟨g, 1, none⟩ (.int .i64 v)) g s n l b := by subst e; exact Lies.set h 1 _
theorem Rd.set2 (h : Rd w g s i l b) {v : Int} {n : Nat} (e : v = (n : Nat)) : Rd (w.setCell ⟨g, 2, none⟩ (.int .i64 v)) g s i n b := by subst e; exact Lies.set h 2 _
theorem Rd.set3 (h : Rd w g s i l b) {v : Int} {n : Nat} (e : v = (n : Nat)) : Rd (w.setCell ⟨g, 3, none⟩ (.int .i64 v)) g s i l n := by subst e; exact Lies.set h 3 _
end

/-- Where the reader stands while it skips. -/
def SkipSt (s : ByteArray) (g : Nat) (r : Res) (i0 : Nat) (w : World) (w' : World) (i l b : Nat) : Prop :=
  Rd w' g s i l b ∧ Kept (fun k => k = g) w w' ∧ i0 ≤ i ∧ i ≤ s.size ∧ b ≤ i ∧ l ≤ i + 1 ∧ go (s.data.toList.drop i) l (i + 1 - b) = r
/-- What skip comes to. -/
def Skips (s : ByteArray) (g : Nat) (r : Res) (i0 : Nat) (w : World) (e : Ending) (w' : World) : Prop :=
  ∃ i l b, e = .returned (.tuple #[]) ∧ SkipSt s g r i0 w w' i l b ∧ ∀ h : i < s.size, solid s[i]
def atOf (w : World) (g : Nat) : Nat := (intOf ((w.cell? ⟨g, 1, none⟩).getD undef)).toNat
theorem atOf_rd {w : World} {g : Nat} {s : ByteArray} {i l b : Nat} (h : Rd w g s i l b) : atOf w g = i := by
  unfold atOf
  rw [h.c1]
  simp [intOf]
theorem solid_int {c : UInt8} (h : solid c) : ¬ (c.toNat : Int) = 10 ∧ ¬ (c.toNat : Int) = 32 ∧ ¬ (c.toNat : Int) = 9 ∧ ¬ (c.toNat : Int) = 35 := by
  obtain ⟨h1, h2, h3, h4⟩ := h
  rw [ne_eq, ← UInt8.toNat_inj] at h1 h2 h3 h4
  rw [show (10 : UInt8).toNat = 10 from rfl] at h1
  rw [show (32 : UInt8).toNat = 32 from rfl] at h2
  rw [show (9 : UInt8).toNat = 9 from rfl] at h3
  rw [show (35 : UInt8).toNat = 35 from rfl] at h4
  omega
theorem skip_meas {w0 w1 : World} {g : Nat} {s : ByteArray} {i i' l' b' : Nat} (H : atOf w0 g = i) (h : i < i') (h' : i' ≤ s.size) (R : Rd w1 g s i' l' b') : s.size - atOf w1 g < s.size - atOf w0 g := by
  rw [atOf_rd R, H]; omega
set_option maxRecDepth 100000 in
set_option maxHeartbeats 4000000 in
theorem skip_any (s : ByteArray) (g i0 l0 b0 : Nat) (w : World) (R : Rd w g s i0 l0 b0) (hs : s.size ≤ 16384) (h1 : i0 ≤ s.size) (h2 : b0 ≤ i0) (h3 : l0 ≤ i0 + 1) :
    Calls Tryd.prog 40 #[.pointer (some ⟨g, 0, none⟩)] w (Skips s g (go (s.data.toList.drop i0) l0 (i0 + 1 - b0)) i0 w) := by
  have H0 : Hid (SkipSt s g (go (s.data.toList.drop i0) l0 (i0 + 1 - b0)) i0 w w i0 l0 b0) := Lib.hid ⟨R, Kept.refl _ w, Nat.le_refl _, h1, h2, h3, rfl⟩
  generalize go (s.data.toList.drop i0) l0 (i0 + 1 - b0) = r at H0 ⊢
  clear R h1 h2 h3
  go_enter Tryd.func40, Tryd.ntmps40
  go_wp2_with (fail)
  go_loopw [20] (fun _ wr => ∃ i l b, Hid (SkipSt s g r i0 w wr i l b)) (fun _ wr => s.size - atOf wr g)
  case atStart => exact ⟨i0, l0, b0, H0⟩
  case round =>
    obtain ⟨i, l, b, HS⟩ := hrel
    obtain ⟨R, K, hi0, his, hb, hl, hg⟩ := HS.out
    have HG := Lib.hid hg
    have HK := Lib.hid K
    have HM := Lib.hid (atOf_rd R)
    have c0 := R.c0
    have c1 := R.c1
    have c2 := R.c2
    have c3 := R.c3
    have HR := Lib.hid R
    have fz := R.fz
    clear R K hg HS H0
    by_cases hlt : i < s.size
    · have hi1 : (i : Int) < (s.size : Int) := by omega
      rcases parts s[i] with hc | hc | hc | hc
      · have hx : (s[i].toNat : Int) = 10 := by rw [hc]; rfl
        have hx' : s[i].toNat = 10 := by omega
        have HC := Lib.hid hc
        clear hc
        go_wp2_with (fail)
        go_quiet (fail)
        go_wp2_with (fail)
        go_quiet (fail)
        go_wp2
        go_roundw
        case rel =>
          refine ⟨i + 1, l + 1, i + 1, Lib.hid ⟨Rd.set3 (Rd.set2 (Rd.set1 (w := World.drewN wr _) HR.out (by omega)) (by omega)) (by omega), (((HK.out.drewN _).setCell (fun _ => rfl) _).setCell (fun _ => rfl) _).setCell (fun _ => rfl) _, by omega, by omega, by omega, by omega, ?_⟩⟩
          rw [show i + 1 + 1 - (i + 1) = 1 by omega, ← step_nl s i l (i + 1 - b) hlt HC.out]
          exact HG.out
        case measure => exact skip_meas (i' := i + 1) HM.out (by omega) (by omega) (Rd.set3 (Rd.set2 (Rd.set1 (w := World.drewN wr _) HR.out (by omega)) (n := l + 1) (by omega)) (n := i + 1) (by omega))
      · have HC := Lib.hid hc
        rcases hc with hc | hc
        · have hx : (s[i].toNat : Int) = 32 := by rw [hc]; rfl
          have hx' : s[i].toNat = 32 := by omega
          clear hc
          go_wp2_with (fail)
          go_quiet (fail)
          go_wp2_with (fail)
          go_quiet (fail)
          go_wp2
          go_roundw
          case rel =>
            refine ⟨i + 1, l, b, Lib.hid ⟨Rd.set1 (w := World.drewN wr _) HR.out (by omega), (HK.out.drewN _).setCell (fun _ => rfl) _, by omega, by omega, by omega, by omega, ?_⟩⟩
            rw [show i + 1 + 1 - b = i + 1 - b + 1 by omega, ← step_blank s i l (i + 1 - b) hlt HC.out]
            exact HG.out
          case measure => exact skip_meas (i' := i + 1) HM.out (by omega) (by omega) (Rd.set1 (w := World.drewN wr _) HR.out (by omega))
        · have hx : (s[i].toNat : Int) = 9 := by rw [hc]; rfl
          have hx' : s[i].toNat = 9 := by omega
          clear hc
          go_wp2_with (fail)
          go_quiet (fail)
          go_wp2_with (fail)
          go_quiet (fail)
          go_wp2
          go_roundw
          case rel =>
            refine ⟨i + 1, l, b, Lib.hid ⟨Rd.set1 (w := World.drewN wr _) HR.out (by omega), (HK.out.drewN _).setCell (fun _ => rfl) _, by omega, by omega, by omega, by omega, ?_⟩⟩
            rw [show i + 1 + 1 - b = i + 1 - b + 1 by omega, ← step_blank s i l (i + 1 - b) hlt HC.out]
            exact HG.out
          case measure => exact skip_meas (i' := i + 1) HM.out (by omega) (by omega) (Rd.set1 (w := World.drewN wr _) HR.out (by omega))
      · have hx : (s[i].toNat : Int) = 35 := by rw [hc]; rfl
        have hx' : s[i].toNat = 35 := by omega
        have HC := Lib.hid hc
        clear hc
        have cs := fun w' => span_line (s.extract i s.size) w' (by unfold maxLen; rw [ByteArray.size_extract]; omega)
        rw [ext_drop] at cs
        have CS := Lib.hid cs
        clear cs
        obtain ⟨he, hm0, hm1⟩ := step_hash s i l (i + 1 - b) hlt HC.out
        have HE := Lib.hid he
        clear he
        generalize span inLine (s.data.toList.drop i) = m at HE hm0 hm1 CS
        go_wp2_with (fail)
        go_quiet (fail)
        go_wp2_with (fail)
        go_quiet (fail)
        go_wp2_with (fail)
        rename_i n1
        refine wp_region_still_tail 17 (by kernel_rfl) (by kernel_rfl) ?_
        change wpStill _ _ (wr.drewN (n1 + nq)).drew (fun a' => wpList _ _ _ _ a' (wr.drewN (n1 + nq)).drew) _ _
        have R2 : Rd (wr.drewN (n1 + nq)).drew g s i l b := HR.out
        have K2 : Kept (fun k => k = g) w (wr.drewN (n1 + nq)).drew := (HK.out.drewN _).drew
        clear c0 c1 c2 c3 fz
        generalize (wr.drewN (n1 + nq)).drew = w2 at *
        have c0 := R2.c0
        have c1 := R2.c1
        have fz := R2.fz
        have HR2 := Lib.hid R2
        have HK2 := Lib.hid K2
        clear R2 K2
        simp only [List.take_succ_cons, List.take_zero, List.drop_succ_cons, List.drop_zero]
        repeat still_step
        still_call ((CS.out w2).mono (fun _ _ ⟨a, b⟩ => ⟨a, b.symm⟩))
        repeat still_step
        refine wpStill_nil ?_
        go_wp2
        go_roundw
        case rel =>
          refine ⟨i + m, l, b, Lib.hid ⟨Rd.set1 HR2.out (by omega), HK2.out.setCell (fun _ => rfl) _, by omega, by omega, by omega, by omega, ?_⟩⟩
          rw [show i + m + 1 - b = i + 1 - b + m by omega, ← HE.out]
          exact HG.out
        case measure => exact skip_meas (i' := i + m) HM.out (by omega) (by omega) (Rd.set1 HR2.out (by omega))
      · have HC := Lib.hid hc
        obtain ⟨hx1, hx2, hx3, hx4⟩ := solid_int hc
        clear hc
        go_wp2_with (fail)
        go_quiet (fail)
        go_wp2_with (fail)
        go_quiet (fail)
        go_wp2
        exact bodyPost_ret (v := .tuple #[]) (by simp [results, Tryd.results40, go_sem]) rfl ⟨i, l, b, rfl, ⟨HR.out, HK.out.drewN _, hi0, his, hb, hl, HG.out⟩, fun _ => HC.out⟩
    · have hi1 : ¬ (i : Int) < (s.size : Int) := by omega
      go_wp2_with (fail)
      go_quiet (fail)
      go_wp2
      exact bodyPost_ret (v := .tuple #[]) (by simp [results, Tryd.results40, go_sem]) rfl ⟨i, l, b, rfl, ⟨HR.out, HK.out.drewN _, hi0, his, hb, hl, HG.out⟩, fun h => absurd h hlt⟩
end Go.Proofs.YtkdejinhjdkkmaaDoor

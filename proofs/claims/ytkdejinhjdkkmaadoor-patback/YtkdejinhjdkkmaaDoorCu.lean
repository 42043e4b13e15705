/- Rows of things of one cell: a copy of them, and columbarykeep.Copy and Cut at ints and at texts; the condition: what is copied lies there. -/
import Derived.Test.YtkdejinhjdkkmaaDoorF
import Derived.Lib.AppendZeros
namespace Go.Proofs.YtkdejinhjdkkmaaDoor
open Go.ChangeShapes Go.WideShapes Go.ChangeAt Go.RowKit

/-- The slice at a reads as xs, a cell each. -/
def CellsAt (w : World) (a : Option Addr) (xs : List Value) : Prop := ∀ j (h : j < xs.length), ∃ b off, a = some ⟨b, off, none⟩ ∧ w.cell? ⟨b, off + j, none⟩ = some xs[j] ∧ b < w.heap.size
theorem CellsAt.below {w w' : World} {a : Option Addr} {xs : List Value} (h : CellsAt w a xs) (k : Below w.heap.size w w') : CellsAt w' a xs := fun j hj => by
  obtain ⟨b, off, e, hc, hb⟩ := h j hj
  exact ⟨b, off, e, (k.cell (p := ⟨b, _, none⟩) hb).trans hc, Nat.lt_of_lt_of_le hb k.size⟩
theorem CellsAt.take {w : World} {a : Option Addr} {xs : List Value} (h : CellsAt w a xs) (k : Nat) : CellsAt w a (xs.take k) := fun j hj => by
  have hj' : j < xs.length := by rw [List.length_take] at hj; omega
  obtain ⟨b, off, e, hc, hb⟩ := h j hj'
  exact ⟨b, off, e, by rw [List.getElem_take]; exact hc, hb⟩
theorem CellsAt.cell {w : World} {x : Addr} {xs : List Value} (h : CellsAt w (some x) xs) : ∀ j u, xs[j]? = some u → w.cell? (x.add j) = some u := fun j u hu => by
  obtain ⟨hj, e⟩ := List.getElem?_eq_some_iff.1 hu
  obtain ⟨b, off, ex, hc, _⟩ := h j hj
  injection ex with ex; subst ex
  rw [Addr.add_lit, hc, e]
/-- What a call that makes a row comes to. -/
def MakesRow (t : TypeId) (xs : List Value) (w : World) (e : Ending) (w' : World) : Prop :=
  ∃ a c, e = .returned (.slice a xs.length c) ∧ Row w' t a c xs ∧ (∀ g, a = some ⟨g, 0, none⟩ → w.heap.size ≤ g) ∧ Below w.heap.size w w'
theorem run_copy_row (t ty el : TypeId) (z : Value) (nb : Nat) (hu : Tryd.prog.underlying t = some (.slice el)) (hinfo : (Tryd.prog.info? el).map (fun i => (i.zero, i.size, i.bytes)) = some (some z, 1, nb)) (hz1 : z.cells.size = 1) (hnb : nb ≤ 1000)
    (a : Option Addr) (c : Nat) (xs : List Value) (w : World) (hn : a = none → xs = [] ∧ c = 0) (hc : CellsAt w a xs) (h1 : ∀ x ∈ xs, x.oneCell' = true) (hb : xs.length ≤ 1000000) :
    ∃ v w', (Builtin.append_ #[t, t] ty #[.slice none 0 0, .slice a xs.length c]).run Tryd.prog w = .ok v w' ∧ MakesRow el xs w (.returned v) w' := by
  obtain ⟨i, hi, hz, hsz, hby⟩ := info_parts hinfo
  cases a with
  | none =>
    obtain ⟨rfl, rfl⟩ := hn rfl
    exact ⟨_, _, run_append_owned_none (w := w) w.heap.size t ty el i 1 hu hi _ 0 [] (World.ownsRow_nil w _ el 1), none, 0, rfl, Row.nil _ _, (fun _ e => nomatch e), Below.refl _ _⟩
  | some x =>
    have hmul : (0 + xs.length) * nb ≤ 140737488355328 := by
      rw [Nat.zero_add]
      exact Nat.le_trans (Nat.mul_le_mul hb hnb) (by decide)
    obtain ⟨v', w', hr, h2, h3, _, _⟩ := run_append_own_at (P := Tryd.prog) w w.heap.size t ty el i _ 1 nb hu hi hz hsz hby hz1 (by omega) (.slice none 0 0) 0 [] (World.ownsRow_nil w _ el 1)
        x xs.length c xs (by omega) hc.cell h1 (by unfold maxLen; omega) hmul (Nat.le_refl _)
    rw [List.nil_append] at h2
    obtain ⟨a, c, rfl, r, f⟩ := own_row h2
    exact ⟨_, _, hr, a, c, rfl, r, f, (Below.refl _ _).grown h3 (Nat.le_refl _) (fun k e => by simp [Value.ownBlock] at e)⟩
theorem Tryd.info9 : (Tryd.prog.info? 9).map (fun i => (i.zero, i.size, i.bytes)) = some (some (.string ⟨#[]⟩), 1, 16) := by kernel_rfl

theorem copy_ints (a : Option Addr) (c : Nat) (xs : List Value) (w : World) (hn : a = none → xs = [] ∧ c = 0) (hc : CellsAt w a xs) (h1 : ∀ x ∈ xs, x.oneCell' = true) (hb : xs.length ≤ 1000000) :
    Calls Tryd.prog 46 #[.slice a xs.length c] w (MakesRow 3 xs w) := by
  obtain ⟨v, w', hr, a', c', e, r, f, bel⟩ := run_copy_row 22 22 3 (.int .i64 0) 8 Tryd.underlying22 Tryd.info3 rfl (by omega) a c xs w hn hc h1 hb
  injection e with e
  subst e
  clear hc hn h1
  go_enter Tryd.func46, Tryd.ntmps46
  go_wp2_with (at_builtin; refine Lib.wpList_append_run _ rfl _ _ _ _ rfl _ _ rfl rfl _ _ hr ?_)
  go_ret
  exact ⟨a', c', rfl, r, f, bel⟩
theorem cut_ints (a : Option Addr) (c : Nat) (xs : List Value) (n : Nat) (w : World) (hn : a = none → xs = [] ∧ c = 0) (hc : CellsAt w a xs) (h1 : ∀ x ∈ xs, x.oneCell' = true) (hlc : xs.length ≤ c) (_hc : c ≤ 9223372036854775807) (hm : n ≤ 1000000) :
    Calls Tryd.prog 25 #[.slice a xs.length c, .int .i64 (n : Nat)] w (MakesRow 3 (xs.take n) w) := by
  have hl : (xs.take n).length = min xs.length n := by rw [List.length_take]; omega
  have C := copy_ints a c (xs.take n) w (fun e => by rw [(hn e).1]; exact ⟨List.take_nil, (hn e).2⟩) (hc.take n) (fun x hx => h1 x (List.mem_of_mem_take hx)) (by omega)
  rw [hl] at C
  clear hl
  have C := Lib.hid C
  generalize xs.take n = ts at C ⊢
  clear hc hn h1
  obtain ⟨m, hmm⟩ : ∃ m, m = xs.length := ⟨_, rfl⟩
  rw [← hmm] at C hlc ⊢
  clear hmm
  by_cases h30 : m ≤ n
  · rw [Nat.min_eq_left h30] at C
    have hmin : min (m : Int) (n : Int) = (m : Int) := by omega
    go_enter Tryd.func25, Tryd.ntmps25
    go_wp2_with (fail)
    refine C.out.mono ?_
    rintro e w' ⟨a', c', rfl, r, f, bel⟩
    have HR := Lib.hid r
    have HB := Lib.hid bel
    have HF := Lib.hid f
    clear r bel f
    go_wp2
    go_ret
    exact ⟨a', c', rfl, HR.out, HF.out, HB.out⟩
  · rw [Nat.min_eq_right (by omega)] at C
    have hmin : min (m : Int) (n : Int) = (n : Int) := by omega
    have hnc : (n : Int) ≤ (c : Int) := by omega
    go_enter Tryd.func25, Tryd.ntmps25
    go_wp2_with (fail)
    refine C.out.mono ?_
    rintro e w' ⟨a', c', rfl, r, f, bel⟩
    have HR := Lib.hid r
    have HB := Lib.hid bel
    have HF := Lib.hid f
    clear r bel f
    go_wp2
    go_ret
    exact ⟨a', c', rfl, HR.out, HF.out, HB.out⟩

end Go.Proofs.YtkdejinhjdkkmaaDoor

/- Rows of numbers that came in; Cut of them; an argument of their type opened. -/
import Derived.Test.YtmapohpabepmfaaGreatCk
import Derived.Test.YtmapohpabepmfaaGreatFa
import Derived.Deep.Matrix
import Derived.ChangeArms
import Derived.OpenShut
namespace Go.Proofs.YtmapohpabepmfaaGreat
open Go.ChangeShapes Go.WideShapes Go.ChangeAt Go.RowKit

/-- A slice of numbers within a slice that came in. -/
structure Rw where
  a : Option Addr
  l : Nat
  c : Nat
  zs : List Int
def Rw.val (r : Rw) : Value := .slice r.a r.l r.c
def rvals (rs : List Rw) : List Value := rs.map Rw.val
theorem rvals_len (rs : List Rw) : (rvals rs).length = rs.length := List.length_map ..
theorem rvals_one (rs : List Rw) : ∀ x ∈ rvals rs, x.oneCell' = true := fun x hx => by
  obtain ⟨r, _, rfl⟩ := List.mem_map.1 hx
  rfl
/-- What is known of a slice of slices that came in. -/
structure CameRows (w : World) (pa : Option Addr) (m pc : Nat) (rs : List Rw) : Prop where
  len : m ≤ 9223372036854775807
  nil : pa = none → m = 0 ∧ pc = 0
  cap : m ≤ pc
  num : rs.length = m
  row : ∀ k u, (rvals rs)[k]? = some u → ∃ b off, pa = some ⟨b, off, none⟩ ∧ w.cell? ⟨b, off + k, none⟩ = some u ∧ b < w.heap.size
  each : ∀ r ∈ rs, Came w r.a r.l r.c r.zs
theorem CameRows.below {w w' : World} {pa : Option Addr} {m pc : Nat} {rs : List Rw} (h : CameRows w pa m pc rs) (b : Below w.heap.size w w') : CameRows w' pa m pc rs :=
  ⟨h.len, h.nil, h.cap, h.num, fun k u hu => by
    obtain ⟨bb, off, e, hc, hb⟩ := h.row k u hu
    exact ⟨bb, off, e, (b.cell (p := ⟨bb, off + k, none⟩) hb).trans hc, Nat.lt_of_lt_of_le hb b.size⟩, fun r hr => (h.each r hr).below b⟩
def MakesRw (vs : List Value) (n : Nat) (w : World) (e : Ending) (w' : World) : Prop :=
  ∃ a c, e = .returned (.slice a n c) ∧ Row w' 23 a c vs ∧ Below w.heap.size w w'
theorem copyR_nil (w : World) : Calls Tryz.prog 58 #[.slice none 0 0] w (MakesRw [] 0 w) := by
  obtain ⟨v, w', hr, A⟩ := run_app_nil 56 56 23 Tryz.underlying56 Tryz.infoInts none 0 0 [] w (Row.nil _ _) rfl
  obtain ⟨bb, -⟩ := A.below (B := w.heap.size) (Nat.le_refl _) (From.none _)
  obtain ⟨a', c', rfl, r, _, _⟩ := A
  have HF : Hid (MakesRw [] 0 w (.returned (.slice a' 0 c')) w') := Lib.hid ⟨a', c', rfl, r, bb⟩
  have hr2 : (Builtin.append_ #[56, 56] 56 #[.slice none 0 0, .slice none 0 0]).run Tryz.prog w = .ok (.slice a' 0 c') w' := hr
  clear r bb hr
  go_enter Tryz.func58, Tryz.ntmps58
  go_wp2_with (at_builtin; refine Lib.wpList_append_run _ rfl _ _ _ _ rfl _ _ rfl rfl _ _ hr2 ?_)
  go_ret
  exact HF.out
theorem copyR_at (ad : Addr) (c n : Nat) (vs : List Value) (w : World) (hn : vs.length = n) (hs : n ≤ 1000) (HC : Hid (∀ j u, vs[j]? = some u → w.cell? (ad.add j) = some u)) (H1 : Hid (∀ u ∈ vs, u.oneCell' = true)) :
    Calls Tryz.prog 58 #[.slice (some ad) n c] w (MakesRw vs n w) := by
  obtain ⟨v, w', hr, A⟩ := run_app_at 56 56 23 Tryz.underlying56 Tryz.infoInts none 0 0 [] w (Row.nil _ _) rfl ad n c vs hn.symm HC.out H1.out (by simp; omega)
  obtain ⟨bb, -⟩ := A.below (B := w.heap.size) (Nat.le_refl _) (From.none _)
  obtain ⟨a', c', rfl, r, _, _⟩ := A
  have e : ([] : List Value).length + vs.length = n := by simp [hn]
  rw [e] at hr
  have HF : Hid (MakesRw vs n w (.returned (.slice a' n c')) w') := Lib.hid ⟨a', c', rfl, r, bb⟩
  clear HC H1 r bb e hn
  go_enter Tryz.func58, Tryz.ntmps58
  go_wp2_with (at_builtin; refine Lib.wpList_append_run _ rfl _ _ _ _ rfl _ _ rfl rfl _ _ hr ?_)
  go_ret
  exact HF.out
set_option maxRecDepth 100000 in
/-- Cut of a slice of slices that came in. -/
theorem cutR5 (pa : Option Addr) (m pc : Nat) (rs : List Rw) (w : World) (h : CameRows w pa m pc rs) :
    Calls Tryz.prog 31 #[.slice pa m pc, .int .i64 5] w (MakesRw (rvals (rs.take 5)) (min m 5) w) := by
  have hlen := h.len
  have hcap := h.cap
  by_cases h0 : m = 0
  · subst h0
    have e : rs.take 5 = [] := by rw [List.eq_nil_of_length_eq_zero h.num]; rfl
    rw [e]
    have hnil := h.nil
    clear h e
    cases pa with
    | none =>
      obtain rfl := (hnil rfl).2
      have C := copyR_nil w
      clear hnil
      go_enter Tryz.func31, Tryz.ntmps31
      go_wp2_with (fail)
      refine C.mono ?_
      rintro e w' ⟨a', c', rfl, r, bel⟩
      go_wp2
      go_ret
      exact ⟨a', c', rfl, r, bel⟩
    | some ad =>
      have C := copyR_at ad pc 0 [] w rfl (by omega) (Lib.hid (by simp)) (Lib.hid (by simp))
      clear hnil
      go_enter Tryz.func31, Tryz.ntmps31
      go_wp2_with (fail)
      refine C.mono ?_
      rintro e w' ⟨a', c', rfl, r, bel⟩
      go_wp2
      go_ret
      exact ⟨a', c', rfl, r, bel⟩
  · have hl := rvals_len rs
    rw [h.num] at hl
    obtain ⟨b, off, rfl, -⟩ := h.row 0 ((rvals rs)[0]'(by omega)) (List.getElem?_eq_getElem (by omega))
    have ht : rvals (rs.take 5) = (rvals rs).take 5 := by simp [rvals, List.map_take]
    have C := copyR_at ⟨b, off, none⟩ pc (min m 5) (rvals (rs.take 5)) w (by rw [ht, List.length_take, hl]; omega) (by omega) (Lib.hid (fun j u hj => by
      rw [ht] at hj
      by_cases hjj5 : j < 5
      · rw [List.getElem?_take_of_lt hjj5] at hj
        obtain ⟨b', off', e, hc, _⟩ := h.row j u hj
        injection e with e; injection e with e1 e2; subst e1; subst e2
        rw [Addr.add_lit]; exact hc
      · rw [List.getElem?_eq_none (by simp; omega)] at hj; cases hj)) (Lib.hid (rvals_one _))
    have HC := Lib.hid C
    clear C h ht hl
    generalize rvals (rs.take 5) = vs at HC
    have h1 : min m 5 ≤ pc := by omega
    by_cases hh5 : m ≤ 5
    · have ee5 : min m 5 = m := by omega
      rw [ee5] at HC ⊢
      clear ee5 h1
      go_enter Tryz.func31, Tryz.ntmps31
      go_wp2_with (fail)
      refine HC.out.mono ?_
      rintro e w' ⟨a', c', rfl, r, bel⟩
      go_wp2
      go_ret
      exact ⟨a', c', rfl, r, bel⟩
    · have ee5 : min m 5 = 5 := by omega
      rw [ee5] at HC ⊢
      clear ee5 h1
      go_enter Tryz.func31, Tryz.ntmps31
      go_wp2_with (fail)
      refine HC.out.mono ?_
      rintro e w' ⟨a', c', rfl, r, bel⟩
      go_wp2
      go_ret
      exact ⟨a', c', rfl, r, bel⟩
set_option maxRecDepth 100000 in
/-- Cut of a slice of slices that came in. -/
theorem cutR4 (pa : Option Addr) (m pc : Nat) (rs : List Rw) (w : World) (h : CameRows w pa m pc rs) :
    Calls Tryz.prog 31 #[.slice pa m pc, .int .i64 4] w (MakesRw (rvals (rs.take 4)) (min m 4) w) := by
  have hlen := h.len
  have hcap := h.cap
  by_cases h0 : m = 0
  · subst h0
    have e : rs.take 4 = [] := by rw [List.eq_nil_of_length_eq_zero h.num]; rfl
    rw [e]
    have hnil := h.nil
    clear h e
    cases pa with
    | none =>
      obtain rfl := (hnil rfl).2
      have C := copyR_nil w
      clear hnil
      go_enter Tryz.func31, Tryz.ntmps31
      go_wp2_with (fail)
      refine C.mono ?_
      rintro e w' ⟨a', c', rfl, r, bel⟩
      go_wp2
      go_ret
      exact ⟨a', c', rfl, r, bel⟩
    | some ad =>
      have C := copyR_at ad pc 0 [] w rfl (by omega) (Lib.hid (by simp)) (Lib.hid (by simp))
      clear hnil
      go_enter Tryz.func31, Tryz.ntmps31
      go_wp2_with (fail)
      refine C.mono ?_
      rintro e w' ⟨a', c', rfl, r, bel⟩
      go_wp2
      go_ret
      exact ⟨a', c', rfl, r, bel⟩
  · have hl := rvals_len rs
    rw [h.num] at hl
    obtain ⟨b, off, rfl, -⟩ := h.row 0 ((rvals rs)[0]'(by omega)) (List.getElem?_eq_getElem (by omega))
    have ht : rvals (rs.take 4) = (rvals rs).take 4 := by simp [rvals, List.map_take]
    have C := copyR_at ⟨b, off, none⟩ pc (min m 4) (rvals (rs.take 4)) w (by rw [ht, List.length_take, hl]; omega) (by omega) (Lib.hid (fun j u hj => by
      rw [ht] at hj
      by_cases hjj4 : j < 4
      · rw [List.getElem?_take_of_lt hjj4] at hj
        obtain ⟨b', off', e, hc, _⟩ := h.row j u hj
        injection e with e; injection e with e1 e2; subst e1; subst e2
        rw [Addr.add_lit]; exact hc
      · rw [List.getElem?_eq_none (by simp; omega)] at hj; cases hj)) (Lib.hid (rvals_one _))
    have HC := Lib.hid C
    clear C h ht hl
    generalize rvals (rs.take 4) = vs at HC
    have h1 : min m 4 ≤ pc := by omega
    by_cases hh4 : m ≤ 4
    · have ee4 : min m 4 = m := by omega
      rw [ee4] at HC ⊢
      clear ee4 h1
      go_enter Tryz.func31, Tryz.ntmps31
      go_wp2_with (fail)
      refine HC.out.mono ?_
      rintro e w' ⟨a', c', rfl, r, bel⟩
      go_wp2
      go_ret
      exact ⟨a', c', rfl, r, bel⟩
    · have ee4 : min m 4 = 4 := by omega
      rw [ee4] at HC ⊢
      clear ee4 h1
      go_enter Tryz.func31, Tryz.ntmps31
      go_wp2_with (fail)
      refine HC.out.mono ?_
      rintro e w' ⟨a', c', rfl, r, bel⟩
      go_wp2
      go_ret
      exact ⟨a', c', rfl, r, bel⟩
theorem open_rows {H : Type} {enc : TypeId × Value → H} {w : World} {base : Nat} {held : Bool} {fuel : Nat} {cs : List Value} {x : DataW H × List MemPlace}
    (h : DataW.trod enc Tryz.prog w base (fun _ => true) held fuel 56 cs = some x) : ∃ pa m pc rs, cs = [.slice pa m pc] ∧ CameRows w pa m pc rs := by
  rcases Go.Deep.open_int_rows Tryz.underlying56 Tryz.underlying23 Tryz.underlying3 (by kernel_rfl) (by kernel_rfl) h with ⟨rfl, _⟩ | ⟨a, len, cap, A, L, C, Z, rfl, _, hl, hm, _, hr⟩
  · exact ⟨none, 0, 0, [], rfl, by omega, fun _ => ⟨rfl, rfl⟩, by omega, rfl, (fun k u hu => by simp [rvals] at hu), (fun r hr => by simp at hr)⟩
  · refine ⟨some a, len, cap, (List.range len).map (fun r => ⟨A r, L r, C r, Z r⟩), rfl, by unfold maxLen at hm; omega, (fun e => nomatch e), hl, by simp, fun k u hu => ?_, fun r hr' => ?_⟩
    · have hk : k < len := by
        have := (List.getElem?_eq_some_iff.1 hu).1
        simpa [rvals] using this
      have hu' : u = .slice (A k) (L k) (C k) := by
        simp [rvals, Rw.val, hk] at hu
        exact hu.symm
      obtain ⟨hc, _⟩ := hr k (by omega)
      have hs := World.cell?_spot (w := w) (a := a) (hr 0 (by omega)).1
      obtain ⟨b, off, s⟩ := a
      have hs' : s = none := hs
      subst hs'
      rw [Addr.add_lit] at hc
      exact ⟨b, off, rfl, by rw [hu']; exact hc, World.block_lt_of_cell? w _ hc⟩
    · obtain ⟨k, hk, rfl⟩ := List.mem_map.1 hr'
      have hk' : k < len := List.mem_range.1 hk
      obtain ⟨_, h1, h2, h3, h4, h5, h6⟩ := hr k (by omega)
      apply row_facts
      show (A k = none ∧ L k = 0 ∧ C k = 0 ∧ Z k = []) ∨ ∃ x, A k = some x ∧ L k ≤ C k ∧ C k ≤ maxLen ∧ (Z k).length = C k ∧ (∀ i, i < (Z k).length → w.cell? (x.add i) = some (.int .i64 ((Z k).getD i 0))) ∧ ∀ n ∈ Z k, (Lit.int .i64 n).wf = true
      cases hA : A k with
      | none =>
        have := h5 hA
        exact .inl ⟨rfl, by omega, this, List.eq_nil_of_length_eq_zero (by omega)⟩
      | some a' => exact .inr ⟨a', rfl, h1, h2, h3, fun i hi => (h6 a' hA).2 i (by omega), h4⟩
end Go.Proofs.YtmapohpabepmfaaGreat

/- Contracts of At and Keys of a table of ints, and of the laws' own Copy and Same; a slice of ints that came in. -/
import Derived.Test.YtkfjnojpgffchaaN
import Derived.Maps.AppendAt
import Derived.Lib.AppendZeros
import Derived.Laws.OwnMore
namespace Go.Proofs.Ytkfjnojpgffchaa
open Go.ChangeShapes Go.WideShapes Go.ChangeAt Go.RowKit

/-- What a call that makes a row of xs comes to. -/
def Makes (t : TypeId) (xs : List Value) (w : World) (e : Ending) (w' : World) : Prop :=
  ∃ a c, e = .returned (.slice a xs.length c) ∧ Row w' t a c xs ∧ (∀ g, a = some ⟨g, 0, none⟩ → w.heap.size ≤ g) ∧ Below w.heap.size w w'

theorem own_row {w : World} {B : Nat} {t : TypeId} {v : Value} {n : Nat} {xs : List Value} (h : w.ownsRow B t 1 v n xs) : ∃ a c, v = .slice a xs.length c ∧ Row w t a c xs ∧ ∀ g, a = some ⟨g, 0, none⟩ → B ≤ g := by
  obtain ⟨hl, h⟩ := h
  rw [Nat.mul_one] at hl
  rcases h with ⟨rfl, rfl⟩ | ⟨g, cap, cur, rfl, hg, hh, hn, hm, hs, ht⟩
  · obtain rfl : xs = [] := List.eq_nil_of_length_eq_zero hl
    exact ⟨none, 0, rfl, Row.nil _ _, (fun _ e => nomatch e)⟩
  · rw [Nat.mul_one] at hs ht
    unfold maxLen at hm
    have hc : xs ++ cur.toList.drop n = cur.toList := by rw [← ht, List.take_append_drop]
    have hd : (cur.toList.drop n).length = cap - n := by rw [List.length_drop]; simp [hs]
    refine ⟨some ⟨g, 0, none⟩, cap, by rw [hl], .inr ⟨g, cur.toList.drop n, rfl, by rw [hd]; omega, by omega, (lies_arr hh).to hc.symm⟩, fun g' e => ?_⟩
    injection e with e; injection e with e; subst e; exact hg

theorem clone_int (a : Option Addr) (c : Nat) (ks : List Int) (w : World) (R : Row w 3 a c (ints ks)) (hb : ks.length * 8 ≤ 140737488355328) :
    Calls Try.prog 51 #[.slice a ks.length c] w (Makes 3 (ints ks) w) := by
  rcases R with ⟨rfl, rfl, e⟩ | ⟨g, sp, rfl, hc, hm, hl⟩
  · obtain rfl : ks = [] := List.map_eq_nil_iff.1 e
    refine (Any.slices_Clone_int_nil Try.laysNm215 0 0 w).mono ?_
    rintro e w' ⟨rfl, rfl⟩
    exact ⟨none, 0, rfl, Row.nil _ _, (fun _ e => nomatch e), Below.refl _ _⟩
  · refine (Any.slices_Clone_int Try.laysNm215 g 0 ks.length c ks w (Nat.le_refl _) hb ?_).mono ?_
    · intro j hj
      rw [Nat.zero_add, hl.cell, List.getElem?_append_left (by rw [ints_len]; exact hj)]
      simp [ints, hj]
    · rintro e w' ⟨v', rfl, ho, _, hbel⟩
      rw [List.take_length] at ho
      obtain ⟨a, c, rfl, r, f⟩ := own_row ho
      exact ⟨a, c, rfl, r, f, hbel⟩

theorem keys_ii (X : Nat → Prop) (b : Nat) (ks : List Int) (vs : List Value) (w : World) (h : Tab 60 3 3 w X b (ints ks) vs) (hb : ks.length * 8 ≤ 140737488355328) :
    Calls Try.prog 30 #[.pointer (some ⟨b, 0, none⟩)] w (Makes 3 (ints ks) w) := by
  obtain ⟨ka, kc, va, vc, ⟨l, r, -⟩⟩ := h
  have c0 : w.cell? ⟨b, 0, none⟩ = some (.slice ka ks.length kc) := by rw [← ints_len]; exact l.cell 0
  clear l
  go_enter Try.func30, Try.ntmps30
  go_wp2_with (fail)
  refine (clone_int _ _ ks _ r hb).mono ?_
  rintro e w' ⟨a, c, rfl, r', f, bel⟩
  go_wp2
  go_ret
  exact ⟨a, c, rfl, r', f, bel⟩

theorem at_in (X : Nat → Prop) (b : Nat) (ks vs : List Value) (i : Nat) (w : World) (h : Tab 60 3 3 w X b ks vs) (hi : i < ks.length) (hi2 : i < vs.length) :
    Calls Try.prog 23 #[.pointer (some ⟨b, 0, none⟩), .int .i64 i] w fun e w' => e = .returned (.tuple #[ks[i], vs[i], .bool true]) ∧ ∃ q, w' = w.drewN q := by
  have L := len_ii X b ks vs w h
  obtain ⟨ka, kc, va, vc, p⟩ := h
  obtain ⟨kg, rfl, ck⟩ := p.rk.there hi
  obtain ⟨vg, rfl, cv⟩ := p.rv.there hi2
  have c0 : w.cell? ⟨b, 0, none⟩ = some (.slice (some ⟨kg, 0, none⟩) ks.length kc) := p.lb.cell 0
  have c1 : w.cell? ⟨b, 1, none⟩ = some (.slice (some ⟨vg, 0, none⟩) vs.length vc) := p.lb.cell 1
  clear p
  have d1 : decide (ks.length ≤ i) = false := by simp; omega
  have d2 : decide ((ks.length : Int) ≤ (i : Int)) = false := by simp; omega
  go_enter Try.func23, Try.ntmps23
  go_wp2_with (fail)
  refine L.mono ?_
  rintro e w' ⟨rfl, rfl⟩
  go_wp2_with (fail)
  go_quiet (fail)
  go_wp2
  exact bodyPost_ret (v := .tuple #[ks[i], vs[i], .bool true]) (by simp [results, Try.results23, go_sem]) rfl ⟨rfl, _, rfl⟩

theorem at_past (X : Nat → Prop) (b : Nat) (ks vs : List Value) (w : World) (h : Tab 60 3 3 w X b ks vs) :
    Calls Try.prog 23 #[.pointer (some ⟨b, 0, none⟩), .int .i64 ks.length] w fun e w' => e = .returned (.tuple #[.int .i64 0, .int .i64 0, .bool false]) ∧ w = w' := by
  have L := len_ii X b ks vs w h
  clear h
  go_enter Try.func23, Try.ntmps23
  go_wp2_with (fail)
  refine L.mono ?_
  rintro e w' ⟨rfl, rfl⟩
  go_wp2
  exact bodyPost_ret (v := .tuple #[.int .i64 0, .int .i64 0, .bool false]) (by simp [results, Try.results23, go_sem]) rfl ⟨rfl, rfl⟩

theorem at_below (b : Nat) (w : World) :
    Calls Try.prog 23 #[.pointer (some ⟨b, 0, none⟩), .int .i64 (-1)] w fun e w' => e = .returned (.tuple #[.int .i64 0, .int .i64 0, .bool false]) ∧ w = w' := by
  go_enter Try.func23, Try.ntmps23
  go_wp2
  exact bodyPost_ret (v := .tuple #[.int .i64 0, .int .i64 0, .bool false]) (by simp [results, Try.results23, go_sem]) rfl ⟨rfl, rfl⟩

theorem Try.info3 : (Try.prog.info? 3).map (fun i => (i.zero, i.size, i.bytes)) = some (some (.int .i64 0), 1, 8) := by kernel_rfl

/-- append of a row to nil: a copy. -/
theorem run_copy (ty : TypeId) (a : Option Addr) (c : Nat) (xs : List Value) (w : World) (R : Row w 3 a c xs) (h1 : ∀ u ∈ xs, u.oneCell' = true) (hb : xs.length * 8 ≤ 140737488355328) :
    ∃ v w', (Builtin.append_ #[22, 22] ty #[.slice none 0 0, .slice a xs.length c]).run Try.prog w = .ok v w' ∧ Makes 3 xs w (.returned v) w' := by
  obtain ⟨i, hi, hz, hsz, hby⟩ := info_parts Try.info3
  rcases R with ⟨rfl, rfl, rfl⟩ | ⟨g, sp, rfl, hc, hm, hl⟩
  · exact ⟨_, _, run_append_owned_none (w := w) w.heap.size 22 ty 3 i 1 Try.underlying22 hi _ 0 [] (World.ownsRow_nil w _ 3 1), none, 0, rfl, Row.nil _ _, (fun _ e => nomatch e), Below.refl _ _⟩
  · obtain ⟨v', w', hr, h2, h3, _, _⟩ := run_append_own_at (P := Try.prog) w w.heap.size 22 ty 3 i _ 1 8 Try.underlying22 hi hz hsz hby (by simp [Value.cells]) (by omega) (.slice none 0 0) 0 [] (World.ownsRow_nil w _ 3 1)
      ⟨g, 0, none⟩ xs.length c xs (by simp) (fun j u hj => by rw [Addr.add_lit]; exact one_cell hl hj) h1 (by unfold maxLen; omega) (by omega) (Nat.le_refl _)
    rw [List.nil_append] at h2
    obtain ⟨a, c, rfl, r, f⟩ := own_row h2
    exact ⟨_, _, hr, a, c, rfl, r, f, (Below.refl _ _).grown h3 (Nat.le_refl _) (fun k e => by simp [Value.ownBlock] at e)⟩

theorem copy_int (a : Option Addr) (c : Nat) (ks : List Int) (w : World) (R : Row w 3 a c (ints ks)) (hb : ks.length * 8 ≤ 140737488355328) :
    Calls Try.prog 31 #[.slice a ks.length c] w (Makes 3 (ints ks) w) := by
  have hr := run_copy 22 a c (ints ks) w R (ints_one ks) (by rw [ints_len]; exact hb)
  rw [ints_len] at hr
  obtain ⟨v, w', hr, a', c', e, r, f, bel⟩ := hr
  injection e with e
  subst e
  go_enter Try.func31, Try.ntmps31
  go_wp2_with (at_builtin; refine Lib.wpList_append_run _ rfl _ _ _ _ rfl _ _ rfl rfl _ _ hr ?_)
  go_ret
  exact ⟨a', c', rfl, r, f, bel⟩

theorem ints_get {ks : List Int} {k : Nat} (hk : k < ks.length) (h : k < (ints ks).length) : (ints ks)[k] = .int .i64 (ks[k]) := by simp [ints]

theorem Row.int {w : World} {a : Option Addr} {c : Nat} {ks : List Int} (h : Row w 3 a c (ints ks)) {k : Nat} (hk : k < ks.length) : ∃ g, a = some ⟨g, 0, none⟩ ∧ w.cell? ⟨g, k, none⟩ = some (.int .i64 ks[k]) := by
  obtain ⟨g, e, hc⟩ := h.there (i := k) (by rw [ints_len]; exact hk)
  exact ⟨g, e, hc.trans (by rw [ints_get hk])⟩

theorem same_yes (a a' : Option Addr) (c c' : Nat) (ks : List Int) (w : World) (R : Row w 3 a c (ints ks)) (R' : Row w 3 a' c' (ints ks)) :
    Calls Try.prog 29 #[.slice a ks.length c, .slice a' ks.length c'] w fun e w' => e = .returned (.bool true) ∧ ∃ q, w' = w.drewN q := by
  have hle := R.le
  rw [ints_len] at hle
  have HR := Lib.hid R
  have HR' := Lib.hid R'
  clear R R'
  go_enter Try.func29, Try.ntmps29
  go_wp2
  go_loopw [5] (fun i wr => ∃ k q : Nat, k ≤ ks.length ∧ i = .int .i64 k ∧ wr = w.drewN q) (fun i _ => ks.length - (intOf i).toNat)
  case atStart => exact ⟨0, 0, Nat.zero_le _, rfl, rfl⟩
  case round =>
    obtain ⟨k, q, hk, rfl, rfl⟩ := hrel
    by_cases hlt : k < ks.length
    · obtain ⟨g, rfl, hc⟩ := HR.out.int hlt
      obtain ⟨g', rfl, hc'⟩ := HR'.out.int hlt
      generalize ks[k] = z at hc hc'
      go_wp2
      go_quiet (fail)
      go_wp2
      go_roundw
      case rel => exact ⟨k + 1, _, by omega, by go_num, rfl⟩
      case measure => simp [intOf]; omega
    · go_wp2
      go_ret
      exact ⟨rfl, _, rfl⟩

/-- Place k of the slice at a holds the number 'zs k'; it lies in memory that was there. -/
def RowAt (w : World) (a : Option Addr) (zs : List Int) (k : Nat) : Prop :=
  ∃ b off, a = some ⟨b, off, none⟩ ∧ w.cell? ⟨b, off + k, none⟩ = some (.int .i64 (zs.getD k 0)) ∧ b < w.heap.size ∧ -9223372036854775808 ≤ zs.getD k 0 ∧ zs.getD k 0 ≤ 9223372036854775807

theorem rowAt_of {w : World} {a : Option Addr} {len cap : Nat} {zs : List Int}
    (h : (a = none ∧ len = 0 ∧ cap = 0 ∧ zs = []) ∨
      ∃ x, a = some x ∧ len ≤ cap ∧ cap ≤ maxLen ∧ zs.length = cap ∧ (∀ i, i < zs.length → w.cell? (x.add i) = some (.int .i64 (zs.getD i 0))) ∧ ∀ n ∈ zs, (Lit.int .i64 n).wf = true) :
    len ≤ 9223372036854775807 ∧ ∀ k, k < len → RowAt w a zs k := by
  rcases h with ⟨_, rfl, _, _⟩ | ⟨x, rfl, hl, hm, hz, hc, hwf⟩
  · exact ⟨by omega, fun k hk => by omega⟩
  · unfold maxLen at hm
    refine ⟨by omega, fun k hk => ?_⟩
    obtain ⟨b, off, rfl, hc'⟩ := ints_at hc (by omega)
    have hk' : k < zs.length := by omega
    have hcell := hc' k hk'
    have hw : (Lit.int .i64 (zs.getD k 0)).wf = true := by
      rw [List.getD_eq_getElem?_getD, List.getElem?_eq_getElem hk']
      exact hwf _ (List.getElem_mem hk')
    have hb := bounds_i64 hw
    exact ⟨b, off, rfl, hcell, World.block_lt_of_cell? w _ hcell, hb.1, hb.2⟩

end Go.Proofs.Ytkfjnojpgffchaa

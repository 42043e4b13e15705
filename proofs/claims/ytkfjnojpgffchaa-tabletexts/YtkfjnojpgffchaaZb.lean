/- Tables of texts: Get, Len, New, Keys; the laws' own Copy, Cut, Same of texts. -/
import Derived.Test.YtkfjnojpgffchaaZa
namespace Go.Proofs.Ytkfjnojpgffchaa
open Go.ChangeShapes Go.WideShapes Go.ChangeAt Go.RowKit

theorem place_ss' (X : Nat → Prop) (b : Nat) (ks : List ByteArray) (vs : List Value) (k : ByteArray) (w : World) (h : Tab 71 9 36 w X b (strs ks) vs) (hb : ks.length < 4611686018427387904) (hu : Up strLt ks) :
    Calls Try.prog 49 #[.pointer (some ⟨b, 0, none⟩), .string k] w fun e w' => e = .returned (.tuple #[.int .i64 (spot strLt ks k : Nat), .bool (has ks k)]) ∧ ∃ q, w' = w.drewN q := by
  obtain ⟨ka, kc, va, vc, ⟨l, r, -⟩⟩ := h
  have c0 : w.cell? ⟨b, 0, none⟩ = some (.slice ka ks.length kc) := by rw [← strs_len]; exact l.cell 0
  clear l
  go_enter Try.func49, Try.ntmps49
  go_wp2_with (fail)
  refine (search_s ka kc ks k _ r hb hu).mono ?_
  rintro e w' ⟨rfl, q, rfl⟩
  go_wp2
  go_ret2
  exact ⟨rfl, _, rfl⟩

theorem get_ss (X : Nat → Prop) (b : Nat) (ks : List ByteArray) (vs : List Value) (k : ByteArray) (w : World) (h : Tab 71 9 36 w X b (strs ks) vs) (hb : ks.length < 4611686018427387904) (hu : Up strLt ks) (hl : ks.length = vs.length) :
    Calls Try.prog 19 #[.pointer (some ⟨b, 0, none⟩), .string k] w (Gets strLt (.slice none 0 0) ks vs k w) := by
  have S := place_ss' X b ks vs k w h hb hu
  cases hh : has ks k with
  | true =>
    have hiv : spot strLt ks k < vs.length := hl ▸ spot_lt strOrder hu hh
    obtain ⟨ka, kc, va, vc, p⟩ := h
    rw [hh] at S
    obtain ⟨vg, rfl, cv⟩ := p.rv.there hiv
    have c1 : w.cell? ⟨b, 1, none⟩ = some (.slice (some ⟨vg, 0, none⟩) vs.length vc) := p.lb.cell 1
    have HG := Lib.hid (hasV_yes (lt := strLt) (vs := vs) (z := .slice none 0 0) hh rfl hiv)
    clear hl p
    generalize spot strLt ks k = i at *
    go_enter Try.func19, Try.ntmps19
    go_wp2_with (fail)
    refine S.mono ?_
    rintro e w' ⟨rfl, q, rfl⟩
    go_wp2
    refine bodyPost_ret (v := .tuple #[vs[i], .bool true]) (by simp [results, Try.results19, go_sem]) rfl ?_
    exact ⟨by rw [HG.out, hh], q, rfl⟩
  | false =>
    rw [hh] at S
    clear h hl
    generalize spot strLt ks k = i at *
    go_enter Try.func19, Try.ntmps19
    go_wp2_with (fail)
    refine S.mono ?_
    rintro e w' ⟨rfl, q, rfl⟩
    go_wp2
    refine bodyPost_ret (v := .tuple #[.slice none 0 0, .bool false]) (by simp [results, Try.results19, go_sem]) rfl ?_
    exact ⟨by rw [hasV_no hh, hh], q, rfl⟩

theorem len_ss' (X : Nat → Prop) (b : Nat) (ks vs : List Value) (w : World) (h : Tab 71 9 36 w X b ks vs) : Calls Try.prog 21 #[.pointer (some ⟨b, 0, none⟩)] w fun e w' => e = .returned (.int .i64 ks.length) ∧ w = w' := by
  obtain ⟨ka, kc, va, vc, ⟨l, -⟩⟩ := h
  have c0 : w.cell? ⟨b, 0, none⟩ = some (.slice ka ks.length kc) := l.cell 0
  clear l
  go_enter Try.func21, Try.ntmps21
  go_wp2
  go_ret
  exact ⟨rfl, rfl⟩

theorem new_ss' (w : World) : Calls Try.prog 15 #[] w fun e w' => e = .returned (.pointer (some ⟨w.heap.size, 0, none⟩)) ∧ w' = w.alloc (.cells #[.slice none 0 0, .slice none 0 0] 71) := by
  go_enter Try.func15, Try.ntmps15
  go_wp2
  go_ret
  exact ⟨rfl, rfl⟩

theorem clone_str (a : Option Addr) (c : Nat) (ks : List ByteArray) (w : World) (R : Row w 9 a c (strs ks)) (hb : ks.length ≤ 1000) :
    Calls Try.prog 48 #[.slice a ks.length c] w (Makes 9 (strs ks) w) := by
  rcases R with ⟨rfl, rfl, e⟩ | ⟨g, sp, rfl, hc, hm, hl⟩
  · obtain rfl : ks = [] := List.map_eq_nil_iff.1 e
    refine (Any.slices_Clone_string_nil Try.laysNm216 0 0 w).mono ?_
    rintro e w' ⟨rfl, rfl⟩
    exact ⟨none, 0, rfl, Row.nil _ _, (fun _ e => nomatch e), Below.refl _ _⟩
  · refine (Any.slices_Clone_string Try.laysNm216 g 0 ks.length c ks w (Nat.le_refl _) (by omega) ?_).mono ?_
    · intro j hj
      rw [Nat.zero_add, hl.cell, List.getElem?_append_left (by rw [strs_len]; exact hj)]
      simp [strs, hj]
    · rintro e w' ⟨v', rfl, ho, _, hbel⟩
      rw [List.take_length] at ho
      obtain ⟨a, c, rfl, r, f⟩ := own_row ho
      exact ⟨a, c, rfl, r, f, hbel⟩

theorem keys_ss (X : Nat → Prop) (b : Nat) (ks : List ByteArray) (vs : List Value) (w : World) (h : Tab 71 9 36 w X b (strs ks) vs) (hb : ks.length ≤ 1000) :
    Calls Try.prog 18 #[.pointer (some ⟨b, 0, none⟩)] w (Makes 9 (strs ks) w) := by
  obtain ⟨ka, kc, va, vc, ⟨l, r, -⟩⟩ := h
  have c0 : w.cell? ⟨b, 0, none⟩ = some (.slice ka ks.length kc) := by rw [← strs_len]; exact l.cell 0
  clear l
  go_enter Try.func18, Try.ntmps18
  go_wp2_with (fail)
  refine (clone_str _ _ ks _ r hb).mono ?_
  rintro e w' ⟨a, c, rfl, r', f, bel⟩
  go_wp2
  go_ret
  exact ⟨a, c, rfl, r', f, bel⟩

theorem Try.info9 : (Try.prog.info? 9).map (fun i => (i.zero, i.size, i.bytes)) = some (some (.string ⟨#[]⟩), 1, 16) := by kernel_rfl

/-- A slice of texts that may have come in: its cells. -/
def Texts (w : World) (a : Option Addr) (n : Nat) (ks : List ByteArray) : Prop :=
  ks.length = n ∧ ((a = none ∧ n = 0) ∨ ∃ ad, a = some ad ∧ ∀ j (hj : j < ks.length), w.cell? (ad.add j) = some (.string ks[j]))

theorem copy_str (a : Option Addr) (c : Nat) (ks : List ByteArray) (w : World) (ha : a = none → c = 0) (h : Texts w a ks.length ks) (hb : ks.length ≤ 1000) :
    Calls Try.prog 43 #[.slice a ks.length c] w (Makes 9 (strs ks) w) := by
  have hr : ∃ v w', (Builtin.append_ #[36, 36] 36 #[.slice none 0 0, .slice a ks.length c]).run Try.prog w = .ok v w' ∧ Makes 9 (strs ks) w (.returned v) w' := by
    obtain ⟨i, hi, hz, hsz, hby⟩ := info_parts Try.info9
    rcases h.2 with ⟨rfl, e⟩ | ⟨ad, rfl, hc⟩
    · obtain rfl : ks = [] := List.eq_nil_of_length_eq_zero e
      obtain rfl := ha rfl
      exact ⟨_, _, run_append_owned_none (w := w) w.heap.size 36 36 9 i 1 Try.underlying36 hi _ 0 [] (World.ownsRow_nil w _ 9 1), none, 0, rfl, Row.nil _ _, (fun _ e => nomatch e), Below.refl _ _⟩
    · obtain ⟨v', w', hr, h2, h3, _, _⟩ := run_append_own_at (P := Try.prog) w w.heap.size 36 36 9 i _ 1 16 Try.underlying36 hi hz hsz hby (by simp [Value.cells]) (by omega) (.slice none 0 0) 0 [] (World.ownsRow_nil w _ 9 1)
        ad ks.length c (strs ks) (by rw [strs_len]; omega) (fun j u hj => by
          have hj' : j < ks.length := by have := (List.getElem?_eq_some_iff.1 hj).1; rwa [strs_len] at this
          rw [hc j hj']
          rw [← hj]
          simp [strs, hj']) (strs_one ks) (by unfold maxLen; omega) (by omega) (Nat.le_refl _)
      rw [List.nil_append] at h2
      obtain ⟨a, c, rfl, r, f⟩ := own_row h2
      exact ⟨_, _, hr, a, c, rfl, r, f, (Below.refl _ _).grown h3 (Nat.le_refl _) (fun k e => by simp [Value.ownBlock] at e)⟩
  obtain ⟨v, w', hr, a', c', e, r, f, bel⟩ := hr
  injection e with e
  subst e
  clear h ha
  go_enter Try.func43, Try.ntmps43
  go_wp2_with (at_builtin; refine Lib.wpList_append_run _ rfl _ _ _ _ rfl _ _ rfl rfl _ _ hr ?_)
  go_ret
  exact ⟨a', c', rfl, r, f, bel⟩

theorem strs_get {ks : List ByteArray} {k : Nat} (hk : k < ks.length) (h : k < (strs ks).length) : (strs ks)[k] = .string ks[k] := by simp [strs]
theorem Row.str {w : World} {a : Option Addr} {c : Nat} {ks : List ByteArray} (h : Row w 9 a c (strs ks)) {k : Nat} (hk : k < ks.length) : ∃ g, a = some ⟨g, 0, none⟩ ∧ w.cell? ⟨g, k, none⟩ = some (.string ks[k]) := by
  obtain ⟨g, e, hc⟩ := h.there (i := k) (by rw [strs_len]; exact hk)
  exact ⟨g, e, hc.trans (by rw [strs_get hk])⟩

theorem same_str (a : Option Addr) (c m : Nat) (ks : List ByteArray) (w : World) (R : Row w 9 a c (strs ks)) (hm : m ≤ ks.length) (hb : ks.length ≤ 1000) :
    Calls Try.prog 20 #[.slice a m c, .slice a m c] w fun e w' => e = .returned (.bool true) ∧ ∃ q, w' = w.drewN q := by
  have HR := Lib.hid R
  clear R
  go_enter Try.func20, Try.ntmps20
  go_wp2
  go_loopw [5] (fun i wr => ∃ k q : Nat, k ≤ m ∧ i = .int .i64 k ∧ wr = w.drewN q) (fun i _ => m - (intOf i).toNat)
  case atStart => exact ⟨0, 0, Nat.zero_le _, rfl, rfl⟩
  case round =>
    obtain ⟨k, q, hk, rfl, rfl⟩ := hrel
    by_cases hlt : k < m
    · obtain ⟨g, rfl, hc⟩ := HR.out.str (k := k) (by omega)
      generalize ks[k] = z at hc
      go_wp2
      go_quiet (fail)
      go_wp2
      go_roundw
      case rel => exact ⟨k + 1, _, by omega, by go_num, rfl⟩
      case measure => simp [intOf]; omega
    · go_wp2
      go_ret
      exact ⟨rfl, _, rfl⟩
end Go.Proofs.Ytkfjnojpgffchaa

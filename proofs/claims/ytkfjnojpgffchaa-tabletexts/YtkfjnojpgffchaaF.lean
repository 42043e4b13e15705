/- Contracts of Get, At, Keys, Drop, Len, New of a table at int and int, some at int and string; the laws' own example (wakes). -/
import Derived.Test.YtkfjnojpgffchaaE
namespace Go.Proofs.Ytkfjnojpgffchaa
open Go.ChangeShapes Go.WideShapes Go.ChangeAt Go.RowKit

/-- What a Get of k comes to. -/
def Gets {K : Type} [DecidableEq K] (lt : K → K → Bool) (z : Value) (ks : List K) (vs : List Value) (k : K) (w : World) (e : Ending) (w' : World) : Prop :=
  e = .returned (.tuple #[hasV lt ks vs k z, .bool (has ks k)]) ∧ ∃ q, w' = w.drewN q
theorem hasV_yes {K V : Type} [DecidableEq K] {lt : K → K → Bool} {ks : List K} {vs : List V} {k : K} {z : V} {i : Nat} (hh : has ks k = true) (hi : spot lt ks k = i) (hlt : i < vs.length) : hasV lt ks vs k z = vs[i] := by
  unfold hasV
  rw [hh, hi, if_pos rfl, List.getD_eq_getElem?_getD, List.getElem?_eq_getElem hlt]
  rfl
theorem hasV_no {K V : Type} [DecidableEq K] {lt : K → K → Bool} {ks : List K} {vs : List V} {k : K} {z : V} (hh : has ks k = false) : hasV lt ks vs k z = z := by
  unfold hasV
  rw [hh]
  rfl
/-- The values' row, where there is one. -/
theorem Row.there {w : World} {t : TypeId} {a : Option Addr} {c : Nat} {xs : List Value} (h : Row w t a c xs) {i : Nat} (hi : i < xs.length) : ∃ g, a = some ⟨g, 0, none⟩ ∧ w.cell? ⟨g, i, none⟩ = some xs[i] := by
  rcases h with ⟨_, _, rfl⟩ | ⟨g, sp, rfl, _, _, l⟩
  · simp at hi
  · exact ⟨g, rfl, by rw [l.cell, List.getElem?_append_left hi, List.getElem?_eq_getElem hi]⟩

theorem place_ii' (X : Nat → Prop) (b : Nat) (ks : List Int) (vs : List Value) (k : Int) (w : World) (h : Tab 60 3 3 w X b (ints ks) vs) (hb : ks.length < 4611686018427387904) (hu : Up intLt ks) :
    Calls Try.prog 34 #[.pointer (some ⟨b, 0, none⟩), .int .i64 k] w fun e w' => e = .returned (.tuple #[.int .i64 (spot intLt ks k : Nat), .bool (has ks k)]) ∧ ∃ q, w' = w.drewN q := by
  obtain ⟨ka, kc, va, vc, ⟨l, r, -⟩⟩ := h
  have c0 : w.cell? ⟨b, 0, none⟩ = some (.slice ka ks.length kc) := by rw [← ints_len]; exact l.cell 0
  clear l
  go_enter Try.func34, Try.ntmps34
  go_wp2_with (fail)
  refine (search ka kc ks k _ r hb hu).mono ?_
  rintro e w' ⟨rfl, q, rfl⟩
  go_wp2
  go_ret2
  exact ⟨rfl, _, rfl⟩

theorem get_ii (X : Nat → Prop) (b : Nat) (ks : List Int) (vs : List Value) (k : Int) (w : World) (h : Tab 60 3 3 w X b (ints ks) vs) (hb : ks.length < 4611686018427387904) (hu : Up intLt ks) (hl : ks.length = vs.length) :
    Calls Try.prog 32 #[.pointer (some ⟨b, 0, none⟩), .int .i64 k] w (Gets intLt (.int .i64 0) ks vs k w) := by
  have S := place_ii' X b ks vs k w h hb hu
  cases hh : has ks k with
  | true =>
    have hiv : spot intLt ks k < vs.length := hl ▸ spot_lt intOrder hu hh
    obtain ⟨ka, kc, va, vc, p⟩ := h
    rw [hh] at S
    obtain ⟨vg, rfl, cv⟩ := p.rv.there hiv
    have c1 : w.cell? ⟨b, 1, none⟩ = some (.slice (some ⟨vg, 0, none⟩) vs.length vc) := p.lb.cell 1
    have HG := Lib.hid (hasV_yes (lt := intLt) (vs := vs) (z := .int .i64 0) hh rfl hiv)
    clear hl p
    generalize spot intLt ks k = i at *
    go_enter Try.func32, Try.ntmps32
    go_wp2_with (fail)
    refine S.mono ?_
    rintro e w' ⟨rfl, q, rfl⟩
    go_wp2
    refine bodyPost_ret (v := .tuple #[vs[i], .bool true]) (by simp [results, Try.results32, go_sem]) rfl ?_
    exact ⟨by rw [HG.out, hh], q, rfl⟩
  | false =>
    rw [hh] at S
    clear h hl
    generalize spot intLt ks k = i at *
    go_enter Try.func32, Try.ntmps32
    go_wp2_with (fail)
    refine S.mono ?_
    rintro e w' ⟨rfl, q, rfl⟩
    go_wp2
    refine bodyPost_ret (v := .tuple #[.int .i64 0, .bool false]) (by simp [results, Try.results32, go_sem]) rfl ?_
    exact ⟨by rw [hasV_no hh, hh], q, rfl⟩

theorem len_ii' (X : Nat → Prop) (b : Nat) (ks vs : List Value) (w : World) (h : Tab 60 3 3 w X b ks vs) : Calls Try.prog 22 #[.pointer (some ⟨b, 0, none⟩)] w fun e w' => e = .returned (.int .i64 ks.length) ∧ w = w' := by
  obtain ⟨ka, kc, va, vc, ⟨l, -⟩⟩ := h
  have c0 : w.cell? ⟨b, 0, none⟩ = some (.slice ka ks.length kc) := l.cell 0
  clear l
  go_enter Try.func22, Try.ntmps22
  go_wp2
  go_ret
  exact ⟨rfl, rfl⟩

theorem new_ii' (w : World) : Calls Try.prog 8 #[] w fun e w' => e = .returned (.pointer (some ⟨w.heap.size, 0, none⟩)) ∧ w' = w.alloc (.cells #[.slice none 0 0, .slice none 0 0] 60) := by
  go_enter Try.func8, Try.ntmps8
  go_wp2
  go_ret
  exact ⟨rfl, rfl⟩

theorem place_is' (X : Nat → Prop) (b : Nat) (ks : List Int) (vs : List Value) (k : Int) (w : World) (h : Tab 83 3 9 w X b (ints ks) vs) (hb : ks.length < 4611686018427387904) (hu : Up intLt ks) :
    Calls Try.prog 57 #[.pointer (some ⟨b, 0, none⟩), .int .i64 k] w fun e w' => e = .returned (.tuple #[.int .i64 (spot intLt ks k : Nat), .bool (has ks k)]) ∧ ∃ q, w' = w.drewN q := by
  obtain ⟨ka, kc, va, vc, ⟨l, r, -⟩⟩ := h
  have c0 : w.cell? ⟨b, 0, none⟩ = some (.slice ka ks.length kc) := by rw [← ints_len]; exact l.cell 0
  clear l
  go_enter Try.func57, Try.ntmps57
  go_wp2_with (fail)
  refine (search ka kc ks k _ r hb hu).mono ?_
  rintro e w' ⟨rfl, q, rfl⟩
  go_wp2
  go_ret2
  exact ⟨rfl, _, rfl⟩

theorem get_is (X : Nat → Prop) (b : Nat) (ks : List Int) (vs : List Value) (k : Int) (w : World) (h : Tab 83 3 9 w X b (ints ks) vs) (hb : ks.length < 4611686018427387904) (hu : Up intLt ks) (hl : ks.length = vs.length) :
    Calls Try.prog 42 #[.pointer (some ⟨b, 0, none⟩), .int .i64 k] w (Gets intLt (.string ⟨#[]⟩) ks vs k w) := by
  have S := place_is' X b ks vs k w h hb hu
  cases hh : has ks k with
  | true =>
    have hiv : spot intLt ks k < vs.length := hl ▸ spot_lt intOrder hu hh
    obtain ⟨ka, kc, va, vc, p⟩ := h
    rw [hh] at S
    obtain ⟨vg, rfl, cv⟩ := p.rv.there hiv
    have c1 : w.cell? ⟨b, 1, none⟩ = some (.slice (some ⟨vg, 0, none⟩) vs.length vc) := p.lb.cell 1
    have HG := Lib.hid (hasV_yes (lt := intLt) (vs := vs) (z := .string ⟨#[]⟩) hh rfl hiv)
    clear hl p
    generalize spot intLt ks k = i at *
    go_enter Try.func42, Try.ntmps42
    go_wp2_with (fail)
    refine S.mono ?_
    rintro e w' ⟨rfl, q, rfl⟩
    go_wp2
    refine bodyPost_ret (v := .tuple #[vs[i], .bool true]) (by simp [results, Try.results42, go_sem]) rfl ?_
    exact ⟨by rw [HG.out, hh], q, rfl⟩
  | false =>
    rw [hh] at S
    clear h hl
    generalize spot intLt ks k = i at *
    go_enter Try.func42, Try.ntmps42
    go_wp2_with (fail)
    refine S.mono ?_
    rintro e w' ⟨rfl, q, rfl⟩
    go_wp2
    refine bodyPost_ret (v := .tuple #[.string ⟨#[]⟩, .bool false]) (by simp [results, Try.results42, go_sem]) rfl ?_
    exact ⟨by rw [hasV_no hh, hh], q, rfl⟩

theorem len_is' (X : Nat → Prop) (b : Nat) (ks vs : List Value) (w : World) (h : Tab 83 3 9 w X b ks vs) : Calls Try.prog 40 #[.pointer (some ⟨b, 0, none⟩)] w fun e w' => e = .returned (.int .i64 ks.length) ∧ w = w' := by
  obtain ⟨ka, kc, va, vc, ⟨l, -⟩⟩ := h
  have c0 : w.cell? ⟨b, 0, none⟩ = some (.slice ka ks.length kc) := l.cell 0
  clear l
  go_enter Try.func40, Try.ntmps40
  go_wp2
  go_ret
  exact ⟨rfl, rfl⟩

theorem new_is' (w : World) : Calls Try.prog 39 #[] w fun e w' => e = .returned (.pointer (some ⟨w.heap.size, 0, none⟩)) ∧ w' = w.alloc (.cells #[.slice none 0 0, .slice none 0 0] 83) := by
  go_enter Try.func39, Try.ntmps39
  go_wp2
  go_ret
  exact ⟨rfl, rfl⟩

theorem wakes_any (w : World) : Calls Try.prog 14 #[] w fun e w' => e = .returned (.bool true) ∧ Below w.heap.size w w' := by
  go_enter Try.func14, Try.ntmps14
  go_wp2_with (fail)
  refine (new_is' _).mono ?_
  rintro e w1 ⟨rfl, e1⟩
  have t1 : Tab 83 3 9 w1 (fun k => k = w.heap.size) w.heap.size (ints []) [] := e1 ▸ tab_new 83 3 9 w
  have b1 : Below w.heap.size w w1 := e1 ▸ (Below.refl _ _).alloc (Nat.le_refl _) _
  have s1 : w.heap.size < w1.heap.size := by rw [e1]; simp
  clear e1
  go_wp2_with (fail)
  refine (len_is' _ _ _ _ _ t1).mono ?_
  rintro e w' ⟨rfl, rfl⟩
  rw [ints_len]
  go_wp2_with (fail)
  refine (put_is _ _ [] [] 7 ⟨#[97]⟩ w1 t1 (by simp) up_nil rfl (by simp)).mono ?_
  rintro e w2 ⟨rfl, t2, k2⟩
  have t2' : Tab 83 3 9 w2 (fun g => g = w.heap.size ∨ w1.heap.size ≤ g) w.heap.size (ints [7]) [.string ⟨#[97]⟩] := t2
  have b2 : Below w.heap.size w1 w2 := k2.below (fun k e => by omega) (by omega)
  clear t2 k2
  rw [show hasV intLt [] [] (7 : Int) (Value.string ⟨#[]⟩) = .string ⟨#[]⟩ from rfl, show has [] (7 : Int) = false from rfl]
  go_wp2_with (fail)
  refine (get_is _ _ [7] [.string ⟨#[97]⟩] 7 w2 t2' (by simp) (List.pairwise_singleton ..) rfl).mono ?_
  rintro e w3 ⟨rfl, q, e3⟩
  have t3 : Tab 83 3 9 w3 (fun g => g = w.heap.size ∨ w1.heap.size ≤ g) w.heap.size (ints [7]) [.string ⟨#[97]⟩] := e3 ▸ t2'.drewN q
  have b3 : Below w.heap.size w w3 := e3 ▸ (b1.trans b2).trans ⟨rfl, rfl, rfl, Nat.le_refl _, fun _ _ => rfl⟩
  clear e3 t2' b1 b2 t1
  rw [show hasV intLt [7] [Value.string ⟨#[97]⟩] (7 : Int) (Value.string ⟨#[]⟩) = .string ⟨#[97]⟩ from rfl, show has [7] (7 : Int) = true from rfl]
  go_wp2_with (fail)
  refine (len_is' _ _ _ _ _ t3).mono ?_
  rintro e w' ⟨rfl, rfl⟩
  rw [ints_len]
  go_wp2
  go_ret
  exact ⟨rfl, b3⟩
end Go.Proofs.Ytkfjnojpgffchaa

/- Rows of keys with values (two cells each), as the law TablePlays keeps them beside the table. -/
import Derived.Test.YtkfjnojpgffchaaT
namespace Go.Proofs.Ytkfjnojpgffchaa
open Go.ChangeShapes Go.WideShapes Go.ChangeAt Go.RowKit

def flat (kv : List (Int × Int)) : List Value := kv.flatMap (fun p => [.int .i64 p.1, .int .i64 p.2])
theorem flat_cons (p : Int × Int) (kv : List (Int × Int)) : flat (p :: kv) = .int .i64 p.1 :: .int .i64 p.2 :: flat kv := rfl
theorem flat_len (kv : List (Int × Int)) : (flat kv).length = kv.length * 2 := by
  induction kv with
  | nil => rfl
  | cons p kv ih => rw [flat_cons]; simp [ih]; omega
theorem flat_append (a b : List (Int × Int)) : flat (a ++ b) = flat a ++ flat b := by unfold flat; rw [List.flatMap_append]
theorem flat_one (kv : List (Int × Int)) : ∀ x ∈ flat kv, x.oneCell' = true := fun x hx => by
  unfold flat at hx
  obtain ⟨p, _, hx⟩ := List.mem_flatMap.1 hx
  simp at hx
  rcases hx with rfl | rfl <;> rfl
theorem flat_split (kv : List (Int × Int)) (j : Nat) (hj : j ≤ kv.length) : (flat kv).take (j * 2) = flat (kv.take j) ∧ (flat kv).drop (j * 2) = flat (kv.drop j) := by
  have h : flat kv = flat (kv.take j) ++ flat (kv.drop j) := by rw [← flat_append, List.take_append_drop]
  have hl : (flat (kv.take j)).length = j * 2 := by rw [flat_len, List.length_take]; omega
  rw [h]
  exact ⟨by rw [← hl, List.take_left], by rw [← hl, List.drop_left]⟩
theorem flat_get (kv : List (Int × Int)) (j : Nat) (hj : j < kv.length) : (flat kv)[j * 2]? = some (.int .i64 kv[j].1) ∧ (flat kv)[j * 2 + 1]? = some (.int .i64 kv[j].2) := by
  have h := (flat_split kv j (by omega)).2
  rw [List.drop_eq_getElem_cons hj, flat_cons] at h
  have h0 : ((flat kv).drop (j * 2))[0]? = some (.int .i64 kv[j].1) := by rw [h]; rfl
  have h1 : ((flat kv).drop (j * 2))[1]? = some (.int .i64 kv[j].2) := by rw [h]; rfl
  rw [List.getElem?_drop] at h0 h1
  exact ⟨h0, h1⟩
theorem flat_set (kv : List (Int × Int)) (j : Nat) (hj : j < kv.length) (z : Int) : (flat kv).set (j * 2 + 1) (.int .i64 z) = flat (kv.set j (kv[j].1, z)) := by
  induction kv generalizing j with
  | nil => simp at hj
  | cons p kv ih =>
    cases j with
    | zero => rfl
    | succ j =>
      rw [show (j + 1) * 2 + 1 = (j * 2 + 1) + 2 by omega]
      simp only [flat_cons, List.set_cons_succ, List.getElem_cons_succ]
      rw [ih j (by simpa using hj)]

/-- The slice of address a and capacity c is nil, or stands at the head of a block of its own: the pairs kv, and spare room. -/
def Row2 (w : World) (a : Option Addr) (c : Nat) (kv : List (Int × Int)) : Prop :=
  (a = none ∧ c = 0 ∧ kv = []) ∨ ∃ g sp, a = some ⟨g, 0, none⟩ ∧ sp.length = (c - kv.length) * 2 ∧ kv.length ≤ c ∧ c ≤ 9223372036854775807 ∧ Lies w g 29 (flat kv ++ sp)

section
variable {w w' : World} {a : Option Addr} {c : Nat} {kv : List (Int × Int)}
theorem Row2.nil (w : World) : Row2 w none 0 [] := .inl ⟨rfl, rfl, rfl⟩
theorem Row2.kept {X : Nat → Prop} (h : Row2 w a c kv) (k : Kept X w w') (hx : ∀ g, a = some ⟨g, 0, none⟩ → ¬ X g) : Row2 w' a c kv := by
  rcases h with h | ⟨g, sp, rfl, h1, h2, h3, l⟩
  · exact .inl h
  · exact .inr ⟨g, sp, rfl, h1, h2, h3, l.kept k (hx g rfl)⟩
theorem Row2.lt (h : Row2 w a c kv) {g : Nat} (e : a = some ⟨g, 0, none⟩) : g < w.heap.size := by
  subst e
  rcases h with ⟨h, _⟩ | ⟨g', sp, h, _, _, _, l⟩
  · cases h
  · injection h with h; injection h with h; subst h; exact l.lt
theorem Row2.le (h : Row2 w a c kv) : kv.length ≤ c ∧ c ≤ 9223372036854775807 := by
  rcases h with ⟨_, rfl, rfl⟩ | ⟨g', sp, _, _, h1, h2, _⟩
  · simp
  · omega
theorem Row2.form (h : Row2 w a c kv) : a = none ∨ ∃ g, a = some ⟨g, 0, none⟩ := by
  rcases h with ⟨e, _⟩ | ⟨g, _, e, _⟩
  · exact .inl e
  · exact .inr ⟨g, e⟩
theorem Row2.there (h : Row2 w a c kv) {j : Nat} (hj : j < kv.length) : ∃ g, a = some ⟨g, 0, none⟩ ∧ w.cell? ⟨g, j * 2, none⟩ = some (.int .i64 kv[j].1) ∧ w.cell? ⟨g, j * 2 + 1, none⟩ = some (.int .i64 kv[j].2) ∧ ∀ i, w.frozen? ⟨g, i, none⟩ = false := by
  rcases h with ⟨_, _, rfl⟩ | ⟨g, sp, rfl, _, _, _, l⟩
  · simp at hj
  · have := flat_get kv j hj
    have hl := flat_len kv
    refine ⟨g, rfl, ?_, ?_, fun i => l.frozen i⟩
    · rw [l.cell, List.getElem?_append_left (by omega)]; exact this.1
    · rw [l.cell, List.getElem?_append_left (by omega)]; exact this.2
theorem Row2.cut (h : Row2 w a c kv) {j : Nat} (hj : j ≤ kv.length) : Row2 w a c (kv.take j) := by
  rcases h with ⟨rfl, rfl, rfl⟩ | ⟨g, sp, rfl, h1, h2, h3, l⟩
  · exact .inl ⟨rfl, rfl, by simp⟩
  · have hs := flat_split kv j hj
    have hlen : (kv.take j).length = j := by rw [List.length_take]; omega
    have hd : (flat (kv.drop j)).length = (kv.length - j) * 2 := by rw [flat_len, List.length_drop]
    refine .inr ⟨g, flat (kv.drop j) ++ sp, rfl, ?_, by omega, h3, l.to ?_⟩
    · rw [List.length_append, hd, h1, hlen]; omega
    · rw [← List.append_assoc, ← flat_append, List.take_append_drop]
theorem Row2.set {g : Nat} (h : Row2 w (some ⟨g, 0, none⟩) c kv) {j : Nat} (hj : j < kv.length) (z : Int) : Row2 (w.setCell ⟨g, j * 2 + 1, none⟩ (.int .i64 z)) (some ⟨g, 0, none⟩) c (kv.set j (kv[j].1, z)) := by
  rcases h with ⟨e, _⟩ | ⟨g', sp, e, h1, h2, h3, l⟩
  · cases e
  · injection e with e; injection e with e; subst e
    refine .inr ⟨g, sp, rfl, by rw [List.length_set]; exact h1, by rw [List.length_set]; exact h2, h3, (l.set _ _).to ?_⟩
    rw [List.set_append_left _ _ (by rw [flat_len]; omega), flat_set kv j hj z]
theorem Row2.own (h : Row2 w a c kv) : w.ownsRow 0 29 2 (.slice a kv.length c) kv.length (flat kv) := by
  refine ⟨flat_len kv, ?_⟩
  rcases h with ⟨rfl, rfl, rfl⟩ | ⟨g, sp, rfl, h1, h2, h3, l⟩
  · exact .inl ⟨rfl, rfl⟩
  · refine .inr ⟨g, c, _, rfl, Nat.zero_le _, l, h2, by unfold maxLen; omega, ?_, ?_⟩
    · simp [flat_len, h1]; omega
    · rw [← flat_len kv]; simp
theorem own_row2 {v : Value} {n : Nat} (hn : n = kv.length) (h : w.ownsRow 0 29 2 v n (flat kv)) : ∃ a c, v = .slice a n c ∧ Row2 w a c kv := by
  subst hn
  rcases h.2 with ⟨rfl, e⟩ | ⟨g, cap, cur, rfl, _, hh, hn, hm, hs, ht⟩
  · obtain rfl : kv = [] := List.eq_nil_of_length_eq_zero e
    exact ⟨none, 0, rfl, Row2.nil w⟩
  · unfold maxLen at hm
    refine ⟨_, _, rfl, .inr ⟨g, cur.toList.drop (kv.length * 2), rfl, ?_, hn, by omega, (lies_arr hh).to ?_⟩⟩
    · rw [List.length_drop, Array.length_toList, hs]; omega
    · rw [← ht, List.take_append_drop]
end

theorem Try.info29 : (Try.prog.info? 29).map (fun i => (i.zero, i.size, i.bytes)) = some (some (.agg #[.int .i64 0, .int .i64 0]), 2, 16) := by kernel_rfl

/-- append of pairs to a row of pairs. -/
theorem app2 (ty : TypeId) (a : Option Addr) (c : Nat) (kv : List (Int × Int)) (s : Option Addr) (sc : Nat) (kv2 : List (Int × Int)) (w : World) (R : Row2 w a c kv) (hs : s = none → sc = 0 ∧ kv2 = [])
    (hc : ∀ ad, s = some ad → ∀ j u, (flat kv2)[j]? = some u → w.cell? (ad.add j) = some u) (hb : kv.length + kv2.length ≤ 1000000) {n m : Nat} (hn : n = kv.length) (hm : m = kv2.length) :
    ∃ a' c' w', (Builtin.append_ #[25, 25] ty #[.slice a n c, .slice s m sc]).run Try.prog w = .ok (.slice a' (n + m) c') w' ∧ Row2 w' a' c' (kv ++ kv2) ∧ Kept (fun g => a = some ⟨g, 0, none⟩) w w' ∧
      ∀ g, a' = some ⟨g, 0, none⟩ → a = some ⟨g, 0, none⟩ ∨ w.heap.size ≤ g := by
  subst hn hm
  obtain ⟨i, hi, hz, hsz, hby⟩ := info_parts Try.info29
  have hform := R.form
  cases s with
  | none =>
    obtain ⟨rfl, rfl⟩ := hs rfl
    refine ⟨a, c, w, run_append_owned_none (w := w) 0 25 ty 29 i 2 Try.underlying25 hi _ kv.length (flat kv) R.own, by simpa using R, Kept.refl _ _, fun g e => .inl e⟩
  | some ad =>
    obtain ⟨v', w', hr, h2, h3, _, h5⟩ := run_append_own_at (P := Try.prog) w 0 25 ty 29 i _ 2 16 Try.underlying25 hi hz hsz hby (by simp [Value.cells]) (by omega) _ kv.length (flat kv) R.own
      ad kv2.length sc (flat kv2) (flat_len kv2) (hc ad rfl) (flat_one kv2) (by unfold maxLen; omega) (by omega) (Nat.zero_le _)
    rw [← flat_append] at h2
    obtain ⟨a', c', rfl, r'⟩ := own_row2 (by simp) h2
    refine ⟨a', c', w', hr, r', ?_, fun g e => ?_⟩
    · refine ⟨h3.os, h3.tape, h3.output, h3.size, fun g hg hx => h3.block g hg (fun e => ?_)⟩
      obtain ⟨x, rfl, hx'⟩ := (ownBlock_slice a _ _ g).1 e.symm
      rcases hform with h | ⟨g', h⟩
      · cases h
      · injection h with h; subst h; subst hx'; exact hx rfl
    · subst e
      rcases h5 with h5 | h5
      · obtain ⟨x, rfl, hx⟩ := (ownBlock_slice a kv.length c g).1 (by rw [← h5]; rfl)
        rcases hform with h | ⟨g', h⟩
        · cases h
        · injection h with h; subst h; subst hx; exact .inl rfl
      · have : g = w.heap.size := by simpa [Value.ownBlock] using h5
        exact .inr (by omega)

abbrev keysOf (kv : List (Int × Int)) : List Int := kv.map (·.1)
theorem spot_pairs {kv : List (Int × Int)} (hu : Up intLt (keysOf kv)) (k : Int) {j : Nat} (hj : j < kv.length) : (j < spot intLt (keysOf kv) k → kv[j].1 < k) ∧ (spot intLt (keysOf kv) k ≤ j → k ≤ kv[j].1) := by
  have hs := spot_split intOrder (keysOf kv) k hu
  have hg : (keysOf kv)[j]? = some kv[j].1 := by simp [hj]
  constructor
  · intro h
    have : kv[j].1 ∈ (keysOf kv).take (spot intLt (keysOf kv) k) := List.mem_of_getElem? (i := j) (by rw [List.getElem?_take, if_pos h]; exact hg)
    have := hs.1 _ this
    simpa [intLt] using this
  · intro h
    have : kv[j].1 ∈ (keysOf kv).drop (spot intLt (keysOf kv) k) := List.mem_of_getElem? (i := j - spot intLt (keysOf kv) k) (by rw [List.getElem?_drop, show spot intLt (keysOf kv) k + (j - spot intLt (keysOf kv) k) = j by omega]; exact hg)
    have := hs.2 _ this
    simpa [intLt] using this

theorem find_any (a : Option Addr) (c : Nat) (kv : List (Int × Int)) (k : Int) (w : World) (R : Row2 w a c kv) (hu : Up intLt (keysOf kv)) :
    Calls Try.prog 10 #[.slice a kv.length c, .int .i64 k] w fun e w' => e = .returned (.int .i64 (spot intLt (keysOf kv) k : Nat)) ∧ w = w' := by
  have hle := R.le
  have HS := Lib.hid (fun j hj => spot_pairs hu k (j := j) hj)
  have hsl := spot_le (lt := intLt) (keysOf kv) k
  rw [List.length_map] at hsl
  generalize spot intLt (keysOf kv) k = m at *
  clear hu
  go_enter Try.func10, Try.ntmps10
  go_wp2
  go_loop [5] (fun i => ∃ j : Nat, j ≤ m ∧ i = .int .i64 j) (fun i => m - (intOf i).toNat)
  case atStart => exact ⟨0, Nat.zero_le _, rfl⟩
  case round =>
    obtain ⟨j, hj, rfl⟩ := hrel
    by_cases hlt : j < kv.length
    · obtain ⟨g, rfl, c0, _, _⟩ := R.there hlt
      have hS := HS.out j hlt
      generalize kv[j].1 = x at c0 hS
      by_cases hjm : j < m
      · have hx := hS.1 hjm
        clear hS
        go_wp2
        go_round
        case rel => exact ⟨j + 1, by omega, by go_num⟩
        case measure => simp [intOf]; omega
      · have hx := hS.2 (by omega)
        clear hS
        go_wp2
        go_ret
        exact ⟨by rw [show j = m by omega]; rfl, rfl⟩
    · go_wp2
      go_ret
      exact ⟨by rw [show j = m by omega]; rfl, rfl⟩
end Go.Proofs.Ytkfjnojpgffchaa

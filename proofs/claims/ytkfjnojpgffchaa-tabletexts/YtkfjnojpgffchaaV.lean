/- The law's own check that a table shows what it has (shows). -/
import Derived.Test.YtkfjnojpgffchaaU
namespace Go.Proofs.Ytkfjnojpgffchaa
open Go.ChangeShapes Go.WideShapes Go.ChangeAt Go.RowKit

abbrev valsOf (kv : List (Int × Int)) : List Int := kv.map (·.2)

theorem spot_self {kv : List (Int × Int)} (hu : Up intLt (keysOf kv)) {j : Nat} (hj : j < kv.length) : spot intLt (keysOf kv) kv[j].1 = j := by
  have hp := spot_pairs hu kv[j].1 hj
  have hle := spot_le (lt := intLt) (keysOf kv) kv[j].1
  rw [List.length_map] at hle
  rcases Nat.lt_trichotomy (spot intLt (keysOf kv) kv[j].1) j with h | h | h
  · have h2 := (spot_pairs hu kv[j].1 (j := spot intLt (keysOf kv) kv[j].1) (by omega)).2 (Nat.le_refl _)
    have h3 := List.pairwise_iff_getElem.1 hu (spot intLt (keysOf kv) kv[j].1) j (by simp; omega) (by simpa using hj) h
    simp [intLt] at h3
    omega
  · exact h
  · have := hp.1 h
    omega

theorem has_self {kv : List (Int × Int)} {j : Nat} (hj : j < kv.length) : has (keysOf kv) kv[j].1 = true :=
  (has_mem _ _).2 (List.mem_map_of_mem (List.getElem_mem hj))

def pairs (kv : List (Int × Int)) : List Value := ints (valsOf kv)

theorem at_kv (X : Nat → Prop) (b : Nat) (kv : List (Int × Int)) (i : Nat) (w : World) (h : Tab 60 3 3 w X b (ints (keysOf kv)) (ints (valsOf kv))) (hi : i < kv.length) :
    Calls Try.prog 23 #[.pointer (some ⟨b, 0, none⟩), .int .i64 i] w fun e w' => e = .returned (.tuple #[.int .i64 kv[i].1, .int .i64 kv[i].2, .bool true]) ∧ ∃ q, w' = w.drewN q := by
  refine (at_int X b (keysOf kv) (valsOf kv) i w h (by simpa using hi) (by simpa using hi)).mono ?_
  rintro e w' ⟨rfl, h⟩
  exact ⟨by simp, h⟩

theorem get_kv (X : Nat → Prop) (b : Nat) (kv : List (Int × Int)) (i : Nat) (w : World) (h : Tab 60 3 3 w X b (ints (keysOf kv)) (ints (valsOf kv))) (hu : Up intLt (keysOf kv)) (hb : kv.length ≤ 1000000) (hi : i < kv.length) :
    Calls Try.prog 32 #[.pointer (some ⟨b, 0, none⟩), .int .i64 kv[i].1] w fun e w' => e = .returned (.tuple #[.int .i64 kv[i].2, .bool true]) ∧ ∃ q, w' = w.drewN q := by
  refine (get_ii X b (keysOf kv) (ints (valsOf kv)) kv[i].1 w h (by simp; omega) hu (by simp [ints])).mono ?_
  rintro e w' ⟨rfl, h⟩
  have e1 : hasV intLt (keysOf kv) (ints (valsOf kv)) kv[i].1 (.int .i64 0) = .int .i64 kv[i].2 := by
    rw [hasV_yes (has_self hi) (spot_self hu hi) (by simpa [ints] using hi)]
    simp [ints]
  exact ⟨by rw [e1, has_self hi], h⟩

set_option maxHeartbeats 2000000 in
theorem shows_any (X : Nat → Prop) (b : Nat) (kv : List (Int × Int)) (la : Option Addr) (lc : Nat) (w : World) (h : Tab 60 3 3 w X b (ints (keysOf kv)) (ints (valsOf kv))) (hu : Up intLt (keysOf kv)) (hb : kv.length ≤ 1000000) (R : Row2 w la lc kv) :
    Calls Try.prog 13 #[.pointer (some ⟨b, 0, none⟩), .slice la kv.length lc] w (True_ w) := by
  have hkl : (keysOf kv).length = kv.length := by simp
  go_enter Try.func13, Try.ntmps13
  go_wp2_with (fail)
  refine (keys_ii X b (keysOf kv) (ints (valsOf kv)) _ h (by omega)).mono ?_
  rintro e w1 ⟨na, nc, rfl, r1, f1, b1⟩
  rw [ints_len, hkl]
  have h1 := h.below b1
  have R1 : Row2 w1 la lc kv := R.kept (X := fun _ => False) (Kept.of_below b1) (fun _ _ h => h)
  have L := len_int X b (keysOf kv) (ints (valsOf kv)) w1 h1
  rw [hkl] at L
  have HK := Lib.hid hkl
  clear hkl h R f1
  go_wp2_with (fail)
  refine L.mono ?_
  rintro e w' ⟨rfl, rfl⟩
  go_wp2_with (fail)
  go_loopw [35] (fun i wr => ∃ j : Nat, j ≤ kv.length ∧ i = .int .i64 j ∧ Below w1.heap.size w1 wr) (fun i _ => kv.length - (intOf i).toNat)
  case atStart => exact ⟨0, Nat.zero_le _, rfl, Below.refl _ _⟩
  case round =>
    obtain ⟨j, hj, rfl, bel⟩ := hrel
    have hr := h1.below bel
    have Rr : Row2 wr la lc kv := R1.kept (X := fun _ => False) (Kept.of_below bel) (fun _ _ h => h)
    have rr := r1.below bel
    by_cases hlt : j < kv.length
    · obtain ⟨g, rfl, c0, c1, -⟩ := Rr.there hlt
      obtain ⟨ng, rfl, ck⟩ := rr.int (k := j) (by rw [HK.out]; exact hlt)
      have ck' : wr.cell? ⟨ng, j, none⟩ = some (.int .i64 kv[j].1) := by rw [ck]; simp
      have A := fun w' h => at_kv X b kv j w' h hlt
      have G := fun w' h => get_kv X b kv j w' h hu hb hlt
      clear ck Rr rr
      generalize kv[j].1 = x at *
      generalize kv[j].2 = y at *
      go_wp2_with (fail)
      have ba : Below w1.heap.size w1 (wr.alloc (.cells #[.int .i64 x, .int .i64 y] 29)) := bel.alloc bel.size _
      have ha := h1.below ba
      have la := Lies.new wr 29 [.int .i64 x, .int .i64 y]
      have cx : (wr.alloc (.cells #[.int .i64 x, .int .i64 y] 29)).cell? ⟨wr.heap.size, 0, none⟩ = some (.int .i64 x) := la.cell 0
      have cy : (wr.alloc (.cells #[.int .i64 x, .int .i64 y] 29)).cell? ⟨wr.heap.size, 1, none⟩ = some (.int .i64 y) := la.cell 1
      have ck2 : (wr.alloc (.cells #[.int .i64 x, .int .i64 y] 29)).cell? ⟨ng, j, none⟩ = some (.int .i64 x) := (World.cell?_alloc_lt wr _ _ (World.block_lt_of_cell? wr _ ck')).trans ck'
      refine (A _ ha).mono ?_
      clear A la bel hr c0 c1 ck'
      generalize wr.alloc (.cells #[.int .i64 x, .int .i64 y] 29) = wa at *
      rintro e w' ⟨rfl, q, rfl⟩
      go_wp2_with (fail)
      refine (G _ (ha.drewN q)).mono ?_
      clear G
      rintro e w' ⟨rfl, q2, rfl⟩
      go_wp2_with (fail)
      go_quiet (fail)
      go_wp2
      go_roundw
      case rel => exact ⟨j + 1, by omega, by go_num, ba.trans (below_drewN _ _ _)⟩
      case measure => simp [intOf]; omega
    · have P := at_past X b (ints (keysOf kv)) (ints (valsOf kv)) wr hr
      rw [ints_len, HK.out] at P
      go_wp2_with (fail)
      refine (at_below b _).mono ?_
      rintro e w' ⟨rfl, rfl⟩
      go_wp2_with (fail)
      refine P.mono ?_
      rintro e w' ⟨rfl, rfl⟩
      go_wp2
      go_ret
      exact ⟨rfl, b1.trans (bel.mono b1.size)⟩
end Go.Proofs.Ytkfjnojpgffchaa

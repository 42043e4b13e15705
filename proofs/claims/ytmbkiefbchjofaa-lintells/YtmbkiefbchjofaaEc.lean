/- slices.SortFunc at few bags, by bag.Compare. -/
import Derived.Test.YtmbkiefbchjofaaEb
namespace Go.Proofs.Ytmbkiefbchjofaa
open Go.ChangeShapes Go.WideShapes Go.ChangeAt Go.RowKit

/-- Some number, nothing turned. -/
def AnyI (w : World) (e : Ending) (w' : World) : Prop := ∃ v : Int, e = .returned (.int .i64 v) ∧ w = w'
set_option maxRecDepth 100000 in
theorem len64_any (n : Nat) (w : World) (h : n ≤ 12) : Calls Try.prog 71 #[.int .u64 n] w (AnyI w) := by
  obtain rfl | rfl | rfl | rfl | rfl | rfl | rfl | rfl | rfl | rfl | rfl | rfl | rfl : n = 0 ∨ n = 1 ∨ n = 2 ∨ n = 3 ∨ n = 4 ∨ n = 5 ∨ n = 6 ∨ n = 7 ∨ n = 8 ∨ n = 9 ∨ n = 10 ∨ n = 11 ∨ n = 12 := by omega
  all_goals
    go_enter Try.func71, Try.ntmps71
    go_wp2
    go_ret
    exact ⟨_, rfl, rfl⟩
theorem len_any (n : Nat) (w : World) (h : n ≤ 12) : Calls Try.prog 53 #[.int .u64 n] w (AnyI w) := by
  have HZ := Lib.hid (len64_any n w h)
  go_enter Try.func53, Try.ntmps53
  go_wp2_with (fail)
  refine HZ.out.mono ?_
  rintro e w' ⟨v, rfl, rfl⟩
  go_wp2
  go_ret
  exact ⟨_, rfl, rfl⟩

set_option maxRecDepth 100000 in
set_option maxHeartbeats 2000000 in
theorem pdq_any (g c n : Nat) (v : Int) (ps : List Bg) (w : World) (P : Bgs w (some ⟨g, 0, none⟩) c ps) (hn : ps.length = n) (hs : n ≤ 12) (r : Rights ps) :
    Calls Try.prog 52 #[.slice (some ⟨g, 0, none⟩) n c, .int .i64 0, .int .i64 n, .int .i64 v, .func (.func 32) #[] #[]] w (Sorted (some ⟨g, 0, none⟩) c ps w) := by
  have HZ := Lib.hid (insertion_any g c n ps w P hn hs r)
  clear P hn r
  go_enter Try.func52, Try.ntmps52
  go_wp2
  go_loop [1, 2] (fun i j => i = .int .i64 0 ∧ j = .int .i64 n) (fun _ _ => 0)
  case atStart => exact ⟨rfl, rfl⟩
  case round =>
    obtain ⟨rfl, rfl⟩ := hrel
    go_wp2_with (fail)
    refine HZ.out.mono ?_
    rintro e w' ⟨l, rfl, hsl, hup⟩
    have HF := Lib.hid (show Sorted (some ⟨g, 0, none⟩) c ps w (.returned (.tuple #[])) w' from ⟨l, rfl, hsl, hup⟩)
    clear hsl hup
    go_wp2
    exact bodyPost_ret (v := .tuple #[]) (by simp [results, Try.results52, go_sem]) rfl HF.out
theorem sort_some (g c n : Nat) (ps : List Bg) (w : World) (P : Bgs w (some ⟨g, 0, none⟩) c ps) (hn : ps.length = n) (hs : n ≤ 12) (r : Rights ps) :
    Calls Try.prog 31 #[.slice (some ⟨g, 0, none⟩) n c, .func (.func 32) #[] #[]] w (Sorted (some ⟨g, 0, none⟩) c ps w) := by
  have HZ := Lib.hid (fun v => pdq_any g c n v ps w P hn hs r)
  have HL := Lib.hid (len_any n w hs)
  clear P hn r
  go_enter Try.func31, Try.ntmps31
  go_wp2_with (fail)
  refine HL.out.mono ?_
  rintro e w' ⟨v, rfl, rfl⟩
  go_wp2_with (fail)
  refine (HZ.out v).mono ?_
  rintro e w' ⟨l, rfl, hsl, hup⟩
  have HF := Lib.hid (show Sorted (some ⟨g, 0, none⟩) c ps w (.returned (.tuple #[])) w' from ⟨l, rfl, hsl, hup⟩)
  clear hsl hup
  go_wp2
  exact bodyPost_ret (v := .tuple #[]) (by simp [results, Try.results31, go_sem]) rfl HF.out
/-- Nothing done. -/
def Done (w : World) (e : Ending) (w' : World) : Prop := e = .returned (.tuple #[]) ∧ w = w'
theorem insertion_nil (w : World) :
    Calls Try.prog 62 #[.slice none 0 0, .int .i64 0, .int .i64 0, .func (.func 32) #[] #[]] w (Done w) := by
  have HF := Lib.hid (show Done w (.returned (.tuple #[])) w from ⟨rfl, rfl⟩)
  go_enter Try.func62, Try.ntmps62
  go_wp2
  go_loop [8] (fun i => i = .int .i64 1) (fun _ => 0)
  case atStart => rfl
  case round =>
    obtain rfl := hrel
    go_wp2
    exact bodyPost_ret (v := .tuple #[]) (by simp [results, Try.results62, go_sem]) rfl HF.out
theorem pdq_nil (v : Int) (w : World) :
    Calls Try.prog 52 #[.slice none 0 0, .int .i64 0, .int .i64 0, .int .i64 v, .func (.func 32) #[] #[]] w (Done w) := by
  have HF := Lib.hid (show Done w (.returned (.tuple #[])) w from ⟨rfl, rfl⟩)
  go_enter Try.func52, Try.ntmps52
  go_wp2
  go_loop [1, 2] (fun i j => i = .int .i64 0 ∧ j = .int .i64 0) (fun _ _ => 0)
  case atStart => exact ⟨rfl, rfl⟩
  case round =>
    obtain ⟨rfl, rfl⟩ := hrel
    go_wp2_with (fail)
    refine (insertion_nil _).mono ?_
    rintro e w' ⟨rfl, rfl⟩
    go_wp2
    exact bodyPost_ret (v := .tuple #[]) (by simp [results, Try.results52, go_sem]) rfl HF.out
theorem sort_nil (w : World) : Calls Try.prog 31 #[.slice none 0 0, .func (.func 32) #[] #[]] w (Done w) := by
  have HF := Lib.hid (show Done w (.returned (.tuple #[])) w from ⟨rfl, rfl⟩)
  go_enter Try.func31, Try.ntmps31
  go_wp2_with (fail)
  refine (len_any 0 _ (by omega)).mono ?_
  rintro e w' ⟨v, rfl, rfl⟩
  go_wp2_with (fail)
  refine (pdq_nil v _).mono ?_
  rintro e w' ⟨rfl, rfl⟩
  go_wp2
  exact bodyPost_ret (v := .tuple #[]) (by simp [results, Try.results31, go_sem]) rfl HF.out
theorem sort_any (a : Option Addr) (c n : Nat) (ps : List Bg) (w : World) (P : Bgs w a c ps) (hn : ps.length = n) (hs : n ≤ 12) (r : Rights ps) :
    Calls Try.prog 31 #[.slice a n c, .func (.func 32) #[] #[]] w (Sorted a c ps w) := by
  have hr := P.row
  rcases hr with ⟨rfl, rfl, h⟩ | ⟨g, _, rfl, _⟩
  · obtain rfl : ps = [] := List.map_eq_nil_iff.1 h
    subst hn
    exact (sort_nil w).mono fun e w' ⟨he, hw⟩ => by subst hw; exact ⟨[], he, Sorts.refl P, fun p q _ h => by simp at h⟩
  · exact sort_some g c n ps w P hn hs r
end Go.Proofs.Ytmbkiefbchjofaa

/- Contract of slices.Insert at [][]string, for one value: whatever the slice, the place, the room. -/
import Derived.Test.YtkfjnojpgffchaaW
import Derived.Deep.RegionLaw
namespace Go.Proofs.Ytkfjnojpgffchaa
open Go.ChangeShapes Go.WideShapes Go.ChangeAt Go.RowKit

theorem Try.info36 : (Try.prog.info? 36).map (fun i => (i.zero, i.size, i.bytes)) = some (some (.slice none 0 0), 1, 24) := by kernel_rfl
theorem Try.one36 : (Try.prog.info? 36).map (·.size) = some 1 := by kernel_rfl

theorem isSome_cell {w : World} {g : Nat} {t : TypeId} {cs : List Value} (l : Lies w g t cs) {j : Nat} (hj : j < cs.length) : (w.cell? ⟨g, j, none⟩).isSome = true := by
  rw [l.cell, List.getElem?_eq_getElem hj]; rfl

set_option maxHeartbeats 4000000 in
set_option maxRecDepth 100000 in
theorem ins_ss_shift (g n c i vb : Nat) (xs sp : List Value) (v : Value) (w : World) (hl : Lies w g 36 (xs ++ sp)) (hn : n = xs.length) (hc : c = n + sp.length) (hi : i < n) (hs : 0 < sp.length) (hm : c ≤ 9223372036854775807) (hv : Lies w vb 36 [v]) (hvg : vb ≠ g)
    (h1 : ∀ x ∈ xs, x.oneCell' = true) (hv1 : v.oneCell' = true) :
    Calls Try.prog 47 #[.slice (some ⟨g, 0, none⟩) n c, .int .i64 i, .slice (some ⟨vb, 0, none⟩) 1 1] w fun e w' =>
      e = .returned (.slice (some ⟨g, 0, none⟩) (n + 1) c) ∧ w' = (w.drew.setCells g (i + 1) (xs.drop i)).setCells g i [v] := by
  have hz2 : ¬ ((i : Int) = (n : Int)) := by omega
  have hov : ∀ lb cb, (callFunc 62 #[.slice (some ⟨vb, 0, none⟩) 1 1, .slice (some ⟨g, i + 1, none⟩) lb cb]).run Try.prog w = .ok (.value (.bool false)) w := fun lb cb => by
    rw [run_callFunc_extern Try.func62 (by kernel_rfl) (by kernel_rfl) (by kernel_rfl) (e := Extern.SlicesOverlaps.overlaps #[69, 69] #[4]) (by kernel_rfl),
      Lib.run_overlaps_apart w 69 4 36 Try.underlying69 1 Try.sizeOf36 ⟨vb, 0, none⟩ ⟨g, i + 1, none⟩ 1 1 lb cb hvg 36 36 _ _ hv.shape hl.shape (by rw [List.length_append]; omega) (hv.frozen _) (hv.frozen _)]
    rfl
  have hdl : (xs.drop i).length = n - i := by rw [List.length_drop, hn]
  have hll : (xs ++ sp).length = c := by rw [List.length_append]; omega
  have hw1 : IntKind.i64.wrap ((i : Int) + 1) = (i : Int) + 1 := by rw [IntKind.wrap_i64]; omega
  have hb1 : (0 : Int) ≤ (i : Int) + 1 := by omega
  have hin : i ≤ n := by omega
  have htn : ((i : Int) + 1).toNat = i + 1 := by omega
  have hb2 : ¬ (c = i + 1) := by omega
  have hb3 : (i : Int) ≤ (n : Int) + 1 := by omega
  have hb4 : ¬ (c = i) := by omega
  have hb5 : n + 1 ≤ c := by omega
  have hcp1 : ∀ ty dc sc, (Builtin.copy_ #[69, 69] ty #[.slice (some ⟨g, i + 1, none⟩) (n - i) dc, .slice (some ⟨g, i, none⟩) (n + 1 - i) sc]).run Try.prog w.drew = .ok (goInt (xs.drop i).length) (w.drew.setCells g (i + 1) (xs.drop i)) := fun ty dc sc =>
    run_copy_cells w.drew _ _ ty 36 g (i + 1) (n - i) dc ⟨g, i, none⟩ (n + 1 - i) sc (xs.drop i) Try.underlying69 Try.one36 (by rw [hdl]; simp only [Nat.min_def]; split <;> omega)
      (fun j u hj => by
        rw [Addr.add_lit, List.getElem?_drop] at *
        have := one_cell hl hj
        rw [Nat.zero_add] at this
        exact this)
      (fun j hj => isSome_cell hl.drew (by omega)) (fun j _ => hl.frozen _) (fun x hx => h1 x (List.mem_of_mem_drop hx))
  obtain ⟨W1, hW1⟩ : ∃ W1, W1 = w.drew.setCells g (i + 1) (xs.drop i) := ⟨_, rfl⟩
  have hL1 : Lies W1 g 36 (List.take (i + 1) (xs ++ sp) ++ xs.drop i ++ List.drop (i + 1 + (xs.drop i).length) (xs ++ sp)) := by
    rw [hW1]; exact Lies.setCells _ _ _ _ hl.drew (by omega)
  have hV1 : Lies W1 vb 36 [v] := by rw [hW1]; exact hv.drew.kept (setCells_kept g _ _ _) hvg
  have hcp2 : ∀ ty dc, (Builtin.copy_ #[69, 69] ty #[.slice (some ⟨g, i, none⟩) (n + 1 - i) dc, .slice (some ⟨vb, 0, none⟩) 1 1]).run Try.prog W1 = .ok (goInt [v].length) (W1.setCells g i [v]) := fun ty dc =>
    run_copy_cells W1 _ _ ty 36 g i (n + 1 - i) dc ⟨vb, 0, none⟩ 1 1 [v] Try.underlying69 Try.one36 (by simp only [Nat.min_def, List.length_cons, List.length_nil]; split <;> omega)
      (fun j u hj => by rw [Addr.add_lit, Nat.zero_add, hV1.cell]; exact hj)
      (fun j hj => isSome_cell hL1 (by simp at hj ⊢; omega)) (fun j _ => hL1.frozen _) (fun x hx => by simp at hx; subst hx; exact hv1)
  rw [← hW1] at hcp1
  have HW := Lib.hid hW1
  clear hL1 hV1 hl hv hn hc hll hdl hW1
  go_enter Try.func47, Try.ntmps47
  go_wp2_with (simp only [hov])
  go_region_law (refine step_copy_runI rfl _ _ 69 69 rfl _ _ (by simp [Act.eval, Act.put]) (by simp [Act.eval, Act.put]) (hcp1 _ _ _) ?_)
  go_wp2_with (refine wpList_copy_runI (o := ⟨some 82, _, _, _, _, _⟩) _ rfl _ _ 69 69 rfl _ _ rfl rfl (hcp2 _ _) ?_)
  go_ret
  exact ⟨rfl, by rw [HW.out]⟩

theorem ins_ss_room (g n c vb : Nat) (xs sp : List Value) (v : Value) (w : World) (hl : Lies w g 36 (xs ++ sp)) (hn : n = xs.length) (hc : c = n + sp.length) (hs : 0 < sp.length) (hm : c ≤ 9223372036854775807) (hv : Lies w vb 36 [v]) (hv1 : v.oneCell' = true) :
    Calls Try.prog 47 #[.slice (some ⟨g, 0, none⟩) n c, .int .i64 n, .slice (some ⟨vb, 0, none⟩) 1 1] w fun e w' =>
      e = .returned (.slice (some ⟨g, 0, none⟩) (n + 1) c) ∧ w' = w.setCells g n [v] := by
  have hsrc : Src Try.prog 1 69 (.slice (some ⟨vb, 0, none⟩) 1 1) 1 [v] w := Src.ofSlice w Try.underlying69 ⟨vb, 0, none⟩ 1 1 [v] rfl (fun j u hj => by rw [Addr.add_lit, Nat.zero_add, hv.cell]; exact hj) (fun x hx => by simp at hx; subst hx; exact hv1)
  have hsp : ∀ j, j < [v].length → (w.cell? ⟨g, 0 + n + j, none⟩).isSome = true := fun j hj => isSome_cell hl (by simp at hj ⊢; omega)
  have hfz : ∀ j, j < [v].length → w.frozen? ⟨g, 0 + n + j, none⟩ = false := fun j _ => hl.frozen _
  have hroom : n + 1 ≤ c := by omega
  clear hl hv hn hc
  go_enter Try.func47, Try.ntmps47
  go_wp2_with (at_builtin; refine wpList_append_room1 _ rfl _ _ 69 69 rfl 36 _ _ Try.underlying69 Try.info36 g 0 n c rfl _ rfl 1 [v] hsrc hroom hsp hfz ?_)
  go_ret
  exact ⟨rfl, rfl⟩

set_option maxHeartbeats 1000000 in
theorem ins_ss_end (a : Option Addr) (n c vb : Nat) (xs : List Value) (v : Value) (w : World) (R : Row w 36 a c xs) (hn : n = xs.length) (hroom : c < n + 1) (hb : n ≤ 1000) (hv : Lies w vb 36 [v]) (hv1 : v.oneCell' = true) :
    Calls Try.prog 47 #[.slice a n c, .int .i64 n, .slice (some ⟨vb, 0, none⟩) 1 1] w (Ins 36 a xs n v w) := by
  obtain ⟨i0, hi0, hz0, hzs, hzb⟩ := info_parts Try.info36
  have hsrc : Src Try.prog i0.size 69 (.slice (some ⟨vb, 0, none⟩) 1 1) 1 [v] w := by
    rw [hzs]
    exact Src.ofSlice w Try.underlying69 ⟨vb, 0, none⟩ 1 1 [v] rfl (fun j u hj => by rw [Addr.add_lit, Nat.zero_add, hv.cell]; exact hj) (fun x hx => by simp at hx; subst hx; exact hv1)
  have hold : (Builtin.firstCells i0.size n (.slice a n c)).run Try.prog w.drew = .ok xs.toArray w.drew := by
    rw [hzs]
    rcases R with ⟨rfl, rfl, rfl⟩ | ⟨g, sp, rfl, hc, hm, hl⟩
    · subst hn
      exact run_firstCells_none w.drew 1 0 0 0
    · exact run_firstCells_some w.drew 1 n ⟨g, 0, none⟩ n c xs (by omega) (fun j u hj => by rw [Addr.add_lit]; exact one_cell hl hj)
  have hr : (Builtin.append_ #[69, 69] 69 #[.slice a n c, .slice (some ⟨vb, 0, none⟩) 1 1]).run Try.prog w = _ :=
    run_append_grow_src w 69 69 69 36 i0 _ Try.underlying69 hi0 hz0 a n c xs hold _ 1 [v] hsrc hroom (by omega) (by rw [hzb]; exact growslice_fits hroom (by omega))
  have hE : Ins 36 a xs n v w (.returned (.slice (some ⟨w.heap.size, 0, none⟩) (n + 1) (grownCap w (n + 1) c 36))) (w.drew.alloc (.cells ((xs ++ [v]).toArray ++ Builtin.zeroCells (Value.slice none 0 0).cells (grownCap w (n + 1) c 36 - (n + 1))) 36)) := by
    subst hn
    exact Ins.end_ (by rw [size_zeroCells]; simp [Value.cells]) (grownCap_ge _ _ _ _) (cap_le (by omega))
  generalize grownCap w (n + 1) c 36 = G at hr hE
  have hform : a = none ∧ n = 0 ∧ c = 0 ∨ ∃ g, a = some ⟨g, 0, none⟩ := by
    rcases R with ⟨e, e2, e3⟩ | ⟨g, _, e, _⟩
    · subst e3; exact .inl ⟨e, hn, e2⟩
    · exact .inr ⟨g, e⟩
  have HE := Lib.hid hE
  have hle := R.le.1
  rw [← hn] at hle
  clear hE hsrc hold R hn hi0 hz0 hzs hzb
  generalize w.drew.alloc (.cells ((xs ++ [v]).toArray ++ Builtin.zeroCells (Value.slice none 0 0).cells (G - (n + 1))) 36) = W2 at hr HE
  rcases hform with ⟨rfl, rfl, rfl⟩ | ⟨g, rfl⟩
  · go_enter Try.func47, Try.ntmps47
    go_wp2_with (at_builtin; refine Lib.wpList_append_run _ rfl _ _ _ _ rfl _ _ rfl rfl _ _ hr ?_)
    go_ret
    exact HE.out
  · go_enter Try.func47, Try.ntmps47
    go_wp2_with (at_builtin; refine Lib.wpList_append_run _ rfl _ _ _ _ rfl _ _ rfl rfl _ _ hr ?_)
    all_goals
      go_ret
      exact HE.out

set_option maxHeartbeats 4000000 in
set_option maxRecDepth 100000 in
theorem ins_ss_grow (g n c i vb : Nat) (xs sp : List Value) (v : Value) (w : World) (hl : Lies w g 36 (xs ++ sp)) (hn : n = xs.length) (hc : c = n + sp.length) (hi : i < n) (hroom : c < n + 1) (hb : n ≤ 1000) (hv : Lies w vb 36 [v])
    (h1 : ∀ x ∈ xs, x.oneCell' = true) (hv1 : v.oneCell' = true) :
    Calls Try.prog 47 #[.slice (some ⟨g, 0, none⟩) n c, .int .i64 i, .slice (some ⟨vb, 0, none⟩) 1 1] w (Ins 36 (some ⟨g, 0, none⟩) xs i v w) := by
  obtain ⟨i0, hi0, hz0, hzs, hzb⟩ := info_parts Try.info36
  have hz2 : ¬ ((i : Int) = (n : Int)) := by omega
  have hz3 : (c : Int) < (n : Int) + 1 := by omega
  have hgw := hl.lt
  have hvw := hv.lt
  have hkk : (n : Int) + 1 - (i : Int) = ((n + 1 - i : Nat) : Int) := by omega
  have hik : i + (n + 1 - i) = n + 1 := by omega
  have hold : (Builtin.firstCells i0.size i (.slice (some ⟨g, 0, none⟩) i c)).run Try.prog w.drew = .ok (xs.take i).toArray w.drew := by
    rw [hzs]
    exact run_firstCells_some w.drew 1 i ⟨g, 0, none⟩ i c (xs.take i) (by rw [List.length_take]; omega) (fun j u hj => by
      rw [Addr.add_lit]
      rw [List.getElem?_take] at hj
      split at hj
      · exact one_cell hl hj
      · cases hj)
  have hrz : (Builtin.append_ #[69, 3] 69 #[.slice (some ⟨g, 0, none⟩) i c, .int .i64 ((n : Int) + 1 - (i : Int))]).run Try.prog w =
      .ok (.slice (some ⟨w.heap.size, 0, none⟩) (n + 1) (grownCap w (n + 1) c 36)) (w.drew.alloc (.cells ((xs.take i).toArray ++ Builtin.zeroCells (Value.slice none 0 0).cells (n + 1 - i) ++ Builtin.zeroCells (Value.slice none 0 0).cells (grownCap w (n + 1) c 36 - (n + 1))) 36)) := by
    have h := Lib.run_append_grow_zeros w 69 3 69 36 i0 _ .i64 .i64 Try.underlying69 Try.underlying3 hi0 hz0 (some ⟨g, 0, none⟩) i c (xs.take i) hold (n + 1 - i) (by omega) (by omega) (by omega) (by omega) (by rw [hzb]; omega) (by rw [hzb, hik]; exact growslice_fits hroom (by omega))
    rw [hik] at h
    rw [hkk]
    exact h
  have hGn : n + 1 ≤ grownCap w (n + 1) c 36 := grownCap_ge w _ _ _
  have hGm : grownCap w (n + 1) c 36 ≤ 9223372036854775807 := cap_le (by omega)
  have hE := Ins.grown (t := 36) (a := some ⟨g, 0, none⟩) (xs := xs) (i := i) (v := v) (w := w) (c := grownCap w (n + 1) c 36) (Z1 := Builtin.zeroCells (Value.slice none 0 0).cells (n + 1 - i)) (Z2 := Builtin.zeroCells (Value.slice none 0 0).cells (grownCap w (n + 1) c 36 - (n + 1)))
    (by omega) (by rw [size_zeroCells]; simp [Value.cells]; omega) (by rw [size_zeroCells]; simp [Value.cells]; omega) (by omega) hGm
  rw [← hn] at hE
  generalize grownCap w (n + 1) c 36 = G at *
  obtain ⟨ROW, hROW⟩ : ∃ ROW : Array Value, ROW = (xs.take i).toArray ++ Builtin.zeroCells (Value.slice none 0 0).cells (n + 1 - i) ++ Builtin.zeroCells (Value.slice none 0 0).cells (G - (n + 1)) := ⟨_, rfl⟩
  rw [← hROW] at hrz hE
  have hRl : ROW.toList.length = G := by
    rw [hROW]
    simp [Builtin.zeroCells, Value.cells]
    omega
  have hL1 : Lies (w.drew.alloc (.cells ROW 36)) w.heap.size 36 ROW.toList := lies_arr (heap_alloc_new w.drew _)
  have hS1 : Lies (w.drew.alloc (.cells ROW 36)) g 36 (xs ++ sp) := hl.drew.alloc _
  have hV1 : Lies (w.drew.alloc (.cells ROW 36)) vb 36 [v] := hv.drew.alloc _
  have hW : ((w.alloc (.cells ROW 36)).drew.setCells w.heap.size i [v]).drew.setCells w.heap.size (i + 1) (xs.drop i) = (((w.drew.alloc (.cells ROW 36)).setCells w.heap.size i [v]).drew).setCells w.heap.size (i + 1) (xs.drop i) := rfl
  rw [hW] at hE
  clear hW hROW
  generalize w.drew.alloc (.cells ROW 36) = W1 at *
  have hcpA : ∀ ty dc, (Builtin.copy_ #[69, 69] ty #[.slice (some ⟨w.heap.size, i, none⟩) (n + 1 - i) dc, .slice (some ⟨vb, 0, none⟩) 1 1]).run Try.prog W1 = .ok (goInt [v].length) (W1.setCells w.heap.size i [v]) := fun ty dc =>
    run_copy_cells W1 _ _ ty 36 w.heap.size i (n + 1 - i) dc ⟨vb, 0, none⟩ 1 1 [v] Try.underlying69 Try.one36 (by simp only [Nat.min_def, List.length_cons, List.length_nil]; split <;> omega)
      (fun j u hj => by rw [Addr.add_lit, Nat.zero_add, hV1.cell]; exact hj)
      (fun j hj => isSome_cell hL1 (by simp at hj; omega)) (fun j _ => hL1.frozen _) (fun x hx => by simp at hx; subst hx; exact hv1)
  have hL2 : Lies (W1.setCells w.heap.size i [v]).drew w.heap.size 36 (List.take i ROW.toList ++ [v] ++ List.drop (i + [v].length) ROW.toList) := (Lies.setCells [v] i _ _ hL1 (by simp at hRl ⊢; omega)).drew
  have hS2 : Lies (W1.setCells w.heap.size i [v]).drew g 36 (xs ++ sp) := (hS1.kept (setCells_kept w.heap.size [v] i W1) (by omega)).drew
  generalize W1.setCells w.heap.size i [v] = W2 at *
  have hdl : (xs.drop i).length = n - i := by rw [List.length_drop, hn]
  have hcpB : ∀ ty dc sc, (Builtin.copy_ #[69, 69] ty #[.slice (some ⟨w.heap.size, i + 1, none⟩) (n - i) dc, .slice (some ⟨g, i, none⟩) (n - i) sc]).run Try.prog W2.drew = .ok (goInt (xs.drop i).length) (W2.drew.setCells w.heap.size (i + 1) (xs.drop i)) := fun ty dc sc =>
    run_copy_cells W2.drew _ _ ty 36 w.heap.size (i + 1) (n - i) dc ⟨g, i, none⟩ (n - i) sc (xs.drop i) Try.underlying69 Try.one36 (by rw [hdl]; simp)
      (fun j u hj => by
        rw [Addr.add_lit, List.getElem?_drop] at *
        have := one_cell hS2 hj
        rw [Nat.zero_add] at this
        exact this)
      (fun j hj => isSome_cell hL2 (by simp at hRl ⊢; omega)) (fun j _ => hL2.frozen _) (fun x hx => h1 x (List.mem_of_mem_drop hx))
  generalize W2.drew.setCells w.heap.size (i + 1) (xs.drop i) = W3 at *
  have HE := Lib.hid hE
  have hw1 : IntKind.i64.wrap ((i : Int) + 1) = (i : Int) + 1 := by rw [IntKind.wrap_i64]; omega
  have hb1 : (0 : Int) ≤ (i : Int) + 1 := by omega
  have hin : i ≤ n := by omega
  have htn : ((i : Int) + 1).toNat = i + 1 := by omega
  have hb3 : (i : Int) ≤ (n : Int) := by omega
  have hGi : ¬ (G = i) := by omega
  have hGim : ¬ (G = i + 1) := by omega
  have hci : ¬ (c = i) := by omega
  have hnc : n ≤ c := by omega
  clear hE hL1 hL2 hS1 hS2 hV1 hold hkk hik hRl hdl hl hv hn hc h1 hv1 hi0 hz0 hzs hzb
  go_enter Try.func47, Try.ntmps47
  go_wp2_with (first
    | (at_builtin; refine Lib.wpList_append_run (o := ⟨some 40, _, _, _, _, _⟩) _ rfl _ _ _ _ rfl _ _ rfl rfl _ _ hrz ?_)
    | (refine wpList_copy_runI (o := ⟨some 45, _, _, _, _, _⟩) _ rfl _ _ 69 69 rfl _ _ rfl rfl (hcpA _ _) ?_))
  go_region_law (refine step_copy_runI (o := ⟨some 54, _, _, _, _, _⟩) rfl _ _ 69 69 rfl _ _ (by simp [Act.eval, Act.put]) (by simp [Act.eval, Act.put]) (hcpB _ _ _) ?_)
  go_wp2
  go_ret
  exact HE.out

theorem ins_ss (a : Option Addr) (c : Nat) (xs : List Value) (i : Nat) (v : Value) (vb : Nat) (w : World) (R : Row w 36 a c xs) (hi : i ≤ xs.length) (hv : Lies w vb 36 [v]) (hne : a ≠ some ⟨vb, 0, none⟩)
    (hb : xs.length ≤ 1000) (h1 : ∀ x ∈ xs, x.oneCell' = true) (hv1 : v.oneCell' = true) :
    Calls Try.prog 47 #[.slice a xs.length c, .int .i64 i, .slice (some ⟨vb, 0, none⟩) 1 1] w (Ins 36 a xs i v w) := by
  rcases Nat.lt_or_ge i xs.length with hlt | hge
  · rcases R with ⟨_, _, rfl⟩ | ⟨g, sp, rfl, rfl, hm, hl⟩
    · simp at hlt
    · rcases Nat.eq_zero_or_pos sp.length with h0 | hp
      · exact ins_ss_grow g xs.length _ i vb xs sp v w hl rfl rfl hlt (by omega) hb hv h1 hv1
      · refine (ins_ss_shift g xs.length _ i vb xs sp v w hl rfl rfl hlt hp hm hv (fun e => hne (by rw [e])) h1 hv1).mono ?_
        rintro e w' ⟨rfl, rfl⟩
        exact Ins.shift hl hi hp hm
  · obtain rfl : i = xs.length := by omega
    rcases Nat.lt_or_ge c (xs.length + 1) with hc | hc
    · exact ins_ss_end a xs.length c vb xs v w R rfl hc hb hv hv1
    · rcases R with ⟨_, rfl, rfl⟩ | ⟨g, sp, rfl, rfl, hm, hl⟩
      · simp at hc
      · refine (ins_ss_room g xs.length _ vb xs sp v w hl rfl rfl (by omega) hm hv hv1).mono ?_
        rintro e w' ⟨rfl, rfl⟩
        exact Ins.room hl (by omega) hm
end Go.Proofs.Ytkfjnojpgffchaa

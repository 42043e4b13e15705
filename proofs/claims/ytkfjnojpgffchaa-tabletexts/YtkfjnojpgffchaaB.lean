/- Contracts of slices.Insert at []int and []string, for one value: whatever the slice, the place, the room. -/
import Derived.Test.YtkfjnojpgffchaaA
namespace Go.Proofs.Ytkfjnojpgffchaa
open Go.ChangeShapes Go.WideShapes Go.ChangeAt Go.RowKit

/-- The world that slices.Insert leaves where it makes a new row inside of which v stands ahead of others. -/
theorem Ins.grown {t : TypeId} {a : Option Addr} {xs : List Value} {i : Nat} {v : Value} {w : World} {c : Nat} {Z1 Z2 : Array Value} (hi : i ≤ xs.length) (h1 : Z1.size = xs.length + 1 - i) (h2 : Z2.size = c - (xs.length + 1)) (hc : xs.length + 1 ≤ c) (hm : c ≤ 9223372036854775807) :
    Ins t a xs i v w (.returned (.slice (some ⟨w.heap.size, 0, none⟩) (xs.length + 1) c))
      ((((w.alloc (.cells ((xs.take i).toArray ++ Z1 ++ Z2) t)).drew.setCells w.heap.size i [v]).drew).setCells w.heap.size (i + 1) (xs.drop i)) := by
  have e0 : ((xs.take i).toArray ++ Z1 ++ Z2) = (xs.take i ++ (Z1.toList ++ Z2.toList)).toArray := by
    apply Array.ext'
    simp
  rw [e0]
  have l0 := (Lies.new w t (xs.take i ++ (Z1.toList ++ Z2.toList))).drew
  have l1 := (Lies.setCells [v] i _ _ l0 (by simp; omega)).drew
  have l2 := Lies.setCells (xs.drop i) (i + 1) _ _ l1 (by simp; omega)
  refine Ins.grow hi (sp := Z2.toList) (l2.to ?_) (Nat.le_refl _) (by simp; omega) hm ?_
  · have hz1 : Z1.toList.length = xs.length + 1 - i := by simpa using h1
    have ht : (xs.take i).length = i := by simp; omega
    have a1 : List.take i (xs.take i ++ (Z1.toList ++ Z2.toList)) = xs.take i := by
      rw [List.take_append_of_le_length (by omega), List.take_take, Nat.min_self]
    have a2 : List.drop (i + [v].length) (xs.take i ++ (Z1.toList ++ Z2.toList)) = Z1.toList.drop 1 ++ Z2.toList := by
      have : i + [v].length = (xs.take i).length + 1 := by rw [ht]; rfl
      rw [this, List.drop_append, List.drop_of_length_le (by omega)]
      simp only [List.nil_append, show (xs.take i).length + 1 - (xs.take i).length = 1 by omega]
      rw [List.drop_append_of_le_length (by omega)]
    rw [a1, a2]
    have b0 : (xs.take i ++ [v]).length = i + 1 := by rw [List.length_append, ht]; rfl
    have b1 : List.take (i + 1) (xs.take i ++ [v] ++ (Z1.toList.drop 1 ++ Z2.toList)) = xs.take i ++ [v] := by
      rw [List.take_append_of_le_length (by omega), List.take_of_length_le (by omega)]
    have b2 : List.drop (i + 1 + (xs.drop i).length) (xs.take i ++ [v] ++ (Z1.toList.drop 1 ++ Z2.toList)) = Z2.toList := by
      have hl : (xs.take i ++ [v] ++ Z1.toList.drop 1).length = i + 1 + (xs.drop i).length := by
        rw [List.length_append, b0, List.length_drop, hz1, List.length_drop]; omega
      rw [← List.append_assoc, ← hl, List.drop_left]
    rw [b1, b2]
    simp
  · refine Kept.mono (X := fun k => k = w.heap.size) ?_ (fun k hk e => by omega)
    exact ((((Kept.refl _ w).alloc _).drew.trans (setCells_kept w.heap.size [v] i _) (fun _ _ h => h)).drew).trans (setCells_kept w.heap.size (xs.drop i) (i + 1) _) (fun _ _ h => h)

theorem Ins.end_ {t : TypeId} {a : Option Addr} {xs : List Value} {v : Value} {w : World} {c : Nat} {Z2 : Array Value} (h2 : Z2.size = c - (xs.length + 1)) (hc : xs.length + 1 ≤ c) (hm : c ≤ 9223372036854775807) :
    Ins t a xs xs.length v w (.returned (.slice (some ⟨w.heap.size, 0, none⟩) (xs.length + 1) c)) (w.drew.alloc (.cells ((xs ++ [v]).toArray ++ Z2) t)) := by
  have e0 : ((xs ++ [v]).toArray ++ Z2) = ((xs ++ [v]) ++ Z2.toList).toArray := by
    apply Array.ext'
    simp
  rw [e0]
  refine Ins.grow (Nat.le_refl _) (sp := Z2.toList) ?_ (Nat.le_refl _) (by simp; omega) hm (((Kept.refl _ w).drew).alloc _)
  have l0 := Lies.new w.drew t ((xs ++ [v]) ++ Z2.toList)
  refine l0.to ?_
  simp

theorem cap_le {w : World} {n c : Nat} {t : TypeId} (h : n ≤ 9223372036854775807) : grownCap w n c t ≤ 9223372036854775807 := by
  have := grownCap_le_maxLen w n c t (by unfold maxLen; omega)
  unfold maxLen at this
  omega

theorem one_cell {w : World} {g : Nat} {t : TypeId} {xs sp : List Value} (h : Lies w g t (xs ++ sp)) {j : Nat} {v : Value} (hj : xs[j]? = some v) : w.cell? ⟨g, 0 + j, none⟩ = some v := by
  rw [Nat.zero_add, h.cell, List.getElem?_append_left (List.getElem?_eq_some_iff.1 hj).1]
  exact hj

theorem ins_int (a : Option Addr) (c : Nat) (xs : List Value) (i : Nat) (v : Value) (vb : Nat) (w : World) (R : Row w 3 a c xs) (hi : i ≤ xs.length) (hv : Lies w vb 3 [v]) (hne : a ≠ some ⟨vb, 0, none⟩)
    (hbig : (xs.length + 1) * 8 ≤ 140737488355328) (h1 : ∀ x ∈ xs, x.oneCell' = true) (hv1 : v.oneCell' = true) :
    Calls Try.prog 38 #[.slice a xs.length c, .int .i64 i, .slice (some ⟨vb, 0, none⟩) 1 1] w (Ins 3 a xs i v w) := by
  have hvs : ∀ j u, [v][j]? = some u → w.cell? ⟨vb, 0 + j, none⟩ = some u := fun j u hj => by rw [Nat.zero_add, hv.cell]; exact hj
  have h1v : ∀ u ∈ [v], u.oneCell' = true := fun u hu => by simp at hu; subst hu; exact hv1
  have hcap := R.le
  rcases Nat.lt_or_ge i xs.length with hlt | hge
  · rcases R with ⟨_, _, rfl⟩ | ⟨g, sp, rfl, rfl, hm, hl⟩
    · simp at hlt
    · have hvg : vb ≠ g := fun e => hne (by rw [e])
      rcases Nat.eq_zero_or_pos sp.length with h0 | hp
      · refine (Any2.slices_Insert_int_grow Try.laysNm221 g 0 xs.length (xs.length + sp.length) i vb 0 1 1 xs [v] w hlt (by omega) (by omega) (by omega) hbig rfl rfl (fun j u hj => one_cell hl hj) hvs h1 h1v).mono ?_
        rintro e w' ⟨rfl, rfl⟩
        exact Ins.grown hi (by rw [size_zeroCells]; simp [Value.cells]) (by rw [size_zeroCells]; simp [Value.cells]) (grownCap_ge _ _ _ _) (cap_le (by omega))
      · refine (Any2.slices_Insert_int_shift Try.laysNm221 g 0 xs.length (xs.length + sp.length) i vb 0 1 1 xs [v] w hlt (by omega) (by omega) hm hvg rfl rfl (fun j u hj => one_cell hl hj)
          (fun j hj => by rw [Nat.zero_add, hl.cell, List.getElem?_eq_getElem (by simp; omega)]; rfl) (fun j _ => hl.frozen _) hvs h1 h1v 3 3 _ _ hv.shape hl.shape (by rw [List.length_append]; omega) (hv.frozen _) (hv.frozen _)).mono ?_
        rintro e w' ⟨rfl, rfl⟩
        simp only [Nat.zero_add]
        exact Ins.shift hl hi hp hm
  · obtain rfl : i = xs.length := by omega
    rcases Nat.lt_or_ge c (xs.length + 1) with hc | hc
    · refine (Any2.slices_Insert_int_end_grow Try.laysNm221 a xs.length c vb 0 1 1 xs [v] w (by omega) hcap.1 hc hbig rfl rfl ?_ ?_ hvs h1v).mono ?_
      · intro e; subst e
        rcases R with ⟨_, _, rfl⟩ | ⟨g, sp, h, _⟩
        · rfl
        · cases h
      · intro ad e j u hj
        subst e
        rcases R with ⟨h, _⟩ | ⟨g, sp, h, _, _, hl⟩
        · cases h
        · injection h with h; subst h
          rw [Addr.add_lit]
          exact one_cell hl hj
      · rintro e w' ⟨rfl, rfl⟩
        exact Ins.end_ (by rw [size_zeroCells]; simp [Value.cells]) (grownCap_ge _ _ _ _) (cap_le (by omega))
    · rcases R with ⟨_, rfl, rfl⟩ | ⟨g, sp, rfl, rfl, hm, hl⟩
      · simp at hc
      · refine (Any2.slices_Insert_int_end_room Try.laysNm221 g 0 xs.length (xs.length + sp.length) vb 0 1 1 [v] w (by omega) hc hm rfl ?_ (fun j _ => hl.frozen _) hvs h1v).mono ?_
        · intro j hj
          rw [hl.cell, List.getElem?_eq_getElem (by simp; omega)]; rfl
        · rintro e w' ⟨rfl, rfl⟩
          simp only [Nat.zero_add]
          exact Ins.room hl (by omega) hm

theorem ins_str (a : Option Addr) (c : Nat) (xs : List Value) (i : Nat) (v : Value) (vb : Nat) (w : World) (R : Row w 9 a c xs) (hi : i ≤ xs.length) (hv : Lies w vb 9 [v]) (hne : a ≠ some ⟨vb, 0, none⟩)
    (hbig : (xs.length + 1) * 16 ≤ 140737488355328) (h1 : ∀ x ∈ xs, x.oneCell' = true) (hv1 : v.oneCell' = true) :
    Calls Try.prog 46 #[.slice a xs.length c, .int .i64 i, .slice (some ⟨vb, 0, none⟩) 1 1] w (Ins 9 a xs i v w) := by
  have hvs : ∀ j u, [v][j]? = some u → w.cell? ⟨vb, 0 + j, none⟩ = some u := fun j u hj => by rw [Nat.zero_add, hv.cell]; exact hj
  have h1v : ∀ u ∈ [v], u.oneCell' = true := fun u hu => by simp at hu; subst hu; exact hv1
  have hcap := R.le
  rcases Nat.lt_or_ge i xs.length with hlt | hge
  · rcases R with ⟨_, _, rfl⟩ | ⟨g, sp, rfl, rfl, hm, hl⟩
    · simp at hlt
    · have hvg : vb ≠ g := fun e => hne (by rw [e])
      rcases Nat.eq_zero_or_pos sp.length with h0 | hp
      · refine (Any2.slices_Insert_string_grow Try.laysNm222 g 0 xs.length (xs.length + sp.length) i vb 0 1 1 xs [v] w hlt (by omega) (by omega) (by omega) hbig rfl rfl (fun j u hj => one_cell hl hj) hvs h1 h1v).mono ?_
        rintro e w' ⟨rfl, rfl⟩
        exact Ins.grown hi (by rw [size_zeroCells]; simp [Value.cells]) (by rw [size_zeroCells]; simp [Value.cells]) (grownCap_ge _ _ _ _) (cap_le (by omega))
      · refine (Any2.slices_Insert_string_shift Try.laysNm222 g 0 xs.length (xs.length + sp.length) i vb 0 1 1 xs [v] w hlt (by omega) (by omega) hm hvg rfl rfl (fun j u hj => one_cell hl hj)
          (fun j hj => by rw [Nat.zero_add, hl.cell, List.getElem?_eq_getElem (by simp; omega)]; rfl) (fun j _ => hl.frozen _) hvs h1 h1v 9 9 _ _ hv.shape hl.shape (by rw [List.length_append]; omega) (hv.frozen _) (hv.frozen _)).mono ?_
        rintro e w' ⟨rfl, rfl⟩
        simp only [Nat.zero_add]
        exact Ins.shift hl hi hp hm
  · obtain rfl : i = xs.length := by omega
    rcases Nat.lt_or_ge c (xs.length + 1) with hc | hc
    · refine (Any2.slices_Insert_string_end_grow Try.laysNm222 a xs.length c vb 0 1 1 xs [v] w (by omega) hcap.1 hc hbig rfl rfl ?_ ?_ hvs h1v).mono ?_
      · intro e; subst e
        rcases R with ⟨_, _, rfl⟩ | ⟨g, sp, h, _⟩
        · rfl
        · cases h
      · intro ad e j u hj
        subst e
        rcases R with ⟨h, _⟩ | ⟨g, sp, h, _, _, hl⟩
        · cases h
        · injection h with h; subst h
          rw [Addr.add_lit]
          exact one_cell hl hj
      · rintro e w' ⟨rfl, rfl⟩
        exact Ins.end_ (by rw [size_zeroCells]; simp [Value.cells]) (grownCap_ge _ _ _ _) (cap_le (by omega))
    · rcases R with ⟨_, rfl, rfl⟩ | ⟨g, sp, rfl, rfl, hm, hl⟩
      · simp at hc
      · refine (Any2.slices_Insert_string_end_room Try.laysNm222 g 0 xs.length (xs.length + sp.length) vb 0 1 1 [v] w (by omega) hc hm rfl ?_ (fun j _ => hl.frozen _) hvs h1v).mono ?_
        · intro j hj
          rw [hl.cell, List.getElem?_eq_getElem (by simp; omega)]; rfl
        · rintro e w' ⟨rfl, rfl⟩
          simp only [Nat.zero_add]
          exact Ins.room hl (by omega) hm

end Go.Proofs.Ytkfjnojpgffchaa

import Derived.Shelf.SlSortCmp.Whole1
import Derived.Test.YtmefmnpmppdpmabDoorProg
import Derived.Shelf.SlSortCmp.WholeK
import Derived.Shelf.Small.Bits
import Derived.Test.YtmefmnpmppdpmabDoorCd
/- The kit's contracts of the sort at structs and of bits.Len, laid at this seat (lay-plain.mjs; the numbers are this seat's own). -/

/-! The kit's contract of slices.SortFunc, laid at this seat (lay-plain.mjs; the numbers are this seat's own). -/
namespace Go.Proofs
open Go.Shelf
end Go.Proofs

/-! The kit's contracts of the sort at structs and of bits.Len, laid at items. -/
namespace Go.Proofs
open Go.Shelf
def Tryd.pdqItem_ren : Go.Shelf.Ren := ⟨fun | 14 => 66 | 20 => 69 | 21 => 70 | 22 => 71 | 23 => 72 | 24 => 73 | 25 => 74 | 26 => 75 | 27 => 76 | 46 => 77 | 47 => 78 | 48 => 79 | 49 => 80 | 50 => 81 | 15 => 48 | 57 => 82 | 28 => 59 | 29 => 60 | n => n, fun | 24 => 65 | 22 => 48 | 3 => 3 | 25 => 97 | 4 => 4 | 0 => 0 | 46 => 112 | 45 => 111 | 50 => 83 | 66 => 119 | 39 => 78 | 55 => 85 | 70 => 123 | 76 => 125 | 77 => 126 | 53 => 104 | 5 => 5 | 9 => 9 | n => n, fun | n => n⟩
theorem Tryd.pdqItem : Go.Proofs.SlLaysF0.n14 Tryd.prog Tryd.pdqItem_ren := {
  mixed := by kernel_rfl
  f14 := ⟨Tryd.f66.name, by decide, Tryd.func66.trans (congrArg some (by kernel_rfl))⟩
  f15 := Tryd.func48.trans (congrArg some (by kernel_rfl))
  f20 := ⟨Tryd.f69.name, by decide, Tryd.func69.trans (congrArg some (by kernel_rfl))⟩
  f21 := ⟨Tryd.f70.name, by decide, Tryd.func70.trans (congrArg some (by kernel_rfl))⟩
  f22 := ⟨Tryd.f71.name, by decide, Tryd.func71.trans (congrArg some (by kernel_rfl))⟩
  f23 := ⟨Tryd.f72.name, by decide, Tryd.func72.trans (congrArg some (by kernel_rfl))⟩
  f24 := ⟨Tryd.f73.name, by decide, Tryd.func73.trans (congrArg some (by kernel_rfl))⟩
  f25 := ⟨Tryd.f74.name, by decide, Tryd.func74.trans (congrArg some (by kernel_rfl))⟩
  f26 := ⟨Tryd.f75.name, by decide, Tryd.func75.trans (congrArg some (by kernel_rfl))⟩
  f27 := ⟨Tryd.f76.name, by decide, Tryd.func76.trans (congrArg some (by kernel_rfl))⟩
  f28 := Tryd.func59.trans (congrArg some (by kernel_rfl))
  f29 := Tryd.func60.trans (congrArg some (by kernel_rfl))
  f46 := ⟨Tryd.f77.name, by decide, Tryd.func77.trans (congrArg some (by kernel_rfl))⟩
  f47 := Tryd.func78.trans (congrArg some (by kernel_rfl))
  f48 := Tryd.func79.trans (congrArg some (by kernel_rfl))
  f49 := ⟨Tryd.f80.name, by decide, Tryd.func80.trans (congrArg some (by kernel_rfl))⟩
  f50 := ⟨Tryd.f81.name, by decide, Tryd.func81.trans (congrArg some (by kernel_rfl))⟩
  f57 := ⟨Tryd.f82.name, by decide, Tryd.func82.trans (congrArg some (by kernel_rfl))⟩
  t0 := Tryd.underlying0
  a0 := Tryd.isAgg0
  z0 := Tryd.sizeOf0
  v0 := Tryd.zeroValue0
  t3 := Tryd.underlying3
  a3 := Tryd.isAgg3
  z3 := Tryd.sizeOf3
  v3 := Tryd.zeroValue3
  t4 := Tryd.underlying4
  a4 := Tryd.isAgg4
  z4 := Tryd.sizeOf4
  v4 := Tryd.zeroValue4
  t5 := Tryd.underlying5
  a5 := Tryd.isAgg5
  z5 := Tryd.sizeOf5
  v5 := Tryd.zeroValue5
  t9 := Tryd.underlying9
  a9 := Tryd.isAgg9
  z9 := Tryd.sizeOf9
  v9 := Tryd.zeroValue9
  t22 := Tryd.underlying48
  a22 := Tryd.isAgg48
  z22 := Tryd.sizeOf48
  v22 := Tryd.zeroValue48
  t25 := Tryd.underlying97
  a25 := Tryd.isAgg97
  z25 := Tryd.sizeOf97
  v25 := Tryd.zeroValue97
  t39 := Tryd.underlying78
  a39 := Tryd.isAgg78
  z39 := Tryd.sizeOf78
  v39 := Tryd.zeroValue78
  t45 := Tryd.underlying111
  a45 := Tryd.isAgg111
  z45 := Tryd.sizeOf111
  v45 := Tryd.zeroValue111
  t46 := Tryd.underlying112
  a46 := Tryd.isAgg112
  z46 := Tryd.sizeOf112
  v46 := Tryd.zeroValue112
  t50 := Tryd.underlying83
  a50 := Tryd.isAgg83
  z50 := Tryd.sizeOf83
  v50 := Tryd.zeroValue83
  t53 := Tryd.underlying104
  a53 := Tryd.isAgg104
  z53 := Tryd.sizeOf104
  v53 := Tryd.zeroValue104
  t55 := Tryd.underlying85
  a55 := Tryd.isAgg85
  z55 := Tryd.sizeOf85
  v55 := Tryd.zeroValue85
  t66 := Tryd.underlying119
  a66 := Tryd.isAgg119
  z66 := Tryd.sizeOf119
  v66 := Tryd.zeroValue119
  t70 := Tryd.underlying123
  a70 := Tryd.isAgg123
  z70 := Tryd.sizeOf123
  v70 := Tryd.zeroValue123
  t76 := Tryd.underlying125
  a76 := Tryd.isAgg125
  z76 := Tryd.sizeOf125
  v76 := Tryd.zeroValue125
  t77 := Tryd.underlying126
  a77 := Tryd.isAgg126
  z77 := Tryd.sizeOf126
  v77 := Tryd.zeroValue126 }
end Go.Proofs

/-! The kit's contracts of the sort at structs and of bits.Len, laid at this seat (lay-plain.mjs; the numbers are this seat's own). -/
namespace Go.Proofs
open Go.Shelf
def Tryd.lays125_ren : Go.Shelf.Ren := ⟨fun | 125 => 48 | 128 => 59 | 129 => 60 | n => n, fun | 46 => 78 | 3 => 3 | 51 => 104 | 53 => 85 | 4 => 4 | 5 => 5 | 9 => 9 | n => n, fun | n => n⟩
theorem Tryd.lays125 : Go.Proofs.Lays.n125 Tryd.prog Tryd.lays125_ren := {
  mixed := by kernel_rfl
  f125 := Tryd.func48.trans (congrArg some (by kernel_rfl))
  f128 := Tryd.func59.trans (congrArg some (by kernel_rfl))
  f129 := Tryd.func60.trans (congrArg some (by kernel_rfl))
  t3 := Tryd.underlying3
  a3 := Tryd.isAgg3
  z3 := Tryd.sizeOf3
  v3 := Tryd.zeroValue3
  t4 := Tryd.underlying4
  a4 := Tryd.isAgg4
  z4 := Tryd.sizeOf4
  v4 := Tryd.zeroValue4
  t5 := Tryd.underlying5
  a5 := Tryd.isAgg5
  z5 := Tryd.sizeOf5
  v5 := Tryd.zeroValue5
  t9 := Tryd.underlying9
  a9 := Tryd.isAgg9
  z9 := Tryd.sizeOf9
  v9 := Tryd.zeroValue9
  t46 := Tryd.underlying78
  a46 := Tryd.isAgg78
  z46 := Tryd.sizeOf78
  v46 := Tryd.zeroValue78
  t51 := Tryd.underlying104
  a51 := Tryd.isAgg104
  z51 := Tryd.sizeOf104
  v51 := Tryd.zeroValue104
  t53 := Tryd.underlying85
  a53 := Tryd.isAgg85
  z53 := Tryd.sizeOf85
  v53 := Tryd.zeroValue85 }
end Go.Proofs
/- Sorting rows of bags and rows of linear sets, however long: what the kit's contract of slices.SortFunc asks and gives, in this seat's words. -/
namespace Go.Proofs.YtmefmnpmppdpmabDoor
open Go.ChangeShapes Go.WideShapes Go.ChangeAt Go.RowKit

theorem grew {w w' : World} (h : Z.Below w.heap.size w w') : ∃ q os', w' = Sort.grow (w.drewN q) os' := by
  refine ⟨w'.drawn - w.drawn, w'.heap.extract w.heap.size w'.heap.size, ?_⟩
  obtain ⟨⟨h1, h2, h3, h4, h5⟩, h6⟩ := h
  have hd : w'.drawn = w.drawn + (w'.drawn - w.drawn) := by omega
  have hh : w'.heap = w.heap ++ w'.heap.extract w.heap.size w'.heap.size := by
    apply Array.ext_getElem?
    intro k
    by_cases hk : k < w.heap.size
    · rw [h5 k hk, Array.getElem?_append_left hk]
    · rw [Array.getElem?_append_right (by omega), Array.getElem?_extract]
      by_cases hk2 : k < w'.heap.size
      · rw [if_pos (by omega)]
        congr 1
        omega
      · rw [if_neg (by omega), Array.getElem?_eq_none (by omega)]
  cases w
  cases w'
  simp only [Sort.grow, World.drewN] at *
  subst h1 h2 h3
  rw [← hd, ← hh]
/-- What a sort leaves as it was: all but the row's own block. -/
theorem kept_sort {α : Type} [Inhabited α] (enc : α → Value) (w : World) (blk off m : Nat) (dk : Array α) (os : Array Obj) :
    Kept (fun g => (some ⟨blk, 0, none⟩ : Option Addr) = some ⟨g, 0, none⟩) w (sortWorld enc w blk off m dk os) := by
  refine ⟨rfl, rfl, rfl, ?_, ?_⟩
  · show w.heap.size ≤ (Sort.grow _ os).heap.size
    rw [Sort.size_grow, Sort.size_putRow]
    exact Nat.le_add_right _ _
  · intro k hk hx
    have hne : blk ≠ k := fun e => hx (by rw [e])
    show (Sort.grow _ os).heap[k]? = _
    rw [Sort.heap_grow_old _ _ (by rw [Sort.size_putRow]; exact hk)]
    show (w.heap.modify blk _)[k]? = _
    rw [Array.getElem?_modify, if_neg hne]
theorem putCells_row {α : Type} [Inhabited α] (enc : α → Value) (d : Array α) (xs sp : List Value) (h : xs.length = d.size) :
    Sort.putCells enc 0 d (xs ++ sp).toArray = (d.toList.map enc ++ sp).toArray := by
  apply Array.ext_getElem?
  intro k
  simp only [Sort.putCells, Array.getElem?_mapIdx, List.getElem?_toArray, List.getElem?_append, List.length_map, Array.length_toList, h]
  by_cases hk : k < d.size
  · have hk' : k < xs.length := by omega
    simp [hk, hk']
  · simp only [hk, if_false]
    cases sp[k - d.size]? with
    | none => rfl
    | some u => simp [hk]
theorem lies_sort {α : Type} [Inhabited α] (enc : α → Value) {w : World} {blk : Nat} {t : TypeId} {xs sp : List Value} (l : Lies w blk t (xs ++ sp)) (m : Nat) (d : Array α) (os : Array Obj) (h : xs.length = d.size) :
    Lies (sortWorld enc w blk 0 m d os) blk t (d.toList.map enc ++ sp) := by
  show (Sort.grow _ os).heap[blk]? = _
  rw [Sort.heap_grow_old _ _ (by rw [Sort.size_putRow]; exact l.lt)]
  show (w.heap.modify blk _)[blk]? = _
  rw [Array.getElem?_modify, if_pos rfl]
  unfold Lies at l
  rw [l]
  show some (Obj.cells (Sort.putCells enc 0 d (xs ++ sp).toArray) t (0, 0)) = _
  rw [putCells_row enc d xs sp h]
theorem holds_row {α : Type} [Inhabited α] (enc : α → Value) {w : World} {blk : Nat} {t : TypeId} {sp : List Value} (d : Array α) (l : Lies w blk t (d.toList.map enc ++ sp)) : Sort.Holds enc w blk 0 d := by
  intro j hj
  rw [Nat.zero_add]
  refine ⟨?_, l.frozen j⟩
  rw [l.cell, List.getElem?_append_left (by simpa using hj)]
  simp [hj]
theorem perm_all {α : Type} [Inhabited α] {d d' : Array α} (h : Sort.PermIn 0 d.size d d') : d'.toList.Perm d.toList := by
  obtain ⟨h1, _, h3⟩ := h
  have e1 : d'.extract 0 d.size = d' := by rw [← h1]; exact Array.extract_size
  have e2 : d.extract 0 d.size = d := Array.extract_size
  rw [e1, e2] at h3
  exact h3

section bags
/-- A bag in memory that is right. -/
structure Rb (w : World) where
  p : Bg
  bag : Bag w p.a p.c p.xs
  right : rightL p.xs = true
instance (w : World) : Inhabited (Rb w) := ⟨⟨bg0, Bag.nil w, right_nil⟩⟩
end bags
end Go.Proofs.YtmefmnpmppdpmabDoor

/-! slices.SortFunc at bags, however many, by bag.Compare. -/
namespace Go.Proofs.YtmefmnpmppdpmabDoor
open Go.ChangeShapes Go.WideShapes Go.ChangeAt Go.RowKit

/-- Some number, nothing turned. -/
def AnyI (w : World) (e : Ending) (w' : World) : Prop := ∃ v : Int, e = .returned (.int .i64 v) ∧ w = w'
set_option maxRecDepth 100000 in
theorem len64_any (w : World) : Calls Tryd.prog 60 #[.int .u64 0] w (AnyI w) := by
  go_enter Tryd.func60, Tryd.ntmps60
  go_wp2
  go_ret
  exact ⟨_, rfl, rfl⟩
set_option maxRecDepth 100000 in
theorem len_any (w : World) : Calls Tryd.prog 48 #[.int .u64 0] w (AnyI w) := by
  have HZ := Lib.hid (len64_any w)
  go_enter Tryd.func48, Tryd.ntmps48
  go_wp2_with (fail)
  refine HZ.out.mono ?_
  rintro e w' ⟨v, rfl, rfl⟩
  go_wp2
  go_ret
  exact ⟨_, rfl, rfl⟩
/-- Nothing done. -/
def Done (w : World) (e : Ending) (w' : World) : Prop := e = .returned (.tuple #[]) ∧ w = w'
end Go.Proofs.YtmefmnpmppdpmabDoor

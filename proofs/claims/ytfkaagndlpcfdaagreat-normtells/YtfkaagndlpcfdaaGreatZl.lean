/- Sorting rows of bags and rows of linear sets, however long: what the kit's contract of slices.SortFunc asks and gives, in this seat's words. -/
import Derived.Test.YtfkaagndlpcfdaaGreatCd
import Derived.Test.YtfkaagndlpcfdaaGreatSort
namespace Go.Proofs.YtfkaagndlpcfdaaGreat
open Go.ChangeShapes Go.WideShapes Go.ChangeAt Go.RowKit

theorem grew {w w' : World} (h : Z.Below w.heap.size w w') : ∃ q os', w' = Sort.grow (w.drewN q) os' := by
  refine ⟨w'.drawn - w.drawn, w'.heap.extract w.heap.size w'.heap.size, ?_⟩
  obtain ⟨⟨h1, h2, h3, h4, h5⟩, h6⟩ := h
  have hd : w'.drawn = w.drawn + (w'.drawn - w.drawn) := by omega
  have hh : w'.heap = w.heap ++ w'.heap.extract w.heap.size w'.heap.size := by
    apply Array.ext_getElem?
    intro k
    by_cases hk : k < w.heap.size
    · rw [h5 k hk, Array.getElem?_append_left hk]
    · rw [Array.getElem?_append_right (by omega), Array.getElem?_extract]
      by_cases hk2 : k < w'.heap.size
      · rw [if_pos (by omega)]
        congr 1
        omega
      · rw [if_neg (by omega), Array.getElem?_eq_none (by omega)]
  cases w
  cases w'
  simp only [Sort.grow, World.drewN] at *
  subst h1 h2 h3
  rw [← hd, ← hh]
/-- What a sort leaves as it was: all but the row's own block. -/
theorem kept_sort {α : Type} [Inhabited α] (enc : α → Value) (w : World) (blk off m : Nat) (dk : Array α) (os : Array Obj) :
    Kept (fun g => (some ⟨blk, 0, none⟩ : Option Addr) = some ⟨g, 0, none⟩) w (sortWorld enc w blk off m dk os) := by
  refine ⟨rfl, rfl, rfl, ?_, ?_⟩
  · show w.heap.size ≤ (Sort.grow _ os).heap.size
    rw [Sort.size_grow, Sort.size_putRow]
    exact Nat.le_add_right _ _
  · intro k hk hx
    have hne : blk ≠ k := fun e => hx (by rw [e])
    show (Sort.grow _ os).heap[k]? = _
    rw [Sort.heap_grow_old _ _ (by rw [Sort.size_putRow]; exact hk)]
    show (w.heap.modify blk _)[k]? = _
    rw [Array.getElem?_modify, if_neg hne]
theorem putCells_row {α : Type} [Inhabited α] (enc : α → Value) (d : Array α) (xs sp : List Value) (h : xs.length = d.size) :
    Sort.putCells enc 0 d (xs ++ sp).toArray = (d.toList.map enc ++ sp).toArray := by
  apply Array.ext_getElem?
  intro k
  simp only [Sort.putCells, Array.getElem?_mapIdx, List.getElem?_toArray, List.getElem?_append, List.length_map, Array.length_toList, h]
  by_cases hk : k < d.size
  · have hk' : k < xs.length := by omega
    simp [hk, hk']
  · simp only [hk, if_false]
    cases sp[k - d.size]? with
    | none => rfl
    | some u => simp [hk]
theorem lies_sort {α : Type} [Inhabited α] (enc : α → Value) {w : World} {blk : Nat} {t : TypeId} {xs sp : List Value} (l : Lies w blk t (xs ++ sp)) (m : Nat) (d : Array α) (os : Array Obj) (h : xs.length = d.size) :
    Lies (sortWorld enc w blk 0 m d os) blk t (d.toList.map enc ++ sp) := by
  show (Sort.grow _ os).heap[blk]? = _
  rw [Sort.heap_grow_old _ _ (by rw [Sort.size_putRow]; exact l.lt)]
  show (w.heap.modify blk _)[blk]? = _
  rw [Array.getElem?_modify, if_pos rfl]
  unfold Lies at l
  rw [l]
  show some (Obj.cells (Sort.putCells enc 0 d (xs ++ sp).toArray) t (0, 0)) = _
  rw [putCells_row enc d xs sp h]
theorem holds_row {α : Type} [Inhabited α] (enc : α → Value) {w : World} {blk : Nat} {t : TypeId} {sp : List Value} (d : Array α) (l : Lies w blk t (d.toList.map enc ++ sp)) : Sort.Holds enc w blk 0 d := by
  intro j hj
  rw [Nat.zero_add]
  refine ⟨?_, l.frozen j⟩
  rw [l.cell, List.getElem?_append_left (by simpa using hj)]
  simp [hj]
theorem perm_all {α : Type} [Inhabited α] {d d' : Array α} (h : Sort.PermIn 0 d.size d d') : d'.toList.Perm d.toList := by
  obtain ⟨h1, _, h3⟩ := h
  have e1 : d'.extract 0 d.size = d' := by rw [← h1]; exact Array.extract_size
  have e2 : d.extract 0 d.size = d := Array.extract_size
  rw [e1, e2] at h3
  exact h3

section bags
/-- A bag in memory that is right. -/
structure Rb (w : World) where
  p : Bg
  bag : Bag w p.a p.c p.xs
  right : rightL p.xs = true
instance (w : World) : Inhabited (Rb w) := ⟨⟨bg0, Bag.nil w, right_nil⟩⟩
def rbEnc (w : World) (p : Rb w) : Value := p.p.val
def rbCmp (w : World) (p q : Rb w) : Int := cmpL p.p.xs q.p.xs
theorem rb_lt {w : World} {x y : Rb w} : ltOf (rbCmp w) x y = true ↔ cmpL x.p.xs y.p.xs < 0 := by
  unfold ltOf rbCmp
  exact decide_eq_true_iff
theorem rb_nlt {w : World} {x y : Rb w} : ltOf (rbCmp w) x y = false ↔ ¬ cmpL x.p.xs y.p.xs < 0 := by
  unfold ltOf rbCmp
  exact decide_eq_false_iff_not
theorem rb_swo (w : World) : Sort.SWO (ltOf (rbCmp w)) where
  irrefl x := rb_nlt.2 (by rw [cmp_self x.right]; omega)
  trans x y z h1 h2 := rb_lt.2 (cmp_lt_trans x.right y.right z.right (rb_lt.1 h1) (rb_lt.1 h2))
  ntrans x y z h1 h2 := by
    have h1 := rb_nlt.1 h1
    have h2 := rb_nlt.1 h2
    have a := cmp_neg x.right y.right
    have b := cmp_neg y.right z.right
    have c := cmp_neg x.right z.right
    have := cmp_trans z.right y.right x.right (by omega) (by omega)
    exact rb_nlt.2 (by omega)
def rbs (w : World) (ps : List Bg) (h : ∀ p ∈ ps, Bag w p.a p.c p.xs ∧ rightL p.xs = true) : List (Rb w) := ps.pmap (fun p h => ⟨p, h.1, h.2⟩) h
theorem rbs_map (w : World) (ps : List Bg) (h : ∀ p ∈ ps, Bag w p.a p.c p.xs ∧ rightL p.xs = true) : (rbs w ps h).map Rb.p = ps := by
  unfold rbs
  rw [List.map_pmap]
  simp
theorem rbs_enc (w : World) (l : List (Rb w)) : l.map (rbEnc w) = vals (l.map Rb.p) := by
  simp [vals, rbEnc, Function.comp_def]
theorem sort_some2 (g c n : Nat) (ps : List Bg) (w : World) (P : Bgs w (some ⟨g, 0, none⟩) c ps) (hn : ps.length = n) (hs : n ≤ 1000000000000) (r : Rights ps) :
    Calls Tryz.prog 69 #[.slice (some ⟨g, 0, none⟩) n c, .func (.func 70) #[] #[]] w (fun e w' => ∃ l, e = .returned (.tuple #[]) ∧ Sorts w (some ⟨g, 0, none⟩) c ps w' l ∧ Up l l.length) := by
  have hall : ∀ p ∈ ps, Bag w p.a p.c p.xs ∧ rightL p.xs = true := fun p hp => ⟨P.each p hp, r p hp⟩
  have hrow := P.row
  obtain ⟨g', sp, eg, hc, hcm, l⟩ : ∃ g' sp, (some ⟨g, 0, none⟩ : Option Addr) = some ⟨g', 0, none⟩ ∧ c = (vals ps).length + sp.length ∧ c ≤ 9223372036854775807 ∧ Lies w g' 56 (vals ps ++ sp) := by
    rcases hrow with ⟨h, _⟩ | h
    · cases h
    · exact h
  injection eg with eg
  injection eg with eg
  subst eg
  have em := rbs_map w ps hall
  have ee : (rbs w ps hall).map (rbEnc w) = vals ps := by rw [rbs_enc, em]
  have hlen : (rbs w ps hall).length = n := by
    have := congrArg List.length em
    rw [List.length_map] at this
    omega
  have hcmp : CmpLays1 Tryz.prog 70 #[] (rbEnc w) (rbCmp w) g 0 (rbs w ps hall).toArray.size w := by
    intro m os dk hsz x y
    have K := kept_sort (rbEnc w) w g 0 m dk os
    have X : Bag (sortWorld (rbEnc w) w g 0 m dk os) x.p.a x.p.c x.p.xs := x.bag.kept K (fun _ e => x.bag.apart P.row e)
    have Y : Bag (sortWorld (rbEnc w) w g 0 m dk os) y.p.a y.p.c y.p.xs := y.bag.kept K (fun _ e => y.bag.apart P.row e)
    exact (Z.cmp21 x.p.a y.p.a x.p.c y.p.c x.p.xs y.p.xs _ X Y).mono fun e w' ⟨he, hb⟩ => ⟨he, grew hb⟩
  have H := Any.slices_SortFunc Tryz.sortBag (rbEnc w) (fun _ => rfl) (rbCmp w) (rb_swo w) 70 #[] g 0 c (rbs w ps hall).toArray w
    (enters_of Tryz.func70 (by kernel_rfl) rfl) hcmp (holds_row (sp := sp) (rbEnc w) _ (by rw [show (rbs w ps hall).toArray.toList = rbs w ps hall from rfl, ee]; exact l)) l.lt (by simp [hlen]; omega)
  change Calls Tryz.prog 69 _ _ _ at H
  have es : (rbs w ps hall).toArray.size = n := by simp [hlen]
  rw [es] at H
  refine H.mono ?_
  rintro e w' ⟨he, d', q, os, hp, hsd, rfl⟩
  rw [← es] at hp
  have hp2 := perm_all hp
  have hpl : (d'.toList.map Rb.p).Perm ps := by
    have := hp2.map Rb.p
    rwa [show (rbs w ps hall).toArray.toList = rbs w ps hall from rfl, em] at this
  have hds : d'.size = n := by rw [hp.1, es]
  have K := kept_sort (rbEnc w) w g 0 q d' os
  refine ⟨d'.toList.map Rb.p, he, ⟨⟨?_, ?_⟩, hpl.length_eq, fun x => hpl.mem_iff, K⟩, ?_⟩
  · refine .inr ⟨g, sp, rfl, ?_, hcm, ?_⟩
    · rw [hc, vals_len, vals_len, hpl.length_eq]
    · have := lies_sort (rbEnc w) l q d' os (by rw [vals_len, hn, hds])
      rwa [rbs_enc] at this
  · intro p hp'
    obtain ⟨x, _, rfl⟩ := List.mem_map.1 hp'
    exact x.bag.kept K (fun _ e => x.bag.apart P.row e)
  · intro i j hij hj
    have hj' : j < d'.size := by simpa using hj
    have := rb_nlt.1 (hsd i j (Nat.zero_le _) hij (by omega))
    unfold Le
    rw [bgAt_get hj, bgAt_get (Nat.lt_trans hij hj)]
    simp only [List.getElem_map, Array.getElem_toList]
    rw [getElem!_pos d' i (by omega), getElem!_pos d' j (by omega)] at this
    have hneg := cmp_neg d'[i].right d'[j].right
    omega
end bags
end Go.Proofs.YtfkaagndlpcfdaaGreat

/-! slices.SortFunc at bags, however many, by bag.Compare. -/
namespace Go.Proofs.YtfkaagndlpcfdaaGreat
open Go.ChangeShapes Go.WideShapes Go.ChangeAt Go.RowKit

/-- Some number, nothing turned. -/
def AnyI (w : World) (e : Ending) (w' : World) : Prop := ∃ v : Int, e = .returned (.int .i64 v) ∧ w = w'
set_option maxRecDepth 100000 in
theorem len64_any (w : World) : Calls Tryz.prog 101 #[.int .u64 0] w (AnyI w) := by
  go_enter Tryz.func101, Tryz.ntmps101
  go_wp2
  go_ret
  exact ⟨_, rfl, rfl⟩
set_option maxRecDepth 100000 in
theorem len_any (w : World) : Calls Tryz.prog 83 #[.int .u64 0] w (AnyI w) := by
  have HZ := Lib.hid (len64_any w)
  go_enter Tryz.func83, Tryz.ntmps83
  go_wp2_with (fail)
  refine HZ.out.mono ?_
  rintro e w' ⟨v, rfl, rfl⟩
  go_wp2
  go_ret
  exact ⟨_, rfl, rfl⟩
/-- Nothing done. -/
def Done (w : World) (e : Ending) (w' : World) : Prop := e = .returned (.tuple #[]) ∧ w = w'
set_option maxRecDepth 100000 in
theorem insertion_nil (w : World) :
    Calls Tryz.prog 104 #[.slice none 0 0, .int .i64 0, .int .i64 0, .func (.func 70) #[] #[]] w (Done w) := by
  have HF := Lib.hid (show Done w (.returned (.tuple #[])) w from ⟨rfl, rfl⟩)
  go_enter Tryz.func104, Tryz.ntmps104
  go_wp2
  go_loop [8] (fun i => i = .int .i64 1) (fun _ => 0)
  case atStart => rfl
  case round =>
    obtain rfl := hrel
    go_wp2
    exact bodyPost_ret (v := .tuple #[]) (by simp [results, Tryz.results104, go_sem]) rfl HF.out
set_option maxRecDepth 100000 in
theorem pdq_nil (v : Int) (w : World) :
    Calls Tryz.prog 88 #[.slice none 0 0, .int .i64 0, .int .i64 0, .int .i64 v, .func (.func 70) #[] #[]] w (Done w) := by
  have HF := Lib.hid (show Done w (.returned (.tuple #[])) w from ⟨rfl, rfl⟩)
  go_enter Tryz.func88, Tryz.ntmps88
  go_wp2
  go_loop [1, 2] (fun i j => i = .int .i64 0 ∧ j = .int .i64 0) (fun _ _ => 0)
  case atStart => exact ⟨rfl, rfl⟩
  case round =>
    obtain ⟨rfl, rfl⟩ := hrel
    go_wp2_with (fail)
    refine (insertion_nil _).mono ?_
    rintro e w' ⟨rfl, rfl⟩
    go_wp2
    exact bodyPost_ret (v := .tuple #[]) (by simp [results, Tryz.results88, go_sem]) rfl HF.out
set_option maxRecDepth 100000 in
theorem sort_nil (w : World) : Calls Tryz.prog 69 #[.slice none 0 0, .func (.func 70) #[] #[]] w (Done w) := by
  have HF := Lib.hid (show Done w (.returned (.tuple #[])) w from ⟨rfl, rfl⟩)
  go_enter Tryz.func69, Tryz.ntmps69
  go_wp2_with (fail)
  refine (len_any _).mono ?_
  rintro e w' ⟨v, rfl, rfl⟩
  go_wp2_with (fail)
  refine (pdq_nil v _).mono ?_
  rintro e w' ⟨rfl, rfl⟩
  go_wp2
  exact bodyPost_ret (v := .tuple #[]) (by simp [results, Tryz.results69, go_sem]) rfl HF.out
/-- Sorted in place. -/
def Sorted (a : Option Addr) (c : Nat) (ps : List Bg) (w : World) (e : Ending) (w' : World) : Prop :=
  ∃ l, e = .returned (.tuple #[]) ∧ Sorts w a c ps w' l ∧ Up l l.length
theorem sort_any (a : Option Addr) (c n : Nat) (ps : List Bg) (w : World) (P : Bgs w a c ps) (hn : ps.length = n) (hs : n ≤ 1000000000000) (r : Rights ps) :
    Calls Tryz.prog 69 #[.slice a n c, .func (.func 70) #[] #[]] w (Sorted a c ps w) := by
  have hr := P.row
  rcases hr with ⟨rfl, rfl, h⟩ | ⟨g, _, rfl, _⟩
  · obtain rfl : ps = [] := List.map_eq_nil_iff.1 h
    subst hn
    exact (sort_nil w).mono fun e w' ⟨he, hw⟩ => by subst hw; exact ⟨[], he, Sorts.refl P, fun p q _ h => by simp at h⟩
  · exact sort_some2 g c n ps w P hn hs r
end Go.Proofs.YtfkaagndlpcfdaaGreat

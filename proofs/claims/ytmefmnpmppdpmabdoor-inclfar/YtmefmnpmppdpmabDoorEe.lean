import Derived.Test.YtmefmnpmppdpmabDoorZl
import Derived.Test.YtmefmnpmppdpmabDoorC
import Derived.Lib.SliceRun
import Derived.Test.YtmefmnpmppdpmabDoorDe
/- lin.Of. -/

/-! lin.same, and slices.CompactFunc at few rising bags. -/
namespace Go.Proofs.YtmefmnpmppdpmabDoor
open Go.ChangeShapes Go.WideShapes Go.ChangeAt Go.RowKit


/-- The first k of cur are the first K of l, each word once. -/
structure Cpt (w : World) (g c : Nat) (l : List Bg) (k K : Nat) (cur : List Bg) (W : World) : Prop where
  bgs : Bgs W (some ⟨g, 0, none⟩) c cur
  len : cur.length = l.length
  kept : Kept (fun x => (some ⟨g, 0, none⟩ : Option Addr) = some ⟨x, 0, none⟩) w W
  pos : 1 ≤ k
  le : k ≤ K
  top : K ≤ l.length
  tail : ∀ i, K ≤ i + 1 → bgAt cur i = bgAt l i
  src : ∀ i, i < k → bgAt cur i ∈ l
  all : ∀ j, j < K → ∃ i, i < k ∧ (bgAt cur i).xs = (bgAt l j).xs
  up : ∀ p q, p < q → q < k → cmpL (bgAt cur p).xs (bgAt cur q).xs < 0
  last : (bgAt cur (k - 1)).xs = (bgAt l (K - 1)).xs
set_option maxRecDepth 100000 in
theorem bgAt_mem {l : List Bg} {i : Nat} (h : i < l.length) : bgAt l i ∈ l := by rw [bgAt_get h]; exact List.getElem_mem h
set_option maxRecDepth 100000 in
theorem Cpt.start {w : World} {g c : Nat} {l : List Bg} (P : Bgs w (some ⟨g, 0, none⟩) c l) (h : 1 ≤ l.length) : Cpt w g c l 1 1 l w :=
  ⟨P, rfl, Kept.refl _ _, Nat.le_refl _, Nat.le_refl _, h, fun _ _ => rfl, fun i hi => bgAt_mem (by omega), fun j hj => ⟨j, hj, rfl⟩, fun p q h1 h2 => by omega, rfl⟩
set_option maxRecDepth 100000 in
theorem Cpt.below {w W W' : World} {g c k K : Nat} {l cur : List Bg} (h : Cpt w g c l k K cur W) (b : Below W.heap.size W W') : Cpt w g c l k K cur W' :=
  ⟨h.bgs.below b, h.len, h.kept.trans (Y := fun _ => False) (Kept.of_below b) (fun _ _ e => e.elim), h.pos, h.le, h.top, h.tail, h.src, h.all, h.up, h.last⟩
set_option maxRecDepth 100000 in
theorem Cpt.same {w W : World} {g c k K : Nat} {l cur : List Bg} (h : Cpt w g c l k K cur W) (r : Rights l) (hK : K < l.length) (e : cmpL (bgAt l K).xs (bgAt l (K - 1)).xs = 0) : Cpt w g c l k (K + 1) cur W := by
  have e' : (bgAt l K).xs = (bgAt l (K - 1)).xs := (cmp_zero (at_right r _) (at_right r _)).1 e
  have hp := h.pos
  have hl := h.le
  refine ⟨h.bgs, h.len, h.kept, h.pos, by omega, hK, fun i hi => h.tail i (by omega), h.src, fun j hj => ?_, h.up, ?_⟩
  · by_cases ej : j = K
    · subst ej; exact ⟨k - 1, by omega, by rw [h.last, e']⟩
    · exact h.all j (by omega)
  · rw [h.last, Nat.add_sub_cancel, e']
set_option maxRecDepth 100000 in
theorem Cpt.new {w W W' : World} {g c k K : Nat} {l cur cur' : List Bg} (h : Cpt w g c l k K cur W) (r : Rights l) (u : Up l l.length) (hK : K < l.length) (e : cmpL (bgAt l K).xs (bgAt l (K - 1)).xs ≠ 0)
    (B : Bgs W' (some ⟨g, 0, none⟩) c cur') (hl' : cur'.length = l.length) (hk' : Kept (fun x => (some ⟨g, 0, none⟩ : Option Addr) = some ⟨x, 0, none⟩) W W')
    (ho : ∀ i, i ≠ k → bgAt cur' i = bgAt cur i) (hk : bgAt cur' k = bgAt l K) : Cpt w g c l (k + 1) (K + 1) cur' W' := by
  have hp := h.pos
  have hl := h.le
  have lt : cmpL (bgAt l (K - 1)).xs (bgAt l K).xs < 0 := by
    have h1 : cmpL (bgAt l (K - 1)).xs (bgAt l K).xs ≤ 0 := u (K - 1) K (by omega) hK
    have h2 := cmp_neg (at_right r (K - 1)) (at_right r K)
    omega
  refine ⟨B, hl', h.kept.trans hk' (fun _ _ e => e), by omega, by omega, hK, fun i hi => ?_, fun i hi => ?_, fun j hj => ?_, fun p q h1 h2 => ?_, ?_⟩
  · by_cases e : i = k
    · subst e
      rw [hk, show K = i by omega]
    · rw [ho i e]; exact h.tail i (by omega)
  · by_cases e : i = k
    · subst e; rw [hk]; exact bgAt_mem hK
    · rw [ho i e]; exact h.src i (by omega)
  · by_cases ej : j = K
    · subst ej; exact ⟨k, by omega, by rw [hk]⟩
    · obtain ⟨i, hi, e⟩ := h.all j (by omega)
      exact ⟨i, by omega, by rw [ho i (by omega)]; exact e⟩
  · by_cases e2 : q = k
    · subst e2
      rw [hk, ho p (by omega)]
      have hr : ∀ i, i < q → rightL (bgAt cur i).xs = true := fun i hi => r _ (h.src i hi)
      by_cases e3 : p = q - 1
      · rw [e3, h.last]; exact lt
      · have h3 := h.up p (q - 1) (by omega) (by omega)
        rw [h.last] at h3
        exact cmp_lt_trans (hr p h1) (at_right r _) (at_right r _) h3 lt
    · rw [ho p (by omega), ho q e2]; exact h.up p q h1 (by omega)
  · rw [Nat.add_sub_cancel, Nat.add_sub_cancel, hk]
set_option maxRecDepth 100000 in
theorem set_at {cur : List Bg} {k i : Nat} (x : Bg) (hk : k < cur.length) : bgAt (cur.set k x) i = if i = k then x else bgAt cur i := by
  unfold bgAt
  simp only [List.getD_eq_getElem?_getD, List.getElem?_set]
  by_cases h : k = i
  · subst h; simp [hk]
  · rw [if_neg h, if_neg (fun e => h e.symm)]
set_option maxRecDepth 100000 in
/-- The store of one at place k. -/
theorem Cpt.store {w W : World} {g c k K : Nat} {l cur : List Bg} (h : Cpt w g c l k K cur W) (r : Rights l) (u : Up l l.length) (hK : K < l.length) (e : cmpL (bgAt l K).xs (bgAt l (K - 1)).xs ≠ 0) :
    Cpt w g c l (k + 1) (K + 1) (cur.set k (bgAt l K)) (W.setCell ⟨g, k, none⟩ (bgAt l K).val) := by
  have hkl : k < cur.length := by rw [h.len]; exact Nat.lt_of_le_of_lt h.le hK
  have k1 : Kept (fun x => (some ⟨g, 0, none⟩ : Option Addr) = some ⟨x, 0, none⟩) W (W.setCell ⟨g, k, none⟩ (bgAt l K).val) := (Kept.refl (fun x => (some ⟨g, 0, none⟩ : Option Addr) = some ⟨x, 0, none⟩) W).setCell (p := ⟨g, k, none⟩) (fun _ => rfl) _
  refine h.new r u hK e ⟨?_, fun p hp => ?_⟩ (by rw [List.length_set]; exact h.len) k1 (fun i hi => by rw [set_at _ hkl, if_neg hi]) (by rw [set_at _ hkl, if_pos rfl])
  · have e : vals (cur.set k (bgAt l K)) = (vals cur).set k (bgAt l K).val := by simp [vals, List.map_set]
    rw [e]
    exact h.bgs.row.put (by rw [vals_len]; exact hkl) _
  · rcases List.mem_or_eq_of_mem_set hp with hp | rfl
    · exact h.bgs.keptEach k1 p hp
    · refine h.bgs.keptEach k1 _ ?_
      rw [← h.tail K (by omega)]
      exact bgAt_mem (by rw [h.len]; exact hK)
set_option maxRecDepth 100000 in
theorem Cpt.at {w W : World} {g c k K : Nat} {l cur : List Bg} (h : Cpt w g c l k K cur W) {j : Nat} (hj : j < l.length) (hK : K ≤ j + 1) : W.cell? ⟨g, j, none⟩ = some (.slice (bgAt l j).a (bgAt l j).xs.length (bgAt l j).c) ∧ Bag W (bgAt l j).a (bgAt l j).c (bgAt l j).xs := by
  have hj' : j < cur.length := by rw [h.len]; exact hj
  obtain ⟨g', e, hc, hb⟩ := h.bgs.at hj'
  injection e with e; injection e with e; subst e
  rw [← h.tail j hK, bgAt_get hj']
  exact ⟨hc, hb⟩
/-- What compacting comes to. -/
def Compacted (a : Option Addr) (c : Nat) (l : List Bg) (w : World) (e : Ending) (w' : World) : Prop :=
  ∃ out, e = .returned (.slice a out.length c) ∧ Bgs w' a c out ∧ Kept (fun x => a = some ⟨x, 0, none⟩) w w' ∧ (∀ x ∈ out, x ∈ l) ∧ (∀ x ∈ l, x.xs ∈ words out) ∧ (words out).Pairwise (fun x y => cmpL x y < 0)
set_option maxRecDepth 100000 in
theorem Cpt.out {w W W' : World} {g c k K : Nat} {l cur : List Bg} (h : Cpt w g c l k K cur W) (hK : K = l.length) (B : Bgs W' (some ⟨g, 0, none⟩) c (cur.take k)) (k1 : Kept (fun x => (some ⟨g, 0, none⟩ : Option Addr) = some ⟨x, 0, none⟩) W W') :
    Compacted (some ⟨g, 0, none⟩) c l w (.returned (.slice (some ⟨g, 0, none⟩) k c)) W' := by
  have hkl : k ≤ cur.length := by have := h.le; have := h.top; rw [h.len]; omega
  have hl : (cur.take k).length = k := by rw [List.length_take]; omega
  have ht : ∀ i, i < k → ∀ hi : i < (cur.take k).length, (cur.take k)[i] = bgAt cur i := fun i hi hi' => by rw [bgAt_get (by omega)]; simp
  refine ⟨cur.take k, by rw [hl], B, h.kept.trans k1 (fun _ _ e => e), fun x hx => ?_, fun x hx => ?_, ?_⟩
  · obtain ⟨i, hi, rfl⟩ := List.getElem_of_mem hx
    rw [ht i (by omega) hi]
    exact h.src i (by omega)
  · obtain ⟨j, hj, rfl⟩ := List.getElem_of_mem hx
    obtain ⟨i, hi, e⟩ := h.all j (by omega)
    rw [bgAt_get hj] at e
    rw [← e, words, List.mem_map]
    refine ⟨bgAt cur i, ?_, rfl⟩
    rw [← ht i hi (by omega)]
    exact List.getElem_mem _
  · rw [List.pairwise_iff_getElem]
    intro i j hi hj hij
    rw [words_len] at hi hj
    have e1 : ∀ m, ∀ hm : m < (words (cur.take k)).length, (words (cur.take k))[m] = (bgAt cur m).xs := fun m hm => by
      have hm' : m < (cur.take k).length := by rwa [words_len] at hm
      have : (words (cur.take k))[m] = ((cur.take k)[m]).xs := by simp [words]
      rw [this, ht m (by omega) hm']
    rw [e1, e1]
    exact h.up i j hij (by omega)
set_option maxRecDepth 100000 in
/-- The places behind k are cleared. -/
theorem Cpt.wiped {w W : World} {g c k K : Nat} {l cur : List Bg} (h : Cpt w g c l k K cur W) : Bgs (W.setCells g k (List.replicate (l.length - k) (.slice none 0 0))) (some ⟨g, 0, none⟩) c (cur.take k) ∧
    Kept (fun x => (some ⟨g, 0, none⟩ : Option Addr) = some ⟨x, 0, none⟩) W (W.setCells g k (List.replicate (l.length - k) (.slice none 0 0))) := by
  have k1 : Kept (fun x => (some ⟨g, 0, none⟩ : Option Addr) = some ⟨x, 0, none⟩) W (W.setCells g k (List.replicate (l.length - k) (.slice none 0 0))) := (setCells_kept g _ _ _).mono (fun i _ e => by rw [e])
  have hkl : k ≤ cur.length := by have := h.le; have := h.top; rw [h.len]; omega
  refine ⟨⟨?_, fun p hp => h.bgs.keptEach k1 p (List.mem_of_mem_take hp)⟩, k1⟩
  rcases h.bgs.row with ⟨e, _⟩ | ⟨g', sp, e, hc, hm, L⟩
  · cases e
  · injection e with e; injection e with e; subst e
    have L2 := Lies.setCells (List.replicate (l.length - k) (.slice none 0 0)) k W _ L (by have := h.len; rw [List.length_append, vals_len, List.length_replicate]; omega)
    rw [List.length_replicate] at L2
    have e1 : (vals cur ++ sp).take k = vals (cur.take k) := by
      rw [List.take_append_of_le_length (by rw [vals_len]; exact hkl)]
      simp [vals, List.map_take]
    rw [e1, List.append_assoc] at L2
    refine .inr ⟨g, _, rfl, ?_, hm, L2⟩
    simp only [List.length_append, vals_len, List.length_take, List.length_replicate, List.length_drop] at hc ⊢
    have := h.len
    omega
set_option maxRecDepth 100000 in
theorem Cpt.cells {w W : World} {g c k K : Nat} {l cur : List Bg} (h : Cpt w g c l k K cur W) : ∀ j, j < l.length - k → (W.cell? ⟨g, k + j, none⟩).isSome = true := fun j hj => by
  obtain ⟨g', e, hc, _⟩ := h.bgs.at (k := k + j) (by rw [h.len]; omega)
  injection e with e; injection e with e; subst e
  rw [hc]; rfl
end Go.Proofs.YtmefmnpmppdpmabDoor

/-! lin.Of. -/
namespace Go.Proofs.YtmefmnpmppdpmabDoor
open Go.ChangeShapes Go.WideShapes Go.ChangeAt Go.RowKit

/-- What a call that makes a linear set of new memory comes to. -/
def MakesLinF (x : Lin) (ok : Bool) (w : World) (e : Ending) (w' : World) : Prop :=
  ∃ a c pa pc ps, words ps = x.ps ∧ e = .returned (.tuple #[.agg #[.slice a x.base.length c, .slice pa x.ps.length pc], .bool ok]) ∧ Bag w' a c x.base ∧ Bgs w' pa pc ps ∧
    From w.heap.size a ∧ From w.heap.size pa ∧ (∀ p ∈ ps, From w.heap.size p.a) ∧ Below w.heap.size w w'
set_option maxRecDepth 100000 in
theorem MakesLinF.lin {x : Lin} {ok : Bool} {w w' : World} {e : Ending} (h : MakesLinF x ok w e w') : MakesLin x ok w e w' := by
  obtain ⟨a, c, pa, pc, ps, hw, he, hb, hp, _, _, _, hB⟩ := h
  exact ⟨a, c, pa, pc, he, hb, ⟨ps, hw, hp⟩, hB⟩
/-- The linear set under construction, in block g4. -/
structure OfP (w : World) (g4 : Nat) (a : Option Addr) (c n : Nat) (nb : List Int) (pa : Option Addr) (pc m : Nat) (ps : List Bg) (W : World) : Prop where
  bel : Below w.heap.size w W
  l4 : Lies W g4 28 [.slice a n c, .slice pa m pc]
  base : Bag W a c nb
  row : Bgs W pa pc ps
  len : nb.length = n
  num : ps.length = m
  h4 : w.heap.size ≤ g4
  oa : From w.heap.size a
  op : From w.heap.size pa
  each : ∀ p ∈ ps, From w.heap.size p.a
section
variable {w W W' : World} {g4 : Nat} {a pa pa' : Option Addr} {c n pc m pc' m' : Nat} {nb : List Int} {ps ps' : List Bg}
set_option maxRecDepth 100000 in
theorem OfP.below (h : OfP w g4 a c n nb pa pc m ps W) (k : Below W.heap.size W W') : OfP w g4 a c n nb pa pc m ps W' :=
  ⟨h.bel.trans (k.mono h.bel.size), h.l4.below k h.l4.lt, h.base.below k, h.row.below k, h.len, h.num, h.h4, h.oa, h.op, h.each⟩
set_option maxRecDepth 100000 in
theorem OfP.put {W' : World} (hb : Below w.heap.size w W') (l : Lies W' g4 28 [.slice a n c, .slice pa m pc]) (b : Bag W' a c nb) (r : Bgs W' pa' pc' ps') (hl : nb.length = n) (hm : ps'.length = m') (h4 : w.heap.size ≤ g4) (oa : From w.heap.size a) (op : From w.heap.size pa') (each : ∀ p ∈ ps', From w.heap.size p.a) :
    OfP w g4 a c n nb pa' pc' m' ps' (W'.setCell ⟨g4, 1, none⟩ (.slice pa' m' pc')) := by
  have k := kept_set W' g4 1 (.slice pa' m' pc')
  exact ⟨hb.setCell h4 _, (l.set 1 _).to rfl, b.far l k, r.far l k, hl, hm, h4, oa, op, each⟩
set_option maxRecDepth 100000 in
theorem OfP.full (h : OfP w g4 a c n nb pa pc m ps W) {x : Lin} (hx : x = ⟨nb, words ps⟩) :
    ((W.setCell ⟨g4, 0, none⟩ (.slice a n c)).setCell ⟨g4, 1, none⟩ (.slice pa m pc)).cell? ⟨g4, 0, none⟩ = some (.slice a n c) ∧
    ((W.setCell ⟨g4, 0, none⟩ (.slice a n c)).setCell ⟨g4, 1, none⟩ (.slice pa m pc)).cell? ⟨g4, 1, none⟩ = some (.slice pa m pc) ∧
    MakesLinF x true w (.returned (.tuple #[.agg #[.slice a n c, .slice pa m pc], .bool true])) ((W.setCell ⟨g4, 0, none⟩ (.slice a n c)).setCell ⟨g4, 1, none⟩ (.slice pa m pc)) := by
  have l1 : Lies (W.setCell ⟨g4, 0, none⟩ (.slice a n c)) g4 28 [.slice a n c, .slice pa m pc] := h.l4.set 0 _
  have l2 : Lies ((W.setCell ⟨g4, 0, none⟩ (.slice a n c)).setCell ⟨g4, 1, none⟩ (.slice pa m pc)) g4 28 [.slice a n c, .slice pa m pc] := l1.set 1 _
  have k1 := kept_set W g4 0 (.slice a n c)
  have k2 := kept_set (W.setCell ⟨g4, 0, none⟩ (.slice a n c)) g4 1 (.slice pa m pc)
  subst hx
  refine ⟨l2.cell 0, l2.cell 1, a, c, pa, pc, ps, rfl, ?_, (h.base.far h.l4 k1).far l1 k2, (h.row.far h.l4 k1).far l1 k2, h.oa, h.op, h.each, (h.bel.setCell h.h4 _).setCell h.h4 _⟩
  rw [h.len, words_len, h.num]
end
end Go.Proofs.YtmefmnpmppdpmabDoor

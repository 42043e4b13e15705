import Derived.Test.YtmefmnpmppdpmabDoorNb
import Derived.Test.YtmefmnpmppdpmabDoorZm
import Derived.Test.YtmefmnpmppdpmabDoorEe
import Derived.Lib.SliceRun
import Derived.Test.YtmefmnpmppdpmabDoorHa
/- semi's ordered, fresh, Of: what is answered is new memory. -/

/-! slices.CompactFunc at linear sets, by semi.alike. -/
namespace Go.Proofs.YtmefmnpmppdpmabDoor
open Go.ChangeShapes Go.WideShapes Go.ChangeAt Go.RowKit

def lb0 : Lb := ⟨none, 0, none, 0, ⟨[], []⟩⟩
/-- Place p of them. -/
def lbAt (l : List Lb) (p : Nat) : Lb := l.getD p lb0
theorem lbAt_get {l : List Lb} {p : Nat} (h : p < l.length) : lbAt l p = l[p] := by simp [lbAt, List.getD, h]
def RightsS (l : List Lb) : Prop := ∀ p ∈ l, rightLin p.x = true
/-- Up to place k they rise. -/
def UpS (l : List Lb) (k : Nat) : Prop := ∀ p q, p < q → q < k → cmpLin (lbAt l p).x (lbAt l q).x ≤ 0
theorem at_rightS {l : List Lb} (h : RightsS l) (p : Nat) : rightLin (lbAt l p).x = true := by
  by_cases hp : p < l.length
  · rw [lbAt_get hp]; exact h _ (List.getElem_mem hp)
  · have : lbAt l p = lb0 := by simp [lbAt, List.getD, hp]
    rw [this]; exact right_empty
theorem lflat_set : ∀ (l : List Lb) (k : Nat), k < l.length → ∀ {x : Lb}, lflat (l.set k x) = ((lflat l).set (k * 2) (.slice x.a x.x.base.length x.c)).set (k * 2 + 1) (.slice x.pa x.x.ps.length x.pc)
  | [], _, h, _ => by simp at h
  | l :: r, 0, _, x => by
    have e : lflat (l :: r) = l.cells ++ lflat r := rfl
    rw [e]
    show x.cells ++ lflat r = _
    rfl
  | l :: r, k + 1, h, x => by
    have e : lflat (l :: r) = l.cells ++ lflat r := rfl
    have e2 : lflat ((l :: r).set (k + 1) x) = l.cells ++ lflat (r.set k x) := rfl
    rw [e2, lflat_set r k (by simpa using h), e]
    have h1 : (k + 1) * 2 = k * 2 + 1 + 1 := by omega
    rw [h1]
    rfl
theorem Row2.put2 {w : World} {g c n : Nat} {xs : List Value} (h : Row2 w (some ⟨g, 0, none⟩) c n xs) {k : Nat} (hk : k < n) (u v : Value) : Row2 ((w.setCell ⟨g, k * 2, none⟩ u).setCell ⟨g, k * 2 + 1, none⟩ v) (some ⟨g, 0, none⟩) c n ((xs.set (k * 2) u).set (k * 2 + 1) v) := by
  obtain ⟨h0, h⟩ := h
  refine ⟨by simpa using h0, ?_⟩
  rcases h with ⟨h, _⟩ | ⟨g', sp, e, h1, h2, h3, l⟩
  · cases h
  · injection e with e; injection e with e; subst e
    refine .inr ⟨g, sp, rfl, by simpa using h1, h2, h3, ((l.set (k * 2) u).set (k * 2 + 1) v).to ?_⟩
    rw [List.set_append_left _ _ (by omega), List.set_append_left _ _ (by rw [List.length_set]; omega)]

/-- How far compacting has come: the first k of cur stand for the first K of l. -/
structure CptS (w : World) (g c : Nat) (l : List Lb) (k K : Nat) (cur : List Lb) (W : World) : Prop where
  bgs : Lbs W (some ⟨g, 0, none⟩) c cur
  len : cur.length = l.length
  kept : Kept (fun x => (some ⟨g, 0, none⟩ : Option Addr) = some ⟨x, 0, none⟩) w W
  pos : 1 ≤ k
  le : k ≤ K
  top : K ≤ l.length
  tail : ∀ i, K ≤ i + 1 → lbAt cur i = lbAt l i
  src : ∀ i, i < k → lbAt cur i ∈ l
  all : ∀ j, j < K → ∃ i, i < k ∧ (lbAt cur i).x = (lbAt l j).x
  up : ∀ p q, p < q → q < k → cmpLin (lbAt cur p).x (lbAt cur q).x < 0
  last : (lbAt cur (k - 1)).x = (lbAt l (K - 1)).x
set_option maxRecDepth 100000 in
theorem lbAt_mem {l : List Lb} {i : Nat} (h : i < l.length) : lbAt l i ∈ l := by rw [lbAt_get h]; exact List.getElem_mem h
set_option maxRecDepth 100000 in
theorem CptS.start {w : World} {g c : Nat} {l : List Lb} (P : Lbs w (some ⟨g, 0, none⟩) c l) (h : 1 ≤ l.length) : CptS w g c l 1 1 l w :=
  ⟨P, rfl, Kept.refl _ _, Nat.le_refl _, Nat.le_refl _, h, fun _ _ => rfl, fun i hi => lbAt_mem (by omega), fun j hj => ⟨j, hj, rfl⟩, fun p q h1 h2 => by omega, rfl⟩
set_option maxRecDepth 100000 in
theorem CptS.below {w W W' : World} {g c k K : Nat} {l cur : List Lb} (h : CptS w g c l k K cur W) (b : Below W.heap.size W W') : CptS w g c l k K cur W' :=
  ⟨h.bgs.below b, h.len, h.kept.trans (Y := fun _ => False) (Kept.of_below b) (fun _ _ e => e.elim), h.pos, h.le, h.top, h.tail, h.src, h.all, h.up, h.last⟩
set_option maxRecDepth 100000 in
theorem CptS.same {w W : World} {g c k K : Nat} {l cur : List Lb} (h : CptS w g c l k K cur W) (_r : RightsS l) (hK : K < l.length) (e : (lbAt l K).x = (lbAt l (K - 1)).x) : CptS w g c l k (K + 1) cur W := by
  have e' : (lbAt l K).x = (lbAt l (K - 1)).x := e
  have hp := h.pos
  have hl := h.le
  refine ⟨h.bgs, h.len, h.kept, h.pos, by omega, hK, fun i hi => h.tail i (by omega), h.src, fun j hj => ?_, h.up, ?_⟩
  · by_cases ej : j = K
    · subst ej; exact ⟨k - 1, by omega, by rw [h.last, e']⟩
    · exact h.all j (by omega)
  · rw [h.last, Nat.add_sub_cancel, e']
set_option maxRecDepth 100000 in
theorem CptS.new {w W W' : World} {g c k K : Nat} {l cur cur' : List Lb} (h : CptS w g c l k K cur W) (r : RightsS l) (u : UpS l l.length) (hK : K < l.length) (e : (lbAt l K).x ≠ (lbAt l (K - 1)).x)
    (B : Lbs W' (some ⟨g, 0, none⟩) c cur') (hl' : cur'.length = l.length) (hk' : Kept (fun x => (some ⟨g, 0, none⟩ : Option Addr) = some ⟨x, 0, none⟩) W W')
    (ho : ∀ i, i ≠ k → lbAt cur' i = lbAt cur i) (hk : lbAt cur' k = lbAt l K) : CptS w g c l (k + 1) (K + 1) cur' W' := by
  have hp := h.pos
  have hl := h.le
  have lt : cmpLin (lbAt l (K - 1)).x (lbAt l K).x < 0 := by
    have h1 : cmpLin (lbAt l (K - 1)).x (lbAt l K).x ≤ 0 := u (K - 1) K (by omega) hK
    have h2 := cmpLin_neg (at_rightS r (K - 1)) (at_rightS r K)
    have h3 : cmpLin (lbAt l (K - 1)).x (lbAt l K).x ≠ 0 := fun h => e ((cmpLin_zero (at_rightS r _) (at_rightS r _)).1 h).symm
    omega
  refine ⟨B, hl', h.kept.trans hk' (fun _ _ e => e), by omega, by omega, hK, fun i hi => ?_, fun i hi => ?_, fun j hj => ?_, fun p q h1 h2 => ?_, ?_⟩
  · by_cases e : i = k
    · subst e
      rw [hk, show K = i by omega]
    · rw [ho i e]; exact h.tail i (by omega)
  · by_cases e : i = k
    · subst e; rw [hk]; exact lbAt_mem hK
    · rw [ho i e]; exact h.src i (by omega)
  · by_cases ej : j = K
    · subst ej; exact ⟨k, by omega, by rw [hk]⟩
    · obtain ⟨i, hi, e⟩ := h.all j (by omega)
      exact ⟨i, by omega, by rw [ho i (by omega)]; exact e⟩
  · by_cases e2 : q = k
    · subst e2
      rw [hk, ho p (by omega)]
      have hr : ∀ i, i < q → rightLin (lbAt cur i).x = true := fun i hi => r _ (h.src i hi)
      by_cases e3 : p = q - 1
      · rw [e3, h.last]; exact lt
      · have h3 := h.up p (q - 1) (by omega) (by omega)
        rw [h.last] at h3
        exact cmpLin_lt_trans (hr p h1) (at_rightS r _) (at_rightS r _) h3 lt
    · rw [ho p (by omega), ho q e2]; exact h.up p q h1 (by omega)
  · rw [Nat.add_sub_cancel, Nat.add_sub_cancel, hk]
set_option maxRecDepth 100000 in
theorem setS_at {cur : List Lb} {k i : Nat} (x : Lb) (hk : k < cur.length) : lbAt (cur.set k x) i = if i = k then x else lbAt cur i := by
  unfold lbAt
  simp only [List.getD_eq_getElem?_getD, List.getElem?_set]
  by_cases h : k = i
  · subst h; simp [hk]
  · rw [if_neg h, if_neg (fun e => h e.symm)]
set_option maxRecDepth 100000 in
/-- The store of one at place k. -/
theorem CptS.store {w W : World} {g c k K : Nat} {l cur : List Lb} (h : CptS w g c l k K cur W) (r : RightsS l) (u : UpS l l.length) (hK : K < l.length) (e : (lbAt l K).x ≠ (lbAt l (K - 1)).x) :
    CptS w g c l (k + 1) (K + 1) (cur.set k (lbAt l K)) ((W.setCell ⟨g, k * 2, none⟩ (.slice (lbAt l K).a (lbAt l K).x.base.length (lbAt l K).c)).setCell ⟨g, k * 2 + 1, none⟩ (.slice (lbAt l K).pa (lbAt l K).x.ps.length (lbAt l K).pc)) := by
  have hkl : k < cur.length := by rw [h.len]; exact Nat.lt_of_le_of_lt h.le hK
  have k1 : Kept (fun x => (some ⟨g, 0, none⟩ : Option Addr) = some ⟨x, 0, none⟩) W ((W.setCell ⟨g, k * 2, none⟩ (.slice (lbAt l K).a (lbAt l K).x.base.length (lbAt l K).c)).setCell ⟨g, k * 2 + 1, none⟩ (.slice (lbAt l K).pa (lbAt l K).x.ps.length (lbAt l K).pc)) :=
    ((Kept.refl (fun x => (some ⟨g, 0, none⟩ : Option Addr) = some ⟨x, 0, none⟩) W).setCell (p := ⟨g, k * 2, none⟩) (fun _ => rfl) _).setCell (p := ⟨g, k * 2 + 1, none⟩) (fun _ => rfl) _
  refine h.new r u hK e ⟨?_, fun p hp => ?_⟩ (by rw [List.length_set]; exact h.len) k1 (fun i hi => by rw [setS_at _ hkl, if_neg hi]) (by rw [setS_at _ hkl, if_pos rfl])
  · rw [List.length_set, lflat_set _ _ hkl]
    exact h.bgs.row.put2 hkl _ _
  · rcases List.mem_or_eq_of_mem_set hp with hp | rfl
    · exact keptBag h.bgs.row k1 (h.bgs.each p hp)
    · refine keptBag h.bgs.row k1 (h.bgs.each _ ?_)
      rw [← h.tail K (by omega)]
      exact lbAt_mem (by rw [h.len]; exact hK)
theorem CptS.at {w W : World} {g c k K : Nat} {l cur : List Lb} (h : CptS w g c l k K cur W) {j : Nat} (hj : j < l.length) (hK : K ≤ j + 1) : W.cell? ⟨g, j * 2, none⟩ = some (.slice (lbAt l j).a (lbAt l j).x.base.length (lbAt l j).c) ∧
    W.cell? ⟨g, j * 2 + 1, none⟩ = some (.slice (lbAt l j).pa (lbAt l j).x.ps.length (lbAt l j).pc) ∧ Bag W (lbAt l j).a (lbAt l j).c (lbAt l j).x.base ∧ Bags W (lbAt l j).pa (lbAt l j).pc (lbAt l j).x.ps := by
  have hj' : j < cur.length := by rw [h.len]; exact hj
  obtain ⟨g', e, c0, c1, hb⟩ := h.bgs.at hj'
  injection e with e; injection e with e; subst e
  rw [← h.tail j hK, lbAt_get hj']
  exact ⟨c0, c1, hb⟩
/-- What compacting comes to. -/
def CompactedS (a : Option Addr) (c : Nat) (l : List Lb) (w : World) (e : Ending) (w' : World) : Prop :=
  ∃ out, e = .returned (.slice a out.length c) ∧ Lbs w' a c out ∧ Kept (fun x => a = some ⟨x, 0, none⟩) w w' ∧ (∀ x ∈ out, x ∈ l) ∧ (∀ x ∈ l, x.x ∈ lins out) ∧ (lins out).Pairwise (fun x y => cmpLin x y < 0)
set_option maxRecDepth 100000 in
theorem CptS.out {w W W' : World} {g c k K : Nat} {l cur : List Lb} (h : CptS w g c l k K cur W) (hK : K = l.length) (B : Lbs W' (some ⟨g, 0, none⟩) c (cur.take k)) (k1 : Kept (fun x => (some ⟨g, 0, none⟩ : Option Addr) = some ⟨x, 0, none⟩) W W') :
    CompactedS (some ⟨g, 0, none⟩) c l w (.returned (.slice (some ⟨g, 0, none⟩) k c)) W' := by
  have hkl : k ≤ cur.length := by have := h.le; have := h.top; rw [h.len]; omega
  have hl : (cur.take k).length = k := by rw [List.length_take]; omega
  have ht : ∀ i, i < k → ∀ hi : i < (cur.take k).length, (cur.take k)[i] = lbAt cur i := fun i hi hi' => by rw [lbAt_get (by omega)]; simp
  refine ⟨cur.take k, by rw [hl], B, h.kept.trans k1 (fun _ _ e => e), fun x hx => ?_, fun x hx => ?_, ?_⟩
  · obtain ⟨i, hi, rfl⟩ := List.getElem_of_mem hx
    rw [ht i (by omega) hi]
    exact h.src i (by omega)
  · obtain ⟨j, hj, rfl⟩ := List.getElem_of_mem hx
    obtain ⟨i, hi, e⟩ := h.all j (by omega)
    rw [lbAt_get hj] at e
    rw [← e, lins, List.mem_map]
    refine ⟨lbAt cur i, ?_, rfl⟩
    rw [← ht i hi (by omega)]
    exact List.getElem_mem _
  · rw [List.pairwise_iff_getElem]
    intro i j hi hj hij
    rw [lins_len] at hi hj
    have e1 : ∀ m, ∀ hm : m < (lins (cur.take k)).length, (lins (cur.take k))[m] = (lbAt cur m).x := fun m hm => by
      have hm' : m < (cur.take k).length := by rwa [lins_len] at hm
      have : (lins (cur.take k))[m] = ((cur.take k)[m]).x := by simp [lins]
      rw [this, ht m (by omega) hm']
    rw [e1, e1]
    exact h.up i j hij (by omega)
/-- The places behind k are cleared. -/
theorem CptS.wiped {w W : World} {g c k K : Nat} {l cur : List Lb} (h : CptS w g c l k K cur W) : Lbs (W.setCells g (k * 2) (List.replicate ((l.length - k) * 2) (.slice none 0 0))) (some ⟨g, 0, none⟩) c (cur.take k) ∧
    Kept (fun x => (some ⟨g, 0, none⟩ : Option Addr) = some ⟨x, 0, none⟩) W (W.setCells g (k * 2) (List.replicate ((l.length - k) * 2) (.slice none 0 0))) := by
  have k1 : Kept (fun x => (some ⟨g, 0, none⟩ : Option Addr) = some ⟨x, 0, none⟩) W (W.setCells g (k * 2) (List.replicate ((l.length - k) * 2) (.slice none 0 0))) := (setCells_kept g _ _ _).mono (fun i _ e => by rw [e])
  have hkl : k ≤ cur.length := by have := h.le; have := h.top; rw [h.len]; omega
  refine ⟨⟨?_, fun p hp => keptBag h.bgs.row k1 (h.bgs.each p (List.mem_of_mem_take hp))⟩, k1⟩
  obtain ⟨_, rr⟩ := h.bgs.row
  rcases rr with ⟨e, _⟩ | ⟨g', sp, e, hc, hcl, hm, L⟩
  · cases e
  · injection e with e; injection e with e; subst e
    have L2 := Lies.setCells (List.replicate ((l.length - k) * 2) (.slice none 0 0)) (k * 2) W _ L (by have := h.len; rw [List.length_append, lflat_len, List.length_replicate]; omega)
    rw [List.length_replicate] at L2
    have e1 : (lflat cur ++ sp).take (k * 2) = lflat (cur.take k) := by
      rw [List.take_append_of_le_length (by rw [lflat_len]; omega), lflat_take]
    rw [e1, List.append_assoc] at L2
    have hl := h.len
    refine ⟨lflat_len _, .inr ⟨g, _, rfl, ?_, ?_, hm, L2⟩⟩
    · simp only [List.length_append, lflat_len, List.length_take, List.length_replicate, List.length_drop] at hc ⊢
      omega
    · rw [List.length_take]; omega
theorem CptS.cells {w W : World} {g c k K : Nat} {l cur : List Lb} (h : CptS w g c l k K cur W) : ∀ j, j < (l.length - k) * 2 → (W.cell? ⟨g, k * 2 + j, none⟩).isSome = true := fun j hj => by
  have hl : (lflat cur).length = cur.length * 2 := lflat_len cur
  have hlt : k * 2 + j < (lflat cur).length := by rw [hl, h.len]; omega
  obtain ⟨g', e, hc⟩ := h.bgs.row.cell (List.getElem?_eq_getElem hlt)
  injection e with e; injection e with e; subst e
  rw [hc]; rfl
end Go.Proofs.YtmefmnpmppdpmabDoor

/-! semi's ordered, fresh, Of: what is answered is new memory. -/
namespace Go.Proofs.YtmefmnpmppdpmabDoor
open Go.ChangeShapes Go.WideShapes Go.ChangeAt Go.RowKit

/-- A linear set all of whose lists lie from block B on. -/
def NewLin (w : World) (B : Nat) (l : Lb) : Prop := From B l.a ∧ From B l.pa ∧ ∃ ps, words ps = l.x.ps ∧ Bgs w l.pa l.pc ps ∧ ∀ p ∈ ps, From B p.a
theorem NewLin.below {w w' : World} {B : Nat} {l : Lb} (h : NewLin w B l) (b : Below w.heap.size w w') : NewLin w' B l := by
  obtain ⟨h1, h2, ps, e, P, f⟩ := h
  exact ⟨h1, h2, ps, e, P.below b, f⟩
theorem NewLin.mono {w : World} {B B' : Nat} {l : Lb} (h : NewLin w B l) (b : B' ≤ B) : NewLin w B' l := by
  obtain ⟨h1, h2, ps, e, P, f⟩ := h
  exact ⟨h1.mono b, h2.mono b, ps, e, P, fun p hp => (f p hp).mono b⟩
theorem keptNew {w w' : World} {a : Option Addr} {c n B : Nat} {xs : List Value} (r : Row2 w a c n xs) (k : Kept (fun g => a = some ⟨g, 0, none⟩) w w') {l : Lb} (h : NewLin w B l) : NewLin w' B l := by
  obtain ⟨h1, h2, ps, e, P, f⟩ := h
  exact ⟨h1, h2, ps, e, ⟨P.row.kept k (fun g e => r.apartB P.row e), fun p hp => (P.each p hp).kept k (fun g e => r.apart (P.each p hp) e)⟩, f⟩
/-- The linear sets that a call has made so far: the row and all in it are new memory. -/
structure AccSt (w : World) (oa : Option Addr) (oc m : Nat) (ls : List Lb) (W : World) : Prop where
  bel : Below w.heap.size w W
  row : Lbs W oa oc ls
  num : ls.length = m
  own : From w.heap.size oa
  new : ∀ l ∈ ls, NewLin W w.heap.size l
theorem AccSt.nil (w : World) : AccSt w none 0 0 [] w := ⟨Below.refl _ _, Lbs.nil _, rfl, From.none _, fun l h => by simp at h⟩
theorem AccSt.below {w W W' : World} {oa : Option Addr} {oc m : Nat} {ls : List Lb} (h : AccSt w oa oc m ls W) (k : Below W.heap.size W W') : AccSt w oa oc m ls W' :=
  ⟨h.bel.trans (k.mono h.bel.size), h.row.below k, h.num, h.own, fun l hl => (h.new l hl).below k⟩
theorem AccSt.push {w W : World} {oa : Option Addr} {oc m : Nat} {ls : List Lb} (h : AccSt w oa oc m ls W) (hm : m ≤ 100000000000) (l : Lb) (n q : Nat) (hn : l.x.base.length = n) (hq : l.x.ps.length = q)
    (hl : Bag W l.a l.c l.x.base ∧ Bags W l.pa l.pc l.x.ps) (hw : NewLin W w.heap.size l) :
    ∃ a2 c2 w2, (Builtin.append_ #[30, 30] 30 #[.slice oa m oc, .slice (some ⟨W.heap.size, 0, none⟩) 1 1]).run Tryd.prog (W.alloc (.cells #[.slice l.a n l.c, .slice l.pa q l.pc] 28)) = .ok (.slice a2 (m + 1) c2) w2 ∧
      AccSt w a2 c2 (m + 1) (ls ++ [l]) w2 := by
  have b1 := below_alloc W (.cells #[.slice l.a n l.c, .slice l.pa q l.pc] 28)
  have h1 := h.below b1
  have rk : Row2 (W.alloc (.cells #[.slice l.a n l.c, .slice l.pa q l.pc] 28)) oa oc m (lflat ls) := by
    have := h1.row.row
    rwa [h1.num] at this
  have rn := row2_new (V := W) l n q hn hq
  obtain ⟨v2, w4, hr2, A2⟩ := run_app2_at 30 30 Tryd.underlying30 oa oc m (lflat ls) _ rk ⟨W.heap.size, 0, none⟩ 1 1 (lflat [l]) rfl (fun j u hj => by
    obtain ⟨g', e', hc⟩ := rn.cell hj
    injection e' with e'; injection e' with e'; subst e'
    rw [Addr.add_lit, Nat.zero_add]; exact hc) (lflat_one _) (by omega)
  obtain ⟨B2, F2⟩ := A2.below (B := w.heap.size) h1.bel.size h1.own
  obtain ⟨a2, c2, rfl, r2, k2, f2⟩ := A2
  have F2 := F2 _ _ _ rfl
  have hlen : (ls ++ [l]).length = m + 1 := by rw [List.length_append, h.num]; rfl
  refine ⟨a2, c2, w4, hr2, ⟨h1.bel.trans B2, ⟨by rw [hlen, lflat_app]; exact r2, fun p hp => ?_⟩, hlen, F2, fun p hp => ?_⟩⟩
  · rcases List.mem_append.1 hp with hp | hp
    · exact keptBag rk k2 (h1.row.each p hp)
    · obtain rfl := List.mem_singleton.1 hp
      exact keptBag rk k2 ⟨hl.1.below b1, hl.2.below b1⟩
  · rcases List.mem_append.1 hp with hp | hp
    · exact keptNew rk k2 (h1.new p hp)
    · obtain rfl := List.mem_singleton.1 hp
      exact keptNew rk k2 (hw.below b1)
/-- A row of right linear sets in new memory, and whether there is one. -/
def MakesSF (s : List Lin) (ok : Bool) (w : World) (e : Ending) (w' : World) : Prop :=
  ∃ a c ls, lins ls = s ∧ e = .returned (.tuple #[.slice a s.length c, .bool ok]) ∧ Lbs w' a c ls ∧ From w.heap.size a ∧ (∀ l ∈ ls, NewLin w' w.heap.size l) ∧ Below w.heap.size w w'
end Go.Proofs.YtmefmnpmppdpmabDoor

/-! slices.Grow and slices.Concat at linear sets; semi.One, semi.Union. -/
namespace Go.Proofs.YtmefmnpmppdpmabDoor
open Go.ChangeShapes Go.WideShapes Go.ChangeAt Go.RowKit

theorem one_any (w : World) : Calls Tryd.prog 11 #[] w (fun e w' => ∃ a c, e = .returned (.slice a 1 c) ∧ AccSt w a c 1 [⟨none, 0, none, 0, ⟨[], []⟩⟩] w') := by
  have HF : Hid (AccSt w (some ⟨w.heap.size, 0, none⟩) 1 1 [⟨none, 0, none, 0, ⟨[], []⟩⟩] (w.alloc (.cells #[.slice none 0 0, .slice none 0 0] 28))) := Lib.hid ⟨below_alloc _ _, ⟨row2_new (V := w) ⟨none, 0, none, 0, ⟨[], []⟩⟩ 0 0 rfl rfl, fun l h => by
    obtain rfl := List.mem_singleton.1 h
    exact ⟨Bag.nil _, Bags.nil _⟩⟩, rfl, fun g e => by injection e with e; injection e with e; omega, fun l h => by
    obtain rfl := List.mem_singleton.1 h
    exact ⟨From.none _, From.none _, [], rfl, Bgs.nil _, fun p h => by simp at h⟩⟩
  go_enter Tryd.func11, Tryd.ntmps11
  go_wp2
  go_ret
  exact ⟨_, _, rfl, HF.out⟩
theorem MakesSF.acc {s : List Lin} {ok : Bool} {w w' : World} {e : Ending} (h : MakesSF s ok w e w') : ∃ a c ls, lins ls = s ∧ e = .returned (.tuple #[.slice a s.length c, .bool ok]) ∧ AccSt w a c s.length ls w' := by
  obtain ⟨a, c, ls, h1, h2, h3, h4, h5, h6⟩ := h
  exact ⟨a, c, ls, h1, h2, h6, h3, by rw [← h1, lins_len], h4, h5⟩
end Go.Proofs.YtmefmnpmppdpmabDoor

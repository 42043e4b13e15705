/- slices.CompactFunc at linear sets, by semi.alike. -/
import Derived.Test.YtfkaagndlpcfdaaGreatNb
import Derived.Test.YtfkaagndlpcfdaaGreatZm
import Derived.Test.YtfkaagndlpcfdaaGreatEd
import Derived.Lib.SliceRun
namespace Go.Proofs.YtfkaagndlpcfdaaGreat
open Go.ChangeShapes Go.WideShapes Go.ChangeAt Go.RowKit

def lb0 : Lb := ⟨none, 0, none, 0, ⟨[], []⟩⟩
/-- Place p of them. -/
def lbAt (l : List Lb) (p : Nat) : Lb := l.getD p lb0
theorem lbAt_get {l : List Lb} {p : Nat} (h : p < l.length) : lbAt l p = l[p] := by simp [lbAt, List.getD, h]
def RightsS (l : List Lb) : Prop := ∀ p ∈ l, rightLin p.x = true
/-- Up to place k they rise. -/
def UpS (l : List Lb) (k : Nat) : Prop := ∀ p q, p < q → q < k → cmpLin (lbAt l p).x (lbAt l q).x ≤ 0
theorem at_rightS {l : List Lb} (h : RightsS l) (p : Nat) : rightLin (lbAt l p).x = true := by
  by_cases hp : p < l.length
  · rw [lbAt_get hp]; exact h _ (List.getElem_mem hp)
  · have : lbAt l p = lb0 := by simp [lbAt, List.getD, hp]
    rw [this]; exact right_empty
theorem lflat_set : ∀ (l : List Lb) (k : Nat), k < l.length → ∀ {x : Lb}, lflat (l.set k x) = ((lflat l).set (k * 2) (.slice x.a x.x.base.length x.c)).set (k * 2 + 1) (.slice x.pa x.x.ps.length x.pc)
  | [], _, h, _ => by simp at h
  | l :: r, 0, _, x => by
    have e : lflat (l :: r) = l.cells ++ lflat r := rfl
    rw [e]
    show x.cells ++ lflat r = _
    rfl
  | l :: r, k + 1, h, x => by
    have e : lflat (l :: r) = l.cells ++ lflat r := rfl
    have e2 : lflat ((l :: r).set (k + 1) x) = l.cells ++ lflat (r.set k x) := rfl
    rw [e2, lflat_set r k (by simpa using h), e]
    have h1 : (k + 1) * 2 = k * 2 + 1 + 1 := by omega
    rw [h1]
    rfl
theorem Row2.frozen2 {w : World} {g c n : Nat} {xs : List Value} (h : Row2 w (some ⟨g, 0, none⟩) c n xs) (j : Nat) : w.frozen? ⟨g, j, none⟩ = false := by
  obtain ⟨_, h⟩ := h
  rcases h with ⟨h, _⟩ | ⟨g', sp, e, _, _, _, l⟩
  · cases h
  · injection e with e; injection e with e; subst e
    exact l.frozen j
theorem Row2.put2 {w : World} {g c n : Nat} {xs : List Value} (h : Row2 w (some ⟨g, 0, none⟩) c n xs) {k : Nat} (hk : k < n) (u v : Value) : Row2 ((w.setCell ⟨g, k * 2, none⟩ u).setCell ⟨g, k * 2 + 1, none⟩ v) (some ⟨g, 0, none⟩) c n ((xs.set (k * 2) u).set (k * 2 + 1) v) := by
  obtain ⟨h0, h⟩ := h
  refine ⟨by simpa using h0, ?_⟩
  rcases h with ⟨h, _⟩ | ⟨g', sp, e, h1, h2, h3, l⟩
  · cases h
  · injection e with e; injection e with e; subst e
    refine .inr ⟨g, sp, rfl, by simpa using h1, h2, h3, ((l.set (k * 2) u).set (k * 2 + 1) v).to ?_⟩
    rw [List.set_append_left _ _ (by omega), List.set_append_left _ _ (by rw [List.length_set]; omega)]

/-- How far compacting has come: the first k of cur stand for the first K of l. -/
structure CptS (w : World) (g c : Nat) (l : List Lb) (k K : Nat) (cur : List Lb) (W : World) : Prop where
  bgs : Lbs W (some ⟨g, 0, none⟩) c cur
  len : cur.length = l.length
  kept : Kept (fun x => (some ⟨g, 0, none⟩ : Option Addr) = some ⟨x, 0, none⟩) w W
  pos : 1 ≤ k
  le : k ≤ K
  top : K ≤ l.length
  tail : ∀ i, K ≤ i + 1 → lbAt cur i = lbAt l i
  src : ∀ i, i < k → lbAt cur i ∈ l
  all : ∀ j, j < K → ∃ i, i < k ∧ (lbAt cur i).x = (lbAt l j).x
  up : ∀ p q, p < q → q < k → cmpLin (lbAt cur p).x (lbAt cur q).x < 0
  last : (lbAt cur (k - 1)).x = (lbAt l (K - 1)).x
set_option maxRecDepth 100000 in
theorem lbAt_mem {l : List Lb} {i : Nat} (h : i < l.length) : lbAt l i ∈ l := by rw [lbAt_get h]; exact List.getElem_mem h
set_option maxRecDepth 100000 in
theorem CptS.start {w : World} {g c : Nat} {l : List Lb} (P : Lbs w (some ⟨g, 0, none⟩) c l) (h : 1 ≤ l.length) : CptS w g c l 1 1 l w :=
  ⟨P, rfl, Kept.refl _ _, Nat.le_refl _, Nat.le_refl _, h, fun _ _ => rfl, fun i hi => lbAt_mem (by omega), fun j hj => ⟨j, hj, rfl⟩, fun p q h1 h2 => by omega, rfl⟩
set_option maxRecDepth 100000 in
theorem CptS.below {w W W' : World} {g c k K : Nat} {l cur : List Lb} (h : CptS w g c l k K cur W) (b : Below W.heap.size W W') : CptS w g c l k K cur W' :=
  ⟨h.bgs.below b, h.len, h.kept.trans (Y := fun _ => False) (Kept.of_below b) (fun _ _ e => e.elim), h.pos, h.le, h.top, h.tail, h.src, h.all, h.up, h.last⟩
set_option maxRecDepth 100000 in
theorem CptS.same {w W : World} {g c k K : Nat} {l cur : List Lb} (h : CptS w g c l k K cur W) (_r : RightsS l) (hK : K < l.length) (e : (lbAt l K).x = (lbAt l (K - 1)).x) : CptS w g c l k (K + 1) cur W := by
  have e' : (lbAt l K).x = (lbAt l (K - 1)).x := e
  have hp := h.pos
  have hl := h.le
  refine ⟨h.bgs, h.len, h.kept, h.pos, by omega, hK, fun i hi => h.tail i (by omega), h.src, fun j hj => ?_, h.up, ?_⟩
  · by_cases ej : j = K
    · subst ej; exact ⟨k - 1, by omega, by rw [h.last, e']⟩
    · exact h.all j (by omega)
  · rw [h.last, Nat.add_sub_cancel, e']
set_option maxRecDepth 100000 in
theorem CptS.new {w W W' : World} {g c k K : Nat} {l cur cur' : List Lb} (h : CptS w g c l k K cur W) (r : RightsS l) (u : UpS l l.length) (hK : K < l.length) (e : (lbAt l K).x ≠ (lbAt l (K - 1)).x)
    (B : Lbs W' (some ⟨g, 0, none⟩) c cur') (hl' : cur'.length = l.length) (hk' : Kept (fun x => (some ⟨g, 0, none⟩ : Option Addr) = some ⟨x, 0, none⟩) W W')
    (ho : ∀ i, i ≠ k → lbAt cur' i = lbAt cur i) (hk : lbAt cur' k = lbAt l K) : CptS w g c l (k + 1) (K + 1) cur' W' := by
  have hp := h.pos
  have hl := h.le
  have lt : cmpLin (lbAt l (K - 1)).x (lbAt l K).x < 0 := by
    have h1 : cmpLin (lbAt l (K - 1)).x (lbAt l K).x ≤ 0 := u (K - 1) K (by omega) hK
    have h2 := cmpLin_neg (at_rightS r (K - 1)) (at_rightS r K)
    have h3 : cmpLin (lbAt l (K - 1)).x (lbAt l K).x ≠ 0 := fun h => e ((cmpLin_zero (at_rightS r _) (at_rightS r _)).1 h).symm
    omega
  refine ⟨B, hl', h.kept.trans hk' (fun _ _ e => e), by omega, by omega, hK, fun i hi => ?_, fun i hi => ?_, fun j hj => ?_, fun p q h1 h2 => ?_, ?_⟩
  · by_cases e : i = k
    · subst e
      rw [hk, show K = i by omega]
    · rw [ho i e]; exact h.tail i (by omega)
  · by_cases e : i = k
    · subst e; rw [hk]; exact lbAt_mem hK
    · rw [ho i e]; exact h.src i (by omega)
  · by_cases ej : j = K
    · subst ej; exact ⟨k, by omega, by rw [hk]⟩
    · obtain ⟨i, hi, e⟩ := h.all j (by omega)
      exact ⟨i, by omega, by rw [ho i (by omega)]; exact e⟩
  · by_cases e2 : q = k
    · subst e2
      rw [hk, ho p (by omega)]
      have hr : ∀ i, i < q → rightLin (lbAt cur i).x = true := fun i hi => r _ (h.src i hi)
      by_cases e3 : p = q - 1
      · rw [e3, h.last]; exact lt
      · have h3 := h.up p (q - 1) (by omega) (by omega)
        rw [h.last] at h3
        exact cmpLin_lt_trans (hr p h1) (at_rightS r _) (at_rightS r _) h3 lt
    · rw [ho p (by omega), ho q e2]; exact h.up p q h1 (by omega)
  · rw [Nat.add_sub_cancel, Nat.add_sub_cancel, hk]
set_option maxRecDepth 100000 in
theorem setS_at {cur : List Lb} {k i : Nat} (x : Lb) (hk : k < cur.length) : lbAt (cur.set k x) i = if i = k then x else lbAt cur i := by
  unfold lbAt
  simp only [List.getD_eq_getElem?_getD, List.getElem?_set]
  by_cases h : k = i
  · subst h; simp [hk]
  · rw [if_neg h, if_neg (fun e => h e.symm)]
set_option maxRecDepth 100000 in
/-- The store of one at place k. -/
theorem CptS.store {w W : World} {g c k K : Nat} {l cur : List Lb} (h : CptS w g c l k K cur W) (r : RightsS l) (u : UpS l l.length) (hK : K < l.length) (e : (lbAt l K).x ≠ (lbAt l (K - 1)).x) :
    CptS w g c l (k + 1) (K + 1) (cur.set k (lbAt l K)) ((W.setCell ⟨g, k * 2, none⟩ (.slice (lbAt l K).a (lbAt l K).x.base.length (lbAt l K).c)).setCell ⟨g, k * 2 + 1, none⟩ (.slice (lbAt l K).pa (lbAt l K).x.ps.length (lbAt l K).pc)) := by
  have hkl : k < cur.length := by rw [h.len]; exact Nat.lt_of_le_of_lt h.le hK
  have k1 : Kept (fun x => (some ⟨g, 0, none⟩ : Option Addr) = some ⟨x, 0, none⟩) W ((W.setCell ⟨g, k * 2, none⟩ (.slice (lbAt l K).a (lbAt l K).x.base.length (lbAt l K).c)).setCell ⟨g, k * 2 + 1, none⟩ (.slice (lbAt l K).pa (lbAt l K).x.ps.length (lbAt l K).pc)) :=
    ((Kept.refl (fun x => (some ⟨g, 0, none⟩ : Option Addr) = some ⟨x, 0, none⟩) W).setCell (p := ⟨g, k * 2, none⟩) (fun _ => rfl) _).setCell (p := ⟨g, k * 2 + 1, none⟩) (fun _ => rfl) _
  refine h.new r u hK e ⟨?_, fun p hp => ?_⟩ (by rw [List.length_set]; exact h.len) k1 (fun i hi => by rw [setS_at _ hkl, if_neg hi]) (by rw [setS_at _ hkl, if_pos rfl])
  · rw [List.length_set, lflat_set _ _ hkl]
    exact h.bgs.row.put2 hkl _ _
  · rcases List.mem_or_eq_of_mem_set hp with hp | rfl
    · exact keptBag h.bgs.row k1 (h.bgs.each p hp)
    · refine keptBag h.bgs.row k1 (h.bgs.each _ ?_)
      rw [← h.tail K (by omega)]
      exact lbAt_mem (by rw [h.len]; exact hK)
theorem CptS.at {w W : World} {g c k K : Nat} {l cur : List Lb} (h : CptS w g c l k K cur W) {j : Nat} (hj : j < l.length) (hK : K ≤ j + 1) : W.cell? ⟨g, j * 2, none⟩ = some (.slice (lbAt l j).a (lbAt l j).x.base.length (lbAt l j).c) ∧
    W.cell? ⟨g, j * 2 + 1, none⟩ = some (.slice (lbAt l j).pa (lbAt l j).x.ps.length (lbAt l j).pc) ∧ Bag W (lbAt l j).a (lbAt l j).c (lbAt l j).x.base ∧ Bags W (lbAt l j).pa (lbAt l j).pc (lbAt l j).x.ps := by
  have hj' : j < cur.length := by rw [h.len]; exact hj
  obtain ⟨g', e, c0, c1, hb⟩ := h.bgs.at hj'
  injection e with e; injection e with e; subst e
  rw [← h.tail j hK, lbAt_get hj']
  exact ⟨c0, c1, hb⟩
/-- What compacting comes to. -/
def CompactedS (a : Option Addr) (c : Nat) (l : List Lb) (w : World) (e : Ending) (w' : World) : Prop :=
  ∃ out, e = .returned (.slice a out.length c) ∧ Lbs w' a c out ∧ Kept (fun x => a = some ⟨x, 0, none⟩) w w' ∧ (∀ x ∈ out, x ∈ l) ∧ (∀ x ∈ l, x.x ∈ lins out) ∧ (lins out).Pairwise (fun x y => cmpLin x y < 0)
set_option maxRecDepth 100000 in
theorem CptS.out {w W W' : World} {g c k K : Nat} {l cur : List Lb} (h : CptS w g c l k K cur W) (hK : K = l.length) (B : Lbs W' (some ⟨g, 0, none⟩) c (cur.take k)) (k1 : Kept (fun x => (some ⟨g, 0, none⟩ : Option Addr) = some ⟨x, 0, none⟩) W W') :
    CompactedS (some ⟨g, 0, none⟩) c l w (.returned (.slice (some ⟨g, 0, none⟩) k c)) W' := by
  have hkl : k ≤ cur.length := by have := h.le; have := h.top; rw [h.len]; omega
  have hl : (cur.take k).length = k := by rw [List.length_take]; omega
  have ht : ∀ i, i < k → ∀ hi : i < (cur.take k).length, (cur.take k)[i] = lbAt cur i := fun i hi hi' => by rw [lbAt_get (by omega)]; simp
  refine ⟨cur.take k, by rw [hl], B, h.kept.trans k1 (fun _ _ e => e), fun x hx => ?_, fun x hx => ?_, ?_⟩
  · obtain ⟨i, hi, rfl⟩ := List.getElem_of_mem hx
    rw [ht i (by omega) hi]
    exact h.src i (by omega)
  · obtain ⟨j, hj, rfl⟩ := List.getElem_of_mem hx
    obtain ⟨i, hi, e⟩ := h.all j (by omega)
    rw [lbAt_get hj] at e
    rw [← e, lins, List.mem_map]
    refine ⟨lbAt cur i, ?_, rfl⟩
    rw [← ht i hi (by omega)]
    exact List.getElem_mem _
  · rw [List.pairwise_iff_getElem]
    intro i j hi hj hij
    rw [lins_len] at hi hj
    have e1 : ∀ m, ∀ hm : m < (lins (cur.take k)).length, (lins (cur.take k))[m] = (lbAt cur m).x := fun m hm => by
      have hm' : m < (cur.take k).length := by rwa [lins_len] at hm
      have : (lins (cur.take k))[m] = ((cur.take k)[m]).x := by simp [lins]
      rw [this, ht m (by omega) hm']
    rw [e1, e1]
    exact h.up i j hij (by omega)
/-- The places behind k are cleared. -/
theorem CptS.wiped {w W : World} {g c k K : Nat} {l cur : List Lb} (h : CptS w g c l k K cur W) : Lbs (W.setCells g (k * 2) (List.replicate ((l.length - k) * 2) (.slice none 0 0))) (some ⟨g, 0, none⟩) c (cur.take k) ∧
    Kept (fun x => (some ⟨g, 0, none⟩ : Option Addr) = some ⟨x, 0, none⟩) W (W.setCells g (k * 2) (List.replicate ((l.length - k) * 2) (.slice none 0 0))) := by
  have k1 : Kept (fun x => (some ⟨g, 0, none⟩ : Option Addr) = some ⟨x, 0, none⟩) W (W.setCells g (k * 2) (List.replicate ((l.length - k) * 2) (.slice none 0 0))) := (setCells_kept g _ _ _).mono (fun i _ e => by rw [e])
  have hkl : k ≤ cur.length := by have := h.le; have := h.top; rw [h.len]; omega
  refine ⟨⟨?_, fun p hp => keptBag h.bgs.row k1 (h.bgs.each p (List.mem_of_mem_take hp))⟩, k1⟩
  obtain ⟨_, rr⟩ := h.bgs.row
  rcases rr with ⟨e, _⟩ | ⟨g', sp, e, hc, hcl, hm, L⟩
  · cases e
  · injection e with e; injection e with e; subst e
    have L2 := Lies.setCells (List.replicate ((l.length - k) * 2) (.slice none 0 0)) (k * 2) W _ L (by have := h.len; rw [List.length_append, lflat_len, List.length_replicate]; omega)
    rw [List.length_replicate] at L2
    have e1 : (lflat cur ++ sp).take (k * 2) = lflat (cur.take k) := by
      rw [List.take_append_of_le_length (by rw [lflat_len]; omega), lflat_take]
    rw [e1, List.append_assoc] at L2
    have hl := h.len
    refine ⟨lflat_len _, .inr ⟨g, _, rfl, ?_, ?_, hm, L2⟩⟩
    · simp only [List.length_append, lflat_len, List.length_take, List.length_replicate, List.length_drop] at hc ⊢
      omega
    · rw [List.length_take]; omega
theorem CptS.cells {w W : World} {g c k K : Nat} {l cur : List Lb} (h : CptS w g c l k K cur W) : ∀ j, j < (l.length - k) * 2 → (W.cell? ⟨g, k * 2 + j, none⟩).isSome = true := fun j hj => by
  have hl : (lflat cur).length = cur.length * 2 := lflat_len cur
  have hlt : k * 2 + j < (lflat cur).length := by rw [hl, h.len]; omega
  obtain ⟨g', e, hc⟩ := h.bgs.row.cell (List.getElem?_eq_getElem hlt)
  injection e with e; injection e with e; subst e
  rw [hc]; rfl
theorem zeroLin (w : World) : (zeroValue 60).run Tryz.prog w = .ok (.agg #[.slice none 0 0, .slice none 0 0]) w := by kernel_rfl
theorem run_clear_slice2 {P : Program} (w : World) (t e ty : TypeId) (z s : Value) (ht : P.underlying t = some (.slice e)) (hv : ∀ w, (zeroValue e).run P w = .ok z w) (hz : z.cells = #[s, s]) (h1 : s.oneCell' = true) (b o n c : Nat) (hn : 0 < n)
    (hc : ∀ j, j < n * 2 → (w.cell? ⟨b, o + j, none⟩).isSome = true) (hf : ∀ j, j < n * 2 → w.frozen? ⟨b, o + j, none⟩ = false) :
    (Builtin.clear_ #[t] ty #[.slice (some ⟨b, o, none⟩) n c]).run P w = .ok (.tuple #[]) (w.setCells b o (List.replicate (n * 2) s)) := by
  have hzc : (Builtin.zeroCells z.cells n).toList = List.replicate (n * 2) s := by
    rw [hz]
    simp only [Builtin.zeroCells]
    apply List.ext_getElem
    · simp
    · intro i h1 h2
      simp only [Array.getElem_toList, Array.getElem_map, Array.getElem_range, List.getElem_replicate]
      have : i % 2 = 0 ∨ i % 2 = 1 := by omega
      show (#[s, s] : Array Value)[i % 2]! = s
      rcases this with h | h <;> rw [h] <;> rfl
  have hst := run_storeCells_cells (P := P) b o (List.replicate (n * 2) s) 0 w (by simpa using hc) (by simpa using hf) (by intro v hv'; rw [List.eq_of_mem_replicate hv']; exact h1)
  simp only [Nat.add_zero] at hst
  obtain ⟨m, rfl⟩ : ∃ m, n = m + 1 := ⟨n - 1, by omega⟩
  simp [Builtin.clear_, run_underlying ht, hv, hzc, hst]

set_option maxRecDepth 100000 in
set_option maxHeartbeats 4000000 in
theorem compactS_some (g c n : Nat) (l : List Lb) (w : World) (P : Lbs w (some ⟨g, 0, none⟩) c l) (hn : l.length = n) (h2 : 2 ≤ n) (hs : n ≤ 100000000000) (r : RightsS l) (u : UpS l l.length) :
    Calls Tryz.prog 65 #[.slice (some ⟨g, 0, none⟩) n c, .func (.func 66) #[] #[]] w (CompactedS (some ⟨g, 0, none⟩) c l w) := by
  have hle := P.row.le
  rw [hn] at hle
  have HN := Lib.hid hn
  have HR := Lib.hid r
  have HU := Lib.hid u
  have HS0 := Lib.hid (CptS.start P (by omega))
  have hg0 : g < w.heap.size := P.row.lt rfl
  clear P hn r u
  go_enter Tryz.func65, Tryz.ntmps65
  go_wp2
  go_loopw [5] (fun i wr => ∃ (k : Nat), 1 ≤ k ∧ k ≤ n ∧ i = .int .i64 k ∧ Hid (CptS w g c l k k l wr)) (fun i _ => n + 1 - (intOf i).toNat)
  case atStart => exact ⟨1, by omega, by omega, rfl, HS0⟩
  case round =>
    obtain ⟨k, hk1, hk2, rfl, HS⟩ := hrel
    by_cases hlt : k < n
    · obtain ⟨J, rfl⟩ : ∃ J, k = J + 1 := ⟨k - 1, by omega⟩
      obtain ⟨cA0, cA1, hA, pA⟩ := HS.out.at (j := J + 1) (by rw [HN.out]; exact hlt) (by omega)
      obtain ⟨cB0, cB1, hB, pB⟩ := HS.out.at (j := J) (by rw [HN.out]; omega) (by omega)
      have hlA := hA.le
      have hlB := hB.le
      have hpA := pA.le
      have hpB := pB.le
      have Z := alike_any (lbAt l (J + 1)).a (lbAt l (J + 1)).pa (lbAt l J).a (lbAt l J).pa (lbAt l (J + 1)).c (lbAt l (J + 1)).pc (lbAt l J).c (lbAt l J).pc (lbAt l (J + 1)).x (lbAt l J).x wr.drew hA (pA.below (below_drewN _ _ 1)) hB (pB.below (below_drewN _ _ 1))
      generalize hv : decide ((lbAt l (J + 1)).x = (lbAt l J).x) = v at Z
      have HV := Lib.hid hv
      generalize (lbAt l (J + 1)).a = aA at Z cA0
      generalize (lbAt l J).a = aB at Z cB0
      generalize (lbAt l (J + 1)).c = dA at Z cA0 hlA
      generalize (lbAt l J).c = dB at Z cB0 hlB
      generalize (lbAt l (J + 1)).x.base.length = nA at Z cA0 hlA
      generalize (lbAt l J).x.base.length = nB at Z cB0 hlB
      generalize (lbAt l (J + 1)).pa = qA at Z cA1
      generalize (lbAt l J).pa = qB at Z cB1
      generalize (lbAt l (J + 1)).pc = rA at Z cA1 hpA
      generalize (lbAt l J).pc = rB at Z cB1 hpB
      generalize (lbAt l (J + 1)).x.ps.length = mA at Z cA1 hpA
      generalize (lbAt l J).x.ps.length = mB at Z cB1 hpB
      have HZ := Lib.hid Z
      have hlt0 : g < wr.heap.size := HS.out.bgs.row.lt rfl
      clear Z hA hB hv pA pB
      have i1 : (0 : Int) ≤ (J : Int) + 1 := by omega
      have i2 : (J : Int) + 1 < (n : Int) := by omega
      have i3 : (0 : Int) ≤ (J : Int) := by omega
      have i4 : (J : Int) < (n : Int) := by omega
      have hw1 : IntKind.i64.wrap ((J : Int) + 1 - 1) = (J : Int) := by rw [Int.add_sub_cancel]; exact IntWalk.i64_in _ (by omega)
      have hw3 : IntKind.i64.wrap (J : Int) = (J : Int) := IntWalk.i64_in _ (by omega)
      go_wp2
      go_region_held3 (fun w' => w'.cell? ⟨g, (J + 1) * 2, none⟩ = some (.slice aA nA dA) ∧ w'.cell? ⟨g, (J + 1) * 2 + 1, none⟩ = some (.slice qA mA rA) ∧ w'.cell? ⟨g, J * 2, none⟩ = some (.slice aB nB dB) ∧ w'.cell? ⟨g, J * 2 + 1, none⟩ = some (.slice qB mB rB))
        (first | (exact ⟨cA0, cA1, cB0, cB1⟩) | (exact ⟨dA0, dA1, dB0, dB1⟩) | go_keep)
        (first
          | (go_at_call 66; refine HZ.out.mono ?_; rintro e w2 ⟨rfl, b2⟩; (replace b2 : Below wr.heap.size wr w2 := undrew b2); (have dA0 := (b2.cell (p := ⟨g, (J + 1) * 2, none⟩) hlt0).trans cA0); (have dA1 := (b2.cell (p := ⟨g, (J + 1) * 2 + 1, none⟩) hlt0).trans cA1); (have dB0 := (b2.cell (p := ⟨g, J * 2, none⟩) hlt0).trans cB0); (have dB1 := (b2.cell (p := ⟨g, J * 2 + 1, none⟩) hlt0).trans cB1)))
      have HS2 := Lib.hid (HS.out.below b2)
      clear hw1 hw3 cA0 cA1 cB0 cB1 dA0 dA1 dB0 dB1 b2 HZ
      cases v
      · have HS3 : Hid (CptS w g c l (J + 1 + 1) (J + 1 + 1) l w2) := Lib.hid (HS2.out.new HR.out HU.out (by rw [HN.out]; exact hlt) (of_decide_eq_false HV.out) HS2.out.bgs rfl (Kept.refl _ _) (fun _ _ => rfl) rfl)
        go_wp2
        go_roundw
        case rel => exact ⟨J + 1 + 1, by omega, by omega, by go_num, HS3⟩
        case measure => simp [intOf]; omega
      · have HS3 : Hid (CptS w g c l (J + 1) (J + 1 + 1) l w2) := Lib.hid (HS2.out.same HR.out (by rw [HN.out]; exact hlt) (of_decide_eq_true HV.out))
        clear HV HS HS2
        have hcn : J + 1 < c := by omega
        go_wp2
        go_loopw [5, 7] (fun i j wr => ∃ (k k2 : Nat) (cur : List Lb), 1 ≤ k2 ∧ k < J + 1 + k2 ∧ J + 1 + k2 ≤ n ∧ i = .int .i64 k ∧ j = .int .i64 k2 ∧ Hid (CptS w g c l k (J + 1 + k2) cur wr)) (fun _ j _ => n + 1 - (intOf j).toNat)
        case atStart => exact ⟨J + 1, 1, l, by omega, by omega, by omega, by go_num, rfl, HS3⟩
        case round =>
          obtain ⟨k, k2, cur, hj1, hj2, hj3, rfl, rfl, HT⟩ := hrel
          have hlt0 : g < wr.heap.size := HT.out.bgs.row.lt rfl
          by_cases hlt2 : J + 1 + k2 < n
          · obtain ⟨M, rfl⟩ : ∃ M, k2 = M + 1 := ⟨k2 - 1, by omega⟩
            obtain ⟨cA0, cA1, hA, pA⟩ := HT.out.at (j := J + 1 + (M + 1)) (by rw [HN.out]; exact hlt2) (by omega)
            obtain ⟨cB0, cB1, hB, pB⟩ := HT.out.at (j := J + 1 + M) (by rw [HN.out]; omega) (by omega)
            rw [show (J + 1 + (M + 1)) * 2 = (J + 1) * 2 + (M + 1) * 2 by omega] at cA0 cA1
            rw [show (J + 1 + M) * 2 = (J + 1) * 2 + M * 2 by omega] at cB0 cB1
            have hlA := hA.le
            have hlB := hB.le
            have hpA := pA.le
            have hpB := pB.le
            have Z := alike_any (lbAt l (J + 1 + (M + 1))).a (lbAt l (J + 1 + (M + 1))).pa (lbAt l (J + 1 + M)).a (lbAt l (J + 1 + M)).pa (lbAt l (J + 1 + (M + 1))).c (lbAt l (J + 1 + (M + 1))).pc (lbAt l (J + 1 + M)).c (lbAt l (J + 1 + M)).pc (lbAt l (J + 1 + (M + 1))).x (lbAt l (J + 1 + M)).x wr.drew hA (pA.below (below_drewN _ _ 1)) hB (pB.below (below_drewN _ _ 1))
            have HSt : Hid (∀ W, CptS w g c l k (J + 1 + (M + 1)) cur W → (lbAt l (J + 1 + (M + 1))).x ≠ (lbAt l (J + 1 + M)).x → CptS w g c l (k + 1) (J + 1 + (M + 1) + 1) (cur.set k (lbAt l (J + 1 + (M + 1)))) ((W.setCell ⟨g, k * 2, none⟩ (.slice (lbAt l (J + 1 + (M + 1))).a (lbAt l (J + 1 + (M + 1))).x.base.length (lbAt l (J + 1 + (M + 1))).c)).setCell ⟨g, k * 2 + 1, none⟩ (.slice (lbAt l (J + 1 + (M + 1))).pa (lbAt l (J + 1 + (M + 1))).x.ps.length (lbAt l (J + 1 + (M + 1))).pc))) :=
              Lib.hid (fun W h ne => h.store HR.out HU.out (by rw [HN.out]; exact hlt2) ne)
            generalize hv : decide ((lbAt l (J + 1 + (M + 1))).x = (lbAt l (J + 1 + M)).x) = v at Z
            have HV := Lib.hid hv
            generalize hba : (lbAt l (J + 1 + (M + 1))).a = aC at Z cA0 HSt
            generalize (lbAt l (J + 1 + M)).a = aD at Z cB0
            generalize hbc : (lbAt l (J + 1 + (M + 1))).c = dC at Z cA0 hlA HSt
            generalize (lbAt l (J + 1 + M)).c = dD at Z cB0 hlB
            generalize hbn : (lbAt l (J + 1 + (M + 1))).x.base.length = nC at Z cA0 hlA HSt
            generalize (lbAt l (J + 1 + M)).x.base.length = nD at Z cB0 hlB
            generalize hpa : (lbAt l (J + 1 + (M + 1))).pa = qC at Z cA1 HSt
            generalize (lbAt l (J + 1 + M)).pa = qD at Z cB1
            generalize hpc : (lbAt l (J + 1 + (M + 1))).pc = rC at Z cA1 hpA HSt
            generalize (lbAt l (J + 1 + M)).pc = rD at Z cB1 hpB
            generalize hpn : (lbAt l (J + 1 + (M + 1))).x.ps.length = mC at Z cA1 hpA HSt
            generalize (lbAt l (J + 1 + M)).x.ps.length = mD at Z cB1 hpB
            clear hba hbc hbn hpa hpc hpn
            have HZ := Lib.hid Z
            clear Z hA hB hv pA pB
            have j1 : (0 : Int) ≤ (M : Int) + 1 := by omega
            have j2 : (M : Int) + 1 < ((n - (J + 1) : Nat) : Int) := by omega
            have j3 : (0 : Int) ≤ (M : Int) := by omega
            have j4 : (M : Int) < ((n - (J + 1) : Nat) : Int) := by omega
            have hw1 : IntKind.i64.wrap ((M : Int) + 1 - 1) = (M : Int) := by rw [Int.add_sub_cancel]; exact IntWalk.i64_in _ (by omega)
            have hw3 : IntKind.i64.wrap (M : Int) = (M : Int) := IntWalk.i64_in _ (by omega)
            go_wp2
            go_region_held3 (fun w' => w'.cell? ⟨g, (J + 1) * 2 + (M + 1) * 2, none⟩ = some (.slice aC nC dC) ∧ w'.cell? ⟨g, (J + 1) * 2 + (M + 1) * 2 + 1, none⟩ = some (.slice qC mC rC) ∧ w'.cell? ⟨g, (J + 1) * 2 + M * 2, none⟩ = some (.slice aD nD dD) ∧ w'.cell? ⟨g, (J + 1) * 2 + M * 2 + 1, none⟩ = some (.slice qD mD rD))
              (first | (exact ⟨cA0, cA1, cB0, cB1⟩) | (exact ⟨dA0, dA1, dB0, dB1⟩) | go_keep)
              (first
                | (go_at_call 66; refine HZ.out.mono ?_; rintro e w2 ⟨rfl, b2⟩; (replace b2 : Below wr.heap.size wr w2 := undrew b2); (have dA0 := (b2.cell (p := ⟨g, (J + 1) * 2 + (M + 1) * 2, none⟩) hlt0).trans cA0); (have dA1 := (b2.cell (p := ⟨g, (J + 1) * 2 + (M + 1) * 2 + 1, none⟩) hlt0).trans cA1); (have dB0 := (b2.cell (p := ⟨g, (J + 1) * 2 + M * 2, none⟩) hlt0).trans cB0); (have dB1 := (b2.cell (p := ⟨g, (J + 1) * 2 + M * 2 + 1, none⟩) hlt0).trans cB1)))
            have HT2 := Lib.hid (HT.out.below b2)
            clear hw1 hw3 cA0 cA1 cB0 cB1 b2 HZ dB0 dB1
            cases v
            · have HT3 := Lib.hid (HSt.out w2 HT2.out (of_decide_eq_false HV.out))
              have zA := HT2.out.bgs.row.frozen2 (k * 2)
              have zB := HT2.out.bgs.row.frozen2 (k * 2 + 1)
              have hcell := HT2.out.cells 0 (by rw [HN.out]; omega)
              have hcell1 := HT2.out.cells 1 (by rw [HN.out]; omega)
              rw [Nat.add_zero] at hcell
              obtain ⟨old, hold⟩ := Option.isSome_iff_exists.1 hcell
              obtain ⟨old1, hold1⟩ := Option.isSome_iff_exists.1 hcell1
              clear hcell hcell1
              have q1 : (k : Int) < (n : Int) := by omega
              have q2 : (0 : Int) ≤ (k : Int) := by omega
              go_wp2
              go_roundw
              case rel => exact ⟨k + 1, M + 1 + 1, _, by omega, by omega, by omega, by go_num, by go_num, HT3⟩
              case measure => simp [intOf]; omega
            · clear HSt dA0 dA1
              have HT3 : Hid (CptS w g c l k (J + 1 + (M + 1) + 1) cur w2) := Lib.hid (HT2.out.same HR.out (by rw [HN.out]; exact hlt2) (of_decide_eq_true HV.out))
              go_wp2
              go_roundw
              case rel => exact ⟨k, M + 1 + 1, cur, by omega, by omega, by omega, rfl, by go_num, HT3⟩
              case measure => simp [intOf]; omega
          · have hend : J + 1 + k2 = n := by omega
            have hkn : k < n := by omega
            have hkc : k < c := by omega
            have hcl : ∀ ty, (Builtin.clear_ #[32] ty #[.slice (some ⟨g, k * 2, none⟩) (n - k) (c - k)]).run Tryz.prog wr = .ok (.tuple #[]) (wr.setCells g (k * 2) (List.replicate ((n - k) * 2) (.slice none 0 0))) :=
              fun ty => run_clear_slice2 wr _ _ ty _ _ Tryz.underlying32 zeroLin rfl rfl g (k * 2) _ _ (by omega) (fun j hj => HT.out.cells j (by rw [HN.out]; exact hj)) (fun j _ => HT.out.bgs.row.frozen2 _)
            have HF : Hid (CompactedS (some ⟨g, 0, none⟩) c l w (.returned (.slice (some ⟨g, 0, none⟩) k c)) (wr.setCells g (k * 2) (List.replicate ((n - k) * 2) (.slice none 0 0)))) := Lib.hid (by
              have h1 := HT.out.wiped
              rw [HN.out] at h1
              exact HT.out.out (hend.trans HN.out.symm) h1.1 h1.2)
            have j2 : ¬ (k2 : Int) < ((n - (J + 1) : Nat) : Int) := by omega
            go_wp2_with (simp only [hcl])
            go_ret
            exact HF.out
    · obtain rfl : k = n := by omega
      have HF : Hid (CompactedS (some ⟨g, 0, none⟩) c l w (.returned (.slice (some ⟨g, 0, none⟩) k c)) wr) := Lib.hid (HS.out.out HN.out.symm (by rw [List.take_of_length_le (by rw [HN.out]; exact Nat.le_refl _)]; exact HS.out.bgs) (Kept.refl _ _))
      go_wp2
      go_ret
      exact HF.out
set_option maxRecDepth 100000 in
theorem compactS_few (a : Option Addr) (c n : Nat) (l : List Lb) (w : World) (P : Lbs w a c l) (hn : l.length = n) (h2 : n < 2) :
    Calls Tryz.prog 65 #[.slice a n c, .func (.func 66) #[] #[]] w (CompactedS a c l w) := by
  have HF : Hid (CompactedS a c l w (.returned (.slice a n c)) w) := Lib.hid ⟨l, by rw [hn], P, Kept.refl _ _, fun _ h => h, fun x hx => List.mem_map.2 ⟨x, hx, rfl⟩, by
    obtain h | h : l.length = 0 ∨ l.length = 1 := by omega
    · rw [List.eq_nil_of_length_eq_zero h]; exact .nil
    · obtain ⟨x, rfl⟩ := List.length_eq_one_iff.1 h
      simp [lins]⟩
  have h1 : decide ((n : Int) < 2) = true := by simp; omega
  clear P hn
  go_enter Tryz.func65, Tryz.ntmps65
  go_wp2
  go_ret
  exact HF.out
set_option maxRecDepth 100000 in
theorem compactS_any (a : Option Addr) (c n : Nat) (l : List Lb) (w : World) (P : Lbs w a c l) (hn : l.length = n) (hs : n ≤ 100000000000) (r : RightsS l) (u : UpS l l.length) :
    Calls Tryz.prog 65 #[.slice a n c, .func (.func 66) #[] #[]] w (CompactedS a c l w) := by
  by_cases h2 : n < 2
  · exact compactS_few a c n l w P hn h2
  · rcases P.row with ⟨_, ⟨rfl, rfl, h⟩ | ⟨g, _, rfl, _⟩⟩
    · omega
    · exact compactS_some g c n l w P hn (by omega) hs r u
end Go.Proofs.YtfkaagndlpcfdaaGreat

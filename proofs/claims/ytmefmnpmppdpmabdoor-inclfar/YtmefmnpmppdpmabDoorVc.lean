import Derived.Test.YtmefmnpmppdpmabDoorVa
import Derived.Test.YtmefmnpmppdpmabDoorNd
import Derived.Test.YtmefmnpmppdpmabDoorCk
import Derived.Test.YtmefmnpmppdpmabDoorWa
/- The program's ordered, half, Letter, Start, Final (auto). -/

/-! slices.CompactFunc at items, by the function of auto.ordered. -/
namespace Go.Proofs.YtmefmnpmppdpmabDoor
open Go.ChangeShapes Go.WideShapes Go.ChangeAt Go.RowKit

def ib0 : Ib := ⟨none, 0, ⟨0, []⟩⟩
/-- Place p of them. -/
def ibAt (l : List Ib) (p : Nat) : Ib := l.getD p ib0
theorem ibAt_get {l : List Ib} {p : Nat} (h : p < l.length) : ibAt l p = l[p] := by simp [ibAt, List.getD, h]
def RightsI (l : List Ib) : Prop := ∀ p ∈ l, rightIt p.x = true
/-- Up to place k they rise. -/
def UpIb (l : List Ib) (k : Nat) : Prop := ∀ p q, p < q → q < k → cmpI (ibAt l p).x (ibAt l q).x ≤ 0
theorem at_rightI {l : List Ib} (h : RightsI l) (p : Nat) : rightIt (ibAt l p).x = true := by
  by_cases hp : p < l.length
  · rw [ibAt_get hp]; exact h _ (List.getElem_mem hp)
  · have : ibAt l p = ib0 := by simp [ibAt, List.getD, hp]
    rw [this]; exact right_empty
theorem iflat_set : ∀ (l : List Ib) (k : Nat), k < l.length → ∀ {x : Ib}, iflat (l.set k x) = ((iflat l).set (k * 2) (.int .i64 x.x.j)).set (k * 2 + 1) (.slice x.a x.x.c.length x.c)
  | [], _, h, _ => by simp at h
  | l :: r, 0, _, x => by
    have e : iflat (l :: r) = l.cells ++ iflat r := rfl
    rw [e]
    show x.cells ++ iflat r = _
    rfl
  | l :: r, k + 1, h, x => by
    have e : iflat (l :: r) = l.cells ++ iflat r := rfl
    have e2 : iflat ((l :: r).set (k + 1) x) = l.cells ++ iflat (r.set k x) := rfl
    rw [e2, iflat_set r k (by simpa using h), e]
    have h1 : (k + 1) * 2 = k * 2 + 1 + 1 := by omega
    rw [h1]
    rfl
theorem RowI.frozenI {w : World} {g c n : Nat} {xs : List Value} (h : RowI w (some ⟨g, 0, none⟩) c n xs) (j : Nat) : w.frozen? ⟨g, j, none⟩ = false := by
  obtain ⟨_, h⟩ := h
  rcases h with ⟨h, _⟩ | ⟨g', sp, e, _, _, _, l⟩
  · cases h
  · injection e with e; injection e with e; subst e
    exact l.frozen j
theorem RowI.putI2 {w : World} {g c n : Nat} {xs : List Value} (h : RowI w (some ⟨g, 0, none⟩) c n xs) {k : Nat} (hk : k < n) (u v : Value) : RowI ((w.setCell ⟨g, k * 2, none⟩ u).setCell ⟨g, k * 2 + 1, none⟩ v) (some ⟨g, 0, none⟩) c n ((xs.set (k * 2) u).set (k * 2 + 1) v) := by
  obtain ⟨h0, h⟩ := h
  refine ⟨by simpa using h0, ?_⟩
  rcases h with ⟨h, _⟩ | ⟨g', sp, e, h1, h2, h3, l⟩
  · cases h
  · injection e with e; injection e with e; subst e
    refine .inr ⟨g, sp, rfl, by simpa using h1, h2, h3, ((l.set (k * 2) u).set (k * 2 + 1) v).to ?_⟩
    rw [List.set_append_left _ _ (by omega), List.set_append_left _ _ (by rw [List.length_set]; omega)]
theorem iflat_take : ∀ (l : List Ib) (k : Nat), (iflat l).take (k * 2) = iflat (l.take k)
  | [], k => by simp [iflat]
  | x :: r, 0 => by simp [iflat]
  | x :: r, k + 1 => by
    have e : iflat (x :: r) = .int .i64 x.x.j :: .slice x.a x.x.c.length x.c :: iflat r := rfl
    rw [e, show (k + 1) * 2 = k * 2 + 1 + 1 by omega, List.take_succ_cons, List.take_succ_cons, iflat_take r k]
    rfl

/-- n times two cells. -/
def pairs (u v : Value) : Nat → List Value
  | 0 => []
  | n + 1 => u :: v :: pairs u v n
theorem pairs_len (u v : Value) : ∀ n, (pairs u v n).length = n * 2
  | 0 => rfl
  | n + 1 => by rw [pairs, List.length_cons, List.length_cons, pairs_len u v n]; omega
theorem pairs_mem {u v x : Value} : ∀ {n}, x ∈ pairs u v n → x = u ∨ x = v
  | 0, h => by simp [pairs] at h
  | n + 1, h => by
    rw [pairs, List.mem_cons, List.mem_cons] at h
    rcases h with h | h | h
    · exact .inl h
    · exact .inr h
    · exact pairs_mem h
theorem pairs_get {u v : Value} : ∀ {n i : Nat} (h : i < (pairs u v n).length), (pairs u v n)[i] = if i % 2 = 0 then u else v
  | 0, _, h => by simp [pairs] at h
  | n + 1, 0, _ => by simp [pairs]
  | n + 1, 1, _ => by simp [pairs]
  | n + 1, i + 2, h => by
    have h2 : i < (pairs u v n).length := by rw [pairs_len] at h ⊢; omega
    have := pairs_get (u := u) (v := v) (n := n) (i := i) h2
    rw [show (i + 2) % 2 = i % 2 by omega, ← this]
    simp [pairs]
theorem run_clear_pairs {P : Program} (w : World) (t e ty : TypeId) (z u v : Value) (ht : P.underlying t = some (.slice e)) (hv : ∀ w, (zeroValue e).run P w = .ok z w) (hz : z.cells = #[u, v]) (h1 : u.oneCell' = true) (h2 : v.oneCell' = true) (b o n c : Nat) (hn : 0 < n)
    (hc : ∀ j, j < n * 2 → (w.cell? ⟨b, o + j, none⟩).isSome = true) (hf : ∀ j, j < n * 2 → w.frozen? ⟨b, o + j, none⟩ = false) :
    (Builtin.clear_ #[t] ty #[.slice (some ⟨b, o, none⟩) n c]).run P w = .ok (.tuple #[]) (w.setCells b o (pairs u v n)) := by
  have hzc : (Builtin.zeroCells z.cells n).toList = pairs u v n := by
    rw [hz]
    simp only [Builtin.zeroCells]
    apply List.ext_getElem
    · simp [pairs_len]
    · intro i h1 h2
      rw [pairs_get]
      simp only [Array.getElem_toList, Array.getElem_map, Array.getElem_range]
      have : i % 2 = 0 ∨ i % 2 = 1 := by omega
      show (#[u, v] : Array Value)[i % 2]! = _
      rcases this with h | h <;> rw [h] <;> rfl
  have hst := run_storeCells_cells (P := P) b o (pairs u v n) 0 w (by simpa [pairs_len] using hc) (by simpa [pairs_len] using hf) (by intro x hx; rcases pairs_mem hx with rfl | rfl <;> assumption)
  simp only [Nat.add_zero] at hst
  obtain ⟨m, rfl⟩ : ∃ m, n = m + 1 := ⟨n - 1, by omega⟩
  simp [Builtin.clear_, run_underlying ht, hv, hzc, hst]

/-- How far compacting has come: the first k of cur stand for the first K of l. -/
structure CptI (w : World) (g c : Nat) (l : List Ib) (k K : Nat) (cur : List Ib) (W : World) : Prop where
  bgs : Ibs W (some ⟨g, 0, none⟩) c cur
  len : cur.length = l.length
  kept : Kept (fun x => (some ⟨g, 0, none⟩ : Option Addr) = some ⟨x, 0, none⟩) w W
  pos : 1 ≤ k
  le : k ≤ K
  top : K ≤ l.length
  tail : ∀ i, K ≤ i + 1 → ibAt cur i = ibAt l i
  src : ∀ i, i < k → ibAt cur i ∈ l
  all : ∀ j, j < K → ∃ i, i < k ∧ (ibAt cur i).x = (ibAt l j).x
  up : ∀ p q, p < q → q < k → cmpI (ibAt cur p).x (ibAt cur q).x < 0
  last : (ibAt cur (k - 1)).x = (ibAt l (K - 1)).x
set_option maxRecDepth 100000 in
theorem ibAt_mem {l : List Ib} {i : Nat} (h : i < l.length) : ibAt l i ∈ l := by rw [ibAt_get h]; exact List.getElem_mem h
set_option maxRecDepth 100000 in
theorem CptI.start {w : World} {g c : Nat} {l : List Ib} (P : Ibs w (some ⟨g, 0, none⟩) c l) (h : 1 ≤ l.length) : CptI w g c l 1 1 l w :=
  ⟨P, rfl, Kept.refl _ _, Nat.le_refl _, Nat.le_refl _, h, fun _ _ => rfl, fun i hi => ibAt_mem (by omega), fun j hj => ⟨j, hj, rfl⟩, fun p q h1 h2 => by omega, rfl⟩
set_option maxRecDepth 100000 in
theorem CptI.below {w W W' : World} {g c k K : Nat} {l cur : List Ib} (h : CptI w g c l k K cur W) (b : Below W.heap.size W W') : CptI w g c l k K cur W' :=
  ⟨h.bgs.below b, h.len, h.kept.trans (Y := fun _ => False) (Kept.of_below b) (fun _ _ e => e.elim), h.pos, h.le, h.top, h.tail, h.src, h.all, h.up, h.last⟩
set_option maxRecDepth 100000 in
theorem CptI.same {w W : World} {g c k K : Nat} {l cur : List Ib} (h : CptI w g c l k K cur W) (_r : RightsI l) (hK : K < l.length) (e : (ibAt l K).x = (ibAt l (K - 1)).x) : CptI w g c l k (K + 1) cur W := by
  have e' : (ibAt l K).x = (ibAt l (K - 1)).x := e
  have hp := h.pos
  have hl := h.le
  refine ⟨h.bgs, h.len, h.kept, h.pos, by omega, hK, fun i hi => h.tail i (by omega), h.src, fun j hj => ?_, h.up, ?_⟩
  · by_cases ej : j = K
    · subst ej; exact ⟨k - 1, by omega, by rw [h.last, e']⟩
    · exact h.all j (by omega)
  · rw [h.last, Nat.add_sub_cancel, e']
set_option maxRecDepth 100000 in
theorem CptI.new {w W W' : World} {g c k K : Nat} {l cur cur' : List Ib} (h : CptI w g c l k K cur W) (r : RightsI l) (u : UpIb l l.length) (hK : K < l.length) (e : (ibAt l K).x ≠ (ibAt l (K - 1)).x)
    (B : Ibs W' (some ⟨g, 0, none⟩) c cur') (hl' : cur'.length = l.length) (hk' : Kept (fun x => (some ⟨g, 0, none⟩ : Option Addr) = some ⟨x, 0, none⟩) W W')
    (ho : ∀ i, i ≠ k → ibAt cur' i = ibAt cur i) (hk : ibAt cur' k = ibAt l K) : CptI w g c l (k + 1) (K + 1) cur' W' := by
  have hp := h.pos
  have hl := h.le
  have lt : cmpI (ibAt l (K - 1)).x (ibAt l K).x < 0 := by
    have h1 : cmpI (ibAt l (K - 1)).x (ibAt l K).x ≤ 0 := u (K - 1) K (by omega) hK
    have h2 := cmpI_neg (at_rightI r (K - 1)) (at_rightI r K)
    have h3 : cmpI (ibAt l (K - 1)).x (ibAt l K).x ≠ 0 := fun h => e ((cmpI_zero (at_rightI r _) (at_rightI r _)).1 h).symm
    omega
  refine ⟨B, hl', h.kept.trans hk' (fun _ _ e => e), by omega, by omega, hK, fun i hi => ?_, fun i hi => ?_, fun j hj => ?_, fun p q h1 h2 => ?_, ?_⟩
  · by_cases e : i = k
    · subst e
      rw [hk, show K = i by omega]
    · rw [ho i e]; exact h.tail i (by omega)
  · by_cases e : i = k
    · subst e; rw [hk]; exact ibAt_mem hK
    · rw [ho i e]; exact h.src i (by omega)
  · by_cases ej : j = K
    · subst ej; exact ⟨k, by omega, by rw [hk]⟩
    · obtain ⟨i, hi, e⟩ := h.all j (by omega)
      exact ⟨i, by omega, by rw [ho i (by omega)]; exact e⟩
  · by_cases e2 : q = k
    · subst e2
      rw [hk, ho p (by omega)]
      have hr : ∀ i, i < q → rightIt (ibAt cur i).x = true := fun i hi => r _ (h.src i hi)
      by_cases e3 : p = q - 1
      · rw [e3, h.last]; exact lt
      · have h3 := h.up p (q - 1) (by omega) (by omega)
        rw [h.last] at h3
        exact cmpI_lt_trans (hr p h1) (at_rightI r _) (at_rightI r _) h3 lt
    · rw [ho p (by omega), ho q e2]; exact h.up p q h1 (by omega)
  · rw [Nat.add_sub_cancel, Nat.add_sub_cancel, hk]
set_option maxRecDepth 100000 in
theorem setI_at {cur : List Ib} {k i : Nat} (x : Ib) (hk : k < cur.length) : ibAt (cur.set k x) i = if i = k then x else ibAt cur i := by
  unfold ibAt
  simp only [List.getD_eq_getElem?_getD, List.getElem?_set]
  by_cases h : k = i
  · subst h; simp [hk]
  · rw [if_neg h, if_neg (fun e => h e.symm)]
set_option maxRecDepth 100000 in
/-- The store of one at place k. -/
theorem CptI.store {w W : World} {g c k K : Nat} {l cur : List Ib} (h : CptI w g c l k K cur W) (r : RightsI l) (u : UpIb l l.length) (hK : K < l.length) (e : (ibAt l K).x ≠ (ibAt l (K - 1)).x) :
    CptI w g c l (k + 1) (K + 1) (cur.set k (ibAt l K)) ((W.setCell ⟨g, k * 2, none⟩ (.int .i64 (ibAt l K).x.j)).setCell ⟨g, k * 2 + 1, none⟩ (.slice (ibAt l K).a (ibAt l K).x.c.length (ibAt l K).c)) := by
  have hkl : k < cur.length := by rw [h.len]; exact Nat.lt_of_le_of_lt h.le hK
  have k1 : Kept (fun x => (some ⟨g, 0, none⟩ : Option Addr) = some ⟨x, 0, none⟩) W ((W.setCell ⟨g, k * 2, none⟩ (.int .i64 (ibAt l K).x.j)).setCell ⟨g, k * 2 + 1, none⟩ (.slice (ibAt l K).a (ibAt l K).x.c.length (ibAt l K).c)) :=
    ((Kept.refl (fun x => (some ⟨g, 0, none⟩ : Option Addr) = some ⟨x, 0, none⟩) W).setCell (p := ⟨g, k * 2, none⟩) (fun _ => rfl) _).setCell (p := ⟨g, k * 2 + 1, none⟩) (fun _ => rfl) _
  refine h.new r u hK e ⟨?_, fun p hp => ?_⟩ (by rw [List.length_set]; exact h.len) k1 (fun i hi => by rw [setI_at _ hkl, if_neg hi]) (by rw [setI_at _ hkl, if_pos rfl])
  · rw [List.length_set, iflat_set _ _ hkl]
    exact h.bgs.row.putI2 hkl _ _
  · rcases List.mem_or_eq_of_mem_set hp with hp | rfl
    · exact keptBagI h.bgs.row k1 (h.bgs.each p hp)
    · refine keptBagI h.bgs.row k1 (h.bgs.each _ ?_)
      rw [← h.tail K (by omega)]
      exact ibAt_mem (by rw [h.len]; exact hK)
theorem CptI.at {w W : World} {g c k K : Nat} {l cur : List Ib} (h : CptI w g c l k K cur W) {j : Nat} (hj : j < l.length) (hK : K ≤ j + 1) : W.cell? ⟨g, j * 2, none⟩ = some (.int .i64 (ibAt l j).x.j) ∧
    W.cell? ⟨g, j * 2 + 1, none⟩ = some (.slice (ibAt l j).a (ibAt l j).x.c.length (ibAt l j).c) ∧ Bag W (ibAt l j).a (ibAt l j).c (ibAt l j).x.c := by
  have hj' : j < cur.length := by rw [h.len]; exact hj
  obtain ⟨g', e, c0, c1, hb⟩ := h.bgs.at hj'
  injection e with e; injection e with e; subst e
  rw [← h.tail j hK, ibAt_get hj']
  exact ⟨c0, c1, hb⟩
/-- What compacting comes to. -/
def CompactedI (a : Option Addr) (c : Nat) (l : List Ib) (w : World) (e : Ending) (w' : World) : Prop :=
  ∃ out, e = .returned (.slice a out.length c) ∧ Ibs w' a c out ∧ Kept (fun x => a = some ⟨x, 0, none⟩) w w' ∧ (∀ x ∈ out, x ∈ l) ∧ (∀ x ∈ l, x.x ∈ its out) ∧ (its out).Pairwise (fun x y => cmpI x y < 0)
set_option maxRecDepth 100000 in
theorem CptI.out {w W W' : World} {g c k K : Nat} {l cur : List Ib} (h : CptI w g c l k K cur W) (hK : K = l.length) (B : Ibs W' (some ⟨g, 0, none⟩) c (cur.take k)) (k1 : Kept (fun x => (some ⟨g, 0, none⟩ : Option Addr) = some ⟨x, 0, none⟩) W W') :
    CompactedI (some ⟨g, 0, none⟩) c l w (.returned (.slice (some ⟨g, 0, none⟩) k c)) W' := by
  have hkl : k ≤ cur.length := by have := h.le; have := h.top; rw [h.len]; omega
  have hl : (cur.take k).length = k := by rw [List.length_take]; omega
  have ht : ∀ i, i < k → ∀ hi : i < (cur.take k).length, (cur.take k)[i] = ibAt cur i := fun i hi hi' => by rw [ibAt_get (by omega)]; simp
  refine ⟨cur.take k, by rw [hl], B, h.kept.trans k1 (fun _ _ e => e), fun x hx => ?_, fun x hx => ?_, ?_⟩
  · obtain ⟨i, hi, rfl⟩ := List.getElem_of_mem hx
    rw [ht i (by omega) hi]
    exact h.src i (by omega)
  · obtain ⟨j, hj, rfl⟩ := List.getElem_of_mem hx
    obtain ⟨i, hi, e⟩ := h.all j (by omega)
    rw [ibAt_get hj] at e
    rw [← e, its, List.mem_map]
    refine ⟨ibAt cur i, ?_, rfl⟩
    rw [← ht i hi (by omega)]
    exact List.getElem_mem _
  · rw [List.pairwise_iff_getElem]
    intro i j hi hj hij
    rw [its_len] at hi hj
    have e1 : ∀ m, ∀ hm : m < (its (cur.take k)).length, (its (cur.take k))[m] = (ibAt cur m).x := fun m hm => by
      have hm' : m < (cur.take k).length := by rwa [its_len] at hm
      have : (its (cur.take k))[m] = ((cur.take k)[m]).x := by simp [its]
      rw [this, ht m (by omega) hm']
    rw [e1, e1]
    exact h.up i j hij (by omega)
/-- The places behind k are cleared. -/
theorem CptI.wiped {w W : World} {g c k K : Nat} {l cur : List Ib} (h : CptI w g c l k K cur W) : Ibs (W.setCells g (k * 2) (pairs (.int .i64 0) (.slice none 0 0) (l.length - k))) (some ⟨g, 0, none⟩) c (cur.take k) ∧
    Kept (fun x => (some ⟨g, 0, none⟩ : Option Addr) = some ⟨x, 0, none⟩) W (W.setCells g (k * 2) (pairs (.int .i64 0) (.slice none 0 0) (l.length - k))) := by
  have k1 : Kept (fun x => (some ⟨g, 0, none⟩ : Option Addr) = some ⟨x, 0, none⟩) W (W.setCells g (k * 2) (pairs (.int .i64 0) (.slice none 0 0) (l.length - k))) := (setCells_kept g _ _ _).mono (fun i _ e => by rw [e])
  have hkl : k ≤ cur.length := by have := h.le; have := h.top; rw [h.len]; omega
  refine ⟨⟨?_, fun p hp => keptBagI h.bgs.row k1 (h.bgs.each p (List.mem_of_mem_take hp))⟩, k1⟩
  obtain ⟨_, rr⟩ := h.bgs.row
  rcases rr with ⟨e, _⟩ | ⟨g', sp, e, hc, hcl, hm, L⟩
  · cases e
  · injection e with e; injection e with e; subst e
    have L2 := Lies.setCells (pairs (.int .i64 0) (.slice none 0 0) (l.length - k)) (k * 2) W _ L (by have := h.len; rw [List.length_append, iflat_len, pairs_len]; omega)
    rw [pairs_len] at L2
    have e1 : (iflat cur ++ sp).take (k * 2) = iflat (cur.take k) := by
      rw [List.take_append_of_le_length (by rw [iflat_len]; omega), iflat_take]
    rw [e1, List.append_assoc] at L2
    have hl := h.len
    refine ⟨iflat_len _, .inr ⟨g, _, rfl, ?_, ?_, hm, L2⟩⟩
    · simp only [List.length_append, iflat_len, List.length_take, pairs_len, List.length_drop] at hc ⊢
      omega
    · rw [List.length_take]; omega
theorem CptI.cells {w W : World} {g c k K : Nat} {l cur : List Ib} (h : CptI w g c l k K cur W) : ∀ j, j < (l.length - k) * 2 → (W.cell? ⟨g, k * 2 + j, none⟩).isSome = true := fun j hj => by
  have hl : (iflat cur).length = cur.length * 2 := iflat_len cur
  have hlt : k * 2 + j < (iflat cur).length := by rw [hl, h.len]; omega
  obtain ⟨g', e, hc⟩ := h.bgs.row.cell (List.getElem?_eq_getElem hlt)
  injection e with e; injection e with e; subst e
  rw [hc]; rfl
theorem zeroItem (w : World) : (zeroValue 65).run Tryd.prog w = .ok (.agg #[.int .i64 0, .slice none 0 0]) w := by kernel_rfl
set_option maxRecDepth 100000 in
set_option maxHeartbeats 4000000 in
theorem compactI_some (g c n : Nat) (l : List Ib) (w : World) (P : Ibs w (some ⟨g, 0, none⟩) c l) (hn : l.length = n) (h2 : 2 ≤ n) (hs : n ≤ 100000000000) (r : RightsI l) (u : UpIb l l.length) :
    Calls Tryd.prog 57 #[.slice (some ⟨g, 0, none⟩) n c, .func (.func 58) #[] #[]] w (CompactedI (some ⟨g, 0, none⟩) c l w) := by
  have hle := P.row.le
  rw [hn] at hle
  have HN := Lib.hid hn
  have HR := Lib.hid r
  have HU := Lib.hid u
  have HS0 := Lib.hid (CptI.start P (by omega))
  have hg0 : g < w.heap.size := P.row.lt rfl
  clear P hn r u
  go_enter Tryd.func57, Tryd.ntmps57
  go_wp2
  go_loopw [5] (fun i wr => ∃ (k : Nat), 1 ≤ k ∧ k ≤ n ∧ i = .int .i64 k ∧ Hid (CptI w g c l k k l wr)) (fun i _ => n + 1 - (intOf i).toNat)
  case atStart => exact ⟨1, by omega, by omega, rfl, HS0⟩
  case round =>
    obtain ⟨k, hk1, hk2, rfl, HS⟩ := hrel
    by_cases hlt : k < n
    · obtain ⟨J, rfl⟩ : ∃ J, k = J + 1 := ⟨k - 1, by omega⟩
      obtain ⟨cA0, cA1, hA⟩ := HS.out.at (j := J + 1) (by rw [HN.out]; exact hlt) (by omega)
      obtain ⟨cB0, cB1, hB⟩ := HS.out.at (j := J) (by rw [HN.out]; omega) (by omega)
      have hlA := hA.le
      have hlB := hB.le
      have Z := alikeI_any (ibAt l (J + 1)).a (ibAt l J).a (ibAt l (J + 1)).c (ibAt l J).c (ibAt l (J + 1)).x (ibAt l J).x wr.drew hA hB (at_rightI HR.out _) (at_rightI HR.out _)
      generalize hv : decide ((ibAt l (J + 1)).x = (ibAt l J).x) = v at Z
      have HV := Lib.hid hv
      generalize (ibAt l (J + 1)).x.j = jA at Z cA0
      generalize (ibAt l (J + 1)).a = aA at Z cA1
      generalize (ibAt l J).x.j = jB at Z cB0
      generalize (ibAt l J).a = aB at Z cB1
      generalize (ibAt l (J + 1)).c = dA at Z cA1 hlA
      generalize (ibAt l J).c = dB at Z cB1 hlB
      generalize (ibAt l (J + 1)).x.c.length = nA at Z cA1 hlA
      generalize (ibAt l J).x.c.length = nB at Z cB1 hlB
      have HZ := Lib.hid Z
      have hlt0 : g < wr.heap.size := HS.out.bgs.row.lt rfl
      clear Z hA hB hv
      have i1 : (0 : Int) ≤ (J : Int) + 1 := by omega
      have i2 : (J : Int) + 1 < (n : Int) := by omega
      have i3 : (0 : Int) ≤ (J : Int) := by omega
      have i4 : (J : Int) < (n : Int) := by omega
      have hw1 : IntKind.i64.wrap ((J : Int) + 1 - 1) = (J : Int) := by rw [Int.add_sub_cancel]; exact IntWalk.i64_in _ (by omega)
      have hw3 : IntKind.i64.wrap (J : Int) = (J : Int) := IntWalk.i64_in _ (by omega)
      go_wp2
      go_region_held3 (fun w' => w'.cell? ⟨g, (J + 1) * 2, none⟩ = some (.int .i64 jA) ∧ w'.cell? ⟨g, (J + 1) * 2 + 1, none⟩ = some (.slice aA nA dA) ∧ w'.cell? ⟨g, J * 2, none⟩ = some (.int .i64 jB) ∧ w'.cell? ⟨g, J * 2 + 1, none⟩ = some (.slice aB nB dB))
        (first | (exact ⟨cA0, cA1, cB0, cB1⟩) | (exact ⟨dA0, dA1, dB0, dB1⟩) | go_keep)
        (first
          | (go_at_call 58; refine HZ.out.mono ?_; rintro e w2 ⟨rfl, b2⟩; (replace b2 : Below wr.heap.size wr w2 := undrew b2); (have dA0 := (b2.cell (p := ⟨g, (J + 1) * 2, none⟩) hlt0).trans cA0); (have dA1 := (b2.cell (p := ⟨g, (J + 1) * 2 + 1, none⟩) hlt0).trans cA1); (have dB0 := (b2.cell (p := ⟨g, J * 2, none⟩) hlt0).trans cB0); (have dB1 := (b2.cell (p := ⟨g, J * 2 + 1, none⟩) hlt0).trans cB1)))
      have HS2 := Lib.hid (HS.out.below b2)
      clear hw1 hw3 cA0 cA1 cB0 cB1 dA0 dA1 dB0 dB1 b2 HZ
      cases v
      · have HS3 : Hid (CptI w g c l (J + 1 + 1) (J + 1 + 1) l w2) := Lib.hid (HS2.out.new HR.out HU.out (by rw [HN.out]; exact hlt) (of_decide_eq_false HV.out) HS2.out.bgs rfl (Kept.refl _ _) (fun _ _ => rfl) rfl)
        go_wp2
        go_roundw
        case rel => exact ⟨J + 1 + 1, by omega, by omega, by go_num, HS3⟩
        case measure => simp [intOf]; omega
      · have HS3 : Hid (CptI w g c l (J + 1) (J + 1 + 1) l w2) := Lib.hid (HS2.out.same HR.out (by rw [HN.out]; exact hlt) (of_decide_eq_true HV.out))
        clear HV HS HS2
        have hcn : J + 1 < c := by omega
        go_wp2
        go_loopw [5, 7] (fun i j wr => ∃ (k k2 : Nat) (cur : List Ib), 1 ≤ k2 ∧ k < J + 1 + k2 ∧ J + 1 + k2 ≤ n ∧ i = .int .i64 k ∧ j = .int .i64 k2 ∧ Hid (CptI w g c l k (J + 1 + k2) cur wr)) (fun _ j _ => n + 1 - (intOf j).toNat)
        case atStart => exact ⟨J + 1, 1, l, by omega, by omega, by omega, by go_num, rfl, HS3⟩
        case round =>
          obtain ⟨k, k2, cur, hj1, hj2, hj3, rfl, rfl, HT⟩ := hrel
          have hlt0 : g < wr.heap.size := HT.out.bgs.row.lt rfl
          by_cases hlt2 : J + 1 + k2 < n
          · obtain ⟨M, rfl⟩ : ∃ M, k2 = M + 1 := ⟨k2 - 1, by omega⟩
            obtain ⟨cA0, cA1, hA⟩ := HT.out.at (j := J + 1 + (M + 1)) (by rw [HN.out]; exact hlt2) (by omega)
            obtain ⟨cB0, cB1, hB⟩ := HT.out.at (j := J + 1 + M) (by rw [HN.out]; omega) (by omega)
            rw [show (J + 1 + (M + 1)) * 2 = (J + 1) * 2 + (M + 1) * 2 by omega] at cA0 cA1
            rw [show (J + 1 + M) * 2 = (J + 1) * 2 + M * 2 by omega] at cB0 cB1
            have hlA := hA.le
            have hlB := hB.le
            have Z := alikeI_any (ibAt l (J + 1 + (M + 1))).a (ibAt l (J + 1 + M)).a (ibAt l (J + 1 + (M + 1))).c (ibAt l (J + 1 + M)).c (ibAt l (J + 1 + (M + 1))).x (ibAt l (J + 1 + M)).x wr.drew hA hB (at_rightI HR.out _) (at_rightI HR.out _)
            have HSt : Hid (∀ W, CptI w g c l k (J + 1 + (M + 1)) cur W → (ibAt l (J + 1 + (M + 1))).x ≠ (ibAt l (J + 1 + M)).x → CptI w g c l (k + 1) (J + 1 + (M + 1) + 1) (cur.set k (ibAt l (J + 1 + (M + 1)))) ((W.setCell ⟨g, k * 2, none⟩ (.int .i64 (ibAt l (J + 1 + (M + 1))).x.j)).setCell ⟨g, k * 2 + 1, none⟩ (.slice (ibAt l (J + 1 + (M + 1))).a (ibAt l (J + 1 + (M + 1))).x.c.length (ibAt l (J + 1 + (M + 1))).c))) :=
              Lib.hid (fun W h ne => h.store HR.out HU.out (by rw [HN.out]; exact hlt2) ne)
            generalize hv : decide ((ibAt l (J + 1 + (M + 1))).x = (ibAt l (J + 1 + M)).x) = v at Z
            have HV := Lib.hid hv
            generalize hbj : (ibAt l (J + 1 + (M + 1))).x.j = jC at Z cA0 HSt
            generalize hba : (ibAt l (J + 1 + (M + 1))).a = aC at Z cA1 HSt
            generalize (ibAt l (J + 1 + M)).x.j = jD at Z cB0
            generalize (ibAt l (J + 1 + M)).a = aD at Z cB1
            generalize hbc : (ibAt l (J + 1 + (M + 1))).c = dC at Z cA1 hlA HSt
            generalize (ibAt l (J + 1 + M)).c = dD at Z cB1 hlB
            generalize hbn : (ibAt l (J + 1 + (M + 1))).x.c.length = nC at Z cA1 hlA HSt
            generalize (ibAt l (J + 1 + M)).x.c.length = nD at Z cB1 hlB
            clear hba hbc hbn hbj
            have HZ := Lib.hid Z
            clear Z hA hB hv
            have j1 : (0 : Int) ≤ (M : Int) + 1 := by omega
            have j2 : (M : Int) + 1 < ((n - (J + 1) : Nat) : Int) := by omega
            have j3 : (0 : Int) ≤ (M : Int) := by omega
            have j4 : (M : Int) < ((n - (J + 1) : Nat) : Int) := by omega
            have hw1 : IntKind.i64.wrap ((M : Int) + 1 - 1) = (M : Int) := by rw [Int.add_sub_cancel]; exact IntWalk.i64_in _ (by omega)
            have hw3 : IntKind.i64.wrap (M : Int) = (M : Int) := IntWalk.i64_in _ (by omega)
            go_wp2
            go_region_held3 (fun w' => w'.cell? ⟨g, (J + 1) * 2 + (M + 1) * 2, none⟩ = some (.int .i64 jC) ∧ w'.cell? ⟨g, (J + 1) * 2 + (M + 1) * 2 + 1, none⟩ = some (.slice aC nC dC) ∧ w'.cell? ⟨g, (J + 1) * 2 + M * 2, none⟩ = some (.int .i64 jD) ∧ w'.cell? ⟨g, (J + 1) * 2 + M * 2 + 1, none⟩ = some (.slice aD nD dD))
              (first | (exact ⟨cA0, cA1, cB0, cB1⟩) | (exact ⟨dA0, dA1, dB0, dB1⟩) | go_keep)
              (first
                | (go_at_call 58; refine HZ.out.mono ?_; rintro e w2 ⟨rfl, b2⟩; (replace b2 : Below wr.heap.size wr w2 := undrew b2); (have dA0 := (b2.cell (p := ⟨g, (J + 1) * 2 + (M + 1) * 2, none⟩) hlt0).trans cA0); (have dA1 := (b2.cell (p := ⟨g, (J + 1) * 2 + (M + 1) * 2 + 1, none⟩) hlt0).trans cA1); (have dB0 := (b2.cell (p := ⟨g, (J + 1) * 2 + M * 2, none⟩) hlt0).trans cB0); (have dB1 := (b2.cell (p := ⟨g, (J + 1) * 2 + M * 2 + 1, none⟩) hlt0).trans cB1)))
            have HT2 := Lib.hid (HT.out.below b2)
            clear hw1 hw3 cA0 cA1 cB0 cB1 b2 HZ dB0 dB1
            cases v
            · have HT3 := Lib.hid (HSt.out w2 HT2.out (of_decide_eq_false HV.out))
              have zA := HT2.out.bgs.row.frozenI (k * 2)
              have zB := HT2.out.bgs.row.frozenI (k * 2 + 1)
              have hcell := HT2.out.cells 0 (by rw [HN.out]; omega)
              have hcell1 := HT2.out.cells 1 (by rw [HN.out]; omega)
              rw [Nat.add_zero] at hcell
              obtain ⟨old, hold⟩ := Option.isSome_iff_exists.1 hcell
              obtain ⟨old1, hold1⟩ := Option.isSome_iff_exists.1 hcell1
              clear hcell hcell1
              have q1 : (k : Int) < (n : Int) := by omega
              have q2 : (0 : Int) ≤ (k : Int) := by omega
              go_wp2
              go_roundw
              case rel => exact ⟨k + 1, M + 1 + 1, _, by omega, by omega, by omega, by go_num, by go_num, HT3⟩
              case measure => simp [intOf]; omega
            · clear HSt dA0 dA1
              have HT3 : Hid (CptI w g c l k (J + 1 + (M + 1) + 1) cur w2) := Lib.hid (HT2.out.same HR.out (by rw [HN.out]; exact hlt2) (of_decide_eq_true HV.out))
              go_wp2
              go_roundw
              case rel => exact ⟨k, M + 1 + 1, cur, by omega, by omega, by omega, rfl, by go_num, HT3⟩
              case measure => simp [intOf]; omega
          · have hend : J + 1 + k2 = n := by omega
            have hkn : k < n := by omega
            have hkc : k < c := by omega
            have hcl : ∀ ty, (Builtin.clear_ #[48] ty #[.slice (some ⟨g, k * 2, none⟩) (n - k) (c - k)]).run Tryd.prog wr = .ok (.tuple #[]) (wr.setCells g (k * 2) (pairs (.int .i64 0) (.slice none 0 0) (n - k))) :=
              fun ty => run_clear_pairs wr _ _ ty _ _ _ Tryd.underlying48 zeroItem rfl rfl rfl g (k * 2) _ _ (by omega) (fun j hj => HT.out.cells j (by rw [HN.out]; exact hj)) (fun j _ => HT.out.bgs.row.frozenI _)
            have HF : Hid (CompactedI (some ⟨g, 0, none⟩) c l w (.returned (.slice (some ⟨g, 0, none⟩) k c)) (wr.setCells g (k * 2) (pairs (.int .i64 0) (.slice none 0 0) (n - k)))) := Lib.hid (by
              have h1 := HT.out.wiped
              rw [HN.out] at h1
              exact HT.out.out (hend.trans HN.out.symm) h1.1 h1.2)
            have j2 : ¬ (k2 : Int) < ((n - (J + 1) : Nat) : Int) := by omega
            go_wp2_with (simp only [hcl])
            go_ret
            exact HF.out
    · obtain rfl : k = n := by omega
      have HF : Hid (CompactedI (some ⟨g, 0, none⟩) c l w (.returned (.slice (some ⟨g, 0, none⟩) k c)) wr) := Lib.hid (HS.out.out HN.out.symm (by rw [List.take_of_length_le (by rw [HN.out]; exact Nat.le_refl _)]; exact HS.out.bgs) (Kept.refl _ _))
      go_wp2
      go_ret
      exact HF.out
set_option maxRecDepth 100000 in
theorem compactI_few (a : Option Addr) (c n : Nat) (l : List Ib) (w : World) (P : Ibs w a c l) (hn : l.length = n) (h2 : n < 2) :
    Calls Tryd.prog 57 #[.slice a n c, .func (.func 58) #[] #[]] w (CompactedI a c l w) := by
  have HF : Hid (CompactedI a c l w (.returned (.slice a n c)) w) := Lib.hid ⟨l, by rw [hn], P, Kept.refl _ _, fun _ h => h, fun x hx => List.mem_map.2 ⟨x, hx, rfl⟩, by
    obtain h | h : l.length = 0 ∨ l.length = 1 := by omega
    · rw [List.eq_nil_of_length_eq_zero h]; exact .nil
    · obtain ⟨x, rfl⟩ := List.length_eq_one_iff.1 h
      simp [its]⟩
  have h1 : decide ((n : Int) < 2) = true := by simp; omega
  clear P hn
  go_enter Tryd.func57, Tryd.ntmps57
  go_wp2
  go_ret
  exact HF.out
set_option maxRecDepth 100000 in
theorem compactI_any (a : Option Addr) (c n : Nat) (l : List Ib) (w : World) (P : Ibs w a c l) (hn : l.length = n) (hs : n ≤ 100000000000) (r : RightsI l) (u : UpIb l l.length) :
    Calls Tryd.prog 57 #[.slice a n c, .func (.func 58) #[] #[]] w (CompactedI a c l w) := by
  by_cases h2 : n < 2
  · exact compactI_few a c n l w P hn h2
  · rcases P.row with ⟨_, ⟨rfl, rfl, h⟩ | ⟨g, _, rfl, _⟩⟩
    · omega
    · exact compactI_some g c n l w P hn (by omega) hs r u
end Go.Proofs.YtmefmnpmppdpmabDoor

/-! The program's ordered, half, Letter, Start, Final (auto). -/
namespace Go.Proofs.YtmefmnpmppdpmabDoor
open Go.ChangeShapes Go.WideShapes Go.ChangeAt Go.RowKit

/-- What ordered comes to: in the same row. -/
def OrdersI (a : Option Addr) (c : Nat) (l : List It) (w : World) (e : Ending) (w' : World) : Prop :=
  e = .returned (.slice a l.length c) ∧ Its w' a c l ∧ Kept (fun g => a = some ⟨g, 0, none⟩) w w'
set_option maxRecDepth 100000 in
theorem ordered38 (a : Option Addr) (c : Nat) (l : List It) (w : World) (R : Its w a c l) (hg : GoodI l) (hs : l.length ≤ 100000000000) :
    Calls Tryd.prog 47 #[.slice a l.length c] w (OrdersI a c (putAllI [] l) w) := by
  obtain ⟨ls, rfl, P⟩ := R
  have hr : RightsI ls := fun p hp => hg _ (List.mem_map.2 ⟨p, hp, rfl⟩)
  have hl := its_len ls
  rw [hl] at hs ⊢
  have hle := P.row.le
  generalize hn : ls.length = n at hs hle ⊢
  have HZ := Lib.hid (sortI_any a c n ls w P hn (by omega) hr)
  have HR := Lib.hid hr
  have HG := Lib.hid hg
  have HN := Lib.hid hn
  clear P hr hg hn hl
  go_enter Tryd.func47, Tryd.ntmps47
  go_wp2_with (fail)
  refine HZ.out.mono ?_
  rintro e w1 ⟨l1, rfl, hp, P1, k1, hs1⟩
  have u1 : UpIb l1 l1.length := fun p q hpq hq => by
    have h := hs1 p q hpq hq
    rwa [ibAt_get hq, ibAt_get (by omega)]
  have r1 : RightsI l1 := fun p h => HR.out p (hp.mem_iff.1 h)
  have HZ2 := Lib.hid (compactI_any a c n l1 w1 P1 (by rw [hp.length_eq, HN.out]) hs r1 u1)
  have HR1 := Lib.hid r1
  have HP := Lib.hid hp
  have HK1 := Lib.hid k1
  clear P1 hs1 u1 r1 hp k1 HZ
  go_wp2_with (fail)
  refine HZ2.out.mono ?_
  rintro e w2 ⟨out, rfl, P2, k2, m1, m2, up⟩
  have hE : its out = putAllI [] (its ls) := by
    refine riseI_ext ⟨?_, up⟩ (putAllI_rise HG.out riseI_nil) (fun x => ?_)
    · intro x hx
      obtain ⟨y, hy, rfl⟩ := List.mem_map.1 hx
      exact HR1.out y (m1 y hy)
    · rw [putAllI_mem HG.out riseI_nil]
      constructor
      · intro hx
        obtain ⟨y, hy, rfl⟩ := List.mem_map.1 hx
        exact .inr (List.mem_map.2 ⟨y, HP.out.mem_iff.1 (m1 y hy), rfl⟩)
      · rintro (hx | hx)
        · cases hx
        · obtain ⟨y, hy, rfl⟩ := List.mem_map.1 hx
          exact m2 y (HP.out.mem_iff.2 hy)
  have HF : Hid (OrdersI a c (putAllI [] (its ls)) w (.returned (.slice a out.length c)) w2) := Lib.hid ⟨by rw [← hE, its_len], ⟨out, hE, P2⟩, HK1.out.trans k2 (fun _ _ e => e)⟩
  have hl2 := P2.row.le
  generalize out.length = m at HF hl2 ⊢
  clear P2 k2 m1 m2 up hE HZ2
  go_wp2
  go_ret
  exact HF.out

set_option maxRecDepth 100000 in
set_option maxHeartbeats 2000000 in
theorem half84 (a : Option Addr) (c : Nat) (xs : List Int) (w : World) (R : Bag w a c xs) (hx : rightL xs = true) :
    Calls Tryd.prog 65 #[.slice a xs.length c] w (Makes (halfL xs) w) := by
  have hl12 := (right_iff.1 hx).1
  have hle := R.le
  have HLT : Hid (∀ g, a = some ⟨g, 0, none⟩ → g < w.heap.size) := Lib.hid (fun g e => R.lt e)
  have HHT := Lib.hid (half_tab (xs := xs) rfl)
  have HNL : Hid (halfL xs = normL (halfT xs)) := Lib.hid rfl
  generalize hn : xs.length = n at hle hl12 HHT ⊢
  have HN := Lib.hid hn
  have HR := Lib.hid R
  have HRT := Lib.hid hx
  have HTL : Hid ((halfT xs).length = n) := Lib.hid ((half_len xs).trans hn)
  clear R hn hx
  go_enter Tryd.func65, Tryd.ntmps65
  go_wp2_with (at_make; refine wpList_make_bag _ rfl _ _ rfl _ _ n rfl rfl (by omega) (by omega) (by omega) ?_)
  intro w1 r1 b1
  have HR1 := Lib.hid (HR.out.below b1)
  have HO : Hid (Bag w1 (some ⟨w.heap.size, 0, none⟩) n (tab n (fun j => if j < 0 then xs.getD j 0 / 2 else 0))) := Lib.hid (by simpa using r1)
  have HB := Lib.hid b1
  clear r1 b1 HR
  generalize hgw : w.heap.size = gw at HO HLT ⊢
  have HGW := Lib.hid hgw
  clear hgw
  go_wp2
  go_loopw [11] (fun i wr => ∃ k : Nat, k ≤ n ∧ i = .int .i64 k ∧ Hid (Bag wr (some ⟨gw, 0, none⟩) n (tab n (fun j => if j < k then xs.getD j 0 / 2 else 0))) ∧ Hid (Bag wr a c xs) ∧ Hid (Below w.heap.size w wr)) (fun i _ => n - (intOf i).toNat)
  case atStart => exact ⟨0, Nat.zero_le _, rfl, HO, HR1, HB⟩
  case round =>
    clear HO HR1 HB
    obtain ⟨k, hk, rfl, HO, HR1, HB⟩ := hrel
    by_cases hlt : k < n
    · have hk' : k < xs.length := by rw [HN.out]; exact hlt
      obtain ⟨g, e1, hc⟩ := HR1.out.at hk'
      have hga := HLT.out g e1
      subst e1
      have hb := right_at HRT.out k
      obtain ⟨g0, e0, hc0⟩ := HO.out.at (k := k) (by rw [tab_len]; exact hlt)
      injection e0 with e0; injection e0 with e0
      subst e0
      have hfz := HO.out.frozen k
      have O2 := HO.out.set (j := k) (by rw [tab_len]; exact hlt) (xs.getD k 0 / 2)
      have e2 : (tab n (fun j => if j < k then xs.getD j 0 / 2 else 0)).set k (xs.getD k 0 / 2) = tab n (fun j => if j < k + 1 then xs.getD j 0 / 2 else 0) := by
        rw [tab_set]
        refine tab_congr (fun j hj => ?_)
        by_cases hjk : j = k
        · subst hjk; simp
        · by_cases hj2 : j < k
          · rw [if_neg hjk, if_pos hj2, if_pos (by omega)]
          · rw [if_neg hjk, if_neg hj2, if_neg (by omega)]
      rw [e2] at O2
      have kx : Kept (fun i => i = gw) wr (wr.setCell ⟨gw, k, none⟩ (.int .i64 (xs.getD k 0 / 2))) := (Kept.refl (fun i => i = gw) wr).setCell (p := ⟨gw, k, none⟩) (fun _ => rfl) _
      have HO2 := Lib.hid O2
      have HR2 := Lib.hid (HR1.out.kept kx (fun g' e e2 => by injection e with e; injection e with e; omega))
      have HB2 : Hid (Below w.heap.size w (wr.setCell ⟨gw, k, none⟩ (.int .i64 (xs.getD k 0 / 2)))) := Lib.hid (HB.out.setCell (p := ⟨gw, k, none⟩) (by have := HGW.out; show w.heap.size ≤ gw; omega) _)
      generalize xs.getD k 0 = v at hc hb HO2 HR2 HB2
      clear hk' O2 kx e2 HO HR1 HB
      have i1 : (0 : Int) ≤ (k : Int) := by omega
      have i2 : (k : Int) < (n : Int) := by omega
      have hq : v.tdiv 2 = v / 2 := Int.tdiv_eq_ediv_of_nonneg hb.1
      go_wp2
      go_roundw
      case rel => exact ⟨k + 1, by omega, by go_num, HO2, HR2, HB2⟩
      case measure => simp [intOf]; omega
    · obtain rfl : k = n := by omega
      have O2 := HO.out
      rw [HHT.out] at O2
      have Z := norm19 (some ⟨gw, 0, none⟩) k (halfT xs) wr O2 (by rw [HTL.out]; omega)
      rw [HTL.out, ← HNL.out] at Z
      have HZ := Lib.hid Z
      clear Z O2 HO
      go_wp2_with (fail)
      refine HZ.out.mono ?_
      rintro e w3 ⟨a3, c3, rfl, B3, f3, b3⟩
      have hs := HB.out.size
      have HF : Hid (Makes (halfL xs) w (.returned (.slice a3 (halfL xs).length c3)) w3) := Lib.hid ⟨a3, c3, rfl, B3, fun g e => Nat.le_trans hs (f3 g e), HB.out.trans (b3.mono hs)⟩
      have hl3 := B3.le
      generalize (halfL xs).length = hl at HF hl3 ⊢
      clear B3 f3 b3 HZ
      go_wp2
      go_ret
      exact HF.out
set_option maxRecDepth 100000 in
set_option maxHeartbeats 2000000 in
theorem letter26 (a : Option Addr) (c : Nat) (xs : List Int) (d : Int) (w : World) (R : Bag w a c xs) (hd0 : -9223372036854775808 ≤ d) (hd1 : d ≤ 9223372036854775807) :
    Calls Tryd.prog 39 #[.slice a xs.length c, .int .i64 d] w (fun e w' => e = .returned (.int .u64 (letterN xs d)) ∧ Below w.heap.size w w') := by
  have hle := R.le
  have Z := right16 a c xs w R
  have HLN : Hid (letterN xs d = if rightL xs = true ∧ 0 ≤ d ∧ d ≤ 62 then packN (digitL xs d.toNat) else 0) := Lib.hid rfl
  generalize hn : xs.length = n at hle Z ⊢
  have HN := Lib.hid hn
  have HR := Lib.hid R
  generalize hv : rightL xs = v at Z HLN
  have HV := Lib.hid hv
  have HZ := Lib.hid Z
  clear R hn Z hv
  generalize letterN xs d = ln at HLN ⊢
  by_cases h0 : d < 0
  · have E : Hid (ln = 0) := Lib.hid (by rw [HLN.out, if_neg (by omega)])
    have h0b : decide (d < 0) = true := by simpa using h0
    go_enter Tryd.func39, Tryd.ntmps39
    go_wp2
    go_ret
    exact ⟨by rw [E.out]; try rfl, Below.refl _ _⟩
  · have h0b : decide (d < 0) = false := by simpa using h0
    by_cases h62 : 62 < d
    · have E : Hid (ln = 0) := Lib.hid (by rw [HLN.out, if_neg (by omega)])
      have h62b : decide (62 < d) = true := by simpa using h62
      go_enter Tryd.func39, Tryd.ntmps39
      go_wp2
      go_ret
      exact ⟨by rw [E.out]; try rfl, Below.refl _ _⟩
    · have h62b : decide (62 < d) = false := by simpa using h62
      cases v with
      | false =>
        have E : Hid (ln = 0) := Lib.hid (by rw [HLN.out]; simp)
        go_enter Tryd.func39, Tryd.ntmps39
        go_wp2_with (fail)
        refine HZ.out.mono ?_
        rintro e _ ⟨rfl, rfl⟩
        go_wp2
        go_ret
        exact ⟨by rw [E.out]; try rfl, Below.refl _ _⟩
      | true =>
        obtain ⟨d, rfl⟩ : ∃ j : Nat, d = j := ⟨d.toNat, by omega⟩
        have E : Hid (ln = packN (digitL xs d)) := Lib.hid (by rw [HLN.out, if_pos ⟨by first | trivial | rfl, by omega, by omega⟩]; rfl)
        have hl12 := (right_iff.1 HV.out).1
        rw [HN.out] at hl12
        clear HLN
        go_enter Tryd.func39, Tryd.ntmps39
        go_wp2_with (fail)
        refine HZ.out.mono ?_
        rintro e _ ⟨rfl, rfl⟩
        clear HZ
        go_wp2
        go_loopw [5, 21] (fun x i wr => ∃ k : Nat, k ≤ n ∧ i = .int .i64 k ∧ x = .int .u64 (packN ((digitL xs d).take k)) ∧ w = wr) (fun _ i _ => n - (intOf i).toNat)
        case atStart => exact ⟨0, Nat.zero_le _, rfl, rfl, rfl⟩
        case round =>
          obtain ⟨k, hk, rfl, rfl, rfl⟩ := hrel
          by_cases hlt : k < n
          · have hk' : k < xs.length := by rw [HN.out]; exact hlt
            obtain ⟨g, rfl, hc⟩ := HR.out.at hk'
            have hb := right_at HV.out k
            have hdl : (digitL xs d).length = xs.length := digit_len xs d
            have hpt := pack_take (xs := digitL xs d) (k := k) (by rw [hdl]; exact hk')
            have hpb := pack_bound ((digitL xs d).take k)
            have el : ((digitL xs d).take k).length = k := by rw [List.length_take, hdl]; omega
            rw [el] at hpb
            have hdv := div_bound (d := d) hb.1 hb.2
            have hor := or_pack (k := k) (by omega) hpb.1 hpb.2 hdv.1 hdv.2
            rw [digit_get] at hpt
            rw [← hpt] at hor
            generalize xs.getD k 0 = v at hc hb hor hdv
            generalize packN ((digitL xs d).take k) = pk at hor
            clear hpt hpb hk' el hdl
            have i1 : (0 : Int) ≤ (k : Int) := by omega
            have i2 : (k : Int) < (n : Int) := by omega
            go_wp2
            go_roundw
            case rel => exact ⟨k + 1, by omega, by go_num, by first | rw [hor] | rfl, by first | rfl | trivial⟩
            case measure => simp [intOf]; omega
          · obtain rfl : k = n := by omega
            have htk : (digitL xs d).take k = digitL xs d := by rw [← HN.out, ← digit_len xs d]; exact List.take_length
            rw [htk]
            go_wp2
            go_ret
            exact ⟨by rw [E.out]; try rfl, Below.refl _ _⟩
theorem norm_id {q : List Int} (h : rightL q = true) : normL q = q := right_ext (normR_right q) h (fun t => norm_get h t)
set_option maxRecDepth 100000 in
set_option maxHeartbeats 2000000 in
theorem start10 (a : Option Addr) (c : Nat) (s : List Lin) (w : World) (R : Lins w a c s) (hb : s.length ≤ 1000000) :
    Calls Tryd.prog 15 #[.slice a s.length c] w (MakesI (startL s) w) := by
  have hle := R.le
  have Z := right11 a c s w R
  have HR := Lib.hid R
  generalize hn : s.length = n at hle hb Z ⊢
  have HN := Lib.hid hn
  generalize hv : rightS s = v at Z
  have HV := Lib.hid hv
  have HZ := Lib.hid Z
  clear R hn hv Z
  go_enter Tryd.func15, Tryd.ntmps15
  go_wp2_with (fail)
  refine HZ.out.mono ?_
  rintro e w1 ⟨rfl, b1⟩
  have HB := Lib.hid b1
  clear b1 HZ
  cases v with
  | false =>
    have E : Hid (startL s = []) := Lib.hid (by unfold startL; rw [HV.out]; rfl)
    go_wp2
    go_ret
    rw [E.out]
    exact ⟨none, 0, rfl, Its.nil _, From.none _, HB.out⟩
  | true =>
    have HRB : Hid (∀ k, k < n → (linAt s k).base.length ≤ 12) := Lib.hid (fun k hk => by
      have h := ((rightS_upTo s).1 HV.out k (by rw [HN.out]; exact hk)).1
      exact (right_iff.1 (rightLin_iff.1 h).1).1)
    have HNR : Hid (∀ k, k < n → normL (linAt s k).base = (linAt s k).base) := Lib.hid (fun k hk => by
      have h := ((rightS_upTo s).1 HV.out k (by rw [HN.out]; exact hk)).1
      exact norm_id (rightLin_iff.1 h).1)
    have E : Hid (startL s = startK s n) := Lib.hid (by unfold startL startK; rw [HV.out, if_pos rfl, HN.out])
    go_wp2
    go_loopw [3, 11] (fun al i wr => ∃ (k : Nat) (oa : Option Addr) (oc : Nat), k ≤ n ∧ al = .slice oa k oc ∧ i = .int .i64 k ∧ Hid (Its wr oa oc (startK s k)) ∧ Hid (From w.heap.size oa) ∧ Hid (Below w.heap.size w wr)) (fun _ i _ => n - (intOf i).toNat)
    case atStart => exact ⟨0, none, 0, Nat.zero_le _, rfl, rfl, Lib.hid (Its.nil _), Lib.hid (From.none _), HB⟩
    case round =>
      clear HB
      obtain ⟨k, oa, oc, hk, rfl, rfl, HI, HF, HB⟩ := hrel
      by_cases hlt : k < n
      · obtain ⟨g, b, d, pb, pd, e1, c0, c1, B1, _⟩ := (HR.out.below HB.out).at (k := k) (by rw [HN.out]; exact hlt)
        subst e1
        have hbl := B1.le
        have h12 := HRB.out k hlt
        generalize hu : (linAt s k).base.length = u at c0 hbl h12
        generalize (linAt s k).ps.length = z at c1
        have bb := below_alloc wr (.cells #[.slice b u d, .slice pb z pd] 28)
        have HCB := Lib.hid (HB.out.trans (bb.mono HB.out.size))
        have HIb := Lib.hid (HI.out.below bb)
        have ZN := norm19 b d (linAt s k).base _ (B1.below bb) (by rw [hu]; omega)
        rw [hu, HNR.out k hlt] at ZN
        have HZN := Lib.hid ZN
        clear ZN B1
        go_wp2_with (fail)
        generalize wr.alloc (.cells #[.slice b u d, .slice pb z pd] 28) = W1 at bb HCB HIb HZN ⊢
        clear HI HB
        have HB := HCB
        clear HCB bb c0 c1
        refine HZN.out.mono ?_
        rintro e w2 ⟨a2, c2, rfl, B2, f2, b2⟩
        have hl2 := B2.le
        rw [hu]
        rw [hu] at hl2
        have bz := below_alloc w2 (.cells #[.int .i64 k, .slice a2 u c2] 65)
        have bA := b2.trans (bz.mono b2.size)
        obtain ⟨ls, hls, I⟩ := HIb.out.below bA
        have hln : ls.length = k := by rw [← its_len, hls, startK_len]
        have RR := I.row
        rw [hln] at RR
        have LZ := Lies.new w2 65 [.int .i64 k, .slice a2 u c2]
        obtain ⟨v4, w4, hr2, A4⟩ := run_appIt_at 48 48 Tryd.underlying48 oa oc k (iflat ls) _ RR ⟨w2.heap.size, 0, none⟩ 1 1 [.int .i64 k, .slice a2 u c2] rfl (fun j y hj => by rw [Addr.add_lit, Nat.zero_add]; exact (LZ.cell j).trans hj) (by intro y hy; simp only [List.mem_cons, List.not_mem_nil, or_false] at hy; rcases hy with rfl | rfl <;> rfl) (by omega)
        obtain ⟨a4, c4, rfl, I4, G4⟩ := its_push (x := ⟨(k : Int), (linAt s k).base⟩) hls I (B2.below bz) (startK_len s k) hu A4
        rw [← startK_succ] at I4
        have hsz := HB.out.size
        have hG := G4 w.heap.size (Nat.le_trans hsz bA.size) HF.out
        have HI4 := Lib.hid I4
        have HF4 := Lib.hid hG.1
        have HB4 : Hid (Below w.heap.size w w4) := Lib.hid ((HB.out.trans (bA.mono hsz)).trans hG.2)
        have hc4 := HI4.out.le
        rw [startK_len] at hc4
        clear bz bA RR LZ A4 I4 hG G4 B2 f2 b2 I hls hln HZN HIb HB
        go_wp2_with (at_builtin; refine Lib.wpList_append_run (o := ⟨some 23, _, _, _, _, _⟩) _ rfl _ _ _ _ rfl _ _ rfl rfl _ _ hr2 ?_)
        go_roundw
        case rel => exact ⟨k + 1, a4, c4, hlt, rfl, by go_num, HI4, HF4, HB4⟩
        case measure => simp [intOf]; omega
      · have hkn : k = n := by omega
        subst hkn
        go_wp2
        go_ret
        rw [E.out]
        exact ⟨oa, oc, by rw [startK_len]; rfl, HI.out, HF.out, HB.out⟩

/-! ### Final -/
theorem fin50 (a : Option Addr) (c n : Nat) (j : Int) (w : World) :
    Calls Tryd.prog 27 #[.agg #[.int .i64 j, .slice a n c]] w (TellsB (decide (n = 0)) w) := by
  have bb := below_alloc w (.cells #[.int .i64 j, .slice a n c] 65)
  have HB := Lib.hid bb
  clear bb
  by_cases h0 : n = 0
  · subst h0
    go_enter Tryd.func27, Tryd.ntmps27
    go_wp2
    go_ret
    exact ⟨by simp, HB.out⟩
  · have h0b : ((n : Int) == 0) = false := by simp; omega
    go_enter Tryd.func27, Tryd.ntmps27
    go_wp2
    go_ret
    exact ⟨by simp [h0], HB.out⟩
/-- The first place of an empty one, or -1. -/
def FindsF (l : List It) (w : World) (e : Ending) (w' : World) : Prop := ∃ v : Int, e = .returned (.int .i64 v) ∧ finalL l = decide (0 ≤ v) ∧ Below w.heap.size w w'
set_option maxRecDepth 100000 in
theorem index78 (a : Option Addr) (c : Nat) (l : List It) (w : World) (R : Its w a c l) :
    Calls Tryd.prog 35 #[.slice a l.length c, .func (.func 27) #[] #[]] w (FindsF l w) := by
  have hle := R.le
  have HR := Lib.hid R
  generalize hn : l.length = n at hle ⊢
  have HN := Lib.hid hn
  clear R hn
  go_enter Tryd.func35, Tryd.ntmps35
  go_wp2
  go_loopw [8] (fun i wr => ∃ k : Nat, k ≤ n ∧ i = .int .i64 k ∧ Hid (Below w.heap.size w wr) ∧ Hid (∀ j, j < k → (itAt l j).c ≠ [])) (fun i _ => n - (intOf i).toNat)
  case atStart => exact ⟨0, Nat.zero_le _, rfl, Lib.hid (Below.refl _ _), Lib.hid (fun j h => absurd h (Nat.not_lt_zero _))⟩
  case round =>
    obtain ⟨k, hk, rfl, HB, HE⟩ := hrel
    by_cases hlt : k < n
    · obtain ⟨g, b, d, e1, c0, c1, B1⟩ := (HR.out.below HB.out).at (k := k) (by rw [HN.out]; exact hlt)
      subst e1
      have hbl := B1.le
      generalize hu : (itAt l k).c.length = u at c1 hbl
      have HU := Lib.hid hu
      generalize (itAt l k).j = j at c0
      have i1 : (0 : Int) ≤ (k : Int) := by omega
      have i2 : (k : Int) < (n : Int) := by omega
      clear B1 hu
      by_cases h0 : u = 0
      · have E : Hid (finalL l = true) := Lib.hid (by
          unfold finalL
          rw [List.any_eq_true]
          have hkl : k < l.length := by rw [HN.out]; exact hlt
          refine ⟨l[k], List.getElem_mem hkl, ?_⟩
          rw [← itAt_get hkl, decide_eq_true_eq]
          exact List.eq_nil_of_length_eq_zero (HU.out.trans h0))
        have H0 := Lib.hid h0
        clear h0 HU
        go_wp2_with (fail)
        refine (fin50 b d u j wr).mono ?_
        rintro e w2 ⟨rfl, b2⟩
        have HB2 := Lib.hid (HB.out.trans (b2.mono HB.out.size))
        rw [show decide (u = 0) = true by simp [H0.out]]
        clear b2 c0 c1
        go_wp2
        go_ret
        exact ⟨(k : Int), rfl, by rw [E.out]; simp, HB2.out⟩
      · have HE2 : Hid (∀ j, j < k + 1 → (itAt l j).c ≠ []) := Lib.hid (fun j hj => by
          by_cases e : j = k
          · subst e
            intro h
            have h2 := HU.out
            rw [h] at h2
            exact h0 h2.symm
          · exact HE.out j (by omega))
        go_wp2_with (fail)
        refine (fin50 b d u j wr).mono ?_
        rintro e w2 ⟨rfl, b2⟩
        have HB2 := Lib.hid (HB.out.trans (b2.mono HB.out.size))
        rw [show decide (u = 0) = false by simp [h0]]
        clear b2 HU c0 c1
        go_wp2
        go_roundw
        case rel => exact ⟨k + 1, by omega, by go_num, HB2, HE2⟩
        case measure => simp [intOf]; omega
    · have E : Hid (finalL l = false) := Lib.hid (by
        unfold finalL
        rw [List.any_eq_false]
        intro x hx
        obtain ⟨i, hi, rfl⟩ := List.getElem_of_mem hx
        rw [← itAt_get hi, decide_eq_true_eq]
        exact HE.out i (by rw [HN.out] at hi; omega))
      go_wp2
      go_ret
      exact ⟨-1, rfl, by rw [E.out]; rfl, HB.out⟩
theorem final20 (a : Option Addr) (c : Nat) (l : List It) (w : World) (R : Its w a c l) :
    Calls Tryd.prog 16 #[.slice a l.length c] w (TellsB (finalL l) w) := by
  have hle := R.le
  have HZ := Lib.hid (index78 a c l w R)
  generalize l.length = n at HZ hle ⊢
  clear R
  have HC : Hid (Calls Tryd.prog 26 #[.slice a n c, .func (.func 27) #[] #[]] w (TellsB (finalL l) w)) := Lib.hid (by
    go_enter Tryd.func26, Tryd.ntmps26
    go_wp2_with (fail)
    refine HZ.out.mono ?_
    rintro e w1 ⟨v, rfl, hv, b1⟩
    have HB := Lib.hid b1
    have HV := Lib.hid hv
    clear b1 hv HZ
    go_wp2
    go_ret
    exact ⟨by rw [HV.out]; try rfl, HB.out⟩)
  clear HZ
  generalize finalL l = v at HC ⊢
  go_enter Tryd.func16, Tryd.ntmps16
  go_wp2_with (fail)
  refine HC.out.mono ?_
  rintro e w1 ⟨rfl, b1⟩
  have HB := Lib.hid b1
  clear b1 HC
  go_wp2
  go_ret
  exact ⟨rfl, HB.out⟩
end Go.Proofs.YtmefmnpmppdpmabDoor

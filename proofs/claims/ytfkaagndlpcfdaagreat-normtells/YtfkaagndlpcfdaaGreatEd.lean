/- lin.same, and slices.CompactFunc at few rising bags. -/
import Derived.Test.YtfkaagndlpcfdaaGreatZl
import Derived.Test.YtfkaagndlpcfdaaGreatC
import Derived.Lib.SliceRun
namespace Go.Proofs.YtfkaagndlpcfdaaGreat
open Go.ChangeShapes Go.WideShapes Go.ChangeAt Go.RowKit

set_option maxRecDepth 100000 in
theorem same34 (a b : Option Addr) (c d : Nat) (xs ys : List Int) (w : World) (R : Bag w a c xs) (S : Bag w b d ys) :
    Calls Tryz.prog 72 #[.slice a xs.length c, .slice b ys.length d] w (TellsB (decide (cmpL xs ys = 0)) w) := by
  have HZ := Lib.hid (cmp21 a b c d xs ys w R S)
  clear R S
  generalize xs.length = n at HZ ⊢
  generalize ys.length = m at HZ ⊢
  generalize cmpL xs ys = v at HZ ⊢
  go_enter Tryz.func72, Tryz.ntmps72
  go_wp2_with (fail)
  refine HZ.out.mono ?_
  rintro e w' ⟨rfl, b1⟩
  have HB := Lib.hid b1
  clear b1 HZ
  go_wp2
  go_ret
  exact ⟨by congr 2, HB.out⟩

/-- The first k of cur are the first K of l, each word once. -/
structure Cpt (w : World) (g c : Nat) (l : List Bg) (k K : Nat) (cur : List Bg) (W : World) : Prop where
  bgs : Bgs W (some ⟨g, 0, none⟩) c cur
  len : cur.length = l.length
  kept : Kept (fun x => (some ⟨g, 0, none⟩ : Option Addr) = some ⟨x, 0, none⟩) w W
  pos : 1 ≤ k
  le : k ≤ K
  top : K ≤ l.length
  tail : ∀ i, K ≤ i + 1 → bgAt cur i = bgAt l i
  src : ∀ i, i < k → bgAt cur i ∈ l
  all : ∀ j, j < K → ∃ i, i < k ∧ (bgAt cur i).xs = (bgAt l j).xs
  up : ∀ p q, p < q → q < k → cmpL (bgAt cur p).xs (bgAt cur q).xs < 0
  last : (bgAt cur (k - 1)).xs = (bgAt l (K - 1)).xs
set_option maxRecDepth 100000 in
theorem bgAt_mem {l : List Bg} {i : Nat} (h : i < l.length) : bgAt l i ∈ l := by rw [bgAt_get h]; exact List.getElem_mem h
set_option maxRecDepth 100000 in
theorem Cpt.start {w : World} {g c : Nat} {l : List Bg} (P : Bgs w (some ⟨g, 0, none⟩) c l) (h : 1 ≤ l.length) : Cpt w g c l 1 1 l w :=
  ⟨P, rfl, Kept.refl _ _, Nat.le_refl _, Nat.le_refl _, h, fun _ _ => rfl, fun i hi => bgAt_mem (by omega), fun j hj => ⟨j, hj, rfl⟩, fun p q h1 h2 => by omega, rfl⟩
set_option maxRecDepth 100000 in
theorem Cpt.below {w W W' : World} {g c k K : Nat} {l cur : List Bg} (h : Cpt w g c l k K cur W) (b : Below W.heap.size W W') : Cpt w g c l k K cur W' :=
  ⟨h.bgs.below b, h.len, h.kept.trans (Y := fun _ => False) (Kept.of_below b) (fun _ _ e => e.elim), h.pos, h.le, h.top, h.tail, h.src, h.all, h.up, h.last⟩
set_option maxRecDepth 100000 in
theorem Cpt.same {w W : World} {g c k K : Nat} {l cur : List Bg} (h : Cpt w g c l k K cur W) (r : Rights l) (hK : K < l.length) (e : cmpL (bgAt l K).xs (bgAt l (K - 1)).xs = 0) : Cpt w g c l k (K + 1) cur W := by
  have e' : (bgAt l K).xs = (bgAt l (K - 1)).xs := (cmp_zero (at_right r _) (at_right r _)).1 e
  have hp := h.pos
  have hl := h.le
  refine ⟨h.bgs, h.len, h.kept, h.pos, by omega, hK, fun i hi => h.tail i (by omega), h.src, fun j hj => ?_, h.up, ?_⟩
  · by_cases ej : j = K
    · subst ej; exact ⟨k - 1, by omega, by rw [h.last, e']⟩
    · exact h.all j (by omega)
  · rw [h.last, Nat.add_sub_cancel, e']
set_option maxRecDepth 100000 in
theorem Cpt.new {w W W' : World} {g c k K : Nat} {l cur cur' : List Bg} (h : Cpt w g c l k K cur W) (r : Rights l) (u : Up l l.length) (hK : K < l.length) (e : cmpL (bgAt l K).xs (bgAt l (K - 1)).xs ≠ 0)
    (B : Bgs W' (some ⟨g, 0, none⟩) c cur') (hl' : cur'.length = l.length) (hk' : Kept (fun x => (some ⟨g, 0, none⟩ : Option Addr) = some ⟨x, 0, none⟩) W W')
    (ho : ∀ i, i ≠ k → bgAt cur' i = bgAt cur i) (hk : bgAt cur' k = bgAt l K) : Cpt w g c l (k + 1) (K + 1) cur' W' := by
  have hp := h.pos
  have hl := h.le
  have lt : cmpL (bgAt l (K - 1)).xs (bgAt l K).xs < 0 := by
    have h1 : cmpL (bgAt l (K - 1)).xs (bgAt l K).xs ≤ 0 := u (K - 1) K (by omega) hK
    have h2 := cmp_neg (at_right r (K - 1)) (at_right r K)
    omega
  refine ⟨B, hl', h.kept.trans hk' (fun _ _ e => e), by omega, by omega, hK, fun i hi => ?_, fun i hi => ?_, fun j hj => ?_, fun p q h1 h2 => ?_, ?_⟩
  · by_cases e : i = k
    · subst e
      rw [hk, show K = i by omega]
    · rw [ho i e]; exact h.tail i (by omega)
  · by_cases e : i = k
    · subst e; rw [hk]; exact bgAt_mem hK
    · rw [ho i e]; exact h.src i (by omega)
  · by_cases ej : j = K
    · subst ej; exact ⟨k, by omega, by rw [hk]⟩
    · obtain ⟨i, hi, e⟩ := h.all j (by omega)
      exact ⟨i, by omega, by rw [ho i (by omega)]; exact e⟩
  · by_cases e2 : q = k
    · subst e2
      rw [hk, ho p (by omega)]
      have hr : ∀ i, i < q → rightL (bgAt cur i).xs = true := fun i hi => r _ (h.src i hi)
      by_cases e3 : p = q - 1
      · rw [e3, h.last]; exact lt
      · have h3 := h.up p (q - 1) (by omega) (by omega)
        rw [h.last] at h3
        exact cmp_lt_trans (hr p h1) (at_right r _) (at_right r _) h3 lt
    · rw [ho p (by omega), ho q e2]; exact h.up p q h1 (by omega)
  · rw [Nat.add_sub_cancel, Nat.add_sub_cancel, hk]
set_option maxRecDepth 100000 in
theorem set_at {cur : List Bg} {k i : Nat} (x : Bg) (hk : k < cur.length) : bgAt (cur.set k x) i = if i = k then x else bgAt cur i := by
  unfold bgAt
  simp only [List.getD_eq_getElem?_getD, List.getElem?_set]
  by_cases h : k = i
  · subst h; simp [hk]
  · rw [if_neg h, if_neg (fun e => h e.symm)]
set_option maxRecDepth 100000 in
/-- The store of one at place k. -/
theorem Cpt.store {w W : World} {g c k K : Nat} {l cur : List Bg} (h : Cpt w g c l k K cur W) (r : Rights l) (u : Up l l.length) (hK : K < l.length) (e : cmpL (bgAt l K).xs (bgAt l (K - 1)).xs ≠ 0) :
    Cpt w g c l (k + 1) (K + 1) (cur.set k (bgAt l K)) (W.setCell ⟨g, k, none⟩ (bgAt l K).val) := by
  have hkl : k < cur.length := by rw [h.len]; exact Nat.lt_of_le_of_lt h.le hK
  have k1 : Kept (fun x => (some ⟨g, 0, none⟩ : Option Addr) = some ⟨x, 0, none⟩) W (W.setCell ⟨g, k, none⟩ (bgAt l K).val) := (Kept.refl (fun x => (some ⟨g, 0, none⟩ : Option Addr) = some ⟨x, 0, none⟩) W).setCell (p := ⟨g, k, none⟩) (fun _ => rfl) _
  refine h.new r u hK e ⟨?_, fun p hp => ?_⟩ (by rw [List.length_set]; exact h.len) k1 (fun i hi => by rw [set_at _ hkl, if_neg hi]) (by rw [set_at _ hkl, if_pos rfl])
  · have e : vals (cur.set k (bgAt l K)) = (vals cur).set k (bgAt l K).val := by simp [vals, List.map_set]
    rw [e]
    exact h.bgs.row.put (by rw [vals_len]; exact hkl) _
  · rcases List.mem_or_eq_of_mem_set hp with hp | rfl
    · exact h.bgs.keptEach k1 p hp
    · refine h.bgs.keptEach k1 _ ?_
      rw [← h.tail K (by omega)]
      exact bgAt_mem (by rw [h.len]; exact hK)
set_option maxRecDepth 100000 in
theorem Cpt.at {w W : World} {g c k K : Nat} {l cur : List Bg} (h : Cpt w g c l k K cur W) {j : Nat} (hj : j < l.length) (hK : K ≤ j + 1) : W.cell? ⟨g, j, none⟩ = some (.slice (bgAt l j).a (bgAt l j).xs.length (bgAt l j).c) ∧ Bag W (bgAt l j).a (bgAt l j).c (bgAt l j).xs := by
  have hj' : j < cur.length := by rw [h.len]; exact hj
  obtain ⟨g', e, hc, hb⟩ := h.bgs.at hj'
  injection e with e; injection e with e; subst e
  rw [← h.tail j hK, bgAt_get hj']
  exact ⟨hc, hb⟩
/-- What compacting comes to. -/
def Compacted (a : Option Addr) (c : Nat) (l : List Bg) (w : World) (e : Ending) (w' : World) : Prop :=
  ∃ out, e = .returned (.slice a out.length c) ∧ Bgs w' a c out ∧ Kept (fun x => a = some ⟨x, 0, none⟩) w w' ∧ (∀ x ∈ out, x ∈ l) ∧ (∀ x ∈ l, x.xs ∈ words out) ∧ (words out).Pairwise (fun x y => cmpL x y < 0)
set_option maxRecDepth 100000 in
theorem Cpt.out {w W W' : World} {g c k K : Nat} {l cur : List Bg} (h : Cpt w g c l k K cur W) (hK : K = l.length) (B : Bgs W' (some ⟨g, 0, none⟩) c (cur.take k)) (k1 : Kept (fun x => (some ⟨g, 0, none⟩ : Option Addr) = some ⟨x, 0, none⟩) W W') :
    Compacted (some ⟨g, 0, none⟩) c l w (.returned (.slice (some ⟨g, 0, none⟩) k c)) W' := by
  have hkl : k ≤ cur.length := by have := h.le; have := h.top; rw [h.len]; omega
  have hl : (cur.take k).length = k := by rw [List.length_take]; omega
  have ht : ∀ i, i < k → ∀ hi : i < (cur.take k).length, (cur.take k)[i] = bgAt cur i := fun i hi hi' => by rw [bgAt_get (by omega)]; simp
  refine ⟨cur.take k, by rw [hl], B, h.kept.trans k1 (fun _ _ e => e), fun x hx => ?_, fun x hx => ?_, ?_⟩
  · obtain ⟨i, hi, rfl⟩ := List.getElem_of_mem hx
    rw [ht i (by omega) hi]
    exact h.src i (by omega)
  · obtain ⟨j, hj, rfl⟩ := List.getElem_of_mem hx
    obtain ⟨i, hi, e⟩ := h.all j (by omega)
    rw [bgAt_get hj] at e
    rw [← e, words, List.mem_map]
    refine ⟨bgAt cur i, ?_, rfl⟩
    rw [← ht i hi (by omega)]
    exact List.getElem_mem _
  · rw [List.pairwise_iff_getElem]
    intro i j hi hj hij
    rw [words_len] at hi hj
    have e1 : ∀ m, ∀ hm : m < (words (cur.take k)).length, (words (cur.take k))[m] = (bgAt cur m).xs := fun m hm => by
      have hm' : m < (cur.take k).length := by rwa [words_len] at hm
      have : (words (cur.take k))[m] = ((cur.take k)[m]).xs := by simp [words]
      rw [this, ht m (by omega) hm']
    rw [e1, e1]
    exact h.up i j hij (by omega)
set_option maxRecDepth 100000 in
/-- The places behind k are cleared. -/
theorem Cpt.wiped {w W : World} {g c k K : Nat} {l cur : List Bg} (h : Cpt w g c l k K cur W) : Bgs (W.setCells g k (List.replicate (l.length - k) (.slice none 0 0))) (some ⟨g, 0, none⟩) c (cur.take k) ∧
    Kept (fun x => (some ⟨g, 0, none⟩ : Option Addr) = some ⟨x, 0, none⟩) W (W.setCells g k (List.replicate (l.length - k) (.slice none 0 0))) := by
  have k1 : Kept (fun x => (some ⟨g, 0, none⟩ : Option Addr) = some ⟨x, 0, none⟩) W (W.setCells g k (List.replicate (l.length - k) (.slice none 0 0))) := (setCells_kept g _ _ _).mono (fun i _ e => by rw [e])
  have hkl : k ≤ cur.length := by have := h.le; have := h.top; rw [h.len]; omega
  refine ⟨⟨?_, fun p hp => h.bgs.keptEach k1 p (List.mem_of_mem_take hp)⟩, k1⟩
  rcases h.bgs.row with ⟨e, _⟩ | ⟨g', sp, e, hc, hm, L⟩
  · cases e
  · injection e with e; injection e with e; subst e
    have L2 := Lies.setCells (List.replicate (l.length - k) (.slice none 0 0)) k W _ L (by have := h.len; rw [List.length_append, vals_len, List.length_replicate]; omega)
    rw [List.length_replicate] at L2
    have e1 : (vals cur ++ sp).take k = vals (cur.take k) := by
      rw [List.take_append_of_le_length (by rw [vals_len]; exact hkl)]
      simp [vals, List.map_take]
    rw [e1, List.append_assoc] at L2
    refine .inr ⟨g, _, rfl, ?_, hm, L2⟩
    simp only [List.length_append, vals_len, List.length_take, List.length_replicate, List.length_drop] at hc ⊢
    have := h.len
    omega
set_option maxRecDepth 100000 in
theorem Cpt.cells {w W : World} {g c k K : Nat} {l cur : List Bg} (h : Cpt w g c l k K cur W) : ∀ j, j < l.length - k → (W.cell? ⟨g, k + j, none⟩).isSome = true := fun j hj => by
  obtain ⟨g', e, hc, _⟩ := h.bgs.at (k := k + j) (by rw [h.len]; omega)
  injection e with e; injection e with e; subst e
  rw [hc]; rfl
set_option maxRecDepth 100000 in
theorem zero26 (w : World) : (zeroValue 56).run Tryz.prog w = .ok (.slice none 0 0) w := by kernel_rfl

set_option maxRecDepth 100000 in
set_option maxHeartbeats 4000000 in
theorem compact_some (g c n : Nat) (l : List Bg) (w : World) (P : Bgs w (some ⟨g, 0, none⟩) c l) (hn : l.length = n) (h2 : 2 ≤ n) (hs : n ≤ 100000000000) (r : Rights l) (u : Up l l.length) :
    Calls Tryz.prog 71 #[.slice (some ⟨g, 0, none⟩) n c, .func (.func 72) #[] #[]] w (Compacted (some ⟨g, 0, none⟩) c l w) := by
  have hle := P.le
  rw [hn] at hle
  have HN := Lib.hid hn
  have HR := Lib.hid r
  have HU := Lib.hid u
  have HS0 := Lib.hid (Cpt.start P (by omega))
  have hg0 : g < w.heap.size := P.row.lt rfl
  clear P hn r u
  go_enter Tryz.func71, Tryz.ntmps71
  go_wp2
  go_loopw [5] (fun i wr => ∃ (k : Nat), 1 ≤ k ∧ k ≤ n ∧ i = .int .i64 k ∧ Hid (Cpt w g c l k k l wr)) (fun i _ => n + 1 - (intOf i).toNat)
  case atStart => exact ⟨1, by omega, by omega, rfl, HS0⟩
  case round =>
    obtain ⟨k, hk1, hk2, rfl, HS⟩ := hrel
    by_cases hlt : k < n
    · obtain ⟨J, rfl⟩ : ∃ J, k = J + 1 := ⟨k - 1, by omega⟩
      obtain ⟨cA, hA⟩ := HS.out.at (j := J + 1) (by rw [HN.out]; exact hlt) (by omega)
      obtain ⟨cB, hB⟩ := HS.out.at (j := J) (by rw [HN.out]; omega) (by omega)
      have hlA := hA.le
      have hlB := hB.le
      have Z := same34 (bgAt l (J + 1)).a (bgAt l J).a (bgAt l (J + 1)).c (bgAt l J).c (bgAt l (J + 1)).xs (bgAt l J).xs wr.drew hA hB
      generalize hv : decide (cmpL (bgAt l (J + 1)).xs (bgAt l J).xs = 0) = v at Z
      have HV := Lib.hid hv
      generalize (bgAt l (J + 1)).a = aA at Z cA
      generalize (bgAt l J).a = aB at Z cB
      generalize (bgAt l (J + 1)).c = dA at Z cA hlA
      generalize (bgAt l J).c = dB at Z cB hlB
      generalize (bgAt l (J + 1)).xs.length = nA at Z cA hlA
      generalize (bgAt l J).xs.length = nB at Z cB hlB
      have HZ := Lib.hid Z
      have hlt0 : g < wr.heap.size := HS.out.bgs.row.lt rfl
      clear Z hA hB hv
      have i1 : (0 : Int) ≤ (J : Int) + 1 := by omega
      have i2 : (J : Int) + 1 < (n : Int) := by omega
      have i3 : (0 : Int) ≤ (J : Int) := by omega
      have i4 : (J : Int) < (n : Int) := by omega
      have hw1 : IntKind.i64.wrap ((J : Int) + 1 - 1) = (J : Int) := by rw [Int.add_sub_cancel]; exact IntWalk.i64_in _ (by omega)
      have hw3 : IntKind.i64.wrap (J : Int) = (J : Int) := IntWalk.i64_in _ (by omega)
      go_wp2
      go_region_held3 (fun w' => w'.cell? ⟨g, J + 1, none⟩ = some (.slice aA nA dA) ∧ w'.cell? ⟨g, J, none⟩ = some (.slice aB nB dB))
        (first | (exact ⟨cA, cB⟩) | (exact ⟨cA2, cB2⟩) | go_keep)
        (first
          | (go_at_call 72; refine HZ.out.mono ?_; rintro e w2 ⟨rfl, b2⟩; (replace b2 : Below wr.heap.size wr w2 := undrew b2); (have cA2 := (b2.cell (p := ⟨g, J + 1, none⟩) hlt0).trans cA); (have cB2 := (b2.cell (p := ⟨g, J, none⟩) hlt0).trans cB)))
      have HS2 := Lib.hid (HS.out.below b2)
      clear hw1 hw3 cA cB b2 HZ
      cases v
      · have HS3 : Hid (Cpt w g c l (J + 1 + 1) (J + 1 + 1) l w2) := Lib.hid (HS2.out.new HR.out HU.out (by rw [HN.out]; exact hlt) (of_decide_eq_false HV.out) HS2.out.bgs rfl (Kept.refl _ _) (fun _ _ => rfl) rfl)
        go_wp2
        go_roundw
        case rel => exact ⟨J + 1 + 1, by omega, by omega, by go_num, HS3⟩
        case measure => simp [intOf]; omega
      · have HS3 : Hid (Cpt w g c l (J + 1) (J + 1 + 1) l w2) := Lib.hid (HS2.out.same HR.out (by rw [HN.out]; exact hlt) (of_decide_eq_true HV.out))
        clear HV HS HS2
        have hcn : J + 1 < c := by omega
        go_wp2
        go_loopw [5, 7] (fun i j wr => ∃ (k k2 : Nat) (cur : List Bg), 1 ≤ k2 ∧ k < J + 1 + k2 ∧ J + 1 + k2 ≤ n ∧ i = .int .i64 k ∧ j = .int .i64 k2 ∧ Hid (Cpt w g c l k (J + 1 + k2) cur wr)) (fun _ j _ => n + 1 - (intOf j).toNat)
        case atStart => exact ⟨J + 1, 1, l, by omega, by omega, by omega, by go_num, rfl, HS3⟩
        case round =>
          obtain ⟨k, k2, cur, hj1, hj2, hj3, rfl, rfl, HT⟩ := hrel
          have hlt0 : g < wr.heap.size := HT.out.bgs.row.lt rfl
          by_cases hlt2 : J + 1 + k2 < n
          · obtain ⟨M, rfl⟩ : ∃ M, k2 = M + 1 := ⟨k2 - 1, by omega⟩
            obtain ⟨cA, hA⟩ := HT.out.at (j := J + 1 + (M + 1)) (by rw [HN.out]; exact hlt2) (by omega)
            obtain ⟨cB, hB⟩ := HT.out.at (j := J + 1 + M) (by rw [HN.out]; omega) (by omega)
            have hlA := hA.le
            have hlB := hB.le
            have Z := same34 (bgAt l (J + 1 + (M + 1))).a (bgAt l (J + 1 + M)).a (bgAt l (J + 1 + (M + 1))).c (bgAt l (J + 1 + M)).c (bgAt l (J + 1 + (M + 1))).xs (bgAt l (J + 1 + M)).xs wr.drew hA hB
            have HEA : Hid ((bgAt l (J + 1 + (M + 1))).val = .slice (bgAt l (J + 1 + (M + 1))).a (bgAt l (J + 1 + (M + 1))).xs.length (bgAt l (J + 1 + (M + 1))).c) := Lib.hid rfl
            generalize hv : decide (cmpL (bgAt l (J + 1 + (M + 1))).xs (bgAt l (J + 1 + M)).xs = 0) = v at Z
            have HV := Lib.hid hv
            generalize (bgAt l (J + 1 + (M + 1))).a = aC at Z cA HEA
            generalize (bgAt l (J + 1 + M)).a = aD at Z cB
            generalize (bgAt l (J + 1 + (M + 1))).c = dC at Z cA hlA HEA
            generalize (bgAt l (J + 1 + M)).c = dD at Z cB hlB
            generalize (bgAt l (J + 1 + (M + 1))).xs.length = nC at Z cA hlA HEA
            generalize (bgAt l (J + 1 + M)).xs.length = nD at Z cB hlB
            have HZ := Lib.hid Z
            clear Z hA hB hv
            have j1 : (0 : Int) ≤ (M : Int) + 1 := by omega
            have j2 : (M : Int) + 1 < ((n - (J + 1) : Nat) : Int) := by omega
            have j3 : (0 : Int) ≤ (M : Int) := by omega
            have j4 : (M : Int) < ((n - (J + 1) : Nat) : Int) := by omega
            have hw1 : IntKind.i64.wrap ((M : Int) + 1 - 1) = (M : Int) := by rw [Int.add_sub_cancel]; exact IntWalk.i64_in _ (by omega)
            have hw3 : IntKind.i64.wrap (M : Int) = (M : Int) := IntWalk.i64_in _ (by omega)
            go_wp2
            go_region_held3 (fun w' => w'.cell? ⟨g, J + 1 + (M + 1), none⟩ = some (.slice aC nC dC) ∧ w'.cell? ⟨g, J + 1 + M, none⟩ = some (.slice aD nD dD))
              (first | (exact ⟨cA, cB⟩) | (exact ⟨cA2, cB2⟩) | go_keep)
              (first
                | (go_at_call 72; refine HZ.out.mono ?_; rintro e w2 ⟨rfl, b2⟩; (replace b2 : Below wr.heap.size wr w2 := undrew b2); (have cA2 := (b2.cell (p := ⟨g, J + 1 + (M + 1), none⟩) hlt0).trans cA); (have cB2 := (b2.cell (p := ⟨g, J + 1 + M, none⟩) hlt0).trans cB)))
            have HT2 := Lib.hid (HT.out.below b2)
            clear hw1 hw3 cA cB b2 HZ
            cases v
            · have T3 := HT2.out.store HR.out HU.out (by rw [HN.out]; exact hlt2) (of_decide_eq_false HV.out)
              rw [HEA.out] at T3
              have HT3 := Lib.hid T3
              clear T3
              have zA := HT2.out.bgs.row.frozen k
              have hcell := (HT2.out.cells 0 (by rw [HN.out]; omega))
              rw [Nat.add_zero] at hcell
              obtain ⟨old, hold⟩ := Option.isSome_iff_exists.1 hcell
              clear hcell
              have q1 : (k : Int) < (n : Int) := by omega
              have q2 : (0 : Int) ≤ (k : Int) := by omega
              go_wp2
              go_roundw
              case rel => exact ⟨k + 1, M + 1 + 1, _, by omega, by omega, by omega, by go_num, by go_num, HT3⟩
              case measure => simp [intOf]; omega
            · have HT3 : Hid (Cpt w g c l k (J + 1 + (M + 1) + 1) cur w2) := Lib.hid (HT2.out.same HR.out (by rw [HN.out]; exact hlt2) (of_decide_eq_true HV.out))
              go_wp2
              go_roundw
              case rel => exact ⟨k, M + 1 + 1, cur, by omega, by omega, by omega, rfl, by go_num, HT3⟩
              case measure => simp [intOf]; omega
          · have hend : J + 1 + k2 = n := by omega
            have hkn : k < n := by omega
            have hkc : k < c := by omega
            have hcl : ∀ ty, (Builtin.clear_ #[58] ty #[.slice (some ⟨g, k, none⟩) (n - k) (c - k)]).run Tryz.prog wr = .ok (.tuple #[]) (wr.setCells g k (List.replicate (n - k) (.slice none 0 0))) :=
              fun ty => Lib.run_clear_slice wr _ _ ty _ Tryz.underlying58 zero26 rfl rfl g k _ _ (by omega) (fun j hj => HT.out.cells j (by rw [HN.out]; exact hj)) (fun j _ => HT.out.bgs.row.frozen _)
            have HF : Hid (Compacted (some ⟨g, 0, none⟩) c l w (.returned (.slice (some ⟨g, 0, none⟩) k c)) (wr.setCells g k (List.replicate (n - k) (.slice none 0 0)))) := Lib.hid (by
              have h1 := HT.out.wiped
              rw [HN.out] at h1
              exact HT.out.out (hend.trans HN.out.symm) h1.1 h1.2)
            have j2 : ¬ (k2 : Int) < ((n - (J + 1) : Nat) : Int) := by omega
            go_wp2_with (simp only [hcl])
            go_ret
            exact HF.out
    · obtain rfl : k = n := by omega
      have HF : Hid (Compacted (some ⟨g, 0, none⟩) c l w (.returned (.slice (some ⟨g, 0, none⟩) k c)) wr) := Lib.hid (HS.out.out HN.out.symm (by rw [List.take_of_length_le (by rw [HN.out]; exact Nat.le_refl _)]; exact HS.out.bgs) (Kept.refl _ _))
      go_wp2
      go_ret
      exact HF.out
set_option maxRecDepth 100000 in
theorem compact_few (a : Option Addr) (c n : Nat) (l : List Bg) (w : World) (P : Bgs w a c l) (hn : l.length = n) (h2 : n < 2) :
    Calls Tryz.prog 71 #[.slice a n c, .func (.func 72) #[] #[]] w (Compacted a c l w) := by
  have HF : Hid (Compacted a c l w (.returned (.slice a n c)) w) := Lib.hid ⟨l, by rw [hn], P, Kept.refl _ _, fun _ h => h, fun x hx => List.mem_map.2 ⟨x, hx, rfl⟩, by
    obtain h | h : l.length = 0 ∨ l.length = 1 := by omega
    · rw [List.eq_nil_of_length_eq_zero h]; exact .nil
    · obtain ⟨x, rfl⟩ := List.length_eq_one_iff.1 h
      simp [words]⟩
  have h1 : decide ((n : Int) < 2) = true := by simp; omega
  clear P hn
  go_enter Tryz.func71, Tryz.ntmps71
  go_wp2
  go_ret
  exact HF.out
set_option maxRecDepth 100000 in
theorem compact_any (a : Option Addr) (c n : Nat) (l : List Bg) (w : World) (P : Bgs w a c l) (hn : l.length = n) (hs : n ≤ 100000000000) (r : Rights l) (u : Up l l.length) :
    Calls Tryz.prog 71 #[.slice a n c, .func (.func 72) #[] #[]] w (Compacted a c l w) := by
  by_cases h2 : n < 2
  · exact compact_few a c n l w P hn h2
  · rcases P.row with ⟨rfl, rfl, h⟩ | ⟨g, _, rfl, _⟩
    · obtain rfl : l = [] := List.map_eq_nil_iff.1 h
      simp at hn; omega
    · exact compact_some g c n l w P hn (by omega) hs r u
end Go.Proofs.YtfkaagndlpcfdaaGreat

import Derived.Test.YtmefmnpmppdpmabDoorXk
import Derived.Test.YtmefmnpmppdpmabDoorWf
/- Plain: linear set by linear set; the program's Within and Same, walked. -/
namespace Go.Proofs.YtmefmnpmppdpmabDoor
open Go.ChangeShapes Go.WideShapes Go.ChangeAt Go.RowKit Go.Maps

theorem searchGo_ok {x : Lin} {b : List Lin} : ∀ (f k : Nat) (Q : List Pr) (M : Mr) (r : Sr), searchGo x b f k Q M = some r → r.ok = true → r.e = 0
  | 0, _, _, _, _, h, _ => by simp [searchGo] at h
  | f + 1, k, Q, M, r, h, ho => by
    unfold searchGo at h
    split at h
    · split at h
      · injection h with h; subst h; cases ho
      · split at h
        · injection h with h; subst h; cases ho
        · split at h
          · exact searchGo_ok f _ _ _ r h ho
          · injection h with h; subst h; cases ho
    · injection h with h; subst h; rfl
theorem searchM_ok {x : Lin} {b : List Lin} {f : Nat} {M : Mr} {r : Sr} (h : searchM f x b M = some r) (ho : r.ok = true) : r.e = 0 := by
  unfold searchM at h
  split at h
  · exact searchGo_ok _ _ _ _ _ h ho
  · injection h with h; subst h; cases ho
theorem within_step {f : Nat} {b : List Lin} {x : Lin} {a : List Lin} {M : Mr} {r : Bool × List Int × Int × Mr} (h : withinGo f b (x :: a) M = some r) : ∃ s, searchM f x b M = some s ∧ (s.ok = true → withinGo f b a s.m = some r) ∧ (s.ok = false → r = (false, s.w, s.e, s.m)) := by
  unfold withinGo at h
  cases hs : searchM f x b M with
  | none => rw [hs] at h; cases h
  | some s =>
    rw [hs] at h
    dsimp only at h
    refine ⟨s, rfl, fun ho => ?_, fun ho => ?_⟩
    · rw [if_pos ⟨searchM_ok hs ho, ho⟩] at h
      exact h
    · rw [if_neg (fun h => by rw [ho] at h; exact absurd h.2 (by simp))] at h
      injection h with h
      exact h.symm
theorem lin_drop {a : List Lin} {k : Nat} (hk : k < a.length) : a.drop k = linAt a k :: a.drop (k + 1) := by
  rw [List.drop_eq_getElem_cons hk]
  simp [linAt, List.getD, hk]
theorem goes_prOk {a b : List Lin} (ha : Thin a) (hb : Thin b) {j : Nat} (hj : j < a.length) {N : Mr} (hN : N = none) : Goes (linAt a j) b (PrOk a b j N) := by
  have hX := ha.each _ (lin_at_mem hj)
  have hst : ∀ z, PrOk a b j N z → Stand b z.l := fun z h => by
    rw [h.items]
    exact items_stand hb z.w z.n hN
  refine ⟨hX.trim.base.right, fun p hp => (hX.pers p hp).right, prOk_first ha hj, fun z h => ?_, fun q m c M h hn hc h0 => ?_⟩
  · have hs := hst z h
    have hf := hb.few
    refine ⟨⟨h.read.ok.small.right, fun x hx => ?_, ?_⟩, cost_bound hb hs.1 hs.2, h.right, h.low, h.far⟩
    · have := hs.2 x hx
      exact ⟨this.small.right, this.lo, by have := this.hi; omega⟩
    · have := rise_few hb hs.1 hs.2
      omega
  · have e := nextM_same (oddN c) q.l M N hN h0
    have k := prOk_step ha hb hN h hn hc
    rw [e] at k
    exact k
/-- What Within comes to. -/
def WinE (T : TypeId) (mp : Option Addr) (r : Bool × List Int × Int × Mr) (w : World) (e : Ending) (w' : World) : Prop :=
  ∃ a c, e = .returned (.tuple #[.bool r.1, .slice a r.2.1.length c, .int .i64 r.2.2.1]) ∧ Bag w' a c r.2.1 ∧ MrAt w' T mp r.2.2.2 ∧ MK mp w w'
end Go.Proofs.YtmefmnpmppdpmabDoor
/- Plain words: the search for one word (no periods) is a line of pairs; it ends, if two of its first sixty-one are alike. -/
namespace Go.Proofs.YtmefmnpmppdpmabDoor
open Go.ChangeShapes Go.WideShapes Go.ChangeAt Go.RowKit

/-- The i-th pair of the search for the word u. -/
def lineP (u : List Int) (b : List Lin) (N : Mr) : Nat → Pr
  | 0 => ⟨u, startL b, [], 0⟩
  | i + 1 => ⟨halfL (lineP u b N i).c, (nextM N b (lineP u b N i).l (oddN (lineP u b N i).c)).1, wordStep (lineP u b N i).w (oddN (lineP u b N i).c) i, i + 1⟩
section
variable {u : List Int} {b : List Lin} {N : Mr}
theorem line_n : ∀ i, (lineP u b N i).n = i
  | 0 => rfl
  | _ + 1 => rfl
theorem small_half {C : Int} {c : List Int} (h : Small C c) : Small C (halfL c) := by
  refine ⟨normR_right _, (half_trim h).2.len, fun t => ?_⟩
  · rw [half_at h]
    have h1 := h.top t
    have h2 := h.pos t
    omega
/-- What is carried, and the word so far. -/
theorem line_word {C : Int} (h : Small C u) : ∀ i, i ≤ 60 → Small C (lineP u b N i).c ∧ (∀ t, (lineP u b N i).c.getD t 0 = u.getD t 0 / 2 ^ i) ∧ rightL (lineP u b N i).w = true ∧ ∀ t, (lineP u b N i).w.getD t 0 = u.getD t 0 % 2 ^ i
  | 0, _ => ⟨h, fun t => by rw [Int.pow_zero, Int.ediv_one]; rfl, right_empty, fun t => by rw [Int.pow_zero, Int.emod_one]; simp [lineP]⟩
  | i + 1, hi => by
    obtain ⟨h1, h2, h3, h4⟩ := line_word h i (by omega)
    have hp := (pow59 (show i ≤ 59 by omega)).1
    obtain ⟨w1, w2⟩ := word_step (show i ≤ 59 by omega) h3 (fun t => by rw [h4]; exact Int.emod_lt_of_pos _ (by omega)) h1.len
    refine ⟨small_half h1, fun t => ?_, w1, fun t => ?_⟩
    · show (halfL (lineP u b N i).c).getD t 0 = _
      rw [half_at h1, h2, Int.pow_succ, Int.ediv_ediv_of_nonneg (by omega)]
    · show (wordStep (lineP u b N i).w (oddN (lineP u b N i).c) i).getD t 0 = _
      rw [w2, h4, h2, mod_split, Int.mul_comm]
def lineQ (u : List Int) (b : List Lin) (N : Mr) (i : Nat) : List Pr := (List.range (i + 1)).map (lineP u b N)
theorem lineQ_len (i : Nat) : (lineQ u b N i).length = i + 1 := by simp [lineQ]
theorem lineQ_at (i : Nat) : prAt (lineQ u b N i) i = lineP u b N i := by simp [prAt, lineQ, List.getD]
theorem lineQ_succ (i : Nat) : lineQ u b N (i + 1) = lineQ u b N i ++ [lineP u b N (i + 1)] := by
  unfold lineQ
  rw [List.range_succ (n := i + 1), List.map_append]
  rfl
theorem lineQ_mem {i : Nat} {z : Pr} (h : z ∈ lineQ u b N i) : ∃ j, j ≤ i ∧ lineP u b N j = z := by
  obtain ⟨j, hj, e⟩ := List.mem_map.1 h
  exact ⟨j, by have := List.mem_range.1 hj; omega, e⟩
/-- Two pairs that are alike. -/
def AlikeP (x y : Pr) : Prop := x.c = y.c ∧ x.l = y.l
/-- A pair at which the search says no. -/
def NoP (x : Pr) : Prop := x.c = [] ∧ finalL x.l = false
/-- What such a search comes to. -/
def LineR (u : List Int) (b : List Lin) (N : Mr) (r : Sr) : Prop :=
  r.e = 0 ∧ r.q.length ≤ 61 ∧ ((r.ok = false ∧ ∃ j, j ≤ 60 ∧ NoP (lineP u b N j) ∧ r.w = (lineP u b N j).w) ∨
    (r.ok = true ∧ r.w = [] ∧ ∃ j k, j < k ∧ k ≤ 60 ∧ AlikeP (lineP u b N j) (lineP u b N k) ∧ ∀ i, i ≤ j → ¬ NoP (lineP u b N i)))
theorem line_go {X : Lin} (hX : X.ps = []) (hN : N = none) (HE : ∀ i, i ≤ 59 → (nextM N b (lineP u b N i).l (oddN (lineP u b N i).c)).2 = (0, N))
    (hp : ∃ i j, i < j ∧ j ≤ 60 ∧ AlikeP (lineP u b N i) (lineP u b N j)) :
    ∀ m i, i + m = 60 → (∀ j k, j < k → k ≤ i → ¬ AlikeP (lineP u b N j) (lineP u b N k)) → (∀ j, j < i → ¬ NoP (lineP u b N j)) →
      ∃ r, searchGo X b (m + 2) i (lineQ u b N i) N = some r ∧ LineR u b N r
  | 0, i, hi, hd, _ => by
    obtain ⟨j, k, h1, h2, h3⟩ := hp
    exact absurd h3 (hd j k h1 (by omega))
  | m + 1, i, hi, hd, hno => by
    have hsp : spendM N 1 = (true, N) := by rw [hN]; rfl
    have hpos : i < (lineQ u b N i).length := by rw [lineQ_len]; omega
    unfold searchGo
    rw [if_pos hpos, lineQ_at]
    by_cases h1 : (lineP u b N i).c = [] ∧ finalL (lineP u b N i).l = false
    · rw [if_pos h1]
      exact ⟨_, rfl, rfl, by show (lineQ u b N i).length ≤ 61; rw [lineQ_len]; omega, .inl ⟨rfl, i, by omega, h1, rfl⟩⟩
    · rw [if_neg h1, if_neg (by rw [hX, line_n]; simp; omega), hX]
      have hno' : ∀ j, j < i + 1 → ¬ NoP (lineP u b N j) := fun j hj => by
        by_cases e : j = i
        · rw [e]; exact h1
        · exact hno j (by omega)
      have hc : chosenL (lineP u b N i).c X.ps 0 = some (lineP u b N i).c := by rw [hX]; rfl
      have he := HE i (by omega)
      have he1 : (nextM N b (lineP u b N i).l (oddN (lineP u b N i).c)).2.1 = 0 := by rw [he]
      have he2 : (nextM N b (lineP u b N i).l (oddN (lineP u b N i).c)).2.2 = N := by rw [he]
      have hl : (nextM N b (lineP u b N i).l (oddN (lineP u b N i).c)).1 = (lineP u b N (i + 1)).l := rfl
      have hh : halfL (lineP u b N i).c = (lineP u b N (i + 1)).c := rfl
      show ∃ r, (if (kidsGo X b (lineP u b N i) 1 0 (lineQ u b N i) N).2.1 = 0 then searchGo X b (m + 2) (i + 1) (kidsGo X b (lineP u b N i) 1 0 (lineQ u b N i) N).1 (kidsGo X b (lineP u b N i) 1 0 (lineQ u b N i) N).2.2 else _) = some r ∧ _
      by_cases hm : metP (lineQ u b N i) (lineP u b N (i + 1)).c (lineP u b N (i + 1)).l = true
      · have e : kidsGo X b (lineP u b N i) 1 0 (lineQ u b N i) N = (lineQ u b N i, 0, N) := by
          rw [kids_met hc he1 (by rw [hh, hl]; exact hm), he2]
          rfl
        rw [e, if_pos rfl]
        dsimp only
        unfold searchGo
        rw [if_neg (by rw [lineQ_len]; omega)]
        obtain ⟨z, hz, z1, z2⟩ := met_iff.1 hm
        obtain ⟨j, hj, rfl⟩ := lineQ_mem hz
        exact ⟨_, rfl, rfl, by show (lineQ u b N i).length ≤ 61; rw [lineQ_len]; omega, .inr ⟨rfl, rfl, j, i + 1, by omega, by omega, ⟨z1, z2⟩, fun a ha => hno' a (by omega)⟩⟩
      · have e : kidsGo X b (lineP u b N i) 1 0 (lineQ u b N i) N = (lineQ u b N (i + 1), 0, N) := by
          rw [kids_put hc he1 (by rw [hh, hl]; exact hm) (by rw [he2, hsp]), he2, hsp, lineQ_succ, line_n]
          rfl
        rw [e, if_pos rfl]
        refine line_go hX hN HE hp m (i + 1) (by omega) (fun j k hjk hk ha => ?_) hno'
        by_cases hk2 : k = i + 1
        · subst hk2
          refine hm (met_iff.2 ⟨lineP u b N j, ?_, ha.1, ha.2⟩)
          exact List.mem_map.2 ⟨j, List.mem_range.2 (by omega), rfl⟩
        · exact hd j k hjk (by omega) ha
theorem line_search {X : Lin} (hX : X.ps = []) (hN : N = none) (HE : ∀ i, i ≤ 59 → (nextM N b (lineP X.base b N i).l (oddN (lineP X.base b N i).c)).2 = (0, N))
    (hp : ∃ i j, i < j ∧ j ≤ 60 ∧ AlikeP (lineP X.base b N i) (lineP X.base b N j)) : ∃ r, searchM 62 X b N = some r ∧ LineR X.base b N r := by
  have hsp : spendM N 1 = (true, N) := by rw [hN]; rfl
  unfold searchM
  rw [hsp, if_pos rfl]
  exact line_go hX hN HE hp 60 0 (by omega) (fun j k h1 h2 => by omega) (fun j hj => by omega)
end
end Go.Proofs.YtmefmnpmppdpmabDoor

import Derived.Test.YtmefmnpmppdpmabDoorTc
import Derived.Test.YtmefmnpmppdpmabDoorDe
import Derived.Test.YtmefmnpmppdpmabDoorCk
/- Plain words: the items of a thin set stay small, so there are not many of them. -/

/-! columbaryplay.Semi: a right set of at most six linear sets, none of them too great. -/
namespace Go.Proofs.YtmefmnpmppdpmabDoor
open Go.ChangeShapes Go.WideShapes Go.ChangeAt Go.RowKit


theorem Lins.cut {w : World} {a : Option Addr} {c : Nat} {s : List Lin} (h : Lins w a c s) {k : Nat} (hk : k ≤ s.length) : Lins w a c (s.take k) := by
  obtain ⟨ls, e, P⟩ := h
  have hl : ls.length = s.length := by rw [← e, lins_len]
  have hk' : (ls.take k).length = k := by rw [List.length_take]; omega
  refine ⟨ls.take k, by rw [← e]; simp [lins, List.map_take], ?_, fun l hl => P.each l (List.mem_of_mem_take hl)⟩
  have := P.row.cut (k := k) (by omega)
  rw [hk']
  rwa [lflat_take] at this
end Go.Proofs.YtmefmnpmppdpmabDoor

/-! columbaryplay.Semi: a right set of at most six linear sets, of few periods and small numbers. -/
namespace Go.Proofs.YtmefmnpmppdpmabDoor
open Go.ChangeShapes Go.WideShapes Go.ChangeAt Go.RowKit

/-- A right set of at most six, at most eight periods each, no number above 45. -/
structure Thin (s : List Lin) : Prop where
  rise : RiseS s
  each : ∀ x ∈ s, Slim 45 8 x
  few : s.length ≤ 6
end Go.Proofs.YtmefmnpmppdpmabDoor

/-! Plain words: the items of a thin set stay small, so there are not many of them. -/
namespace Go.Proofs.YtmefmnpmppdpmabDoor
open Go.ChangeShapes Go.WideShapes Go.ChangeAt Go.RowKit

theorem right_ext {a b : List Int} (ha : rightL a = true) (hb : rightL b = true) (h : ∀ t, a.getD t 0 = b.getD t 0) : a = b := by
  refine ext_getD ?_ (fun j _ => h j)
  by_cases h1 : a.length < b.length
  · have h2 := right_last hb (by omega)
    rw [← h, getD_past (by omega)] at h2
    exact absurd rfl h2
  · by_cases h3 : b.length < a.length
    · have h2 := right_last ha (by omega)
      rw [h, getD_past (by omega)] at h2
      exact absurd rfl h2
    · omega
theorem short_of {a : List Int} (ha : rightL a = true) {k : Nat} (h : ∀ t, k ≤ t → a.getD t 0 = 0) : a.length ≤ k := by
  by_cases h1 : k < a.length
  · exact absurd (h _ (by omega)) (right_last ha (by omega))
  · omega
theorem sumAt_le (t : Nat) : ∀ (ps : List (List Int)) (m : Nat), (∀ p ∈ ps, rightL p = true) → 0 ≤ sumAt ps m t ∧ sumAt ps m t ≤ psum ps t
  | [], _, _ => ⟨Int.le_refl _, Int.le_refl _⟩
  | p :: r, m, h => by
    have ih := sumAt_le t r (m / 2) (fun q hq => h q (List.mem_cons_of_mem _ hq))
    have hp := (right_at (h p (by simp)) t).1
    unfold sumAt
    rw [psum_cons]
    split <;> omega
theorem sumAt_zero (t : Nat) : ∀ (ps : List (List Int)) (m : Nat), (∀ p ∈ ps, p.length ≤ t) → sumAt ps m t = 0
  | [], _, _ => rfl
  | p :: r, m, h => by
    have ih := sumAt_zero t r (m / 2) (fun q hq => h q (List.mem_cons_of_mem _ hq))
    have hp := getD_past (l := p) (j := t) (h p (by simp))
    unfold sumAt
    rw [ih, hp]
    simp
/-- An item of a thin set: four tags, no number above 45. -/
structure ItOk (s : List Lin) (x : It) : Prop where
  lo : 0 ≤ x.j
  hi : x.j < (s.length : Int)
  small : Small 45 x.c
  len : x.c.length ≤ 4
theorem lin_mem {s : List Lin} {x : It} (h : ItOk s x) : linAt s x.j.toNat ∈ s := by
  have h1 := h.lo
  have h2 := h.hi
  have hk : x.j.toNat < s.length := by omega
  have e : linAt s x.j.toNat = s[x.j.toNat] := by simp [linAt, List.getD, hk]
  rw [e]
  exact List.getElem_mem hk
/-- Whatever is chosen, what is left of it is an item of the set again. -/
theorem next_ok {s : List Lin} (hs : Thin s) {x : It} (h : ItOk s x) (m : Nat) : ∃ c, chosenL x.c (linAt s x.j.toNat).ps m = some c ∧ ItOk s ⟨x.j, halfL c⟩ := by
  have hS := hs.each _ (lin_mem h)
  have hf := hS.trim.few
  have h8 : (45 : Int) * ((linAt s x.j.toNat).ps.length : Nat) ≤ 360 := by omega
  obtain ⟨c, e, hc⟩ := chosen_small (K := 45) (by omega) (linAt s x.j.toNat).ps 45 x.c m h.small (by omega) hS.pers (by omega)
  have hat := chosen_at _ _ _ _ e
  have hr : ∀ p ∈ (linAt s x.j.toNat).ps, rightL p = true := fun p hp => (hS.pers p hp).right
  have hsm : Small 85 c := ⟨hc.right, hc.len, fun j => by
    have h1 := h.small.top j
    have h2 := sumAt_le j (linAt s x.j.toNat).ps m hr
    have h3 := hS.tot j
    rw [hat j]
    omega⟩
  have hh := half_trim hsm
  refine ⟨c, e, h.lo, h.hi, hh.2.more (by omega), short_of hh.2.right (fun t ht => ?_)⟩
  rw [half_at hsm, hat t, getD_past (by have := h.len; omega), sumAt_zero t _ m (fun p hp => Nat.le_trans (hS.pl p hp) ht)]
  rfl
theorem start_ok {s : List Lin} (hs : Thin s) {k : Nat} (hk : k < s.length) : ItOk s ⟨(k : Int), (linAt s k).base⟩ := by
  have e : linAt s k = s[k] := by simp [linAt, List.getD, hk]
  have hS := hs.each _ (List.getElem_mem hk)
  rw [e]
  exact ⟨by show (0 : Int) ≤ (k : Int); omega, by show (k : Int) < _; omega, hS.trim.base, hS.bl⟩
theorem itGo_ok {s : List Lin} (hs : Thin s) (letter : Int) : ∀ (l : List It) (M : Mr) (O : List It), (∀ x ∈ l, ItOk s x) → RiseI O → (∀ z ∈ O, ItOk s z) → RiseI (itGo s letter l M O).1 ∧ ∀ z ∈ (itGo s letter l M O).1, ItOk s z
  | [], M, O, _, hO, h => ⟨hO, h⟩
  | x :: r, M, O, hl, hO, h => by
    have hx := hl x (by simp)
    have h20 : ¬ 20 < (linAt s x.j.toNat).ps.length := by have := (hs.each _ (lin_mem hx)).trim.few; omega
    obtain ⟨O', e⟩ := maskF_some x (linAt s x.j.toNat).ps letter (fun m => by obtain ⟨c, e, _⟩ := next_ok hs hx m; exact ⟨c, e⟩) (2 ^ (linAt s x.j.toNat).ps.length) 0 O
    have hA := maskF_all x _ letter _ 0 O O' hO e
    have hO' : ∀ z ∈ O', ItOk s z := fun z hz => by
      rcases (hA.2 z).1 hz with h1 | ⟨i, c, _, _, h3, _, h5⟩
      · exact h z h1
      · obtain ⟨c', e', k⟩ := next_ok hs hx i
        rw [h3] at e'
        injection e' with e'
        subst e'
        rw [h5]; exact k
    generalize hp : spendM M ((2 ^ (linAt s x.j.toNat).ps.length : Nat) : Int) = p
    cases hv : p.1 with
    | false =>
      rw [itGo_7 h20 hp hv]
      exact ⟨⟨fun z hz => (by cases hz), List.Pairwise.nil⟩, fun z hz => (by cases hz)⟩
    | true =>
      rw [itGo_0 h20 hp hv e]
      exact itGo_ok hs letter r _ O' (fun z hz => hl z (List.mem_cons_of_mem _ hz)) hA.1 hO'
theorem spendM_free {M : Mr} (h : M = none) (n : Int) : spendM M n = (true, M) := by
  cases M with
  | none => rfl
  | some p => cases h
/-- Without a meter nothing is refused. -/
theorem itGo_free {s : List Lin} (hs : Thin s) (letter : Int) : ∀ (l : List It) (M : Mr) (O : List It), M = none → (∀ x ∈ l, ItOk s x) → (itGo s letter l M O).2 = (0, M)
  | [], M, O, _, _ => rfl
  | x :: r, M, O, hM, hl => by
    have hx := hl x (by simp)
    have h20 : ¬ 20 < (linAt s x.j.toNat).ps.length := by have := (hs.each _ (lin_mem hx)).trim.few; omega
    obtain ⟨O', e⟩ := maskF_some x (linAt s x.j.toNat).ps letter (fun m => by obtain ⟨c, e, _⟩ := next_ok hs hx m; exact ⟨c, e⟩) (2 ^ (linAt s x.j.toNat).ps.length) 0 O
    rw [itGo_0 (p := (true, M)) h20 (spendM_free hM _) rfl e]
    exact itGo_free hs letter r M O' hM (fun z hz => hl z (List.mem_cons_of_mem _ hz))

/-! ### How many there may be -/
theorem pigeon : ∀ (N : Nat) (l : List Nat), l.Nodup → (∀ x ∈ l, x < N) → l.length ≤ N
  | 0, l, _, h => by
    cases l with
    | nil => exact Nat.le_refl _
    | cons x r => exact absurd (h x (by simp)) (Nat.not_lt_zero _)
  | N + 1, l, hd, h => by
    by_cases hN : N ∈ l
    · have ih := pigeon N (l.erase N) (hd.sublist (List.erase_sublist ..)) (fun x hx => by
        have h1 := (List.Nodup.mem_erase_iff hd).1 hx
        have h2 := h x h1.2
        have h3 := h1.1
        omega)
      rw [List.length_erase_of_mem hN] at ih
      omega
    · have ih := pigeon N l hd (fun x hx => by
        have h2 := h x hx
        have h3 : x ≠ N := fun e => hN (e ▸ hx)
        omega)
      omega
theorem digit_inj {a b c d : Nat} (h : a * 46 + c = b * 46 + d) (hc : c < 46) (hd : d < 46) : a = b ∧ c = d := by omega
def codeI (x : It) : Nat := (((x.j.toNat * 46 + (x.c.getD 0 0).toNat) * 46 + (x.c.getD 1 0).toNat) * 46 + (x.c.getD 2 0).toNat) * 46 + (x.c.getD 3 0).toNat
theorem digit_lt {s : List Lin} {x : It} (h : ItOk s x) (t : Nat) : (x.c.getD t 0).toNat < 46 := by
  have := h.small.top t
  omega
theorem code_lt {s : List Lin} (hs : s.length ≤ 6) {x : It} (h : ItOk s x) : codeI x < 26873856 := by
  have h0 := digit_lt h 0
  have h1 := digit_lt h 1
  have h2 := digit_lt h 2
  have h3 := digit_lt h 3
  have hj : x.j.toNat < 6 := by have := h.hi; have := h.lo; omega
  unfold codeI
  omega
theorem code_inj {s : List Lin} {x y : It} (hx : ItOk s x) (hy : ItOk s y) (h : codeI x = codeI y) : x = y := by
  unfold codeI at h
  obtain ⟨h, e3⟩ := digit_inj h (digit_lt hx 3) (digit_lt hy 3)
  obtain ⟨h, e2⟩ := digit_inj h (digit_lt hx 2) (digit_lt hy 2)
  obtain ⟨h, e1⟩ := digit_inj h (digit_lt hx 1) (digit_lt hy 1)
  obtain ⟨h, e0⟩ := digit_inj h (digit_lt hx 0) (digit_lt hy 0)
  have ej : x.j = y.j := by have := hx.lo; have := hy.lo; omega
  have ec : x.c = y.c := by
    refine right_ext hx.small.right hy.small.right (fun t => ?_)
    have p1 := hx.small.pos t
    have p2 := hy.small.pos t
    by_cases ht : 4 ≤ t
    · rw [getD_past (by have := hx.len; omega), getD_past (by have := hy.len; omega)]
    · obtain rfl | rfl | rfl | rfl : t = 0 ∨ t = 1 ∨ t = 2 ∨ t = 3 := by omega
      all_goals omega
  cases x; cases y
  simp only at ej ec
  rw [ej, ec]
theorem rise_few {s : List Lin} (hs : Thin s) {l : List It} (hr : RiseI l) (h : ∀ x ∈ l, ItOk s x) : l.length ≤ 26873856 := by
  have hd : (l.map codeI).Nodup := by
    refine List.pairwise_map.2 (List.Pairwise.imp_of_mem (fun {x y} hx hy hxy e => ?_) hr.2)
    have e2 := code_inj (h x hx) (h y hy) e
    subst e2
    have := cmpI_self (hr.1 x hx)
    omega
  have := pigeon 26873856 (l.map codeI) hd (fun z hz => by
    obtain ⟨x, hx, rfl⟩ := List.mem_map.1 hz
    exact code_lt hs.few (h x hx))
  rwa [List.length_map] at this
theorem cost_few {s : List Lin} (hs : Thin s) : ∀ {l : List It}, (∀ x ∈ l, ItOk s x) → costI s l ≤ l.length * 256
  | [], _ => Nat.le_refl _
  | x :: r, h => by
    have ih := cost_few hs (l := r) (fun z hz => h z (List.mem_cons_of_mem _ hz))
    have h8 := (hs.each _ (lin_mem (h x (by simp)))).trim.few
    have hp : 2 ^ (linAt s x.j.toNat).ps.length ≤ 2 ^ 8 := Nat.pow_le_pow_right (by omega) h8
    rw [costI_cons, List.length_cons]
    have e : (2 : Nat) ^ 8 = 256 := rfl
    omega
theorem cost_bound {s : List Lin} (hs : Thin s) {l : List It} (hr : RiseI l) (h : ∀ x ∈ l, ItOk s x) : costI s l ≤ 100000000000 := by
  have h1 := rise_few hs hr h
  have h2 := cost_few hs h
  omega
end Go.Proofs.YtmefmnpmppdpmabDoor
/- Plain words: pairs of a search as texts. -/
namespace Go.Proofs.YtmefmnpmppdpmabDoor
open Go.ChangeShapes Go.WideShapes Go.ChangeAt Go.RowKit

def Num8 (n : Int) : Prop := 0 ≤ n ∧ n < 18446744073709551616
theorem right_num {c : List Int} (h : rightL c = true) : ∀ n ∈ c, Num8 n := fun n hn => by
  obtain ⟨k, hk, rfl⟩ := List.getElem_of_mem hn
  have := right_at h k
  rw [getD_at hk] at this
  exact ⟨this.1, by omega⟩
/-- Items that may be told by their bytes. -/
def TextI (l : List It) : Prop := ∀ x ∈ l, rightIt x = true ∧ 0 ≤ x.j ∧ x.j < 65536
end Go.Proofs.YtmefmnpmppdpmabDoor

/- Contracts of pat's parts, hasStar, right and of slices.ContainsFunc at them; the condition: what is read lies there. -/
import Derived.Test.YtkdejinhjdkkmaaDoorCa
import Derived.Test.YtkdejinhjdkkmaaDoorRc
import Derived.Laws.StructEq
namespace Go.Proofs.YtkdejinhjdkkmaaDoor
open Go.ChangeShapes Go.WideShapes Go.ChangeAt Go.RowKit

theorem parts_any (k : Int) (w : World) : Calls Tryd.prog 31 #[.int .i64 k] w fun e w' => e = .returned (.int .i64 (partsK k : Nat)) ∧ w = w' := by
  unfold partsK
  by_cases h4 : k = 4
  · subst h4
    go_enter Tryd.func31, Tryd.ntmps31
    go_wp2
    go_ret
    exact ⟨rfl, rfl⟩
  · by_cases h5 : k = 5
    · subst h5
      go_enter Tryd.func31, Tryd.ntmps31
      go_wp2
      go_ret
      exact ⟨rfl, rfl⟩
    · rw [if_neg (by omega)]
      by_cases h6 : k = 6
      · subst h6
        go_enter Tryd.func31, Tryd.ntmps31
        go_wp2
        go_ret
        exact ⟨rfl, rfl⟩
      · rw [if_neg h6]
        go_enter Tryd.func31, Tryd.ntmps31
        go_wp2
        go_ret
        exact ⟨rfl, rfl⟩
theorem hasStar_any (p : Int) (s : Bool) (w : World) : Calls Tryd.prog 34 #[.agg #[.int .i64 p, .bool s]] w fun e w' => e = .returned (.bool s) ∧ Below w.heap.size w w' := by
  go_enter Tryd.func34, Tryd.ntmps34
  go_wp2
  go_ret
  exact ⟨rfl, (Below.refl _ _).alloc (Nat.le_refl _) _⟩

/-- The slice at a reads as the parts l; what it reads was there. -/
def PartsAt (w : World) (a : Option Addr) (l : List Pr) : Prop := ∀ j (h : j < l.length), ∃ b off, a = some ⟨b, off, none⟩ ∧ PrAt w b (off + j * 2) l[j] ∧ b < w.heap.size
theorem PartsAt.below {w w' : World} {a : Option Addr} {l : List Pr} (h : PartsAt w a l) (b : Below w.heap.size w w') : PartsAt w' a l := fun j hj => by
  obtain ⟨x, off, e, p, hx⟩ := h j hj
  exact ⟨x, off, e, ⟨(b.cell (p := ⟨x, _, none⟩) hx).trans p.c0, (b.cell (p := ⟨x, _, none⟩) hx).trans p.c1⟩, Nat.lt_of_lt_of_le hx b.size⟩
/-- What a call that looks for a star comes to. -/
def Finds (l : List Pr) (w : World) (e : Ending) (w' : World) : Prop := ∃ z : Int, e = .returned (.int .i64 z) ∧ (0 ≤ z ↔ l.any (·.2) = true) ∧ Below w.heap.size w w'
set_option maxHeartbeats 1000000 in
theorem indexFunc_any (a : Option Addr) (l : List Pr) (c : Nat) (w : World) (P : PartsAt w a l) (hl : l.length ≤ 1000) :
    Calls Tryd.prog 53 #[.slice a l.length c, .func (.func 34) #[] #[]] w (Finds l w) := by
  have HP := Lib.hid P
  clear P
  obtain ⟨n, hn⟩ : ∃ n, n = l.length := ⟨_, rfl⟩
  rw [← hn] at hl ⊢
  have HN := Lib.hid hn
  clear hn
  go_enter Tryd.func53, Tryd.ntmps53
  go_wp2_with (fail)
  go_loopw [4, 5, 8] (fun _ _ i wr => ∃ k : Nat, k ≤ n ∧ i = .int .i64 k ∧ Hid (∀ j (h : j < l.length), j < k → (l[j]).2 = false) ∧ Hid (Below w.heap.size w wr)) (fun _ _ i _ => n - (intOf i).toNat)
  case atStart => exact ⟨0, Nat.zero_le _, rfl, Lib.hid (fun j _ h => by omega), Lib.hid (Below.refl _ _)⟩
  case round =>
    obtain ⟨k, hk, rfl, HF, HB⟩ := hrel
    by_cases hlt : k < n
    · have hkn : k < l.length := by have := HN.out; omega
      obtain ⟨b, off, ha, p, hb⟩ := HP.out.below HB.out k hkn
      subst ha
      have c0 := p.c0
      have c1 := p.c1
      have HA : Hid ((l[k]).2 = true → l.any (·.2) = true) := Lib.hid (fun h => List.any_eq_true.2 ⟨_, List.getElem_mem hkn, h⟩)
      have HX : Hid ((l[k]).2 = false → ∀ j (h : j < l.length), j < k + 1 → (l[j]).2 = false) := Lib.hid (fun h j hj hjk => by
        by_cases e : j = k
        · subst e; exact h
        · exact HF.out j hj (by omega))
      clear p hb
      generalize (l[k]).1 = x at *
      generalize (l[k]).2 = s at *
      have CS := Lib.hid (hasStar_any x s wr)
      cases s with
      | true =>
        go_wp2_with (fail)
        refine CS.out.mono ?_
        rintro e w1 ⟨rfl, b1⟩
        have HB1 : Hid (Below w.heap.size w w1) := Lib.hid (HB.out.trans (b1.mono HB.out.size))
        clear b1
        go_wp2
        go_ret
        exact ⟨k, rfl, ⟨fun _ => HA.out (by trivial), fun _ => by omega⟩, HB1.out⟩
      | false =>
        go_wp2_with (fail)
        refine CS.out.mono ?_
        rintro e w1 ⟨rfl, b1⟩
        have HB1 : Hid (Below w.heap.size w w1) := Lib.hid (HB.out.trans (b1.mono HB.out.size))
        clear b1
        go_wp2
        go_roundw
        case rel => exact ⟨k + 1, by omega, by go_num, Lib.hid (HX.out (by trivial)), HB1⟩
        case measure => simp [intOf]; omega
    · go_wp2
      go_ret
      refine ⟨-1, rfl, ⟨fun h => by omega, fun h => ?_⟩, HB.out⟩
      obtain ⟨x, hx, e⟩ := List.any_eq_true.1 h
      obtain ⟨j, hj, rfl⟩ := List.getElem_of_mem hx
      rw [HF.out j hj (by have := HN.out; omega)] at e
      cases e
theorem containsFunc_any (a : Option Addr) (l : List Pr) (c : Nat) (w : World) (P : PartsAt w a l) (hl : l.length ≤ 1000) :
    Calls Tryd.prog 33 #[.slice a l.length c, .func (.func 34) #[] #[]] w fun e w' => e = .returned (.bool (l.any (·.2))) ∧ Below w.heap.size w w' := by
  have C := Lib.hid (indexFunc_any a l c w P hl)
  clear P
  go_enter Tryd.func33, Tryd.ntmps33
  go_wp2_with (fail)
  refine C.out.mono ?_
  rintro e w1 ⟨z, rfl, hz, b1⟩
  have HB1 := Lib.hid b1
  have HZ := Lib.hid hz
  clear b1 hz
  have HD : Hid (decide (0 ≤ z) = l.any (·.2)) := Lib.hid (by rw [Bool.eq_iff_iff, decide_eq_true_eq]; exact HZ.out)
  go_wp2
  go_ret
  exact ⟨ret_bool HD.out, HB1.out⟩

set_option maxRecDepth 100000 in
set_option maxHeartbeats 4000000 in
theorem right_leaf (k a b n : Int) (x : ByteArray) (tags : Int) (ad : Option Addr) (m c : Nat) (hk : k = 1 ∨ k = 2) (w : World) :
    Calls Tryd.prog 32 #[.agg #[.int .i64 k, .int .i64 a, .int .i64 b, .int .i64 n, .string x], .int .i64 tags, .slice ad m c] w fun e w' => e = .returned (.bool (decide (a = 0) && (decide (b = 0) && decide (n = 0)))) ∧ Below w.heap.size w w' := by
  rcases hk with rfl | rfl
  · go_enter Tryd.func32, Tryd.ntmps32
    go_wp2
    all_goals
      go_ret
      refine ⟨ret_bool (by simp [*]), ?_⟩
      exact ((Below.refl _ _).alloc (Nat.le_refl _) _).alloc (by simp) _
  · go_enter Tryd.func32, Tryd.ntmps32
    go_wp2
    all_goals
      go_ret
      refine ⟨ret_bool (by simp [*]), ?_⟩
      exact ((Below.refl _ _).alloc (Nat.le_refl _) _).alloc (by simp) _
set_option maxRecDepth 100000 in
set_option maxHeartbeats 4000000 in
theorem right_other (k a b n : Int) (x : ByteArray) (tags : Int) (ad : Option Addr) (m c : Nat) (h1 : ¬ k = 1) (h2 : ¬ k = 2) (h3 : ¬ k = 3) (h4 : ¬ k = 4) (h5 : ¬ k = 5) (h6 : ¬ k = 6) (w : World) :
    Calls Tryd.prog 32 #[.agg #[.int .i64 k, .int .i64 a, .int .i64 b, .int .i64 n, .string x], .int .i64 tags, .slice ad m c] w fun e w' => e = .returned (.bool (false)) ∧ Below w.heap.size w w' := by
  go_enter Tryd.func32, Tryd.ntmps32
  go_wp2
  go_ret
  exact ⟨rfl, ((Below.refl _ _).alloc (Nat.le_refl _) _).alloc (by simp) _⟩
set_option maxRecDepth 100000 in
set_option maxHeartbeats 4000000 in
theorem right_tag (a b n : Int) (x : ByteArray) (tags : Int) (ad : Option Addr) (m c : Nat) (w : World) :
    Calls Tryd.prog 32 #[.agg #[.int .i64 3, .int .i64 a, .int .i64 b, .int .i64 n, .string x], .int .i64 tags, .slice ad m c] w fun e w' => e = .returned (.bool (decide (0 ≤ n) && (decide (n < tags) && (decide (1 ≤ a) && (decide (a ≤ 999999999) && decide (b = 0)))))) ∧ Below w.heap.size w w' := by
  have CY := Lib.hid (fun W h => count_yes a W h)
  have CN := Lib.hid (fun W h => count_no a W h)
  obtain ⟨r, hr⟩ : ∃ r, r = (decide (0 ≤ n) && (decide (n < tags) && (decide (1 ≤ a) && (decide (a ≤ 999999999) && decide (b = 0))))) := ⟨_, rfl⟩
  rw [← hr]
  by_cases h1 : 0 ≤ n
  · by_cases h2 : n < tags
    · by_cases h3 : 1 ≤ a ∧ a ≤ 999999999
      · have HR : Hid (r = decide (b = 0)) := Lib.hid (by rw [hr]; simp [h1, h2, h3.1, h3.2])
        clear hr
        go_enter Tryd.func32, Tryd.ntmps32
        go_wp2_with (fail)
        refine (CY.out _ h3).mono ?_
        rintro e w1 ⟨rfl, rfl⟩
        obtain ⟨h3a, h3b⟩ := h3
        go_wp2_with (fail)
        go_region
        all_goals
          go_wp2
        all_goals
          go_ret
          refine ⟨ret_bool (by rw [HR.out]; simp [*]), ?_⟩
          exact (((Below.refl w.heap.size w).alloc (Nat.le_refl _) _).alloc (by simp) _).trans (below_drewN _ _ 1)
      · have HR : Hid (r = false) := Lib.hid (by
          rw [hr]
          by_cases h : 1 ≤ a
          · have : ¬ a ≤ 999999999 := fun h' => h3 ⟨h, h'⟩
            simp [this]
          · simp [h])
        clear hr
        go_enter Tryd.func32, Tryd.ntmps32
        go_wp2_with (fail)
        refine (CN.out _ h3).mono ?_
        rintro e w1 ⟨rfl, rfl⟩
        go_wp2
        go_ret
        exact ⟨ret_bool HR.out.symm, ((Below.refl _ _).alloc (Nat.le_refl _) _).alloc (by simp) _⟩
    · have HR : Hid (r = false) := Lib.hid (by rw [hr]; simp [h2])
      have h2' : tags ≤ n := by omega
      clear hr
      go_enter Tryd.func32, Tryd.ntmps32
      go_wp2
      go_ret
      exact ⟨ret_bool HR.out.symm, ((Below.refl _ _).alloc (Nat.le_refl _) _).alloc (by simp) _⟩
  · have HR : Hid (r = false) := Lib.hid (by rw [hr]; simp [h1])
    clear hr
    go_enter Tryd.func32, Tryd.ntmps32
    go_wp2
    go_ret
    exact ⟨ret_bool HR.out.symm, ((Below.refl _ _).alloc (Nat.le_refl _) _).alloc (by simp) _⟩
set_option maxRecDepth 100000 in
set_option maxHeartbeats 4000000 in
theorem right_two (k a b n : Int) (x : ByteArray) (tags : Int) (ad : Option Addr) (c : Nat) (p q : Pr) (w : World) (hk : k = 4 ∨ k = 5) (P : PartsAt w ad [p, q]) :
    Calls Tryd.prog 32 #[.agg #[.int .i64 k, .int .i64 a, .int .i64 b, .int .i64 n, .string x], .int .i64 tags, .slice ad 2 c] w fun e w' => e = .returned (.bool (decide (a = p.1) && (decide (b = q.1) && decide (n = 0)))) ∧ Below w.heap.size w w' := by
  obtain ⟨g, off, rfl, p0, hg⟩ := P 0 (by simp)
  obtain ⟨g', off', e, p1, -⟩ := P 1 (by simp)
  injection e with e; injection e with e1 e2; subst e1; subst e2
  have c0 := p0.c0
  have c1 := p1.c0
  simp only [List.getElem_cons_zero, List.getElem_cons_succ, Nat.zero_mul, Nat.one_mul, Nat.add_zero] at c0 c1
  generalize p.1 = u at c0 ⊢
  generalize q.1 = v at c1 ⊢
  obtain ⟨r, hr⟩ : ∃ r, r = (decide (a = u) && (decide (b = v) && decide (n = 0))) := ⟨_, rfl⟩
  rw [← hr]
  have HR := Lib.hid hr
  clear hr p0 p1 P
  rcases hk with rfl | rfl
  · go_enter Tryd.func32, Tryd.ntmps32
    go_wp2_with (fail)
    go_region
    all_goals
      go_wp2
    all_goals
      go_ret
      refine ⟨ret_bool (by rw [HR.out]; simp [*]), ?_⟩
      exact (((Below.refl w.heap.size w).alloc (Nat.le_refl _) _).alloc (by simp) _).trans (below_drewN _ _ 1)
  · go_enter Tryd.func32, Tryd.ntmps32
    go_wp2_with (fail)
    go_region
    all_goals
      go_wp2
    all_goals
      go_ret
      refine ⟨ret_bool (by rw [HR.out]; simp [*]), ?_⟩
      exact (((Below.refl w.heap.size w).alloc (Nat.le_refl _) _).alloc (by simp) _).trans (below_drewN _ _ 1)
set_option maxRecDepth 100000 in
set_option maxHeartbeats 4000000 in
theorem right_star (a b n : Int) (x : ByteArray) (tags : Int) (ad : Option Addr) (c : Nat) (p : Pr) (w : World) (P : PartsAt w ad [p]) :
    Calls Tryd.prog 32 #[.agg #[.int .i64 6, .int .i64 a, .int .i64 b, .int .i64 n, .string x], .int .i64 tags, .slice ad 1 c] w fun e w' => e = .returned (.bool (!p.2 && (decide (a = p.1) && (decide (b = 0) && decide (n = 0))))) ∧ Below w.heap.size w w' := by
  obtain ⟨g, off, rfl, p0, hg⟩ := P 0 (by simp)
  have c0 := p0.c0
  have c1 := p0.c1
  simp only [List.getElem_cons_zero, Nat.zero_mul, Nat.add_zero] at c0 c1
  generalize p.1 = u at c0 ⊢
  generalize p.2 = s at c1 ⊢
  obtain ⟨r, hr⟩ : ∃ r, r = (!s && (decide (a = u) && (decide (b = 0) && decide (n = 0)))) := ⟨_, rfl⟩
  rw [← hr]
  have HR := Lib.hid hr
  clear hr p0 P
  cases s with
  | true =>
    go_enter Tryd.func32, Tryd.ntmps32
    go_wp2
    go_ret
    refine ⟨ret_bool (by rw [HR.out]; simp), ?_⟩
    exact ((Below.refl w.heap.size w).alloc (Nat.le_refl _) _).alloc (by simp) _
  | false =>
    go_enter Tryd.func32, Tryd.ntmps32
    go_wp2
    all_goals
      go_ret
      refine ⟨ret_bool (by rw [HR.out]; simp [*]), ?_⟩
      exact ((Below.refl w.heap.size w).alloc (Nat.le_refl _) _).alloc (by simp) _
theorem right_any (y : Nd) (tags : Int) (ad : Option Addr) (c : Nat) (l : List Pr) (w : World) (hl : l.length = partsK y.kind) (P : PartsAt w ad l) :
    Calls Tryd.prog 32 #[.agg #[.int .i64 y.kind, .int .i64 y.a, .int .i64 y.b, .int .i64 y.n, .string y.name], .int .i64 tags, .slice ad l.length c] w fun e w' => e = .returned (.bool (rightB y tags l)) ∧ Below w.heap.size w w' := by
  obtain ⟨k, a, b, n, x⟩ := y
  simp only at hl ⊢
  unfold rightB
  simp only
  by_cases h12 : k = 1 ∨ k = 2
  · rw [if_pos h12]
    exact right_leaf k a b n x tags ad _ c h12 w
  · rw [if_neg h12]
    by_cases h3 : k = 3
    · subst h3
      rw [if_pos rfl]
      exact right_tag a b n x tags ad _ c w
    · rw [if_neg h3]
      unfold partsK at hl
      by_cases h45 : k = 4 ∨ k = 5
      · rw [if_pos h45] at hl
        match l, hl with
        | [p, q], _ =>
          simp only [decide_eq_true h45, Bool.true_and]
          exact right_two k a b n x tags ad c p q w h45 P
      · rw [if_neg h45] at hl
        by_cases h6 : k = 6
        · rw [if_pos h6] at hl
          subst h6
          match l, hl with
          | [p], _ =>
            simp only [decide_true, Bool.true_and]
            exact right_star a b n x tags ad c p w P
        · rw [if_neg h6] at hl
          match l, hl with
          | [], _ => exact right_other k a b n x tags ad _ c (by omega) (by omega) h3 (by omega) (by omega) h6 w
end Go.Proofs.YtkdejinhjdkkmaaDoor

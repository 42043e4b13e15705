/- make of a bag; contracts of One and of the reference's OneBag; the example; the walk of the law BagOne. -/
import Derived.Test.YthjeollmjfdaeaaE
namespace Go.Proofs.Ythjeollmjfdaeaa
open Go.ChangeShapes Go.WideShapes Go.ChangeAt Go.RowKit

theorem made_bag {w w' : World} {g n : Nat} (h : w'.ownsRow w.heap.size 3 1 (.slice (some ⟨g, 0, none⟩) n n) n (madeCells (Value.int .i64 0).cells (n * 1)).toList) : Bag w' (some ⟨g, 0, none⟩) n (tab n (fun _ => 0)) := by
  have e : (madeCells (Value.int .i64 0).cells (n * 1)).toList = ints (tab n (fun _ => 0)) := by
    rw [Nat.mul_one, show (Value.int .i64 0).cells = #[.int .i64 0] from rfl, toList_madeCells_one]
    apply List.ext_getElem
    · rw [List.length_replicate, ints_len, tab_len]
    · intro j h1 h2
      rw [List.getElem_replicate, ints_get (by rw [ints_len] at h2; exact h2), tab_get]
  rw [e] at h
  obtain ⟨a, c, e1, r, _⟩ := own_row h
  injection e1 with e1 _ e2
  subst e1; subst e2
  exact r

theorem wpList_make_bag (w : World) {ops : Array Oper} {rest : List Oper} {o : Oper} {a : Act} {Q : Exit → Act → World → Prop} (hg : o.guard = none) (l c : Operand) (hop : o.op = Op.makeSlice 23 l c)
    (L C : Int) (n : Nat) (hl : a.eval l = .int .i64 L) (hc : a.eval c = .int .i64 C) (hL : L = n) (hC : C = n) (hn : n ≤ 1000)
    (hK : ∀ w', Bag w' (some ⟨w.heap.size, 0, none⟩) n (tab n (fun _ => 0)) → Below w.heap.size w w' → wpList Try.prog ops Q rest (a.put o.dst (.slice (some ⟨w.heap.size, 0, none⟩) n n)) w') :
    wpList Try.prog ops Q (o :: rest) a w := by
  obtain ⟨i, hi, hz, hsz, hby⟩ := info_parts Try.info3
  refine wpList_make_full w hg l c 23 hop w.heap.size 3 i _ 1 Try.underlying23 hi hz hsz .i64 .i64 L C n hl hc hL hC (by rw [hby]; omega) (by unfold maxLen; omega) (Nat.le_refl _) ?_
  intro w' h1 h2
  exact hK w' (made_bag h1) ((Below.refl _ _).grown h2 (Nat.le_refl _) (fun k e => nomatch e))


theorem one24_no (t n : Int) (w : World) (h : oneOk t n = false) : Calls Try.prog 24 #[.int .i64 t, .int .i64 n] w (Makes [] w) := by
  have H : t < 0 ∨ 12 ≤ t ∨ n < 1 ∨ 1152921504606846976 < n := by
    have h' : ¬ _ := fun e => Bool.false_ne_true (h.symm.trans (one_iff.2 e))
    omega
  clear h
  by_cases h1 : t < 0
  · go_enter Try.func24, Try.ntmps24
    go_wp2
    go_ret
    exact ⟨none, 0, rfl, Bag.nil _, (fun _ e => nomatch e), Below.refl _ _⟩
  · by_cases h2 : 12 ≤ t
    · go_enter Try.func24, Try.ntmps24
      go_wp2
      go_ret
      exact ⟨none, 0, rfl, Bag.nil _, (fun _ e => nomatch e), Below.refl _ _⟩
    · by_cases h3 : n < 1
      · go_enter Try.func24, Try.ntmps24
        go_wp2
        go_ret
        exact ⟨none, 0, rfl, Bag.nil _, (fun _ e => nomatch e), Below.refl _ _⟩
      · have h4 : 1152921504606846976 < n := by omega
        go_enter Try.func24, Try.ntmps24
        go_wp2
        go_ret
        exact ⟨none, 0, rfl, Bag.nil _, (fun _ e => nomatch e), Below.refl _ _⟩
theorem one24_yes (k : Nat) (n : Int) (w : World) (hk : k < 12) (h1 : 1 ≤ n) (h2 : n ≤ 1152921504606846976) : Calls Try.prog 24 #[.int .i64 k, .int .i64 n] w (Makes (tab (k + 1) (fun j => if j = k then n else 0)) w) := by
  have g1 : ¬ ((k : Int) < 0) := by omega
  have g2 : ¬ (12 ≤ (k : Int)) := by omega
  have g3 : ¬ (n < 1) := by omega
  have g4 : ¬ (1152921504606846976 < n) := by omega
  go_enter Try.func24, Try.ntmps24
  go_wp2_with (at_make; refine wpList_make_bag _ rfl _ _ rfl _ _ (k + 1) rfl rfl (by omega) (by omega) (by omega) ?_)
  intro w1 r1 b1
  obtain ⟨g, e, hc⟩ := r1.at (k := k) (by rw [tab_len]; omega)
  injection e with e; injection e with e
  have hne : w.heap.size = g := e
  have hfz := r1.frozen k
  have R2 := Lib.hid (r1.set (j := k) (by rw [tab_len]; omega) n)
  have B2 := Lib.hid (b1.setCell (p := ⟨w.heap.size, k, none⟩) (Nat.le_refl _) (.int .i64 n))
  subst hne
  clear r1 b1
  go_wp2
  go_ret
  exact ⟨_, _, ret_len (tab_len _ _).symm, by have := R2.out; rw [tab_set] at this; exact this, fun g e => by injection e with e; injection e with e; omega, B2.out⟩


theorem one25_no (t n : Int) (w : World) (h : oneOk t n = false) : Calls Try.prog 25 #[.int .i64 t, .int .i64 n] w (Makes [] w) := by
  have H : t < 0 ∨ 12 ≤ t ∨ n < 1 ∨ 1152921504606846976 < n := by
    have h' : ¬ _ := fun e => Bool.false_ne_true (h.symm.trans (one_iff.2 e))
    omega
  clear h
  by_cases h1 : t < 0
  · go_enter Try.func25, Try.ntmps25
    go_wp2
    go_ret
    exact ⟨none, 0, rfl, Bag.nil _, (fun _ e => nomatch e), Below.refl _ _⟩
  · by_cases h2 : 12 ≤ t
    · go_enter Try.func25, Try.ntmps25
      go_wp2
      go_ret
      exact ⟨none, 0, rfl, Bag.nil _, (fun _ e => nomatch e), Below.refl _ _⟩
    · by_cases h3 : n < 1
      · go_enter Try.func25, Try.ntmps25
        go_wp2
        go_ret
        exact ⟨none, 0, rfl, Bag.nil _, (fun _ e => nomatch e), Below.refl _ _⟩
      · have h4 : 1152921504606846976 < n := by omega
        go_enter Try.func25, Try.ntmps25
        go_wp2
        go_ret
        exact ⟨none, 0, rfl, Bag.nil _, (fun _ e => nomatch e), Below.refl _ _⟩
theorem one25_yes (k : Nat) (n : Int) (w : World) (hk : k < 12) (h1 : 1 ≤ n) (h2 : n ≤ 1152921504606846976) : Calls Try.prog 25 #[.int .i64 k, .int .i64 n] w (Makes (tab (k + 1) (fun j => if j = k then n else 0)) w) := by
  have g1 : ¬ ((k : Int) < 0) := by omega
  have g2 : ¬ (12 ≤ (k : Int)) := by omega
  have g3 : ¬ (n < 1) := by omega
  have g4 : ¬ (1152921504606846976 < n) := by omega
  go_enter Try.func25, Try.ntmps25
  go_wp2_with (at_make; refine wpList_make_bag _ rfl _ _ rfl _ _ (k + 1) rfl rfl (by omega) (by omega) (by omega) ?_)
  intro w1 r1 b1
  obtain ⟨g, e, hc⟩ := r1.at (k := k) (by rw [tab_len]; omega)
  injection e with e; injection e with e
  have hne : w.heap.size = g := e
  have hfz := r1.frozen k
  have R2 := Lib.hid (r1.set (j := k) (by rw [tab_len]; omega) n)
  have B2 := Lib.hid (b1.setCell (p := ⟨w.heap.size, k, none⟩) (Nat.le_refl _) (.int .i64 n))
  subst hne
  clear r1 b1
  go_wp2
  go_ret
  exact ⟨_, _, ret_len (tab_len _ _).symm, by have := R2.out; rw [tab_set] at this; exact this, fun g e => by injection e with e; injection e with e; omega, B2.out⟩


theorem one24 (t n : Int) (w : World) : Calls Try.prog 24 #[.int .i64 t, .int .i64 n] w (Makes (oneL t n) w) := by
  unfold oneL
  cases h : oneOk t n with
  | false => exact one24_no t n w h
  | true =>
    have H := one_iff.1 h
    obtain ⟨k, rfl⟩ : ∃ k : Nat, t = k := ⟨t.toNat, by omega⟩
    exact one24_yes k n w (by omega) H.2.1 H.2.2

theorem one25 (t n : Int) (w : World) : Calls Try.prog 25 #[.int .i64 t, .int .i64 n] w (Makes (oneL t n) w) := by
  unfold oneL
  cases h : oneOk t n with
  | false => exact one25_no t n w h
  | true =>
    have H := one_iff.1 h
    obtain ⟨k, rfl⟩ : ∃ k : Nat, t = k := ⟨t.toNat, by omega⟩
    exact one25_yes k n w (by omega) H.2.1 H.2.2

theorem bag_new2 (w : World) (x y : Int) : Bag (w.alloc (.cells #[.int .i64 x, .int .i64 y] 3)) (some ⟨w.heap.size, 0, none⟩) 2 [x, y] :=
  .inr ⟨_, [], rfl, rfl, by omega, Lies.new w 3 [.int .i64 x, .int .i64 y]⟩
theorem below_alloc (w : World) (o : Obj) : Below w.heap.size w (w.alloc o) := (Below.refl _ _).alloc (Nat.le_refl _) o
theorem wakes_any (w : World) : Calls Try.prog 23 #[] w (True_ w) := by
  have O : Calls Try.prog 24 #[.int .i64 1, .int .i64 3] w (Makes [0, 3] w) := one24_yes 1 3 w (by omega) (by omega) (by omega)
  go_enter Try.func23, Try.ntmps23
  go_wp2_with (fail)
  refine O.mono ?_
  rintro e w1 ⟨a, c, rfl, r1, f1, b1⟩
  go_wp2_with (fail)
  refine (same32 a (some ⟨w1.heap.size, 0, none⟩) c 2 [0, 3] [0, 3] _ (r1.below (below_alloc _ _)) (bag_new2 w1 0 3)).mono ?_
  rintro e w2 ⟨rfl, q, rfl⟩
  rw [same_self]
  go_wp2
  go_ret
  exact ⟨rfl, ((b1.trans ((below_alloc _ _).mono b1.size)).trans (below_drewN _ _ q))⟩

theorem one_walk (t n : Int) (w : World) : Calls Try.prog 4 #[.int .i64 t, .int .i64 n] w (True_ w) := by
  have HT : Hid (oneL t n = [] ∨ rightL (oneL t n) = true) := Lib.hid (by
    cases h : oneOk t n with
    | true => exact .inr (one_right h)
    | false => exact .inl (by simp [oneL, h]))
  have O := one24 t n w
  have O2 := fun w => one25 t n w
  generalize oneL t n = xs at *
  go_enter Try.func4, Try.ntmps4
  go_wp2_with (fail)
  refine O.mono ?_
  rintro e w1 ⟨a, c, rfl, r1, f1, b1⟩
  go_wp2_with (fail)
  refine (O2 _).mono ?_
  rintro e w2 ⟨a2, c2, rfl, r2, f2, b2⟩
  have B2 := b1.trans (b2.mono b1.size)
  have r3 := r1.below b2
  clear O O2 b1 b2 r1 f1 f2
  go_wp2_with (fail)
  refine (same_yes a a2 c c2 xs _ r3 r2).mono ?_
  rintro e w3 ⟨rfl, q, rfl⟩
  by_cases h0 : xs = []
  · subst h0
    go_wp2_with (fail)
    refine (wakes_any _).mono ?_
    rintro e w4 ⟨rfl, b4⟩
    go_wp2
    go_ret
    exact ⟨rfl, (B2.trans (below_drewN _ _ q)).trans (b4.mono B2.size)⟩
  · have hr : Hid (rightL xs = true) := Lib.hid (HT.out.resolve_left h0)
    have hpos : 0 < xs.length := List.length_pos_iff.2 h0
    have hl : ((xs.length : Int) == 0) = false := by simp; intro e; rw [e] at hpos; simp at hpos
    have hl2 : ¬ (xs.length = 0) := by omega
    clear h0 HT
    go_wp2_with (fail)
    refine (right16 a c xs _ (r3.drewN q)).mono ?_
    rintro e w4 ⟨rfl, rfl⟩
    rw [hr.out]
    go_wp2_with (fail)
    refine (wakes_any _).mono ?_
    rintro e w4 ⟨rfl, b4⟩
    go_wp2
    go_ret
    exact ⟨rfl, (B2.trans (below_drewN _ _ q)).trans (b4.mono B2.size)⟩
end Go.Proofs.Ythjeollmjfdaeaa

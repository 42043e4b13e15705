/- Plain words: what few numbers stand for has few periods and small numbers. -/
import Derived.Test.YtmnkjekjknhhjaaGreatDoorOc
import Derived.Test.YtmnkjekjknhhjaaGreatDoorQPd
namespace Go.Proofs.YtmnkjekjknhhjaaGreatDoor
open Go.ChangeShapes Go.WideShapes Go.ChangeAt Go.RowKit

/-- How much there is of tag t in all words; in all bases. -/
def psum (ps : List (List Int)) (t : Nat) : Int := (ps.map (fun p => p.getD t 0)).sum
def bsum (s : List Lin) (t : Nat) : Int := (s.map (fun x => x.base.getD t 0)).sum
theorem psum_cons (p : List Int) (r : List (List Int)) (t : Nat) : psum (p :: r) t = p.getD t 0 + psum r t := by simp [psum]
theorem bsum_cons (x : Lin) (r : List Lin) (t : Nat) : bsum (x :: r) t = x.base.getD t 0 + bsum r t := by simp [bsum]
theorem psum_put (b : List Int) (hb : rightL b = true) (t : Nat) : ∀ l : List (List Int), psum (putL b l) t ≤ b.getD t 0 + psum l t
  | [] => by unfold putL; rw [psum_cons]; omega
  | x :: r => by
    have ih := psum_put b hb t r
    have := (right_at hb t).1
    unfold putL
    split
    · rw [psum_cons, psum_cons]; omega
    · split
      · rw [psum_cons]; omega
      · rw [psum_cons, psum_cons]; omega
theorem psum_putAll (t : Nat) : ∀ (ps l : List (List Int)), (∀ p ∈ ps, rightL p = true) → psum (putAll l ps) t ≤ psum l t + psum ps t
  | [], l, _ => by show psum l t ≤ psum l t + 0; omega
  | b :: r, l, h => by
    have ih := psum_putAll t r (putL b l) (fun p hp => h p (List.mem_cons_of_mem _ hp))
    have := psum_put b (h b (by simp)) t l
    have e : putAll l (b :: r) = putAll (putL b l) r := rfl
    rw [e, psum_cons]
    omega
theorem bsum_put (b : Lin) (hb : rightL b.base = true) (t : Nat) : ∀ l : List Lin, bsum (putS b l) t ≤ b.base.getD t 0 + bsum l t
  | [] => by unfold putS; rw [bsum_cons]; omega
  | x :: r => by
    have ih := bsum_put b hb t r
    have := (right_at hb t).1
    unfold putS
    split
    · rw [bsum_cons, bsum_cons]; omega
    · split
      · rw [bsum_cons]; omega
      · rw [bsum_cons, bsum_cons]; omega
theorem bsum_putAll (t : Nat) : ∀ (ps l : List Lin), (∀ p ∈ ps, rightL p.base = true) → bsum (putAllS l ps) t ≤ bsum l t + bsum ps t
  | [], l, _ => by show bsum l t ≤ bsum l t + 0; omega
  | b :: r, l, h => by
    have ih := bsum_putAll t r (putS b l) (fun p hp => h p (List.mem_cons_of_mem _ hp))
    have := bsum_put b (h b (by simp)) t l
    have e : putAllS l (b :: r) = putAllS (putS b l) r := rfl
    rw [e, bsum_cons]
    omega
theorem bsum_app (s t : List Lin) (i : Nat) : bsum (s ++ t) i = bsum s i + bsum t i := by simp [bsum]
theorem bsum_row (x : Lin) (i : Nat) : ∀ t : List Lin, (∀ y ∈ t, catOk x y = true) → bsum (t.map (fun y => catLin x y)) i = (t.length : Int) * x.base.getD i 0 + bsum t i
  | [], _ => by simp [bsum]
  | y :: r, h => by
    have ih := bsum_row x i r (fun z hz => h z (List.mem_cons_of_mem _ hz))
    rw [List.map_cons, bsum_cons, ih, bsum_cons, cat_yes (h y (by simp)), List.length_cons]
    show (addT x.base y.base).getD i 0 + _ = _
    rw [add_at, Int.natCast_add, Int.add_mul]
    omega
theorem bsum_cats (i : Nat) (t : List Lin) : ∀ s : List Lin, (∀ x ∈ s, ∀ y ∈ t, catOk x y = true) → bsum (catsL s t) i = (t.length : Int) * bsum s i + (s.length : Int) * bsum t i
  | [], _ => by simp [catsL, prodS, bsum]
  | x :: r, h => by
    have ih := bsum_cats i t r (fun z hz => h z (List.mem_cons_of_mem _ hz))
    have e : catsL (x :: r) t = t.map (fun y => catLin x y) ++ catsL r t := by
      simp [catsL, prodS, Function.comp_def]
    rw [e, bsum_app, ih, bsum_row x i t (h x (by simp)), bsum_cons, List.length_cons, Int.natCast_add, Int.add_mul, Int.mul_add]
    omega
/-- Right; at most k periods; no number above m, of the periods either; four tags; not much of a tag in all periods. -/
structure Slim (m : Int) (k : Nat) (x : Lin) : Prop where
  trim : Trim m k x
  pers : ∀ p ∈ x.ps, Small m p
  bl : x.base.length ≤ 4
  pl : ∀ p ∈ x.ps, p.length ≤ 4
  tot : ∀ t, psum x.ps t ≤ 5 * (k : Int)
theorem Slim.more {m m' : Int} {k k' : Nat} {x : Lin} (h : Slim m k x) (hm : m ≤ m') (hk : k ≤ k') : Slim m' k' x :=
  ⟨⟨h.trim.right, h.trim.base.more hm, Nat.le_trans h.trim.few hk⟩, fun p hp => (h.pers p hp).more hm, h.bl, h.pl, fun t => by have := h.tot t; omega⟩
theorem small_norm {m : Int} {q : List Int} (hm : 0 ≤ m) (h : Small m q) : Small m (normL q) := by
  unfold normL
  split
  · next hr =>
    exact ⟨hr, (right_iff.1 hr).1, fun j => by rw [trim_at]; exact h.top j⟩
  · exact small_empty hm
theorem slim_cat {m m' : Int} {k k' : Nat} {x y : Lin} (hx : Slim m k x) (hy : Slim m' k' y) (h0 : 0 ≤ m) (h0' : 0 ≤ m') (h : m + m' ≤ 1000000000000000) : Slim (m + m') (k + k') (catLin x y) := by
  obtain ⟨ok, T⟩ := hx.trim.cat hy.trim h
  have hm : ∀ p, p ∈ (catLin x y).ps → p ∈ x.ps ∨ p ∈ y.ps := fun p hp => by
    rw [cat_yes ok] at hp
    exact ((cat_ps (rightLin_iff.1 hx.trim.right).2 (rightLin_iff.1 hy.trim.right).2).2 p).1 hp
  refine ⟨T, fun p hp => ?_, ?_, fun p hp => ?_, fun t => ?_⟩
  · rcases hm p hp with hp | hp
    · exact (hx.pers p hp).more (by omega)
    · exact (hy.pers p hp).more (by omega)
  · rw [cat_yes ok]
    show (addT x.base y.base).length ≤ 4
    rw [add_len]
    have := hx.bl
    have := hy.bl
    omega
  · rcases hm p hp with hp | hp
    · exact hx.pl p hp
    · exact hy.pl p hp
  · rw [cat_yes ok]
    show psum (putAll (putAll [] x.ps) y.ps) t ≤ _
    have h1 := psum_putAll t y.ps (putAll [] x.ps) (fun p hp => (hy.pers p hp).right)
    have h2 := psum_putAll t x.ps [] (fun p hp => (hx.pers p hp).right)
    have h3 : psum [] t = 0 := rfl
    have := hx.tot t
    have := hy.tot t
    omega
theorem norm_len (q : List Int) : (normL q).length ≤ q.length := by
  unfold normL
  split
  · rw [trim_len]; exact cut_le q
  · exact Nat.zero_le _
theorem norm_get {q : List Int} (h : rightL q = true) (t : Nat) : (normL q).getD t 0 = q.getD t 0 := by
  have hr : rightL (trimL q) = true := by
    refine right_of ?_ (fun j _ => ?_) (fun h0 => trim_last h0)
    · rw [trim_len]
      have := cut_le q
      have := (right_iff.1 h).1
      omega
    · rw [trim_at]; exact right_at h j
  rw [norm_yes hr, trim_at]
theorem psum_filter (t : Nat) : ∀ ps : List (List Int), (∀ p ∈ ps, rightL p = true) → psum (ofNorm ps) t = psum ps t
  | [], _ => rfl
  | p :: r, h => by
    have ih := psum_filter t r (fun q hq => h q (List.mem_cons_of_mem _ hq))
    have hp := norm_get (h p (by simp)) t
    unfold ofNorm at ih ⊢
    rw [List.map_cons, List.filter_cons]
    split
    · rw [psum_cons, psum_cons, ih, hp]
    · next hne =>
      have e : normL p = [] := by simpa using hne
      rw [e] at hp
      rw [psum_cons, ih, ← hp]
      simp
theorem slim_star {m : Int} {k : Nat} {s : List Lin} (h0 : 0 ≤ m) (hs : ∀ x ∈ s, Small m x.base ∧ x.base.length ≤ 4) (hk : s.length ≤ k) (ht : ∀ t, bsum s t ≤ 5 * (k : Int)) : Slim m k (ofLin [] (basesS s)) := by
  have hm : ∀ p, p ∈ (ofLin [] (basesS s)).ps → ∃ x ∈ s, p = normL x.base := fun p hp => by
    unfold ofLin at hp
    split at hp
    · have hp2 := (putAll_mem (ofNorm_good (basesS s)) rise_nil p).1 hp
      rcases hp2 with hp2 | hp2
      · simp at hp2
      · unfold ofNorm at hp2
        obtain ⟨q, hq, rfl⟩ := List.mem_map.1 (List.mem_filter.1 hp2).1
        unfold basesS at hq
        obtain ⟨x, hx, rfl⟩ := List.mem_map.1 hq
        exact ⟨x, hx, rfl⟩
    · simp at hp
  refine ⟨⟨of_right _ _, by rw [of_base]; exact small_empty h0, ?_⟩, fun p hp => ?_, by rw [of_base]; exact Nat.zero_le _, fun p hp => ?_, fun t => ?_⟩
  · have h := of_few [] (basesS s)
    have h2 : (basesS s).length = s.length := by unfold basesS; rw [List.length_map]
    omega
  · obtain ⟨x, hx, rfl⟩ := hm p hp
    exact small_norm h0 (hs x hx).1
  · obtain ⟨x, hx, rfl⟩ := hm p hp
    exact Nat.le_trans (norm_len _) (hs x hx).2
  · have hr : ∀ p ∈ basesS s, rightL p = true := fun p hp => by
      unfold basesS at hp
      obtain ⟨x, hx, rfl⟩ := List.mem_map.1 hp
      exact (hs x hx).1.right
    have e1 : psum (basesS s) t = bsum s t := by simp [psum, bsum, basesS, Function.comp_def]
    have h1 := ht t
    unfold ofLin
    split
    · show psum (putAll [] (ofNorm (basesS s))) t ≤ _
      have h2 := psum_putAll t (ofNorm (basesS s)) [] (fun p hp => (ofNorm_good (basesS s) p hp).1)
      have h3 : psum [] t = 0 := rfl
      rw [psum_filter t _ hr, e1] at h2
      omega
    · show (0 : Int) ≤ _
      omega
/-- Of a weight: how many periods, how many linear sets at most. -/
def pcW (c : Nat) : Nat := if c ≤ 1 then 0 else 2 ^ (c / 2 - 1)
def zcW (c : Nat) : Nat := 2 ^ ((c - 1) / 2)
theorem pow_sum {x y : Nat} (hx : 1 ≤ x) (hy : 1 ≤ y) : 2 ^ (x - 1) + 2 ^ (y - 1) ≤ 2 ^ (x + y - 1) := by
  have e : x + y - 1 = (x - 1) + (y - 1) + 1 := by omega
  have p1 := pow_mono (show x - 1 ≤ (x - 1) + (y - 1) by omega)
  have p2 := pow_mono (show y - 1 ≤ (x - 1) + (y - 1) by omega)
  rw [e, Nat.pow_succ]
  omega
theorem pc_mono {a b : Nat} (h : a ≤ b) : pcW a ≤ pcW b := by
  unfold pcW
  split
  · exact Nat.zero_le _
  · rw [if_neg (by omega)]
    exact pow_mono (by omega)
theorem pc_add (a b : Nat) : pcW a + pcW b ≤ pcW (a + b) := by
  by_cases ha : a ≤ 1
  · have := pc_mono (show b ≤ a + b by omega)
    unfold pcW at this ⊢
    rw [if_pos ha]
    omega
  · by_cases hb : b ≤ 1
    · have := pc_mono (show a ≤ a + b by omega)
      unfold pcW at this ⊢
      rw [if_pos hb]
      omega
    · have h := pow_sum (x := a / 2) (y := b / 2) (by omega) (by omega)
      have h2 := pow_mono (show a / 2 + b / 2 - 1 ≤ (a + b) / 2 - 1 by omega)
      unfold pcW
      rw [if_neg ha, if_neg hb, if_neg (by omega)]
      omega
theorem zc_pos (a : Nat) : 1 ≤ zcW a := Nat.one_le_two_pow
theorem zc_mul {a b : Nat} (ha : 1 ≤ a) (hb : 1 ≤ b) : zcW a * zcW b ≤ zcW (a + b + 1) := by
  unfold zcW
  rw [← Nat.pow_add]
  exact pow_mono (by omega)
theorem zc_add {a b : Nat} (ha : 1 ≤ a) (hb : 1 ≤ b) : zcW a + zcW b ≤ zcW (a + b + 1) := by
  have h := pow_sum (x := (a - 1) / 2 + 1) (y := (b - 1) / 2 + 1) (by omega) (by omega)
  have h2 := pow_mono (show (a - 1) / 2 + 1 + ((b - 1) / 2 + 1) - 1 ≤ (a + b + 1 - 1) / 2 by omega)
  unfold zcW
  rw [Nat.add_sub_cancel, Nat.add_sub_cancel] at h
  omega
theorem zc_two {a b : Nat} (ha : 1 ≤ a) (hb : 1 ≤ b) : 2 * (zcW a * zcW b) ≤ zcW (a + b + 1) := by
  unfold zcW
  rw [← Nat.pow_add, Nat.mul_comm, ← Nat.pow_succ]
  exact pow_mono (by omega)
theorem zc_star {a : Nat} (ha : 1 ≤ a) : zcW a ≤ pcW (a + 1) := by
  unfold zcW pcW
  rw [if_neg (by omega)]
  exact pow_mono (by omega)
/-- What is made of so many nodes, each a number's. -/
structure Fits (c : Nat) (s : List Lin) : Prop where
  rise : RiseS s
  each : ∀ x ∈ s, Slim ((c : Int) * 5) (pcW c) x
  few : s.length ≤ zcW c
  tot : ∀ t, bsum s t ≤ 5 * (zcW c : Int)
/-- .. and of sums and cats behind them. -/
structure Wide (c : Nat) (s : List Lin) : Prop where
  rise : RiseS s
  each : ∀ x ∈ s, Slim ((c : Int) * 5) (pcW c) x
theorem Fits.wide {c : Nat} {s : List Lin} (h : Fits c s) : Wide c s := ⟨h.rise, h.each⟩
theorem fits_single {c : Nat} {x : Lin} (h : Slim ((c : Int) * 5) (pcW c) x) (ht : ∀ t, x.base.getD t 0 ≤ 5) : Fits c [x] :=
  ⟨⟨fun z hz => by obtain rfl := List.mem_singleton.1 hz; exact h.trim.right, by simp⟩, fun z hz => by obtain rfl := List.mem_singleton.1 hz; exact h, zc_pos c, fun t => by
    have h1 := zc_pos c
    have h2 := ht t
    have h3 : bsum [x] t = x.base.getD t 0 := by rw [bsum_cons]; show _ + (0 : Int) = _; omega
    rw [h3]
    omega⟩
theorem fits_nil : Fits 1 [] := ⟨riseS_nil, fun x h => by simp at h, Nat.zero_le _, fun t => by show (0 : Int) ≤ _; have := zc_pos 1; omega⟩
theorem psum_none (k : Nat) (t : Nat) : psum [] t ≤ 5 * (k : Int) := by show (0 : Int) ≤ _; omega
theorem fits_one : Fits 1 oneS := fits_single ⟨⟨right_empty, small_empty (by omega), Nat.zero_le _⟩, fun p hp => by simp at hp, Nat.zero_le _, fun p hp => by simp at hp, psum_none _⟩ (fun t => by simp)
theorem fits_tag {t n : Int} (h0 : 0 ≤ t) (h1 : t < 4) (h2 : 1 ≤ n) (h3 : n ≤ 5) : Fits 1 [⟨oneL t n, []⟩] := by
  have g := (good_tag h0 (show t < 12 by omega) h2 (by omega)).each _ (List.mem_singleton.2 rfl)
  have ok : oneOk t n = true := one_iff.2 ⟨⟨h0, by omega⟩, h2, by omega⟩
  have hj : ∀ j, (oneL t n).getD j 0 ≤ 5 := fun j => by
    unfold oneL
    rw [if_pos ok]
    by_cases hj : j < t.toNat + 1
    · rw [tab_at hj]
      split <;> omega
    · rw [tab_past (by omega)]; omega
  refine fits_single ⟨⟨g.right, ⟨g.base.right, g.base.len, fun j => ?_⟩, Nat.zero_le _⟩, fun p hp => by simp at hp, ?_, fun p hp => by simp at hp, psum_none _⟩ hj
  · have := hj j
    show (oneL t n).getD j 0 ≤ _
    omega
  · show (oneL t n).length ≤ 4
    unfold oneL
    rw [if_pos ok, tab_len]
    omega
theorem wide_sum {a b : Nat} {s t : List Lin} (hs : Wide a s) (ht : Wide b t) : Wide (a + b) (unionS s t) := by
  obtain ⟨h1, h2, _⟩ := union_yes hs.rise ht.rise
  refine ⟨h1, fun x hx => ?_⟩
  rcases (h2 x).1 hx with hx | hx
  · exact (hs.each x hx).more (by omega) (pc_mono (by omega))
  · exact (ht.each x hx).more (by omega) (pc_mono (by omega))
theorem wide_cat {a b : Nat} {s t : List Lin} (hs : Wide a s) (ht : Wide b t) (hab : a + b ≤ 1000) (hok : catsOk s t = true) : Wide (a + b) (catS s t) := by
  obtain ⟨h1, h2, _⟩ := catS_yes hok
  refine ⟨h1, fun x hx => ?_⟩
  obtain ⟨y, hy, z, hz, rfl⟩ := (h2 x).1 hx
  exact (slim_cat (hs.each y hy) (ht.each z hz) (by omega) (by omega) (by omega)).more (by omega) (pc_add a b)
theorem fits_sum {a b : Nat} {s t : List Lin} (ha : 1 ≤ a) (hb : 1 ≤ b) (hs : Fits a s) (ht : Fits b t) : Fits (a + b + 1) (unionS s t) := by
  have W := wide_sum hs.wide ht.wide
  obtain ⟨_, _, h3⟩ := union_yes hs.rise ht.rise
  refine ⟨W.rise, fun x hx => (W.each x hx).more (by omega) (pc_mono (by omega)), ?_, fun i => ?_⟩
  · have := hs.few
    have := ht.few
    have := zc_add ha hb
    omega
  · have e : unionS s t = putAllS [] (s ++ t) := by unfold unionS; rw [rightS_iff.2 hs.rise, rightS_iff.2 ht.rise]; rfl
    have h1 := bsum_putAll i (s ++ t) [] (fun p hp => by
      rcases List.mem_append.1 hp with hp | hp
      · exact (hs.each p hp).trim.base.right
      · exact (ht.each p hp).trim.base.right)
    have h2 : bsum [] i = 0 := rfl
    rw [bsum_app] at h1
    have := hs.tot i
    have := ht.tot i
    have := zc_add ha hb
    rw [e]
    omega
theorem bsum_pos : ∀ {s : List Lin}, (∀ x ∈ s, rightL x.base = true) → ∀ i, 0 ≤ bsum s i
  | [], _, _ => Int.le_refl _
  | x :: r, h, i => by
    have ih := bsum_pos (s := r) (fun y hy => h y (List.mem_cons_of_mem _ hy)) i
    have := (right_at (h x (by simp)) i).1
    rw [bsum_cons]
    omega
theorem fits_cat {a b : Nat} {s t : List Lin} (ha : 1 ≤ a) (hb : 1 ≤ b) (hs : Fits a s) (ht : Fits b t) (hab : a + b ≤ 1000) (hok : catsOk s t = true) : Fits (a + b + 1) (catS s t) := by
  have W := wide_cat hs.wide ht.wide hab hok
  obtain ⟨_, _, h3⟩ := catS_yes hok
  refine ⟨W.rise, fun x hx => (W.each x hx).more (by omega) (pc_mono (by omega)), Nat.le_trans h3 (Nat.le_trans (Nat.mul_le_mul hs.few ht.few) (zc_mul ha hb)), fun i => ?_⟩
  have hok2 : ∀ x ∈ s, ∀ y ∈ t, catOk x y = true := fun x hx y hy => List.all_eq_true.1 hok (x, y) (prod_mem.2 ⟨hx, hy⟩)
  have h1 := bsum_putAll i (catsL s t) [] (fun p hp => by
    unfold catsL at hp
    obtain ⟨q, hq, rfl⟩ := List.mem_map.1 hp
    obtain ⟨q1, q2⟩ := prod_mem.1 hq
    rw [cat_yes (hok2 _ q1 _ q2)]
    have A := ((hs.each _ q1).trim.base.add (ht.each _ q2).trim.base (by omega)).2.2
    exact A.right)
  have h2 : bsum [] i = 0 := rfl
  rw [bsum_cats i t s hok2] at h1
  have b1 := hs.tot i
  have b2 := ht.tot i
  have n1 : 0 ≤ bsum s i := bsum_pos (fun x hx => (hs.each x hx).trim.base.right) i
  have n2 : 0 ≤ bsum t i := bsum_pos (fun x hx => (ht.each x hx).trim.base.right) i
  have m1 : (t.length : Int) * bsum s i ≤ (zcW b : Int) * (5 * (zcW a : Int)) := Int.mul_le_mul (by have := ht.few; omega) b1 n1 (by omega)
  have m2 : (s.length : Int) * bsum t i ≤ (zcW a : Int) * (5 * (zcW b : Int)) := Int.mul_le_mul (by have := hs.few; omega) b2 n2 (by omega)
  have z := zc_two ha hb
  have e1 : (zcW b : Int) * (5 * (zcW a : Int)) = 5 * ((zcW a * zcW b : Nat) : Int) := by rw [Int.natCast_mul]; rw [Int.mul_left_comm, Int.mul_comm (zcW b : Int)]
  have e2 : (zcW a : Int) * (5 * (zcW b : Int)) = 5 * ((zcW a * zcW b : Nat) : Int) := by rw [Int.natCast_mul]; rw [Int.mul_left_comm]
  show bsum (putAllS [] (catsL s t)) i ≤ _
  omega
theorem fits_star {a : Nat} {s : List Lin} (ha : 1 ≤ a) (hs : Fits a s) : Fits (a + 1) [ofLin [] (basesS s)] :=
  fits_single ((slim_star (m := (a : Int) * 5) (k := zcW a) (by omega) (fun x hx => ⟨(hs.each x hx).trim.base, (hs.each x hx).bl⟩) hs.few hs.tot).more (by omega) (zc_star ha)) (fun t => by rw [of_base]; simp)

/-- The open parts, each of its weight, all together at most t. -/
def StkG (P : Nat → List Lin → Prop) (es : List (List Lin)) : List (Int × Bool) → Nat → Prop
  | [], _ => True
  | p :: r, t => ∃ u v, 1 ≤ u ∧ u + v ≤ t ∧ (∃ j : Nat, p.1 = (j : Int) ∧ j < es.length ∧ P u (es.getD j [])) ∧ StkG P es r v
section
variable {P Q : Nat → List Lin → Prop}
theorem StkG.map (f : ∀ u s, P u s → Q u s) {es : List (List Lin)} : ∀ {fl : List (Int × Bool)} {t : Nat}, StkG P es fl t → StkG Q es fl t
  | [], _, _ => trivial
  | _ :: _, _, h => by
    obtain ⟨u, v, h1, huv, ⟨j, hj, hl, g⟩, r⟩ := h
    exact ⟨u, v, h1, huv, ⟨j, hj, hl, f _ _ g⟩, StkG.map f r⟩
theorem StkG.more {es : List (List Lin)} : ∀ {fl : List (Int × Bool)} {t t' : Nat}, StkG P es fl t → t ≤ t' → StkG P es fl t'
  | [], _, _, _, _ => trivial
  | _ :: _, _, _, h, le => by
    obtain ⟨u, v, h1, huv, g, r⟩ := h
    exact ⟨u, v, h1, by omega, g, r⟩
theorem StkG.push {es : List (List Lin)} (x : List Lin) : ∀ {fl : List (Int × Bool)} {t : Nat}, StkG P es fl t → StkG P (es ++ [x]) fl t
  | [], _, _ => trivial
  | _ :: _, _, h => by
    obtain ⟨u, v, h1, huv, ⟨j, hj, hl, g⟩, r⟩ := h
    refine ⟨u, v, h1, huv, ⟨j, hj, by simp; omega, ?_⟩, StkG.push x r⟩
    have : (es ++ [x]).getD j [] = es.getD j [] := by
      rw [List.getD_eq_getElem?_getD, List.getD_eq_getElem?_getD, List.getElem?_append_left hl]
    rw [this]; exact g
theorem StkG.split {es : List (List Lin)} : ∀ {A B : List (Int × Bool)} {t : Nat}, StkG P es (A ++ B) t → ∃ u v, u + v ≤ t ∧ StkG P es A u ∧ StkG P es B v
  | [], _, t, h => ⟨0, t, by omega, trivial, h⟩
  | p :: A, B, t, h => by
    obtain ⟨u, v, h1, huv, g, r⟩ := h
    obtain ⟨u', v', h', a, b⟩ := StkG.split (A := A) r
    exact ⟨u + u', v', by omega, ⟨u, u', h1, Nat.le_refl _, g, a⟩, b⟩
theorem StkG.join {es : List (List Lin)} : ∀ {A B : List (Int × Bool)} {u v : Nat}, StkG P es A u → StkG P es B v → StkG P es (A ++ B) (u + v)
  | [], _, _, _, _, h => StkG.more h (by omega)
  | p :: A, B, _, _, h, k => by
    obtain ⟨u, v, h1, huv, g, r⟩ := h
    exact ⟨u, v + _, h1, by omega, g, StkG.join (A := A) r k⟩
theorem StkG.leaf {es : List (List Lin)} {F : List (Int × Bool)} {u v t : Nat} {x : List Lin} {b : Bool} (h : StkG P es F u) (hv : 1 ≤ v) (huv : u + v ≤ t) (g : P v x) : StkG P (es ++ [x]) (F ++ [((es.length : Int), b)]) t :=
  StkG.more (StkG.join (StkG.push x h) (show StkG P (es ++ [x]) [((es.length : Int), b)] v from ⟨v, 0, hv, by omega, ⟨es.length, rfl, by simp, by simpa using g⟩, trivial⟩)) huv
theorem StkG.two {es : List (List Lin)} {F : List (Int × Bool)} {p q : Int × Bool} {t : Nat} (h : StkG P es (F ++ [p, q]) t) :
    ∃ u a b i j, 1 ≤ a ∧ 1 ≤ b ∧ u + a + b ≤ t ∧ StkG P es F u ∧ p.1 = ((i : Nat) : Int) ∧ P a (es.getD i []) ∧ q.1 = ((j : Nat) : Int) ∧ P b (es.getD j []) := by
  obtain ⟨u, v, huv, hF, a, v', ha, hav, ⟨i, hi, hil, hg⟩, b, v'', hb, hbv, ⟨j, hj, hjl, hg'⟩, _⟩ := StkG.split h
  exact ⟨u, a, b, i, j, ha, hb, by omega, hF, hi, hg, hj, hg'⟩
theorem StkG.one {es : List (List Lin)} {F : List (Int × Bool)} {p : Int × Bool} {t : Nat} (h : StkG P es (F ++ [p]) t) :
    ∃ u a i, 1 ≤ a ∧ u + a ≤ t ∧ StkG P es F u ∧ p.1 = ((i : Nat) : Int) ∧ P a (es.getD i []) := by
  obtain ⟨u, v, huv, hF, a, v', ha, hav, ⟨i, hi, hil, hg⟩, _⟩ := StkG.split h
  exact ⟨u, a, i, ha, by omega, hF, hi, hg⟩
end
theorem catM_zero0 {s t : List Lin} (h : (catM none s t).2.1 = 0) : catsOk s t = true := by
  unfold catM at h
  split at h
  · split at h
    · split at h
      · next hh => exact hh
      · exact absurd (show (3 : Int) = 0 from h) (by decide)
    · exact absurd (show (7 : Int) = 0 from h) (by decide)
  · exact absurd (show (1 : Int) = 0 from h) (by decide)
theorem fits_step {T : Int} (hT : T ≤ 4) {es : List (List Lin)} {fl fl' : List (Int × Bool)} {k : Nat} {x : Q.Nd} {y : List Lin} (hs : Q.chkStep T k x fl = some fl') (S : StkG Fits es fl k) (hl : es.length = k) (hk : k ≤ 500) (ht : x.kind = 3 → x.a ≤ 5)
    (hy : nodeM none es x.kind x.a x.b x.n = (y, 0, none)) : StkG Fits (es ++ [y]) fl' (k + 1) := by
  have hs2 := step_kindsT hs
  obtain ⟨xk, xa, xb, xn, nm⟩ := x
  dsimp only at hs2 hy ht
  clear hs
  subst hl
  rcases hs2 with ⟨h12, hfl⟩ | ⟨h3, n0, n1, a0, a1, hfl⟩ | ⟨h45, F, p, q, hF, hp, hq, hfl⟩ | ⟨h6, F, p, hF, hp, hfl⟩
  · rcases h12 with rfl | rfl
    · rw [node1 none es xa xb xn] at hy
      injection hy with hy _
      subst hy
      rw [hfl]
      exact S.leaf (Nat.le_refl _) (by omega) fits_nil
    · rw [node2 none es xa xb xn] at hy
      injection hy with hy _
      subst hy
      rw [hfl]
      exact S.leaf (Nat.le_refl _) (by omega) fits_one
  · subst h3
    rw [node3 none es xa xb xn] at hy
    injection hy with hy _
    subst hy
    rw [hfl]
    exact S.leaf (Nat.le_refl _) (by omega) (fits_tag n0 (by omega) a0 (ht rfl))
  · rw [hF] at S
    obtain ⟨u, a, b, i, j, ha, hb, huv, SF, hi, gi, hj, gj⟩ := S.two
    rw [hi] at hp
    rw [hj] at hq
    subst hp; subst hq
    rw [hfl]
    rcases h45 with rfl | rfl
    · rw [node4 none es xn i j] at hy
      injection hy with hy _
      subst hy
      exact SF.leaf (v := a + b + 1) (by omega) (by omega) (fits_sum ha hb gi gj)
    · rw [node5 none es xn i j] at hy
      have h0 : (catM none (es.getD i []) (es.getD j [])).2.1 = 0 := by rw [hy]
      have e := catM_ok h0
      rw [hy] at e
      dsimp only at e
      subst e
      exact SF.leaf (v := a + b + 1) (by omega) (by omega) (fits_cat ha hb gi gj (by omega) (catM_zero0 h0))
  · rw [hF] at S
    obtain ⟨u, a, i, ha, huv, SF, hi, gi⟩ := S.one
    rw [hi] at hp
    subst hp; subst h6
    rw [hfl]
    rw [node6 none es xb xn i] at hy
    have h0 : (starM none (es.getD i [])).2.1 = 0 := by rw [hy]
    have e := starM_ok h0
    rw [hy] at e
    dsimp only at e
    subst e
    exact SF.leaf (v := a + 1) (by omega) (by omega) (fits_star ha gi)
theorem wide_step {T : Int} {es : List (List Lin)} {fl fl' : List (Int × Bool)} {k t : Nat} {x : Q.Nd} {y : List Lin} (hs : Q.chkStep T k x fl = some fl') (S : StkG Wide es fl t) (hl : es.length = k) (ht : t ≤ 500) (hx : x.kind = 4 ∨ x.kind = 5)
    (hy : nodeM none es x.kind x.a x.b x.n = (y, 0, none)) : StkG Wide (es ++ [y]) fl' t := by
  have hs2 := step_kindsT hs
  obtain ⟨xk, xa, xb, xn, nm⟩ := x
  dsimp only at hs2 hy hx
  clear hs
  subst hl
  rcases hs2 with ⟨h12, hfl⟩ | ⟨h3, n0, n1, a0, a1, hfl⟩ | ⟨h45, F, p, q, hF, hp, hq, hfl⟩ | ⟨h6, F, p, hF, hp, hfl⟩
  · omega
  · omega
  · rw [hF] at S
    obtain ⟨u, a, b, i, j, ha, hb, huv, SF, hi, gi, hj, gj⟩ := S.two
    rw [hi] at hp
    rw [hj] at hq
    subst hp; subst hq
    rw [hfl]
    rcases h45 with rfl | rfl
    · rw [node4 none es xn i j] at hy
      injection hy with hy _
      subst hy
      exact SF.leaf (v := a + b) (by omega) (by omega) (wide_sum gi gj)
    · rw [node5 none es xn i j] at hy
      have h0 : (catM none (es.getD i []) (es.getD j [])).2.1 = 0 := by rw [hy]
      have e := catM_ok h0
      rw [hy] at e
      dsimp only at e
      subst e
      exact SF.leaf (v := a + b) (by omega) (by omega) (wide_cat gi gj (by omega) (catM_zero0 h0))
  · omega
theorem norm_fits {T : Int} (hT : T ≤ 4) {A B : List Q.Nd} (hc : Q.chkB (A ++ B) T = true) (h24 : (A ++ B).length ≤ 24) (hA : ∀ x ∈ A, x.kind = 3 → x.a ≤ 5) : ∀ k, k ≤ A.length → ∃ es fl, normGo ((A ++ B).take k) none [] = (es, 0, none) ∧ es.length = k ∧ Q.chkL T 0 ((A ++ B).take k) [] = some fl ∧ Stk es fl k ∧ StP es fl ∧ StkG Fits es fl k
  | 0, _ => ⟨[], [], rfl, rfl, rfl, trivial, fun p h => by simp at h, trivial⟩
  | k + 1, hk => by
    obtain ⟨es, fl, e1, e2, e3, e4, e5, e6⟩ := norm_fits hT hc h24 hA k (by omega)
    have hk' : k < (A ++ B).length := by rw [List.length_append]; omega
    obtain ⟨fl', hs, hf'⟩ := chk_stepT hc hk' e3
    obtain ⟨y, n1, n2, n3, n4, _⟩ := node_fine (show T ≤ 12 by omega) hs e4 e5 e2 (by omega)
    refine ⟨es ++ [y], fl', ?_, by simp [e2], hf', n2, n4, fits_step hT hs e6 e2 (by omega) (fun h => ?_) n1⟩
    · rw [List.take_succ_eq_append_getElem hk']
      exact normGo_snoc e1 n1
    · have hm : (A ++ B)[k] ∈ A := by
        rw [List.getElem_append_left (by omega)]
        exact List.getElem_mem _
      exact hA _ hm h
theorem norm_wide {T : Int} (hT : T ≤ 4) {A B : List Q.Nd} (hc : Q.chkB (A ++ B) T = true) (h24 : (A ++ B).length ≤ 24) (hA : ∀ x ∈ A, x.kind = 3 → x.a ≤ 5) (hB : ∀ x ∈ B, x.kind = 4 ∨ x.kind = 5) : ∀ j, A.length + j ≤ (A ++ B).length → ∃ es fl, normGo ((A ++ B).take (A.length + j)) none [] = (es, 0, none) ∧ es.length = A.length + j ∧ Q.chkL T 0 ((A ++ B).take (A.length + j)) [] = some fl ∧ Stk es fl (A.length + j) ∧ StP es fl ∧ StkG Wide es fl A.length
  | 0, _ => by
    obtain ⟨es, fl, e1, e2, e3, e4, e5, e6⟩ := norm_fits hT hc h24 hA A.length (Nat.le_refl _)
    exact ⟨es, fl, e1, e2, e3, e4, e5, e6.map (fun _ _ h => h.wide)⟩
  | j + 1, hj => by
    obtain ⟨es, fl, e1, e2, e3, e4, e5, e6⟩ := norm_wide hT hc h24 hA hB j (by omega)
    have hk' : A.length + j < (A ++ B).length := by omega
    obtain ⟨fl', hs, hf'⟩ := chk_stepT hc hk' e3
    obtain ⟨y, n1, n2, n3, n4, _⟩ := node_fine (show T ≤ 12 by omega) hs e4 e5 e2 (by omega)
    refine ⟨es ++ [y], fl', ?_, by simp [e2]; omega, hf', n2, n4, wide_step hs e6 e2 (by omega) ?_ n1⟩
    · rw [← Nat.add_assoc, List.take_succ_eq_append_getElem hk']
      exact normGo_snoc e1 n1
    · have hm : (A ++ B)[A.length + j] ∈ B := by
        rw [List.getElem_append_right (by omega)]
        exact List.getElem_mem _
      exact hB _ hm
/-- What a pattern of at most K numbers stands for: few periods, small numbers. -/
theorem normM_wide {T : Int} (h0 : 0 ≤ T) (hT : T ≤ 4) {ns : List Q.Nd} (hc : Q.chkB ns T = true) {K : Nat} (hS : Q.Sh2 K ns) : ∃ x, normM (none : Mr) ns T = (x, 0, none) ∧ Wide K x := by
  obtain ⟨A, B, rfl, hA, hB⟩ := hS
  obtain ⟨h1, h24, b, hl⟩ := chk_one hc
  obtain ⟨es, fl, e1, e2, e3, _, _, S⟩ := norm_wide hT hc h24 hA.2 hB B.length (by rw [List.length_append]; omega)
  have ef : (A ++ B).take (A.length + B.length) = A ++ B := by rw [← List.length_append]; exact List.take_length
  rw [ef] at e1 e3
  rw [hl] at e3
  injection e3 with e3
  subst e3
  obtain ⟨u, v, hu, huv, ⟨j, hj, hjl, g⟩, _⟩ := S
  obtain rfl : j = (A ++ B).length - 1 := by dsimp only at hj; omega
  have hAK := hA.1
  exact ⟨_, normM_ok ⟨h0, by omega, hc⟩ e1, g.rise, fun x hx => (g.each x hx).more (by omega) (pc_mono (by omega))⟩
end Go.Proofs.YtmnkjekjknhhjaaGreatDoor

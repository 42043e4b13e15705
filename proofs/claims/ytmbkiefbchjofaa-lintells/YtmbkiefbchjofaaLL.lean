/- Plain mathematics of linear sets: a base and rising periods. Nothing of the program. -/
import Derived.Test.YtmbkiefbchjofaaL
namespace Go.Proofs.Ytmbkiefbchjofaa

/-- A word into rising ones, once. -/
def putL (b : List Int) : List (List Int) → List (List Int)
  | [] => [b]
  | x :: r => if cmpL x b < 0 then x :: putL b r else if cmpL x b = 0 then x :: r else b :: x :: r

/-- They are right, not empty, and rise. -/
def risesB : List (List Int) → Bool
  | [] => true
  | x :: r => rightL x && decide (x ≠ []) && (match r with | [] => true | y :: _ => decide (cmpL x y < 0)) && risesB r

/-- Right ones that are not empty. -/
def Goods (l : List (List Int)) : Prop := ∀ x ∈ l, rightL x = true ∧ x ≠ []

/-- Each is behind all ahead of it. -/
def Rise (l : List (List Int)) : Prop := Goods l ∧ l.Pairwise (fun x y => cmpL x y < 0)

theorem cmp_lt_trans {a b c : List Int} (ha : rightL a = true) (hb : rightL b = true) (hc : rightL c = true) (h1 : cmpL a b < 0) (h2 : cmpL b c < 0) : cmpL a c < 0 := by
  have h3 := cmp_trans ha hb hc (by omega) (by omega)
  by_cases h : cmpL a c = 0
  · have e := (cmp_zero ha hc).1 h
    subst e
    have := cmp_neg ha hb
    omega
  · omega
theorem cmp_self {a : List Int} (ha : rightL a = true) : cmpL a a = 0 := (cmp_zero ha ha).2 rfl

theorem rises_iff : ∀ {l : List (List Int)}, risesB l = true ↔ Rise l
  | [] => by simp [risesB, Rise, Goods]
  | [x] => by simp [risesB, Rise, Goods]
  | x :: y :: r => by
    have ih := rises_iff (l := y :: r)
    have e : risesB (x :: y :: r) = (rightL x && decide (x ≠ []) && decide (cmpL x y < 0) && risesB (y :: r)) := rfl
    rw [e, Bool.and_eq_true, Bool.and_eq_true, Bool.and_eq_true, decide_eq_true_eq, decide_eq_true_eq, ih]
    constructor
    · rintro ⟨⟨⟨h1, h2⟩, h3⟩, g, p⟩
      refine ⟨?_, List.pairwise_cons.2 ⟨?_, p⟩⟩
      · intro z hz
        rcases List.mem_cons.1 hz with rfl | hz
        · exact ⟨h1, h2⟩
        · exact g z hz
      · intro z hz
        rcases List.mem_cons.1 hz with rfl | hz'
        · exact h3
        · exact cmp_lt_trans h1 (g y (by simp)).1 (g z hz).1 h3 ((List.pairwise_cons.1 p).1 z hz')
    · rintro ⟨g, p⟩
      have p' := List.pairwise_cons.1 p
      exact ⟨⟨⟨(g x (by simp)).1, (g x (by simp)).2⟩, p'.1 y (by simp)⟩, fun z hz => g z (List.mem_cons_of_mem _ hz), p'.2⟩

theorem put_mem {b : List Int} (hb : rightL b = true) : ∀ {l : List (List Int)}, Goods l → ∀ z, z ∈ putL b l ↔ z = b ∨ z ∈ l
  | [], _, z => by simp [putL]
  | x :: r, g, z => by
    have ih := put_mem hb (l := r) (fun y hy => g y (List.mem_cons_of_mem _ hy)) z
    unfold putL
    split
    · rw [List.mem_cons, ih, List.mem_cons]
      constructor
      · rintro (h | h | h) <;> simp [h]
      · rintro (h | h | h) <;> simp [h]
    · split
      · next h =>
        have e : x = b := (cmp_zero (g x (by simp)).1 hb).1 h
        subst e
        simp
      · simp

theorem put_rise {b : List Int} (hb : rightL b = true) (hn : b ≠ []) : ∀ {l : List (List Int)}, Rise l → Rise (putL b l)
  | [], _ => by
    refine ⟨fun z hz => ?_, by simp [putL]⟩
    simp [putL] at hz
    exact hz ▸ ⟨hb, hn⟩
  | x :: r, ⟨g, p⟩ => by
    have gr : Goods r := fun y hy => g y (List.mem_cons_of_mem _ hy)
    have p' := List.pairwise_cons.1 p
    have ih := put_rise hb hn (l := r) ⟨gr, p'.2⟩
    have hx := g x (by simp)
    unfold putL
    split
    · next h =>
      refine ⟨fun z hz => ?_, List.pairwise_cons.2 ⟨fun z hz => ?_, ih.2⟩⟩
      · rcases List.mem_cons.1 hz with rfl | hz
        · exact hx
        · exact ih.1 z hz
      · rcases (put_mem hb gr z).1 hz with rfl | hz
        · exact h
        · exact p'.1 z hz
    · split
      · exact ⟨g, p⟩
      · next h1 h2 =>
        have h3 : cmpL b x < 0 := by
          have := cmp_neg hx.1 hb
          omega
        refine ⟨fun z hz => ?_, List.pairwise_cons.2 ⟨fun z hz => ?_, p⟩⟩
        · rcases List.mem_cons.1 hz with rfl | hz
          · exact ⟨hb, hn⟩
          · exact g z hz
        · rcases List.mem_cons.1 hz with rfl | hz'
          · exact h3
          · exact cmp_lt_trans hb hx.1 (g z hz).1 h3 (p'.1 z hz')

/-- Rising ones of the same members are the same. -/
theorem rise_ext : ∀ {a b : List (List Int)}, Rise a → Rise b → (∀ z, z ∈ a ↔ z ∈ b) → a = b
  | [], [], _, _, _ => rfl
  | [], y :: _, _, _, h => by have := (h y).2 (by simp); simp at this
  | x :: _, [], _, _, h => by have := (h x).1 (by simp); simp at this
  | x :: r, y :: s, ⟨g, p⟩, ⟨k, q⟩, h => by
    have p' := List.pairwise_cons.1 p
    have q' := List.pairwise_cons.1 q
    have hx := g x (by simp)
    have hy := k y (by simp)
    have e : x = y := by
      rcases List.mem_cons.1 ((h x).1 (by simp)) with e | hx'
      · exact e
      · rcases List.mem_cons.1 ((h y).2 (by simp)) with e | hy'
        · exact e.symm
        · have h1 := q'.1 x hx'
          have h2 := p'.1 y hy'
          have := cmp_neg hx.1 hy.1
          omega
    subst e
    have : r = s := by
      apply rise_ext ⟨fun z hz => g z (List.mem_cons_of_mem _ hz), p'.2⟩ ⟨fun z hz => k z (List.mem_cons_of_mem _ hz), q'.2⟩
      intro z
      constructor
      · intro hz
        rcases List.mem_cons.1 ((h z).1 (List.mem_cons_of_mem _ hz)) with rfl | hz'
        · have := p'.1 z hz
          rw [cmp_self hx.1] at this
          omega
        · exact hz'
      · intro hz
        rcases List.mem_cons.1 ((h z).2 (List.mem_cons_of_mem _ hz)) with rfl | hz'
        · have := q'.1 z hz
          rw [cmp_self hx.1] at this
          omega
        · exact hz'
    rw [this]

/-- All of them, put one by one. -/
def putAll (l ps : List (List Int)) : List (List Int) := ps.foldl (fun l b => putL b l) l
theorem putAll_rise : ∀ {ps l : List (List Int)}, Goods ps → Rise l → Rise (putAll l ps)
  | [], _, _, h => h
  | b :: r, l, g, h => putAll_rise (ps := r) (l := putL b l) (fun z hz => g z (List.mem_cons_of_mem _ hz)) (put_rise (g b (by simp)).1 (g b (by simp)).2 h)
theorem putAll_mem : ∀ {ps l : List (List Int)}, Goods ps → Rise l → ∀ z, z ∈ putAll l ps ↔ z ∈ l ∨ z ∈ ps
  | [], _, _, _, z => by simp [putAll]
  | b :: r, l, g, h, z => by
    have ih := putAll_mem (ps := r) (l := putL b l) (fun z hz => g z (List.mem_cons_of_mem _ hz)) (put_rise (g b (by simp)).1 (g b (by simp)).2 h) z
    have e : putAll l (b :: r) = putAll (putL b l) r := rfl
    rw [e, ih, put_mem (g b (by simp)).1 h.1, List.mem_cons]
    constructor
    · rintro ((h | h) | h) <;> simp [h]
    · rintro (h | h | h) <;> simp [h]
theorem rise_nil : Rise [] := ⟨by simp [Goods], .nil⟩
theorem putAll_nil {ps : List (List Int)} (h : Rise ps) : putAll [] ps = ps :=
  rise_ext (putAll_rise h.1 rise_nil) h (fun z => by rw [putAll_mem h.1 rise_nil]; simp)
theorem put_len (b : List Int) : ∀ l : List (List Int), (putL b l).length ≤ l.length + 1
  | [] => by simp [putL]
  | x :: r => by
    have := put_len b r
    unfold putL
    split
    · simp only [List.length_cons]; omega
    · split <;> simp only [List.length_cons] <;> omega
theorem putAll_len : ∀ ps l : List (List Int), (putAll l ps).length ≤ l.length + ps.length
  | [], l => by simp [putAll]
  | b :: r, l => by
    have h1 := putAll_len r (putL b l)
    have h2 := put_len b l
    have e : putAll l (b :: r) = putAll (putL b l) r := rfl
    rw [e]; simp only [List.length_cons]; omega

/-- A linear set in plain words. -/
structure Lin where
  base : List Int
  ps : List (List Int)
  deriving DecidableEq

def rightLin (x : Lin) : Bool := rightL x.base && risesB x.ps
def pointLin (x : Lin) : Bool := rightLin x && x.ps.isEmpty
theorem rightLin_iff {x : Lin} : rightLin x = true ↔ rightL x.base = true ∧ Rise x.ps := by
  simp [rightLin, rises_iff]

/-- Is its Norm none though a number of it is not 0? -/
def lostL (b : List Int) : Bool := (normL b).isEmpty && b.any (fun n => decide (n ≠ 0))
def ofOk (b : List Int) (ps : List (List Int)) : Bool := !lostL b && ps.all (fun p => !lostL p)
def ofNorm (ps : List (List Int)) : List (List Int) := (ps.map normL).filter (fun p => decide (p ≠ []))
def ofLin (b : List Int) (ps : List (List Int)) : Lin := if ofOk b ps then ⟨normL b, putAll [] (ofNorm ps)⟩ else ⟨[], []⟩

theorem norm_right (b : List Int) : rightL (normL b) = true := by
  unfold normL
  split
  · assumption
  · decide
theorem ofNorm_good (ps : List (List Int)) : Goods (ofNorm ps) := by
  intro z hz
  simp only [ofNorm, List.mem_filter, List.mem_map, decide_eq_true_eq] at hz
  obtain ⟨⟨p, _, rfl⟩, hn⟩ := hz
  exact ⟨norm_right p, hn⟩
theorem of_right (b : List Int) (ps : List (List Int)) : rightLin (ofLin b ps) = true := by
  unfold ofLin
  split
  · exact rightLin_iff.2 ⟨norm_right b, putAll_rise (ofNorm_good ps) rise_nil⟩
  · decide

def catOk (x y : Lin) : Bool := rightLin x && rightLin y && addOk x.base y.base
def catLin (x y : Lin) : Lin := if catOk x y then ⟨addT x.base y.base, putAll (putAll [] x.ps) y.ps⟩ else ⟨[], []⟩
theorem cat_yes {x y : Lin} (h : catOk x y = true) : catLin x y = ⟨addT x.base y.base, putAll (putAll [] x.ps) y.ps⟩ := by unfold catLin; rw [if_pos h]
theorem cat_no {x y : Lin} (h : catOk x y = false) : catLin x y = ⟨[], []⟩ := by unfold catLin; rw [h]; rfl
theorem cat_ps {x y : Lin} (hx : Rise x.ps) (hy : Rise y.ps) : Rise (putAll (putAll [] x.ps) y.ps) ∧ ∀ z, z ∈ putAll (putAll [] x.ps) y.ps ↔ z ∈ x.ps ∨ z ∈ y.ps := by
  have h := putAll_nil hx
  rw [h]
  exact ⟨putAll_rise hy.1 hx, putAll_mem hy.1 hx⟩

/-- By the first periods that are unlike. -/
def cmpPs : List (List Int) → List (List Int) → Int
  | x :: r, y :: s => orI (cmpL x y) (cmpPs r s)
  | _, _ => 0
def cmpLin (x y : Lin) : Int :=
  if rightLin x && rightLin y then orI (cmpL x.base y.base) (orI (sgn x.ps.length y.ps.length) (cmpPs x.ps y.ps)) else 0
theorem cmpPs_neg : ∀ {a b : List (List Int)}, Goods a → Goods b → cmpPs b a = - cmpPs a b
  | [], [], _, _ => rfl
  | [], _ :: _, _, _ => rfl
  | _ :: _, [], _, _ => rfl
  | x :: r, y :: s, g, k => by
    have ih := cmpPs_neg (a := r) (b := s) (fun z hz => g z (List.mem_cons_of_mem _ hz)) (fun z hz => k z (List.mem_cons_of_mem _ hz))
    have h := cmp_neg (g x (by simp)).1 (k y (by simp)).1
    simp only [cmpPs, orI, h, ih]
    by_cases e : cmpL x y = 0
    · simp [e]
    · rw [if_neg e, if_neg (by omega)]
theorem cmpPs_zero : ∀ {a b : List (List Int)}, Goods a → Goods b → a.length = b.length → (cmpPs a b = 0 ↔ a = b)
  | [], [], _, _, _ => by simp [cmpPs]
  | [], _ :: _, _, _, h => by simp at h
  | _ :: _, [], _, _, h => by simp at h
  | x :: r, y :: s, g, k, h => by
    have ih := cmpPs_zero (a := r) (b := s) (fun z hz => g z (List.mem_cons_of_mem _ hz)) (fun z hz => k z (List.mem_cons_of_mem _ hz)) (by simpa using h)
    have hz := cmp_zero (g x (by simp)).1 (k y (by simp)).1
    simp only [cmpPs, orI, List.cons.injEq]
    by_cases e : cmpL x y = 0
    · rw [if_pos e, ih]
      exact ⟨fun h => ⟨hz.1 e, h⟩, fun h => h.2⟩
    · rw [if_neg e]
      constructor
      · intro h; exact absurd h e
      · rintro ⟨rfl, _⟩; exact hz.2 rfl
theorem cmp_le_lt {a b c : List Int} (ha : rightL a = true) (hb : rightL b = true) (hc : rightL c = true) (h1 : cmpL a b ≤ 0) (h2 : cmpL b c < 0) : cmpL a c < 0 := by
  by_cases h : cmpL a b = 0
  · rw [(cmp_zero ha hb).1 h]; exact h2
  · exact cmp_lt_trans ha hb hc (by omega) h2
theorem cmp_lt_le {a b c : List Int} (ha : rightL a = true) (hb : rightL b = true) (hc : rightL c = true) (h1 : cmpL a b < 0) (h2 : cmpL b c ≤ 0) : cmpL a c < 0 := by
  by_cases h : cmpL b c = 0
  · rw [← (cmp_zero hb hc).1 h]; exact h1
  · exact cmp_lt_trans ha hb hc h1 (by omega)
theorem cmpPs_trans : ∀ {a b c : List (List Int)}, Goods a → Goods b → Goods c → a.length = b.length → b.length = c.length → cmpPs a b ≤ 0 → cmpPs b c ≤ 0 → cmpPs a c ≤ 0
  | [], _, _, _, _, _, _, _, _, _ => by simp [cmpPs]
  | _ :: _, [], _, _, _, _, h, _, _, _ => by simp at h
  | _ :: _, _ :: _, [], _, _, _, _, h, _, _ => by simp at h
  | x :: r, y :: s, z :: t, g, k, m, h, h', h1, h2 => by
    have ih := cmpPs_trans (a := r) (b := s) (c := t) (fun z hz => g z (List.mem_cons_of_mem _ hz)) (fun z hz => k z (List.mem_cons_of_mem _ hz)) (fun z hz => m z (List.mem_cons_of_mem _ hz)) (by simpa using h) (by simpa using h')
    have hx := (g x (by simp)).1
    have hy := (k y (by simp)).1
    have hz := (m z (by simp)).1
    simp only [cmpPs, orI] at h1 h2 ⊢
    by_cases e1 : cmpL x y = 0
    · rw [if_pos e1] at h1
      have e := (cmp_zero hx hy).1 e1
      subst e
      by_cases e2 : cmpL x z = 0
      · rw [if_pos e2] at h2 ⊢
        exact ih h1 h2
      · rw [if_neg e2] at h2 ⊢
        exact h2
    · rw [if_neg e1] at h1
      by_cases e2 : cmpL y z = 0
      · have e := (cmp_zero hy hz).1 e2
        subst e
        rw [if_neg e1]
        exact h1
      · rw [if_neg e2] at h2
        have := cmp_lt_trans hx hy hz (by omega) (by omega)
        rw [if_neg (by omega)]
        omega

section
variable {x y z : Lin}
theorem cmpLin_neg (hx : rightLin x = true) (hy : rightLin y = true) : cmpLin y x = - cmpLin x y := by
  have X := rightLin_iff.1 hx
  have Y := rightLin_iff.1 hy
  have h1 := cmp_neg X.1 Y.1
  have h2 := cmpPs_neg X.2.1 Y.2.1
  simp only [cmpLin, hx, hy, Bool.and_self, if_true, orI, h1, h2]
  rcases sgn_cases x.ps.length y.ps.length with ⟨_, e⟩ | ⟨_, e⟩ | ⟨_, e⟩ <;> rcases sgn_cases y.ps.length x.ps.length with ⟨_, e'⟩ | ⟨_, e'⟩ | ⟨_, e'⟩ <;> rw [e, e'] <;>
    first
      | (exfalso; omega)
      | (by_cases c : cmpL x.base y.base = 0
         · simp [c]
         · rw [if_neg c, if_neg (by omega)])
theorem cmpLin_zero (hx : rightLin x = true) (hy : rightLin y = true) : cmpLin x y = 0 ↔ x = y := by
  have X := rightLin_iff.1 hx
  have Y := rightLin_iff.1 hy
  have h1 := cmp_zero X.1 Y.1
  simp only [cmpLin, hx, hy, Bool.and_self, if_true, orI]
  constructor
  · intro h
    by_cases c : cmpL x.base y.base = 0
    · rw [if_pos c] at h
      rcases sgn_cases x.ps.length y.ps.length with ⟨_, e⟩ | ⟨e', e⟩ | ⟨_, e⟩
      · rw [e] at h; simp at h
      · rw [e, if_pos rfl] at h
        have h3 := (cmpPs_zero X.2.1 Y.2.1 (by omega)).1 h
        cases x; cases y
        simp only [Lin.mk.injEq]
        exact ⟨h1.1 c, h3⟩
      · rw [e] at h; simp at h
    · rw [if_neg c] at h
      exact absurd h c
  · rintro rfl
    rw [if_pos (h1.2 rfl)]
    rcases sgn_cases x.ps.length x.ps.length with ⟨e', e⟩ | ⟨e', e⟩ | ⟨e', e⟩
    · omega
    · rw [e, if_pos rfl]
      exact (cmpPs_zero X.2.1 Y.2.1 rfl).2 rfl
    · omega
theorem cmpLin_trans (hx : rightLin x = true) (hy : rightLin y = true) (hz : rightLin z = true) (h1 : cmpLin x y ≤ 0) (h2 : cmpLin y z ≤ 0) : cmpLin x z ≤ 0 := by
  have X := rightLin_iff.1 hx
  have Y := rightLin_iff.1 hy
  have Z := rightLin_iff.1 hz
  simp only [cmpLin, hx, hy, hz, Bool.and_self, if_true, orI] at h1 h2 ⊢
  by_cases c1 : cmpL x.base y.base = 0
  · rw [if_pos c1] at h1
    have e := (cmp_zero X.1 Y.1).1 c1
    rw [← e] at h2
    by_cases c2 : cmpL x.base z.base = 0
    · rw [if_pos c2] at h2 ⊢
      have T := @cmpPs_trans x.ps y.ps z.ps X.2.1 Y.2.1 Z.2.1
      rcases sgn_cases x.ps.length y.ps.length with ⟨l1, e1⟩ | ⟨l1, e1⟩ | ⟨l1, e1⟩ <;> rcases sgn_cases y.ps.length z.ps.length with ⟨l2, e2⟩ | ⟨l2, e2⟩ | ⟨l2, e2⟩ <;> rcases sgn_cases x.ps.length z.ps.length with ⟨l3, e3⟩ | ⟨l3, e3⟩ | ⟨l3, e3⟩ <;>
        rw [e1] at h1 <;> rw [e2] at h2 <;> rw [e3] <;>
        first
          | (exfalso; omega)
          | (simp at h1; done)
          | (simp at h2; done)
          | (simp; done)
          | (rw [if_pos rfl] at h1 h2 ⊢; exact T (by omega) (by omega) h1 h2)
    · rw [if_neg c2] at h2 ⊢
      exact h2
  · rw [if_neg c1] at h1
    by_cases c2 : cmpL y.base z.base = 0
    · rw [← (cmp_zero Y.1 Z.1).1 c2, if_neg c1]
      exact h1
    · rw [if_neg c2] at h2
      have := cmp_lt_trans X.1 Y.1 Z.1 (by omega) (by omega)
      rw [if_neg (by omega)]
      omega

/-- The right one is found again, whatever the order, and however often each period is told. -/
theorem of_again {b : List Int} {ps : List (List Int)} (hx : rightLin x = true) (hb : normL b = x.base) (hl : lostL b = false) (hp : ∀ p ∈ ps, lostL p = false) (hm : ∀ q, q ∈ ofNorm ps ↔ q ∈ x.ps) : ofOk b ps = true ∧ ofLin b ps = x := by
  have X := rightLin_iff.1 hx
  have h : ofOk b ps = true := by
    simp only [ofOk, hl, Bool.not_false, Bool.true_and, List.all_eq_true]
    intro p h
    rw [hp p h]; rfl
  refine ⟨h, ?_⟩
  unfold ofLin
  rw [if_pos h, hb]
  have e : putAll [] (ofNorm ps) = x.ps := rise_ext (putAll_rise (ofNorm_good ps) rise_nil) X.2 (fun q => by rw [putAll_mem (ofNorm_good ps) rise_nil]; simp [hm])
  rw [e]

theorem cat_right (h : catOk x y = true) (ha : rightL (addT x.base y.base) = true) : rightLin (catLin x y) = true := by
  have h' := h
  simp only [catOk, Bool.and_eq_true] at h'
  unfold catLin
  rw [if_pos h]
  exact rightLin_iff.2 ⟨ha, (cat_ps (rightLin_iff.1 h'.1.1).2 (rightLin_iff.1 h'.1.2).2).1⟩
theorem cat_comm (h : catOk x y = true) (k : catOk y x = true) : catLin x y = catLin y x := by
  have h' := h
  simp only [catOk, Bool.and_eq_true] at h'
  have X := (rightLin_iff.1 h'.1.1).2
  have Y := (rightLin_iff.1 h'.1.2).2
  have P := cat_ps X Y
  have Q := cat_ps Y X
  unfold catLin
  rw [if_pos h, if_pos k, add_comm' y.base, rise_ext P.1 Q.1 (fun q => by rw [P.2, Q.2, or_comm])]
theorem cat_assoc (h1 : catOk x y = true) (h2 : catOk (catLin x y) z = true) (h3 : catOk y z = true) (h4 : catOk x (catLin y z) = true) : catLin (catLin x y) z = catLin x (catLin y z) := by
  have a1 := h1
  have a2 := h2
  have a3 := h3
  have a4 := h4
  simp only [catOk, Bool.and_eq_true] at a1 a2 a3 a4
  have X := (rightLin_iff.1 a1.1.1).2
  have Y := (rightLin_iff.1 a1.1.2).2
  have Z := (rightLin_iff.1 a3.1.2).2
  have E : catLin x y = ⟨addT x.base y.base, putAll (putAll [] x.ps) y.ps⟩ := cat_yes h1
  have F : catLin y z = ⟨addT y.base z.base, putAll (putAll [] y.ps) z.ps⟩ := cat_yes h3
  have P := cat_ps X Y
  have Q := cat_ps Y Z
  have L := cat_ps (x := catLin x y) (y := z) (by rw [E]; exact P.1) Z
  have R := cat_ps (x := x) (y := catLin y z) X (by rw [F]; exact Q.1)
  have G : catLin (catLin x y) z = ⟨addT (catLin x y).base z.base, putAll (putAll [] (catLin x y).ps) z.ps⟩ := cat_yes h2
  have H : catLin x (catLin y z) = ⟨addT x.base (catLin y z).base, putAll (putAll [] x.ps) (catLin y z).ps⟩ := cat_yes h4
  rw [G, H]
  have e1 : addT (catLin x y).base z.base = addT x.base (catLin y z).base := by rw [E, F]; exact add_assoc' _ _ _
  have e2 : putAll (putAll [] (catLin x y).ps) z.ps = putAll (putAll [] x.ps) (catLin y z).ps := by
    apply rise_ext L.1 R.1
    intro q
    rw [L.2, R.2]
    have u : q ∈ (catLin x y).ps ↔ q ∈ x.ps ∨ q ∈ y.ps := by rw [E]; exact P.2 q
    have v : q ∈ (catLin y z).ps ↔ q ∈ y.ps ∨ q ∈ z.ps := by rw [F]; exact Q.2 q
    rw [u, v, or_assoc]
  rw [e1, e2]
theorem cat_len (h : catOk x y = true) : (catLin x y).ps.length ≤ x.ps.length + y.ps.length := by
  unfold catLin
  rw [if_pos h]
  have h1 := putAll_len y.ps (putAll [] x.ps)
  have h2 := putAll_len x.ps []
  simp only [List.length_nil] at h2
  show (putAll (putAll [] x.ps) y.ps).length ≤ _
  omega
theorem cat_point (h : catOk x y = true) : (catLin x y).ps = [] ↔ x.ps = [] ∧ y.ps = [] := by
  have h' := h
  simp only [catOk, Bool.and_eq_true] at h'
  have P := cat_ps (rightLin_iff.1 h'.1.1).2 (rightLin_iff.1 h'.1.2).2
  have e : (catLin x y).ps = putAll (putAll [] x.ps) y.ps := by unfold catLin; rw [if_pos h]
  rw [e]
  simp only [List.eq_nil_iff_forall_not_mem, P.2]
  exact ⟨fun h => ⟨fun a ha => h a (.inl ha), fun a ha => h a (.inr ha)⟩, fun h a ha => ha.elim (h.1 a) (h.2 a)⟩
/-- Noughts behind a right word. -/
theorem norm_noughts {q r : List Int} (hq : rightL q = true) (hr : ∀ n ∈ r, n = 0) : normL (q ++ r) = q := by
  have z : ∀ i, q.length ≤ i → (q ++ r).getD i 0 = 0 := by
    intro i hi
    by_cases h : i < (q ++ r).length
    · rw [getD_at h]
      have : (q ++ r)[i] = r[i - q.length]'(by simp at h; omega) := List.getElem_append_right hi
      rw [this]
      exact hr _ (List.getElem_mem _)
    · exact getD_past (by omega)
  have e : trimL (q ++ r) = q := by
    rw [trim_of z ?_]
    · simp
    · by_cases h : q.length = 0
      · exact .inl h
      · right
        have hl : q.length - 1 < (q ++ r).length := by simp; omega
        have := right_last hq (by omega)
        rw [getD_at (by omega)] at this
        rw [getD_at hl, List.getElem_append_left (by omega)]
        exact this
  rw [norm_yes (by rw [e]; exact hq), e]
theorem lost_right {q r : List Int} (hq : rightL q = true) (hr : ∀ n ∈ r, n = 0) : lostL (q ++ r) = false := by
  unfold lostL
  rw [norm_noughts hq hr]
  cases q with
  | nil =>
    simp only [List.nil_append, List.isEmpty_nil, Bool.true_and, List.any_eq_false, decide_eq_true_eq]
    intro n hn h
    exact h (hr n hn)
  | cons _ _ => rfl
theorem norm_self {q : List Int} (hq : rightL q = true) : normL q = q := by
  have := norm_noughts (r := []) hq (by simp)
  rwa [List.append_nil] at this
theorem lost_self {q : List Int} (hq : rightL q = true) : lostL q = false := by
  have := lost_right (r := []) hq (by simp)
  rwa [List.append_nil] at this
theorem norm_zeros {r : List Int} (hr : ∀ n ∈ r, n = 0) : normL r = [] := norm_noughts (q := []) (by decide) hr
theorem lost_zeros {r : List Int} (hr : ∀ n ∈ r, n = 0) : lostL r = false := lost_right (q := []) (by decide) hr
/-- A right one, made of its own parts. -/
theorem of_self (hx : rightLin x = true) : ofOk x.base x.ps = true ∧ ofLin x.base x.ps = x := by
  have X := rightLin_iff.1 hx
  refine of_again hx (norm_self X.1) (lost_self X.1) (fun p hp => lost_self (X.2.1 p hp).1) (fun q => ?_)
  simp only [ofNorm, List.mem_filter, List.mem_map, decide_eq_true_eq]
  constructor
  · rintro ⟨⟨p, hp, rfl⟩, _⟩
    rw [norm_self (X.2.1 p hp).1]
    exact hp
  · intro hq
    exact ⟨⟨q, hq, norm_self (X.2.1 q hq).1⟩, (X.2.1 q hq).2⟩
end
end Go.Proofs.Ytmbkiefbchjofaa

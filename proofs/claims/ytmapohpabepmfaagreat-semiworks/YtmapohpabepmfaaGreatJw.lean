/- What the law SemiWorks wants: forms of meters, bounds on powers, two meters side by side. -/
import Derived.Test.YtmapohpabepmfaaGreatJu
import Derived.Test.YtmapohpabepmfaaGreatNk
import Derived.Test.YtmapohpabepmfaaGreatNl
namespace Go.Proofs.YtmapohpabepmfaaGreat
open Go.ChangeShapes Go.WideShapes Go.ChangeAt Go.RowKit

theorem spendM_form {B S : Int} {o : Bool} {n : Int} (h0 : 0 ≤ S) (h1 : S ≤ B) : ∃ S' o', (spendM (some (B, S, o)) n).2 = some (B, S', o') ∧ 0 ≤ S' ∧ S' ≤ B :=
  ⟨_, _, rfl, (next_bd h0 h1).1, (next_bd h0 h1).2⟩
theorem catM_form {B S : Int} {o : Bool} (s t : List Lin) (h0 : 0 ≤ S) (h1 : S ≤ B) : ∃ c q S' o', catM (some (B, S, o)) s t = (c, q, some (B, S', o')) ∧ 0 ≤ S' ∧ S' ≤ B := by
  obtain ⟨S', o', e, g0, g1⟩ := spendM_form (o := o) (n := ((s.length * t.length : Nat) : Int)) h0 h1
  unfold catM
  rw [e]
  split
  · split
    · split
      · exact ⟨_, _, S', o', rfl, g0, g1⟩
      · exact ⟨_, _, S', o', rfl, g0, g1⟩
    · exact ⟨_, _, S', o', rfl, g0, g1⟩
  · exact ⟨_, _, S, o, rfl, h0, h1⟩
theorem starM_form {B S : Int} {o : Bool} (s : List Lin) (h0 : 0 ≤ S) (h1 : S ≤ B) : ∃ c q S' o', starM (some (B, S, o)) s = (c, q, some (B, S', o')) ∧ 0 ≤ S' ∧ S' ≤ B := by
  obtain ⟨S', o', e, g0, g1⟩ := spendM_form (o := o) (n := ((s.length : Nat) : Int)) h0 h1
  unfold starM
  rw [e]
  split
  · split
    · exact ⟨_, _, S', o', rfl, g0, g1⟩
    · exact ⟨_, _, S', o', rfl, g0, g1⟩
  · exact ⟨_, _, S, o, rfl, h0, h1⟩
theorem powGo_form {B : Int} : ∀ (n : Nat) (S : Int) (o : Bool) (acc s : List Lin), 0 ≤ S → S ≤ B → ∃ c q S' o', powGo n (some (B, S, o)) acc s = (c, q, some (B, S', o')) ∧ 0 ≤ S' ∧ S' ≤ B
  | 0, S, o, acc, s, h0, h1 => ⟨acc, 0, S, o, rfl, h0, h1⟩
  | n + 1, S, o, acc, s, h0, h1 => by
    obtain ⟨c, q, S', o', e, g0, g1⟩ := catM_form (o := o) acc s h0 h1
    rw [show powGo (n + 1) (some (B, S, o)) acc s = (if (catM (some (B, S, o)) acc s).2.1 = 0 then powGo n (catM (some (B, S, o)) acc s).2.2 (catM (some (B, S, o)) acc s).1 s else ([], (catM (some (B, S, o)) acc s).2.1, (catM (some (B, S, o)) acc s).2.2)) from rfl, e]
    dsimp only
    split
    · exact powGo_form n S' o' c s g0 g1
    · exact ⟨_, _, S', o', rfl, g0, g1⟩
theorem powM_form {B S : Int} {o : Bool} (s : List Lin) (n : Int) (h0 : 0 ≤ S) (h1 : S ≤ B) : ∃ c q S' o', powM (some (B, S, o)) s n = (c, q, some (B, S', o')) ∧ 0 ≤ S' ∧ S' ≤ B := by
  unfold powM
  split
  · exact powGo_form _ S o oneS s h0 h1
  · exact ⟨_, _, S, o, rfl, h0, h1⟩
/-- Where two sets were put together, that was paid for. -/
theorem catM_zero {B S : Int} {o : Bool} {s t : List Lin} (h : (catM (some (B, S, o)) s t).2.1 = 0) :
    lets B S ((s.length * t.length : Nat) : Int) o = true ∧ catsOk s t = true ∧ catM (some (B, S, o)) s t = (catS s t, 0, some (B, next B S ((s.length * t.length : Nat) : Int) o, !lets B S ((s.length * t.length : Nat) : Int) o)) := by
  unfold catM at h ⊢
  by_cases h1 : (rightS s && rightS t) = true
  · rw [if_pos h1] at h ⊢
    by_cases h2 : (spendM (some (B, S, o)) ((s.length * t.length : Nat) : Int)).1 = true
    · rw [if_pos h2] at h ⊢
      by_cases h3 : catsOk s t = true
      · rw [if_pos h3]
        exact ⟨h2, h3, rfl⟩
      · rw [if_neg h3] at h
        exact absurd (show (3 : Int) = 0 from h) (by decide)
    · rw [if_neg h2] at h
      exact absurd (show (7 : Int) = 0 from h) (by decide)
  · rw [if_neg h1] at h
    exact absurd (show (1 : Int) = 0 from h) (by decide)
theorem lin_at {s : List Lin} {x : Lin} (h : x ∈ s) : ∃ i, linAt s i = x := by
  obtain ⟨i, hi, e⟩ := List.getElem_of_mem h
  exact ⟨i, by unfold linAt; rw [List.getD_eq_getElem?_getD, List.getElem?_eq_getElem hi]; exact e⟩
theorem lin_in {s : List Lin} (i : Nat) : linAt s i ∈ s ∨ linAt s i = ⟨[], []⟩ := by
  unfold linAt
  rw [List.getD_eq_getElem?_getD]
  by_cases hi : i < s.length
  · rw [List.getElem?_eq_getElem hi]; exact .inl (List.getElem_mem hi)
  · rw [List.getElem?_eq_none (by omega)]; exact .inr rfl
/-- A power that is paid for stays within bounds. -/
theorem pow_fits {B : Int} (hB : B ≤ 400) {s : List Lin} (hs : s.length ≤ 6) (hsp : ∀ i, (linAt s i).ps.length ≤ 16777216) : ∀ (n : Nat) (S : Int) (o : Bool) (acc : List Lin), 0 ≤ S → S ≤ B → acc.length ≤ 400 → (∀ i, ((linAt acc i).ps.length : Int) ≤ S * 16777216) → powFits n (some (B, S, o)) acc s
  | 0, _, _, _, _, _, _, _ => trivial
  | n + 1, S, o, acc, h0, h1, ha, hap => by
    have hm : acc.length * s.length ≤ 400 * 6 := Nat.mul_le_mul ha hs
    refine ⟨by omega, fun i j => ?_, fun hz => ?_⟩
    · have := hap i
      have := hsp j
      omega
    · obtain ⟨hl, hok, e⟩ := catM_zero hz
      rw [e]
      obtain ⟨c1, c2, c3⟩ := catS_yes hok
      have g := next_bd (n := ((acc.length * s.length : Nat) : Int)) (o := o) h0 h1
      have en : next B S ((acc.length * s.length : Nat) : Int) o = S + max ((acc.length * s.length : Nat) : Int) 0 := by unfold next; rw [if_pos hl]
      have hle : ((acc.length * s.length : Nat) : Int) ≤ B - S := by
        unfold lets at hl
        rw [Bool.and_eq_true] at hl
        exact of_decide_eq_true hl.2
      have h400 : (catS acc s).length ≤ 400 := by omega
      refine pow_fits hB hs hsp n _ _ (catS acc s) g.1 g.2 h400 (fun i => ?_)
      rcases lin_in (s := catS acc s) i with hi | hi
      · obtain ⟨x, hx, y, hy, exy⟩ := (c2 _).1 hi
        rw [exy]
        have hc : catOk x y = true := List.all_eq_true.1 hok (x, y) (prod_mem.2 ⟨hx, hy⟩)
        have hlen := cat_len hc
        obtain ⟨i', rfl⟩ := lin_at hx
        obtain ⟨j', rfl⟩ := lin_at hy
        have b1 := hap i'
        have b2 := hsp j'
        have p1 : 1 ≤ acc.length := List.length_pos_of_mem hx
        have p2 : 1 ≤ s.length := List.length_pos_of_mem hy
        have p3 : 1 * 1 ≤ acc.length * s.length := Nat.mul_le_mul p1 p2
        have p4 : S + 1 ≤ next B S ((acc.length * s.length : Nat) : Int) o := by rw [en]; omega
        omega
      · rw [hi]
        have := g.1
        show ((0 : Nat) : Int) ≤ _
        omega
theorem one_fits {B S : Int} {o : Bool} (hB : B ≤ 400) {s : List Lin} (h : Short6 s) (n : Nat) (h0 : 0 ≤ S) (h1 : S ≤ B) : powFits n (some (B, S, o)) oneS s :=
  pow_fits hB h.1 h.2 n S o oneS h0 h1 (by show 1 ≤ 400; omega) (fun i => by
    have h4 : (linAt oneS i).ps.length = 0 := by
      unfold linAt oneS
      cases i <;> rfl
    rw [h4]
    show ((0 : Nat) : Int) ≤ _
    omega)

/-- What a call that works comes to, by names. -/
def WorksTo (T : TypeId) (mp : Option Addr) (c : List Lin) (n : Nat) (q : Int) (M : Mr) (w : World) (e : Ending) (w' : World) : Prop :=
  ∃ a d, e = .returned (.tuple #[.slice a n d, .int .i64 q]) ∧ Lins w' a d c ∧ MrAt w' T mp M ∧ MK mp w w'
theorem works_to {N : World → Nat → Lb → Prop} {T : TypeId} {mp : Option Addr} {r : List Lin × Int × Mr} {w w' : World} {e : Ending} {c : List Lin} {n : Nat} {q : Int} {M : Mr} (hr : r = (c, q, M)) (hn : c.length = n) (h : WorksN N T mp r w e w') : WorksTo T mp c n q M w e w' := by
  subst hr; subst hn
  obtain ⟨a, d, ls, h1, h2, h3, _, _, h6, h7⟩ := h
  exact ⟨a, d, h2, ⟨ls, h1, h3⟩, h6, h7⟩
theorem mt_m : MT 82 := ⟨by decide, by decide, by decide⟩
theorem mt_r : MT 48 := ⟨by decide, by decide, by decide⟩
theorem MrAt.mk {w w' : World} {T T' : TypeId} {mp rp : Option Addr} {M R : Mr} (h : MrAt w T mp M) (hne : T' ≠ T) (k : MK mp w w') (h' : MrAt w T' rp R) : MrAt w' T' rp R := by
  cases R with
  | none => exact h'
  | some p =>
    obtain ⟨B, S, o⟩ := p
    obtain ⟨g, e, a, r⟩ := h'
    refine ⟨g, e, Lies.kept a k (fun e2 => ?_), r⟩
    rcases h.form with h3 | ⟨b, h3, cs, l⟩
    · rw [h3] at e2; cases e2
    · rw [h3] at e2; injection e2 with e2; injection e2 with e2; subst e2
      exact Lies.other a l hne rfl
/-- Two meters and two sets side by side. -/
structure WS (w : World) (gm gr : Nat) (M R : Mr) (ax ay : Option Addr) (cx cy : Nat) (x y : List Lin) (W : World) : Prop where
  bel : Below w.heap.size w W
  mm : MrAt W 82 (some ⟨gm, 0, none⟩) M
  rr : MrAt W 48 (some ⟨gr, 0, none⟩) R
  xx : Lins W ax cx x
  yy : Lins W ay cy y
  hm : w.heap.size ≤ gm
  hr : w.heap.size ≤ gr
section
variable {w W W' : World} {gm gr : Nat} {M R M' : Mr} {ax ay a : Option Addr} {cx cy c : Nat} {x y s : List Lin}
theorem WS.below (h : WS w gm gr M R ax ay cx cy x y W) (b : Below W.heap.size W W') : WS w gm gr M R ax ay cx cy x y W' :=
  ⟨h.bel.trans (b.mono h.bel.size), h.mm.below b, h.rr.below b, h.xx.below b, h.yy.below b, h.hm, h.hr⟩
theorem WS.stepM (h : WS w gm gr M R ax ay cx cy x y W) (k : MK (some ⟨gm, 0, none⟩) W W') (m : MrAt W' 82 (some ⟨gm, 0, none⟩) M') : WS w gm gr M' R ax ay cx cy x y W' :=
  ⟨h.bel.trans (k.below (fun g e => by injection e with e; injection e with e; have := h.hm; omega) h.bel.size), m, h.mm.mk (by decide) k h.rr, Lins.mk h.mm mt_m k h.xx, Lins.mk h.mm mt_m k h.yy, h.hm, h.hr⟩
theorem WS.stepR (h : WS w gm gr M R ax ay cx cy x y W) (k : MK (some ⟨gr, 0, none⟩) W W') (m : MrAt W' 48 (some ⟨gr, 0, none⟩) M') : WS w gm gr M M' ax ay cx cy x y W' :=
  ⟨h.bel.trans (k.below (fun g e => by injection e with e; injection e with e; have := h.hr; omega) h.bel.size), h.rr.mk (by decide) k h.mm, m, Lins.mk h.rr mt_r k h.xx, Lins.mk h.rr mt_r k h.yy, h.hm, h.hr⟩
theorem WS.keepR (h : WS w gm gr M R ax ay cx cy x y W) (k : MK (some ⟨gr, 0, none⟩) W W') (r : Lins W a c s) : Lins W' a c s := Lins.mk h.rr mt_r k r
end
theorem at_some {w : World} {T : TypeId} {g : Nat} {B S : Int} {o : Bool} (h : MrAt w T (some ⟨g, 0, none⟩) (some (B, S, o))) : At w T g B S o := by
  obtain ⟨b, e, a, _⟩ := h
  injection e with e; injection e with e; subst e
  exact a
/-- Tells a value, makes new memory at most. -/
def TellsV (v : Value) (w : World) (e : Ending) (w' : World) : Prop := e = .returned v ∧ Below w.heap.size w w'
theorem spentV {g : Nat} {B S : Int} {o : Bool} {w : World} (h : MrAt w 82 (some ⟨g, 0, none⟩) (some (B, S, o))) : Calls Tryz.prog 24 #[.pointer (some ⟨g, 0, none⟩)] w (TellsV (.int .i64 S) w) :=
  (spent_any g B S o w (at_some h)).mono fun e w' ⟨h1, h2⟩ => by subst h2; exact ⟨h1, Below.refl _ _⟩
theorem outV {g : Nat} {B S : Int} {o : Bool} {w : World} (h : MrAt w 82 (some ⟨g, 0, none⟩) (some (B, S, o))) : Calls Tryz.prog 29 #[.pointer (some ⟨g, 0, none⟩)] w (TellsV (.bool o) w) :=
  (out_any g B S o w (at_some h)).mono fun e w' ⟨h1, h2⟩ => by subst h2; exact ⟨h1, Below.refl _ _⟩
end Go.Proofs.YtmapohpabepmfaaGreat

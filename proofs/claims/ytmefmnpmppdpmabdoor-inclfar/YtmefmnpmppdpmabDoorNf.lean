import Derived.Test.YtmefmnpmppdpmabDoorNd
import Derived.Test.YtmefmnpmppdpmabDoorHa
import Derived.Test.YtmefmnpmppdpmabDoorMt
/- Meters that there may not be; what semi's work comes to; semi.Cat. -/
namespace Go.Proofs.YtmefmnpmppdpmabDoor
open Go.ChangeShapes Go.WideShapes Go.ChangeAt Go.RowKit

/-- A meter, or none: its budget, what was spent, whether it is out. -/
def Mr : Type := Option (Int × Int × Bool)
def MrAt (w : World) (T : TypeId) (mp : Option Addr) (M : Mr) : Prop :=
  match M with
  | none => mp = none
  | some (B, S, o) => ∃ b, mp = some ⟨b, 0, none⟩ ∧ At w T b B S o ∧ 0 ≤ S ∧ S ≤ B ∧ B ≤ 9223372036854775807
def spendM (M : Mr) (n : Int) : Bool × Mr :=
  match M with
  | none => (true, none)
  | some (B, S, o) => (lets B S n o, some (B, next B S n o, !lets B S n o))
theorem MrAt.below {w w' : World} {T : TypeId} {mp : Option Addr} {M : Mr} (h : MrAt w T mp M) (b : Below w.heap.size w w') : MrAt w' T mp M := by
  cases M with
  | none => exact h
  | some p =>
    obtain ⟨B, S, o⟩ := p
    obtain ⟨g, e, a, r⟩ := h
    exact ⟨g, e, a.below b, r⟩
theorem MrAt.form {w : World} {T : TypeId} {mp : Option Addr} {M : Mr} (h : MrAt w T mp M) : mp = none ∨ ∃ b, mp = some ⟨b, 0, none⟩ ∧ ∃ cs, Lies w b T cs := by
  cases M with
  | none => exact .inl h
  | some p =>
    obtain ⟨B, S, o⟩ := p
    obtain ⟨g, e, a, _⟩ := h
    exact .inr ⟨g, e, _, a⟩
theorem bag_apartM {w : World} {T : TypeId} {mp : Option Addr} {M : Mr} (h : MrAt w T mp M) (hT : T ≠ 3) {a : Option Addr} {c : Nat} {xs : List Int} (r : Bag w a c xs) {g : Nat} (e : a = some ⟨g, 0, none⟩) : mp ≠ some ⟨g, 0, none⟩ := by
  intro e2
  rcases h.form with h | ⟨b, h, cs, l⟩
  · rw [h] at e2; cases e2
  · rw [h] at e2; injection e2 with e2; injection e2 with e2; subst e2
    rcases r with ⟨h1, _⟩ | ⟨g1, sp, h1, _, _, l1⟩
    · rw [h1] at e; cases e
    · rw [h1] at e; injection e with e; injection e with e; subst e
      exact l.other l1 hT rfl
theorem row_apartM {w : World} {T : TypeId} {mp : Option Addr} {M : Mr} (h : MrAt w T mp M) (hT : T ≠ 24) {a : Option Addr} {c : Nat} {xs : List Value} (r : Row w 24 a c xs) {g : Nat} (e : a = some ⟨g, 0, none⟩) : mp ≠ some ⟨g, 0, none⟩ := by
  intro e2
  rcases h.form with h | ⟨b, h, cs, l⟩
  · rw [h] at e2; cases e2
  · rw [h] at e2; injection e2 with e2; injection e2 with e2; subst e2
    rcases r with ⟨h1, _⟩ | ⟨g1, sp, h1, _, _, l1⟩
    · rw [h1] at e; cases e
    · rw [h1] at e; injection e with e; injection e with e; subst e
      exact l.other l1 hT rfl
theorem row2_apartM {w : World} {T : TypeId} {mp : Option Addr} {M : Mr} (h : MrAt w T mp M) (hT : T ≠ 28) {a : Option Addr} {c n : Nat} {xs : List Value} (r : Row2 w a c n xs) {g : Nat} (e : a = some ⟨g, 0, none⟩) : mp ≠ some ⟨g, 0, none⟩ := by
  intro e2
  rcases h.form with h | ⟨b, h, cs, l⟩
  · rw [h] at e2; cases e2
  · rw [h] at e2; injection e2 with e2; injection e2 with e2; subst e2
    obtain ⟨_, r⟩ := r
    rcases r with ⟨h1, _⟩ | ⟨g1, sp, h1, _, _, _, l1⟩
    · rw [h1] at e; cases e
    · rw [h1] at e; injection e with e; injection e with e; subst e
      exact l.other l1 hT rfl
/-- A type of meters: no list's. -/
def MT (T : TypeId) : Prop := T ≠ 3 ∧ T ≠ 24 ∧ T ≠ 28
/-- Only the meter's block has turned: what one gets beside. -/
abbrev MK (mp : Option Addr) (w w' : World) : Prop := Kept (fun g => mp = some ⟨g, 0, none⟩) w w'
theorem Lins.mk {w w' : World} {T : TypeId} {mp : Option Addr} {M : Mr} (h : MrAt w T mp M) (hT : MT T) (k : MK mp w w') {a : Option Addr} {c : Nat} {s : List Lin} (r : Lins w a c s) : Lins w' a c s := by
  obtain ⟨ls, e, P⟩ := r
  refine ⟨ls, e, P.row.kept k (fun g e => row2_apartM h hT.2.2 P.row e), fun l hl => ?_⟩
  obtain ⟨h1, ps, e, Q⟩ := P.each l hl
  exact ⟨h1.kept k (fun g e => bag_apartM h hT.1 h1 e), ps, e, Q.row.kept k (fun g e => row_apartM h hT.2.1 Q.row e), fun p hp => (Q.each p hp).kept k (fun g e => bag_apartM h hT.1 (Q.each p hp) e)⟩
theorem MK.refl (mp : Option Addr) (w : World) : MK mp w w := Kept.refl _ _
theorem MK.then {mp : Option Addr} {w w1 w2 : World} (h : MK mp w w1) (b : Below w1.heap.size w1 w2) : MK mp w w2 := h.trans (Y := fun _ => False) (Kept.of_below b) (fun _ _ e => e.elim)
theorem MK.and {mp : Option Addr} {w w1 w2 : World} (h : MK mp w w1) (k : MK mp w1 w2) : MK mp w w2 := h.trans k (fun _ _ e => e)

/-- What a Spend comes to. -/
def SpendsM (T : TypeId) (mp : Option Addr) (M : Mr) (n : Int) (w : World) (e : Ending) (w' : World) : Prop :=
  e = .returned (.bool (spendM M n).1) ∧ MrAt w' T mp (spendM M n).2 ∧ MK mp w w'
theorem spendsM_some {T : TypeId} {b : Nat} {B S n : Int} {o : Bool} {w w' : World} {e : Ending} (h0 : 0 ≤ S) (h1 : S ≤ B) (h2 : B ≤ 9223372036854775807) (h : Spends T b B S n o w e w') : SpendsM T (some ⟨b, 0, none⟩) (some (B, S, o)) n w e w' := by
  obtain ⟨he, ha, hk⟩ := h
  have := next_bd (n := n) (o := o) h0 h1
  refine ⟨he, ⟨b, rfl, ha, this.1, this.2, h2⟩, hk.kept.mono (fun i _ e => ?_)⟩
  rw [← e]
theorem spend49 (mp : Option Addr) (M : Mr) (n : Int) (w : World) (h : MrAt w 73 mp M) : Calls Tryd.prog 24 #[.pointer mp, .int .i64 n] w (SpendsM 73 mp M n w) := by
  cases M with
  | none =>
    obtain rfl : mp = none := h
    exact (spend_nil n w).mono fun e w' ⟨he, hw⟩ => by subst hw; exact ⟨he, rfl, Kept.refl _ _⟩
  | some p =>
    obtain ⟨B, S, o⟩ := p
    obtain ⟨b, rfl, a, h0, h1, h2⟩ := h
    exact (spend_any b B S n o w a h0 h1 h2).mono fun e w' hh => spendsM_some h0 h1 h2 hh
/-- Linear sets made so far; N tells of each. -/
structure AccN (N : World → Nat → Lb → Prop) (w : World) (oa : Option Addr) (oc m : Nat) (ls : List Lb) (W : World) : Prop where
  bel : Below w.heap.size w W
  row : Lbs W oa oc ls
  num : ls.length = m
  own : From w.heap.size oa
  new : ∀ l ∈ ls, N W w.heap.size l
/-- A word on linear sets that stays where rows turn and new memory is made. -/
structure Stays (N : World → Nat → Lb → Prop) : Prop where
  below : ∀ {w w' : World} {B : Nat} {l : Lb}, N w B l → Below w.heap.size w w' → N w' B l
  mono : ∀ {w : World} {B B' : Nat} {l : Lb}, N w B l → B' ≤ B → N w B' l
  kept : ∀ {w w' : World} {a : Option Addr} {c n B : Nat} {xs : List Value}, Row2 w a c n xs → Kept (fun g => a = some ⟨g, 0, none⟩) w w' → ∀ {l : Lb}, N w B l → N w' B l
section
variable {N : World → Nat → Lb → Prop} {w W W' : World} {oa : Option Addr} {oc m : Nat} {ls : List Lb}
theorem AccN.nil (N : World → Nat → Lb → Prop) (w : World) : AccN N w none 0 0 [] w := ⟨Below.refl _ _, Lbs.nil _, rfl, From.none _, fun l h => by simp at h⟩
theorem AccN.below (s : Stays N) (h : AccN N w oa oc m ls W) (k : Below W.heap.size W W') : AccN N w oa oc m ls W' :=
  ⟨h.bel.trans (k.mono h.bel.size), h.row.below k, h.num, h.own, fun l hl => s.below (h.new l hl) k⟩
set_option maxRecDepth 100000 in
theorem AccN.push (s : Stays N) (t : TypeId) (hu : Tryd.prog.underlying t = some (.slice 28)) (h : AccN N w oa oc m ls W) (hm : m ≤ 100000000000) (l : Lb) (n q : Nat) (hn : l.x.base.length = n) (hq : l.x.ps.length = q)
    (hl : Bag W l.a l.c l.x.base ∧ Bags W l.pa l.pc l.x.ps) (hw : N W w.heap.size l) :
    ∃ a2 c2 w2, (Builtin.append_ #[t, t] t #[.slice oa m oc, .slice (some ⟨W.heap.size, 0, none⟩) 1 1]).run Tryd.prog (W.alloc (.cells #[.slice l.a n l.c, .slice l.pa q l.pc] 28)) = .ok (.slice a2 (m + 1) c2) w2 ∧
      AccN N w a2 c2 (m + 1) (ls ++ [l]) w2 ∧ (∀ g cs, Lies W g 28 cs → oa ≠ some ⟨g, 0, none⟩ → Lies w2 g 28 cs ∧ a2 ≠ some ⟨g, 0, none⟩) := by
  have b1 := below_alloc W (.cells #[.slice l.a n l.c, .slice l.pa q l.pc] 28)
  have h1 := h.below s b1
  have rk : Row2 (W.alloc (.cells #[.slice l.a n l.c, .slice l.pa q l.pc] 28)) oa oc m (lflat ls) := by
    have := h1.row.row
    rwa [h1.num] at this
  have rn := row2_new (V := W) l n q hn hq
  obtain ⟨v2, w4, hr2, A2⟩ := run_app2_at t t hu oa oc m (lflat ls) _ rk ⟨W.heap.size, 0, none⟩ 1 1 (lflat [l]) rfl (fun j u hj => by
    obtain ⟨g', e', hc⟩ := rn.cell hj
    injection e' with e'; injection e' with e'; subst e'
    rw [Addr.add_lit, Nat.zero_add]; exact hc) (lflat_one _) (by omega)
  obtain ⟨B2, F2⟩ := A2.below (B := w.heap.size) h1.bel.size h1.own
  obtain ⟨a2, c2, rfl, r2, k2, f2⟩ := A2
  have F2 := F2 _ _ _ rfl
  have hlen : (ls ++ [l]).length = m + 1 := by rw [List.length_append, h.num]; rfl
  refine ⟨a2, c2, w4, hr2, ⟨h1.bel.trans B2, ⟨by rw [hlen, lflat_app]; exact r2, fun p hp => ?_⟩, hlen, F2, fun p hp => ?_⟩, fun g cs lg hg => ⟨(lg.below b1 lg.lt).kept k2 hg, fun e => ?_⟩⟩
  · rcases List.mem_append.1 hp with hp | hp
    · exact keptBag rk k2 (h1.row.each p hp)
    · obtain rfl := List.mem_singleton.1 hp
      exact keptBag rk k2 ⟨hl.1.below b1, hl.2.below b1⟩
  · rcases List.mem_append.1 hp with hp | hp
    · exact s.kept rk k2 (h1.new p hp)
    · obtain rfl := List.mem_singleton.1 hp
      exact s.kept rk k2 (s.below hw b1)
  · rcases f2 g e with h3 | h3
    · exact hg h3
    · have := lg.lt
      have := b1.size
      omega
end
end Go.Proofs.YtmefmnpmppdpmabDoor

/-! semi.points, semi.Star, semi.Pow. -/
namespace Go.Proofs.YtmefmnpmppdpmabDoor
open Go.ChangeShapes Go.WideShapes Go.ChangeAt Go.RowKit

/-- The words taken so far: the row is new memory. -/
structure AccB (w : World) (qa : Option Addr) (qc m : Nat) (qs : List Bg) (W : World) : Prop where
  bel : Below w.heap.size w W
  row : Bgs W qa qc qs
  num : qs.length = m
  own : From w.heap.size qa
theorem AccB.nil (w : World) : AccB w none 0 0 [] w := ⟨Below.refl _ _, Bgs.nil _, rfl, From.none _⟩
theorem AccB.below {w W W' : World} {qa : Option Addr} {qc m : Nat} {qs : List Bg} (h : AccB w qa qc m qs W) (k : Below W.heap.size W W') : AccB w qa qc m qs W' :=
  ⟨h.bel.trans (k.mono h.bel.size), h.row.below k, h.num, h.own⟩
theorem AccB.push {w W : World} {qa : Option Addr} {qc m : Nat} {qs : List Bg} (h : AccB w qa qc m qs W) {b : Option Addr} {d n : Nat} {ys : List Int} (R : Bag W b d ys) (hn : ys.length = n) (hm : m ≤ 100000000000) :
    ∃ a2 c2 w2, (Builtin.append_ #[26, 26] 26 #[.slice qa m qc, .slice (some ⟨W.heap.size, 0, none⟩) 1 1]).run Tryd.prog (W.alloc (.cells #[.slice b n d] 24)) = .ok (.slice a2 (m + 1) c2) w2 ∧ AccB w a2 c2 (m + 1) (qs ++ [⟨b, d, ys⟩]) w2 := by
  obtain ⟨a2, c2, w2, hr, B2, K2, f2⟩ := app1 qa qc m qs W h.row h.num b d n ys R hn hm
  obtain ⟨F2, b2⟩ := f2 w.heap.size h.bel.size h.own
  exact ⟨a2, c2, w2, hr, h.bel.trans b2, B2, by rw [List.length_append, h.num]; rfl, F2⟩



end Go.Proofs.YtmefmnpmppdpmabDoor

import Derived.Test.YtmefmnpmppdpmabDoorMc
import Derived.Test.YtmefmnpmppdpmabDoorHa
import Derived.Deep.RegionHeld3
import Derived.Deep.CutBlock
import Derived.Deep.DeepCutAuto
import Derived.Deep.CutRange
import Derived.Test.YtmefmnpmppdpmabDoorZl
/- The reference's OfSemi. -/

/-! The reference's OfSemi: what is put where. -/
namespace Go.Proofs.YtmefmnpmppdpmabDoor
open Go.ChangeShapes Go.WideShapes Go.ChangeAt Go.RowKit

theorem lflat_take : ∀ (ls : List Lb) (k : Nat), (lflat ls).take (k * 2) = lflat (ls.take k)
  | [], k => by simp [lflat]
  | l :: r, 0 => by simp [lflat]
  | l :: r, k + 1 => by
    have e : lflat (l :: r) = l.cells ++ lflat r := rfl
    have e2 : lflat ((l :: r).take (k + 1)) = l.cells ++ lflat (r.take k) := rfl
    have hl : l.cells.length = 2 := rfl
    rw [e, e2, ← lflat_take r k, List.take_append, hl, List.take_of_length_le (by rw [hl]; omega)]
    congr 2
    omega
theorem lflat_drop : ∀ (ls : List Lb) (k : Nat), (lflat ls).drop (k * 2) = lflat (ls.drop k)
  | [], k => by simp [lflat]
  | l :: r, 0 => by simp
  | l :: r, k + 1 => by
    have e : lflat (l :: r) = l.cells ++ lflat r := rfl
    have e2 : (l :: r).drop (k + 1) = r.drop k := rfl
    have hl : l.cells.length = 2 := rfl
    rw [e, e2, ← lflat_drop r k, List.drop_append, hl, List.drop_of_length_le (by rw [hl]; omega), List.nil_append]
    congr 1
    omega
theorem Row2.cut {w : World} {a : Option Addr} {c n : Nat} {xs : List Value} (h : Row2 w a c n xs) {k : Nat} (hk : k ≤ n) : Row2 w a c k (xs.take (k * 2)) := by
  obtain ⟨h0, h⟩ := h
  have hl : (xs.take (k * 2)).length = k * 2 := by rw [List.length_take]; omega
  refine ⟨hl, ?_⟩
  rcases h with ⟨h1, h2, h3⟩ | ⟨g, sp, e, h1, h2, h3, l⟩
  · exact .inl ⟨h1, h2, by omega⟩
  · refine .inr ⟨g, xs.drop (k * 2) ++ sp, e, ?_, by omega, h3, l.to (by rw [← List.append_assoc, List.take_append_drop])⟩
    rw [hl, List.length_append, List.length_drop]; omega
theorem row2_new {V : World} (l : Lb) (n m : Nat) (hn : l.x.base.length = n) (hm : l.x.ps.length = m) : Row2 (V.alloc (.cells #[.slice l.a n l.c, .slice l.pa m l.pc] 28)) (some ⟨V.heap.size, 0, none⟩) 1 1 (lflat [l]) := by
  subst hn; subst hm
  exact ⟨rfl, .inr ⟨V.heap.size, [], rfl, rfl, Nat.le_refl _, by omega, (Lies.new V 28 l.cells).to (by simp [lflat])⟩⟩
theorem Row2.apart {w : World} {a : Option Addr} {c n : Nat} {xs : List Value} (r : Row2 w a c n xs) {b : Option Addr} {d : Nat} {ys : List Int} (h : Bag w b d ys) {g : Nat} (e : b = some ⟨g, 0, none⟩) : a ≠ some ⟨g, 0, none⟩ := by
  intro e2
  rcases h with ⟨h1, _⟩ | ⟨g1, sp, h1, _, _, l1⟩
  · rw [h1] at e; cases e
  · rw [h1] at e; injection e with e; injection e with e; subst e
    obtain ⟨_, r⟩ := r
    rcases r with ⟨h2, _⟩ | ⟨g2, sp2, h2, _, _, _, l2⟩
    · rw [h2] at e2; cases e2
    · rw [h2] at e2; injection e2 with e2; injection e2 with e2; subst e2
      exact l1.other l2 (by decide) rfl
theorem Row2.apartB {w : World} {a : Option Addr} {c n : Nat} {xs : List Value} (r : Row2 w a c n xs) {b : Option Addr} {d : Nat} {vs : List Value} (h : Row w 24 b d vs) {g : Nat} (e : b = some ⟨g, 0, none⟩) : a ≠ some ⟨g, 0, none⟩ := by
  intro e2
  rcases h with ⟨h1, _⟩ | ⟨g1, sp, h1, _, _, l1⟩
  · rw [h1] at e; cases e
  · rw [h1] at e; injection e with e; injection e with e; subst e
    obtain ⟨_, r⟩ := r
    rcases r with ⟨h2, _⟩ | ⟨g2, sp2, h2, _, _, _, l2⟩
    · rw [h2] at e2; cases e2
    · rw [h2] at e2; injection e2 with e2; injection e2 with e2; subst e2
      exact l1.other l2 (by decide) rfl
/-- Only the row's own block has turned: bags and slices of bags stay. -/
theorem keptBag {w w' : World} {a : Option Addr} {c n : Nat} {xs : List Value} (r : Row2 w a c n xs) (k : Kept (fun g => a = some ⟨g, 0, none⟩) w w') {b pb : Option Addr} {d pd : Nat} {x : Lin} (h : Bag w b d x.base ∧ Bags w pb pd x.ps) : Bag w' b d x.base ∧ Bags w' pb pd x.ps := by
  refine ⟨h.1.kept k (fun g e => r.apart h.1 e), ?_⟩
  obtain ⟨ps, hw, P⟩ := h.2
  exact ⟨ps, hw, P.row.kept k (fun g e => r.apartB P.row e), fun p hp => (P.each p hp).kept k (fun g e => r.apart (P.each p hp) e)⟩

/-- The set so far: its row is new memory. -/
structure OsSt (w : World) (oa : Option Addr) (oc m : Nat) (ls : List Lb) (W : World) : Prop where
  bel : Below w.heap.size w W
  row : Lbs W oa oc ls
  num : ls.length = m
  own : From w.heap.size oa
theorem OsSt.below {w W W' : World} {oa : Option Addr} {oc m : Nat} {ls : List Lb} (h : OsSt w oa oc m ls W) (k : Below W.heap.size W W') : OsSt w oa oc m ls W' :=
  ⟨h.bel.trans (k.mono h.bel.size), h.row.below k, h.num, h.own⟩
/-- What lies behind place k, as a slice of it. -/
def Tail2 (a : Option Addr) (m k : Nat) (src : Option Addr) (d : Nat) : Prop :=
  (a = none ∧ m = k ∧ src = none ∧ d = 0) ∨ ∃ g ad, a = some ⟨g, 0, none⟩ ∧ src = some ad ∧ (k < m → ad = ⟨g, k * 2, none⟩)
theorem OsSt.rest {w W : World} {oa : Option Addr} {oc m : Nat} {ls : List Lb} (h : OsSt w oa oc m ls W) {k d : Nat} {src : Option Addr} (hk : k ≤ m) (hm : m ≤ 100000000000) (T : Tail2 oa m k src d) :
    ∃ ra rc w1, (Builtin.append_ #[30, 30] 30 #[.slice none 0 0, .slice src (m - k) d]).run Tryd.prog W = .ok (.slice ra (m - k) rc) w1 ∧
      Row2 w1 ra rc (m - k) (lflat (ls.drop k)) ∧ From W.heap.size ra ∧ Below W.heap.size W w1 := by
  have hl : (lflat (ls.drop k)).length = (m - k) * 2 := by rw [lflat_len, List.length_drop, h.num]
  have R : ∃ v w', (Builtin.append_ #[30, 30] 30 #[.slice none 0 0, .slice src (m - k) d]).run Tryd.prog W = .ok v w' ∧ Appends2 none 0 (m - k) [] (lflat (ls.drop k)) W v w' := by
    rcases T with ⟨_, hm, rfl, rfl⟩ | ⟨g, ad, ha, rfl, had⟩
    · subst hm
      have e : lflat (ls.drop m) = [] := List.eq_nil_of_length_eq_zero (by rw [hl]; omega)
      rw [e, Nat.sub_self]
      exact run_app2_nil 30 30 Tryd.underlying30 none 0 0 [] W (Row2.nil W)
    · refine run_app2_at 30 30 Tryd.underlying30 none 0 0 [] W (Row2.nil W) ad (m - k) d (lflat (ls.drop k)) hl (fun j u hj => ?_) (lflat_one _) (by omega)
      have hj' := (List.getElem?_eq_some_iff.1 hj).1
      rw [had (by omega), Addr.add_lit]
      rw [← lflat_drop, List.getElem?_drop] at hj
      obtain ⟨g', e', hc⟩ := h.row.row.cell hj
      rw [ha] at e'; injection e' with e'; injection e' with e'; subst e'
      exact hc
  obtain ⟨v, w1, hr, A⟩ := R
  obtain ⟨bb, ff⟩ := A.below (B := W.heap.size) (Nat.le_refl _) (From.none _)
  obtain ⟨ra, rc, rfl, r, _, _⟩ := A
  rw [Nat.zero_add] at hr r
  rw [List.nil_append] at r
  exact ⟨ra, rc, w1, hr, r, ff _ _ _ rfl, bb⟩
/-- A new one at place k. -/
theorem OsSt.ins {w W V : World} {oa : Option Addr} {oc m : Nat} {ls : List Lb} (h : OsSt w oa oc m ls W) {k : Nat} (hk : k ≤ m) (hm : m ≤ 100000000000) {ra : Option Addr} {rc : Nat} (b : Below W.heap.size W V) (hr : Row2 V ra rc (m - k) (lflat (ls.drop k))) (fr : From W.heap.size ra) (l : Lb) (n q : Nat) (hn : l.x.base.length = n) (hq : l.x.ps.length = q) (hl : Bag V l.a l.c l.x.base ∧ Bags V l.pa l.pc l.x.ps) :
    ∃ a2 c2 w4 a5 c5 w5, (Builtin.append_ #[30, 30] 30 #[.slice oa k oc, .slice (some ⟨V.heap.size, 0, none⟩) 1 1]).run Tryd.prog (V.alloc (.cells #[.slice l.a n l.c, .slice l.pa q l.pc] 28)) = .ok (.slice a2 (k + 1) c2) w4 ∧
      (Builtin.append_ #[30, 30] 30 #[.slice a2 (k + 1) c2, .slice ra (m - k) rc]).run Tryd.prog w4 = .ok (.slice a5 (m + 1) c5) w5 ∧
      OsSt w a5 c5 (m + 1) (ls.take k ++ [l] ++ ls.drop k) w5 ∧
      (∀ g cs, Lies W g 28 cs → oa ≠ some ⟨g, 0, none⟩ → Lies w4 g 28 cs ∧ Lies w5 g 28 cs) := by
  have b1 := below_alloc V (.cells #[.slice l.a n l.c, .slice l.pa q l.pc] 28)
  have h1 := (h.below b).below b1
  have b01 := b.trans (b1.mono b.size)
  have rk : Row2 (V.alloc (.cells #[.slice l.a n l.c, .slice l.pa q l.pc] 28)) oa oc k (lflat (ls.take k)) := by
    have := h1.row.row.cut (k := k) (by rw [h.num]; exact hk)
    rwa [lflat_take] at this
  have rn := row2_new (V := V) l n q hn hq
  obtain ⟨v2, w4, hr2, A2⟩ := run_app2_at 30 30 Tryd.underlying30 oa oc k (lflat (ls.take k)) _ rk ⟨V.heap.size, 0, none⟩ 1 1 (lflat [l]) rfl (fun j u hj => by
    obtain ⟨g', e', hc⟩ := rn.cell hj
    injection e' with e'; injection e' with e'; subst e'
    rw [Addr.add_lit, Nat.zero_add]; exact hc) (lflat_one _) (by omega)
  obtain ⟨B2, F2⟩ := A2.below (B := w.heap.size) h1.bel.size h.own
  obtain ⟨a2, c2, rfl, r2, k2, f2⟩ := A2
  have F2 := F2 _ _ _ rfl
  have ltra : ∀ g, ra = some ⟨g, 0, none⟩ → oa ≠ some ⟨g, 0, none⟩ := fun g e e2 => by
    have h3 := fr g e
    have h4 := h.row.row.lt e2
    omega
  have hr4 : Row2 w4 ra rc (m - k) (lflat (ls.drop k)) := (hr.below b1).kept k2 (fun g e => ltra g e)
  have hdl : (lflat (ls.drop k)).length = (m - k) * 2 := by rw [lflat_len, List.length_drop, h.num]
  have R3 : ∃ v5 w5, (Builtin.append_ #[30, 30] 30 #[.slice a2 (k + 1) c2, .slice ra (m - k) rc]).run Tryd.prog w4 = .ok v5 w5 ∧ Appends2 a2 (k + 1) (m - k) (lflat (ls.take k) ++ lflat [l]) (lflat (ls.drop k)) w4 v5 w5 := by
    obtain ⟨q0, qq⟩ := hr4
    rcases qq with ⟨rfl, rfl, e0⟩ | ⟨g, sp, rfl, q1, q2, q3, lq⟩
    · have e1 : lflat (ls.drop k) = [] := List.eq_nil_of_length_eq_zero (by omega)
      rw [e1, e0]
      exact run_app2_nil 30 30 Tryd.underlying30 a2 c2 (k + 1) _ w4 r2
    · refine run_app2_at 30 30 Tryd.underlying30 a2 c2 (k + 1) _ w4 r2 ⟨g, 0, none⟩ (m - k) rc (lflat (ls.drop k)) hdl (fun j u hj => ?_) (lflat_one _) (by omega)
      rw [Addr.add_lit, Nat.zero_add, lq.cell, List.getElem?_append_left (List.getElem?_eq_some_iff.1 hj).1]
      exact hj
  obtain ⟨v5, w5, hr5, A5⟩ := R3
  obtain ⟨B5, F5⟩ := A5.below (B := w.heap.size) (Nat.le_trans h1.bel.size B2.size) F2
  obtain ⟨a5, c5, rfl, r5, k5, f5⟩ := A5
  have F5 := F5 _ _ _ rfl
  have e5 : k + 1 + (m - k) = m + 1 := by omega
  rw [e5] at hr5 r5
  have hlen : (ls.take k ++ [l] ++ ls.drop k).length = m + 1 := by
    rw [List.length_append, List.length_append, List.length_take, List.length_drop, h.num]; simp; omega
  refine ⟨a2, c2, w4, a5, c5, w5, hr2, hr5, ⟨(h1.bel.trans B2).trans B5, ⟨?_, ?_⟩, hlen, F5⟩, fun g cs lg hg => ?_⟩
  · rw [hlen, lflat_app, lflat_app]; exact r5
  · have old : ∀ p ∈ ls, Bag w5 p.a p.c p.x.base ∧ Bags w5 p.pa p.pc p.x.ps := fun p hp => keptBag r2 k5 (keptBag rk k2 (h1.row.each p hp))
    intro p hp
    rw [List.mem_append, List.mem_append] at hp
    rcases hp with (hp | hp) | hp
    · exact old p (List.mem_of_mem_take hp)
    · obtain rfl := List.mem_singleton.1 hp
      exact keptBag r2 k5 (keptBag rk k2 ⟨hl.1.below b1, hl.2.below b1⟩)
    · exact old p (List.mem_of_mem_drop hp)
  · have l1 := (lg.below b lg.lt).alloc (.cells #[.slice l.a n l.c, .slice l.pa q l.pc] 28)
    have l4 := l1.kept k2 hg
    refine ⟨l4, l4.kept k5 (fun e => ?_)⟩
    rcases f2 g e with h3 | h3
    · exact hg h3
    · have := lg.lt
      have := b01.size
      omega
end Go.Proofs.YtmefmnpmppdpmabDoor

/-! The reference's OfSemi. -/
namespace Go.Proofs.YtmefmnpmppdpmabDoor
open Go.ChangeShapes Go.WideShapes Go.ChangeAt Go.RowKit
end Go.Proofs.YtmefmnpmppdpmabDoor
/- Sorting rows of linear sets, however long, by lin.Compare. -/
namespace Go.Proofs.YtmefmnpmppdpmabDoor
open Go.ChangeShapes Go.WideShapes Go.ChangeAt Go.RowKit

/-- A linear set in memory that is right. -/
structure Rl (w : World) where
  l : Lb
  mem : Bag w l.a l.c l.x.base ∧ Bags w l.pa l.pc l.x.ps
  right : rightLin l.x = true
instance (w : World) : Inhabited (Rl w) := ⟨⟨⟨none, 0, none, 0, ⟨[], []⟩⟩, ⟨Bag.nil w, Bags.nil w⟩, right_empty⟩⟩
end Go.Proofs.YtmefmnpmppdpmabDoor

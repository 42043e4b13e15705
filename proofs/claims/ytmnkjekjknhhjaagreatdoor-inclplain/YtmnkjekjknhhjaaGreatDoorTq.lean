/- The reference's Next. -/
import Derived.Test.YtmnkjekjknhhjaaGreatDoorTe
import Derived.Test.YtmnkjekjknhhjaaGreatDoorMc
import Derived.Deep.RegionHeld3
import Derived.Deep.CutBlock
import Derived.Deep.DeepCutAuto
import Derived.Deep.CutRange
import Derived.Laws.Bits64b
import Derived.Laws.Shifts
import Derived.Lib.RabinKarpLaws
import Derived.Laws.CopyOwn
import Derived.Deep.RegionLaw
import Derived.Test.YtmnkjekjknhhjaaGreatDoorNl

/-! Letters put together; the reference's Letter. -/
/-! Rows of items that are right, in plain words. -/
namespace Go.Proofs.YtmnkjekjknhhjaaGreatDoor
open Go.ChangeShapes Go.WideShapes Go.ChangeAt Go.RowKit

theorem itAt_get {s : List It} {k : Nat} (h : k < s.length) : itAt s k = s[k] := by simp [itAt, List.getD, h]
/-- Up to place k they are right, and rise. -/
def UpI (s : List It) (k : Nat) : Prop := ∀ j, j < k → rightIt (itAt s j) = true ∧ (0 < j → cmpI (itAt s (j - 1)) (itAt s j) < 0)
theorem upI_cons {x : It} {r : List It} : UpI (x :: r) (r.length + 1) ↔ rightIt x = true ∧ (0 < r.length → cmpI x (itAt r 0) < 0) ∧ UpI r r.length := by
  have e0 : itAt (x :: r) 0 = x := rfl
  have e1 : ∀ j, itAt (x :: r) (j + 1) = itAt r j := fun j => by simp [itAt, List.getD]
  constructor
  · intro h
    refine ⟨?_, fun hp => ?_, fun j hj => ?_⟩
    · have := (h 0 (by omega)).1
      rwa [e0] at this
    · have := (h 1 (by omega)).2 (by omega)
      rw [show (1 : Nat) - 1 = 0 from rfl, e0, show (1 : Nat) = 0 + 1 from rfl, e1] at this
      exact this
    · have := h (j + 1) (by omega)
      rw [e1] at this
      refine ⟨this.1, fun hp => ?_⟩
      have h2 := this.2 (by omega)
      obtain ⟨i, rfl⟩ : ∃ i, j = i + 1 := ⟨j - 1, by omega⟩
      rw [show i + 1 + 1 - 1 = i + 1 from rfl, e1] at h2
      exact h2
  · rintro ⟨h1, h2, h3⟩ j hj
    cases j with
    | zero => rw [e0]; exact ⟨h1, fun h => by omega⟩
    | succ j =>
      rw [e1]
      have := h3 j (by omega)
      refine ⟨this.1, fun _ => ?_⟩
      cases j with
      | zero => exact h2 (by omega)
      | succ i =>
        have h4 := this.2 (by omega)
        rw [show i + 1 + 1 - 1 = i + 1 from rfl, e1]
        exact h4
theorem rightsI_upTo : ∀ (s : List It), rightsI s = true ↔ UpI s s.length
  | [] => by simp [rightsI, UpI]
  | x :: r => by
    rw [List.length_cons, upI_cons, ← rightsI_upTo r]
    cases r with
    | nil => simp [rightsI]
    | cons y q =>
      have e : rightsI (x :: y :: q) = (rightIt x && decide (cmpI x y < 0) && rightsI (y :: q)) := rfl
      rw [e, Bool.and_eq_true, Bool.and_eq_true, decide_eq_true_eq]
      have e0 : itAt (y :: q) 0 = y := rfl
      rw [e0]
      constructor
      · rintro ⟨⟨h1, h2⟩, h3⟩; exact ⟨h1, fun _ => h2, h3⟩
      · rintro ⟨h1, h2, h3⟩; exact ⟨⟨h1, h2 (by simp)⟩, h3⟩
theorem rightItems_iff {s : List Lin} {l : List It} : rightItems s l = true ↔ rightS s = true ∧ (∀ i, i < l.length → 0 ≤ (itAt l i).j ∧ (itAt l i).j < (s.length : Int)) ∧ UpI l l.length := by
  unfold rightItems
  rw [Bool.and_eq_true, Bool.and_eq_true, rightsI_upTo, List.all_eq_true, and_assoc]
  have e : (∀ x ∈ l, (decide (0 ≤ x.j) && decide (x.j < (s.length : Int))) = true) ↔ ∀ i, i < l.length → 0 ≤ (itAt l i).j ∧ (itAt l i).j < (s.length : Int) := by
    constructor
    · intro h i hi
      have := h _ (List.getElem_mem hi)
      rw [itAt_get hi]
      simpa using this
    · intro h x hx
      obtain ⟨i, hi, rfl⟩ := List.getElem_of_mem hx
      have := h i hi
      rw [itAt_get hi] at this
      simpa using this
  rw [e]
end Go.Proofs.YtmnkjekjknhhjaaGreatDoor

/-! Letters put together; the reference's Letter. -/
namespace Go.Proofs.YtmnkjekjknhhjaaGreatDoor
open Go.ChangeShapes Go.WideShapes Go.ChangeAt Go.RowKit

theorem pack_snoc : ∀ (l : List Int) (b : Int), packN (l ++ [b]) = packN l + b % 2 * 2 ^ l.length
  | [], b => by rw [List.nil_append, packN_cons, packN_nil]; simp
  | x :: r, b => by
    have ih := pack_snoc r b
    rw [List.cons_append, packN_cons, ih, packN_cons, List.length_cons, Int.pow_succ, Int.mul_add, ← Int.mul_assoc]
    have e : 2 * (b % 2) * 2 ^ r.length = b % 2 * (2 ^ r.length * 2) := by rw [Int.mul_comm 2 (b % 2), Int.mul_assoc, Int.mul_comm 2]
    rw [e]
    omega
theorem pack_take {xs : List Int} {k : Nat} (hk : k < xs.length) : packN (xs.take (k + 1)) = packN (xs.take k) + xs.getD k 0 % 2 * 2 ^ k := by
  have e : (xs.take k).length = k := by rw [List.length_take]; omega
  rw [List.take_succ_eq_append_getElem hk, pack_snoc, e, getD_at hk]
theorem half_tab {xs : List Int} {n : Nat} (hn : xs.length = n) : tab n (fun j => if j < n then xs.getD j 0 / 2 else 0) = halfT xs := by
  subst hn
  refine ext_getD (by rw [tab_len, half_len]) (fun j hj => ?_)
  rw [tab_len] at hj
  rw [tab_at hj, if_pos hj, half_get]
theorem or_pack {x v : Int} {k : Nat} (hk : k ≤ 12) (h0 : 0 ≤ x) (h1 : x < 2 ^ k) (v0 : 0 ≤ v) (v1 : v ≤ 1152921504606846976) :
    bits .or .u64 x (IntKind.u64.wrap (IntKind.u64.wrap (bits .and .i64 v 1) * 2 ^ k)) = x + v % 2 * 2 ^ k := by
  obtain ⟨a, rfl⟩ : ∃ a : Nat, x = a := ⟨x.toNat, by omega⟩
  obtain ⟨b, rfl⟩ : ∃ b : Nat, v = b := ⟨v.toNat, by omega⟩
  have hp : (2 : Nat) ^ k ≤ 4096 := Nat.pow_le_pow_right (by omega) hk
  have ha : a < 2 ^ k := by
    have e : ((2 ^ k : Nat) : Int) = (2 : Int) ^ k := by simp
    omega
  have hb2 : b % 2 ≤ 1 := by omega
  have hm : b % 2 * 2 ^ k ≤ 1 * 4096 := Nat.mul_le_mul hb2 hp
  rw [Go.Proofs.and_one b (by omega)]
  have e1 : IntKind.u64.wrap ((b % 2 : Nat) : Int) = ((b % 2 : Nat) : Int) := by rw [IntKind.wrap_u64]; omega
  have e2 : ((b % 2 : Nat) : Int) * 2 ^ k = ((b % 2 * 2 ^ k : Nat) : Int) := by simp
  have e3 : IntKind.u64.wrap ((b % 2 * 2 ^ k : Nat) : Int) = ((b % 2 * 2 ^ k : Nat) : Int) := by rw [IntKind.wrap_u64]; omega
  rw [e1, e2, e3, bits_or_u64_nat a _ (by omega) (by omega)]
  have e4 : a ||| b % 2 * 2 ^ k = b % 2 * 2 ^ k + a := by
    rw [Nat.or_comm, ← Nat.shiftLeft_eq, Nat.shiftLeft_add_eq_or_of_lt ha]
  rw [e4]
  have e5 : ((b : Int) % 2) = ((b % 2 : Nat) : Int) := by omega
  rw [e5, e2]
  omega
theorem digit_len (w : List Int) (d : Nat) : (digitL w d).length = w.length := by unfold digitL; rw [List.length_map]
theorem digit_get (w : List Int) (d t : Nat) : (digitL w d).getD t 0 = w.getD t 0 / 2 ^ d := by
  unfold digitL
  rw [List.getD_eq_getElem?_getD, List.getD_eq_getElem?_getD, List.getElem?_map]
  cases w[t]? with
  | none => simp
  | some v => rfl
theorem div_bound {v : Int} {d : Nat} (v0 : 0 ≤ v) (v1 : v ≤ 1152921504606846976) : 0 ≤ v / 2 ^ d ∧ v / 2 ^ d ≤ 1152921504606846976 := by
  have hp : (0 : Int) < 2 ^ d := Int.pow_pos (by omega)
  have h1 := Int.ediv_nonneg v0 (Int.le_of_lt hp)
  have h2 := Int.ediv_le_self (2 ^ d) v0
  omega
theorem its_set {w w' : World} {a a' b : Option Addr} {c c' d : Nat} {ls : List Ib} {x : It} (h : Ibs w a c ls) (hx : Bag w b d x.c) (k : Kept (fun g => a = some ⟨g, 0, none⟩) w w') (p : Nat)
    (r : RowI w' a' c' (ls.length + 1) (iflat (ls.take p ++ ⟨b, d, x⟩ :: ls.drop p))) : Its w' a' c' ((its ls).take p ++ x :: (its ls).drop p) := by
  have hl : (ls.take p ++ (⟨b, d, x⟩ : Ib) :: ls.drop p).length = ls.length + 1 := by
    rw [List.length_append, List.length_cons, List.length_take, List.length_drop]; omega
  refine ⟨ls.take p ++ ⟨b, d, x⟩ :: ls.drop p, by simp [its], by rw [hl]; exact r, ?_⟩
  have hap : ∀ (b : Option Addr) (d : Nat) (xs : List Int), Bag w b d xs → Bag w' b d xs := by
    intro b d xs hb
    refine hb.kept k (fun g e e2 => ?_)
    rcases h.row.2 with ⟨h1, _⟩ | ⟨g', sp, h1, _, _, _, l⟩
    · rw [h1] at e2; cases e2
    · rw [h1] at e2; injection e2 with e2; injection e2 with e2; subst e2
      rcases hb with ⟨h2, _⟩ | ⟨g2, sp2, h2, _, _, l2⟩
      · rw [h2] at e; cases e
      · rw [h2] at e; injection e with e; injection e with e; subst e
        exact l.other l2 (by decide) rfl
  intro l hl
  rcases List.mem_append.1 hl with hl | hl
  · exact hap _ _ _ (h.each l (List.mem_of_mem_take hl))
  · rcases List.mem_cons.1 hl with rfl | hl
    · exact hap _ _ _ hx
    · exact hap _ _ _ (h.each l (List.mem_of_mem_drop hl))
end Go.Proofs.YtmnkjekjknhhjaaGreatDoor

/-! The reference's SameItems, lessItem, RightItems. -/
namespace Go.Proofs.YtmnkjekjknhhjaaGreatDoor
open Go.ChangeShapes Go.WideShapes Go.ChangeAt Go.RowKit
end Go.Proofs.YtmnkjekjknhhjaaGreatDoor

/-! The reference's putItem. -/
/-! The reference's halved, chosen. -/
namespace Go.Proofs.YtmnkjekjknhhjaaGreatDoor
open Go.ChangeShapes Go.WideShapes Go.ChangeAt Go.RowKit

end Go.Proofs.YtmnkjekjknhhjaaGreatDoor

/-! The reference's putItem. -/
namespace Go.Proofs.YtmnkjekjknhhjaaGreatDoor
open Go.ChangeShapes Go.WideShapes Go.ChangeAt Go.RowKit
end Go.Proofs.YtmnkjekjknhhjaaGreatDoor

/-! The reference's Final, Start. -/
/-! Items and meters in memory; what one item comes to. -/
namespace Go.Proofs.YtmnkjekjknhhjaaGreatDoor
open Go.ChangeShapes Go.WideShapes Go.ChangeAt Go.RowKit

theorem Its.kept {X : Nat → Prop} {w w' : World} {a : Option Addr} {c : Nat} {s : List It} (h : Its w a c s) (k : Kept X w w') (h1 : ∀ g cs, Lies w g 111 cs → ¬ X g) (h2 : ∀ g cs, Lies w g 3 cs → ¬ X g) : Its w' a c s := by
  obtain ⟨ls, e, h⟩ := h
  refine ⟨ls, e, h.row.kept k (fun g e => ?_), fun l hl => (h.each l hl).kept k (fun g e => ?_)⟩
  · rcases h.row.2 with ⟨h3, _⟩ | ⟨g', sp, h3, _, _, _, l⟩
    · rw [h3] at e; cases e
    · rw [h3] at e; injection e with e; injection e with e; subst e
      exact h1 _ _ l
  · rcases h.each l hl with ⟨h3, _⟩ | ⟨g', sp, h3, _, _, l⟩
    · rw [h3] at e; cases e
    · rw [h3] at e; injection e with e; injection e with e; subst e
      exact h2 _ _ l
theorem Its.mk {w w' : World} {T : TypeId} {mp : Option Addr} {M : Mr} (h : MrAt w T mp M) (h1 : T ≠ 111) (h2 : T ≠ 3) (k : MK mp w w') {a : Option Addr} {c : Nat} {s : List It} (r : Its w a c s) : Its w' a c s := by
  have hap : ∀ (t : TypeId) (g : Nat) (cs : List Value), t ≠ T → Lies w g t cs → mp ≠ some ⟨g, 0, none⟩ := fun t g cs ht l e => by
    rcases h.form with h | ⟨b, h, cs', l'⟩
    · rw [h] at e; cases e
    · rw [h] at e; injection e with e; injection e with e; subst e
      exact l.other l' ht rfl
  exact r.kept k (fun g cs l e => hap _ g cs (Ne.symm h1) l e) (fun g cs l e => hap _ g cs (Ne.symm h2) l e)
theorem MrAt.kept {X : Nat → Prop} {w w' : World} {T : TypeId} {mp : Option Addr} {M : Mr} (h : MrAt w T mp M) (k : Kept X w w') (hx : ∀ g, mp = some ⟨g, 0, none⟩ → ¬ X g) : MrAt w' T mp M := by
  cases M with
  | none => exact h
  | some p =>
    obtain ⟨B, S, o⟩ := p
    obtain ⟨b, e, a, r⟩ := h
    exact ⟨b, e, Lies.kept a k (hx b e), r⟩
theorem MrAt.lt {w : World} {T : TypeId} {mp : Option Addr} {M : Mr} (h : MrAt w T mp M) {g : Nat} (e : mp = some ⟨g, 0, none⟩) : g < w.heap.size := by
  rcases h.form with h | ⟨b, h, cs, l⟩
  · rw [h] at e; cases e
  · rw [h] at e; injection e with e; injection e with e; subst e
    exact l.lt
theorem its_apart {W : World} {oa : Option Addr} {oc : Nat} {O : List It} (h : Its W oa oc O) {t : TypeId} {cs : List Value} {g : Nat} (l : Lies W g t cs) (ht : t ≠ 111) : oa ≠ some ⟨g, 0, none⟩ := by
  intro e
  obtain ⟨ls, _, h⟩ := h
  rcases h.row.2 with ⟨h3, _⟩ | ⟨g', sp, h3, _, _, _, l'⟩
  · rw [h3] at e; cases e
  · rw [h3] at e; injection e with e; injection e with e; subst e
    exact l.other l' ht rfl
theorem bag_put {W W' : World} {oa : Option Addr} {oc : Nat} {O : List It} (h : Its W oa oc O) (k : Kept (fun g => oa = some ⟨g, 0, none⟩) W W') {a : Option Addr} {c : Nat} {xs : List Int} (r : Bag W a c xs) : Bag W' a c xs := by
  refine r.kept k (fun g e => ?_)
  rcases r with ⟨h3, _⟩ | ⟨g', sp, h3, _, _, l⟩
  · rw [h3] at e; cases e
  · rw [h3] at e; injection e with e; injection e with e; subst e
    exact its_apart h l (by decide)
theorem bags_put {W W' : World} {oa : Option Addr} {oc : Nat} {O : List It} (h : Its W oa oc O) (k : Kept (fun g => oa = some ⟨g, 0, none⟩) W W') {a : Option Addr} {c : Nat} {xs : List (List Int)} (r : Bags W a c xs) : Bags W' a c xs := by
  obtain ⟨ps, e, Q⟩ := r
  refine ⟨ps, e, Q.row.kept k (fun g e => ?_), fun p hp => bag_put h k (Q.each p hp)⟩
  rcases Q.row with ⟨h3, _⟩ | ⟨g', sp, h3, _, _, l⟩
  · rw [h3] at e; cases e
  · rw [h3] at e; injection e with e; injection e with e; subst e
    exact its_apart h l (by decide)
/-- The choices that items have. -/
def costI (s : List Lin) (l : List It) : Nat := (l.map (fun x => 2 ^ (linAt s x.j.toNat).ps.length)).sum
theorem costI_cons (s : List Lin) (x : It) (r : List It) : costI s (x :: r) = 2 ^ (linAt s x.j.toNat).ps.length + costI s r := rfl
theorem drop_itAt {l : List It} {k : Nat} (hk : k < l.length) : l.drop k = itAt l k :: l.drop (k + 1) := by
  rw [itAt_get hk, List.drop_eq_getElem_cons hk]
theorem itGo_20 {s : List Lin} {letter : Int} {x : It} {r : List It} {M : Mr} {O : List It} (h : 20 < (linAt s x.j.toNat).ps.length) : itGo s letter (x :: r) M O = ([], 3, M) := by
  rw [itGo, if_pos h]
theorem itGo_7 {s : List Lin} {letter : Int} {x : It} {r : List It} {M : Mr} {O : List It} (h : ¬ 20 < (linAt s x.j.toNat).ps.length) {p : Bool × Mr} (e : spendM M ((2 ^ (linAt s x.j.toNat).ps.length : Nat) : Int) = p) (hp : p.1 = false) : itGo s letter (x :: r) M O = ([], 7, p.2) := by
  rw [itGo, if_neg h, e, hp]; rfl
theorem itGo_3 {s : List Lin} {letter : Int} {x : It} {r : List It} {M : Mr} {O : List It} (h : ¬ 20 < (linAt s x.j.toNat).ps.length) {p : Bool × Mr} (e : spendM M ((2 ^ (linAt s x.j.toNat).ps.length : Nat) : Int) = p) (hp : p.1 = true) (hc : maskF x (linAt s x.j.toNat).ps letter (2 ^ (linAt s x.j.toNat).ps.length) 0 O = none) : itGo s letter (x :: r) M O = ([], 3, p.2) := by
  rw [itGo, if_neg h, e, hp, if_pos rfl, hc]
theorem itGo_0 {s : List Lin} {letter : Int} {x : It} {r : List It} {M : Mr} {O O' : List It} (h : ¬ 20 < (linAt s x.j.toNat).ps.length) {p : Bool × Mr} (e : spendM M ((2 ^ (linAt s x.j.toNat).ps.length : Nat) : Int) = p) (hp : p.1 = true) (hc : maskF x (linAt s x.j.toNat).ps letter (2 ^ (linAt s x.j.toNat).ps.length) 0 O = some O') : itGo s letter (x :: r) M O = itGo s letter r p.2 O' := by
  rw [itGo, if_neg h, e, hp, if_pos rfl, hc]
end Go.Proofs.YtmnkjekjknhhjaaGreatDoor

/-! The reference's Final, Start. -/
namespace Go.Proofs.YtmnkjekjknhhjaaGreatDoor
open Go.ChangeShapes Go.WideShapes Go.ChangeAt Go.RowKit

/-- What a call that makes items comes to. -/
def MakesI (s : List It) (w : World) (e : Ending) (w' : World) : Prop := ∃ a c, e = .returned (.slice a s.length c) ∧ Its w' a c s ∧ From w.heap.size a ∧ Below w.heap.size w w'
theorem its_push {w w' : World} {a b : Option Addr} {c d : Nat} {s : List It} {x : It} {ls : List Ib} (hs : its ls = s) (h : Ibs w a c ls) (hx : Bag w b d x.c) {n u : Nat} (hn : s.length = n) (hu : x.c.length = u) {v : Value}
    (r : AppendsI a n 1 (iflat ls) [.int .i64 x.j, .slice b u d] w v w') : ∃ a' c', v = .slice a' (n + 1) c' ∧ Its w' a' c' (s ++ [x]) ∧ ∀ B, B ≤ w.heap.size → From B a → From B a' ∧ Below B w w' := by
  subst hn hu hs
  have hb := fun (B : Nat) (hB : B ≤ w.heap.size) (hf : From B a) => r.below hB hf
  obtain ⟨a', c', rfl, R, k, f⟩ := r
  refine ⟨a', c', rfl, ?_, fun B hB hf => ?_⟩
  · have h2 := its_set h hx k ls.length (a' := a') (c' := c') (by
      rw [List.take_length, List.drop_length, iflat_app]
      rw [its_len] at R
      exact R)
    have e1 : (its ls).take ls.length = its ls := List.take_of_length_le (by rw [its_len]; exact Nat.le_refl _)
    have e2 : (its ls).drop ls.length = [] := List.drop_eq_nil_of_le (by rw [its_len]; exact Nat.le_refl _)
    rw [e1, e2] at h2
    exact h2
  · have h3 := hb B hB hf
    exact ⟨h3.2 a' _ c' rfl, h3.1⟩
/-- The first k of the items that begin. -/
def startK (s : List Lin) (k : Nat) : List It := (List.range k).map (fun j : Nat => (⟨(j : Int), (linAt s j).base⟩ : It))
theorem startK_len (s : List Lin) (k : Nat) : (startK s k).length = k := by unfold startK; rw [List.length_map, List.length_range]
theorem startK_succ (s : List Lin) (k : Nat) : startK s (k + 1) = startK s k ++ [⟨(k : Int), (linAt s k).base⟩] := by
  unfold startK
  rw [List.range_succ, List.map_append]; rfl
end Go.Proofs.YtmnkjekjknhhjaaGreatDoor

/-! The reference's Next. -/
namespace Go.Proofs.YtmnkjekjknhhjaaGreatDoor
open Go.ChangeShapes Go.WideShapes Go.ChangeAt Go.RowKit

/-- Where Next's work stands: only the meter has turned beside what is new; the items so far. -/
structure NxSt (w : World) (mp : Option Addr) (M : Mr) (oa : Option Addr) (oc : Nat) (O : List It) (W : World) : Prop where
  kept : MK mp w W
  old : ∀ g, mp = some ⟨g, 0, none⟩ → g < w.heap.size
  meter : MrAt W 41 mp M
  out : Its W oa oc O
  rise : RiseI O
  fresh : From w.heap.size oa
section
variable {w W W' : World} {mp oa : Option Addr} {M : Mr} {oc : Nat} {O : List It}
theorem NxSt.zero (h : MrAt w 41 mp M) (b : Below w.heap.size w W) : NxSt w mp M none 0 [] W :=
  ⟨Kept.of_below b, fun g e => h.lt e, h.below b, Its.nil _, ⟨fun x hx => (by cases hx), List.Pairwise.nil⟩, From.none _⟩
theorem NxSt.below (h : NxSt w mp M oa oc O W) (b : Below W.heap.size W W') : NxSt w mp M oa oc O W' :=
  ⟨h.kept.then b, h.old, h.meter.below b, h.out.below b, h.rise, h.fresh⟩
theorem NxSt.spent {M' : Mr} (h : NxSt w mp M oa oc O W) (m : MrAt W' 41 mp M') (k : MK mp W W') : NxSt w mp M' oa oc O W' :=
  ⟨h.kept.and k, h.old, m, h.out.mk h.meter (by decide) (by decide) k, h.rise, h.fresh⟩
theorem NxSt.put (h : NxSt w mp M oa oc O W) {z : It} (hz : rightIt z = true) {a' : Option Addr} {c' : Nat} (r : Its W' a' c' (putI z O)) (k : Kept (fun g => oa = some ⟨g, 0, none⟩) W W') (f : ∀ g, a' = some ⟨g, 0, none⟩ → oa = some ⟨g, 0, none⟩ ∨ W.heap.size ≤ g) : NxSt w mp M a' c' (putI z O) W' := by
  have hs := h.kept.size
  refine ⟨h.kept.trans k (fun i hi e => ?_), h.old, h.meter.kept k (fun g e e2 => ?_), r, putI_rise hz h.rise, fun g e => ?_⟩
  · have := h.fresh i e
    omega
  · have := h.fresh g e2
    have := h.old g e
    omega
  · rcases f g e with h2 | h2
    · exact h.fresh g h2
    · omega
theorem NxSt.lins (h : NxSt w mp M oa oc O W) {M0 : Mr} (m : MrAt w 41 mp M0) {a : Option Addr} {c : Nat} {s : List Lin} (r : Lins w a c s) : Lins W a c s := r.mk m (by unfold MT; decide) h.kept
theorem NxSt.its (h : NxSt w mp M oa oc O W) {M0 : Mr} (m : MrAt w 41 mp M0) {a : Option Addr} {c : Nat} {s : List It} (r : Its w a c s) : Its W a c s := r.mk m (by decide) (by decide) h.kept
end
end Go.Proofs.YtmnkjekjknhhjaaGreatDoor

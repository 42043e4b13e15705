import Derived.Test.YtmefmnpmppdpmabDoorTe
import Derived.Test.YtmefmnpmppdpmabDoorMc
import Derived.Deep.RegionHeld3
import Derived.Deep.CutBlock
import Derived.Deep.DeepCutAuto
import Derived.Deep.CutRange
import Derived.Laws.Bits64b
import Derived.Laws.Shifts
import Derived.Lib.RabinKarpLaws
import Derived.Laws.CopyOwn
import Derived.Deep.RegionLaw
import Derived.Test.YtmefmnpmppdpmabDoorG
import Derived.Test.YtmefmnpmppdpmabDoorHa
import Derived.Test.YtmefmnpmppdpmabDoorDe
import Derived.Test.YtmefmnpmppdpmabDoorNf
import Derived.Test.YtmefmnpmppdpmabDoorZm
/- Letters put together; the reference's Letter. -/

/-! Rows of items that are right, in plain words. -/
namespace Go.Proofs.YtmefmnpmppdpmabDoor
open Go.ChangeShapes Go.WideShapes Go.ChangeAt Go.RowKit

theorem itAt_get {s : List It} {k : Nat} (h : k < s.length) : itAt s k = s[k] := by simp [itAt, List.getD, h]
/-- Up to place k they are right, and rise. -/
def UpI (s : List It) (k : Nat) : Prop := ∀ j, j < k → rightIt (itAt s j) = true ∧ (0 < j → cmpI (itAt s (j - 1)) (itAt s j) < 0)
theorem upI_cons {x : It} {r : List It} : UpI (x :: r) (r.length + 1) ↔ rightIt x = true ∧ (0 < r.length → cmpI x (itAt r 0) < 0) ∧ UpI r r.length := by
  have e0 : itAt (x :: r) 0 = x := rfl
  have e1 : ∀ j, itAt (x :: r) (j + 1) = itAt r j := fun j => by simp [itAt, List.getD]
  constructor
  · intro h
    refine ⟨?_, fun hp => ?_, fun j hj => ?_⟩
    · have := (h 0 (by omega)).1
      rwa [e0] at this
    · have := (h 1 (by omega)).2 (by omega)
      rw [show (1 : Nat) - 1 = 0 from rfl, e0, show (1 : Nat) = 0 + 1 from rfl, e1] at this
      exact this
    · have := h (j + 1) (by omega)
      rw [e1] at this
      refine ⟨this.1, fun hp => ?_⟩
      have h2 := this.2 (by omega)
      obtain ⟨i, rfl⟩ : ∃ i, j = i + 1 := ⟨j - 1, by omega⟩
      rw [show i + 1 + 1 - 1 = i + 1 from rfl, e1] at h2
      exact h2
  · rintro ⟨h1, h2, h3⟩ j hj
    cases j with
    | zero => rw [e0]; exact ⟨h1, fun h => by omega⟩
    | succ j =>
      rw [e1]
      have := h3 j (by omega)
      refine ⟨this.1, fun _ => ?_⟩
      cases j with
      | zero => exact h2 (by omega)
      | succ i =>
        have h4 := this.2 (by omega)
        rw [show i + 1 + 1 - 1 = i + 1 from rfl, e1]
        exact h4
theorem rightsI_upTo : ∀ (s : List It), rightsI s = true ↔ UpI s s.length
  | [] => by simp [rightsI, UpI]
  | x :: r => by
    rw [List.length_cons, upI_cons, ← rightsI_upTo r]
    cases r with
    | nil => simp [rightsI]
    | cons y q =>
      have e : rightsI (x :: y :: q) = (rightIt x && decide (cmpI x y < 0) && rightsI (y :: q)) := rfl
      rw [e, Bool.and_eq_true, Bool.and_eq_true, decide_eq_true_eq]
      have e0 : itAt (y :: q) 0 = y := rfl
      rw [e0]
      constructor
      · rintro ⟨⟨h1, h2⟩, h3⟩; exact ⟨h1, fun _ => h2, h3⟩
      · rintro ⟨h1, h2, h3⟩; exact ⟨⟨h1, h2 (by simp)⟩, h3⟩
theorem rightItems_iff {s : List Lin} {l : List It} : rightItems s l = true ↔ rightS s = true ∧ (∀ i, i < l.length → 0 ≤ (itAt l i).j ∧ (itAt l i).j < (s.length : Int)) ∧ UpI l l.length := by
  unfold rightItems
  rw [Bool.and_eq_true, Bool.and_eq_true, rightsI_upTo, List.all_eq_true, and_assoc]
  have e : (∀ x ∈ l, (decide (0 ≤ x.j) && decide (x.j < (s.length : Int))) = true) ↔ ∀ i, i < l.length → 0 ≤ (itAt l i).j ∧ (itAt l i).j < (s.length : Int) := by
    constructor
    · intro h i hi
      have := h _ (List.getElem_mem hi)
      rw [itAt_get hi]
      simpa using this
    · intro h x hx
      obtain ⟨i, hi, rfl⟩ := List.getElem_of_mem hx
      have := h i hi
      rw [itAt_get hi] at this
      simpa using this
  rw [e]
end Go.Proofs.YtmefmnpmppdpmabDoor

/-! Letters put together; the reference's Letter. -/
namespace Go.Proofs.YtmefmnpmppdpmabDoor
open Go.ChangeShapes Go.WideShapes Go.ChangeAt Go.RowKit

theorem pack_snoc : ∀ (l : List Int) (b : Int), packN (l ++ [b]) = packN l + b % 2 * 2 ^ l.length
  | [], b => by rw [List.nil_append, packN_cons, packN_nil]; simp
  | x :: r, b => by
    have ih := pack_snoc r b
    rw [List.cons_append, packN_cons, ih, packN_cons, List.length_cons, Int.pow_succ, Int.mul_add, ← Int.mul_assoc]
    have e : 2 * (b % 2) * 2 ^ r.length = b % 2 * (2 ^ r.length * 2) := by rw [Int.mul_comm 2 (b % 2), Int.mul_assoc, Int.mul_comm 2]
    rw [e]
    omega
theorem pack_take {xs : List Int} {k : Nat} (hk : k < xs.length) : packN (xs.take (k + 1)) = packN (xs.take k) + xs.getD k 0 % 2 * 2 ^ k := by
  have e : (xs.take k).length = k := by rw [List.length_take]; omega
  rw [List.take_succ_eq_append_getElem hk, pack_snoc, e, getD_at hk]
theorem half_tab {xs : List Int} {n : Nat} (hn : xs.length = n) : tab n (fun j => if j < n then xs.getD j 0 / 2 else 0) = halfT xs := by
  subst hn
  refine ext_getD (by rw [tab_len, half_len]) (fun j hj => ?_)
  rw [tab_len] at hj
  rw [tab_at hj, if_pos hj, half_get]
theorem or_pack {x v : Int} {k : Nat} (hk : k ≤ 12) (h0 : 0 ≤ x) (h1 : x < 2 ^ k) (v0 : 0 ≤ v) (v1 : v ≤ 1152921504606846976) :
    bits .or .u64 x (IntKind.u64.wrap (IntKind.u64.wrap (bits .and .i64 v 1) * 2 ^ k)) = x + v % 2 * 2 ^ k := by
  obtain ⟨a, rfl⟩ : ∃ a : Nat, x = a := ⟨x.toNat, by omega⟩
  obtain ⟨b, rfl⟩ : ∃ b : Nat, v = b := ⟨v.toNat, by omega⟩
  have hp : (2 : Nat) ^ k ≤ 4096 := Nat.pow_le_pow_right (by omega) hk
  have ha : a < 2 ^ k := by
    have e : ((2 ^ k : Nat) : Int) = (2 : Int) ^ k := by simp
    omega
  have hb2 : b % 2 ≤ 1 := by omega
  have hm : b % 2 * 2 ^ k ≤ 1 * 4096 := Nat.mul_le_mul hb2 hp
  rw [Go.Proofs.and_one b (by omega)]
  have e1 : IntKind.u64.wrap ((b % 2 : Nat) : Int) = ((b % 2 : Nat) : Int) := by rw [IntKind.wrap_u64]; omega
  have e2 : ((b % 2 : Nat) : Int) * 2 ^ k = ((b % 2 * 2 ^ k : Nat) : Int) := by simp
  have e3 : IntKind.u64.wrap ((b % 2 * 2 ^ k : Nat) : Int) = ((b % 2 * 2 ^ k : Nat) : Int) := by rw [IntKind.wrap_u64]; omega
  rw [e1, e2, e3, bits_or_u64_nat a _ (by omega) (by omega)]
  have e4 : a ||| b % 2 * 2 ^ k = b % 2 * 2 ^ k + a := by
    rw [Nat.or_comm, ← Nat.shiftLeft_eq, Nat.shiftLeft_add_eq_or_of_lt ha]
  rw [e4]
  have e5 : ((b : Int) % 2) = ((b % 2 : Nat) : Int) := by omega
  rw [e5, e2]
  omega
theorem digit_len (w : List Int) (d : Nat) : (digitL w d).length = w.length := by unfold digitL; rw [List.length_map]
theorem digit_get (w : List Int) (d t : Nat) : (digitL w d).getD t 0 = w.getD t 0 / 2 ^ d := by
  unfold digitL
  rw [List.getD_eq_getElem?_getD, List.getD_eq_getElem?_getD, List.getElem?_map]
  cases w[t]? with
  | none => simp
  | some v => rfl
theorem div_bound {v : Int} {d : Nat} (v0 : 0 ≤ v) (v1 : v ≤ 1152921504606846976) : 0 ≤ v / 2 ^ d ∧ v / 2 ^ d ≤ 1152921504606846976 := by
  have hp : (0 : Int) < 2 ^ d := Int.pow_pos (by omega)
  have h1 := Int.ediv_nonneg v0 (Int.le_of_lt hp)
  have h2 := Int.ediv_le_self (2 ^ d) v0
  omega
theorem its_set {w w' : World} {a a' b : Option Addr} {c c' d : Nat} {ls : List Ib} {x : It} (h : Ibs w a c ls) (hx : Bag w b d x.c) (k : Kept (fun g => a = some ⟨g, 0, none⟩) w w') (p : Nat)
    (r : RowI w' a' c' (ls.length + 1) (iflat (ls.take p ++ ⟨b, d, x⟩ :: ls.drop p))) : Its w' a' c' ((its ls).take p ++ x :: (its ls).drop p) := by
  have hl : (ls.take p ++ (⟨b, d, x⟩ : Ib) :: ls.drop p).length = ls.length + 1 := by
    rw [List.length_append, List.length_cons, List.length_take, List.length_drop]; omega
  refine ⟨ls.take p ++ ⟨b, d, x⟩ :: ls.drop p, by simp [its], by rw [hl]; exact r, ?_⟩
  have hap : ∀ (b : Option Addr) (d : Nat) (xs : List Int), Bag w b d xs → Bag w' b d xs := by
    intro b d xs hb
    refine hb.kept k (fun g e e2 => ?_)
    rcases h.row.2 with ⟨h1, _⟩ | ⟨g', sp, h1, _, _, _, l⟩
    · rw [h1] at e2; cases e2
    · rw [h1] at e2; injection e2 with e2; injection e2 with e2; subst e2
      rcases hb with ⟨h2, _⟩ | ⟨g2, sp2, h2, _, _, l2⟩
      · rw [h2] at e; cases e
      · rw [h2] at e; injection e with e; injection e with e; subst e
        exact l.other l2 (by decide) rfl
  intro l hl
  rcases List.mem_append.1 hl with hl | hl
  · exact hap _ _ _ (h.each l (List.mem_of_mem_take hl))
  · rcases List.mem_cons.1 hl with rfl | hl
    · exact hap _ _ _ hx
    · exact hap _ _ _ (h.each l (List.mem_of_mem_drop hl))
end Go.Proofs.YtmefmnpmppdpmabDoor
/- The reference's SameItems, lessItem, RightItems. -/
namespace Go.Proofs.YtmefmnpmppdpmabDoor
open Go.ChangeShapes Go.WideShapes Go.ChangeAt Go.RowKit
end Go.Proofs.YtmefmnpmppdpmabDoor
/- The reference's putItem. -/

/-! The reference's halved, chosen. -/
namespace Go.Proofs.YtmefmnpmppdpmabDoor
open Go.ChangeShapes Go.WideShapes Go.ChangeAt Go.RowKit

end Go.Proofs.YtmefmnpmppdpmabDoor

/-! The reference's putItem. -/
namespace Go.Proofs.YtmefmnpmppdpmabDoor
open Go.ChangeShapes Go.WideShapes Go.ChangeAt Go.RowKit
end Go.Proofs.YtmefmnpmppdpmabDoor
/- Contract of the reference's AddBag. -/
namespace Go.Proofs.YtmefmnpmppdpmabDoor
open Go.ChangeShapes Go.WideShapes Go.ChangeAt Go.RowKit

end Go.Proofs.YtmefmnpmppdpmabDoor
/- The reference's CatLin. -/
namespace Go.Proofs.YtmefmnpmppdpmabDoor
open Go.ChangeShapes Go.WideShapes Go.ChangeAt Go.RowKit

end Go.Proofs.YtmefmnpmppdpmabDoor
/- The reference's One, Union, Star, Pow. -/

/-! The reference's Cat of semilinear sets. -/
namespace Go.Proofs.YtmefmnpmppdpmabDoor
open Go.ChangeShapes Go.WideShapes Go.ChangeAt Go.RowKit

end Go.Proofs.YtmefmnpmppdpmabDoor

/-! The reference's One, Union, Star, Pow. -/
namespace Go.Proofs.YtmefmnpmppdpmabDoor
open Go.ChangeShapes Go.WideShapes Go.ChangeAt Go.RowKit

end Go.Proofs.YtmefmnpmppdpmabDoor

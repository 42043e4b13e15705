import Derived.Test.YtmefmnpmppdpmabDoorNl
import Derived.Test.YtmefmnpmppdpmabDoorC
/- The reference's Final, Start. -/

/-! Items and meters in memory; what one item comes to. -/
namespace Go.Proofs.YtmefmnpmppdpmabDoor
open Go.ChangeShapes Go.WideShapes Go.ChangeAt Go.RowKit

theorem Its.kept {X : Nat → Prop} {w w' : World} {a : Option Addr} {c : Nat} {s : List It} (h : Its w a c s) (k : Kept X w w') (h1 : ∀ g cs, Lies w g 65 cs → ¬ X g) (h2 : ∀ g cs, Lies w g 3 cs → ¬ X g) : Its w' a c s := by
  obtain ⟨ls, e, h⟩ := h
  refine ⟨ls, e, h.row.kept k (fun g e => ?_), fun l hl => (h.each l hl).kept k (fun g e => ?_)⟩
  · rcases h.row.2 with ⟨h3, _⟩ | ⟨g', sp, h3, _, _, _, l⟩
    · rw [h3] at e; cases e
    · rw [h3] at e; injection e with e; injection e with e; subst e
      exact h1 _ _ l
  · rcases h.each l hl with ⟨h3, _⟩ | ⟨g', sp, h3, _, _, l⟩
    · rw [h3] at e; cases e
    · rw [h3] at e; injection e with e; injection e with e; subst e
      exact h2 _ _ l
theorem Its.mk {w w' : World} {T : TypeId} {mp : Option Addr} {M : Mr} (h : MrAt w T mp M) (h1 : T ≠ 65) (h2 : T ≠ 3) (k : MK mp w w') {a : Option Addr} {c : Nat} {s : List It} (r : Its w a c s) : Its w' a c s := by
  have hap : ∀ (t : TypeId) (g : Nat) (cs : List Value), t ≠ T → Lies w g t cs → mp ≠ some ⟨g, 0, none⟩ := fun t g cs ht l e => by
    rcases h.form with h | ⟨b, h, cs', l'⟩
    · rw [h] at e; cases e
    · rw [h] at e; injection e with e; injection e with e; subst e
      exact l.other l' ht rfl
  exact r.kept k (fun g cs l e => hap _ g cs (Ne.symm h1) l e) (fun g cs l e => hap _ g cs (Ne.symm h2) l e)
theorem MrAt.kept {X : Nat → Prop} {w w' : World} {T : TypeId} {mp : Option Addr} {M : Mr} (h : MrAt w T mp M) (k : Kept X w w') (hx : ∀ g, mp = some ⟨g, 0, none⟩ → ¬ X g) : MrAt w' T mp M := by
  cases M with
  | none => exact h
  | some p =>
    obtain ⟨B, S, o⟩ := p
    obtain ⟨b, e, a, r⟩ := h
    exact ⟨b, e, Lies.kept a k (hx b e), r⟩
theorem MrAt.lt {w : World} {T : TypeId} {mp : Option Addr} {M : Mr} (h : MrAt w T mp M) {g : Nat} (e : mp = some ⟨g, 0, none⟩) : g < w.heap.size := by
  rcases h.form with h | ⟨b, h, cs, l⟩
  · rw [h] at e; cases e
  · rw [h] at e; injection e with e; injection e with e; subst e
    exact l.lt
theorem its_apart {W : World} {oa : Option Addr} {oc : Nat} {O : List It} (h : Its W oa oc O) {t : TypeId} {cs : List Value} {g : Nat} (l : Lies W g t cs) (ht : t ≠ 65) : oa ≠ some ⟨g, 0, none⟩ := by
  intro e
  obtain ⟨ls, _, h⟩ := h
  rcases h.row.2 with ⟨h3, _⟩ | ⟨g', sp, h3, _, _, _, l'⟩
  · rw [h3] at e; cases e
  · rw [h3] at e; injection e with e; injection e with e; subst e
    exact l.other l' ht rfl
theorem bag_put {W W' : World} {oa : Option Addr} {oc : Nat} {O : List It} (h : Its W oa oc O) (k : Kept (fun g => oa = some ⟨g, 0, none⟩) W W') {a : Option Addr} {c : Nat} {xs : List Int} (r : Bag W a c xs) : Bag W' a c xs := by
  refine r.kept k (fun g e => ?_)
  rcases r with ⟨h3, _⟩ | ⟨g', sp, h3, _, _, l⟩
  · rw [h3] at e; cases e
  · rw [h3] at e; injection e with e; injection e with e; subst e
    exact its_apart h l (by decide)
theorem bags_put {W W' : World} {oa : Option Addr} {oc : Nat} {O : List It} (h : Its W oa oc O) (k : Kept (fun g => oa = some ⟨g, 0, none⟩) W W') {a : Option Addr} {c : Nat} {xs : List (List Int)} (r : Bags W a c xs) : Bags W' a c xs := by
  obtain ⟨ps, e, Q⟩ := r
  refine ⟨ps, e, Q.row.kept k (fun g e => ?_), fun p hp => bag_put h k (Q.each p hp)⟩
  rcases Q.row with ⟨h3, _⟩ | ⟨g', sp, h3, _, _, l⟩
  · rw [h3] at e; cases e
  · rw [h3] at e; injection e with e; injection e with e; subst e
    exact its_apart h l (by decide)
/-- The choices that items have. -/
def costI (s : List Lin) (l : List It) : Nat := (l.map (fun x => 2 ^ (linAt s x.j.toNat).ps.length)).sum
theorem costI_cons (s : List Lin) (x : It) (r : List It) : costI s (x :: r) = 2 ^ (linAt s x.j.toNat).ps.length + costI s r := rfl
theorem drop_itAt {l : List It} {k : Nat} (hk : k < l.length) : l.drop k = itAt l k :: l.drop (k + 1) := by
  rw [itAt_get hk, List.drop_eq_getElem_cons hk]
theorem itGo_20 {s : List Lin} {letter : Int} {x : It} {r : List It} {M : Mr} {O : List It} (h : 20 < (linAt s x.j.toNat).ps.length) : itGo s letter (x :: r) M O = ([], 3, M) := by
  rw [itGo, if_pos h]
theorem itGo_7 {s : List Lin} {letter : Int} {x : It} {r : List It} {M : Mr} {O : List It} (h : ¬ 20 < (linAt s x.j.toNat).ps.length) {p : Bool × Mr} (e : spendM M ((2 ^ (linAt s x.j.toNat).ps.length : Nat) : Int) = p) (hp : p.1 = false) : itGo s letter (x :: r) M O = ([], 7, p.2) := by
  rw [itGo, if_neg h, e, hp]; rfl
theorem itGo_3 {s : List Lin} {letter : Int} {x : It} {r : List It} {M : Mr} {O : List It} (h : ¬ 20 < (linAt s x.j.toNat).ps.length) {p : Bool × Mr} (e : spendM M ((2 ^ (linAt s x.j.toNat).ps.length : Nat) : Int) = p) (hp : p.1 = true) (hc : maskF x (linAt s x.j.toNat).ps letter (2 ^ (linAt s x.j.toNat).ps.length) 0 O = none) : itGo s letter (x :: r) M O = ([], 3, p.2) := by
  rw [itGo, if_neg h, e, hp, if_pos rfl, hc]
theorem itGo_0 {s : List Lin} {letter : Int} {x : It} {r : List It} {M : Mr} {O O' : List It} (h : ¬ 20 < (linAt s x.j.toNat).ps.length) {p : Bool × Mr} (e : spendM M ((2 ^ (linAt s x.j.toNat).ps.length : Nat) : Int) = p) (hp : p.1 = true) (hc : maskF x (linAt s x.j.toNat).ps letter (2 ^ (linAt s x.j.toNat).ps.length) 0 O = some O') : itGo s letter (x :: r) M O = itGo s letter r p.2 O' := by
  rw [itGo, if_neg h, e, hp, if_pos rfl, hc]
end Go.Proofs.YtmefmnpmppdpmabDoor

/-! The reference's Final, Start. -/
namespace Go.Proofs.YtmefmnpmppdpmabDoor
open Go.ChangeShapes Go.WideShapes Go.ChangeAt Go.RowKit

/-- What a call that makes items comes to. -/
def MakesI (s : List It) (w : World) (e : Ending) (w' : World) : Prop := ∃ a c, e = .returned (.slice a s.length c) ∧ Its w' a c s ∧ From w.heap.size a ∧ Below w.heap.size w w'
theorem its_push {w w' : World} {a b : Option Addr} {c d : Nat} {s : List It} {x : It} {ls : List Ib} (hs : its ls = s) (h : Ibs w a c ls) (hx : Bag w b d x.c) {n u : Nat} (hn : s.length = n) (hu : x.c.length = u) {v : Value}
    (r : AppendsI a n 1 (iflat ls) [.int .i64 x.j, .slice b u d] w v w') : ∃ a' c', v = .slice a' (n + 1) c' ∧ Its w' a' c' (s ++ [x]) ∧ ∀ B, B ≤ w.heap.size → From B a → From B a' ∧ Below B w w' := by
  subst hn hu hs
  have hb := fun (B : Nat) (hB : B ≤ w.heap.size) (hf : From B a) => r.below hB hf
  obtain ⟨a', c', rfl, R, k, f⟩ := r
  refine ⟨a', c', rfl, ?_, fun B hB hf => ?_⟩
  · have h2 := its_set h hx k ls.length (a' := a') (c' := c') (by
      rw [List.take_length, List.drop_length, iflat_app]
      rw [its_len] at R
      exact R)
    have e1 : (its ls).take ls.length = its ls := List.take_of_length_le (by rw [its_len]; exact Nat.le_refl _)
    have e2 : (its ls).drop ls.length = [] := List.drop_eq_nil_of_le (by rw [its_len]; exact Nat.le_refl _)
    rw [e1, e2] at h2
    exact h2
  · have h3 := hb B hB hf
    exact ⟨h3.2 a' _ c' rfl, h3.1⟩
/-- The first k of the items that begin. -/
def startK (s : List Lin) (k : Nat) : List It := (List.range k).map (fun j : Nat => (⟨(j : Int), (linAt s j).base⟩ : It))
theorem startK_len (s : List Lin) (k : Nat) : (startK s k).length = k := by unfold startK; rw [List.length_map, List.length_range]
theorem startK_succ (s : List Lin) (k : Nat) : startK s (k + 1) = startK s k ++ [⟨(k : Int), (linAt s k).base⟩] := by
  unfold startK
  rw [List.range_succ, List.map_append]; rfl
end Go.Proofs.YtmefmnpmppdpmabDoor
/- The reference's Next. -/
namespace Go.Proofs.YtmefmnpmppdpmabDoor
open Go.ChangeShapes Go.WideShapes Go.ChangeAt Go.RowKit

section
variable {w W W' : World} {mp oa : Option Addr} {M : Mr} {oc : Nat} {O : List It}
end
end Go.Proofs.YtmefmnpmppdpmabDoor
/- Cut of numbers that came in, at nine and at six. -/
namespace Go.Proofs.YtmefmnpmppdpmabDoor
open Go.ChangeShapes Go.WideShapes Go.ChangeAt Go.RowKit

end Go.Proofs.YtmefmnpmppdpmabDoor

import Derived.Test.YtmefmnpmppdpmabDoorWa
import Derived.Test.YtmefmnpmppdpmabDoorWb
import Derived.Test.YtmefmnpmppdpmabDoorCk
/- Plain words: the search for a word of one linear set that is none of a set. -/
namespace Go.Proofs.YtmefmnpmppdpmabDoor
open Go.ChangeShapes Go.WideShapes Go.ChangeAt Go.RowKit

/-- A pair of the search: what is carried, the items, the word so far, how many letters were read. -/
structure Pr where
  c : List Int
  l : List It
  w : List Int
  n : Nat
deriving DecidableEq
/-- A letter's tags, each 2 to the power of n, put to a word: those from tag t on, k of them. -/
def tagsGo (odd : Int) (n : Nat) : Nat → Nat → List Int → List Int
  | 0, _, w => w
  | k + 1, t, w => tagsGo odd n k (t + 1) (if odd / 2 ^ t % 2 = 1 then addS w (oneL (t : Int) (2 ^ n)) else w)
def wordStep (w : List Int) (odd : Int) (n : Nat) : List Int := tagsGo odd n 12 0 w
def metP (Q : List Pr) (c : List Int) (l : List It) : Bool := Q.any (fun z => decide (z.c = c) && decide (z.l = l))
/-- What comes of the choices of one pair, k of them from the m-th on: the queue, an error, the meter. -/
def kidsGo (x : Lin) (b : List Lin) (q : Pr) : Nat → Nat → List Pr → Mr → List Pr × Int × Mr
  | 0, _, Q, M => (Q, 0, M)
  | k + 1, m, Q, M => match chosenL q.c x.ps m with
    | none => (Q, 3, M)
    | some c =>
      if (nextM M b q.l (oddN c)).2.1 = 0 then
        if metP Q (halfL c) (nextM M b q.l (oddN c)).1 = true then kidsGo x b q k (m + 1) Q (nextM M b q.l (oddN c)).2.2
        else if (spendM (nextM M b q.l (oddN c)).2.2 1).1 = true then kidsGo x b q k (m + 1) (Q ++ [⟨halfL c, (nextM M b q.l (oddN c)).1, wordStep q.w (oddN c) q.n, q.n + 1⟩]) (spendM (nextM M b q.l (oddN c)).2.2 1).2
        else (Q, 7, (spendM (nextM M b q.l (oddN c)).2.2 1).2)
      else (Q, (nextM M b q.l (oddN c)).2)
def pr0 : Pr := ⟨[], [], [], 0⟩
def prAt (Q : List Pr) (k : Nat) : Pr := Q.getD k pr0
theorem prAt_get {Q : List Pr} {k : Nat} (h : k < Q.length) : prAt Q k = Q[k] := by simp [prAt, List.getD, h]
/-- What a search answers, with the meter and all that was put in. -/
structure Sr where
  ok : Bool
  w : List Int
  e : Int
  m : Mr
  q : List Pr
/-- The search from the at-th pair on; none, if so many rounds do not do. -/
def searchGo (x : Lin) (b : List Lin) : Nat → Nat → List Pr → Mr → Option Sr
  | 0, _, _, _ => none
  | f + 1, k, Q, M =>
    if k < Q.length then
      if (prAt Q k).c = [] ∧ finalL (prAt Q k).l = false then some ⟨false, (prAt Q k).w, 0, M, Q⟩
      else if 20 < x.ps.length ∨ 60 ≤ (prAt Q k).n then some ⟨false, [], 3, M, Q⟩
      else if (kidsGo x b (prAt Q k) (2 ^ x.ps.length) 0 Q M).2.1 = 0 then searchGo x b f (k + 1) (kidsGo x b (prAt Q k) (2 ^ x.ps.length) 0 Q M).1 (kidsGo x b (prAt Q k) (2 ^ x.ps.length) 0 Q M).2.2
      else some ⟨false, [], (kidsGo x b (prAt Q k) (2 ^ x.ps.length) 0 Q M).2.1, (kidsGo x b (prAt Q k) (2 ^ x.ps.length) 0 Q M).2.2, (kidsGo x b (prAt Q k) (2 ^ x.ps.length) 0 Q M).1⟩
    else some ⟨true, [], 0, M, Q⟩
def first (x : Lin) (b : List Lin) : Pr := ⟨x.base, startL b, [], 0⟩
def searchM (f : Nat) (x : Lin) (b : List Lin) (M : Mr) : Option Sr :=
  if (spendM M 1).1 = true then searchGo x b f 0 [first x b] (spendM M 1).2 else some ⟨false, [], 7, (spendM M 1).2, [first x b]⟩
/-- Linear set by linear set. -/
def withinGo (f : Nat) (b : List Lin) : List Lin → Mr → Option (Bool × List Int × Int × Mr)
  | [], M => some (true, [], 0, M)
  | x :: r, M => match searchM f x b M with
    | none => none
    | some s => if s.e = 0 ∧ s.ok = true then withinGo f b r s.m else some (false, s.w, s.e, s.m)
section
variable {x : Lin} {b : List Lin} {q : Pr} {k m : Nat} {Q : List Pr} {M : Mr}
theorem kids_none (h : chosenL q.c x.ps m = none) : kidsGo x b q (k + 1) m Q M = (Q, 3, M) := by rw [kidsGo, h]
theorem kids_err {c : List Int} (h : chosenL q.c x.ps m = some c) (h1 : ¬ (nextM M b q.l (oddN c)).2.1 = 0) : kidsGo x b q (k + 1) m Q M = (Q, (nextM M b q.l (oddN c)).2) := by
  rw [kidsGo, h]; dsimp only; rw [if_neg h1]
theorem kids_met {c : List Int} (h : chosenL q.c x.ps m = some c) (h1 : (nextM M b q.l (oddN c)).2.1 = 0) (h2 : metP Q (halfL c) (nextM M b q.l (oddN c)).1 = true) : kidsGo x b q (k + 1) m Q M = kidsGo x b q k (m + 1) Q (nextM M b q.l (oddN c)).2.2 := by
  rw [kidsGo, h]; dsimp only; rw [if_pos h1, if_pos h2]
theorem kids_work {c : List Int} (h : chosenL q.c x.ps m = some c) (h1 : (nextM M b q.l (oddN c)).2.1 = 0) (h2 : ¬ metP Q (halfL c) (nextM M b q.l (oddN c)).1 = true) (h3 : ¬ (spendM (nextM M b q.l (oddN c)).2.2 1).1 = true) : kidsGo x b q (k + 1) m Q M = (Q, 7, (spendM (nextM M b q.l (oddN c)).2.2 1).2) := by
  rw [kidsGo, h]; dsimp only; rw [if_pos h1, if_neg h2, if_neg h3]
theorem kids_put {c : List Int} (h : chosenL q.c x.ps m = some c) (h1 : (nextM M b q.l (oddN c)).2.1 = 0) (h2 : ¬ metP Q (halfL c) (nextM M b q.l (oddN c)).1 = true) (h3 : (spendM (nextM M b q.l (oddN c)).2.2 1).1 = true) :
    kidsGo x b q (k + 1) m Q M = kidsGo x b q k (m + 1) (Q ++ [⟨halfL c, (nextM M b q.l (oddN c)).1, wordStep q.w (oddN c) q.n, q.n + 1⟩]) (spendM (nextM M b q.l (oddN c)).2.2 1).2 := by
  rw [kidsGo, h]; dsimp only; rw [if_pos h1, if_neg h2, if_pos h3]
end
/-- The queue grows at its end alone. -/
theorem kids_grow (x : Lin) (b : List Lin) (q : Pr) : ∀ (k m : Nat) (Q : List Pr) (M : Mr), ∃ R, (kidsGo x b q k m Q M).1 = Q ++ R
  | 0, m, Q, M => ⟨[], by simp [kidsGo]⟩
  | k + 1, m, Q, M => by
    cases h : chosenL q.c x.ps m with
    | none => exact ⟨[], by rw [kids_none h]; simp⟩
    | some c =>
      by_cases h1 : (nextM M b q.l (oddN c)).2.1 = 0
      · by_cases h2 : metP Q (halfL c) (nextM M b q.l (oddN c)).1 = true
        · rw [kids_met h h1 h2]
          exact kids_grow x b q k (m + 1) Q _
        · by_cases h3 : (spendM (nextM M b q.l (oddN c)).2.2 1).1 = true
          · rw [kids_put h h1 h2 h3]
            obtain ⟨R, e⟩ := kids_grow x b q k (m + 1) (Q ++ [⟨halfL c, (nextM M b q.l (oddN c)).1, wordStep q.w (oddN c) q.n, q.n + 1⟩]) (spendM (nextM M b q.l (oddN c)).2.2 1).2
            exact ⟨_ :: R, by rw [e, List.append_assoc]; rfl⟩
          · exact ⟨[], by rw [kids_work h h1 h2 h3]; simp⟩
      · exact ⟨[], by rw [kids_err h h1]; simp⟩
end Go.Proofs.YtmefmnpmppdpmabDoor
/- Plain words: a search with a meter ends, and what it put in was paid for. -/
namespace Go.Proofs.YtmefmnpmppdpmabDoor
open Go.ChangeShapes Go.WideShapes Go.ChangeAt Go.RowKit

/-- A meter of budget B that has spent S at least. -/
def Mbs (B S : Int) (M : Mr) : Prop := ∃ S' o, M = (some (B, S', o) : Mr) ∧ S ≤ S' ∧ S' ≤ B
theorem Mbs.mono {B S T : Int} {M : Mr} (h : Mbs B S M) (hT : T ≤ S) : Mbs B T M := by
  obtain ⟨S', o, e, h1, h2⟩ := h
  exact ⟨S', o, e, Int.le_trans hT h1, h2⟩
theorem Mbs.le {B S : Int} {M : Mr} (h : Mbs B S M) : S ≤ B := by
  obtain ⟨S', o, _, h1, h2⟩ := h
  omega
end Go.Proofs.YtmefmnpmppdpmabDoor
/- Plain words: what a search says of the words. -/
namespace Go.Proofs.YtmefmnpmppdpmabDoor
open Go.ChangeShapes Go.WideShapes Go.ChangeAt Go.RowKit

theorem readGo_snoc {s : List Lin} (hs : Thin s) (w : List Int) : ∀ (k d : Nat) (l : List It) (N : Mr), N = none → Stand s l →
    (readGo s w (k + 1) d l N).1 = (nextM N s (readGo s w k d l N).1 (letterN w ((d + k : Nat) : Int))).1
  | 0, d, l, N, hN, h => by
    obtain ⟨y, hy, _, _⟩ := stand_next hs h (letterN w (d : Int)) hN
    rw [readGo_yes (by rw [hy]), readGo_zero, readGo_zero, Nat.add_zero]
  | k + 1, d, l, N, hN, h => by
    obtain ⟨y, hy, hsy, _⟩ := stand_next hs h (letterN w (d : Int)) hN
    have e1 : readGo s w (k + 1 + 1) d l N = readGo s w (k + 1) (d + 1) y N := by rw [readGo_yes (by rw [hy]), hy]
    have e2 : readGo s w (k + 1) d l N = readGo s w k (d + 1) y N := by rw [readGo_yes (by rw [hy]), hy]
    rw [e1, e2, readGo_snoc hs w k (d + 1) y N hN hsy, show d + 1 + k = d + (k + 1) by omega]
theorem readGo_congr (s : List Lin) {w v : List Int} : ∀ (k d : Nat) (l : List It) (M : Mr), (∀ i, d ≤ i → i < d + k → letterN w (i : Int) = letterN v (i : Int)) → readGo s w k d l M = readGo s v k d l M
  | 0, _, _, _, _ => rfl
  | k + 1, d, l, M, h => by
    have h0 := h d (Nat.le_refl _) (by omega)
    rw [readGo, readGo, h0]
    split
    · exact readGo_congr s k (d + 1) _ _ (fun i h1 h2 => h i (by omega) (by omega))
    · rfl
/-- The items when so many letters of a word were read, no meter. -/
def itemsAt (s : List Lin) (w : List Int) (n : Nat) (N : Mr) : List It := (readGo s w n 0 (startL s) N).1
theorem items_stand {s : List Lin} (hs : Thin s) (w : List Int) (n : Nat) {N : Mr} (hN : N = none) : Stand s (itemsAt s w n N) := (readGo_free hs w n 0 (startL s) N hN (stand_start hs)).2
theorem items_succ {s : List Lin} (hs : Thin s) (w : List Int) (n : Nat) {N : Mr} (hN : N = none) : itemsAt s w (n + 1) N = (nextM N s (itemsAt s w n N) (letterN w (n : Int))).1 := by
  have h := readGo_snoc hs w n 0 (startL s) N hN (stand_start hs)
  rw [Nat.zero_add] at h
  exact h
/-! ### All pairs were looked at: each word is one of the set. -/
theorem met_iff {Q : List Pr} {c : List Int} {l : List It} : metP Q c l = true ↔ ∃ z ∈ Q, z.c = c ∧ z.l = l := by
  unfold metP
  rw [List.any_eq_true]
  constructor
  · rintro ⟨z, hz, h⟩
    rw [Bool.and_eq_true, decide_eq_true_eq, decide_eq_true_eq] at h
    exact ⟨z, hz, h⟩
  · rintro ⟨z, hz, h⟩
    refine ⟨z, hz, ?_⟩
    rw [Bool.and_eq_true, decide_eq_true_eq, decide_eq_true_eq]
    exact h
/-- The choice m of a pair leads to a pair that was put in. -/
def Went (x : Lin) (b : List Lin) (q : Pr) (N : Mr) (Q : List Pr) (m : Nat) : Prop := ∀ c, chosenL q.c x.ps m = some c → ∃ z ∈ Q, z.c = halfL c ∧ z.l = (nextM N b q.l (oddN c)).1
theorem Went.more {x : Lin} {b : List Lin} {q : Pr} {N : Mr} {Q R : List Pr} {m : Nat} (h : Went x b q N Q m) : Went x b q N (Q ++ R) m := fun c hc => by
  obtain ⟨z, hz, e⟩ := h c hc
  exact ⟨z, List.mem_append_left _ hz, e⟩
end Go.Proofs.YtmefmnpmppdpmabDoor
/- The reference's Has, over thin sets. -/
namespace Go.Proofs.YtmefmnpmppdpmabDoor
open Go.ChangeShapes Go.WideShapes Go.ChangeAt Go.RowKit

end Go.Proofs.YtmefmnpmppdpmabDoor

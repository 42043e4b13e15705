import Derived.Test.YtmefmnpmppdpmabDoorVg
import Derived.Test.YtmefmnpmppdpmabDoorTm
/- What the walks of AutoTells, AutoWalks, AutoReads share. -/
namespace Go.Proofs.YtmefmnpmppdpmabDoor
open Go.ChangeShapes Go.WideShapes Go.ChangeAt Go.RowKit

/-- Rising items of a set are right. -/
theorem right_items {s : List Lin} (hs : Thin s) {l : List It} (hr : RiseI l) (ho : ∀ x ∈ l, ItOk s x) : rightItems s l = true := by
  unfold rightItems
  rw [Bool.and_eq_true, Bool.and_eq_true]
  refine ⟨⟨rightS_iff.2 hs.rise, ?_⟩, rightsI_iff.2 hr⟩
  rw [List.all_eq_true]
  intro x hx
  rw [Bool.and_eq_true, decide_eq_true_eq, decide_eq_true_eq]
  exact ⟨(ho x hx).lo, (ho x hx).hi⟩
/-- Items that stand right, all of a thin set. -/
def Stand (s : List Lin) (l : List It) : Prop := RiseI l ∧ ∀ x ∈ l, ItOk s x
theorem stand_start {s : List Lin} (hs : Thin s) : Stand s (startL s) := by
  have h := start_right hs
  unfold rightItems at h
  rw [Bool.and_eq_true] at h
  refine ⟨rightsI_iff.1 h.2, ?_⟩
  rw [startL_thin hs]
  exact start_all hs (Nat.le_refl s.length)
/-- One letter more, without a meter. -/
theorem stand_next {s : List Lin} (hs : Thin s) {l : List It} (h : Stand s l) (letter : Int) {M : Mr} (hM : M = none) : ∃ y, nextM M s l letter = (y, 0, M) ∧ Stand s y ∧ y = (itGo s letter l M []).1 := by
  have e := itGo_free hs letter l M [] hM h.2
  have k := itGo_ok hs letter l M [] h.2 riseI_nil (fun z hz => by cases hz)
  refine ⟨(itGo s letter l M []).1, ?_, k, rfl⟩
  unfold nextM
  rw [right_items hs h.1 h.2, if_pos rfl]
  generalize itGo s letter l M [] = r at e
  obtain ⟨r1, r2⟩ := r
  have e : r2 = (0, M) := e
  rw [e]
end Go.Proofs.YtmefmnpmppdpmabDoor
/- Plain words: a word is one of a set just if, all its digits read, the items are final. -/
namespace Go.Proofs.YtmefmnpmppdpmabDoor
open Go.ChangeShapes Go.WideShapes Go.ChangeAt Go.RowKit

/-- Is w a word of the set? -/
def InS (s : List Lin) (w : List Int) : Prop := ∃ j ns, j < s.length ∧ ns.length = (linAt s j).ps.length ∧ ∀ t, w.getD t 0 = (linAt s j).base.getD t 0 + mulAt (linAt s j).ps ns t
/-- The letters are read, k of them from the d-th on. -/
def readGo (s : List Lin) (w : List Int) : Nat → Nat → List It → Mr → List It × Int × Mr
  | 0, _, l, M => (l, 0, M)
  | k + 1, d, l, M =>
    if (nextM M s l (letterN w (d : Int))).2.1 = 0 then readGo s w k (d + 1) (nextM M s l (letterN w (d : Int))).1 (nextM M s l (letterN w (d : Int))).2.2
    else ([], (nextM M s l (letterN w (d : Int))).2)
/-- What an item has read: so many of each period have been taken, and that is left. -/
structure HasRead (s : List Lin) (w : List Int) (d : Nat) (x : It) : Prop where
  ok : ItOk s x
  read : ∃ ns : List Nat, ns.length = (linAt s x.j.toNat).ps.length ∧ ∀ t, (linAt s x.j.toNat).base.getD t 0 + mulAt (linAt s x.j.toNat).ps ns t = w.getD t 0 % 2 ^ d + 2 ^ d * x.c.getD t 0
/-- As many of each more as a mask says, times a number. -/
def addMask (v : Nat) : List Nat → Nat → List Nat
  | [], _ => []
  | n :: q, m => (n + v * (m % 2)) :: addMask v q (m / 2)
theorem addMask_len (v : Nat) : ∀ (ns : List Nat) (m : Nat), (addMask v ns m).length = ns.length
  | [], _ => rfl
  | n :: q, m => by rw [addMask, List.length_cons, addMask_len v q, List.length_cons]
theorem mul_mask (v : Nat) (t : Nat) : ∀ (ps : List (List Int)) (ns : List Nat) (m : Nat), ns.length = ps.length → mulAt ps (addMask v ns m) t = mulAt ps ns t + (v : Int) * sumAt ps m t
  | [], [], _, _ => by show (0 : Int) = 0 + (v : Int) * 0; omega
  | [], _ :: _, _, h => by simp at h
  | _ :: _, [], _, h => by simp at h
  | p :: r, n :: q, m, h => by
    have ih := mul_mask v t r q (m / 2) (by simpa using h)
    rw [addMask]
    unfold mulAt sumAt
    rw [ih, Int.mul_add]
    rcases (show m % 2 = 1 ∨ m % 2 = 0 by omega) with hm | hm
    · rw [hm, if_pos rfl, Nat.mul_one, Int.natCast_add, Int.add_mul]
      omega
    · rw [hm, if_neg (by omega), Nat.mul_zero, Nat.add_zero, Int.mul_zero]
      omega
theorem mod_split (a : Int) (d : Nat) : a % 2 ^ (d + 1) = a % 2 ^ d + 2 ^ d * (a / 2 ^ d % 2) := by
  have hp : (0 : Int) ≤ 2 ^ d := Int.pow_nonneg (by omega)
  rw [Int.pow_succ, Int.emod_def, Int.emod_def a (2 ^ d), ← Int.ediv_ediv_of_nonneg hp]
  generalize a / 2 ^ d = q
  generalize (2 : Int) ^ d = P
  have e : P * q = P * 2 * (q / 2) + P * (q % 2) := by
    rw [Int.mul_assoc, ← Int.mul_add]
    congr 1
    omega
  omega
theorem read_start {s : List Lin} (hs : Thin s) (w : List Int) : ∀ x ∈ startL s, HasRead s w 0 x := by
  intro x hx
  rw [startL_thin hs] at hx
  have ok := start_all hs (Nat.le_refl s.length) x hx
  obtain ⟨k, _, rfl⟩ := List.mem_map.1 hx
  refine ⟨ok, List.replicate (linAt s k).ps.length 0, ?_, fun t => ?_⟩
  · simp
  · have hz : ∀ ps : List (List Int), mulAt ps (List.replicate ps.length 0) t = 0 := by
      intro ps
      induction ps with
      | nil => rfl
      | cons p r ih =>
        show ((0 : Nat) : Int) * p.getD t 0 + mulAt r (List.replicate r.length 0) t = 0
        rw [ih]
        simp
    show (linAt s ((k : Int)).toNat).base.getD t 0 + mulAt (linAt s ((k : Int)).toNat).ps (List.replicate (linAt s k).ps.length 0) t = _
    rw [Int.toNat_natCast, hz, Int.pow_zero, Int.emod_one]
    show (linAt s k).base.getD t 0 + 0 = 0 + 1 * (linAt s k).base.getD t 0
    omega
theorem read_step {s : List Lin} (hs : Thin s) {w : List Int} (hw : rightL w = true) {d : Nat} (hd : d ≤ 62) {x : It} (h : HasRead s w d x) {m : Nat} {c : List Int} (hc : chosenL x.c (linAt s x.j.toNat).ps m = some c) (ho : oddN c = letterN w (d : Int)) : HasRead s w (d + 1) ⟨x.j, halfL c⟩ := by
  obtain ⟨c2, e2, ok⟩ := next_ok hs h.ok m
  rw [hc] at e2
  injection e2 with e2
  subst e2
  obtain ⟨ns, hl, hr⟩ := h.read
  refine ⟨ok, addMask (2 ^ d) ns m, by rw [addMask_len]; exact hl, fun t => ?_⟩
  have hS := hs.each _ (lin_mem h.ok)
  have hf := hS.trim.few
  have h8 : (45 : Int) * ((linAt s x.j.toNat).ps.length : Nat) ≤ 360 := by omega
  obtain ⟨c3, e3, hc3⟩ := chosen_small (K := 45) (by omega) (linAt s x.j.toNat).ps 45 x.c m h.ok.small (by omega) hS.pers (by omega)
  rw [hc] at e3
  injection e3 with e3
  subst e3
  have hh := half_at hc3 t
  have hat := chosen_at _ _ _ _ hc t
  have h1 := pack_digit c t
  have h2 := letter_digit hw hd t
  have h3 : packN c = letterN w (d : Int) := ho
  rw [h3, h2] at h1
  have hmm := mul_mask (2 ^ d) t _ _ m hl
  have e4 : ((2 ^ d : Nat) : Int) = (2 : Int) ^ d := by simp
  rw [e4] at hmm
  have h5 := hr t
  show (linAt s x.j.toNat).base.getD t 0 + mulAt (linAt s x.j.toNat).ps (addMask (2 ^ d) ns m) t = w.getD t 0 % 2 ^ (d + 1) + 2 ^ (d + 1) * (halfL c).getD t 0
  rw [hmm, hh, mod_split, Int.pow_succ, ← Int.add_assoc, h5, h1]
  have e5 : c.getD t 0 = 2 * (c.getD t 0 / 2) + c.getD t 0 % 2 := by omega
  have e6 : (2 : Int) ^ d * x.c.getD t 0 + 2 ^ d * sumAt (linAt s x.j.toNat).ps m t = 2 ^ d * c.getD t 0 := by rw [← Int.mul_add, ← hat]
  have e7 : (2 : Int) ^ d * c.getD t 0 = 2 ^ d * (c.getD t 0 % 2) + 2 ^ d * 2 * (c.getD t 0 / 2) := by
    rw [Int.mul_assoc, ← Int.mul_add]
    congr 1
    omega
  omega
/-- Each item that comes of items has read one digit more. -/
theorem read_items {s : List Lin} (hs : Thin s) {w : List Int} (hw : rightL w = true) {d : Nat} (hd : d ≤ 62) : ∀ (l : List It) (M : Mr) (O : List It), (∀ x ∈ l, HasRead s w d x) → RiseI O → (∀ z ∈ O, HasRead s w (d + 1) z) →
    ∀ z ∈ (itGo s (letterN w (d : Int)) l M O).1, HasRead s w (d + 1) z
  | [], M, O, _, _, hO, z, hz => hO z hz
  | x :: r, M, O, hl, hR, hO, z, hz => by
    have hx := hl x (by simp)
    have h20 : ¬ 20 < (linAt s x.j.toNat).ps.length := by have := (hs.each _ (lin_mem hx.ok)).trim.few; omega
    obtain ⟨O', e⟩ := maskF_some x (linAt s x.j.toNat).ps (letterN w (d : Int)) (fun m => by obtain ⟨c, e, _⟩ := next_ok hs hx.ok m; exact ⟨c, e⟩) (2 ^ (linAt s x.j.toNat).ps.length) 0 O
    have hA := maskF_all x _ _ _ 0 O O' hR e
    cases hv : (spendM M ((2 ^ (linAt s x.j.toNat).ps.length : Nat) : Int)).1 with
    | false => rw [itGo_7 h20 rfl hv] at hz; cases hz
    | true =>
      rw [itGo_0 h20 rfl hv e] at hz
      refine read_items hs hw hd r _ O' (fun y hy => hl y (List.mem_cons_of_mem _ hy)) hA.1 (fun y hy => ?_) z hz
      rcases (hA.2 y).1 hy with h | ⟨m, c, _, _, hc, ho, rfl⟩
      · exact hO y h
      · exact read_step hs hw hd hx hc ho
/-- Where nothing is refused, the meter does not matter. -/
theorem itGo_same {s : List Lin} (letter : Int) : ∀ (l : List It) (M N : Mr) (O : List It), N = none → (itGo s letter l M O).2.1 = 0 → (itGo s letter l N O).1 = (itGo s letter l M O).1
  | [], M, N, O, _, _ => rfl
  | x :: r, M, N, O, hN, h => by
    by_cases h20 : 20 < (linAt s x.j.toNat).ps.length
    · rw [itGo_20 h20] at h
      exact absurd h (by show ¬ (3 : Int) = 0; decide)
    · cases hv : (spendM M ((2 ^ (linAt s x.j.toNat).ps.length : Nat) : Int)).1 with
      | false =>
        rw [itGo_7 h20 rfl hv] at h
        exact absurd h (by show ¬ (7 : Int) = 0; decide)
      | true =>
        cases hc : maskF x (linAt s x.j.toNat).ps letter (2 ^ (linAt s x.j.toNat).ps.length) 0 O with
        | none =>
          rw [itGo_3 h20 rfl hv hc] at h
          exact absurd h (by show ¬ (3 : Int) = 0; decide)
        | some O' =>
          rw [itGo_0 h20 rfl hv hc] at h ⊢
          rw [itGo_0 (p := (true, N)) h20 (spendM_free hN _) rfl hc]
          exact itGo_same letter r _ N O' hN h
theorem nextM_same {s : List Lin} (letter : Int) (l : List It) (M N : Mr) (hN : N = none) (h : (nextM M s l letter).2.1 = 0) : (nextM N s l letter).1 = (nextM M s l letter).1 := by
  unfold nextM at h ⊢
  split at h
  · next hr =>
    rw [if_pos hr, if_pos hr]
    exact itGo_same letter l M N [] hN h
  · exact absurd h (by show ¬ (1 : Int) = 0; decide)
theorem readGo_zero (s : List Lin) (w : List Int) (d : Nat) (l : List It) (M : Mr) : readGo s w 0 d l M = (l, 0, M) := rfl
theorem readGo_yes {s : List Lin} {w : List Int} {k d : Nat} {l : List It} {M : Mr} (h : (nextM M s l (letterN w (d : Int))).2.1 = 0) : readGo s w (k + 1) d l M = readGo s w k (d + 1) (nextM M s l (letterN w (d : Int))).1 (nextM M s l (letterN w (d : Int))).2.2 := by
  rw [readGo, if_pos h]
/-- Without a meter nothing is refused. -/
theorem readGo_free {s : List Lin} (hs : Thin s) (w : List Int) : ∀ (k d : Nat) (l : List It) (N : Mr), N = none → Stand s l → (readGo s w k d l N).2 = (0, N) ∧ Stand s (readGo s w k d l N).1
  | 0, d, l, N, _, h => ⟨rfl, h⟩
  | k + 1, d, l, N, hN, h => by
    obtain ⟨y, hy, hsy, _⟩ := stand_next hs h (letterN w (d : Int)) hN
    rw [readGo_yes (by rw [hy]), hy]
    exact readGo_free hs w k (d + 1) y N hN hsy
/-- What is read on, without a meter: what was read so far stays known, a word stays on its way. -/
theorem readGo_read {s : List Lin} (hs : Thin s) {w : List Int} (hw : rightL w = true) : ∀ (k d : Nat) (l : List It) (N : Mr), N = none → d + k ≤ 62 → Stand s l → (∀ x ∈ l, HasRead s w d x) →
    (∀ x ∈ (readGo s w k d l N).1, HasRead s w (d + k) x) ∧ ∀ j, (∃ ns c, ReadsW s j w d ns c ∧ (⟨(j : Int), c⟩ : It) ∈ l) → ∃ ns c, ReadsW s j w (d + k) ns c ∧ (⟨(j : Int), c⟩ : It) ∈ (readGo s w k d l N).1
  | 0, d, l, N, _, _, _, h => ⟨h, fun j h => h⟩
  | k + 1, d, l, N, hN, hd, hst, h => by
    obtain ⟨y, hy, hsy, hyi⟩ := stand_next hs hst (letterN w (d : Int)) hN
    rw [readGo_yes (by rw [hy]), hy]
    have h1 := read_items hs hw (show d ≤ 62 by omega) l N [] h riseI_nil (fun z hz => by cases hz)
    rw [← hyi] at h1
    have ih := readGo_read hs hw k (d + 1) y N hN (by omega) hsy h1
    rw [show d + 1 + k = d + (k + 1) by omega] at ih
    refine ⟨ih.1, fun j hj => ih.2 j ?_⟩
    have h2 := reads_next hs hw (show d ≤ 62 by omega) hst.2 hN hj
    rwa [← hyi] at h2
/-- A word is one of a thin set just if, its digits read, the items are final. -/
theorem final_in {s : List Lin} (hs : Thin s) {w : List Int} (hw : rightL w = true) {D : Nat} (hD : D ≤ 62) (h0 : ∀ t, w.getD t 0 / 2 ^ D = 0) {N : Mr} (hN : N = none) : finalL (readGo s w D 0 (startL s) N).1 = true ↔ InS s w := by
  have H := readGo_read hs hw D 0 (startL s) N hN (by omega) (stand_start hs) (read_start hs w)
  rw [Nat.zero_add] at H
  constructor
  · intro hf
    unfold finalL at hf
    rw [List.any_eq_true] at hf
    obtain ⟨x, hx, hc⟩ := hf
    rw [decide_eq_true_eq] at hc
    obtain ⟨ok, ns, hl, hr⟩ := H.1 x hx
    have hlt : x.j.toNat < s.length := by have := ok.lo; have := ok.hi; omega
    refine ⟨x.j.toNat, ns, hlt, hl, fun t => ?_⟩
    have h1 := hr t
    rw [hc] at h1
    have h2 : w.getD t 0 % 2 ^ D = w.getD t 0 := by
      rw [Int.emod_def, h0 t]
      omega
    have h3 : (2 : Int) ^ D * ([] : List Int).getD t 0 = 0 := by simp
    rw [h2, h3] at h1
    omega
  · rintro ⟨j, ns, hj, hl, hr⟩
    refine reads_final hs h0 (H.2 j ⟨ns, (linAt s j).base, ⟨hl, fun t => ?_, start_ok hs hj⟩, ?_⟩)
    · rw [Int.pow_zero, Int.ediv_one]
      exact hr t
    · rw [startL_thin hs]
      exact List.mem_map.2 ⟨j, List.mem_range.2 hj, rfl⟩
end Go.Proofs.YtmefmnpmppdpmabDoor

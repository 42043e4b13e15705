import Derived.Test.YtmefmnpmppdpmabDoorXi
/- The law InclFar: its five calls. -/
namespace Go.Proofs.YtmefmnpmppdpmabDoor
open Go.ChangeShapes Go.WideShapes Go.ChangeAt Go.RowKit

theorem one_list {n : Int} (h1 : 1 ≤ n) (h2 : n ≤ 1152921504606846976) : oneL 0 n = [n] := by
  unfold oneL
  rw [if_pos (one_iff.2 ⟨⟨by omega, by omega⟩, h1, h2⟩)]
  rfl
theorem tabN_of {w W : World} (h : Lib.TabIs Tryd.prog w "internal/strconv.uint64pow10" .u64 Lib.pow10Tab) (b : Below w.heap.size w W) : TabM none W := fun V k =>
  Lib.tabBelow_of_tabIs h V (b.trans (k.below (fun i e => by cases e) b.size))
theorem word_right {n : Int} (h1 : 1 ≤ n) (h2 : n ≤ 1152921504606846976) : rightS [wordX n] = true := by
  refine rightS_iff.2 ⟨fun z hz => ?_, by simp⟩
  rw [List.mem_singleton] at hz
  subst hz
  exact rightLin_iff.2 ⟨one_word h1 h2, (rightLin_iff (x := ⟨[], []⟩)).1 (by decide) |>.2⟩
theorem step_right {k : Int} (h1 : 1 ≤ k) (h2 : k ≤ 6) : rightS [stepX k] = true := rightS_iff.2 (thin_step h1 h2).rise
/-- What a call of Within that went well comes to: yes or no, and a word. -/
def WinF (B : Bool) (ws : List Int) (L : Nat) (w : World) (e : Ending) (w' : World) : Prop := ∃ a c, e = .returned (.tuple #[.bool B, .slice a L c, .int .i64 0]) ∧ ws.length = L ∧ L ≤ c ∧ c ≤ 9223372036854775807 ∧ Bag w' a c ws ∧ Below w.heap.size w w'
/-- The bag of so many of the first tag. -/
theorem one_bag {n : Int} (h1 : 1 ≤ n) (h2 : n ≤ 1152921504606846976) (w : World) : Calls Tryd.prog 5 #[.int .i64 0, .int .i64 n] w (fun e w' => ∃ a c, e = .returned (.slice a 1 c) ∧ 1 ≤ c ∧ c ≤ 9223372036854775807 ∧ Bag w' a c [n] ∧ Below w.heap.size w w') := by
  have Z := one25 0 n w
  rw [one_list h1 h2] at Z
  refine Z.mono ?_
  rintro e w' ⟨a, c, rfl, B, _, b⟩
  exact ⟨a, c, rfl, B.le.1, B.le.2, B, b⟩
/-- The row of one linear set of one period, in new memory. -/
theorem per_fresh (X : World) (xa : Option Addr) (xc : Nat) (n : Int) (B : Bag X xa xc [n]) :
    Lins ((X.alloc (.cells #[.slice xa 1 xc] 24)).alloc (.cells #[.slice none 0 0, .slice (some ⟨X.heap.size, 0, none⟩) 1 1] 28)) (some ⟨X.heap.size + 1, 0, none⟩) 1 [stepX n] ∧
    Below X.heap.size X ((X.alloc (.cells #[.slice xa 1 xc] 24)).alloc (.cells #[.slice none 0 0, .slice (some ⟨X.heap.size, 0, none⟩) 1 1] 28)) := by
  have P := bags_fresh X xa xc 1 [n] rfl B
  have b1 := below_alloc X (.cells #[.slice xa 1 xc] 24)
  have e : (X.alloc (.cells #[.slice xa 1 xc] 24)).heap.size = X.heap.size + 1 := by simp
  have L := lins_fresh (X.alloc (.cells #[.slice xa 1 xc] 24)) none (some ⟨X.heap.size, 0, none⟩) 0 1 0 1 (stepX n) rfl rfl (Bag.nil _) P
  rw [e] at L
  exact ⟨L, b1.trans ((below_alloc _ _).mono b1.size)⟩
theorem lins_base1 {w : World} {g c : Nat} {n : Int} (h : Lins w (some ⟨g, 0, none⟩) c [wordX n]) : ∃ xb xd, 1 ≤ xd ∧ xd ≤ 9223372036854775807 ∧ w.cell? ⟨g, 0, none⟩ = some (.slice xb 1 xd) ∧ Bag w xb xd [n] := by
  obtain ⟨g', b, d, pb, pd, e, q, _, B, _⟩ := h.at (k := 0) (by simp)
  injection e with e; injection e with e; subst e
  have B' : Bag w b d [n] := B
  exact ⟨b, d, B'.le.1, B'.le.2, q, B'⟩
theorem bag_cell1 {w : World} {a : Option Addr} {c : Nat} {n : Int} (h : Bag w a c [n]) : ∃ g, a = some ⟨g, 0, none⟩ ∧ w.cell? ⟨g, 0, none⟩ = some (.int .i64 n) := h.at (k := 0) (by simp)
def TellsF (v : Value) (w : World) (e : Ending) (w' : World) : Prop := e = .returned v ∧ Below w.heap.size w w'
theorem rem_low {a k : Int} (ha : 0 ≤ a) (hk : 0 < k) : 0 ≤ a.tmod k ∧ a.tmod k < k := by
  rw [Int.tmod_eq_emod_of_nonneg ha]
  exact ⟨Int.emod_nonneg _ (by omega), Int.emod_lt_of_pos _ hk⟩
theorem rem_eq {a k : Int} (ha : 0 ≤ a) (_hk : 0 < k) : (decide (a % k = 0) == decide (a.tmod k = 0)) = true := by
  rw [Int.tmod_eq_emod_of_nonneg ha]
  simp
theorem rem_one {k : Int} (hk : 2 ≤ k) : (1 : Int).tmod k = 1 := by
  rw [Int.tmod_eq_emod_of_nonneg (by omega)]
  exact Int.emod_eq_of_lt (by omega) (by omega)
section
variable {w : World} {aa ba : Option Addr} {ac bc : Nat} {n k : Int}
theorem far_call (htab : TabM none w) {X y : Lin} (RA : Lins w aa ac [X]) (RB : Lins w ba bc [y]) (ha : rightS [X] = true) (hb : rightS [y] = true) {G : Pr → Prop} (hg : Goes X [y] G) {r : Sr} (hr : searchM 62 X [y] (none : Mr) = some r) (he : r.e = 0) (hq : r.q.length ≤ 1000000000) :
    Calls Tryd.prog 6 #[.pointer none, .slice aa 1 ac, .slice ba 1 bc] w (WinF r.ok (if r.ok = true then [] else r.w) (if r.ok = true then [] else r.w).length w) := by
  have Z := within18one w htab aa ac ba bc X [y] RA RB ha hb (by simp) G hg 62 r hr hq
  rw [he, ite_self] at Z
  refine Z.mono ?_
  rintro e w' ⟨a, c, rfl, B, b⟩
  exact ⟨a, c, rfl, rfl, B.le.1, B.le.2, B, b⟩
theorem call_next (h1 : 1 ≤ n) (h2 : n ≤ 1073741823) (htab : TabM none w) (RA : Lins w aa ac [wordX n]) (RB : Lins w ba bc [wordX (n + 1)]) :
    Calls Tryd.prog 6 #[.pointer none, .slice aa 1 ac, .slice ba 1 bc] w (WinF false [n] 1 w) := by
  obtain ⟨r, hr, he, hq, ho, hw⟩ := far_next (N := (none : Mr)) h1 h2 rfl
  have Z := far_call htab RA RB (word_right h1 (by omega)) (word_right (by omega) (by omega)) (goes_next (N := (none : Mr)) h1 h2 rfl) hr he (by omega)
  rw [ho, hw] at Z
  exact Z
theorem call_step (h1 : 1 ≤ n) (h2 : n ≤ 1073741823) (k1 : 1 ≤ k) (k2 : k ≤ 6) (htab : TabM none w) (RA : Lins w aa ac [wordX n]) (RB : Lins w ba bc [stepX k]) :
    Calls Tryd.prog 6 #[.pointer none, .slice aa 1 ac, .slice ba 1 bc] w (fun e w' => ∃ ws L, WinF (decide (n % k = 0)) ws L w e w') := by
  obtain ⟨r, hr, he, hq, ho⟩ := far_step (N := (none : Mr)) h1 h2 k1 k2 rfl
  have Z := far_call htab RA RB (word_right h1 (by omega)) (step_right k1 k2) (goes_step (N := (none : Mr)) h1 h2 k1 k2 rfl) hr he (by omega)
  have e : r.ok = decide (n % k = 0) := by
    rcases (show n % k = 0 ∨ ¬ n % k = 0 by omega) with h | h
    · rw [decide_eq_true h]; exact ho.2 h
    · rw [decide_eq_false h]
      cases hr : r.ok with
      | true => exact absurd (ho.1 hr) h
      | false => rfl
  rw [e] at Z
  exact Z.mono fun e w' h => ⟨_, _, h⟩
theorem call_one (h1 : 1 ≤ n) (h2 : n ≤ 1073741823) (htab : TabM none w) (RA : Lins w aa ac [wordX n]) (RB : Lins w ba bc [stepX 1]) :
    Calls Tryd.prog 6 #[.pointer none, .slice aa 1 ac, .slice ba 1 bc] w (WinF true [] 0 w) := by
  obtain ⟨r, hr, he, hq, ho⟩ := far_step (N := (none : Mr)) (k := 1) h1 h2 (by omega) (by omega) rfl
  have Z := far_call htab RA RB (word_right h1 (by omega)) (step_right (by omega) (by omega)) (goes_step (N := (none : Mr)) (k := 1) h1 h2 (by omega) (by omega) rfl) hr he (by omega)
  rw [ho.2 (by omega), if_pos rfl] at Z
  exact Z
def anyOk1 (k : Int) : Bool := match searchM 62 anyX (stepS k) none with
  | none => false
  | some r => decide (r.e = 0) && decide (r.q.length ≤ 100) && decide (r.ok = false) && decide (r.w = [1])
theorem far_any1 (k1 : 2 ≤ k) (k2 : k ≤ 6) : ∃ r, searchM 62 anyX (stepS k) none = some r ∧ r.e = 0 ∧ r.q.length ≤ 100 ∧ r.ok = false ∧ r.w = [1] := by
  have h : anyOk1 k = true := by
    rcases (show k = 2 ∨ k = 3 ∨ k = 4 ∨ k = 5 ∨ k = 6 by omega) with rfl | rfl | rfl | rfl | rfl <;> decide +kernel
  unfold anyOk1 at h
  cases hs : searchM 62 anyX (stepS k) none with
  | none => rw [hs] at h; cases h
  | some r =>
    rw [hs] at h
    simp only [Bool.and_eq_true, decide_eq_true_eq] at h
    exact ⟨r, rfl, h.1.1.1, h.1.1.2, h.1.2, h.2⟩
theorem call_any (k1 : 2 ≤ k) (k2 : k ≤ 6) (htab : TabM none w) (RA : Lins w aa ac [stepX 1]) (RB : Lins w ba bc [stepX k]) :
    Calls Tryd.prog 6 #[.pointer none, .slice aa 1 ac, .slice ba 1 bc] w (WinF false [1] 1 w) := by
  obtain ⟨r, hr, he, hq, ho, hw⟩ := far_any1 k1 k2
  have Z := far_call (X := stepX 1) (y := stepX k) htab RA RB (step_right (by omega) (by omega)) (step_right (by omega) k2) (goes_thin (X := stepX 1) (b := stepS k) (thin_step (k := 1) (by omega) (by omega)) (thin_step (by omega) k2)) hr he (by omega)
  rw [ho, hw] at Z
  exact Z
theorem call_back (k1 : 2 ≤ k) (k2 : k ≤ 6) (htab : TabM none w) (RA : Lins w aa ac [stepX k]) (RB : Lins w ba bc [stepX 1]) :
    Calls Tryd.prog 6 #[.pointer none, .slice aa 1 ac, .slice ba 1 bc] w (WinF true [] 0 w) := by
  obtain ⟨r, hr, he, hq, ho⟩ := far_back k1 k2
  have Z := far_call (X := stepX k) (y := stepX 1) htab RA RB (step_right (by omega) k2) (step_right (by omega) (by omega)) (goes_thin (X := stepX k) (b := stepS 1) (thin_step (by omega) k2) (thin_step (k := 1) (by omega) (by omega))) hr he (by omega)
  rw [ho, if_pos rfl] at Z
  exact Z
end
end Go.Proofs.YtmefmnpmppdpmabDoor

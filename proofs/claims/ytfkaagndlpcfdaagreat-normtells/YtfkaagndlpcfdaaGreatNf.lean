/- Meters that there may not be; what semi's work comes to; semi.Cat. -/
import Derived.Test.YtfkaagndlpcfdaaGreatNd
import Derived.Test.YtfkaagndlpcfdaaGreatEg
import Derived.Test.YtfkaagndlpcfdaaGreatMt
namespace Go.Proofs.YtfkaagndlpcfdaaGreat
open Go.ChangeShapes Go.WideShapes Go.ChangeAt Go.RowKit

/-- A meter, or none: its budget, what was spent, whether it is out. -/
def Mr : Type := Option (Int × Int × Bool)
def MrAt (w : World) (T : TypeId) (mp : Option Addr) (M : Mr) : Prop :=
  match M with
  | none => mp = none
  | some (B, S, o) => ∃ b, mp = some ⟨b, 0, none⟩ ∧ At w T b B S o ∧ 0 ≤ S ∧ S ≤ B ∧ B ≤ 9223372036854775807
def spendM (M : Mr) (n : Int) : Bool × Mr :=
  match M with
  | none => (true, none)
  | some (B, S, o) => (lets B S n o, some (B, next B S n o, !lets B S n o))
theorem MrAt.below {w w' : World} {T : TypeId} {mp : Option Addr} {M : Mr} (h : MrAt w T mp M) (b : Below w.heap.size w w') : MrAt w' T mp M := by
  cases M with
  | none => exact h
  | some p =>
    obtain ⟨B, S, o⟩ := p
    obtain ⟨g, e, a, r⟩ := h
    exact ⟨g, e, a.below b, r⟩
theorem MrAt.form {w : World} {T : TypeId} {mp : Option Addr} {M : Mr} (h : MrAt w T mp M) : mp = none ∨ ∃ b, mp = some ⟨b, 0, none⟩ ∧ ∃ cs, Lies w b T cs := by
  cases M with
  | none => exact .inl h
  | some p =>
    obtain ⟨B, S, o⟩ := p
    obtain ⟨g, e, a, _⟩ := h
    exact .inr ⟨g, e, _, a⟩
theorem bag_apartM {w : World} {T : TypeId} {mp : Option Addr} {M : Mr} (h : MrAt w T mp M) (hT : T ≠ 3) {a : Option Addr} {c : Nat} {xs : List Int} (r : Bag w a c xs) {g : Nat} (e : a = some ⟨g, 0, none⟩) : mp ≠ some ⟨g, 0, none⟩ := by
  intro e2
  rcases h.form with h | ⟨b, h, cs, l⟩
  · rw [h] at e2; cases e2
  · rw [h] at e2; injection e2 with e2; injection e2 with e2; subst e2
    rcases r with ⟨h1, _⟩ | ⟨g1, sp, h1, _, _, l1⟩
    · rw [h1] at e; cases e
    · rw [h1] at e; injection e with e; injection e with e; subst e
      exact l.other l1 hT rfl
theorem row_apartM {w : World} {T : TypeId} {mp : Option Addr} {M : Mr} (h : MrAt w T mp M) (hT : T ≠ 56) {a : Option Addr} {c : Nat} {xs : List Value} (r : Row w 56 a c xs) {g : Nat} (e : a = some ⟨g, 0, none⟩) : mp ≠ some ⟨g, 0, none⟩ := by
  intro e2
  rcases h.form with h | ⟨b, h, cs, l⟩
  · rw [h] at e2; cases e2
  · rw [h] at e2; injection e2 with e2; injection e2 with e2; subst e2
    rcases r with ⟨h1, _⟩ | ⟨g1, sp, h1, _, _, l1⟩
    · rw [h1] at e; cases e
    · rw [h1] at e; injection e with e; injection e with e; subst e
      exact l.other l1 hT rfl
theorem row2_apartM {w : World} {T : TypeId} {mp : Option Addr} {M : Mr} (h : MrAt w T mp M) (hT : T ≠ 60) {a : Option Addr} {c n : Nat} {xs : List Value} (r : Row2 w a c n xs) {g : Nat} (e : a = some ⟨g, 0, none⟩) : mp ≠ some ⟨g, 0, none⟩ := by
  intro e2
  rcases h.form with h | ⟨b, h, cs, l⟩
  · rw [h] at e2; cases e2
  · rw [h] at e2; injection e2 with e2; injection e2 with e2; subst e2
    obtain ⟨_, r⟩ := r
    rcases r with ⟨h1, _⟩ | ⟨g1, sp, h1, _, _, _, l1⟩
    · rw [h1] at e; cases e
    · rw [h1] at e; injection e with e; injection e with e; subst e
      exact l.other l1 hT rfl
/-- A type of meters: no list's. -/
def MT (T : TypeId) : Prop := T ≠ 3 ∧ T ≠ 56 ∧ T ≠ 60
/-- Only the meter's block has turned: what one gets beside. -/
abbrev MK (mp : Option Addr) (w w' : World) : Prop := Kept (fun g => mp = some ⟨g, 0, none⟩) w w'
theorem Lins.mk {w w' : World} {T : TypeId} {mp : Option Addr} {M : Mr} (h : MrAt w T mp M) (hT : MT T) (k : MK mp w w') {a : Option Addr} {c : Nat} {s : List Lin} (r : Lins w a c s) : Lins w' a c s := by
  obtain ⟨ls, e, P⟩ := r
  refine ⟨ls, e, P.row.kept k (fun g e => row2_apartM h hT.2.2 P.row e), fun l hl => ?_⟩
  obtain ⟨h1, ps, e, Q⟩ := P.each l hl
  exact ⟨h1.kept k (fun g e => bag_apartM h hT.1 h1 e), ps, e, Q.row.kept k (fun g e => row_apartM h hT.2.1 Q.row e), fun p hp => (Q.each p hp).kept k (fun g e => bag_apartM h hT.1 (Q.each p hp) e)⟩
theorem MK.refl (mp : Option Addr) (w : World) : MK mp w w := Kept.refl _ _
theorem MK.then {mp : Option Addr} {w w1 w2 : World} (h : MK mp w w1) (b : Below w1.heap.size w1 w2) : MK mp w w2 := h.trans (Y := fun _ => False) (Kept.of_below b) (fun _ _ e => e.elim)
theorem MK.and {mp : Option Addr} {w w1 w2 : World} (h : MK mp w w1) (k : MK mp w1 w2) : MK mp w w2 := h.trans k (fun _ _ e => e)

/-- What a Spend comes to. -/
def SpendsM (T : TypeId) (mp : Option Addr) (M : Mr) (n : Int) (w : World) (e : Ending) (w' : World) : Prop :=
  e = .returned (.bool (spendM M n).1) ∧ MrAt w' T mp (spendM M n).2 ∧ MK mp w w'
theorem spendsM_some {T : TypeId} {b : Nat} {B S n : Int} {o : Bool} {w w' : World} {e : Ending} (h0 : 0 ≤ S) (h1 : S ≤ B) (h2 : B ≤ 9223372036854775807) (h : Spends T b B S n o w e w') : SpendsM T (some ⟨b, 0, none⟩) (some (B, S, o)) n w e w' := by
  obtain ⟨he, ha, hk⟩ := h
  have := next_bd (n := n) (o := o) h0 h1
  refine ⟨he, ⟨b, rfl, ha, this.1, this.2, h2⟩, hk.kept.mono (fun i _ e => ?_)⟩
  rw [← e]
theorem spend49 (mp : Option Addr) (M : Mr) (n : Int) (w : World) (h : MrAt w 50 mp M) : Calls Tryz.prog 17 #[.pointer mp, .int .i64 n] w (SpendsM 50 mp M n w) := by
  cases M with
  | none =>
    obtain rfl : mp = none := h
    exact (spend_nil n w).mono fun e w' ⟨he, hw⟩ => by subst hw; exact ⟨he, rfl, Kept.refl _ _⟩
  | some p =>
    obtain ⟨B, S, o⟩ := p
    obtain ⟨b, rfl, a, h0, h1, h2⟩ := h
    exact (spend_any b B S n o w a h0 h1 h2).mono fun e w' hh => spendsM_some h0 h1 h2 hh
theorem spend51 (mp : Option Addr) (M : Mr) (n : Int) (w : World) (h : MrAt w 41 mp M) (hm : M ≠ none) : Calls Tryz.prog 20 #[.pointer mp, .int .i64 n] w (SpendsM 41 mp M n w) := by
  cases M with
  | none => exact absurd rfl hm
  | some p =>
    obtain ⟨B, S, o⟩ := p
    obtain ⟨b, rfl, a, h0, h1, h2⟩ := h
    exact (rspend_any b B S n o w a h0 h1 h2).mono fun e w' hh => spendsM_some h0 h1 h2 hh
theorem spendM_ne {M : Mr} {n : Int} (h : M ≠ none) : (spendM M n).2 ≠ none := by
  cases M with
  | none => exact absurd rfl h
  | some p => exact Option.some_ne_none _

/-- What a call that works comes to: a row, an error's number, the meter; N tells of each linear set of the row. -/
def WorksN (N : World → Nat → Lb → Prop) (T : TypeId) (mp : Option Addr) (r : List Lin × Int × Mr) (w : World) (e : Ending) (w' : World) : Prop :=
  ∃ a c ls, lins ls = r.1 ∧ e = .returned (.tuple #[.slice a r.1.length c, .int .i64 r.2.1]) ∧ Lbs w' a c ls ∧ From w.heap.size a ∧ (∀ l ∈ ls, N w' w.heap.size l) ∧ MrAt w' T mp r.2.2 ∧ MK mp w w'
theorem worksN_none {N : World → Nat → Lb → Prop} {T : TypeId} {mp : Option Addr} {r : List Lin × Int × Mr} {q : Int} {M : Mr} {w w' : World} (h : r = ([], q, M)) (m : MrAt w' T mp M) (k : MK mp w w') : WorksN N T mp r w (.returned (.tuple #[.slice none 0 0, .int .i64 q])) w' := by
  subst h
  exact ⟨none, 0, [], rfl, rfl, Lbs.nil _, From.none _, fun l h => by simp at h, m, k⟩
def Any3 (_ : World) (_ : Nat) (_ : Lb) : Prop := True
abbrev Works := WorksN NewLin
abbrev WorksR := WorksN Any3
def catM (M : Mr) (s t : List Lin) : List Lin × Int × Mr :=
  if rightS s && rightS t then
    (if (spendM M ((s.length * t.length : Nat) : Int)).1 then (if catsOk s t then (catS s t, 0, (spendM M ((s.length * t.length : Nat) : Int)).2) else ([], 3, (spendM M ((s.length * t.length : Nat) : Int)).2))
     else ([], 7, (spendM M ((s.length * t.length : Nat) : Int)).2))
  else ([], 1, M)
theorem takeN_snoc {l : List Lin} {k : Nat} (hk : k < l.length) : l.take (k + 1) = l.take k ++ [linAt l k] := by
  rw [List.take_succ_eq_append_getElem hk]; simp [linAt, List.getD, hk]
/-- All sums of the first k of s with t. -/
theorem catsL_take {s t : List Lin} {k : Nat} (hk : k < s.length) : catsL (s.take (k + 1)) t = catsL (s.take k) t ++ t.map (fun y => catLin (linAt s k) y) := by
  rw [takeN_snoc hk]
  simp [catsL, prodS, List.flatMap_append, List.map_flatMap, Function.comp_def]
theorem catsOk_at {s t : List Lin} : catsOk s t = true ↔ ∀ i j, i < s.length → j < t.length → catOk (linAt s i) (linAt t j) = true := by
  unfold catsOk
  rw [List.all_eq_true]
  constructor
  · intro h i j hi hj
    have e1 : linAt s i = s[i] := by simp [linAt, List.getD, hi]
    have e2 : linAt t j = t[j] := by simp [linAt, List.getD, hj]
    rw [e1, e2]
    exact h (s[i], t[j]) (prod_mem.2 ⟨List.getElem_mem hi, List.getElem_mem hj⟩)
  · intro h p hp
    obtain ⟨h1, h2⟩ := prod_mem.1 hp
    obtain ⟨i, hi, e1⟩ := List.getElem_of_mem h1
    obtain ⟨j, hj, e2⟩ := List.getElem_of_mem h2
    have := h i j hi hj
    have f1 : linAt s i = s[i] := by simp [linAt, List.getD, hi]
    have f2 : linAt t j = t[j] := by simp [linAt, List.getD, hj]
    rw [f1, f2, e1, e2] at this
    exact this
/-- Linear sets made so far; N tells of each. -/
structure AccN (N : World → Nat → Lb → Prop) (w : World) (oa : Option Addr) (oc m : Nat) (ls : List Lb) (W : World) : Prop where
  bel : Below w.heap.size w W
  row : Lbs W oa oc ls
  num : ls.length = m
  own : From w.heap.size oa
  new : ∀ l ∈ ls, N W w.heap.size l
/-- A word on linear sets that stays where rows turn and new memory is made. -/
structure Stays (N : World → Nat → Lb → Prop) : Prop where
  below : ∀ {w w' : World} {B : Nat} {l : Lb}, N w B l → Below w.heap.size w w' → N w' B l
  mono : ∀ {w : World} {B B' : Nat} {l : Lb}, N w B l → B' ≤ B → N w B' l
  kept : ∀ {w w' : World} {a : Option Addr} {c n B : Nat} {xs : List Value}, Row2 w a c n xs → Kept (fun g => a = some ⟨g, 0, none⟩) w w' → ∀ {l : Lb}, N w B l → N w' B l
theorem stays_new : Stays NewLin := ⟨fun h b => h.below b, fun h b => h.mono b, fun r k _ h => keptNew r k h⟩
theorem stays_any : Stays Any3 := ⟨fun _ _ => trivial, fun _ _ => trivial, fun _ _ _ _ => trivial⟩
section
variable {N : World → Nat → Lb → Prop} {w W W' : World} {oa : Option Addr} {oc m : Nat} {ls : List Lb}
theorem AccN.nil (N : World → Nat → Lb → Prop) (w : World) : AccN N w none 0 0 [] w := ⟨Below.refl _ _, Lbs.nil _, rfl, From.none _, fun l h => by simp at h⟩
theorem AccN.below (s : Stays N) (h : AccN N w oa oc m ls W) (k : Below W.heap.size W W') : AccN N w oa oc m ls W' :=
  ⟨h.bel.trans (k.mono h.bel.size), h.row.below k, h.num, h.own, fun l hl => s.below (h.new l hl) k⟩
set_option maxRecDepth 100000 in
theorem AccN.push (s : Stays N) (t : TypeId) (hu : Tryz.prog.underlying t = some (.slice 60)) (h : AccN N w oa oc m ls W) (hm : m ≤ 100000000000) (l : Lb) (n q : Nat) (hn : l.x.base.length = n) (hq : l.x.ps.length = q)
    (hl : Bag W l.a l.c l.x.base ∧ Bags W l.pa l.pc l.x.ps) (hw : N W w.heap.size l) :
    ∃ a2 c2 w2, (Builtin.append_ #[t, t] t #[.slice oa m oc, .slice (some ⟨W.heap.size, 0, none⟩) 1 1]).run Tryz.prog (W.alloc (.cells #[.slice l.a n l.c, .slice l.pa q l.pc] 60)) = .ok (.slice a2 (m + 1) c2) w2 ∧
      AccN N w a2 c2 (m + 1) (ls ++ [l]) w2 ∧ (∀ g cs, Lies W g 60 cs → oa ≠ some ⟨g, 0, none⟩ → Lies w2 g 60 cs ∧ a2 ≠ some ⟨g, 0, none⟩) := by
  have b1 := below_alloc W (.cells #[.slice l.a n l.c, .slice l.pa q l.pc] 60)
  have h1 := h.below s b1
  have rk : Row2 (W.alloc (.cells #[.slice l.a n l.c, .slice l.pa q l.pc] 60)) oa oc m (lflat ls) := by
    have := h1.row.row
    rwa [h1.num] at this
  have rn := row2_new (V := W) l n q hn hq
  obtain ⟨v2, w4, hr2, A2⟩ := run_app2_at t t hu oa oc m (lflat ls) _ rk ⟨W.heap.size, 0, none⟩ 1 1 (lflat [l]) rfl (fun j u hj => by
    obtain ⟨g', e', hc⟩ := rn.cell hj
    injection e' with e'; injection e' with e'; subst e'
    rw [Addr.add_lit, Nat.zero_add]; exact hc) (lflat_one _) (by omega)
  obtain ⟨B2, F2⟩ := A2.below (B := w.heap.size) h1.bel.size h1.own
  obtain ⟨a2, c2, rfl, r2, k2, f2⟩ := A2
  have F2 := F2 _ _ _ rfl
  have hlen : (ls ++ [l]).length = m + 1 := by rw [List.length_append, h.num]; rfl
  refine ⟨a2, c2, w4, hr2, ⟨h1.bel.trans B2, ⟨by rw [hlen, lflat_app]; exact r2, fun p hp => ?_⟩, hlen, F2, fun p hp => ?_⟩, fun g cs lg hg => ⟨(lg.below b1 lg.lt).kept k2 hg, fun e => ?_⟩⟩
  · rcases List.mem_append.1 hp with hp | hp
    · exact keptBag rk k2 (h1.row.each p hp)
    · obtain rfl := List.mem_singleton.1 hp
      exact keptBag rk k2 ⟨hl.1.below b1, hl.2.below b1⟩
  · rcases List.mem_append.1 hp with hp | hp
    · exact s.kept rk k2 (h1.new p hp)
    · obtain rfl := List.mem_singleton.1 hp
      exact s.kept rk k2 (s.below hw b1)
  · rcases f2 g e with h3 | h3
    · exact hg h3
    · have := lg.lt
      have := b1.size
      omega
end
set_option maxRecDepth 100000 in
theorem mul_fits {n m : Nat} (h : n * m ≤ 100000000000) : IntKind.i64.wrap ((n : Int) * (m : Int)) = ((n * m : Nat) : Int) := by
  rw [← Int.natCast_mul]
  exact IntWalk.i64_in _ (by omega)
theorem catM_1 {M : Mr} {s t : List Lin} (h : rightS s = false ∨ rightS t = false) : catM M s t = ([], 1, M) := by
  unfold catM
  have : (rightS s && rightS t) = false := by rcases h with h | h <;> simp [h]
  rw [this]; rfl
theorem catM_7 {M : Mr} {s t : List Lin} (h : rightS s = true) (k : rightS t = true) {p : Bool × Mr} (e : spendM M ((s.length * t.length : Nat) : Int) = p) (hp : p.1 = false) : catM M s t = ([], 7, p.2) := by
  unfold catM
  rw [h, k, e, hp]; rfl
theorem catM_3 {M : Mr} {s t : List Lin} (h : rightS s = true) (k : rightS t = true) {p : Bool × Mr} (e : spendM M ((s.length * t.length : Nat) : Int) = p) (hp : p.1 = true) (c : catsOk s t = false) : catM M s t = ([], 3, p.2) := by
  unfold catM
  rw [h, k, e, hp, c]; rfl
theorem catM_0 {M : Mr} {s t : List Lin} (h : rightS s = true) (k : rightS t = true) {p : Bool × Mr} (e : spendM M ((s.length * t.length : Nat) : Int) = p) (hp : p.1 = true) (c : catsOk s t = true) : catM M s t = (catS s t, 0, p.2) := by
  unfold catM
  rw [h, k, e, hp, c]; rfl

set_option maxRecDepth 100000 in
set_option maxHeartbeats 4000000 in
theorem cat22 (mp a b : Option Addr) (c d : Nat) (M : Mr) (s t : List Lin) (w : World) (h0 : MrAt w 50 mp M) (R : Lins w a c s) (S : Lins w b d t) (hs : s.length * t.length ≤ 100000000000) (hp : ∀ i j, (linAt s i).ps.length + (linAt t j).ps.length ≤ 100000000000) :
    Calls Tryz.prog 34 #[.pointer mp, .slice a s.length c, .slice b t.length d] w (Works 50 mp (catM M s t) w) := by
  have hle := R.le
  have hle' := S.le
  have Z := right11 a c s w R
  generalize hn : s.length = n at hle hs Z ⊢
  generalize hm : t.length = m at hle' hs ⊢
  have HN := Lib.hid hn
  have HM := Lib.hid hm
  have HR := Lib.hid R
  have HS := Lib.hid S
  have HMM := Lib.hid h0
  have HPS := Lib.hid hp
  have HFIT := Lib.hid hs
  generalize hv : rightS s = v at Z
  have HV := Lib.hid hv
  have HZ := Lib.hid Z
  clear R S hn hm Z hv hp h0
  go_enter Tryz.func34, Tryz.ntmps34
  go_wp2_with (fail)
  refine HZ.out.mono ?_
  rintro e w1 ⟨rfl, b1⟩
  have HB1 := Lib.hid b1
  clear b1 HZ
  cases v with
  | false =>
    have HF : Hid (Works 50 mp (catM M s t) w (.returned (.tuple #[.slice none 0 0, .int .i64 1])) w1) := Lib.hid (worksN_none (catM_1 (.inl HV.out)) (HMM.out.below HB1.out) ((MK.refl mp w).then HB1.out))
    go_wp2
    exact bodyPost_ret (v := .tuple #[.slice none 0 0, .int .i64 1]) (by simp [results, Tryz.results34, go_sem]) rfl HF.out
  | true =>
    have Z := right11 b d t w1 (HS.out.below HB1.out)
    rw [HM.out] at Z
    generalize hv : rightS t = v at Z
    have HV2 := Lib.hid hv
    have HZ := Lib.hid Z
    clear Z hv
    go_wp2_with (fail)
    refine HZ.out.mono ?_
    rintro e w2 ⟨rfl, b2⟩
    have HB2 := Lib.hid (HB1.out.trans (b2.mono HB1.out.size))
    clear b2 HZ HB1
    cases v with
    | false =>
      have HF : Hid (Works 50 mp (catM M s t) w (.returned (.tuple #[.slice none 0 0, .int .i64 1])) w2) := Lib.hid (worksN_none (catM_1 (.inr HV2.out)) (HMM.out.below HB2.out) ((MK.refl mp w).then HB2.out))
      go_wp2
      exact bodyPost_ret (v := .tuple #[.slice none 0 0, .int .i64 1]) (by simp [results, Tryz.results34, go_sem]) rfl HF.out
    | true =>
      have hmul := mul_fits HFIT.out
      have Z : Calls Tryz.prog _ #[.pointer mp, .int .i64 ((n * m : Nat) : Int)] w2 _ := spend49 mp M _ _ (HMM.out.below HB2.out)
      unfold SpendsM at Z
      generalize hq : spendM M ((n * m : Nat) : Int) = q at Z
      have HQ : Hid (spendM M ((s.length * t.length : Nat) : Int) = q) := Lib.hid (by rw [HN.out, HM.out]; exact hq)
      clear hq
      obtain ⟨v, M1⟩ := q
      have HZ := Lib.hid Z
      clear Z
      generalize hnm : ((n * m : Nat) : Int) = nm at hmul HZ
      go_wp2_with (fail)
      refine HZ.out.mono ?_
      rintro e w3 ⟨rfl, m3, k3⟩
      clear hmul hnm HZ
      have HK3 := Lib.hid (((MK.refl mp w).then HB2.out).and k3)
      have HR3 := Lib.hid ((HR.out.below HB2.out).mk (HMM.out.below HB2.out) (by unfold MT; decide) k3)
      have HS3 := Lib.hid ((HS.out.below HB2.out).mk (HMM.out.below HB2.out) (by unfold MT; decide) k3)
      have HM3 := Lib.hid m3
      have HSZ : Hid (w.heap.size ≤ w3.heap.size) := Lib.hid HK3.out.size
      clear m3 k3 HB2
      cases v with
      | false =>
        have HF : Hid (Works 50 mp (catM M s t) w (.returned (.tuple #[.slice none 0 0, .int .i64 7])) w3) := Lib.hid (worksN_none (catM_7 HV.out HV2.out HQ.out rfl) HM3.out HK3.out)
        go_wp2
        exact bodyPost_ret (v := .tuple #[.slice none 0 0, .int .i64 7]) (by simp [results, Tryz.results34, go_sem]) rfl HF.out
      | true =>
        clear HR HS HMM
        go_wp2
        go_loopw [6, 7, 8, 33] (fun r er al i wr => ∃ (k : Nat) (oa : Option Addr) (oc : Nat) (ls : List Lb), k ≤ n ∧ r = .slice none 0 0 ∧ er = .int .i64 0 ∧ al = .slice oa (k * m) oc ∧ i = .int .i64 k ∧ Hid (AccN NewLin w3 oa oc (k * m) ls wr) ∧ Hid (lins ls = catsL (s.take k) t) ∧ Hid (∀ i j, i < k → j < m → catOk (linAt s i) (linAt t j) = true)) (fun _ _ _ i _ => n - (intOf i).toNat)
        case atStart => exact ⟨0, none, 0, [], Nat.zero_le _, rfl, rfl, by rw [Nat.zero_mul], rfl, Lib.hid (by rw [Nat.zero_mul]; exact AccN.nil _ _), Lib.hid rfl, Lib.hid (fun i j h => by omega)⟩
        case round =>
          obtain ⟨k, oa, oc, ls, hk, rfl, rfl, rfl, rfl, HT, HA, HG⟩ := hrel
          have hlo := HT.out.row.row.le
          rw [HT.out.num] at hlo
          have hkm : k * m ≤ n * m := Nat.mul_le_mul_right m hk
          have hfit := HFIT.out
          by_cases hlt : k < n
          · obtain ⟨g, b1, d1, p1, q1, e1, c0', c1', r1, t1⟩ := HR3.out.at (k := k) (by rw [HN.out]; exact hlt)
            have c0 := (HT.out.bel.cell (p := ⟨g, k * 2, none⟩) (HR3.out.lt e1)).trans c0'
            have c1 := (HT.out.bel.cell (p := ⟨g, k * 2 + 1, none⟩) (HR3.out.lt e1)).trans c1'
            clear c0' c1'
            have HTK := Lib.hid (catsL_take (t := t) (k := k) (s := s) (by rw [HN.out]; exact hlt))
            have hkm1 : (k + 1) * m ≤ n * m := Nat.mul_le_mul_right m hlt
            rw [Nat.add_mul, Nat.one_mul] at hkm1
            generalize hx : linAt s k = x at c0 c1 r1 t1 HTK
            have HX := Lib.hid hx
            have bb := below_alloc wr (.cells #[.slice b1 x.base.length d1, .slice p1 x.ps.length q1] 60)
            have HTW := Lib.hid (HT.out.below stays_new bb)
            have L := Lies.new wr 60 [.slice b1 x.base.length d1, .slice p1 x.ps.length q1]
            have HXM := Lib.hid (And.intro r1 t1)
            have HNE : Hid (oa ≠ some ⟨wr.heap.size, 0, none⟩) := Lib.hid (fun e => Nat.lt_irrefl _ (HT.out.row.row.lt e))
            have hl0 := r1.le
            have hl1 := t1.le
            generalize hu0 : x.base.length = u0 at c0 L HTW HXM hl0
            generalize hu1 : x.ps.length = u1 at c1 L HTW HXM hl1
            have HU0 := Lib.hid hu0
            have HU1 := Lib.hid hu1
            have HL := Lib.hid L
            clear L hx hu0 hu1 r1 t1 bb
            subst e1
            go_upto_region 9 with (fail)
            clear c0 c1 HT
            generalize wr.alloc (.cells #[.slice b1 u0 d1, .slice p1 u1 q1] 60) = W at HTW HL ⊢
            generalize wr.heap.size = gb at HL HNE ⊢
            go_wp2
            go_loopw [6, 7, 8, 39] (fun r er al i wr => ∃ (j : Nat) (oa : Option Addr) (oc : Nat) (ls : List Lb), j ≤ m ∧ r = .slice none 0 0 ∧ er = .int .i64 0 ∧ al = .slice oa (k * m + j) oc ∧ i = .int .i64 j ∧ Hid (AccN NewLin w3 oa oc (k * m + j) ls wr) ∧ Hid (Lies wr gb 60 [.slice b1 u0 d1, .slice p1 u1 q1] ∧ oa ≠ some ⟨gb, 0, none⟩) ∧ Hid (lins ls = catsL (s.take k) t ++ (t.take j).map (fun y => catLin x y)) ∧ Hid (∀ j', j' < j → catOk x (linAt t j') = true)) (fun _ _ _ i _ => m - (intOf i).toNat)
            case atStart => exact ⟨0, oa, oc, ls, Nat.zero_le _, rfl, rfl, rfl, rfl, HTW, Lib.hid ⟨HL.out, HNE.out⟩, Lib.hid (by rw [HA.out]; simp), Lib.hid (fun i h => by omega)⟩
            case round =>
              obtain ⟨j, ob, od, ks, hj, rfl, rfl, rfl, rfl, HT, HW, HA2, HG2⟩ := hrel
              have hlo := HT.out.row.row.le
              rw [HT.out.num] at hlo
              by_cases hlt2 : j < m
              · obtain ⟨g2, b2, d2, p2, q2, e2, c0, c1, r2, t2⟩ := (HS3.out.below HT.out.bel).at (k := j) (by rw [HM.out]; exact hlt2)
                have HTJ : Hid ((t.take (j + 1)).map (fun y => catLin x y) = (t.take j).map (fun y => catLin x y) ++ [catLin x (linAt t j)]) := Lib.hid (by rw [takeN_snoc (by rw [HM.out]; exact hlt2)]; simp)
                have hpl := HPS.out k j
                rw [HX.out, HU1.out] at hpl
                generalize hy : linAt t j = y at c0 c1 r2 t2 HTJ hpl
                have HY := Lib.hid hy
                have bb := below_alloc wr (.cells #[.slice b2 y.base.length d2, .slice p2 y.ps.length q2] 60)
                have HTV := Lib.hid (HT.out.below stays_new bb)
                have L2 := Lies.new wr 60 [.slice b2 y.base.length d2, .slice p2 y.ps.length q2]
                have L1 := HW.out.1.alloc (.cells #[.slice b2 y.base.length d2, .slice p2 y.ps.length q2] 60)
                have HBW := Lib.hid bb
                have Z := cat11 b1 p1 b2 p2 d1 q1 d2 q2 x y _ (HXM.out.1.below HTV.out.bel) (HXM.out.2.below HTV.out.bel) (r2.below bb) (t2.below bb) (by rw [HU1.out]; exact hpl)
                rw [HU0.out, HU1.out] at Z
                have hl2 := r2.le
                have hl3 := t2.le
                generalize hv : catOk x y = v at Z
                have HVV := Lib.hid hv
                generalize y.base.length = u2 at c0 L2 L1 HTV HBW Z hl2
                generalize y.ps.length = u3 at c1 L2 L1 HTV HBW Z hl3
                have HZ := Lib.hid Z
                have HLX := Lib.hid L1
                have HLY := Lib.hid L2
                have HNV : Hid (ob ≠ some ⟨gb, 0, none⟩) := Lib.hid HW.out.2
                clear Z L1 L2 hy hv r2 t2 bb hpl
                subst e2
                go_upto_region 12 with (fail)
                clear c0 c1 HT HW
                generalize wr.alloc (.cells #[.slice b2 u2 d2, .slice p2 u3 q2] 60) = V at HTV HBW HLX HLY HZ ⊢
                generalize wr.heap.size = gv at HLY ⊢
                have k0 := HLX.out.cell 0
                have k1 := HLX.out.cell 1
                have j0 := HLY.out.cell 0
                have j1 := HLY.out.cell 1
                simp only [List.getElem?_cons_zero, List.getElem?_cons_succ] at k0 k1 j0 j1
                go_wp2_with (fail)
                refine HZ.out.mono ?_
                rintro e w4 ⟨a3, c3, pa3, pc3, qs, hqs, he, B3, P3, F1, F2, F3, bw⟩
                clear HZ k0 k1 j0 j1
                have HT4 := Lib.hid (HTV.out.below stays_new bw)
                have HL4 := Lib.hid (HLX.out.below bw HLX.out.lt)
                have hz0 := B3.le
                have sz : w3.heap.size ≤ V.heap.size := HTV.out.bel.size
                have HMEM : Hid ((Bag w4 a3 c3 (catLin x y).base ∧ Bags w4 pa3 pc3 (catLin x y).ps) ∧ NewLin w4 w3.heap.size ⟨a3, c3, pa3, pc3, catLin x y⟩) := Lib.hid ⟨⟨B3, ⟨qs, hqs, P3⟩⟩, ⟨F1.mono sz, F2.mono sz, qs, hqs, P3, fun p hp => (F3 p hp).mono sz⟩⟩
                have hz1 := HMEM.out.1.2.le
                clear B3 P3 bw sz HTV HBW HLX HLY
                generalize hu4 : (catLin x y).base.length = u4 at hz0 he
                generalize hu5 : (catLin x y).ps.length = u5 at hz1 he
                have HU4 := Lib.hid hu4
                have HU5 := Lib.hid hu5
                clear hu4 hu5
                subst he
                have ba := below_alloc w4 (.cells #[.slice a3 u4 c3, .slice pa3 u5 pc3] 60)
                have HT5 := Lib.hid (HT4.out.below stays_new ba)
                have HL5 := Lib.hid (HL4.out.below ba HL4.out.lt)
                have HM5 := Lib.hid (And.intro (HMEM.out.1.1.below ba) (HMEM.out.1.2.below ba))
                have HN5 := Lib.hid (stays_new.below HMEM.out.2 ba)
                have HLW := Lib.hid (Lies.new w4 60 [.slice a3 u4 c3, .slice pa3 u5 pc3])
                clear ba HMEM HT4 HL4
                go_upto_region 13 with (fail)
                generalize w4.alloc (.cells #[.slice a3 u4 c3, .slice pa3 u5 pc3] 60) = V5 at HT5 HL5 HM5 HN5 HLW ⊢
                generalize w4.heap.size = gw at HLW ⊢
                cases v with
                | false =>
                  have HK : Hid (catsOk s t = false) := Lib.hid (by
                    rw [← Bool.not_eq_true, catsOk_at]
                    intro h
                    have := h k j (by rw [HN.out]; exact hlt) (by rw [HM.out]; exact hlt2)
                    rw [HX.out, HY.out, HVV.out] at this
                    exact Bool.false_ne_true this)
                  have HF : Hid (Works 50 mp (catM M s t) w (.returned (.tuple #[.slice none 0 0, .int .i64 3])) V5) := Lib.hid (worksN_none (catM_3 HV.out HV2.out HQ.out rfl HK.out) (HM3.out.below HT5.out.bel) (HK3.out.then HT5.out.bel))
                  go_wp2
                  exact bodyPost_ret (v := .tuple #[.slice none 0 0, .int .i64 3]) (by simp [results, Tryz.results34, go_sem]) rfl HF.out
                | true =>
                  obtain ⟨a6, c6, w6, hr, T6, G6⟩ := HT5.out.push stays_new 32 Tryz.underlying32 (by omega) ⟨a3, c3, pa3, pc3, catLin x y⟩ u4 u5 HU4.out HU5.out HM5.out HN5.out
                  have e6 : k * m + j + 1 = k * m + (j + 1) := by omega
                  rw [e6] at hr T6
                  have HT6 := Lib.hid T6
                  have HW6 := Lib.hid (G6 gb _ HL5.out HNV.out)
                  have HA6 : Hid (lins (ks ++ [⟨a3, c3, pa3, pc3, catLin x y⟩]) = catsL (s.take k) t ++ (t.take (j + 1)).map (fun y => catLin x y)) := Lib.hid (by
                    rw [HTJ.out, ← List.append_assoc, ← HA2.out]; simp [lins])
                  have HG6 : Hid (∀ j', j' < j + 1 → catOk x (linAt t j') = true) := Lib.hid (fun j' hj' => by
                    by_cases e : j' = j
                    · rw [e, HY.out]; exact HVV.out
                    · exact HG2.out j' (by omega))
                  have x0 := HLW.out.cell 0
                  have x1 := HLW.out.cell 1
                  simp only [List.getElem?_cons_zero, List.getElem?_cons_succ] at x0 x1
                  clear T6 G6
                  go_wp2_with (at_builtin; refine Lib.wpList_append_run _ rfl _ _ _ _ rfl _ _ rfl rfl _ _ hr ?_)
                  go_roundw
                  case rel => exact ⟨j + 1, a6, c6, _, by omega, rfl, rfl, rfl, by go_num, HT6, HW6, HA6, HG6⟩
                  case measure => simp [intOf]; omega
              · obtain rfl : j = m := by omega
                have HA7 : Hid (lins ks = catsL (s.take (k + 1)) t) := Lib.hid (by
                  rw [HTK.out, HA2.out, List.take_of_length_le (l := t) (by rw [HM.out]; exact Nat.le_refl _)])
                have e7 : k * j + j = (k + 1) * j := by rw [Nat.add_mul, Nat.one_mul]
                have HT7 : Hid (AccN NewLin w3 ob od ((k + 1) * j) ks wr) := Lib.hid (by rw [← e7]; exact HT.out)
                have HG7 : Hid (∀ i' j', i' < k + 1 → j' < j → catOk (linAt s i') (linAt t j') = true) := Lib.hid (fun i' j' hi hj => by
                  by_cases e : i' = k
                  · rw [e, HX.out]; exact HG2.out j' hj
                  · exact HG.out i' j' (by omega) hj)
                rw [e7]
                go_wp2
                go_roundw
                case rel => exact ⟨k + 1, ob, od, ks, by omega, rfl, rfl, rfl, by go_num, HT7, HA7, HG7⟩
                case measure => simp [intOf]; omega
          · obtain rfl : k = n := by omega
            have HAA : Hid (lins ls = catsL s t) := Lib.hid (by have := HA.out; rwa [List.take_of_length_le (by rw [HN.out]; exact Nat.le_refl _)] at this)
            have HOK : Hid (catsOk s t = true) := Lib.hid (catsOk_at.2 (fun i j hi hj => HG.out i j (by rw [HN.out] at hi; exact hi) (by rw [HM.out] at hj; exact hj)))
            have HZ := Lib.hid (ordered_any oa oc (k * m) ls wr HT.out.row HT.out.num hfit (fun p hp => by
              have : p.x ∈ catsL s t := by rw [← HAA.out]; exact List.mem_map.2 ⟨p, hp, rfl⟩
              exact cats_good HOK.out _ this))
            go_wp2_with (fail)
            refine HZ.out.mono ?_
            rintro e w4 ⟨o, rfl, B4, K4, s4, h4⟩
            have hlo4 := B4.row.le
            have HF : Hid (Works 50 mp (catM M s t) w (.returned (.tuple #[.slice oa o.length oc, .int .i64 0])) w4) := Lib.hid (by
              have e1 : lins o = catS s t := by rw [h4, HAA.out]; rfl
              rw [catM_0 HV.out HV2.out HQ.out rfl HOK.out]
              have r := HT.out.row.row
              have bb : Below w3.heap.size w3 w4 := HT.out.bel.trans (K4.below (fun g e => HT.out.own g e) HT.out.bel.size)
              exact ⟨oa, oc, o, e1, by rw [← e1, lins_len], B4, HT.out.own.mono HSZ.out, fun l hl => (keptNew r K4 (HT.out.new l (s4 l hl))).mono HSZ.out, HM3.out.below bb, HK3.out.then bb⟩)
            generalize o.length = q at HF hlo4 ⊢
            clear B4 K4 s4 h4 HZ
            go_wp2
            exact bodyPost_ret (v := .tuple #[.slice oa q oc, .int .i64 0]) (by simp [results, Tryz.results34, go_sem]) rfl HF.out
end Go.Proofs.YtfkaagndlpcfdaaGreat

/-! semi.points, semi.Star, semi.Pow. -/
namespace Go.Proofs.YtfkaagndlpcfdaaGreat
open Go.ChangeShapes Go.WideShapes Go.ChangeAt Go.RowKit

def pointsS (s : List Lin) : Bool := s.all pointLin
def basesS (s : List Lin) : List (List Int) := s.map Lin.base
def starM (M : Mr) (s : List Lin) : List Lin × Int × Mr :=
  if rightS s && pointsS s then (if (spendM M ((s.length : Nat) : Int)).1 then ([ofLin [] (basesS s)], 0, (spendM M ((s.length : Nat) : Int)).2) else ([], 7, (spendM M ((s.length : Nat) : Int)).2)) else ([], 1, M)
theorem starM_1 {M : Mr} {s : List Lin} (h : rightS s = false ∨ pointsS s = false) : starM M s = ([], 1, M) := by
  unfold starM
  have : (rightS s && pointsS s) = false := by rcases h with h | h <;> simp [h]
  rw [this]; rfl
theorem starM_7 {M : Mr} {s : List Lin} (h : rightS s = true) (k : pointsS s = true) {p : Bool × Mr} (e : spendM M ((s.length : Nat) : Int) = p) (hp : p.1 = false) : starM M s = ([], 7, p.2) := by
  unfold starM
  rw [h, k, e, hp]; rfl
theorem starM_0 {M : Mr} {s : List Lin} (h : rightS s = true) (k : pointsS s = true) {p : Bool × Mr} (e : spendM M ((s.length : Nat) : Int) = p) (hp : p.1 = true) : starM M s = ([ofLin [] (basesS s)], 0, p.2) := by
  unfold starM
  rw [h, k, e, hp]; rfl
theorem pointsS_at {s : List Lin} : pointsS s = true ↔ ∀ j, j < s.length → pointLin (linAt s j) = true := by
  unfold pointsS
  rw [List.all_eq_true]
  constructor
  · intro h j hj
    have e : linAt s j = s[j] := by simp [linAt, List.getD, hj]
    rw [e]; exact h _ (List.getElem_mem hj)
  · intro h z hz
    obtain ⟨j, hj, rfl⟩ := List.getElem_of_mem hz
    have e : linAt s j = s[j] := by simp [linAt, List.getD, hj]
    rw [← e]; exact h j hj
theorem basesS_take {s : List Lin} {k : Nat} (hk : k < s.length) : basesS (s.take (k + 1)) = basesS (s.take k) ++ [(linAt s k).base] := by
  rw [takeN_snoc hk]; simp [basesS]
theorem basesS_short {s : List Lin} (h : GoodS s) (j : Nat) : ((basesS s).getD j []).length ≤ 1000 := by
  rw [List.getD_eq_getElem?_getD]
  by_cases hj : j < (basesS s).length
  · rw [List.getElem?_eq_getElem hj]
    have : (basesS s)[j] ∈ basesS s := List.getElem_mem hj
    obtain ⟨x, hx, e⟩ := List.mem_map.1 this
    have h1 := (right_iff.1 (rightLin_iff.1 (h x hx)).1).1
    simp only [Option.getD_some]
    rw [← e]; omega
  · rw [List.getElem?_eq_none (by omega)]; exact Nat.zero_le _
/-- The words taken so far: the row is new memory. -/
structure AccB (w : World) (qa : Option Addr) (qc m : Nat) (qs : List Bg) (W : World) : Prop where
  bel : Below w.heap.size w W
  row : Bgs W qa qc qs
  num : qs.length = m
  own : From w.heap.size qa
theorem AccB.nil (w : World) : AccB w none 0 0 [] w := ⟨Below.refl _ _, Bgs.nil _, rfl, From.none _⟩
theorem AccB.below {w W W' : World} {qa : Option Addr} {qc m : Nat} {qs : List Bg} (h : AccB w qa qc m qs W) (k : Below W.heap.size W W') : AccB w qa qc m qs W' :=
  ⟨h.bel.trans (k.mono h.bel.size), h.row.below k, h.num, h.own⟩
theorem AccB.push {w W : World} {qa : Option Addr} {qc m : Nat} {qs : List Bg} (h : AccB w qa qc m qs W) {b : Option Addr} {d n : Nat} {ys : List Int} (R : Bag W b d ys) (hn : ys.length = n) (hm : m ≤ 100000000000) :
    ∃ a2 c2 w2, (Builtin.append_ #[58, 58] 58 #[.slice qa m qc, .slice (some ⟨W.heap.size, 0, none⟩) 1 1]).run Tryz.prog (W.alloc (.cells #[.slice b n d] 56)) = .ok (.slice a2 (m + 1) c2) w2 ∧ AccB w a2 c2 (m + 1) (qs ++ [⟨b, d, ys⟩]) w2 := by
  obtain ⟨a2, c2, w2, hr, B2, K2, f2⟩ := app1 qa qc m qs W h.row h.num b d n ys R hn hm
  obtain ⟨F2, b2⟩ := f2 w.heap.size h.bel.size h.own
  exact ⟨a2, c2, w2, hr, h.bel.trans b2, B2, by rw [List.length_append, h.num]; rfl, F2⟩

set_option maxHeartbeats 1000000 in
theorem points53 (a : Option Addr) (c : Nat) (s : List Lin) (w : World) (R : Lins w a c s) :
    Calls Tryz.prog 49 #[.slice a s.length c] w (TellsB (pointsS s) w) := by
  have hle := R.le
  generalize hn : s.length = n at hle ⊢
  have HN := Lib.hid hn
  have HR := Lib.hid R
  clear R hn
  go_enter Tryz.func49, Tryz.ntmps49
  go_wp2
  go_loopw [2, 7] (fun r i wr => ∃ k : Nat, k ≤ n ∧ r = .bool false ∧ i = .int .i64 k ∧ Hid (Below w.heap.size w wr) ∧ Hid (∀ j, j < k → pointLin (linAt s j) = true)) (fun _ i _ => n - (intOf i).toNat)
  case atStart => exact ⟨0, Nat.zero_le _, rfl, rfl, Lib.hid (Below.refl _ _), Lib.hid (fun j h => by omega)⟩
  case round =>
    obtain ⟨k, hk, rfl, rfl, HB, HG⟩ := hrel
    by_cases hlt : k < n
    · obtain ⟨g, b, d, pb, pd, e1, c0, c1, r1, t1⟩ := (HR.out.below HB.out).at (k := k) (by rw [HN.out]; exact hlt)
      generalize hx : linAt s k = x at c0 c1 r1 t1
      have HX := Lib.hid hx
      have bb := below_alloc wr (.cells #[.slice b x.base.length d, .slice pb x.ps.length pd] 60)
      have HBW := Lib.hid (HB.out.trans (bb.mono HB.out.size))
      have Z := point15 b pb d pd x _ (r1.below bb) (t1.below bb)
      generalize hv : pointLin x = v at Z
      have HV := Lib.hid hv
      have hl0 := r1.le
      have hl1 := t1.le
      generalize x.base.length = u0 at c0 Z HBW hl0
      generalize x.ps.length = u1 at c1 Z HBW hl1
      have HZ := Lib.hid Z
      clear Z hx hv r1 t1 bb
      subst e1
      go_wp2_with (fail)
      refine HZ.out.mono ?_
      rintro e w1 ⟨rfl, bw⟩
      have HB1 := Lib.hid (HBW.out.trans (bw.mono HBW.out.size))
      clear bw HZ HBW c0 c1
      cases v with
      | false =>
        have HK : Hid (pointsS s = false) := Lib.hid (by
          rw [← Bool.not_eq_true, pointsS_at]
          intro h
          have := h k (by rw [HN.out]; exact hlt)
          rw [HX.out, HV.out] at this
          exact Bool.false_ne_true this)
        go_wp2
        go_ret
        exact ⟨by rw [HK.out]; try rfl, HB1.out⟩
      | true =>
        have HG2 : Hid (∀ j, j < k + 1 → pointLin (linAt s j) = true) := Lib.hid (fun j hj => by
          by_cases e : j = k
          · rw [e, HX.out]; exact HV.out
          · exact HG.out j (by omega))
        go_wp2
        go_roundw
        case rel => exact ⟨k + 1, by omega, rfl, by go_num, HB1, HG2⟩
        case measure => simp [intOf]; omega
    · have HK : Hid (pointsS s = true) := Lib.hid (pointsS_at.2 (fun j hj => HG.out j (by rw [HN.out] at hj; omega)))
      go_wp2
      go_ret
      exact ⟨by rw [HK.out]; try rfl, HB.out⟩

set_option maxRecDepth 100000 in
set_option maxHeartbeats 4000000 in
theorem star25 (mp a : Option Addr) (c : Nat) (M : Mr) (s : List Lin) (w : World) (h0 : MrAt w 50 mp M) (R : Lins w a c s) (hs : s.length ≤ 100000000000) :
    Calls Tryz.prog 35 #[.pointer mp, .slice a s.length c] w (Works 50 mp (starM M s) w) := by
  have hle := R.le
  have Z := right11 a c s w R
  generalize hn : s.length = n at hle hs Z ⊢
  have HN := Lib.hid hn
  have HR := Lib.hid R
  have HMM := Lib.hid h0
  generalize hv : rightS s = v at Z
  have HV := Lib.hid hv
  have HZ := Lib.hid Z
  clear R hn Z hv h0
  go_enter Tryz.func35, Tryz.ntmps35
  go_wp2_with (fail)
  refine HZ.out.mono ?_
  rintro e w1 ⟨rfl, b1⟩
  have HB1 := Lib.hid b1
  clear b1 HZ
  cases v with
  | false =>
    have HF : Hid (Works 50 mp (starM M s) w (.returned (.tuple #[.slice none 0 0, .int .i64 1])) w1) := Lib.hid (worksN_none (starM_1 (.inl HV.out)) (HMM.out.below HB1.out) ((MK.refl mp w).then HB1.out))
    go_wp2
    exact bodyPost_ret (v := .tuple #[.slice none 0 0, .int .i64 1]) (by simp [results, Tryz.results35, go_sem]) rfl HF.out
  | true =>
    have Z := points53 a c s w1 (HR.out.below HB1.out)
    rw [HN.out] at Z
    generalize hv : pointsS s = v at Z
    have HV2 := Lib.hid hv
    have HZ := Lib.hid Z
    clear Z hv
    go_wp2_with (fail)
    refine HZ.out.mono ?_
    rintro e w2 ⟨rfl, b2⟩
    have HB2 := Lib.hid (HB1.out.trans (b2.mono HB1.out.size))
    clear b2 HZ HB1
    cases v with
    | false =>
      have HF : Hid (Works 50 mp (starM M s) w (.returned (.tuple #[.slice none 0 0, .int .i64 1])) w2) := Lib.hid (worksN_none (starM_1 (.inr HV2.out)) (HMM.out.below HB2.out) ((MK.refl mp w).then HB2.out))
      go_wp2
      exact bodyPost_ret (v := .tuple #[.slice none 0 0, .int .i64 1]) (by simp [results, Tryz.results35, go_sem]) rfl HF.out
    | true =>
      have Z : Calls Tryz.prog _ #[.pointer mp, .int .i64 ((n : Nat) : Int)] w2 _ := spend49 mp M _ _ (HMM.out.below HB2.out)
      unfold SpendsM at Z
      generalize hq : spendM M ((n : Nat) : Int) = q at Z
      have HQ : Hid (spendM M ((s.length : Nat) : Int) = q) := Lib.hid (by rw [HN.out]; exact hq)
      clear hq
      obtain ⟨v, M1⟩ := q
      have HZ := Lib.hid Z
      clear Z
      go_wp2_with (fail)
      refine HZ.out.mono ?_
      rintro e w3 ⟨rfl, m3, k3⟩
      clear HZ
      have HK3 := Lib.hid (((MK.refl mp w).then HB2.out).and k3)
      have HR3 := Lib.hid ((HR.out.below HB2.out).mk (HMM.out.below HB2.out) (by unfold MT; decide) k3)
      have HM3 := Lib.hid m3
      clear m3 k3 HB2
      cases v with
      | false =>
        have HF : Hid (Works 50 mp (starM M s) w (.returned (.tuple #[.slice none 0 0, .int .i64 7])) w3) := Lib.hid (worksN_none (starM_7 HV.out HV2.out HQ.out rfl) HM3.out HK3.out)
        go_wp2
        exact bodyPost_ret (v := .tuple #[.slice none 0 0, .int .i64 7]) (by simp [results, Tryz.results35, go_sem]) rfl HF.out
      | true =>
        clear HR HMM
        go_wp2
        go_loopw [6, 26] (fun al i wr => ∃ (k : Nat) (qa : Option Addr) (qc : Nat) (qs : List Bg), k ≤ n ∧ al = .slice qa k qc ∧ i = .int .i64 k ∧ Hid (AccB w3 qa qc k qs wr) ∧ Hid (words qs = basesS (s.take k))) (fun _ i _ => n - (intOf i).toNat)
        case atStart => exact ⟨0, none, 0, [], Nat.zero_le _, rfl, rfl, Lib.hid (AccB.nil _), Lib.hid rfl⟩
        case round =>
          obtain ⟨k, qa, qc, qs, hk, rfl, rfl, HT, HA⟩ := hrel
          have hlo := HT.out.row.le
          rw [HT.out.num] at hlo
          by_cases hlt : k < n
          · skip
            obtain ⟨g, b, d, pb, pd, e1, c0, c1, r1, t1⟩ := (HR3.out.below HT.out.bel).at (k := k) (by rw [HN.out]; exact hlt)
            have HTK := Lib.hid (basesS_take (s := s) (k := k) (by rw [HN.out]; exact hlt))
            generalize hx : linAt s k = x at c0 c1 r1 t1 HTK
            have HX := Lib.hid hx
            have bb := below_alloc wr (.cells #[.slice b x.base.length d, .slice pb x.ps.length pd] 60)
            have HTW := Lib.hid (HT.out.below bb)
            have L := Lies.new wr 60 [.slice b x.base.length d, .slice pb x.ps.length pd]
            have HXM := Lib.hid (And.intro (r1.below bb) (t1.below bb))
            have hl0 := r1.le
            have hl1 := t1.le
            generalize hu0 : x.base.length = u0 at c0 L HTW HXM hl0
            generalize hu1 : x.ps.length = u1 at c1 L HTW HXM hl1
            have HU0 := Lib.hid hu0
            have HU1 := Lib.hid hu1
            have HL := Lib.hid L
            clear L hx hu0 hu1 r1 t1 bb
            subst e1
            go_upto_region 9 with (fail)
            clear c0 c1 HT
            generalize wr.alloc (.cells #[.slice b u0 d, .slice pb u1 pd] 60) = W at HTW HL HXM ⊢
            generalize wr.heap.size = gb at HL ⊢
            have q0 := HL.out.cell 0
            have q1 := HL.out.cell 1
            simp only [List.getElem?_cons_zero, List.getElem?_cons_succ] at q0 q1
            obtain ⟨a6, c6, w6, hr, T6⟩ := HTW.out.push HXM.out.1 HU0.out (by omega)
            have HT6 := Lib.hid T6
            have HA6 : Hid (words (qs ++ [⟨b, d, x.base⟩]) = basesS (s.take (k + 1))) := Lib.hid (by rw [HTK.out, ← HA.out]; simp [words])
            clear T6
            go_wp2_with (at_builtin; refine Lib.wpList_append_run _ rfl _ _ _ _ rfl _ _ rfl rfl _ _ hr ?_)
            go_roundw
            case rel => exact ⟨k + 1, a6, c6, _, by omega, rfl, by go_num, HT6, HA6⟩
            case measure => simp [intOf]; omega
          · obtain rfl : k = n := by omega
            have HAA : Hid (words qs = basesS s) := Lib.hid (by have := HA.out; rwa [List.take_of_length_le (by rw [HN.out]; exact Nat.le_refl _)] at this)
            have HGD : Hid (GoodS s) := Lib.hid (rightS_iff.1 HV.out).1
            have HROW := Lib.hid HT.out.row
            have HNUM := Lib.hid HT.out.num
            have HMW := Lib.hid (HM3.out.below HT.out.bel)
            have HKW := Lib.hid (HK3.out.then HT.out.bel)
            have Z := of9 none qa 0 qc [] (basesS s) wr (Bag.nil _) ⟨qs, HAA.out, HROW.out⟩ (Nat.zero_le _) (basesS_short HGD.out) (by rw [← HAA.out, words_len, HNUM.out]; exact hs)
            rw [show (basesS s).length = k by rw [← HAA.out, words_len, HNUM.out]] at Z
            have HZ := Lib.hid Z
            clear Z
            go_wp2_with (fail)
            refine HZ.out.mono ?_
            rintro e w5 ⟨a3, c3, pa3, pc3, ps, hps, he, B3, P3, F1, F2, F3, bw⟩
            have SZ : w.heap.size ≤ wr.heap.size := HKW.out.size
            have HMEM : Hid ((Bag w5 a3 c3 (ofLin [] (basesS s)).base ∧ Bags w5 pa3 pc3 (ofLin [] (basesS s)).ps) ∧ NewLin w5 w.heap.size ⟨a3, c3, pa3, pc3, ofLin [] (basesS s)⟩) := Lib.hid ⟨⟨B3, ⟨ps, hps, P3⟩⟩, ⟨F1.mono SZ, F2.mono SZ, ps, hps, P3, fun p hp => (F3 p hp).mono SZ⟩⟩
            have HM5 := Lib.hid (HMW.out.below bw)
            have HK5 := Lib.hid (HKW.out.then bw)
            have hz0 := B3.le
            have hz1 := HMEM.out.1.2.le
            clear B3 P3 bw HZ
            generalize hx : ofLin [] (basesS s) = x at he HMEM hz0 hz1
            have HX := Lib.hid hx
            generalize hu4 : x.base.length = u4 at hz0 he
            generalize hu5 : x.ps.length = u5 at hz1 he
            have HU4 := Lib.hid hu4
            have HU5 := Lib.hid hu5
            clear hu4 hu5 hx
            subst he
            have HF : Hid (Works 50 mp (starM M s) w (.returned (.tuple #[.slice (some ⟨w5.heap.size + 1, 0, none⟩) 1 1, .int .i64 0])) ((w5.alloc (.cells #[.slice a3 u4 c3, .slice pa3 u5 pc3] 60)).alloc (.cells #[.slice a3 u4 c3, .slice pa3 u5 pc3] 60))) := Lib.hid (by
              have b1 := below_alloc w5 (.cells #[.slice a3 u4 c3, .slice pa3 u5 pc3] 60)
              have b2 := b1.alloc b1.size (.cells #[.slice a3 u4 c3, .slice pa3 u5 pc3] 60)
              have rn := row2_new (V := w5.alloc (.cells #[.slice a3 u4 c3, .slice pa3 u5 pc3] 60)) ⟨a3, c3, pa3, pc3, x⟩ u4 u5 HU4.out HU5.out
              rw [show (w5.alloc (.cells #[.slice a3 u4 c3, .slice pa3 u5 pc3] 60)).heap.size = w5.heap.size + 1 by simp] at rn
              rw [starM_0 HV.out HV2.out HQ.out rfl, HX.out]
              have hsz := HK5.out.size
              refine ⟨_, _, [⟨a3, c3, pa3, pc3, x⟩], rfl, rfl, ⟨rn, fun l hl => ?_⟩, fun g e => ?_, fun l hl => ?_, HM5.out.below b2, HK5.out.then b2⟩
              · obtain rfl := List.mem_singleton.1 hl
                exact ⟨HMEM.out.1.1.below b2, HMEM.out.1.2.below b2⟩
              · injection e with e; injection e with e; omega
              · obtain rfl := List.mem_singleton.1 hl
                exact stays_new.below HMEM.out.2 b2)
            go_wp2
            exact bodyPost_ret (v := .tuple #[.slice (some ⟨w5.heap.size + 1, 0, none⟩) 1 1, .int .i64 0]) (by simp [results, Tryz.results35, go_sem]) rfl HF.out

/-- n times more. -/
def powGo : Nat → Mr → List Lin → List Lin → List Lin × Int × Mr
  | 0, M, acc, _ => (acc, 0, M)
  | n + 1, M, acc, s => if (catM M acc s).2.1 = 0 then powGo n (catM M acc s).2.2 (catM M acc s).1 s else ([], (catM M acc s).2.1, (catM M acc s).2.2)
def powM (M : Mr) (s : List Lin) (n : Int) : List Lin × Int × Mr := if rightS s = true ∧ 0 ≤ n ∧ n ≤ 99 then powGo n.toNat M oneS s else ([], 1, M)
/-- All that is put together on the way is not too much. -/
def powFits : Nat → Mr → List Lin → List Lin → Prop
  | 0, _, _, _ => True
  | n + 1, M, acc, s => acc.length * s.length ≤ 100000000000 ∧ (∀ i j, (linAt acc i).ps.length + (linAt s j).ps.length ≤ 100000000000) ∧ ((catM M acc s).2.1 = 0 → powFits n (catM M acc s).2.2 (catM M acc s).1 s)
theorem powM_no {M : Mr} {s : List Lin} {n : Int} (h : ¬ (rightS s = true ∧ 0 ≤ n ∧ n ≤ 99)) : powM M s n = ([], 1, M) := by unfold powM; rw [if_neg h]
theorem powM_yes {M : Mr} {s : List Lin} {n : Nat} (h : rightS s = true) (hn : n ≤ 99) : powM M s n = powGo n M oneS s := by
  unfold powM
  rw [if_pos ⟨h, by omega, by omega⟩, Int.toNat_natCast]

end Go.Proofs.YtfkaagndlpcfdaaGreat

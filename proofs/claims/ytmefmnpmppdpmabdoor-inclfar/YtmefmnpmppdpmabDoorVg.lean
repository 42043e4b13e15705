import Derived.Test.YtmefmnpmppdpmabDoorVd
import Derived.Test.YtmefmnpmppdpmabDoorVh
import Derived.Test.YtmefmnpmppdpmabDoorUo
/- The example of chapter 9; the program's contracts as the laws' walks want them. -/

/-! The program's behind and Next (auto). -/
namespace Go.Proofs.YtmefmnpmppdpmabDoor
open Go.ChangeShapes Go.WideShapes Go.ChangeAt Go.RowKit
def rgVf0 : Oper := { dst := some 26, op := Op.move (Operand.tmp 0), type := 37, pos := "auto.go:65", after := #[], guard := none }
def rgVf1 : Oper := { dst := some 27, op := Op.load 65 (Operand.tmp 12), type := 65, pos := "auto.go:65", after := #[], guard := none }
def rgVf2 : Oper := { dst := some 28, op := Op.move (Operand.tmp 1), type := 30, pos := "auto.go:65", after := #[], guard := none }
def rgVf3 : Oper := { dst := some 29, op := Op.fieldAddr 65 (Operand.tmp 12) 0, type := 0, pos := "auto.go:65", after := #[], guard := none }
def rgVf4 : Oper := { dst := some 30, op := Op.load 3 (Operand.tmp 29), type := 3, pos := "auto.go:65", after := #[{ on := 3, ground := Ground.data }], guard := none }
def rgVf5 : Oper := { dst := some 31, op := Op.indexAddr 30 (Operand.tmp 28) (Operand.tmp 30), type := 0, pos := "auto.go:65", after := #[{ on := 2, ground := Ground.data }, { on := 4, ground := Ground.data }], guard := none }
def rgVf6 : Oper := { dst := some 32, op := Op.fieldAddr 28 (Operand.tmp 31) 1, type := 0, pos := "auto.go:65", after := #[{ on := 5, ground := Ground.data }], guard := none }
def rgVf7 : Oper := { dst := some 33, op := Op.load 26 (Operand.tmp 32), type := 26, pos := "auto.go:65", after := #[{ on := 6, ground := Ground.data }], guard := none }
def rgVf8 : Oper := { dst := some 34, op := Op.move (Operand.tmp 3), type := 78, pos := "auto.go:65", after := #[], guard := none }
def rgVf9 : Oper := { dst := some 35, op := Op.call { callee := Callee.value (Operand.func 46), args := #[Operand.tmp 26, Operand.tmp 27, Operand.tmp 33, Operand.tmp 34], argTypes := #[37, 65, 26, 78] }, type := 80, pos := "auto.go:65", after := #[{ on := 0, ground := Ground.data }, { on := 1, ground := Ground.data }, { on := 7, ground := Ground.data }, { on := 8, ground := Ground.data }], guard := none }
def rgVf10 : Oper := { dst := some 25, op := Op.move (Operand.tmp 35), type := 80, pos := "auto.go:65", after := #[{ on := 9, ground := Ground.data }], guard := none }
def rgVf11 : Oper := { dst := some 36, op := Op.extract (Operand.tmp 25) 0, type := 48, pos := "auto.go:65", after := #[{ on := 10, ground := Ground.data }], guard := none }
def rgVf12 : Oper := { dst := some 37, op := Op.extract (Operand.tmp 25) 1, type := 31, pos := "auto.go:65", after := #[{ on := 10, ground := Ground.data }, { on := 13, ground := Ground.gcOnly Departure.lateStores }], guard := none }
def rgVf13 : Oper := { dst := some 13, op := Op.assign (Operand.tmp 36), type := 48, pos := "auto.go:65", after := #[{ on := 11, ground := Ground.data }, { on := 9, ground := Ground.chain }, { on := 0, ground := Ground.phase }, { on := 1, ground := Ground.phase }, { on := 2, ground := Ground.phase }, { on := 3, ground := Ground.phase }, { on := 4, ground := Ground.phase }, { on := 5, ground := Ground.phase }, { on := 6, ground := Ground.phase }, { on := 7, ground := Ground.phase }, { on := 8, ground := Ground.phase }, { on := 9, ground := Ground.phase }, { on := 10, ground := Ground.phase }, { on := 11, ground := Ground.phase }, { on := 12, ground := Ground.textOnly Departure.lateStores }], guard := none }
def rgVf14 : Oper := { dst := some 14, op := Op.assign (Operand.tmp 37), type := 31, pos := "auto.go:65", after := #[{ on := 12, ground := Ground.data }, { on := 13, ground := Ground.chain }, { on := 0, ground := Ground.phase }, { on := 1, ground := Ground.phase }, { on := 2, ground := Ground.phase }, { on := 3, ground := Ground.phase }, { on := 4, ground := Ground.phase }, { on := 5, ground := Ground.phase }, { on := 6, ground := Ground.phase }, { on := 7, ground := Ground.phase }, { on := 8, ground := Ground.phase }, { on := 9, ground := Ground.phase }, { on := 10, ground := Ground.phase }, { on := 11, ground := Ground.phase }, { on := 12, ground := Ground.phase }, { on := 13, ground := Ground.phase }], guard := none }

/-! ### Plain words: item by item, and all in order at the end. -/
def behindL (letter : Int) (x : It) (ps : List (List Int)) (M : Mr) : List It × Int × Mr :=
  if 20 < ps.length then ([], 3, M)
  else if (spendM M ((2 ^ ps.length : Nat) : Int)).1 = true then
    match choicesL x.j letter ps x.c with
    | none => ([], 3, (spendM M ((2 ^ ps.length : Nat) : Int)).2)
    | some A => (putAllI [] A, 0, (spendM M ((2 ^ ps.length : Nat) : Int)).2)
  else ([], 7, (spendM M ((2 ^ ps.length : Nat) : Int)).2)
section
variable {letter : Int} {x : It} {ps : List (List Int)} {M : Mr} {p : Bool × Mr}
theorem behind_20 (h : 20 < ps.length) : behindL letter x ps M = ([], 3, M) := by unfold behindL; rw [if_pos h]
theorem behind_7 (h : ¬ 20 < ps.length) (e : spendM M ((2 ^ ps.length : Nat) : Int) = p) (hp : p.1 = false) : behindL letter x ps M = ([], 7, p.2) := by
  unfold behindL; rw [if_neg h, e, hp]; rfl
theorem behind_3 (h : ¬ 20 < ps.length) (e : spendM M ((2 ^ ps.length : Nat) : Int) = p) (hp : p.1 = true) (hc : choicesL x.j letter ps x.c = none) : behindL letter x ps M = ([], 3, p.2) := by
  unfold behindL; rw [if_neg h, e, hp, if_pos rfl, hc]
theorem behind_0 {A : List It} (h : ¬ 20 < ps.length) (e : spendM M ((2 ^ ps.length : Nat) : Int) = p) (hp : p.1 = true) (hc : choicesL x.j letter ps x.c = some A) : behindL letter x ps M = (putAllI [] A, 0, p.2) := by
  unfold behindL; rw [if_neg h, e, hp, if_pos rfl, hc]
end
theorem maskF_none {x : It} {ps : List (List Int)} {letter : Int} : ∀ (k m : Nat) (out : List It) (i : Nat), m ≤ i → i < m + k → chosenL x.c ps i = none → maskF x ps letter k m out = none
  | 0, m, out, i, h1, h2, _ => by omega
  | k + 1, m, out, i, h1, h2, h => by
    unfold maskF
    by_cases e : i = m
    · subst e
      rw [h]
    · cases h3 : chosenL x.c ps m with
      | none => rfl
      | some c => exact maskF_none k (m + 1) _ i (by omega) (by omega) h
theorem maskF_some2 {x : It} {ps : List (List Int)} {letter : Int} : ∀ (k m : Nat) (out : List It), (∀ i, m ≤ i → i < m + k → ∃ c, chosenL x.c ps i = some c) → ∃ out', maskF x ps letter k m out = some out'
  | 0, _, out, _ => ⟨out, rfl⟩
  | k + 1, m, out, h => by
    obtain ⟨c, e⟩ := h m (Nat.le_refl _) (by omega)
    unfold maskF
    rw [e]
    exact maskF_some2 k (m + 1) _ (fun i h1 h2 => h i (by omega) (by omega))
theorem goodI_nil : GoodI [] := fun x h => by cases h
theorem goodI_app {a b : List It} (ha : GoodI a) (hb : GoodI b) : GoodI (a ++ b) := fun x h => by
  rcases List.mem_append.1 h with h | h
  · exact ha x h
  · exact hb x h
theorem putAllI_good {l : List It} (h : GoodI l) : GoodI (putAllI [] l) := (putAllI_rise h riseI_nil).1
theorem putAllI_in {l : List It} (h : GoodI l) (z : It) : z ∈ putAllI [] l ↔ z ∈ l := by
  rw [putAllI_mem h riseI_nil]; simp
/-- The masks, tried in a row, find what the choices find. -/
theorem mask_choices {x : It} {ps : List (List Int)} {letter : Int} {O : List It} (hO : GoodI O) :
    (choicesL x.j letter ps x.c = none → maskF x ps letter (2 ^ ps.length) 0 (putAllI [] O) = none) ∧
    ∀ A, choicesL x.j letter ps x.c = some A → maskF x ps letter (2 ^ ps.length) 0 (putAllI [] O) = some (putAllI [] (O ++ putAllI [] A)) := by
  have hs := choices_spec (j := x.j) (letter := letter) ps x.c
  refine ⟨fun h => ?_, fun A h => ?_⟩
  · obtain ⟨i, hi, hc⟩ := hs.1 h
    exact maskF_none _ 0 _ i (Nat.zero_le _) (by omega) hc
  · have C := hs.2 A h
    obtain ⟨out, e⟩ := maskF_some2 (x := x) (ps := ps) (letter := letter) (2 ^ ps.length) 0 (putAllI [] O) (fun i _ hi => C.each i (by omega))
    have hA := maskF_all x ps letter _ 0 _ out (putAllI_rise hO riseI_nil) e
    have hg : GoodI (O ++ putAllI [] A) := goodI_app hO (putAllI_good C.good)
    rw [e, riseI_ext hA.1 (putAllI_rise hg riseI_nil) (fun z => ?_)]
    rw [putAllI_in hg, List.mem_append, putAllI_in C.good, hA.2, putAllI_in hO, C.mem]
    constructor
    · rintro (h | ⟨i, c, h1, h2, h3⟩)
      · exact .inl h
      · exact .inr ⟨i, c, by omega, h3⟩
    · rintro (h | ⟨i, c, h1, h3⟩)
      · exact .inl h
      · exact .inr ⟨i, c, Nat.zero_le _, by omega, h3⟩
/-- One item: refused, or its part is put to what was there. -/
theorem behind_step (s : List Lin) (letter : Int) (x : It) (r : List It) (M : Mr) (O : List It) (hO : GoodI O) :
    ((behindL letter x (linAt s x.j.toNat).ps M).2.1 ≠ 0 ∧ (behindL letter x (linAt s x.j.toNat).ps M).1 = [] ∧ itGo s letter (x :: r) M (putAllI [] O) = ([], (behindL letter x (linAt s x.j.toNat).ps M).2)) ∨
    ((behindL letter x (linAt s x.j.toNat).ps M).2.1 = 0 ∧ GoodI (behindL letter x (linAt s x.j.toNat).ps M).1 ∧ (behindL letter x (linAt s x.j.toNat).ps M).1.length ≤ 2 ^ (linAt s x.j.toNat).ps.length ∧
      itGo s letter (x :: r) M (putAllI [] O) = itGo s letter r (behindL letter x (linAt s x.j.toNat).ps M).2.2 (putAllI [] (O ++ (behindL letter x (linAt s x.j.toNat).ps M).1))) := by
  have hm := mask_choices (x := x) (ps := (linAt s x.j.toNat).ps) (letter := letter) hO
  by_cases h20 : 20 < (linAt s x.j.toNat).ps.length
  · left
    rw [behind_20 h20, itGo_20 h20]
    exact ⟨(by decide : (3 : Int) ≠ 0), rfl, rfl⟩
  · cases hv : (spendM M ((2 ^ (linAt s x.j.toNat).ps.length : Nat) : Int)).1 with
    | false =>
      left
      rw [behind_7 h20 rfl hv, itGo_7 h20 rfl hv]
      exact ⟨(by decide : (7 : Int) ≠ 0), rfl, rfl⟩
    | true =>
      cases hc : choicesL x.j letter (linAt s x.j.toNat).ps x.c with
      | none =>
        left
        rw [behind_3 h20 rfl hv hc, itGo_3 h20 rfl hv (hm.1 hc)]
        exact ⟨(by decide : (3 : Int) ≠ 0), rfl, rfl⟩
      | some A =>
        right
        have C := (choices_spec (j := x.j) (letter := letter) (linAt s x.j.toNat).ps x.c).2 A hc
        rw [behind_0 h20 rfl hv hc, itGo_0 h20 rfl hv (hm.2 A hc)]
        refine ⟨rfl, putAllI_good C.good, ?_, rfl⟩
        have h1 := putAllI_len A []
        have h2 := C.few
        simp only [List.length_nil] at h1
        show (putAllI [] A).length ≤ _
        omega

/-! ### behind -/
theorem nextsT_none {T : TypeId} {mp : Option Addr} {r : List It × Int × Mr} {q : Int} {M : Mr} {w w' : World} (h : r = ([], q, M)) (m : MrAt w' T mp M) (k : MK mp w w') : NextsT T mp r w (.returned (.tuple #[.slice none 0 0, .int .i64 q])) w' := by
  subst h
  exact ⟨none, 0, rfl, Its.nil _, From.none _, m, k⟩
set_option maxRecDepth 100000 in
set_option maxHeartbeats 4000000 in
theorem behind37 (mp ca pa : Option Addr) (cc pc n z : Nat) (M : Mr) (x : It) (ps : List (List Int)) (letter : Int) (w : World) (HM0 : MrAt w 73 mp M) (HC0 : Bag w ca cc x.c) (hr : rightL x.c = true) (hn : x.c.length = n) (HP0 : Bags w pa pc ps) (hz : ps.length = z) :
    Calls Tryd.prog 46 #[.pointer mp, .agg #[.int .i64 x.j, .slice ca n cc], .slice pa z pc, .int .u64 letter] w (NextsT 73 mp (behindL letter x ps M) w) := by
  have hlc := HC0.le
  have hlp := HP0.le
  rw [hn] at hlc
  rw [hz] at hlp
  have bb := below_alloc w (.cells #[.int .i64 x.j, .slice ca n cc] 65)
  have HM := Lib.hid (HM0.below bb)
  have HL := Lib.hid (Lies.new w 65 [.int .i64 x.j, .slice ca n cc])
  have HC := Lib.hid (HC0.below bb)
  have HP := Lib.hid (HP0.below bb)
  have HOL : Hid (∀ g, mp = some ⟨g, 0, none⟩ → g < w.heap.size) := Lib.hid (fun g e => HM0.lt e)
  have HB := Lib.hid bb
  have HN := Lib.hid hn
  have HZL := Lib.hid hz
  have HR := Lib.hid hr
  obtain ⟨r, hrr⟩ : ∃ r, r = behindL letter x ps M := ⟨_, rfl⟩
  rw [← hrr]
  have HRR := Lib.hid hrr
  clear bb HM0 HC0 HP0 hn hz hr hrr
  go_enter Tryd.func46, Tryd.ntmps46
  go_upto_region 1 with (fail)
  generalize w.alloc (.cells #[.int .i64 x.j, .slice ca n cc] 65) = W at HM HL HC HP HB ⊢
  generalize hg : w.heap.size = gb at HL ⊢
  have HG := Lib.hid hg
  clear hg
  by_cases h20 : 20 < z
  · have h20b : (20 : Int) < (z : Int) := by omega
    have HF : Hid (NextsT 73 mp r w (.returned (.tuple #[.slice none 0 0, .int .i64 3])) W) := Lib.hid (nextsT_none (M := M) (by rw [HRR.out]; exact behind_20 (by rw [HZL.out]; exact h20)) HM.out (Kept.of_below HB.out))
    go_wp2
    exact bodyPost_ret (v := .tuple #[.slice none 0 0, .int .i64 3]) (by simp [results, Tryd.results46, go_sem]) rfl HF.out
  · have h20b : ¬ (20 : Int) < (z : Int) := by omega
    obtain ⟨N, hN⟩ : ∃ N : Nat, N = 2 ^ z := ⟨_, rfl⟩
    have hNb : N ≤ 1048576 := by rw [hN]; exact Nat.le_trans (Nat.pow_le_pow_right (by omega) (by omega : z ≤ 20)) (by decide)
    have hw : wrap64 ((2 : Int) ^ z) = (N : Int) := by
      have e : ((2 : Int) ^ z) = (N : Int) := by rw [hN]; simp
      rw [e]
      exact IntWalk.wrap64_in _ (by omega)
    have HW := Lib.hid hw
    have HNP : Hid ((2 ^ ps.length : Nat) = N) := Lib.hid (by rw [HZL.out, hN])
    have H20 : Hid (¬ 20 < ps.length) := Lib.hid (by rw [HZL.out]; exact h20)
    clear hN hw
    have Z := spend49 mp M (N : Int) W HM.out
    unfold SpendsM at Z
    generalize hq : spendM M (N : Int) = p at Z
    have HSP : Hid (spendM M ((2 ^ ps.length : Nat) : Int) = p) := Lib.hid (by rw [HNP.out]; exact hq)
    clear hq
    obtain ⟨v, M1⟩ := p
    have HZ := Lib.hid Z
    clear Z
    go_wp2_with (fail)
    rw [HW.out]
    refine HZ.out.mono ?_
    rintro e w3 ⟨rfl, m3, k3⟩
    have hgw : gb < W.heap.size := HL.out.lt
    have HM3 := Lib.hid m3
    have HK3 : Hid (MK mp w w3) := Lib.hid (MK.and (Kept.of_below HB.out) k3)
    have HL3 := Lib.hid (HL.out.kept k3 (fun e => by
      have := HOL.out gb e
      have := HG.out
      omega))
    have HC3 : Hid (Bag w3 ca cc x.c) := Lib.hid (HC.out.kept k3 (fun g e => bag_apartM HM.out (by decide) HC.out e))
    have HP3 : Hid (Bags w3 pa pc ps) := Lib.hid (by
      obtain ⟨qs, e, Q⟩ := HP.out
      exact ⟨qs, e, Q.row.kept k3 (fun g e => row_apartM HM.out (by decide) Q.row e), fun p hp => (Q.each p hp).kept k3 (fun g e => bag_apartM HM.out (by decide) (Q.each p hp) e)⟩)
    clear HM HL HC HP HB m3 k3 HZ hgw
    cases v with
    | false =>
      have HF : Hid (NextsT 73 mp r w (.returned (.tuple #[.slice none 0 0, .int .i64 7])) w3) := Lib.hid (nextsT_none (M := M1) (by rw [HRR.out]; exact behind_7 H20.out HSP.out rfl) HM3.out HK3.out)
      go_wp2
      exact bodyPost_ret (v := .tuple #[.slice none 0 0, .int .i64 7]) (by simp [results, Tryd.results46, go_sem]) rfl HF.out
    | true =>
      have x0 := HL3.out.cell 0
      have x1 := HL3.out.cell 1
      simp only [List.getElem?_cons_zero, List.getElem?_cons_succ] at x0 x1
      have Z := choices68 x.j letter z ps none ca pa 0 n cc pc 0 [] x.c w3 (Pers.of HP3.out HZL.out) (Its.nil _) rfl HC3.out HR.out HN.out (by
        have h := HNP.out
        rw [HZL.out] at h
        omega)
      generalize ho : choicesL x.j letter ps x.c = o at Z
      have HO := Lib.hid ho
      have HZ := Lib.hid Z
      clear Z ho
      go_wp2_with (fail)
      refine HZ.out.mono ?_
      rintro e w4 ⟨a4, q4, c4, b4, rfl, k4, hc4, hd4, hf4, ht4⟩
      have k40 : Below w3.heap.size w3 w4 := ⟨k4.os, k4.tape, k4.output, k4.size, fun i hi => k4.block i hi (fun e => by cases e)⟩
      have HB4 := Lib.hid k40
      have HM4 := Lib.hid (HM3.out.below k40)
      have HK4 := Lib.hid (MK.then HK3.out k40)
      have HF4 := Lib.hid hf4
      have HT4 := Lib.hid ht4
      clear k4 k40 hf4 ht4 HZ x0 x1 HL3 HC3 HP3
      cases b4 with
      | false =>
        have HF : Hid (NextsT 73 mp r w (.returned (.tuple #[.slice none 0 0, .int .i64 3])) w4) := Lib.hid (nextsT_none (M := M1) (by rw [HRR.out]; exact behind_3 H20.out HSP.out rfl (HO.out.trans (HF4.out rfl).1)) HM4.out HK4.out)
        go_wp2
        exact bodyPost_ret (v := .tuple #[.slice none 0 0, .int .i64 3]) (by simp [results, Tryd.results46, go_sem]) rfl HF.out
      | true =>
        obtain ⟨A, hA, hq4, I4, fr4⟩ := HT4.out rfl
        rw [List.nil_append] at I4
        simp only [List.length_nil, Nat.zero_add] at hq4
        have HA : Hid (choicesL x.j letter ps x.c = some A) := Lib.hid (HO.out.trans hA)
        have CH := (choices_spec (j := x.j) (letter := letter) ps x.c).2 A HA.out
        have hfew := CH.few
        rw [HNP.out] at hfew
        have Z := ordered38 a4 c4 A w4 I4 CH.good (by omega)
        have HFR : Hid (∀ g, a4 = some ⟨g, 0, none⟩ → w3.heap.size ≤ g) := Lib.hid (fun g e => (fr4 g e).resolve_left (fun h => by cases h))
        rw [← hq4] at Z
        have HZ := Lib.hid Z
        clear hq4 Z I4 fr4 CH hA hfew HT4 HF4
        go_wp2_with (fail)
        refine HZ.out.mono ?_
        rintro e w5 ⟨rfl, I5, k5⟩
        have hs3 := HK3.out.size
        have HF : Hid (NextsT 73 mp r w (.returned (.tuple #[.slice a4 (putAllI [] A).length c4, .int .i64 0])) w5) := Lib.hid (by
          rw [HRR.out, behind_0 H20.out HSP.out rfl HA.out]
          refine ⟨a4, c4, rfl, I5, fun g e => Nat.le_trans hs3 (HFR.out g e), HM4.out.kept k5 (fun g e e2 => ?_), HK4.out.trans k5 (fun i hi e => ?_)⟩
          · have := HFR.out g e2
            have := HOL.out g e
            omega
          · have := HFR.out i e
            omega)
        have hl5 := I5.le
        generalize (putAllI [] A).length = q5 at HF hl5 ⊢
        clear I5 k5 HZ
        go_wp2
        exact bodyPost_ret (v := .tuple #[.slice a4 q5 c4, .int .i64 0]) (by simp [results, Tryd.results46, go_sem]) rfl HF.out

/-! ### Next -/
theorem run_appIt (t ty : TypeId) (hu : Tryd.prog.underlying t = some (.slice 65)) (a : Option Addr) (c n : Nat) (xs : List Value) (w : World) (R : RowI w a c n xs) (b : Option Addr) (d m : Nat) (ys : List Value) (R' : RowI w b d m ys) (h1 : ∀ u ∈ ys, u.oneCell' = true) (hb : n + m ≤ 1000000000000) :
    ∃ v w', (Builtin.append_ #[t, t] ty #[.slice a n c, .slice b m d]).run Tryd.prog w = .ok v w' ∧ AppendsI a n m xs ys w v w' := by
  obtain ⟨h0, h⟩ := R'
  rcases h with ⟨rfl, rfl, rfl⟩ | ⟨g, sp, rfl, _, _, _, l⟩
  · obtain rfl : ys = [] := List.eq_nil_of_length_eq_zero (by omega)
    exact run_appIt_nil t ty hu a c n xs w R
  · exact run_appIt_at t ty hu a c n xs w R _ m d ys h0 (fun j u hj => by rw [Addr.add_lit, Nat.zero_add, l.cell, List.getElem?_append_left (List.getElem?_eq_some_iff.1 hj).1]; exact hj) h1 hb
theorem its_app (a b : List Ib) : its (a ++ b) = its a ++ its b := by simp [its]
theorem its_join {w w' : World} {a b : Option Addr} {c d : Nat} {ls ms : List Ib} (h : Ibs w a c ls) (h' : Ibs w b d ms) {n m : Nat} (hn : ls.length = n) (hm : ms.length = m) {v : Value}
    (r : AppendsI a n m (iflat ls) (iflat ms) w v w') : ∃ a' c', v = .slice a' (n + m) c' ∧ Its w' a' c' (its ls ++ its ms) ∧ Kept (fun g => a = some ⟨g, 0, none⟩) w w' ∧ ∀ g, a' = some ⟨g, 0, none⟩ → a = some ⟨g, 0, none⟩ ∨ w.heap.size ≤ g := by
  subst hn hm
  obtain ⟨a', c', rfl, R, k, f⟩ := r
  refine ⟨a', c', rfl, ⟨ls ++ ms, its_app ls ms, ?_, fun l hl => ?_⟩, k, f⟩
  · rw [List.length_append, iflat_app]
    exact R
  · rcases List.mem_append.1 hl with hl | hl
    · exact keptBagI h.row k (h.each l hl)
    · exact keptBagI h.row k (h'.each l hl)
/-- Where Next's work stands. -/
structure NpI (w : World) (mp : Option Addr) (M : Mr) (oa : Option Addr) (oc : Nat) (O : List It) (W : World) : Prop where
  kept : MK mp w W
  old : ∀ g, mp = some ⟨g, 0, none⟩ → g < w.heap.size
  meter : MrAt W 73 mp M
  out : Its W oa oc O
  fresh : From w.heap.size oa
section
variable {w W W' : World} {mp oa : Option Addr} {M : Mr} {oc : Nat} {O : List It}
theorem NpI.zero (h : MrAt w 73 mp M) (b : Below w.heap.size w W) : NpI w mp M none 0 [] W :=
  ⟨Kept.of_below b, fun _ e => h.lt e, h.below b, Its.nil _, From.none _⟩
theorem NpI.below (h : NpI w mp M oa oc O W) (b : Below W.heap.size W W') : NpI w mp M oa oc O W' :=
  ⟨MK.then h.kept b, h.old, h.meter.below b, h.out.below b, h.fresh⟩
theorem NpI.spent {M' : Mr} (h : NpI w mp M oa oc O W) (m : MrAt W' 73 mp M') (k : MK mp W W') : NpI w mp M' oa oc O W' :=
  ⟨MK.and h.kept k, h.old, m, h.out.mk h.meter (by decide) (by decide) k, h.fresh⟩
theorem NpI.put (h : NpI w mp M oa oc O W) {a' : Option Addr} {c' : Nat} {O' : List It} (r : Its W' a' c' O') (k : Kept (fun g => oa = some ⟨g, 0, none⟩) W W') (f : ∀ g, a' = some ⟨g, 0, none⟩ → oa = some ⟨g, 0, none⟩ ∨ W.heap.size ≤ g) : NpI w mp M a' c' O' W' := by
  have hs := h.kept.size
  refine ⟨h.kept.trans k (fun i hi e => ?_), h.old, h.meter.kept k (fun g e e2 => ?_), r, fun g e => ?_⟩
  · have := h.fresh i e
    omega
  · have := h.fresh g e2
    have := h.old g e
    omega
  · rcases f g e with h2 | h2
    · exact h.fresh g h2
    · omega
theorem NpI.lins (h : NpI w mp M oa oc O W) {M0 : Mr} (m : MrAt w 73 mp M0) {a : Option Addr} {c : Nat} {s : List Lin} (r : Lins w a c s) : Lins W a c s := r.mk m (by unfold MT; decide) h.kept
theorem NpI.its (h : NpI w mp M oa oc O W) {M0 : Mr} (m : MrAt w 73 mp M0) {a : Option Addr} {c : Nat} {s : List It} (r : Its w a c s) : Its W a c s := r.mk m (by decide) (by decide) h.kept
end
set_option maxRecDepth 100000 in
set_option maxHeartbeats 4000000 in
theorem next14 (mp sa a : Option Addr) (sc c : Nat) (M : Mr) (s : List Lin) (l : List It) (letter : Int) (w : World) (HMM0 : MrAt w 73 mp M) (R0 : Lins w sa sc s) (R : Its w a c l) (_h0 : 0 ≤ letter) (_h1 : letter ≤ 18446744073709551615) (hcost : costI s l ≤ 100000000000) :
    Calls Tryd.prog 40 #[.pointer mp, .slice sa s.length sc, .slice a l.length c, .int .u64 letter] w (NextsT 73 mp (nextM M s l letter) w) := by
  have hle := R.le
  have hle0 := R0.le
  have Z := right18 sa a sc c s l w R0 R
  have HIF := Lib.hid (rightItems_iff (s := s) (l := l))
  have HR := Lib.hid R
  have HRS := Lib.hid R0
  have HMM := Lib.hid HMM0
  have HCO := Lib.hid hcost
  generalize hn : l.length = n at hle Z HIF ⊢
  generalize hm : s.length = m at hle0 Z HIF ⊢
  have HN := Lib.hid hn
  have HM := Lib.hid hm
  generalize hv : rightItems s l = v at Z HIF
  have HV := Lib.hid hv
  have HZ := Lib.hid Z
  clear R R0 hn hm Z hv HMM0 hcost
  go_enter Tryd.func40, Tryd.ntmps40
  go_wp2_with (fail)
  refine HZ.out.mono ?_
  rintro e w1 ⟨rfl, b1⟩
  have HB := Lib.hid b1
  clear b1 HZ
  cases v with
  | false =>
    have HF : Hid (NextsT 73 mp (nextM M s l letter) w (.returned (.tuple #[.slice none 0 0, .int .i64 1])) w1) := Lib.hid (nextsT_none (by unfold nextM; rw [HV.out]; rfl) (HMM.out.below HB.out) (Kept.of_below HB.out))
    go_wp2
    exact bodyPost_ret (v := .tuple #[.slice none 0 0, .int .i64 1]) (by simp [results, Tryd.results40, go_sem]) rfl HF.out
  | true =>
    have HGO : Hid (nextM M s l letter = itGo s letter l M (putAllI [] [])) := Lib.hid (by unfold nextM; rw [HV.out]; rfl)
    go_wp2
    go_loopw [8, 9, 10, 21] (fun r er al i wr => ∃ (k q : Nat) (oa : Option Addr) (oc : Nat) (O : List It) (Mi : Mr), k ≤ n ∧ r = .slice none 0 0 ∧ er = .int .i64 0 ∧ al = .slice oa q oc ∧ i = .int .i64 k ∧ Hid (O.length = q) ∧ Hid (GoodI O) ∧ Hid (NpI w mp Mi oa oc O wr) ∧ Hid (nextM M s l letter = itGo s letter (l.drop k) Mi (putAllI [] O)) ∧ Hid (q + costI s (l.drop k) ≤ 100000000000)) (fun _ _ _ i _ => n - (intOf i).toNat)
    case atStart => exact ⟨0, 0, none, 0, [], M, Nat.zero_le _, rfl, rfl, rfl, rfl, Lib.hid rfl, Lib.hid goodI_nil, Lib.hid (NpI.zero HMM.out HB.out), HGO, Lib.hid (by rw [List.drop_zero]; have := HCO.out; omega)⟩
    case round =>
      obtain ⟨k, q, oa, oc, O, Mi, hk, rfl, rfl, rfl, rfl, HQ, HGD, HT, HE, HC⟩ := hrel
      by_cases hlt : k < n
      · obtain ⟨g, b, d, e1, c0, c1, B1⟩ := (HT.out.its HMM.out HR.out).at (k := k) (by rw [HN.out]; exact hlt)
        subst e1
        have hbl := B1.le
        have ltg := HT.out.kept.size
        have hlq := HT.out.out.le
        rw [HQ.out] at hlq
        generalize hu : (itAt l k).c.length = u at c1 hbl
        have HU := Lib.hid hu
        clear hu
        generalize hj : (itAt l k).j = j at c0
        have HJV := Lib.hid hj
        clear hj
        obtain ⟨jn, hjn⟩ : ∃ jn : Nat, j = (jn : Int) := ⟨j.toNat, by
          have := (HIF.out.1 trivial).2.1 k hlt
          rw [HJV.out] at this
          omega⟩
        subst hjn
        have hjm : jn < m := by
          have := (HIF.out.1 trivial).2.1 k hlt
          rw [HJV.out] at this
          omega
        have bb := below_alloc wr (.cells #[.int .i64 jn, .slice b u d] 65)
        have HTW := Lib.hid (HT.out.below bb)
        have HX := Lib.hid (Lies.new wr 65 [.int .i64 jn, .slice b u d])
        have HB1 := Lib.hid (B1.below bb)
        clear B1 bb
        go_upto_region 7 with (fail)
        clear c0 c1
        generalize wr.alloc (.cells #[.int .i64 jn, .slice b u d] 65) = W at HTW HX HB1 ⊢
        generalize wr.heap.size = gx at HX ltg ⊢
        clear HT
        have LS := HTW.out.lins HMM.out HRS.out
        obtain ⟨g2, b2, d2, pb, pd, e2, _, c3, _, P1⟩ := LS.at (k := jn) (by rw [HM.out]; exact hjm)
        subst e2
        have lt2 : g2 < W.heap.size := LS.lt rfl
        have HP1 := Lib.hid P1
        have x0 := HX.out.cell 0
        have x1 := HX.out.cell 1
        simp only [List.getElem?_cons_zero, List.getElem?_cons_succ] at x0 x1
        have ltx := HX.out.lt
        have hxm : ¬ mp = some ⟨gx, 0, none⟩ := fun e => by
          have := HMM.out.lt e
          omega
        have h2m : ¬ mp = some ⟨g2, 0, none⟩ := fun e => by
          obtain ⟨ls, _, LB⟩ := LS
          rcases LB.row.2 with ⟨h3, _⟩ | ⟨g', sp, h3, _, _, _, l3⟩
          · cases h3
          · injection h3 with h3; injection h3 with h3; subst h3
            rcases HTW.out.meter.form with h4 | ⟨bm, h4, cs, l4⟩
            · rw [h4] at e; cases e
            · rw [h4] at e; injection e with e; injection e with e; subst e
              exact l3.other l4 (by decide) rfl
        have HPJ : Hid (linAt s (itAt l k).j.toNat = linAt s jn) := Lib.hid (by rw [HJV.out, Int.toNat_natCast])
        have HD := Lib.hid (drop_itAt (l := l) (k := k) (by rw [HN.out]; exact hlt))
        have hci : rightL (itAt l k).c = true := ((HIF.out.1 trivial).2.2 k hlt).1
        have hpl := P1.le
        generalize hz : (linAt s jn).ps.length = z at c3 hpl
        have HZL := Lib.hid hz
        have i1 : (0 : Int) ≤ (jn : Int) := by omega
        have i2 : (jn : Int) < (m : Int) := by omega
        have b0 : Below W.heap.size W W.drew := ⟨rfl, rfl, rfl, Nat.le_refl _, fun _ _ => rfl⟩
        have bd : MK mp W W.drew := Kept.of_below b0
        have Z := behind37 mp b pb d pd u z Mi (itAt l k) (linAt s jn).ps letter W.drew (HTW.out.below b0).meter (HB1.out.below b0) hci HU.out (HP1.out.below b0) hz
        rw [HJV.out] at Z
        have hst := behind_step s letter (itAt l k) (l.drop (k + 1)) Mi O HGD.out
        rw [HPJ.out, ← HD.out, HZL.out] at hst
        unfold NextsT at Z
        generalize behindL letter (itAt l k) (linAt s jn).ps Mi = r at Z hst
        obtain ⟨r1, r2, M2⟩ := r
        have HST := Lib.hid hst
        have HZB := Lib.hid Z
        clear Z hst P1 LS hz b0 hci
        refine wp_region_held_drew (S := fun V => MK mp W V) (by kernel_rfl) bd (fun hHeld => ?_)
        clear hHeld
        refine tkY 0 rgVf0 (v := ?_) rfl bd ?_ ?_
        rotate_left
        · intro w hSw
          simp only [rgVf0]; go_simp
          try with_reducible rfl
        try simp only [rgVf0, Act.put, pA, pB, pC]
        refine tkY 1 rgVf1 (v := ?_) rfl bd ?_ ?_
        rotate_left
        · intro w hSw
          have f1 := (cell_kept hSw (p := ⟨gx, 0, none⟩) ltx hxm).trans x0
          have f2 := (cell_kept hSw (p := ⟨gx, 1, none⟩) ltx hxm).trans x1
          have f3 := (cell_kept hSw (p := ⟨g2, jn * 2 + 1, none⟩) lt2 h2m).trans c3
          simp only [rgVf1]; go_simp
          try with_reducible rfl
        try simp only [rgVf1, Act.put, pA, pB, pC]
        refine tkY 2 rgVf2 (v := ?_) rfl bd ?_ ?_
        rotate_left
        · intro w hSw
          simp only [rgVf2]; go_simp
          try with_reducible rfl
        try simp only [rgVf2, Act.put, pA, pB, pC]
        refine tkY 3 rgVf3 (v := ?_) rfl bd ?_ ?_
        rotate_left
        · intro w hSw
          simp only [rgVf3]; go_simp
          try with_reducible rfl
        try simp only [rgVf3, Act.put, pA, pB, pC]
        refine tkY 4 rgVf4 (v := ?_) rfl bd ?_ ?_
        rotate_left
        · intro w hSw
          have f1 := (cell_kept hSw (p := ⟨gx, 0, none⟩) ltx hxm).trans x0
          have f2 := (cell_kept hSw (p := ⟨gx, 1, none⟩) ltx hxm).trans x1
          have f3 := (cell_kept hSw (p := ⟨g2, jn * 2 + 1, none⟩) lt2 h2m).trans c3
          simp only [rgVf4]; go_simp
          try with_reducible rfl
        try simp only [rgVf4, Act.put, pA, pB, pC]
        refine tkY 5 rgVf5 (v := ?_) rfl bd ?_ ?_
        rotate_left
        · intro w hSw
          simp only [rgVf5]; go_simp
          try with_reducible rfl
        try simp only [rgVf5, Act.put, pA, pB, pC]
        refine tkY 6 rgVf6 (v := ?_) rfl bd ?_ ?_
        rotate_left
        · intro w hSw
          simp only [rgVf6]; go_simp
          try with_reducible rfl
        try simp only [rgVf6, Act.put, pA, pB, pC]
        refine tkY 7 rgVf7 (v := ?_) rfl bd ?_ ?_
        rotate_left
        · intro w hSw
          have f1 := (cell_kept hSw (p := ⟨gx, 0, none⟩) ltx hxm).trans x0
          have f2 := (cell_kept hSw (p := ⟨gx, 1, none⟩) ltx hxm).trans x1
          have f3 := (cell_kept hSw (p := ⟨g2, jn * 2 + 1, none⟩) lt2 h2m).trans c3
          simp only [rgVf7]; go_simp
          try with_reducible rfl
        try simp only [rgVf7, Act.put, pA, pB, pC]
        refine tkY 8 rgVf8 (v := ?_) rfl bd ?_ ?_
        rotate_left
        · intro w hSw
          simp only [rgVf8]; go_simp
          try with_reducible rfl
        try simp only [rgVf8, Act.put, pA, pB, pC]
        refine wpAnyH_ready (rs := [9]) (by kernel_rfl) (by simp) ?_
        refine AllReadyH.cons (o := rgVf9) rfl (fun K hK => ?_) AllReadyH.nil
        simp only [rgVf9]; go_simp
        refine HZB.out.mono ?_
        rintro e V1 ⟨a5, c5, rfl, I5, f5, m5, k5⟩
        have kb : MK mp W V1 := MK.and bd k5
        have hl5 := I5.le
        have HI5 := Lib.hid I5
        have HF5 := Lib.hid f5
        have HM5 := Lib.hid m5
        clear I5 f5 m5 k5
        go_wp2_with (fail)
        refine hK.out _ _ kb (fun hHeld => ?_)
        clear hK K hHeld
        try simp only [rgVf9, Act.put, pA, pB, pC]
        refine tkY 10 rgVf10 (v := ?_) rfl kb ?_ ?_
        rotate_left
        · intro w hSw
          simp only [rgVf10]; go_simp
          try with_reducible rfl
        try simp only [rgVf10, Act.put, pA, pB, pC]
        refine tkY 11 rgVf11 (v := ?_) rfl kb ?_ ?_
        rotate_left
        · intro w hSw
          simp only [rgVf11]; go_simp
          try with_reducible rfl
        try simp only [rgVf11, Act.put, pA, pB, pC]
        refine tkY 12 rgVf12 (v := ?_) rfl kb ?_ ?_
        rotate_left
        · intro w hSw
          simp only [rgVf12]; go_simp
          try with_reducible rfl
        try simp only [rgVf12, Act.put, pA, pB, pC]
        refine tkY 13 rgVf13 (v := ?_) rfl kb ?_ ?_
        rotate_left
        · intro w hSw
          simp only [rgVf13]; go_simp
          try with_reducible rfl
        try simp only [rgVf13, Act.put, pA, pB, pC]
        refine tkY 14 rgVf14 (v := ?_) rfl kb ?_ ?_
        rotate_left
        · intro w hSw
          simp only [rgVf14]; go_simp
          try with_reducible rfl
        try simp only [rgVf14, Act.put, pA, pB, pC]
        refine wpAnyH_done (by kernel_rfl) ?_ _
        have HT3 : Hid (NpI w mp M2 oa oc O V1) := Lib.hid (HTW.out.spent HM5.out kb)
        have HIS : Hid (∀ g, a5 = some ⟨g, 0, none⟩ → W.heap.size ≤ g) := HF5
        clear HTW HX HB1 HP1 x0 x1 ltx hxm h2m lt2 c3 bd kb HZB HM5 HF5
        rcases HST.out with ⟨h1, h2, h3⟩ | ⟨h1, h2, h3, h4⟩
        · have h1 : r2 ≠ 0 := h1
          have h1b : (r2 != 0) = true := by simpa using h1
          have HF : Hid (NextsT 73 mp (nextM M s l letter) w (.returned (.tuple #[.slice none 0 0, .int .i64 r2])) V1) := Lib.hid (nextsT_none (M := M2) (by rw [HE.out]; exact h3) HT3.out.meter HT3.out.kept)
          clear h2 h3 HST
          go_wp2
          exact bodyPost_ret (v := .tuple #[.slice none 0 0, .int .i64 r2]) (by simp [results, Tryd.results40, go_sem]) rfl HF.out
        · have h1 : r2 = 0 := h1
          subst h1
          have HG5 : Hid (GoodI r1) := Lib.hid h2
          have HE3 : Hid (nextM M s l letter = itGo s letter (l.drop (k + 1)) M2 (putAllI [] (O ++ r1))) := Lib.hid (by rw [HE.out]; exact h4)
          have h3 : r1.length ≤ 2 ^ z := h3
          have HC2 : Hid (q + r1.length + costI s (l.drop (k + 1)) ≤ 100000000000) := Lib.hid (by
            have h := HC.out
            rw [HD.out, costI_cons, HPJ.out, HZL.out] at h
            omega)
          have hqm : q + r1.length ≤ 100000000000 := by have := HC2.out; omega
          obtain ⟨ls, hls, I⟩ := HT3.out.out
          obtain ⟨ms, hms, J⟩ := HI5.out
          have hln : ls.length = q := by rw [← its_len, hls]; exact HQ.out
          have hmn : ms.length = r1.length := by rw [← its_len, hms]
          have RR := I.row
          rw [hln] at RR
          have RJ := J.row
          rw [hmn] at RJ
          obtain ⟨v4, w4, hr3, A4⟩ := run_appIt 48 48 Tryd.underlying48 oa oc q (iflat ls) _ RR a5 c5 r1.length (iflat ms) RJ (iflat_one ms) (by omega)
          obtain ⟨a4, c4, rfl, I4, k4, f4⟩ := its_join I J hln hmn A4
          rw [hls, hms] at I4
          have HT4 : Hid (NpI w mp M2 a4 c4 (O ++ r1) w4) := Lib.hid (HT3.out.put I4 k4 f4)
          have HQ4 : Hid ((O ++ r1).length = q + r1.length) := Lib.hid (by rw [List.length_append, HQ.out])
          have HG4 : Hid (GoodI (O ++ r1)) := Lib.hid (goodI_app HGD.out HG5.out)
          have hl4 := I4.le
          rw [HQ4.out] at hl4
          clear RR RJ A4 I4 k4 f4 I J hls hms hln hmn h2 h3 h4 HST HT3 HI5
          generalize r1.length = q5 at *
          go_wp2_with (at_builtin; refine Lib.wpList_append_run _ rfl _ _ _ _ rfl _ _ rfl rfl _ _ hr3 ?_)
          go_roundw
          case rel => exact ⟨k + 1, q + q5, a4, c4, _, M2, hlt, rfl, rfl, rfl, by go_num, HQ4, HG4, HT4, HE3, HC2⟩
          case measure => simp [intOf]; omega
      · have hkn : k = n := Nat.le_antisymm hk (Nat.le_of_not_lt hlt)
        have HFE : Hid (nextM M s l letter = (putAllI [] O, 0, Mi)) := Lib.hid (by
          have h := HE.out
          rw [hkn, ← HN.out, List.drop_length] at h
          exact h)
        have Z := ordered38 oa oc O wr HT.out.out HGD.out (by rw [HQ.out]; have := HC.out; omega)
        rw [HQ.out] at Z
        have HZ := Lib.hid Z
        clear Z
        go_wp2_with (fail)
        refine HZ.out.mono ?_
        rintro e w5 ⟨rfl, I5, k5⟩
        have HF : Hid (NextsT 73 mp (nextM M s l letter) w (.returned (.tuple #[.slice oa (putAllI [] O).length oc, .int .i64 0])) w5) := Lib.hid (by
          rw [HFE.out]
          have h := HT.out.put I5 k5 (fun g e => .inl e)
          exact ⟨oa, oc, rfl, h.out, h.fresh, h.meter, h.kept⟩)
        have hl5 := I5.le
        generalize (putAllI [] O).length = q5 at HF hl5 ⊢
        clear I5 k5 HZ
        go_wp2
        exact bodyPost_ret (v := .tuple #[.slice oa q5 oc, .int .i64 0]) (by simp [results, Tryd.results40, go_sem]) rfl HF.out
end Go.Proofs.YtmefmnpmppdpmabDoor

/-! The example of chapter 9; the program's contracts as the laws' walks want them. -/
namespace Go.Proofs.YtmefmnpmppdpmabDoor
open Go.ChangeShapes Go.WideShapes Go.ChangeAt Go.RowKit

end Go.Proofs.YtmefmnpmppdpmabDoor

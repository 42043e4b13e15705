/- The reference's Final, Start. -/
import Derived.Test.YtadnjlhkppcmmaaTg
import Derived.Test.YtadnjlhkppcmmaaNl

/-! Items and meters in memory; what one item comes to. -/
namespace Go.Proofs.Ytadnjlhkppcmmaa
open Go.ChangeShapes Go.WideShapes Go.ChangeAt Go.RowKit

theorem Its.kept {X : Nat → Prop} {w w' : World} {a : Option Addr} {c : Nat} {s : List It} (h : Its w a c s) (k : Kept X w w') (h1 : ∀ g cs, Lies w g 75 cs → ¬ X g) (h2 : ∀ g cs, Lies w g 3 cs → ¬ X g) : Its w' a c s := by
  obtain ⟨ls, e, h⟩ := h
  refine ⟨ls, e, h.row.kept k (fun g e => ?_), fun l hl => (h.each l hl).kept k (fun g e => ?_)⟩
  · rcases h.row.2 with ⟨h3, _⟩ | ⟨g', sp, h3, _, _, _, l⟩
    · rw [h3] at e; cases e
    · rw [h3] at e; injection e with e; injection e with e; subst e
      exact h1 _ _ l
  · rcases h.each l hl with ⟨h3, _⟩ | ⟨g', sp, h3, _, _, l⟩
    · rw [h3] at e; cases e
    · rw [h3] at e; injection e with e; injection e with e; subst e
      exact h2 _ _ l
theorem Its.mk {w w' : World} {T : TypeId} {mp : Option Addr} {M : Mr} (h : MrAt w T mp M) (h1 : T ≠ 75) (h2 : T ≠ 3) (k : MK mp w w') {a : Option Addr} {c : Nat} {s : List It} (r : Its w a c s) : Its w' a c s := by
  have hap : ∀ (t : TypeId) (g : Nat) (cs : List Value), t ≠ T → Lies w g t cs → mp ≠ some ⟨g, 0, none⟩ := fun t g cs ht l e => by
    rcases h.form with h | ⟨b, h, cs', l'⟩
    · rw [h] at e; cases e
    · rw [h] at e; injection e with e; injection e with e; subst e
      exact l.other l' ht rfl
  exact r.kept k (fun g cs l e => hap _ g cs (Ne.symm h1) l e) (fun g cs l e => hap _ g cs (Ne.symm h2) l e)
theorem MrAt.kept {X : Nat → Prop} {w w' : World} {T : TypeId} {mp : Option Addr} {M : Mr} (h : MrAt w T mp M) (k : Kept X w w') (hx : ∀ g, mp = some ⟨g, 0, none⟩ → ¬ X g) : MrAt w' T mp M := by
  cases M with
  | none => exact h
  | some p =>
    obtain ⟨B, S, o⟩ := p
    obtain ⟨b, e, a, r⟩ := h
    exact ⟨b, e, Lies.kept a k (hx b e), r⟩
theorem MrAt.lt {w : World} {T : TypeId} {mp : Option Addr} {M : Mr} (h : MrAt w T mp M) {g : Nat} (e : mp = some ⟨g, 0, none⟩) : g < w.heap.size := by
  rcases h.form with h | ⟨b, h, cs, l⟩
  · rw [h] at e; cases e
  · rw [h] at e; injection e with e; injection e with e; subst e
    exact l.lt
theorem its_apart {W : World} {oa : Option Addr} {oc : Nat} {O : List It} (h : Its W oa oc O) {t : TypeId} {cs : List Value} {g : Nat} (l : Lies W g t cs) (ht : t ≠ 75) : oa ≠ some ⟨g, 0, none⟩ := by
  intro e
  obtain ⟨ls, _, h⟩ := h
  rcases h.row.2 with ⟨h3, _⟩ | ⟨g', sp, h3, _, _, _, l'⟩
  · rw [h3] at e; cases e
  · rw [h3] at e; injection e with e; injection e with e; subst e
    exact l.other l' ht rfl
theorem bag_put {W W' : World} {oa : Option Addr} {oc : Nat} {O : List It} (h : Its W oa oc O) (k : Kept (fun g => oa = some ⟨g, 0, none⟩) W W') {a : Option Addr} {c : Nat} {xs : List Int} (r : Bag W a c xs) : Bag W' a c xs := by
  refine r.kept k (fun g e => ?_)
  rcases r with ⟨h3, _⟩ | ⟨g', sp, h3, _, _, l⟩
  · rw [h3] at e; cases e
  · rw [h3] at e; injection e with e; injection e with e; subst e
    exact its_apart h l (by decide)
theorem bags_put {W W' : World} {oa : Option Addr} {oc : Nat} {O : List It} (h : Its W oa oc O) (k : Kept (fun g => oa = some ⟨g, 0, none⟩) W W') {a : Option Addr} {c : Nat} {xs : List (List Int)} (r : Bags W a c xs) : Bags W' a c xs := by
  obtain ⟨ps, e, Q⟩ := r
  refine ⟨ps, e, Q.row.kept k (fun g e => ?_), fun p hp => bag_put h k (Q.each p hp)⟩
  rcases Q.row with ⟨h3, _⟩ | ⟨g', sp, h3, _, _, l⟩
  · rw [h3] at e; cases e
  · rw [h3] at e; injection e with e; injection e with e; subst e
    exact its_apart h l (by decide)
/-- The choices that items have. -/
def costI (s : List Lin) (l : List It) : Nat := (l.map (fun x => 2 ^ (linAt s x.j.toNat).ps.length)).sum
theorem costI_cons (s : List Lin) (x : It) (r : List It) : costI s (x :: r) = 2 ^ (linAt s x.j.toNat).ps.length + costI s r := rfl
theorem drop_itAt {l : List It} {k : Nat} (hk : k < l.length) : l.drop k = itAt l k :: l.drop (k + 1) := by
  rw [itAt_get hk, List.drop_eq_getElem_cons hk]
theorem itGo_20 {s : List Lin} {letter : Int} {x : It} {r : List It} {M : Mr} {O : List It} (h : 20 < (linAt s x.j.toNat).ps.length) : itGo s letter (x :: r) M O = ([], 3, M) := by
  rw [itGo, if_pos h]
theorem itGo_7 {s : List Lin} {letter : Int} {x : It} {r : List It} {M : Mr} {O : List It} (h : ¬ 20 < (linAt s x.j.toNat).ps.length) {p : Bool × Mr} (e : spendM M ((2 ^ (linAt s x.j.toNat).ps.length : Nat) : Int) = p) (hp : p.1 = false) : itGo s letter (x :: r) M O = ([], 7, p.2) := by
  rw [itGo, if_neg h, e, hp]; rfl
theorem itGo_3 {s : List Lin} {letter : Int} {x : It} {r : List It} {M : Mr} {O : List It} (h : ¬ 20 < (linAt s x.j.toNat).ps.length) {p : Bool × Mr} (e : spendM M ((2 ^ (linAt s x.j.toNat).ps.length : Nat) : Int) = p) (hp : p.1 = true) (hc : maskF x (linAt s x.j.toNat).ps letter (2 ^ (linAt s x.j.toNat).ps.length) 0 O = none) : itGo s letter (x :: r) M O = ([], 3, p.2) := by
  rw [itGo, if_neg h, e, hp, if_pos rfl, hc]
theorem itGo_0 {s : List Lin} {letter : Int} {x : It} {r : List It} {M : Mr} {O O' : List It} (h : ¬ 20 < (linAt s x.j.toNat).ps.length) {p : Bool × Mr} (e : spendM M ((2 ^ (linAt s x.j.toNat).ps.length : Nat) : Int) = p) (hp : p.1 = true) (hc : maskF x (linAt s x.j.toNat).ps letter (2 ^ (linAt s x.j.toNat).ps.length) 0 O = some O') : itGo s letter (x :: r) M O = itGo s letter r p.2 O' := by
  rw [itGo, if_neg h, e, hp, if_pos rfl, hc]
end Go.Proofs.Ytadnjlhkppcmmaa

/-! The reference's Final, Start. -/
namespace Go.Proofs.Ytadnjlhkppcmmaa
open Go.ChangeShapes Go.WideShapes Go.ChangeAt Go.RowKit

set_option maxRecDepth 100000 in
theorem final_any (a : Option Addr) (c : Nat) (l : List It) (w : World) (R : Its w a c l) :
    Calls Try.prog 21 #[.slice a l.length c] w (TellsB (finalL l) w) := by
  have hle := R.le
  have HR := Lib.hid R
  generalize hn : l.length = n at hle ⊢
  have HN := Lib.hid hn
  clear R hn
  go_enter Try.func21, Try.ntmps21
  go_wp2
  go_loopw [2, 7] (fun r i wr => ∃ k : Nat, k ≤ n ∧ r = .bool false ∧ i = .int .i64 k ∧ Hid (Below w.heap.size w wr) ∧ Hid (∀ j, j < k → (itAt l j).c ≠ [])) (fun _ i _ => n - (intOf i).toNat)
  case atStart => exact ⟨0, Nat.zero_le _, rfl, rfl, Lib.hid (Below.refl _ _), Lib.hid (fun j h => absurd h (Nat.not_lt_zero _))⟩
  case round =>
    obtain ⟨k, hk, rfl, rfl, HB, HE⟩ := hrel
    by_cases hlt : k < n
    · obtain ⟨g, b, d, e1, c0, c1, B1⟩ := (HR.out.below HB.out).at (k := k) (by rw [HN.out]; exact hlt)
      subst e1
      have hbl := B1.le
      generalize hu : (itAt l k).c.length = u at c1 hbl
      have HU := Lib.hid hu
      generalize (itAt l k).j = j at c0
      have bb := below_alloc wr (.cells #[.int .i64 j, .slice b u d] 75)
      have HB2 := Lib.hid (HB.out.trans (bb.mono HB.out.size))
      clear B1 bb hu
      by_cases h0 : u = 0
      · subst h0
        have E : Hid (finalL l = true) := Lib.hid (by
          unfold finalL
          rw [List.any_eq_true]
          have hkl : k < l.length := by rw [HN.out]; exact hlt
          refine ⟨l[k], List.getElem_mem hkl, ?_⟩
          rw [← itAt_get hkl, decide_eq_true_eq]
          exact List.eq_nil_of_length_eq_zero HU.out)
        go_wp2
        go_ret
        exact ⟨by rw [E.out]; try rfl, HB2.out⟩
      · have h0b : ((u : Int) == 0) = false := by simp; omega
        have HE2 : Hid (∀ j, j < k + 1 → (itAt l j).c ≠ []) := Lib.hid (fun j hj => by
          by_cases e : j = k
          · subst e
            intro h
            have h2 := HU.out
            rw [h] at h2
            exact h0 h2.symm
          · exact HE.out j (by omega))
        go_wp2
        go_roundw
        case rel => exact ⟨k + 1, hlt, rfl, by go_num, HB2, HE2⟩
        case measure => simp [intOf]; omega
    · have E : Hid (finalL l = false) := Lib.hid (by
        unfold finalL
        rw [List.any_eq_false]
        intro x hx
        obtain ⟨i, hi, rfl⟩ := List.getElem_of_mem hx
        rw [← itAt_get hi, decide_eq_true_eq]
        exact HE.out i (by rw [HN.out] at hi; omega))
      go_wp2
      go_ret
      exact ⟨by rw [E.out]; try rfl, HB.out⟩
/-- What a call that makes items comes to. -/
def MakesI (s : List It) (w : World) (e : Ending) (w' : World) : Prop := ∃ a c, e = .returned (.slice a s.length c) ∧ Its w' a c s ∧ From w.heap.size a ∧ Below w.heap.size w w'
theorem its_push {w w' : World} {a b : Option Addr} {c d : Nat} {s : List It} {x : It} {ls : List Ib} (hs : its ls = s) (h : Ibs w a c ls) (hx : Bag w b d x.c) {n u : Nat} (hn : s.length = n) (hu : x.c.length = u) {v : Value}
    (r : AppendsI a n 1 (iflat ls) [.int .i64 x.j, .slice b u d] w v w') : ∃ a' c', v = .slice a' (n + 1) c' ∧ Its w' a' c' (s ++ [x]) ∧ ∀ B, B ≤ w.heap.size → From B a → From B a' ∧ Below B w w' := by
  subst hn hu hs
  have hb := fun (B : Nat) (hB : B ≤ w.heap.size) (hf : From B a) => r.below hB hf
  obtain ⟨a', c', rfl, R, k, f⟩ := r
  refine ⟨a', c', rfl, ?_, fun B hB hf => ?_⟩
  · have h2 := its_set h hx k ls.length (a' := a') (c' := c') (by
      rw [List.take_length, List.drop_length, iflat_app]
      rw [its_len] at R
      exact R)
    have e1 : (its ls).take ls.length = its ls := List.take_of_length_le (by rw [its_len]; exact Nat.le_refl _)
    have e2 : (its ls).drop ls.length = [] := List.drop_eq_nil_of_le (by rw [its_len]; exact Nat.le_refl _)
    rw [e1, e2] at h2
    exact h2
  · have h3 := hb B hB hf
    exact ⟨h3.2 a' _ c' rfl, h3.1⟩
/-- The first k of the items that begin. -/
def startK (s : List Lin) (k : Nat) : List It := (List.range k).map (fun j : Nat => (⟨(j : Int), (linAt s j).base⟩ : It))
theorem startK_len (s : List Lin) (k : Nat) : (startK s k).length = k := by unfold startK; rw [List.length_map, List.length_range]
theorem startK_succ (s : List Lin) (k : Nat) : startK s (k + 1) = startK s k ++ [⟨(k : Int), (linAt s k).base⟩] := by
  unfold startK
  rw [List.range_succ, List.map_append]; rfl
set_option maxRecDepth 100000 in
set_option maxHeartbeats 2000000 in
theorem start_any (a : Option Addr) (c : Nat) (s : List Lin) (w : World) (R : Lins w a c s) (hb : s.length ≤ 1000000) :
    Calls Try.prog 17 #[.slice a s.length c] w (MakesI (startL s) w) := by
  have hle := R.le
  have Z := rightSemi_any a c s w R
  have HR := Lib.hid R
  generalize hn : s.length = n at hle hb Z ⊢
  have HN := Lib.hid hn
  generalize hv : rightS s = v at Z
  have HV := Lib.hid hv
  have HZ := Lib.hid Z
  clear R hn hv Z
  go_enter Try.func17, Try.ntmps17
  go_wp2_with (fail)
  refine HZ.out.mono ?_
  rintro e w1 ⟨rfl, b1⟩
  have HB := Lib.hid b1
  clear b1 HZ
  cases v with
  | false =>
    have E : Hid (startL s = []) := Lib.hid (by unfold startL; rw [HV.out]; rfl)
    go_wp2
    go_ret
    rw [E.out]
    exact ⟨none, 0, rfl, Its.nil _, From.none _, HB.out⟩
  | true =>
    have HRB : Hid (∀ k, k < n → (linAt s k).base.length ≤ 12) := Lib.hid (fun k hk => by
      have h := ((rightS_upTo s).1 HV.out k (by rw [HN.out]; exact hk)).1
      exact (right_iff.1 (rightLin_iff.1 h).1).1)
    have E : Hid (startL s = startK s n) := Lib.hid (by unfold startL startK; rw [HV.out, if_pos rfl, HN.out])
    go_wp2
    go_loopw [3, 11] (fun al i wr => ∃ (k : Nat) (oa : Option Addr) (oc : Nat), k ≤ n ∧ al = .slice oa k oc ∧ i = .int .i64 k ∧ Hid (Its wr oa oc (startK s k)) ∧ Hid (From w.heap.size oa) ∧ Hid (Below w.heap.size w wr)) (fun _ i _ => n - (intOf i).toNat)
    case atStart => exact ⟨0, none, 0, Nat.zero_le _, rfl, rfl, Lib.hid (Its.nil _), Lib.hid (From.none _), HB⟩
    case round =>
      clear HB
      obtain ⟨k, oa, oc, hk, rfl, rfl, HI, HF, HB⟩ := hrel
      by_cases hlt : k < n
      · obtain ⟨g, b, d, pb, pd, e1, c0, c1, B1, _⟩ := (HR.out.below HB.out).at (k := k) (by rw [HN.out]; exact hlt)
        subst e1
        have hbl := B1.le
        have h12 := HRB.out k hlt
        generalize hu : (linAt s k).base.length = u at c0 hbl h12
        generalize (linAt s k).ps.length = z at c1
        have bb := below_alloc wr (.cells #[.slice b u d, .slice pb z pd] 61)
        obtain ⟨v1, w2, hr1, a2, c2, e2, B2, f2, b2⟩ := run_copy 52 52 Try.underlying52 b d (linAt s k).base _ (B1.below bb) (by rw [hu]; omega)
        rw [hu] at hr1 e2
        injection e2 with e2
        subst e2
        have bz := below_alloc w2 (.cells #[.int .i64 k, .slice a2 u c2] 75)
        have bA := (bb.trans (b2.mono bb.size)).trans (bz.mono (Nat.le_trans bb.size b2.size))
        obtain ⟨ls, hls, I⟩ := HI.out.below bA
        have hln : ls.length = k := by rw [← its_len, hls, startK_len]
        have RR := I.row
        rw [hln] at RR
        have LZ := Lies.new w2 75 [.int .i64 k, .slice a2 u c2]
        obtain ⟨v4, w4, hr2, A4⟩ := run_appIt_at 28 28 Try.underlying28 oa oc k (iflat ls) _ RR ⟨w2.heap.size, 0, none⟩ 1 1 [.int .i64 k, .slice a2 u c2] rfl (fun j y hj => by rw [Addr.add_lit, Nat.zero_add]; exact (LZ.cell j).trans hj) (by intro y hy; simp only [List.mem_cons, List.not_mem_nil, or_false] at hy; rcases hy with rfl | rfl <;> rfl) (by omega)
        obtain ⟨a4, c4, rfl, I4, G4⟩ := its_push (x := ⟨(k : Int), (linAt s k).base⟩) hls I (B2.below bz) (startK_len s k) hu A4
        rw [← startK_succ] at I4
        have hsz := HB.out.size
        have hG := G4 w.heap.size (Nat.le_trans hsz bA.size) HF.out
        have HI4 := Lib.hid I4
        have HF4 := Lib.hid hG.1
        have HB4 : Hid (Below w.heap.size w w4) := Lib.hid ((HB.out.trans (bA.mono hsz)).trans hG.2)
        have hc4 := HI4.out.le
        rw [startK_len] at hc4
        clear bb bz bA RR LZ A4 I4 hG G4 B1 B2 f2 b2 I hls hln
        go_wp2_with (at_builtin; first | refine Lib.wpList_append_run (o := ⟨some 20, _, _, _, _, _⟩) _ rfl _ _ _ _ rfl _ _ rfl rfl _ _ hr1 ?_ | refine Lib.wpList_append_run (o := ⟨some 23, _, _, _, _, _⟩) _ rfl _ _ _ _ rfl _ _ rfl rfl _ _ hr2 ?_)
        go_roundw
        case rel => exact ⟨k + 1, a4, c4, hlt, rfl, by go_num, HI4, HF4, HB4⟩
        case measure => simp [intOf]; omega
      · have hkn : k = n := by omega
        subst hkn
        go_wp2
        go_ret
        rw [E.out]
        exact ⟨oa, oc, by rw [startK_len]; rfl, HI.out, HF.out, HB.out⟩
end Go.Proofs.Ytadnjlhkppcmmaa

/- Plain words: a pattern with nothing added; two patterns put together. -/
import Derived.Test.YtmnkjekjknhhjaaGreatDoorNn

/-! The reference's Norm: its answer said in full. -/
namespace Go.Proofs.YtmnkjekjknhhjaaGreatDoor
open Go.ChangeShapes Go.WideShapes Go.ChangeAt Go.RowKit

/-! ### What a pattern stands for, node by node -/
def setAt (es : List (List Lin)) (a : Int) : List Lin := es.getD a.toNat []
def nodeM (M : Mr) (es : List (List Lin)) (kd na nb nn : Int) : List Lin × Int × Mr :=
  if kd = 2 then (oneS, 0, M)
  else if kd = 3 then ([⟨oneL nn na, []⟩], 0, M)
  else if kd = 4 then (unionS (setAt es na) (setAt es nb), 0, M)
  else if kd = 5 then catM M (setAt es na) (setAt es nb)
  else if kd = 6 then starM M (setAt es na)
  else ([], 0, M)
def normGo : List Q.Nd → Mr → List (List Lin) → List (List Lin) × Int × Mr
  | [], M, es => (es, 0, M)
  | x :: r, M, es =>
    if (spendM M 1).1 = true then
      (if (nodeM (spendM M 1).2 es x.kind x.a x.b x.n).2.1 = 0 then normGo r (nodeM (spendM M 1).2 es x.kind x.a x.b x.n).2.2 (es ++ [(nodeM (spendM M 1).2 es x.kind x.a x.b x.n).1])
       else ([], (nodeM (spendM M 1).2 es x.kind x.a x.b x.n).2.1, (nodeM (spendM M 1).2 es x.kind x.a x.b x.n).2.2))
    else ([], 7, (spendM M 1).2)
theorem normGo_nil (M : Mr) (es : List (List Lin)) : normGo [] M es = (es, 0, M) := rfl
theorem normGo_cons (x : Q.Nd) (r : List Q.Nd) (M : Mr) (es : List (List Lin)) : normGo (x :: r) M es =
    if (spendM M 1).1 = true then
      (if (nodeM (spendM M 1).2 es x.kind x.a x.b x.n).2.1 = 0 then normGo r (nodeM (spendM M 1).2 es x.kind x.a x.b x.n).2.2 (es ++ [(nodeM (spendM M 1).2 es x.kind x.a x.b x.n).1])
       else ([], (nodeM (spendM M 1).2 es x.kind x.a x.b x.n).2.1, (nodeM (spendM M 1).2 es x.kind x.a x.b x.n).2.2))
    else ([], 7, (spendM M 1).2) := rfl
def normM (M : Mr) (ns : List Q.Nd) (T : Int) : List Lin × Int × Mr :=
  if 0 ≤ T ∧ T ≤ 12 ∧ Q.chkB ns T = true then
    (if (normGo ns M []).2.1 = 0 then ((normGo ns M []).1.getD (ns.length - 1) [], 0, (normGo ns M []).2.2) else ([], (normGo ns M []).2.1, (normGo ns M []).2.2))
  else ([], 1, M)
theorem normM_err {M M' : Mr} {ns : List Q.Nd} {T q : Int} {l : List (List Lin)} (h : 0 ≤ T ∧ T ≤ 12 ∧ Q.chkB ns T = true) (e : normGo ns M [] = (l, q, M')) (hq : q ≠ 0) : normM M ns T = ([], q, M') := by
  unfold normM
  rw [if_pos h, e, if_neg hq]
theorem normM_ok {M M' : Mr} {ns : List Q.Nd} {T : Int} {l : List (List Lin)} (h : 0 ≤ T ∧ T ≤ 12 ∧ Q.chkB ns T = true) (e : normGo ns M [] = (l, 0, M')) : normM M ns T = (l.getD (ns.length - 1) [], 0, M') := by
  unfold normM
  rw [if_pos h, e, if_pos rfl]
/-- What Norm comes to, in full. -/
def NormX (T : TypeId) (mp : Option Addr) (r : List Lin × Int × Mr) (w : World) (e : Ending) (w' : World) : Prop :=
  ∃ a c, e = .returned (.tuple #[.slice a r.1.length c, .int .i64 r.2.1]) ∧ Lins w' a c r.1 ∧ MrAt w' T mp r.2.2 ∧ MK mp w w'
theorem normX_none {T : TypeId} {mp : Option Addr} {r : List Lin × Int × Mr} {q : Int} {M : Mr} {w w' : World} (h : r = ([], q, M)) (m : MrAt w' T mp M) (k : MK mp w w') : NormX T mp r w (.returned (.tuple #[.slice none 0 0, .int .i64 q])) w' := by
  subst h
  exact ⟨none, 0, rfl, Lins.nil _, m, k⟩
theorem chk_stepT {T : Int} {ns : List Q.Nd} (h : Q.chkB ns T = true) {k : Nat} (hk : k < ns.length) {fl : List (Int × Bool)} (hf : Q.chkL T 0 (ns.take k) [] = some fl) :
    ∃ fl', Q.chkStep T k ns[k] fl = some fl' ∧ Q.chkL T 0 (ns.take (k + 1)) [] = some fl' := by
  have h2 : Q.chkL T 0 ns [] ≠ none := by
    intro e
    unfold Q.chkB at h
    rw [e] at h
    simp [Q.oneB] at h
  have e1 := chkL_app T (ns.take (k + 1)) (ns.drop (k + 1)) 0 []
  rw [List.take_append_drop] at e1
  have e2 := chkL_app T (ns.take k) [ns[k]] 0 []
  rw [← List.take_succ_eq_append_getElem hk, hf] at e2
  have hl : (ns.take k).length = k := by rw [List.length_take]; omega
  rw [hl] at e2
  cases hs : Q.chkStep T k ns[k] fl with
  | none =>
    exfalso
    have e3 : Q.chkL T 0 (ns.take (k + 1)) [] = none := by
      rw [e2]
      show Q.chkL T (0 + k) [ns[k]] fl = none
      unfold Q.chkL
      rw [Nat.zero_add, hs]
    rw [e3] at e1
    exact h2 e1
  | some fl' =>
    refine ⟨fl', rfl, ?_⟩
    rw [e2]
    show Q.chkL T (0 + k) [ns[k]] fl = some fl'
    unfold Q.chkL
    rw [Nat.zero_add, hs]
    rfl
theorem step_kindsT {T : Int} {k : Nat} {x : Q.Nd} {fl fl' : List (Int × Bool)} (h : Q.chkStep T k x fl = some fl') :
    ((x.kind = 1 ∨ x.kind = 2) ∧ fl' = fl ++ [((k : Int), false)]) ∨
    (x.kind = 3 ∧ 0 ≤ x.n ∧ x.n < T ∧ 1 ≤ x.a ∧ x.a ≤ 999999999 ∧ fl' = fl ++ [((k : Int), false)]) ∨
    ((x.kind = 4 ∨ x.kind = 5) ∧ ∃ F p q, fl = F ++ [p, q] ∧ x.a = p.1 ∧ x.b = q.1 ∧ fl' = F ++ [((k : Int), p.2 || q.2)]) ∨
    (x.kind = 6 ∧ ∃ F p, fl = F ++ [p] ∧ x.a = p.1 ∧ fl' = F ++ [((k : Int), true)]) := by
  by_cases h45 : x.kind = 4 ∨ x.kind = 5
  · have hp : Q.partsK x.kind = 2 := by unfold Q.partsK; rw [if_pos h45]
    by_cases hl : fl.length < 2
    · rw [Q.step_short (by rw [hp]; exact hl)] at h; cases h
    · obtain ⟨F, p, q, rfl⟩ := Q.last_two (fl := fl) (by omega)
      rw [Q.step_two F p q h45] at h
      split at h
      · next hh =>
        refine .inr (.inr (.inl ⟨h45, F, p, q, rfl, hh.1, hh.2.1, ?_⟩))
        injection h with h
        rw [← h]; simp
      · cases h
  · by_cases h6 : x.kind = 6
    · have hp : Q.partsK x.kind = 1 := by unfold Q.partsK; rw [if_neg h45, if_pos h6]
      by_cases hl : fl.length < 1
      · rw [Q.step_short (by rw [hp]; exact hl)] at h; cases h
      · obtain ⟨F, p, rfl⟩ := Q.last_one (fl := fl) (by omega)
        rw [Q.step_star F p h6] at h
        split at h
        · next hh =>
          refine .inr (.inr (.inr ⟨h6, F, p, rfl, hh.2.1, ?_⟩))
          injection h with h
          rw [← h]; simp
        · cases h
    · have hp : Q.partsK x.kind = 0 := by unfold Q.partsK; rw [if_neg h45, if_neg h6]
      obtain ⟨s1, s2⟩ := Q.step_leaf (tags := T) (k := k) (y := x) fl hp h6
      cases hr : Q.rightB x T [] with
      | false => rw [s2 hr] at h; cases h
      | true =>
        have e := s1 hr
        rw [h] at e
        injection e with e
        rw [List.take_length] at e
        unfold Q.rightB at hr
        by_cases h12 : x.kind = 1 ∨ x.kind = 2
        · exact .inl ⟨h12, e⟩
        · rw [if_neg h12] at hr
          by_cases h3 : x.kind = 3
          · rw [if_pos h3] at hr
            simp only [Bool.and_eq_true, decide_eq_true_eq] at hr
            exact .inr (.inl ⟨h3, hr.1, hr.2.1, hr.2.2.1, hr.2.2.2.1, e⟩)
          · rw [if_neg h3] at hr; cases hr
set_option maxRecDepth 100000 in
set_option maxHeartbeats 16000000 in
theorem norm47x (T : Int) (mp a : Option Addr) (c : Nat) (ns : List Q.Nd) (M : Mr) (w : World) (h0 : MrAt w 41 mp M) (hM : M ≠ none) (P : Q.Nds w a c ns) (hc : Q.chkB ns T = true) (hT0 : 0 ≤ T) (hT1 : T ≤ 12) (h1 : 1 ≤ ns.length) (h24 : ns.length ≤ 24) :
    Calls Tryz.prog 35 #[.pointer mp, .slice a ns.length c, .int .i64 T] w (NormX 41 mp (normM M ns T) w) := by
  have HCT : Hid (0 ≤ T ∧ T ≤ 12 ∧ Q.chkB ns T = true) := Lib.hid ⟨hT0, by omega, hc⟩
  have hle := P.le
  have Z := Q.checkPat_any ns T a c w P.at (by omega)
  unfold Q.chkOut at Z
  rw [hc] at Z
  generalize hn : ns.length = n at hle Z h1 h24 ⊢
  have HN := Lib.hid hn
  have HP := Lib.hid P
  have HC := Lib.hid hc
  have HMM := Lib.hid h0
  have HNM := Lib.hid hM
  have HZ := Lib.hid Z
  clear P hc hn h0 hM Z
  go_enter Tryz.func35, Tryz.ntmps35
  go_wp2_with (fail)
  refine HZ.out.mono ?_
  rintro e w1 ⟨rfl, b1⟩
  have HP1 := Lib.hid (HP.out.below b1)
  have HS1 : Hid (NoSt w mp none 0 0 [] [] M w1) := Lib.hid ⟨(MK.refl mp w).then b1, Row.nil _ _, fun e h => by simp at h, rfl, From.none _, HMM.out.below b1, HNM.out, trivial, fun e h => by simp at h⟩
  clear b1 HZ HP HMM
  go_wp2
  go_loopw [6, 7, 8, 27] (fun r er l i wr => ∃ (k : Nat) (la : Option Addr) (lc : Nat) (es : List Sx) (fl : List (Int × Bool)) (Mi : Mr), k ≤ n ∧ r = .slice none 0 0 ∧ er = .int .i64 0 ∧ l = .slice la k lc ∧ i = .int .i64 k ∧ Hid (NoSt w mp la lc k es fl Mi wr) ∧ Hid (Q.chkL T 0 (ns.take k) [] = some fl) ∧ Hid (Q.Nds wr a c ns) ∧ Hid (normGo ns M [] = normGo (ns.drop k) Mi (sxs es))) (fun _ _ _ i _ => n - (intOf i).toNat)
  case atStart => exact ⟨0, none, 0, [], [], M, Nat.zero_le _, rfl, rfl, rfl, rfl, HS1, Lib.hid rfl, HP1, Lib.hid rfl⟩
  case round =>
    obtain ⟨k, la, lc, es, fl, Mi, hk, rfl, rfl, rfl, rfl, HT, HF, HD, HGG⟩ := hrel
    have hlo := HT.out.row.le
    rw [sxv_len, HT.out.num] at hlo
    by_cases hlt : k < n
    · have hk' : k < ns.length := by rw [HN.out]; exact hlt
      obtain ⟨fl', hst, hf'⟩ := chk_stepT HC.out hk' HF.out
      have HKN := Lib.hid (step_kindsT hst)
      have HF' := Lib.hid hf'
      obtain ⟨g, rfl, X⟩ := HD.out.there hk'
      have x0 := X.c0
      have x1 := X.c1
      have x2 := X.c2
      have x3 := X.c3
      have x4 := X.c4
      have hgo := HGG.out
      rw [List.drop_eq_getElem_cons hk', normGo_cons] at hgo
      clear X hst hf'
      generalize (ns[k]).kind = kd at x0 HKN hgo
      generalize (ns[k]).a = na at x1 HKN hgo
      generalize (ns[k]).b = nb at x2 HKN hgo
      generalize (ns[k]).n = nn at x3 HKN hgo
      generalize (ns[k]).name = nm at x4
      have bb := below_alloc wr (.cells #[.int .i64 kd, .int .i64 na, .int .i64 nb, .int .i64 nn, .string nm] 102)
      have HTW := Lib.hid (HT.out.below bb)
      have HDW := Lib.hid (HD.out.below bb)
      have HL := Lib.hid (Lies.new wr 102 [.int .i64 kd, .int .i64 na, .int .i64 nb, .int .i64 nn, .string nm])
      clear bb hk'
      go_upto_region 7 with (fail)
      clear x0 x1 x2 x3 x4 HT HD
      generalize wr.alloc (.cells #[.int .i64 kd, .int .i64 na, .int .i64 nb, .int .i64 nn, .string nm] 102) = W at HTW HDW HL ⊢
      generalize wr.heap.size = gb at HL ⊢
      have Z : Calls Tryz.prog _ #[.pointer mp, .int .i64 1] W _ := spend51 mp Mi 1 W HTW.out.met HTW.out.some
      unfold SpendsM at Z
      have HNE := Lib.hid (spendM_ne (n := 1) HTW.out.some)
      generalize spendM Mi 1 = q at Z HNE hgo
      obtain ⟨v, M1⟩ := q
      dsimp only at hgo
      have HGO := Lib.hid hgo
      clear hgo
      have HZ := Lib.hid Z
      clear Z
      go_wp2_with (fail)
      refine HZ.out.mono ?_
      rintro e W2 ⟨rfl, m2, k2⟩
      have HT2 := Lib.hid (HTW.out.turn k2 m2 HNE.out)
      have gne : ∀ {X : List Value}, Lies W gb 102 X → mp ≠ some ⟨gb, 0, none⟩ := fun l e2 => by
        rcases HTW.out.met.form with h | ⟨b, h, cs, l2⟩
        · rw [h] at e2; cases e2
        · rw [h] at e2; injection e2 with e2; injection e2 with e2; subst e2
          exact l.other l2 (by decide) rfl
      have HL2 := Lib.hid (HL.out.kept k2 (gne HL.out))
      have HD2 : Hid (Q.Nds W2 (some ⟨g, 0, none⟩) c ns) := Lib.hid (HDW.out.kept k2 (fun g' eg e2 => by
        rcases HTW.out.met.form with h | ⟨b, h, cs, l2⟩
        · rw [h] at e2; cases e2
        · rcases HDW.out with ⟨h3, _⟩ | ⟨g3, sp, h3, _, _, _, l3⟩
          · cases h3
          · rw [h3] at eg; injection eg with eg; injection eg with eg; subst eg
            rw [h] at e2; injection e2 with e2; injection e2 with e2; subst e2
            exact Lies.other l2 l3 (by decide) rfl))
      clear m2 k2 HZ gne HTW HDW HL
      cases v with
      | false =>
        have HO := Lib.hid (normX_none (q := 7) (normM_err HCT.out (HGO.out.trans (if_neg Bool.false_ne_true)) (by decide)) HT2.out.met HT2.out.mks)
        go_wp2
        exact bodyPost_ret (v := .tuple #[.slice none 0 0, .int .i64 7]) (by simp [results, Tryz.results35, go_sem]) rfl HO.out
      | true =>
        have y0 : W2.cell? ⟨gb, 0, none⟩ = some (.int .i64 kd) := HL2.out.cell 0
        have y1 : W2.cell? ⟨gb, 1, none⟩ = some (.int .i64 na) := HL2.out.cell 1
        have y2 : W2.cell? ⟨gb, 2, none⟩ = some (.int .i64 nb) := HL2.out.cell 2
        have y3 : W2.cell? ⟨gb, 3, none⟩ = some (.int .i64 nn) := HL2.out.cell 3
        have hk24 : k < 24 := by omega
        go_upto_block 2 with (fail)
        go_cut [11, 12] from 36 to 89 (fun p er wx => ∃ (sa : Option Addr) (sc q : Nat) (e0 : Int) (x : List Lin) (M' : Mr), p = .slice sa q sc ∧ er = .int .i64 e0 ∧ Hid (x.length = q) ∧ Hid (Lins wx sa sc x) ∧ Hid (MrAt wx 41 mp M' ∧ M' ≠ none) ∧ Hid (MK mp W2 wx) ∧ Hid (e0 = 0 → Stk (sxs es ++ [x]) fl' (k + 1) ∧ Good 24 x) ∧ Hid ((x, e0, M') = nodeM M1 (sxs es) kd na nb nn))
        case first =>
          rcases HKN.out with ⟨rfl | rfl, hfl⟩ | ⟨rfl, h2, h3, h4, h5, hfl⟩ | ⟨h45, F, p, q, hF, hp, hq, hfl⟩ | ⟨rfl, F, p, hF, hp, hfl⟩
          · have HO : Hid (Stk (sxs es ++ [[]]) fl' (k + 1) ∧ Good 24 []) := Lib.hid (by rw [hfl]; exact stk_leaf HT2.out.stk (by rw [sxs_len, HT2.out.num]) hk24 (good_nil 1))
            clear hfl
            go_wp2
            go_meet
            exact ⟨none, 0, 0, 0, [], M1, rfl, rfl, Lib.hid rfl, Lib.hid (Lins.nil _), Lib.hid ⟨HT2.out.met, HT2.out.some⟩, Lib.hid (MK.refl _ _), Lib.hid (fun _ => HO.out), Lib.hid (by simp [nodeM])⟩
          · have HO : Hid (Stk (sxs es ++ [oneS]) fl' (k + 1) ∧ Good 24 oneS) := Lib.hid (by rw [hfl]; exact stk_leaf HT2.out.stk (by rw [sxs_len, HT2.out.num]) hk24 (good_one 1))
            clear hfl
            go_wp2_with (fail)
            refine (rone_any _).mono ?_
            rintro e w3 ⟨sa, sc, rfl, A3⟩
            have HA3 := Lib.hid A3
            clear A3
            go_wp2
            go_meet
            exact ⟨sa, sc, 1, 0, oneS, M1, rfl, rfl, Lib.hid rfl, Lib.hid ⟨_, rfl, HA3.out.row⟩, Lib.hid ⟨HT2.out.met.below HA3.out.bel, HT2.out.some⟩, Lib.hid ((MK.refl _ _).then HA3.out.bel), Lib.hid (fun _ => HO.out), Lib.hid (by simp [nodeM])⟩
          · have HO : Hid (Stk (sxs es ++ [[⟨oneL nn na, []⟩]]) fl' (k + 1) ∧ Good 24 [⟨oneL nn na, []⟩]) := Lib.hid (by rw [hfl]; exact stk_leaf HT2.out.stk (by rw [sxs_len, HT2.out.num]) hk24 (good_tag h2 (by omega) h4 h5))
            have HX : Hid (([⟨oneL nn na, []⟩], 0, M1) = nodeM M1 (sxs es) 3 na nb nn) := Lib.hid (by simp [nodeM])
            clear hfl h2 h3 h4 h5
            have HZ := Lib.hid (one25 nn na W2)
            go_wp2_with (fail)
            refine HZ.out.mono ?_
            rintro e w3 ⟨ba, bc, rfl, B3, _, b3⟩
            have HB3 := Lib.hid B3
            have Hb3 := Lib.hid b3
            have hlb := B3.le
            clear B3 b3 HZ
            generalize hob : oneL nn na = ob at HB3 hlb HO HX ⊢
            generalize hol : ob.length = ol at hlb ⊢
            have HOL := Lib.hid hol
            clear hob hol
            go_wp2
            go_meet
            have bx := below_alloc w3 (.cells #[.slice ba ol bc, .slice none 0 0] 53)
            have rn := row2_new (V := w3) ⟨ba, bc, none, 0, ⟨ob, []⟩⟩ ol 0 HOL.out rfl
            exact ⟨_, 1, 1, 0, [⟨ob, []⟩], M1, rfl, rfl, Lib.hid rfl, Lib.hid ⟨[⟨ba, bc, none, 0, ⟨ob, []⟩⟩], rfl, rn, fun l hl => by
              obtain rfl := List.mem_singleton.1 hl
              exact ⟨HB3.out.below bx, Bags.nil _⟩⟩, Lib.hid ⟨(HT2.out.met.below Hb3.out).below bx, HT2.out.some⟩, Lib.hid (((MK.refl _ _).then Hb3.out).then bx), Lib.hid (fun _ => HO.out), HX⟩
          · have hstk := HT2.out.stk
            rw [hF] at hstk
            obtain ⟨u, wa, wb, i, j, huv, SF, hi, hil, gi, hj, hjl, gj⟩ := two_parts hstk
            rw [hi] at hp
            rw [hj] at hq
            subst hp; subst hq
            obtain ⟨gl, ai, ci, rfl, hgl, di, Li⟩ := HT2.out.at hil
            obtain ⟨gl', aj, cj, e2, _, dj, Lj⟩ := HT2.out.at hjl
            injection e2 with e2; injection e2 with e2; subst e2
            rw [sxs_len, HT2.out.num] at hil hjl
            have HSF := Lib.hid SF
            have HGI := Lib.hid gi
            have HGJ := Lib.hid gj
            have HLI := Lib.hid Li
            have HLJ := Lib.hid Lj
            have HFL := Lib.hid hfl
            have ltb := HL2.out.lt
            have b0 : Below W2.heap.size W2 W2.drew := ⟨rfl, rfl, rfl, Nat.le_refl _, fun _ _ => rfl⟩
            have hi1 := gi.few
            have hj1 := gj.few
            have hab : wa + wb ≤ 24 := by omega
            have pa := pow_mono (show wa ≤ 24 by omega)
            have pb := pow_mono (show wb ≤ 24 by omega)
            have hpi : ∀ t, (linAt ((sxs es).getD i []) t).ps.length ≤ 2 ^ wa := fun t => by
              unfold linAt
              rw [List.getD_eq_getElem?_getD]
              by_cases ht : t < ((sxs es).getD i []).length
              · rw [List.getElem?_eq_getElem ht]; exact (gi.each _ (List.getElem_mem ht)).few
              · rw [List.getElem?_eq_none (by omega)]; exact Nat.zero_le _
            have hpj : ∀ t, (linAt ((sxs es).getD j []) t).ps.length ≤ 2 ^ wb := fun t => by
              unfold linAt
              rw [List.getD_eq_getElem?_getD]
              by_cases ht : t < ((sxs es).getD j []).length
              · rw [List.getElem?_eq_getElem ht]; exact (gj.each _ (List.getElem_mem ht)).few
              · rw [List.getElem?_eq_none (by omega)]; exact Nat.zero_le _
            have hpij : ∀ t, (linAt ((sxs es).getD i [] ++ (sxs es).getD j []) t).ps.length ≤ 100000000000 := fun t => by
              unfold linAt
              rw [List.getD_eq_getElem?_getD]
              by_cases ht : t < ((sxs es).getD i [] ++ (sxs es).getD j []).length
              · rw [List.getElem?_eq_getElem ht]
                rcases List.mem_append.1 (List.getElem_mem ht) with hm | hm
                · have := (gi.each _ hm).few
                  simp only [Option.getD_some]
                  omega
                · have := (gj.each _ hm).few
                  simp only [Option.getD_some]
                  omega
              · rw [List.getElem?_eq_none (by omega)]; exact Nat.zero_le _
            rcases h45 with rfl | rfl
            · have Z := runion15 ai aj ci cj _ _ W2.drew (Li.below b0) (Lj.below b0) (by omega) hpij
              have HO : Hid (Stk (sxs es ++ [unionS ((sxs es).getD i []) ((sxs es).getD j [])]) fl' (k + 1) ∧ Good 24 (unionS ((sxs es).getD i []) ((sxs es).getD j []))) := Lib.hid (by rw [hfl]; exact stk_part SF (by rw [sxs_len, HT2.out.num]) (by omega) hk24 (good_sum gi gj))
              generalize hun : unionS ((sxs es).getD i []) ((sxs es).getD j []) = un at Z HO
              have HX : Hid ((un, 0, M1) = nodeM M1 (sxs es) 4 (i : Int) (j : Int) nn) := Lib.hid (by rw [← hun]; simp [nodeM, setAt])
              clear hun
              have hbi := Li.le
              have hbj := Lj.le
              generalize ((sxs es).getD i []).length = li at Z di hbi
              generalize ((sxs es).getD j []).length = lj at Z dj hbj
              have HZ := Lib.hid Z
              clear Z hF hfl SF gi gj Li Lj hi hj huv hstk hi1 hj1 pa pb hpi hpj hpij b0
              have i1 : (0 : Int) ≤ (i : Int) := by omega
              have i2 : (i : Int) < (k : Int) := by omega
              have j1 : (0 : Int) ≤ (j : Int) := by omega
              have j2 : (j : Int) < (k : Int) := by omega
              go_upto_region 17 with (fail)
              go_region_held3 (fun w' => w'.cell? ⟨gb, 1, none⟩ = some (.int .i64 i) ∧ w'.cell? ⟨gb, 2, none⟩ = some (.int .i64 j) ∧ w'.cell? ⟨gl, i, none⟩ = some (.slice ai li ci) ∧ w'.cell? ⟨gl, j, none⟩ = some (.slice aj lj cj))
                (first | (exact ⟨y1, y2, di, dj⟩) | (exact ⟨z1, z2, zi, zj⟩) | go_keep)
                (first
                  | (go_at_call 66; refine HZ.out.mono ?_; rintro e w3 ⟨a3, c3, rfl, L3, F3, b3⟩; (replace b3 : Below W2.heap.size W2 w3 := undrew b3); (have z1 := (b3.cell (p := ⟨gb, 1, none⟩) ltb).trans y1); (have z2 := (b3.cell (p := ⟨gb, 2, none⟩) ltb).trans y2); (have zi := (b3.cell (p := ⟨gl, i, none⟩) hgl).trans di); (have zj := (b3.cell (p := ⟨gl, j, none⟩) hgl).trans dj); (have hb3 := L3.le)))
              have HL3 := Lib.hid L3
              have Hb3 := Lib.hid b3
              clear L3 b3 F3 z1 z2 zi zj di dj y0 y1 y2 y3
              generalize hul : un.length = ul at hb3 ⊢
              have HUL := Lib.hid hul
              clear hul
              go_wp2
              go_meet
              exact ⟨a3, c3, ul, 0, un, M1, rfl, rfl, HUL, HL3, Lib.hid ⟨HT2.out.met.below Hb3.out, HT2.out.some⟩, Lib.hid ((MK.refl _ _).then Hb3.out), Lib.hid (fun _ => HO.out), HX⟩
            · have gc := good_cat gi gj (by omega)
              have Z := rcat23 mp ai aj ci cj M1 _ _ W2.drew (HT2.out.met.below b0) HT2.out.some (Li.below b0) (Lj.below b0) (Nat.le_trans (Nat.mul_le_mul hi1 hj1) (by rw [← Nat.pow_add]; have := pow_mono hab; omega)) (fun s t => by have := hpi s; have := hpj t; omega)
              have HO : Hid ((catM M1 ((sxs es).getD i []) ((sxs es).getD j [])).2.1 = 0 → Stk (sxs es ++ [(catM M1 ((sxs es).getD i []) ((sxs es).getD j [])).1]) fl' (k + 1) ∧ Good 24 (catM M1 ((sxs es).getD i []) ((sxs es).getD j [])).1) := Lib.hid (fun h => by rw [hfl, catM_ok h]; exact stk_part SF (by rw [sxs_len, HT2.out.num]) (by omega) hk24 gc.2)
              have HNE2 := Lib.hid (catM_ne (s := (sxs es).getD i []) (t := (sxs es).getD j []) HT2.out.some)
              generalize hr : catM M1 ((sxs es).getD i []) ((sxs es).getD j []) = r at Z HO HNE2
              have HX : Hid (r = nodeM M1 (sxs es) 5 (i : Int) (j : Int) nn) := Lib.hid (by rw [← hr]; simp [nodeM, setAt])
              clear hr
              obtain ⟨un, e0, M2⟩ := r
              have hbi := Li.le
              have hbj := Lj.le
              generalize ((sxs es).getD i []).length = li at Z di hbi
              generalize ((sxs es).getD j []).length = lj at Z dj hbj
              have HZ := Lib.hid Z
              clear Z hF hfl SF gi gj Li Lj hi hj huv hstk hi1 hj1 pa pb hpi hpj hpij gc b0
              have i1 : (0 : Int) ≤ (i : Int) := by omega
              have i2 : (i : Int) < (k : Int) := by omega
              have j1 : (0 : Int) ≤ (j : Int) := by omega
              have j2 : (j : Int) < (k : Int) := by omega
              have nb1 : mp ≠ some ⟨gb, 0, none⟩ := fun e2 => by
                rcases HT2.out.met.form with h | ⟨b, h, cs, l2⟩
                · rw [h] at e2; cases e2
                · rw [h] at e2; injection e2 with e2; injection e2 with e2; subst e2
                  exact HL2.out.other l2 (by decide) rfl
              have nb2 : mp ≠ some ⟨gl, 0, none⟩ := row_apartT HT2.out.met (by decide) HT2.out.row rfl
              go_upto_region 19 with (fail)
              go_region_held3 (fun w' => w'.cell? ⟨gb, 1, none⟩ = some (.int .i64 i) ∧ w'.cell? ⟨gb, 2, none⟩ = some (.int .i64 j) ∧ w'.cell? ⟨gl, i, none⟩ = some (.slice ai li ci) ∧ w'.cell? ⟨gl, j, none⟩ = some (.slice aj lj cj))
                (first | (exact ⟨y1, y2, di, dj⟩) | (exact ⟨z1, z2, zi, zj⟩) | go_keep)
                (first
                  | (go_at_call 67; refine HZ.out.mono ?_; rintro e w3 ⟨a3, c3, ls, hls, rfl, L3, F3, _, m3, k3⟩; (replace k3 : MK mp W2 w3 := ⟨k3.os, k3.tape, k3.output, k3.size, k3.block⟩); (have z1 := (cell_kept k3 (p := ⟨gb, 1, none⟩) ltb nb1).trans y1); (have z2 := (cell_kept k3 (p := ⟨gb, 2, none⟩) ltb nb1).trans y2); (have zi := (cell_kept k3 (p := ⟨gl, i, none⟩) hgl nb2).trans di); (have zj := (cell_kept k3 (p := ⟨gl, j, none⟩) hgl nb2).trans dj); (have hb3 := L3.row.le); (have HL3 : Hid (Lins w3 a3 c3 un) := Lib.hid ⟨ls, hls, L3⟩); (have hul : ls.length = un.length := by rw [← lins_len, hls])))
              have Hm3 := Lib.hid m3
              have Hk3 := Lib.hid k3
              rw [hul] at hb3
              clear L3 k3 m3 F3 z1 z2 zi zj di dj y0 y1 y2 y3 hls hul
              generalize hul : un.length = ul at hb3 ⊢
              have HUL := Lib.hid hul
              clear hul
              go_wp2
              go_meet
              exact ⟨a3, c3, ul, e0, un, M2, rfl, rfl, HUL, HL3, Lib.hid ⟨Hm3.out, HNE2.out⟩, Hk3, HO, HX⟩
          · have hstk := HT2.out.stk
            rw [hF] at hstk
            obtain ⟨u, wa, i, huv, SF, hi, hil, gi⟩ := one_part hstk
            rw [hi] at hp
            subst hp
            obtain ⟨gl, ai, ci, rfl, hgl, di, Li⟩ := HT2.out.at hil
            rw [sxs_len, HT2.out.num] at hil
            have hi1 := gi.few
            have pa := pow_mono (show wa ≤ 24 by omega)
            have Z := rstar26 mp ai ci M1 _ W2 HT2.out.met HT2.out.some Li (by omega)
            have HO : Hid ((starM M1 ((sxs es).getD i [])).2.1 = 0 → Stk (sxs es ++ [(starM M1 ((sxs es).getD i [])).1]) fl' (k + 1) ∧ Good 24 (starM M1 ((sxs es).getD i [])).1) := Lib.hid (fun h => by rw [hfl, starM_ok h]; exact stk_part SF (by rw [sxs_len, HT2.out.num]) (by omega) hk24 (good_star gi))
            have HNE2 : Hid ((starM M1 ((sxs es).getD i [])).2.2 ≠ none) := Lib.hid (by
              unfold starM
              split
              · split
                · exact spendM_ne HT2.out.some
                · exact spendM_ne HT2.out.some
              · exact HT2.out.some)
            generalize hr : starM M1 ((sxs es).getD i []) = r at Z HO HNE2
            have HX : Hid (r = nodeM M1 (sxs es) 6 (i : Int) nb nn) := Lib.hid (by rw [← hr]; simp [nodeM, setAt])
            clear hr
            obtain ⟨un, e0, M2⟩ := r
            have hbi := Li.le
            generalize ((sxs es).getD i []).length = li at Z di hbi
            have HZ := Lib.hid Z
            clear Z hF hfl SF gi Li hi huv hstk hi1 pa
            have i1 : (0 : Int) ≤ (i : Int) := by omega
            have i2 : (i : Int) < (k : Int) := by omega
            go_wp2_with (fail)
            refine HZ.out.mono ?_
            rintro e w3 ⟨a3, c3, ls, hls, rfl, L3, F3, _, m3, k3⟩
            have hb3 := L3.row.le
            have HL3 : Hid (Lins w3 a3 c3 un) := Lib.hid ⟨ls, hls, L3⟩
            have hul : ls.length = un.length := by rw [← lins_len, hls]
            have Hm3 := Lib.hid m3
            have Hk3 := Lib.hid k3
            rw [hul] at hb3
            clear L3 k3 m3 F3 di y0 y1 y2 y3 hls hul HZ
            generalize hul : un.length = ul at hb3 ⊢
            have HUL := Lib.hid hul
            clear hul
            go_wp2
            go_meet
            exact ⟨a3, c3, ul, e0, un, M2, rfl, rfl, HUL, HL3, Lib.hid ⟨Hm3.out, HNE2.out⟩, Hk3, HO, HX⟩
        case rest =>
          obtain ⟨sa, sc, q, e0, x, M2, rfl, rfl, HQ, HLX, HMX, HKX, HSX, HNX⟩ := hcut
          have hgo := HGO.out
          first | rw [if_pos trivial] at hgo | rw [if_pos rfl] at hgo
          rw [← HNX.out] at hgo
          dsimp only at hgo
          have HGP := Lib.hid hgo
          clear hgo
          have HT3 := Lib.hid (HT2.out.turn HKX.out HMX.out.1 HMX.out.2)
          have HD3 : Hid (Q.Nds wc (some ⟨g, 0, none⟩) c ns) := Lib.hid (HD2.out.kept HKX.out (fun g' eg e2 => by
            rcases HT2.out.met.form with h | ⟨b, h, cs, l2⟩
            · rw [h] at e2; cases e2
            · rcases HD2.out with ⟨h3, _⟩ | ⟨g3, sp, h3, _, _, _, l3⟩
              · cases h3
              · rw [h3] at eg; injection eg with eg; injection eg with eg; subst eg
                rw [h] at e2; injection e2 with e2; injection e2 with e2; subst e2
                exact Lies.other l2 l3 (by decide) rfl))
          clear y0 y1 y2 y3
          by_cases h3 : e0 = 0
          · subst h3
            have hsx := HSX.out rfl
            obtain ⟨a4, c4, w4, hr, T4, K4⟩ := HT3.out.push hk24 ⟨sa, sc, x⟩ q HQ.out HLX.out hsx.1 hsx.2
            have HT4 := Lib.hid T4
            have HD4 : Hid (Q.Nds w4 (some ⟨g, 0, none⟩) c ns) := Lib.hid (HD3.out.kept K4 (fun g' eg e2 => by
              rcases HT3.out.row with ⟨h, _⟩ | ⟨g2, sp2, h, _, _, l2⟩
              · rw [h] at e2; cases e2
              · rcases HD3.out with ⟨h3, _⟩ | ⟨g3, sp, h3, _, _, _, l3⟩
                · cases h3
                · rw [h3] at eg; injection eg with eg; injection eg with eg; subst eg
                  rw [h] at e2; injection e2 with e2; injection e2 with e2; subst e2
                  exact Lies.other l2 l3 (by decide) rfl))
            clear T4 hsx K4
            go_wp2_with (at_builtin; refine Lib.wpList_append_run _ rfl _ _ _ _ rfl _ _ rfl rfl _ _ hr ?_)
            go_roundw
            case rel => exact ⟨k + 1, a4, c4, _, fl', M2, by omega, rfl, rfl, rfl, by go_num, HT4, HF', HD4, Lib.hid (by have h := HGP.out; rw [if_pos rfl] at h; rw [h]; simp [sxs])⟩
            case measure => simp [intOf]; omega
          · have HO := Lib.hid (normX_none (q := e0) (normM_err HCT.out (HGP.out.trans (if_neg h3)) h3) HT3.out.met HT3.out.mks)
            have h4 : (e0 == 0) = false := by simpa using h3
            go_wp2
            exact bodyPost_ret (v := .tuple #[.slice none 0 0, .int .i64 e0]) (by simp [results, Tryz.results35, go_sem]) rfl HO.out
    · obtain rfl : k = n := by omega
      obtain ⟨N, rfl⟩ : ∃ N, k = N + 1 := ⟨k - 1, by omega⟩
      obtain ⟨gl, ai, ci, rfl, hgl, di, Li⟩ := HT.out.at (i := N) (by rw [sxs_len, HT.out.num]; omega)
      have hng : normM M ns T = ((sxs es).getD N [], 0, Mi) := by
        have h := HGG.out
        rw [List.drop_of_length_le (by rw [HN.out]; omega)] at h
        have e := normM_ok HCT.out (h.trans (normGo_nil Mi (sxs es)))
        rw [HN.out] at e
        exact e
      have HNG := Lib.hid hng
      clear hng
      have HL := Lib.hid Li
      have hll := Li.le
      generalize (sxs es).getD N [] = x at di HNG HL hll
      have HO : Hid (NormX 41 mp (normM M ns T) w (.returned (.tuple #[.slice ai x.length ci, .int .i64 0])) wr) := Lib.hid (by rw [HNG.out]; exact ⟨ai, ci, rfl, HL.out, HT.out.met, HT.out.mks⟩)
      generalize x.length = q at di HO hll
      have hw1 : IntKind.i64.wrap ((N : Int) + 1 - 1) = (N : Int) := by rw [Int.add_sub_cancel]; exact IntWalk.i64_in _ (by omega)
      have i1 : (0 : Int) ≤ (N : Int) := by omega
      have i2 : (N : Int) < (N : Int) + 1 := by omega
      clear Li
      go_wp2
      exact bodyPost_ret (v := .tuple #[.slice ai q ci, .int .i64 0]) (by simp [results, Tryz.results35, go_sem]) rfl HO.out
end Go.Proofs.YtmnkjekjknhhjaaGreatDoor

/-! Plain words: a pattern with nothing added; two patterns put together. -/
/-! Plain words: what a pattern stands for does not hang on names; what it costs. -/
namespace Go.Proofs.YtmnkjekjknhhjaaGreatDoor
open Go.ChangeShapes Go.WideShapes Go.ChangeAt Go.RowKit

/-! ### Names -/
/-! ### Part by part -/
theorem normGo_app : ∀ (A B : List Q.Nd) (M M' : Mr) (es es' : List (List Lin)), normGo A M es = (es', 0, M') → normGo (A ++ B) M es = normGo B M' es'
  | [], B, M, M', es, es', h => by
    rw [normGo_nil] at h
    injection h with h1 h2
    injection h2 with _ h3
    subst h1; subst h3
    rfl
  | x :: A, B, M, M', es, es', h => by
    rw [normGo_cons] at h
    rw [List.cons_append, normGo_cons]
    by_cases h1 : (spendM M 1).1 = true
    · rw [if_pos h1] at h ⊢
      by_cases h2 : (nodeM (spendM M 1).2 es x.kind x.a x.b x.n).2.1 = 0
      · rw [if_pos h2] at h ⊢
        exact normGo_app A B _ M' _ es' h
      · rw [if_neg h2] at h
        injection h with _ h3
        injection h3 with h4 _
        exact absurd h4 h2
    · rw [if_neg h1] at h
      injection h with _ h3
      injection h3 with h4 _
      exact absurd h4 (by decide)
/-! ### What it costs -/
def nodeC (es : List (List Lin)) (kd na nb : Int) : Int :=
  if kd = 5 then (((setAt es na).length * (setAt es nb).length : Nat) : Int) else if kd = 6 then (((setAt es na).length : Nat) : Int) else 0
theorem nodeC_pos (es : List (List Lin)) (kd na nb : Int) : 0 ≤ nodeC es kd na nb := by
  unfold nodeC
  split
  · omega
  · split <;> omega
theorem lets_yes {B S n : Int} (h : n ≤ B - S) (h0 : 0 ≤ n) : spendM (some (B, S, false)) n = (true, some (B, S + n, false)) := by
  obtain ⟨h1, h2⟩ := lets_t h
  show (lets B S n false, some (B, next B S n false, !lets B S n false)) = _
  rw [h1, h2, show max n 0 = n by omega]
  rfl
theorem lets_no {B S n : Int} (h : ¬ n ≤ B - S) : spendM (some (B, S, false)) n = (false, some (B, S, true)) := by
  have h1 : lets B S n false = false := by unfold lets; simp [h]
  have h2 : next B S n false = S := by unfold next; rw [h1]; rfl
  show (lets B S n false, some (B, next B S n false, !lets B S n false)) = _
  rw [h1, h2]
  rfl
/-- What goes well without a bound goes well just where there is enough. -/
theorem nodeM_cost {es : List (List Lin)} {kd na nb nn : Int} {x : List Lin} (h : nodeM none es kd na nb nn = (x, 0, none)) (B S : Int) :
    (nodeC es kd na nb ≤ B - S → nodeM (some (B, S, false)) es kd na nb nn = (x, 0, some (B, S + nodeC es kd na nb, false))) ∧
    (¬ nodeC es kd na nb ≤ B - S → 0 ≤ B - S → nodeM (some (B, S, false)) es kd na nb nn = ([], 7, some (B, S, true))) := by
  by_cases h5 : kd = 5
  · subst h5
    have e : ∀ M, nodeM M es 5 na nb nn = catM M (setAt es na) (setAt es nb) := fun _ => by simp [nodeM]
    have ec : nodeC es 5 na nb = (((setAt es na).length * (setAt es nb).length : Nat) : Int) := by simp [nodeC]
    rw [e none] at h
    rw [e (some (B, S, false)), ec]
    generalize setAt es na = s at h ⊢
    generalize setAt es nb = t at h ⊢
    unfold catM at h ⊢
    by_cases h1 : (rightS s && rightS t) = true
    · rw [if_pos h1] at h ⊢
      rw [show (spendM none ((s.length * t.length : Nat) : Int)) = (true, none) from rfl, if_pos rfl] at h
      by_cases h3 : catsOk s t = true
      · rw [if_pos h3] at h
        injection h with hx _
        refine ⟨fun hn => ?_, fun hn _ => ?_⟩
        · rw [lets_yes hn (by omega), if_pos rfl, if_pos h3, hx]; rfl
        · rw [lets_no hn, if_neg Bool.false_ne_true]; rfl
      · rw [if_neg h3] at h
        injection h with _ h4
        injection h4 with h4 _
        exact absurd h4 (by decide)
    · rw [if_neg h1] at h
      injection h with _ h4
      injection h4 with h4 _
      exact absurd h4 (by decide)
  · by_cases h6 : kd = 6
    · subst h6
      have e : ∀ M, nodeM M es 6 na nb nn = starM M (setAt es na) := fun _ => by simp [nodeM]
      have ec : nodeC es 6 na nb = (((setAt es na).length : Nat) : Int) := by simp [nodeC]
      rw [e none] at h
      rw [e (some (B, S, false)), ec]
      generalize setAt es na = s at h ⊢
      unfold starM at h ⊢
      by_cases h1 : (rightS s && pointsS s) = true
      · rw [if_pos h1] at h ⊢
        rw [show (spendM none ((s.length : Nat) : Int)) = (true, none) from rfl, if_pos rfl] at h
        injection h with hx _
        refine ⟨fun hn => ?_, fun hn _ => ?_⟩
        · rw [lets_yes hn (by omega), if_pos rfl, hx]; rfl
        · rw [lets_no hn, if_neg Bool.false_ne_true]; rfl
      · rw [if_neg h1] at h
        injection h with _ h4
        injection h4 with h4 _
        exact absurd h4 (by decide)
    · have ec : nodeC es kd na nb = 0 := by unfold nodeC; rw [if_neg h5, if_neg h6]
      rw [ec]
      have e : ∀ M, nodeM M es kd na nb nn = ((nodeM none es kd na nb nn).1, 0, M) := fun M => by
        unfold nodeM
        split
        · rfl
        · split
          · rfl
          · split
            · rfl
            · rfl
      refine ⟨fun _ => ?_, fun hn h0 => absurd h0 (by omega)⟩
      rw [e (some (B, S, false)), h, Int.add_zero]; rfl
def costGo : List Q.Nd → List (List Lin) → Int
  | [], _ => 0
  | x :: r, es => 1 + nodeC es x.kind x.a x.b + costGo r (es ++ [(nodeM none es x.kind x.a x.b x.n).1])
theorem costGo_len : ∀ (ns : List Q.Nd) (es : List (List Lin)), (ns.length : Int) ≤ costGo ns es
  | [], _ => by simp [costGo]
  | x :: r, es => by
    have := costGo_len r (es ++ [(nodeM none es x.kind x.a x.b x.n).1])
    have := nodeC_pos es x.kind x.a x.b
    show ((r.length + 1 : Nat) : Int) ≤ 1 + nodeC es x.kind x.a x.b + costGo r (es ++ [(nodeM none es x.kind x.a x.b x.n).1])
    omega
theorem normGo_none_cons {x : Q.Nd} {r : List Q.Nd} {es es' : List (List Lin)} (h : normGo (x :: r) none es = (es', 0, none)) :
    nodeM none es x.kind x.a x.b x.n = ((nodeM none es x.kind x.a x.b x.n).1, 0, none) ∧ normGo r none (es ++ [(nodeM none es x.kind x.a x.b x.n).1]) = (es', 0, none) := by
  rw [normGo_cons x r none es, show spendM none 1 = (true, none) from rfl, if_pos rfl] at h
  dsimp only at h
  by_cases h2 : (nodeM none es x.kind x.a x.b x.n).2.1 = 0
  · rw [if_pos h2] at h
    have h3 : (nodeM none es x.kind x.a x.b x.n).2.2 = none := by
      unfold nodeM catM starM
      repeat' split
      all_goals rfl
    refine ⟨?_, by rw [h3] at h; exact h⟩
    exact Prod.ext rfl (Prod.ext h2 h3)
  · rw [if_neg h2] at h
    injection h with _ h4
    injection h4 with h4 _
    exact absurd h4 h2
theorem normGo_cost : ∀ (ns : List Q.Nd) (es es' : List (List Lin)), normGo ns none es = (es', 0, none) → ∀ (B S : Int), 0 ≤ B - S →
    (costGo ns es ≤ B - S → normGo ns (some (B, S, false)) es = (es', 0, some (B, S + costGo ns es, false))) ∧
    (¬ costGo ns es ≤ B - S → ∃ S', normGo ns (some (B, S, false)) es = ([], 7, some (B, S', true)))
  | [], es, es', h, B, S, h0 => by
    refine ⟨fun _ => ?_, fun hn => absurd h0 hn⟩
    rw [normGo_nil none es] at h
    injection h with h1 _
    subst h1
    rw [normGo_nil (some (B, S, false)) es]
    show _ = (_, 0, some (B, S + 0, false))
    rw [Int.add_zero]; rfl
  | x :: r, es, es', h, B, S, h0 => by
    obtain ⟨h1, h2⟩ := normGo_none_cons h
    have hc := nodeC_pos es x.kind x.a x.b
    have hr := costGo_len r (es ++ [(nodeM none es x.kind x.a x.b x.n).1])
    have ec : costGo (x :: r) es = 1 + nodeC es x.kind x.a x.b + costGo r (es ++ [(nodeM none es x.kind x.a x.b x.n).1]) := rfl
    rw [ec]
    by_cases g1 : (1 : Int) ≤ B - S
    · rw [normGo_cons x r (some (B, S, false)) es, lets_yes g1 (by omega), if_pos rfl]
      dsimp only
      obtain ⟨k1, k2⟩ := nodeM_cost h1 B (S + 1)
      by_cases g2 : nodeC es x.kind x.a x.b ≤ B - (S + 1)
      · rw [k1 g2]
        dsimp only
        rw [if_pos rfl]
        obtain ⟨m1, m2⟩ := normGo_cost r _ es' h2 B (S + 1 + nodeC es x.kind x.a x.b) (by omega)
        refine ⟨fun hle => ?_, fun hn => m2 (by omega)⟩
        rw [m1 (by omega), show S + 1 + nodeC es x.kind x.a x.b + costGo r (es ++ [(nodeM none es x.kind x.a x.b x.n).1]) = S + (1 + nodeC es x.kind x.a x.b + costGo r (es ++ [(nodeM none es x.kind x.a x.b x.n).1])) by omega]
      · rw [k2 g2 (by omega)]
        refine ⟨fun hle => absurd hle (by omega), fun _ => ⟨S + 1, ?_⟩⟩
        dsimp only
        rw [if_neg (by decide)]; rfl
    · refine ⟨fun hle => absurd hle (by omega), fun _ => ⟨S, ?_⟩⟩
      rw [normGo_cons x r (some (B, S, false)) es, lets_no g1, if_neg Bool.false_ne_true]; rfl
end Go.Proofs.YtmnkjekjknhhjaaGreatDoor

/-! Plain words: what Check takes stands for a set, and what it costs is bounded. -/
namespace Go.Proofs.YtmnkjekjknhhjaaGreatDoor
open Go.ChangeShapes Go.WideShapes Go.ChangeAt Go.RowKit

theorem points_iff {s : List Lin} : pointsS s = true ↔ ∀ x ∈ s, rightLin x = true ∧ x.ps = [] := by
  unfold pointsS
  rw [List.all_eq_true]
  constructor
  · intro h x hx
    have := h x hx
    unfold pointLin at this
    rw [Bool.and_eq_true, List.isEmpty_iff] at this
    exact this
  · intro h x hx
    obtain ⟨h1, h2⟩ := h x hx
    unfold pointLin
    rw [h1, h2]; rfl
theorem points_union {s t : List Lin} (hs : RiseS s) (ht : RiseS t) (h : pointsS s = true) (g : pointsS t = true) : pointsS (unionS s t) = true := by
  rw [points_iff] at h g ⊢
  intro x hx
  rcases ((union_yes hs ht).2.1 x).1 hx with hx | hx
  · exact h x hx
  · exact g x hx
theorem points_cat {s t : List Lin} (hok : catsOk s t = true) (h : pointsS s = true) (g : pointsS t = true) : pointsS (catS s t) = true := by
  rw [points_iff] at h g ⊢
  intro x hx
  obtain ⟨c1, c2, _⟩ := catS_yes hok
  obtain ⟨p, hp, q, hq, rfl⟩ := (c2 x).1 hx
  refine ⟨c1.1 _ hx, List.eq_nil_of_length_eq_zero ?_⟩
  have hc : catOk p q = true := List.all_eq_true.1 hok (p, q) (prod_mem.2 ⟨hp, hq⟩)
  have := cat_len hc
  rw [(h p hp).2, (g q hq).2] at this
  simpa using this
/-- Each open part without a star stands for words alone. -/
def StP (es : List (List Lin)) (fl : List (Int × Bool)) : Prop := ∀ p ∈ fl, ∃ j : Nat, p.1 = (j : Int) ∧ j < es.length ∧ (p.2 = false → pointsS (es.getD j []) = true)
theorem stp_push {es : List (List Lin)} {fl : List (Int × Bool)} (y : List Lin) (h : StP es fl) : StP (es ++ [y]) fl := fun p hp => by
  obtain ⟨j, h1, h2, h3⟩ := h p hp
  refine ⟨j, h1, by simp; omega, fun hf => ?_⟩
  have : (es ++ [y]).getD j [] = es.getD j [] := by
    rw [List.getD_eq_getElem?_getD, List.getD_eq_getElem?_getD, List.getElem?_append_left h2]
  rw [this]; exact h3 hf
theorem stp_leaf {es : List (List Lin)} {F : List (Int × Bool)} {k : Nat} {y : List Lin} {b : Bool} (h : StP es F) (hl : es.length = k) (hb : b = false → pointsS y = true) : StP (es ++ [y]) (F ++ [((k : Int), b)]) := fun p hp => by
  rcases List.mem_append.1 hp with hp | hp
  · exact stp_push y h p hp
  · obtain rfl := List.mem_singleton.1 hp
    subst hl
    exact ⟨es.length, rfl, by simp, fun hf => by simpa using hb hf⟩
theorem stp_front {es : List (List Lin)} {F G : List (Int × Bool)} (h : StP es (F ++ G)) : StP es F := fun p hp => h p (List.mem_append_left _ hp)
theorem stp_at {es : List (List Lin)} {fl : List (Int × Bool)} (h : StP es fl) {p : Int × Bool} (hp : p ∈ fl) {i : Nat} (e : p.1 = (i : Int)) (hf : p.2 = false) : pointsS (es.getD i []) = true := by
  obtain ⟨j, h1, _, h3⟩ := h p hp
  have : i = j := by omega
  subst this
  exact h3 hf
theorem catM_free {s t : List Lin} (hs : RiseS s) (ht : RiseS t) (hok : catsOk s t = true) : catM none s t = (catS s t, 0, none) := catM_0 (rightS_iff.2 hs) (rightS_iff.2 ht) rfl rfl hok
theorem starM_free {s : List Lin} (hs : RiseS s) (hp : pointsS s = true) : starM none s = ([ofLin [] (basesS s)], 0, none) := starM_0 (rightS_iff.2 hs) hp rfl rfl
section
variable (M : Mr) (es : List (List Lin)) (a b n : Int)
theorem node1 : nodeM M es 1 a b n = ([], 0, M) := by simp [nodeM]
theorem node2 : nodeM M es 2 a b n = (oneS, 0, M) := by simp [nodeM]
theorem node3 : nodeM M es 3 a b n = ([⟨oneL n a, []⟩], 0, M) := by simp [nodeM]
theorem node4 (i j : Nat) : nodeM M es 4 (i : Int) (j : Int) n = (unionS (es.getD i []) (es.getD j []), 0, M) := by simp [nodeM, setAt]
theorem node5 (i j : Nat) : nodeM M es 5 (i : Int) (j : Int) n = catM M (es.getD i []) (es.getD j []) := by simp [nodeM, setAt]
theorem node6 (i : Nat) : nodeM M es 6 (i : Int) b n = starM M (es.getD i []) := by simp [nodeM, setAt]
end
theorem good_pow {u : Nat} {s : List Lin} (h : Good u s) : s.length ≤ 2 ^ u := h.few
theorem node_fine {T : Int} (hT : T ≤ 12) {es : List (List Lin)} {fl fl' : List (Int × Bool)} {k : Nat} {x : Q.Nd} (hs : Q.chkStep T k x fl = some fl') (S : Stk es fl k) (P : StP es fl) (hl : es.length = k) (hk : k < 24) :
    ∃ y, nodeM none es x.kind x.a x.b x.n = (y, 0, none) ∧ Stk (es ++ [y]) fl' (k + 1) ∧ Good 24 y ∧ StP (es ++ [y]) fl' ∧ nodeC es x.kind x.a x.b ≤ 16777216 := by
  rcases step_kindsT hs with ⟨h12, hfl⟩ | ⟨h3, n0, n1, a0, a1, hfl⟩ | ⟨h45, F, p, q, hF, hp, hq, hfl⟩ | ⟨h6, F, p, hF, hp, hfl⟩
  · rcases h12 with h1 | h2
    · obtain ⟨s1, s2⟩ := stk_leaf (b := false) S hl hk (good_nil 1)
      rw [h1, hfl]
      exact ⟨[], node1 none es _ _ _, s1, s2, stp_leaf P hl (fun _ => rfl), by simp [nodeC]⟩
    · obtain ⟨s1, s2⟩ := stk_leaf (b := false) S hl hk (good_one 1)
      rw [h2, hfl]
      exact ⟨oneS, node2 none es _ _ _, s1, s2, stp_leaf P hl (fun _ => by rw [points_iff]; intro x hx; obtain rfl := List.mem_singleton.1 hx; exact ⟨right_empty, rfl⟩), by simp [nodeC]⟩
  · have g := good_tag n0 (show x.n < 12 by omega) a0 a1
    obtain ⟨s1, s2⟩ := stk_leaf (b := false) S hl hk g
    rw [h3, hfl]
    exact ⟨_, node3 none es _ _ _, s1, s2, stp_leaf P hl (fun _ => by
      rw [points_iff]; intro z hz
      have := g.rise.1 z hz
      obtain rfl := List.mem_singleton.1 hz
      exact ⟨this, rfl⟩), by simp [nodeC]⟩
  · have S' := S
    have P' := P
    rw [hF] at S' P'
    obtain ⟨u, a, b, i, j, huv, SF, hi, hil, gi, hj, hjl, gj⟩ := two_parts S'
    rw [hi] at hp
    rw [hj] at hq
    have hab : a + b ≤ 24 := by omega
    have pp : p.2 = false → pointsS (es.getD i []) = true := fun hf => stp_at P' (List.mem_append_right _ (by simp)) hi hf
    have pq : q.2 = false → pointsS (es.getD j []) = true := fun hf => stp_at P' (List.mem_append_right _ (by simp)) hj hf
    have PF := stp_front P'
    rcases h45 with h4 | h5
    · obtain ⟨s1, s2⟩ := stk_part (b := p.2 || q.2) (v := a + b + 1) SF hl (by omega) hk (good_sum gi gj)
      rw [h4, hp, hq, hfl]
      refine ⟨unionS (es.getD i []) (es.getD j []), node4 none es _ i j, s1, s2, stp_leaf PF hl (fun hb => ?_), by simp [nodeC]⟩
      rw [Bool.or_eq_false_iff] at hb
      exact points_union gi.rise gj.rise (pp hb.1) (pq hb.2)
    · obtain ⟨ok, gc⟩ := good_cat gi gj (by omega)
      obtain ⟨s1, s2⟩ := stk_part (b := p.2 || q.2) (v := a + b + 1) SF hl (by omega) hk gc
      rw [h5, hp, hq, hfl]
      refine ⟨catS (es.getD i []) (es.getD j []), ?_, s1, s2, stp_leaf PF hl (fun hb => ?_), ?_⟩
      · exact (node5 none es _ i j).trans (catM_free gi.rise gj.rise ok)
      · rw [Bool.or_eq_false_iff] at hb
        exact points_cat ok (pp hb.1) (pq hb.2)
      · have e : nodeC es 5 (i : Int) (j : Int) = (((es.getD i []).length * (es.getD j []).length : Nat) : Int) := by simp [nodeC, setAt]
        rw [e]
        have m := Nat.mul_le_mul (good_pow gi) (good_pow gj)
        rw [← Nat.pow_add] at m
        have := pow_mono hab
        have h24 : (2 : Nat) ^ 24 = 16777216 := by decide
        omega
  · have S' := S
    have P' := P
    rw [hF] at S' P' hs
    obtain ⟨u, a, i, huv, SF, hi, hil, gi⟩ := one_part S'
    rw [hi] at hp
    have hpf : p.2 = false := by
      rw [Q.step_star F p h6] at hs
      split at hs
      · next hh => exact hh.1
      · cases hs
    have pp := stp_at P' (List.mem_append_right _ (by simp)) hi hpf
    obtain ⟨s1, s2⟩ := stk_part (b := true) (v := a + 1) SF hl (by omega) hk (good_star gi)
    rw [h6, hp, hfl]
    refine ⟨[ofLin [] (basesS (es.getD i []))], ?_, s1, s2, stp_leaf (stp_front P') hl (fun hb => nomatch hb), ?_⟩
    · exact (node6 none es _ _ i).trans (starM_free gi.rise pp)
    · have e : nodeC es 6 (i : Int) x.b = (((es.getD i []).length : Nat) : Int) := by simp [nodeC, setAt]
      rw [e]
      have := good_pow gi
      have := pow_mono (show a ≤ 24 by omega)
      have h24 : (2 : Nat) ^ 24 = 16777216 := by decide
      omega
theorem normGo_snoc {A : List Q.Nd} {x : Q.Nd} {M : Mr} {es es' : List (List Lin)} (h : normGo A M es = (es', 0, none)) {y : List Lin} (hy : nodeM none es' x.kind x.a x.b x.n = (y, 0, none)) : normGo (A ++ [x]) M es = (es' ++ [y], 0, none) := by
  rw [normGo_app A [x] M none es es' h, normGo_cons x [] none es', show spendM none 1 = (true, none) from rfl, if_pos rfl]
  dsimp only
  rw [hy]
  dsimp only
  rw [if_pos rfl]
  rfl
theorem costGo_snoc : ∀ (A : List Q.Nd) (x : Q.Nd) (es es' : List (List Lin)), normGo A none es = (es', 0, none) → costGo (A ++ [x]) es = costGo A es + 1 + nodeC es' x.kind x.a x.b
  | [], x, es, es', h => by
    rw [normGo_nil none es] at h
    injection h with h1 _
    subst h1
    show 1 + nodeC es x.kind x.a x.b + 0 = 0 + 1 + nodeC es x.kind x.a x.b
    omega
  | z :: A, x, es, es', h => by
    obtain ⟨_, h2⟩ := normGo_none_cons h
    have ih := costGo_snoc A x _ es' h2
    show 1 + nodeC es z.kind z.a z.b + costGo (A ++ [x]) (es ++ [(nodeM none es z.kind z.a z.b z.n).1]) = 1 + nodeC es z.kind z.a z.b + costGo A (es ++ [(nodeM none es z.kind z.a z.b z.n).1]) + 1 + nodeC es' x.kind x.a x.b
    omega
/-- What Check takes stands for a set. -/
theorem norm_fine {T : Int} (hT : T ≤ 12) {ns : List Q.Nd} (hc : Q.chkB ns T = true) (h24 : ns.length ≤ 24) : ∀ k, k ≤ ns.length → ∃ es fl, normGo (ns.take k) none [] = (es, 0, none) ∧ es.length = k ∧ Q.chkL T 0 (ns.take k) [] = some fl ∧ Stk es fl k ∧ StP es fl ∧ (∀ e ∈ es, Good 24 e) ∧ costGo (ns.take k) [] ≤ (k : Int) * 16777217
  | 0, _ => ⟨[], [], rfl, rfl, rfl, trivial, fun p h => by simp at h, fun e h => by simp at h, by show (0 : Int) ≤ _; omega⟩
  | k + 1, hk => by
    obtain ⟨es, fl, e1, e2, e3, e4, e5, e6, e7⟩ := norm_fine hT hc h24 k (by omega)
    have hk' : k < ns.length := by omega
    obtain ⟨fl', hs, hf'⟩ := chk_stepT hc hk' e3
    obtain ⟨y, n1, n2, n3, n4, n5⟩ := node_fine hT hs e4 e5 e2 (by omega)
    refine ⟨es ++ [y], fl', ?_, by simp [e2], hf', n2, n4, fun e he => ?_, ?_⟩
    · rw [List.take_succ_eq_append_getElem hk']
      exact normGo_snoc e1 n1
    · rcases List.mem_append.1 he with he | he
      · exact e6 e he
      · obtain rfl := List.mem_singleton.1 he
        exact n3
    · rw [List.take_succ_eq_append_getElem hk', costGo_snoc _ _ _ _ e1]
      omega
/-- Without a bound: a right set; and its cost. -/
theorem normM_fine {T : Int} (h0 : 0 ≤ T) (hT : T ≤ 12) {ns : List Q.Nd} (hc : Q.chkB ns T = true) (h1 : 1 ≤ ns.length) (h24 : ns.length ≤ 24) :
    ∃ es, normGo ns none [] = (es, 0, none) ∧ es.length = ns.length ∧ normM none ns T = (es.getD (ns.length - 1) [], 0, none) ∧ Good 24 (es.getD (ns.length - 1) []) ∧ costGo ns [] ≤ 24 * 16777217 := by
  obtain ⟨es, fl, e1, e2, _, _, _, e6, e7⟩ := norm_fine hT hc h24 ns.length (Nat.le_refl _)
  rw [List.take_length] at e1 e7
  refine ⟨es, e1, e2, normM_ok ⟨h0, by omega, hc⟩ e1, ?_, by omega⟩
  have hlt : ns.length - 1 < es.length := by omega
  rw [List.getD_eq_getElem?_getD, List.getElem?_eq_getElem hlt]
  exact e6 _ (List.getElem_mem hlt)
/-- With a bound: just where it is enough. -/
theorem normM_bound {T : Int} (h0 : 0 ≤ T) (hT : T ≤ 12) {ns : List Q.Nd} (hc : Q.chkB ns T = true) (h1 : 1 ≤ ns.length) (h24 : ns.length ≤ 24) {B : Int} (hB : 0 ≤ B) :
    (costGo ns [] ≤ B → normM (some (B, 0, false)) ns T = ((normM none ns T).1, 0, some (B, costGo ns [], false))) ∧
    (¬ costGo ns [] ≤ B → ∃ S', normM (some (B, 0, false)) ns T = ([], 7, some (B, S', true))) := by
  obtain ⟨es, e1, e2, e3, _, _⟩ := normM_fine h0 hT hc h1 h24
  obtain ⟨g1, g2⟩ := normGo_cost ns [] es e1 B 0 (by omega)
  refine ⟨fun hle => ?_, fun hn => ?_⟩
  · have g := g1 (by omega)
    rw [Int.zero_add] at g
    rw [normM_ok ⟨h0, by omega, hc⟩ g, e3]; rfl
  · obtain ⟨S', g⟩ := g2 (by omega)
    exact ⟨S', normM_err ⟨h0, by omega, hc⟩ g (by decide)⟩
end Go.Proofs.YtmnkjekjknhhjaaGreatDoor

/-! Plain words: a pattern with nothing added; two patterns put together. -/
namespace Go.Proofs.YtmnkjekjknhhjaaGreatDoor
open Go.ChangeShapes Go.WideShapes Go.ChangeAt Go.RowKit

/-- The last open part is the last node. -/
theorem chk_last {T : Int} {ns : List Q.Nd} {x : Q.Nd} {fl : List (Int × Bool)} (h : Q.chkL T 0 (ns ++ [x]) [] = some fl) : ∃ F b, fl = F ++ [((ns.length : Int), b)] := by
  rw [Q.chkL_snoc] at h
  cases h1 : Q.chkL T 0 ns [] with
  | none => rw [h1] at h; cases h
  | some fl1 =>
    rw [h1] at h
    simp only [Nat.zero_add] at h
    rcases step_kindsT h with ⟨_, e⟩ | ⟨_, _, _, _, _, e⟩ | ⟨_, F, p, q, _, _, _, e⟩ | ⟨_, F, p, _, _, e⟩
    · exact ⟨_, _, e⟩
    · exact ⟨_, _, e⟩
    · exact ⟨_, _, e⟩
    · exact ⟨_, _, e⟩
/-- What Check takes leaves one open part: the last node. -/
theorem chk_one {T : Int} {ns : List Q.Nd} (hc : Q.chkB ns T = true) : 1 ≤ ns.length ∧ ns.length ≤ 24 ∧ ∃ b, Q.chkL T 0 ns [] = some [(((ns.length - 1 : Nat) : Int), b)] := by
  unfold Q.chkB at hc
  rw [Bool.and_eq_true] at hc
  obtain ⟨h24, h1⟩ := hc
  have h24 := of_decide_eq_true h24
  rcases List.eq_nil_or_concat ns with rfl | ⟨A, x, rfl⟩
  · exact absurd (show false = true from h1) Bool.false_ne_true
  · cases hf : Q.chkL T 0 (A ++ [x]) [] with
    | none => rw [List.concat_eq_append, hf] at h1; exact absurd h1 (by decide)
    | some fl =>
      obtain ⟨F, b, rfl⟩ := chk_last hf
      rw [List.concat_eq_append] at h24 h1 ⊢
      rw [hf] at h1 ⊢
      refine ⟨by simp, h24, b, ?_⟩
      cases F with
      | nil => simp
      | cons p F =>
        exfalso
        cases F with
        | nil => exact absurd h1 (by simp [Q.oneB])
        | cons q F => exact absurd h1 (by simp [Q.oneB])
end Go.Proofs.YtmnkjekjknhhjaaGreatDoor

/- The program's norm.Of: what a pattern stands for; the condition: its nodes lie there. -/
import Derived.Test.YtfkaagndlpcfdaaGreatRb
import Derived.Test.YtfkaagndlpcfdaaGreatOc
import Derived.Deep.OwnRows
namespace Go.Proofs.YtfkaagndlpcfdaaGreat
open Go.ChangeShapes Go.WideShapes Go.ChangeAt Go.RowKit

theorem made_sets (n : Nat) : madeCells #[Value.slice none 0 0] n = Array.replicate n (Value.slice none 0 0) := by
  apply Array.ext
  · simp [madeCells]
  · intro i h1 h2
    simp [madeCells, Nat.mod_one]
/-- Of refuses a number of tags that may not be. -/
theorem of_far (T : Int) (mp a : Option Addr) (n c : Nat) (ns : List Q.Nd) (M : Mr) (w : World) (h0 : MrAt w 50 mp M) (hT : ¬ (0 ≤ T ∧ T ≤ 12)) :
    Calls Tryz.prog 8 #[.pointer mp, .slice a n c, .int .i64 T] w (NormX 50 mp (normM M ns T) w) := by
  have HO := Lib.hid (normX_none (q := 1) (normM_no (M := M) (ns := ns) (fun h => hT ⟨h.1, h.2.1⟩)) h0 (MK.refl mp w))
  by_cases h1 : T < 0
  · go_enter Tryz.func8, Tryz.ntmps8
    go_wp2
    exact bodyPost_ret (v := .tuple #[.slice none 0 0, .int .i64 1]) (by simp [results, Tryz.results8, go_sem]) rfl HO.out
  · have h2 : 12 < T := by omega
    go_enter Tryz.func8, Tryz.ntmps8
    go_wp2
    exact bodyPost_ret (v := .tuple #[.slice none 0 0, .int .i64 1]) (by simp [results, Tryz.results8, go_sem]) rfl HO.out
/-- Of refuses what Check refuses. -/
theorem of_bad (T : Int) (mp a : Option Addr) (c : Nat) (ns : List Q.Nd) (M : Mr) (w : World) (h0 : MrAt w 50 mp M) (P : Q.NodesAt w a ns) (hm : ns.length ≤ 1000000) (hT0 : 0 ≤ T) (hT1 : T ≤ 12) (hc : Q.chkB ns T = false) :
    Calls Tryz.prog 8 #[.pointer mp, .slice a ns.length c, .int .i64 T] w (NormX 50 mp (normM M ns T) w) := by
  have Z := Q.check_any ns T a c w P hm
  unfold Q.pchkOut at Z
  rw [hc] at Z
  have HO : Hid (∀ w', Below w.heap.size w w' → NormX 50 mp (normM M ns T) w (.returned (.tuple #[.slice none 0 0, .int .i64 1])) w') := Lib.hid (fun w' b => normX_none (q := 1) (normM_no (fun h => by rw [hc] at h; exact Bool.false_ne_true h.2.2)) (h0.below b) ((MK.refl mp w).then b))
  generalize ns.length = n at Z hm ⊢
  have HZ := Lib.hid Z
  clear P hc h0 Z
  go_enter Tryz.func8, Tryz.ntmps8
  go_wp2_with (fail)
  refine HZ.out.mono ?_
  rintro e w1 ⟨rfl, b1⟩
  have HB := Lib.hid b1
  clear b1
  go_wp2
  exact bodyPost_ret (v := .tuple #[.slice none 0 0, .int .i64 1]) (by simp [results, Tryz.results8, go_sem]) rfl (HO.out _ HB.out)
set_option maxRecDepth 100000 in
set_option maxHeartbeats 16000000 in
theorem of_good (T : Int) (mp a : Option Addr) (c : Nat) (ns : List Q.Nd) (M : Mr) (w : World) (h0 : MrAt w 50 mp M) (P : Q.Nds w a c ns) (hc : Q.chkB ns T = true) (hT0 : 0 ≤ T) (hT1 : T ≤ 12) (h1 : 1 ≤ ns.length) (h24 : ns.length ≤ 24) :
    Calls Tryz.prog 8 #[.pointer mp, .slice a ns.length c, .int .i64 T] w (NormX 50 mp (normM M ns T) w) := by
  have HCT : Hid (0 ≤ T ∧ T ≤ 12 ∧ Q.chkB ns T = true) := Lib.hid ⟨hT0, by omega, hc⟩
  have hle := P.le
  have Z := Q.check_any ns T a c w P.at (by omega)
  unfold Q.pchkOut at Z
  rw [hc] at Z
  generalize hn : ns.length = n at hle Z h1 h24 ⊢
  have HN := Lib.hid hn
  have HP := Lib.hid P
  have HC := Lib.hid hc
  have HMM := Lib.hid h0
  have HZ := Lib.hid Z
  have hmk := run_make_row' (P := Tryz.prog) 52 32 (.slice none 0 0) 24 Tryz.underlying52 Tryz.infoSemi rfl .i64 .i64 n (by omega) (by omega)
  rw [made_sets] at hmk
  clear P hc hn h0 Z
  go_enter Tryz.func8, Tryz.ntmps8
  go_wp2_with (fail)
  refine HZ.out.mono ?_
  rintro e w1 ⟨rfl, b1⟩
  have bw := below_alloc w1 (.cells (Array.replicate n (Value.slice none 0 0)) 32)
  have HP1 := Lib.hid ((HP.out.below b1).below bw)
  have HS1 : Hid (NpSt w mp w1.heap.size n 0 [] [] M (w1.alloc (.cells (Array.replicate n (Value.slice none 0 0)) 32))) := Lib.hid ⟨((MK.refl mp w).then b1).then bw, .inr ⟨w1.heap.size, List.replicate n (Value.slice none 0 0), rfl, by simp [sxv], by omega, by have l := Lies.new w1 32 (List.replicate n (Value.slice none 0 0)); rw [List.toArray_replicate] at l; exact l⟩, fun e h => by simp at h, rfl, b1.size, (HMM.out.below b1).below bw, trivial, fun e h => by simp at h⟩
  clear b1 bw HZ HP HMM
  go_upto_region 4 with (fail)
  generalize w1.alloc (.cells (Array.replicate n (Value.slice none 0 0)) 32) = W1 at HP1 HS1 ⊢
  generalize w1.heap.size = gs at HS1 ⊢
  clear hmk
  go_wp2
  go_loopw [6, 7, 30] (fun r er i wr => ∃ (k : Nat) (es : List Sx) (fl : List (Int × Bool)) (Mi : Mr), k ≤ n ∧ r = .slice none 0 0 ∧ er = .int .i64 0 ∧ i = .int .i64 k ∧ Hid (NpSt w mp gs n k es fl Mi wr) ∧ Hid (Q.chkL T 0 (ns.take k) [] = some fl) ∧ Hid (Q.Nds wr a c ns) ∧ Hid (normGo ns M [] = normGo (ns.drop k) Mi (sxs es))) (fun _ _ i _ => n - (intOf i).toNat)
  case atStart => exact ⟨0, [], [], M, Nat.zero_le _, rfl, rfl, rfl, HS1, Lib.hid rfl, HP1, Lib.hid rfl⟩
  case round =>
    obtain ⟨k, es, fl, Mi, hk, rfl, rfl, rfl, HT, HF, HD, HGG⟩ := hrel
    by_cases hlt : k < n
    · have hk' : k < ns.length := by rw [HN.out]; exact hlt
      obtain ⟨fl', hst, hf'⟩ := chk_stepT HC.out hk' HF.out
      have HST := Lib.hid hst
      have HF' := Lib.hid hf'
      obtain ⟨g, rfl, X⟩ := HD.out.there hk'
      have x0 := X.c0
      have x1 := X.c1
      have x2 := X.c2
      have x3 := X.c3
      have x4 := X.c4
      have hgo := HGG.out
      rw [List.drop_eq_getElem_cons hk', normGo_cons] at hgo
      clear X hst hf'
      generalize hx : ns[k] = x at x0 x1 x2 x3 x4 HST hgo
      obtain ⟨kd, na, nb, nn, nm⟩ := x
      clear hx
      dsimp only at x0 x1 x2 x3 x4 hgo
      have bb := below_alloc wr (.cells #[.int .i64 kd, .int .i64 na, .int .i64 nb, .int .i64 nn, .string nm] 46)
      have HTW := Lib.hid (HT.out.below bb)
      have HDW := Lib.hid (HD.out.below bb)
      have HL := Lib.hid (Lies.new wr 46 [.int .i64 kd, .int .i64 na, .int .i64 nb, .int .i64 nn, .string nm])
      clear bb hk'
      go_upto_region 7 with (fail)
      clear x0 x1 x2 x3 x4 HT HD
      generalize wr.alloc (.cells #[.int .i64 kd, .int .i64 na, .int .i64 nb, .int .i64 nn, .string nm] 46) = W at HTW HDW HL ⊢
      generalize wr.heap.size = gb at HL ⊢
      have Z : Calls Tryz.prog _ #[.pointer mp, .int .i64 1] W _ := spend49 mp Mi 1 W HTW.out.met
      unfold SpendsM at Z
      generalize spendM Mi 1 = q at Z hgo
      obtain ⟨v, M1⟩ := q
      dsimp only at hgo
      have HGO := Lib.hid hgo
      clear hgo
      have HZ := Lib.hid Z
      clear Z
      go_wp2_with (fail)
      refine HZ.out.mono ?_
      rintro e W2 ⟨rfl, m2, k2⟩
      have HT2 := Lib.hid (HTW.out.turn k2 m2)
      have gne : ∀ {X : List Value}, Lies W gb 46 X → mp ≠ some ⟨gb, 0, none⟩ := fun l e2 => by
        rcases HTW.out.met.form with h | ⟨b, h, cs, l2⟩
        · rw [h] at e2; cases e2
        · rw [h] at e2; injection e2 with e2; injection e2 with e2; subst e2
          exact l.other l2 (by decide) rfl
      have HL2 := Lib.hid (HL.out.kept k2 (gne HL.out))
      have HD2 : Hid (Q.Nds W2 (some ⟨g, 0, none⟩) c ns) := Lib.hid (HDW.out.kept k2 (fun g' eg e2 => by
        rcases HTW.out.met.form with h | ⟨b, h, cs, l2⟩
        · rw [h] at e2; cases e2
        · rcases HDW.out with ⟨h3, _⟩ | ⟨g3, sp, h3, _, _, _, l3⟩
          · cases h3
          · rw [h3] at eg; injection eg with eg; injection eg with eg; subst eg
            rw [h] at e2; injection e2 with e2; injection e2 with e2; subst e2
            exact Lies.other l2 l3 (by decide) rfl))
      clear m2 k2 HZ gne HTW HDW HL
      cases v with
      | false =>
        have HO := Lib.hid (normX_none (q := 7) (normM_err HCT.out (HGO.out.trans (if_neg Bool.false_ne_true)) (by decide)) HT2.out.met HT2.out.mks)
        go_wp2
        exact bodyPost_ret (v := .tuple #[.slice none 0 0, .int .i64 7]) (by simp [results, Tryz.results8, go_sem]) rfl HO.out
      | true =>
        have y0 : W2.cell? ⟨gb, 0, none⟩ = some (.int .i64 kd) := HL2.out.cell 0
        have y1 : W2.cell? ⟨gb, 1, none⟩ = some (.int .i64 na) := HL2.out.cell 1
        have y2 : W2.cell? ⟨gb, 2, none⟩ = some (.int .i64 nb) := HL2.out.cell 2
        have y3 : W2.cell? ⟨gb, 3, none⟩ = some (.int .i64 nn) := HL2.out.cell 3
        have y4 : W2.cell? ⟨gb, 4, none⟩ = some (.string nm) := HL2.out.cell 4
        have hk24 : k < 24 := by omega
        have Z := set_any hT1 HT2.out hk24 hk HST.out
        have HSX := Lib.hid (node_step hT1 HT2.out.stk (M := M1) (by rw [sxs_len, HT2.out.num]) hk24 HST.out)
        dsimp only at Z HSX
        generalize hr : nodeM M1 (sxs es) kd na nb nn = r at Z HSX
        have hgo := HGO.out
        first | rw [if_pos trivial] at hgo | rw [if_pos rfl] at hgo
        rw [hr] at hgo
        clear hr
        obtain ⟨x, e0, M2⟩ := r
        dsimp only at hgo
        have HGP := Lib.hid hgo
        have HZ := Lib.hid Z
        clear hgo Z HL2
        go_wp2_with (fail)
        refine HZ.out.mono ?_
        rintro e W3 ⟨sa, sc, rfl, LX, m3, k3⟩
        have HT3 := Lib.hid (HT2.out.turn k3 m3)
        have HLX := Lib.hid LX
        have hlx := LX.le
        have HD3 : Hid (Q.Nds W3 (some ⟨g, 0, none⟩) c ns) := Lib.hid (HD2.out.kept k3 (fun g' eg e2 => by
          rcases HT2.out.met.form with h | ⟨b, h, cs, l2⟩
          · rw [h] at e2; cases e2
          · rcases HD2.out with ⟨h3, _⟩ | ⟨g3, sp, h3, _, _, _, l3⟩
            · cases h3
            · rw [h3] at eg; injection eg with eg; injection eg with eg; subst eg
              rw [h] at e2; injection e2 with e2; injection e2 with e2; subst e2
              exact Lies.other l2 l3 (by decide) rfl))
        clear y0 y1 y2 y3 y4 LX m3 k3 HZ HT2 HD2
        dsimp only at hlx ⊢
        generalize hq : x.length = q at hlx ⊢
        have HQ := Lib.hid hq
        clear hq
        by_cases h3 : e0 = 0
        · subst h3
          have hsx := HSX.out rfl
          obtain ⟨T4, K4⟩ := HT3.out.fill hlt ⟨sa, sc, x⟩ q HQ.out HLX.out hsx.1 hsx.2
          have HT4 := Lib.hid T4
          have hfz : W3.frozen? ⟨gs, k, none⟩ = false := HT3.out.row.frozen k
          have HD4 : Hid (Q.Nds (W3.setCell ⟨gs, k, none⟩ (.slice sa q sc)) (some ⟨g, 0, none⟩) c ns) := Lib.hid (HD3.out.kept K4 (fun g' eg e2 => by
            subst e2
            rcases HT3.out.row with ⟨h, _⟩ | ⟨g2, sp2, h, _, _, l2⟩
            · cases h
            · rcases HD3.out with ⟨h3, _⟩ | ⟨g3, sp, h3, _, _, _, l3⟩
              · cases h3
              · rw [h3] at eg; injection eg with eg; injection eg with eg; subst eg
                injection h with h; injection h with h; subst h
                exact Lies.other l2 l3 (by decide) rfl))
          have hcl : ∃ u, W3.cell? ⟨gs, k, none⟩ = some u := by
            rcases HT3.out.row with ⟨h, _⟩ | ⟨g2, sp2, h, hc2, _, l2⟩
            · cases h
            · injection h with h; injection h with h; subst h
              have hlt2 : k < (sxv es ++ sp2).length := by
                rw [List.length_append]; omega
              exact ⟨_, (l2.cell k).trans (List.getElem?_eq_getElem hlt2)⟩
          obtain ⟨u, hu⟩ := hcl
          clear T4 hsx K4
          have i1 : (0 : Int) ≤ (k : Int) := by omega
          have i2 : (k : Int) < (n : Int) := by omega
          go_wp2
          go_roundw
          case rel => exact ⟨k + 1, _, fl', M2, by omega, rfl, rfl, by go_num, HT4, HF', HD4, Lib.hid (by have h := HGP.out; rw [if_pos rfl] at h; rw [h]; simp [sxs])⟩
          case measure => simp [intOf]; omega
        · have HO := Lib.hid (normX_none (q := e0) (normM_err HCT.out (HGP.out.trans (if_neg h3)) h3) HT3.out.met HT3.out.mks)
          have h4 : (e0 == 0) = false := by simpa using h3
          have h5 : (e0 != 0) = true := by simpa using h3
          go_wp2
          exact bodyPost_ret (v := .tuple #[.slice none 0 0, .int .i64 e0]) (by simp [results, Tryz.results8, go_sem]) rfl HO.out
    · obtain rfl : k = n := by omega
      obtain ⟨N, rfl⟩ : ∃ N, k = N + 1 := ⟨k - 1, by omega⟩
      obtain ⟨ai, ci, hgl, di, Li⟩ := HT.out.at (i := N) (by rw [sxs_len, HT.out.num]; omega)
      have hng : normM M ns T = ((sxs es).getD N [], 0, Mi) := by
        have h := HGG.out
        rw [List.drop_of_length_le (by rw [HN.out]; omega)] at h
        have e := normM_ok HCT.out (h.trans (normGo_nil Mi (sxs es)))
        rw [HN.out] at e
        exact e
      have HNG := Lib.hid hng
      clear hng
      have HL := Lib.hid Li
      have hll := Li.le
      generalize (sxs es).getD N [] = x at di HNG HL hll
      have HO : Hid (NormX 50 mp (normM M ns T) w (.returned (.tuple #[.slice ai x.length ci, .int .i64 0])) wr) := Lib.hid (by rw [HNG.out]; exact ⟨ai, ci, rfl, HL.out, HT.out.met, HT.out.mks⟩)
      generalize x.length = q at di HO hll
      have hw1 : IntKind.i64.wrap ((N : Int) + 1 - 1) = (N : Int) := by rw [Int.add_sub_cancel]; exact IntWalk.i64_in _ (by omega)
      have i1 : (0 : Int) ≤ (N : Int) := by omega
      have i2 : (N : Int) < (N : Int) + 1 := by omega
      clear Li
      go_wp2
      exact bodyPost_ret (v := .tuple #[.slice ai q ci, .int .i64 0]) (by simp [results, Tryz.results8, go_sem]) rfl HO.out
/-- Of, of any nodes and any number of tags. -/
theorem of_any (T : Int) (mp a : Option Addr) (c : Nat) (ns : List Q.Nd) (M : Mr) (w : World) (h0 : MrAt w 50 mp M) (P : Q.Nds w a c ns) (hm : ns.length ≤ 1000000) :
    Calls Tryz.prog 8 #[.pointer mp, .slice a ns.length c, .int .i64 T] w (NormX 50 mp (normM M ns T) w) := by
  by_cases hT : 0 ≤ T ∧ T ≤ 12
  · cases hc : Q.chkB ns T with
    | false => exact of_bad T mp a c ns M w h0 P.at hm hT.1 hT.2 hc
    | true =>
      obtain ⟨h1, h24, _⟩ := chk_one hc
      exact of_good T mp a c ns M w h0 P hc hT.1 hT.2 h1 h24
  · exact of_far T mp a ns.length c ns M w h0 hT
end Go.Proofs.YtfkaagndlpcfdaaGreat

import Derived.Test.YtmefmnpmppdpmabDoorXc
import Derived.Test.YtmefmnpmppdpmabDoorXq
/- The search's add: a pair is put in, if it was not met. -/
namespace Go.Proofs.YtmefmnpmppdpmabDoor
open Go.ChangeShapes Go.WideShapes Go.ChangeAt Go.RowKit Go.Maps

theorem Tryd.zeroUnit (w : World) : (zeroValue 60).run Tryd.prog w = .ok (.agg #[]) w := by kernel_rfl
set_option maxRecDepth 100000 in
set_option maxHeartbeats 4000000 in
theorem add85 {w0 : World} {mp : Option Addr} {M : Mr} {gs gm lv k0 : Nat} {bv : Value} {qa : Option Addr} {qc : Nat} {Q : List Pr} (W : World) (S : SqAt w0 mp M gs gm bv lv qa qc (Q.drop k0) (Q.map keyT) W) (htab : TabM mp w0)
    (p : Qb) (hp : QbAt W p) (hP : PairR p.x) (hQ : ∀ z ∈ Q, PairR z) (hlen : Q.length ≤ 1000000000) (hk0 : k0 ≤ Q.length) :
    Calls Tryd.prog 14 #[.pointer (some ⟨gs, 0, none⟩), .agg #[.slice p.ca p.x.c.length p.cc, .slice p.la p.x.l.length p.lc, .slice p.wa p.x.w.length p.wc]] W (SqRet w0 mp gs gm bv lv k0 qa W (addP p.x Q M)) := by
  obtain ⟨ca, cc, la, lc, wa, wc, x⟩ := p
  simp only at hp hP ⊢
  have bb := below_alloc W (.cells #[.slice ca x.c.length cc, .slice la x.l.length lc, .slice wa x.w.length wc] 51)
  have HS1 := Lib.hid (S.below bb)
  have HP1 := Lib.hid (hp.below bb)
  have HX1 := Lib.hid (Lies.new W 51 [.slice ca x.c.length cc, .slice la x.l.length lc, .slice wa x.w.length wc])
  have HK1 : Hid (Kept (SX mp gs gm qa) W (W.alloc (.cells #[.slice ca x.c.length cc, .slice la x.l.length lc, .slice wa x.w.length wc] 51))) := Lib.hid (Kept.of_below bb)
  have HQX : Hid (¬ qa = some ⟨W.heap.size, 0, none⟩) := Lib.hid (fun e => Nat.lt_irrefl _ (S.prs.lt e))
  have Z := key117 ca la cc lc x.c x.l (.slice wa x.w.length wc) _ HP1.out.c HP1.out.l hP.c hP.l hP.few (htab _ HS1.out.kept)
  have HMK := Lib.hid (met_key hQ hP)
  have HKY := Lib.hid (key_key hP)
  have HTX : Hid (keyB x.c x.l = keyT x) := Lib.hid rfl
  have HAD : Hid (addP x Q M = addP x Q M) := Lib.hid rfl
  have HLN := Lib.hid hlen
  have HWW := Lib.hid S.kept.size
  have HK00 := Lib.hid hk0
  have HTL : Hid ((Q.map keyT).length = Q.length) := Lib.hid (List.length_map ..)
  obtain ⟨dn, hdn⟩ : ∃ dn, dn = (Q.drop k0).length := ⟨_, rfl⟩
  have HDN : Hid ((Q.drop k0).length = dn) := Lib.hid hdn.symm
  rw [HTX.out] at Z
  generalize hn1 : x.c.length = n1 at HX1 HK1 Z ⊢
  generalize hn2 : x.l.length = n2 at HX1 HK1 Z ⊢
  generalize hn3 : x.w.length = n3 at HX1 HK1 Z ⊢
  rw [hn1, hn2, hn3] at HS1 HP1
  have HN1 := Lib.hid hn1
  have HN2 := Lib.hid hn2
  have HN3 := Lib.hid hn3
  have HZ := Lib.hid Z
  clear Z bb S hp hP hQ htab hlen hk0 hdn hn1 hn2 hn3 HTX
  go_enter Tryd.func14, Tryd.ntmps14
  have e1 := HX1.out.cell 0
  have e2 := HX1.out.cell 1
  have e3 := HX1.out.cell 2
  simp only [List.getElem?_cons_zero, List.getElem?_cons_succ] at e1 e2 e3
  go_wp2_with (fail)
  generalize W.alloc (.cells #[.slice ca n1 cc, .slice la n2 lc, .slice wa n3 wc] 51) = W1 at HS1 HP1 HX1 HK1 HZ e1 e2 e3 ⊢
  generalize hgx : W.heap.size = gx at HX1 HQX e1 e2 e3 ⊢
  have HGX := Lib.hid hgx
  clear hgx
  refine HZ.out.mono ?_
  clear HZ e1 e2 e3
  rintro e W2 ⟨rfl, b2⟩
  have HS2 := Lib.hid (HS1.out.below b2)
  have HP2 := Lib.hid (HP1.out.below b2)
  have HX2 := Lib.hid (HX1.out.below b2 HX1.out.lt)
  have HK2 : Hid (Kept (SX mp gs gm qa) W W2) := Lib.hid (HK1.out.trans (Y := fun _ => False) (Kept.of_below b2) (fun _ _ e => e.elim))
  clear b2 HS1 HP1 HX1 HK1
  obtain ⟨D, hown, hD⟩ := HS2.out.map
  have HO := Lib.hid hown
  have HDh := Lib.hid (hD (keyT x))
  have HDA := Lib.hid hD
  clear hown hD
  generalize htx : keyT x = tx at HKY HDh HMK ⊢
  have HTX := Lib.hid htx
  clear htx
  have s4 := HS2.out.box.cell 4
  simp only [sqCells, List.getElem?_cons_zero, List.getElem?_cons_succ] at s4
  by_cases hmt : metP Q x.c x.l = true
  · have HD1 : Hid (Maps.has D (.string tx) = true) := Lib.hid (by rw [HDh.out]; exact decide_eq_true (HMK.out.2 hmt))
    have HF : Hid (∀ V, Below W2.heap.size W2 V → SqRet w0 mp gs gm bv lv k0 qa W (addP x Q M) (.returned (.int .i64 0)) V) := Lib.hid (fun V h => by
      unfold addP
      rw [if_pos hmt]
      exact ⟨rfl, qa, qc, HS2.out.below h, HK2.out.trans (Y := fun _ => False) (Kept.of_below h) (fun _ _ e => e.elim), fun g e => .inl e⟩)
    go_wp2_with (at_lookup; refine wpList_lookup_own_unit _ rfl _ _ 43 rfl 9 60 Tryd.law9u Tryd.underlying43 (Tryd.zeroUnit _) gm _ D rfl HO.out _ (.string tx) rfl HKY.out ?_; rw [HD1.out])
    go_ret
    exact HF.out _ (below_alloc _ _)
  · have HD1 : Hid (Maps.has D (.string tx) = false) := Lib.hid (by rw [HDh.out]; exact decide_eq_false (fun h => hmt (HMK.out.1 h)))
    have HMT := Lib.hid hmt
    clear hmt
    have bz := below_alloc W2 (.cells #[] 60)
    have HS3 := Lib.hid (HS2.out.below bz)
    have HP3 := Lib.hid (HP2.out.below bz)
    have HX3 := Lib.hid (HX2.out.below bz HX2.out.lt)
    have HK3 : Hid (Kept (SX mp gs gm qa) W (W2.alloc (.cells #[] 60))) := Lib.hid (HK2.out.alloc _)
    have s0 := HS3.out.box.cell 0
    simp only [sqCells, List.getElem?_cons_zero] at s0
    go_wp2_with (at_lookup; refine wpList_lookup_own_unit _ rfl _ _ 43 rfl 9 60 Tryd.law9u Tryd.underlying43 (Tryd.zeroUnit _) gm _ D rfl HO.out _ (.string tx) rfl HKY.out ?_; rw [HD1.out])
    clear bz s4 HS2 HP2 HX2 HK2 HO
    clear s0
    generalize W2.alloc (.cells #[] 60) = W3 at HS3 HP3 HX3 HK3 ⊢
    have Z := spend49 mp M 1 W3 HS3.out.meter
    unfold SpendsM at Z
    obtain ⟨sp, hsp⟩ : ∃ sp, sp = spendM M 1 := ⟨_, rfl⟩
    have HSP := Lib.hid hsp
    rw [← hsp] at Z
    have HZ := Lib.hid Z
    clear Z hsp HD1
    obtain ⟨sv, M4⟩ := sp
    refine HZ.out.mono ?_
    clear HZ
    rintro e W4 ⟨rfl, m4, k4⟩
    have HM4 := Lib.hid m4
    have HS4 := Lib.hid (HS3.out.spent m4 k4)
    have HP4 := Lib.hid (HP3.out.far k4 (meter_farQ HS3.out.meter))
    have HX4 := Lib.hid (HX3.out.kept k4 (fun e => by have := HS3.out.old _ e; have := HWW.out; have := HGX.out; omega))
    have HK4 : Hid (Kept (SX mp gs gm qa) W W4) := Lib.hid (HK3.out.trans k4 (fun i hi e => .inl e))
    clear HP3 HX3 HK3
    cases sv with
    | false =>
      have HF : Hid (SqRet w0 mp gs gm bv lv k0 qa W (addP x Q M) (.returned (.int .i64 7)) W4) := Lib.hid (by
        unfold addP
        rw [if_neg HMT.out, ← HSP.out, if_neg (by simp)]
        exact ⟨rfl, qa, qc, HS4.out, HK4.out, fun g e => .inl e⟩)
      go_wp2
      go_ret
      exact HF.out
    | true =>
      have HAD : Hid (addP x Q M = (Q ++ [x], 0, M4)) := Lib.hid (by
        unfold addP
        rw [if_neg HMT.out, ← HSP.out, if_pos rfl])
      have s4 := HS4.out.box.cell 4
      simp only [sqCells, List.getElem?_cons_zero, List.getElem?_cons_succ] at s4
      obtain ⟨D2, hown2, hD2⟩ := HS4.out.map
      have HO2 := Lib.hid hown2
      have HDA2 := Lib.hid hD2
      have hml : (Q.map keyT).length < maxLen := by rw [HTL.out]; have := HLN.out; unfold maxLen; omega
      clear hown2 hD2
      go_wp2_with (at_mapUpdate; refine wpList_mapUpdate_own _ rfl _ _ _ 43 rfl 9 60 Tryd.law9u Tryd.underlying43 unitElem gm (Q.map keyT).length D2 rfl HO2.out hml _ _ (.string tx) rfl rfl HKY.out (.agg []) [] unitElem_mk ?_)
      intro W6 hown6 hg6
      obtain ⟨hT6, hk6⟩ := mapU_step HO2.out HDA2.out (by rw [HTL.out]; exact hown6) hg6
      have hfar : FarQ (fun g => g = gm) W4 := ⟨fun g cs l e => HS4.out.map.cells l e, fun g cs l e => HS4.out.map.cells l e⟩
      have HS7 := Lib.hid (HS4.out.put hT6 hk6)
      have HP7 := Lib.hid (HP4.out.far hk6 hfar)
      have HX7 := Lib.hid (HX4.out.kept hk6 (HS4.out.map.cells HX4.out))
      have HK7 : Hid (Kept (SX mp gs gm qa) W W6) := Lib.hid (HK4.out.trans hk6 (fun i hi e => .inr (.inr (.inl e))))
      clear s4 HO2 HDA2 hown6 hg6 hT6 hk6 hfar HS4 HP4 HX4 HK4
      go_upto_region 8 with (fail)
      have bd : Lies W6.drew gx 51 [.slice ca n1 cc, .slice la n2 lc, .slice wa n3 wc] := HX7.out
      clear HX7
      refine wp_region_held_drew (S := fun V => Lies V gx 51 [.slice ca n1 cc, .slice la n2 lc, .slice wa n3 wc]) (by kernel_rfl) bd (fun hHeld => ?_)
      clear hHeld
      refine wpAnyH_take (i := 0) (oi := { dst := some 32, op := Op.move (Operand.tmp 0), type := 58, pos := "search.go:67", after := #[], guard := none }) (v := ?_) rfl (by kernel_rfl) (by kernel_rfl) (by kernel_rfl) (fun _ _ _ h => h) (Or.inl ⟨by rfl, ?_⟩) bd ?_
      rotate_left
      · intro w hSw
        go_simp
        try with_reducible rfl
      try simp only [Act.put, List.setIfInBounds_toArray, List.set_cons_zero, List.set_cons_succ]
      refine wpAnyH_take (i := 1) (oi := { dst := some 33, op := Op.move (Operand.tmp 0), type := 58, pos := "search.go:67", after := #[], guard := none }) (v := ?_) rfl (by kernel_rfl) (by kernel_rfl) (by kernel_rfl) (fun _ _ _ h => h) (Or.inl ⟨by rfl, ?_⟩) bd ?_
      rotate_left
      · intro w hSw
        go_simp
        try with_reducible rfl
      try simp only [Act.put, List.setIfInBounds_toArray, List.set_cons_zero, List.set_cons_succ]
      refine wpAnyH_take (i := 2) (oi := { dst := some 34, op := Op.nilCheck (Operand.tmp 33), type := 0, pos := "search.go:67", after := #[{ on := 1, ground := Ground.data }], guard := none }) (v := ?_) rfl (by kernel_rfl) (by kernel_rfl) (by kernel_rfl) (fun _ _ _ h => h) (Or.inl ⟨by rfl, ?_⟩) bd ?_
      rotate_left
      · intro w hSw
        go_simp
        try with_reducible rfl
      try simp only [Act.put, List.setIfInBounds_toArray, List.set_cons_zero, List.set_cons_succ]
      refine wpAnyH_take (i := 3) (oi := { dst := some 35, op := Op.fieldAddr 46 (Operand.tmp 34) 3, type := 0, pos := "search.go:67", after := #[{ on := 2, ground := Ground.data }], guard := none }) (v := ?_) rfl (by kernel_rfl) (by kernel_rfl) (by kernel_rfl) (fun _ _ _ h => h) (Or.inl ⟨by rfl, ?_⟩) bd ?_
      rotate_left
      · intro w hSw
        go_simp
        try with_reducible rfl
      try simp only [Act.put, List.setIfInBounds_toArray, List.set_cons_zero, List.set_cons_succ]
      refine wpAnyH_take (i := 5) (oi := { dst := some 37, op := Op.load 51 (Operand.tmp 3), type := 51, pos := "search.go:67", after := #[], guard := none }) (v := ?_) rfl (by kernel_rfl) (by kernel_rfl) (by kernel_rfl) (fun _ _ _ h => h) (Or.inl ⟨by rfl, ?_⟩) bd ?_
      rotate_left
      · intro w hSw
        have y0 := hSw.cell 0
        have y1 := hSw.cell 1
        have y2 := hSw.cell 2
        simp only [List.getElem?_cons_zero, List.getElem?_cons_succ] at y0 y1 y2
        go_simp
        try with_reducible rfl
      try simp only [Act.put, List.setIfInBounds_toArray, List.set_cons_zero, List.set_cons_succ]
      have bd0 : Below W6.heap.size W6 W6.drew := ⟨rfl, rfl, rfl, Nat.le_refl _, fun _ _ => rfl⟩
      have HX0 := Lib.hid bd
      have HS0 := Lib.hid (HS7.out.below bd0)
      have HP0 := Lib.hid (HP7.out.below bd0)
      have HK0 : Hid (Kept (SX mp gs gm qa) W W6.drew) := Lib.hid HK7.out.drew
      clear bd bd0 HS7 HP7 HK7
      generalize W6.drew = V0 at HX0 HS0 HP0 HK0 ⊢
      have s3 := HS0.out.box.cell 3
      simp only [sqCells, List.getElem?_cons_zero, List.getElem?_cons_succ] at s3
      rw [HDN.out] at s3
      have bz := below_alloc V0 (.cells #[.slice ca n1 cc, .slice la n2 lc, .slice wa n3 wc] 51)
      have HX1 := Lib.hid (HX0.out.below bz HX0.out.lt)
      have HS1 := Lib.hid (HS0.out.below bz)
      have HP1 := Lib.hid (HP0.out.below bz)
      have HL1 := Lib.hid (Lies.new V0 51 [.slice ca n1 cc, .slice la n2 lc, .slice wa n3 wc])
      have s31 := HS1.out.box.cell 3
      simp only [sqCells, List.getElem?_cons_zero, List.getElem?_cons_succ] at s31
      rw [HDN.out] at s31
      have HFIN : Hid (∃ a2 c2 V2, (Builtin.append_ #[44, 44] 44 #[.slice qa dn qc, .slice (some ⟨V0.heap.size, 0, none⟩) 1 1]).run Tryd.prog (V0.alloc (.cells #[.slice ca n1 cc, .slice la n2 lc, .slice wa n3 wc] 51)) = .ok (.slice a2 (dn + 1) c2) V2 ∧
          Lies V2 gx 51 [.slice ca n1 cc, .slice la n2 lc, .slice wa n3 wc] ∧ Lies (V2.setCell ⟨gs, 3, none⟩ (.slice a2 (dn + 1) c2)) gx 51 [.slice ca n1 cc, .slice la n2 lc, .slice wa n3 wc] ∧ V2.cell? ⟨gs, 3, none⟩ = some (.slice qa dn qc) ∧ V2.frozen? ⟨gs, 3, none⟩ = false ∧ dn + 1 ≤ c2 ∧ c2 ≤ 9223372036854775807 ∧
          SqRet w0 mp gs gm bv lv k0 qa W (addP x Q M) (.returned (.int .i64 0)) (V2.setCell ⟨gs, 3, none⟩ (.slice a2 (dn + 1) c2))) := Lib.hid (by
        obtain ⟨ls, hls, hQ⟩ := HS1.out.prs
        have hdl : ls.length = dn := by rw [← qrs_len ls, hls, HDN.out]
        have hrow := hQ.row
        rw [hdl] at hrow
        obtain ⟨v2, V2, hr, A⟩ := run_appQr_at 44 44 Tryd.underlying44 qa qc dn (qflat ls) _ hrow ⟨V0.heap.size, 0, none⟩ 1 1 (Qb.cells ⟨ca, cc, la, lc, wa, wc, x⟩) rfl (fun j u hj => by
          rw [Addr.add_lit]
          have h := HL1.out.cell (0 + j)
          rw [h]
          rw [← hj]
          show _ = ([.slice ca x.c.length cc, .slice la x.l.length lc, .slice wa x.w.length wc] : List Value)[j]?
          rw [HN1.out, HN2.out, HN3.out, Nat.zero_add]) (fun u hu => by
          simp only [Qb.cells, List.mem_cons, List.not_mem_nil, or_false] at hu
          rcases hu with rfl | rfl | rfl <;> rfl) (by have := HLN.out; have := HDN.out; rw [List.length_drop] at this; omega)
        obtain ⟨a2, c2, rfl, r2, k2, f2⟩ := qrs_push (l := ⟨ca, cc, la, lc, wa, wc, x⟩) (n := dn) hls hQ HP1.out (by rw [HDN.out]) A
        have hgx : ¬ qa = some ⟨gx, 0, none⟩ := HQX.out
        have hx2 : Lies V2 gx 51 [.slice ca n1 cc, .slice la n2 lc, .slice wa n3 wc] := HX1.out.kept k2 hgx
        have hgs : ¬ qa = some ⟨gs, 0, none⟩ := fun e => by
          obtain ⟨cs, l2⟩ := HS1.out.prs.lies e
          exact HS1.out.box.other l2 (by decide) rfl
        have hs2 := HS1.out.box.kept k2 hgs
        have hc3 := hs2.cell 3
        simp only [sqCells, List.getElem?_cons_zero, List.getElem?_cons_succ] at hc3
        rw [HDN.out] at hc3
        have hRn : (Q.drop k0 ++ [x]).length = dn + 1 := by rw [List.length_append, HDN.out]; rfl
        obtain ⟨q1, q2⟩ := HS1.out.push hRn r2 k2 (fun g e => f2 g e)
        have hle := r2.le
        rw [hRn] at hle
        have hgxs : gx ≠ gs := fun e => by subst e; exact hx2.other hs2 (by decide) rfl
        refine ⟨a2, c2, V2, hr, hx2, hx2.far hgxs _, hc3, hs2.frozen 3, hle.1, hle.2, ?_⟩
        have hk : Kept (SX mp gs gm qa) W (V0.alloc (.cells #[.slice ca n1 cc, .slice la n2 lc, .slice wa n3 wc] 51)) := HK0.out.alloc _
        rw [HAD.out]
        refine ⟨rfl, a2, c2, ?_, hk.trans q2 (fun i hi e => e), fun g e => ?_⟩
        · have e1 : [x].map keyT = [tx] := by rw [List.map_cons, List.map_nil, HTX.out]
          rw [List.drop_append_of_le_length HK00.out, List.map_append, e1]
          exact q1
        · rcases f2 g e with e | e
          · exact .inl e
          · have := hk.size
            exact .inr (by omega))
      obtain ⟨a2, c2, V2, hr2, hx2, hx3, hc3, hfz, hl1, hl2, hF⟩ := HFIN.out
      have HX2 := Lib.hid hx2
      have HX3 := Lib.hid hx3
      have HF := Lib.hid hF
      clear HFIN hx2 hx3 hF HS0 HP0 HK0 HS1 HP1 HL1 bz
      refine wpAnyH_ready (rs := [4, 6]) (by kernel_rfl) (by simp) ?_
      refine AllReadyH.cons (o := { dst := some 36, op := Op.load 44 (Operand.tmp 35), type := 44, pos := "search.go:67", after := #[{ on := 3, ground := Ground.data }], guard := none }) rfl (fun K hK => ?_) ?_
      · go_simp
        refine hK.out _ _ HX0.out (fun hHeld => ?_)
        clear hK K hHeld
        try simp only [Act.put, List.setIfInBounds_toArray, List.set_cons_zero, List.set_cons_succ]
        refine wpAnyH_ready (rs := [6]) (by kernel_rfl) (by simp) ?_
        refine AllReadyH.cons (o := { dst := some 38, op := Op.buildSlice 44 1 #[(0, Operand.tmp 37)], type := 44, pos := "search.go:67", after := #[{ on := 5, ground := Ground.data }], guard := none }) rfl (fun K hK => ?_) AllReadyH.nil
        go_simp
        refine hK.out _ _ HX1.out (fun hHeld => ?_)
        clear hK K hHeld
        try simp only [Act.put, List.setIfInBounds_toArray, List.set_cons_zero, List.set_cons_succ]
        refine wpAnyH_ready (rs := [7]) (by kernel_rfl) (by simp) ?_
        refine AllReadyH.cons (o := { dst := some 39, op := Op.call { callee := Callee.builtin Builtin.append, args := #[Operand.tmp 36, Operand.tmp 38], argTypes := #[44, 44] }, type := 44, pos := "search.go:67", after := #[{ on := 4, ground := Ground.data }, { on := 6, ground := Ground.data }], guard := none }) rfl (fun K hK => ?_) AllReadyH.nil
        refine step_append_run _ rfl _ _ _ _ rfl _ _ rfl rfl _ _ hr2 ?_
        refine hK.out _ _ HX2.out (fun hHeld => ?_)
        clear hK K hHeld
        try simp only [Act.put, List.setIfInBounds_toArray, List.set_cons_zero, List.set_cons_succ]
        refine wpAnyH_take (i := 8) (oi := { dst := some 40, op := Op.nilCheck (Operand.tmp 32), type := 0, pos := "search.go:67", after := #[{ on := 0, ground := Ground.data }, { on := 0, ground := Ground.phase }, { on := 1, ground := Ground.phase }, { on := 2, ground := Ground.phase }, { on := 3, ground := Ground.phase }, { on := 4, ground := Ground.phase }, { on := 5, ground := Ground.phase }, { on := 6, ground := Ground.phase }, { on := 7, ground := Ground.phase }], guard := none }) (v := ?_) rfl (by kernel_rfl) (by kernel_rfl) (by kernel_rfl) (fun _ _ _ h => h) (Or.inl ⟨by rfl, ?_⟩) HX2.out ?_
        rotate_left
        · intro w hSw
          go_simp
          try with_reducible rfl
        try simp only [Act.put, List.setIfInBounds_toArray, List.set_cons_zero, List.set_cons_succ]
        refine wpAnyH_take (i := 9) (oi := { dst := some 41, op := Op.fieldAddr 46 (Operand.tmp 40) 3, type := 0, pos := "search.go:67", after := #[{ on := 8, ground := Ground.data }, { on := 0, ground := Ground.phase }, { on := 1, ground := Ground.phase }, { on := 2, ground := Ground.phase }, { on := 3, ground := Ground.phase }, { on := 4, ground := Ground.phase }, { on := 5, ground := Ground.phase }, { on := 6, ground := Ground.phase }, { on := 7, ground := Ground.phase }], guard := none }) (v := ?_) rfl (by kernel_rfl) (by kernel_rfl) (by kernel_rfl) (fun _ _ _ h => h) (Or.inl ⟨by rfl, ?_⟩) HX2.out ?_
        rotate_left
        · intro w hSw
          go_simp
          try with_reducible rfl
        try simp only [Act.put, List.setIfInBounds_toArray, List.set_cons_zero, List.set_cons_succ]
        refine wpAnyH_ready (rs := [10]) (by kernel_rfl) (by simp) ?_
        refine AllReadyH.cons (o := { dst := none, op := Op.store 44 (Operand.tmp 41) (Operand.tmp 39), type := 0, pos := "search.go:67", after := #[{ on := 9, ground := Ground.data }, { on := 7, ground := Ground.data }, { on := 7, ground := Ground.chain }, { on := 0, ground := Ground.phase }, { on := 1, ground := Ground.phase }, { on := 2, ground := Ground.phase }, { on := 3, ground := Ground.phase }, { on := 4, ground := Ground.phase }, { on := 5, ground := Ground.phase }, { on := 6, ground := Ground.phase }, { on := 7, ground := Ground.phase }], guard := none }) rfl (fun K hK => ?_) AllReadyH.nil
        go_simp
        refine hK.out _ _ HX3.out (fun hHeld => ?_)
        clear hK K hHeld
        try simp only [Act.put, List.setIfInBounds_toArray, List.set_cons_zero, List.set_cons_succ]
        refine wpAnyH_done (by kernel_rfl) ?_ _
        go_wp2
        go_ret
        exact HF.out
      refine AllReadyH.cons (o := { dst := some 38, op := Op.buildSlice 44 1 #[(0, Operand.tmp 37)], type := 44, pos := "search.go:67", after := #[{ on := 5, ground := Ground.data }], guard := none }) rfl (fun K hK => ?_) AllReadyH.nil
      go_simp
      refine hK.out _ _ HX1.out (fun hHeld => ?_)
      clear hK K hHeld
      try simp only [Act.put, List.setIfInBounds_toArray, List.set_cons_zero, List.set_cons_succ]
      refine wpAnyH_ready (rs := [4]) (by kernel_rfl) (by simp) ?_
      refine AllReadyH.cons (o := { dst := some 36, op := Op.load 44 (Operand.tmp 35), type := 44, pos := "search.go:67", after := #[{ on := 3, ground := Ground.data }], guard := none }) rfl (fun K hK => ?_) AllReadyH.nil
      go_simp
      refine hK.out _ _ HX1.out (fun hHeld => ?_)
      clear hK K hHeld
      try simp only [Act.put, List.setIfInBounds_toArray, List.set_cons_zero, List.set_cons_succ]
      refine wpAnyH_ready (rs := [7]) (by kernel_rfl) (by simp) ?_
      refine AllReadyH.cons (o := { dst := some 39, op := Op.call { callee := Callee.builtin Builtin.append, args := #[Operand.tmp 36, Operand.tmp 38], argTypes := #[44, 44] }, type := 44, pos := "search.go:67", after := #[{ on := 4, ground := Ground.data }, { on := 6, ground := Ground.data }], guard := none }) rfl (fun K hK => ?_) AllReadyH.nil
      refine step_append_run _ rfl _ _ _ _ rfl _ _ rfl rfl _ _ hr2 ?_
      refine hK.out _ _ HX2.out (fun hHeld => ?_)
      clear hK K hHeld
      try simp only [Act.put, List.setIfInBounds_toArray, List.set_cons_zero, List.set_cons_succ]
      refine wpAnyH_take (i := 8) (oi := { dst := some 40, op := Op.nilCheck (Operand.tmp 32), type := 0, pos := "search.go:67", after := #[{ on := 0, ground := Ground.data }, { on := 0, ground := Ground.phase }, { on := 1, ground := Ground.phase }, { on := 2, ground := Ground.phase }, { on := 3, ground := Ground.phase }, { on := 4, ground := Ground.phase }, { on := 5, ground := Ground.phase }, { on := 6, ground := Ground.phase }, { on := 7, ground := Ground.phase }], guard := none }) (v := ?_) rfl (by kernel_rfl) (by kernel_rfl) (by kernel_rfl) (fun _ _ _ h => h) (Or.inl ⟨by rfl, ?_⟩) HX2.out ?_
      rotate_left
      · intro w hSw
        go_simp
        try with_reducible rfl
      try simp only [Act.put, List.setIfInBounds_toArray, List.set_cons_zero, List.set_cons_succ]
      refine wpAnyH_take (i := 9) (oi := { dst := some 41, op := Op.fieldAddr 46 (Operand.tmp 40) 3, type := 0, pos := "search.go:67", after := #[{ on := 8, ground := Ground.data }, { on := 0, ground := Ground.phase }, { on := 1, ground := Ground.phase }, { on := 2, ground := Ground.phase }, { on := 3, ground := Ground.phase }, { on := 4, ground := Ground.phase }, { on := 5, ground := Ground.phase }, { on := 6, ground := Ground.phase }, { on := 7, ground := Ground.phase }], guard := none }) (v := ?_) rfl (by kernel_rfl) (by kernel_rfl) (by kernel_rfl) (fun _ _ _ h => h) (Or.inl ⟨by rfl, ?_⟩) HX2.out ?_
      rotate_left
      · intro w hSw
        go_simp
        try with_reducible rfl
      try simp only [Act.put, List.setIfInBounds_toArray, List.set_cons_zero, List.set_cons_succ]
      refine wpAnyH_ready (rs := [10]) (by kernel_rfl) (by simp) ?_
      refine AllReadyH.cons (o := { dst := none, op := Op.store 44 (Operand.tmp 41) (Operand.tmp 39), type := 0, pos := "search.go:67", after := #[{ on := 9, ground := Ground.data }, { on := 7, ground := Ground.data }, { on := 7, ground := Ground.chain }, { on := 0, ground := Ground.phase }, { on := 1, ground := Ground.phase }, { on := 2, ground := Ground.phase }, { on := 3, ground := Ground.phase }, { on := 4, ground := Ground.phase }, { on := 5, ground := Ground.phase }, { on := 6, ground := Ground.phase }, { on := 7, ground := Ground.phase }], guard := none }) rfl (fun K hK => ?_) AllReadyH.nil
      go_simp
      refine hK.out _ _ HX3.out (fun hHeld => ?_)
      clear hK K hHeld
      try simp only [Act.put, List.setIfInBounds_toArray, List.set_cons_zero, List.set_cons_succ]
      refine wpAnyH_done (by kernel_rfl) ?_ _
      go_wp2
      go_ret
      exact HF.out
end Go.Proofs.YtmefmnpmppdpmabDoor

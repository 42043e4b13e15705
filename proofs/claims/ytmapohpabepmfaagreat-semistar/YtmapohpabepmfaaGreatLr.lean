/- The law SemiStar: its walk. -/
import Derived.Test.YtmapohpabepmfaaGreatLy
import Derived.Test.YtmapohpabepmfaaGreatJr
import Derived.Deep.CutBlock
import Derived.Deep.DeepCutAuto
import Derived.Deep.CutRange
namespace Go.Proofs.YtmapohpabepmfaaGreat
open Go.ChangeShapes Go.WideShapes Go.ChangeAt Go.RowKit

/-- No periods up to place k. -/
def bare (s : List Lin) (k : Nat) : Bool := (s.take k).all (fun x => decide (x.ps.length = 0))
theorem bare_step {s : List Lin} {k : Nat} (hk : k < s.length) : bare s (k + 1) = (bare s k && decide ((linAt s k).ps.length = 0)) := by
  unfold bare
  rw [takeN_snoc hk, List.all_append]
  simp
theorem bare_points {s : List Lin} (h : RiseS s) : bare s s.length = pointsS s := by
  unfold bare pointsS
  rw [List.take_length, Bool.eq_iff_iff, List.all_eq_true, List.all_eq_true]
  constructor
  · intro g x hx
    have := of_decide_eq_true (g x hx)
    unfold pointLin
    rw [h.1 x hx, List.eq_nil_of_length_eq_zero this]; rfl
  · intro g x hx
    have := g x hx
    unfold pointLin at this
    rw [Bool.and_eq_true, List.isEmpty_iff] at this
    rw [this.2]; rfl
/-- Of points alone: small words, without periods. -/
def Pts (l : List Lin) : Prop := ∀ x ∈ l, Small 39 x.base ∧ x.ps = []
theorem pts_right {l : List Lin} (h : Pts l) : GoodS l := fun x hx => by
  obtain ⟨h1, h2⟩ := h x hx
  exact rightLin_iff.2 ⟨h1.right, by rw [h2]; exact rise_nil⟩
theorem pts_points {l : List Lin} (h : Pts l) : pointsS (ofS l) = true := by
  unfold pointsS
  rw [List.all_eq_true]
  intro x hx
  have hx' := ((of_riseS (pts_right h)).2 x).1 hx
  obtain ⟨h1, h2⟩ := h x hx'
  unfold pointLin
  rw [pts_right h x hx', h2]; rfl
theorem lost_me {b : List Int} (h : rightL b = true) : lostL b = false := by
  unfold lostL
  rw [norm_self h]
  cases b <;> simp
theorem star_has {l : List Lin} (h : Pts l) {x : Lin} (hx : x ∈ l) (hne : x.base ≠ []) : x.base ∈ (ofLin [] (basesS (ofS l))).ps := by
  have R := of_riseS (pts_right h)
  have hb : x.base ∈ basesS (ofS l) := List.mem_map.2 ⟨x, (R.2 x).2 hx, rfl⟩
  have hr : ∀ b ∈ basesS (ofS l), rightL b = true := fun b hb => by
    obtain ⟨y, hy, rfl⟩ := List.mem_map.1 hb
    exact (h y ((R.2 y).1 hy)).1.right
  have ok : ofOk [] (basesS (ofS l)) = true := by
    unfold ofOk
    rw [Bool.and_eq_true, List.all_eq_true]
    exact ⟨by decide, fun b hb => by rw [lost_me (hr b hb)]; rfl⟩
  unfold ofLin
  rw [if_pos ok]
  have hg : Goods (ofNorm (basesS (ofS l))) := fun b hb => by
    unfold ofNorm at hb
    rw [List.mem_filter, List.mem_map] at hb
    obtain ⟨⟨c, hc, rfl⟩, h2⟩ := hb
    exact ⟨norm_right _, of_decide_eq_true h2⟩
  refine (putAll_mem hg rise_nil _).2 (.inr ?_)
  unfold ofNorm
  rw [List.mem_filter, List.mem_map]
  exact ⟨⟨x.base, hb, norm_self (hr _ hb)⟩, decide_eq_true hne⟩
/-- Is b empty, or one of the first j? -/
def among (b : List Int) (ps : List (List Int)) (j : Nat) : Bool := decide (b.length = 0) || (ps.take j).any (fun q => sameL b q)
theorem among_step {b : List Int} {ps : List (List Int)} {j : Nat} (hj : j < ps.length) : among b ps (j + 1) = (among b ps j || sameL b (ps.getD j [])) := by
  unfold among
  rw [List.take_succ_eq_append_getElem hj, List.any_append, Bool.or_assoc]
  simp [List.getD, hj]
theorem among_all {l : List Lin} (h : Pts l) {x : Lin} (hx : x ∈ l) : among x.base (ofLin [] (basesS (ofS l))).ps (ofLin [] (basesS (ofS l))).ps.length = true := by
  unfold among
  rw [List.take_length]
  by_cases hne : x.base = []
  · rw [hne]; rfl
  · rw [Bool.or_eq_true, List.any_eq_true]
    exact .inr ⟨_, star_has h hx hne, sameL_iff.2 rfl⟩
theorem star_kinds {s : List Lin} (h : RiseS s) : ∃ l e, starM none s = (l, e, none) ∧ ((pointsS s = true ∧ e = 0) ∨ (pointsS s = false ∧ e = 1 ∧ l = [])) := by
  cases hp : pointsS s with
  | true => exact ⟨_, _, starM_none h hp, .inl ⟨rfl, rfl⟩⟩
  | false => exact ⟨[], 1, starM_1 (.inr hp), .inr ⟨rfl, rfl, rfl⟩⟩
set_option maxRecDepth 100000 in
set_option maxHeartbeats 8000000 in
theorem star_walk (a0 : Option Addr) (l0 c0 : Nat) (z0 : List Int) (pa : Option Addr) (m pc : Nat) (rs : List Rw) (w : World) (K0 : Hid (Came w a0 l0 c0 z0)) (K1 : Hid (CameRows w pa m pc rs)) :
    Calls Tryz.prog 6 #[.slice a0 l0 c0, .slice pa m pc] w (True_ w) := by
  go_enter Tryz.func6, Tryz.ntmps6
  go_wp2_with (fail)
  refine (semi18 a0 l0 c0 z0 w K0).mono ?_
  rintro e W1 ⟨Ax, Cx, sx, rfl, nn, Fx, bb⟩
  have HB1 := Lib.hid bb
  have HX1 := Lib.hid nn
  have HFx := Lib.hid Fx
  have hlx := nn.le
  clear bb nn Fx
  generalize hnx : sx.length = Nx at hlx ⊢
  have HNx := Lib.hid hnx
  clear hnx
  go_wp2
  go_loopw [6, 27] (fun p i wr => ∃ k : Nat, k ≤ Nx ∧ p = .bool (bare sx k) ∧ i = .int .i64 k ∧ Hid (Below W1.heap.size W1 wr)) (fun _ i _ => Nx - (intOf i).toNat)
  case atStart => exact ⟨0, Nat.zero_le _, rfl, rfl, Lib.hid (Below.refl _ _)⟩
  case round =>
    obtain ⟨k, hk, rfl, rfl, HW⟩ := hrel
    by_cases hlt : k < Nx
    · obtain ⟨g, b, d, pb, pd, e1, c0', c1, r1, t1⟩ := (HX1.out.below HW.out).at (k := k) (by rw [HNx.out]; exact hlt)
      have HST := Lib.hid (bare_step (s := sx) (k := k) (by rw [HNx.out]; exact hlt))
      generalize bare sx k = pv at HST ⊢
      have hl1 := t1.le
      have hl0 := r1.le
      generalize (linAt sx k).base.length = u0 at c0' hl0
      generalize (linAt sx k).ps.length = u1 at c1 HST hl1
      have bb := below_alloc wr (.cells #[.slice b u0 d, .slice pb u1 pd] 60)
      have HWV := Lib.hid (HW.out.trans (bb.mono HW.out.size))
      have HL := Lib.hid (Lies.new wr 60 [.slice b u0 d, .slice pb u1 pd])
      clear bb r1 t1
      subst e1
      go_upto_region 6 with (fail)
      clear c0' c1
      generalize wr.alloc (.cells #[.slice b u0 d, .slice pb u1 pd] 60) = V at HWV HL ⊢
      generalize wr.heap.size = gb at HL ⊢
      have q1 : V.cell? ⟨gb, 1, none⟩ = some (.slice pb u1 pd) := HL.out.cell 1
      cases pv with
      | false =>
        have HS2 : Hid (bare sx (k + 1) = false) := Lib.hid (by rw [HST.out]; rfl)
        go_wp2
        go_roundw
        case rel => exact ⟨k + 1, by omega, by rw [HS2.out], by go_num, HWV⟩
        case measure => simp [intOf]; omega
      | true =>
        by_cases hu : u1 = 0
        · subst hu
          have HS2 : Hid (bare sx (k + 1) = true) := Lib.hid (by rw [HST.out]; rfl)
          go_wp2
          go_roundw
          case rel => exact ⟨k + 1, by omega, by rw [HS2.out], by go_num, HWV⟩
          case measure => simp [intOf]; omega
        · have HS2 : Hid (bare sx (k + 1) = false) := Lib.hid (by rw [HST.out, decide_eq_false hu]; rfl)
          have hu2 : ((u1 : Int) == 0) = false := by simp; omega
          go_wp2
          go_roundw
          case rel => exact ⟨k + 1, by omega, by rw [HS2.out], by go_num, HWV⟩
          case measure => simp [intOf]; omega
    · obtain rfl : k = Nx := by omega
      obtain ⟨l3, e3, hst, hkind⟩ := star_kinds HFx.out.1.rise
      have HPV : Hid (bare sx k = pointsS sx) := Lib.hid (by rw [← HNx.out]; exact bare_points HFx.out.1.rise)
      rw [← HPV.out] at hkind
      have Z := star25 none Ax Cx none sx wr rfl (HX1.out.below HW.out) (by rw [HNx.out]; have := HFx.out.2; rw [HNx.out] at this; omega)
      rw [hst, HNx.out] at Z
      have HZ := Lib.hid Z
      have HKD := Lib.hid hkind
      clear Z hkind hst HPV
      generalize bare sx k = pv at HKD ⊢
      go_wp2_with (fail)
      refine HZ.out.mono ?_
      rintro e W2 ⟨a3, c3, ls3, h1, he, P3, _, _, _, k3⟩
      have HB2 := Lib.hid (HB1.out.trans (((HW.out.trans ((mk_none k3).mono HW.out.size))).mono HB1.out.size))
      have hl3 := P3.row.le
      rw [← lins_len, h1] at hl3
      simp only at he hl3
      generalize hq3 : l3.length = q3 at he hl3
      have HQ3 := Lib.hid hq3
      clear h1 P3 k3 hq3 HZ HX1 HFx HW
      subst he
      go_upto_region 9 with (fail)
      go_cut [60] from 44 to 60 (fun v wx => v = .bool false ∧ W2 = wx)
      case first =>
        rcases HKD.out with ⟨rfl, rfl⟩ | ⟨rfl, rfl, hnil⟩
        · go_wp2
          go_meet
          exact ⟨rfl, rfl⟩
        · have hq0 : q3 = 0 := by rw [← HQ3.out, hnil]; rfl
          clear hnil
          subst hq0
          go_wp2
          go_meet
          exact ⟨rfl, rfl⟩
      case rest =>
        obtain ⟨rfl, rfl⟩ := hcut
        have HZ := Lib.hid (cutR5 pa m pc rs W2 (K1.out.below HB2.out))
        go_wp2_with (fail)
        refine HZ.out.mono ?_
        rintro e W3 ⟨a4, c4, rfl, R4, b4⟩
        have HB3 := Lib.hid (HB2.out.trans (b4.mono HB2.out.size))
        have HR3 := Lib.hid R4
        have HK3 := Lib.hid ((K1.out.below HB2.out).below b4)
        have hl4 := R4.le
        have HN5 : Hid ((rvals (rs.take 5)).length = min m 5) := Lib.hid (by rw [rvals_len, List.length_take, K1.out.num]; omega)
        rw [HN5.out] at hl4
        have hm5 : min m 5 ≤ 5 := by omega
        clear R4 b4 HZ
        generalize min m 5 = M5 at HN5 hl4 hm5 ⊢
        go_wp2
        go_loopw [11, 64] (fun l i wr => ∃ (k : Nat) (oa : Option Addr) (oc : Nat) (ls : List Lb), k ≤ M5 ∧ l = .slice oa k oc ∧ i = .int .i64 k ∧ Hid (AccN Any3 W3 oa oc k ls wr) ∧ Hid (Pts (lins ls))) (fun _ i _ => M5 - (intOf i).toNat)
        case atStart => exact ⟨0, none, 0, [], Nat.zero_le _, rfl, rfl, Lib.hid (AccN.nil _ _), Lib.hid (fun x hx => by simp [lins] at hx)⟩
        case round =>
          obtain ⟨k, oa, oc, ls, hk, rfl, rfl, HT, HPT⟩ := hrel
          have hlo := HT.out.row.row.le
          rw [HT.out.num] at hlo
          by_cases hlt : k < M5
          · have hk5 : k < (rs.take 5).length := by have := HN5.out; rw [rvals_len] at this; omega
            obtain ⟨g, rfl, hc⟩ := (HR3.out.below HT.out.bel).there (i := k) (by rw [HN5.out]; exact hlt)
            have ev : (rvals (rs.take 5))[k]'(by rw [HN5.out]; exact hlt) = ((rs.take 5)[k]).val := by simp [rvals]
            rw [ev] at hc
            have hmem : (rs.take 5)[k] ∈ rs := List.mem_of_mem_take (List.getElem_mem hk5)
            have HCM := Lib.hid (((HK3.out.each _ hmem)).below HT.out.bel)
            generalize (rs.take 5)[k] = r at hc HCM
            obtain ⟨ra, rl, rc, rz⟩ := r
            have hc' : wr.cell? ⟨g, k, none⟩ = some (.slice ra rl rc) := hc
            clear hc ev hmem hk5
            have HZ := Lib.hid (play_any ra rl rc rz wr HCM.out)
            go_wp2_with (fail)
            refine HZ.out.mono ?_
            rintro e W4 ⟨xs, sm, ba, bc, rfl, B4, _, b4⟩
            have HT4 := Lib.hid (HT.out.below stays_any b4)
            have HSM := Lib.hid sm
            have hb4 := B4.le
            have HBG := Lib.hid B4
            clear b4 B4 sm HZ hc' HCM
            generalize hxl : xs.length = xl at hb4 ⊢
            have HXL := Lib.hid hxl
            obtain ⟨a6, c6, w6, hr, T6, _⟩ := HT4.out.push stays_any 24 Tryz.underlying24 (by omega) ⟨ba, bc, none, 0, ⟨xs, []⟩⟩ xl 0 hxl rfl ⟨HBG.out, Bags.nil _⟩ trivial
            have HT6 := Lib.hid T6
            have HP6 : Hid (Pts (lins (ls ++ [⟨ba, bc, none, 0, ⟨xs, []⟩⟩]))) := Lib.hid (fun x hx => by
              rw [lins, List.map_append, List.mem_append] at hx
              rcases hx with hx | hx
              · exact HPT.out x hx
              · obtain rfl := List.mem_singleton.1 hx
                exact ⟨HSM.out, rfl⟩)
            clear T6 hxl
            go_wp2_with (at_builtin; refine Lib.wpList_append_run _ rfl _ _ _ _ rfl _ _ rfl rfl _ _ hr ?_)
            go_roundw
            case rel => exact ⟨k + 1, a6, c6, _, by omega, rfl, by go_num, HT6, HP6⟩
            case measure => simp [intOf]; omega
          · obtain rfl : k = M5 := by omega
            have HLL : Hid (Lins wr oa oc (lins ls)) := Lib.hid ⟨ls, rfl, HT.out.row⟩
            have HLN : Hid ((lins ls).length = k) := Lib.hid (by rw [lins_len, HT.out.num])
            have HBW := Lib.hid (HB3.out.trans (HT.out.bel.mono HB3.out.size))
            clear HT HR3 HK3 HN5
            generalize lins ls = L at HLL HLN HPT
            have HRI := Lib.hid (of_riseS (pts_right HPT.out))
            have Z := of_semi oa oc L wr HLL.out (by rw [HLN.out]; omega) (fun j => by
              unfold linAt
              rw [List.getD_eq_getElem?_getD]
              by_cases hj : j < L.length
              · rw [List.getElem?_eq_getElem hj]; simp only [Option.getD_some]; rw [(HPT.out _ (List.getElem_mem hj)).2]; exact Nat.zero_le _
              · rw [List.getElem?_eq_none (by omega)]; exact Nat.zero_le _)
            rw [ofSOk_iff.2 (pts_right HPT.out), HLN.out] at Z
            have HZ := Lib.hid Z
            clear Z
            go_wp2_with (fail)
            refine HZ.out.mono ?_
            rintro e W5 ⟨a5, c5, ls5, h5, rfl, P5, _, _, b5⟩
            have HL5 := Lib.hid (HLL.out.below b5)
            have HT5 : Hid (Lins W5 a5 c5 (ofS L)) := Lib.hid ⟨ls5, h5, P5⟩
            have HB5 := Lib.hid (HBW.out.trans (b5.mono HBW.out.size))
            have hl5 := HT5.out.le
            have hfew : (ofS L).length ≤ 5 := by
              have h := putAllS_len L []
              rw [HLN.out] at h
              rw [of_yesS (pts_right HPT.out)]
              simp only [List.length_nil] at h
              omega
            clear h5 P5 b5 HZ HLL HBW
            have Z := star25 none a5 c5 none (ofS L) W5 rfl HT5.out (by omega)
            rw [starM_none HRI.out.1 (pts_points HPT.out)] at Z
            generalize (ofS L).length = q5 at Z hl5 hfew ⊢
            have HZ := Lib.hid Z
            clear Z HT5
            go_wp2_with (fail)
            refine HZ.out.mono ?_
            rintro e W6 ⟨a6, c6, ls6, h6, rfl, P6, _, _, _, k6⟩
            have b6 := mk_none k6
            have HST : Hid (Lins W6 a6 c6 [ofLin [] (basesS (ofS L))]) := Lib.hid ⟨ls6, h6, P6⟩
            have HL6 := Lib.hid (HL5.out.below b6)
            have HB6 := Lib.hid (HB5.out.trans (b6.mono HB5.out.size))
            clear h6 P6 k6 b6 HZ HL5 HB5
            have HAL : Hid (∀ x ∈ L, among x.base (ofLin [] (basesS (ofS L))).ps (ofLin [] (basesS (ofS L))).ps.length = true) := Lib.hid (fun x hx => among_all HPT.out hx)
            have HBS := Lib.hid (of_base (basesS (ofS L)))
            have HRT : Hid (RiseS [ofLin [] (basesS (ofS L))]) := Lib.hid ⟨fun z hz => by obtain rfl := List.mem_singleton.1 hz; exact of_right _ _, by simp⟩
            generalize ofLin [] (basesS (ofS L)) = S at HST HAL HBS HRT ⊢
            obtain ⟨gs, sb, sd, sp, sq, rfl, s0, s1, sr, st⟩ := HST.out.at (k := 0) (by simp)
            have e0 : linAt [S] 0 = S := rfl
            rw [e0] at s0 s1 sr st
            rw [HBS.out] at s0
            have hlc := HST.out.le
            have hlp := st.le
            have HSP := Lib.hid st
            have hgs := HST.out.lt rfl
            generalize hps : S.ps.length = np at s1 hlp
            have HNP := Lib.hid hps
            clear sr st e0 hps
            have s0' : W6.cell? ⟨gs, 0, none⟩ = some (.slice sb 0 sd) := s0
            have s1' : W6.cell? ⟨gs, 1, none⟩ = some (.slice sp np sq) := s1
            clear s0 s1
            have HS1 := Lib.hid s1'
            have HZ := Lib.hid (rightN (s := [S]) (n := 1) rfl HRT.out W6 _ _ HST.out)
            have hlc1 : 1 ≤ c6 := hlc.1
            go_wp2_with (fail)
            refine HZ.out.mono ?_
            rintro e W7 ⟨rfl, b7⟩
            have HB7 := Lib.hid (HB6.out.trans (b7.mono HB6.out.size))
            have HL7 := Lib.hid (HL6.out.below b7)
            have HS7 := Lib.hid ((b7.cell (p := ⟨gs, 1, none⟩) hgs).trans HS1.out)
            have HP7 := Lib.hid (HSP.out.below b7)
            have HG7 : Hid (gs < W7.heap.size) := Lib.hid (Nat.lt_of_lt_of_le hgs b7.size)
            clear b7 HZ s0' s1' HS1 HSP HST HL6 HB6 hgs
            go_wp2
            go_loopw [4, 111] (fun r i wr => ∃ j : Nat, j ≤ k ∧ r = .bool false ∧ i = .int .i64 j ∧ Hid (Below W7.heap.size W7 wr)) (fun _ i _ => k - (intOf i).toNat)
            case atStart => exact ⟨0, Nat.zero_le _, rfl, rfl, Lib.hid (Below.refl _ _)⟩
            case round =>
              obtain ⟨j, hj, rfl, rfl, HW⟩ := hrel
              by_cases hlt : j < k
              · obtain ⟨g, b, d, pb, pd, e1, c0', c1, r1, t1⟩ := (HL7.out.below HW.out).at (k := j) (by rw [HLN.out]; exact hlt)
                have HAJ : Hid (among (linAt L j).base S.ps S.ps.length = true) := Lib.hid (by
                  have hj' : j < L.length := by rw [HLN.out]; exact hlt
                  have e : linAt L j = L[j] := by simp [linAt, List.getD, hj']
                  rw [e]; exact HAL.out _ (List.getElem_mem hj'))
                generalize linAt L j = x at c0' c1 r1 t1 HAJ
                have bb := below_alloc wr (.cells #[.slice b x.base.length d, .slice pb x.ps.length pd] 60)
                have HWV := Lib.hid (HW.out.trans (bb.mono HW.out.size))
                have HL := Lib.hid (Lies.new wr 60 [.slice b x.base.length d, .slice pb x.ps.length pd])
                have HXV := Lib.hid (r1.below bb)
                have hl0 := r1.le
                have hl1 := t1.le
                generalize hu0 : x.base.length = u0 at c0' HL HWV HXV hl0
                generalize x.ps.length = u1 at c1 HL HWV HXV hl1
                have HU0 := Lib.hid hu0
                clear bb r1 t1 hu0
                subst e1
                go_upto_region 24 with (fail)
                clear c0' c1
                generalize wr.alloc (.cells #[.slice b u0 d, .slice pb u1 pd] 60) = V at HWV HL HXV ⊢
                generalize wr.heap.size = gb at HL ⊢
                have q0 : V.cell? ⟨gb, 0, none⟩ = some (.slice b u0 d) := HL.out.cell 0
                have s1 : V.cell? ⟨gs, 1, none⟩ = some (.slice sp np sq) := (HWV.out.cell (p := ⟨gs, 1, none⟩) HG7.out).trans HS7.out
                have HIN : Hid ((((u0 : Nat) : Int) == 0) = among x.base S.ps 0) := Lib.hid (by
                  unfold among
                  rw [HU0.out]
                  by_cases h : u0 = 0
                  · subst h; rfl
                  · simp [h])
                go_upto_region 25 with (fail)
                rw [HIN.out]
                go_wp2
                clear q0 s1
                go_loopw [20, 124] (fun p i wr => ∃ t : Nat, t ≤ np ∧ p = .bool (among x.base S.ps t) ∧ i = .int .i64 t ∧ Hid (Below V.heap.size V wr)) (fun _ i _ => np - (intOf i).toNat)
                case atStart => exact ⟨0, Nat.zero_le _, rfl, rfl, Lib.hid (Below.refl _ _)⟩
                case round =>
                  obtain ⟨t, ht, rfl, rfl, HV⟩ := hrel
                  by_cases hltt : t < np
                  · have hbw := HWV.out.trans (HV.out.mono HWV.out.size)
                    obtain ⟨gp, pb2, pd2, e2, hc, hbag⟩ := (HP7.out.below hbw).at (k := t) (by rw [HNP.out]; exact hltt)
                    have HST2 := Lib.hid (among_step (b := x.base) (ps := S.ps) (j := t) (by rw [HNP.out]; exact hltt))
                    generalize among x.base S.ps t = pv at HST2 ⊢
                    have Z := same32 b pb2 d pd2 x.base (S.ps.getD t []) wr (HXV.out.below HV.out) hbag
                    rw [HU0.out] at Z
                    have hlb := hbag.le
                    generalize (S.ps.getD t []).length = u3 at hc Z hlb
                    generalize hv : sameL x.base (S.ps.getD t []) = v at Z HST2
                    have HZ := Lib.hid Z
                    have q0 : wr.cell? ⟨gb, 0, none⟩ = some (.slice b u0 d) := (HL.out.below HV.out HL.out.lt).cell 0
                    clear Z hbag hv hbw
                    subst e2
                    cases pv with
                    | true =>
                      have HS2 : Hid (among x.base S.ps (t + 1) = true) := Lib.hid (by rw [HST2.out]; rfl)
                      go_wp2
                      go_roundw
                      case rel => exact ⟨t + 1, by omega, by rw [HS2.out], by go_num, HV⟩
                      case measure => simp [intOf]; omega
                    | false =>
                      have HS2 : Hid (among x.base S.ps (t + 1) = v) := Lib.hid (by rw [HST2.out]; rfl)
                      go_wp2_with (fail)
                      refine HZ.out.mono ?_
                      rintro e V2 ⟨rfl, dq, rfl⟩
                      have HV2 : Hid (Below V.heap.size V (wr.drewN dq)) := Lib.hid (HV.out.trans (below_drewN _ _ _))
                      clear q0 hc
                      generalize wr.drewN dq = V2 at HV2 ⊢
                      go_wp2
                      go_roundw
                      case rel => exact ⟨t + 1, by omega, by rw [HS2.out], by go_num, HV2⟩
                      case measure => simp [intOf]; omega
                  · obtain rfl : t = np := by omega
                    have HBV := Lib.hid (HWV.out.trans (HV.out.mono HWV.out.size))
                    have HA2 : Hid (among x.base S.ps t = true) := Lib.hid (by rw [← HNP.out]; exact HAJ.out)
                    rw [HA2.out]
                    go_wp2
                    go_roundw
                    case rel => exact ⟨j + 1, by omega, rfl, by go_num, HBV⟩
                    case measure => simp [intOf]; omega
              · obtain rfl : j = k := by omega
                have HBZ := Lib.hid (HB7.out.trans (HW.out.mono HB7.out.size))
                go_wp2_with (fail)
                refine (wakes17 _).mono ?_
                rintro e V3 ⟨rfl, bb⟩
                have HB8 := Lib.hid (HBZ.out.trans (bb.mono HBZ.out.size))
                clear bb
                go_wp2
                go_ret
                exact ⟨rfl, HB8.out⟩
end Go.Proofs.YtmapohpabepmfaaGreat

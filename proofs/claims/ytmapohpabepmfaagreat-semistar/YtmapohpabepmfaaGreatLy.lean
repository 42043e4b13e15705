/- The law SemiLaws: its walk. -/
import Derived.Test.YtmapohpabepmfaaGreatLw
namespace Go.Proofs.YtmapohpabepmfaaGreat
open Go.ChangeShapes Go.WideShapes Go.ChangeAt Go.RowKit

theorem Fine.trim {s : List Lin} (h : Fine s) : TrimS 24000000000 16777216 6 s := ⟨h.1.rise, fun x hx => ⟨(h.1.each x hx).right, (h.1.each x hx).base.more (by omega), (h.1.each x hx).few⟩, h.2⟩
/-- What the law wants of three sets. -/
structure LawsF (x y z p l xz yz u : List Lin) : Prop where
  ep : catS x y = p
  eq : catS y x = p
  okxy : catsOk x y = true
  okyx : catsOk y x = true
  okxz : catsOk x z = true
  okyz : catsOk y z = true
  okuz : catsOk u z = true
  eu : unionS x y = u
  ev : unionS y x = u
  el : catS u z = l
  exz : catS x z = xz
  eyz : catS y z = yz
  em : unionS xz yz = l
  exx : unionS x x = x
  tu : TrimS 24000000000 16777216 12 u
  txz : TrimS 48000000000 33554432 36 xz
  tyz : TrimS 48000000000 33554432 36 yz
  rp : RiseS p
  rl : RiseS l
theorem lawsF {x y z : List Lin} (hx : Fine x) (hy : Fine y) (hz : Fine z) : LawsF x y z (catS x y) (catS (unionS x y) z) (catS x z) (catS y z) (unionS x y) := by
  have X := hx.trim
  have Y := hy.trim
  have Z := hz.trim
  have xy := X.cats Y (by decide)
  have yx := Y.cats X (by decide)
  have xz := X.cats Z (by decide)
  have yz := Y.cats Z (by decide)
  have cu := catS_union X.rise Y.rise xz yz
  have tu := X.union Y
  refine ⟨rfl, (catS_comm xy yx).symm, xy, yx, xz, yz, cu.1, rfl, (unionS_comm X.rise Y.rise).symm, rfl, rfl, rfl, cu.2.symm, unionS_self X.rise, tu, ?_, ?_, (catS_yes xy).1, (catS_yes cu.1).1⟩
  · exact X.cat Z (by decide)
  · exact Y.cat Z (by decide)
set_option maxRecDepth 100000 in
set_option maxHeartbeats 4000000 in
theorem laws_walk (a0 : Option Addr) (l0 c0 : Nat) (z0 : List Int) (a1 : Option Addr) (l1 c1 : Nat) (z1 : List Int) (a2 : Option Addr) (l2 c2 : Nat) (z2 : List Int) (w : World) (K0 : Hid (Came w a0 l0 c0 z0)) (K1 : Hid (Came w a1 l1 c1 z1)) (K2 : Hid (Came w a2 l2 c2 z2)) :
    Calls Tryz.prog 5 #[.slice a0 l0 c0, .slice a1 l1 c1, .slice a2 l2 c2] w (True_ w) := by
  go_enter Tryz.func5, Tryz.ntmps5
  go_wp2_with (fail)
  refine (semi18 a0 l0 c0 z0 w K0).mono ?_
  rintro e W1 ⟨Ax, Cx, sx, rfl, nn, Fx, bb⟩
  have HB1 := Lib.hid (bb)
  clear bb
  have Hx_1 := Lib.hid nn
  have HFx := Lib.hid Fx
  clear nn Fx
  generalize hnx : sx.length = Nx
  have HNx := Lib.hid hnx
  clear hnx
  go_wp2_with (fail)
  refine (semi18 a1 l1 c1 z1 W1 (Lib.hid (K1.out.below HB1.out))).mono ?_
  rintro e W2 ⟨Ay, Cy, sy, rfl, nn, Fy, bb⟩
  have HB2 := Lib.hid (HB1.out.trans (bb.mono HB1.out.size))
  have Hx_2 := Lib.hid (Hx_1.out.below bb)
  clear Hx_1
  clear bb HB1
  have Hy_2 := Lib.hid nn
  have HFy := Lib.hid Fy
  clear nn Fy
  generalize hny : sy.length = Ny
  have HNy := Lib.hid hny
  clear hny
  go_wp2_with (fail)
  refine (semi18 a2 l2 c2 z2 W2 (Lib.hid (K2.out.below HB2.out))).mono ?_
  rintro e W3 ⟨Az, Cz, sz, rfl, nn, Fz, bb⟩
  have HB3 := Lib.hid (HB2.out.trans (bb.mono HB2.out.size))
  have Hx_3 := Lib.hid (Hx_2.out.below bb)
  have Hy_3 := Lib.hid (Hy_2.out.below bb)
  clear Hx_2 Hy_2
  clear bb HB2
  have Hz_3 := Lib.hid nn
  have HFz := Lib.hid Fz
  clear nn Fz
  generalize hnz : sz.length = Nz
  have HNz := Lib.hid hnz
  clear hnz
  obtain ⟨p, l, xz, yz, u, np, nl, nxz, nyz, nu, hp, hl, hxz, hyz, hu, F⟩ : ∃ (p l xz yz u : List Lin) (np nl nxz nyz nu : Nat), p.length = np ∧ l.length = nl ∧ xz.length = nxz ∧ yz.length = nyz ∧ u.length = nu ∧ LawsF sx sy sz p l xz yz u := ⟨_, _, _, _, _, _, _, _, _, _, rfl, rfl, rfl, rfl, rfl, lawsF HFx.out HFy.out HFz.out⟩
  have Hp := Lib.hid hp
  have Hl := Lib.hid hl
  have Hxz := Lib.hid hxz
  have Hyz := Lib.hid hyz
  have Hu := Lib.hid hu
  have HF := Lib.hid F
  clear hp hl hxz hyz hu F
  go_wp2_with (fail)
  refine (catN HNx.out HNy.out Hp.out HF.out.ep HFx.out.trim HFy.out.trim HF.out.okxy (by decide) (by decide) _ _ _ _ _ Hx_3.out Hy_3.out).mono ?_
  rintro e W4 ⟨Ap, Cp, rfl, nn, bb⟩
  have HB4 := Lib.hid (HB3.out.trans (bb.mono HB3.out.size))
  have Hx_4 := Lib.hid (Hx_3.out.below bb)
  have Hy_4 := Lib.hid (Hy_3.out.below bb)
  have Hz_4 := Lib.hid (Hz_3.out.below bb)
  clear Hx_3 Hy_3 Hz_3
  have Hp_4 := Lib.hid nn.lins
  clear nn
  clear bb HB3
  go_wp2_with (fail)
  refine (catN HNy.out HNx.out Hp.out HF.out.eq HFy.out.trim HFx.out.trim HF.out.okyx (by decide) (by decide) _ _ _ _ _ Hy_4.out Hx_4.out).mono ?_
  rintro e W5 ⟨Aq, Cq, rfl, nn, bb⟩
  have HB5 := Lib.hid (HB4.out.trans (bb.mono HB4.out.size))
  have Hx_5 := Lib.hid (Hx_4.out.below bb)
  have Hy_5 := Lib.hid (Hy_4.out.below bb)
  have Hz_5 := Lib.hid (Hz_4.out.below bb)
  have Hp_5 := Lib.hid (Hp_4.out.below bb)
  clear Hx_4 Hy_4 Hz_4 Hp_4
  have Hq_5 := Lib.hid nn.lins
  clear nn
  clear bb HB4
  go_wp2_with (fail)
  refine (powN1 HNx.out HFx.out.trim (by decide) (by decide) _ _ _ Hx_5.out).mono ?_
  rintro e W6 ⟨Ao, Co, rfl, nn, bb⟩
  have HB6 := Lib.hid (HB5.out.trans (bb.mono HB5.out.size))
  have Hx_6 := Lib.hid (Hx_5.out.below bb)
  have Hy_6 := Lib.hid (Hy_5.out.below bb)
  have Hz_6 := Lib.hid (Hz_5.out.below bb)
  have Hp_6 := Lib.hid (Hp_5.out.below bb)
  have Hq_6 := Lib.hid (Hq_5.out.below bb)
  clear Hx_5 Hy_5 Hz_5 Hp_5 Hq_5
  have Ho_6 := Lib.hid nn.lins
  clear nn
  clear bb HB5
  go_wp2_with (fail)
  refine (powN0 HNx.out HFx.out.trim.rise _ _ _ Hx_6.out).mono ?_
  rintro e W7 ⟨Ae, Ce, rfl, nn, bb⟩
  have HB7 := Lib.hid (HB6.out.trans (bb.mono HB6.out.size))
  have Hx_7 := Lib.hid (Hx_6.out.below bb)
  have Hy_7 := Lib.hid (Hy_6.out.below bb)
  have Hz_7 := Lib.hid (Hz_6.out.below bb)
  have Hp_7 := Lib.hid (Hp_6.out.below bb)
  have Hq_7 := Lib.hid (Hq_6.out.below bb)
  have Ho_7 := Lib.hid (Ho_6.out.below bb)
  clear Hx_6 Hy_6 Hz_6 Hp_6 Hq_6 Ho_6
  have He_7 := Lib.hid nn.lins
  clear nn
  clear bb HB6
  go_wp2_with (fail)
  refine (unionN HNx.out HNy.out Hu.out HF.out.eu HFx.out.trim HFy.out.trim (by decide) (by decide) _ _ _ _ _ Hx_7.out Hy_7.out).mono ?_
  rintro e W8 ⟨Au, Cu, rfl, nn, bb⟩
  have HB8 := Lib.hid (HB7.out.trans (bb.mono HB7.out.size))
  have Hx_8 := Lib.hid (Hx_7.out.below bb)
  have Hy_8 := Lib.hid (Hy_7.out.below bb)
  have Hz_8 := Lib.hid (Hz_7.out.below bb)
  have Hp_8 := Lib.hid (Hp_7.out.below bb)
  have Hq_8 := Lib.hid (Hq_7.out.below bb)
  have Ho_8 := Lib.hid (Ho_7.out.below bb)
  have He_8 := Lib.hid (He_7.out.below bb)
  clear Hx_7 Hy_7 Hz_7 Hp_7 Hq_7 Ho_7 He_7
  have Hu_8 := Lib.hid nn.lins
  clear nn
  clear bb HB7
  go_wp2_with (fail)
  refine (catN Hu.out HNz.out Hl.out HF.out.el HF.out.tu HFz.out.trim HF.out.okuz (by decide) (by decide) _ _ _ _ _ Hu_8.out Hz_8.out).mono ?_
  rintro e W9 ⟨Al, Cl, rfl, nn, bb⟩
  have HB9 := Lib.hid (HB8.out.trans (bb.mono HB8.out.size))
  have Hx_9 := Lib.hid (Hx_8.out.below bb)
  have Hy_9 := Lib.hid (Hy_8.out.below bb)
  have Hz_9 := Lib.hid (Hz_8.out.below bb)
  have Hp_9 := Lib.hid (Hp_8.out.below bb)
  have Hq_9 := Lib.hid (Hq_8.out.below bb)
  have Ho_9 := Lib.hid (Ho_8.out.below bb)
  have He_9 := Lib.hid (He_8.out.below bb)
  have Hu_9 := Lib.hid (Hu_8.out.below bb)
  clear Hx_8 Hy_8 Hz_8 Hp_8 Hq_8 Ho_8 He_8 Hu_8
  have Hl_9 := Lib.hid nn.lins
  clear nn
  clear bb HB8
  clear Hu_9
  go_wp2_with (fail)
  refine (catN HNx.out HNz.out Hxz.out HF.out.exz HFx.out.trim HFz.out.trim HF.out.okxz (by decide) (by decide) _ _ _ _ _ Hx_9.out Hz_9.out).mono ?_
  rintro e W10 ⟨Ag, Cg, rfl, nn, bb⟩
  have HB10 := Lib.hid (HB9.out.trans (bb.mono HB9.out.size))
  have Hx_10 := Lib.hid (Hx_9.out.below bb)
  have Hy_10 := Lib.hid (Hy_9.out.below bb)
  have Hz_10 := Lib.hid (Hz_9.out.below bb)
  have Hp_10 := Lib.hid (Hp_9.out.below bb)
  have Hq_10 := Lib.hid (Hq_9.out.below bb)
  have Ho_10 := Lib.hid (Ho_9.out.below bb)
  have He_10 := Lib.hid (He_9.out.below bb)
  have Hl_10 := Lib.hid (Hl_9.out.below bb)
  clear Hx_9 Hy_9 Hz_9 Hp_9 Hq_9 Ho_9 He_9 Hl_9
  have Hg_10 := Lib.hid nn.lins
  clear nn
  clear bb HB9
  go_wp2_with (fail)
  refine (catN HNy.out HNz.out Hyz.out HF.out.eyz HFy.out.trim HFz.out.trim HF.out.okyz (by decide) (by decide) _ _ _ _ _ Hy_10.out Hz_10.out).mono ?_
  rintro e W11 ⟨Ah, Ch, rfl, nn, bb⟩
  have HB11 := Lib.hid (HB10.out.trans (bb.mono HB10.out.size))
  have Hx_11 := Lib.hid (Hx_10.out.below bb)
  have Hy_11 := Lib.hid (Hy_10.out.below bb)
  have Hz_11 := Lib.hid (Hz_10.out.below bb)
  have Hp_11 := Lib.hid (Hp_10.out.below bb)
  have Hq_11 := Lib.hid (Hq_10.out.below bb)
  have Ho_11 := Lib.hid (Ho_10.out.below bb)
  have He_11 := Lib.hid (He_10.out.below bb)
  have Hl_11 := Lib.hid (Hl_10.out.below bb)
  have Hg_11 := Lib.hid (Hg_10.out.below bb)
  clear Hx_10 Hy_10 Hz_10 Hp_10 Hq_10 Ho_10 He_10 Hl_10 Hg_10
  have Hh_11 := Lib.hid nn.lins
  clear nn
  clear bb HB10
  go_wp2_with (fail)
  refine (sameN Hp.out Hp.out rfl _ _ _ _ _ Hp_11.out Hq_11.out).mono ?_
  rintro e W12 ⟨rfl, bb⟩
  have HB12 := Lib.hid (HB11.out.trans (bb.mono HB11.out.size))
  have Hx_12 := Lib.hid (Hx_11.out.below bb)
  have Hy_12 := Lib.hid (Hy_11.out.below bb)
  have Hz_12 := Lib.hid (Hz_11.out.below bb)
  have Hp_12 := Lib.hid (Hp_11.out.below bb)
  have Hq_12 := Lib.hid (Hq_11.out.below bb)
  have Ho_12 := Lib.hid (Ho_11.out.below bb)
  have He_12 := Lib.hid (He_11.out.below bb)
  have Hl_12 := Lib.hid (Hl_11.out.below bb)
  have Hg_12 := Lib.hid (Hg_11.out.below bb)
  have Hh_12 := Lib.hid (Hh_11.out.below bb)
  clear Hx_11 Hy_11 Hz_11 Hp_11 Hq_11 Ho_11 He_11 Hl_11 Hg_11 Hh_11
  clear bb HB11
  go_wp2_with (fail)
  refine (sameN HNx.out HNx.out rfl _ _ _ _ _ Ho_12.out Hx_12.out).mono ?_
  rintro e W13 ⟨rfl, bb⟩
  have HB13 := Lib.hid (HB12.out.trans (bb.mono HB12.out.size))
  have Hx_13 := Lib.hid (Hx_12.out.below bb)
  have Hy_13 := Lib.hid (Hy_12.out.below bb)
  have Hz_13 := Lib.hid (Hz_12.out.below bb)
  have Hp_13 := Lib.hid (Hp_12.out.below bb)
  have Hq_13 := Lib.hid (Hq_12.out.below bb)
  have Ho_13 := Lib.hid (Ho_12.out.below bb)
  have He_13 := Lib.hid (He_12.out.below bb)
  have Hl_13 := Lib.hid (Hl_12.out.below bb)
  have Hg_13 := Lib.hid (Hg_12.out.below bb)
  have Hh_13 := Lib.hid (Hh_12.out.below bb)
  clear Hx_12 Hy_12 Hz_12 Hp_12 Hq_12 Ho_12 He_12 Hl_12 Hg_12 Hh_12
  clear bb HB12
  go_wp2_with (fail)
  refine (oneN _).mono ?_
  rintro e W14 ⟨A1, C1, rfl, nn, bb⟩
  have HB14 := Lib.hid (HB13.out.trans (bb.mono HB13.out.size))
  have Hx_14 := Lib.hid (Hx_13.out.below bb)
  have Hy_14 := Lib.hid (Hy_13.out.below bb)
  have Hz_14 := Lib.hid (Hz_13.out.below bb)
  have Hp_14 := Lib.hid (Hp_13.out.below bb)
  have Hq_14 := Lib.hid (Hq_13.out.below bb)
  have Ho_14 := Lib.hid (Ho_13.out.below bb)
  have He_14 := Lib.hid (He_13.out.below bb)
  have Hl_14 := Lib.hid (Hl_13.out.below bb)
  have Hg_14 := Lib.hid (Hg_13.out.below bb)
  have Hh_14 := Lib.hid (Hh_13.out.below bb)
  clear Hx_13 Hy_13 Hz_13 Hp_13 Hq_13 Ho_13 He_13 Hl_13 Hg_13 Hh_13
  have Hi_14 := Lib.hid nn.lins
  clear nn
  clear bb HB13
  go_wp2_with (fail)
  refine (sameN rfl rfl rfl _ _ _ _ _ He_14.out Hi_14.out).mono ?_
  rintro e W15 ⟨rfl, bb⟩
  have HB15 := Lib.hid (HB14.out.trans (bb.mono HB14.out.size))
  have Hx_15 := Lib.hid (Hx_14.out.below bb)
  have Hy_15 := Lib.hid (Hy_14.out.below bb)
  have Hz_15 := Lib.hid (Hz_14.out.below bb)
  have Hp_15 := Lib.hid (Hp_14.out.below bb)
  have Hq_15 := Lib.hid (Hq_14.out.below bb)
  have Ho_15 := Lib.hid (Ho_14.out.below bb)
  have He_15 := Lib.hid (He_14.out.below bb)
  have Hl_15 := Lib.hid (Hl_14.out.below bb)
  have Hg_15 := Lib.hid (Hg_14.out.below bb)
  have Hh_15 := Lib.hid (Hh_14.out.below bb)
  have Hi_15 := Lib.hid (Hi_14.out.below bb)
  clear Hx_14 Hy_14 Hz_14 Hp_14 Hq_14 Ho_14 He_14 Hl_14 Hg_14 Hh_14 Hi_14
  clear bb HB14
  go_wp2_with (fail)
  refine (unionN Hxz.out Hyz.out Hl.out HF.out.em HF.out.txz HF.out.tyz (by decide) (by decide) _ _ _ _ _ Hg_15.out Hh_15.out).mono ?_
  rintro e W16 ⟨Am, Cm, rfl, nn, bb⟩
  have HB16 := Lib.hid (HB15.out.trans (bb.mono HB15.out.size))
  have Hx_16 := Lib.hid (Hx_15.out.below bb)
  have Hy_16 := Lib.hid (Hy_15.out.below bb)
  have Hz_16 := Lib.hid (Hz_15.out.below bb)
  have Hp_16 := Lib.hid (Hp_15.out.below bb)
  have Hq_16 := Lib.hid (Hq_15.out.below bb)
  have Ho_16 := Lib.hid (Ho_15.out.below bb)
  have He_16 := Lib.hid (He_15.out.below bb)
  have Hl_16 := Lib.hid (Hl_15.out.below bb)
  have Hg_16 := Lib.hid (Hg_15.out.below bb)
  have Hh_16 := Lib.hid (Hh_15.out.below bb)
  have Hi_16 := Lib.hid (Hi_15.out.below bb)
  clear Hx_15 Hy_15 Hz_15 Hp_15 Hq_15 Ho_15 He_15 Hl_15 Hg_15 Hh_15 Hi_15
  have Hm_16 := Lib.hid nn.lins
  clear nn
  clear bb HB15
  go_wp2_with (fail)
  refine (sameN Hl.out Hl.out rfl _ _ _ _ _ Hl_16.out Hm_16.out).mono ?_
  rintro e W17 ⟨rfl, bb⟩
  have HB17 := Lib.hid (HB16.out.trans (bb.mono HB16.out.size))
  have Hx_17 := Lib.hid (Hx_16.out.below bb)
  have Hy_17 := Lib.hid (Hy_16.out.below bb)
  have Hz_17 := Lib.hid (Hz_16.out.below bb)
  have Hp_17 := Lib.hid (Hp_16.out.below bb)
  have Hq_17 := Lib.hid (Hq_16.out.below bb)
  have Ho_17 := Lib.hid (Ho_16.out.below bb)
  have He_17 := Lib.hid (He_16.out.below bb)
  have Hl_17 := Lib.hid (Hl_16.out.below bb)
  have Hg_17 := Lib.hid (Hg_16.out.below bb)
  have Hh_17 := Lib.hid (Hh_16.out.below bb)
  have Hi_17 := Lib.hid (Hi_16.out.below bb)
  have Hm_17 := Lib.hid (Hm_16.out.below bb)
  clear Hx_16 Hy_16 Hz_16 Hp_16 Hq_16 Ho_16 He_16 Hl_16 Hg_16 Hh_16 Hi_16 Hm_16
  clear bb HB16
  go_wp2_with (fail)
  refine (unionN HNx.out HNy.out Hu.out HF.out.eu HFx.out.trim HFy.out.trim (by decide) (by decide) _ _ _ _ _ Hx_17.out Hy_17.out).mono ?_
  rintro e W18 ⟨Av, Cv, rfl, nn, bb⟩
  have HB18 := Lib.hid (HB17.out.trans (bb.mono HB17.out.size))
  have Hx_18 := Lib.hid (Hx_17.out.below bb)
  have Hy_18 := Lib.hid (Hy_17.out.below bb)
  have Hz_18 := Lib.hid (Hz_17.out.below bb)
  have Hp_18 := Lib.hid (Hp_17.out.below bb)
  have Hq_18 := Lib.hid (Hq_17.out.below bb)
  have Ho_18 := Lib.hid (Ho_17.out.below bb)
  have He_18 := Lib.hid (He_17.out.below bb)
  have Hl_18 := Lib.hid (Hl_17.out.below bb)
  have Hg_18 := Lib.hid (Hg_17.out.below bb)
  have Hh_18 := Lib.hid (Hh_17.out.below bb)
  have Hi_18 := Lib.hid (Hi_17.out.below bb)
  have Hm_18 := Lib.hid (Hm_17.out.below bb)
  clear Hx_17 Hy_17 Hz_17 Hp_17 Hq_17 Ho_17 He_17 Hl_17 Hg_17 Hh_17 Hi_17 Hm_17
  have Hv_18 := Lib.hid nn.lins
  clear nn
  clear bb HB17
  go_wp2_with (fail)
  refine (unionN HNy.out HNx.out Hu.out HF.out.ev HFy.out.trim HFx.out.trim (by decide) (by decide) _ _ _ _ _ Hy_18.out Hx_18.out).mono ?_
  rintro e W19 ⟨Ar, Cr, rfl, nn, bb⟩
  have HB19 := Lib.hid (HB18.out.trans (bb.mono HB18.out.size))
  have Hx_19 := Lib.hid (Hx_18.out.below bb)
  have Hy_19 := Lib.hid (Hy_18.out.below bb)
  have Hz_19 := Lib.hid (Hz_18.out.below bb)
  have Hp_19 := Lib.hid (Hp_18.out.below bb)
  have Hq_19 := Lib.hid (Hq_18.out.below bb)
  have Ho_19 := Lib.hid (Ho_18.out.below bb)
  have He_19 := Lib.hid (He_18.out.below bb)
  have Hl_19 := Lib.hid (Hl_18.out.below bb)
  have Hg_19 := Lib.hid (Hg_18.out.below bb)
  have Hh_19 := Lib.hid (Hh_18.out.below bb)
  have Hi_19 := Lib.hid (Hi_18.out.below bb)
  have Hm_19 := Lib.hid (Hm_18.out.below bb)
  have Hv_19 := Lib.hid (Hv_18.out.below bb)
  clear Hx_18 Hy_18 Hz_18 Hp_18 Hq_18 Ho_18 He_18 Hl_18 Hg_18 Hh_18 Hi_18 Hm_18 Hv_18
  have Hr_19 := Lib.hid nn.lins
  clear nn
  clear bb HB18
  go_wp2_with (fail)
  refine (sameN Hu.out Hu.out rfl _ _ _ _ _ Hv_19.out Hr_19.out).mono ?_
  rintro e W20 ⟨rfl, bb⟩
  have HB20 := Lib.hid (HB19.out.trans (bb.mono HB19.out.size))
  have Hx_20 := Lib.hid (Hx_19.out.below bb)
  have Hy_20 := Lib.hid (Hy_19.out.below bb)
  have Hz_20 := Lib.hid (Hz_19.out.below bb)
  have Hp_20 := Lib.hid (Hp_19.out.below bb)
  have Hq_20 := Lib.hid (Hq_19.out.below bb)
  have Ho_20 := Lib.hid (Ho_19.out.below bb)
  have He_20 := Lib.hid (He_19.out.below bb)
  have Hl_20 := Lib.hid (Hl_19.out.below bb)
  have Hg_20 := Lib.hid (Hg_19.out.below bb)
  have Hh_20 := Lib.hid (Hh_19.out.below bb)
  have Hi_20 := Lib.hid (Hi_19.out.below bb)
  have Hm_20 := Lib.hid (Hm_19.out.below bb)
  have Hv_20 := Lib.hid (Hv_19.out.below bb)
  have Hr_20 := Lib.hid (Hr_19.out.below bb)
  clear Hx_19 Hy_19 Hz_19 Hp_19 Hq_19 Ho_19 He_19 Hl_19 Hg_19 Hh_19 Hi_19 Hm_19 Hv_19 Hr_19
  clear bb HB19
  go_wp2_with (fail)
  refine (unionN HNx.out HNx.out HNx.out HF.out.exx HFx.out.trim HFx.out.trim (by decide) (by decide) _ _ _ _ _ Hx_20.out Hx_20.out).mono ?_
  rintro e W21 ⟨As, Cs, rfl, nn, bb⟩
  have HB21 := Lib.hid (HB20.out.trans (bb.mono HB20.out.size))
  have Hx_21 := Lib.hid (Hx_20.out.below bb)
  have Hy_21 := Lib.hid (Hy_20.out.below bb)
  have Hz_21 := Lib.hid (Hz_20.out.below bb)
  have Hp_21 := Lib.hid (Hp_20.out.below bb)
  have Hq_21 := Lib.hid (Hq_20.out.below bb)
  have Ho_21 := Lib.hid (Ho_20.out.below bb)
  have He_21 := Lib.hid (He_20.out.below bb)
  have Hl_21 := Lib.hid (Hl_20.out.below bb)
  have Hg_21 := Lib.hid (Hg_20.out.below bb)
  have Hh_21 := Lib.hid (Hh_20.out.below bb)
  have Hi_21 := Lib.hid (Hi_20.out.below bb)
  have Hm_21 := Lib.hid (Hm_20.out.below bb)
  have Hv_21 := Lib.hid (Hv_20.out.below bb)
  have Hr_21 := Lib.hid (Hr_20.out.below bb)
  clear Hx_20 Hy_20 Hz_20 Hp_20 Hq_20 Ho_20 He_20 Hl_20 Hg_20 Hh_20 Hi_20 Hm_20 Hv_20 Hr_20
  have Hs_21 := Lib.hid nn.lins
  clear nn
  clear bb HB20
  go_wp2_with (fail)
  refine (sameN HNx.out HNx.out rfl _ _ _ _ _ Hs_21.out Hx_21.out).mono ?_
  rintro e W22 ⟨rfl, bb⟩
  have HB22 := Lib.hid (HB21.out.trans (bb.mono HB21.out.size))
  have Hx_22 := Lib.hid (Hx_21.out.below bb)
  have Hy_22 := Lib.hid (Hy_21.out.below bb)
  have Hz_22 := Lib.hid (Hz_21.out.below bb)
  have Hp_22 := Lib.hid (Hp_21.out.below bb)
  have Hq_22 := Lib.hid (Hq_21.out.below bb)
  have Ho_22 := Lib.hid (Ho_21.out.below bb)
  have He_22 := Lib.hid (He_21.out.below bb)
  have Hl_22 := Lib.hid (Hl_21.out.below bb)
  have Hg_22 := Lib.hid (Hg_21.out.below bb)
  have Hh_22 := Lib.hid (Hh_21.out.below bb)
  have Hi_22 := Lib.hid (Hi_21.out.below bb)
  have Hm_22 := Lib.hid (Hm_21.out.below bb)
  have Hv_22 := Lib.hid (Hv_21.out.below bb)
  have Hr_22 := Lib.hid (Hr_21.out.below bb)
  have Hs_22 := Lib.hid (Hs_21.out.below bb)
  clear Hx_21 Hy_21 Hz_21 Hp_21 Hq_21 Ho_21 He_21 Hl_21 Hg_21 Hh_21 Hi_21 Hm_21 Hv_21 Hr_21 Hs_21
  clear bb HB21
  go_wp2_with (fail)
  refine (rightN Hp.out HF.out.rp _ _ _ Hp_22.out).mono ?_
  rintro e W23 ⟨rfl, bb⟩
  have HB23 := Lib.hid (HB22.out.trans (bb.mono HB22.out.size))
  have Hx_23 := Lib.hid (Hx_22.out.below bb)
  have Hy_23 := Lib.hid (Hy_22.out.below bb)
  have Hz_23 := Lib.hid (Hz_22.out.below bb)
  have Hp_23 := Lib.hid (Hp_22.out.below bb)
  have Hq_23 := Lib.hid (Hq_22.out.below bb)
  have Ho_23 := Lib.hid (Ho_22.out.below bb)
  have He_23 := Lib.hid (He_22.out.below bb)
  have Hl_23 := Lib.hid (Hl_22.out.below bb)
  have Hg_23 := Lib.hid (Hg_22.out.below bb)
  have Hh_23 := Lib.hid (Hh_22.out.below bb)
  have Hi_23 := Lib.hid (Hi_22.out.below bb)
  have Hm_23 := Lib.hid (Hm_22.out.below bb)
  have Hv_23 := Lib.hid (Hv_22.out.below bb)
  have Hr_23 := Lib.hid (Hr_22.out.below bb)
  have Hs_23 := Lib.hid (Hs_22.out.below bb)
  clear Hx_22 Hy_22 Hz_22 Hp_22 Hq_22 Ho_22 He_22 Hl_22 Hg_22 Hh_22 Hi_22 Hm_22 Hv_22 Hr_22 Hs_22
  clear bb HB22
  go_wp2_with (fail)
  refine (rightN Hl.out HF.out.rl _ _ _ Hl_23.out).mono ?_
  rintro e W24 ⟨rfl, bb⟩
  have HB24 := Lib.hid (HB23.out.trans (bb.mono HB23.out.size))
  have Hx_24 := Lib.hid (Hx_23.out.below bb)
  have Hy_24 := Lib.hid (Hy_23.out.below bb)
  have Hz_24 := Lib.hid (Hz_23.out.below bb)
  have Hp_24 := Lib.hid (Hp_23.out.below bb)
  have Hq_24 := Lib.hid (Hq_23.out.below bb)
  have Ho_24 := Lib.hid (Ho_23.out.below bb)
  have He_24 := Lib.hid (He_23.out.below bb)
  have Hl_24 := Lib.hid (Hl_23.out.below bb)
  have Hg_24 := Lib.hid (Hg_23.out.below bb)
  have Hh_24 := Lib.hid (Hh_23.out.below bb)
  have Hi_24 := Lib.hid (Hi_23.out.below bb)
  have Hm_24 := Lib.hid (Hm_23.out.below bb)
  have Hv_24 := Lib.hid (Hv_23.out.below bb)
  have Hr_24 := Lib.hid (Hr_23.out.below bb)
  have Hs_24 := Lib.hid (Hs_23.out.below bb)
  clear Hx_23 Hy_23 Hz_23 Hp_23 Hq_23 Ho_23 He_23 Hl_23 Hg_23 Hh_23 Hi_23 Hm_23 Hv_23 Hr_23 Hs_23
  clear bb HB23
  go_wp2_with (fail)
  refine (wakes17 _).mono ?_
  rintro e W25 ⟨rfl, bb⟩
  have HB25 := Lib.hid (HB24.out.trans (bb.mono HB24.out.size))
  have Hx_25 := Lib.hid (Hx_24.out.below bb)
  have Hy_25 := Lib.hid (Hy_24.out.below bb)
  have Hz_25 := Lib.hid (Hz_24.out.below bb)
  have Hp_25 := Lib.hid (Hp_24.out.below bb)
  have Hq_25 := Lib.hid (Hq_24.out.below bb)
  have Ho_25 := Lib.hid (Ho_24.out.below bb)
  have He_25 := Lib.hid (He_24.out.below bb)
  have Hl_25 := Lib.hid (Hl_24.out.below bb)
  have Hg_25 := Lib.hid (Hg_24.out.below bb)
  have Hh_25 := Lib.hid (Hh_24.out.below bb)
  have Hi_25 := Lib.hid (Hi_24.out.below bb)
  have Hm_25 := Lib.hid (Hm_24.out.below bb)
  have Hv_25 := Lib.hid (Hv_24.out.below bb)
  have Hr_25 := Lib.hid (Hr_24.out.below bb)
  have Hs_25 := Lib.hid (Hs_24.out.below bb)
  clear Hx_24 Hy_24 Hz_24 Hp_24 Hq_24 Ho_24 He_24 Hl_24 Hg_24 Hh_24 Hi_24 Hm_24 Hv_24 Hr_24 Hs_24
  clear bb HB24
  go_wp2
  go_ret
  exact ⟨rfl, HB25.out⟩
end Go.Proofs.YtmapohpabepmfaaGreat

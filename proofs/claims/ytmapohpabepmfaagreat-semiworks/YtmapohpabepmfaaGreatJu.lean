/- The law SemiTells: its walk. -/
import Derived.Test.YtmapohpabepmfaaGreatJt
namespace Go.Proofs.YtmapohpabepmfaaGreat
open Go.ChangeShapes Go.WideShapes Go.ChangeAt Go.RowKit

theorem came_nil {w : World} : Came w none 0 0 [] := ⟨by omega, fun _ => ⟨rfl, rfl⟩, by omega, by simp, fun k hk => by omega⟩
theorem short_app {s t : List Lin} (h : Short6 s) (g : Short6 t) (k : Nat) : (linAt (s ++ t) k).ps.length ≤ 100000000000 := by
  have h1 := h.2
  have g1 := g.2
  unfold linAt at h1 g1 ⊢
  rw [List.getD_eq_getElem?_getD]
  by_cases hk : k < s.length
  · rw [List.getElem?_append_left hk]
    have := h1 k
    rw [List.getD_eq_getElem?_getD] at this
    omega
  · rw [List.getElem?_append_right (by omega)]
    have := g1 (k - s.length)
    rw [List.getD_eq_getElem?_getD] at this
    omega
set_option maxRecDepth 100000 in
set_option maxHeartbeats 4000000 in
theorem tells_walk (a0 : Option Addr) (l0 c0 : Nat) (q0 : List Raw7) (a1 : Option Addr) (l1 c1 : Nat) (q1 : List Raw7) (a2 : Option Addr) (l2 c2 : Nat) (z2 : List Int) (n3 : Int) (w : World) (h0 : Hid (CameLins w a0 l0 c0 q0)) (h1 : Hid (CameLins w a1 l1 c1 q1)) (h2 : Hid (Came w a2 l2 c2 z2)) :
    Calls Tryz.prog 3 #[.slice a0 l0 c0, .slice a1 l1 c1, .slice a2 l2 c2, .int .i64 n3] w (True_ w) := by
  have HQ0_0 := h0
  have HQ1_0 := h1
  have HA2_0 := h2
  clear h0 h1 h2
  go_enter Tryz.func3, Tryz.ntmps3
  have HZ1 := Lib.hid (of8 a0 l0 c0 q0 a2 l2 c2 z2 n3 w HQ0_0 HA2_0)
  go_wp2_with (fail)
  refine HZ1.out.mono ?_
  rintro e W1 ⟨Ax, Cx, x, rfl, Rx, Fx, bb⟩
  have HB1 := Lib.hid (bb)
  have HQ0_1 := Lib.hid (HQ0_0.out.below bb)
  have HQ1_1 := Lib.hid (HQ1_0.out.below bb)
  have HA2_1 := Lib.hid (HA2_0.out.below bb)
  clear HQ0_0 HQ1_0 HA2_0
  have Hx_1 := Lib.hid (Rx)
  clear bb HZ1
  have HFx := Lib.hid Fx
  clear Rx Fx
  have hlx := Hx_1.out.le
  generalize hnx : x.length = Nx at hlx ⊢
  have HNx := Lib.hid hnx
  clear hnx
  have HZ2 := Lib.hid (of8 a1 l1 c1 q1 none 0 0 [] 0 W1 HQ1_1 (Lib.hid came_nil))
  go_wp2_with (fail)
  refine HZ2.out.mono ?_
  rintro e W2 ⟨Ay, Cy, y, rfl, Ry, Fy, bb⟩
  have HB2 := Lib.hid (HB1.out.trans (bb.mono HB1.out.size))
  have HQ0_2 := Lib.hid (HQ0_1.out.below bb)
  have HQ1_2 := Lib.hid (HQ1_1.out.below bb)
  have HA2_2 := Lib.hid (HA2_1.out.below bb)
  have Hx_2 := Lib.hid (Hx_1.out.below bb)
  clear HQ0_1 HQ1_1 HA2_1 Hx_1
  have Hy_2 := Lib.hid (Ry)
  clear bb HZ2 HB1
  have HFy := Lib.hid Fy
  clear Ry Fy
  have hly := Hy_2.out.le
  generalize hny : y.length = Ny at hly ⊢
  have HNy := Lib.hid hny
  clear hny
  clear HQ0_2 HQ1_2 HA2_2
  have HZ3 := Lib.hid (of_semi Ax Cx x W2 Hx_2.out (by have := HFx.out.1; omega) (fun k => by have := HFx.out.2 k; omega))
  rw [HNx.out] at HZ3
  go_wp2_with (fail)
  refine HZ3.out.mono ?_
  rintro e W3 ⟨As, Cs, ls, es, rfl, Ps, fs, ns, bb⟩
  have HB3 := Lib.hid (HB2.out.trans (bb.mono HB2.out.size))
  have Hx_3 := Lib.hid (Hx_2.out.below bb)
  have Hy_3 := Lib.hid (Hy_2.out.below bb)
  clear Hx_2 Hy_2
  have Hs_3 : Hid (Lins W3 As Cs (ofS x)) := Lib.hid ⟨ls, es, Ps⟩
  clear es fs ns
  clear Ps
  have hls := Hs_3.out.le
  generalize hns : (ofS x).length = Ns at hls ⊢
  have HNs := Lib.hid hns
  clear hns
  clear bb HZ3 HB2
  have HZ4 := Lib.hid (ofSemi_any Ax Cx x W3 Hx_3.out (by have := HFx.out.1; omega) (fun k => by have := HFx.out.2 k; omega))
  rw [HNx.out] at HZ4
  go_wp2_with (fail)
  refine HZ4.out.mono ?_
  rintro e W4 ⟨At2, Ct, lt, et, rfl, Pt, ft, bb⟩
  have HB4 := Lib.hid (HB3.out.trans (bb.mono HB3.out.size))
  have Hx_4 := Lib.hid (Hx_3.out.below bb)
  have Hy_4 := Lib.hid (Hy_3.out.below bb)
  have Hs_4 := Lib.hid (Hs_3.out.below bb)
  clear Hx_3 Hy_3 Hs_3
  have Ht_4 : Hid (Lins W4 At2 Ct (ofS x)) := Lib.hid ⟨lt, et, Pt⟩
  clear et ft Pt
  rw [HNs.out]
  have hlt := Ht_4.out.le
  rw [HNs.out] at hlt
  generalize hok : ofSOk x = ok
  clear hok
  clear bb HZ4 HB3
  have HZ5 := Lib.hid (right11 Ax Cx x W4 Hx_4.out)
  rw [HNx.out] at HZ5
  go_wp2_with (fail)
  refine HZ5.out.mono ?_
  rintro e W5 ⟨rfl, bb⟩
  have HB5 := Lib.hid (HB4.out.trans (bb.mono HB4.out.size))
  have Hx_5 := Lib.hid (Hx_4.out.below bb)
  have Hy_5 := Lib.hid (Hy_4.out.below bb)
  have Hs_5 := Lib.hid (Hs_4.out.below bb)
  have Ht_5 := Lib.hid (Ht_4.out.below bb)
  clear Hx_4 Hy_4 Hs_4 Ht_4
  clear bb HZ5 HB4
  have HZ6 := Lib.hid (rightSemi_any Ax Cx x W5 Hx_5.out)
  rw [HNx.out] at HZ6
  go_wp2_with (fail)
  refine HZ6.out.mono ?_
  rintro e W6 ⟨rfl, bb⟩
  have HB6 := Lib.hid (HB5.out.trans (bb.mono HB5.out.size))
  have Hx_6 := Lib.hid (Hx_5.out.below bb)
  have Hy_6 := Lib.hid (Hy_5.out.below bb)
  have Hs_6 := Lib.hid (Hs_5.out.below bb)
  have Ht_6 := Lib.hid (Ht_5.out.below bb)
  clear Hx_5 Hy_5 Hs_5 Ht_5
  generalize rightS x = vr
  clear bb HZ6 HB5
  have HZ7 := Lib.hid (sameSemi_any As At2 Cs Ct (ofS x) (ofS x) W6 Hs_6.out Ht_6.out)
  rw [HNs.out, decide_eq_true rfl] at HZ7
  go_wp2_with (fail)
  refine HZ7.out.mono ?_
  rintro e W7 ⟨rfl, bb⟩
  have HB7 := Lib.hid (HB6.out.trans (bb.mono HB6.out.size))
  have Hx_7 := Lib.hid (Hx_6.out.below bb)
  have Hy_7 := Lib.hid (Hy_6.out.below bb)
  have Hs_7 := Lib.hid (Hs_6.out.below bb)
  have Ht_7 := Lib.hid (Ht_6.out.below bb)
  clear Hx_6 Hy_6 Hs_6 Ht_6
  clear bb HZ7 HB6
  have HZ8 := Lib.hid (union14 Ax Ay Cx Cy x y W7 Hx_7.out Hy_7.out (by have := HFx.out.1; have := HFy.out.1; omega) (short_app HFx.out HFy.out))
  rw [HNx.out, HNy.out] at HZ8
  go_wp2_with (fail)
  refine HZ8.out.mono ?_
  rintro e W8 ⟨Au, Cu, lu, eu, rfl, Acc⟩
  have bb := Acc.bel
  have HB8 := Lib.hid (HB7.out.trans (bb.mono HB7.out.size))
  have Hx_8 := Lib.hid (Hx_7.out.below bb)
  have Hy_8 := Lib.hid (Hy_7.out.below bb)
  have Hs_8 := Lib.hid (Hs_7.out.below bb)
  have Ht_8 := Lib.hid (Ht_7.out.below bb)
  clear Hx_7 Hy_7 Hs_7 Ht_7
  clear bb HZ8 HB7
  have Hu_8 : Hid (Lins W8 Au Cu (unionS x y)) := Lib.hid ⟨lu, eu, Acc.row⟩
  clear eu Acc
  have hlu := Hu_8.out.le
  generalize hnu : (unionS x y).length = Nu at hlu ⊢
  have HNu := Lib.hid hnu
  clear hnu
  have HZ9 := Lib.hid (runion15 Ax Ay Cx Cy x y W8 Hx_8.out Hy_8.out (by have := HFx.out.1; have := HFy.out.1; omega) (short_app HFx.out HFy.out))
  rw [HNx.out, HNy.out] at HZ9
  go_wp2_with (fail)
  refine HZ9.out.mono ?_
  rintro e W9 ⟨Av, Cv, rfl, Pv, fv, bb⟩
  have HB9 := Lib.hid (HB8.out.trans (bb.mono HB8.out.size))
  have Hx_9 := Lib.hid (Hx_8.out.below bb)
  have Hy_9 := Lib.hid (Hy_8.out.below bb)
  have Hs_9 := Lib.hid (Hs_8.out.below bb)
  have Ht_9 := Lib.hid (Ht_8.out.below bb)
  have Hu_9 := Lib.hid (Hu_8.out.below bb)
  clear Hx_8 Hy_8 Hs_8 Ht_8 Hu_8
  have Hv_9 := Lib.hid (Pv)
  clear fv Pv
  rw [HNu.out]
  have hlv := Hv_9.out.le
  rw [HNu.out] at hlv
  clear bb HZ9 HB8
  have HZ10 := Lib.hid (sameSemi_any Au Av Cu Cv (unionS x y) (unionS x y) W9 Hu_9.out Hv_9.out)
  rw [HNu.out, decide_eq_true rfl] at HZ10
  go_wp2_with (fail)
  refine HZ10.out.mono ?_
  rintro e W10 ⟨rfl, bb⟩
  have HB10 := Lib.hid (HB9.out.trans (bb.mono HB9.out.size))
  have Hx_10 := Lib.hid (Hx_9.out.below bb)
  have Hy_10 := Lib.hid (Hy_9.out.below bb)
  have Hs_10 := Lib.hid (Hs_9.out.below bb)
  have Ht_10 := Lib.hid (Ht_9.out.below bb)
  have Hu_10 := Lib.hid (Hu_9.out.below bb)
  have Hv_10 := Lib.hid (Hv_9.out.below bb)
  clear Hx_9 Hy_9 Hs_9 Ht_9 Hu_9 Hv_9
  clear bb HZ10 HB9
  have HZ11 := Lib.hid (same16 Ax Ay Cx Cy x y W10 Hx_10.out Hy_10.out)
  rw [HNx.out, HNy.out] at HZ11
  go_wp2_with (fail)
  refine HZ11.out.mono ?_
  rintro e W11 ⟨rfl, bb⟩
  have HB11 := Lib.hid (HB10.out.trans (bb.mono HB10.out.size))
  have Hx_11 := Lib.hid (Hx_10.out.below bb)
  have Hy_11 := Lib.hid (Hy_10.out.below bb)
  have Hs_11 := Lib.hid (Hs_10.out.below bb)
  have Ht_11 := Lib.hid (Ht_10.out.below bb)
  have Hu_11 := Lib.hid (Hu_10.out.below bb)
  have Hv_11 := Lib.hid (Hv_10.out.below bb)
  clear Hx_10 Hy_10 Hs_10 Ht_10 Hu_10 Hv_10
  clear bb HZ11 HB10
  have HZ12 := Lib.hid (sameSemi_any Ax Ay Cx Cy x y W11 Hx_11.out Hy_11.out)
  rw [HNx.out, HNy.out] at HZ12
  go_wp2_with (fail)
  refine HZ12.out.mono ?_
  rintro e W12 ⟨rfl, bb⟩
  have HB12 := Lib.hid (HB11.out.trans (bb.mono HB11.out.size))
  have Hx_12 := Lib.hid (Hx_11.out.below bb)
  have Hy_12 := Lib.hid (Hy_11.out.below bb)
  have Hs_12 := Lib.hid (Hs_11.out.below bb)
  have Ht_12 := Lib.hid (Ht_11.out.below bb)
  have Hu_12 := Lib.hid (Hu_11.out.below bb)
  have Hv_12 := Lib.hid (Hv_11.out.below bb)
  clear Hx_11 Hy_11 Hs_11 Ht_11 Hu_11 Hv_11
  generalize decide (x = y) = vd
  clear bb HZ12 HB11
  have HZ13 := Lib.hid (same16 Ax Ax Cx Cx x x W12 Hx_12.out Hx_12.out)
  rw [HNx.out, decide_eq_true rfl] at HZ13
  go_wp2_with (fail)
  refine HZ13.out.mono ?_
  rintro e W13 ⟨rfl, bb⟩
  have HB13 := Lib.hid (HB12.out.trans (bb.mono HB12.out.size))
  have Hx_13 := Lib.hid (Hx_12.out.below bb)
  have Hy_13 := Lib.hid (Hy_12.out.below bb)
  have Hs_13 := Lib.hid (Hs_12.out.below bb)
  have Ht_13 := Lib.hid (Ht_12.out.below bb)
  have Hu_13 := Lib.hid (Hu_12.out.below bb)
  have Hv_13 := Lib.hid (Hv_12.out.below bb)
  clear Hx_12 Hy_12 Hs_12 Ht_12 Hu_12 Hv_12
  clear bb HZ13 HB12
  have HZ14 := Lib.hid (wakes17 W13)
  go_wp2_with (fail)
  refine HZ14.out.mono ?_
  rintro e W14 ⟨rfl, bb⟩
  have HB14 := Lib.hid (HB13.out.trans (bb.mono HB13.out.size))
  have Hx_14 := Lib.hid (Hx_13.out.below bb)
  have Hy_14 := Lib.hid (Hy_13.out.below bb)
  have Hs_14 := Lib.hid (Hs_13.out.below bb)
  have Ht_14 := Lib.hid (Ht_13.out.below bb)
  have Hu_14 := Lib.hid (Hu_13.out.below bb)
  have Hv_14 := Lib.hid (Hv_13.out.below bb)
  clear Hx_13 Hy_13 Hs_13 Ht_13 Hu_13 Hv_13
  clear bb HZ14 HB13
  go_wp2
  go_ret
  exact ⟨rfl, HB14.out⟩
end Go.Proofs.YtmapohpabepmfaaGreat

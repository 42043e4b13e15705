/- The law NormParts: its walk. -/
import Derived.Test.YtfkaagndlpcfdaaRf
import Derived.Test.YtfkaagndlpcfdaaQPd
import Derived.Test.YtfkaagndlpcfdaaCh
namespace Go.Proofs.Ytfkaagndlpcfdaa
open Go.ChangeShapes Go.WideShapes Go.ChangeAt Go.RowKit

/-- Of a pattern's nodes: their kinds, and that what they name stands ahead of them. -/
theorem node_bounds {T : Int} (hT : T ≤ 12) {ns : List Q.Nd} (hc : Q.chkB ns T = true) (h24 : ns.length ≤ 24) {k : Nat} (hk : k < ns.length) :
    1 ≤ ns[k].kind ∧ ns[k].kind ≤ 6 ∧ (4 ≤ ns[k].kind → 0 ≤ ns[k].a ∧ ns[k].a < 24) ∧ (4 ≤ ns[k].kind → ¬ ns[k].kind = 6 → 0 ≤ ns[k].b ∧ ns[k].b < 24) := by
  obtain ⟨es, fl, _, hl, hf, S, _⟩ := norm_fine hT hc h24 k (by omega)
  obtain ⟨fl', hs, _⟩ := chk_stepT hc hk hf
  rcases step_kindsT hs with ⟨h12, _⟩ | ⟨h3, _⟩ | ⟨h45, F, p, q, hF, hp, hq, _⟩ | ⟨h6, F, p, hF, hp, _⟩
  · refine ⟨by omega, by omega, fun h => by omega, fun h => by omega⟩
  · refine ⟨by omega, by omega, fun h => by omega, fun h => by omega⟩
  · rw [hF] at S
    obtain ⟨u, wa, wb, i, j, _, _, hi, hil, _, hj, hjl, _⟩ := two_parts S
    rw [hp, hq, hi, hj]
    refine ⟨by omega, by omega, fun _ => by omega, fun _ _ => by omega⟩
  · rw [hF] at S
    obtain ⟨u, wa, i, _, _, hi, hil, _⟩ := one_part S
    rw [hp, hi]
    refine ⟨by omega, by omega, fun _ => by omega, fun _ h => absurd h6 h⟩
theorem union_rise {u v : Nat} {s t : List Lin} (h : Good u s) (g : Good v t) : rightS (unionS s t) = true := rightS_iff.2 (good_sum h g).rise
theorem cat_rise {u v : Nat} {s t : List Lin} (h : Good u s) (g : Good v t) (huv : u + v ≤ 1000) : rightS (catS s t) = true := rightS_iff.2 (good_cat h g huv).2.rise
/-- What a pattern comes to is no greater than its nodes let it be. -/
theorem norm_small {T : Int} (h0 : 0 ≤ T) (hT : T ≤ 12) {ns : List Q.Nd} (hc : Q.chkB ns T = true) : ∃ x, normM (none : Mr) ns T = (x, 0, none) ∧ Good ns.length x := by
  obtain ⟨h1, h24, b, hl⟩ := chk_one hc
  obtain ⟨es, fl, e1, e2, e3, S, _⟩ := norm_fine hT hc h24 ns.length (Nat.le_refl _)
  rw [List.take_length] at e1 e3
  rw [hl] at e3
  injection e3 with e3
  subst e3
  obtain ⟨u, v, huv, ⟨j, hj, hjl, g⟩, _⟩ := S
  obtain rfl : j = ns.length - 1 := by dsimp only at hj; omega
  exact ⟨_, normM_ok ⟨h0, hT, hc⟩ e1, g.more (by omega)⟩
theorem good_lin {u : Nat} {s : List Lin} (h : Good u s) (t : Nat) : (linAt s t).ps.length ≤ 2 ^ u := by
  unfold linAt
  rw [List.getD_eq_getElem?_getD]
  by_cases ht : t < s.length
  · rw [List.getElem?_eq_getElem ht]; exact (h.each _ (List.getElem_mem ht)).few
  · rw [List.getElem?_eq_none (by omega)]; exact Nat.zero_le _
/-- What two sets of patterns come to stays within bounds. -/
theorem good_len {u v : Nat} {s t : List Lin} (h : Good u s) (g : Good v t) (huv : u + v ≤ 23) : s.length + t.length ≤ 100000000000 ∧ (∀ k, (linAt (s ++ t) k).ps.length ≤ 100000000000) ∧ s.length * t.length ≤ 100000000000 ∧ ∀ i j, (linAt s i).ps.length + (linAt t j).ps.length ≤ 100000000000 := by
  have h1 := h.few
  have g1 := g.few
  have pu := pow_mono (show u ≤ 23 by omega)
  have pv := pow_mono (show v ≤ 23 by omega)
  have puv := pow_mono huv
  have e : (2 : Nat) ^ 23 = 8388608 := by decide
  refine ⟨by omega, fun k => ?_, Nat.le_trans (Nat.mul_le_mul h1 g1) (by rw [← Nat.pow_add]; omega), fun i j => ?_⟩
  · unfold linAt
    rw [List.getD_eq_getElem?_getD]
    by_cases hk : k < (s ++ t).length
    · rw [List.getElem?_eq_getElem hk]
      rcases List.mem_append.1 (List.getElem_mem hk) with hm | hm
      · have := (h.each _ hm).few
        simp only [Option.getD_some]
        omega
      · have := (g.each _ hm).few
        simp only [Option.getD_some]
        omega
    · rw [List.getElem?_eq_none (by omega)]; exact Nat.zero_le _
  · have := good_lin h i
    have := good_lin g j
    omega

set_option maxRecDepth 100000 in
set_option maxHeartbeats 16000000 in
theorem parts_walk8 (a0 : Option Addr) (l0 c0 : Nat) (z0 : List Int) (a1 : Option Addr) (l1 c1 : Nat) (z1 : List Int) (n2 : Int) (w : World) (HK0 : Hid (Came w a0 l0 c0 z0)) (HK1 : Hid (Came w a1 l1 c1 z1)) (hn2 : -9223372036854775808 ≤ n2 ∧ n2 ≤ 9223372036854775807) :
    Calls Try.prog 3 #[.slice a0 l0 c0, .slice a1 l1 c1, .int .i64 n2] w (True_ w) := by
  go_enter Try.func3, Try.ntmps3
  have HB := Lib.hid (Below.refl w.heap.size w)
  have Z := cut8i a0 l0 c0 z0 w HK0.out.1 HK0.out.2.1 HK0.out.2.2.1 HK0.out.2.2.2.1 (Lib.hid HK0.out.2.2.2.2)
  have HZ := Lib.hid Z
  clear Z
  go_wp2_with (fail)
  refine HZ.out.mono ?_
  rintro e W0a ⟨a2, c2, rfl, B2, f2, b0a⟩
  have hxl : (z0.take (min l0 8)).length ≤ 8 := by rw [List.length_take]; omega
  have HR2 : Hid (∀ k, k < (z0.take (min l0 8)).length → RowAt W0a a2 (z0.take (min l0 8)) k) := Lib.hid (fun k hk => by
    obtain ⟨g, e, hc⟩ := B2.at hk
    have hk2 : k < l0 := by rw [List.length_take] at hk; omega
    obtain ⟨b, off, _, _, _, h1, h2⟩ := HK0.out.2.2.2.2 k hk2
    have e2 : (z0.take (min l0 8)).getD k 0 = z0.getD k 0 := by
      rw [List.length_take] at hk
      rw [List.getD_eq_getElem?_getD, List.getD_eq_getElem?_getD, List.getElem?_take, if_pos (by omega)]
    refine ⟨g, 0, e, by rw [Nat.zero_add]; exact hc, B2.lt e, ?_, ?_⟩ <;> rw [e2] <;> assumption)
  have hb2 := B2.le
  have HK1 := Lib.hid (HK1.out.below b0a)
  have HB := Lib.hid (HB.out.trans (b0a.mono HB.out.size))
  clear B2 f2 b0a HZ HK0
  generalize z0.take (min l0 8) = xs at HR2 hxl hb2 ⊢
  have Z := Q.pattern_any a2 xs.length c2 xs W0a (by omega) HR2
  generalize xs.length = xl at Z hxl hb2 ⊢
  have HZ := Lib.hid Z
  clear Z HR2 hxl
  go_wp2_with (fail)
  refine HZ.out.mono ?_
  rintro e W0b ⟨p0, d0, n0s, rfl, P0, hc, h1, h24, _, _, b0b⟩
  obtain ⟨g0, rfl, _⟩ := nds_some P0 h1
  have hle0 := P0.le
  have HP0 := Lib.hid P0
  have HC0 := Lib.hid hc
  have HK1 := Lib.hid (HK1.out.below b0b)
  have HB := Lib.hid (HB.out.trans (b0b.mono HB.out.size))
  obtain ⟨x0, hx, hg⟩ := norm_small (T := 4) (by omega) (by omega) hc
  have HX0 := Lib.hid hx
  generalize hn0 : n0s.length = n0 at hle0 h1 h24 hg ⊢
  have HG0 := Lib.hid hg
  have HN0 := Lib.hid hn0
  have h10 := h1
  have h240 := h24
  generalize hl0 : x0.length = L0
  have HL0 := Lib.hid hl0
  clear hx hg hc P0 b0b HZ hn0 hl0 h1 h24 hb2
  have Z := cut8i a1 l1 c1 z1 W0b HK1.out.1 HK1.out.2.1 HK1.out.2.2.1 HK1.out.2.2.2.1 (Lib.hid HK1.out.2.2.2.2)
  have HZ := Lib.hid Z
  clear Z
  go_wp2_with (fail)
  refine HZ.out.mono ?_
  rintro e W1a ⟨a2, c2, rfl, B2, f2, b1a⟩
  have hxl : (z1.take (min l1 8)).length ≤ 8 := by rw [List.length_take]; omega
  have HR2 : Hid (∀ k, k < (z1.take (min l1 8)).length → RowAt W1a a2 (z1.take (min l1 8)) k) := Lib.hid (fun k hk => by
    obtain ⟨g, e, hc⟩ := B2.at hk
    have hk2 : k < l1 := by rw [List.length_take] at hk; omega
    obtain ⟨b, off, _, _, _, h1, h2⟩ := HK1.out.2.2.2.2 k hk2
    have e2 : (z1.take (min l1 8)).getD k 0 = z1.getD k 0 := by
      rw [List.length_take] at hk
      rw [List.getD_eq_getElem?_getD, List.getD_eq_getElem?_getD, List.getElem?_take, if_pos (by omega)]
    refine ⟨g, 0, e, by rw [Nat.zero_add]; exact hc, B2.lt e, ?_, ?_⟩ <;> rw [e2] <;> assumption)
  have hb2 := B2.le
  have HP0 := Lib.hid (HP0.out.below b1a)
  have HB := Lib.hid (HB.out.trans (b1a.mono HB.out.size))
  clear B2 f2 b1a HZ HK1
  generalize z1.take (min l1 8) = xs at HR2 hxl hb2 ⊢
  have Z := Q.pattern_any a2 xs.length c2 xs W1a (by omega) HR2
  generalize xs.length = xl at Z hxl hb2 ⊢
  have HZ := Lib.hid Z
  clear Z HR2 hxl
  go_wp2_with (fail)
  refine HZ.out.mono ?_
  rintro e W1b ⟨p1, d1, n1s, rfl, P1, hc, h1, h24, _, _, b1b⟩
  obtain ⟨g1, rfl, _⟩ := nds_some P1 h1
  have hle1 := P1.le
  have HP1 := Lib.hid P1
  have HC1 := Lib.hid hc
  have HP0 := Lib.hid (HP0.out.below b1b)
  have HB := Lib.hid (HB.out.trans (b1b.mono HB.out.size))
  obtain ⟨x1, hx, hg⟩ := norm_small (T := 4) (by omega) (by omega) hc
  have HX1 := Lib.hid hx
  generalize hn1 : n1s.length = n1 at hle1 h1 h24 hg ⊢
  have HG1 := Lib.hid hg
  have HN1 := Lib.hid hn1
  have h11 := h1
  have h241 := h24
  generalize hl1 : x1.length = L1
  have HL1 := Lib.hid hl1
  clear hx hg hc P1 b1b HZ hn1 hl1 h1 h24 hb2
  have HZ := Lib.hid (ofN HX0.out HN0.out HL0.out (by omega) W1b _ _ HP0.out)
  go_wp2_with (fail)
  refine HZ.out.mono ?_
  rintro e W2 ⟨A0, C0, rfl, Ls, b⟩
  have hls0 := Ls.le
  rw [HL0.out] at hls0
  have HS0 := Lib.hid Ls
  have HP0 := Lib.hid (HP0.out.below b)
  have HP1 := Lib.hid (HP1.out.below b)
  have HB := Lib.hid (HB.out.trans (b.mono HB.out.size))
  clear Ls b HZ
  have HZ := Lib.hid (ofN HX1.out HN1.out HL1.out (by omega) W2 _ _ HP1.out)
  go_wp2_with (fail)
  refine HZ.out.mono ?_
  rintro e W3 ⟨A1, C1, rfl, Ls, b⟩
  have hls1 := Ls.le
  rw [HL1.out] at hls1
  have HS1 := Lib.hid Ls
  have HP0 := Lib.hid (HP0.out.below b)
  have HP1 := Lib.hid (HP1.out.below b)
  have HS0 := Lib.hid (HS0.out.below b)
  have HB := Lib.hid (HB.out.trans (b.mono HB.out.size))
  clear Ls b HZ
  by_cases hfar : 24 < n0 + n1 + 1
  · have hf : (24 : Int) < (n0 : Int) + (n1 : Int) + 1 := by omega
    go_wp2_with (fail)
    refine (wakes10 W3).mono ?_
    rintro e V1 ⟨rfl, b⟩
    have HB := Lib.hid (HB.out.trans (b.mono HB.out.size))
    clear b
    go_wp2
    go_ret
    exact ⟨rfl, HB.out⟩
  · have hf : ¬ (24 : Int) < (n0 : Int) + (n1 : Int) + 1 := by omega
    have hfar2 : n0 + n1 + 1 ≤ 24 := by omega
    have HF := Lib.hid (both_fine (T := 4) (by omega) (by omega) HC0.out HC1.out (by rw [HN0.out, HN1.out]; exact hfar2))
    have HZ := Lib.hid (copyN g0 d0 n0s W3 HP0.out HN0.out (by omega))
    go_wp2_with (fail)
    refine HZ.out.mono ?_
    rintro e W4 ⟨ba, bc, rfl, R4, f4, b4⟩
    have hle4 := R4.le
    rw [HN0.out] at hle4
    have HR : Hid (Q.Nds W4 ba bc (n0s ++ (n1s.take 0).map (shN n0))) := Lib.hid (by simpa using R4)
    have HFR : Hid (From W3.heap.size ba) := Lib.hid f4
    have HB4 : Hid (Below W3.heap.size W3 W4) := Lib.hid b4
    have HW3 : Hid (w.heap.size ≤ W3.heap.size) := Lib.hid HB.out.size
    clear R4 f4 b4 HZ HP0
    go_wp2
    go_loopw [13, 63] (fun l i wr => ∃ (k : Nat) (ba : Option Addr) (bc : Nat), k ≤ n1 ∧ i = .int .i64 k ∧ l = .slice ba (n0 + k) bc ∧ Hid (Q.Nds wr ba bc (n0s ++ (n1s.take k).map (shN n0))) ∧ Hid (From W3.heap.size ba) ∧ Hid (Below W3.heap.size W3 wr)) (fun _ i _ => n1 - (intOf i).toNat)
    case atStart => exact ⟨0, ba, bc, Nat.zero_le _, rfl, rfl, HR, HFR, HB4⟩
    case round =>
      obtain ⟨k, ba, bc, hk, rfl, rfl, HR, HFR, HB4⟩ := hrel
      have hrl := HR.out.le
      have hnl : (n0s ++ (n1s.take k).map (shN n0)).length = n0 + k := by rw [List.length_append, List.length_map, List.length_take, HN0.out, HN1.out]; omega
      rw [hnl] at hrl
      have HNL := Lib.hid hnl
      clear hnl
      by_cases hlt : k < n1
      · have hk' : k < n1s.length := by rw [HN1.out]; exact hlt
        obtain ⟨g, e, X⟩ := (HP1.out.below HB4.out).there hk'
        injection e with e; injection e with e; subst e
        have x0 := X.c0
        have x1 := X.c1
        have x2 := X.c2
        have x3 := X.c3
        have x4 := X.c4
        have hbd := node_bounds (T := 4) (by omega) HC1.out (by rw [HN1.out]; omega) hk'
        have hnx : n0s ++ (n1s.take (k + 1)).map (shN n0) = (n0s ++ (n1s.take k).map (shN n0)) ++ [shN n0 n1s[k]] := by
          rw [List.take_succ_eq_append_getElem hk', List.map_append, List.append_assoc]; rfl
        clear X
        generalize n1s[k] = y at x0 x1 x2 x3 x4 hbd hnx
        obtain ⟨kd, na, nb, nn, nm⟩ := y
        dsimp only at x0 x1 x2 x3 x4 hbd
        obtain ⟨hk1, hk6, hna, hnb⟩ := hbd
        have HNX := Lib.hid hnx
        have bb := below_alloc wr (.cells #[.int .i64 kd, .int .i64 na, .int .i64 nb, .int .i64 nn, .string nm] 35)
        have HRW := Lib.hid (HR.out.below bb)
        have HBW := Lib.hid (HB4.out.trans (bb.mono HB4.out.size))
        have HL := Lib.hid (Lies.new wr 35 [.int .i64 kd, .int .i64 na, .int .i64 nb, .int .i64 nn, .string nm])
        have hgb : W3.heap.size ≤ wr.heap.size := HB4.out.size
        have HAP : Hid (∀ g, ba = some ⟨g, 0, none⟩ → g ≠ wr.heap.size) := Lib.hid (fun g e e2 => by have := HR.out.lt e; omega)
        clear bb hk' hnx
        go_upto_region 10 with (fail)
        clear x0 x1 x2 x3 x4 HR HB4
        generalize wr.alloc (.cells #[.int .i64 kd, .int .i64 na, .int .i64 nb, .int .i64 nn, .string nm] 35) = W at HRW HBW HL ⊢
        generalize wr.heap.size = gb at HL hgb HAP ⊢
        have y0 : W.cell? ⟨gb, 0, none⟩ = some (.int .i64 kd) := HL.out.cell 0
        have y1 : W.cell? ⟨gb, 1, none⟩ = some (.int .i64 na) := HL.out.cell 1
        have y2 : W.cell? ⟨gb, 2, none⟩ = some (.int .i64 nb) := HL.out.cell 2
        have f1 := HL.out.frozen 1
        have f2 := HL.out.frozen 2
        by_cases h4 : 4 ≤ kd
        · by_cases h6 : kd = 6
          · have HL3 := HL
            have HR3 := HRW
            have HB3 := HBW
            subst h6
            have hA := hna h4
            have hw1 : IntKind.i64.wrap (na + (n0 : Int)) = na + (n0 : Int) := IntWalk.i64_in _ (by omega)
            have HL3 : Hid (Lies (W.setCell ⟨gb, 1, none⟩ (.int .i64 (na + (n0 : Int)))) gb 35 [.int .i64 6, .int .i64 (na + (n0 : Int)), .int .i64 nb, .int .i64 nn, .string nm]) := Lib.hid ((HL3.out.set 1 (.int .i64 (na + (n0 : Int)))).to rfl)
            have HR3 : Hid (Q.Nds (W.setCell ⟨gb, 1, none⟩ (.int .i64 (na + (n0 : Int)))) ba bc (n0s ++ (n1s.take k).map (shN n0))) := Lib.hid (HR3.out.kept (X := fun i => i = gb) ((Kept.refl (fun i => i = gb) _).setCell (p := ⟨gb, 1, none⟩) (fun _ => rfl) _) (fun g e e2 => HAP.out g e e2))
            have HB3 : Hid (Below W3.heap.size W3 (W.setCell ⟨gb, 1, none⟩ (.int .i64 (na + (n0 : Int))))) := Lib.hid (HB3.out.setCell (p := ⟨gb, 1, none⟩) hgb _)
            go_upto_region 14 with (fail)
            clear y0 y1 y2 f1 f2
            generalize W.setCell ⟨gb, 1, none⟩ (.int .i64 (na + (n0 : Int))) = V at HL3 HR3 HB3 ⊢
            have n0' := HL3.out.cell 0
            have n1' := HL3.out.cell 1
            have n2' := HL3.out.cell 2
            have n3' := HL3.out.cell 3
            have n4' := HL3.out.cell 4
            simp only [List.getElem?_cons_zero, List.getElem?_cons_succ] at n0' n1' n2' n3' n4'
            have bx := below_alloc V (.cells #[.int .i64 6, .int .i64 (na + (n0 : Int)), .int .i64 nb, .int .i64 nn, .string nm] 35)
            have S4 := nds_new (ns := [⟨6, na + (n0 : Int), nb, nn, nm⟩]) (n := 1) (Lies.new V 35 [.int .i64 6, .int .i64 (na + (n0 : Int)), .int .i64 nb, .int .i64 nn, .string nm]) rfl (by omega)
            obtain ⟨a', c', V', hr, R5, k5, f5⟩ := run_appNs 23 23 Try.underlying23 ba bc (n0s ++ (n1s.take k).map (shN n0)) V.heap.size 1 [⟨6, na + (n0 : Int), nb, nn, nm⟩] _ (HR3.out.below bx) S4 (n := n0 + k) (m := 1) HNL.out rfl (by omega)
            have e5 : (n0s ++ (n1s.take k).map (shN n0)) ++ [⟨6, na + (n0 : Int), nb, nn, nm⟩] = n0s ++ (n1s.take (k + 1)).map (shN n0) := by
              rw [HNX.out, shN_star rfl]
            rw [e5] at R5
            have HR5 := Lib.hid R5
            have HB5 : Hid (Below W3.heap.size W3 V') := Lib.hid ((HB3.out.trans (bx.mono HB3.out.size)).trans (k5.below (fun g e => HFR.out g e) (Nat.le_trans HB3.out.size bx.size)))
            have hs3 : W3.heap.size ≤ V.heap.size := HB3.out.size
            have HF5 : Hid (From W3.heap.size a') := Lib.hid (fun g e => by
              rcases f5 g e with h | h
              · exact HFR.out g h
              · have := bx.size
                omega)
            have HHR := Lib.hid hr
            clear R5 k5 f5 bx S4 e5 hr
            go_wp2_with (at_builtin; refine Lib.wpList_append_run _ rfl _ _ _ _ rfl _ _ rfl rfl _ _ HHR.out ?_)
            go_roundw
            case rel => exact ⟨k + 1, a', c', by omega, by go_num, rfl, HR5, HF5, HB5⟩
            case measure => simp [intOf]; omega
          · have HL3 := HL
            have HR3 := HRW
            have HB3 := HBW
            have hA := hna h4
            have hBn := hnb h4 h6
            have hw1 : IntKind.i64.wrap (na + (n0 : Int)) = na + (n0 : Int) := IntWalk.i64_in _ (by omega)
            have hw2 : IntKind.i64.wrap (nb + (n0 : Int)) = nb + (n0 : Int) := IntWalk.i64_in _ (by omega)
            have hne6 : (kd != 6) = true := by simp [h6]
            have HL3 : Hid (Lies (W.setCell ⟨gb, 1, none⟩ (.int .i64 (na + (n0 : Int)))) gb 35 [.int .i64 kd, .int .i64 (na + (n0 : Int)), .int .i64 nb, .int .i64 nn, .string nm]) := Lib.hid ((HL3.out.set 1 (.int .i64 (na + (n0 : Int)))).to rfl)
            have HR3 : Hid (Q.Nds (W.setCell ⟨gb, 1, none⟩ (.int .i64 (na + (n0 : Int)))) ba bc (n0s ++ (n1s.take k).map (shN n0))) := Lib.hid (HR3.out.kept (X := fun i => i = gb) ((Kept.refl (fun i => i = gb) _).setCell (p := ⟨gb, 1, none⟩) (fun _ => rfl) _) (fun g e e2 => HAP.out g e e2))
            have HB3 : Hid (Below W3.heap.size W3 (W.setCell ⟨gb, 1, none⟩ (.int .i64 (na + (n0 : Int))))) := Lib.hid (HB3.out.setCell (p := ⟨gb, 1, none⟩) hgb _)
            go_upto_region 12 with (fail)
            clear y0 y1 y2 f1 f2
            generalize W.setCell ⟨gb, 1, none⟩ (.int .i64 (na + (n0 : Int))) = V at HL3 HR3 HB3 ⊢
            have y0 : V.cell? ⟨gb, 0, none⟩ = some (.int .i64 kd) := HL3.out.cell 0
            have y2 : V.cell? ⟨gb, 2, none⟩ = some (.int .i64 nb) := HL3.out.cell 2
            have f2 := HL3.out.frozen 2
            have HL3 : Hid (Lies (V.setCell ⟨gb, 2, none⟩ (.int .i64 (nb + (n0 : Int)))) gb 35 [.int .i64 kd, .int .i64 (na + (n0 : Int)), .int .i64 (nb + (n0 : Int)), .int .i64 nn, .string nm]) := Lib.hid ((HL3.out.set 2 (.int .i64 (nb + (n0 : Int)))).to rfl)
            have HR3 : Hid (Q.Nds (V.setCell ⟨gb, 2, none⟩ (.int .i64 (nb + (n0 : Int)))) ba bc (n0s ++ (n1s.take k).map (shN n0))) := Lib.hid (HR3.out.kept (X := fun i => i = gb) ((Kept.refl (fun i => i = gb) _).setCell (p := ⟨gb, 2, none⟩) (fun _ => rfl) _) (fun g e e2 => HAP.out g e e2))
            have HB3 : Hid (Below W3.heap.size W3 (V.setCell ⟨gb, 2, none⟩ (.int .i64 (nb + (n0 : Int))))) := Lib.hid (HB3.out.setCell (p := ⟨gb, 2, none⟩) hgb _)
            go_upto_region 14 with (fail)
            clear y0 y2 f2
            generalize V.setCell ⟨gb, 2, none⟩ (.int .i64 (nb + (n0 : Int))) = U at HL3 HR3 HB3 ⊢
            have n0' := HL3.out.cell 0
            have n1' := HL3.out.cell 1
            have n2' := HL3.out.cell 2
            have n3' := HL3.out.cell 3
            have n4' := HL3.out.cell 4
            simp only [List.getElem?_cons_zero, List.getElem?_cons_succ] at n0' n1' n2' n3' n4'
            have bx := below_alloc U (.cells #[.int .i64 kd, .int .i64 (na + (n0 : Int)), .int .i64 (nb + (n0 : Int)), .int .i64 nn, .string nm] 35)
            have S4 := nds_new (ns := [⟨kd, na + (n0 : Int), nb + (n0 : Int), nn, nm⟩]) (n := 1) (Lies.new U 35 [.int .i64 kd, .int .i64 (na + (n0 : Int)), .int .i64 (nb + (n0 : Int)), .int .i64 nn, .string nm]) rfl (by omega)
            obtain ⟨a', c', V', hr, R5, k5, f5⟩ := run_appNs 23 23 Try.underlying23 ba bc (n0s ++ (n1s.take k).map (shN n0)) U.heap.size 1 [⟨kd, na + (n0 : Int), nb + (n0 : Int), nn, nm⟩] _ (HR3.out.below bx) S4 (n := n0 + k) (m := 1) HNL.out rfl (by omega)
            have e5 : (n0s ++ (n1s.take k).map (shN n0)) ++ [⟨kd, na + (n0 : Int), nb + (n0 : Int), nn, nm⟩] = n0s ++ (n1s.take (k + 1)).map (shN n0) := by
              rw [HNX.out, shN_two (by show kd = 4 ∨ kd = 5; omega)]
            rw [e5] at R5
            have HR5 := Lib.hid R5
            have HB5 : Hid (Below W3.heap.size W3 V') := Lib.hid ((HB3.out.trans (bx.mono HB3.out.size)).trans (k5.below (fun g e => HFR.out g e) (Nat.le_trans HB3.out.size bx.size)))
            have hs3 : W3.heap.size ≤ U.heap.size := HB3.out.size
            have HF5 : Hid (From W3.heap.size a') := Lib.hid (fun g e => by
              rcases f5 g e with h | h
              · exact HFR.out g h
              · have := bx.size
                omega)
            have HHR := Lib.hid hr
            clear R5 k5 f5 bx S4 e5 hr
            go_wp2_with (at_builtin; refine Lib.wpList_append_run _ rfl _ _ _ _ rfl _ _ rfl rfl _ _ HHR.out ?_)
            go_roundw
            case rel => exact ⟨k + 1, a', c', by omega, by go_num, rfl, HR5, HF5, HB5⟩
            case measure => simp [intOf]; omega
        · have HL3 := HL
          have HR3 := HRW
          have HB3 := HBW
          have h4' : ¬ (4 : Int) ≤ kd := h4
          go_upto_region 14 with (fail)
          clear y0 y1 y2
          have n0' := HL3.out.cell 0
          have n1' := HL3.out.cell 1
          have n2' := HL3.out.cell 2
          have n3' := HL3.out.cell 3
          have n4' := HL3.out.cell 4
          simp only [List.getElem?_cons_zero, List.getElem?_cons_succ] at n0' n1' n2' n3' n4'
          have bx := below_alloc W (.cells #[.int .i64 kd, .int .i64 na, .int .i64 nb, .int .i64 nn, .string nm] 35)
          have S4 := nds_new (ns := [⟨kd, na, nb, nn, nm⟩]) (n := 1) (Lies.new W 35 [.int .i64 kd, .int .i64 na, .int .i64 nb, .int .i64 nn, .string nm]) rfl (by omega)
          obtain ⟨a', c', V', hr, R5, k5, f5⟩ := run_appNs 23 23 Try.underlying23 ba bc (n0s ++ (n1s.take k).map (shN n0)) W.heap.size 1 [⟨kd, na, nb, nn, nm⟩] _ (HR3.out.below bx) S4 (n := n0 + k) (m := 1) HNL.out rfl (by omega)
          have e5 : (n0s ++ (n1s.take k).map (shN n0)) ++ [⟨kd, na, nb, nn, nm⟩] = n0s ++ (n1s.take (k + 1)).map (shN n0) := by
            rw [HNX.out, shN_low (by exact h4)]
          rw [e5] at R5
          have HR5 := Lib.hid R5
          have HB5 : Hid (Below W3.heap.size W3 V') := Lib.hid ((HB3.out.trans (bx.mono HB3.out.size)).trans (k5.below (fun g e => HFR.out g e) (Nat.le_trans HB3.out.size bx.size)))
          have hs3 : W3.heap.size ≤ W.heap.size := HB3.out.size
          have HF5 : Hid (From W3.heap.size a') := Lib.hid (fun g e => by
            rcases f5 g e with h | h
            · exact HFR.out g h
            · have := bx.size
              omega)
          have HHR := Lib.hid hr
          clear R5 k5 f5 bx S4 e5 hr
          go_wp2_with (at_builtin; refine Lib.wpList_append_run _ rfl _ _ _ _ rfl _ _ rfl rfl _ _ HHR.out ?_)
          go_roundw
          case rel => exact ⟨k + 1, a', c', by omega, by go_num, rfl, HR5, HF5, HB5⟩
          case measure => simp [intOf]; omega
      · obtain rfl : k = n1 := by omega
        have htk : n1s.take k = n1s := by rw [← HN1.out]; exact List.take_length
        have HR6 : Hid (Q.Nds wr ba bc (n0s ++ n1s.map (shN n0))) := Lib.hid (by have h := HR.out; rwa [htk] at h)
        have HP1 := Lib.hid (HP1.out.below HB4.out)
        have HS0 := Lib.hid (HS0.out.below HB4.out)
        have HS1 := Lib.hid (HS1.out.below HB4.out)
        have HB := Lib.hid (HB.out.trans (HB4.out.mono HB.out.size))
        have hl6 : (n0s ++ n1s.map (shN n0)).length = n0 + k := by rw [List.length_append, List.length_map, HN0.out, HN1.out]
        have HL6 := Lib.hid hl6
        clear HR HB4 HNL htk hl6 HP1
        obtain ⟨N, rfl⟩ : ∃ N, n0 = N + 1 := ⟨n0 - 1, by omega⟩
        go_wp2_with (fail)
        refine (within_any n2 2 _ (by omega) (by omega) hn2.1 hn2.2).mono ?_
        rintro e _ ⟨r, hr0, hr1, rfl, rfl⟩
        have hw1 : IntKind.i64.wrap ((N : Int) + 1 - 1) = (N : Int) := by rw [Int.add_sub_cancel]; exact IntWalk.i64_in _ (by omega)
        have hw2 : IntKind.i64.wrap ((N : Int) + 1 + (k : Int) - 1) = (N : Int) + (k : Int) := by rw [show (N : Int) + 1 + (k : Int) - 1 = (N : Int) + (k : Int) by omega]; exact IntWalk.i64_in _ (by omega)
        by_cases hr : r = 0
        · obtain rfl : r = 0 := by omega
          have hsum : N + 1 + k ≤ 23 := by omega
          have bx := below_alloc wr (.cells #[.int .i64 4, .int .i64 (N : Int), .int .i64 ((N : Int) + (k : Int)), .int .i64 0, .string Q.emp] 35)
          have S4 := nds_new (ns := [⟨4, (N : Int), (N : Int) + (k : Int), 0, Q.emp⟩]) (n := 1) (Lies.new wr 35 [.int .i64 4, .int .i64 (N : Int), .int .i64 ((N : Int) + (k : Int)), .int .i64 0, .string Q.emp]) rfl (by omega)
          obtain ⟨ua, uc, V', hr, R5, k5, f5⟩ := run_appNs 23 23 Try.underlying23 ba bc (n0s ++ n1s.map (shN (N + 1))) wr.heap.size 1 [⟨4, (N : Int), (N : Int) + (k : Int), 0, Q.emp⟩] _ (HR6.out.below bx) S4 (n := N + 1 + k) (m := 1) HL6.out rfl (by omega)
          have e5 : (n0s ++ n1s.map (shN (N + 1))) ++ [⟨4, (N : Int), (N : Int) + (k : Int), 0, Q.emp⟩] = both 4 n0s n1s := by
            unfold both
            rw [HN0.out, HN1.out]
            have e6 : ((N + 1 - 1 : Nat) : Int) = (N : Int) := by omega
            have e7 : ((N + 1 + k - 1 : Nat) : Int) = (N : Int) + (k : Int) := by omega
            rw [e6, e7]
          rw [e5] at R5
          have hbl : (both 4 n0s n1s).length = N + 1 + k + 1 := by simp [both, HN0.out, HN1.out]; omega
          have HBL := Lib.hid hbl
          have hul := R5.le
          rw [hbl] at hul
          have HR5 := Lib.hid R5
          have hXr : ∀ g, (fun g => ba = some (⟨g, 0, none⟩ : Addr)) g → ∃ T cs, Lies (wr.alloc (.cells #[.int .i64 4, .int .i64 (N : Int), .int .i64 ((N : Int) + (k : Int)), .int .i64 0, .string Q.emp] 35)) g T cs ∧ MT T := fun g e => by
            rcases HR6.out.below bx with ⟨h3, _⟩ | ⟨g3, sp, h3, _, _, _, l3⟩
            · rw [h3] at e; cases e
            · rw [h3] at e; injection e with e; injection e with e; subst e
              exact ⟨_, _, l3, by unfold MT; decide⟩
          have HS0 := Lib.hid ((HS0.out.below bx).keptOf k5 hXr)
          have HS1 := Lib.hid ((HS1.out.below bx).keptOf k5 hXr)
          have HB := Lib.hid ((HB.out.trans (bx.mono HB.out.size)).trans (k5.below (fun g e => Nat.le_trans HW3.out (HFR.out g e)) (Nat.le_trans HB.out.size bx.size)))
          have HHR := Lib.hid hr
          clear R5 k5 f5 bx S4 e5 hr hXr hbl HR6
          go_wp2_with (at_builtin; refine Lib.wpList_append_run _ rfl _ _ _ _ rfl _ _ rfl rfl _ _ HHR.out ?_)
          have hbf := HF.out.1
          rw [HX0.out, HX1.out] at hbf
          dsimp only at hbf
          have hgu := HF.out.2.2
          rw [HX0.out, HX1.out] at hgu
          dsimp only at hgu
          have hok := hgu.1
          clear hgu
          have hru := union_rise HG0.out HG1.out
          generalize hun : unionS x0 x1 = un at hbf hru
          generalize hll : un.length = LL
          have HLL := Lib.hid hll
          have HUN := Lib.hid hun
          have HRU := Lib.hid hru
          have HOK := Lib.hid hok
          have HZ := Lib.hid (ofN hbf HBL.out HLL.out (by omega) V' _ _ HR5.out)
          clear hbf hru hun hll hok
          go_wp2_with (fail)
          refine HZ.out.mono ?_
          rintro e V1 ⟨Au, Cu, rfl, Lu, b1⟩
          have hlu := Lu.le
          rw [HLL.out] at hlu
          have HSU := Lib.hid Lu
          have HS0 := Lib.hid (HS0.out.below b1)
          have HS1 := Lib.hid (HS1.out.below b1)
          have HB := Lib.hid (HB.out.trans (b1.mono HB.out.size))
          clear Lu b1 HZ HR5
          have Z := union14 A0 A1 C0 C1 x0 x1 V1 HS0.out HS1.out (good_len HG0.out HG1.out hsum).1 (good_len HG0.out HG1.out hsum).2.1
          rw [HL0.out, HL1.out] at Z
          rw [HUN.out] at Z
          have HZ := Lib.hid Z
          clear Z
          go_wp2_with (fail)
          refine HZ.out.mono ?_
          rintro e V2 ⟨Aw, Cw, lw, hlw, rfl, AW⟩
          have LW : Lins V2 Aw Cw un := ⟨lw, hlw, AW.row⟩
          rw [HLL.out]
          have hlw2 := LW.le
          rw [HLL.out] at hlw2
          have HSW := Lib.hid LW
          have HSU := Lib.hid (HSU.out.below AW.bel)
          have HB := Lib.hid (HB.out.trans (AW.bel.mono HB.out.size))
          clear AW hlw LW HZ
          have HZ := Lib.hid (sameP (s := un) (t := un) HLL.out HLL.out rfl V2 Au Aw Cu Cw HSU.out HSW.out)
          go_wp2_with (fail)
          refine HZ.out.mono ?_
          rintro e V4 ⟨rfl, b4⟩
          have HSU := Lib.hid (HSU.out.below b4)
          have HB := Lib.hid (HB.out.trans (b4.mono HB.out.size))
          clear b4 HZ
          have Z := right11 Au Cu un V4 HSU.out
          rw [HRU.out, HLL.out] at Z
          have HZ := Lib.hid Z
          clear Z
          go_wp2_with (fail)
          refine HZ.out.mono ?_
          rintro e V5 ⟨rfl, b5⟩
          have HB := Lib.hid (HB.out.trans (b5.mono HB.out.size))
          clear b5 HZ
          go_wp2_with (fail)
          refine (wakes10 V5).mono ?_
          rintro e V6 ⟨rfl, b6⟩
          have HB := Lib.hid (HB.out.trans (b6.mono HB.out.size))
          clear b6
          go_wp2
          go_ret
          exact ⟨rfl, HB.out⟩
        · obtain rfl : r = 1 := by omega
          have hsum : N + 1 + k ≤ 23 := by omega
          have bx := below_alloc wr (.cells #[.int .i64 5, .int .i64 (N : Int), .int .i64 ((N : Int) + (k : Int)), .int .i64 0, .string Q.emp] 35)
          have S4 := nds_new (ns := [⟨5, (N : Int), (N : Int) + (k : Int), 0, Q.emp⟩]) (n := 1) (Lies.new wr 35 [.int .i64 5, .int .i64 (N : Int), .int .i64 ((N : Int) + (k : Int)), .int .i64 0, .string Q.emp]) rfl (by omega)
          obtain ⟨ua, uc, V', hr, R5, k5, f5⟩ := run_appNs 23 23 Try.underlying23 ba bc (n0s ++ n1s.map (shN (N + 1))) wr.heap.size 1 [⟨5, (N : Int), (N : Int) + (k : Int), 0, Q.emp⟩] _ (HR6.out.below bx) S4 (n := N + 1 + k) (m := 1) HL6.out rfl (by omega)
          have e5 : (n0s ++ n1s.map (shN (N + 1))) ++ [⟨5, (N : Int), (N : Int) + (k : Int), 0, Q.emp⟩] = both 5 n0s n1s := by
            unfold both
            rw [HN0.out, HN1.out]
            have e6 : ((N + 1 - 1 : Nat) : Int) = (N : Int) := by omega
            have e7 : ((N + 1 + k - 1 : Nat) : Int) = (N : Int) + (k : Int) := by omega
            rw [e6, e7]
          rw [e5] at R5
          have hbl : (both 5 n0s n1s).length = N + 1 + k + 1 := by simp [both, HN0.out, HN1.out]; omega
          have HBL := Lib.hid hbl
          have hul := R5.le
          rw [hbl] at hul
          have HR5 := Lib.hid R5
          have hXr : ∀ g, (fun g => ba = some (⟨g, 0, none⟩ : Addr)) g → ∃ T cs, Lies (wr.alloc (.cells #[.int .i64 5, .int .i64 (N : Int), .int .i64 ((N : Int) + (k : Int)), .int .i64 0, .string Q.emp] 35)) g T cs ∧ MT T := fun g e => by
            rcases HR6.out.below bx with ⟨h3, _⟩ | ⟨g3, sp, h3, _, _, _, l3⟩
            · rw [h3] at e; cases e
            · rw [h3] at e; injection e with e; injection e with e; subst e
              exact ⟨_, _, l3, by unfold MT; decide⟩
          have HS0 := Lib.hid ((HS0.out.below bx).keptOf k5 hXr)
          have HS1 := Lib.hid ((HS1.out.below bx).keptOf k5 hXr)
          have HB := Lib.hid ((HB.out.trans (bx.mono HB.out.size)).trans (k5.below (fun g e => Nat.le_trans HW3.out (HFR.out g e)) (Nat.le_trans HB.out.size bx.size)))
          have HHR := Lib.hid hr
          clear R5 k5 f5 bx S4 e5 hr hXr hbl HR6
          go_wp2_with (at_builtin; refine Lib.wpList_append_run _ rfl _ _ _ _ rfl _ _ rfl rfl _ _ HHR.out ?_)
          have hbf := HF.out.2.1
          rw [HX0.out, HX1.out] at hbf
          dsimp only at hbf
          have hgu := HF.out.2.2
          rw [HX0.out, HX1.out] at hgu
          dsimp only at hgu
          have hok := hgu.1
          clear hgu
          have hru := cat_rise HG0.out HG1.out (by omega)
          generalize hun : catS x0 x1 = un at hbf hru
          generalize hll : un.length = LL
          have HLL := Lib.hid hll
          have HUN := Lib.hid hun
          have HRU := Lib.hid hru
          have HOK := Lib.hid hok
          have HZ := Lib.hid (ofN hbf HBL.out HLL.out (by omega) V' _ _ HR5.out)
          clear hbf hru hun hll hok
          go_wp2_with (fail)
          refine HZ.out.mono ?_
          rintro e V1 ⟨Au, Cu, rfl, Lu, b1⟩
          have hlu := Lu.le
          rw [HLL.out] at hlu
          have HSU := Lib.hid Lu
          have HS0 := Lib.hid (HS0.out.below b1)
          have HS1 := Lib.hid (HS1.out.below b1)
          have HB := Lib.hid (HB.out.trans (b1.mono HB.out.size))
          clear Lu b1 HZ HR5
          have Z := union14 A0 A1 C0 C1 x0 x1 V1 HS0.out HS1.out (good_len HG0.out HG1.out hsum).1 (good_len HG0.out HG1.out hsum).2.1
          rw [HL0.out, HL1.out] at Z
          have HZ := Lib.hid Z
          clear Z
          go_wp2_with (fail)
          refine HZ.out.mono ?_
          rintro e V2 ⟨Aw, Cw, lw, hlw, rfl, AW⟩
          have LW : Lins V2 Aw Cw (unionS x0 x1) := ⟨lw, hlw, AW.row⟩
          have hlw2 := LW.le
          generalize (unionS x0 x1).length = lu2 at hlw2 ⊢
          have HSU := Lib.hid (HSU.out.below AW.bel)
          have HS0 := Lib.hid (HS0.out.below AW.bel)
          have HS1 := Lib.hid (HS1.out.below AW.bel)
          have HB := Lib.hid (HB.out.trans (AW.bel.mono HB.out.size))
          clear AW hlw LW HZ
          have Z := cat22 none A0 A1 C0 C1 (none : Mr) x0 x1 V2 rfl HS0.out HS1.out (good_len HG0.out HG1.out hsum).2.2.1 (good_len HG0.out HG1.out hsum).2.2.2
          rw [catM_free HG0.out.rise HG1.out.rise HOK.out, HL0.out, HL1.out, HUN.out] at Z
          have HZ := Lib.hid Z
          clear Z
          go_wp2_with (fail)
          refine HZ.out.mono ?_
          rintro e V3 ⟨Aw, Cw, lw, hlw, rfl, LW0, _, _, _, k3⟩
          have LW : Lins V3 Aw Cw un := ⟨lw, hlw, LW0⟩
          dsimp only
          rw [HLL.out]
          have hlw2 := LW.le
          rw [HLL.out] at hlw2
          have HSW := Lib.hid LW
          have HSU := Lib.hid (HSU.out.below (mk_below0 k3))
          have HB := Lib.hid (HB.out.trans ((mk_below0 k3).mono HB.out.size))
          clear k3 hlw LW LW0 HZ
          have HZ := Lib.hid (sameP (s := un) (t := un) HLL.out HLL.out rfl V3 Au Aw Cu Cw HSU.out HSW.out)
          go_wp2_with (fail)
          refine HZ.out.mono ?_
          rintro e V4 ⟨rfl, b4⟩
          have HSU := Lib.hid (HSU.out.below b4)
          have HB := Lib.hid (HB.out.trans (b4.mono HB.out.size))
          clear b4 HZ
          have Z := right11 Au Cu un V4 HSU.out
          rw [HRU.out, HLL.out] at Z
          have HZ := Lib.hid Z
          clear Z
          go_wp2_with (fail)
          refine HZ.out.mono ?_
          rintro e V5 ⟨rfl, b5⟩
          have HB := Lib.hid (HB.out.trans (b5.mono HB.out.size))
          clear b5 HZ
          go_wp2_with (fail)
          refine (wakes10 V5).mono ?_
          rintro e V6 ⟨rfl, b6⟩
          have HB := Lib.hid (HB.out.trans (b6.mono HB.out.size))
          clear b6
          go_wp2
          go_ret
          exact ⟨rfl, HB.out⟩
end Go.Proofs.Ytfkaagndlpcfdaa

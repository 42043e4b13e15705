/- The law AutoWalks: letters that came in, cut; its walk. -/
import Derived.Test.YtadnjlhkppcmmaaVy
import Derived.Test.YtadnjlhkppcmmaaTq
namespace Go.Proofs.Ytadnjlhkppcmmaa
open Go.ChangeShapes Go.WideShapes Go.ChangeAt Go.RowKit

/-- Place k of the slice at a holds the number 'zs k', of no sign; it lies in memory that was there. -/
def RowAtU (w : World) (a : Option Addr) (zs : List Int) (k : Nat) : Prop :=
  ∃ b off, a = some ⟨b, off, none⟩ ∧ w.cell? ⟨b, off + k, none⟩ = some (.int .u64 (zs.getD k 0)) ∧ b < w.heap.size ∧ 0 ≤ zs.getD k 0 ∧ zs.getD k 0 ≤ 18446744073709551615
theorem RowAtU.below {w w' : World} {a : Option Addr} {zs : List Int} {k : Nat} (h : RowAtU w a zs k) (b : Below w.heap.size w w') : RowAtU w' a zs k := by
  obtain ⟨bk, off, e, hc, hb, h1, h2⟩ := h
  exact ⟨bk, off, e, (b.cell (p := ⟨bk, off + k, none⟩) hb).trans hc, Nat.lt_of_lt_of_le hb b.size, h1, h2⟩
def CameU (w : World) (a : Option Addr) (len cap : Nat) (zs : List Int) : Prop :=
  len ≤ 9223372036854775807 ∧ (a = none → len = 0 ∧ cap = 0) ∧ len ≤ cap ∧ len ≤ zs.length ∧ ∀ k, k < len → RowAtU w a zs k
theorem CameU.below {w w' : World} {a : Option Addr} {len cap : Nat} {zs : List Int} (h : CameU w a len cap zs) (b : Below w.heap.size w w') : CameU w' a len cap zs :=
  ⟨h.1, h.2.1, h.2.2.1, h.2.2.2.1, fun k hk => (h.2.2.2.2 k hk).below b⟩
theorem rowU_facts {w : World} {a : Option Addr} {len cap : Nat} {zs : List Int}
    (h : (a = none ∧ len = 0 ∧ cap = 0 ∧ zs = []) ∨
      ∃ x, a = some x ∧ len ≤ cap ∧ cap ≤ maxLen ∧ zs.length = cap ∧ (∀ i, i < zs.length → w.cell? (x.add i) = some (.int .u64 (zs.getD i 0))) ∧ ∀ n ∈ zs, (Lit.int .u64 n).wf = true) :
    CameU w a len cap zs := by
  rcases h with ⟨rfl, rfl, rfl, rfl⟩ | ⟨x, rfl, hl, hm, hz, hc, hwf⟩
  · exact ⟨by omega, fun _ => ⟨rfl, rfl⟩, Nat.le_refl _, Nat.le_refl _, fun k hk => by omega⟩
  · unfold maxLen at hm
    refine ⟨by omega, (fun e => nomatch e), hl, by omega, fun k hk => ?_⟩
    obtain ⟨b, off, rfl, hc'⟩ := ints_at hc (by omega)
    have hk' : k < zs.length := by omega
    have hcell := hc' k hk'
    have hw : (Lit.int .u64 (zs.getD k 0)).wf = true := by
      rw [List.getD_eq_getElem?_getD, List.getElem?_eq_getElem hk']
      exact hwf _ (List.getElem_mem hk')
    have hb := bounds_u64 hw
    exact ⟨b, off, rfl, hcell, World.block_lt_of_cell? w _ hcell, hb.1, hb.2⟩
def uintsV (xs : List Int) : List Value := xs.map (fun n => .int .u64 n)
theorem uintsV_len (xs : List Int) : (uintsV xs).length = xs.length := List.length_map ..
theorem uintsV_one (xs : List Int) : ∀ u ∈ uintsV xs, u.oneCell' = true := fun u hu => by
  obtain ⟨n, _, rfl⟩ := List.mem_map.1 hu
  rfl
theorem Try.infoU : (Try.prog.info? 24).map (fun i => (i.zero, i.size, i.bytes)) = some (some (.int .u64 0), 1, 8) := by kernel_rfl
/-- What a call that makes a row of such numbers comes to. -/
def MakesU (xs : List Int) (w : World) (e : Ending) (w' : World) : Prop := ∃ a c, e = .returned (.slice a xs.length c) ∧ Row w' 24 a c (uintsV xs) ∧ Below w.heap.size w w'
theorem copyU_at (ad : Addr) (c : Nat) (xs : List Int) (w : World) (hc : ∀ j u, (uintsV xs)[j]? = some u → w.cell? (ad.add j) = some u) (hb : xs.length ≤ 1000) :
    Calls Try.prog 51 #[.slice (some ad) xs.length c] w (MakesU xs w) := by
  obtain ⟨i, hi, hz, hsz, hby⟩ := info_parts Try.infoU
  obtain ⟨v', w', hr, h2, h3, _, _⟩ := run_append_own_at (P := Try.prog) w w.heap.size 49 49 24 i _ 1 8 Try.underlying49 hi hz hsz hby (by simp [Value.cells]) (by omega) (.slice none 0 0) 0 [] (World.ownsRow_nil w _ 24 1)
      ad xs.length c (uintsV xs) (by rw [uintsV_len]; omega) hc (uintsV_one xs) (by unfold maxLen; omega) (by omega) (Nat.le_refl _)
  rw [List.nil_append] at h2
  obtain ⟨a', c', rfl, r, _⟩ := own_row h2
  rw [uintsV_len] at hr
  have HF : Hid (MakesU xs w (.returned (.slice a' xs.length c')) w') := Lib.hid ⟨a', c', rfl, r, (Below.refl _ _).grown h3 (Nat.le_refl _) (fun k e => by simp [Value.ownBlock] at e)⟩
  clear hc h2 h3 r
  generalize xs.length = n at hr HF ⊢
  go_enter Try.func51, Try.ntmps51
  go_wp2_with (at_builtin; refine Lib.wpList_append_run _ rfl _ _ _ _ rfl _ _ rfl rfl _ _ hr ?_)
  go_ret
  exact HF.out
theorem copyU_nil (w : World) : Calls Try.prog 51 #[.slice none 0 0] w (MakesU [] w) := by
  obtain ⟨i, hi, hz, hsz, hby⟩ := info_parts Try.infoU
  have hr : (Builtin.append_ #[49, 49] 49 #[.slice none 0 0, .slice none 0 0]).run Try.prog w = .ok (.slice none 0 0) w :=
    run_append_owned_none (w := w) w.heap.size 49 49 24 i 1 Try.underlying49 hi _ 0 [] (World.ownsRow_nil w _ 24 1)
  go_enter Try.func51, Try.ntmps51
  go_wp2_with (at_builtin; refine Lib.wpList_append_run _ rfl _ _ _ _ rfl _ _ rfl rfl _ _ hr ?_)
  go_ret
  exact ⟨none, 0, rfl, Row.nil _ _, Below.refl _ _⟩
set_option maxRecDepth 100000 in
theorem cutU12 (a : Option Addr) (len cap : Nat) (zs : List Int) (w : World) (hlen : len ≤ 9223372036854775807) (hn : a = none → len = 0 ∧ cap = 0) (hcap : len ≤ cap) (hz : len ≤ zs.length) (HR : Hid (∀ k, k < len → RowAtU w a zs k)) :
    Calls Try.prog 24 #[.slice a len cap, .int .i64 12] w (MakesU (zs.take (min len 12)) w) := by
  have hlt : (zs.take (min len 12)).length = min len 12 := by rw [List.length_take]; omega
  have HL := Lib.hid hlt
  clear hlt
  by_cases h0 : len = 0
  · subst h0
    have e : zs.take (min 0 12) = [] := by simp
    rw [e]
    clear HL HR e
    cases a with
    | none =>
      obtain rfl := (hn rfl).2
      have C := copyU_nil w
      go_enter Try.func24, Try.ntmps24
      go_wp2_with (fail)
      try rw [show (min (len : Int) 12).toNat = len by omega]
      try rw [show (min (len : Int) 12).toNat = 12 by omega]
      refine C.mono ?_
      rintro e w' ⟨a', c', rfl, r, bel⟩
      go_wp2
      go_ret
      exact ⟨a', c', rfl, r, bel⟩
    | some ad =>
      have C := copyU_at ad cap [] w (by simp [uintsV]) (by simp)
      go_enter Try.func24, Try.ntmps24
      go_wp2_with (fail)
      try rw [show (min (len : Int) 12).toNat = len by omega]
      try rw [show (min (len : Int) 12).toNat = 12 by omega]
      refine C.mono ?_
      rintro e w' ⟨a', c', rfl, r, bel⟩
      go_wp2
      go_ret
      exact ⟨a', c', rfl, r, bel⟩
  · obtain ⟨b, off, rfl, _⟩ := HR.out 0 (by omega)
    have C := copyU_at ⟨b, off, none⟩ cap (zs.take (min len 12)) w (by
      intro j u hj
      have hj' := (List.getElem?_eq_some_iff.1 hj).1
      rw [uintsV_len, HL.out] at hj'
      obtain ⟨b', off', e, hc, _⟩ := HR.out j (by omega)
      injection e with e; injection e with e1 e2; subst e1; subst e2
      rw [Addr.add_lit, hc]
      rw [← hj]
      simp [uintsV, List.getD, show j < zs.length by omega, show j < min len 12 by omega]) (by rw [HL.out]; omega)
    rw [HL.out] at C
    clear HR
    have h1 : min len 12 ≤ cap := by omega
    by_cases h9 : len ≤ 12
    · have e9 : min len 12 = len := by omega
      rw [e9] at C ⊢
      clear e9 HL
      generalize zs.take len = ys at C ⊢
      go_enter Try.func24, Try.ntmps24
      go_wp2_with (fail)
      try rw [show (min (len : Int) 12).toNat = len by omega]
      try rw [show (min (len : Int) 12).toNat = 12 by omega]
      refine C.mono ?_
      rintro e w' ⟨a', c', rfl, r, bel⟩
      go_wp2
      go_ret
      exact ⟨a', c', rfl, r, bel⟩
    · have e9 : min len 12 = 12 := by omega
      rw [e9] at C ⊢
      clear e9 HL
      generalize zs.take 12 = ys at C ⊢
      go_enter Try.func24, Try.ntmps24
      go_wp2_with (fail)
      try rw [show (min (len : Int) 12).toNat = len by omega]
      try rw [show (min (len : Int) 12).toNat = 12 by omega]
      refine C.mono ?_
      rintro e w' ⟨a', c', rfl, r, bel⟩
      go_wp2
      go_ret
      exact ⟨a', c', rfl, r, bel⟩

theorem sameJ {s : List It} {n : Nat} (hn : s.length = n) (V : World) (a b : Option Addr) (c d : Nat) (P : Its V a c s) (Q : Its V b d s) :
    Calls Try.prog 16 #[.slice a n c, .slice b n d] V (TellsB true V) := by
  have Z := sameItems_any a b c d s s V P Q
  rwa [hn, decide_eq_true rfl] at Z
set_option maxRecDepth 100000 in
set_option maxHeartbeats 8000000 in
theorem walks_walk9 (a0 : Option Addr) (l0 c0 : Nat) (z0 : List Int) (a1 : Option Addr) (l1 c1 : Nat) (z1 : List Int) (w : World) (h0 : Hid (Came w a0 l0 c0 z0)) (h1 : Hid (CameU w a1 l1 c1 z1)) :
    Calls Try.prog 4 #[.slice a0 l0 c0, .slice a1 l1 c1] w (True_ w) := by
  have hlen := h0.out.1
  have hcap := h0.out.2.2.1
  have hlen1 := h1.out.1
  have hcap1 := h1.out.2.2.1
  go_enter Try.func4, Try.ntmps4
  have HZ := Lib.hid (semi18w a0 l0 c0 z0 w h0)
  go_wp2_with (fail)
  refine HZ.out.mono ?_
  rintro e W1 ⟨sa, sc, s, rfl, L1, T1, b1⟩
  have HB1 := Lib.hid b1
  have HT := Lib.hid T1
  have HS1 := Lib.hid L1
  have HC1 := Lib.hid (h1.out.below b1)
  have hls := L1.le
  have hfew := T1.few
  generalize hn : s.length = n at hls hfew ⊢
  have HN := Lib.hid hn
  clear L1 T1 b1 HZ hn h0 h1
  have HYL : Hid ((startL s).length = n) := Lib.hid (by rw [startL_thin HT.out, startK_len, HN.out])
  have HZ := Lib.hid (startP HT.out HN.out W1 sa sc HS1.out)
  go_wp2_with (fail)
  refine HZ.out.mono ?_
  rintro e W2 ⟨xa, xc, rfl, X2, b2⟩
  have hlx := X2.le
  rw [HYL.out] at hlx
  have HX2 := Lib.hid X2
  have HS2 := Lib.hid (HS1.out.below b2)
  have HC2 := Lib.hid (HC1.out.below b2)
  have HB2 := Lib.hid (HB1.out.trans (b2.mono HB1.out.size))
  clear X2 b2 HZ HS1 HC1 HB1
  have HZ := Lib.hid (startR HT.out HN.out W2 sa sc HS2.out)
  go_wp2_with (fail)
  refine HZ.out.mono ?_
  rintro e W3 ⟨ya, yc, rfl, Y3, b3⟩
  have hly := Y3.le
  rw [HYL.out] at hly
  have HY3 := Lib.hid Y3
  have HX3 := Lib.hid (HX2.out.below b3)
  have HS3 := Lib.hid (HS2.out.below b3)
  have HC3 := Lib.hid (HC2.out.below b3)
  have HB3 := Lib.hid (HB2.out.trans (b3.mono HB2.out.size))
  clear Y3 b3 HZ HX2 HS2 HC2 HB2
  have Z := cutU12 a1 l1 c1 z1 W3 HC3.out.1 HC3.out.2.1 HC3.out.2.2.1 HC3.out.2.2.2.1 (Lib.hid HC3.out.2.2.2.2)
  have HUL : Hid ((z1.take (min l1 12)).length ≤ 12) := Lib.hid (by rw [List.length_take]; omega)
  have HUB : Hid (∀ k, k < (z1.take (min l1 12)).length → 0 ≤ (z1.take (min l1 12)).getD k 0 ∧ (z1.take (min l1 12)).getD k 0 ≤ 18446744073709551615) := Lib.hid (fun k hk => by
    rw [List.length_take] at hk
    have hz := HC3.out.2.2.2.1
    obtain ⟨_, _, _, _, _, g0, g1⟩ := HC3.out.2.2.2.2 k (by omega)
    have e : (z1.take (min l1 12)).getD k 0 = z1.getD k 0 := by simp [List.getD, show k < min l1 12 by omega]
    rw [e]
    exact ⟨g0, g1⟩)
  generalize z1.take (min l1 12) = us at Z HUL HUB
  have HZ := Lib.hid Z
  clear Z HC3
  go_wp2_with (fail)
  refine HZ.out.mono ?_
  rintro e W4 ⟨ua, uc, rfl, U4, b4⟩
  have hlu := U4.le
  rw [uintsV_len] at hlu
  have hul := HUL.out
  generalize hun : us.length = un at hlu hul HUB ⊢
  have HUN := Lib.hid hun
  have HU4 := Lib.hid U4
  have HY4 := Lib.hid (HY3.out.below b4)
  have HX4 := Lib.hid (HX3.out.below b4)
  have HS4 := Lib.hid (HS3.out.below b4)
  have HB4 := Lib.hid (HB3.out.trans (b4.mono HB3.out.size))
  have HST := Lib.hid (stand_start HT.out)
  clear U4 b4 HZ HY3 HX3 HS3 HB3 HUL hun
  go_wp2
  go_loopw [4, 6, 7, 23] (fun r xv yv i wr => ∃ (k q : Nat) (xa ya : Option Addr) (xc yc : Nat) (X : List It), k ≤ un ∧ r = .bool false ∧ xv = .slice xa q xc ∧ yv = .slice ya q yc ∧ i = .int .i64 k ∧ Hid (X.length = q) ∧ Hid (Stand s X) ∧ Hid (Its wr xa xc X) ∧ Hid (Its wr ya yc X) ∧ Hid (Below W4.heap.size W4 wr)) (fun _ _ _ i _ => un - (intOf i).toNat)
  case atStart => exact ⟨0, n, xa, ya, xc, yc, startL s, Nat.zero_le _, rfl, rfl, rfl, rfl, HYL, HST, HX4, HY4, Lib.hid (Below.refl _ _)⟩
  case round =>
    clear HYL HST HX4 HY4 hlx hly
    obtain ⟨k, q, xa, ya, xc, yc, X, hk, rfl, rfl, rfl, rfl, HXL, HST, HX, HY, HB⟩ := hrel
    have hlx := HX.out.le
    have hly := HY.out.le
    rw [HXL.out] at hlx hly
    have HSW := Lib.hid (HS4.out.below HB.out)
    by_cases hlt : k < un
    · obtain ⟨g, e1, hc⟩ := (HU4.out.below HB.out).there (i := k) (by rw [uintsV_len, HUN.out]; exact hlt)
      subst e1
      have hcv : (uintsV us)[k]'(by rw [uintsV_len, HUN.out]; exact hlt) = .int .u64 (us.getD k 0) := by
        have hk2 : k < us.length := by rw [HUN.out]; exact hlt
        simp [uintsV, List.getD, hk2]
      rw [hcv] at hc
      obtain ⟨u0, u1⟩ := HUB.out k hlt
      generalize us.getD k 0 = v at hc u0 u1
      clear hcv
      obtain ⟨L, hL, g0, g1⟩ := letter15 u0 u1
      have i1 : (0 : Int) ≤ (k : Int) := by omega
      have i2 : (k : Int) < (un : Int) := by omega
      obtain ⟨M0, hM0⟩ : ∃ M : Mr, M = (none : Mr) := ⟨_, rfl⟩
      obtain ⟨y, hy, hsy, _⟩ := stand_next HT.out HST.out L hM0
      have HY0 := Lib.hid hy
      have HSY := Lib.hid hsy
      have HM0 := Lib.hid hM0
      have HCO := Lib.hid (cost_bound HT.out HST.out.1 HST.out.2)
      generalize hyl : y.length = yl
      have HYN := Lib.hid hyl
      clear hy hsy hM0 hyl
      have Z := next14 none sa xa sc xc M0 s X L wr (by rw [HM0.out]; exact rfl) HSW.out HX.out g0 (by omega) HCO.out
      rw [HY0.out, HXL.out, HN.out] at Z
      have HZ := Lib.hid Z
      clear Z
      go_wp2_with (fail)
      try rw [hL]
      refine HZ.out.mono ?_
      rintro e W5 ⟨Aa, Ac, rfl, I5, _, _, k5⟩
      dsimp only at I5 ⊢
      have b5 := mk_none k5
      have hl5 := I5.le
      rw [HYN.out] at hl5
      rw [HYN.out]
      have HA5 := Lib.hid I5
      have HY5 := Lib.hid (HY.out.below b5)
      have HS5 := Lib.hid (HSW.out.below b5)
      have HB5 := Lib.hid (HB.out.trans (b5.mono HB.out.size))
      clear I5 k5 b5 HZ HX HY HSW HB hc
      have Z := rnext_any none sa ya sc yc M0 s X L W5 (by rw [HM0.out]; exact rfl) HS5.out HY5.out HCO.out
      rw [HY0.out, HXL.out, HN.out] at Z
      have HZ := Lib.hid Z
      clear Z
      go_wp2_with (fail)
      try rw [hL]
      refine HZ.out.mono ?_
      rintro e W6 ⟨Ba, Bc, rfl, I6, _, _, k6⟩
      dsimp only at I6 ⊢
      have b6 := mk_none k6
      have hl6 := I6.le
      rw [HYN.out] at hl6
      rw [HYN.out]
      have HBI6 := Lib.hid I6
      have HA6 := Lib.hid (HA5.out.below b6)
      have HS6 := Lib.hid (HS5.out.below b6)
      have HB6 := Lib.hid (HB5.out.trans (b6.mono HB5.out.size))
      clear I6 k6 b6 HZ HA5 HY5 HS5 HB5 HY0 HCO
      have HZ := Lib.hid (sameJ HYN.out W6 Aa Ba Ac Bc HA6.out HBI6.out)
      go_wp2_with (fail)
      refine HZ.out.mono ?_
      rintro e W7 ⟨rfl, b7⟩
      have HA7 := Lib.hid (HA6.out.below b7)
      have HBI7 := Lib.hid (HBI6.out.below b7)
      have HS7 := Lib.hid (HS6.out.below b7)
      have HB7 := Lib.hid (HB6.out.trans (b7.mono HB6.out.size))
      clear b7 HZ HA6 HBI6 HS6 HB6
      have Z := right18 sa Aa sc Ac s y W7 HS7.out HA7.out
      rw [HN.out, HYN.out, right_items HT.out HSY.out.1 HSY.out.2] at Z
      have HZ := Lib.hid Z
      clear Z
      go_wp2_with (fail)
      refine HZ.out.mono ?_
      rintro e W8 ⟨rfl, b8⟩
      have HA8 := Lib.hid (HA7.out.below b8)
      have HBI8 := Lib.hid (HBI7.out.below b8)
      have HB8 := Lib.hid (HB7.out.trans (b8.mono HB7.out.size))
      clear b8 HZ HA7 HBI7 HS7 HB7
      go_wp2
      go_roundw
      case rel => exact ⟨k + 1, yl, Aa, Ba, Ac, Bc, y, hlt, rfl, rfl, rfl, by go_num, HYN, HSY, HA8, HBI8, HB8⟩
      case measure => simp [intOf]; omega
    · go_wp2_with (fail)
      refine (wakes23 wr).mono ?_
      rintro e W5 ⟨rfl, b5⟩
      have HB5 := Lib.hid (HB4.out.trans ((HB.out.trans (b5.mono HB.out.size)).mono HB4.out.size))
      clear b5
      go_wp2
      go_ret
      exact ⟨rfl, HB5.out⟩
end Go.Proofs.Ytadnjlhkppcmmaa

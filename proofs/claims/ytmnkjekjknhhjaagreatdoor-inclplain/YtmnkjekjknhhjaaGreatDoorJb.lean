/- The reference's CompareLin. -/
import Derived.Test.YtmnkjekjknhhjaaGreatDoorCd
import Derived.Test.YtmnkjekjknhhjaaGreatDoorC
import Derived.Deep.RegionHeld3
namespace Go.Proofs.YtmnkjekjknhhjaaGreatDoor
open Go.ChangeShapes Go.WideShapes Go.ChangeAt Go.RowKit
def rgJb0 : Oper := { dst := some 44, op := Op.fieldAddr 53 (Operand.tmp 2) 1, type := 0, pos := "ref.go:271", after := #[], guard := none }
def rgJb1 : Oper := { dst := some 45, op := Op.load 51 (Operand.tmp 44), type := 51, pos := "ref.go:271", after := #[{ on := 0, ground := Ground.data }], guard := none }
def rgJb2 : Oper := { dst := some 46, op := Op.move (Operand.tmp 6), type := 3, pos := "ref.go:271", after := #[], guard := none }
def rgJb3 : Oper := { dst := some 47, op := Op.indexAddr 51 (Operand.tmp 45) (Operand.tmp 46), type := 0, pos := "ref.go:271", after := #[{ on := 1, ground := Ground.data }, { on := 2, ground := Ground.data }], guard := none }
def rgJb4 : Oper := { dst := some 48, op := Op.load 31 (Operand.tmp 47), type := 31, pos := "ref.go:271", after := #[{ on := 3, ground := Ground.data }], guard := none }
def rgJb5 : Oper := { dst := some 49, op := Op.fieldAddr 53 (Operand.tmp 3) 1, type := 0, pos := "ref.go:271", after := #[], guard := none }
def rgJb6 : Oper := { dst := some 50, op := Op.load 51 (Operand.tmp 49), type := 51, pos := "ref.go:271", after := #[{ on := 5, ground := Ground.data }], guard := none }
def rgJb7 : Oper := { dst := some 51, op := Op.move (Operand.tmp 6), type := 3, pos := "ref.go:271", after := #[], guard := none }
def rgJb8 : Oper := { dst := some 52, op := Op.indexAddr 51 (Operand.tmp 50) (Operand.tmp 51), type := 0, pos := "ref.go:271", after := #[{ on := 6, ground := Ground.data }, { on := 7, ground := Ground.data }], guard := none }
def rgJb9 : Oper := { dst := some 53, op := Op.load 31 (Operand.tmp 52), type := 31, pos := "ref.go:271", after := #[{ on := 8, ground := Ground.data }], guard := none }
def rgJb10 : Oper := { dst := some 54, op := Op.call { callee := Callee.value (Operand.func 115), args := #[Operand.tmp 48, Operand.tmp 53], argTypes := #[31, 31] }, type := 3, pos := "ref.go:271", after := #[{ on := 4, ground := Ground.data }, { on := 9, ground := Ground.data }], guard := none }
def rgJb11 : Oper := { dst := some 7, op := Op.assign (Operand.tmp 54), type := 3, pos := "ref.go:271", after := #[{ on := 10, ground := Ground.data }, { on := 10, ground := Ground.chain }, { on := 0, ground := Ground.phase }, { on := 1, ground := Ground.phase }, { on := 2, ground := Ground.phase }, { on := 3, ground := Ground.phase }, { on := 4, ground := Ground.phase }, { on := 5, ground := Ground.phase }, { on := 6, ground := Ground.phase }, { on := 7, ground := Ground.phase }, { on := 8, ground := Ground.phase }, { on := 9, ground := Ground.phase }, { on := 10, ground := Ground.phase }], guard := none }

/-- Two linear sets in boxes gb, gb + 1. -/
structure TwoSt (w : World) (gb : Nat) (a pa a' pa' : Option Addr) (c n pc m c' n' pc' m' : Nat) (x y : Lin) (W : World) : Prop where
  bel : Below w.heap.size w W
  lx : Lies W gb 53 [.slice a n c, .slice pa m pc]
  ly : Lies W (gb + 1) 53 [.slice a' n' c', .slice pa' m' pc']
  bx : Bag W a c x.base
  px : Bags W pa pc x.ps
  bY : Bag W a' c' y.base
  pY : Bags W pa' pc' y.ps
theorem TwoSt.below {w W W' : World} {gb : Nat} {a pa a' pa' : Option Addr} {c n pc m c' n' pc' m' : Nat} {x y : Lin} (h : TwoSt w gb a pa a' pa' c n pc m c' n' pc' m' x y W) (k : Below W.heap.size W W') : TwoSt w gb a pa a' pa' c n pc m c' n' pc' m' x y W' :=
  ⟨h.bel.trans (k.mono h.bel.size), h.lx.below k h.lx.lt, h.ly.below k h.ly.lt, h.bx.below k, h.px.below k, h.bY.below k, h.pY.below k⟩
theorem cmpPs_step {a b : List (List Int)} {k : Nat} (ha : k < a.length) (hb : k < b.length) : cmpPs (a.drop k) (b.drop k) = orI (cmpL (a.getD k []) (b.getD k [])) (cmpPs (a.drop (k + 1)) (b.drop (k + 1))) := by
  have e1 : a.getD k [] = a[k] := by simp [List.getD, ha]
  have e2 : b.getD k [] = b[k] := by simp [List.getD, hb]
  rw [List.drop_eq_getElem_cons ha, List.drop_eq_getElem_cons hb, e1, e2]; rfl

set_option maxRecDepth 100000 in
set_option maxHeartbeats 4000000 in
theorem compareLin_any (a pa a' pa' : Option Addr) (c pc c' pc' : Nat) (x y : Lin) (w : World) (R : Bag w a c x.base) (P : Bags w pa pc x.ps) (R' : Bag w a' c' y.base) (P' : Bags w pa' pc' y.ps) :
    Calls Tryz.prog 80 #[.agg #[.slice a x.base.length c, .slice pa x.ps.length pc], .agg #[.slice a' y.base.length c', .slice pa' y.ps.length pc']] w (Tells (cmpLin x y) w) := by
  have hle := P.le
  have hle' := P'.le
  obtain ⟨n, hn⟩ : ∃ n, n = x.base.length := ⟨_, rfl⟩
  obtain ⟨m, hm⟩ : ∃ m, m = x.ps.length := ⟨_, rfl⟩
  obtain ⟨n', hn'⟩ : ∃ n, n = y.base.length := ⟨_, rfl⟩
  obtain ⟨m', hm'⟩ : ∃ m, m = y.ps.length := ⟨_, rfl⟩
  have HS : Hid (TwoSt w w.heap.size a pa a' pa' c n pc m c' n' pc' m' x y ((w.alloc (.cells #[.slice a n c, .slice pa m pc] 53)).alloc (.cells #[.slice a' n' c', .slice pa' m' pc'] 53))) := Lib.hid (by
    have b1 := below_alloc w (.cells #[.slice a n c, .slice pa m pc] 53)
    have b2 := below_alloc (w.alloc (.cells #[.slice a n c, .slice pa m pc] 53)) (.cells #[.slice a' n' c', .slice pa' m' pc'] 53)
    have l1 := Lies.new w 53 [.slice a n c, .slice pa m pc]
    have l2 := Lies.new (w.alloc (.cells #[.slice a n c, .slice pa m pc] 53)) 53 [.slice a' n' c', .slice pa' m' pc']
    exact ⟨b1.trans (b2.mono b1.size), l1.alloc _, by simpa using l2, (R.below b1).below b2, (P.below b1).below b2, (R'.below b1).below b2, (P'.below b1).below b2⟩)
  rw [← hm] at hle
  rw [← hm'] at hle'
  rw [← hn, ← hm, ← hn', ← hm']
  have HN := Lib.hid hn.symm
  have HM := Lib.hid hm.symm
  have HN' := Lib.hid hn'.symm
  have HM' := Lib.hid hm'.symm
  clear R P R' P' hn hm hn' hm'
  go_enter Tryz.func80, Tryz.ntmps80
  go_wp2_with (fail)
  generalize ((w.alloc (.cells #[.slice a n c, .slice pa m pc] 53)).alloc (.cells #[.slice a' n' c', .slice pa' m' pc'] 53)) = W at HS ⊢
  generalize w.heap.size = gb at HS ⊢
  have Z := rightLin_any a pa c pc x W HS.out.bx HS.out.px
  rw [HN.out, HM.out] at Z
  refine Z.mono ?_
  rintro e w1 ⟨rfl, b1⟩
  clear Z
  have HS1 := Lib.hid (HS.out.below b1)
  clear b1 HS
  have y0 := HS1.out.ly.cell 0
  have y1 := HS1.out.ly.cell 1
  simp only [List.getElem?_cons_zero, List.getElem?_cons_succ] at y0 y1
  cases hx : rightLin x with
  | false =>
    have E : Hid (cmpLin x y = 0) := Lib.hid (by simp [cmpLin, hx])
    clear hx
    go_wp2
    go_ret
    exact ⟨by rw [E.out]; try rfl, HS1.out.bel⟩
  | true =>
    have HRX := Lib.hid hx
    clear hx
    have Z := rightLin_any a' pa' c' pc' y w1 HS1.out.bY HS1.out.pY
    rw [HN'.out, HM'.out] at Z
    go_wp2_with (fail)
    refine Z.mono ?_
    rintro e w2 ⟨rfl, b2⟩
    clear Z y0 y1
    have HS2 := Lib.hid (HS1.out.below b2)
    clear b2 HS1
    have x0 := HS2.out.lx.cell 0
    have y0 := HS2.out.ly.cell 0
    simp only [List.getElem?_cons_zero] at x0 y0
    cases hy : rightLin y with
    | false =>
      have E : Hid (cmpLin x y = 0) := Lib.hid (by simp [cmpLin, hy])
      clear hy
      go_wp2
      go_ret
      exact ⟨by rw [E.out]; try rfl, HS2.out.bel⟩
    | true =>
      have HC : Hid (cmpLin x y = orI (cmpL x.base y.base) (orI (sgn m m') (cmpPs x.ps y.ps))) := Lib.hid (by
        have h1 := HRX.out
        simp only [cmpLin, h1, hy, Bool.and_self, if_true, HM.out, HM'.out])
      clear hy
      have Z := cmp22 a a' c c' x.base y.base w2 HS2.out.bx HS2.out.bY
      rw [HN.out, HN'.out] at Z
      generalize hv : cmpL x.base y.base = v at Z HC
      clear hv
      go_wp2_with (fail)
      refine Z.mono ?_
      rintro e w3 ⟨rfl, b3⟩
      clear Z x0 y0
      have HS3 := Lib.hid (HS2.out.below b3)
      clear b3 HS2
      have x1 := HS3.out.lx.cell 1
      have y1 := HS3.out.ly.cell 1
      simp only [List.getElem?_cons_zero, List.getElem?_cons_succ] at x1 y1
      by_cases h0 : v = 0
      · subst h0
        by_cases hl : m = m'
        · subst hl
          have HC2 : Hid (cmpLin x y = cmpPs (x.ps.drop 0) (y.ps.drop 0)) := Lib.hid (by rw [HC.out]; simp [orI, sgn])
          clear HC
          go_wp2
          clear x1 y1
          go_loopw [4, 41] (fun r i wr => ∃ k : Nat, k ≤ m ∧ r = .int .i64 0 ∧ i = .int .i64 k ∧ Hid (TwoSt w gb a pa a' pa' c n pc m c' n' pc' m x y wr) ∧ Hid (cmpLin x y = cmpPs (x.ps.drop k) (y.ps.drop k))) (fun _ i _ => m - (intOf i).toNat)
          case atStart => exact ⟨0, by omega, rfl, rfl, HS3, HC2⟩
          case round =>
            clear HS3 HC2
            obtain ⟨k, hk, rfl, rfl, HT, HC⟩ := hrel
            by_cases hlt : k < m
            · obtain ⟨g, b, d, ep, hc, hb⟩ := HT.out.px.at (k := k) (by rw [HM.out]; exact hlt)
              obtain ⟨g', b', d', ep', hc', hb'⟩ := HT.out.pY.at (k := k) (by rw [HM'.out]; exact hlt)
              have ltg := HT.out.px.lt ep
              have ltg' := HT.out.pY.lt ep'
              have ltx := HT.out.lx.lt
              have lty := HT.out.ly.lt
              have x1 := HT.out.lx.cell 1
              have y1 := HT.out.ly.cell 1
              simp only [List.getElem?_cons_zero, List.getElem?_cons_succ] at x1 y1
              have bd : Below wr.heap.size wr wr.drew := ⟨rfl, rfl, rfl, Nat.le_refl _, fun _ _ => rfl⟩
              have HC2 : Hid (cmpLin x y = orI (cmpL (x.ps.getD k []) (y.ps.getD k [])) (cmpPs (x.ps.drop (k + 1)) (y.ps.drop (k + 1)))) := Lib.hid (by
                rw [HC.out]; exact cmpPs_step (by rw [HM.out]; exact hlt) (by rw [HM'.out]; exact hlt))
              have Z := cmp22 b b' d d' (x.ps.getD k []) (y.ps.getD k []) wr.drew (hb.below bd) (hb'.below bd)
              generalize hu : (x.ps.getD k []).length = u at hc Z
              generalize hu' : (y.ps.getD k []).length = u' at hc' Z
              generalize hv : cmpL (x.ps.getD k []) (y.ps.getD k []) = v at Z HC2
              have HZ := Lib.hid Z
              clear Z hb hb' hu hu' hv HC
              subst ep
              subst ep'
              go_wp2_with (fail)
              refine wp_region_held_drew (S := fun w' => Below wr.heap.size wr w') (by kernel_rfl) bd (fun hHeld => ?_)
              clear hHeld
              refine tkY 0 rgJb0 (v := ?_) rfl bd ?_ ?_
              rotate_left
              · intro w hSw
                simp only [rgJb0]; go_simp
                try with_reducible rfl
              try simp only [rgJb0, Act.put, pA, pB, pC]
              refine tkY 1 rgJb1 (v := ?_) rfl bd ?_ ?_
              rotate_left
              · intro w hSw
                have f1 := (hSw.cell (p := ⟨gb, 1, none⟩) ltx).trans x1
                have f2 := (hSw.cell (p := ⟨gb + 1, 1, none⟩) lty).trans y1
                have f3 := (hSw.cell (p := ⟨g, k, none⟩) ltg).trans hc
                have f4 := (hSw.cell (p := ⟨g', k, none⟩) ltg').trans hc'
                simp only [rgJb1]; go_simp
                try with_reducible rfl
              try simp only [rgJb1, Act.put, pA, pB, pC]
              refine tkY 2 rgJb2 (v := ?_) rfl bd ?_ ?_
              rotate_left
              · intro w hSw
                simp only [rgJb2]; go_simp
                try with_reducible rfl
              try simp only [rgJb2, Act.put, pA, pB, pC]
              refine tkY 3 rgJb3 (v := ?_) rfl bd ?_ ?_
              rotate_left
              · intro w hSw
                simp only [rgJb3]; go_simp
                try with_reducible rfl
              try simp only [rgJb3, Act.put, pA, pB, pC]
              refine tkY 4 rgJb4 (v := ?_) rfl bd ?_ ?_
              rotate_left
              · intro w hSw
                have f1 := (hSw.cell (p := ⟨gb, 1, none⟩) ltx).trans x1
                have f2 := (hSw.cell (p := ⟨gb + 1, 1, none⟩) lty).trans y1
                have f3 := (hSw.cell (p := ⟨g, k, none⟩) ltg).trans hc
                have f4 := (hSw.cell (p := ⟨g', k, none⟩) ltg').trans hc'
                simp only [rgJb4]; go_simp
                try with_reducible rfl
              try simp only [rgJb4, Act.put, pA, pB, pC]
              refine tkY 5 rgJb5 (v := ?_) rfl bd ?_ ?_
              rotate_left
              · intro w hSw
                simp only [rgJb5]; go_simp
                try with_reducible rfl
              try simp only [rgJb5, Act.put, pA, pB, pC]
              refine tkY 6 rgJb6 (v := ?_) rfl bd ?_ ?_
              rotate_left
              · intro w hSw
                have f1 := (hSw.cell (p := ⟨gb, 1, none⟩) ltx).trans x1
                have f2 := (hSw.cell (p := ⟨gb + 1, 1, none⟩) lty).trans y1
                have f3 := (hSw.cell (p := ⟨g, k, none⟩) ltg).trans hc
                have f4 := (hSw.cell (p := ⟨g', k, none⟩) ltg').trans hc'
                simp only [rgJb6]; go_simp
                try with_reducible rfl
              try simp only [rgJb6, Act.put, pA, pB, pC]
              refine tkY 7 rgJb7 (v := ?_) rfl bd ?_ ?_
              rotate_left
              · intro w hSw
                simp only [rgJb7]; go_simp
                try with_reducible rfl
              try simp only [rgJb7, Act.put, pA, pB, pC]
              refine tkY 8 rgJb8 (v := ?_) rfl bd ?_ ?_
              rotate_left
              · intro w hSw
                simp only [rgJb8]; go_simp
                try with_reducible rfl
              try simp only [rgJb8, Act.put, pA, pB, pC]
              refine tkY 9 rgJb9 (v := ?_) rfl bd ?_ ?_
              rotate_left
              · intro w hSw
                have f1 := (hSw.cell (p := ⟨gb, 1, none⟩) ltx).trans x1
                have f2 := (hSw.cell (p := ⟨gb + 1, 1, none⟩) lty).trans y1
                have f3 := (hSw.cell (p := ⟨g, k, none⟩) ltg).trans hc
                have f4 := (hSw.cell (p := ⟨g', k, none⟩) ltg').trans hc'
                simp only [rgJb9]; go_simp
                try with_reducible rfl
              try simp only [rgJb9, Act.put, pA, pB, pC]
              refine wpAnyH_ready (rs := [10]) (by kernel_rfl) (by simp) ?_
              refine AllReadyH.cons (o := rgJb10) rfl (fun K hK => ?_) AllReadyH.nil
              simp only [rgJb10]; go_simp
              refine HZ.out.mono ?_
              rintro e w3 ⟨rfl, b3⟩
              have b4 : Below wr.heap.size wr w3 := undrew b3
              go_wp2_with (fail)
              refine hK.out _ _ b4 (fun hHeld => ?_)
              clear hK K hHeld
              try simp only [rgJb10, Act.put, pA, pB, pC]
              refine tkY 11 rgJb11 (v := ?_) rfl b4 ?_ ?_
              rotate_left
              · intro w hSw
                simp only [rgJb11]; go_simp
                try with_reducible rfl
              try simp only [rgJb11, Act.put, pA, pB, pC]
              refine wpAnyH_done (by kernel_rfl) ?_ _
              have HT3 := Lib.hid (HT.out.below b4)
              clear b3 b4 HZ HT x1 y1 hc hc' bd
              by_cases h1 : v = 0
              · subst h1
                have HC3 : Hid (cmpLin x y = cmpPs (x.ps.drop (k + 1)) (y.ps.drop (k + 1))) := Lib.hid (by rw [HC2.out]; simp [orI])
                go_wp2
                go_roundw
                case rel => exact ⟨k + 1, by omega, rfl, by go_num, HT3, HC3⟩
                case measure => simp [intOf]; omega
              · have h2 : (v == 0) = false := by simpa using h1
                have E : Hid (cmpLin x y = v) := Lib.hid (by rw [HC2.out]; simp [orI, h1])
                clear HC2
                go_wp2
                go_ret
                exact ⟨by rw [E.out]; try rfl, HT3.out.bel⟩
            · obtain rfl : m = k := by omega
              have E : Hid (cmpLin x y = 0) := Lib.hid (by
                rw [HC.out, List.drop_eq_nil_of_le (by rw [HM.out]; exact Nat.le_refl _)]; rfl)
              go_wp2
              go_ret
              exact ⟨by rw [E.out]; try rfl, HT.out.bel⟩
        · by_cases h3 : m < m'
          · have E : Hid (cmpLin x y = -1) := Lib.hid (by
              rw [HC.out]
              have : ((m : Int) < (m' : Int)) := by omega
              simp [orI, sgn, this])
            clear HC
            go_wp2
            go_ret
            exact ⟨by rw [E.out]; try rfl, HS3.out.bel⟩
          · have E : Hid (cmpLin x y = 1) := Lib.hid (by
              rw [HC.out]
              have h4 : ¬ ((m : Int) < (m' : Int)) := by omega
              have h5 : ((m' : Int) < (m : Int)) := by omega
              simp only [orI, sgn, if_pos, h4, h5, if_false]
              simp)
            clear HC
            go_wp2
            go_ret
            exact ⟨by rw [E.out]; try rfl, HS3.out.bel⟩
      · have h2 : (v == 0) = false := by simpa using h0
        have E : Hid (cmpLin x y = v) := Lib.hid (by rw [HC.out]; simp [orI, h0])
        clear HC
        go_wp2
        go_ret
        exact ⟨by rw [E.out]; try rfl, HS3.out.bel⟩
end Go.Proofs.YtmnkjekjknhhjaaGreatDoor

import Derived.Test.YtmefmnpmppdpmabDoorC
import Derived.Deep.RegionHeld3
/- The program's Compare of linear sets, Point, and the example. -/

/-! The program's Compare of linear sets: cmp.Or of three, slices.CompareFunc; Point; the example. -/
namespace Go.Proofs.YtmefmnpmppdpmabDoor
open Go.ChangeShapes Go.WideShapes Go.ChangeAt Go.RowKit

/-! ### What the scripts of drawn regions are made of. -/
theorem pA (xs : List Value) (i : Nat) (v : Value) : xs.toArray.setIfInBounds i v = (xs.set i v).toArray := by simp
theorem pB (x y : Value) (l : List Value) : (x :: l).set 0 y = y :: l := rfl
theorem pC (x y : Value) (l : List Value) (n : Nat) : (x :: l).set (n + 1) y = x :: l.set n y := rfl
theorem tkY {P : Program} {ops : Array Oper} {Q : Exit → Act → World → Prop} {md : Region.Mode} {S : World → Prop} (i : Nat) (oi : Oper) {v : Value} {fuel : Nat} {listed : Array Bool} {a : Act} {w : World} (hi : ops[i]? = some oi) (hS : S w)
    (hy : ∀ w, S w → (execOp a.eval oi).run P w = .ok (.value v) w) (h : wpAnyH P md ops Q S fuel (listed.setIfInBounds i true) (a.put oi.dst v) w)
    (hw : Region.wanted oi (yielded ops a.tmps) = true := by rfl) (hs : Region.noSelect ops = true := by kernel_rfl) (hf : Region.free md ops listed i = true := by kernel_rfl) (hr : (Region.ready md ops listed).contains i = true := by kernel_rfl)
    (hQ : ∀ c a w, Q (.panic c) (a.put oi.dst v) w → Q (.panic c) a w := by exact fun _ _ _ h => h) : wpAnyH P md ops Q S (fuel + 1) listed a w :=
  wpAnyH_take hi hs hf hr hQ (Or.inl ⟨hw, hy⟩) hS h
theorem tkN {P : Program} {ops : Array Oper} {Q : Exit → Act → World → Prop} {md : Region.Mode} {S : World → Prop} (i : Nat) (oi : Oper) {fuel : Nat} {listed : Array Bool} {a : Act} {w : World} (hi : ops[i]? = some oi) (hS : S w)
    (h : wpAnyH P md ops Q S fuel (listed.setIfInBounds i true) (a.put oi.dst undef) w)
    (hw : Region.wanted oi (yielded ops a.tmps) = false := by rfl) (hs : Region.noSelect ops = true := by kernel_rfl) (hf : Region.free md ops listed i = true := by kernel_rfl) (hr : (Region.ready md ops listed).contains i = true := by kernel_rfl)
    (hQ : ∀ c a w, Q (.panic c) (a.put oi.dst undef) w → Q (.panic c) a w := by exact fun _ _ _ h => h) : wpAnyH P md ops Q S (fuel + 1) listed a w :=
  wpAnyH_take hi hs hf hr hQ (Or.inr ⟨hw, rfl⟩) hS h

/-- The first that is not 0. -/
def orL : List Int → Int
  | [] => 0
  | x :: r => orI x (orL r)
theorem orL_step {zs : List Int} {k : Nat} (hk : k < zs.length) : orL (zs.drop k) = orI (zs.getD k 0) (orL (zs.drop (k + 1))) := by
  rw [List.drop_eq_getElem_cons hk, getD_at hk]; rfl
theorem or_any (a : Option Addr) (c : Nat) (zs : List Int) (w : World) (R : Bag w a c zs) :
    Calls Tryd.prog 20 #[.slice a zs.length c] w fun e w' => e = .returned (.int .i64 (orL zs)) ∧ w = w' := by
  have hle := R.le
  obtain ⟨n, hn⟩ : ∃ n, n = zs.length := ⟨_, rfl⟩
  rw [← hn] at hle ⊢
  have HN := Lib.hid hn.symm
  have HR := Lib.hid R
  clear hn R
  go_enter Tryd.func20, Tryd.ntmps20
  go_wp2
  go_loop [8] (fun i => ∃ k : Nat, k ≤ n ∧ i = .int .i64 k ∧ Hid (orL zs = orL (zs.drop k))) (fun i => n - (intOf i).toNat)
  case atStart => exact ⟨0, Nat.zero_le _, rfl, Lib.hid rfl⟩
  case round =>
    obtain ⟨k, hk, rfl, HE⟩ := hrel
    by_cases hlt : k < n
    · obtain ⟨g, rfl, hc⟩ := HR.out.at (k := k) (by rw [HN.out]; exact hlt)
      have st := HE.out.trans (orL_step (zs := zs) (k := k) (by rw [HN.out]; exact hlt))
      by_cases h0 : zs.getD k 0 = 0
      · have HK : Hid (orL zs = orL (zs.drop (k + 1))) := Lib.hid (by rw [st, h0]; rfl)
        rw [h0] at hc
        clear h0 st
        go_wp2
        go_round
        case rel => exact ⟨k + 1, by omega, by go_num, HK⟩
        case measure => simp [intOf]; omega
      · have HK : Hid (orL zs = zs.getD k 0) := Lib.hid (by rw [st]; unfold orI; rw [if_neg h0])
        clear st
        generalize zs.getD k 0 = z at hc h0 HK
        go_wp2
        go_ret
        exact ⟨by rw [HK.out]; try rfl, rfl⟩
    · go_wp2
      go_ret
      exact ⟨by rw [HE.out, List.drop_eq_nil_of_le (by rw [HN.out]; omega)]; rfl, rfl⟩

/-- By the first that are unlike; the shorter one first. -/
def lexPs : List (List Int) → List (List Int) → Int
  | [], [] => 0
  | [], _ :: _ => -1
  | _ :: _, [] => 1
  | x :: r, y :: s => orI (cmpL x y) (lexPs r s)
theorem lexPs_step {a b : List (List Int)} {k : Nat} (h1 : k < a.length) (h2 : k < b.length) : lexPs (a.drop k) (b.drop k) = orI (cmpL (a.getD k []) (b.getD k [])) (lexPs (a.drop (k + 1)) (b.drop (k + 1))) := by
  rw [List.drop_eq_getElem_cons h1, List.drop_eq_getElem_cons h2]
  simp [lexPs, List.getD, h1, h2]
theorem lexPs_one {a b : List (List Int)} {k : Nat} (h1 : k < a.length) (h2 : b.length ≤ k) : lexPs (a.drop k) (b.drop k) = 1 := by
  rw [List.drop_eq_getElem_cons h1, List.drop_eq_nil_of_le h2]; rfl
theorem lexPs_two {a b : List (List Int)} {k : Nat} (h1 : a.length ≤ k) (h2 : k < b.length) : lexPs (a.drop k) (b.drop k) = -1 := by
  rw [List.drop_eq_getElem_cons h2, List.drop_eq_nil_of_le h1]; rfl
theorem lexPs_end {a b : List (List Int)} {k : Nat} (h1 : a.length ≤ k) (h2 : b.length ≤ k) : lexPs (a.drop k) (b.drop k) = 0 := by
  rw [List.drop_eq_nil_of_le h2, List.drop_eq_nil_of_le h1]; rfl
theorem lexPs_eq : ∀ {a b : List (List Int)}, a.length = b.length → lexPs a b = cmpPs a b
  | [], [], _ => rfl
  | [], _ :: _, h => by simp at h
  | _ :: _, [], h => by simp at h
  | x :: r, y :: s, h => by simp [lexPs, cmpPs, lexPs_eq (a := r) (b := s) (by simpa using h)]
theorem cmpLin_or {x y : Lin} (hx : rightLin x = true) (hy : rightLin y = true) : cmpLin x y = orL [cmpL x.base y.base, sgn x.ps.length y.ps.length, lexPs x.ps y.ps] := by
  simp only [cmpLin, hx, hy, Bool.and_self, if_true, orL]
  rcases sgn_cases x.ps.length y.ps.length with ⟨h, e⟩ | ⟨h, e⟩ | ⟨h, e⟩
  · rw [e]; simp [orI]
  · rw [e, lexPs_eq (by omega)]
    generalize cmpPs x.ps y.ps = q
    unfold orI
    by_cases q0 : q = 0 <;> simp [q0]
  · rw [e]; simp [orI]
theorem cmpLin_no1 {x y : Lin} (hx : rightLin x = false) : cmpLin x y = 0 := by simp [cmpLin, hx]
theorem cmpLin_no2 {x y : Lin} (hy : rightLin y = false) : cmpLin x y = 0 := by simp [cmpLin, hy]

set_option maxHeartbeats 1000000 in
theorem cmpFunc (a b : Option Addr) (c d : Nat) (xs ys : List (List Int)) (w : World) (R : Bags w a c xs) (S : Bags w b d ys) :
    Calls Tryd.prog 22 #[.slice a xs.length c, .slice b ys.length d, .func (.func 18) #[] #[]] w (Tells (lexPs xs ys) w) := by
  have hle := R.le
  have hle' := S.le
  obtain ⟨l, hl⟩ : ∃ l, l = xs.length := ⟨_, rfl⟩
  obtain ⟨m, hm⟩ : ∃ m, m = ys.length := ⟨_, rfl⟩
  rw [← hl] at hle ⊢
  rw [← hm] at hle' ⊢
  have HL := Lib.hid hl.symm
  have HM := Lib.hid hm.symm
  have HR := Lib.hid R
  have HS := Lib.hid S
  clear hl hm R S
  go_enter Tryd.func22, Tryd.ntmps22
  go_wp2
  go_loopw [13] (fun i wr => ∃ k : Nat, k ≤ l ∧ i = .int .i64 k ∧ Hid (Below w.heap.size w wr) ∧ Hid (lexPs xs ys = lexPs (xs.drop k) (ys.drop k))) (fun i _ => l - (intOf i).toNat)
  case atStart => exact ⟨0, Nat.zero_le _, rfl, Lib.hid (Below.refl _ _), Lib.hid rfl⟩
  case round =>
    obtain ⟨k, hk, rfl, HW, HE⟩ := hrel
    by_cases hlt : k < l
    · obtain ⟨g, b1, d1, rfl, hc, hb1⟩ := (HR.out.below HW.out).at (k := k) (by rw [HL.out]; exact hlt)
      by_cases hkm : k < m
      · obtain ⟨g2, b2, d2, rfl, hc2, hb2⟩ := (HS.out.below HW.out).at (k := k) (by rw [HM.out]; exact hkm)
        have Z := cmp21 b1 b2 d1 d2 (xs.getD k []) (ys.getD k []) wr hb1 hb2
        have hl1 := hb1.le
        have hl2 := hb2.le
        have HT := Lib.hid (HE.out.trans (lexPs_step (a := xs) (b := ys) (k := k) (by rw [HL.out]; exact hlt) (by rw [HM.out]; exact hkm)))
        generalize (xs.getD k []).length = n1 at Z hl1 hc
        generalize (ys.getD k []).length = n2 at Z hl2 hc2
        have HZ := Lib.hid Z
        clear Z hb1 hb2
        go_wp2_with (fail)
        refine HZ.out.mono ?_
        rintro e w2 ⟨rfl, bel⟩
        clear HZ
        have HW2 : Hid (Below w.heap.size w w2) := Lib.hid (HW.out.trans (bel.mono HW.out.size))
        clear bel
        generalize cmpL (xs.getD k []) (ys.getD k []) = v at HT ⊢
        by_cases h0 : v = 0
        · have HK : Hid (lexPs xs ys = lexPs (xs.drop (k + 1)) (ys.drop (k + 1))) := Lib.hid (by rw [HT.out, h0]; rfl)
          rw [h0]
          clear h0 HT
          go_wp2
          go_roundw
          case rel => exact ⟨k + 1, by omega, by go_num, HW2, HK⟩
          case measure => simp [intOf]; omega
        · have HK : Hid (lexPs xs ys = v) := Lib.hid (by rw [HT.out]; unfold orI; rw [if_neg h0])
          clear HT
          go_wp2
          go_ret
          exact ⟨by rw [HK.out]; try rfl, HW2.out⟩
      · have HK := Lib.hid (HE.out.trans (lexPs_one (a := xs) (b := ys) (k := k) (by rw [HL.out]; exact hlt) (by rw [HM.out]; omega)))
        generalize (xs.getD k []).length = n1 at hc
        clear hb1
        go_wp2
        go_ret
        exact ⟨by rw [HK.out]; rfl, HW.out⟩
    · by_cases hlm : l < m
      · have H := Lib.hid (HE.out.trans (lexPs_two (a := xs) (b := ys) (k := k) (by rw [HL.out]; omega) (by rw [HM.out]; omega)))
        go_wp2
        go_ret
        exact ⟨by rw [H.out]; rfl, HW.out⟩
      · have H := Lib.hid (HE.out.trans (lexPs_end (a := xs) (b := ys) (k := k) (by rw [HL.out]; omega) (by rw [HM.out]; omega)))
        go_wp2
        go_ret
        exact ⟨by rw [H.out]; rfl, HW.out⟩
end Go.Proofs.YtmefmnpmppdpmabDoor

/-! The program's Compare of linear sets, Point, and the example. -/
namespace Go.Proofs.YtmefmnpmppdpmabDoor
open Go.ChangeShapes Go.WideShapes Go.ChangeAt Go.RowKit

theorem bag_new3 (w : World) (x y z : Int) : Bag (w.alloc (.cells #[.int .i64 x, .int .i64 y, .int .i64 z] 3)) (some ⟨w.heap.size, 0, none⟩) 3 [x, y, z] :=
  .inr ⟨_, [], rfl, rfl, by omega, Lies.new w 3 [.int .i64 x, .int .i64 y, .int .i64 z]⟩

theorem undrew {w w' : World} (h : Below w.drew.heap.size w.drew w') : Below w.heap.size w w' := ⟨h.os, h.tape, h.output, h.size, h.block⟩

set_option maxHeartbeats 1000000 in
theorem compare18 (a pa a' pa' : Option Addr) (c pc c' pc' : Nat) (x y : Lin) (w : World) (R : Bag w a c x.base) (P : Bags w pa pc x.ps) (R' : Bag w a' c' y.base) (P' : Bags w pa' pc' y.ps) :
    Calls Tryd.prog 13 #[.agg #[.slice a x.base.length c, .slice pa x.ps.length pc], .agg #[.slice a' y.base.length c', .slice pa' y.ps.length pc']] w (Tells (cmpLin x y) w) := by
  have hle := P.le
  have hle' := P'.le
  obtain ⟨n, hn⟩ : ∃ n, n = x.base.length := ⟨_, rfl⟩
  obtain ⟨m, hm⟩ : ∃ m, m = x.ps.length := ⟨_, rfl⟩
  obtain ⟨n', hn'⟩ : ∃ n, n = y.base.length := ⟨_, rfl⟩
  obtain ⟨m', hm'⟩ : ∃ m, m = y.ps.length := ⟨_, rfl⟩
  have HB1 : Hid (Below w.heap.size w (w.alloc (.cells #[.slice a n c, .slice pa m pc] 28))) := Lib.hid ((Below.refl _ _).alloc (Nat.le_refl _) _)
  have HX0 := Lies.new w 28 [.slice a n c, .slice pa m pc]
  have HB0 : Hid (Below w.heap.size w ((w.alloc (.cells #[.slice a n c, .slice pa m pc] 28)).alloc (.cells #[.slice a' n' c', .slice pa' m' pc'] 28))) := Lib.hid (HB1.out.alloc HB1.out.size _)
  have HX : Hid (Lies ((w.alloc (.cells #[.slice a n c, .slice pa m pc] 28)).alloc (.cells #[.slice a' n' c', .slice pa' m' pc'] 28)) w.heap.size 28 [.slice a n c, .slice pa m pc]) := Lib.hid (HX0.alloc _)
  have HY : Hid (Lies ((w.alloc (.cells #[.slice a n c, .slice pa m pc] 28)).alloc (.cells #[.slice a' n' c', .slice pa' m' pc'] 28)) (w.heap.size + 1) 28 [.slice a' n' c', .slice pa' m' pc']) := Lib.hid (by
    have := Lies.new (w.alloc (.cells #[.slice a n c, .slice pa m pc] 28)) 28 [.slice a' n' c', .slice pa' m' pc']
    simpa using this)
  have HR := Lib.hid (R.below HB0.out)
  have HP := Lib.hid (P.below HB0.out)
  have HR' := Lib.hid (R'.below HB0.out)
  have HP' := Lib.hid (P'.below HB0.out)
  rw [← hm] at hle
  rw [← hm'] at hle'
  rw [← hn, ← hm, ← hn', ← hm']
  have HN := Lib.hid hn.symm
  have HM := Lib.hid hm.symm
  have HN' := Lib.hid hn'.symm
  have HM' := Lib.hid hm'.symm
  clear R P R' P' hn hm hn' hm' HX0 HB1
  go_enter Tryd.func13, Tryd.ntmps13
  go_wp2_with (fail)
  have Z := right13 a pa c pc x _ HR.out HP.out
  rw [HN.out, HM.out] at Z
  generalize (w.alloc (.cells #[.slice a n c, .slice pa m pc] 28)).alloc (.cells #[.slice a' n' c', .slice pa' m' pc'] 28) = W at HB0 HX HY HR HP HR' HP' Z ⊢
  generalize hg : w.heap.size = gb at HX HY ⊢
  have HG := Lib.hid hg
  clear hg
  refine Z.mono ?_
  rintro e w1 ⟨rfl, b1⟩
  clear Z
  have hs1 := HY.out.lt
  have q0 : w1.cell? ⟨gb + 1, 0, none⟩ = some (.slice a' n' c') := (b1.cell (p := ⟨gb + 1, 0, none⟩) hs1).trans (HY.out.cell 0)
  have q1 : w1.cell? ⟨gb + 1, 1, none⟩ = some (.slice pa' m' pc') := (b1.cell (p := ⟨gb + 1, 1, none⟩) hs1).trans (HY.out.cell 1)
  have HB1 := Lib.hid b1
  clear b1
  cases hx : rightLin x with
  | false =>
    have E := Lib.hid (cmpLin_no1 (y := y) hx)
    clear hx
    go_wp2
    go_ret
    exact ⟨by rw [E.out]; try rfl, HB0.out.trans (HB1.out.mono HB0.out.size)⟩
  | true =>
    have HRX := Lib.hid hx
    clear hx
    have Z := right13 a' pa' c' pc' y _ (HR'.out.below HB1.out) (HP'.out.below HB1.out)
    rw [HN'.out, HM'.out] at Z
    go_wp2_with (fail)
    refine Z.mono ?_
    rintro e w2 ⟨rfl, b2⟩
    clear Z q0 q1
    have HB2 := Lib.hid (HB1.out.trans (b2.mono HB1.out.size))
    clear b2 HB1
    have q0 : w2.cell? ⟨gb + 1, 0, none⟩ = some (.slice a' n' c') := (HB2.out.cell (p := ⟨gb + 1, 0, none⟩) hs1).trans (HY.out.cell 0)
    have q1 : w2.cell? ⟨gb + 1, 1, none⟩ = some (.slice pa' m' pc') := (HB2.out.cell (p := ⟨gb + 1, 1, none⟩) hs1).trans (HY.out.cell 1)
    have p0 : w2.cell? ⟨gb, 0, none⟩ = some (.slice a n c) := (HB2.out.cell (p := ⟨gb, 0, none⟩) HX.out.lt).trans (HX.out.cell 0)
    have p1 : w2.cell? ⟨gb, 1, none⟩ = some (.slice pa m pc) := (HB2.out.cell (p := ⟨gb, 1, none⟩) HX.out.lt).trans (HX.out.cell 1)
    cases hy : rightLin y with
    | false =>
      have E := Lib.hid (cmpLin_no2 (x := x) hy)
      clear hy
      go_wp2
      go_ret
      exact ⟨by rw [E.out]; try rfl, HB0.out.trans (HB2.out.mono HB0.out.size)⟩
    | true =>
      have E := Lib.hid (cmpLin_or HRX.out hy)
      clear hy
      have HR2 := Lib.hid (HR.out.below HB2.out)
      have HP2 := Lib.hid (HP.out.below HB2.out)
      have HR2' := Lib.hid (HR'.out.below HB2.out)
      have HP2' := Lib.hid (HP'.out.below HB2.out)
      have HXs := Lib.hid (Nat.lt_of_lt_of_le HX.out.lt HB2.out.size)
      have HYs := Lib.hid (Nat.lt_of_lt_of_le HY.out.lt HB2.out.size)
      have HBB := Lib.hid (HB0.out.trans (HB2.out.mono HB0.out.size))
      have Z1 : Hid (Calls Tryd.prog 18 #[.slice a n c, .slice a' n' c'] w2.drew (Tells (cmpL x.base y.base) w2.drew)) := Lib.hid (by
        have := cmp21 a a' c c' x.base y.base w2.drew HR2.out HR2'.out
        rwa [HN.out, HN'.out] at this)
      have Z3 : Hid (∀ W3, Below w2.heap.size w2 W3 → Calls Tryd.prog 22 #[.slice pa m pc, .slice pa' m' pc', .func (.func 18) #[] #[]] W3 (Tells (lexPs x.ps y.ps) W3)) := Lib.hid (fun W3 h => by
        have := cmpFunc pa pa' pc pc' x.ps y.ps W3 (HP2.out.below h) (HP2'.out.below h)
        rwa [HM.out, HM'.out] at this)
      rw [HM.out, HM'.out] at E
      generalize cmpL x.base y.base = v1 at Z1 E
      generalize lexPs x.ps y.ps = v3 at Z3 E
      generalize hv2 : sgn m m' = v2 at E
      have HV2 := Lib.hid hv2
      clear hv2 HX HY HR HP HR' HP' HB0 HB2 HR2 HP2 HR2' HP2'
      go_wp2_with (fail)
      go_region_held3 (fun w' => w'.cell? ⟨gb, 0, none⟩ = some (.slice a n c) ∧ w'.cell? ⟨gb + 1, 0, none⟩ = some (.slice a' n' c') ∧ w'.cell? ⟨gb, 1, none⟩ = some (.slice pa m pc) ∧ w'.cell? ⟨gb + 1, 1, none⟩ = some (.slice pa' m' pc'))
        (first | (exact ⟨p0, q0, p1, q1⟩) | (exact ⟨p03, q03, p13, q13⟩) | (exact ⟨p04, q04, p14, q14⟩) | go_keep)
        (first
          | (go_at_call 18; refine Z1.out.mono ?_; rintro e w3 ⟨rfl, b3⟩; (replace b3 : Below w2.heap.size w2 w3 := undrew b3); (have p03 := (b3.cell (p := ⟨gb, 0, none⟩) HXs.out).trans p0); (have q03 := (b3.cell (p := ⟨gb + 1, 0, none⟩) HYs.out).trans q0); (have p13 := (b3.cell (p := ⟨gb, 1, none⟩) HXs.out).trans p1); (have q13 := (b3.cell (p := ⟨gb + 1, 1, none⟩) HYs.out).trans q1))
          | (go_at_call 21; refine (cmp_int _ _ _).mono ?_; rintro e w' ⟨rfl, rfl⟩; rw [HV2.out])
          | (go_at_call 22; refine (Z3.out _ b3).mono ?_; rintro e w4 ⟨rfl, b4⟩; (have b4 : Below w2.heap.size w2 w4 := b3.trans (b4.mono b3.size)); (have p04 := (b4.cell (p := ⟨gb, 0, none⟩) HXs.out).trans p0); (have q04 := (b4.cell (p := ⟨gb + 1, 0, none⟩) HYs.out).trans q0); (have p14 := (b4.cell (p := ⟨gb, 1, none⟩) HXs.out).trans p1); (have q14 := (b4.cell (p := ⟨gb + 1, 1, none⟩) HYs.out).trans q1))
          | (go_at_call 20; refine (or_any (some ⟨w4.heap.size, 0, none⟩) 3 [v1, v2, v3] _ (bag_new3 w4 v1 v2 v3)).mono ?_; rintro e w' ⟨rfl, rfl⟩))
      go_wp2
      go_ret
      exact ⟨by rw [E.out]; try rfl, HBB.out.trans ((b4.alloc (by exact b4.size) _).mono (by exact HBB.out.size))⟩
end Go.Proofs.YtmefmnpmppdpmabDoor

/-! The program's Point, and the example. -/
namespace Go.Proofs.YtmefmnpmppdpmabDoor
open Go.ChangeShapes Go.WideShapes Go.ChangeAt Go.RowKit


end Go.Proofs.YtmefmnpmppdpmabDoor

/-! The program's comparing of bags and of linear sets once more: what they tell, and that the number of draws does not shrink. -/
namespace Go.Proofs.YtmefmnpmppdpmabDoor.Z
open Go.ChangeShapes Go.WideShapes Go.ChangeAt Go.RowKit

/-- Nothing below block B has turned, and no draw is undone. -/
structure Below (B : Nat) (w w' : World) : Prop extends Go.RowKit.Below B w w' where
  later : w.drawn ≤ w'.drawn
theorem Below.refl (B : Nat) (w : World) : Below B w w := ⟨Go.RowKit.Below.refl B w, Nat.le_refl _⟩
theorem Below.trans {B : Nat} {a b c : World} (h : Below B a b) (k : Below B b c) : Below B a c := ⟨h.toBelow.trans k.toBelow, Nat.le_trans h.later k.later⟩
theorem Below.mono {B B' : Nat} {w w' : World} (h : Below B w w') (hB : B' ≤ B) : Below B' w w' := ⟨h.toBelow.mono hB, h.later⟩
theorem Below.alloc {B : Nat} {a w : World} (h : Below B a w) (hB : B ≤ w.heap.size) (o : Obj) : Below B a (w.alloc o) := ⟨h.toBelow.alloc hB o, h.later⟩
theorem below_alloc (w : World) (o : Obj) : Below w.heap.size w (w.alloc o) := (Below.refl _ w).alloc (Nat.le_refl _) o
theorem undrew {w w' : World} (h : Below w.drew.heap.size w.drew w') : Below w.heap.size w w' := ⟨⟨h.os, h.tape, h.output, h.size, h.block⟩, Nat.le_trans (Nat.le_succ _) h.later⟩
def TellsB (b : Bool) (w : World) (e : Ending) (w' : World) : Prop := e = .returned (.bool b) ∧ Below w.heap.size w w'
def Tells (n : Int) (w : World) (e : Ending) (w' : World) : Prop := e = .returned (.int .i64 n) ∧ Below w.heap.size w w'

set_option maxHeartbeats 1000000
theorem cmp21 (a b : Option Addr) (c d : Nat) (xs ys : List Int) (w : World) (R : Bag w a c xs) (S : Bag w b d ys) :
    Calls Tryd.prog 18 #[.slice a xs.length c, .slice b ys.length d] w (Tells (cmpL xs ys) w) := by
  have Z := right16 a c xs w R
  have Z2 := right16 b d ys w S
  cases hx : rightL xs with
  | false =>
    have H := Lib.hid (cmp_no1 (b := ys) hx)
    rw [hx] at Z
    clear hx R S Z2
    go_enter Tryd.func18, Tryd.ntmps18
    go_wp2_with (fail)
    refine Z.mono ?_
    rintro e w' ⟨rfl, rfl⟩
    go_wp2
    go_ret
    exact ⟨by rw [H.out]; rfl, Below.refl _ _⟩
  | true =>
    cases hy : rightL ys with
    | false =>
      have H := Lib.hid (cmp_no2 (a := xs) hy)
      rw [hx] at Z
      rw [hy] at Z2
      clear hx hy R S
      go_enter Tryd.func18, Tryd.ntmps18
      go_wp2_with (fail)
      refine Z.mono ?_
      rintro e w' ⟨rfl, rfl⟩
      go_wp2_with (fail)
      refine Z2.mono ?_
      rintro e w' ⟨rfl, rfl⟩
      go_wp2
      go_ret
      exact ⟨by rw [H.out]; rfl, Below.refl _ _⟩
    | true =>
      have H := Lib.hid (cmp_yes hx hy)
      rw [hx] at Z
      rw [hy] at Z2
      have C := cmp_int xs.length ys.length w
      have C2 := cmp35 a b c d xs ys w R S
      clear hx hy R S
      generalize sgn xs.length ys.length = p at *
      generalize lex xs ys = q at *
      go_enter Tryd.func18, Tryd.ntmps18
      go_wp2_with (fail)
      refine Z.mono ?_
      rintro e w' ⟨rfl, rfl⟩
      go_wp2_with (fail)
      refine Z2.mono ?_
      rintro e w' ⟨rfl, rfl⟩
      go_wp2_with (fail)
      refine C.mono ?_
      rintro e w' ⟨rfl, rfl⟩
      go_wp2_with (fail)
      refine C2.mono ?_
      rintro e w' ⟨rfl, rfl⟩
      go_wp2_with (fail)
      refine (or33 (some ⟨w.heap.size, 0, none⟩) 2 p q _ (bag_new2 w p q)).mono ?_
      rintro e w' ⟨rfl, rfl⟩
      go_wp2
      go_ret
      exact ⟨by rw [H.out]; rfl, below_alloc _ _⟩

theorem right13 (a pa : Option Addr) (c pc : Nat) (x : Lin) (w : World) (R : Bag w a c x.base) (P : Bags w pa pc x.ps) :
    Calls Tryd.prog 12 #[.agg #[.slice a x.base.length c, .slice pa x.ps.length pc]] w (TellsB (rightLin x) w) := by
  have hle := P.le
  obtain ⟨n, hn⟩ : ∃ n, n = x.base.length := ⟨_, rfl⟩
  obtain ⟨m, hm⟩ : ∃ m, m = x.ps.length := ⟨_, rfl⟩
  have HB0 : Hid (Below w.heap.size w (w.alloc (.cells #[.slice a n c, .slice pa m pc] 28))) := Lib.hid ((Below.refl _ _).alloc (Nat.le_refl _) _)
  have HX : Hid (Lies (w.alloc (.cells #[.slice a n c, .slice pa m pc] 28)) w.heap.size 28 [.slice a n c, .slice pa m pc]) := Lib.hid (Lies.new w _ _)
  have HS : Hid (w.heap.size < (w.alloc (.cells #[.slice a n c, .slice pa m pc] 28)).heap.size) := Lib.hid HX.out.lt
  have HR : Hid (Bag (w.alloc (.cells #[.slice a n c, .slice pa m pc] 28)) a c x.base) := Lib.hid (R.below (HB0.out).toBelow)
  have HP : Hid (Bags (w.alloc (.cells #[.slice a n c, .slice pa m pc] 28)) pa pc x.ps) := Lib.hid (P.below (HB0.out).toBelow)
  rw [← hm] at hle
  rw [← hn, ← hm]
  have HN := Lib.hid hn.symm
  have HM := Lib.hid hm.symm
  clear R P hn hm
  go_enter Tryd.func12, Tryd.ntmps12
  go_wp2_with (fail)
  generalize w.alloc (.cells #[.slice a n c, .slice pa m pc] 28) = W at HB0 HX HS HR HP ⊢
  generalize hg : w.heap.size = gb at HX HS ⊢
  have HG := Lib.hid hg
  clear hg
  have p0 : W.cell? ⟨gb, 0, none⟩ = some (.slice a n c) := HX.out.cell 0
  have p1 : W.cell? ⟨gb, 1, none⟩ = some (.slice pa m pc) := HX.out.cell 1
  go_wp2
  go_loopw [3, 9] (fun b i wr => ∃ (k : Nat) (ba : Option Addr) (bc : Nat), k ≤ m ∧ i = .int .i64 k ∧ b = .slice ba (ahead x.ps k).length bc ∧ Hid (Bag W ba bc (ahead x.ps k)) ∧ Hid (Below W.heap.size W wr) ∧ Hid (∀ j, j < k → rightL (x.ps.getD j []) = true ∧ x.ps.getD j [] ≠ [] ∧ (0 < j → cmpL (x.ps.getD (j - 1) []) (x.ps.getD j []) < 0))) (fun _ i _ => m - (intOf i).toNat)
  case atStart => exact ⟨0, none, 0, Nat.zero_le _, rfl, rfl, Lib.hid (Bag.nil _), Lib.hid (Below.refl _ _), Lib.hid (fun j h => by omega)⟩
  case round =>
    obtain ⟨k, ba, bc, hk, rfl, rfl, HA, HW, HE⟩ := hrel
    clear p0 p1
    have p0 : wr.cell? ⟨gb, 0, none⟩ = some (.slice a n c) := (HW.out.cell (p := ⟨gb, 0, none⟩) HS.out).trans (HX.out.cell 0)
    by_cases hlt : k < m
    · obtain ⟨g, b, d, rfl, hc, hbag⟩ := (HP.out.below (HW.out).toBelow).at (k := k) (by rw [HM.out]; exact hlt)
      have HK : Hid (Bag W b d (x.ps.getD k [])) := Lib.hid (by
        obtain ⟨g', b', d', eg, hc', hbag'⟩ := HP.out.at (k := k) (by rw [HM.out]; exact hlt)
        injection eg with eg
        injection eg with eg
        subst eg
        have h2 := (HW.out.cell (p := ⟨g, k, none⟩) (HP.out.lt rfl)).symm.trans hc
        rw [hc'] at h2
        injection h2 with h2
        injection h2 with e1 _ e3
        subst e1; subst e3
        exact hbag')
      have Z := cmp21 ba b bc d (ahead x.ps k) (x.ps.getD k []) wr (HA.out.below (HW.out).toBelow) hbag
      have hab := HA.out.le
      have hbl := hbag.le
      generalize hl1 : (ahead x.ps k).length = l1 at Z hab ⊢
      generalize hl2 : (x.ps.getD k []).length = l2 at Z hbl hc
      have HL2 := Lib.hid hl2
      have HZ := Lib.hid Z
      clear Z hbag hl1 hl2
      go_wp2_with (fail)
      refine HZ.out.mono ?_
      rintro e w2 ⟨rfl, b2⟩
      clear HZ
      have HW2 : Hid (Below W.heap.size W w2) := Lib.hid (HW.out.trans (b2.mono HW.out.size))
      clear b2
      generalize hv : cmpL (ahead x.ps k) (x.ps.getD k []) = v
      by_cases hneg : v < 0
      · have HV : Hid (cmpL (ahead x.ps k) (x.ps.getD k []) < 0) := Lib.hid (by rw [hv]; exact hneg)
        clear hv
        have hx1 : ¬ 0 ≤ v := by omega
        have HK2 : Hid (Bag W b d (ahead x.ps (k + 1))) := Lib.hid (by unfold ahead; simpa using HK.out)
        have HL3 : Hid (l2 = (ahead x.ps (k + 1)).length) := Lib.hid (by unfold ahead; simpa using HL2.out.symm)
        go_wp2
        go_roundw
        case rel => exact ⟨k + 1, b, d, by omega, by go_num, by rw [HL3.out], HK2, HW2, Lib.hid (fun j hj => by
          by_cases e : j = k
          · rw [e]
            exact ⟨(lt_right HV.out).2, lt_ne HV.out, fun h0 => by
              have := HV.out
              unfold ahead at this
              rwa [if_neg (by omega)] at this⟩
          · exact HE.out j (by omega))⟩
        case measure => simp [intOf]; omega
      · have E : Hid (rightLin x = false) := Lib.hid (by
          have := rises_bad (l := x.ps) (j := k) (by rw [HM.out]; exact hlt) (fun h => by
            by_cases h0 : k = 0
            · have := nil_lt h.1 h.2.1
              unfold ahead at hv
              rw [if_pos h0] at hv
              omega
            · have := h.2.2 (by omega)
              unfold ahead at hv
              rw [if_neg h0] at hv
              omega)
          simp [rightLin, this])
        clear hv
        have hx1 : 0 ≤ v := by omega
        go_wp2
        go_ret
        exact ⟨by rw [E.out]; rfl, HB0.out.trans (HW2.out.mono (by have := HS.out; have := HG.out; omega))⟩
    · have E : Hid (rightLin x = rightL x.base) := Lib.hid (by
        have := rises_at (l := x.ps) (fun j hj => HE.out j (by rw [HM.out] at hj; omega))
        simp [rightLin, this])
      have Z := right16 a c x.base wr (HR.out.below (HW.out).toBelow)
      rw [HN.out] at Z
      have HZ := Lib.hid Z
      clear Z
      go_wp2_with (fail)
      refine HZ.out.mono ?_
      rintro e w' ⟨rfl, rfl⟩
      go_wp2
      go_ret
      exact ⟨by rw [E.out]; try rfl, HB0.out.trans (HW.out.mono (by have := HS.out; have := HG.out; omega))⟩

theorem cmpFunc (a b : Option Addr) (c d : Nat) (xs ys : List (List Int)) (w : World) (R : Bags w a c xs) (S : Bags w b d ys) :
    Calls Tryd.prog 22 #[.slice a xs.length c, .slice b ys.length d, .func (.func 18) #[] #[]] w (Tells (lexPs xs ys) w) := by
  have hle := R.le
  have hle' := S.le
  obtain ⟨l, hl⟩ : ∃ l, l = xs.length := ⟨_, rfl⟩
  obtain ⟨m, hm⟩ : ∃ m, m = ys.length := ⟨_, rfl⟩
  rw [← hl] at hle ⊢
  rw [← hm] at hle' ⊢
  have HL := Lib.hid hl.symm
  have HM := Lib.hid hm.symm
  have HR := Lib.hid R
  have HS := Lib.hid S
  clear hl hm R S
  go_enter Tryd.func22, Tryd.ntmps22
  go_wp2
  go_loopw [13] (fun i wr => ∃ k : Nat, k ≤ l ∧ i = .int .i64 k ∧ Hid (Below w.heap.size w wr) ∧ Hid (lexPs xs ys = lexPs (xs.drop k) (ys.drop k))) (fun i _ => l - (intOf i).toNat)
  case atStart => exact ⟨0, Nat.zero_le _, rfl, Lib.hid (Below.refl _ _), Lib.hid rfl⟩
  case round =>
    obtain ⟨k, hk, rfl, HW, HE⟩ := hrel
    by_cases hlt : k < l
    · obtain ⟨g, b1, d1, rfl, hc, hb1⟩ := (HR.out.below (HW.out).toBelow).at (k := k) (by rw [HL.out]; exact hlt)
      by_cases hkm : k < m
      · obtain ⟨g2, b2, d2, rfl, hc2, hb2⟩ := (HS.out.below (HW.out).toBelow).at (k := k) (by rw [HM.out]; exact hkm)
        have Z := cmp21 b1 b2 d1 d2 (xs.getD k []) (ys.getD k []) wr hb1 hb2
        have hl1 := hb1.le
        have hl2 := hb2.le
        have HT := Lib.hid (HE.out.trans (lexPs_step (a := xs) (b := ys) (k := k) (by rw [HL.out]; exact hlt) (by rw [HM.out]; exact hkm)))
        generalize (xs.getD k []).length = n1 at Z hl1 hc
        generalize (ys.getD k []).length = n2 at Z hl2 hc2
        have HZ := Lib.hid Z
        clear Z hb1 hb2
        go_wp2_with (fail)
        refine HZ.out.mono ?_
        rintro e w2 ⟨rfl, bel⟩
        clear HZ
        have HW2 : Hid (Below w.heap.size w w2) := Lib.hid (HW.out.trans (bel.mono HW.out.size))
        clear bel
        generalize cmpL (xs.getD k []) (ys.getD k []) = v at HT ⊢
        by_cases h0 : v = 0
        · have HK : Hid (lexPs xs ys = lexPs (xs.drop (k + 1)) (ys.drop (k + 1))) := Lib.hid (by rw [HT.out, h0]; rfl)
          rw [h0]
          clear h0 HT
          go_wp2
          go_roundw
          case rel => exact ⟨k + 1, by omega, by go_num, HW2, HK⟩
          case measure => simp [intOf]; omega
        · have HK : Hid (lexPs xs ys = v) := Lib.hid (by rw [HT.out]; unfold orI; rw [if_neg h0])
          clear HT
          go_wp2
          go_ret
          exact ⟨by rw [HK.out]; try rfl, HW2.out⟩
      · have HK := Lib.hid (HE.out.trans (lexPs_one (a := xs) (b := ys) (k := k) (by rw [HL.out]; exact hlt) (by rw [HM.out]; omega)))
        generalize (xs.getD k []).length = n1 at hc
        clear hb1
        go_wp2
        go_ret
        exact ⟨by rw [HK.out]; rfl, HW.out⟩
    · by_cases hlm : l < m
      · have H := Lib.hid (HE.out.trans (lexPs_two (a := xs) (b := ys) (k := k) (by rw [HL.out]; omega) (by rw [HM.out]; omega)))
        go_wp2
        go_ret
        exact ⟨by rw [H.out]; rfl, HW.out⟩
      · have H := Lib.hid (HE.out.trans (lexPs_end (a := xs) (b := ys) (k := k) (by rw [HL.out]; omega) (by rw [HM.out]; omega)))
        go_wp2
        go_ret
        exact ⟨by rw [H.out]; rfl, HW.out⟩

theorem compare18 (a pa a' pa' : Option Addr) (c pc c' pc' : Nat) (x y : Lin) (w : World) (R : Bag w a c x.base) (P : Bags w pa pc x.ps) (R' : Bag w a' c' y.base) (P' : Bags w pa' pc' y.ps) :
    Calls Tryd.prog 13 #[.agg #[.slice a x.base.length c, .slice pa x.ps.length pc], .agg #[.slice a' y.base.length c', .slice pa' y.ps.length pc']] w (Tells (cmpLin x y) w) := by
  have hle := P.le
  have hle' := P'.le
  obtain ⟨n, hn⟩ : ∃ n, n = x.base.length := ⟨_, rfl⟩
  obtain ⟨m, hm⟩ : ∃ m, m = x.ps.length := ⟨_, rfl⟩
  obtain ⟨n', hn'⟩ : ∃ n, n = y.base.length := ⟨_, rfl⟩
  obtain ⟨m', hm'⟩ : ∃ m, m = y.ps.length := ⟨_, rfl⟩
  have HB1 : Hid (Below w.heap.size w (w.alloc (.cells #[.slice a n c, .slice pa m pc] 28))) := Lib.hid ((Below.refl _ _).alloc (Nat.le_refl _) _)
  have HX0 := Lies.new w 28 [.slice a n c, .slice pa m pc]
  have HB0 : Hid (Below w.heap.size w ((w.alloc (.cells #[.slice a n c, .slice pa m pc] 28)).alloc (.cells #[.slice a' n' c', .slice pa' m' pc'] 28))) := Lib.hid (HB1.out.alloc HB1.out.size _)
  have HX : Hid (Lies ((w.alloc (.cells #[.slice a n c, .slice pa m pc] 28)).alloc (.cells #[.slice a' n' c', .slice pa' m' pc'] 28)) w.heap.size 28 [.slice a n c, .slice pa m pc]) := Lib.hid (HX0.alloc _)
  have HY : Hid (Lies ((w.alloc (.cells #[.slice a n c, .slice pa m pc] 28)).alloc (.cells #[.slice a' n' c', .slice pa' m' pc'] 28)) (w.heap.size + 1) 28 [.slice a' n' c', .slice pa' m' pc']) := Lib.hid (by
    have := Lies.new (w.alloc (.cells #[.slice a n c, .slice pa m pc] 28)) 28 [.slice a' n' c', .slice pa' m' pc']
    simpa using this)
  have HR := Lib.hid (R.below (HB0.out).toBelow)
  have HP := Lib.hid (P.below (HB0.out).toBelow)
  have HR' := Lib.hid (R'.below (HB0.out).toBelow)
  have HP' := Lib.hid (P'.below (HB0.out).toBelow)
  rw [← hm] at hle
  rw [← hm'] at hle'
  rw [← hn, ← hm, ← hn', ← hm']
  have HN := Lib.hid hn.symm
  have HM := Lib.hid hm.symm
  have HN' := Lib.hid hn'.symm
  have HM' := Lib.hid hm'.symm
  clear R P R' P' hn hm hn' hm' HX0 HB1
  go_enter Tryd.func13, Tryd.ntmps13
  go_wp2_with (fail)
  have Z := right13 a pa c pc x _ HR.out HP.out
  rw [HN.out, HM.out] at Z
  generalize (w.alloc (.cells #[.slice a n c, .slice pa m pc] 28)).alloc (.cells #[.slice a' n' c', .slice pa' m' pc'] 28) = W at HB0 HX HY HR HP HR' HP' Z ⊢
  generalize hg : w.heap.size = gb at HX HY ⊢
  have HG := Lib.hid hg
  clear hg
  refine Z.mono ?_
  rintro e w1 ⟨rfl, b1⟩
  clear Z
  have hs1 := HY.out.lt
  have q0 : w1.cell? ⟨gb + 1, 0, none⟩ = some (.slice a' n' c') := (b1.cell (p := ⟨gb + 1, 0, none⟩) hs1).trans (HY.out.cell 0)
  have q1 : w1.cell? ⟨gb + 1, 1, none⟩ = some (.slice pa' m' pc') := (b1.cell (p := ⟨gb + 1, 1, none⟩) hs1).trans (HY.out.cell 1)
  have HB1 := Lib.hid b1
  clear b1
  cases hx : rightLin x with
  | false =>
    have E := Lib.hid (cmpLin_no1 (y := y) hx)
    clear hx
    go_wp2
    go_ret
    exact ⟨by rw [E.out]; try rfl, HB0.out.trans (HB1.out.mono HB0.out.size)⟩
  | true =>
    have HRX := Lib.hid hx
    clear hx
    have Z := right13 a' pa' c' pc' y _ (HR'.out.below (HB1.out).toBelow) (HP'.out.below (HB1.out).toBelow)
    rw [HN'.out, HM'.out] at Z
    go_wp2_with (fail)
    refine Z.mono ?_
    rintro e w2 ⟨rfl, b2⟩
    clear Z q0 q1
    have HB2 := Lib.hid (HB1.out.trans (b2.mono HB1.out.size))
    clear b2 HB1
    have q0 : w2.cell? ⟨gb + 1, 0, none⟩ = some (.slice a' n' c') := (HB2.out.cell (p := ⟨gb + 1, 0, none⟩) hs1).trans (HY.out.cell 0)
    have q1 : w2.cell? ⟨gb + 1, 1, none⟩ = some (.slice pa' m' pc') := (HB2.out.cell (p := ⟨gb + 1, 1, none⟩) hs1).trans (HY.out.cell 1)
    have p0 : w2.cell? ⟨gb, 0, none⟩ = some (.slice a n c) := (HB2.out.cell (p := ⟨gb, 0, none⟩) HX.out.lt).trans (HX.out.cell 0)
    have p1 : w2.cell? ⟨gb, 1, none⟩ = some (.slice pa m pc) := (HB2.out.cell (p := ⟨gb, 1, none⟩) HX.out.lt).trans (HX.out.cell 1)
    cases hy : rightLin y with
    | false =>
      have E := Lib.hid (cmpLin_no2 (x := x) hy)
      clear hy
      go_wp2
      go_ret
      exact ⟨by rw [E.out]; try rfl, HB0.out.trans (HB2.out.mono HB0.out.size)⟩
    | true =>
      have E := Lib.hid (cmpLin_or HRX.out hy)
      clear hy
      have HR2 := Lib.hid (HR.out.below (HB2.out).toBelow)
      have HP2 := Lib.hid (HP.out.below (HB2.out).toBelow)
      have HR2' := Lib.hid (HR'.out.below (HB2.out).toBelow)
      have HP2' := Lib.hid (HP'.out.below (HB2.out).toBelow)
      have HXs := Lib.hid (Nat.lt_of_lt_of_le HX.out.lt HB2.out.size)
      have HYs := Lib.hid (Nat.lt_of_lt_of_le HY.out.lt HB2.out.size)
      have HBB := Lib.hid (HB0.out.trans (HB2.out.mono HB0.out.size))
      have Z1 : Hid (Calls Tryd.prog 18 #[.slice a n c, .slice a' n' c'] w2.drew (Tells (cmpL x.base y.base) w2.drew)) := Lib.hid (by
        have := cmp21 a a' c c' x.base y.base w2.drew HR2.out HR2'.out
        rwa [HN.out, HN'.out] at this)
      have Z3 : Hid (∀ W3, Below w2.heap.size w2 W3 → Calls Tryd.prog 22 #[.slice pa m pc, .slice pa' m' pc', .func (.func 18) #[] #[]] W3 (Tells (lexPs x.ps y.ps) W3)) := Lib.hid (fun W3 h => by
        have := cmpFunc pa pa' pc pc' x.ps y.ps W3 (HP2.out.below (h).toBelow) (HP2'.out.below (h).toBelow)
        rwa [HM.out, HM'.out] at this)
      rw [HM.out, HM'.out] at E
      generalize cmpL x.base y.base = v1 at Z1 E
      generalize lexPs x.ps y.ps = v3 at Z3 E
      generalize hv2 : sgn m m' = v2 at E
      have HV2 := Lib.hid hv2
      clear hv2 HX HY HR HP HR' HP' HB0 HB2 HR2 HP2 HR2' HP2'
      go_wp2_with (fail)
      go_region_held3 (fun w' => w'.cell? ⟨gb, 0, none⟩ = some (.slice a n c) ∧ w'.cell? ⟨gb + 1, 0, none⟩ = some (.slice a' n' c') ∧ w'.cell? ⟨gb, 1, none⟩ = some (.slice pa m pc) ∧ w'.cell? ⟨gb + 1, 1, none⟩ = some (.slice pa' m' pc'))
        (first | (exact ⟨p0, q0, p1, q1⟩) | (exact ⟨p03, q03, p13, q13⟩) | (exact ⟨p04, q04, p14, q14⟩) | go_keep)
        (first
          | (go_at_call 18; refine Z1.out.mono ?_; rintro e w3 ⟨rfl, b3⟩; (replace b3 : Below w2.heap.size w2 w3 := undrew b3); (have p03 := (b3.cell (p := ⟨gb, 0, none⟩) HXs.out).trans p0); (have q03 := (b3.cell (p := ⟨gb + 1, 0, none⟩) HYs.out).trans q0); (have p13 := (b3.cell (p := ⟨gb, 1, none⟩) HXs.out).trans p1); (have q13 := (b3.cell (p := ⟨gb + 1, 1, none⟩) HYs.out).trans q1))
          | (go_at_call 21; refine (cmp_int _ _ _).mono ?_; rintro e w' ⟨rfl, rfl⟩; rw [HV2.out])
          | (go_at_call 22; refine (Z3.out _ b3).mono ?_; rintro e w4 ⟨rfl, b4⟩; (have b4 : Below w2.heap.size w2 w4 := b3.trans (b4.mono b3.size)); (have p04 := (b4.cell (p := ⟨gb, 0, none⟩) HXs.out).trans p0); (have q04 := (b4.cell (p := ⟨gb + 1, 0, none⟩) HYs.out).trans q0); (have p14 := (b4.cell (p := ⟨gb, 1, none⟩) HXs.out).trans p1); (have q14 := (b4.cell (p := ⟨gb + 1, 1, none⟩) HYs.out).trans q1))
          | (go_at_call 20; refine (or_any (some ⟨w4.heap.size, 0, none⟩) 3 [v1, v2, v3] _ (bag_new3 w4 v1 v2 v3)).mono ?_; rintro e w' ⟨rfl, rfl⟩))
      go_wp2
      go_ret
      exact ⟨by rw [E.out]; try rfl, HBB.out.trans ((b4.alloc (by exact b4.size) _).mono (by exact HBB.out.size))⟩

end Go.Proofs.YtmefmnpmppdpmabDoor.Z

/-! Sorting by insertion, in plain words, over bags in memory. -/
namespace Go.Proofs.YtmefmnpmppdpmabDoor
open Go.ChangeShapes Go.WideShapes Go.ChangeAt Go.RowKit

def bg0 : Bg := ⟨none, 0, []⟩
/-- Place p of them. -/
def bgAt (l : List Bg) (p : Nat) : Bg := l.getD p bg0
theorem bgAt_get {l : List Bg} {p : Nat} (h : p < l.length) : bgAt l p = l[p] := by simp [bgAt, List.getD, h]
/-- Not behind. -/
def Le (a b : Bg) : Prop := cmpL a.xs b.xs ≤ 0
def Rights (l : List Bg) : Prop := ∀ p ∈ l, rightL p.xs = true
/-- Up to place k they rise, but for the one at place j, of which nothing is known of those ahead of it. -/
def Ins (l : List Bg) (j k : Nat) : Prop := ∀ p q, p < q → q ≤ k → q ≠ j → Le (bgAt l p) (bgAt l q)
/-- Up to place k they rise. -/
def Up (l : List Bg) (k : Nat) : Prop := ∀ p q, p < q → q < k → Le (bgAt l p) (bgAt l q)
theorem at_right {l : List Bg} (h : Rights l) (p : Nat) : rightL (bgAt l p).xs = true := by
  by_cases hp : p < l.length
  · rw [bgAt_get hp]; exact h _ (List.getElem_mem hp)
  · have : bgAt l p = bg0 := by simp [bgAt, List.getD, hp]
    rw [this]; exact right_nil
/-- A row of the same bags in another order. -/
structure Sorts (w : World) (a : Option Addr) (c : Nat) (ps : List Bg) (W : World) (l : List Bg) : Prop where
  bgs : Bgs W a c l
  len : l.length = ps.length
  mem : ∀ x, x ∈ l ↔ x ∈ ps
  kept : Kept (fun g => a = some ⟨g, 0, none⟩) w W
theorem Sorts.refl {w : World} {a : Option Addr} {c : Nat} {ps : List Bg} (h : Bgs w a c ps) : Sorts w a c ps w ps := ⟨h, rfl, fun _ => Iff.rfl, Kept.refl _ _⟩
theorem Sorts.below {w W W' : World} {a : Option Addr} {c : Nat} {ps l : List Bg} (h : Sorts w a c ps W l) (b : Below W.heap.size W W') : Sorts w a c ps W' l :=
  ⟨h.bgs.below b, h.len, h.mem, h.kept.trans (Y := fun _ => False) (Kept.of_below b) (fun _ _ e => e.elim)⟩
theorem Row.put {w : World} {t : TypeId} {g c : Nat} {xs : List Value} (h : Row w t (some ⟨g, 0, none⟩) c xs) {j : Nat} (hj : j < xs.length) (u : Value) : Row (w.setCell ⟨g, j, none⟩ u) t (some ⟨g, 0, none⟩) c (xs.set j u) := by
  rcases h with ⟨e, _⟩ | ⟨g', sp, e, hc, hm, l⟩
  · cases e
  · injection e with e; injection e with e; subst e
    refine .inr ⟨g, sp, rfl, by rw [List.length_set]; exact hc, hm, (l.set j u).to ?_⟩
    rw [List.set_append_left _ _ hj]
theorem Sorts.at {w W : World} {g c : Nat} {ps l : List Bg} (h : Sorts w (some ⟨g, 0, none⟩) c ps W l) {j : Nat} (hj : j < l.length) : W.cell? ⟨g, j, none⟩ = some (.slice (bgAt l j).a (bgAt l j).xs.length (bgAt l j).c) ∧ Bag W (bgAt l j).a (bgAt l j).c (bgAt l j).xs := by
  obtain ⟨g', e, hc, hb⟩ := h.bgs.at hj
  injection e with e; injection e with e; subst e
  rw [bgAt_get hj]
  exact ⟨hc, hb⟩
end Go.Proofs.YtmefmnpmppdpmabDoor

/- lin.Cat. -/
import Derived.Test.YtfkaagndlpcfdaaGreatEf
import Derived.Test.YtfkaagndlpcfdaaGreatCd
import Derived.Test.YtfkaagndlpcfdaaGreatG
namespace Go.Proofs.YtfkaagndlpcfdaaGreat
open Go.ChangeShapes Go.WideShapes Go.ChangeAt Go.RowKit

set_option maxRecDepth 100000 in
theorem add_right {a b : List Int} (h : addOk a b = true) : rightL (addT a b) = true := by
  simp only [addOk, Bool.and_eq_true] at h
  obtain ⟨⟨ha, hb⟩, hf⟩ := h
  have la := (right_iff.1 ha).1
  have lb := (right_iff.1 hb).1
  refine right_of (by rw [add_len]; omega) (fun j hj => ?_) (fun hp => ?_)
  · rw [add_len] at hj
    rw [add_at]
    have h1 := right_at ha j
    have h2 := right_at hb j
    have h3 := addFit_iff.1 hf j hj
    omega
  · rw [add_len] at hp ⊢
    rw [add_at]
    have h1 := right_at ha (max a.length b.length - 1)
    have h2 := right_at hb (max a.length b.length - 1)
    by_cases hab : b.length ≤ a.length
    · have e : max a.length b.length = a.length := by omega
      have h3 := right_last ha (by omega)
      rw [e] at h1 h2 ⊢
      omega
    · have e : max a.length b.length = b.length := by omega
      have h3 := right_last hb (by omega)
      rw [e] at h1 h2 ⊢
      omega
set_option maxRecDepth 100000 in
theorem ofNorm_goods {l : List (List Int)} (g : Goods l) : ofNorm l = l := by
  unfold ofNorm
  have e : l.map normL = l := by
    conv => rhs; rw [← List.map_id l]
    exact List.map_congr_left (fun p hp => norm_self (g p hp).1)
  rw [e, List.filter_eq_self]
  intro p hp
  simpa using (g p hp).2
set_option maxRecDepth 100000 in
theorem cat_of {x y : Lin} (hx : rightLin x = true) (hy : rightLin y = true) (h : addOk x.base y.base = true) :
    catOk x y = true ∧ ofOk (addS x.base y.base) (x.ps ++ y.ps) = true ∧ ofLin (addS x.base y.base) (x.ps ++ y.ps) = catLin x y := by
  have hc : catOk x y = true := by simp [catOk, hx, hy, h]
  have hs : addS x.base y.base = addT x.base y.base := by simp [addS, h]
  have X := rightLin_iff.1 hx
  have Y := rightLin_iff.1 hy
  have g : Goods (x.ps ++ y.ps) := fun z hz => by
    rcases List.mem_append.1 hz with hz | hz
    · exact X.2.1 z hz
    · exact Y.2.1 z hz
  have hr := add_right h
  have F := of_found (b := addT x.base y.base) (ps := x.ps ++ y.ps) (lost_self hr) (fun j hj => lost_self (g _ (by simp only [List.getD_eq_getElem?_getD, List.getElem?_eq_getElem hj, Option.getD_some]; exact List.getElem_mem hj)).1)
  rw [hs, cat_yes hc]
  refine ⟨hc, F.1, ?_⟩
  rw [F.2, norm_self hr, ofNorm_goods g]
  congr 1
  unfold putAll
  rw [List.foldl_append]
set_option maxRecDepth 100000 in
theorem cat_no1 {x y : Lin} (hx : rightLin x = false) : catOk x y = false ∧ catLin x y = ⟨[], []⟩ := by
  have : catOk x y = false := by simp [catOk, hx]
  exact ⟨this, cat_no this⟩
set_option maxRecDepth 100000 in
theorem cat_no2 {x y : Lin} (hx : rightLin y = false) : catOk x y = false ∧ catLin x y = ⟨[], []⟩ := by
  have : catOk x y = false := by simp [catOk, hx]
  exact ⟨this, cat_no this⟩
set_option maxRecDepth 100000 in
theorem cat_no3 {x y : Lin} (hx : addOk x.base y.base = false) : catOk x y = false ∧ catLin x y = ⟨[], []⟩ := by
  have : catOk x y = false := by simp [catOk, hx]
  exact ⟨this, cat_no this⟩

/-- Two linear sets in boxes gb, gb + 1, and an empty one behind them. -/
structure CatSt (w : World) (gb : Nat) (a pa a' pa' : Option Addr) (c n pc m c' n' pc' m' : Nat) (x y : Lin) (ps qs : List Bg) (W : World) : Prop where
  bel : Below w.heap.size w W
  lx : Lies W gb 60 [.slice a n c, .slice pa m pc]
  ly : Lies W (gb + 1) 60 [.slice a' n' c', .slice pa' m' pc']
  lz : Lies W (gb + 1 + 1) 60 [.slice none 0 0, .slice none 0 0]
  bx : Bag W a c x.base
  px : Bgs W pa pc ps
  bY : Bag W a' c' y.base
  py : Bgs W pa' pc' qs
  hg : w.heap.size = gb
section
variable {w W W' : World} {gb : Nat} {a pa a' pa' : Option Addr} {c n pc m c' n' pc' m' : Nat} {x y : Lin} {ps qs : List Bg}
set_option maxRecDepth 100000 in
theorem CatSt.below (h : CatSt w gb a pa a' pa' c n pc m c' n' pc' m' x y ps qs W) (k : Below W.heap.size W W') : CatSt w gb a pa a' pa' c n pc m c' n' pc' m' x y ps qs W' :=
  ⟨h.bel.trans (k.mono h.bel.size), h.lx.below k h.lx.lt, h.ly.below k h.ly.lt, h.lz.below k h.lz.lt, h.bx.below k, h.px.below k, h.bY.below k, h.py.below k, h.hg⟩
set_option maxRecDepth 100000 in
theorem CatSt.x0 (h : CatSt w gb a pa a' pa' c n pc m c' n' pc' m' x y ps qs W) : W.cell? ⟨gb, 0, none⟩ = some (.slice a n c) := h.lx.cell 0
set_option maxRecDepth 100000 in
theorem CatSt.x1 (h : CatSt w gb a pa a' pa' c n pc m c' n' pc' m' x y ps qs W) : W.cell? ⟨gb, 1, none⟩ = some (.slice pa m pc) := h.lx.cell 1
set_option maxRecDepth 100000 in
theorem CatSt.y0 (h : CatSt w gb a pa a' pa' c n pc m c' n' pc' m' x y ps qs W) : W.cell? ⟨gb + 1, 0, none⟩ = some (.slice a' n' c') := h.ly.cell 0
set_option maxRecDepth 100000 in
theorem CatSt.y1 (h : CatSt w gb a pa a' pa' c n pc m c' n' pc' m' x y ps qs W) : W.cell? ⟨gb + 1, 1, none⟩ = some (.slice pa' m' pc') := h.ly.cell 1
set_option maxRecDepth 100000 in
theorem CatSt.z0 (h : CatSt w gb a pa a' pa' c n pc m c' n' pc' m' x y ps qs W) : W.cell? ⟨gb + 1 + 1, 0, none⟩ = some (.slice none 0 0) := h.lz.cell 0
set_option maxRecDepth 100000 in
theorem CatSt.z1 (h : CatSt w gb a pa a' pa' c n pc m c' n' pc' m' x y ps qs W) : W.cell? ⟨gb + 1 + 1, 1, none⟩ = some (.slice none 0 0) := h.lz.cell 1
set_option maxRecDepth 100000 in
/-- Another's answer into the third box. -/
theorem makesF_put {w0 w1 : World} {g : Nat} {cs : List Value} {u0 u1 : Value} (hcs : cs = [u0, u1]) {x : Lin} {ok : Bool} {a pa : Option Addr} {c n pc m : Nat} {ps : List Bg} (hb : Below w0.heap.size w0 W) (hW : w1.heap.size ≤ W.heap.size) (h01 : w0.heap.size ≤ w1.heap.size) (l : Lies W g 60 cs) (hg : w0.heap.size ≤ g)
    (hw : words ps = x.ps) (hn : x.base.length = n) (hm : x.ps.length = m) (B : Bag W a c x.base) (P : Bgs W pa pc ps) (fa : From w1.heap.size a) (fp : From w1.heap.size pa) (fe : ∀ p ∈ ps, From w1.heap.size p.a) :
    ((W.setCell ⟨g, 0, none⟩ (.slice a n c)).setCell ⟨g, 1, none⟩ (.slice pa m pc)).cell? ⟨g, 0, none⟩ = some (.slice a n c) ∧
    ((W.setCell ⟨g, 0, none⟩ (.slice a n c)).setCell ⟨g, 1, none⟩ (.slice pa m pc)).cell? ⟨g, 1, none⟩ = some (.slice pa m pc) ∧
    MakesLinF x ok w0 (.returned (.tuple #[.agg #[.slice a n c, .slice pa m pc], .bool ok])) ((W.setCell ⟨g, 0, none⟩ (.slice a n c)).setCell ⟨g, 1, none⟩ (.slice pa m pc)) := by
  subst hcs; subst hn; subst hm
  have _ := hW
  have l1 : Lies (W.setCell ⟨g, 0, none⟩ (.slice a x.base.length c)) g 60 [.slice a x.base.length c, u1] := (l.set 0 _).to rfl
  have l2 : Lies ((W.setCell ⟨g, 0, none⟩ (.slice a x.base.length c)).setCell ⟨g, 1, none⟩ (.slice pa x.ps.length pc)) g 60 [.slice a x.base.length c, .slice pa x.ps.length pc] := (l1.set 1 _).to rfl
  have k1 := kept_set W g 0 (.slice a x.base.length c)
  have k2 := kept_set (W.setCell ⟨g, 0, none⟩ (.slice a x.base.length c)) g 1 (.slice pa x.ps.length pc)
  exact ⟨l2.cell 0, l2.cell 1, a, c, pa, pc, ps, hw, rfl, (B.far l k1).far l1 k2, (P.far l k1).far l1 k2, fa.mono h01, fp.mono h01, fun p hp => (fe p hp).mono h01, (hb.setCell hg _).setCell hg _⟩
end
set_option maxRecDepth 100000 in
theorem goods_short {l : List (List Int)} (g : Goods l) (j : Nat) : (l.getD j []).length ≤ 1000 := by
  by_cases hj : j < l.length
  · have hm : l.getD j [] ∈ l := by simp [List.getD, hj]
    have := (right_iff.1 (g _ hm).1).1
    omega
  · simp [List.getD, hj]

set_option maxRecDepth 100000 in
set_option maxHeartbeats 4000000 in
theorem cat11 (a pa a' pa' : Option Addr) (c pc c' pc' : Nat) (x y : Lin) (w : World) (R : Bag w a c x.base) (P : Bags w pa pc x.ps) (R' : Bag w a' c' y.base) (P' : Bags w pa' pc' y.ps) (hs : x.ps.length + y.ps.length ≤ 100000000000) :
    Calls Tryz.prog 47 #[.agg #[.slice a x.base.length c, .slice pa x.ps.length pc], .agg #[.slice a' y.base.length c', .slice pa' y.ps.length pc']] w (MakesLinF (catLin x y) (catOk x y) w) := by
  have hle := P.le
  have hle' := P'.le
  obtain ⟨ps, hps, P⟩ := P
  obtain ⟨qs, hqs, P'⟩ := P'
  obtain ⟨n, hn⟩ : ∃ n, n = x.base.length := ⟨_, rfl⟩
  obtain ⟨m, hm⟩ : ∃ m, m = x.ps.length := ⟨_, rfl⟩
  obtain ⟨n', hn'⟩ : ∃ n, n = y.base.length := ⟨_, rfl⟩
  obtain ⟨m', hm'⟩ : ∃ m, m = y.ps.length := ⟨_, rfl⟩
  have HS : Hid (CatSt w w.heap.size a pa a' pa' c n pc m c' n' pc' m' x y ps qs (((w.alloc (.cells #[.slice a n c, .slice pa m pc] 60)).alloc (.cells #[.slice a' n' c', .slice pa' m' pc'] 60)).alloc (.cells #[.slice none 0 0, .slice none 0 0] 60))) := Lib.hid (by
    have b1 := below_alloc w (.cells #[.slice a n c, .slice pa m pc] 60)
    have b2 := below_alloc (w.alloc (.cells #[.slice a n c, .slice pa m pc] 60)) (.cells #[.slice a' n' c', .slice pa' m' pc'] 60)
    have b3 := below_alloc ((w.alloc (.cells #[.slice a n c, .slice pa m pc] 60)).alloc (.cells #[.slice a' n' c', .slice pa' m' pc'] 60)) (.cells #[.slice none 0 0, .slice none 0 0] 60)
    have l1 := Lies.new w 60 [.slice a n c, .slice pa m pc]
    have l2 := Lies.new (w.alloc (.cells #[.slice a n c, .slice pa m pc] 60)) 60 [.slice a' n' c', .slice pa' m' pc']
    have l3 := Lies.new ((w.alloc (.cells #[.slice a n c, .slice pa m pc] 60)).alloc (.cells #[.slice a' n' c', .slice pa' m' pc'] 60)) 60 [.slice none 0 0, .slice none 0 0]
    exact ⟨(b1.trans (b2.mono b1.size)).trans (b3.mono (Nat.le_trans b1.size b2.size)), (l1.alloc _).alloc _, by simpa using l2.alloc _, by simpa using l3, ((R.below b1).below b2).below b3, ((P.below b1).below b2).below b3, ((R'.below b1).below b2).below b3, ((P'.below b1).below b2).below b3, rfl⟩)
  rw [← hm] at hle hs
  rw [← hm'] at hle' hs
  rw [← hn, ← hm, ← hn', ← hm']
  have HN := Lib.hid hn.symm
  have HM := Lib.hid hm.symm
  have HN' := Lib.hid hn'.symm
  have HM' := Lib.hid hm'.symm
  have HPS := Lib.hid hps
  have HQS := Lib.hid hqs
  clear R P R' P' hn hm hn' hm' hps hqs
  go_enter Tryz.func47, Tryz.ntmps47
  go_wp2_with (fail)
  generalize ((w.alloc (.cells #[.slice a n c, .slice pa m pc] 60)).alloc (.cells #[.slice a' n' c', .slice pa' m' pc'] 60)).alloc (.cells #[.slice none 0 0, .slice none 0 0] 60) = W at HS ⊢
  generalize hgb : w.heap.size = gb at HS ⊢
  have HG4 : Hid (w.heap.size ≤ gb + 1 + 1) := Lib.hid (by omega)
  clear hgb
  have Z := right13 a pa c pc x W HS.out.bx ⟨ps, HPS.out, HS.out.px⟩
  rw [HN.out, HM.out] at Z
  refine Z.mono ?_
  rintro e w1 ⟨rfl, b1⟩
  clear Z
  have HS1 := Lib.hid (HS.out.below b1)
  clear b1 HS
  have y0 := HS1.out.y0
  have y1 := HS1.out.y1
  have z0 := HS1.out.z0
  have z1 := HS1.out.z1
  cases hx : rightLin x with
  | false =>
    have HL := Lib.hid (cat_no1 (y := y) hx)
    clear hx
    obtain ⟨e0, e1, eb⟩ := OfP.zeros _ _ rfl HS1.out.bel HS1.out.lz HG4.out
    have HF := Lib.hid (makesF_none HL.out.2 HL.out.1 eb)
    have HE0 := Lib.hid e0
    have HE1 := Lib.hid e1
    have f0 := HS1.out.lz.frozen 0
    have f1 := HS1.out.lz.frozen 1
    clear e0 e1 eb
    go_wp2
    generalize (w1.setCell ⟨gb + 1 + 1, 0, none⟩ (.slice none 0 0)).setCell ⟨gb + 1 + 1, 1, none⟩ (.slice none 0 0) = WF at HE0 HE1 HF ⊢
    have e0 := HE0.out
    have e1 := HE1.out
    exact bodyPost_ret (v := .tuple #[.agg #[.slice none 0 0, .slice none 0 0], .bool false]) (by simp [results, Tryz.results47, go_sem, e0, e1]) rfl HF.out
  | true =>
    have HRX := Lib.hid hx
    clear hx
    have Z := right13 a' pa' c' pc' y w1 HS1.out.bY ⟨qs, HQS.out, HS1.out.py⟩
    rw [HN'.out, HM'.out] at Z
    go_wp2_with (fail)
    refine Z.mono ?_
    rintro e w2 ⟨rfl, b2⟩
    clear Z y0 y1 z0 z1
    have HS2 := Lib.hid (HS1.out.below b2)
    clear b2 HS1
    have x0 := HS2.out.x0
    have y0 := HS2.out.y0
    have z0 := HS2.out.z0
    have z1 := HS2.out.z1
    have f0 := HS2.out.lz.frozen 0
    have f1 := HS2.out.lz.frozen 1
    cases hy : rightLin y with
    | false =>
      have HL := Lib.hid (cat_no2 (x := x) hy)
      clear hy
      obtain ⟨e0, e1, eb⟩ := OfP.zeros _ _ rfl HS2.out.bel HS2.out.lz HG4.out
      have HF := Lib.hid (makesF_none HL.out.2 HL.out.1 eb)
      have HE0 := Lib.hid e0
      have HE1 := Lib.hid e1
      clear e0 e1 eb
      go_wp2
      generalize (w2.setCell ⟨gb + 1 + 1, 0, none⟩ (.slice none 0 0)).setCell ⟨gb + 1 + 1, 1, none⟩ (.slice none 0 0) = WF at HE0 HE1 HF ⊢
      have e0 := HE0.out
      have e1 := HE1.out
      exact bodyPost_ret (v := .tuple #[.agg #[.slice none 0 0, .slice none 0 0], .bool false]) (by simp [results, Tryz.results47, go_sem, e0, e1]) rfl HF.out
    | true =>
      have HRY := Lib.hid hy
      clear hy
      have Z := add10 a a' c c' x.base y.base w2 HS2.out.bx HS2.out.bY
      rw [HN.out, HN'.out] at Z
      have HZ := Lib.hid Z
      clear Z
      go_wp2_with (fail)
      refine HZ.out.mono ?_
      rintro e w3 ⟨a3, c3, rfl, r3, g3, b3⟩
      clear HZ x0 y0 z0 z1 f0 f1
      have HS3 := Lib.hid (HS2.out.below b3)
      have hle3 := r3.le
      have HR3 := Lib.hid r3
      generalize hn3 : (addS x.base y.base).length = n3 at hle3 ⊢
      have HN3 := Lib.hid hn3
      generalize hv : addOk x.base y.base = v
      have HV := Lib.hid hv
      clear b3 r3 g3 HS2 hn3 hv
      have x1 := HS3.out.x1
      have y1 := HS3.out.y1
      have z0 := HS3.out.z0
      have z1 := HS3.out.z1
      have f0 := HS3.out.lz.frozen 0
      have f1 := HS3.out.lz.frozen 1
      cases v
      · have HL := Lib.hid (cat_no3 HV.out)
        obtain ⟨e0, e1, eb⟩ := OfP.zeros _ _ rfl HS3.out.bel HS3.out.lz HG4.out
        have HF := Lib.hid (makesF_none HL.out.2 HL.out.1 eb)
        have HE0 := Lib.hid e0
        have HE1 := Lib.hid e1
        clear e0 e1 eb
        go_wp2
        generalize (w3.setCell ⟨gb + 1 + 1, 0, none⟩ (.slice none 0 0)).setCell ⟨gb + 1 + 1, 1, none⟩ (.slice none 0 0) = WF at HE0 HE1 HF ⊢
        have e0 := HE0.out
        have e1 := HE1.out
        exact bodyPost_ret (v := .tuple #[.agg #[.slice none 0 0, .slice none 0 0], .bool false]) (by simp [results, Tryz.results47, go_sem, e0, e1]) rfl HF.out
      · have HC := Lib.hid (cat_of HRX.out HRY.out HV.out)
        have b4 := below_alloc w3 (.cells #[.slice pa m pc, .slice pa' m' pc'] 58)
        have HS4 := Lib.hid (HS3.out.below b4)
        have HR4 := Lib.hid (HR3.out.below b4)
        have Z := concat_any w3.heap.size pa pa' pc pc' m m' ps qs _ (Lies.new w3 58 [.slice pa m pc, .slice pa' m' pc']) HS4.out.px HS4.out.py (by rw [← words_len, HPS.out, HM.out]) (by rw [← words_len, HQS.out, HM'.out]) (by omega)
        have HZ := Lib.hid Z
        clear Z b4 HS3 HR3
        go_wp2_with (fail)
        refine HZ.out.mono ?_
        rintro e w5 ⟨a5, c5, rfl, r5, g5, b5⟩
        have HS5 := Lib.hid (HS4.out.below b5)
        have HR5 := Lib.hid (HR4.out.below b5)
        have hw : words (ps ++ qs) = x.ps ++ y.ps := by rw [← HPS.out, ← HQS.out]; simp [words]
        have hlen : (ps ++ qs).length = m + m' := by rw [← words_len, hw, List.length_append, HM.out, HM'.out]
        have hgo : Goods (x.ps ++ y.ps) := fun z hz => by
          rcases List.mem_append.1 hz with hz | hz
          · exact (rightLin_iff.1 HRX.out).2.1 z hz
          · exact (rightLin_iff.1 HRY.out).2.1 z hz
        have hl2 : (x.ps ++ y.ps).length = m + m' := by rw [List.length_append, HM.out, HM'.out]
        have hbl : (addS x.base y.base).length ≤ 1000 := by
          have h1 := add_right HV.out
          have h2 : addS x.base y.base = addT x.base y.base := by simp [addS, HV.out]
          have := (right_iff.1 h1).1
          rw [h2]; omega
        have Z := of9 a3 a5 c3 c5 (addS x.base y.base) (x.ps ++ y.ps) w5 HR5.out ⟨_, hw, r5⟩ hbl (goods_short hgo) (by rw [hl2]; omega)
        rw [HN3.out, hl2, HC.out.2.1, HC.out.2.2] at Z
        rw [hlen]
        have HZ2 := Lib.hid Z
        have hle5 := r5.le
        rw [hlen] at hle5
        clear Z HZ r5 g5 b5 hw hlen hgo hl2 hbl HS4 HR4 HR5 x1 y1 z0 z1 f0 f1
        go_wp2_with (fail)
        refine HZ2.out.mono ?_
        rintro e w6 ⟨a6, c6, pa6, pc6, ps6, hw6, rfl, r6, p6, fa6, fp6, fe6, b6⟩
        have HS6 := Lib.hid (HS5.out.below b6)
        obtain ⟨n6, hn6⟩ : ∃ n, n = (catLin x y).base.length := ⟨_, rfl⟩
        obtain ⟨m6, hm6⟩ : ∃ n, n = (catLin x y).ps.length := ⟨_, rfl⟩
        obtain ⟨e0, e1, eF⟩ := makesF_put (ok := true) rfl HS6.out.bel b6.size HS5.out.bel.size HS6.out.lz HG4.out hw6 hn6.symm hm6.symm r6 p6 fa6 fp6 fe6
        rw [← hn6, ← hm6]
        have HE0 := Lib.hid e0
        have HE1 := Lib.hid e1
        have HF := Lib.hid eF
        have z0 := HS6.out.z0
        have z1 := HS6.out.z1
        have f0 := HS6.out.lz.frozen 0
        have f1 := HS6.out.lz.frozen 1
        clear e0 e1 eF r6 p6 fa6 fp6 fe6 b6 hn6 hm6 hw6 HZ2 HS5
        go_wp2
        generalize (w6.setCell ⟨gb + 1 + 1, 0, none⟩ (.slice a6 n6 c6)).setCell ⟨gb + 1 + 1, 1, none⟩ (.slice pa6 m6 pc6) = WF at HE0 HE1 HF ⊢
        have e0 := HE0.out
        have e1 := HE1.out
        refine bodyPost_ret (v := .tuple #[.agg #[.slice a6 n6 c6, .slice pa6 m6 pc6], .bool true]) (by simp [results, Tryz.results47, go_sem, e0, e1]) rfl ?_
        rw [HC.out.1]
        exact HF.out
end Go.Proofs.YtfkaagndlpcfdaaGreat

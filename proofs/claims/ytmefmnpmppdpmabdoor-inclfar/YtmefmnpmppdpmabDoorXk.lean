import Derived.Test.YtmefmnpmppdpmabDoorXg
/- The search of one linear set, walked: within. -/
namespace Go.Proofs.YtmefmnpmppdpmabDoor
open Go.ChangeShapes Go.WideShapes Go.ChangeAt Go.RowKit Go.Maps

def cellN (w : World) (p : Addr) : Nat := match w.cell? p with
  | some (.int _ n) => n.toNat
  | _ => 0
section
variable {w0 W : World} {mp : Option Addr} {M : Mr} {gs gm lv : Nat} {bv : Value} {qa : Option Addr} {qc : Nat} {P : List Pr} {T : List (List UInt8)}
theorem SqAt.gsFar (h : SqAt w0 mp M gs gm bv lv qa qc P T W) : FarQ (fun g => g = gs) W := ⟨fun g cs l e => by subst e; exact l.other h.box (by decide) rfl, fun g cs l e => by subst e; exact l.other h.box (by decide) rfl⟩
theorem SqAt.qaGs (h : SqAt w0 mp M gs gm bv lv qa qc P T W) : ∀ g, qa = some ⟨g, 0, none⟩ → ¬ g = gs := fun g e e2 => by
  obtain ⟨cs, l2⟩ := h.prs.lies e
  subst e2
  exact h.box.other l2 (by decide) rfl
/-- What was put in is taken. -/
theorem SqAt.clear (h : SqAt w0 mp M gs gm bv lv qa qc P T W) : SqAt w0 mp M gs gm bv lv none 0 [] T (W.setCell ⟨gs, 3, none⟩ (.slice none 0 0)) ∧ Qrs (W.setCell ⟨gs, 3, none⟩ (.slice none 0 0)) qa qc P := by
  have k : Kept (fun g => g = gs) W (W.setCell ⟨gs, 3, none⟩ (.slice none 0 0)) := (Kept.refl (fun g => g = gs) W).setCell (p := ⟨gs, 3, none⟩) (fun _ => rfl) _
  refine ⟨⟨h.meter.kept k (fun g e e2 => by have := h.old _ e; have := h.hs; omega), h.old, h.kept.trans k (fun i hi e => by have := h.hs; omega), h.map.kept k (fun e => h.map.cells h.box e.symm), h.hm, ?_, h.hs, ⟨[], rfl, Qbs.nil _⟩, From.none _⟩, h.prs.far k h.gsFar h.qaGs⟩
  have := h.box.set 3 (.slice none 0 0)
  simpa [sqCells] using this
/-- One letter more was read. -/
theorem SqAt.letter (h : SqAt w0 mp M gs gm bv lv qa qc P T W) : SqAt w0 mp M gs gm bv (lv + 1) qa qc P T (W.setCell ⟨gs, 2, none⟩ (.int .i64 ((lv : Int) + 1))) ∧ Kept (fun g => g = gs) W (W.setCell ⟨gs, 2, none⟩ (.int .i64 ((lv : Int) + 1))) := by
  have k : Kept (fun g => g = gs) W (W.setCell ⟨gs, 2, none⟩ (.int .i64 ((lv : Int) + 1))) := (Kept.refl (fun g => g = gs) W).setCell (p := ⟨gs, 2, none⟩) (fun _ => rfl) _
  refine ⟨⟨h.meter.kept k (fun g e e2 => by have := h.old _ e; have := h.hs; omega), h.old, h.kept.trans k (fun i hi e => by have := h.hs; omega), h.map.kept k (fun e => h.map.cells h.box e.symm), h.hm, ?_, h.hs, h.prs.far k h.gsFar h.qaGs, h.new⟩, k⟩
  have := h.box.set 2 (.int .i64 ((lv : Int) + 1))
  simpa [sqCells] using this
theorem SqAt.count (h : SqAt w0 mp M gs gm bv lv qa qc P T W) : cellN W ⟨gs, 2, none⟩ = lv := by
  have := h.box.cell 2
  simp only [sqCells, List.getElem?_cons_zero, List.getElem?_cons_succ] at this
  unfold cellN
  rw [this]
  simp
end
/-- What a search of one linear set comes to. -/
def WiP (mp : Option Addr) (r : Sr) (w : World) (e : Ending) (w' : World) : Prop :=
  ∃ a c, e = .returned (.tuple #[.bool r.ok, .slice a r.w.length c, .int .i64 r.e]) ∧ Bag w' a c r.w ∧ MrAt w' 73 mp r.m ∧ MK mp w w'
set_option maxRecDepth 100000 in
set_option maxHeartbeats 8000000 in
theorem within52 {mp : Option Addr} {M : Mr} (w : World) (HM0 : MrAt w 73 mp M) (htab : TabM mp w) (xa : Option Addr) (xc : Nat) (pa : Option Addr) (pc : Nat) (X : Lin) (HX0 : Bag w xa xc X.base) (HP0 : Bags w pa pc X.ps) (ba : Option Addr) (bc : Nat) (b : List Lin) (HB0 : Lins w ba bc b) (hb3 : b.length ≤ 1000000)
    (G : Pr → Prop) (hG : Goes X b G) (f : Nat) (r : Sr) (hr : searchM f X b M = some r) (hlen : r.q.length ≤ 1000000000) :
    Calls Tryd.prog 10 #[.pointer mp, .agg #[.slice xa X.base.length xc, .slice pa X.ps.length pc], .slice ba b.length bc] w (WiP mp r w) := by
  have hlx := HX0.le
  have hlp := HP0.le
  have hlb := HB0.le
  have HBX : Hid (∀ V, MK mp w V → Bag V xa xc X.base) := Lib.hid (fun V k => bag_mkP HM0 k HX0)
  have HPS : Hid (∀ V, MK mp w V → Bags V pa pc X.ps) := Lib.hid (fun V k => by
    obtain ⟨ps, e, Q⟩ := HP0
    exact ⟨ps, e, Q.row.kept k (fun g e => row_apartM HM0 (by decide) Q.row e), fun p hp => (Q.each p hp).kept k (fun g e => bag_apartM HM0 (by decide) (Q.each p hp) e)⟩)
  have HBL : Hid (∀ V, MK mp w V → Lins V ba bc b) := Lib.hid (fun V k => Lins.mk HM0 mtP k HB0)
  have HOLD : Hid (∀ g, mp = some ⟨g, 0, none⟩ → g < w.heap.size) := Lib.hid (fun g e => HM0.lt e)
  have HMM := Lib.hid HM0
  have HTAB := Lib.hid htab
  have HG := Lib.hid hG
  have HR := Lib.hid hr
  have HLR := Lib.hid hlen
  have HB3 := Lib.hid hb3
  generalize hn0 : X.base.length = n0 at hlx ⊢
  generalize hnp : X.ps.length = np at hlp ⊢
  generalize hnb : b.length = nb at hlb ⊢
  have HN0 := Lib.hid hn0
  have HNP := Lib.hid hnp
  have HNB := Lib.hid hnb
  have b1 := below_alloc w (.cells #[.slice xa n0 xc, .slice pa np pc] 28)
  have b2 := below_alloc (w.alloc (.cells #[.slice xa n0 xc, .slice pa np pc] 28)) (.map #[] 0)
  have b3 := below_alloc ((w.alloc (.cells #[.slice xa n0 xc, .slice pa np pc] 28)).alloc (.map #[] 0)) (.cells #[.pointer mp, .slice ba nb bc, .int .i64 0, .slice none 0 0, .map (some (w.heap.size + 1))] 46)
  have hmap : MapU ((w.alloc (.cells #[.slice xa n0 xc, .slice pa np pc] 28)).alloc (.map #[] 0)) (w.heap.size + 1) [] := by
    have := MapU.new (w.alloc (.cells #[.slice xa n0 xc, .slice pa np pc] 28)); simpa using this
  have hst : SqAt w mp M (w.heap.size + 1 + 1) (w.heap.size + 1) (.slice ba nb bc) 0 none 0 (([] : List Pr).drop 0) (([] : List Pr).map keyT) (((w.alloc (.cells #[.slice xa n0 xc, .slice pa np pc] 28)).alloc (.map #[] 0)).alloc (.cells #[.pointer mp, .slice ba nb bc, .int .i64 0, .slice none 0 0, .map (some (w.heap.size + 1))] 46)) :=
    ⟨((HM0.below b1).below b2).below b3, HOLD.out, ((Kept.refl _ _).alloc _ |>.alloc _) |>.alloc _, hmap.kept (X := fun _ => False) (Kept.of_below b3) (fun e => e), by omega, (by have := Lies.new ((w.alloc (.cells #[.slice xa n0 xc, .slice pa np pc] 28)).alloc (.map #[] 0)) 46 [.pointer mp, .slice ba nb bc, .int .i64 0, .slice none 0 0, .map (some (w.heap.size + 1))]; simpa [sqCells] using this), by omega, ⟨[], rfl, Qbs.nil _⟩, From.none _⟩
  have HST := Lib.hid hst
  have HL0 : Hid (Lies (((w.alloc (.cells #[.slice xa n0 xc, .slice pa np pc] 28)).alloc (.map #[] 0)).alloc (.cells #[.pointer mp, .slice ba nb bc, .int .i64 0, .slice none 0 0, .map (some (w.heap.size + 1))] 46)) w.heap.size 28 [.slice xa n0 xc, .slice pa np pc]) := Lib.hid (((Lies.new w _ _).below b2 (by simp)).below b3 (by simp; omega))
  clear b1 b2 b3 hst hmap HM0 htab HX0 HP0 HB0 hb3 hG hr hlen hn0 hnp hnb
  have hmm := @run_makeMap Tryd.prog
  go_enter Tryd.func10, Tryd.ntmps10
  go_upto_region 2 with (fail)
  clear hmm
  generalize ((w.alloc (.cells #[.slice xa n0 xc, .slice pa np pc] 28)).alloc (.map #[] 0)).alloc (.cells #[.pointer mp, .slice ba nb bc, .int .i64 0, .slice none 0 0, .map (some (w.heap.size + 1))] 46) = W1 at HST HL0 ⊢
  obtain ⟨gs, hgs⟩ : ∃ gs, gs = w.heap.size + 1 + 1 := ⟨_, rfl⟩
  obtain ⟨gm, hgm⟩ : ∃ gm, gm = w.heap.size + 1 := ⟨_, rfl⟩
  obtain ⟨gl, hgl⟩ : ∃ gl, gl = w.heap.size := ⟨_, rfl⟩
  rw [← hgs, ← hgm] at HST
  rw [← hgl] at HL0
  rw [← hgs, ← hgm, ← hgl]
  have HNL : Hid (∀ q, (∀ g, q = some ⟨g, 0, none⟩ → g ≠ gl) → ¬ SX mp gs gm q gl) := Lib.hid (fun q hq e => by
    rcases e with e | e | e | e
    · have := HOLD.out _ e; omega
    · omega
    · omega
    · exact hq gl e rfl)
  have HGS : Hid (gl ≠ gs) := Lib.hid (by omega)
  have HOLD2 := HOLD
  have bd0 : Below W1.heap.size W1 W1.drew := ⟨rfl, rfl, rfl, Nat.le_refl _, fun _ _ => rfl⟩
  have HS1 := Lib.hid (HST.out.below bd0)
  have HL1 := Lib.hid (HL0.out.below bd0 HL0.out.lt)
  have bd := HL1.out
  have Z := start10 ba bc b W1.drew (HBL.out _ HS1.out.kept) HB3.out
  rw [HNB.out] at Z
  have HZS := Lib.hid Z
  obtain ⟨ad, had⟩ : ∃ ad, ad = addP (first X b) [] M := ⟨_, rfl⟩
  have HAD := Lib.hid had
  rw [← HNB.out] at HS1
  clear Z bd0 HST HL0 hgs hgm hgl had
  refine wp_region_held_drew (S := fun V => Lies V gl 28 [.slice xa n0 xc, .slice pa np pc]) (by kernel_rfl) bd (fun hHeld => ?_)
  clear hHeld
  refine wpAnyH_take (i := 0) (oi := { dst := some 17, op := Op.fieldAddr 28 (Operand.tmp 4) 0, type := 0, pos := "search.go:38", after := #[], guard := none }) (v := ?_) rfl (by kernel_rfl) (by kernel_rfl) (by kernel_rfl) (fun _ _ _ h => h) (Or.inl ⟨by rfl, ?_⟩) bd ?_
  rotate_left
  · intro w hSw
    go_simp
    try with_reducible rfl
  try simp only [Act.put, List.setIfInBounds_toArray, List.set_cons_zero, List.set_cons_succ]
  refine wpAnyH_take (i := 1) (oi := { dst := some 18, op := Op.load 24 (Operand.tmp 17), type := 24, pos := "search.go:38", after := #[{ on := 0, ground := Ground.data }], guard := none }) (v := ?_) rfl (by kernel_rfl) (by kernel_rfl) (by kernel_rfl) (fun _ _ _ h => h) (Or.inl ⟨by rfl, ?_⟩) bd ?_
  rotate_left
  · intro w hSw
    have y0 := hSw.cell 0
    simp only [List.getElem?_cons_zero] at y0
    go_simp
    try with_reducible rfl
  try simp only [Act.put, List.setIfInBounds_toArray, List.set_cons_zero, List.set_cons_succ]
  refine wpAnyH_take (i := 2) (oi := { dst := some 19, op := Op.move (Operand.tmp 2), type := 30, pos := "search.go:38", after := #[], guard := none }) (v := ?_) rfl (by kernel_rfl) (by kernel_rfl) (by kernel_rfl) (fun _ _ _ h => h) (Or.inl ⟨by rfl, ?_⟩) bd ?_
  rotate_left
  · intro w hSw
    go_simp
    try with_reducible rfl
  try simp only [Act.put, List.setIfInBounds_toArray, List.set_cons_zero, List.set_cons_succ]
  refine wpAnyH_ready (rs := [3]) (by kernel_rfl) (by simp) ?_
  refine AllReadyH.cons (o := { dst := some 20, op := Op.call { callee := Callee.value (Operand.func 15), args := #[Operand.tmp 19], argTypes := #[30] }, type := 48, pos := "search.go:38", after := #[{ on := 2, ground := Ground.data }], guard := none }) rfl (fun K hK => ?_) AllReadyH.nil
  have Z := HZS.out
  go_simp
  refine Z.mono ?_
  clear Z HZS
  rintro e W2 ⟨a2, c2, rfl, I2, _, b2⟩
  have HI2 := Lib.hid I2
  have HS2 := Lib.hid (HS1.out.below b2)
  have HL2 := Lib.hid (HL1.out.below b2 HL1.out.lt)
  have hl2 := I2.le
  have bd2 := HL2.out
  generalize hsl : (startL b).length = sl at hl2 ⊢
  have HSL := Lib.hid hsl
  clear I2 b2 hsl HS1 HL1
  go_wp2_with (fail)
  refine hK.out _ _ bd2 (fun hHeld => ?_)
  clear hK K hHeld
  try simp only [Act.put, List.setIfInBounds_toArray, List.set_cons_zero, List.set_cons_succ]
  refine wpAnyH_take (i := 4) (oi := { dst := some 21, op := Op.build 51 #[(0, Operand.tmp 18), (1, Operand.tmp 20)], type := 51, pos := "search.go:38", after := #[{ on := 1, ground := Ground.data }, { on := 3, ground := Ground.data }], guard := none }) (v := ?_) rfl (by kernel_rfl) (by kernel_rfl) (by kernel_rfl) (fun _ _ _ h => h) (Or.inl ⟨by rfl, ?_⟩) bd2 ?_
  rotate_left
  · intro w hSw
    go_simp
    try with_reducible rfl
  try simp only [Act.put, List.setIfInBounds_toArray, List.set_cons_zero, List.set_cons_succ]
  refine wpAnyH_ready (rs := [5]) (by kernel_rfl) (by simp) ?_
  refine AllReadyH.cons (o := { dst := some 22, op := Op.call { callee := Callee.value (Operand.func 14), args := #[Operand.tmp 9, Operand.tmp 21], argTypes := #[46, 51] }, type := 31, pos := "search.go:38", after := #[{ on := 4, ground := Ground.data }, { on := 3, ground := Ground.chain }], guard := none }) rfl (fun K hK => ?_) AllReadyH.nil
  have Z := add85 W2 HS2.out HTAB.out ⟨xa, xc, a2, c2, none, 0, first X b⟩ ⟨HBX.out _ HS2.out.kept, HI2.out, Bag.nil _⟩ (HG.out.ok _ HG.out.first).1 (fun z hz => by simp at hz) (by simp) (by simp)
  simp only at Z
  rw [← HAD.out] at Z
  simp only [first] at Z
  rw [HN0.out, HSL.out] at Z
  go_simp
  refine Z.mono ?_
  clear Z
  rintro e W3 ⟨rfl, qa3, qc3, s3, k3, f3⟩
  have HL3 := Lib.hid (HL2.out.kept k3 (HNL.out none (fun g e => by cases e)))
  have bd3 := HL3.out
  have HS3 := Lib.hid s3
  clear s3 k3 f3 HS2 HI2 HL2
  go_wp2_with (fail)
  refine hK.out _ _ bd3 (fun hHeld => ?_)
  clear hK K hHeld
  try simp only [Act.put, List.setIfInBounds_toArray, List.set_cons_zero, List.set_cons_succ]
  refine wpAnyH_take (i := 6) (oi := { dst := some 8, op := Op.assign (Operand.tmp 22), type := 31, pos := "search.go:38", after := #[{ on := 5, ground := Ground.data }, { on := 5, ground := Ground.chain }, { on := 0, ground := Ground.phase }, { on := 1, ground := Ground.phase }, { on := 2, ground := Ground.phase }, { on := 3, ground := Ground.phase }, { on := 4, ground := Ground.phase }, { on := 5, ground := Ground.phase }], guard := none }) (v := ?_) rfl (by kernel_rfl) (by kernel_rfl) (by kernel_rfl) (fun _ _ _ h => h) (Or.inl ⟨by rfl, ?_⟩) bd3 ?_
  rotate_left
  · intro w hSw
    go_simp
    try with_reducible rfl
  try simp only [Act.put, List.setIfInBounds_toArray, List.set_cons_zero, List.set_cons_succ]
  refine wpAnyH_done (by kernel_rfl) ?_ _
  have had := HAD.out
  unfold addP at had
  rw [if_neg (by simp [metP])] at had
  rw [HNB.out] at HS3
  by_cases hs : (spendM M 1).1 = true
  · rw [if_pos hs] at had
    subst had
    dsimp only at HS3 ⊢
    obtain ⟨M1, hM1⟩ : ∃ M1, M1 = (spendM M 1).2 := ⟨_, rfl⟩
    have HSG : Hid (∃ f, searchGo X b f 0 [first X b] M1 = some r) := Lib.hid (by
      have h := HR.out
      unfold searchM at h
      rw [if_pos hs, ← hM1] at h
      exact ⟨f, h⟩)
    rw [← hM1] at HS3
    have HSW : Hid (SqAt w mp M1 gs gm (.slice ba nb bc) 0 qa3 qc3 ([first X b].drop 0) ([first X b].map keyT) W3) := HS3
    clear hs hM1 HR HAD HS3 HBX
    go_wp2
    go_loopw [8] (fun ev wr => ∃ (k0 lv : Nat) (qa : Option Addr) (qc : Nat) (Q : List Pr) (Mi : Mr), ev = .int .i64 0 ∧ lv ≤ 60 ∧ k0 ≤ Q.length ∧ Hid (SqAt w mp Mi gs gm (.slice ba nb bc) lv qa qc (Q.drop k0) (Q.map keyT) wr) ∧ Hid (Lies wr gl 28 [.slice xa n0 xc, .slice pa np pc]) ∧ Hid (∀ z ∈ Q.drop k0, z.n = lv) ∧ Hid (∀ z ∈ Q, G z) ∧ Hid (∃ f, searchGo X b f k0 Q Mi = some r)) (fun _ wr => 61 - cellN wr ⟨gs, 2, none⟩)
    case atStart => exact ⟨0, 0, qa3, qc3, [first X b], M1, rfl, by omega, by simp, HSW, HL3, Lib.hid (fun z hz => by simp at hz; subst hz; rfl), Lib.hid (fun z hz => by rw [List.mem_singleton] at hz; subst hz; exact HG.out.first), HSG⟩
    case round =>
      clear HSW HL3 HSG
      obtain ⟨k0, lv, qa, qc, Q, Mi, rfl, hlv, hk0, HS, HL, HLV, HGQ, HSG⟩ := hrel
      have s3 := HS.out.box.cell 3
      simp only [sqCells, List.getElem?_cons_zero, List.getElem?_cons_succ] at s3
      obtain ⟨dn, hdn⟩ : ∃ dn, dn = (Q.drop k0).length := ⟨_, rfl⟩
      have hqle := HS.out.prs.le
      rw [← hdn] at s3 hqle
      have hdl : dn = Q.length - k0 := by rw [hdn, List.length_drop]
      have HDL := Lib.hid hdl
      have HDN := Lib.hid hdn
      have HK0 := Lib.hid hk0
      have HCW := Lib.hid HS.out.count
      clear hdn hk0
      by_cases hd : dn = 0
      · have hpos : decide ((0 : Int) < (dn : Int)) = false := by simp; omega
        have HF : Hid (WiP mp r w (.returned (.tuple #[.bool true, .slice none 0 0, .int .i64 0])) wr) := Lib.hid (by
          obtain ⟨f, h⟩ := HSG.out
          rw [search_end h (by have := HK0.out; omega)]
          exact ⟨none, 0, rfl, Bag.nil _, HS.out.meter, HS.out.kept⟩)
        clear hdl
        go_wp2
        exact bodyPost_ret (v := .tuple #[.bool true, .slice none 0 0, .int .i64 0]) (by simp [results, Tryd.results10, go_sem]) rfl HF.out
      · have hpos : decide ((0 : Int) < (dn : Int)) = true := by simp; omega
        have hp0 : 0 < dn := by omega
        obtain ⟨c1, c2⟩ := HS.out.clear
        have HC1 : Hid (SqAt w mp Mi gs gm (.slice ba nb bc) lv none 0 (Q.drop Q.length) (Q.map keyT) (wr.setCell ⟨gs, 3, none⟩ (.slice none 0 0))) := Lib.hid (by rw [List.drop_length]; exact c1)
        have HQ1 := Lib.hid c2
        have HL1 : Hid (Lies (wr.setCell ⟨gs, 3, none⟩ (.slice none 0 0)) gl 28 [.slice xa n0 xc, .slice pa np pc]) := Lib.hid (HL.out.far HGS.out _)
        have HNQ := Lib.hid HS.out.new
        have hfz := HS.out.box.frozen 3
        clear c1 c2 hdl
        go_wp2
        go_loopw [8, 39] (fun ev iv wr => ∃ (i : Nat) (qb : Option Addr) (qbc : Nat) (Q2 : List Pr) (M2 : Mr), i ≤ dn ∧ ev = .int .i64 0 ∧ iv = .int .i64 i ∧ (0 < i → lv ≤ 59) ∧ Hid (SqAt w mp M2 gs gm (.slice ba nb bc) lv qb qbc (Q2.drop Q.length) (Q2.map keyT) wr) ∧ Hid (Lies wr gl 28 [.slice xa n0 xc, .slice pa np pc]) ∧ Hid (Qrs wr qa qc (Q.drop k0)) ∧ Hid (∀ g, qb = some ⟨g, 0, none⟩ → qa ≠ some ⟨g, 0, none⟩) ∧ Hid (∃ R, Q2 = Q ++ R ∧ ∀ z ∈ R, z.n = lv + 1) ∧ Hid (∀ z ∈ Q2, G z) ∧ Hid (∃ f, searchGo X b f (k0 + i) Q2 M2 = some r)) (fun _ iv _ => dn - (intOf iv).toNat)
        case atStart => exact ⟨0, none, 0, Q, Mi, Nat.zero_le _, rfl, rfl, fun h => absurd h (Nat.lt_irrefl _), HC1, HL1, HQ1, Lib.hid (fun g e => by cases e), Lib.hid ⟨[], by simp, fun z hz => by simp at hz⟩, HGQ, HSG⟩
        case round =>
          clear HC1 HL1 HQ1 HSG s3 hfz
          obtain ⟨i, qb, qbc, Q2, M2, hi, rfl, rfl, h59, HS2, HL2, HQ2, HNE, HRR, HG2, HSG⟩ := hrel
          by_cases hlt : i < dn
          · obtain ⟨g, l, e1, hx, hcells, hat⟩ := HQ2.out.at (k := i) (by rw [← HDN.out]; exact hlt)
            obtain ⟨ca, cc, la, lc, wa, wc, z⟩ := l
            simp only at hx
            have c0 := hcells 0 (by omega)
            have c1 := hcells 1 (by omega)
            have c2 := hcells 2 (by omega)
            simp only [Qb.cells, List.getElem?_cons_zero, List.getElem?_cons_succ, Nat.add_zero] at c0 c1 c2
            have hkQ : k0 + i < Q.length := by have := HDL.out; omega
            have hz2 : prAt Q2 (k0 + i) = z := by
              obtain ⟨R, e, _⟩ := HRR.out
              rw [hx, e]
              simp [prAt, List.getD, List.getElem?_append_left hkQ]
            have hk2 : k0 + i < Q2.length := by
              obtain ⟨R, e, _⟩ := HRR.out
              rw [e, List.length_append]
              omega
            have hzm : z ∈ Q.drop k0 := by
              rw [hx, prAt_get (by rw [← HDN.out]; exact hlt)]
              exact List.getElem_mem _
            have hzn : z.n = lv := HLV.out z hzm
            have hzG : G z := HG2.out z (by rw [← hz2, prAt_get hk2]; exact List.getElem_mem _)
            obtain ⟨hzP, hzc, hzw, hzl, hz60⟩ := HG.out.ok z hzG
            have bb := below_alloc wr (.cells #[.slice ca z.c.length cc, .slice la z.l.length lc, .slice wa z.w.length wc] 51)
            have HS3 := Lib.hid (HS2.out.below bb)
            have HL3 := Lib.hid (HL2.out.below bb HL2.out.lt)
            have HQ3 := Lib.hid (HQ2.out.below bb)
            have HP3 := Lib.hid (hat.below bb)
            have HX3 := Lib.hid (Lies.new wr 51 [.slice ca z.c.length cc, .slice la z.l.length lc, .slice wa z.w.length wc])
            have HON : Hid (¬ (z.c = [] ∧ finalL z.l = false) → (behP X b z Q2 M2).1.length ≤ r.q.length ∧ (∃ R, (behP X b z Q2 M2).1 = Q2 ++ R ∧ ∀ y ∈ R, y.n = z.n + 1) ∧
                ((behP X b z Q2 M2).2.1 = 0 → z.n ≤ 59 ∧ ∃ g, searchGo X b g (k0 + i + 1) (behP X b z Q2 M2).1 (behP X b z Q2 M2).2.2 = some r) ∧
                ((behP X b z Q2 M2).2.1 ≠ 0 → r = ⟨false, [], (behP X b z Q2 M2).2.1, (behP X b z Q2 M2).2.2, (behP X b z Q2 M2).1⟩)) := Lib.hid (fun h => by
              obtain ⟨f, hf⟩ := HSG.out
              have := search_on HG.out.rp (by rw [hz2]; exact hzP.c) hf hk2 (by rw [hz2]; exact h)
              rw [hz2] at this
              exact this)
            have HNO : Hid (z.c = [] → finalL z.l = false → r = ⟨false, z.w, 0, M2, Q2⟩) := Lib.hid (fun h1 h2 => by
              obtain ⟨f, hf⟩ := HSG.out
              have := search_no hf hk2 (by rw [hz2]; exact ⟨h1, h2⟩)
              rw [hz2] at this
              exact this)
            have HQQ : Hid (Q.length ≤ Q2.length) := Lib.hid (by
              obtain ⟨R, e, _⟩ := HRR.out
              rw [e, List.length_append]
              omega)
            have HZB : Hid (¬ (z.c = [] ∧ finalL z.l = false) → ∀ V, SqAt w mp M2 gs gm (.slice ba nb bc) lv qb qbc (Q2.drop Q.length) (Q2.map keyT) V → QbAt V ⟨ca, cc, la, lc, wa, wc, z⟩ → Calls Tryd.prog 17 #[.pointer (some ⟨gs, 0, none⟩), .agg #[.slice ca z.c.length cc, .slice la z.l.length lc, .slice wa z.w.length wc], .slice pa np pc] V (SqRet w mp gs gm (.slice ba nb bc) lv Q.length qb V (behP X b z Q2 M2))) := Lib.hid (fun h V s p => by
              have hb : (behP X b z Q2 M2).1.length ≤ 1000000000 := Nat.le_trans (HON.out h).1 HLR.out
              rw [← HNB.out] at s ⊢
              have := behind86 X V s pa pc z hzn HPS.out (fun h9 => ⟨HTAB.out, HBL.out, HPS.out, HG.out.rp, hzP.c, hzc, hzn, h9, hzw, hzl, fun m c M hc h0 => (HG.out.ok _ (HG.out.step z m c M hzG (by omega) hc h0)).1⟩) ca cc la lc wa wc p (fun y hy => (HG.out.ok y (HG2.out y hy)).1) hb HQQ.out
              rw [HNP.out] at this
              exact this)
            have HGZ : Hid (∀ y ∈ (behP X b z Q2 M2).1, G y) := Lib.hid (beh_all HG.out hzG HG2.out)
            have HZN := Lib.hid hzn
            have ZF := final20 la lc z.l _ (HP3.out.l)
            have hlc := hat.c.le
            have hll := hat.l.le
            have hlw := hat.w.le
            simp only at ZF hlc hll hlw
            subst e1
            generalize hn1 : z.c.length = n1 at c0 HX3 HZB ZF hlc bb HS3 HL3 HQ3 HP3
            generalize hn2 : z.l.length = n2 at c1 HX3 HZB ZF hll bb HS3 HL3 HQ3 HP3
            generalize hn3 : z.w.length = n3 at c2 HX3 HZB ZF hlw bb HS3 HL3 HQ3 HP3
            have HN1 := Lib.hid hn1
            have HN3 := Lib.hid hn3
            have HZF := Lib.hid ZF
            have HLT : Hid (gl < wr.heap.size) := Lib.hid HL2.out.lt
            clear bb ZF hcells hx hat hz2 hk2 hkQ hzm hzn hzG hzP hzc hzw hzl hz60 hn1 hn2 hn3
            have i1 : (0 : Int) ≤ (i : Int) := by omega
            have i2 : (i : Int) < (dn : Int) := by omega
            have y0 := HX3.out.cell 0
            have y1 := HX3.out.cell 1
            have y2 := HX3.out.cell 2
            simp only [List.getElem?_cons_zero, List.getElem?_cons_succ] at y0 y1 y2
            have p1 := HL3.out.cell 1
            simp only [List.getElem?_cons_zero, List.getElem?_cons_succ] at p1
            by_cases hc0 : n1 = 0
            · have hz0 : z.c = [] := List.eq_nil_of_length_eq_zero (by rw [HN1.out]; exact hc0)
              have HZ0 := Lib.hid hz0
              subst hc0
              clear hz0
              go_wp2_with (fail)
              refine HZF.out.mono ?_
              rintro e W4 ⟨rfl, b4⟩
              generalize wr.alloc (.cells #[.slice ca 0 cc, .slice la n2 lc, .slice wa n3 wc] 51) = W3 at HS3 HL3 HQ3 HP3 HX3 b4 y0 y1 y2 p1
              generalize wr.heap.size = gb at HX3 HLT y0 y1 y2 ⊢
              have HS4 := Lib.hid (HS3.out.below b4)
              have HL4 := Lib.hid (HL3.out.below b4 HL3.out.lt)
              have HQ4 := Lib.hid (HQ3.out.below b4)
              have HP4 := Lib.hid (HP3.out.below b4)
              have HX4 := Lib.hid (HX3.out.below b4 HX3.out.lt)
              clear b4 y0 y1 y2 p1 HS3 HL3 HQ3 HP3 HX3 HZF
              cases hfin : finalL z.l with
              | false =>
                have hre := HNO.out HZ0.out hfin
                have bz : Below W4.heap.size W4 W4.drew := ⟨rfl, rfl, rfl, Nat.le_refl _, fun _ _ => rfl⟩
                have HF : Hid (WiP mp r w (.returned (.tuple #[.bool false, .slice wa n3 wc, .int .i64 0])) W4.drew) := Lib.hid (by
                  rw [hre]
                  exact ⟨wa, wc, by rw [HN3.out], HP4.out.w.below bz, HS4.out.meter.below bz, HS4.out.kept.then bz⟩)
                have bd : Lies W4.drew gb 51 [.slice ca 0 cc, .slice la n2 lc, .slice wa n3 wc] := HX4.out.below bz HX4.out.lt
                clear hre bz
                go_upto_region 13 with (fail)
                refine wp_region_held_drew (S := fun V => Lies V gb 51 [.slice ca 0 cc, .slice la n2 lc, .slice wa n3 wc]) (by kernel_rfl) bd (fun hHeld => ?_)
                clear hHeld
                refine wpAnyH_take (i := 0) (oi := { dst := some 53, op := Op.fieldAddr 51 (Operand.tmp 12) 2, type := 0, pos := "search.go:47", after := #[{ on := 2, ground := Ground.gcOnly Departure.lateStores }], guard := none }) (v := ?_) rfl (by kernel_rfl) (by kernel_rfl) (by kernel_rfl) (fun _ _ _ h => h) (Or.inl ⟨by rfl, ?_⟩) bd ?_
                rotate_left
                · intro w hSw
                  go_simp
                  try with_reducible rfl
                try simp only [Act.put, List.setIfInBounds_toArray, List.set_cons_zero, List.set_cons_succ]
                refine wpAnyH_take (i := 1) (oi := { dst := some 54, op := Op.load 24 (Operand.tmp 53), type := 24, pos := "search.go:47", after := #[{ on := 0, ground := Ground.data }, { on := 2, ground := Ground.gcOnly Departure.lateStores }], guard := none }) (v := ?_) rfl (by kernel_rfl) (by kernel_rfl) (by kernel_rfl) (fun _ _ _ h => h) (Or.inl ⟨by rfl, ?_⟩) bd ?_
                rotate_left
                · intro w hSw
                  have y2 := hSw.cell 2
                  simp only [List.getElem?_cons_zero, List.getElem?_cons_succ] at y2
                  go_simp
                  try with_reducible rfl
                try simp only [Act.put, List.setIfInBounds_toArray, List.set_cons_zero, List.set_cons_succ]
                refine wpAnyH_take (i := 2) (oi := { dst := some 6, op := Op.assign (Operand.const (Value.bool false)), type := 4, pos := "search.go:47", after := #[{ on := 0, ground := Ground.textOnly Departure.lateStores }, { on := 1, ground := Ground.textOnly Departure.lateStores }], guard := none }) (v := ?_) rfl (by kernel_rfl) (by kernel_rfl) (by kernel_rfl) (fun _ _ _ h => h) (Or.inl ⟨by rfl, ?_⟩) bd ?_
                rotate_left
                · intro w hSw
                  go_simp
                  try with_reducible rfl
                try simp only [Act.put, List.setIfInBounds_toArray, List.set_cons_zero, List.set_cons_succ]
                refine wpAnyH_take (i := 3) (oi := { dst := some 7, op := Op.assign (Operand.tmp 54), type := 24, pos := "search.go:47", after := #[{ on := 1, ground := Ground.data }, { on := 2, ground := Ground.chain }, { on := 0, ground := Ground.phase }, { on := 1, ground := Ground.phase }, { on := 2, ground := Ground.phase }], guard := none }) (v := ?_) rfl (by kernel_rfl) (by kernel_rfl) (by kernel_rfl) (fun _ _ _ h => h) (Or.inl ⟨by rfl, ?_⟩) bd ?_
                rotate_left
                · intro w hSw
                  go_simp
                  try with_reducible rfl
                try simp only [Act.put, List.setIfInBounds_toArray, List.set_cons_zero, List.set_cons_succ]
                refine wpAnyH_take (i := 4) (oi := { dst := some 8, op := Op.assign (Operand.const (Value.int IntKind.i64 0)), type := 31, pos := "search.go:47", after := #[{ on := 3, ground := Ground.chain }, { on := 0, ground := Ground.phase }, { on := 1, ground := Ground.phase }, { on := 2, ground := Ground.phase }, { on := 3, ground := Ground.phase }], guard := none }) (v := ?_) rfl (by kernel_rfl) (by kernel_rfl) (by kernel_rfl) (fun _ _ _ h => h) (Or.inl ⟨by rfl, ?_⟩) bd ?_
                rotate_left
                · intro w hSw
                  go_simp
                  try with_reducible rfl
                try simp only [Act.put, List.setIfInBounds_toArray, List.set_cons_zero, List.set_cons_succ]
                refine wpAnyH_done (by kernel_rfl) ?_ _
                go_wp2
                exact bodyPost_ret (v := .tuple #[.bool false, .slice wa n3 wc, .int .i64 0]) (by simp [results, Tryd.results10, go_sem]) rfl HF.out
              | true =>
                have hcond : ¬ (z.c = [] ∧ finalL z.l = false) := fun h => by rw [hfin] at h; exact absurd h.2 (by simp)
                have y0 := HX4.out.cell 0
                have y1 := HX4.out.cell 1
                have y2 := HX4.out.cell 2
                simp only [List.getElem?_cons_zero, List.getElem?_cons_succ] at y0 y1 y2
                have p1 := HL4.out.cell 1
                simp only [List.getElem?_cons_zero, List.getElem?_cons_succ] at p1
                go_wp2_with (fail)
                refine (HZB.out hcond _ HS4.out HP4.out).mono ?_
                clear HZB
                rintro e W5 ⟨rfl, qe, qec, s5, k5, f5⟩
                obtain ⟨_, hRn, hOn0, hOn1⟩ := HON.out hcond
                have HL5 := Lib.hid (HL4.out.kept k5 (HNL.out qb (fun g e e2 => by
                  subst e2
                  obtain ⟨cs, l2⟩ := HS4.out.prs.lies e
                  exact HL4.out.other l2 (by decide) rfl)))
                have HQ5 := Lib.hid (HQ4.out.far k5 HS4.out.far (fun g e h => by
                  obtain ⟨cs, l2⟩ := HQ4.out.lies e
                  rcases h with h | h | h | h
                  · have := HOLD2.out _ h; have := HNQ.out g e; omega
                  · subst h; exact l2.other HS4.out.box (by decide) rfl
                  · exact HS4.out.map.cells l2 h
                  · exact HNE.out g h e))
                have HNE5 : Hid (∀ g', qe = some ⟨g', 0, none⟩ → (some ⟨g, 0, none⟩ : Option Addr) ≠ some ⟨g', 0, none⟩) := Lib.hid (fun g' e h => by
                  rcases f5 g' e with h2 | h2
                  · exact HNE.out g' h2 h
                  · have := HQ4.out.lt h; omega)
                have HRR5 : Hid (∃ R, (behP X b z Q2 M2).1 = Q ++ R ∧ ∀ y ∈ R, y.n = lv + 1) := Lib.hid (by
                  obtain ⟨R, e, hR⟩ := HRR.out
                  obtain ⟨R2, e2, hR2⟩ := hRn
                  refine ⟨R ++ R2, by rw [e2, e, List.append_assoc], fun y hy => ?_⟩
                  rcases List.mem_append.1 hy with hy | hy
                  · exact hR y hy
                  · rw [hR2 y hy, HZN.out])
                have HS5 := Lib.hid s5
                clear s5 k5 f5 hRn HS4 HL4 HQ4 HP4
                by_cases h0 : (behP X b z Q2 M2).2.1 = 0
                · obtain ⟨h9, hse⟩ := hOn0 h0
                  have HSE := Lib.hid hse
                  have h9' : lv ≤ 59 := by rw [← HZN.out]; exact h9
                  rw [h0]
                  clear hOn0 hOn1 hse h9
                  go_wp2
                  go_roundw
                  case rel => exact ⟨i + 1, qe, qec, (behP X b z Q2 M2).1, (behP X b z Q2 M2).2.2, by omega, by first | rfl | trivial, by go_num, fun _ => h9', HS5, HL5, HQ5, HNE5, HRR5, HGZ, HSE⟩
                  case measure => simp [intOf]; omega
                · have hre := hOn1 h0
                  have hb0 : ((behP X b z Q2 M2).2.1 != 0) = true := by simp [h0]
                  have HF : Hid (WiP mp r w (.returned (.tuple #[.bool false, .slice none 0 0, .int .i64 (behP X b z Q2 M2).2.1])) W5) := Lib.hid (by
                    have e : r.e = (behP X b z Q2 M2).2.1 := by rw [hre]
                    have e2 : r.ok = false := by rw [hre]
                    have e3 : r.w = [] := by rw [hre]
                    have e4 : r.m = (behP X b z Q2 M2).2.2 := by rw [hre]
                    refine ⟨none, 0, by rw [e, e2, e3]; rfl, by rw [e3]; exact Bag.nil _, by rw [e4]; exact HS5.out.meter, HS5.out.kept⟩)
                  clear hre hOn0 hOn1
                  generalize (behP X b z Q2 M2).2.1 = er at HF h0 hb0 ⊢
                  go_wp2
                  exact bodyPost_ret (v := .tuple #[.bool false, .slice none 0 0, .int .i64 er]) (by simp [results, Tryd.results10, go_sem]) rfl HF.out
            · have hcb : ((n1 : Int) == 0) = false := by simp [hc0]
              have hcond : ¬ (z.c = [] ∧ finalL z.l = false) := fun h => hc0 (by rw [← HN1.out, h.1]; rfl)
              generalize hW3 : wr.alloc (.cells #[.slice ca n1 cc, .slice la n2 lc, .slice wa n3 wc] 51) = W4 at HS3 HL3 HQ3 HP3 HX3 y0 y1 y2 p1
              subst hW3
              have HS4 := HS3
              have HL4 := HL3
              have HQ4 := HQ3
              have HP4 := HP3
              clear HS3 HL3 HQ3 HP3
              go_wp2_with (fail)
              refine (HZB.out hcond _ HS4.out HP4.out).mono ?_
              clear HZB
              rintro e W5 ⟨rfl, qe, qec, s5, k5, f5⟩
              obtain ⟨_, hRn, hOn0, hOn1⟩ := HON.out hcond
              have HL5 := Lib.hid (HL4.out.kept k5 (HNL.out qb (fun g e e2 => by
                subst e2
                obtain ⟨cs, l2⟩ := HS4.out.prs.lies e
                exact HL4.out.other l2 (by decide) rfl)))
              have HQ5 := Lib.hid (HQ4.out.far k5 HS4.out.far (fun g e h => by
                obtain ⟨cs, l2⟩ := HQ4.out.lies e
                rcases h with h | h | h | h
                · have := HOLD2.out _ h; have := HNQ.out g e; omega
                · subst h; exact l2.other HS4.out.box (by decide) rfl
                · exact HS4.out.map.cells l2 h
                · exact HNE.out g h e))
              have HNE5 : Hid (∀ g', qe = some ⟨g', 0, none⟩ → (some ⟨g, 0, none⟩ : Option Addr) ≠ some ⟨g', 0, none⟩) := Lib.hid (fun g' e h => by
                rcases f5 g' e with h2 | h2
                · exact HNE.out g' h2 h
                · have := HQ4.out.lt h; omega)
              have HRR5 : Hid (∃ R, (behP X b z Q2 M2).1 = Q ++ R ∧ ∀ y ∈ R, y.n = lv + 1) := Lib.hid (by
                obtain ⟨R, e, hR⟩ := HRR.out
                obtain ⟨R2, e2, hR2⟩ := hRn
                refine ⟨R ++ R2, by rw [e2, e, List.append_assoc], fun y hy => ?_⟩
                rcases List.mem_append.1 hy with hy | hy
                · exact hR y hy
                · rw [hR2 y hy, HZN.out])
              have HS5 := Lib.hid s5
              clear s5 k5 f5 hRn HS4 HL4 HQ4 HP4
              by_cases h0 : (behP X b z Q2 M2).2.1 = 0
              · obtain ⟨h9, hse⟩ := hOn0 h0
                have HSE := Lib.hid hse
                have h9' : lv ≤ 59 := by rw [← HZN.out]; exact h9
                rw [h0]
                clear hOn0 hOn1 hse h9
                go_wp2
                go_roundw
                case rel => exact ⟨i + 1, qe, qec, (behP X b z Q2 M2).1, (behP X b z Q2 M2).2.2, by omega, by first | rfl | trivial, by go_num, fun _ => h9', HS5, HL5, HQ5, HNE5, HRR5, HGZ, HSE⟩
                case measure => simp [intOf]; omega
              · have hre := hOn1 h0
                have hb0 : ((behP X b z Q2 M2).2.1 != 0) = true := by simp [h0]
                have HF : Hid (WiP mp r w (.returned (.tuple #[.bool false, .slice none 0 0, .int .i64 (behP X b z Q2 M2).2.1])) W5) := Lib.hid (by
                  have e : r.e = (behP X b z Q2 M2).2.1 := by rw [hre]
                  have e2 : r.ok = false := by rw [hre]
                  have e3 : r.w = [] := by rw [hre]
                  have e4 : r.m = (behP X b z Q2 M2).2.2 := by rw [hre]
                  refine ⟨none, 0, by rw [e, e2, e3]; rfl, by rw [e3]; exact Bag.nil _, by rw [e4]; exact HS5.out.meter, HS5.out.kept⟩)
                clear hre hOn0 hOn1
                generalize (behP X b z Q2 M2).2.1 = er at HF h0 hb0 ⊢
                go_wp2
                exact bodyPost_ret (v := .tuple #[.bool false, .slice none 0 0, .int .i64 er]) (by simp [results, Tryd.results10, go_sem]) rfl HF.out
          · obtain rfl : i = dn := by omega
            have h9 : lv ≤ 59 := h59 (by omega)
            obtain ⟨l1, l2⟩ := HS2.out.letter
            have s2 := HS2.out.box.cell 2
            simp only [sqCells, List.getElem?_cons_zero, List.getElem?_cons_succ] at s2
            have hfz := HS2.out.box.frozen 2
            have HS5 := Lib.hid l1
            have HL5 : Hid (Lies (wr.setCell ⟨gs, 2, none⟩ (.int .i64 ((lv : Int) + 1))) gl 28 [.slice xa n0 xc, .slice pa np pc]) := Lib.hid (HL2.out.far HGS.out _)
            have HC5 := Lib.hid l1.count
            have HQ5 : Hid (Q.length ≤ Q2.length ∧ ∀ y ∈ Q2.drop Q.length, y.n = lv + 1) := Lib.hid (by
              obtain ⟨R, e, hR⟩ := HRR.out
              rw [e, List.length_append, List.drop_left]
              exact ⟨by omega, hR⟩)
            have HSG5 : Hid (∃ f, searchGo X b f Q.length Q2 M2 = some r) := Lib.hid (by
              have h := HSG.out
              rwa [show k0 + i = Q.length by have := HDL.out; have := HK0.out; omega] at h)
            clear l1 l2 HS2 HL2 HQ2 HRR HSG
            go_wp2
            go_roundw
            case rel => exact ⟨Q.length, lv + 1, qb, qbc, Q2, M2, by first | rfl | trivial, by omega, HQ5.out.1, HS5, HL5, Lib.hid HQ5.out.2, HG2, HSG5⟩
            case measure => rw [HC5.out, HCW.out]; omega
  · rw [if_neg hs] at had
    subst had
    dsimp only at HS3 ⊢
    have HF : Hid (WiP mp r w (.returned (.tuple #[.bool false, .slice none 0 0, .int .i64 7])) W3) := Lib.hid (by
      have h := HR.out
      unfold searchM at h
      rw [if_neg hs] at h
      injection h with h
      rw [← h]
      exact ⟨none, 0, rfl, Bag.nil _, HS3.out.meter, HS3.out.kept⟩)
    go_wp2
    exact bodyPost_ret (v := .tuple #[.bool false, .slice none 0 0, .int .i64 7]) (by simp [results, Tryd.results10, go_sem]) rfl HF.out
end Go.Proofs.YtmefmnpmppdpmabDoor

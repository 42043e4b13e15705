import Derived.Test.YtmefmnpmppdpmabDoorXd
import Derived.Test.YtmefmnpmppdpmabDoorXh
/- The search's read: what is behind one sum. -/
namespace Go.Proofs.YtmefmnpmppdpmabDoor
open Go.ChangeShapes Go.WideShapes Go.ChangeAt Go.RowKit Go.Maps

set_option maxRecDepth 100000 in
set_option maxHeartbeats 4000000 in
theorem read138 {w0 : World} {mp : Option Addr} {M : Mr} {gs gm lv k0 : Nat} {ba : Option Addr} {bc : Nat} {b : List Lin} {qa : Option Addr} {qc : Nat} {Q : List Pr} (X : Lin) (W : World) (S : SqAt w0 mp M gs gm (.slice ba b.length bc) lv qa qc (Q.drop k0) (Q.map keyT) W) (htab : TabM mp w0) (hbl : ∀ V, MK mp w0 V → Lins V ba bc b)
    (p : Qb) (hp : QbAt W p) (sa : Option Addr) (sc : Nat) (c : List Int) (hsum : Bag W sa sc c) (hc : rightL c = true) (hcost : costI b p.x.l ≤ 100000000000) (hlv : p.x.n = lv) (h59 : lv ≤ 59) (hw : rightL p.x.w = true) (hlow : ∀ t, p.x.w.getD t 0 < 2 ^ p.x.n)
    (hnew : (nextM M b p.x.l (oddN c)).2.1 = 0 → PairR ⟨halfL c, (nextM M b p.x.l (oddN c)).1, wordStep p.x.w (oddN c) p.x.n, p.x.n + 1⟩)
    (hQ : ∀ z ∈ Q, PairR z) (hlen : Q.length ≤ 1000000000) (hk0 : k0 ≤ Q.length) :
    Calls Tryd.prog 36 #[.pointer (some ⟨gs, 0, none⟩), .agg #[.slice p.ca p.x.c.length p.cc, .slice p.la p.x.l.length p.lc, .slice p.wa p.x.w.length p.wc], .slice sa c.length sc] W (SqRet w0 mp gs gm (.slice ba b.length bc) lv k0 qa W (readP X b p.x c Q M)) := by
  obtain ⟨ca, cc, la, lc, wa, wc, x⟩ := p
  simp only at hp hcost hlv hw hlow hnew ⊢
  rw [hlv] at hlow hnew
  have bb := below_alloc W (.cells #[.slice ca x.c.length cc, .slice la x.l.length lc, .slice wa x.w.length wc] 51)
  have HS1 := Lib.hid (S.below bb)
  have HP1 := Lib.hid (hp.below bb)
  have HC1 := Lib.hid (hsum.below bb)
  have HX1 := Lib.hid (Lies.new W 51 [.slice ca x.c.length cc, .slice la x.l.length lc, .slice wa x.w.length wc])
  have HK1 : Hid (Kept (SX mp gs gm qa) W (W.alloc (.cells #[.slice ca x.c.length cc, .slice la x.l.length lc, .slice wa x.w.length wc] 51))) := Lib.hid (Kept.of_below bb)
  have hlez := hsum.le
  have hleb := (hbl w0 (MK.refl _ _)).le
  have HNX : Hid (¬ SX mp gs gm qa W.heap.size) := Lib.hid (fun e => by
    rcases e with e | e | e | e
    · have := S.old _ e; have := S.kept.size; omega
    · have := S.box.lt; omega
    · have := S.map.lt; omega
    · exact Nat.lt_irrefl _ (S.prs.lt e))
  have HNM : Hid (¬ mp = some ⟨W.heap.size, 0, none⟩) := Lib.hid (fun e => HNX.out (.inl e))
  obtain ⟨om, hom⟩ : ∃ om : Nat, oddN c = om := ⟨(oddN c).toNat, by have := (pack_bound c).1; show packN c = _; unfold oddN; omega⟩
  have HLG := Lib.hid (longer_word (n := lv) h59 hw hlow (right_iff.1 hc).1 hom)
  have Z := letter26 sa sc c 0 _ HC1.out (by omega) (by omega)
  rw [letter_zero hc] at Z
  have HLB : Hid (0 ≤ oddN c ∧ oddN c ≤ 18446744073709551615) := Lib.hid (by
    have := HLG.out.1
    have e : (2 : Nat) ^ 12 = 4096 := by decide
    omega)
  have HRE : Hid (∀ y My, nextM M b x.l (oddN c) = (y, 0, My) → readP X b x c Q M = addP ⟨halfL c, y, wordStep x.w (oddN c) lv, lv + 1⟩ Q My) := Lib.hid (fun y My e => by rw [read_add, e, if_pos rfl, hlv])
  have HRN : Hid (∀ y ye My, nextM M b x.l (oddN c) = (y, ye, My) → ye ≠ 0 → readP X b x c Q M = (Q, ye, My)) := Lib.hid (fun y ye My e h => by rw [read_add, e, if_neg h])
  have HPR : Hid (∀ y My, nextM M b x.l (oddN c) = (y, 0, My) → PairR ⟨halfL c, y, wordStep x.w (oddN c) lv, lv + 1⟩) := Lib.hid (fun y My e => by
    have h := hnew (by rw [e])
    rw [e] at h
    exact h)
  have HTAB := Lib.hid htab
  have HBL := Lib.hid hbl
  have HQA := Lib.hid hQ
  have HLN := Lib.hid hlen
  have HK00 := Lib.hid hk0
  have HRT := Lib.hid hc
  have HCO := Lib.hid hcost
  obtain ⟨dn, hdn⟩ : ∃ dn, dn = (Q.drop k0).length := ⟨_, rfl⟩
  have HDN : Hid ((Q.drop k0).length = dn) := Lib.hid hdn.symm
  have ZH := fun V (B : Bag V sa sc c) => halfI sa sc c V B hc
  generalize hcl : c.length = cl at hlez Z ZH ⊢
  have HCL := Lib.hid hcl
  have HZH0 := Lib.hid ZH
  generalize hbn : b.length = bn at hleb HS1 ⊢
  have HBN := Lib.hid hbn
  generalize hn1 : x.c.length = n1 at HX1 HK1 Z ⊢
  generalize hn2 : x.l.length = n2 at HX1 HK1 Z ⊢
  generalize hn3 : x.w.length = n3 at HX1 HK1 Z ⊢
  rw [hn1, hn2, hn3] at HS1 HP1 HC1
  have HN1 := Lib.hid hn1
  have HN2 := Lib.hid hn2
  have HN3 := Lib.hid hn3
  have HZ := Lib.hid Z
  clear Z ZH bb S hp hsum hc hcost hw hlow hnew hQ htab hbl hlen hk0 hdn hn1 hn2 hn3 hcl hbn
  go_enter Tryd.func36, Tryd.ntmps36
  go_wp2_with (fail)
  generalize W.alloc (.cells #[.slice ca n1 cc, .slice la n2 lc, .slice wa n3 wc] 51) = W1 at HS1 HP1 HC1 HX1 HK1 HZ ⊢
  generalize hgx : W.heap.size = gx at HX1 HNX HNM ⊢
  have HGX := Lib.hid hgx
  clear hgx
  refine HZ.out.mono ?_
  clear HZ
  rintro e W2 ⟨rfl, b2⟩
  have b2d : Below W1.heap.size W1 W2.drew := below_drew b2
  have HS2 := Lib.hid (HS1.out.below b2d)
  have HP2 := Lib.hid (HP1.out.below b2d)
  have HC2 := Lib.hid (HC1.out.below b2d)
  have HX2 := Lib.hid (HX1.out.below b2d HX1.out.lt)
  have HK2 : Hid (Kept (SX mp gs gm qa) W W2.drew) := Lib.hid (HK1.out.trans (Y := fun _ => False) (Kept.of_below b2d) (fun _ _ e => e.elim))
  clear b2 b2d HS1 HP1 HC1 HX1 HK1
  obtain ⟨nx, hnx⟩ : ∃ nx, nx = nextM M b x.l (oddN c) := ⟨_, rfl⟩
  have Z := next14 mp ba la bc lc M b x.l (oddN c) W2.drew HS2.out.meter (HBL.out _ HS2.out.kept) HP2.out.l HLB.out.1 HLB.out.2 HCO.out
  rw [HBN.out, HN2.out, ← hnx] at Z
  rw [← hnx] at HRE HRN HPR
  have HNX0 := Lib.hid hnx
  rw [hom] at Z HRE HPR HLG ⊢
  have HZ := Lib.hid Z
  clear Z hnx hom
  go_upto_region 2 with (fail)
  have bd : Lies W2.drew gs 46 (sqCells mp (.slice ba bn bc) lv qa dn qc gm) ∧ Lies W2.drew gx 51 [.slice ca n1 cc, .slice la n2 lc, .slice wa n3 wc] := ⟨by have h := HS2.out.box; rw [HDN.out] at h; exact h, HX2.out⟩
  refine wp_region_held_drew (S := fun V => Lies V gs 46 (sqCells mp (.slice ba bn bc) lv qa dn qc gm) ∧ Lies V gx 51 [.slice ca n1 cc, .slice la n2 lc, .slice wa n3 wc]) (by kernel_rfl) bd (fun hHeld => ?_)
  clear hHeld
  refine wpAnyH_take (i := 0) (oi := { dst := some 13, op := Op.move (Operand.tmp 0), type := 58, pos := "search.go:99", after := #[], guard := none }) (v := ?_) rfl (by kernel_rfl) (by kernel_rfl) (by kernel_rfl) (fun _ _ _ h => h) (Or.inl ⟨by rfl, ?_⟩) bd ?_
  rotate_left
  · intro w hSw
    go_simp
    try with_reducible rfl
  try simp only [Act.put, List.setIfInBounds_toArray, List.set_cons_zero, List.set_cons_succ]
  refine wpAnyH_take (i := 1) (oi := { dst := some 14, op := Op.nilCheck (Operand.tmp 13), type := 0, pos := "search.go:99", after := #[{ on := 0, ground := Ground.data }], guard := none }) (v := ?_) rfl (by kernel_rfl) (by kernel_rfl) (by kernel_rfl) (fun _ _ _ h => h) (Or.inl ⟨by rfl, ?_⟩) bd ?_
  rotate_left
  · intro w hSw
    go_simp
    try with_reducible rfl
  try simp only [Act.put, List.setIfInBounds_toArray, List.set_cons_zero, List.set_cons_succ]
  refine wpAnyH_take (i := 2) (oi := { dst := some 15, op := Op.fieldAddr 46 (Operand.tmp 14) 0, type := 0, pos := "search.go:99", after := #[{ on := 1, ground := Ground.data }], guard := none }) (v := ?_) rfl (by kernel_rfl) (by kernel_rfl) (by kernel_rfl) (fun _ _ _ h => h) (Or.inl ⟨by rfl, ?_⟩) bd ?_
  rotate_left
  · intro w hSw
    go_simp
    try with_reducible rfl
  try simp only [Act.put, List.setIfInBounds_toArray, List.set_cons_zero, List.set_cons_succ]
  refine wpAnyH_take (i := 3) (oi := { dst := some 16, op := Op.load 37 (Operand.tmp 15), type := 37, pos := "search.go:99", after := #[{ on := 2, ground := Ground.data }], guard := none }) (v := ?_) rfl (by kernel_rfl) (by kernel_rfl) (by kernel_rfl) (fun _ _ _ h => h) (Or.inl ⟨by rfl, ?_⟩) bd ?_
  rotate_left
  · intro w hSw
    have k0 := hSw.1.cell 0
    have k1 := hSw.1.cell 1
    have y1 := hSw.2.cell 1
    simp only [sqCells, List.getElem?_cons_zero, List.getElem?_cons_succ] at k0 k1 y1
    go_simp
    try with_reducible rfl
  try simp only [Act.put, List.setIfInBounds_toArray, List.set_cons_zero, List.set_cons_succ]
  refine wpAnyH_take (i := 4) (oi := { dst := some 17, op := Op.move (Operand.tmp 0), type := 58, pos := "search.go:99", after := #[], guard := none }) (v := ?_) rfl (by kernel_rfl) (by kernel_rfl) (by kernel_rfl) (fun _ _ _ h => h) (Or.inl ⟨by rfl, ?_⟩) bd ?_
  rotate_left
  · intro w hSw
    go_simp
    try with_reducible rfl
  try simp only [Act.put, List.setIfInBounds_toArray, List.set_cons_zero, List.set_cons_succ]
  refine wpAnyH_take (i := 5) (oi := { dst := some 18, op := Op.nilCheck (Operand.tmp 17), type := 0, pos := "search.go:99", after := #[{ on := 4, ground := Ground.data }], guard := none }) (v := ?_) rfl (by kernel_rfl) (by kernel_rfl) (by kernel_rfl) (fun _ _ _ h => h) (Or.inl ⟨by rfl, ?_⟩) bd ?_
  rotate_left
  · intro w hSw
    go_simp
    try with_reducible rfl
  try simp only [Act.put, List.setIfInBounds_toArray, List.set_cons_zero, List.set_cons_succ]
  refine wpAnyH_take (i := 6) (oi := { dst := some 19, op := Op.fieldAddr 46 (Operand.tmp 18) 1, type := 0, pos := "search.go:99", after := #[{ on := 5, ground := Ground.data }], guard := none }) (v := ?_) rfl (by kernel_rfl) (by kernel_rfl) (by kernel_rfl) (fun _ _ _ h => h) (Or.inl ⟨by rfl, ?_⟩) bd ?_
  rotate_left
  · intro w hSw
    go_simp
    try with_reducible rfl
  try simp only [Act.put, List.setIfInBounds_toArray, List.set_cons_zero, List.set_cons_succ]
  refine wpAnyH_take (i := 7) (oi := { dst := some 20, op := Op.load 30 (Operand.tmp 19), type := 30, pos := "search.go:99", after := #[{ on := 6, ground := Ground.data }], guard := none }) (v := ?_) rfl (by kernel_rfl) (by kernel_rfl) (by kernel_rfl) (fun _ _ _ h => h) (Or.inl ⟨by rfl, ?_⟩) bd ?_
  rotate_left
  · intro w hSw
    have k0 := hSw.1.cell 0
    have k1 := hSw.1.cell 1
    have y1 := hSw.2.cell 1
    simp only [sqCells, List.getElem?_cons_zero, List.getElem?_cons_succ] at k0 k1 y1
    go_simp
    try with_reducible rfl
  try simp only [Act.put, List.setIfInBounds_toArray, List.set_cons_zero, List.set_cons_succ]
  refine wpAnyH_take (i := 8) (oi := { dst := some 21, op := Op.fieldAddr 51 (Operand.tmp 4) 1, type := 0, pos := "search.go:99", after := #[], guard := none }) (v := ?_) rfl (by kernel_rfl) (by kernel_rfl) (by kernel_rfl) (fun _ _ _ h => h) (Or.inl ⟨by rfl, ?_⟩) bd ?_
  rotate_left
  · intro w hSw
    go_simp
    try with_reducible rfl
  try simp only [Act.put, List.setIfInBounds_toArray, List.set_cons_zero, List.set_cons_succ]
  refine wpAnyH_take (i := 9) (oi := { dst := some 22, op := Op.load 48 (Operand.tmp 21), type := 48, pos := "search.go:99", after := #[{ on := 8, ground := Ground.data }], guard := none }) (v := ?_) rfl (by kernel_rfl) (by kernel_rfl) (by kernel_rfl) (fun _ _ _ h => h) (Or.inl ⟨by rfl, ?_⟩) bd ?_
  rotate_left
  · intro w hSw
    have k0 := hSw.1.cell 0
    have k1 := hSw.1.cell 1
    have y1 := hSw.2.cell 1
    simp only [sqCells, List.getElem?_cons_zero, List.getElem?_cons_succ] at k0 k1 y1
    go_simp
    try with_reducible rfl
  try simp only [Act.put, List.setIfInBounds_toArray, List.set_cons_zero, List.set_cons_succ]
  refine wpAnyH_take (i := 10) (oi := { dst := some 23, op := Op.move (Operand.tmp 7), type := 78, pos := "search.go:99", after := #[], guard := none }) (v := ?_) rfl (by kernel_rfl) (by kernel_rfl) (by kernel_rfl) (fun _ _ _ h => h) (Or.inl ⟨by rfl, ?_⟩) bd ?_
  rotate_left
  · intro w hSw
    go_simp
    try with_reducible rfl
  try simp only [Act.put, List.setIfInBounds_toArray, List.set_cons_zero, List.set_cons_succ]
  refine wpAnyH_ready (rs := [11]) (by kernel_rfl) (by simp) ?_
  refine AllReadyH.cons (o := { dst := some 24, op := Op.call { callee := Callee.value (Operand.func 40), args := #[Operand.tmp 16, Operand.tmp 20, Operand.tmp 22, Operand.tmp 23], argTypes := #[37, 30, 48, 78] }, type := 80, pos := "search.go:99", after := #[{ on := 3, ground := Ground.data }, { on := 7, ground := Ground.data }, { on := 9, ground := Ground.data }, { on := 10, ground := Ground.data }], guard := none }) rfl (fun K hK => ?_) AllReadyH.nil
  have Z := HZ.out
  go_simp
  refine Z.mono ?_
  clear Z HZ
  rintro e W3 ⟨a3, c3, rfl, I3, _, m3, k3⟩
  have HS3 := Lib.hid (HS2.out.spent m3 k3)
  have HP3 := Lib.hid (HP2.out.far k3 (meter_farQ HS2.out.meter))
  have HC3 := Lib.hid (HC2.out.farQ k3 (meter_farQ HS2.out.meter))
  have HX3 := Lib.hid (HX2.out.kept k3 (fun e => HNM.out e))
  have HK3 : Hid (Kept (SX mp gs gm qa) W W3) := Lib.hid (HK2.out.trans k3 (fun i hi e => .inl e))
  have HI3 := Lib.hid I3
  have hl3 := I3.le
  have b3 : Lies W3 gs 46 (sqCells mp (.slice ba bn bc) lv qa dn qc gm) ∧ Lies W3 gx 51 [.slice ca n1 cc, .slice la n2 lc, .slice wa n3 wc] := ⟨by have h := HS3.out.box; rw [HDN.out] at h; exact h, HX3.out⟩
  clear I3 m3 k3 HS2 HP2 HC2 HX2 HK2
  obtain ⟨y, ye, My⟩ := nx
  dsimp only at HS3 HI3 hl3 ⊢
  generalize hyl : y.length = yl at hl3 ⊢
  have HYL := Lib.hid hyl
  clear hyl
  go_wp2_with (fail)
  refine hK.out _ _ b3 (fun hHeld => ?_)
  clear hK K hHeld
  try simp only [Act.put, List.setIfInBounds_toArray, List.set_cons_zero, List.set_cons_succ]
  refine wpAnyH_take (i := 12) (oi := { dst := some 12, op := Op.move (Operand.tmp 24), type := 80, pos := "search.go:99", after := #[{ on := 11, ground := Ground.data }], guard := none }) (v := ?_) rfl (by kernel_rfl) (by kernel_rfl) (by kernel_rfl) (fun _ _ _ h => h) (Or.inl ⟨by rfl, ?_⟩) b3 ?_
  rotate_left
  · intro w hSw
    go_simp
    try with_reducible rfl
  try simp only [Act.put, List.setIfInBounds_toArray, List.set_cons_zero, List.set_cons_succ]
  refine wpAnyH_take (i := 13) (oi := { dst := some 25, op := Op.extract (Operand.tmp 12) 0, type := 48, pos := "search.go:99", after := #[{ on := 12, ground := Ground.data }], guard := none }) (v := ?_) rfl (by kernel_rfl) (by kernel_rfl) (by kernel_rfl) (fun _ _ _ h => h) (Or.inl ⟨by rfl, ?_⟩) b3 ?_
  rotate_left
  · intro w hSw
    go_simp
    try with_reducible rfl
  try simp only [Act.put, List.setIfInBounds_toArray, List.set_cons_zero, List.set_cons_succ]
  refine wpAnyH_take (i := 14) (oi := { dst := some 26, op := Op.extract (Operand.tmp 12) 1, type := 31, pos := "search.go:99", after := #[{ on := 12, ground := Ground.data }, { on := 15, ground := Ground.gcOnly Departure.lateStores }], guard := none }) (v := ?_) rfl (by kernel_rfl) (by kernel_rfl) (by kernel_rfl) (fun _ _ _ h => h) (Or.inl ⟨by rfl, ?_⟩) b3 ?_
  rotate_left
  · intro w hSw
    go_simp
    try with_reducible rfl
  try simp only [Act.put, List.setIfInBounds_toArray, List.set_cons_zero, List.set_cons_succ]
  refine wpAnyH_take (i := 15) (oi := { dst := some 8, op := Op.assign (Operand.tmp 25), type := 48, pos := "search.go:99", after := #[{ on := 13, ground := Ground.data }, { on := 11, ground := Ground.chain }, { on := 0, ground := Ground.phase }, { on := 1, ground := Ground.phase }, { on := 2, ground := Ground.phase }, { on := 3, ground := Ground.phase }, { on := 4, ground := Ground.phase }, { on := 5, ground := Ground.phase }, { on := 6, ground := Ground.phase }, { on := 7, ground := Ground.phase }, { on := 8, ground := Ground.phase }, { on := 9, ground := Ground.phase }, { on := 10, ground := Ground.phase }, { on := 11, ground := Ground.phase }, { on := 12, ground := Ground.phase }, { on := 13, ground := Ground.phase }, { on := 14, ground := Ground.textOnly Departure.lateStores }], guard := none }) (v := ?_) rfl (by kernel_rfl) (by kernel_rfl) (by kernel_rfl) (fun _ _ _ h => h) (Or.inl ⟨by rfl, ?_⟩) b3 ?_
  rotate_left
  · intro w hSw
    go_simp
    try with_reducible rfl
  try simp only [Act.put, List.setIfInBounds_toArray, List.set_cons_zero, List.set_cons_succ]
  refine wpAnyH_take (i := 16) (oi := { dst := some 9, op := Op.assign (Operand.tmp 26), type := 31, pos := "search.go:99", after := #[{ on := 14, ground := Ground.data }, { on := 15, ground := Ground.chain }, { on := 0, ground := Ground.phase }, { on := 1, ground := Ground.phase }, { on := 2, ground := Ground.phase }, { on := 3, ground := Ground.phase }, { on := 4, ground := Ground.phase }, { on := 5, ground := Ground.phase }, { on := 6, ground := Ground.phase }, { on := 7, ground := Ground.phase }, { on := 8, ground := Ground.phase }, { on := 9, ground := Ground.phase }, { on := 10, ground := Ground.phase }, { on := 11, ground := Ground.phase }, { on := 12, ground := Ground.phase }, { on := 13, ground := Ground.phase }, { on := 14, ground := Ground.phase }, { on := 15, ground := Ground.phase }], guard := none }) (v := ?_) rfl (by kernel_rfl) (by kernel_rfl) (by kernel_rfl) (fun _ _ _ h => h) (Or.inl ⟨by rfl, ?_⟩) b3 ?_
  rotate_left
  · intro w hSw
    go_simp
    try with_reducible rfl
  try simp only [Act.put, List.setIfInBounds_toArray, List.set_cons_zero, List.set_cons_succ]
  refine wpAnyH_done (by kernel_rfl) ?_ _
  by_cases h0 : ye = 0
  · subst h0
    have HRE := Lib.hid (HRE.out y My rfl)
    have HPR := Lib.hid (HPR.out y My rfl)
    clear HRN
    have b4 : Below W3.heap.size W3 W3.drew := ⟨rfl, rfl, rfl, Nat.le_refl _, fun _ _ => rfl⟩
    have HS4 := Lib.hid (HS3.out.below b4)
    have HW4 := Lib.hid (HP3.out.w.below b4)
    have HI4 := Lib.hid (HI3.out.below b4)
    have HX4 := Lib.hid (HX3.out.below b4 HX3.out.lt)
    have HK4 : Hid (Kept (SX mp gs gm qa) W W3.drew) := Lib.hid HK3.out.drew
    have HZH := Lib.hid (HZH0.out W3.drew (HC3.out.below b4))
    clear b4 HS3 HP3 HC3 HX3 HK3 HI3 HZH0
    go_upto_region 5 with (fail)
    have bd : W3.drew.cell? ⟨gs, 2, none⟩ = some (.int .i64 (lv : Int)) ∧ Lies W3.drew gx 51 [.slice ca n1 cc, .slice la n2 lc, .slice wa n3 wc] := ⟨by have h := HS4.out.box.cell 2; simpa [sqCells] using h, HX4.out⟩
    refine wp_region_held_drew (S := fun V => V.cell? ⟨gs, 2, none⟩ = some (.int .i64 (lv : Int)) ∧ Lies V gx 51 [.slice ca n1 cc, .slice la n2 lc, .slice wa n3 wc]) (by kernel_rfl) bd (fun hHeld => ?_)
    clear hHeld
    refine wpAnyH_take (i := 0) (oi := { dst := some 30, op := Op.move (Operand.tmp 0), type := 58, pos := "search.go:103", after := #[], guard := none }) (v := ?_) rfl (by kernel_rfl) (by kernel_rfl) (by kernel_rfl) (fun _ _ _ h => h) (Or.inl ⟨by rfl, ?_⟩) bd ?_
    rotate_left
    · intro w hSw
      go_simp
      try with_reducible rfl
    try simp only [Act.put, List.setIfInBounds_toArray, List.set_cons_zero, List.set_cons_succ]
    refine wpAnyH_take (i := 1) (oi := { dst := some 31, op := Op.move (Operand.tmp 2), type := 24, pos := "search.go:103", after := #[], guard := none }) (v := ?_) rfl (by kernel_rfl) (by kernel_rfl) (by kernel_rfl) (fun _ _ _ h => h) (Or.inl ⟨by rfl, ?_⟩) bd ?_
    rotate_left
    · intro w hSw
      go_simp
      try with_reducible rfl
    try simp only [Act.put, List.setIfInBounds_toArray, List.set_cons_zero, List.set_cons_succ]
    refine wpAnyH_take (i := 3) (oi := { dst := some 33, op := Op.move (Operand.tmp 8), type := 48, pos := "search.go:103", after := #[], guard := none }) (v := ?_) rfl (by kernel_rfl) (by kernel_rfl) (by kernel_rfl) (fun _ _ _ h => h) (Or.inl ⟨by rfl, ?_⟩) bd ?_
    rotate_left
    · intro w hSw
      go_simp
      try with_reducible rfl
    try simp only [Act.put, List.setIfInBounds_toArray, List.set_cons_zero, List.set_cons_succ]
    refine wpAnyH_take (i := 4) (oi := { dst := some 34, op := Op.fieldAddr 51 (Operand.tmp 4) 2, type := 0, pos := "search.go:103", after := #[], guard := none }) (v := ?_) rfl (by kernel_rfl) (by kernel_rfl) (by kernel_rfl) (fun _ _ _ h => h) (Or.inl ⟨by rfl, ?_⟩) bd ?_
    rotate_left
    · intro w hSw
      go_simp
      try with_reducible rfl
    try simp only [Act.put, List.setIfInBounds_toArray, List.set_cons_zero, List.set_cons_succ]
    refine wpAnyH_take (i := 5) (oi := { dst := some 35, op := Op.load 24 (Operand.tmp 34), type := 24, pos := "search.go:103", after := #[{ on := 4, ground := Ground.data }], guard := none }) (v := ?_) rfl (by kernel_rfl) (by kernel_rfl) (by kernel_rfl) (fun _ _ _ h => h) (Or.inl ⟨by rfl, ?_⟩) bd ?_
    rotate_left
    · intro w hSw
      have k2 := hSw.1
      have y2 := hSw.2.cell 2
      simp only [List.getElem?_cons_zero, List.getElem?_cons_succ] at y2
      go_simp
      try with_reducible rfl
    try simp only [Act.put, List.setIfInBounds_toArray, List.set_cons_zero, List.set_cons_succ]
    refine wpAnyH_take (i := 6) (oi := { dst := some 36, op := Op.move (Operand.tmp 7), type := 78, pos := "search.go:103", after := #[], guard := none }) (v := ?_) rfl (by kernel_rfl) (by kernel_rfl) (by kernel_rfl) (fun _ _ _ h => h) (Or.inl ⟨by rfl, ?_⟩) bd ?_
    rotate_left
    · intro w hSw
      go_simp
      try with_reducible rfl
    try simp only [Act.put, List.setIfInBounds_toArray, List.set_cons_zero, List.set_cons_succ]
    refine wpAnyH_take (i := 7) (oi := { dst := some 37, op := Op.move (Operand.tmp 0), type := 58, pos := "search.go:103", after := #[], guard := none }) (v := ?_) rfl (by kernel_rfl) (by kernel_rfl) (by kernel_rfl) (fun _ _ _ h => h) (Or.inl ⟨by rfl, ?_⟩) bd ?_
    rotate_left
    · intro w hSw
      go_simp
      try with_reducible rfl
    try simp only [Act.put, List.setIfInBounds_toArray, List.set_cons_zero, List.set_cons_succ]
    refine wpAnyH_take (i := 8) (oi := { dst := some 38, op := Op.nilCheck (Operand.tmp 37), type := 0, pos := "search.go:103", after := #[{ on := 7, ground := Ground.data }], guard := none }) (v := ?_) rfl (by kernel_rfl) (by kernel_rfl) (by kernel_rfl) (fun _ _ _ h => h) (Or.inl ⟨by rfl, ?_⟩) bd ?_
    rotate_left
    · intro w hSw
      go_simp
      try with_reducible rfl
    try simp only [Act.put, List.setIfInBounds_toArray, List.set_cons_zero, List.set_cons_succ]
    refine wpAnyH_take (i := 9) (oi := { dst := some 39, op := Op.fieldAddr 46 (Operand.tmp 38) 2, type := 0, pos := "search.go:103", after := #[{ on := 8, ground := Ground.data }], guard := none }) (v := ?_) rfl (by kernel_rfl) (by kernel_rfl) (by kernel_rfl) (fun _ _ _ h => h) (Or.inl ⟨by rfl, ?_⟩) bd ?_
    rotate_left
    · intro w hSw
      go_simp
      try with_reducible rfl
    try simp only [Act.put, List.setIfInBounds_toArray, List.set_cons_zero, List.set_cons_succ]
    refine wpAnyH_take (i := 10) (oi := { dst := some 40, op := Op.load 3 (Operand.tmp 39), type := 3, pos := "search.go:103", after := #[{ on := 9, ground := Ground.data }], guard := none }) (v := ?_) rfl (by kernel_rfl) (by kernel_rfl) (by kernel_rfl) (fun _ _ _ h => h) (Or.inl ⟨by rfl, ?_⟩) bd ?_
    rotate_left
    · intro w hSw
      have k2 := hSw.1
      have y2 := hSw.2.cell 2
      simp only [List.getElem?_cons_zero, List.getElem?_cons_succ] at y2
      go_simp
      try with_reducible rfl
    try simp only [Act.put, List.setIfInBounds_toArray, List.set_cons_zero, List.set_cons_succ]
    refine wpAnyH_ready (rs := [2]) (by kernel_rfl) (by simp) ?_
    refine AllReadyH.cons (o := { dst := some 32, op := Op.call { callee := Callee.value (Operand.func 41), args := #[Operand.tmp 31], argTypes := #[24] }, type := 24, pos := "search.go:103", after := #[{ on := 1, ground := Ground.data }], guard := none }) rfl (fun K hK => ?_) AllReadyH.nil
    have Z := HZH.out
    go_simp
    refine Z.mono ?_
    clear Z HZH
    rintro e W5 ⟨a5, c5, rfl, B5, _, b5⟩
    have HS5 := Lib.hid (HS4.out.below b5)
    have HW5 := Lib.hid (HW4.out.below b5)
    have HI5 := Lib.hid (HI4.out.below b5)
    have HX5 := Lib.hid (HX4.out.below b5 HX4.out.lt)
    have HK5 : Hid (Kept (SX mp gs gm qa) W W5) := Lib.hid (HK4.out.trans (Y := fun _ => False) (Kept.of_below b5) (fun _ _ e => e.elim))
    have HH5 := Lib.hid B5
    have hl5 := B5.le
    generalize hhl : (halfL c).length = hl at hl5 ⊢
    have HHL := Lib.hid hhl
    have b5' : W5.cell? ⟨gs, 2, none⟩ = some (.int .i64 (lv : Int)) ∧ Lies W5 gx 51 [.slice ca n1 cc, .slice la n2 lc, .slice wa n3 wc] := ⟨by have h := HS5.out.box.cell 2; simpa [sqCells] using h, HX5.out⟩
    clear B5 b5 hhl HS4 HW4 HI4 HX4 HK4
    go_wp2_with (fail)
    refine hK.out _ _ b5' (fun hHeld => ?_)
    clear hK K hHeld
    try simp only [Act.put, List.setIfInBounds_toArray, List.set_cons_zero, List.set_cons_succ]
    refine wpAnyH_ready (rs := [11]) (by kernel_rfl) (by simp) ?_
    refine AllReadyH.cons (o := { dst := some 41, op := Op.call { callee := Callee.value (Operand.func 42), args := #[Operand.tmp 35, Operand.tmp 36, Operand.tmp 40], argTypes := #[24, 78, 3] }, type := 24, pos := "search.go:103", after := #[{ on := 5, ground := Ground.data }, { on := 6, ground := Ground.data }, { on := 10, ground := Ground.data }, { on := 2, ground := Ground.chain }], guard := none }) rfl (fun K hK => ?_) AllReadyH.nil
    have Z := longer160 wa wc x.w om lv W5 HW5.out HLG.out.1 (by omega) HLG.out.2.1
    rw [HN3.out, HLG.out.2.2] at Z
    go_simp
    refine Z.mono ?_
    clear Z
    rintro e W6 ⟨a6, c6, rfl, B6, _, b6⟩
    have HS6 := Lib.hid (HS5.out.below b6)
    have HI6 := Lib.hid (HI5.out.below b6)
    have HX6 := Lib.hid (HX5.out.below b6 HX5.out.lt)
    have HK6 : Hid (Kept (SX mp gs gm qa) W W6) := Lib.hid (HK5.out.trans (Y := fun _ => False) (Kept.of_below b6) (fun _ _ e => e.elim))
    have HH6 := Lib.hid (HH5.out.below b6)
    have HB6 := Lib.hid B6
    have hl6 := B6.le
    generalize hwl : (wordStep x.w (om : Int) lv).length = wl at hl6 ⊢
    have HWL := Lib.hid hwl
    have b6' : W6.cell? ⟨gs, 2, none⟩ = some (.int .i64 (lv : Int)) ∧ Lies W6 gx 51 [.slice ca n1 cc, .slice la n2 lc, .slice wa n3 wc] := ⟨by have h := HS6.out.box.cell 2; simpa [sqCells] using h, HX6.out⟩
    clear B6 b6 hwl HS5 HI5 HX5 HK5 HH5 HW5
    go_wp2_with (fail)
    refine hK.out _ _ b6' (fun hHeld => ?_)
    clear hK K hHeld
    try simp only [Act.put, List.setIfInBounds_toArray, List.set_cons_zero, List.set_cons_succ]
    refine wpAnyH_take (i := 12) (oi := { dst := some 42, op := Op.build 51 #[(0, Operand.tmp 32), (1, Operand.tmp 33), (2, Operand.tmp 41)], type := 51, pos := "search.go:103", after := #[{ on := 2, ground := Ground.data }, { on := 3, ground := Ground.data }, { on := 11, ground := Ground.data }], guard := none }) (v := ?_) rfl (by kernel_rfl) (by kernel_rfl) (by kernel_rfl) (fun _ _ _ h => h) (Or.inl ⟨by rfl, ?_⟩) b6' ?_
    rotate_left
    · intro w hSw
      go_simp
      try with_reducible rfl
    try simp only [Act.put, List.setIfInBounds_toArray, List.set_cons_zero, List.set_cons_succ]
    refine wpAnyH_ready (rs := [13]) (by kernel_rfl) (by simp) ?_
    refine AllReadyH.cons (o := { dst := some 43, op := Op.call { callee := Callee.value (Operand.func 14), args := #[Operand.tmp 30, Operand.tmp 42], argTypes := #[58, 51] }, type := 31, pos := "search.go:103", after := #[{ on := 0, ground := Ground.data }, { on := 12, ground := Ground.data }, { on := 11, ground := Ground.chain }], guard := none }) rfl (fun K hK => ?_) AllReadyH.nil
    have Z := add85 W6 HS6.out HTAB.out ⟨a5, c5, a3, c3, a6, c6, ⟨halfL c, y, wordStep x.w (om : Int) lv, lv + 1⟩⟩ ⟨HH6.out, HI6.out, HB6.out⟩ HPR.out HQA.out HLN.out HK00.out
    simp only at Z
    rw [HHL.out, HYL.out, HWL.out] at Z
    go_simp
    refine Z.mono ?_
    clear Z
    rintro e W7 ⟨rfl, qa7, qc7, s7, k7, f7⟩
    have hx7 : Lies W7 gx 51 [.slice ca n1 cc, .slice la n2 lc, .slice wa n3 wc] := HX6.out.kept k7 HNX.out
    have b7 : W7.cell? ⟨gs, 2, none⟩ = some (.int .i64 (lv : Int)) ∧ Lies W7 gx 51 [.slice ca n1 cc, .slice la n2 lc, .slice wa n3 wc] := ⟨by have h := s7.box.cell 2; simpa [sqCells] using h, hx7⟩
    have HF : Hid (SqRet w0 mp gs gm (.slice ba bn bc) lv k0 qa W (readP X b x c Q M) (.returned (.int .i64 (addP ⟨halfL c, y, wordStep x.w (om : Int) lv, lv + 1⟩ Q My).2.1)) W7) := Lib.hid (by
      rw [HRE.out]
      exact ⟨rfl, qa7, qc7, s7, HK6.out.trans k7 (fun i hi e => e), fun g e => (f7 g e).imp id (fun h => Nat.le_trans HK6.out.size h)⟩)
    clear s7 k7 f7 hx7
    generalize (addP ⟨halfL c, y, wordStep x.w (om : Int) lv, lv + 1⟩ Q My).2.1 = er at HF ⊢
    go_wp2_with (fail)
    refine hK.out _ _ b7 (fun hHeld => ?_)
    clear hK K hHeld
    try simp only [Act.put, List.setIfInBounds_toArray, List.set_cons_zero, List.set_cons_succ]
    refine wpAnyH_take (i := 14) (oi := { dst := some 6, op := Op.assign (Operand.tmp 43), type := 31, pos := "search.go:103", after := #[{ on := 13, ground := Ground.data }, { on := 13, ground := Ground.chain }, { on := 0, ground := Ground.phase }, { on := 1, ground := Ground.phase }, { on := 2, ground := Ground.phase }, { on := 3, ground := Ground.phase }, { on := 4, ground := Ground.phase }, { on := 5, ground := Ground.phase }, { on := 6, ground := Ground.phase }, { on := 7, ground := Ground.phase }, { on := 8, ground := Ground.phase }, { on := 9, ground := Ground.phase }, { on := 10, ground := Ground.phase }, { on := 11, ground := Ground.phase }, { on := 12, ground := Ground.phase }, { on := 13, ground := Ground.phase }], guard := none }) (v := ?_) rfl (by kernel_rfl) (by kernel_rfl) (by kernel_rfl) (fun _ _ _ h => h) (Or.inl ⟨by rfl, ?_⟩) b7 ?_
    rotate_left
    · intro w hSw
      go_simp
      try with_reducible rfl
    try simp only [Act.put, List.setIfInBounds_toArray, List.set_cons_zero, List.set_cons_succ]
    refine wpAnyH_done (by kernel_rfl) ?_ _
    go_wp2
    go_ret
    exact HF.out
  · have HF : Hid (SqRet w0 mp gs gm (.slice ba bn bc) lv k0 qa W (readP X b x c Q M) (.returned (.int .i64 ye)) W3) := Lib.hid (by
      rw [HRN.out y ye My rfl h0]
      exact ⟨rfl, qa, qc, HS3.out, HK3.out, fun g e => .inl e⟩)
    go_wp2
    go_ret
    exact HF.out
end Go.Proofs.YtmefmnpmppdpmabDoor

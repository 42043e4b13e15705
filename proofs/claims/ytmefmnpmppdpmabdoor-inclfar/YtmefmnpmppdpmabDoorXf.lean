import Derived.Test.YtmefmnpmppdpmabDoorXe
/- The search's choices and behind. -/
namespace Go.Proofs.YtmefmnpmppdpmabDoor
open Go.ChangeShapes Go.WideShapes Go.ChangeAt Go.RowKit Go.Maps

/-- What holds of all that are put in already, and of all that choices may put in, holds of all behind it. -/
theorem kids_all {x : Lin} {b : List Lin} {q : Pr} {P : Pr → Prop} (hnew : ∀ m c M, chosenL q.c x.ps m = some c → (nextM M b q.l (oddN c)).2.1 = 0 → P ⟨halfL c, (nextM M b q.l (oddN c)).1, wordStep q.w (oddN c) q.n, q.n + 1⟩) :
    ∀ (k m : Nat) (Q : List Pr) (M : Mr), (∀ z ∈ Q, P z) → ∀ z ∈ (kidsGo x b q k m Q M).1, P z
  | 0, m, Q, M, h => h
  | k + 1, m, Q, M, h => by
    cases hc : chosenL q.c x.ps m with
    | none => rw [kids_none hc]; exact h
    | some c =>
      by_cases h1 : (nextM M b q.l (oddN c)).2.1 = 0
      · by_cases h2 : metP Q (halfL c) (nextM M b q.l (oddN c)).1 = true
        · rw [kids_met hc h1 h2]
          exact kids_all hnew k (m + 1) Q _ h
        · by_cases h3 : (spendM (nextM M b q.l (oddN c)).2.2 1).1 = true
          · rw [kids_put hc h1 h2 h3]
            refine kids_all hnew k (m + 1) _ _ (fun z hz => ?_)
            rcases List.mem_append.1 hz with hz | hz
            · exact h z hz
            · rw [List.mem_singleton] at hz
              subst hz
              exact hnew m c M hc h1
          · rw [kids_work hc h1 h2 h3]; exact h
      · rw [kids_err hc h1]; exact h
theorem kids_len (x : Lin) (b : List Lin) (q : Pr) (k m : Nat) (Q : List Pr) (M : Mr) : Q.length ≤ (kidsGo x b q k m Q M).1.length := by
  obtain ⟨R, e⟩ := kids_grow x b q k m Q M
  rw [e, List.length_append]
  omega
theorem sx_back {mp : Option Addr} {gs gm : Nat} {qa qb : Option Addr} {W V : World} {X : Nat → Prop} (_k : Kept X W V) (f : ∀ g, qb = some ⟨g, 0, none⟩ → qa = some ⟨g, 0, none⟩ ∨ W.heap.size ≤ g) : ∀ i, i < W.heap.size → SX mp gs gm qb i → SX mp gs gm qa i := fun i hi e => by
  rcases e with e | e | e | e
  · exact .inl e
  · exact .inr (.inl e)
  · exact .inr (.inr (.inl e))
  · exact .inr (.inr (.inr ((f i e).resolve_right (by omega))))
/-- What the pair at hand and the sets must be. -/
structure ChEnv (w0 : World) (mp : Option Addr) (b : List Lin) (ba : Option Addr) (bc : Nat) (X : Lin) (pa : Option Addr) (pc lv : Nat) (x : Pr) : Prop where
  tab : TabM mp w0
  bl : ∀ V, MK mp w0 V → Lins V ba bc b
  ps : ∀ V, MK mp w0 V → Bags V pa pc X.ps
  rp : ∀ q ∈ X.ps, rightL q = true
  c : rightL x.c = true
  cost : costI b x.l ≤ 100000000000
  n : x.n = lv
  far : lv ≤ 59
  w : rightL x.w = true
  low : ∀ t, x.w.getD t 0 < 2 ^ x.n
  new : ∀ m c M, chosenL x.c X.ps m = some c → (nextM M b x.l (oddN c)).2.1 = 0 → PairR ⟨halfL c, (nextM M b x.l (oddN c)).1, wordStep x.w (oddN c) x.n, x.n + 1⟩
/-- What choices of the first i periods come to. -/
def ChSays (w0 : World) (mp : Option Addr) (gs gm : Nat) (b : List Lin) (ba : Option Addr) (bc : Nat) (X : Lin) (pa : Option Addr) (pc lv k0 : Nat) (x : Pr) (ca : Option Addr) (cc : Nat) (la : Option Addr) (lc : Nat) (wa : Option Addr) (wc i : Nat) : Prop :=
  ∀ (W : World) (M : Mr) (Q : List Pr) (qa : Option Addr) (qc : Nat) (sa : Option Addr) (sc : Nat) (c : List Int) (m : Nat), SqAt w0 mp M gs gm (.slice ba b.length bc) lv qa qc (Q.drop k0) (Q.map keyT) W → QbAt W ⟨ca, cc, la, lc, wa, wc, x⟩ → Bag W sa sc c →
    chosenL x.c X.ps m = some c → m % 2 ^ i = 0 → i ≤ X.ps.length → (∀ z ∈ Q, PairR z) → (chGo X b x i c Q M).1.length ≤ 1000000000 → k0 ≤ Q.length →
    Calls Tryd.prog 28 #[.pointer (some ⟨gs, 0, none⟩), .agg #[.slice ca x.c.length cc, .slice la x.l.length lc, .slice wa x.w.length wc], .slice sa c.length sc, .slice pa i pc] W (SqRet w0 mp gs gm (.slice ba b.length bc) lv k0 qa W (chGo X b x i c Q M))
set_option maxRecDepth 100000 in
set_option maxHeartbeats 4000000 in
theorem choices118_zero {w0 : World} {mp : Option Addr} {gs gm : Nat} {b : List Lin} {ba : Option Addr} {bc : Nat} {X : Lin} {pa : Option Addr} {pc lv k0 : Nat} {x : Pr} (E : ChEnv w0 mp b ba bc X pa pc lv x) (ca : Option Addr) (cc : Nat) (la : Option Addr) (lc : Nat) (wa : Option Addr) (wc : Nat) :
    ChSays w0 mp gs gm b ba bc X pa pc lv k0 x ca cc la lc wa wc 0 := by
  intro W M Q qa qc sa sc c m S hp hsum hch _ _ hQ hlen hk0
  have hc := chosen_right _ _ _ _ E.c hch
  have hQl : Q.length ≤ 1000000000 := by
    have e : chGo X b x 0 c Q M = kidsGo X b x 1 m Q M := (kids_one hch Q M).symm
    rw [e] at hlen
    exact Nat.le_trans (kids_len ..) hlen
  have bb := below_alloc W (.cells #[.slice ca x.c.length cc, .slice la x.l.length lc, .slice wa x.w.length wc] 51)
  have HX1 := Lib.hid (Lies.new W 51 [.slice ca x.c.length cc, .slice la x.l.length lc, .slice wa x.w.length wc])
  have Z := read138 X _ (S.below bb) E.tab E.bl ⟨ca, cc, la, lc, wa, wc, x⟩ (hp.below bb) sa sc c (hsum.below bb) hc E.cost E.n E.far E.w E.low (E.new m c M hch) hQ hQl hk0
  have hlez := hsum.le
  have HK1 : Hid (Kept (SX mp gs gm qa) W (W.alloc (.cells #[.slice ca x.c.length cc, .slice la x.l.length lc, .slice wa x.w.length wc] 51))) := Lib.hid (Kept.of_below bb)
  have HE : Hid (chGo X b x 0 c Q M = readP X b x c Q M) := Lib.hid rfl
  have HHC := Lib.hid hp.c.le
  have HHL := Lib.hid hp.l.le
  have HHW := Lib.hid hp.w.le
  simp only at Z HHC HHL HHW
  generalize hcl : c.length = cl at hlez Z ⊢
  generalize hn1 : x.c.length = n1 at HX1 HK1 Z ⊢
  generalize hn2 : x.l.length = n2 at HX1 HK1 Z ⊢
  generalize hn3 : x.w.length = n3 at HX1 HK1 Z ⊢
  generalize (Value.slice ba b.length bc) = bv at Z ⊢
  generalize chGo X b x 0 c Q M = r at HE ⊢
  have HZ := Lib.hid Z
  clear Z bb S hp hsum hch hQ hlen hk0 hc hQl hn1 hn2 hn3 hcl E
  go_enter Tryd.func28, Tryd.ntmps28
  have e1 := HX1.out.cell 0
  have e2 := HX1.out.cell 1
  have e3 := HX1.out.cell 2
  simp only [List.getElem?_cons_zero, List.getElem?_cons_succ] at e1 e2 e3
  go_wp2_with (fail)
  refine HZ.out.mono ?_
  clear HZ
  rintro e W2 ⟨rfl, qa2, qc2, s2, k2, f2⟩
  have HF : Hid (SqRet w0 mp gs gm bv lv k0 qa W r (.returned (.int .i64 (readP X b x c Q M).2.1)) W2) := Lib.hid (by
    rw [HE.out]
    exact ⟨rfl, qa2, qc2, s2, HK1.out.trans k2 (fun i hi e => e), fun g e => (f2 g e).imp id (fun h => Nat.le_trans HK1.out.size h)⟩)
  clear s2 k2 f2
  generalize (readP X b x c Q M).2.1 = er at HF ⊢
  go_wp2
  go_ret
  exact HF.out
set_option maxRecDepth 100000 in
set_option maxHeartbeats 4000000 in
theorem choices118_more {w0 : World} {mp : Option Addr} {gs gm : Nat} {b : List Lin} {ba : Option Addr} {bc : Nat} {X : Lin} {pa : Option Addr} {pc lv k0 : Nat} {x : Pr} (E : ChEnv w0 mp b ba bc X pa pc lv x) (ca : Option Addr) (cc : Nat) (la : Option Addr) (lc : Nat) (wa : Option Addr) (wc i : Nat)
    (IH : ChSays w0 mp gs gm b ba bc X pa pc lv k0 x ca cc la lc wa wc i) : ChSays w0 mp gs gm b ba bc X pa pc lv k0 x ca cc la lc wa wc (i + 1) := by
  intro W M Q qa qc sa sc c m S hp hsum hch hm hi hQ hlen hk0
  have hc := chosen_right _ _ _ _ E.c hch
  have hm2 : m % 2 ^ i = 0 := by
    have : m % 2 ^ (i + 1) % 2 ^ i = m % 2 ^ i := Nat.mod_mod_of_dvd m ⟨2, Nat.pow_succ 2 i⟩
    rw [hm, Nat.zero_mod] at this
    exact this.symm
  obtain ⟨_, hmore⟩ := chosen_more X.ps x.c i m c (by omega) E.rp E.c hm hch
  have hk1 := ch_kids (b := b) E.rp E.c i m c Q M (by omega) hm2 hch
  have hall : ∀ z ∈ (chGo X b x i c Q M).1, PairR z := by rw [hk1]; exact kids_all E.new _ _ _ _ hQ
  have hgr : Q.length ≤ (chGo X b x i c Q M).1.length := by rw [hk1]; exact kids_len ..
  have hee : chGo X b x (i + 1) c Q M = if (chGo X b x i c Q M).2.1 = 0 then
      if addOk c (X.ps.getD i []) = true then chGo X b x i (addT c (X.ps.getD i [])) (chGo X b x i c Q M).1 (chGo X b x i c Q M).2.2
      else ((chGo X b x i c Q M).1, 3, (chGo X b x i c Q M).2.2)
    else chGo X b x i c Q M := rfl
  have hlen1 : (chGo X b x i c Q M).1.length ≤ 1000000000 := by
    rw [hee] at hlen
    split at hlen
    · split at hlen
      · next ha =>
        rw [if_pos ha] at hmore
        have hk2 := ch_kids (b := b) E.rp E.c i (m + 2 ^ i) _ (chGo X b x i c Q M).1 (chGo X b x i c Q M).2.2 (by omega) (by rw [Nat.add_mod_right]; exact hm2) hmore
        rw [hk2] at hlen
        exact Nat.le_trans (kids_len ..) hlen
      · exact hlen
    · exact hlen
  obtain ⟨r1, hr1⟩ : ∃ r1, r1 = chGo X b x i c Q M := ⟨_, rfl⟩
  have HR1 := Lib.hid hr1
  have bb0 := below_alloc W (.cells #[.slice ca x.c.length cc, .slice la x.l.length lc, .slice wa x.w.length wc] 51)
  have bb : Below W.heap.size W (W.alloc (.cells #[.slice ca x.c.length cc, .slice la x.l.length lc, .slice wa x.w.length wc] 51)).drew := below_drew bb0
  have HS1 := Lib.hid (S.below bb)
  have HP1 := Lib.hid (hp.below bb)
  have HC1 := Lib.hid (hsum.below bb)
  have HX1 : Hid (Lies (W.alloc (.cells #[.slice ca x.c.length cc, .slice la x.l.length lc, .slice wa x.w.length wc] 51)).drew W.heap.size 51 [.slice ca x.c.length cc, .slice la x.l.length lc, .slice wa x.w.length wc]) := Lib.hid (Lies.new W 51 [.slice ca x.c.length cc, .slice la x.l.length lc, .slice wa x.w.length wc])
  have HK1 : Hid (Kept (SX mp gs gm qa) W (W.alloc (.cells #[.slice ca x.c.length cc, .slice la x.l.length lc, .slice wa x.w.length wc] 51)).drew) := Lib.hid (Kept.of_below bb)
  have hlez := hsum.le
  have HNX : Hid (¬ SX mp gs gm qa W.heap.size) := Lib.hid (fun e => by
    rcases e with e | e | e | e
    · have := S.old _ e; have := S.kept.size; omega
    · have := S.box.lt; omega
    · have := S.map.lt; omega
    · exact Nat.lt_irrefl _ (S.prs.lt e))
  have Z := IH _ M Q qa qc sa sc c m HS1.out HP1.out HC1.out hch hm2 (by omega) hQ hlen1 hk0
  rw [← hr1] at Z hall hgr hee hlen1
  have HIH2 : Hid (r1.2.1 = 0 → addOk c (X.ps.getD i []) = true → ∀ V qa' qc' sa' sc', SqAt w0 mp r1.2.2 gs gm (.slice ba b.length bc) lv qa' qc' (r1.1.drop k0) (r1.1.map keyT) V → QbAt V ⟨ca, cc, la, lc, wa, wc, x⟩ → Bag V sa' sc' (addT c (X.ps.getD i [])) →
      Calls Tryd.prog 28 #[.pointer (some ⟨gs, 0, none⟩), .agg #[.slice ca x.c.length cc, .slice la x.l.length lc, .slice wa x.w.length wc], .slice sa' (addT c (X.ps.getD i [])).length sc', .slice pa i pc] V (SqRet w0 mp gs gm (.slice ba b.length bc) lv k0 qa' V (chGo X b x i (addT c (X.ps.getD i [])) r1.1 r1.2.2))) := Lib.hid (fun h0 ha V qa' qc' sa' sc' s p y => by
    rw [if_pos ha] at hmore
    rw [hee, if_pos h0, if_pos ha] at hlen
    exact IH V r1.2.2 r1.1 qa' qc' sa' sc' _ (m + 2 ^ i) s p y hmore (by rw [Nat.add_mod_right]; exact hm2) (by omega) hall hlen (Nat.le_trans hk0 hgr))
  have HEE := Lib.hid hee
  have hBP := E.ps _ HS1.out.kept
  have hlep := hBP.le
  obtain ⟨gp, pb, pd, hpa, _, _⟩ := hBP.at (k := i) (by omega)
  subst hpa
  have HPS := Lib.hid (fun V (h : MK mp w0 V) => E.ps V h)
  have hil : i < X.ps.length := by omega
  have HIL := Lib.hid hil
  have HRC := Lib.hid hc
  have HAA : Hid (addOk c (X.ps.getD i []) = true → addS c (X.ps.getD i []) = addT c (X.ps.getD i [])) := Lib.hid (fun h => by unfold addS; rw [if_pos h])
  generalize hpp : X.ps.getD i [] = pp at HEE HIH2 HAA
  have HPP := Lib.hid hpp
  generalize hcl : c.length = cl at hlez Z ⊢
  have HCL := Lib.hid hcl
  generalize hn1 : x.c.length = n1 at HX1 HK1 HIH2 Z ⊢
  generalize hn2 : x.l.length = n2 at HX1 HK1 HIH2 Z ⊢
  generalize hn3 : x.w.length = n3 at HX1 HK1 HIH2 Z ⊢
  rw [hn1, hn2, hn3] at HS1 HP1 HC1
  generalize (Value.slice ba b.length bc) = bv at HS1 HIH2 Z ⊢
  generalize chGo X b x (i + 1) c Q M = r at HEE ⊢
  have HZ := Lib.hid Z
  clear Z bb bb0 S hp hsum hch hQ hlen hk0 hc hn1 hn2 hn3 hcl E IH hall hgr hee hlen1 hr1 hk1 hmore hm hm2 hBP hpp
  have hipc : i ≤ pc := by omega
  have i2 : ((i : Int) + 1 == 0) = false := by simp; omega
  have i3 : ¬ ((i : Int) + 1 = 0) := by omega
  go_enter Tryd.func28, Tryd.ntmps28
  go_upto_region 4 with (fail)
  generalize (W.alloc (.cells #[.slice ca n1 cc, .slice la n2 lc, .slice wa n3 wc] 51)) = W0 at HS1 HP1 HC1 HX1 HK1 HZ ⊢
  generalize hgx : W.heap.size = gx at HX1 HNX ⊢
  have HGX := Lib.hid hgx
  clear hgx
  have bd : Lies W0.drew gx 51 [.slice ca n1 cc, .slice la n2 lc, .slice wa n3 wc] := HX1.out
  refine wp_region_held_drew (S := fun V => Lies V gx 51 [.slice ca n1 cc, .slice la n2 lc, .slice wa n3 wc]) (by kernel_rfl) bd (fun hHeld => ?_)
  clear hHeld
  refine wpAnyH_take (i := 0) (oi := { dst := some 23, op := Op.move (Operand.tmp 0), type := 58, pos := "search.go:85", after := #[], guard := none }) (v := ?_) rfl (by kernel_rfl) (by kernel_rfl) (by kernel_rfl) (fun _ _ _ h => h) (Or.inl ⟨by rfl, ?_⟩) bd ?_
  rotate_left
  · intro w hSw
    go_simp
    try with_reducible rfl
  try simp only [Act.put, List.setIfInBounds_toArray, List.set_cons_zero, List.set_cons_succ]
  refine wpAnyH_take (i := 1) (oi := { dst := some 24, op := Op.load 51 (Operand.tmp 5), type := 51, pos := "search.go:85", after := #[], guard := none }) (v := ?_) rfl (by kernel_rfl) (by kernel_rfl) (by kernel_rfl) (fun _ _ _ h => h) (Or.inl ⟨by rfl, ?_⟩) bd ?_
  rotate_left
  · intro w hSw
    have y0 := hSw.cell 0
    have y1 := hSw.cell 1
    have y2 := hSw.cell 2
    simp only [List.getElem?_cons_zero, List.getElem?_cons_succ] at y0 y1 y2
    go_simp
    try with_reducible rfl
  try simp only [Act.put, List.setIfInBounds_toArray, List.set_cons_zero, List.set_cons_succ]
  refine wpAnyH_take (i := 2) (oi := { dst := some 25, op := Op.move (Operand.tmp 2), type := 24, pos := "search.go:85", after := #[], guard := none }) (v := ?_) rfl (by kernel_rfl) (by kernel_rfl) (by kernel_rfl) (fun _ _ _ h => h) (Or.inl ⟨by rfl, ?_⟩) bd ?_
  rotate_left
  · intro w hSw
    go_simp
    try with_reducible rfl
  try simp only [Act.put, List.setIfInBounds_toArray, List.set_cons_zero, List.set_cons_succ]
  refine wpAnyH_take (i := 3) (oi := { dst := some 26, op := Op.move (Operand.tmp 3), type := 26, pos := "search.go:85", after := #[], guard := none }) (v := ?_) rfl (by kernel_rfl) (by kernel_rfl) (by kernel_rfl) (fun _ _ _ h => h) (Or.inl ⟨by rfl, ?_⟩) bd ?_
  rotate_left
  · intro w hSw
    go_simp
    try with_reducible rfl
  try simp only [Act.put, List.setIfInBounds_toArray, List.set_cons_zero, List.set_cons_succ]
  refine wpAnyH_take (i := 4) (oi := { dst := some 27, op := Op.move (Operand.tmp 9), type := 3, pos := "search.go:85", after := #[], guard := none }) (v := ?_) rfl (by kernel_rfl) (by kernel_rfl) (by kernel_rfl) (fun _ _ _ h => h) (Or.inl ⟨by rfl, ?_⟩) bd ?_
  rotate_left
  · intro w hSw
    go_simp
    try with_reducible rfl
  try simp only [Act.put, List.setIfInBounds_toArray, List.set_cons_zero, List.set_cons_succ]
  refine wpAnyH_take (i := 5) (oi := { dst := some 28, op := Op.slice 26 (Operand.tmp 26) none (some (Operand.tmp 27)) none, type := 26, pos := "search.go:85", after := #[{ on := 3, ground := Ground.data }, { on := 4, ground := Ground.data }], guard := none }) (v := ?_) rfl (by kernel_rfl) (by kernel_rfl) (by kernel_rfl) (fun _ _ _ h => h) (Or.inl ⟨by rfl, ?_⟩) bd ?_
  rotate_left
  · intro w hSw
    go_simp
    try with_reducible rfl
  try simp only [Act.put, List.setIfInBounds_toArray, List.set_cons_zero, List.set_cons_succ]
  refine wpAnyH_ready (rs := [6]) (by kernel_rfl) (by simp) ?_
  refine AllReadyH.cons (o := { dst := some 29, op := Op.call { callee := Callee.value (Operand.func 28), args := #[Operand.tmp 23, Operand.tmp 24, Operand.tmp 25, Operand.tmp 28], argTypes := #[58, 51, 24, 26] }, type := 31, pos := "search.go:85", after := #[{ on := 0, ground := Ground.data }, { on := 1, ground := Ground.data }, { on := 2, ground := Ground.data }, { on := 5, ground := Ground.data }], guard := none }) rfl (fun K hK => ?_) AllReadyH.nil
  have Z := HZ.out
  go_simp
  refine Z.mono ?_
  clear Z HZ
  rintro e W2 ⟨rfl, qa2, qc2, s2, k2, f2⟩
  have HX2 := Lib.hid (HX1.out.kept k2 HNX.out)
  have b2 := HX2.out
  have HS2 := Lib.hid s2
  have HK2 := Lib.hid (HK1.out.trans k2 (fun i hi e => e))
  have HF2 : Hid (∀ g, qa2 = some ⟨g, 0, none⟩ → qa = some ⟨g, 0, none⟩ ∨ W.heap.size ≤ g) := Lib.hid (fun g e => (f2 g e).imp id (fun h => Nat.le_trans HK1.out.size h))
  have HN2Q : Hid (¬ qa2 = some ⟨gx, 0, none⟩) := Lib.hid (fun e => (f2 _ e).elim (fun h => HNX.out (.inr (.inr (.inr h)))) (fun h => by have := HX1.out.lt; omega))
  have HP2 := Lib.hid (HP1.out.far k2 HS1.out.far)
  have HC2 := Lib.hid (HC1.out.farQ k2 HS1.out.far)
  clear s2 k2 f2 HS1 HK1 HP1 HC1 HX1
  go_wp2_with (fail)
  refine hK.out _ _ b2 (fun hHeld => ?_)
  clear hK K hHeld
  try simp only [Act.put, List.setIfInBounds_toArray, List.set_cons_zero, List.set_cons_succ]
  refine wpAnyH_take (i := 7) (oi := { dst := some 10, op := Op.assign (Operand.tmp 29), type := 31, pos := "search.go:85", after := #[{ on := 6, ground := Ground.data }, { on := 6, ground := Ground.chain }, { on := 0, ground := Ground.phase }, { on := 1, ground := Ground.phase }, { on := 2, ground := Ground.phase }, { on := 3, ground := Ground.phase }, { on := 4, ground := Ground.phase }, { on := 5, ground := Ground.phase }, { on := 6, ground := Ground.phase }], guard := none }) (v := ?_) rfl (by kernel_rfl) (by kernel_rfl) (by kernel_rfl) (fun _ _ _ h => h) (Or.inl ⟨by rfl, ?_⟩) b2 ?_
  rotate_left
  · intro w hSw
    go_simp
    try with_reducible rfl
  try simp only [Act.put, List.setIfInBounds_toArray, List.set_cons_zero, List.set_cons_succ]
  refine wpAnyH_done (by kernel_rfl) ?_ _
  by_cases h0 : r1.2.1 = 0
  · have h0b : (r1.2.1 != 0) = false := by simp [h0]
    have H0 := Lib.hid h0
    obtain ⟨gp', pb, pd, hpe, hpc, hpB⟩ := (HPS.out _ HS2.out.kept).at (k := i) HIL.out
    injection hpe with hpe; injection hpe with hpe
    subst hpe
    rw [HPP.out] at hpc hpB
    have hple := hpB.le
    have Z := add10 sa pb sc pd c pp W2 HC2.out hpB
    rw [HCL.out] at Z
    generalize hpl : pp.length = pl at hpc hple Z
    have HZ := Lib.hid Z
    have i4 : (0 : Int) ≤ (i : Int) := by omega
    have i5 : (i : Int) < (i : Int) + 1 := by omega
    clear Z hpB hpl h0
    go_wp2_with (fail)
    refine HZ.out.mono ?_
    clear HZ hpc
    rintro e W3 ⟨a3, c3, rfl, B3, _, b3⟩
    have b3d : Below W2.heap.size W2 W3.drew := below_drew b3
    have HS4 := Lib.hid (HS2.out.below b3d)
    have HP4 := Lib.hid (HP2.out.below b3d)
    have HX4 : Hid (Lies W3.drew gx 51 [.slice ca n1 cc, .slice la n2 lc, .slice wa n3 wc]) := Lib.hid (HX2.out.below b3d HX2.out.lt)
    have HK4 : Hid (Kept (SX mp gs gm qa) W W3.drew) := Lib.hid (HK2.out.trans (Y := fun _ => False) (Kept.of_below b3d) (fun _ _ e => e.elim))
    have HS3 := Lib.hid (HS2.out.below b3)
    have HK3 : Hid (Kept (SX mp gs gm qa) W W3) := Lib.hid (HK2.out.trans (Y := fun _ => False) (Kept.of_below b3) (fun _ _ e => e.elim))
    have hl3 := B3.le
    have HB4 : Hid (Bag W3.drew a3 c3 (addS c pp)) := Lib.hid (B3.below (⟨rfl, rfl, rfl, Nat.le_refl _, fun _ _ => rfl⟩ : Below W3.heap.size W3 W3.drew))
    clear B3 b3 b3d HS2 HP2 HX2 HK2 HC2
    generalize hok : addOk c pp = ok at HEE HAA HIH2 ⊢
    cases ok with
    | false =>
      have HF : Hid (SqRet w0 mp gs gm bv lv k0 qa W r (.returned (.int .i64 3)) W3) := Lib.hid (by
        rw [HEE.out, if_pos H0.out, if_neg (by simp)]
        exact ⟨rfl, qa2, qc2, HS3.out, HK3.out, HF2.out⟩)
      generalize (addS c pp).length = al at hl3 ⊢
      go_wp2
      go_ret
      exact HF.out
    | true =>
      have HNX4 : Hid (¬ SX mp gs gm qa2 gx) := Lib.hid (fun e => by
        have hgl := HX4.out.lt
        rcases e with e | e | e | e
        · exact HNX.out (.inl e)
        · exact HNX.out (.inr (.inl e))
        · exact HNX.out (.inr (.inr (.inl e)))
        · rcases HF2.out _ e with h | h
          · exact HNX.out (.inr (.inr (.inr h)))
          · exact HN2Q.out e)
      have hs := HAA.out rfl
      rw [hs] at HB4 hl3 ⊢
      obtain ⟨r2, hr2⟩ : ∃ r2, r2 = chGo X b x i (addT c pp) r1.1 r1.2.2 := ⟨_, rfl⟩
      have Z := HIH2.out H0.out rfl _ qa2 qc2 a3 c3 HS4.out HP4.out HB4.out
      rw [← hr2] at Z
      have HR2 : Hid (r = r2) := Lib.hid (by rw [HEE.out, if_pos H0.out, if_pos rfl, hr2])
      generalize (addT c pp).length = al at hl3 Z ⊢
      have HZ := Lib.hid Z
      clear Z hr2 hs
      go_upto_region 10 with (fail)
      have bd := HX4.out
      refine wp_region_held_drew (S := fun V => Lies V gx 51 [.slice ca n1 cc, .slice la n2 lc, .slice wa n3 wc]) (by kernel_rfl) bd (fun hHeld => ?_)
      clear hHeld
      refine wpAnyH_take (i := 0) (oi := { dst := some 44, op := Op.move (Operand.tmp 0), type := 58, pos := "search.go:93", after := #[], guard := none }) (v := ?_) rfl (by kernel_rfl) (by kernel_rfl) (by kernel_rfl) (fun _ _ _ h => h) (Or.inl ⟨by rfl, ?_⟩) bd ?_
      rotate_left
      · intro w hSw
        go_simp
        try with_reducible rfl
      try simp only [Act.put, List.setIfInBounds_toArray, List.set_cons_zero, List.set_cons_succ]
      refine wpAnyH_take (i := 1) (oi := { dst := some 45, op := Op.load 51 (Operand.tmp 5), type := 51, pos := "search.go:93", after := #[], guard := none }) (v := ?_) rfl (by kernel_rfl) (by kernel_rfl) (by kernel_rfl) (fun _ _ _ h => h) (Or.inl ⟨by rfl, ?_⟩) bd ?_
      rotate_left
      · intro w hSw
        have y0 := hSw.cell 0
        have y1 := hSw.cell 1
        have y2 := hSw.cell 2
        simp only [List.getElem?_cons_zero, List.getElem?_cons_succ] at y0 y1 y2
        go_simp
        try with_reducible rfl
      try simp only [Act.put, List.setIfInBounds_toArray, List.set_cons_zero, List.set_cons_succ]
      refine wpAnyH_take (i := 2) (oi := { dst := some 46, op := Op.move (Operand.tmp 11), type := 24, pos := "search.go:93", after := #[], guard := none }) (v := ?_) rfl (by kernel_rfl) (by kernel_rfl) (by kernel_rfl) (fun _ _ _ h => h) (Or.inl ⟨by rfl, ?_⟩) bd ?_
      rotate_left
      · intro w hSw
        go_simp
        try with_reducible rfl
      try simp only [Act.put, List.setIfInBounds_toArray, List.set_cons_zero, List.set_cons_succ]
      refine wpAnyH_take (i := 3) (oi := { dst := some 47, op := Op.move (Operand.tmp 3), type := 26, pos := "search.go:93", after := #[], guard := none }) (v := ?_) rfl (by kernel_rfl) (by kernel_rfl) (by kernel_rfl) (fun _ _ _ h => h) (Or.inl ⟨by rfl, ?_⟩) bd ?_
      rotate_left
      · intro w hSw
        go_simp
        try with_reducible rfl
      try simp only [Act.put, List.setIfInBounds_toArray, List.set_cons_zero, List.set_cons_succ]
      refine wpAnyH_take (i := 4) (oi := { dst := some 48, op := Op.move (Operand.tmp 9), type := 3, pos := "search.go:93", after := #[], guard := none }) (v := ?_) rfl (by kernel_rfl) (by kernel_rfl) (by kernel_rfl) (fun _ _ _ h => h) (Or.inl ⟨by rfl, ?_⟩) bd ?_
      rotate_left
      · intro w hSw
        go_simp
        try with_reducible rfl
      try simp only [Act.put, List.setIfInBounds_toArray, List.set_cons_zero, List.set_cons_succ]
      refine wpAnyH_take (i := 5) (oi := { dst := some 49, op := Op.slice 26 (Operand.tmp 47) none (some (Operand.tmp 48)) none, type := 26, pos := "search.go:93", after := #[{ on := 3, ground := Ground.data }, { on := 4, ground := Ground.data }], guard := none }) (v := ?_) rfl (by kernel_rfl) (by kernel_rfl) (by kernel_rfl) (fun _ _ _ h => h) (Or.inl ⟨by rfl, ?_⟩) bd ?_
      rotate_left
      · intro w hSw
        go_simp
        try with_reducible rfl
      try simp only [Act.put, List.setIfInBounds_toArray, List.set_cons_zero, List.set_cons_succ]
      refine wpAnyH_ready (rs := [6]) (by kernel_rfl) (by simp) ?_
      refine AllReadyH.cons (o := { dst := some 50, op := Op.call { callee := Callee.value (Operand.func 28), args := #[Operand.tmp 44, Operand.tmp 45, Operand.tmp 46, Operand.tmp 49], argTypes := #[58, 51, 24, 26] }, type := 31, pos := "search.go:93", after := #[{ on := 0, ground := Ground.data }, { on := 1, ground := Ground.data }, { on := 2, ground := Ground.data }, { on := 5, ground := Ground.data }], guard := none }) rfl (fun K hK => ?_) AllReadyH.nil
      have Z := HZ.out
      go_simp
      refine Z.mono ?_
      clear Z HZ
      rintro e W5 ⟨rfl, qa5, qc5, s5, k5, f5⟩
      have b5 := HX4.out.kept k5 HNX4.out
      have HF : Hid (SqRet w0 mp gs gm bv lv k0 qa W r (.returned (.int .i64 r2.2.1)) W5) := Lib.hid (by
        rw [HR2.out]
        exact ⟨rfl, qa5, qc5, s5, HK4.out.trans k5 (sx_back HK4.out HF2.out), fun g e => (f5 g e).elim (fun h => (HF2.out g h).imp id (fun h => h)) (fun h => .inr (Nat.le_trans HK4.out.size h))⟩)
      clear s5 k5 f5
      generalize r2.2.1 = er at HF ⊢
      go_wp2_with (fail)
      refine hK.out _ _ b5 (fun hHeld => ?_)
      clear hK K hHeld
      try simp only [Act.put, List.setIfInBounds_toArray, List.set_cons_zero, List.set_cons_succ]
      refine wpAnyH_take (i := 7) (oi := { dst := some 8, op := Op.assign (Operand.tmp 50), type := 31, pos := "search.go:93", after := #[{ on := 6, ground := Ground.data }, { on := 6, ground := Ground.chain }, { on := 0, ground := Ground.phase }, { on := 1, ground := Ground.phase }, { on := 2, ground := Ground.phase }, { on := 3, ground := Ground.phase }, { on := 4, ground := Ground.phase }, { on := 5, ground := Ground.phase }, { on := 6, ground := Ground.phase }], guard := none }) (v := ?_) rfl (by kernel_rfl) (by kernel_rfl) (by kernel_rfl) (fun _ _ _ h => h) (Or.inl ⟨by rfl, ?_⟩) b5 ?_
      rotate_left
      · intro w hSw
        go_simp
        try with_reducible rfl
      try simp only [Act.put, List.setIfInBounds_toArray, List.set_cons_zero, List.set_cons_succ]
      refine wpAnyH_done (by kernel_rfl) ?_ _
      go_wp2
      go_ret
      exact HF.out
  · have h0b : (r1.2.1 != 0) = true := by simp [h0]
    have HF : Hid (SqRet w0 mp gs gm bv lv k0 qa W r (.returned (.int .i64 r1.2.1)) W2) := Lib.hid (by
      rw [HEE.out, if_neg h0]
      exact ⟨rfl, qa2, qc2, HS2.out, HK2.out, HF2.out⟩)
    generalize r1.2.1 = er at HF h0 h0b ⊢
    go_wp2
    go_ret
    exact HF.out
end Go.Proofs.YtmefmnpmppdpmabDoor

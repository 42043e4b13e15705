import Derived.Test.YtmefmnpmppdpmabDoorXf
/- The search's behind, and within: the whole search of one linear set. -/
namespace Go.Proofs.YtmefmnpmppdpmabDoor
open Go.ChangeShapes Go.WideShapes Go.ChangeAt Go.RowKit Go.Maps

theorem chosen_zero : ∀ (ps : List (List Int)) (c : List Int), chosenL c ps 0 = some c
  | [], _ => rfl
  | p :: r, c => by
    unfold chosenL
    rw [if_neg (by decide)]
    exact chosen_zero r c
/-- What behind comes to. -/
def behP (X : Lin) (b : List Lin) (q : Pr) (Q : List Pr) (M : Mr) : List Pr × Int × Mr := if 20 < X.ps.length ∨ 60 ≤ q.n then (Q, 3, M) else chGo X b q X.ps.length q.c Q M
set_option maxRecDepth 100000 in
set_option maxHeartbeats 4000000 in
theorem behind86 {w0 : World} {mp : Option Addr} {M : Mr} {gs gm lv k0 : Nat} {ba : Option Addr} {bc : Nat} {b : List Lin} {qa : Option Addr} {qc : Nat} {Q : List Pr} (X : Lin) (W : World) (S : SqAt w0 mp M gs gm (.slice ba b.length bc) lv qa qc (Q.drop k0) (Q.map keyT) W)
    (pa : Option Addr) (pc : Nat) (x : Pr) (hn : x.n = lv) (hps : ∀ V, MK mp w0 V → Bags V pa pc X.ps) (E : lv ≤ 59 → ChEnv w0 mp b ba bc X pa pc lv x) (ca : Option Addr) (cc : Nat) (la : Option Addr) (lc : Nat) (wa : Option Addr) (wc : Nat) (hp : QbAt W ⟨ca, cc, la, lc, wa, wc, x⟩)
    (hQ : ∀ z ∈ Q, PairR z) (hlen : (behP X b x Q M).1.length ≤ 1000000000) (hk0 : k0 ≤ Q.length) :
    Calls Tryd.prog 17 #[.pointer (some ⟨gs, 0, none⟩), .agg #[.slice ca x.c.length cc, .slice la x.l.length lc, .slice wa x.w.length wc], .slice pa X.ps.length pc] W (SqRet w0 mp gs gm (.slice ba b.length bc) lv k0 qa W (behP X b x Q M)) := by
  have bb := below_alloc W (.cells #[.slice ca x.c.length cc, .slice la x.l.length lc, .slice wa x.w.length wc] 51)
  have HS1 := Lib.hid (S.below bb)
  have HX1 := Lib.hid (Lies.new W 51 [.slice ca x.c.length cc, .slice la x.l.length lc, .slice wa x.w.length wc])
  have HK1 : Hid (Kept (SX mp gs gm qa) W (W.alloc (.cells #[.slice ca x.c.length cc, .slice la x.l.length lc, .slice wa x.w.length wc] 51))) := Lib.hid (Kept.of_below bb)
  have hlp := (hps _ S.kept).le
  have HLIM : Hid (20 < X.ps.length ∨ 60 ≤ lv → behP X b x Q M = (Q, 3, M)) := Lib.hid (fun h => by unfold behP; rw [hn, if_pos h])
  have HGO : Hid (¬ (20 < X.ps.length ∨ 60 ≤ lv) → behP X b x Q M = chGo X b x X.ps.length x.c Q M) := Lib.hid (fun h => by unfold behP; rw [hn, if_neg h])
  have HZ : Hid (¬ (20 < X.ps.length ∨ 60 ≤ lv) → Calls Tryd.prog 28 #[.pointer (some ⟨gs, 0, none⟩), .agg #[.slice ca x.c.length cc, .slice la x.l.length lc, .slice wa x.w.length wc], .slice ca x.c.length cc, .slice pa X.ps.length pc] (W.alloc (.cells #[.slice ca x.c.length cc, .slice la x.l.length lc, .slice wa x.w.length wc] 51)) (SqRet w0 mp gs gm (.slice ba b.length bc) lv k0 qa (W.alloc (.cells #[.slice ca x.c.length cc, .slice la x.l.length lc, .slice wa x.w.length wc] 51)) (behP X b x Q M))) := Lib.hid (fun h => by
    have E := E (by omega)
    have hg : behP X b x Q M = chGo X b x X.ps.length x.c Q M := by unfold behP; rw [hn, if_neg h]
    rw [hg] at hlen ⊢
    have hs : ∀ i, ChSays w0 mp gs gm b ba bc X pa pc lv k0 x ca cc la lc wa wc i := fun i => by
      induction i with
      | zero => exact choices118_zero E ca cc la lc wa wc
      | succ i ih => exact choices118_more E ca cc la lc wa wc i ih
    exact hs _ _ M Q qa qc ca cc x.c 0 (S.below bb) (hp.below bb) (hp.c.below bb) (chosen_zero X.ps x.c) (Nat.zero_mod _) (Nat.le_refl _) hQ hlen hk0)
  generalize behP X b x Q M = r at HLIM HGO HZ ⊢
  generalize hnp : X.ps.length = np at hlp HLIM HGO HZ ⊢
  generalize hn1 : x.c.length = n1 at HX1 HK1 HZ ⊢
  generalize hn2 : x.l.length = n2 at HX1 HK1 HZ ⊢
  generalize hn3 : x.w.length = n3 at HX1 HK1 HZ ⊢
  rw [hn1, hn2, hn3] at HS1
  generalize (Value.slice ba b.length bc) = bv at HS1 HZ ⊢
  clear bb S hp hps hQ hlen hk0 hn1 hn2 hn3 hnp E HGO
  have e0 := HX1.out.cell 0
  have e1 := HX1.out.cell 1
  have e2 := HX1.out.cell 2
  simp only [List.getElem?_cons_zero, List.getElem?_cons_succ] at e0 e1 e2
  have s2 := HS1.out.box.cell 2
  simp only [sqCells, List.getElem?_cons_zero, List.getElem?_cons_succ] at s2
  have HF3 : Hid (20 < np ∨ 60 ≤ lv → SqRet w0 mp gs gm bv lv k0 qa W r (.returned (.int .i64 3)) (W.alloc (.cells #[.slice ca n1 cc, .slice la n2 lc, .slice wa n3 wc] 51))) := Lib.hid (fun h => by
    rw [HLIM.out h]
    exact ⟨rfl, qa, qc, HS1.out, HK1.out, fun g e => .inl e⟩)
  by_cases h20 : 20 < np
  · have hb20 : decide ((20 : Int) < (np : Int)) = true := by simp; omega
    have HF := Lib.hid (HF3.out (.inl h20))
    go_enter Tryd.func17, Tryd.ntmps17
    go_wp2
    go_ret
    exact HF.out
  · have hb20 : decide ((20 : Int) < (np : Int)) = false := by simp; omega
    by_cases h60 : 60 ≤ lv
    · have hb60 : decide ((60 : Int) ≤ (lv : Int)) = true := by simp; omega
      have HF := Lib.hid (HF3.out (.inr h60))
      go_enter Tryd.func17, Tryd.ntmps17
      go_wp2
      go_ret
      exact HF.out
    · have hb60 : decide ((60 : Int) ≤ (lv : Int)) = false := by simp; omega
      have HZ2 := Lib.hid (HZ.out (by omega))
      clear HZ HF3
      go_enter Tryd.func17, Tryd.ntmps17
      go_wp2_with (fail)
      refine HZ2.out.mono ?_
      clear HZ2
      rintro e W2 ⟨rfl, qa2, qc2, s2', k2, f2⟩
      have HF : Hid (SqRet w0 mp gs gm bv lv k0 qa W r (.returned (.int .i64 r.2.1)) W2) := Lib.hid
        ⟨rfl, qa2, qc2, s2', HK1.out.trans k2 (fun i hi e => e), fun g e => (f2 g e).imp id (fun h => Nat.le_trans HK1.out.size h)⟩
      clear s2' k2 f2
      generalize r.2.1 = er at HF ⊢
      go_wp2
      go_ret
      exact HF.out

/-! ### Plain: one round of the search -/
theorem kids_new (x : Lin) (b : List Lin) (q : Pr) : ∀ (k m : Nat) (Q : List Pr) (M : Mr), ∃ R, (kidsGo x b q k m Q M).1 = Q ++ R ∧ ∀ z ∈ R, z.n = q.n + 1
  | 0, m, Q, M => ⟨[], by simp [kidsGo], fun z hz => by simp at hz⟩
  | k + 1, m, Q, M => by
    cases h : chosenL q.c x.ps m with
    | none => exact ⟨[], by rw [kids_none h]; simp, fun z hz => by simp at hz⟩
    | some c =>
      by_cases h1 : (nextM M b q.l (oddN c)).2.1 = 0
      · by_cases h2 : metP Q (halfL c) (nextM M b q.l (oddN c)).1 = true
        · rw [kids_met h h1 h2]
          exact kids_new x b q k (m + 1) Q _
        · by_cases h3 : (spendM (nextM M b q.l (oddN c)).2.2 1).1 = true
          · rw [kids_put h h1 h2 h3]
            obtain ⟨R, e, hR⟩ := kids_new x b q k (m + 1) (Q ++ [⟨halfL c, (nextM M b q.l (oddN c)).1, wordStep q.w (oddN c) q.n, q.n + 1⟩]) (spendM (nextM M b q.l (oddN c)).2.2 1).2
            exact ⟨_ :: R, by rw [e, List.append_assoc]; rfl, fun z hz => by
              rcases List.mem_cons.1 hz with rfl | hz
              · rfl
              · exact hR z hz⟩
          · exact ⟨[], by rw [kids_work h h1 h2 h3]; simp, fun z hz => by simp at hz⟩
      · exact ⟨[], by rw [kids_err h h1]; simp, fun z hz => by simp at hz⟩
/-- What pairs of a search are, from the first on. -/
structure Goes (X : Lin) (b : List Lin) (G : Pr → Prop) : Prop where
  base : rightL X.base = true
  rp : ∀ p ∈ X.ps, rightL p = true
  first : G (first X b)
  ok : ∀ z, G z → PairR z ∧ costI b z.l ≤ 100000000000 ∧ rightL z.w = true ∧ (∀ t, z.w.getD t 0 < 2 ^ z.n) ∧ z.n ≤ 60
  step : ∀ q m c M, G q → q.n ≤ 59 → chosenL q.c X.ps m = some c → (nextM M b q.l (oddN c)).2.1 = 0 → G ⟨halfL c, (nextM M b q.l (oddN c)).1, wordStep q.w (oddN c) q.n, q.n + 1⟩
theorem searchGo_len {x : Lin} {b : List Lin} : ∀ (f k : Nat) (Q : List Pr) (M : Mr) (r : Sr), searchGo x b f k Q M = some r → Q.length ≤ r.q.length
  | 0, _, _, _, _, h => by simp [searchGo] at h
  | f + 1, k, Q, M, r, h => by
    unfold searchGo at h
    split at h
    · split at h
      · injection h with h; subst h; exact Nat.le_refl _
      · split at h
        · injection h with h; subst h; exact Nat.le_refl _
        · split at h
          · exact Nat.le_trans (kids_len ..) (searchGo_len f _ _ _ r h)
          · injection h with h; subst h; exact kids_len ..
    · injection h with h; subst h; exact Nat.le_refl _
theorem search_end {x : Lin} {b : List Lin} {f k : Nat} {Q : List Pr} {M : Mr} {r : Sr} (h : searchGo x b f k Q M = some r) (hk : ¬ k < Q.length) : r = ⟨true, [], 0, M, Q⟩ := by
  cases f with
  | zero => simp [searchGo] at h
  | succ f => unfold searchGo at h; rw [if_neg hk] at h; injection h with h; exact h.symm
theorem search_no {x : Lin} {b : List Lin} {f k : Nat} {Q : List Pr} {M : Mr} {r : Sr} (h : searchGo x b f k Q M = some r) (hk : k < Q.length) (h1 : (prAt Q k).c = [] ∧ finalL (prAt Q k).l = false) : r = ⟨false, (prAt Q k).w, 0, M, Q⟩ := by
  cases f with
  | zero => simp [searchGo] at h
  | succ f => unfold searchGo at h; rw [if_pos hk, if_pos h1] at h; injection h with h; exact h.symm
theorem search_on {x : Lin} {b : List Lin} {f k : Nat} {Q : List Pr} {M : Mr} {r : Sr} (hp : ∀ p ∈ x.ps, rightL p = true) (hc : rightL (prAt Q k).c = true) (h : searchGo x b f k Q M = some r) (hk : k < Q.length) (h1 : ¬ ((prAt Q k).c = [] ∧ finalL (prAt Q k).l = false)) :
    (behP x b (prAt Q k) Q M).1.length ≤ r.q.length ∧ (∃ R, (behP x b (prAt Q k) Q M).1 = Q ++ R ∧ ∀ z ∈ R, z.n = (prAt Q k).n + 1) ∧
    ((behP x b (prAt Q k) Q M).2.1 = 0 → (prAt Q k).n ≤ 59 ∧ ∃ g, searchGo x b g (k + 1) (behP x b (prAt Q k) Q M).1 (behP x b (prAt Q k) Q M).2.2 = some r) ∧
    ((behP x b (prAt Q k) Q M).2.1 ≠ 0 → r = ⟨false, [], (behP x b (prAt Q k) Q M).2.1, (behP x b (prAt Q k) Q M).2.2, (behP x b (prAt Q k) Q M).1⟩) := by
  cases f with
  | zero => simp [searchGo] at h
  | succ f =>
    unfold searchGo at h
    rw [if_pos hk, if_neg h1] at h
    unfold behP
    by_cases hl : 20 < x.ps.length ∨ 60 ≤ (prAt Q k).n
    · rw [if_pos hl] at h ⊢
      injection h with h
      subst h
      exact ⟨Nat.le_refl _, ⟨[], by simp, fun z hz => by simp at hz⟩, fun e => absurd e (by show ¬ (3 : Int) = 0; decide), fun _ => rfl⟩
    · rw [if_neg hl] at h ⊢
      rw [ch_kids hp hc x.ps.length 0 (prAt Q k).c Q M (Nat.le_refl _) (Nat.zero_mod _) (chosen_zero x.ps _)]
      have hnew := kids_new x b (prAt Q k) (2 ^ x.ps.length) 0 Q M
      by_cases h0 : (kidsGo x b (prAt Q k) (2 ^ x.ps.length) 0 Q M).2.1 = 0
      · rw [if_pos h0] at h
        exact ⟨searchGo_len _ _ _ _ _ h, hnew, fun _ => ⟨by omega, f, h⟩, fun e => absurd h0 e⟩
      · rw [if_neg h0] at h
        injection h with h
        subst h
        exact ⟨Nat.le_refl _, hnew, fun e => absurd e h0, fun _ => rfl⟩
theorem beh_all {x : Lin} {b : List Lin} {q : Pr} {Q : List Pr} {M : Mr} {G : Pr → Prop} (g : Goes x b G) (hq : G q) (hQ : ∀ z ∈ Q, G z) : ∀ z ∈ (behP x b q Q M).1, G z := by
  unfold behP
  split
  · exact hQ
  · next hl =>
    rw [ch_kids g.rp (g.ok q hq).1.c x.ps.length 0 q.c Q M (Nat.le_refl _) (Nat.zero_mod _) (chosen_zero x.ps _)]
    exact kids_all (fun m c M hc h0 => g.step q m c M hq (by omega) hc h0) _ _ _ _ hQ
end Go.Proofs.YtmefmnpmppdpmabDoor

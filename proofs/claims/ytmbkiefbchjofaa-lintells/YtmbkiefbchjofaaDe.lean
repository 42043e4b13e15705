/- append of one bag to a slice of bags; made: small linear sets that are right. -/
import Derived.Test.YtmbkiefbchjofaaDd
import Derived.Test.YtmbkiefbchjofaaP
namespace Go.Proofs.Ytmbkiefbchjofaa
open Go.ChangeShapes Go.WideShapes Go.ChangeAt Go.RowKit

theorem app1 (a : Option Addr) (c m : Nat) (ps : List Bg) (W : World) (P : Bgs W a c ps) (hm : ps.length = m) (b : Option Addr) (d n : Nat) (ys : List Int) (R : Bag W b d ys) (hn : ys.length = n) (hs : m ≤ 1000) :
    ∃ a2 c2 w2, (Builtin.append_ #[27, 27] 27 #[.slice a m c, .slice (some ⟨W.heap.size, 0, none⟩) 1 1]).run Try.prog (W.alloc (.cells #[.slice b n d] 26)) = .ok (.slice a2 (m + 1) c2) w2 ∧
      Bgs w2 a2 c2 (ps ++ [⟨b, d, ys⟩]) ∧ Kept (fun g => a = some ⟨g, 0, none⟩) W w2 ∧ (∀ B, B ≤ W.heap.size → From B a → From B a2 ∧ Below B W w2) := by
  subst hm
  subst hn
  have b3 : Below W.heap.size W (W.alloc (.cells #[.slice b ys.length d] 26)) := below_alloc _ _
  have r3 := P.row.below b3
  obtain ⟨v2, w2, hr, A2⟩ := run_app 27 27 26 Try.underlying27 Try.infoBag a c ps.length (vals ps) (W.alloc (.cells #[.slice b ys.length d] 26)) r3 (vals_len ps).symm
    (some ⟨W.heap.size, 0, none⟩) 1 1 [.slice b ys.length d] (Row.new1 _ _ _) rfl (by simp [Value.oneCell']) (by rw [vals_len]; simp; omega)
  have A2' := A2
  obtain ⟨a2, c2, rfl, r2, k2, f2⟩ := A2
  have e1 : (vals ps).length + [Value.slice b ys.length d].length = ps.length + 1 := by rw [vals_len]; rfl
  rw [e1] at hr
  have k0 : Kept (fun g => a = some ⟨g, 0, none⟩) W w2 := (Kept.of_below b3).trans k2 (fun _ _ h => h)
  refine ⟨a2, c2, w2, hr, ⟨?_, ?_⟩, k0, fun B hB hf => ?_⟩
  · have : vals (ps ++ [⟨b, d, ys⟩]) = vals ps ++ [.slice b ys.length d] := by simp [vals, Bg.val]
    rw [this]
    exact r2
  · intro p hp
    rcases List.mem_append.1 hp with hp | hp
    · exact P.keptEach k0 p hp
    · obtain rfl := List.mem_singleton.1 hp
      have h0 : Bag (W.alloc (.cells #[.slice b ys.length d] 26)) b d ys := R.below b3
      exact h0.kept k2 (fun g e => h0.apart r3 e)
  · obtain ⟨bb, ff⟩ := A2'.below (B := B) (Nat.le_trans hB b3.size) hf
    exact ⟨ff _ _ _ rfl, (b3.mono hB).trans bb⟩

theorem Came.drop {w : World} {b off len cap k : Nat} {zs : List Int} (h : Came w (some ⟨b, off, none⟩) len cap zs) (hk : k < len) : Came w (some ⟨b, off + k, none⟩) (len - k) (cap - k) (zs.drop k) := by
  obtain ⟨h1, h2, h3, h4, h5⟩ := h
  refine ⟨by omega, (fun e => by cases e), by omega, by rw [List.length_drop]; omega, fun j hj => ?_⟩
  obtain ⟨b', off', e, hc, hb, l1, l2⟩ := h5 (k + j) (by omega)
  injection e with e
  injection e with e1 e2
  subst e1; subst e2
  have e : (zs.drop k).getD j 0 = zs.getD (k + j) 0 := by simp [List.getD]
  exact ⟨b, off + k, rfl, by rw [e, Nat.add_assoc]; exact hc, hb, by rw [e]; exact l1, by rw [e]; exact l2⟩
theorem Came.form {w : World} {a : Option Addr} {len cap : Nat} {zs : List Int} (h : Came w a len cap zs) (hl : 0 < len) : ∃ b off, a = some ⟨b, off, none⟩ := by
  obtain ⟨b, off, e, _⟩ := h.2.2.2.2 0 hl
  exact ⟨b, off, e⟩

/-- A small linear set that is right. -/
structure Nice (x : Lin) : Prop where
  right : rightLin x = true
  base : Small 39 x.base
  few : x.ps.length ≤ 3
def MadeLin (w : World) (e : Ending) (w' : World) : Prop := ∃ x, Nice x ∧ MakesLin1 x w e w'
theorem nice_of {b : List Int} {ps : List (List Int)} (hb : Small 39 b) (hp : ∀ p ∈ ps, rightL p = true) (hl : ps.length ≤ 3) : Nice (ofLin b ps) := by
  have h := of_found (b := b) (ps := ps) (lost_self hb.right) (fun j hj => by
    have hm : ps.getD j [] ∈ ps := by simp [List.getD, hj]
    exact lost_self (hp _ hm))
  refine ⟨of_right b ps, ?_, ?_⟩
  · rw [h.2]; show Small 39 (normL b); rw [norm_self hb.right]; exact hb
  · rw [h.2]
    have h1 := putAll_len (ofNorm ps) []
    have h2 := ofNorm_len ps
    simp only [List.length_nil] at h1
    show (putAll [] (ofNorm ps)).length ≤ 3
    omega
theorem right_short {ps : List (List Int)} (hp : ∀ p ∈ ps, rightL p = true) (j : Nat) : (ps.getD j []).length ≤ 1000 := by
  by_cases hj : j < ps.length
  · have hm : ps.getD j [] ∈ ps := by simp [List.getD, hj]
    have := (right_iff.1 (hp _ hm)).1
    omega
  · simp [List.getD, hj]

/-- The periods so far. -/
structure MadeSt (w : World) (g2 : Nat) (pa : Option Addr) (pc m : Nat) (ps : List Bg) (W : World) : Prop where
  bel : Below w.heap.size w W
  l2 : Lies W g2 29 [.slice none 0 0, .slice none 0 0]
  row : Bgs W pa pc ps
  num : ps.length = m
  own : From w.heap.size pa
  good : ∀ p ∈ words ps, rightL p = true

theorem tell2 {w w2 : World} {g2 : Nat} {a pa : Option Addr} {c n pc m : Nat} {nb : List Int} {acc : List (List Int)} (hB : Below w.heap.size w w2) (l : Lies w2 g2 29 [.slice none 0 0, .slice none 0 0]) (h2 : w.heap.size ≤ g2) (r : Bag w2 a c nb) (q : Bags w2 pa pc acc) (o : Obj) :
    (((w2.setCell ⟨g2, 0, none⟩ (.slice a n c)).setCell ⟨g2, 1, none⟩ (.slice pa m pc)).alloc o).cell? ⟨g2, 0, none⟩ = some (.slice a n c) ∧
    (((w2.setCell ⟨g2, 0, none⟩ (.slice a n c)).setCell ⟨g2, 1, none⟩ (.slice pa m pc)).alloc o).cell? ⟨g2, 1, none⟩ = some (.slice pa m pc) ∧
    Bag (((w2.setCell ⟨g2, 0, none⟩ (.slice a n c)).setCell ⟨g2, 1, none⟩ (.slice pa m pc)).alloc o) a c nb ∧
    Bags (((w2.setCell ⟨g2, 0, none⟩ (.slice a n c)).setCell ⟨g2, 1, none⟩ (.slice pa m pc)).alloc o) pa pc acc ∧
    Below w.heap.size w (((w2.setCell ⟨g2, 0, none⟩ (.slice a n c)).setCell ⟨g2, 1, none⟩ (.slice pa m pc)).alloc o) := by
  have l1 : Lies (w2.setCell ⟨g2, 0, none⟩ (.slice a n c)) g2 29 [.slice a n c, .slice none 0 0] := l.set 0 _
  have l2 : Lies ((w2.setCell ⟨g2, 0, none⟩ (.slice a n c)).setCell ⟨g2, 1, none⟩ (.slice pa m pc)) g2 29 [.slice a n c, .slice pa m pc] := l1.set 1 _
  have k1 := kept_set w2 g2 0 (.slice a n c)
  have k2 := kept_set (w2.setCell ⟨g2, 0, none⟩ (.slice a n c)) g2 1 (.slice pa m pc)
  have b2 : Below w.heap.size w ((w2.setCell ⟨g2, 0, none⟩ (.slice a n c)).setCell ⟨g2, 1, none⟩ (.slice pa m pc)) := (hB.setCell h2 _).setCell h2 _
  exact ⟨(l2.alloc o).cell 0, (l2.alloc o).cell 1, ((r.far l k1).far l1 k2).below (below_alloc _ _), ((q.far l k1).far l1 k2).below (below_alloc _ _), b2.alloc b2.size _⟩

set_option maxRecDepth 100000 in
set_option maxHeartbeats 4000000 in
theorem made_any (a : Option Addr) (len cap : Nat) (zs : List Int) (w : World) (h : Came w a len cap zs) :
    Calls Try.prog 21 #[.slice a len cap] w (MadeLin w) := by
  have hlen := h.1
  have hcap := h.2.2.1
  have HC := Lib.hid h
  have HS : Hid (MadeSt w w.heap.size none 0 0 [] (w.alloc (.cells #[.slice none 0 0, .slice none 0 0] 29))) := Lib.hid ⟨below_alloc _ _, Lies.new w _ _, Bgs.nil _, rfl, From.none _, by simp [words]⟩
  clear h
  go_enter Try.func21, Try.ntmps21
  go_wp2
  generalize w.alloc (.cells #[.slice none 0 0, .slice none 0 0] 29) = W0 at HS ⊢
  generalize hg2 : w.heap.size = g2 at HS ⊢
  have HG2 := Lib.hid hg2
  rw [← hg2] at HS
  clear hg2
  go_loopw [3, 4] (fun p i wr => ∃ (k : Nat) (pa : Option Addr) (pc : Nat) (ps : List Bg), k ≤ 3 ∧ i = .int .i64 k ∧ p = .slice pa k pc ∧ Hid (MadeSt w g2 pa pc k ps wr)) (fun _ i _ => 3 - (intOf i).toNat)
  case atStart => exact ⟨0, none, 0, [], by omega, rfl, rfl, by rw [HG2.out] at HS; exact HS⟩
  case round =>
    obtain ⟨k, pa, pc, ps, hk, rfl, rfl, HT⟩ := hrel
    obtain rfl | rfl | rfl | rfl : k = 0 ∨ k = 1 ∨ k = 2 ∨ k = 3 := by omega
    · by_cases hl : 4 < len
      · obtain ⟨b, off, rfl⟩ := HC.out.form (by omega)
        have HD := Lib.hid ((HC.out.below HT.out.bel).drop (k := 4) hl)
        have h1 : (4 : Int) < (len : Int) := by omega
        have h2 : 4 < cap := by omega
        go_wp2_with (fail)
        refine (play_any _ _ _ _ _ HD.out).mono ?_
        rintro e w1 ⟨xs, hsm, a1, c1, rfl, r1, f1, b1⟩
        have hsl := hsm.len
        obtain ⟨a2, c2, w2, hr, q2, k2, f2⟩ := app1 pa pc 0 ps w1 (HT.out.row.below b1) HT.out.num a1 c1 xs.length xs r1 rfl (by omega)
        have hf := f2 w.heap.size (Nat.le_trans HT.out.bel.size b1.size) HT.out.own
        have HT2 : Hid (MadeSt w g2 a2 c2 1 (ps ++ [⟨a1, c1, xs⟩]) w2) := Lib.hid ⟨(HT.out.bel.trans (b1.mono HT.out.bel.size)).trans hf.2, (HT.out.l2.below b1 HT.out.l2.lt).kept k2 (fun e => by
            have hrow := (HT.out.row.below b1).row
            have hl2 := HT.out.l2.below b1 HT.out.l2.lt
            rcases hrow with ⟨h, _⟩ | ⟨g1, sp, h, _, _, l1⟩
            · rw [h] at e; cases e
            · rw [h] at e; injection e with e; injection e with e; subst e
              exact l1.other hl2 (by decide) rfl), q2, by simp [HT.out.num], hf.1, by
            intro p hp
            simp only [words, List.map_append, List.mem_append, List.map_cons, List.map_nil, List.mem_singleton] at hp
            rcases hp with hp | rfl
            · exact HT.out.good p hp
            · exact hsm.right⟩
        clear q2 k2 f2 hf r1 f1 b1 hsm HD
        generalize xs.length = n at hr hsl
        go_wp2_with (at_builtin; refine Lib.wpList_append_run _ rfl _ _ _ _ rfl _ _ rfl rfl _ _ hr ?_)
        go_roundw
        case rel => exact ⟨1, a2, c2, _, by omega, by go_num, rfl, HT2⟩
        case measure => simp [intOf]
      · have h1 : ¬ (4 : Int) < (len : Int) := by omega
        have h1' : decide ((4 : Int) < (len : Int)) = false := by simpa using h1
        go_wp2_with (fail)
        refine (play_any a len cap zs _ (HC.out.below HT.out.bel)).mono ?_
        rintro e w1 ⟨xs, hsm, a1, c1, rfl, r1, f1, b1⟩
        have hsl := hsm.len
        have HB1 := Lib.hid (HT.out.bel.trans (b1.mono HT.out.bel.size))
        have hpn : (words ps).length = 0 := (words_len ps).trans HT.out.num
        have Z := ofLin_any a1 pa c1 pc xs (words ps) w1 r1 ⟨ps, rfl, HT.out.row.below b1⟩ (by omega) (right_short HT.out.good) (by omega)
        rw [hpn] at Z
        have HNi := Lib.hid (nice_of hsm HT.out.good (by omega))
        have HL2 := Lib.hid (HT.out.l2.below b1 HT.out.l2.lt)
        have HZ := Lib.hid Z
        generalize ofLin xs (words ps) = x at HZ HNi
        generalize ofOk xs (words ps) = ok at HZ
        clear Z r1 f1 b1 hpn hsm
        generalize xs.length = n at HZ hsl ⊢
        go_wp2_with (fail)
        refine HZ.out.mono ?_
        rintro e w2 ⟨a2, c2, qa, qc, rfl, r2, q2, b2⟩
        generalize hn2 : x.base.length = n2
        generalize hm2 : x.ps.length = m2
        obtain ⟨e0, e1, eB, eP, eb⟩ := tell2 (n := n2) (m := m2) (HB1.out.trans (b2.mono HB1.out.size)) (HL2.out.below b2 HL2.out.lt) (by rw [HG2.out]; exact Nat.le_refl _) r2 q2 (.cells #[.slice a2 n2 c2, .slice qa m2 qc] 29)
        have HF : Hid (MadeLin w (.returned (.agg #[.slice a2 n2 c2, .slice qa m2 qc])) (((w2.setCell ⟨g2, 0, none⟩ (.slice a2 n2 c2)).setCell ⟨g2, 1, none⟩ (.slice qa m2 qc)).alloc (.cells #[.slice a2 n2 c2, .slice qa m2 qc] 29))) := Lib.hid ⟨x, HNi.out, a2, c2, qa, qc, by rw [hn2, hm2], eB, eP, eb⟩
        have HE0 := Lib.hid e0
        have HE1 := Lib.hid e1
        have d0 := (HL2.out.below b2 HL2.out.lt).cell 0
        have d1 := (HL2.out.below b2 HL2.out.lt).cell 1
        simp only [List.getElem?_cons_zero, List.getElem?_cons_succ] at d0 d1
        have z0 := (HL2.out.below b2 HL2.out.lt).frozen 0
        have z1 := (HL2.out.below b2 HL2.out.lt).frozen 1
        have hlt := (HL2.out.below b2 HL2.out.lt).lt
        clear e0 e1 eb eB eP r2 q2 b2 hn2 hm2
        go_wp2
        generalize ((w2.setCell ⟨g2, 0, none⟩ (.slice a2 n2 c2)).setCell ⟨g2, 1, none⟩ (.slice qa m2 qc)).alloc (.cells #[.slice a2 n2 c2, .slice qa m2 qc] 29) = WF at HE0 HE1 HF ⊢
        have e0 := HE0.out
        have e1 := HE1.out
        exact bodyPost_ret (v := .agg #[.slice a2 n2 c2, .slice qa m2 qc]) (by simp [results, Try.results21, go_sem, e0, e1]) rfl HF.out
    · by_cases hl : 8 < len
      · obtain ⟨b, off, rfl⟩ := HC.out.form (by omega)
        have HD := Lib.hid ((HC.out.below HT.out.bel).drop (k := 8) hl)
        have h1 : (8 : Int) < (len : Int) := by omega
        have h2 : 8 < cap := by omega
        go_wp2_with (fail)
        refine (play_any _ _ _ _ _ HD.out).mono ?_
        rintro e w1 ⟨xs, hsm, a1, c1, rfl, r1, f1, b1⟩
        have hsl := hsm.len
        obtain ⟨a2, c2, w2, hr, q2, k2, f2⟩ := app1 pa pc 1 ps w1 (HT.out.row.below b1) HT.out.num a1 c1 xs.length xs r1 rfl (by omega)
        have hf := f2 w.heap.size (Nat.le_trans HT.out.bel.size b1.size) HT.out.own
        have HT2 : Hid (MadeSt w g2 a2 c2 2 (ps ++ [⟨a1, c1, xs⟩]) w2) := Lib.hid ⟨(HT.out.bel.trans (b1.mono HT.out.bel.size)).trans hf.2, (HT.out.l2.below b1 HT.out.l2.lt).kept k2 (fun e => by
            have hrow := (HT.out.row.below b1).row
            have hl2 := HT.out.l2.below b1 HT.out.l2.lt
            rcases hrow with ⟨h, _⟩ | ⟨g1, sp, h, _, _, l1⟩
            · rw [h] at e; cases e
            · rw [h] at e; injection e with e; injection e with e; subst e
              exact l1.other hl2 (by decide) rfl), q2, by simp [HT.out.num], hf.1, by
            intro p hp
            simp only [words, List.map_append, List.mem_append, List.map_cons, List.map_nil, List.mem_singleton] at hp
            rcases hp with hp | rfl
            · exact HT.out.good p hp
            · exact hsm.right⟩
        clear q2 k2 f2 hf r1 f1 b1 hsm HD
        generalize xs.length = n at hr hsl
        go_wp2_with (at_builtin; refine Lib.wpList_append_run _ rfl _ _ _ _ rfl _ _ rfl rfl _ _ hr ?_)
        go_roundw
        case rel => exact ⟨2, a2, c2, _, by omega, by go_num, rfl, HT2⟩
        case measure => simp [intOf]
      · have h1 : ¬ (8 : Int) < (len : Int) := by omega
        have h1' : decide ((8 : Int) < (len : Int)) = false := by simpa using h1
        go_wp2_with (fail)
        refine (play_any a len cap zs _ (HC.out.below HT.out.bel)).mono ?_
        rintro e w1 ⟨xs, hsm, a1, c1, rfl, r1, f1, b1⟩
        have hsl := hsm.len
        have HB1 := Lib.hid (HT.out.bel.trans (b1.mono HT.out.bel.size))
        have hpn : (words ps).length = 1 := (words_len ps).trans HT.out.num
        have Z := ofLin_any a1 pa c1 pc xs (words ps) w1 r1 ⟨ps, rfl, HT.out.row.below b1⟩ (by omega) (right_short HT.out.good) (by omega)
        rw [hpn] at Z
        have HNi := Lib.hid (nice_of hsm HT.out.good (by omega))
        have HL2 := Lib.hid (HT.out.l2.below b1 HT.out.l2.lt)
        have HZ := Lib.hid Z
        generalize ofLin xs (words ps) = x at HZ HNi
        generalize ofOk xs (words ps) = ok at HZ
        clear Z r1 f1 b1 hpn hsm
        generalize xs.length = n at HZ hsl ⊢
        go_wp2_with (fail)
        refine HZ.out.mono ?_
        rintro e w2 ⟨a2, c2, qa, qc, rfl, r2, q2, b2⟩
        generalize hn2 : x.base.length = n2
        generalize hm2 : x.ps.length = m2
        obtain ⟨e0, e1, eB, eP, eb⟩ := tell2 (n := n2) (m := m2) (HB1.out.trans (b2.mono HB1.out.size)) (HL2.out.below b2 HL2.out.lt) (by rw [HG2.out]; exact Nat.le_refl _) r2 q2 (.cells #[.slice a2 n2 c2, .slice qa m2 qc] 29)
        have HF : Hid (MadeLin w (.returned (.agg #[.slice a2 n2 c2, .slice qa m2 qc])) (((w2.setCell ⟨g2, 0, none⟩ (.slice a2 n2 c2)).setCell ⟨g2, 1, none⟩ (.slice qa m2 qc)).alloc (.cells #[.slice a2 n2 c2, .slice qa m2 qc] 29))) := Lib.hid ⟨x, HNi.out, a2, c2, qa, qc, by rw [hn2, hm2], eB, eP, eb⟩
        have HE0 := Lib.hid e0
        have HE1 := Lib.hid e1
        have d0 := (HL2.out.below b2 HL2.out.lt).cell 0
        have d1 := (HL2.out.below b2 HL2.out.lt).cell 1
        simp only [List.getElem?_cons_zero, List.getElem?_cons_succ] at d0 d1
        have z0 := (HL2.out.below b2 HL2.out.lt).frozen 0
        have z1 := (HL2.out.below b2 HL2.out.lt).frozen 1
        have hlt := (HL2.out.below b2 HL2.out.lt).lt
        clear e0 e1 eb eB eP r2 q2 b2 hn2 hm2
        go_wp2
        generalize ((w2.setCell ⟨g2, 0, none⟩ (.slice a2 n2 c2)).setCell ⟨g2, 1, none⟩ (.slice qa m2 qc)).alloc (.cells #[.slice a2 n2 c2, .slice qa m2 qc] 29) = WF at HE0 HE1 HF ⊢
        have e0 := HE0.out
        have e1 := HE1.out
        exact bodyPost_ret (v := .agg #[.slice a2 n2 c2, .slice qa m2 qc]) (by simp [results, Try.results21, go_sem, e0, e1]) rfl HF.out
    · by_cases hl : 12 < len
      · obtain ⟨b, off, rfl⟩ := HC.out.form (by omega)
        have HD := Lib.hid ((HC.out.below HT.out.bel).drop (k := 12) hl)
        have h1 : (12 : Int) < (len : Int) := by omega
        have h2 : 12 < cap := by omega
        go_wp2_with (fail)
        refine (play_any _ _ _ _ _ HD.out).mono ?_
        rintro e w1 ⟨xs, hsm, a1, c1, rfl, r1, f1, b1⟩
        have hsl := hsm.len
        obtain ⟨a2, c2, w2, hr, q2, k2, f2⟩ := app1 pa pc 2 ps w1 (HT.out.row.below b1) HT.out.num a1 c1 xs.length xs r1 rfl (by omega)
        have hf := f2 w.heap.size (Nat.le_trans HT.out.bel.size b1.size) HT.out.own
        have HT2 : Hid (MadeSt w g2 a2 c2 3 (ps ++ [⟨a1, c1, xs⟩]) w2) := Lib.hid ⟨(HT.out.bel.trans (b1.mono HT.out.bel.size)).trans hf.2, (HT.out.l2.below b1 HT.out.l2.lt).kept k2 (fun e => by
            have hrow := (HT.out.row.below b1).row
            have hl2 := HT.out.l2.below b1 HT.out.l2.lt
            rcases hrow with ⟨h, _⟩ | ⟨g1, sp, h, _, _, l1⟩
            · rw [h] at e; cases e
            · rw [h] at e; injection e with e; injection e with e; subst e
              exact l1.other hl2 (by decide) rfl), q2, by simp [HT.out.num], hf.1, by
            intro p hp
            simp only [words, List.map_append, List.mem_append, List.map_cons, List.map_nil, List.mem_singleton] at hp
            rcases hp with hp | rfl
            · exact HT.out.good p hp
            · exact hsm.right⟩
        clear q2 k2 f2 hf r1 f1 b1 hsm HD
        generalize xs.length = n at hr hsl
        go_wp2_with (at_builtin; refine Lib.wpList_append_run _ rfl _ _ _ _ rfl _ _ rfl rfl _ _ hr ?_)
        go_roundw
        case rel => exact ⟨3, a2, c2, _, by omega, by go_num, rfl, HT2⟩
        case measure => simp [intOf]
      · have h1 : ¬ (12 : Int) < (len : Int) := by omega
        have h1' : decide ((12 : Int) < (len : Int)) = false := by simpa using h1
        go_wp2_with (fail)
        refine (play_any a len cap zs _ (HC.out.below HT.out.bel)).mono ?_
        rintro e w1 ⟨xs, hsm, a1, c1, rfl, r1, f1, b1⟩
        have hsl := hsm.len
        have HB1 := Lib.hid (HT.out.bel.trans (b1.mono HT.out.bel.size))
        have hpn : (words ps).length = 2 := (words_len ps).trans HT.out.num
        have Z := ofLin_any a1 pa c1 pc xs (words ps) w1 r1 ⟨ps, rfl, HT.out.row.below b1⟩ (by omega) (right_short HT.out.good) (by omega)
        rw [hpn] at Z
        have HNi := Lib.hid (nice_of hsm HT.out.good (by omega))
        have HL2 := Lib.hid (HT.out.l2.below b1 HT.out.l2.lt)
        have HZ := Lib.hid Z
        generalize ofLin xs (words ps) = x at HZ HNi
        generalize ofOk xs (words ps) = ok at HZ
        clear Z r1 f1 b1 hpn hsm
        generalize xs.length = n at HZ hsl ⊢
        go_wp2_with (fail)
        refine HZ.out.mono ?_
        rintro e w2 ⟨a2, c2, qa, qc, rfl, r2, q2, b2⟩
        generalize hn2 : x.base.length = n2
        generalize hm2 : x.ps.length = m2
        obtain ⟨e0, e1, eB, eP, eb⟩ := tell2 (n := n2) (m := m2) (HB1.out.trans (b2.mono HB1.out.size)) (HL2.out.below b2 HL2.out.lt) (by rw [HG2.out]; exact Nat.le_refl _) r2 q2 (.cells #[.slice a2 n2 c2, .slice qa m2 qc] 29)
        have HF : Hid (MadeLin w (.returned (.agg #[.slice a2 n2 c2, .slice qa m2 qc])) (((w2.setCell ⟨g2, 0, none⟩ (.slice a2 n2 c2)).setCell ⟨g2, 1, none⟩ (.slice qa m2 qc)).alloc (.cells #[.slice a2 n2 c2, .slice qa m2 qc] 29))) := Lib.hid ⟨x, HNi.out, a2, c2, qa, qc, by rw [hn2, hm2], eB, eP, eb⟩
        have HE0 := Lib.hid e0
        have HE1 := Lib.hid e1
        have d0 := (HL2.out.below b2 HL2.out.lt).cell 0
        have d1 := (HL2.out.below b2 HL2.out.lt).cell 1
        simp only [List.getElem?_cons_zero, List.getElem?_cons_succ] at d0 d1
        have z0 := (HL2.out.below b2 HL2.out.lt).frozen 0
        have z1 := (HL2.out.below b2 HL2.out.lt).frozen 1
        have hlt := (HL2.out.below b2 HL2.out.lt).lt
        clear e0 e1 eb eB eP r2 q2 b2 hn2 hm2
        go_wp2
        generalize ((w2.setCell ⟨g2, 0, none⟩ (.slice a2 n2 c2)).setCell ⟨g2, 1, none⟩ (.slice qa m2 qc)).alloc (.cells #[.slice a2 n2 c2, .slice qa m2 qc] 29) = WF at HE0 HE1 HF ⊢
        have e0 := HE0.out
        have e1 := HE1.out
        exact bodyPost_ret (v := .agg #[.slice a2 n2 c2, .slice qa m2 qc]) (by simp [results, Try.results21, go_sem, e0, e1]) rfl HF.out
    · go_wp2_with (fail)
      refine (play_any a len cap zs _ (HC.out.below HT.out.bel)).mono ?_
      rintro e w1 ⟨xs, hsm, a1, c1, rfl, r1, f1, b1⟩
      have hsl := hsm.len
      have HB1 := Lib.hid (HT.out.bel.trans (b1.mono HT.out.bel.size))
      have hpn : (words ps).length = 3 := (words_len ps).trans HT.out.num
      have Z := ofLin_any a1 pa c1 pc xs (words ps) w1 r1 ⟨ps, rfl, HT.out.row.below b1⟩ (by omega) (right_short HT.out.good) (by omega)
      rw [hpn] at Z
      have HNi := Lib.hid (nice_of hsm HT.out.good (by omega))
      have HL2 := Lib.hid (HT.out.l2.below b1 HT.out.l2.lt)
      have HZ := Lib.hid Z
      generalize ofLin xs (words ps) = x at HZ HNi
      generalize ofOk xs (words ps) = ok at HZ
      clear Z r1 f1 b1 hpn hsm
      generalize xs.length = n at HZ hsl ⊢
      go_wp2_with (fail)
      refine HZ.out.mono ?_
      rintro e w2 ⟨a2, c2, qa, qc, rfl, r2, q2, b2⟩
      generalize hn2 : x.base.length = n2
      generalize hm2 : x.ps.length = m2
      obtain ⟨e0, e1, eB, eP, eb⟩ := tell2 (n := n2) (m := m2) (HB1.out.trans (b2.mono HB1.out.size)) (HL2.out.below b2 HL2.out.lt) (by rw [HG2.out]; exact Nat.le_refl _) r2 q2 (.cells #[.slice a2 n2 c2, .slice qa m2 qc] 29)
      have HF : Hid (MadeLin w (.returned (.agg #[.slice a2 n2 c2, .slice qa m2 qc])) (((w2.setCell ⟨g2, 0, none⟩ (.slice a2 n2 c2)).setCell ⟨g2, 1, none⟩ (.slice qa m2 qc)).alloc (.cells #[.slice a2 n2 c2, .slice qa m2 qc] 29))) := Lib.hid ⟨x, HNi.out, a2, c2, qa, qc, by rw [hn2, hm2], eB, eP, eb⟩
      have HE0 := Lib.hid e0
      have HE1 := Lib.hid e1
      have d0 := (HL2.out.below b2 HL2.out.lt).cell 0
      have d1 := (HL2.out.below b2 HL2.out.lt).cell 1
      simp only [List.getElem?_cons_zero, List.getElem?_cons_succ] at d0 d1
      have z0 := (HL2.out.below b2 HL2.out.lt).frozen 0
      have z1 := (HL2.out.below b2 HL2.out.lt).frozen 1
      have hlt := (HL2.out.below b2 HL2.out.lt).lt
      clear e0 e1 eb eB eP r2 q2 b2 hn2 hm2
      go_wp2
      generalize ((w2.setCell ⟨g2, 0, none⟩ (.slice a2 n2 c2)).setCell ⟨g2, 1, none⟩ (.slice qa m2 qc)).alloc (.cells #[.slice a2 n2 c2, .slice qa m2 qc] 29) = WF at HE0 HE1 HF ⊢
      have e0 := HE0.out
      have e1 := HE1.out
      exact bodyPost_ret (v := .agg #[.slice a2 n2 c2, .slice qa m2 qc]) (by simp [results, Try.results21, go_sem, e0, e1]) rfl HF.out
end Go.Proofs.Ytmbkiefbchjofaa

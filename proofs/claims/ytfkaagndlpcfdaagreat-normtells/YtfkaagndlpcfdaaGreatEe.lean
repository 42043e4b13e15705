/- lin.Of. -/
import Derived.Test.YtfkaagndlpcfdaaGreatEd
import Derived.Test.YtfkaagndlpcfdaaGreatC
import Derived.Test.YtfkaagndlpcfdaaGreatDe
namespace Go.Proofs.YtfkaagndlpcfdaaGreat
open Go.ChangeShapes Go.WideShapes Go.ChangeAt Go.RowKit

/-- What a call that makes a linear set of new memory comes to. -/
def MakesLinF (x : Lin) (ok : Bool) (w : World) (e : Ending) (w' : World) : Prop :=
  ∃ a c pa pc ps, words ps = x.ps ∧ e = .returned (.tuple #[.agg #[.slice a x.base.length c, .slice pa x.ps.length pc], .bool ok]) ∧ Bag w' a c x.base ∧ Bgs w' pa pc ps ∧
    From w.heap.size a ∧ From w.heap.size pa ∧ (∀ p ∈ ps, From w.heap.size p.a) ∧ Below w.heap.size w w'
set_option maxRecDepth 100000 in
theorem MakesLinF.lin {x : Lin} {ok : Bool} {w w' : World} {e : Ending} (h : MakesLinF x ok w e w') : MakesLin x ok w e w' := by
  obtain ⟨a, c, pa, pc, ps, hw, he, hb, hp, _, _, _, hB⟩ := h
  exact ⟨a, c, pa, pc, he, hb, ⟨ps, hw, hp⟩, hB⟩
set_option maxRecDepth 100000 in
theorem makesF_none {x : Lin} {ok : Bool} {w w' : World} (hx : x = ⟨[], []⟩) (ho : ok = false) (b : Below w.heap.size w w') : MakesLinF x ok w (.returned (.tuple #[.agg #[.slice none 0 0, .slice none 0 0], .bool false])) w' := by
  subst hx; subst ho
  exact ⟨none, 0, none, 0, [], rfl, rfl, Bag.nil _, Bgs.nil _, From.none _, From.none _, (fun p h => by simp at h), b⟩

/-- The linear set under construction, in block g4. -/
structure OfP (w : World) (g4 : Nat) (a : Option Addr) (c n : Nat) (nb : List Int) (pa : Option Addr) (pc m : Nat) (ps : List Bg) (W : World) : Prop where
  bel : Below w.heap.size w W
  l4 : Lies W g4 60 [.slice a n c, .slice pa m pc]
  base : Bag W a c nb
  row : Bgs W pa pc ps
  len : nb.length = n
  num : ps.length = m
  h4 : w.heap.size ≤ g4
  oa : From w.heap.size a
  op : From w.heap.size pa
  each : ∀ p ∈ ps, From w.heap.size p.a
section
variable {w W W' : World} {g4 : Nat} {a pa pa' : Option Addr} {c n pc m pc' m' : Nat} {nb : List Int} {ps ps' : List Bg}
set_option maxRecDepth 100000 in
theorem OfP.below (h : OfP w g4 a c n nb pa pc m ps W) (k : Below W.heap.size W W') : OfP w g4 a c n nb pa pc m ps W' :=
  ⟨h.bel.trans (k.mono h.bel.size), h.l4.below k h.l4.lt, h.base.below k, h.row.below k, h.len, h.num, h.h4, h.oa, h.op, h.each⟩
set_option maxRecDepth 100000 in
theorem Lies.apartRow {cs : List Value} (l : Lies W g4 60 cs) {vs : List Value} (r : Row W 56 pa pc vs) : pa ≠ some ⟨g4, 0, none⟩ := by
  intro e
  rcases r with ⟨h, _⟩ | ⟨g1, sp, h, _, _, l1⟩
  · rw [h] at e; cases e
  · rw [h] at e; injection e with e; injection e with e; subst e
    exact l1.other l (by decide) rfl
set_option maxRecDepth 100000 in
/-- Only the row's own block has turned; other periods stand there now. -/
theorem OfP.turned (h : OfP w g4 a c n nb pa pc m ps W) (k : Kept (fun g => pa = some ⟨g, 0, none⟩) W W') (_r : Bgs W' pa pc ps') (hm : ∀ x ∈ ps', x ∈ ps) :
    Below w.heap.size w W' ∧ Lies W' g4 60 [.slice a n c, .slice pa m pc] ∧ Bag W' a c nb ∧ ∀ p ∈ ps', From w.heap.size p.a :=
  ⟨h.bel.trans (k.below (fun g e => h.op g e) h.bel.size), h.l4.kept k (h.l4.apartRow h.row.row), h.base.kept k (fun _ e => h.base.apart h.row.row e), fun p hp => h.each p (hm p hp)⟩
set_option maxRecDepth 100000 in
theorem OfP.sorted (h : OfP w g4 a c n nb pa pc m ps W) (s : Sorts W pa pc ps W' ps') : OfP w g4 a c n nb pa pc m ps' W' := by
  obtain ⟨h1, h2, h3, h4⟩ := h.turned s.kept s.bgs (fun x hx => (s.mem x).1 hx)
  exact ⟨h1, h2, h3, s.bgs, h.len, s.len.trans h.num, h.h4, h.oa, h.op, h4⟩
set_option maxRecDepth 100000 in
theorem OfP.put {W' : World} (hb : Below w.heap.size w W') (l : Lies W' g4 60 [.slice a n c, .slice pa m pc]) (b : Bag W' a c nb) (r : Bgs W' pa' pc' ps') (hl : nb.length = n) (hm : ps'.length = m') (h4 : w.heap.size ≤ g4) (oa : From w.heap.size a) (op : From w.heap.size pa') (each : ∀ p ∈ ps', From w.heap.size p.a) :
    OfP w g4 a c n nb pa' pc' m' ps' (W'.setCell ⟨g4, 1, none⟩ (.slice pa' m' pc')) := by
  have k := kept_set W' g4 1 (.slice pa' m' pc')
  exact ⟨hb.setCell h4 _, (l.set 1 _).to rfl, b.far l k, r.far l k, hl, hm, h4, oa, op, each⟩
set_option maxRecDepth 100000 in
theorem OfP.compacted (h : OfP w g4 a c n nb pa pc m ps W) (k : Kept (fun g => pa = some ⟨g, 0, none⟩) W W') (r : Bgs W' pa pc ps') (hm : ∀ x ∈ ps', x ∈ ps) :
    OfP w g4 a c n nb pa pc ps'.length ps' (W'.setCell ⟨g4, 1, none⟩ (.slice pa ps'.length pc)) := by
  obtain ⟨h1, h2, h3, h4⟩ := h.turned k r hm
  exact OfP.put h1 h2 h3 r h.len rfl h.h4 h.oa h.op h4
set_option maxRecDepth 100000 in
/-- One more. -/
theorem OfP.app (h : OfP w g4 a c n nb pa pc m ps W) {b : Option Addr} {d l : Nat} {ys : List Int} (R : Bag W b d ys) (hl : ys.length = l) (f : From w.heap.size b) (hs : m ≤ 100000000000) :
    ∃ a2 c2 w2, (Builtin.append_ #[58, 58] 58 #[.slice pa m pc, .slice (some ⟨W.heap.size, 0, none⟩) 1 1]).run Tryz.prog (W.alloc (.cells #[.slice b l d] 56)) = .ok (.slice a2 (m + 1) c2) w2 ∧
      Lies w2 g4 60 [.slice a n c, .slice pa m pc] ∧ OfP w g4 a c n nb a2 c2 (m + 1) (ps ++ [⟨b, d, ys⟩]) (w2.setCell ⟨g4, 1, none⟩ (.slice a2 (m + 1) c2)) := by
  obtain ⟨a2, c2, w2, hr, q2, k2, f2⟩ := app1 pa pc m ps W h.row h.num b d l ys R hl hs
  obtain ⟨f3, b3⟩ := f2 w.heap.size h.bel.size h.op
  have l2 := h.l4.kept k2 (h.l4.apartRow h.row.row)
  refine ⟨a2, c2, w2, hr, l2, OfP.put (h.bel.trans b3) l2 (h.base.kept k2 (fun _ e => h.base.apart h.row.row e)) q2 h.len (by simp [h.num]) h.h4 h.oa f3 ?_⟩
  intro p hp
  rcases List.mem_append.1 hp with hp | hp
  · exact h.each p hp
  · rw [List.mem_singleton.1 hp]; exact f
set_option maxRecDepth 100000 in
theorem OfP.zeros {cs : List Value} (u0 u1 : Value) (hcs : cs = [u0, u1]) (hb : Below w.heap.size w W) (l : Lies W g4 60 cs) (h4 : w.heap.size ≤ g4) :
    ((W.setCell ⟨g4, 0, none⟩ (.slice none 0 0)).setCell ⟨g4, 1, none⟩ (.slice none 0 0)).cell? ⟨g4, 0, none⟩ = some (.slice none 0 0) ∧
    ((W.setCell ⟨g4, 0, none⟩ (.slice none 0 0)).setCell ⟨g4, 1, none⟩ (.slice none 0 0)).cell? ⟨g4, 1, none⟩ = some (.slice none 0 0) ∧
    Below w.heap.size w ((W.setCell ⟨g4, 0, none⟩ (.slice none 0 0)).setCell ⟨g4, 1, none⟩ (.slice none 0 0)) := by
  subst hcs
  have l1 : Lies (W.setCell ⟨g4, 0, none⟩ (.slice none 0 0)) g4 60 [.slice none 0 0, u1] := (l.set 0 _).to rfl
  have l2 : Lies ((W.setCell ⟨g4, 0, none⟩ (.slice none 0 0)).setCell ⟨g4, 1, none⟩ (.slice none 0 0)) g4 60 [.slice none 0 0, .slice none 0 0] := (l1.set 1 _).to rfl
  exact ⟨l2.cell 0, l2.cell 1, (hb.setCell h4 _).setCell h4 _⟩
set_option maxRecDepth 100000 in
theorem OfP.full (h : OfP w g4 a c n nb pa pc m ps W) {x : Lin} (hx : x = ⟨nb, words ps⟩) :
    ((W.setCell ⟨g4, 0, none⟩ (.slice a n c)).setCell ⟨g4, 1, none⟩ (.slice pa m pc)).cell? ⟨g4, 0, none⟩ = some (.slice a n c) ∧
    ((W.setCell ⟨g4, 0, none⟩ (.slice a n c)).setCell ⟨g4, 1, none⟩ (.slice pa m pc)).cell? ⟨g4, 1, none⟩ = some (.slice pa m pc) ∧
    MakesLinF x true w (.returned (.tuple #[.agg #[.slice a n c, .slice pa m pc], .bool true])) ((W.setCell ⟨g4, 0, none⟩ (.slice a n c)).setCell ⟨g4, 1, none⟩ (.slice pa m pc)) := by
  have l1 : Lies (W.setCell ⟨g4, 0, none⟩ (.slice a n c)) g4 60 [.slice a n c, .slice pa m pc] := h.l4.set 0 _
  have l2 : Lies ((W.setCell ⟨g4, 0, none⟩ (.slice a n c)).setCell ⟨g4, 1, none⟩ (.slice pa m pc)) g4 60 [.slice a n c, .slice pa m pc] := l1.set 1 _
  have k1 := kept_set W g4 0 (.slice a n c)
  have k2 := kept_set (W.setCell ⟨g4, 0, none⟩ (.slice a n c)) g4 1 (.slice pa m pc)
  subst hx
  refine ⟨l2.cell 0, l2.cell 1, a, c, pa, pc, ps, rfl, ?_, (h.base.far h.l4 k1).far l1 k2, (h.row.far h.l4 k1).far l1 k2, h.oa, h.op, h.each, (h.bel.setCell h.h4 _).setCell h.h4 _⟩
  rw [h.len, words_len, h.num]
end
set_option maxRecDepth 100000 in
theorem rights_of {qs : List Bg} {l : List (List Int)} (h : words qs = ofNorm l) : Rights qs := fun p hp => (ofNorm_good l p.xs (by rw [← h]; exact List.mem_map.2 ⟨p, hp, rfl⟩)).1
set_option maxRecDepth 100000 in
theorem compact_words {qs l out : List Bg} {ps : List (List Int)} (h : words qs = ofNorm ps) (hm : ∀ x, x ∈ l ↔ x ∈ qs) (h1 : ∀ x ∈ out, x ∈ l) (h2 : ∀ x ∈ l, x.xs ∈ words out) (h3 : (words out).Pairwise (fun x y => cmpL x y < 0)) : words out = putAll [] (ofNorm ps) := by
  have g : ∀ z, z ∈ words out ↔ z ∈ ofNorm ps := fun z => by
    rw [← h]
    constructor
    · intro hz
      obtain ⟨p, hp, rfl⟩ := List.mem_map.1 hz
      exact List.mem_map.2 ⟨p, (hm p).1 (h1 p hp), rfl⟩
    · intro hz
      obtain ⟨p, hp, rfl⟩ := List.mem_map.1 hz
      exact h2 p ((hm p).2 hp)
  refine rise_ext ⟨fun z hz => ofNorm_good ps z ((g z).1 hz), h3⟩ (putAll_rise (ofNorm_good ps) rise_nil) (fun z => ?_)
  rw [g, putAll_mem (ofNorm_good ps) rise_nil]
  simp

set_option maxRecDepth 100000 in
set_option maxHeartbeats 4000000 in
theorem of9 (a pa : Option Addr) (c pc : Nat) (b : List Int) (ps : List (List Int)) (w : World) (R : Bag w a c b) (P : Bags w pa pc ps) (hb : b.length ≤ 1000) (hps : ∀ j, (ps.getD j []).length ≤ 1000) (hl : ps.length ≤ 100000000000) :
    Calls Tryz.prog 50 #[.slice a b.length c, .slice pa ps.length pc] w (MakesLinF (ofLin b ps) (ofOk b ps) w) := by
  have hle := P.le
  have hle' := R.le
  obtain ⟨n0, hn0⟩ : ∃ n, n = b.length := ⟨_, rfl⟩
  obtain ⟨m, hm⟩ : ∃ m, m = ps.length := ⟨_, rfl⟩
  have B0 : Below w.heap.size w (w.alloc (.cells #[.slice none 0 0, .slice none 0 0] 60)) := below_alloc _ _
  have HB0 := Lib.hid B0
  have HL4 : Hid (Lies (w.alloc (.cells #[.slice none 0 0, .slice none 0 0] 60)) w.heap.size 60 [.slice none 0 0, .slice none 0 0]) := Lib.hid (Lies.new w _ _)
  have HP := Lib.hid P
  have HPL := Lib.hid hps
  have HZ := Lib.hid (norm_any a c b _ (R.below B0) hb)
  rw [← hm] at hle hl ⊢
  rw [← hn0] at hle' hb HZ ⊢
  have HM := Lib.hid hm.symm
  clear R P hn0 hm B0 hps
  go_enter Tryz.func50, Tryz.ntmps50
  go_wp2_with (fail)
  generalize w.alloc (.cells #[.slice none 0 0, .slice none 0 0] 60) = W0 at HB0 HL4 HZ ⊢
  generalize hg4 : w.heap.size = g4 at HL4 ⊢
  have HG4 := Lib.hid hg4
  clear hg4
  refine HZ.out.mono ?_
  rintro e w1 ⟨a1, c1, rfl, r1, f1, b1⟩
  clear HZ
  have hle3 := r1.le
  generalize hn1 : (normL b).length = n1 at hle3 ⊢
  generalize hv : (!lostL b) = v
  have HV := Lib.hid hv
  have HL1 := Lib.hid (HL4.out.below b1 HL4.out.lt)
  have HB1 := Lib.hid (HB0.out.trans (b1.mono HB0.out.size))
  have HH4 : Hid (w.heap.size ≤ g4) := Lib.hid (by rw [HG4.out]; exact Nat.le_refl _)
  have HS : Hid (OfP w g4 a1 c1 n1 (normL b) none 0 0 [] (w1.setCell ⟨g4, 0, none⟩ (.slice a1 n1 c1))) := Lib.hid
    ⟨HB1.out.setCell HH4.out _, (HL1.out.set 0 _).to rfl, r1.far HL1.out (kept_set w1 g4 0 _), Bgs.nil _, hn1, rfl, HH4.out, (From.mono (fun g e => f1 g e) HB0.out.size), From.none _, fun p hp => by simp at hp⟩
  have d0 := HL1.out.cell 0
  have d1 := HL1.out.cell 1
  simp only [List.getElem?_cons_zero, List.getElem?_cons_succ] at d0 d1
  have z0 := HL1.out.frozen 0
  have z1 := HL1.out.frozen 1
  clear r1 f1 b1 hn1 hv HB0 HL4
  cases v
  · have HL : Hid (ofOk b ps = false ∧ ofLin b ps = ⟨[], []⟩) := Lib.hid (of_lost0 (by have := HV.out; simpa using this))
    obtain ⟨e0, e1, eb⟩ := OfP.zeros _ _ rfl HS.out.bel HS.out.l4 HH4.out
    have HF := Lib.hid (makesF_none HL.out.2 HL.out.1 eb)
    have HE0 := Lib.hid e0
    have HE1 := Lib.hid e1
    clear e0 e1 eb
    go_wp2
    generalize ((w1.setCell ⟨g4, 0, none⟩ (.slice a1 n1 c1)).setCell ⟨g4, 0, none⟩ (.slice none 0 0)).setCell ⟨g4, 1, none⟩ (.slice none 0 0) = WF at HE0 HE1 HF ⊢
    have e0 := HE0.out
    have e1 := HE1.out
    exact bodyPost_ret (v := .tuple #[.agg #[.slice none 0 0, .slice none 0 0], .bool false]) (by simp [results, Tryz.results50, go_sem, e0, e1]) rfl HF.out
  · have HLB : Hid (lostL b = false) := Lib.hid (by have := HV.out; simpa using this)
    go_wp2
    clear d0 d1 z0 z1
    generalize w1.setCell ⟨g4, 0, none⟩ (.slice a1 n1 c1) = W1 at HS ⊢
    go_loopw [21] (fun i wr => ∃ (k : Nat) (qa : Option Addr) (qc qm : Nat) (qs : List Bg), k ≤ m ∧ qm ≤ k ∧ i = .int .i64 k ∧ Hid (OfP w g4 a1 c1 n1 (normL b) qa qc qm qs wr) ∧ Hid (words qs = ofNorm (ps.take k)) ∧ Hid (∀ j, j < k → lostL (ps.getD j []) = false)) (fun i _ => m - (intOf i).toNat)
    case atStart => exact ⟨0, none, 0, 0, [], Nat.zero_le _, Nat.zero_le _, rfl, HS, Lib.hid rfl, Lib.hid (fun j h => by omega)⟩
    case round =>
      obtain ⟨k, qa, qc, qm, qs, hk, hqm, rfl, HT, HQ, HE⟩ := hrel
      by_cases hlt : k < m
      · obtain ⟨g, pb, pd, rfl, hc, hbag⟩ := (HP.out.below HT.out.bel).at (k := k) (by rw [HM.out]; exact hlt)
        have hpl : (ps.getD k []).length ≤ 1000 := HPL.out k
        have HTS := Lib.hid (take_snocB (l := ps) (k := k) (by rw [HM.out]; exact hlt))
        generalize hp : ps.getD k [] = p at hc hbag hpl HTS
        have HPP := Lib.hid hp
        have hle2 := hbag.le
        have Z := norm_any pb pd p wr hbag hpl
        generalize hlp : p.length = lp at hc Z hle2
        have HZ := Lib.hid Z
        clear Z hbag hp hlp
        go_wp2_with (fail)
        refine HZ.out.mono ?_
        rintro e w2 ⟨a2, c2, rfl, r2, f2, b2⟩
        clear HZ
        have HT2 := Lib.hid (HT.out.below b2)
        have hle3 := r2.le
        have hs := norm_short p
        generalize hn2 : (normL p).length = n2 at hle3 hs ⊢
        have HN2 := Lib.hid hn2
        have HR2 := Lib.hid r2
        have HF2 : Hid (From w.heap.size a2) := Lib.hid (From.mono (fun g e => f2 g e) HT.out.bel.size)
        generalize hv : (!lostL p) = v
        have HV := Lib.hid hv
        clear r2 f2 b2 hn2 hc hv
        cases v
        · have HL : Hid (ofOk b ps = false ∧ ofLin b ps = ⟨[], []⟩) := Lib.hid (of_lost1 (k := k) (by rw [HM.out]; exact hlt) (by rw [HPP.out]; have := HV.out; simpa using this))
          obtain ⟨e0, e1, eb⟩ := OfP.zeros _ _ rfl HT2.out.bel HT2.out.l4 HH4.out
          have HF := Lib.hid (makesF_none HL.out.2 HL.out.1 eb)
          have HE0 := Lib.hid e0
          have HE1 := Lib.hid e1
          have d0 := HT2.out.l4.cell 0
          have d1 := HT2.out.l4.cell 1
          simp only [List.getElem?_cons_zero, List.getElem?_cons_succ] at d0 d1
          have z0 := HT2.out.l4.frozen 0
          have z1 := HT2.out.l4.frozen 1
          clear e0 e1 eb
          go_wp2
          generalize (w2.setCell ⟨g4, 0, none⟩ (.slice none 0 0)).setCell ⟨g4, 1, none⟩ (.slice none 0 0) = WF at HE0 HE1 HF ⊢
          have e0 := HE0.out
          have e1 := HE1.out
          exact bodyPost_ret (v := .tuple #[.agg #[.slice none 0 0, .slice none 0 0], .bool false]) (by simp [results, Tryz.results50, go_sem, e0, e1]) rfl HF.out
        · have HE2 : Hid (∀ j, j < k + 1 → lostL (ps.getD j []) = false) := Lib.hid (fun j hj => by
            by_cases e : j = k
            · rw [e, HPP.out]; have := HV.out; simpa using this
            · exact HE.out j (by omega))
          by_cases h0 : n2 = 0
          · have HQ2 : Hid (words qs = ofNorm (ps.take (k + 1))) := Lib.hid (by
              rw [HTS.out, ofNorm_snoc, if_pos (List.eq_nil_of_length_eq_zero (by rw [HN2.out]; exact h0)), List.append_nil]; exact HQ.out)
            subst h0
            go_wp2
            go_roundw
            case rel => exact ⟨k + 1, qa, qc, qm, qs, by omega, by omega, by go_num, HT2, HQ2, HE2⟩
            case measure => simp [intOf]; omega
          · have h1 : (0 : Int) < (n2 : Int) := by omega
            have HQ2 : Hid (words (qs ++ [⟨a2, c2, normL p⟩]) = ofNorm (ps.take (k + 1))) := Lib.hid (by
              rw [HTS.out, ofNorm_snoc, if_neg (fun e => h0 (by rw [← HN2.out, e]; rfl)), ← HQ.out]; simp [words])
            obtain ⟨a3, c3, w3, hr, l3, T3⟩ := HT2.out.app HR2.out HN2.out HF2.out (by omega)
            have HT3 := Lib.hid T3
            have k0 := HT2.out.l4.cell 0
            have k1 := HT2.out.l4.cell 1
            have d0 := l3.cell 0
            have d1 := l3.cell 1
            simp only [List.getElem?_cons_zero, List.getElem?_cons_succ] at d0 d1 k0 k1
            have z0 := l3.frozen 0
            have z1 := l3.frozen 1
            have hlt4 := HT2.out.l4.lt
            clear T3 l3
            go_wp2_with (at_builtin; refine Lib.wpList_append_run _ rfl _ _ _ _ rfl _ _ rfl rfl _ _ hr ?_)
            go_roundw
            case rel => exact ⟨k + 1, a3, c3, qm + 1, _, by omega, by omega, by go_num, HT3, HQ2, HE2⟩
            case measure => simp [intOf]; omega
      · have HL : Hid (ofOk b ps = true ∧ ofLin b ps = ⟨normL b, putAll [] (ofNorm ps)⟩) := Lib.hid (of_found (b := b) (ps := ps) HLB.out (fun j hj => HE.out j (by rw [HM.out] at hj; omega)))
        have HQ2 : Hid (words qs = ofNorm ps) := Lib.hid (by have := HQ.out; rwa [List.take_of_length_le (by rw [HM.out]; omega)] at this)
        have hlq := HT.out.row.le
        rw [HT.out.num] at hlq
        have HZ := Lib.hid (sort_any qa qc qm qs wr HT.out.row HT.out.num (by omega) (rights_of HQ2.out))
        have k1 := HT.out.l4.cell 1
        simp only [List.getElem?_cons_zero, List.getElem?_cons_succ] at k1
        go_wp2_with (fail)
        refine HZ.out.mono ?_
        rintro e w2 ⟨l, rfl, hsl, hup⟩
        have HT2 := Lib.hid (HT.out.sorted hsl)
        have HMM := Lib.hid hsl.mem
        have HZ2 := Lib.hid (compact_any qa qc qm l w2 HT2.out.row HT2.out.num (by omega) (hsl.rights (rights_of HQ2.out)) hup)
        clear hsl hup HZ k1
        have k1 := HT2.out.l4.cell 1
        simp only [List.getElem?_cons_zero, List.getElem?_cons_succ] at k1
        go_wp2_with (fail)
        refine HZ2.out.mono ?_
        rintro e w3 ⟨out, rfl, B3, K3, s3, m3, p3⟩
        have HT3 := Lib.hid (HT2.out.compacted K3 B3 s3)
        obtain ⟨_, l3, _, _⟩ := HT2.out.turned K3 B3 s3
        have hlo := B3.le
        obtain ⟨e0, e1, eF⟩ := HT3.out.full (x := ofLin b ps) (by rw [HL.out.2, compact_words HQ2.out HMM.out s3 m3 p3])
        rw [← HL.out.1] at eF
        generalize out.length = mo at HT3 e0 e1 eF hlo ⊢
        have HE0 := Lib.hid e0
        have HE1 := Lib.hid e1
        have HF := Lib.hid eF
        have d0 := l3.cell 0
        have d1 := l3.cell 1
        simp only [List.getElem?_cons_zero, List.getElem?_cons_succ] at d0 d1
        have z0 := l3.frozen 0
        have z1 := l3.frozen 1
        clear k1 e0 e1 eF B3 K3 s3 m3 p3 l3 HZ2
        go_wp2
        generalize ((w3.setCell ⟨g4, 1, none⟩ (.slice qa mo qc)).setCell ⟨g4, 0, none⟩ (.slice a1 n1 c1)).setCell ⟨g4, 1, none⟩ (.slice qa mo qc) = WF at HE0 HE1 HF ⊢
        have e0 := HE0.out
        have e1 := HE1.out
        refine bodyPost_ret (v := .tuple #[.agg #[.slice a1 n1 c1, .slice qa mo qc], .bool true]) (by simp [results, Tryz.results50, go_sem, e0, e1]) rfl ?_
        have hf := HF.out
        rw [HL.out.1] at hf ⊢
        exact hf
end Go.Proofs.YtfkaagndlpcfdaaGreat

/- semi's ordered, fresh, Of: what is answered is new memory. -/
import Derived.Test.YtfkaagndlpcfdaaGreatNc
import Derived.Test.YtfkaagndlpcfdaaGreatEe
import Derived.Test.YtfkaagndlpcfdaaGreatEf
namespace Go.Proofs.YtfkaagndlpcfdaaGreat
open Go.ChangeShapes Go.WideShapes Go.ChangeAt Go.RowKit

/-- A linear set all of whose lists lie from block B on. -/
def NewLin (w : World) (B : Nat) (l : Lb) : Prop := From B l.a ∧ From B l.pa ∧ ∃ ps, words ps = l.x.ps ∧ Bgs w l.pa l.pc ps ∧ ∀ p ∈ ps, From B p.a
theorem NewLin.below {w w' : World} {B : Nat} {l : Lb} (h : NewLin w B l) (b : Below w.heap.size w w') : NewLin w' B l := by
  obtain ⟨h1, h2, ps, e, P, f⟩ := h
  exact ⟨h1, h2, ps, e, P.below b, f⟩
theorem NewLin.mono {w : World} {B B' : Nat} {l : Lb} (h : NewLin w B l) (b : B' ≤ B) : NewLin w B' l := by
  obtain ⟨h1, h2, ps, e, P, f⟩ := h
  exact ⟨h1.mono b, h2.mono b, ps, e, P, fun p hp => (f p hp).mono b⟩
theorem keptNew {w w' : World} {a : Option Addr} {c n B : Nat} {xs : List Value} (r : Row2 w a c n xs) (k : Kept (fun g => a = some ⟨g, 0, none⟩) w w') {l : Lb} (h : NewLin w B l) : NewLin w' B l := by
  obtain ⟨h1, h2, ps, e, P, f⟩ := h
  exact ⟨h1, h2, ps, e, ⟨P.row.kept k (fun g e => r.apartB P.row e), fun p hp => (P.each p hp).kept k (fun g e => r.apart (P.each p hp) e)⟩, f⟩
/-- The linear sets that a call has made so far: the row and all in it are new memory. -/
structure AccSt (w : World) (oa : Option Addr) (oc m : Nat) (ls : List Lb) (W : World) : Prop where
  bel : Below w.heap.size w W
  row : Lbs W oa oc ls
  num : ls.length = m
  own : From w.heap.size oa
  new : ∀ l ∈ ls, NewLin W w.heap.size l
theorem AccSt.nil (w : World) : AccSt w none 0 0 [] w := ⟨Below.refl _ _, Lbs.nil _, rfl, From.none _, fun l h => by simp at h⟩
theorem AccSt.below {w W W' : World} {oa : Option Addr} {oc m : Nat} {ls : List Lb} (h : AccSt w oa oc m ls W) (k : Below W.heap.size W W') : AccSt w oa oc m ls W' :=
  ⟨h.bel.trans (k.mono h.bel.size), h.row.below k, h.num, h.own, fun l hl => (h.new l hl).below k⟩
theorem AccSt.push {w W : World} {oa : Option Addr} {oc m : Nat} {ls : List Lb} (h : AccSt w oa oc m ls W) (hm : m ≤ 100000000000) (l : Lb) (n q : Nat) (hn : l.x.base.length = n) (hq : l.x.ps.length = q)
    (hl : Bag W l.a l.c l.x.base ∧ Bags W l.pa l.pc l.x.ps) (hw : NewLin W w.heap.size l) :
    ∃ a2 c2 w2, (Builtin.append_ #[32, 32] 32 #[.slice oa m oc, .slice (some ⟨W.heap.size, 0, none⟩) 1 1]).run Tryz.prog (W.alloc (.cells #[.slice l.a n l.c, .slice l.pa q l.pc] 60)) = .ok (.slice a2 (m + 1) c2) w2 ∧
      AccSt w a2 c2 (m + 1) (ls ++ [l]) w2 := by
  have b1 := below_alloc W (.cells #[.slice l.a n l.c, .slice l.pa q l.pc] 60)
  have h1 := h.below b1
  have rk : Row2 (W.alloc (.cells #[.slice l.a n l.c, .slice l.pa q l.pc] 60)) oa oc m (lflat ls) := by
    have := h1.row.row
    rwa [h1.num] at this
  have rn := row2_new (V := W) l n q hn hq
  obtain ⟨v2, w4, hr2, A2⟩ := run_app2_at 32 32 Tryz.underlying32 oa oc m (lflat ls) _ rk ⟨W.heap.size, 0, none⟩ 1 1 (lflat [l]) rfl (fun j u hj => by
    obtain ⟨g', e', hc⟩ := rn.cell hj
    injection e' with e'; injection e' with e'; subst e'
    rw [Addr.add_lit, Nat.zero_add]; exact hc) (lflat_one _) (by omega)
  obtain ⟨B2, F2⟩ := A2.below (B := w.heap.size) h1.bel.size h1.own
  obtain ⟨a2, c2, rfl, r2, k2, f2⟩ := A2
  have F2 := F2 _ _ _ rfl
  have hlen : (ls ++ [l]).length = m + 1 := by rw [List.length_append, h.num]; rfl
  refine ⟨a2, c2, w4, hr2, ⟨h1.bel.trans B2, ⟨by rw [hlen, lflat_app]; exact r2, fun p hp => ?_⟩, hlen, F2, fun p hp => ?_⟩⟩
  · rcases List.mem_append.1 hp with hp | hp
    · exact keptBag rk k2 (h1.row.each p hp)
    · obtain rfl := List.mem_singleton.1 hp
      exact keptBag rk k2 ⟨hl.1.below b1, hl.2.below b1⟩
  · rcases List.mem_append.1 hp with hp | hp
    · exact keptNew rk k2 (h1.new p hp)
    · obtain rfl := List.mem_singleton.1 hp
      exact keptNew rk k2 (hw.below b1)
/-- What is made of right linear sets by sorting and compacting: the one right row of them. -/
theorem ordered_lins {l o : List Lb} {s : List Lin} (hs : lins l = s) (r : RightsS l) (h1 : ∀ x ∈ o, x ∈ l) (h2 : ∀ x ∈ l, x.x ∈ lins o) (h3 : (lins o).Pairwise (fun x y => cmpLin x y < 0)) : lins o = putAllS [] s := by
  subst hs
  have gl : GoodS (lins l) := fun z hz => by
    obtain ⟨y, hy, rfl⟩ := List.mem_map.1 hz
    exact r y hy
  have go : GoodS (lins o) := fun z hz => by
    obtain ⟨y, hy, rfl⟩ := List.mem_map.1 hz
    exact r y (h1 y hy)
  refine riseS_ext ⟨go, h3⟩ (putAllS_rise gl riseS_nil) (fun z => ?_)
  rw [putAllS_mem gl riseS_nil]
  constructor
  · intro hz
    obtain ⟨y, hy, rfl⟩ := List.mem_map.1 hz
    exact .inr (List.mem_map.2 ⟨y, h1 y hy, rfl⟩)
  · rintro (hz | hz)
    · simp at hz
    · obtain ⟨y, hy, rfl⟩ := List.mem_map.1 hz
      exact h2 y hy
/-- What ordered comes to: in its own row's memory. -/
def Orders (a : Option Addr) (c : Nat) (ls : List Lb) (w : World) (e : Ending) (w' : World) : Prop :=
  ∃ o, e = .returned (.slice a o.length c) ∧ Lbs w' a c o ∧ Kept (fun g => a = some ⟨g, 0, none⟩) w w' ∧ (∀ x ∈ o, x ∈ ls) ∧ lins o = putAllS [] (lins ls)
theorem ordered_any (a : Option Addr) (c n : Nat) (ls : List Lb) (w : World) (P : Lbs w a c ls) (hn : ls.length = n) (hs : n ≤ 100000000000) (r : RightsS ls) :
    Calls Tryz.prog 48 #[.slice a n c] w (Orders a c ls w) := by
  have hle := P.row.le
  rw [hn] at hle
  have HZ := Lib.hid (sortS_any a c n ls w P hn (by omega) r)
  have HP := Lib.hid P
  have HR := Lib.hid r
  have HN := Lib.hid hn
  clear P r hn
  go_enter Tryz.func48, Tryz.ntmps48
  go_wp2_with (fail)
  refine HZ.out.mono ?_
  rintro e w1 ⟨l, rfl, hp, B1, K1, hu⟩
  have hl : l.length = n := by rw [hp.length_eq, HN.out]
  have HZ2 := Lib.hid (compactS_any a c n l w1 B1 hl hs (fun p h => HR.out p (hp.mem_iff.1 h)) (fun p q h1 h2 => by
    rw [lbAt_get h2, lbAt_get (Nat.lt_trans h1 h2)]
    exact hu p q h1 h2))
  have HH := Lib.hid (And.intro hp (And.intro B1 K1))
  clear hp B1 K1 hu hl HZ
  go_wp2_with (fail)
  refine HZ2.out.mono ?_
  rintro e w2 ⟨o, rfl, B2, K2, s2, m2, p2⟩
  have HF : Hid (Orders a c ls w (.returned (.slice a o.length c)) w2) := Lib.hid (by
    obtain ⟨hp, B1, K1⟩ := HH.out
    refine ⟨o, rfl, B2, K1.trans K2 (fun _ _ e => e), fun x hx => hp.mem_iff.1 (s2 x hx), ?_⟩
    exact ordered_lins (l := ls) rfl HR.out (fun x hx => hp.mem_iff.1 (s2 x hx)) (fun x hx => m2 x (hp.mem_iff.2 hx)) p2)
  clear B2 K2 s2 m2 p2
  go_wp2
  go_ret
  exact HF.out

/-- One right linear set in new memory. -/
def Freshly (x : Lin) (w : World) (e : Ending) (w' : World) : Prop :=
  ∃ l : Lb, l.x = x ∧ e = .returned (.agg #[.slice l.a x.base.length l.c, .slice l.pa x.ps.length l.pc]) ∧ Bag w' l.a l.c x.base ∧ Bags w' l.pa l.pc x.ps ∧ NewLin w' w.heap.size l ∧ Below w.heap.size w w'
set_option maxRecDepth 100000 in
set_option maxHeartbeats 1000000 in
theorem fresh37 (a pa : Option Addr) (c pc : Nat) (x : Lin) (w : World) (R : Bag w a c x.base) (P : Bags w pa pc x.ps) (hr : rightLin x = true) (hl : x.ps.length ≤ 100000000000) :
    Calls Tryz.prog 60 #[.agg #[.slice a x.base.length c, .slice pa x.ps.length pc]] w (Freshly x w) := by
  have hle := P.le
  have hle' := R.le
  have RR := rightLin_iff.1 hr
  have hb : x.base.length ≤ 1000 := by have := (right_iff.1 RR.1).1; omega
  have B1 := below_alloc w (.cells #[.slice a x.base.length c, .slice pa x.ps.length pc] 60)
  have B2 := B1.alloc B1.size (.cells #[.slice none 0 0, .slice none 0 0] 60)
  have Z := of9 a pa c pc x.base x.ps _ (R.below B2) (P.below B2) hb (goods_short RR.2.1) hl
  rw [(of_self hr).1, (of_self hr).2] at Z
  have L1 := (Lies.new w 60 [.slice a x.base.length c, .slice pa x.ps.length pc]).alloc (.cells #[.slice none 0 0, .slice none 0 0] 60)
  have L2 := Lies.new (w.alloc (.cells #[.slice a x.base.length c, .slice pa x.ps.length pc] 60)) 60 [.slice none 0 0, .slice none 0 0]
  rw [show (w.alloc (.cells #[.slice a x.base.length c, .slice pa x.ps.length pc] 60)).heap.size = w.heap.size + 1 by simp] at L2
  have HZ := Lib.hid Z
  have HB := Lib.hid B2
  have HL1 := Lib.hid L1
  have HL2 := Lib.hid L2
  clear Z R P hr hl B1 B2 L1 L2 RR
  generalize hn : x.base.length = n at hle' HZ HB HL1 HL2 ⊢
  generalize hm : x.ps.length = m at hle HZ HB HL1 HL2 ⊢
  have HN := Lib.hid hn
  have HM := Lib.hid hm
  clear hn hm hb
  go_enter Tryz.func60, Tryz.ntmps60
  go_wp2_with (fail)
  generalize (w.alloc (.cells #[.slice a n c, .slice pa m pc] 60)).alloc (.cells #[.slice none 0 0, .slice none 0 0] 60) = W at HB HL1 HL2 HZ ⊢
  generalize hg : w.heap.size = gb at HL1 HL2 ⊢
  have HG := Lib.hid hg
  clear hg
  refine HZ.out.mono ?_
  rintro e w1 ⟨a1, c1, pa1, pc1, ps, hps, he, b1, P1, f1, f2, f3, bb⟩
  have h1 := b1.le
  have h2 : ps.length ≤ pc1 ∧ pc1 ≤ 9223372036854775807 := P1.le
  have h3 : ps.length = m := by rw [← words_len, hps, HM.out]
  rw [h3] at h2
  rw [HN.out] at h1
  rw [HN.out, HM.out] at he
  subst he
  have HM1 : Hid (Bag w1 a1 c1 x.base ∧ Bags w1 pa1 pc1 x.ps ∧ NewLin w1 W.heap.size ⟨a1, c1, pa1, pc1, x⟩) := Lib.hid ⟨b1, ⟨ps, hps, P1⟩, f1, f2, ps, hps, P1, f3⟩
  have HB1 := Lib.hid (HB.out.trans (bb.mono HB.out.size))
  have HLL := Lib.hid (HL2.out.below bb HL2.out.lt)
  have HLS : Hid (gb + 1 < w1.heap.size) := Lib.hid (HL2.out.below bb HL2.out.lt).lt
  clear hps b1 P1 f1 f2 f3 bb h3 HZ HL1 HL2
  have HS : Hid (w.heap.size ≤ W.heap.size) := Lib.hid HB.out.size
  have z0 := HLL.out.frozen 0
  have z1 := HLL.out.frozen 1
  have c0 := HLL.out.cell 0
  have c1' := HLL.out.cell 1
  simp only [List.getElem?_cons_zero, List.getElem?_cons_succ] at c0 c1'
  have ltb := HLS.out
  have HF : Hid (((((w1.setCell ⟨gb + 1, 0, none⟩ (.slice a1 n c1)).setCell ⟨gb + 1, 1, none⟩ (.slice pa1 m pc1)).alloc (.cells #[.slice a1 n c1, .slice pa1 m pc1] 60)).cell? ⟨gb + 1, 0, none⟩ = some (.slice a1 n c1)) ∧
      ((((w1.setCell ⟨gb + 1, 0, none⟩ (.slice a1 n c1)).setCell ⟨gb + 1, 1, none⟩ (.slice pa1 m pc1)).alloc (.cells #[.slice a1 n c1, .slice pa1 m pc1] 60)).cell? ⟨gb + 1, 1, none⟩ = some (.slice pa1 m pc1)) ∧
      Freshly x w (.returned (.agg #[.slice a1 n c1, .slice pa1 m pc1])) (((w1.setCell ⟨gb + 1, 0, none⟩ (.slice a1 n c1)).setCell ⟨gb + 1, 1, none⟩ (.slice pa1 m pc1)).alloc (.cells #[.slice a1 n c1, .slice pa1 m pc1] 60))) := Lib.hid (by
    have L3 : Lies ((w1.setCell ⟨gb + 1, 0, none⟩ (.slice a1 n c1)).setCell ⟨gb + 1, 1, none⟩ (.slice pa1 m pc1)) (gb + 1) 60 [.slice a1 n c1, .slice pa1 m pc1] := ((HLL.out.set 0 _).set 1 _).to rfl
    have L4 := L3.alloc (.cells #[.slice a1 n c1, .slice pa1 m pc1] 60)
    have r : Row2 w1 (some ⟨gb + 1, 0, none⟩) 1 1 [.slice none 0 0, .slice none 0 0] := ⟨rfl, .inr ⟨gb + 1, [], rfl, rfl, Nat.le_refl _, by omega, HLL.out⟩⟩
    have k : Kept (fun g => (some ⟨gb + 1, 0, none⟩ : Option Addr) = some ⟨g, 0, none⟩) w1 ((w1.setCell ⟨gb + 1, 0, none⟩ (.slice a1 n c1)).setCell ⟨gb + 1, 1, none⟩ (.slice pa1 m pc1)) :=
      ((Kept.refl (fun g => (some ⟨gb + 1, 0, none⟩ : Option Addr) = some ⟨g, 0, none⟩) w1).setCell (p := ⟨gb + 1, 0, none⟩) (fun _ => rfl) _).setCell (p := ⟨gb + 1, 1, none⟩) (fun _ => rfl) _
    obtain ⟨m1, m2, m3⟩ := HM1.out
    have kb := keptBag (x := x) r k ⟨m1, m2⟩
    have kn := keptNew r k m3
    have ba := below_alloc ((w1.setCell ⟨gb + 1, 0, none⟩ (.slice a1 n c1)).setCell ⟨gb + 1, 1, none⟩ (.slice pa1 m pc1)) (.cells #[.slice a1 n c1, .slice pa1 m pc1] 60)
    have hge : w.heap.size ≤ gb + 1 := by rw [HG.out]; omega
    have b3 : Below w.heap.size w ((w1.setCell ⟨gb + 1, 0, none⟩ (.slice a1 n c1)).setCell ⟨gb + 1, 1, none⟩ (.slice pa1 m pc1)) := (HB1.out.setCell hge _).setCell hge _
    exact ⟨L4.cell 0, L4.cell 1, ⟨a1, c1, pa1, pc1, x⟩, rfl, by rw [HN.out, HM.out], kb.1.below ba, kb.2.below ba, (kn.below ba).mono HS.out, b3.trans (ba.mono b3.size)⟩)
  go_wp2
  generalize ((w1.setCell ⟨gb + 1, 0, none⟩ (.slice a1 n c1)).setCell ⟨gb + 1, 1, none⟩ (.slice pa1 m pc1)).alloc (.cells #[.slice a1 n c1, .slice pa1 m pc1] 60) = WF at HF ⊢
  obtain ⟨e0, e1, hF⟩ := HF.out
  exact bodyPost_ret (v := .agg #[.slice a1 n c1, .slice pa1 m pc1]) (by simp [results, Tryz.results60, go_sem, e0, e1]) rfl hF

/-- A row of right linear sets in new memory, and whether there is one. -/
def MakesSF (s : List Lin) (ok : Bool) (w : World) (e : Ending) (w' : World) : Prop :=
  ∃ a c ls, lins ls = s ∧ e = .returned (.tuple #[.slice a s.length c, .bool ok]) ∧ Lbs w' a c ls ∧ From w.heap.size a ∧ (∀ l ∈ ls, NewLin w' w.heap.size l) ∧ Below w.heap.size w w'
theorem makesSF_none {s : List Lin} {ok : Bool} {w w' : World} (h1 : s = []) (h2 : ok = false) (b : Below w.heap.size w w') : MakesSF s ok w (.returned (.tuple #[.slice none 0 0, .bool false])) w' := by
  subst h1; subst h2
  exact ⟨none, 0, [], rfl, rfl, Lbs.nil _, From.none _, fun l h => by simp at h, b⟩
theorem ofSOk_at {s : List Lin} : ofSOk s = true ↔ ∀ j, j < s.length → rightLin (linAt s j) = true := by
  rw [ofSOk_iff]
  constructor
  · intro h j hj
    have e : linAt s j = s[j] := by simp [linAt, List.getD, hj]
    rw [e]; exact h _ (List.getElem_mem hj)
  · intro h z hz
    obtain ⟨j, hj, rfl⟩ := List.getElem_of_mem hz
    have e : linAt s j = s[j] := by simp [linAt, List.getD, hj]
    rw [← e]; exact h j hj
set_option maxRecDepth 100000 in
set_option maxHeartbeats 2000000 in
theorem of_semi (a : Option Addr) (c : Nat) (s : List Lin) (w : World) (R : Lins w a c s) (hs : s.length ≤ 100000000000) (hps : ∀ k, (linAt s k).ps.length ≤ 100000000000) :
    Calls Tryz.prog 45 #[.slice a s.length c] w (MakesSF (ofS s) (ofSOk s) w) := by
  have hle := R.le
  generalize hn : s.length = n at hle hs ⊢
  have HN := Lib.hid hn
  have HR := Lib.hid R
  have HPS := Lib.hid hps
  clear R hn hps
  go_enter Tryz.func45, Tryz.ntmps45
  go_wp2
  go_loopw [2, 3, 8] (fun r ok i wr => ∃ (k : Nat) (oa : Option Addr) (oc : Nat) (ls : List Lb), k ≤ n ∧ r = .slice oa k oc ∧ ok = .bool false ∧ i = .int .i64 k ∧ Hid (AccSt w oa oc k ls wr) ∧ Hid (lins ls = s.take k) ∧ Hid (∀ j, j < k → rightLin (linAt s j) = true)) (fun _ _ i _ => n - (intOf i).toNat)
  case atStart => exact ⟨0, none, 0, [], Nat.zero_le _, rfl, rfl, rfl, Lib.hid (AccSt.nil w), Lib.hid rfl, Lib.hid (fun j h => by omega)⟩
  case round =>
    obtain ⟨k, oa, oc, ls, hk, rfl, rfl, rfl, HT, HA, HG⟩ := hrel
    have hlo := HT.out.row.row.le
    rw [HT.out.num] at hlo
    by_cases hlt : k < n
    · obtain ⟨g, b, d, pb, pd, e1, c0, c1, r1, t1⟩ := (HR.out.below HT.out.bel).at (k := k) (by rw [HN.out]; exact hlt)
      have hpl := HPS.out k
      have HTK : Hid (s.take (k + 1) = s.take k ++ [linAt s k]) := Lib.hid (by
        have hk' : k < s.length := by rw [HN.out]; exact hlt
        rw [List.take_succ_eq_append_getElem hk']; simp [linAt, List.getD, hk'])
      generalize hx : linAt s k = x at c0 c1 r1 t1 hpl HTK
      have HX := Lib.hid hx
      have bb := below_alloc wr (.cells #[.slice b x.base.length d, .slice pb x.ps.length pd] 60)
      have HTW := Lib.hid (HT.out.below bb)
      have L := Lies.new wr 60 [.slice b x.base.length d, .slice pb x.ps.length pd]
      have Z := right13 b pb d pd x _ (r1.below bb) (t1.below bb)
      have HM := Lib.hid (And.intro (r1.below bb) (t1.below bb))
      generalize hv : rightLin x = v at Z
      have HV := Lib.hid hv
      have hl0 := r1.le
      have hl1 := t1.le
      generalize hu0 : x.base.length = u0 at c0 Z L HTW HM hl0
      generalize hu1 : x.ps.length = u1 at c1 Z L HTW HM hl1 hpl
      have HU0 := Lib.hid hu0
      have HU1 := Lib.hid hu1
      have HZ := Lib.hid Z
      have HL := Lib.hid L
      clear Z L hx hv hu0 hu1 r1 t1 bb
      subst e1
      go_wp2_with (fail)
      clear c0 c1
      generalize wr.alloc (.cells #[.slice b u0 d, .slice pb u1 pd] 60) = W at HTW HL HM HZ ⊢
      generalize wr.heap.size = gb at HL ⊢
      refine HZ.out.mono ?_
      rintro e w1 ⟨rfl, bw⟩
      have HT1 := Lib.hid (HTW.out.below bw)
      have HL1 := Lib.hid (HL.out.below bw HL.out.lt)
      have HM1 := Lib.hid (And.intro (HM.out.1.below bw) (HM.out.2.below bw))
      clear bw HZ HTW HL HM
      cases v with
      | false =>
        have HK : Hid (ofSOk s = false) := Lib.hid (by
          rw [← Bool.not_eq_true, ofSOk_at]
          intro h
          have := h k (by rw [HN.out]; exact hlt)
          rw [HX.out, HV.out] at this
          exact Bool.false_ne_true this)
        have HF : Hid (MakesSF (ofS s) (ofSOk s) w (.returned (.tuple #[.slice none 0 0, .bool false])) w1) := Lib.hid (makesSF_none (by unfold ofS; rw [HK.out]; rfl) HK.out HT1.out.bel)
        go_wp2
        exact bodyPost_ret (v := .tuple #[.slice none 0 0, .bool false]) (by simp [results, Tryz.results45, go_sem]) rfl HF.out
      | true =>
        have q0 := HL1.out.cell 0
        have q1 := HL1.out.cell 1
        simp only [List.getElem?_cons_zero, List.getElem?_cons_succ] at q0 q1
        have Z := fresh37 b pb d pd x w1 HM1.out.1 HM1.out.2 HV.out (by rw [HU1.out]; exact hpl)
        rw [HU0.out, HU1.out] at Z
        have HZ := Lib.hid Z
        clear Z
        go_wp2_with (fail)
        refine HZ.out.mono ?_
        rintro e w2 ⟨l, hlx, he, b2, p2, n2, bw⟩
        rw [HU0.out, HU1.out] at he
        subst he
        have HT2 := Lib.hid (HT1.out.below bw)
        obtain ⟨a3, c3, w3, hr, T3⟩ := HT2.out.push (by omega) l u0 u1 (by rw [hlx]; exact HU0.out) (by rw [hlx]; exact HU1.out) (by rw [hlx]; exact ⟨b2, p2⟩) (n2.mono HT1.out.bel.size)
        have HT3 := Lib.hid T3
        have HA3 : Hid (lins (ls ++ [l]) = s.take (k + 1)) := Lib.hid (by rw [HTK.out, ← HA.out]; simp [lins, hlx])
        have HG3 : Hid (∀ j, j < k + 1 → rightLin (linAt s j) = true) := Lib.hid (fun j hj => by
          by_cases e : j = k
          · rw [e, HX.out]; exact HV.out
          · exact HG.out j (by omega))
        have hb2 := b2.le
        have hp2 := p2.le
        rw [HU0.out] at hb2
        rw [HU1.out] at hp2
        clear T3 b2 p2 n2 bw hlx q0 q1 HZ
        go_wp2_with (at_builtin; refine Lib.wpList_append_run _ rfl _ _ _ _ rfl _ _ rfl rfl _ _ hr ?_)
        go_roundw
        case rel => exact ⟨k + 1, a3, c3, _, by omega, rfl, rfl, by go_num, HT3, HA3, HG3⟩
        case measure => simp [intOf]; omega
    · obtain rfl : k = n := by omega
      have hA : lins ls = s := by have := HA.out; rwa [List.take_of_length_le (by rw [HN.out]; exact Nat.le_refl _)] at this
      have hok : ofSOk s = true := ofSOk_at.2 (fun j hj => HG.out j (by rw [HN.out] at hj; exact hj))
      have HK := Lib.hid hok
      have HAA := Lib.hid hA
      have HZ := Lib.hid (ordered_any oa oc k ls wr HT.out.row HT.out.num hs (fun p hp => by
        have : p.x ∈ s := by rw [← hA]; exact List.mem_map.2 ⟨p, hp, rfl⟩
        exact ofSOk_iff.1 hok _ this))
      clear hA hok
      go_wp2_with (fail)
      refine HZ.out.mono ?_
      rintro e w2 ⟨o, rfl, B2, K2, s2, h2⟩
      have hlo2 := B2.row.le
      have HF : Hid (MakesSF (ofS s) (ofSOk s) w (.returned (.tuple #[.slice oa o.length oc, .bool true])) w2) := Lib.hid (by
        have e1 : lins o = ofS s := by rw [h2, HAA.out]; unfold ofS; rw [HK.out]; rfl
        have r := HT.out.row.row
        refine ⟨oa, oc, o, e1, by rw [HK.out, ← e1, lins_len], B2, HT.out.own, fun l hl => keptNew r K2 (HT.out.new l (s2 l hl)), ?_⟩
        exact HT.out.bel.trans (K2.below (fun g e => HT.out.own g e) HT.out.bel.size))
      generalize o.length = m at HF hlo2 ⊢
      clear B2 K2 s2 h2 HZ
      go_wp2
      exact bodyPost_ret (v := .tuple #[.slice oa m oc, .bool true]) (by simp [results, Tryz.results45, go_sem]) rfl HF.out
end Go.Proofs.YtfkaagndlpcfdaaGreat

/-! slices.Grow and slices.Concat at linear sets; semi.One, semi.Union. -/
namespace Go.Proofs.YtfkaagndlpcfdaaGreat
open Go.ChangeShapes Go.WideShapes Go.ChangeAt Go.RowKit

/-- append of a row to a row. -/
theorem run_app2 (t ty : TypeId) (hu : Tryz.prog.underlying t = some (.slice 60)) (a : Option Addr) (c n : Nat) (xs : List Value) (w : World) (R : Row2 w a c n xs) (b : Option Addr) (d m : Nat) (ys : List Value) (R' : Row2 w b d m ys) (h1 : ∀ u ∈ ys, u.oneCell' = true) (hb : n + m ≤ 1000000000000) :
    ∃ v w', (Builtin.append_ #[t, t] ty #[.slice a n c, .slice b m d]).run Tryz.prog w = .ok v w' ∧ Appends2 a n m xs ys w v w' := by
  obtain ⟨h0, h⟩ := R'
  rcases h with ⟨rfl, rfl, rfl⟩ | ⟨g, sp, rfl, _, _, _, l⟩
  · obtain rfl : ys = [] := List.eq_nil_of_length_eq_zero (by omega)
    exact run_app2_nil t ty hu a c n xs w R
  · exact run_app2_at t ty hu a c n xs w R _ m d ys h0 (fun j u hj => by rw [Addr.add_lit, Nat.zero_add, l.cell, List.getElem?_append_left (List.getElem?_eq_some_iff.1 hj).1]; exact hj) h1 hb
set_option maxRecDepth 100000 in
theorem zeros_runS (w : World) (n : Nat) (h0 : 0 < n) (hn : n ≤ 100000000000) : ∃ cap w', (Builtin.append_ #[32, 3] 32 #[.slice none 0 0, .int .i64 n]).run Tryz.prog w = .ok (.slice (some ⟨w.heap.size, 0, none⟩) n cap) w' ∧
    Row2 w' (some ⟨w.heap.size, 0, none⟩) cap 0 [] ∧ Below w.heap.size w w' := by
  obtain ⟨i, hi, hz, hsz, hby⟩ := info_parts Tryz.infoLin
  have hr := Lib.run_append_nil_zeros (P := Tryz.prog) w 32 3 32 60 i _ .i64 .i64 Tryz.underlying32 Tryz.underlying3 hi hz n h0 (by omega) (by omega) (by rw [hby]; omega)
  have hg := grownCap_ge w n 0 60
  have hm := grownCap_le_maxLen w n 0 60 (by unfold maxLen; omega)
  unfold maxLen at hm
  generalize hA : Builtin.zeroCells (Value.agg #[.slice none 0 0, .slice none 0 0]).cells n ++ Builtin.zeroCells (Value.agg #[.slice none 0 0, .slice none 0 0]).cells (grownCap w n 0 60 - n) = A at hr
  have hs : A.size = grownCap w n 0 60 * 2 := by
    rw [← hA, Array.size_append, size_zeroCells, size_zeroCells]
    have : (Value.agg #[.slice none 0 0, .slice none 0 0]).cells.size = 2 := rfl
    rw [this]
    omega
  generalize grownCap w n 0 60 = cap at hr hs hm
  exact ⟨cap, _, hr, ⟨rfl, .inr ⟨w.heap.size, A.toList, rfl, by simp [hs], Nat.zero_le _, hm, lies_arr (heap_alloc_new w.drew _)⟩⟩, ((Below.refl w.heap.size w).drew).alloc (Nat.le_refl _) _⟩

/-- RoomS for more. -/
def RoomS (w : World) (e : Ending) (w' : World) : Prop := ∃ a c, e = .returned (.slice a 0 c) ∧ Row2 w' a c 0 [] ∧ From w.heap.size a ∧ Below w.heap.size w w'
set_option maxRecDepth 100000 in
theorem grow_anyS (n : Nat) (w : World) (hn : n ≤ 100000000000) :
    Calls Tryz.prog 61 #[.slice none 0 0, .int .i64 n] w (RoomS w) := by
  by_cases h0 : 0 < n
  · obtain ⟨cap, w1, hr, r1, b1⟩ := zeros_runS w n h0 hn
    have hle := r1.le
    have HF : Hid (RoomS w (.returned (.slice (some ⟨w.heap.size, 0, none⟩) 0 cap)) w1) := Lib.hid ⟨_, _, rfl, r1, fun g e => by injection e with e; injection e with e; omega, b1⟩
    have i1 : (0 : Int) < (n : Int) := by omega
    clear r1 b1
    go_enter Tryz.func61, Tryz.ntmps61
    go_wp2_with (at_builtin; refine Lib.wpList_append_run _ rfl _ _ _ _ rfl _ _ rfl rfl _ _ hr ?_)
    go_ret
    exact HF.out
  · obtain rfl : n = 0 := by omega
    have HF : Hid (RoomS w (.returned (.slice none 0 0)) w) := Lib.hid ⟨none, 0, rfl, Row2.nil _, From.none _, Below.refl _ _⟩
    go_enter Tryz.func61, Tryz.ntmps61
    go_wp2
    go_ret
    exact HF.out

/-- What a call that makes a slice of these very bags comes to. -/
def MakesLb (ps : List Lb) (w : World) (e : Ending) (w' : World) : Prop :=
  ∃ a c, e = .returned (.slice a ps.length c) ∧ Lbs w' a c ps ∧ From w.heap.size a ∧ Below w.heap.size w w'
set_option maxRecDepth 100000 in
set_option maxHeartbeats 4000000 in
theorem concat_anyS (gs : Nat) (pa qa : Option Addr) (pc qc m k : Nat) (ps qs : List Lb) (w : World) (S : Lies w gs 32 [.slice pa m pc, .slice qa k qc]) (P : Lbs w pa pc ps) (Q : Lbs w qa qc qs) (hm : ps.length = m) (hk : qs.length = k) (hs : m + k ≤ 100000000000) :
    Calls Tryz.prog 46 #[.slice (some ⟨gs, 0, none⟩) 2 2] w (MakesLb (ps ++ qs) w) := by
  have lP := P.row.le
  have lQ := Q.row.le
  rw [hm] at lP
  rw [hk] at lQ
  have HP := Lib.hid P
  have HQ := Lib.hid Q
  have HS := Lib.hid S
  have HM := Lib.hid hm
  have HK := Lib.hid hk
  have e0 : w.cell? ⟨gs, 0, none⟩ = some (.slice pa m pc) := S.cell 0
  have e1 : w.cell? ⟨gs, 1, none⟩ = some (.slice qa k qc) := S.cell 1
  have hN : (ps ++ qs).length = m + k := by rw [List.length_append, hm, hk]
  have HN := Lib.hid hN
  clear P Q S hm hk hN
  go_enter Tryz.func46, Tryz.ntmps46
  go_wp2
  go_loop [3, 11] (fun s i => ∃ (j t : Nat), i = .int .i64 j ∧ s = .int .i64 t ∧ ((j = 0 ∧ t = 0) ∨ (j = 1 ∧ t = m) ∨ (j = 2 ∧ t = m + k))) (fun _ i => 2 - (intOf i).toNat)
  case atStart => exact ⟨0, 0, rfl, rfl, .inl ⟨rfl, rfl⟩⟩
  case round =>
    obtain ⟨j, t, rfl, rfl, h⟩ := hrel
    rcases h with ⟨rfl, rfl⟩ | ⟨rfl, rfl⟩ | ⟨rfl, rfl⟩
    · have n1 : ¬ ((m : Int) < 0) := by omega
      go_wp2
      go_round
      case rel => exact ⟨1, m, by go_num, by go_num, .inr (.inl ⟨rfl, rfl⟩)⟩
      case measure => simp [intOf]
    · have n1 : ¬ ((t : Int) + (k : Int) < 0) := by omega
      go_wp2
      go_round
      case rel => exact ⟨2, t + k, by go_num, by go_num, .inr (.inr ⟨rfl, rfl⟩)⟩
      case measure => simp [intOf]
    · have Z := grow_anyS (m + k) w (by omega)
      have HZ := Lib.hid Z
      clear Z
      go_wp2_with (fail)
      refine HZ.out.mono ?_
      rintro e w1 ⟨a1, c1, rfl, r1, f1, b1⟩
      have HR1 := Lib.hid r1
      have HF1 := Lib.hid f1
      have HB1 := Lib.hid b1
      clear r1 f1 b1 HZ e0 e1
      go_wp2
      go_loopw [6, 27] (fun s i wr => ∃ (j t : Nat) (a : Option Addr) (c : Nat) (cur : List Lb), i = .int .i64 j ∧ s = .slice a t c ∧ Hid (cur.length = t) ∧ Hid (Row2 wr a c t (lflat cur)) ∧ Hid (From w.heap.size a) ∧ Hid (Below w.heap.size w wr) ∧ ((j = 0 ∧ t = 0 ∧ Hid (cur = [])) ∨ (j = 1 ∧ t = m ∧ Hid (cur = ps)) ∨ (j = 2 ∧ t = m + k ∧ Hid (cur = ps ++ qs)))) (fun _ i _ => 2 - (intOf i).toNat)
      case atStart => exact ⟨0, 0, a1, c1, [], rfl, rfl, Lib.hid rfl, HR1, HF1, HB1, .inl ⟨rfl, rfl, Lib.hid rfl⟩⟩
      case round =>
        obtain ⟨j, t, a, c, cur, rfl, rfl, HL, HR, HF, HB, h⟩ := hrel
        have lC := HR.out.le
        have e0 : wr.cell? ⟨gs, 0, none⟩ = some (.slice pa m pc) := (HS.out.below HB.out HS.out.lt).cell 0
        have e1 : wr.cell? ⟨gs, 1, none⟩ = some (.slice qa k qc) := (HS.out.below HB.out HS.out.lt).cell 1
        rcases h with ⟨rfl, rfl, HC⟩ | ⟨rfl, rfl, HC⟩ | ⟨rfl, rfl, HC⟩
        · obtain ⟨v2, w2, hr, A2⟩ := run_app2 32 32 Tryz.underlying32 a c 0 (lflat cur) wr HR.out pa pc m (lflat ps) (by have := (HP.out.below HB.out).row; rwa [HM.out] at this) (lflat_one ps) (by omega)
          obtain ⟨bb, ff⟩ := A2.below (B := w.heap.size) HB.out.size HF.out
          obtain ⟨a2, c2, rfl, r2, _, _⟩ := A2
          have HF2 := Lib.hid (ff _ _ _ rfl)
          have HB2 := Lib.hid (HB.out.trans bb)
          have HR2 : Hid (Row2 w2 a2 c2 m (lflat ps)) := Lib.hid (by rw [HC.out, Nat.zero_add] at r2; exact r2)
          rw [Nat.zero_add] at hr
          clear bb ff r2
          go_wp2_with (at_builtin; refine Lib.wpList_append_run _ rfl _ _ _ _ rfl _ _ rfl rfl _ _ hr ?_)
          go_roundw
          case rel => exact ⟨1, m, a2, c2, ps, by go_num, rfl, HM, HR2, HF2, HB2, .inr (.inl ⟨rfl, rfl, Lib.hid rfl⟩)⟩
          case measure => simp [intOf]
        · obtain ⟨v2, w2, hr, A2⟩ := run_app2 32 32 Tryz.underlying32 a c t (lflat cur) wr HR.out qa qc k (lflat qs) (by have := (HQ.out.below HB.out).row; rwa [HK.out] at this) (lflat_one qs) (by omega)
          obtain ⟨bb, ff⟩ := A2.below (B := w.heap.size) HB.out.size HF.out
          obtain ⟨a2, c2, rfl, r2, _, _⟩ := A2
          have HF2 := Lib.hid (ff _ _ _ rfl)
          have HB2 := Lib.hid (HB.out.trans bb)
          have HR2 : Hid (Row2 w2 a2 c2 (t + k) (lflat (ps ++ qs))) := Lib.hid (by rw [HC.out] at r2; rw [lflat_app]; exact r2)
          clear bb ff r2
          go_wp2_with (at_builtin; refine Lib.wpList_append_run _ rfl _ _ _ _ rfl _ _ rfl rfl _ _ hr ?_)
          go_roundw
          case rel => exact ⟨2, t + k, a2, c2, ps ++ qs, by go_num, rfl, HN, HR2, HF2, HB2, .inr (.inr ⟨rfl, rfl, Lib.hid rfl⟩)⟩
          case measure => simp [intOf]
        · have HE : Hid (MakesLb (ps ++ qs) w (.returned (.slice a (m + k) c)) wr) := Lib.hid ⟨a, c, by rw [HN.out], ⟨by rw [HN.out, ← HC.out]; exact HR.out, fun p hp => by
            rcases List.mem_append.1 hp with hp | hp
            · exact (HP.out.below HB.out).each p hp
            · exact (HQ.out.below HB.out).each p hp⟩, HF.out, HB.out⟩
          go_wp2
          go_ret
          exact HE.out

theorem one_any (w : World) : Calls Tryz.prog 31 #[] w (fun e w' => ∃ a c, e = .returned (.slice a 1 c) ∧ AccSt w a c 1 [⟨none, 0, none, 0, ⟨[], []⟩⟩] w') := by
  have HF : Hid (AccSt w (some ⟨w.heap.size, 0, none⟩) 1 1 [⟨none, 0, none, 0, ⟨[], []⟩⟩] (w.alloc (.cells #[.slice none 0 0, .slice none 0 0] 60))) := Lib.hid ⟨below_alloc _ _, ⟨row2_new (V := w) ⟨none, 0, none, 0, ⟨[], []⟩⟩ 0 0 rfl rfl, fun l h => by
    obtain rfl := List.mem_singleton.1 h
    exact ⟨Bag.nil _, Bags.nil _⟩⟩, rfl, fun g e => by injection e with e; injection e with e; omega, fun l h => by
    obtain rfl := List.mem_singleton.1 h
    exact ⟨From.none _, From.none _, [], rfl, Bgs.nil _, fun p h => by simp at h⟩⟩
  go_enter Tryz.func31, Tryz.ntmps31
  go_wp2
  go_ret
  exact ⟨_, _, rfl, HF.out⟩
/-- A row of linear sets in new memory. -/
def MakesS1 (s : List Lin) (w : World) (e : Ending) (w' : World) : Prop :=
  ∃ a c ls, lins ls = s ∧ e = .returned (.slice a s.length c) ∧ AccSt w a c s.length ls w'
theorem MakesSF.acc {s : List Lin} {ok : Bool} {w w' : World} {e : Ending} (h : MakesSF s ok w e w') : ∃ a c ls, lins ls = s ∧ e = .returned (.tuple #[.slice a s.length c, .bool ok]) ∧ AccSt w a c s.length ls w' := by
  obtain ⟨a, c, ls, h1, h2, h3, h4, h5, h6⟩ := h
  exact ⟨a, c, ls, h1, h2, h6, h3, by rw [← h1, lins_len], h4, h5⟩
theorem makesS1_none {s : List Lin} {w w' : World} (h1 : s = []) (b : Below w.heap.size w w') : MakesS1 s w (.returned (.slice none 0 0)) w' := by
  subst h1
  exact ⟨none, 0, [], rfl, rfl, b, Lbs.nil _, rfl, From.none _, fun l h => by simp at h⟩
set_option maxRecDepth 100000 in
set_option maxHeartbeats 2000000 in
theorem union14 (a b : Option Addr) (c d : Nat) (s t : List Lin) (w : World) (R : Lins w a c s) (S : Lins w b d t) (hs : s.length + t.length ≤ 100000000000) (hp : ∀ k, (linAt (s ++ t) k).ps.length ≤ 100000000000) :
    Calls Tryz.prog 33 #[.slice a s.length c, .slice b t.length d] w (MakesS1 (unionS s t) w) := by
  have hle := R.le
  have hle' := S.le
  have Z := right11 a c s w R
  generalize hn : s.length = n at hle hs Z ⊢
  generalize hm : t.length = m at hle' hs ⊢
  have HN := Lib.hid hn
  have HM := Lib.hid hm
  have HR := Lib.hid R
  have HS := Lib.hid S
  have HPS := Lib.hid hp
  generalize hv : rightS s = v at Z
  have HV := Lib.hid hv
  have HZ := Lib.hid Z
  clear R S hn hm Z hv hp
  go_enter Tryz.func33, Tryz.ntmps33
  go_wp2_with (fail)
  refine HZ.out.mono ?_
  rintro e w1 ⟨rfl, b1⟩
  have HB1 := Lib.hid b1
  clear b1 HZ
  cases v with
  | false =>
    have HF : Hid (MakesS1 (unionS s t) w (.returned (.slice none 0 0)) w1) := Lib.hid (makesS1_none (by unfold unionS; rw [HV.out]; rfl) HB1.out)
    go_wp2
    go_ret
    exact HF.out
  | true =>
    have Z := right11 b d t w1 (HS.out.below HB1.out)
    rw [HM.out] at Z
    generalize hv : rightS t = v at Z
    have HV2 := Lib.hid hv
    have HZ := Lib.hid Z
    clear Z hv
    go_wp2_with (fail)
    refine HZ.out.mono ?_
    rintro e w2 ⟨rfl, b2⟩
    have HB2 := Lib.hid (HB1.out.trans (b2.mono HB1.out.size))
    clear b2 HZ HB1
    cases v with
    | false =>
      have HF : Hid (MakesS1 (unionS s t) w (.returned (.slice none 0 0)) w2) := Lib.hid (makesS1_none (by unfold unionS; rw [HV.out, HV2.out]; rfl) HB2.out)
      go_wp2
      go_ret
      exact HF.out
    | true =>
      have HU : Hid (unionS s t = ofS (s ++ t) ∧ ofSOk (s ++ t) = true) := Lib.hid (by
        have g : GoodS (s ++ t) := good_app (rightS_iff.1 HV.out).1 (rightS_iff.1 HV2.out).1
        refine ⟨?_, ofSOk_iff.2 g⟩
        rw [of_yesS g]; unfold unionS; rw [HV.out, HV2.out]; rfl)
      have bx := below_alloc w2 (.cells #[.slice a n c, .slice b m d] 32)
      obtain ⟨ps, hps, P⟩ := HR.out.below HB2.out
      obtain ⟨qs, hqs, Q⟩ := HS.out.below HB2.out
      have Z := concat_anyS w2.heap.size a b c d n m ps qs _ (Lies.new w2 32 [.slice a n c, .slice b m d]) (P.below bx) (Q.below bx) (by rw [← lins_len, hps, HN.out]) (by rw [← lins_len, hqs, HM.out]) hs
      have HBX := Lib.hid (HB2.out.trans (bx.mono HB2.out.size))
      have HPQ : Hid (lins (ps ++ qs) = s ++ t) := Lib.hid (by rw [← hps, ← hqs]; simp [lins])
      have HZ := Lib.hid Z
      clear Z P Q hps hqs bx
      go_wp2_with (fail)
      generalize w2.alloc (.cells #[.slice a n c, .slice b m d] 32) = W at HBX HZ ⊢
      refine HZ.out.mono ?_
      rintro e w3 ⟨a3, c3, rfl, B3, _, b3⟩
      have HB3 := Lib.hid (HBX.out.trans (b3.mono HBX.out.size))
      have hl3 := B3.row.le
      have hl : (ps ++ qs).length = n + m := by rw [← lins_len, HPQ.out, List.length_append, HN.out, HM.out]
      have Z := of_semi a3 c3 (s ++ t) w3 ⟨ps ++ qs, HPQ.out, B3⟩ (by rw [List.length_append, HN.out, HM.out]; exact hs) HPS.out
      rw [List.length_append, HN.out, HM.out] at Z
      rw [hl] at hl3 ⊢
      have HZ2 := Lib.hid Z
      clear Z B3 b3 hl HZ
      go_wp2_with (fail)
      refine HZ2.out.mono ?_
      rintro e w4 h4
      obtain ⟨a4, c4, ls, h5, rfl, A4⟩ := h4.acc
      have hl4 := A4.row.row.le
      rw [A4.num] at hl4
      have HF : Hid (MakesS1 (unionS s t) w (.returned (.slice a4 (ofS (s ++ t)).length c4)) w4) := Lib.hid (by
        rw [HU.out.1]
        exact ⟨a4, c4, ls, h5, rfl, HB3.out.trans (A4.bel.mono HB3.out.size), A4.row, A4.num, A4.own.mono HB3.out.size, fun l hl => (A4.new l hl).mono HB3.out.size⟩)
      generalize (ofS (s ++ t)).length = q at HF hl4 ⊢
      clear A4 h4 h5
      go_wp2
      go_ret
      exact HF.out
end Go.Proofs.YtfkaagndlpcfdaaGreat

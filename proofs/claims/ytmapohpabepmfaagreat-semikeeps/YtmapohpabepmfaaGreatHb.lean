/- Linear sets that are written over; two copies that are made in any order: the memory of the law LinKeeps. -/
import Derived.Test.YtmapohpabepmfaaGreatHa
namespace Go.Proofs.YtmapohpabepmfaaGreat
open Go.ChangeShapes Go.WideShapes Go.ChangeAt Go.RowKit

/-- A slice of n numbers, whatever they are. -/
def Nums (W : World) (a : Option Addr) (n : Nat) : Prop := (a = none ∧ n = 0) ∨ ∃ g cs, a = some ⟨g, 0, none⟩ ∧ Lies W g 3 cs ∧ ∀ i, i < n → ∃ z : Int, cs[i]? = some (.int .i64 z)
theorem Bag.nums {W : World} {a : Option Addr} {c : Nat} {xs : List Int} (h : Bag W a c xs) : Nums W a xs.length := by
  rcases h with ⟨rfl, _, e⟩ | ⟨g, sp, rfl, _, _, l⟩
  · obtain rfl : xs = [] := List.map_eq_nil_iff.1 e
    exact .inl ⟨rfl, rfl⟩
  · refine .inr ⟨g, _, rfl, l, fun i hi => ⟨xs.getD i 0, ?_⟩⟩
    have h1 : i < (ints xs).length := by rw [ints_len]; exact hi
    rw [List.getElem?_append_left h1]
    simp [ints, hi, List.getD]
theorem Nums.below {W W' : World} {a : Option Addr} {n : Nat} (h : Nums W a n) (b : Below W.heap.size W W') : Nums W' a n := by
  rcases h with h | ⟨g, cs, e, l, k⟩
  · exact .inl h
  · exact .inr ⟨g, cs, e, l.below b l.lt, k⟩
theorem Nums.at {W : World} {a : Option Addr} {n i : Nat} (h : Nums W a n) (hi : i < n) : ∃ (g : Nat) (z : Int) (cs : List Value), a = some ⟨g, 0, none⟩ ∧ W.cell? ⟨g, i, none⟩ = some (.int .i64 z) ∧ W.frozen? ⟨g, i, none⟩ = false ∧ Lies W g 3 cs := by
  rcases h with ⟨_, h⟩ | ⟨g, cs, e, l, k⟩
  · omega
  · obtain ⟨z, hz⟩ := k i hi
    exact ⟨g, z, cs, e, (l.cell i).trans hz, l.frozen i, l⟩
theorem Nums.set {W : World} {a : Option Addr} {n : Nat} (h : Nums W a n) {g j : Nat} {cs : List Value} (l : Lies W g 3 cs) (z : Int) : Nums (W.setCell ⟨g, j, none⟩ (.int .i64 z)) a n := by
  rcases h with h | ⟨g', cs', e, l', k⟩
  · exact .inl h
  · by_cases hg : g' = g
    · subst hg
      refine .inr ⟨g', _, e, l'.set j _, fun i hi => ?_⟩
      obtain ⟨z', hz⟩ := k i hi
      have hlt : i < cs'.length := (List.getElem?_eq_some_iff.1 hz).1
      by_cases hj : j = i
      · subst hj
        exact ⟨z, by simp [hlt]⟩
      · exact ⟨z', by rw [List.getElem?_set_ne hj]; exact hz⟩
    · exact .inr ⟨g', cs', e, l'.far hg _, k⟩
theorem Row.setNum {W : World} {a : Option Addr} {c : Nat} {vs : List Value} (h : Row W 57 a c vs) {g j : Nat} {cs : List Value} (l : Lies W g 3 cs) (u : Value) : Row (W.setCell ⟨g, j, none⟩ u) 57 a c vs := by
  refine h.kept (kept_set W g j u) fun g' e e2 => ?_
  subst e2
  rcases h with ⟨h, _⟩ | ⟨g1, sp, h, _, _, l1⟩
  · rw [h] at e; cases e
  · rw [h] at e; injection e with e; injection e with e; subst e
    exact l1.other l (by decide) rfl
theorem Lies.setNum {W : World} {g' : Nat} {cs' : List Value} (h : Lies W g' 60 cs') {g j : Nat} {cs : List Value} (l : Lies W g 3 cs) (u : Value) : Lies (W.setCell ⟨g, j, none⟩ u) g' 60 cs' :=
  h.far (p := ⟨g, j, none⟩) (h.other l (by decide)) u

/-- The value of a linear set, with the bags of its row. -/
structure Lv where
  a : Option Addr
  c : Nat
  n : Nat
  pa : Option Addr
  pc : Nat
  m : Nat
  ps : List Bg
/-- It lies there, in memory from B on. -/
structure Lv.In (e : Lv) (B : Nat) (W : World) : Prop where
  base : Nums W e.a e.n
  oa : From B e.a
  row : Row W 57 e.pa e.pc (vals e.ps)
  num : e.ps.length = e.m
  each : ∀ p ∈ e.ps, Nums W p.a p.xs.length ∧ From B p.a
  big : e.n ≤ 9223372036854775807 ∧ ∀ p ∈ e.ps, p.xs.length ≤ 9223372036854775807
theorem Lv.In.below {e : Lv} {B : Nat} {W W' : World} (h : e.In B W) (b : Below W.heap.size W W') : e.In B W' :=
  ⟨h.base.below b, h.oa, h.row.below b, h.num, fun p hp => ⟨(h.each p hp).1.below b, (h.each p hp).2⟩, h.big⟩
theorem Lv.In.set {e : Lv} {B : Nat} {W : World} (h : e.In B W) {g j : Nat} {cs : List Value} (l : Lies W g 3 cs) (z : Int) : e.In B (W.setCell ⟨g, j, none⟩ (.int .i64 z)) :=
  ⟨h.base.set l z, h.oa, h.row.setNum l _, h.num, fun p hp => ⟨(h.each p hp).1.set l z, (h.each p hp).2⟩, h.big⟩
theorem Lv.In.made {x : Lin} {w w' : World} {B : Nat} {a pa : Option Addr} {c pc n m : Nat} {ps : List Bg} (hw : words ps = x.ps) (hb : Bag w' a c x.base) (hp : Bgs w' pa pc ps) (f : From w.heap.size a) (fe : ∀ p ∈ ps, From w.heap.size p.a) (hB : B ≤ w.heap.size) (hn : x.base.length = n) (hm : x.ps.length = m) :
    Lv.In ⟨a, c, n, pa, pc, m, ps⟩ B w' :=
  ⟨by rw [← hn]; exact hb.nums, f.mono hB, hp.row, by rw [← hm, ← hw, words_len], fun p hq => ⟨(hp.each p hq).nums, (fe p hq).mono hB⟩, by have := hb.le; show n ≤ _; omega, fun p hq => by have := (hp.each p hq).le; omega⟩
/-- Two linear sets that are written over, and the slice of them; nothing that was there in W3 has turned. -/
structure Kp (W3 W : World) (gs : Nat) (e f : Lv) : Prop where
  bel : Below W3.heap.size W3 W
  sl : Lies W gs 60 [.slice e.a e.n e.c, .slice e.pa e.m e.pc, .slice f.a f.n f.c, .slice f.pa f.m f.pc]
  ie : e.In W3.heap.size W
  fe : f.In W3.heap.size W
theorem Kp.below {W3 W W' : World} {gs : Nat} {e f : Lv} (h : Kp W3 W gs e f) (b : Below W.heap.size W W') : Kp W3 W' gs e f :=
  ⟨h.bel.trans (b.mono h.bel.size), h.sl.below b h.sl.lt, h.ie.below b, h.fe.below b⟩
theorem Kp.set {W3 W : World} {gs : Nat} {e f : Lv} (h : Kp W3 W gs e f) {g j : Nat} {cs : List Value} (l : Lies W g 3 cs) (hg : W3.heap.size ≤ g) (z : Int) : Kp W3 (W.setCell ⟨g, j, none⟩ (.int .i64 z)) gs e f :=
  ⟨h.bel.setCell hg _, h.sl.setNum l _, h.ie.set l z, h.fe.set l z⟩
/-- One of the two, in a box of its own. -/
structure Kb (W3 W : World) (gs : Nat) (e f : Lv) (gb : Nat) (d : Lv) : Prop where
  kp : Kp W3 W gs e f
  box : Lies W gb 60 [.slice d.a d.n d.c, .slice d.pa d.m d.pc]
  one : d = e ∨ d = f
theorem Kb.mine {W3 W : World} {gs gb : Nat} {e f d : Lv} (h : Kb W3 W gs e f gb d) : d.In W3.heap.size W := by
  rcases h.one with rfl | rfl
  · exact h.kp.ie
  · exact h.kp.fe
theorem Kb.set {W3 W : World} {gs gb : Nat} {e f d : Lv} (h : Kb W3 W gs e f gb d) {g j : Nat} {cs : List Value} (l : Lies W g 3 cs) (hg : W3.heap.size ≤ g) (z : Int) : Kb W3 (W.setCell ⟨g, j, none⟩ (.int .i64 z)) gs e f gb d :=
  ⟨h.kp.set l hg z, h.box.setNum l _, h.one⟩
theorem Kp.box {W3 W : World} {gs : Nat} {e f : Lv} (h : Kp W3 W gs e f) (d : Lv) (hd : d = e ∨ d = f) : Kb W3 (W.alloc (.cells #[.slice d.a d.n d.c, .slice d.pa d.m d.pc] 60)) gs e f W.heap.size d :=
  ⟨h.below (below_alloc _ _), Lies.new W _ _, hd⟩
theorem Kb.baseAt {W3 W : World} {gs gb : Nat} {e f d : Lv} (h : Kb W3 W gs e f gb d) {j : Nat} (hj : j < d.n) : ∃ g z, d.a = some ⟨g, 0, none⟩ ∧ W.cell? ⟨g, j, none⟩ = some (.int .i64 z) ∧ W.frozen? ⟨g, j, none⟩ = false ∧ ∀ z, Kb W3 (W.setCell ⟨g, j, none⟩ (.int .i64 z)) gs e f gb d := by
  obtain ⟨g, z, cs, ea, h1, h2, l⟩ := h.mine.base.at hj
  exact ⟨g, z, ea, h1, h2, fun z => h.set l (h.mine.oa g ea) z⟩
theorem Kb.rowAt {W3 W : World} {gs gb : Nat} {e f d : Lv} (h : Kb W3 W gs e f gb d) {i : Nat} (hi : i < d.m) : ∃ g a n c, d.pa = some ⟨g, 0, none⟩ ∧ W.cell? ⟨g, i, none⟩ = some (.slice a n c) ∧ n ≤ 9223372036854775807 ∧
    ∀ V, Kb W3 V gs e f gb d → ∀ j, j < n → ∃ g z, a = some ⟨g, 0, none⟩ ∧ V.cell? ⟨g, j, none⟩ = some (.int .i64 z) ∧ V.frozen? ⟨g, j, none⟩ = false ∧ ∀ z, Kb W3 (V.setCell ⟨g, j, none⟩ (.int .i64 z)) gs e f gb d := by
  have hi' : i < d.ps.length := by rw [h.mine.num]; exact hi
  obtain ⟨g, e1, e2⟩ := h.mine.row.there (i := i) (by rw [vals_len]; exact hi')
  have ev : (vals d.ps)[i]'(by rw [vals_len]; exact hi') = (d.ps[i]).val := by simp [vals]
  rw [ev] at e2
  have hm : d.ps[i] ∈ d.ps := List.getElem_mem hi'
  refine ⟨g, _, _, _, e1, e2, h.mine.big.2 _ hm, fun V hV j hj => ?_⟩
  obtain ⟨g', z, cs, ea, h1, h2, l⟩ := (hV.mine.each _ hm).1.at hj
  exact ⟨g', z, ea, h1, h2, fun z => hV.set l ((hV.mine.each _ hm).2 g' ea) z⟩
theorem Kb.lens {W3 W : World} {gs gb : Nat} {e f d : Lv} (h : Kb W3 W gs e f gb d) : d.m ≤ 9223372036854775807 ∧ d.n ≤ 9223372036854775807 := by
  have := h.mine.row.le
  rw [vals_len, h.mine.num] at this
  exact ⟨by omega, h.mine.big.1⟩

/-- Two copies, and the blocks of their boxes, each made or not yet. -/
structure CpSt (W0 W : World) (x y : Lin) (u v : Option (Option Addr × Nat × Option Addr × Nat)) (g7 g8 : Option Nat) : Prop where
  bel : Below W0.heap.size W0 W
  u : ∀ a c pa pc, u = some (a, c, pa, pc) → Bag W a c x.base ∧ Bags W pa pc x.ps
  v : ∀ a c pa pc, v = some (a, c, pa, pc) → Bag W a c y.base ∧ Bags W pa pc y.ps
  l7 : ∀ g, g7 = some g → Lies W g 60 [.slice none 0 0, .slice none 0 0] ∧ W0.heap.size ≤ g
  l8 : ∀ g, g8 = some g → Lies W g 60 [.slice none 0 0, .slice none 0 0] ∧ W0.heap.size ≤ g
  ne : ∀ g h, g7 = some g → g8 = some h → g ≠ h
section
variable {W0 W W' : World} {x y : Lin} {u v : Option (Option Addr × Nat × Option Addr × Nat)} {g7 g8 : Option Nat}
theorem CpSt.start (b : Below W0.heap.size W0 W) : CpSt W0 W x y none none none none := ⟨b, (fun _ _ _ _ e => nomatch e), (fun _ _ _ _ e => nomatch e), (fun _ e => nomatch e), (fun _ e => nomatch e), (fun _ _ e => nomatch e)⟩
theorem CpSt.below (h : CpSt W0 W x y u v g7 g8) (b : Below W.heap.size W W') : CpSt W0 W' x y u v g7 g8 :=
  ⟨h.bel.trans (b.mono h.bel.size), fun a c pa pc e => ⟨(h.u a c pa pc e).1.below b, (h.u a c pa pc e).2.below b⟩, fun a c pa pc e => ⟨(h.v a c pa pc e).1.below b, (h.v a c pa pc e).2.below b⟩,
    fun g e => ⟨(h.l7 g e).1.below b (h.l7 g e).1.lt, (h.l7 g e).2⟩, fun g e => ⟨(h.l8 g e).1.below b (h.l8 g e).1.lt, (h.l8 g e).2⟩, h.ne⟩
theorem CpSt.gotU (h : CpSt W0 W x y none v g7 g8) {a pa : Option Addr} {c pc : Nat} (b : Below W.heap.size W W') (r : Bag W' a c x.base) (t : Bags W' pa pc x.ps) : CpSt W0 W' x y (some (a, c, pa, pc)) v g7 g8 := by
  have k := h.below b
  refine ⟨k.bel, fun a' c' pa' pc' e => ?_, k.v, k.l7, k.l8, k.ne⟩
  injection e with e; injection e with e1 e2; injection e2 with e2 e3; injection e3 with e3 e4
  subst e1; subst e2; subst e3; subst e4
  exact ⟨r, t⟩
theorem CpSt.gotV (h : CpSt W0 W x y u none g7 g8) {a pa : Option Addr} {c pc : Nat} (b : Below W.heap.size W W') (r : Bag W' a c y.base) (t : Bags W' pa pc y.ps) : CpSt W0 W' x y u (some (a, c, pa, pc)) g7 g8 := by
  have k := h.below b
  refine ⟨k.bel, k.u, fun a' c' pa' pc' e => ?_, k.l7, k.l8, k.ne⟩
  injection e with e; injection e with e1 e2; injection e2 with e2 e3; injection e3 with e3 e4
  subst e1; subst e2; subst e3; subst e4
  exact ⟨r, t⟩
theorem CpSt.alloc7 (h : CpSt W0 W x y u v none g8) : CpSt W0 (W.alloc (.cells #[.slice none 0 0, .slice none 0 0] 60)) x y u v (some W.heap.size) g8 := by
  have k := h.below (below_alloc W (.cells #[.slice none 0 0, .slice none 0 0] 60))
  refine ⟨k.bel, k.u, k.v, fun g e => ?_, k.l8, fun g g' e1 e2 => ?_⟩
  · injection e with e; subst e; exact ⟨Lies.new W _ _, h.bel.size⟩
  · injection e1 with e1; subst e1
    have := (h.l8 g' e2).1.lt
    omega
theorem CpSt.alloc8 (h : CpSt W0 W x y u v g7 none) : CpSt W0 (W.alloc (.cells #[.slice none 0 0, .slice none 0 0] 60)) x y u v g7 (some W.heap.size) := by
  have k := h.below (below_alloc W (.cells #[.slice none 0 0, .slice none 0 0] 60))
  refine ⟨k.bel, k.u, k.v, k.l7, fun g e => ?_, fun g g' e1 e2 => ?_⟩
  · injection e with e; subst e; exact ⟨Lies.new W _ _, h.bel.size⟩
  · injection e2 with e2; subst e2
    have := (h.l7 g e1).1.lt
    omega
end
theorem CpSt.stored {W0 W : World} {x y : Lin} {a pa a' pa' : Option Addr} {c n pc m c' n' pc' m' g g' : Nat} (h : CpSt W0 W x y (some (a, c, pa, pc)) (some (a', c', pa', pc')) (some g) (some g')) (hn : x.base.length = n) (hm : x.ps.length = m) (hn' : y.base.length = n') (hm' : y.ps.length = m') :
    (W.cell? ⟨g, 0, none⟩ = some (.slice none 0 0) ∧ W.cell? ⟨g, 1, none⟩ = some (.slice none 0 0) ∧ W.frozen? ⟨g, 0, none⟩ = false ∧ W.frozen? ⟨g, 1, none⟩ = false) ∧
    ∃ W1, W1 = (W.setCell ⟨g, 0, none⟩ (.slice a n c)).setCell ⟨g, 1, none⟩ (.slice pa m pc) ∧ Below W0.heap.size W0 W1 ∧
    (W1.cell? ⟨g', 0, none⟩ = some (.slice none 0 0) ∧ W1.cell? ⟨g', 1, none⟩ = some (.slice none 0 0) ∧ W1.frozen? ⟨g', 0, none⟩ = false ∧ W1.frozen? ⟨g', 1, none⟩ = false) ∧
    ∃ W2, W2 = (W1.setCell ⟨g', 0, none⟩ (.slice a' n' c')).setCell ⟨g', 1, none⟩ (.slice pa' m' pc') ∧ Below W0.heap.size W0 W2 ∧
    Bx.In ⟨g, a, c, n, pa, pc, m, x⟩ W2 ∧ Bx.In ⟨g', a', c', n', pa', pc', m', y⟩ W2 := by
  obtain ⟨l7, b7⟩ := h.l7 g rfl
  obtain ⟨l8, b8⟩ := h.l8 g' rfl
  have hne := h.ne g g' rfl rfl
  obtain ⟨u1, u2⟩ := h.u _ _ _ _ rfl
  obtain ⟨v1, v2⟩ := h.v _ _ _ _ rfl
  have s0 : Lies (W.setCell ⟨g, 0, none⟩ (.slice a n c)) g 60 [.slice a n c, .slice none 0 0] := l7.set 0 _
  have s1 : Lies ((W.setCell ⟨g, 0, none⟩ (.slice a n c)).setCell ⟨g, 1, none⟩ (.slice pa m pc)) g 60 [.slice a n c, .slice pa m pc] := s0.set 1 _
  have k0 := kept_set W g 0 (.slice a n c)
  have k1 := kept_set (W.setCell ⟨g, 0, none⟩ (.slice a n c)) g 1 (.slice pa m pc)
  have B1 : Below W0.heap.size W0 ((W.setCell ⟨g, 0, none⟩ (.slice a n c)).setCell ⟨g, 1, none⟩ (.slice pa m pc)) := (h.bel.setCell b7 _).setCell b7 _
  have t1 : Lies ((W.setCell ⟨g, 0, none⟩ (.slice a n c)).setCell ⟨g, 1, none⟩ (.slice pa m pc)) g' 60 [.slice none 0 0, .slice none 0 0] := (l8.far (p := ⟨g, 0, none⟩) (fun e => hne e.symm) _).far (p := ⟨g, 1, none⟩) (fun e => hne e.symm) _
  have u1' := (u1.far l7 k0).far s0 k1
  have u2' := (u2.far l7 k0).far s0 k1
  have v1' := (v1.far l7 k0).far s0 k1
  have v2' := (v2.far l7 k0).far s0 k1
  refine ⟨⟨l7.cell 0, l7.cell 1, l7.frozen 0, l7.frozen 1⟩, _, rfl, B1, ?_⟩
  clear u1 u2 v1 v2 s0 k0 k1 l7 l8
  generalize (W.setCell ⟨g, 0, none⟩ (.slice a n c)).setCell ⟨g, 1, none⟩ (.slice pa m pc) = W1 at B1 s1 t1 u1' u2' v1' v2'
  have q0 : Lies (W1.setCell ⟨g', 0, none⟩ (.slice a' n' c')) g' 60 [.slice a' n' c', .slice none 0 0] := t1.set 0 _
  have q1 : Lies ((W1.setCell ⟨g', 0, none⟩ (.slice a' n' c')).setCell ⟨g', 1, none⟩ (.slice pa' m' pc')) g' 60 [.slice a' n' c', .slice pa' m' pc'] := q0.set 1 _
  have k0 := kept_set W1 g' 0 (.slice a' n' c')
  have k1 := kept_set (W1.setCell ⟨g', 0, none⟩ (.slice a' n' c')) g' 1 (.slice pa' m' pc')
  exact ⟨⟨t1.cell 0, t1.cell 1, t1.frozen 0, t1.frozen 1⟩, _, rfl, (B1.setCell b8 _).setCell b8 _,
    ⟨(s1.far (p := ⟨g', 0, none⟩) hne _).far (p := ⟨g', 1, none⟩) hne _, (u1'.far t1 k0).far q0 k1, (u2'.far t1 k0).far q0 k1, hn, hm⟩,
    ⟨q1, (v1'.far t1 k0).far q0 k1, (v2'.far t1 k0).far q0 k1, hn', hm'⟩⟩

theorem cat_valF {e f : Bx} {W : World} (he : e.In W) (hf : f.In W) (hs : e.m + f.m ≤ 100000000000) : Calls Tryz.prog 50 #[e.val, f.val] W (MakesLinF (catLin e.x f.x) (catOk e.x f.x) W) := by
  have := cat11 e.a e.pa f.a f.pa e.c e.pc f.c f.pc e.x f.x W he.base he.ps hf.base hf.ps (by rw [he.num, hf.num]; exact hs)
  rw [he.len, he.num, hf.len, hf.num] at this
  exact this
theorem of_valF {e : Bx} {W : World} (he : e.In W) (hr : rightLin e.x = true) (hs : e.m ≤ 100000000000) : Calls Tryz.prog 54 #[.slice e.a e.n e.c, .slice e.pa e.m e.pc] W (MakesLinF e.x true W) := by
  have R := rightLin_iff.1 hr
  have := of9 e.a e.pa e.c e.pc e.x.base e.x.ps W he.base he.ps (by have := (right_iff.1 R.1).1; omega) (goods_short R.2.1) (by rw [he.num]; exact hs)
  rw [he.len, he.num, (of_self hr).1, (of_self hr).2] at this
  exact this
theorem copy_val {e : Bx} {W : World} (he : e.In W) (hr : rightLin e.x = true) (hs : e.m ≤ 100000000000) : Calls Tryz.prog 41 #[e.val] W (MakesLin1 e.x W) := by
  have R := rightLin_iff.1 hr
  have := copyLin_any e.a e.pa e.c e.pc e.x W he.base he.ps (by have := (right_iff.1 R.1).1; omega) (goods_short R.2.1) (by rw [he.num]; omega)
  rw [he.len, he.num] at this
  exact this
end Go.Proofs.YtmapohpabepmfaaGreat

import Derived.Test.YtmefmnpmppdpmabDoorEe
import Derived.Lib.AppendZeros
import Derived.Test.YtmefmnpmppdpmabDoorCd
import Derived.Test.YtmefmnpmppdpmabDoorG
import Derived.Test.YtmefmnpmppdpmabDoorDe
import Derived.Deep.RegionLaw
/- lin.Cat. -/

/-! slices.Grow and slices.Concat at few bags. -/
namespace Go.Proofs.YtmefmnpmppdpmabDoor
open Go.ChangeShapes Go.WideShapes Go.ChangeAt Go.RowKit

end Go.Proofs.YtmefmnpmppdpmabDoor

/-! lin.Cat. -/
namespace Go.Proofs.YtmefmnpmppdpmabDoor
open Go.ChangeShapes Go.WideShapes Go.ChangeAt Go.RowKit

set_option maxRecDepth 100000 in
theorem add_right {a b : List Int} (h : addOk a b = true) : rightL (addT a b) = true := by
  simp only [addOk, Bool.and_eq_true] at h
  obtain ⟨⟨ha, hb⟩, hf⟩ := h
  have la := (right_iff.1 ha).1
  have lb := (right_iff.1 hb).1
  refine right_of (by rw [add_len]; omega) (fun j hj => ?_) (fun hp => ?_)
  · rw [add_len] at hj
    rw [add_at]
    have h1 := right_at ha j
    have h2 := right_at hb j
    have h3 := addFit_iff.1 hf j hj
    omega
  · rw [add_len] at hp ⊢
    rw [add_at]
    have h1 := right_at ha (max a.length b.length - 1)
    have h2 := right_at hb (max a.length b.length - 1)
    by_cases hab : b.length ≤ a.length
    · have e : max a.length b.length = a.length := by omega
      have h3 := right_last ha (by omega)
      rw [e] at h1 h2 ⊢
      omega
    · have e : max a.length b.length = b.length := by omega
      have h3 := right_last hb (by omega)
      rw [e] at h1 h2 ⊢
      omega
/-- Two linear sets in boxes gb, gb + 1, and an empty one behind them. -/
structure CatSt (w : World) (gb : Nat) (a pa a' pa' : Option Addr) (c n pc m c' n' pc' m' : Nat) (x y : Lin) (ps qs : List Bg) (W : World) : Prop where
  bel : Below w.heap.size w W
  lx : Lies W gb 28 [.slice a n c, .slice pa m pc]
  ly : Lies W (gb + 1) 28 [.slice a' n' c', .slice pa' m' pc']
  lz : Lies W (gb + 1 + 1) 28 [.slice none 0 0, .slice none 0 0]
  bx : Bag W a c x.base
  px : Bgs W pa pc ps
  bY : Bag W a' c' y.base
  py : Bgs W pa' pc' qs
  hg : w.heap.size = gb
section
variable {w W W' : World} {gb : Nat} {a pa a' pa' : Option Addr} {c n pc m c' n' pc' m' : Nat} {x y : Lin} {ps qs : List Bg}
set_option maxRecDepth 100000 in
theorem CatSt.below (h : CatSt w gb a pa a' pa' c n pc m c' n' pc' m' x y ps qs W) (k : Below W.heap.size W W') : CatSt w gb a pa a' pa' c n pc m c' n' pc' m' x y ps qs W' :=
  ⟨h.bel.trans (k.mono h.bel.size), h.lx.below k h.lx.lt, h.ly.below k h.ly.lt, h.lz.below k h.lz.lt, h.bx.below k, h.px.below k, h.bY.below k, h.py.below k, h.hg⟩
set_option maxRecDepth 100000 in
theorem CatSt.x0 (h : CatSt w gb a pa a' pa' c n pc m c' n' pc' m' x y ps qs W) : W.cell? ⟨gb, 0, none⟩ = some (.slice a n c) := h.lx.cell 0
set_option maxRecDepth 100000 in
theorem CatSt.x1 (h : CatSt w gb a pa a' pa' c n pc m c' n' pc' m' x y ps qs W) : W.cell? ⟨gb, 1, none⟩ = some (.slice pa m pc) := h.lx.cell 1
set_option maxRecDepth 100000 in
theorem CatSt.y0 (h : CatSt w gb a pa a' pa' c n pc m c' n' pc' m' x y ps qs W) : W.cell? ⟨gb + 1, 0, none⟩ = some (.slice a' n' c') := h.ly.cell 0
set_option maxRecDepth 100000 in
theorem CatSt.y1 (h : CatSt w gb a pa a' pa' c n pc m c' n' pc' m' x y ps qs W) : W.cell? ⟨gb + 1, 1, none⟩ = some (.slice pa' m' pc') := h.ly.cell 1
set_option maxRecDepth 100000 in
theorem CatSt.z0 (h : CatSt w gb a pa a' pa' c n pc m c' n' pc' m' x y ps qs W) : W.cell? ⟨gb + 1 + 1, 0, none⟩ = some (.slice none 0 0) := h.lz.cell 0
set_option maxRecDepth 100000 in
theorem CatSt.z1 (h : CatSt w gb a pa a' pa' c n pc m c' n' pc' m' x y ps qs W) : W.cell? ⟨gb + 1 + 1, 1, none⟩ = some (.slice none 0 0) := h.lz.cell 1
end
end Go.Proofs.YtmefmnpmppdpmabDoor
/- lin.Cat and lin.Of of linear sets in boxes; the plain facts of the law LinCat. -/

/-! Linear sets in boxes: what the laws of chapter 6 hold. -/
namespace Go.Proofs.YtmefmnpmppdpmabDoor
open Go.ChangeShapes Go.WideShapes Go.ChangeAt Go.RowKit

/-- A linear set in a box: the box's block, its two slices, what it says. -/
structure Bx where
  g : Nat
  a : Option Addr
  c : Nat
  n : Nat
  pa : Option Addr
  pc : Nat
  m : Nat
  x : Lin
/-- It lies there. -/
structure Bx.In (e : Bx) (W : World) : Prop where
  l : Lies W e.g 28 [.slice e.a e.n e.c, .slice e.pa e.m e.pc]
  base : Bag W e.a e.c e.x.base
  ps : Bags W e.pa e.pc e.x.ps
  len : e.x.base.length = e.n
  num : e.x.ps.length = e.m
set_option maxRecDepth 100000 in
theorem Bx.In.below {e : Bx} {W W' : World} (h : e.In W) (b : Below W.heap.size W W') : e.In W' := ⟨h.l.below b h.l.lt, h.base.below b, h.ps.below b, h.len, h.num⟩
set_option maxRecDepth 100000 in
theorem Bx.In.c0 {e : Bx} {W : World} (h : e.In W) : W.cell? ⟨e.g, 0, none⟩ = some (.slice e.a e.n e.c) := h.l.cell 0
set_option maxRecDepth 100000 in
theorem Bx.In.c1 {e : Bx} {W : World} (h : e.In W) : W.cell? ⟨e.g, 1, none⟩ = some (.slice e.pa e.m e.pc) := h.l.cell 1
def Bx.val (e : Bx) : Value := .agg #[.slice e.a e.n e.c, .slice e.pa e.m e.pc]
/-- All of them lie there, and nothing that was there has turned. -/
structure Sts (w : World) (L : List Bx) (W : World) : Prop where
  bel : Below w.heap.size w W
  all : ∀ e ∈ L, e.In W
set_option maxRecDepth 100000 in
theorem Sts.below {w W W' : World} {L : List Bx} (h : Sts w L W) (b : Below W.heap.size W W') : Sts w L W' := ⟨h.bel.trans (b.mono h.bel.size), fun e he => (h.all e he).below b⟩
set_option maxRecDepth 100000 in
theorem Bx.In.new {W : World} {a pa : Option Addr} {c pc n m : Nat} {x : Lin} (R : Bag W a c x.base) (P : Bags W pa pc x.ps) (hn : x.base.length = n) (hm : x.ps.length = m) :
    Bx.In ⟨W.heap.size, a, c, n, pa, pc, m, x⟩ (W.alloc (.cells #[.slice a n c, .slice pa m pc] 28)) :=
  ⟨Lies.new W _ _, R.below (below_alloc _ _), P.below (below_alloc _ _), hn, hm⟩
end Go.Proofs.YtmefmnpmppdpmabDoor

/-! lin.Cat and lin.Of of linear sets in boxes; the plain facts of the law LinCat. -/
namespace Go.Proofs.YtmefmnpmppdpmabDoor
open Go.ChangeShapes Go.WideShapes Go.ChangeAt Go.RowKit

set_option maxRecDepth 100000 in
theorem Sts.push {w W : World} {L : List Bx} (h : Sts w L W) {a pa : Option Addr} {c pc n m : Nat} {x : Lin} (R : Bag W a c x.base) (P : Bags W pa pc x.ps) (hn : x.base.length = n) (hm : x.ps.length = m) :
    Sts w (⟨W.heap.size, a, c, n, pa, pc, m, x⟩ :: L) (W.alloc (.cells #[.slice a n c, .slice pa m pc] 28)) := by
  have b := below_alloc W (.cells #[.slice a n c, .slice pa m pc] 28)
  refine ⟨h.bel.alloc h.bel.size _, fun e he => ?_⟩
  rcases List.mem_cons.1 he with rfl | he
  · exact Bx.In.new R P hn hm
  · exact (h.all e he).below b
end Go.Proofs.YtmefmnpmppdpmabDoor
/- CopyLin: a linear set in memory of its own. -/

/-! append of numbers to a bag; rows that are made in any order; the plain facts of the law LinMade. -/
namespace Go.Proofs.YtmefmnpmppdpmabDoor
open Go.ChangeShapes Go.WideShapes Go.ChangeAt Go.RowKit

set_option maxRecDepth 100000 in
theorem step_append_run {P : Program} (w : World) {ops : Array Oper} {o : Oper} {a : Act} {K : Act → World → Prop} {Q : Exit → Act → World → Prop} {E : Prop} (hgd : o.guard = none) (s x : Operand) (t tn : TypeId)
    (ho : o.op = .call { callee := .builtin .append, args := #[s, x], argTypes := #[t, tn] }) (vs vx : Value) (hs : a.eval s = vs) (hx : a.eval x = vx)
    (v' : Value) (w' : World) (hr : (Builtin.append_ #[t, tn] o.type #[vs, vx]).run P w = .ok v' w') (h : K (a.put o.dst v') w') :
    if Region.wanted o (yielded ops a.tmps) = true then Oper.wp P o a w K Q else E := by
  have hw : Region.wanted o (yielded ops a.tmps) = true := by simp [Region.wanted, hgd]
  rw [if_pos hw]
  exact Lib.wp_append_run w s x t tn ho vs vx hs hx v' w' hr h

/-- Three things that are made in any order: a row that grows, a nought, a row of three. -/
structure RegSt (W0 W : World) (A : Option (Option Addr × Nat × List Value)) (Z : Option Nat) (T : Option (Nat × List Value)) : Prop where
  bel : Below W0.heap.size W0 W
  row : ∀ a c vs, A = some (a, c, vs) → Row W 24 a c vs ∧ From W0.heap.size a
  z : ∀ g, Z = some g → Lies W g 3 [.int .i64 0]
  t : ∀ g vs, T = some (g, vs) → Row W 24 (some ⟨g, 0, none⟩) 3 vs
  ap : ∀ a c vs g us, A = some (a, c, vs) → T = some (g, us) → a ≠ some ⟨g, 0, none⟩
section
variable {W0 W W' : World} {A : Option (Option Addr × Nat × List Value)} {Z : Option Nat} {T : Option (Nat × List Value)}
set_option maxRecDepth 100000 in
theorem RegSt.start (b : Below W0.heap.size W0 W) : RegSt W0 W none none none := ⟨b, (fun _ _ _ e => nomatch e), (fun _ e => nomatch e), (fun _ _ e => nomatch e), (fun _ _ _ _ _ e => nomatch e)⟩
set_option maxRecDepth 100000 in
theorem RegSt.below (h : RegSt W0 W A Z T) (b : Below W.heap.size W W') : RegSt W0 W' A Z T :=
  ⟨h.bel.trans (b.mono h.bel.size), fun a c vs e => ⟨(h.row a c vs e).1.below b, (h.row a c vs e).2⟩, fun g e => (h.z g e).below b (h.z g e).lt, fun g vs e => (h.t g vs e).below b, h.ap⟩
end

/-- The words of a linear set with noughts behind them, in any order, and noughts alone. -/
structure Again (x : Lin) (ps : List (List Int)) : Prop where
  each : ∀ p ∈ ps, (∃ q ∈ x.ps, p = q ++ [0, 0]) ∨ ((∀ n ∈ p, n = 0) ∧ p.length ≤ 2)
  all : ∀ q ∈ x.ps, q ++ [0, 0] ∈ ps
set_option maxRecDepth 100000 in
theorem Again.of {x : Lin} (hx : rightLin x = true) {ps : List (List Int)} (h : Again x ps) : ofOk (x.base ++ [0]) ps = true ∧ ofLin (x.base ++ [0]) ps = x := by
  have X := rightLin_iff.1 hx
  have z1 : ∀ n ∈ ([0] : List Int), n = 0 := by simp
  have z2 : ∀ n ∈ ([0, 0] : List Int), n = 0 := by simp
  refine of_again hx (norm_noughts X.1 z1) (lost_right X.1 z1) (fun p hp => ?_) (fun q => ?_)
  · rcases h.each p hp with ⟨q, hq, rfl⟩ | ⟨hz, _⟩
    · exact lost_right (X.2.1 q hq).1 z2
    · exact lost_zeros hz
  · simp only [ofNorm, List.mem_filter, List.mem_map, decide_eq_true_eq]
    constructor
    · rintro ⟨⟨p, hp, rfl⟩, hne⟩
      rcases h.each p hp with ⟨q, hq, rfl⟩ | ⟨hz, _⟩
      · rw [norm_noughts (X.2.1 q hq).1 z2]; exact hq
      · exact absurd (norm_zeros hz) hne
    · intro hq
      exact ⟨⟨_, h.all q hq, norm_noughts (X.2.1 q hq).1 z2⟩, (X.2.1 q hq).2⟩
end Go.Proofs.YtmefmnpmppdpmabDoor

/-! CopyLin: a linear set in memory of its own. -/
namespace Go.Proofs.YtmefmnpmppdpmabDoor
open Go.ChangeShapes Go.WideShapes Go.ChangeAt Go.RowKit

section
variable {w W W' : World} {g4 : Nat} {a pa pa' : Option Addr} {c n pc m pc' m' : Nat} {nb : List Int} {ps ps' : List Bg}
end
/-- The copy so far, and the block of the answer. -/
structure CpS (w : World) (g2 g3 : Nat) (a : Option Addr) (c n : Nat) (nb : List Int) (pa : Option Addr) (pc m : Nat) (ps : List Bg) (W : World) : Prop where
  p : OfP w g3 a c n nb pa pc m ps W
  l2 : Lies W g2 28 [.slice none 0 0, .slice none 0 0]
  ne : g2 ≠ g3
  h2 : w.heap.size ≤ g2
theorem CpS.below {w W W' : World} {g2 g3 : Nat} {a pa : Option Addr} {c n pc m : Nat} {nb : List Int} {ps : List Bg} (h : CpS w g2 g3 a c n nb pa pc m ps W) (k : Below W.heap.size W W') : CpS w g2 g3 a c n nb pa pc m ps W' :=
  ⟨h.p.below k, h.l2.below k h.l2.lt, h.ne, h.h2⟩
theorem CpS.full {w W : World} {g2 g3 : Nat} {a pa : Option Addr} {c n pc m : Nat} {nb : List Int} {ps : List Bg} (h : CpS w g2 g3 a c n nb pa pc m ps W) {x : Lin} (hx : x = ⟨nb, words ps⟩) :
    ((W.setCell ⟨g2, 0, none⟩ (.slice a n c)).setCell ⟨g2, 1, none⟩ (.slice pa m pc)).cell? ⟨g2, 0, none⟩ = some (.slice a n c) ∧
    ((W.setCell ⟨g2, 0, none⟩ (.slice a n c)).setCell ⟨g2, 1, none⟩ (.slice pa m pc)).cell? ⟨g2, 1, none⟩ = some (.slice pa m pc) ∧
    MakesLin1 x w (.returned (.agg #[.slice a n c, .slice pa m pc])) ((W.setCell ⟨g2, 0, none⟩ (.slice a n c)).setCell ⟨g2, 1, none⟩ (.slice pa m pc)) := by
  have l1 : Lies (W.setCell ⟨g2, 0, none⟩ (.slice a n c)) g2 28 [.slice a n c, .slice none 0 0] := h.l2.set 0 _
  have l2 : Lies ((W.setCell ⟨g2, 0, none⟩ (.slice a n c)).setCell ⟨g2, 1, none⟩ (.slice pa m pc)) g2 28 [.slice a n c, .slice pa m pc] := l1.set 1 _
  have k1 := kept_set W g2 0 (.slice a n c)
  have k2 := kept_set (W.setCell ⟨g2, 0, none⟩ (.slice a n c)) g2 1 (.slice pa m pc)
  subst hx
  refine ⟨l2.cell 0, l2.cell 1, a, c, pa, pc, ?_, (h.p.base.far h.l2 k1).far l1 k2, ⟨ps, rfl, (h.p.row.far h.l2 k1).far l1 k2⟩, (h.p.bel.setCell h.h2 _).setCell h.h2 _⟩
  rw [h.p.len, words_len, h.p.num]

end Go.Proofs.YtmefmnpmppdpmabDoor

/- lin.Cat and lin.Of of linear sets in boxes; the plain facts of the law LinCat. -/
import Derived.Test.YtmnkjekjknhhjaaGreatDoorDe
import Derived.Test.YtmnkjekjknhhjaaGreatDoorCd
import Derived.Test.YtmnkjekjknhhjaaGreatDoorEg

/-! Linear sets in boxes: what the laws of chapter 6 hold. -/
namespace Go.Proofs.YtmnkjekjknhhjaaGreatDoor
open Go.ChangeShapes Go.WideShapes Go.ChangeAt Go.RowKit

/-- A linear set in a box: the box's block, its two slices, what it says. -/
structure Bx where
  g : Nat
  a : Option Addr
  c : Nat
  n : Nat
  pa : Option Addr
  pc : Nat
  m : Nat
  x : Lin
/-- It lies there. -/
structure Bx.In (e : Bx) (W : World) : Prop where
  l : Lies W e.g 53 [.slice e.a e.n e.c, .slice e.pa e.m e.pc]
  base : Bag W e.a e.c e.x.base
  ps : Bags W e.pa e.pc e.x.ps
  len : e.x.base.length = e.n
  num : e.x.ps.length = e.m
set_option maxRecDepth 100000 in
theorem Bx.In.below {e : Bx} {W W' : World} (h : e.In W) (b : Below W.heap.size W W') : e.In W' := ⟨h.l.below b h.l.lt, h.base.below b, h.ps.below b, h.len, h.num⟩
set_option maxRecDepth 100000 in
theorem Bx.In.c0 {e : Bx} {W : World} (h : e.In W) : W.cell? ⟨e.g, 0, none⟩ = some (.slice e.a e.n e.c) := h.l.cell 0
set_option maxRecDepth 100000 in
theorem Bx.In.c1 {e : Bx} {W : World} (h : e.In W) : W.cell? ⟨e.g, 1, none⟩ = some (.slice e.pa e.m e.pc) := h.l.cell 1
def Bx.val (e : Bx) : Value := .agg #[.slice e.a e.n e.c, .slice e.pa e.m e.pc]
/-- All of them lie there, and nothing that was there has turned. -/
structure Sts (w : World) (L : List Bx) (W : World) : Prop where
  bel : Below w.heap.size w W
  all : ∀ e ∈ L, e.In W
set_option maxRecDepth 100000 in
theorem Sts.below {w W W' : World} {L : List Bx} (h : Sts w L W) (b : Below W.heap.size W W') : Sts w L W' := ⟨h.bel.trans (b.mono h.bel.size), fun e he => (h.all e he).below b⟩
set_option maxRecDepth 100000 in
theorem Bx.In.new {W : World} {a pa : Option Addr} {c pc n m : Nat} {x : Lin} (R : Bag W a c x.base) (P : Bags W pa pc x.ps) (hn : x.base.length = n) (hm : x.ps.length = m) :
    Bx.In ⟨W.heap.size, a, c, n, pa, pc, m, x⟩ (W.alloc (.cells #[.slice a n c, .slice pa m pc] 53)) :=
  ⟨Lies.new W _ _, R.below (below_alloc _ _), P.below (below_alloc _ _), hn, hm⟩
set_option maxRecDepth 100000 in
theorem row_facts {w : World} {a : Option Addr} {len cap : Nat} {zs : List Int}
    (h : (a = none ∧ len = 0 ∧ cap = 0 ∧ zs = []) ∨
      ∃ x, a = some x ∧ len ≤ cap ∧ cap ≤ maxLen ∧ zs.length = cap ∧ (∀ i, i < zs.length → w.cell? (x.add i) = some (.int .i64 (zs.getD i 0))) ∧ ∀ n ∈ zs, (Lit.int .i64 n).wf = true) :
    Came w a len cap zs := by
  obtain ⟨h1, h2⟩ := rowAt_of h
  rcases h with ⟨rfl, rfl, rfl, rfl⟩ | ⟨x, rfl, hl, hm, hz, _, _⟩
  · exact ⟨h1, fun _ => ⟨rfl, rfl⟩, Nat.le_refl _, Nat.le_refl _, h2⟩
  · exact ⟨h1, (fun e => nomatch e), hl, by omega, h2⟩
end Go.Proofs.YtmnkjekjknhhjaaGreatDoor

/-! lin.Cat and lin.Of of linear sets in boxes; the plain facts of the law LinCat. -/
namespace Go.Proofs.YtmnkjekjknhhjaaGreatDoor
open Go.ChangeShapes Go.WideShapes Go.ChangeAt Go.RowKit

set_option maxRecDepth 100000 in
theorem Sts.push {w W : World} {L : List Bx} (h : Sts w L W) {a pa : Option Addr} {c pc n m : Nat} {x : Lin} (R : Bag W a c x.base) (P : Bags W pa pc x.ps) (hn : x.base.length = n) (hm : x.ps.length = m) :
    Sts w (⟨W.heap.size, a, c, n, pa, pc, m, x⟩ :: L) (W.alloc (.cells #[.slice a n c, .slice pa m pc] 53)) := by
  have b := below_alloc W (.cells #[.slice a n c, .slice pa m pc] 53)
  refine ⟨h.bel.alloc h.bel.size _, fun e he => ?_⟩
  rcases List.mem_cons.1 he with rfl | he
  · exact Bx.In.new R P hn hm
  · exact (h.all e he).below b
/-- Right, its base small, its periods few. -/
structure Fit (m : Int) (k : Nat) (x : Lin) : Prop where
  right : rightLin x = true
  base : Small m x.base
  few : x.ps.length ≤ k
set_option maxRecDepth 100000 in
theorem Fit.cat {m m' : Int} {k k' : Nat} {x y : Lin} (hx : Fit m k x) (hy : Fit m' k' y) (h : m + m' ≤ 1000) : catOk x y = true ∧ (catLin x y).base = addT x.base y.base ∧ Fit (m + m') (k + k') (catLin x y) := by
  have A := hx.base.add hy.base (by omega)
  have hc : catOk x y = true := by simp [catOk, hx.right, hy.right, A.1]
  have e : (catLin x y).base = addT x.base y.base := by rw [cat_yes hc]
  refine ⟨hc, e, cat_right hc (add_right A.1), by rw [e]; exact A.2.2, ?_⟩
  have := cat_len hc
  have := hx.few
  have := hy.few
  omega
end Go.Proofs.YtmnkjekjknhhjaaGreatDoor

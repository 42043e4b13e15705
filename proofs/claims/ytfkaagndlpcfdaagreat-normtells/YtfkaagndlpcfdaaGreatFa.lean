/- Linear sets in boxes: what the laws of chapter 6 hold. -/
import Derived.Test.YtfkaagndlpcfdaaGreatDe
import Derived.Test.YtfkaagndlpcfdaaGreatCd
namespace Go.Proofs.YtfkaagndlpcfdaaGreat
open Go.ChangeShapes Go.WideShapes Go.ChangeAt Go.RowKit

/-- A linear set in a box: the box's block, its two slices, what it says. -/
structure Bx where
  g : Nat
  a : Option Addr
  c : Nat
  n : Nat
  pa : Option Addr
  pc : Nat
  m : Nat
  x : Lin
/-- It lies there. -/
structure Bx.In (e : Bx) (W : World) : Prop where
  l : Lies W e.g 60 [.slice e.a e.n e.c, .slice e.pa e.m e.pc]
  base : Bag W e.a e.c e.x.base
  ps : Bags W e.pa e.pc e.x.ps
  len : e.x.base.length = e.n
  num : e.x.ps.length = e.m
set_option maxRecDepth 100000 in
theorem Bx.In.below {e : Bx} {W W' : World} (h : e.In W) (b : Below W.heap.size W W') : e.In W' := ⟨h.l.below b h.l.lt, h.base.below b, h.ps.below b, h.len, h.num⟩
set_option maxRecDepth 100000 in
theorem Bx.In.c0 {e : Bx} {W : World} (h : e.In W) : W.cell? ⟨e.g, 0, none⟩ = some (.slice e.a e.n e.c) := h.l.cell 0
set_option maxRecDepth 100000 in
theorem Bx.In.c1 {e : Bx} {W : World} (h : e.In W) : W.cell? ⟨e.g, 1, none⟩ = some (.slice e.pa e.m e.pc) := h.l.cell 1
def Bx.val (e : Bx) : Value := .agg #[.slice e.a e.n e.c, .slice e.pa e.m e.pc]
/-- All of them lie there, and nothing that was there has turned. -/
structure Sts (w : World) (L : List Bx) (W : World) : Prop where
  bel : Below w.heap.size w W
  all : ∀ e ∈ L, e.In W
set_option maxRecDepth 100000 in
theorem Sts.below {w W W' : World} {L : List Bx} (h : Sts w L W) (b : Below W.heap.size W W') : Sts w L W' := ⟨h.bel.trans (b.mono h.bel.size), fun e he => (h.all e he).below b⟩
set_option maxRecDepth 100000 in
theorem Bx.In.new {W : World} {a pa : Option Addr} {c pc n m : Nat} {x : Lin} (R : Bag W a c x.base) (P : Bags W pa pc x.ps) (hn : x.base.length = n) (hm : x.ps.length = m) :
    Bx.In ⟨W.heap.size, a, c, n, pa, pc, m, x⟩ (W.alloc (.cells #[.slice a n c, .slice pa m pc] 60)) :=
  ⟨Lies.new W _ _, R.below (below_alloc _ _), P.below (below_alloc _ _), hn, hm⟩
theorem cmp_val {e f : Bx} {W : World} {p : Int} (h : cmpLin e.x f.x = p) (he : e.In W) (hf : f.In W) : Calls Tryz.prog 59 #[e.val, f.val] W (Tells p W) := by
  have := compare18 e.a e.pa f.a f.pa e.c e.pc f.c f.pc e.x f.x W he.base he.ps hf.base hf.ps
  rw [he.len, he.num, hf.len, hf.num, h] at this
  exact this
theorem same_val {e f : Bx} {W : World} {p : Bool} (h : decide (e.x = f.x) = p) (he : e.In W) (hf : f.In W) : Calls Tryz.prog 26 #[e.val, f.val] W (TellsB p W) := by
  have := sameLin_any e.a e.pa f.a f.pa e.c e.pc f.c f.pc e.x f.x W he.base he.ps hf.base hf.ps
  rw [he.len, he.num, hf.len, hf.num, h] at this
  exact this
theorem right_val {e : Bx} {W : World} {p : Bool} (h : rightLin e.x = p) (he : e.In W) : Calls Tryz.prog 58 #[e.val] W (TellsB p W) := by
  have := right13 e.a e.pa e.c e.pc e.x W he.base he.ps
  rw [he.len, he.num, h] at this
  exact this
theorem point_val {e : Bx} {W : World} {p : Bool} (h : pointLin e.x = p) (he : e.In W) : Calls Tryz.prog 67 #[e.val] W (TellsB p W) := by
  have := point15 e.a e.pa e.c e.pc e.x W he.base he.ps
  rw [he.len, he.num, h] at this
  exact this
theorem rref_val {e : Bx} {W : World} {p : Bool} (h : rightLin e.x = p) (he : e.In W) : Calls Tryz.prog 51 #[e.val] W (TellsB p W) := by
  have := rightLin_any e.a e.pa e.c e.pc e.x W he.base he.ps
  rw [he.len, he.num, h] at this
  exact this
theorem pref_val {e : Bx} {W : World} {p : Bool} (h : pointLin e.x = p) (he : e.In W) : Calls Tryz.prog 39 #[e.val] W (TellsB p W) := by
  have := point_any e.a e.pa e.c e.pc e.x W he.base he.ps
  rw [he.len, he.num, h] at this
  exact this
set_option maxRecDepth 100000 in
theorem orI_bound {a b : Int} (ha : a = -1 ∨ a = 0 ∨ a = 1) (hb : b = -1 ∨ b = 0 ∨ b = 1) : orI a b = -1 ∨ orI a b = 0 ∨ orI a b = 1 := by
  unfold orI; split
  · exact hb
  · exact ha
set_option maxRecDepth 100000 in
theorem cmpPs_bound : ∀ (a b : List (List Int)), cmpPs a b = -1 ∨ cmpPs a b = 0 ∨ cmpPs a b = 1
  | [], _ => by simp [cmpPs]
  | _ :: _, [] => by simp [cmpPs]
  | x :: r, y :: s => orI_bound (cmp_bound x y) (cmpPs_bound r s)
set_option maxRecDepth 100000 in
theorem cmpLin_bound (x y : Lin) : cmpLin x y = -1 ∨ cmpLin x y = 0 ∨ cmpLin x y = 1 := by
  unfold cmpLin
  split
  · refine orI_bound (cmp_bound _ _) (orI_bound ?_ (cmpPs_bound _ _))
    rcases sgn_cases x.ps.length y.ps.length with ⟨_, e⟩ | ⟨_, e⟩ | ⟨_, e⟩ <;> rw [e] <;> simp
  · simp
set_option maxRecDepth 100000 in
theorem row_facts {w : World} {a : Option Addr} {len cap : Nat} {zs : List Int}
    (h : (a = none ∧ len = 0 ∧ cap = 0 ∧ zs = []) ∨
      ∃ x, a = some x ∧ len ≤ cap ∧ cap ≤ maxLen ∧ zs.length = cap ∧ (∀ i, i < zs.length → w.cell? (x.add i) = some (.int .i64 (zs.getD i 0))) ∧ ∀ n ∈ zs, (Lit.int .i64 n).wf = true) :
    Came w a len cap zs := by
  obtain ⟨h1, h2⟩ := rowAt_of h
  rcases h with ⟨rfl, rfl, rfl, rfl⟩ | ⟨x, rfl, hl, hm, hz, _, _⟩
  · exact ⟨h1, fun _ => ⟨rfl, rfl⟩, Nat.le_refl _, Nat.le_refl _, h2⟩
  · exact ⟨h1, (fun e => nomatch e), hl, by omega, h2⟩
end Go.Proofs.YtfkaagndlpcfdaaGreat

/- lin.Cat and lin.Of of linear sets in boxes; the plain facts of the law LinCat. -/
import Derived.Test.YtfkaagndlpcfdaaGreatFa
import Derived.Test.YtfkaagndlpcfdaaGreatEg
namespace Go.Proofs.YtfkaagndlpcfdaaGreat
open Go.ChangeShapes Go.WideShapes Go.ChangeAt Go.RowKit

theorem cat_val {e f : Bx} {W : World} {p : Lin} (he : e.In W) (hf : f.In W) (hs : e.m + f.m ≤ 100000000000) (h : catLin e.x f.x = p) (ho : catOk e.x f.x = true) : Calls Tryz.prog 47 #[e.val, f.val] W (MakesLin p true W) := by
  have := cat11 e.a e.pa f.a f.pa e.c e.pc f.c f.pc e.x f.x W he.base he.ps hf.base hf.ps (by rw [he.num, hf.num]; exact hs)
  rw [he.len, he.num, hf.len, hf.num, h, ho] at this
  exact this.mono fun _ _ h => h.lin
set_option maxRecDepth 100000 in
theorem Sts.push {w W : World} {L : List Bx} (h : Sts w L W) {a pa : Option Addr} {c pc n m : Nat} {x : Lin} (R : Bag W a c x.base) (P : Bags W pa pc x.ps) (hn : x.base.length = n) (hm : x.ps.length = m) :
    Sts w (⟨W.heap.size, a, c, n, pa, pc, m, x⟩ :: L) (W.alloc (.cells #[.slice a n c, .slice pa m pc] 60)) := by
  have b := below_alloc W (.cells #[.slice a n c, .slice pa m pc] 60)
  refine ⟨h.bel.alloc h.bel.size _, fun e he => ?_⟩
  rcases List.mem_cons.1 he with rfl | he
  · exact Bx.In.new R P hn hm
  · exact (h.all e he).below b
/-- Right, its base small, its periods few. -/
structure Fit (m : Int) (k : Nat) (x : Lin) : Prop where
  right : rightLin x = true
  base : Small m x.base
  few : x.ps.length ≤ k
set_option maxRecDepth 100000 in
theorem Fit.cat {m m' : Int} {k k' : Nat} {x y : Lin} (hx : Fit m k x) (hy : Fit m' k' y) (h : m + m' ≤ 1000) : catOk x y = true ∧ (catLin x y).base = addT x.base y.base ∧ Fit (m + m') (k + k') (catLin x y) := by
  have A := hx.base.add hy.base (by omega)
  have hc : catOk x y = true := by simp [catOk, hx.right, hy.right, A.1]
  have e : (catLin x y).base = addT x.base y.base := by rw [cat_yes hc]
  refine ⟨hc, e, cat_right hc (add_right A.1), by rw [e]; exact A.2.2, ?_⟩
  have := cat_len hc
  have := hx.few
  have := hy.few
  omega
set_option maxRecDepth 100000 in
theorem cat_facts {x y z : Lin} (hx : Nice x) (hy : Nice y) (hz : Nice z) : ∃ p yz l, catLin x y = p ∧ catOk x y = true ∧ catLin y x = p ∧ catOk y x = true ∧ catLin p z = l ∧ catOk p z = true ∧ catLin y z = yz ∧ catOk y z = true ∧ catLin x yz = l ∧ catOk x yz = true ∧
    addOk x.base y.base = true ∧ addS x.base y.base = p.base ∧ rightLin p = true ∧ p.ps.length ≤ x.ps.length + y.ps.length ∧ p.ps.length ≤ 6 ∧ yz.ps.length ≤ 6 ∧ pointLin p = (pointLin x && pointLin y) := by
  have X : Fit 39 3 x := ⟨hx.right, hx.base, hx.few⟩
  have Y : Fit 39 3 y := ⟨hy.right, hy.base, hy.few⟩
  have Z : Fit 39 3 z := ⟨hz.right, hz.base, hz.few⟩
  have P := X.cat Y (by omega)
  have Q := Y.cat X (by omega)
  have YZ := Y.cat Z (by omega)
  have L := P.2.2.cat Z (by omega)
  have R := X.cat YZ.2.2 (by omega)
  have A := hx.base.add hy.base (by omega)
  refine ⟨_, _, _, rfl, P.1, (cat_comm P.1 Q.1).symm, Q.1, rfl, L.1, rfl, YZ.1, (cat_assoc P.1 L.1 YZ.1 R.1).symm, R.1, A.1, by rw [P.2.1]; exact A.2.1, P.2.2.right, cat_len P.1, P.2.2.few, YZ.2.2.few, ?_⟩
  have h := cat_point P.1
  have e : ∀ u : Lin, u.ps.isEmpty = decide (u.ps = []) := fun u => by cases u.ps <;> simp
  simp only [pointLin, hx.right, hy.right, P.2.2.right, Bool.true_and, e]
  rw [Bool.eq_iff_iff]
  simp [h]
end Go.Proofs.YtfkaagndlpcfdaaGreat

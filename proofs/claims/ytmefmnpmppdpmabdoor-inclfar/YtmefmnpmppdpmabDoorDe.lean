import Derived.Test.YtmefmnpmppdpmabDoorC
/- The reference's put: a word into rising ones, once. -/
namespace Go.Proofs.YtmefmnpmppdpmabDoor
open Go.ChangeShapes Go.WideShapes Go.ChangeAt Go.RowKit

theorem Row.take {w : World} {t : TypeId} {a : Option Addr} {c : Nat} {xs : List Value} (h : Row w t a c xs) (k : Nat) : Row w t a c (xs.take k) := by
  rcases h with ⟨e1, e2, rfl⟩ | ⟨g, sp, e, hc, hm, l⟩
  · exact .inl ⟨e1, e2, by simp⟩
  · refine .inr ⟨g, xs.drop k ++ sp, e, ?_, hm, l.to ?_⟩
    · rw [List.length_append, List.length_take, List.length_drop, hc]; omega
    · rw [← List.append_assoc, List.take_append_drop]
theorem Appends.below {e : TypeId} {a : Option Addr} {xs ys : List Value} {w w' : World} {v : Value} (h : Appends e a xs ys w v w') {B : Nat} (hB : B ≤ w.heap.size) (hf : From B a) : Below B w w' ∧ ∀ a' n c', v = .slice a' n c' → From B a' := by
  obtain ⟨a', c', rfl, r, k, f⟩ := h
  refine ⟨k.below (fun g e => hf g e) hB, fun a2 n c2 e g h => ?_⟩
  injection e with e
  subst e
  rcases f g h with h | h
  · exact hf g h
  · omega
theorem Row.new1 (w : World) (t : TypeId) (v : Value) : Row (w.alloc (.cells #[v] t)) t (some ⟨w.heap.size, 0, none⟩) 1 [v] :=
  .inr ⟨_, [], rfl, rfl, by omega, Lies.new w t [v]⟩

end Go.Proofs.YtmefmnpmppdpmabDoor

/-! The reference's put. -/
namespace Go.Proofs.YtmefmnpmppdpmabDoor
open Go.ChangeShapes Go.WideShapes Go.ChangeAt Go.RowKit



end Go.Proofs.YtmefmnpmppdpmabDoor

/-! A linear set under construction: its block, the result's block, its base and its periods in memory. -/
namespace Go.Proofs.YtmefmnpmppdpmabDoor
open Go.ChangeShapes Go.WideShapes Go.ChangeAt Go.RowKit

/-- What a call that makes a linear set comes to. -/
def MakesLin (x : Lin) (ok : Bool) (w : World) (e : Ending) (w' : World) : Prop :=
  ∃ a c pa pc, e = .returned (.tuple #[.agg #[.slice a x.base.length c, .slice pa x.ps.length pc], .bool ok]) ∧ Bag w' a c x.base ∧ Bags w' pa pc x.ps ∧ Below w.heap.size w w'
/-- The same, told alone. -/
def MakesLin1 (x : Lin) (w : World) (e : Ending) (w' : World) : Prop :=
  ∃ a c pa pc, e = .returned (.agg #[.slice a x.base.length c, .slice pa x.ps.length pc]) ∧ Bag w' a c x.base ∧ Bags w' pa pc x.ps ∧ Below w.heap.size w w'

section
variable {w w' W : World} {a : Option Addr} {c g : Nat} {xs : List Int} {ps : List Bg} {xss : List (List Int)} {cs : List Value}
theorem Bag.far (h : Bag w a c xs) (l : Lies w g 28 cs) (k : Kept (fun i => i = g) w w') : Bag w' a c xs := by
  refine h.kept k fun g' e e2 => ?_
  subst e2
  rcases h with ⟨h, _⟩ | ⟨g1, sp, h, _, _, l1⟩
  · rw [h] at e; cases e
  · rw [h] at e; injection e with e; injection e with e; subst e
    exact l1.other l (by decide) rfl
theorem Bgs.far (h : Bgs w a c ps) (l : Lies w g 28 cs) (k : Kept (fun i => i = g) w w') : Bgs w' a c ps := by
  refine ⟨h.row.kept k fun g' e e2 => ?_, fun p hp => (h.each p hp).far l k⟩
  subst e2
  rcases h.row with ⟨h, _⟩ | ⟨g1, sp, h, _, _, l1⟩
  · rw [h] at e; cases e
  · rw [h] at e; injection e with e; injection e with e; subst e
    exact l1.other l (by decide) rfl
theorem Bags.far (h : Bags w a c xss) (l : Lies w g 28 cs) (k : Kept (fun i => i = g) w w') : Bags w' a c xss := by
  obtain ⟨ps, e, h⟩ := h
  exact ⟨ps, e, h.far l k⟩
end
theorem kept_set (w : World) (g o : Nat) (u : Value) : Kept (fun i => i = g) w (w.setCell ⟨g, o, none⟩ u) := (Kept.refl (fun i => i = g) w).setCell (p := ⟨g, o, none⟩) (fun _ => rfl) u

/-- The linear set in block g6, the result's block g4 still empty. -/
structure OfSt (w : World) (g4 g6 : Nat) (a : Option Addr) (c n : Nat) (nb : List Int) (pa : Option Addr) (pc m : Nat) (acc : List (List Int)) (W : World) : Prop where
  bel : Below w.heap.size w W
  l4 : Lies W g4 28 [.slice none 0 0, .slice none 0 0]
  l6 : Lies W g6 28 [.slice a n c, .slice pa m pc]
  base : Bag W a c nb
  ps : Bags W pa pc acc
  len : nb.length = n
  num : acc.length = m
  h4 : w.heap.size ≤ g4
  h6 : w.heap.size ≤ g6
  ne : g4 ≠ g6
section
variable {w W W' : World} {g4 g6 : Nat} {a pa pa' : Option Addr} {c n pc m pc' m' : Nat} {nb : List Int} {acc acc' : List (List Int)}
theorem OfSt.below (h : OfSt w g4 g6 a c n nb pa pc m acc W) (k : Below W.heap.size W W') : OfSt w g4 g6 a c n nb pa pc m acc W' :=
  ⟨h.bel.trans (k.mono h.bel.size), h.l4.below k h.l4.lt, h.l6.below k h.l6.lt, h.base.below k, h.ps.below k, h.len, h.num, h.h4, h.h6, h.ne⟩
/-- New periods are laid into it. -/
theorem OfSt.store (h : OfSt w g4 g6 a c n nb pa pc m acc W) (p : Bags W pa' pc' acc') (e : acc'.length = m') : OfSt w g4 g6 a c n nb pa' pc' m' acc' (W.setCell ⟨g6, 1, none⟩ (.slice pa' m' pc')) := by
  have k := kept_set W g6 1 (.slice pa' m' pc')
  exact ⟨h.bel.setCell h.h6 _, h.l4.far (p := ⟨g6, 1, none⟩) h.ne _, (h.l6.set 1 _).to rfl, h.base.far h.l6 k, p.far h.l6 k, h.len, e, h.h4, h.h6, h.ne⟩
theorem OfSt.c0 (h : OfSt w g4 g6 a c n nb pa pc m acc W) : W.cell? ⟨g6, 0, none⟩ = some (.slice a n c) := h.l6.cell 0
theorem OfSt.c1 (h : OfSt w g4 g6 a c n nb pa pc m acc W) : W.cell? ⟨g6, 1, none⟩ = some (.slice pa m pc) := h.l6.cell 1
theorem OfSt.d0 (h : OfSt w g4 g6 a c n nb pa pc m acc W) : W.cell? ⟨g4, 0, none⟩ = some (.slice none 0 0) := h.l4.cell 0
theorem OfSt.d1 (h : OfSt w g4 g6 a c n nb pa pc m acc W) : W.cell? ⟨g4, 1, none⟩ = some (.slice none 0 0) := h.l4.cell 1
theorem OfSt.z4 (h : OfSt w g4 g6 a c n nb pa pc m acc W) (j : Nat) : W.frozen? ⟨g4, j, none⟩ = false := h.l4.frozen j
/-- It is told: the result's block has it. -/
theorem OfSt.full (h : OfSt w g4 g6 a c n nb pa pc m acc W) :
    ((W.setCell ⟨g4, 0, none⟩ (.slice a n c)).setCell ⟨g4, 1, none⟩ (.slice pa m pc)).cell? ⟨g4, 0, none⟩ = some (.slice a n c) ∧
    ((W.setCell ⟨g4, 0, none⟩ (.slice a n c)).setCell ⟨g4, 1, none⟩ (.slice pa m pc)).cell? ⟨g4, 1, none⟩ = some (.slice pa m pc) ∧
    Bag ((W.setCell ⟨g4, 0, none⟩ (.slice a n c)).setCell ⟨g4, 1, none⟩ (.slice pa m pc)) a c nb ∧
    Bags ((W.setCell ⟨g4, 0, none⟩ (.slice a n c)).setCell ⟨g4, 1, none⟩ (.slice pa m pc)) pa pc acc ∧
    Below w.heap.size w ((W.setCell ⟨g4, 0, none⟩ (.slice a n c)).setCell ⟨g4, 1, none⟩ (.slice pa m pc)) := by
  have l1 : Lies (W.setCell ⟨g4, 0, none⟩ (.slice a n c)) g4 28 [.slice a n c, .slice none 0 0] := h.l4.set 0 _
  have l2 : Lies ((W.setCell ⟨g4, 0, none⟩ (.slice a n c)).setCell ⟨g4, 1, none⟩ (.slice pa m pc)) g4 28 [.slice a n c, .slice pa m pc] := l1.set 1 _
  have k1 := kept_set W g4 0 (.slice a n c)
  have k2 := kept_set (W.setCell ⟨g4, 0, none⟩ (.slice a n c)) g4 1 (.slice pa m pc)
  exact ⟨l2.cell 0, l2.cell 1, (h.base.far h.l4 k1).far l1 k2, (h.ps.far h.l4 k1).far l1 k2, (h.bel.setCell h.h4 _).setCell h.h4 _⟩
end
end Go.Proofs.YtmefmnpmppdpmabDoor

/-! The reference's OfLin. -/
namespace Go.Proofs.YtmefmnpmppdpmabDoor
open Go.ChangeShapes Go.WideShapes Go.ChangeAt Go.RowKit

end Go.Proofs.YtmefmnpmppdpmabDoor

/-! Words that are made of any numbers: the contract of columbaryplay.Bag. -/
namespace Go.Proofs.YtmefmnpmppdpmabDoor
open Go.ChangeShapes Go.WideShapes Go.ChangeAt Go.RowKit

theorem RowAt.below {w w' : World} {a : Option Addr} {zs : List Int} {k : Nat} (h : RowAt w a zs k) (b : Below w.heap.size w w') : RowAt w' a zs k := by
  obtain ⟨bk, off, e, hc, hb, h1, h2⟩ := h
  exact ⟨bk, off, e, (b.cell (p := ⟨bk, off + k, none⟩) hb).trans hc, Nat.lt_of_lt_of_le hb b.size, h1, h2⟩

/-- What is known of a slice of numbers that came in. -/
def Came (w : World) (a : Option Addr) (len cap : Nat) (zs : List Int) : Prop :=
  len ≤ 9223372036854775807 ∧ (a = none → len = 0 ∧ cap = 0) ∧ len ≤ cap ∧ len ≤ zs.length ∧ ∀ k, k < len → RowAt w a zs k
theorem Came.below {w w' : World} {a : Option Addr} {len cap : Nat} {zs : List Int} (h : Came w a len cap zs) (b : Below w.heap.size w w') : Came w' a len cap zs :=
  ⟨h.1, h.2.1, h.2.2.1, h.2.2.2.1, fun k hk => (h.2.2.2.2 k hk).below b⟩


/-- Four numbers from 0 to 39. -/
def Four (vs : List Int) : Prop := vs.length = 4 ∧ ∀ j, 0 ≤ vs.getD j 0 ∧ vs.getD j 0 ≤ 39
theorem Four.set {vs : List Int} (h : Four vs) (k : Nat) {z : Int} (h0 : 0 ≤ z) (h1 : z ≤ 39) : Four (vs.set k z) := by
  refine ⟨by rw [List.length_set]; exact h.1, fun j => ?_⟩
  have := h.2 j
  rw [List.getD_eq_getElem?_getD, List.getElem?_set]
  by_cases e : k = j
  · rw [if_pos e]
    by_cases hl : k < vs.length
    · rw [if_pos hl]; exact ⟨h0, h1⟩
    · rw [if_neg hl]; simp
  · rw [if_neg e, ← List.getD_eq_getElem?_getD]; exact this
theorem Four.small {vs : List Int} (h : Four vs) : Small 39 (normL vs) := by
  have hc := cut_le vs
  have hr : rightL (trimL vs) = true := right_of (by rw [trim_len]; have := h.1; omega) (fun j _ => by rw [trim_at]; have := h.2 j; omega) trim_last
  rw [norm_yes hr]
  exact ⟨hr, by rw [trim_len]; have := h.1; omega, fun j => by rw [trim_at]; exact (h.2 j).2⟩

end Go.Proofs.YtmefmnpmppdpmabDoor

/-! append of one bag to a slice of bags; made: small linear sets that are right. -/
namespace Go.Proofs.YtmefmnpmppdpmabDoor
open Go.ChangeShapes Go.WideShapes Go.ChangeAt Go.RowKit

set_option maxRecDepth 100000 in
theorem app1 (a : Option Addr) (c m : Nat) (ps : List Bg) (W : World) (P : Bgs W a c ps) (hm : ps.length = m) (b : Option Addr) (d n : Nat) (ys : List Int) (R : Bag W b d ys) (hn : ys.length = n) (hs : m ≤ 100000000000) :
    ∃ a2 c2 w2, (Builtin.append_ #[26, 26] 26 #[.slice a m c, .slice (some ⟨W.heap.size, 0, none⟩) 1 1]).run Tryd.prog (W.alloc (.cells #[.slice b n d] 24)) = .ok (.slice a2 (m + 1) c2) w2 ∧
      Bgs w2 a2 c2 (ps ++ [⟨b, d, ys⟩]) ∧ Kept (fun g => a = some ⟨g, 0, none⟩) W w2 ∧ (∀ B, B ≤ W.heap.size → From B a → From B a2 ∧ Below B W w2) := by
  subst hm
  subst hn
  have b3 : Below W.heap.size W (W.alloc (.cells #[.slice b ys.length d] 24)) := below_alloc _ _
  have r3 := P.row.below b3
  obtain ⟨v2, w2, hr, A2⟩ := run_app 26 26 24 Tryd.underlying26 Tryd.infoBag a c ps.length (vals ps) (W.alloc (.cells #[.slice b ys.length d] 24)) r3 (vals_len ps).symm
    (some ⟨W.heap.size, 0, none⟩) 1 1 [.slice b ys.length d] (Row.new1 _ _ _) rfl (by simp [Value.oneCell']) (by rw [vals_len]; simp; omega)
  have A2' := A2
  obtain ⟨a2, c2, rfl, r2, k2, f2⟩ := A2
  have e1 : (vals ps).length + [Value.slice b ys.length d].length = ps.length + 1 := by rw [vals_len]; rfl
  rw [e1] at hr
  have k0 : Kept (fun g => a = some ⟨g, 0, none⟩) W w2 := (Kept.of_below b3).trans k2 (fun _ _ h => h)
  refine ⟨a2, c2, w2, hr, ⟨?_, ?_⟩, k0, fun B hB hf => ?_⟩
  · have : vals (ps ++ [⟨b, d, ys⟩]) = vals ps ++ [.slice b ys.length d] := by simp [vals, Bg.val]
    rw [this]
    exact r2
  · intro p hp
    rcases List.mem_append.1 hp with hp | hp
    · exact P.keptEach k0 p hp
    · obtain rfl := List.mem_singleton.1 hp
      have h0 : Bag (W.alloc (.cells #[.slice b ys.length d] 24)) b d ys := R.below b3
      exact h0.kept k2 (fun g e => h0.apart r3 e)
  · obtain ⟨bb, ff⟩ := A2'.below (B := B) (Nat.le_trans hB b3.size) hf
    exact ⟨ff _ _ _ rfl, (b3.mono hB).trans bb⟩

set_option maxRecDepth 100000 in
theorem Came.drop {w : World} {b off len cap k : Nat} {zs : List Int} (h : Came w (some ⟨b, off, none⟩) len cap zs) (hk : k < len) : Came w (some ⟨b, off + k, none⟩) (len - k) (cap - k) (zs.drop k) := by
  obtain ⟨h1, h2, h3, h4, h5⟩ := h
  refine ⟨by omega, (fun e => by cases e), by omega, by rw [List.length_drop]; omega, fun j hj => ?_⟩
  obtain ⟨b', off', e, hc, hb, l1, l2⟩ := h5 (k + j) (by omega)
  injection e with e
  injection e with e1 e2
  subst e1; subst e2
  have e : (zs.drop k).getD j 0 = zs.getD (k + j) 0 := by simp [List.getD]
  exact ⟨b, off + k, rfl, by rw [e, Nat.add_assoc]; exact hc, hb, by rw [e]; exact l1, by rw [e]; exact l2⟩
set_option maxRecDepth 100000 in
theorem Came.form {w : World} {a : Option Addr} {len cap : Nat} {zs : List Int} (h : Came w a len cap zs) (hl : 0 < len) : ∃ b off, a = some ⟨b, off, none⟩ := by
  obtain ⟨b, off, e, _⟩ := h.2.2.2.2 0 hl
  exact ⟨b, off, e⟩

end Go.Proofs.YtmefmnpmppdpmabDoor

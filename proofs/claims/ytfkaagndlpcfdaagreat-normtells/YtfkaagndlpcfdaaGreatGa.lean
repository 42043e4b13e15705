/- append of numbers to a bag; rows that are made in any order; the plain facts of the law LinMade. -/
import Derived.Test.YtfkaagndlpcfdaaGreatFc
namespace Go.Proofs.YtfkaagndlpcfdaaGreat
open Go.ChangeShapes Go.WideShapes Go.ChangeAt Go.RowKit

set_option maxRecDepth 100000 in
theorem step_append_run {P : Program} (w : World) {ops : Array Oper} {o : Oper} {a : Act} {K : Act → World → Prop} {Q : Exit → Act → World → Prop} {E : Prop} (hgd : o.guard = none) (s x : Operand) (t tn : TypeId)
    (ho : o.op = .call { callee := .builtin .append, args := #[s, x], argTypes := #[t, tn] }) (vs vx : Value) (hs : a.eval s = vs) (hx : a.eval x = vx)
    (v' : Value) (w' : World) (hr : (Builtin.append_ #[t, tn] o.type #[vs, vx]).run P w = .ok v' w') (h : K (a.put o.dst v') w') :
    if Region.wanted o (yielded ops a.tmps) = true then Oper.wp P o a w K Q else E := by
  have hw : Region.wanted o (yielded ops a.tmps) = true := by simp [Region.wanted, hgd]
  rw [if_pos hw]
  exact Lib.wp_append_run w s x t tn ho vs vx hs hx v' w' hr h

set_option maxRecDepth 100000 in
theorem run_appI (t ty : TypeId) (hu : Tryz.prog.underlying t = some (.slice 3))
    (a : Option Addr) (c n : Nat) (xs : List Value) (w : World) (R : Row w 3 a c xs) (hn : n = xs.length) (ad : Addr) (m d : Nat) (ys : List Value) (hm : m = ys.length) (hc : ∀ j u, ys[j]? = some u → w.cell? (ad.add j) = some u) (h1 : ∀ u ∈ ys, u.oneCell' = true) (hb : xs.length + ys.length ≤ 1000000000000) :
    ∃ v w', (Builtin.append_ #[t, t] ty #[.slice a n c, .slice (some ad) m d]).run Tryz.prog w = .ok v w' ∧ Appends 3 a xs ys w v w' := by
  subst hn
  subst hm
  obtain ⟨i, hi, hz, hsz, hby⟩ := info_parts Tryz.info3
  have hform : a = none ∨ ∃ g, a = some ⟨g, 0, none⟩ := by
    rcases R with ⟨e, _⟩ | ⟨g, _, e, _⟩
    · exact .inl e
    · exact .inr ⟨g, e⟩
  obtain ⟨v', w', hr, h2, h3, _, h5⟩ := run_append_own_at (P := Tryz.prog) w 0 t ty 3 i _ 1 8 hu hi hz hsz hby (by simp [Value.cells]) (by omega) _ xs.length xs R.own
    ad ys.length d ys (by rw [Nat.mul_one]) hc h1 (by unfold maxLen; omega) (by omega) (Nat.zero_le _)
  obtain ⟨a', c', rfl, r', _⟩ := own_row h2
  rw [List.length_append] at hr h5
  refine ⟨_, w', hr, a', c', rfl, r', ?_, fun g e => ?_⟩
  · refine ⟨h3.os, h3.tape, h3.output, h3.size, fun g hg hx => h3.block g hg (fun e => ?_)⟩
    obtain ⟨x, rfl, hx'⟩ := (ownBlock_slice a _ _ g).1 e.symm
    rcases hform with h | ⟨g', h⟩
    · cases h
    · injection h with h; subst h; subst hx'; exact hx rfl
  · subst e
    rcases h5 with h5 | h5
    · obtain ⟨x, rfl, hx⟩ := (ownBlock_slice a xs.length c g).1 (by rw [← h5]; rfl)
      rcases hform with h | ⟨g', h⟩
      · cases h
      · injection h with h; subst h; subst hx; exact .inl rfl
    · have : g = w.heap.size := by simpa [Value.ownBlock] using h5
      exact .inr (by omega)
set_option maxRecDepth 100000 in
theorem row_lies {w : World} {t : TypeId} {g : Nat} {vs : List Value} (l : Lies w g t vs) (h : vs.length ≤ 1000) : Row w t (some ⟨g, 0, none⟩) vs.length vs :=
  .inr ⟨g, [], rfl, rfl, by omega, by simpa using l⟩
set_option maxRecDepth 100000 in
/-- append of numbers that were just laid to a bag. -/
theorem appz (ty : TypeId) (a : Option Addr) (c n : Nat) (xs : List Int) (W : World) (R : Bag W a c xs) (hn : xs.length = n) (hs : n ≤ 1000) (ys : List Int) (l : Nat) (hl : ys.length = l) (h2 : l ≤ 10) (B : Nat) (hB : B ≤ W.heap.size) (hf : From B a) :
    ∃ a2 c2 w2, (Builtin.append_ #[22, 22] ty #[.slice a n c, .slice (some ⟨W.heap.size, 0, none⟩) l l]).run Tryz.prog (W.alloc (.cells (ints ys).toArray 3)) = .ok (.slice a2 (n + l) c2) w2 ∧
      Bag w2 a2 c2 (xs ++ ys) ∧ From B a2 ∧ Below B W w2 := by
  subst hn
  subst hl
  have b3 : Below W.heap.size W (W.alloc (.cells (ints ys).toArray 3)) := below_alloc _ _
  have l3 : Lies (W.alloc (.cells (ints ys).toArray 3)) W.heap.size 3 (ints ys) := Lies.new W 3 (ints ys)
  obtain ⟨v2, w2, hr, A2⟩ := run_appI 22 ty Tryz.underlying22 a c xs.length (ints xs) (W.alloc (.cells (ints ys).toArray 3)) (R.below b3) (ints_len xs).symm
    ⟨W.heap.size, 0, none⟩ ys.length ys.length (ints ys) (ints_len ys).symm (fun j u hj => by rw [Addr.add_lit]; simpa using (l3.cell (0 + j)).trans (by simpa using hj)) (ints_one ys) (by rw [ints_len, ints_len]; omega)
  obtain ⟨bb, ff⟩ := A2.below (B := B) (Nat.le_trans hB b3.size) hf
  obtain ⟨a2, c2, rfl, r2, k2, f2⟩ := A2
  rw [ints_len, ints_len] at hr
  refine ⟨a2, c2, w2, hr, ?_, ff _ _ _ rfl, (b3.mono hB).trans bb⟩
  unfold Bag
  have : ints (xs ++ ys) = ints xs ++ ints ys := by simp [ints]
  rw [this]
  exact r2

/-- What a call that makes a row of vs comes to. -/
def MakesRow (vs : List Value) (n : Nat) (w : World) (e : Ending) (w' : World) : Prop :=
  ∃ a c, e = .returned (.slice a n c) ∧ Row w' 56 a c vs ∧ From w.heap.size a ∧ Below w.heap.size w w'
/-- Three things that are made in any order: a row that grows, a nought, a row of three. -/
structure RegSt (W0 W : World) (A : Option (Option Addr × Nat × List Value)) (Z : Option Nat) (T : Option (Nat × List Value)) : Prop where
  bel : Below W0.heap.size W0 W
  row : ∀ a c vs, A = some (a, c, vs) → Row W 56 a c vs ∧ From W0.heap.size a
  z : ∀ g, Z = some g → Lies W g 3 [.int .i64 0]
  t : ∀ g vs, T = some (g, vs) → Row W 56 (some ⟨g, 0, none⟩) 3 vs
  ap : ∀ a c vs g us, A = some (a, c, vs) → T = some (g, us) → a ≠ some ⟨g, 0, none⟩
section
variable {W0 W W' : World} {A : Option (Option Addr × Nat × List Value)} {Z : Option Nat} {T : Option (Nat × List Value)}
set_option maxRecDepth 100000 in
theorem RegSt.start (b : Below W0.heap.size W0 W) : RegSt W0 W none none none := ⟨b, (fun _ _ _ e => nomatch e), (fun _ e => nomatch e), (fun _ _ e => nomatch e), (fun _ _ _ _ _ e => nomatch e)⟩
set_option maxRecDepth 100000 in
theorem RegSt.below (h : RegSt W0 W A Z T) (b : Below W.heap.size W W') : RegSt W0 W' A Z T :=
  ⟨h.bel.trans (b.mono h.bel.size), fun a c vs e => ⟨(h.row a c vs e).1.below b, (h.row a c vs e).2⟩, fun g e => (h.z g e).below b (h.z g e).lt, fun g vs e => (h.t g vs e).below b, h.ap⟩
set_option maxRecDepth 100000 in
theorem RegSt.allocZ (h : RegSt W0 W A none T) : RegSt W0 (W.alloc (.cells #[.int .i64 0] 3)) A (some W.heap.size) T := by
  have k := h.below (below_alloc W (.cells #[.int .i64 0] 3))
  exact ⟨k.bel, k.row, (fun g e => by injection e with e; subst e; exact Lies.new W 3 [.int .i64 0]), k.t, k.ap⟩
set_option maxRecDepth 100000 in
theorem RegSt.allocT (h : RegSt W0 W A Z none) (x y z : Value) : RegSt W0 (W.alloc (.cells #[x, y, z] 56)) A Z (some (W.heap.size, [x, y, z])) := by
  have k := h.below (below_alloc W (.cells #[x, y, z] 56))
  refine ⟨k.bel, k.row, k.z, fun g vs e => ?_, fun a c vs g us e1 e2 e3 => ?_⟩
  · injection e with e; injection e with e1 e2; subst e1; subst e2
    exact row_lies (Lies.new W 56 [x, y, z]) (by simp)
  · injection e2 with e2; injection e2 with e2 e4; subst e2
    exact Nat.lt_irrefl _ ((h.row a c vs e1).1.lt e3)
set_option maxRecDepth 100000 in
theorem RegSt.copied (h : RegSt W0 W none Z T) {a : Option Addr} {c : Nat} {vs : List Value} (b : Below W.heap.size W W') (r : Row W' 56 a c vs) (f : From W.heap.size a) : RegSt W0 W' (some (a, c, vs)) Z T := by
  have k := h.below b
  refine ⟨k.bel, fun a' c' vs' e => ?_, k.z, k.t, fun a' c' vs' g us e1 e2 e3 => ?_⟩
  · injection e with e; injection e with e1 e2; injection e2 with e2 e3; subst e1; subst e2; subst e3
    exact ⟨r, f.mono h.bel.size⟩
  · injection e1 with e1; injection e1 with e1 _; subst e1
    have h1 := f g e3
    have h2 := (h.t g us e2).lt rfl
    omega
set_option maxRecDepth 100000 in
theorem RegSt.apped {a : Option Addr} {c : Nat} {vs ys : List Value} {v : Value} (h : RegSt W0 W (some (a, c, vs)) Z T) (q : Appends 56 a vs ys W v W') :
    ∃ a' c', v = .slice a' (vs.length + ys.length) c' ∧ RegSt W0 W' (some (a', c', vs ++ ys)) Z T := by
  obtain ⟨r0, f0⟩ := h.row a c vs rfl
  obtain ⟨bb, ff⟩ := q.below (B := W0.heap.size) h.bel.size f0
  obtain ⟨a', c', rfl, r, k, fr⟩ := q
  refine ⟨a', c', rfl, h.bel.trans bb, fun a2 c2 vs2 e => ?_, fun g e => ?_, fun g us e => ?_, fun a2 c2 vs2 g us e1 e2 e3 => ?_⟩
  · injection e with e; injection e with e1 e2; injection e2 with e2 e3; subst e1; subst e2; subst e3
    exact ⟨r, ff _ _ _ rfl⟩
  · refine (h.z g e).kept k (fun hx => ?_)
    rcases r0 with ⟨h1, _⟩ | ⟨g1, sp, h1, _, _, l1⟩
    · rw [h1] at hx; cases hx
    · rw [h1] at hx; injection hx with hx; injection hx with hx; subst hx
      exact l1.other (h.z _ e) (by decide) rfl
  · exact (h.t g us e).kept k (fun g' e' => by injection e' with e'; injection e' with e'; subst e'; exact h.ap _ _ _ _ _ rfl e)
  · injection e1 with e1; injection e1 with e1 _; subst e1
    rcases fr g e3 with h1 | h1
    · exact h.ap _ _ _ _ _ rfl e2 h1
    · have := (h.t g us e2).lt rfl
      omega
end

/-- The words of a linear set with noughts behind them, in any order, and noughts alone. -/
structure Again (x : Lin) (ps : List (List Int)) : Prop where
  each : ∀ p ∈ ps, (∃ q ∈ x.ps, p = q ++ [0, 0]) ∨ ((∀ n ∈ p, n = 0) ∧ p.length ≤ 2)
  all : ∀ q ∈ x.ps, q ++ [0, 0] ∈ ps
set_option maxRecDepth 100000 in
theorem Again.of {x : Lin} (hx : rightLin x = true) {ps : List (List Int)} (h : Again x ps) : ofOk (x.base ++ [0]) ps = true ∧ ofLin (x.base ++ [0]) ps = x := by
  have X := rightLin_iff.1 hx
  have z1 : ∀ n ∈ ([0] : List Int), n = 0 := by simp
  have z2 : ∀ n ∈ ([0, 0] : List Int), n = 0 := by simp
  refine of_again hx (norm_noughts X.1 z1) (lost_right X.1 z1) (fun p hp => ?_) (fun q => ?_)
  · rcases h.each p hp with ⟨q, hq, rfl⟩ | ⟨hz, _⟩
    · exact lost_right (X.2.1 q hq).1 z2
    · exact lost_zeros hz
  · simp only [ofNorm, List.mem_filter, List.mem_map, decide_eq_true_eq]
    constructor
    · rintro ⟨⟨p, hp, rfl⟩, hne⟩
      rcases h.each p hp with ⟨q, hq, rfl⟩ | ⟨hz, _⟩
      · rw [norm_noughts (X.2.1 q hq).1 z2]; exact hq
      · exact absurd (norm_zeros hz) hne
    · intro hq
      exact ⟨⟨_, h.all q hq, norm_noughts (X.2.1 q hq).1 z2⟩, (X.2.1 q hq).2⟩
set_option maxRecDepth 100000 in
theorem Again.short {x : Lin} (hx : rightLin x = true) {ps : List (List Int)} (h : Again x ps) (j : Nat) : (ps.getD j []).length ≤ 1000 := by
  have X := rightLin_iff.1 hx
  by_cases hj : j < ps.length
  · have hm : ps.getD j [] ∈ ps := by simp [List.getD, hj]
    rcases h.each _ hm with ⟨q, hq, e⟩ | ⟨_, hl⟩
    · have := (right_iff.1 (X.2.1 q hq).1).1
      rw [e]; simp; omega
    · omega
  · simp [List.getD, hj]
def noughted (x : Lin) : List (List Int) := x.ps.map (fun q => q ++ [0, 0])
set_option maxRecDepth 100000 in
theorem again_nil {x : Lin} (h : x.ps = []) : Again x [] := ⟨(fun p hp => by simp at hp), (fun q hq => by rw [h] at hq; simp at hq)⟩
set_option maxRecDepth 100000 in
theorem again_turned {x : Lin} {ps : List (List Int)} (k : Nat) (hk : k < ps.length) (h : ps = noughted x) : Again x ((ps.drop k ++ ps.take k) ++ [ps.getD k [], [], [0]]) := by
  have hm : ∀ p, p ∈ ps ↔ ∃ q ∈ x.ps, p = q ++ [0, 0] := fun p => by
    rw [h]; simp only [noughted, List.mem_map]
    constructor
    · rintro ⟨q, h1, h2⟩; exact ⟨q, h1, h2.symm⟩
    · rintro ⟨q, h1, h2⟩; exact ⟨q, h1, h2.symm⟩
  constructor
  · intro p hp
    simp only [List.mem_append, List.mem_cons, List.not_mem_nil, or_false] at hp
    rcases hp with (hp | hp) | rfl | rfl | rfl
    · exact .inl ((hm p).1 (List.mem_of_mem_drop hp))
    · exact .inl ((hm p).1 (List.mem_of_mem_take hp))
    · exact .inl ((hm _).1 (by simp [List.getD, hk]))
    · exact .inr (by simp)
    · exact .inr (by simp)
  · intro q hq
    have h1 := (hm _).2 ⟨q, hq, rfl⟩
    rw [← List.take_append_drop k ps] at h1
    simp only [List.mem_append] at h1 ⊢
    rcases h1 with h1 | h1
    · exact .inl (.inr h1)
    · exact .inl (.inl h1)
end Go.Proofs.YtfkaagndlpcfdaaGreat

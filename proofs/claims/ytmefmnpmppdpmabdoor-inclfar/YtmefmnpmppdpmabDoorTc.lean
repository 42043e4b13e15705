import Derived.Test.YtmefmnpmppdpmabDoorQCf
import Derived.Deep.RegionHeld3
import Derived.Deep.CutBlock
import Derived.Deep.DeepCutAuto
import Derived.Deep.CutRange
import Derived.StillTailTactics
/- The reference's Norm: of a pattern, a right set that is not too great. -/
namespace Go.Proofs.YtmefmnpmppdpmabDoor
open Go.ChangeShapes Go.WideShapes Go.ChangeAt Go.RowKit

/-! ### Nodes, step by step -/
/-! ### Rows of sets in memory -/
/-- A set in memory. -/
structure Sx where
  a : Option Addr
  c : Nat
  s : List Lin
def Sx.val (e : Sx) : Value := .slice e.a e.s.length e.c
theorem cell_kept {X : Nat → Prop} {w w' : World} (k : Kept X w w') {p : Addr} (h : p.block < w.heap.size) (hx : ¬ X p.block) : w'.cell? p = w.cell? p := World.cell?_of_block (w := w) (k.block p.block h hx)

end Go.Proofs.YtmefmnpmppdpmabDoor
/- Plain words: a pattern with nothing added; two patterns put together. -/

/-! The reference's Norm: its answer said in full. -/
namespace Go.Proofs.YtmefmnpmppdpmabDoor
open Go.ChangeShapes Go.WideShapes Go.ChangeAt Go.RowKit

/-! ### What a pattern stands for, node by node -/
end Go.Proofs.YtmefmnpmppdpmabDoor

/-! Plain words: a pattern with nothing added; two patterns put together. -/
/-! Plain words: what a pattern stands for does not hang on names; what it costs. -/
namespace Go.Proofs.YtmefmnpmppdpmabDoor
open Go.ChangeShapes Go.WideShapes Go.ChangeAt Go.RowKit

/-! ### Names -/
/-! ### Part by part -/
/-! ### What it costs -/
end Go.Proofs.YtmefmnpmppdpmabDoor

/-! Plain words: what Check takes stands for a set, and what it costs is bounded. -/
namespace Go.Proofs.YtmefmnpmppdpmabDoor
open Go.ChangeShapes Go.WideShapes Go.ChangeAt Go.RowKit

section
variable (M : Mr) (es : List (List Lin)) (a b n : Int)
end
end Go.Proofs.YtmefmnpmppdpmabDoor

/-! Plain words: a pattern with nothing added; two patterns put together. -/
namespace Go.Proofs.YtmefmnpmppdpmabDoor
open Go.ChangeShapes Go.WideShapes Go.ChangeAt Go.RowKit

end Go.Proofs.YtmefmnpmppdpmabDoor
/- What columbaryplay.Pattern makes, in plain words, step by step, and its at; no condition. -/

/-! Rows of bools (one cell each) in memory, and append to them; the condition: what is read lies there. -/
namespace Go.Proofs.YtmefmnpmppdpmabDoor.Q
open Go.ChangeShapes Go.WideShapes Go.ChangeAt Go.RowKit

def blCells (t : Bool) : List Value := [.bool t]
def flatB (ts : List Bool) : List Value := ts.flatMap blCells
theorem flatB_cons (t : Bool) (ts : List Bool) : flatB (t :: ts) = blCells t ++ flatB ts := rfl
theorem flatB_len (ts : List Bool) : (flatB ts).length = ts.length * 1 := by
  induction ts with
  | nil => rfl
  | cons p kv ih => rw [flatB_cons, List.length_append, ih]; simp [blCells]; omega
theorem flatB_append (a b : List Bool) : flatB (a ++ b) = flatB a ++ flatB b := by unfold flatB; rw [List.flatMap_append]
theorem flatB_get (ts : List Bool) (j : Nat) (hj : j < ts.length) (i : Nat) (hi : i < 1) : (flatB ts)[j * 1 + i]? = (blCells ts[j])[i]? := by
  induction ts generalizing j with
  | nil => simp at hj
  | cons t ts ih =>
    rw [flatB_cons]
    cases j with
    | zero => rw [List.getElem?_append_left (by simp [blCells] <;> omega)]; simp
    | succ j =>
      rw [List.getElem?_append_right (by simp [blCells] <;> omega)]
      have e : (j + 1) * 1 + i - (blCells t).length = j * 1 + i := by simp [blCells]
      rw [e, ih j (by simpa using hj)]
      rfl

/-- The slice of address a and capacity c is nil, or stands at the head of a block of its own: the tokens ts, and spare room. -/
def Bls (w : World) (a : Option Addr) (c : Nat) (ts : List Bool) : Prop :=
  (a = none ∧ c = 0 ∧ ts = []) ∨ ∃ g sp, a = some ⟨g, 0, none⟩ ∧ sp.length = (c - ts.length) * 1 ∧ ts.length ≤ c ∧ c ≤ 9223372036854775807 ∧ Lies w g 4 (flatB ts ++ sp)

section
variable {w w' : World} {a : Option Addr} {c : Nat} {ts : List Bool}
theorem Bls.nil (w : World) : Bls w none 0 [] := .inl ⟨rfl, rfl, rfl⟩
theorem Bls.kept {X : Nat → Prop} (h : Bls w a c ts) (k : Kept X w w') (hx : ∀ g, a = some ⟨g, 0, none⟩ → ¬ X g) : Bls w' a c ts := by
  rcases h with h | ⟨g, sp, rfl, h1, h2, h3, l⟩
  · exact .inl h
  · exact .inr ⟨g, sp, rfl, h1, h2, h3, l.kept k (hx g rfl)⟩
theorem Bls.below (h : Bls w a c ts) (k : Below w.heap.size w w') : Bls w' a c ts := h.kept (X := fun _ => False) (Kept.of_below k) (fun _ _ h => h)
theorem Bls.lt (h : Bls w a c ts) {g : Nat} (e : a = some ⟨g, 0, none⟩) : g < w.heap.size := by
  subst e
  rcases h with ⟨h, _⟩ | ⟨g', sp, h, _, _, _, l⟩
  · cases h
  · injection h with h; injection h with h; subst h; exact l.lt
theorem Bls.le (h : Bls w a c ts) : ts.length ≤ c ∧ c ≤ 9223372036854775807 := by
  rcases h with ⟨_, rfl, rfl⟩ | ⟨g', sp, _, _, h1, h2, _⟩
  · simp
  · omega
theorem Bls.form (h : Bls w a c ts) : a = none ∨ ∃ g, a = some ⟨g, 0, none⟩ := by
  rcases h with ⟨e, _⟩ | ⟨g, _, e, _⟩
  · exact .inl e
  · exact .inr ⟨g, e⟩
/-- Where a token of a row lies. -/
structure BlAt (w : World) (g o : Nat) (t : Bool) : Prop where
  c0 : w.cell? ⟨g, o, none⟩ = some (.bool t)
theorem Bls.there (h : Bls w a c ts) {j : Nat} (hj : j < ts.length) : ∃ g, a = some ⟨g, 0, none⟩ ∧ BlAt w g (j * 1) ts[j] := by
  rcases h with ⟨_, _, rfl⟩ | ⟨g, sp, rfl, _, _, _, l⟩
  · simp at hj
  · have hl := flatB_len ts
    have hg : ∀ i, i < 1 → w.cell? ⟨g, j * 1 + i, none⟩ = (blCells ts[j])[i]? := fun i hi => by
      rw [l.cell, List.getElem?_append_left (by omega), flatB_get ts j hj i hi]
    exact ⟨g, rfl, ⟨hg 0 (by omega)⟩⟩
theorem Bls.own (h : Bls w a c ts) : w.ownsRow 0 4 1 (.slice a ts.length c) ts.length (flatB ts) := by
  refine ⟨flatB_len ts, ?_⟩
  rcases h with ⟨rfl, rfl, rfl⟩ | ⟨g, sp, rfl, h1, h2, h3, l⟩
  · exact .inl ⟨rfl, rfl⟩
  · refine .inr ⟨g, c, _, rfl, Nat.zero_le _, l, h2, by unfold maxLen; omega, ?_, ?_⟩
    · simp [flatB_len, h1]; omega
    · rw [← flatB_len ts]; simp
end



theorem Bls.alloc {w : World} {a : Option Addr} {c : Nat} {ts : List Bool} (h : Bls w a c ts) (o : Obj) : Bls (w.alloc o) a c ts := h.kept (X := fun _ => False) ((Kept.refl _ w).alloc o) (fun _ _ h => h)

theorem Bls.cut {w : World} {a : Option Addr} {c : Nat} {ts : List Bool} (h : Bls w a c ts) {k : Nat} (hk : k ≤ ts.length) : Bls w a c (ts.take k) := by
  rcases h with ⟨e1, e2, rfl⟩ | ⟨g, sp, e, h1, h2, h3, l⟩
  · exact .inl ⟨e1, e2, by simp⟩
  · refine .inr ⟨g, flatB (ts.drop k) ++ sp, e, ?_, ?_, h3, l.to ?_⟩
    · rw [List.length_append, flatB_len, List.length_take, List.length_drop, h1, Nat.min_eq_left hk]; omega
    · rw [List.length_take]; omega
    · rw [← List.append_assoc, ← flatB_append, List.take_append_drop]
end Go.Proofs.YtmefmnpmppdpmabDoor.Q

/-! What columbaryplay.Pattern keeps in memory while it makes a pattern, and the contract of its inner add; the condition: it lies there. -/
namespace Go.Proofs.YtmefmnpmppdpmabDoor.Q
open Go.ChangeShapes Go.WideShapes Go.ChangeAt Go.RowKit

section
variable {B : Nat} {w0 w w' : World} {gp go gs : Nat} {ns : List Nd} {os : List Int} {sl : List Bool} {pa oa sa : Option Addr} {pc oc sc : Nat}
end
end Go.Proofs.YtmefmnpmppdpmabDoor.Q

/-! What columbaryplay.Pattern makes, in plain words, step by step, and its at; no condition. -/
namespace Go.Proofs.YtmefmnpmppdpmabDoor.Q
open Go.ChangeShapes Go.WideShapes Go.ChangeAt Go.RowKit

/-- Nodes that are a row of parts so far; of each part whether there is a star in it. -/
structure PG (ns : List Nd) (fl : List Pr) (sl : List Bool) : Prop where
  chk : chkL 4 0 ns [] = some fl
  sln : sl.length = ns.length
  tie : ∀ e ∈ fl, ∃ j : Nat, e.1 = (j : Int) ∧ j < ns.length ∧ sl.getD j false = e.2
  nam : ∀ x ∈ ns, x.name = emp
  few : ns.length + fl.length ≤ 24
  non : fl = [] → ns = []
theorem PG.nil : PG [] [] [] := ⟨rfl, rfl, (fun e h => by cases h), (fun x h => by cases h), by simp, fun _ => rfl⟩
theorem getD_app_lt (l : List Bool) (b : Bool) (j : Nat) (h : j < l.length) : (l ++ [b]).getD j false = l.getD j false := by
  simp only [List.getD_eq_getElem?_getD]
  rw [List.getElem?_append_left h]
theorem getD_app_eq (l : List Bool) (b : Bool) : (l ++ [b]).getD l.length false = b := by simp [List.getD_eq_getElem?_getD]
theorem PG.add {ns : List Nd} {fl F : List Pr} {sl : List Bool} (h : PG ns fl sl) (x : Nd) (b : Bool) (hF : ∀ e ∈ F, e ∈ fl) (hc : chkL 4 0 (ns ++ [x]) [] = some (F ++ [((ns.length : Int), b)])) (hx : x.name = emp) (hl : ns.length + F.length + 2 ≤ 24) :
    PG (ns ++ [x]) (F ++ [((ns.length : Int), b)]) (sl ++ [b]) := by
  refine ⟨hc, by simp [h.sln], ?_, ?_, by simp; omega, fun e => by simp at e⟩
  · intro e he
    rw [List.mem_append] at he
    rcases he with he | he
    · obtain ⟨j, e1, e2, e3⟩ := h.tie e (hF e he)
      exact ⟨j, e1, by simp; omega, by rw [getD_app_lt _ _ _ (by rw [h.sln]; exact e2)]; exact e3⟩
    · simp only [List.mem_singleton] at he
      subst he
      exact ⟨ns.length, rfl, by simp, by rw [← h.sln]; exact getD_app_eq sl b⟩
  · intro y hy
    rw [List.mem_append] at hy
    rcases hy with hy | hy
    · exact h.nam y hy
    · simp only [List.mem_singleton] at hy; subst hy; exact hx
theorem len_sub (ns : List Nd) (x : Nd) : ((ns ++ [x]).length : Int) - 1 = (ns.length : Int) := by simp
theorem PG.two {ns : List Nd} {F : List Pr} {p q : Pr} {sl : List Bool} (h : PG ns (F ++ [p, q]) sl) (kind : Int) (hk : kind = 4 ∨ kind = 5) : PG (ns ++ [nTwo kind p.1 q.1]) (F ++ [((ns.length : Int), p.2 || q.2)]) (sl ++ [p.2 || q.2]) :=
  h.add _ _ (fun e he => by simp [he]) (by have := chk_two (p := p) (q := q) (fl := F) (ns := ns) (tags := 4) (by rw [h.chk]; simp) kind hk; rw [len_sub] at this; exact this) rfl (by have := h.few; simp at this; omega)
end Go.Proofs.YtmefmnpmppdpmabDoor.Q
/- Contract of columbaryplay.Pattern: it makes a pattern; the condition: the numbers lie there. -/
namespace Go.Proofs.YtmefmnpmppdpmabDoor.Q
open Go.ChangeShapes Go.WideShapes Go.ChangeAt Go.RowKit

/-- At most k nodes, no tag of more than five. -/
def Sh (k : Nat) (ns : List Nd) : Prop := ns.length ≤ k ∧ ∀ x ∈ ns, x.kind = 3 → x.a ≤ 5
theorem Sh.add {k : Nat} {ns : List Nd} (h : Sh k ns) (x : Nd) (hx : x.kind = 3 → x.a ≤ 5) : Sh (k + 1) (ns ++ [x]) :=
  ⟨by rw [List.length_append]; have := h.1; simp; omega, fun y hy => by
    rcases List.mem_append.1 hy with hy | hy
    · exact h.2 y hy
    · obtain rfl := List.mem_singleton.1 hy
      exact hx⟩
theorem Sh.mono {k l : Nat} {ns : List Nd} (h : Sh k ns) (hl : k ≤ l) : Sh l ns := ⟨Nat.le_trans h.1 hl, h.2⟩
/-- Such nodes first, then sums and cats alone. -/
def Sh2 (k : Nat) (ns : List Nd) : Prop := ∃ A B, ns = A ++ B ∧ Sh k A ∧ ∀ x ∈ B, x.kind = 4 ∨ x.kind = 5
theorem Sh2.of {k : Nat} {ns : List Nd} (h : Sh k ns) : Sh2 k ns := ⟨ns, [], by simp, h, fun x hx => by simp at hx⟩
theorem Sh2.add {k : Nat} {ns : List Nd} (h : Sh2 k ns) (x : Nd) (hx : x.kind = 4 ∨ x.kind = 5) : Sh2 k (ns ++ [x]) := by
  obtain ⟨A, B, e, hA, hB⟩ := h
  subst e
  refine ⟨A, B ++ [x], by rw [List.append_assoc], hA, fun y hy => ?_⟩
  rcases List.mem_append.1 hy with hy | hy
  · exact hB y hy
  · obtain rfl := List.mem_singleton.1 hy
    exact hx
end Go.Proofs.YtmefmnpmppdpmabDoor.Q
/- Plain words: what few numbers stand for has few periods and small numbers. -/
namespace Go.Proofs.YtmefmnpmppdpmabDoor
open Go.ChangeShapes Go.WideShapes Go.ChangeAt Go.RowKit

/-- How much there is of tag t in all words; in all bases. -/
def psum (ps : List (List Int)) (t : Nat) : Int := (ps.map (fun p => p.getD t 0)).sum
theorem psum_cons (p : List Int) (r : List (List Int)) (t : Nat) : psum (p :: r) t = p.getD t 0 + psum r t := by simp [psum]
/-- Right; at most k periods; no number above m, of the periods either; four tags; not much of a tag in all periods. -/
structure Slim (m : Int) (k : Nat) (x : Lin) : Prop where
  trim : Trim m k x
  pers : ∀ p ∈ x.ps, Small m p
  bl : x.base.length ≤ 4
  pl : ∀ p ∈ x.ps, p.length ≤ 4
  tot : ∀ t, psum x.ps t ≤ 5 * (k : Int)
theorem Slim.more {m m' : Int} {k k' : Nat} {x : Lin} (h : Slim m k x) (hm : m ≤ m') (hk : k ≤ k') : Slim m' k' x :=
  ⟨⟨h.trim.right, h.trim.base.more hm, Nat.le_trans h.trim.few hk⟩, fun p hp => (h.pers p hp).more hm, h.bl, h.pl, fun t => by have := h.tot t; omega⟩
theorem norm_get {q : List Int} (h : rightL q = true) (t : Nat) : (normL q).getD t 0 = q.getD t 0 := by
  have hr : rightL (trimL q) = true := by
    refine right_of ?_ (fun j _ => ?_) (fun h0 => trim_last h0)
    · rw [trim_len]
      have := cut_le q
      have := (right_iff.1 h).1
      omega
    · rw [trim_at]; exact right_at h j
  rw [norm_yes hr, trim_at]
/-- The open parts, each of its weight, all together at most t. -/
def StkG (P : Nat → List Lin → Prop) (es : List (List Lin)) : List (Int × Bool) → Nat → Prop
  | [], _ => True
  | p :: r, t => ∃ u v, 1 ≤ u ∧ u + v ≤ t ∧ (∃ j : Nat, p.1 = (j : Int) ∧ j < es.length ∧ P u (es.getD j [])) ∧ StkG P es r v
section
variable {P Q : Nat → List Lin → Prop}
theorem StkG.map (f : ∀ u s, P u s → Q u s) {es : List (List Lin)} : ∀ {fl : List (Int × Bool)} {t : Nat}, StkG P es fl t → StkG Q es fl t
  | [], _, _ => trivial
  | _ :: _, _, h => by
    obtain ⟨u, v, h1, huv, ⟨j, hj, hl, g⟩, r⟩ := h
    exact ⟨u, v, h1, huv, ⟨j, hj, hl, f _ _ g⟩, StkG.map f r⟩
theorem StkG.more {es : List (List Lin)} : ∀ {fl : List (Int × Bool)} {t t' : Nat}, StkG P es fl t → t ≤ t' → StkG P es fl t'
  | [], _, _, _, _ => trivial
  | _ :: _, _, _, h, le => by
    obtain ⟨u, v, h1, huv, g, r⟩ := h
    exact ⟨u, v, h1, by omega, g, r⟩
theorem StkG.push {es : List (List Lin)} (x : List Lin) : ∀ {fl : List (Int × Bool)} {t : Nat}, StkG P es fl t → StkG P (es ++ [x]) fl t
  | [], _, _ => trivial
  | _ :: _, _, h => by
    obtain ⟨u, v, h1, huv, ⟨j, hj, hl, g⟩, r⟩ := h
    refine ⟨u, v, h1, huv, ⟨j, hj, by simp; omega, ?_⟩, StkG.push x r⟩
    have : (es ++ [x]).getD j [] = es.getD j [] := by
      rw [List.getD_eq_getElem?_getD, List.getD_eq_getElem?_getD, List.getElem?_append_left hl]
    rw [this]; exact g
theorem StkG.split {es : List (List Lin)} : ∀ {A B : List (Int × Bool)} {t : Nat}, StkG P es (A ++ B) t → ∃ u v, u + v ≤ t ∧ StkG P es A u ∧ StkG P es B v
  | [], _, t, h => ⟨0, t, by omega, trivial, h⟩
  | p :: A, B, t, h => by
    obtain ⟨u, v, h1, huv, g, r⟩ := h
    obtain ⟨u', v', h', a, b⟩ := StkG.split (A := A) r
    exact ⟨u + u', v', by omega, ⟨u, u', h1, Nat.le_refl _, g, a⟩, b⟩
theorem StkG.two {es : List (List Lin)} {F : List (Int × Bool)} {p q : Int × Bool} {t : Nat} (h : StkG P es (F ++ [p, q]) t) :
    ∃ u a b i j, 1 ≤ a ∧ 1 ≤ b ∧ u + a + b ≤ t ∧ StkG P es F u ∧ p.1 = ((i : Nat) : Int) ∧ P a (es.getD i []) ∧ q.1 = ((j : Nat) : Int) ∧ P b (es.getD j []) := by
  obtain ⟨u, v, huv, hF, a, v', ha, hav, ⟨i, hi, hil, hg⟩, b, v'', hb, hbv, ⟨j, hj, hjl, hg'⟩, _⟩ := StkG.split h
  exact ⟨u, a, b, i, j, ha, hb, by omega, hF, hi, hg, hj, hg'⟩
theorem StkG.one {es : List (List Lin)} {F : List (Int × Bool)} {p : Int × Bool} {t : Nat} (h : StkG P es (F ++ [p]) t) :
    ∃ u a i, 1 ≤ a ∧ u + a ≤ t ∧ StkG P es F u ∧ p.1 = ((i : Nat) : Int) ∧ P a (es.getD i []) := by
  obtain ⟨u, v, huv, hF, a, v', ha, hav, ⟨i, hi, hil, hg⟩, _⟩ := StkG.split h
  exact ⟨u, a, i, ha, by omega, hF, hi, hg⟩
end
end Go.Proofs.YtmefmnpmppdpmabDoor

import Derived.Test.YtmefmnpmppdpmabDoorC
import Derived.Deep.OwnRows
import Derived.Test.YtmefmnpmppdpmabDoorNf
/- Contract of the reference's CheckPat: it says of every list of nodes what Check says; the condition: the nodes lie there. -/

/-! Patterns: their nodes in plain words and in memory (stage 5's texts, for this seat). -/
namespace Go.Proofs.YtmefmnpmppdpmabDoor.Q
open Go.ChangeShapes Go.WideShapes Go.ChangeAt Go.RowKit

theorem ownBlock_slice (a : Option Addr) (n c : Nat) (g : Nat) : (Value.slice a n c).ownBlock = some g ↔ ∃ x, a = some x ∧ x.block = g := by
  cases a <;> simp [Value.ownBlock]
theorem step_append_run {P : Program} (w : World) {ops : Array Oper} {o : Oper} {a : Act} {K : Act → World → Prop} {Q : Exit → Act → World → Prop} {E : Prop} (hgd : o.guard = none) (s x : Operand) (t tn : TypeId)
    (ho : o.op = .call { callee := .builtin .append, args := #[s, x], argTypes := #[t, tn] }) (vs vx : Value) (hs : a.eval s = vs) (hx : a.eval x = vx)
    (v' : Value) (w' : World) (hr : (Builtin.append_ #[t, tn] o.type #[vs, vx]).run P w = .ok v' w') (h : K (a.put o.dst v') w') :
    if Region.wanted o (yielded ops a.tmps) = true then Oper.wp P o a w K Q else E := by
  have hw : Region.wanted o (yielded ops a.tmps) = true := by simp [Region.wanted, hgd]
  rw [if_pos hw]
  exact Lib.wp_append_run w s x t tn ho vs vx hs hx v' w' hr h

theorem ret_int {k : IntKind} {a b : Int} (h : a = b) : Ending.returned (.int k a) = .returned (.int k b) := by rw [h]

structure Nd where
  kind : Int
  a : Int
  b : Int
  n : Int
  name : ByteArray
deriving DecidableEq

def emp : ByteArray := ⟨#[]⟩
def nTwo (kind : Int) (a b : Int) : Nd := ⟨kind, a, b, 0, emp⟩
abbrev Pr := Int × Bool
def partsK (k : Int) : Nat := if k = 4 ∨ k = 5 then 2 else if k = 6 then 1 else 0
def rightB (x : Nd) (tags : Int) (l : List (Int × Bool)) : Bool :=
  if x.kind = 1 ∨ x.kind = 2 then decide (x.a = 0) && (decide (x.b = 0) && decide (x.n = 0))
  else if x.kind = 3 then decide (0 ≤ x.n) && (decide (x.n < tags) && (decide (1 ≤ x.a) && (decide (x.a ≤ 999999999) && decide (x.b = 0))))
  else match l with
    | [p, q] => decide (x.kind = 4 ∨ x.kind = 5) && (decide (x.a = p.1) && (decide (x.b = q.1) && decide (x.n = 0)))
    | [p] => decide (x.kind = 6) && (!p.2 && (decide (x.a = p.1) && (decide (x.b = 0) && decide (x.n = 0))))
    | _ => false
def chkStep (tags : Int) (i : Nat) (x : Nd) (fl : List (Int × Bool)) : Option (List (Int × Bool)) :=
  if fl.length < partsK x.kind then none
  else if rightB x tags (fl.drop (fl.length - partsK x.kind)) = true then
    some (fl.take (fl.length - partsK x.kind) ++ [((i : Int), decide (x.kind = 6) || (fl.drop (fl.length - partsK x.kind)).any (·.2))])
  else none
def chkL (tags : Int) : Nat → List Nd → List (Int × Bool) → Option (List (Int × Bool))
  | _, [], fl => some fl
  | i, x :: r, fl => match chkStep tags i x fl with
    | none => none
    | some fl' => chkL tags (i + 1) r fl'
theorem chkL_snoc (tags : Int) (x : Nd) : ∀ (i : Nat) (ns : List Nd) (fl : List (Int × Bool)), chkL tags i (ns ++ [x]) fl = match chkL tags i ns fl with | none => none | some fl' => chkStep tags (i + ns.length) x fl'
  | i, [], fl => by
    simp only [List.nil_append, chkL, List.length_nil, Nat.add_zero]
    cases chkStep tags i x fl <;> rfl
  | i, y :: r, fl => by
    simp only [List.cons_append, chkL]
    cases chkStep tags i y fl with
    | none => rfl
    | some fl' => simp only; rw [chkL_snoc tags x (i + 1) r fl', List.length_cons, show i + 1 + r.length = i + (r.length + 1) by omega]

theorem chk_two {tags : Int} {ns : List Nd} {fl : List (Int × Bool)} {p q : Int × Bool} (h : chkL tags 0 ns [] = some (fl ++ [p] ++ [q])) (kind : Int) (hk : kind = 4 ∨ kind = 5) :
    chkL tags 0 (ns ++ [nTwo kind p.1 q.1]) [] = some (fl ++ [((((ns ++ [nTwo kind p.1 q.1]).length : Int) - 1), p.2 || q.2)]) := by
  have hp : partsK (nTwo kind p.1 q.1).kind = 2 := by unfold partsK; exact if_pos hk
  have hl : (fl ++ [p] ++ [q]).length - 2 = fl.length := by simp
  have hd : (fl ++ [p] ++ [q]).drop fl.length = [p, q] := by simp
  have ht : (fl ++ [p] ++ [q]).take fl.length = fl := by simp
  rw [chkL_snoc, h]
  simp only
  unfold chkStep
  rw [hp, if_neg (by simp), hl, hd, ht]
  have hr : rightB (nTwo kind p.1 q.1) tags [p, q] = true := by
    unfold rightB
    rcases hk with rfl | rfl <;> simp [nTwo]
  have h6 : ¬ (nTwo kind p.1 q.1).kind = 6 := by rcases hk with rfl | rfl <;> simp [nTwo]
  rw [if_pos hr]
  simp [h6]
section
variable {w w' : World} {a : Option Addr} {c : Nat} {ts : List Nd}
/-- Where a token of a row lies. -/
structure NdAt (w : World) (g o : Nat) (t : Nd) : Prop where
  c0 : w.cell? ⟨g, o, none⟩ = some (.int .i64 t.kind)
  c1 : w.cell? ⟨g, o + 1, none⟩ = some (.int .i64 t.a)
  c2 : w.cell? ⟨g, o + 2, none⟩ = some (.int .i64 t.b)
  c3 : w.cell? ⟨g, o + 3, none⟩ = some (.int .i64 t.n)
  c4 : w.cell? ⟨g, o + 4, none⟩ = some (.string t.name)
end




def NodesAt (w : World) (a : Option Addr) (ns : List Nd) : Prop := ∀ j (h : j < ns.length), ∃ b off, a = some ⟨b, off, none⟩ ∧ NdAt w b (off + j * 5) ns[j] ∧ b < w.heap.size
theorem NodesAt.below {w w' : World} {a : Option Addr} {l : List Nd} (h : NodesAt w a l) (b : Below w.heap.size w w') : NodesAt w' a l := fun j hj => by
  obtain ⟨x, off, e, p, hx⟩ := h j hj
  exact ⟨x, off, e, ⟨(b.cell (p := ⟨x, _, none⟩) hx).trans p.c0, (b.cell (p := ⟨x, _, none⟩) hx).trans p.c1, (b.cell (p := ⟨x, _, none⟩) hx).trans p.c2, (b.cell (p := ⟨x, _, none⟩) hx).trans p.c3, (b.cell (p := ⟨x, _, none⟩) hx).trans p.c4⟩, Nat.lt_of_lt_of_le hx b.size⟩
theorem lies_app {X : Nat → Prop} {w w' : World} {o : Obj} {g : Nat} {t : TypeId} {cs : List Value} (k : Kept X (w.alloc o) w') (l : Lies w g t cs) (hx : ¬ X g) : Lies w' g t cs := (l.alloc o).kept k hx
theorem within_mod (v : Int) (n : Nat) (w : World) (hn : 0 < n) (hm : n ≤ 9223372036854775807) (_h0 : -9223372036854775808 ≤ v) (_h1 : v ≤ 9223372036854775807) :
    Calls Tryd.prog 4 #[.int .i64 v, .int .i64 n] w fun e w' => e = .returned (.int .i64 (v % (n : Int))) ∧ w = w' := by
  have hnz : ¬ (n : Int) = 0 := by omega
  have hn1 : ¬ (n : Int) < 1 := by omega
  have hlo : -(n : Int) < v.tmod n := by have := Int.lt_tmod_of_pos v (show (0 : Int) < n by omega); omega
  have hhi : v.tmod n < (n : Int) := Int.tmod_lt_of_pos v (by omega)
  have HE : Hid (v % (n : Int) = if v.tmod n < 0 then v.tmod n + n else v.tmod n) := Lib.hid (by
    have h1 := Int.tmod_add_mul_tdiv v n
    have h2 := Int.emod_nonneg v (b := (n : Int)) (by omega)
    have h3 := Int.emod_lt_of_pos v (b := (n : Int)) (by omega)
    by_cases h : v.tmod n < 0
    · rw [if_pos h]
      have e : v = (v.tmod n + n) + (n : Int) * (v.tdiv n - 1) := by rw [Int.mul_sub]; omega
      have : v % (n : Int) = (v.tmod n + n) % (n : Int) := by conv => lhs; rw [e, Int.add_mul_emod_self_left]
      rw [this, Int.emod_eq_of_lt (by omega) (by omega)]
    · rw [if_neg h]
      have e : v = v.tmod n + (n : Int) * v.tdiv n := by omega
      have : v % (n : Int) = (v.tmod n) % (n : Int) := by conv => lhs; rw [e, Int.add_mul_emod_self_left]
      rw [this, Int.emod_eq_of_lt (by omega) (by omega)])
  generalize v % (n : Int) = z at HE ⊢
  go_enter Tryd.func4, Tryd.ntmps4
  go_wp2
  · go_ret
    exact ⟨ret_int (by rw [HE.out, if_pos ‹_›]), rfl⟩
  · go_ret
    exact ⟨ret_int (by rw [HE.out, if_neg (by omega)]), rfl⟩


end Go.Proofs.YtmefmnpmppdpmabDoor.Q

/-! Rows of numbers (one cell each) in memory, and append to them; rows of bools; the condition: what is read lies there. -/
namespace Go.Proofs.YtmefmnpmppdpmabDoor.Q
open Go.ChangeShapes Go.WideShapes Go.ChangeAt Go.RowKit

def inCells (t : Int) : List Value := [.int .i64 t]
def flatI (ts : List Int) : List Value := ts.flatMap inCells
theorem flatI_cons (t : Int) (ts : List Int) : flatI (t :: ts) = inCells t ++ flatI ts := rfl
theorem flatI_len (ts : List Int) : (flatI ts).length = ts.length * 1 := by
  induction ts with
  | nil => rfl
  | cons p kv ih => rw [flatI_cons, List.length_append, ih]; simp [inCells]; omega
theorem flatI_append (a b : List Int) : flatI (a ++ b) = flatI a ++ flatI b := by unfold flatI; rw [List.flatMap_append]
theorem flatI_get (ts : List Int) (j : Nat) (hj : j < ts.length) (i : Nat) (hi : i < 1) : (flatI ts)[j * 1 + i]? = (inCells ts[j])[i]? := by
  induction ts generalizing j with
  | nil => simp at hj
  | cons t ts ih =>
    rw [flatI_cons]
    cases j with
    | zero => rw [List.getElem?_append_left (by simp [inCells] <;> omega)]; simp
    | succ j =>
      rw [List.getElem?_append_right (by simp [inCells] <;> omega)]
      have e : (j + 1) * 1 + i - (inCells t).length = j * 1 + i := by simp [inCells]
      rw [e, ih j (by simpa using hj)]
      rfl

/-- The slice of address a and capacity c is nil, or stands at the head of a block of its own: the tokens ts, and spare room. -/
def Ins (w : World) (a : Option Addr) (c : Nat) (ts : List Int) : Prop :=
  (a = none ∧ c = 0 ∧ ts = []) ∨ ∃ g sp, a = some ⟨g, 0, none⟩ ∧ sp.length = (c - ts.length) * 1 ∧ ts.length ≤ c ∧ c ≤ 9223372036854775807 ∧ Lies w g 3 (flatI ts ++ sp)

section
variable {w w' : World} {a : Option Addr} {c : Nat} {ts : List Int}
theorem Ins.nil (w : World) : Ins w none 0 [] := .inl ⟨rfl, rfl, rfl⟩
theorem Ins.kept {X : Nat → Prop} (h : Ins w a c ts) (k : Kept X w w') (hx : ∀ g, a = some ⟨g, 0, none⟩ → ¬ X g) : Ins w' a c ts := by
  rcases h with h | ⟨g, sp, rfl, h1, h2, h3, l⟩
  · exact .inl h
  · exact .inr ⟨g, sp, rfl, h1, h2, h3, l.kept k (hx g rfl)⟩
theorem Ins.below (h : Ins w a c ts) (k : Below w.heap.size w w') : Ins w' a c ts := h.kept (X := fun _ => False) (Kept.of_below k) (fun _ _ h => h)
theorem Ins.lt (h : Ins w a c ts) {g : Nat} (e : a = some ⟨g, 0, none⟩) : g < w.heap.size := by
  subst e
  rcases h with ⟨h, _⟩ | ⟨g', sp, h, _, _, _, l⟩
  · cases h
  · injection h with h; injection h with h; subst h; exact l.lt
theorem Ins.le (h : Ins w a c ts) : ts.length ≤ c ∧ c ≤ 9223372036854775807 := by
  rcases h with ⟨_, rfl, rfl⟩ | ⟨g', sp, _, _, h1, h2, _⟩
  · simp
  · omega
theorem Ins.form (h : Ins w a c ts) : a = none ∨ ∃ g, a = some ⟨g, 0, none⟩ := by
  rcases h with ⟨e, _⟩ | ⟨g, _, e, _⟩
  · exact .inl e
  · exact .inr ⟨g, e⟩
/-- Where a token of a row lies. -/
structure InAt (w : World) (g o : Nat) (t : Int) : Prop where
  c0 : w.cell? ⟨g, o, none⟩ = some (.int .i64 t)
theorem Ins.there (h : Ins w a c ts) {j : Nat} (hj : j < ts.length) : ∃ g, a = some ⟨g, 0, none⟩ ∧ InAt w g (j * 1) ts[j] := by
  rcases h with ⟨_, _, rfl⟩ | ⟨g, sp, rfl, _, _, _, l⟩
  · simp at hj
  · have hl := flatI_len ts
    have hg : ∀ i, i < 1 → w.cell? ⟨g, j * 1 + i, none⟩ = (inCells ts[j])[i]? := fun i hi => by
      rw [l.cell, List.getElem?_append_left (by omega), flatI_get ts j hj i hi]
    exact ⟨g, rfl, ⟨hg 0 (by omega)⟩⟩
theorem Ins.own (h : Ins w a c ts) : w.ownsRow 0 3 1 (.slice a ts.length c) ts.length (flatI ts) := by
  refine ⟨flatI_len ts, ?_⟩
  rcases h with ⟨rfl, rfl, rfl⟩ | ⟨g, sp, rfl, h1, h2, h3, l⟩
  · exact .inl ⟨rfl, rfl⟩
  · refine .inr ⟨g, c, _, rfl, Nat.zero_le _, l, h2, by unfold maxLen; omega, ?_, ?_⟩
    · simp [flatI_len, h1]; omega
    · rw [← flatI_len ts]; simp
end


theorem Ins.alloc {w : World} {a : Option Addr} {c : Nat} {ts : List Int} (h : Ins w a c ts) (o : Obj) : Ins (w.alloc o) a c ts := h.kept (X := fun _ => False) ((Kept.refl _ w).alloc o) (fun _ _ h => h)
theorem Ins.cut {w : World} {a : Option Addr} {c : Nat} {ts : List Int} (h : Ins w a c ts) {k : Nat} (hk : k ≤ ts.length) : Ins w a c (ts.take k) := by
  rcases h with ⟨e1, e2, rfl⟩ | ⟨g, sp, e, h1, h2, h3, l⟩
  · exact .inl ⟨e1, e2, by simp⟩
  · refine .inr ⟨g, flatI (ts.drop k) ++ sp, e, ?_, ?_, h3, l.to ?_⟩
    · rw [List.length_append, flatI_len, List.length_take, List.length_drop, h1, Nat.min_eq_left hk]; omega
    · rw [List.length_take]; omega
    · rw [← List.append_assoc, ← flatI_append, List.take_append_drop]
end Go.Proofs.YtmefmnpmppdpmabDoor.Q

/-! Contract of the reference's CheckPat: it says of every list of nodes what Check says; the condition: the nodes lie there. -/
namespace Go.Proofs.YtmefmnpmppdpmabDoor.Q
open Go.ChangeShapes Go.WideShapes Go.ChangeAt Go.RowKit

theorem kept_below {X : Nat → Prop} {w x y : World} (b : Below w.heap.size w x) (k : Kept X x y) (hX : ∀ g, X g → w.heap.size ≤ g) : Below w.heap.size w y := b.trans (k.below hX b.size)

def bools (l : List Bool) : List Value := l.map Value.bool
/-- What the reference knows of the parts: where they end, and of each place whether there is a star. -/
structure RefSt (w wr : World) (ns : List Nd) (tags : Int) (i : Nat) (fl : List Pr) (a : Option Addr) (c : Nat) (gs : Nat) (sl : List Bool) : Prop where
  ins : Ins wr a c (fl.map (·.1))
  own : ∀ g, a = some ⟨g, 0, none⟩ → w.heap.size ≤ g
  stars : Lies wr gs 4 (bools sl)
  sown : w.heap.size ≤ gs
  bel : Below w.heap.size w wr
  eq : chkL tags i (ns.drop i) fl = chkL tags 0 ns []
  len : fl.length ≤ i
  sln : sl.length = ns.length
  tie : ∀ e ∈ fl, ∃ j : Nat, e.1 = (j : Int) ∧ j < i ∧ sl.getD j false = e.2
  rest : ∀ j, i ≤ j → sl.getD j false = false
theorem RefSt.next {w wr W w5 : World} {o : Obj} {ns : List Nd} {tags : Int} {k : Nat} {fl : List Pr} {fa a' : Option Addr} {fc c' gs m : Nat} {sl sl' : List Bool} {sb : Bool} (h : RefSt w wr ns tags k fl fa fc gs sl)
    (hW : Below w.heap.size w W) (S : Lies W gs 4 (bools sl')) (T : Ins w5 a' c' ((fl.map (·.1)).take m ++ [(k : Int)])) (K : Kept (fun g => fa = some ⟨g, 0, none⟩) (W.alloc o) w5)
    (O : ∀ g, a' = some ⟨g, 0, none⟩ → fa = some ⟨g, 0, none⟩ ∨ (W.alloc o).heap.size ≤ g) (hx : ¬ fa = some ⟨gs, 0, none⟩) (hm : m ≤ fl.length)
    (eq : chkL tags 0 ns [] = chkL tags (k + 1) (ns.drop (k + 1)) (fl.take m ++ [((k : Int), sb)])) (s1 : sl'.getD k false = sb) (s2 : ∀ j, ¬ j = k → sl'.getD j false = sl.getD j false) (s3 : sl'.length = sl.length) :
    RefSt w w5 ns tags (k + 1) (fl.take m ++ [((k : Int), sb)]) a' c' gs sl' := by
  refine ⟨?_, fun g e => ?_, lies_app K S hx, h.sown, kept_below (hW.alloc hW.size _) K h.own, eq.symm, ?_, by rw [s3, h.sln], ?_, fun j hj => by rw [s2 j (by omega)]; exact h.rest j (by omega)⟩
  · rw [List.map_append, List.map_take]; exact T
  · rcases O g e with h' | h'
    · exact h.own g h'
    · have := hW.size
      simp at h'
      omega
  · rw [List.length_append, List.length_take]; have := h.len; simp only [List.length_cons, List.length_nil]; omega
  · intro e he
    rw [List.mem_append] at he
    rcases he with he | he
    · obtain ⟨j, e1, e2, e3⟩ := h.tie e (List.mem_of_mem_take he)
      exact ⟨j, e1, by omega, by rw [s2 j (by omega)]; exact e3⟩
    · simp only [List.mem_singleton] at he
      subst he
      exact ⟨k, rfl, by omega, s1⟩
end Go.Proofs.YtmefmnpmppdpmabDoor.Q
/- Plain words: how great what patterns stand for may become; the stack of open parts. -/
namespace Go.Proofs.YtmefmnpmppdpmabDoor
open Go.ChangeShapes Go.WideShapes Go.ChangeAt Go.RowKit

theorem Small.more {m m' : Int} {l : List Int} (h : Small m l) (hm : m ≤ m') : Small m' l := ⟨h.right, h.len, fun j => Int.le_trans (h.top j) hm⟩
theorem small_empty {m : Int} (hm : 0 ≤ m) : Small m [] := ⟨by decide, by simp, fun j => by simpa using hm⟩
/-- What u nodes may stand for. -/
def Good (u : Nat) (s : List Lin) : Prop := TrimS ((u : Int) * 1000000000) (2 ^ u) (2 ^ u) s
theorem pow_mono {a b : Nat} (h : a ≤ b) : 2 ^ a ≤ 2 ^ b := Nat.pow_le_pow_right (by omega) h
theorem Good.more {u v : Nat} {s : List Lin} (h : Good u s) (huv : u ≤ v) : Good v s :=
  ⟨h.rise, fun x hx => ⟨(h.each x hx).right, (h.each x hx).base.more (by omega), Nat.le_trans (h.each x hx).few (pow_mono huv)⟩, Nat.le_trans h.few (pow_mono huv)⟩
end Go.Proofs.YtmefmnpmppdpmabDoor
/- Contract of the reference's CheckPat, the walk; the condition: the nodes lie there. -/
namespace Go.Proofs.YtmefmnpmppdpmabDoor.Q
open Go.ChangeShapes Go.WideShapes Go.ChangeAt Go.RowKit

end Go.Proofs.YtmefmnpmppdpmabDoor.Q

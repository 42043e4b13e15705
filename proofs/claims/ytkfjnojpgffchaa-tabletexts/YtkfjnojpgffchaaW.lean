/- The table, and the row of pairs that the law TablePlays keeps beside it: one step of each. -/
import Derived.Test.YtkfjnojpgffchaaV
import Derived.Deep.RegionLaw
namespace Go.Proofs.Ytkfjnojpgffchaa
open Go.ChangeShapes Go.WideShapes Go.ChangeAt Go.RowKit

/-- An append whose run is known, as one step of a region that draws its order. -/
theorem step_append_run {P : Program} {ops : Array Oper} {o : Oper} {a : Act} {w : World} {K : Act → World → Prop} {Q : Exit → Act → World → Prop} {E : Prop}
    (hg : o.guard = none) (s x : Operand) (t u : TypeId) (hop : o.op = Op.call { callee := Callee.builtin Builtin.append, args := #[s, x], argTypes := #[t, u] })
    (vs vx : Value) (hs : a.eval s = vs) (hx : a.eval x = vx) {v' : Value} {w' : World} (hr : (Builtin.append_ #[t, u] o.type #[vs, vx]).run P w = .ok v' w') (hK : K (a.put o.dst v') w') :
    if Region.wanted o (yielded ops a.tmps) = true then Oper.wp P o a w K Q else E := by
  have hw : Region.wanted o (yielded ops a.tmps) = true := by simp [Region.wanted, hg]
  rw [if_pos hw]
  unfold Oper.wp
  simp [execOp, hop, resolve, invoke, builtin, hs, hx, hr, Result.andThen]
  exact hK

def putP (kv : List (Int × Int)) (k v : Int) : List (Int × Int) :=
  if has (keysOf kv) k then kv.set (spot intLt (keysOf kv) k) (k, v) else kv.take (spot intLt (keysOf kv) k) ++ (k, v) :: kv.drop (spot intLt (keysOf kv) k)
def dropP (kv : List (Int × Int)) (k : Int) : List (Int × Int) :=
  if has (keysOf kv) k then kv.take (spot intLt (keysOf kv) k) ++ kv.drop (spot intLt (keysOf kv) k + 1) else kv

theorem putP_keys {kv : List (Int × Int)} (hu : Up intLt (keysOf kv)) (k v : Int) : keysOf (putP kv k v) = putK intLt (keysOf kv) k := by
  unfold putP putK keysOf
  split
  · rename_i h
    rw [List.map_set]
    have := (spot_has intOrder hu k).1 h
    exact List.ext_getElem? fun i => by
      rw [List.getElem?_set]
      split
      · rename_i e; subst e
        split
        · exact this.symm
        · rename_i hn; rw [List.getElem?_eq_none (by omega)]
      · rfl
  · simp
theorem putP_vals (kv : List (Int × Int)) (k v : Int) : valsOf (putP kv k v) = putV intLt (keysOf kv) (valsOf kv) k v := by
  unfold putP putV valsOf
  split
  · rw [List.map_set]
  · simp
theorem dropP_keys (kv : List (Int × Int)) (k : Int) : keysOf (dropP kv k) = dropL (keysOf kv) (keysOf kv) k := by
  unfold dropP dropL
  split
  · simp
  · rfl
theorem dropP_vals (kv : List (Int × Int)) (k : Int) : valsOf (dropP kv k) = dropL (keysOf kv) (valsOf kv) k := by
  unfold dropP dropL
  split
  · simp
  · rfl

/-- A table that has the pairs kt, and a row beside it that has the pairs kv, both made since w. -/
structure Both (w : World) (b : Nat) (kt kv : List (Int × Int)) (m : Nat) (la : Option Addr) (lc : Nat) (wr : World) : Prop where
  tab : Tab 60 3 3 wr (fun g => w.heap.size ≤ g ∧ la ≠ some ⟨g, 0, none⟩) b (ints (keysOf kt)) (ints (valsOf kt))
  up : Up intLt (keysOf kt)
  len : kt.length ≤ m
  row : Row2 wr la lc kv
  new : ∀ g, la = some ⟨g, 0, none⟩ → w.heap.size ≤ g
  bel : Below w.heap.size w wr

theorem both_new (w : World) : Both w w.heap.size [] [] 0 none 0 (w.alloc (.cells #[.slice none 0 0, .slice none 0 0] 60)) :=
  ⟨(tab_new 60 3 3 w).mono (fun g _ e => ⟨by rw [e]; exact Nat.le_refl _, fun h => nomatch h⟩), up_nil, Nat.le_refl _, Row2.nil _, (fun _ e => nomatch e), (Below.refl _ _).alloc (Nat.le_refl _) _⟩

section
variable {w wr w2 : World} {b : Nat} {kt kv kt' : List (Int × Int)} {m m' : Nat} {la la' : Option Addr} {lc lc' : Nat}
/-- The table has turned. -/
theorem Both.table (h : Both w b kt kv m la lc wr) (t : Tab 60 3 3 w2 (fun g => (w.heap.size ≤ g ∧ la ≠ some ⟨g, 0, none⟩) ∨ wr.heap.size ≤ g) b (ints (keysOf kt')) (ints (valsOf kt')))
    (u : Up intLt (keysOf kt')) (l : kt'.length ≤ m') (k : Kept (fun g => w.heap.size ≤ g ∧ la ≠ some ⟨g, 0, none⟩) wr w2) : Both w b kt' kv m' la lc w2 := by
  refine ⟨t.mono (fun g _ hg => ?_), u, l, h.row.kept k (fun g e hx => hx.2 e), h.new, h.bel.trans (k.below (fun _ h => h.1) h.bel.size)⟩
  rcases hg with hg | hg
  · exact hg
  · exact ⟨by have := h.bel.size; omega, fun e => by have := h.row.lt e; omega⟩
/-- The row has turned. -/
theorem Both.rowed (h : Both w b kt kv m la lc wr) {kv' : List (Int × Int)} (r : Row2 w2 la' lc' kv') (k : Kept (fun g => la = some ⟨g, 0, none⟩) wr w2) (f : ∀ g, la' = some ⟨g, 0, none⟩ → la = some ⟨g, 0, none⟩ ∨ wr.heap.size ≤ g) :
    Both w b kt kv' m la' lc' w2 := by
  refine ⟨?_, h.up, h.len, r, fun g e => ?_, h.bel.trans (k.below (fun g e => h.new g e) h.bel.size)⟩
  · have t1 := h.tab.mono (Y := fun g => (w.heap.size ≤ g ∧ la ≠ some ⟨g, 0, none⟩) ∧ la' ≠ some ⟨g, 0, none⟩) (fun g hg hx => ⟨hx, fun e => by
      rcases f g e with e | e
      · exact hx.2 e
      · omega⟩)
    exact (t1.kept k (fun g hx e => hx.1.2 e)).mono (fun g _ hx => ⟨hx.1.1, hx.2⟩)
  · rcases f g e with e | e
    · exact h.new g e
    · have := h.bel.size; omega
end

/-- What a Drop of k from such a table comes to. -/
theorem both_drop {w wr : World} {b : Nat} {kv : List (Int × Int)} {m : Nat} {la : Option Addr} {lc : Nat} (k : Int) (h : Both w b kv kv m la lc wr) (hm : m ≤ 1000) :
    Calls Try.prog 11 #[.pointer (some ⟨b, 0, none⟩), .int .i64 k] wr fun e w2 =>
      e = .returned (.tuple #[.int .i64 (hasV intLt (keysOf kv) (valsOf kv) k 0), .bool (has (keysOf kv) k)]) ∧ Both w b (dropP kv k) kv (m + 1) la lc w2 := by
  have hl := h.len
  refine (drop_ii _ b (keysOf kv) (valsOf kv) k wr h.tab (by simp; omega) h.up (by simp)).mono ?_
  rintro e w2 ⟨rfl, t, kp⟩
  refine ⟨rfl, h.table (by rw [dropP_keys, dropP_vals]; exact t) ?_ ?_ kp⟩
  · rw [dropP_keys]
    unfold dropL
    split
    · exact up_del h.up _
    · exact h.up
  · unfold dropP
    split
    · simp; omega
    · omega

theorem both_put {w wr : World} {b : Nat} {kv : List (Int × Int)} {m : Nat} {la : Option Addr} {lc : Nat} (k v : Int) (h : Both w b kv kv m la lc wr) (hm : m ≤ 1000) :
    Calls Try.prog 12 #[.pointer (some ⟨b, 0, none⟩), .int .i64 k, .int .i64 v] wr fun e w2 =>
      e = .returned (.tuple #[.int .i64 (hasV intLt (keysOf kv) (valsOf kv) k 0), .bool (has (keysOf kv) k)]) ∧ Both w b (putP kv k v) kv (m + 1) la lc w2 := by
  have hl := h.len
  refine (put_ii _ b (keysOf kv) (ints (valsOf kv)) k v wr h.tab (by simp; omega) h.up (by simp [ints]) (ints_one _)).mono ?_
  rintro e w2 ⟨rfl, t, kp⟩
  have hv : hasV intLt (keysOf kv) (ints (valsOf kv)) k (.int .i64 0) = .int .i64 (hasV intLt (keysOf kv) (valsOf kv) k 0) := by
    cases hh : has (keysOf kv) k with
    | true =>
      have hlt := spot_lt intOrder h.up hh
      rw [hasV_yes hh rfl (by simpa [ints] using hlt), hasV_yes hh rfl (by simpa using hlt)]
      simp [ints]
    | false => rw [hasV_no hh, hasV_no hh]
  refine ⟨by rw [hv], h.table (by rw [putP_keys h.up, putP_vals, ← putV_ints]; exact t) ?_ ?_ kp⟩
  · rw [putP_keys h.up]; exact putK_up intOrder h.up k
  · unfold putP
    have := spot_le (lt := intLt) (keysOf kv) k
    split
    · simp; omega
    · simp; omega

theorem Kept.cell {X : Nat → Prop} {w w' : World} (h : Kept X w w') {p : Addr} {v : Value} (hv : w.cell? p = some v) (hx : ¬ X p.block) : w'.cell? p = some v :=
  (World.cell?_of_block (h.block p.block (World.block_lt_of_cell? w p hv) hx)).trans hv

theorem Row2.cells {w : World} {g c : Nat} {kv : List (Int × Int)} (h : Row2 w (some ⟨g, 0, none⟩) c kv) {i : Nat} (hi : i ≤ kv.length) : ∀ j u, (flat (kv.drop i))[j]? = some u → w.cell? ⟨g, i * 2 + j, none⟩ = some u := by
  intro j u hj
  rcases h with ⟨e, _⟩ | ⟨g', sp, e, h1, h2, h3, l⟩
  · cases e
  · injection e with e; injection e with e; subst e
    rw [← (flat_split kv i hi).2, List.getElem?_drop] at hj
    rw [l.cell, List.getElem?_append_left (List.getElem?_eq_some_iff.1 hj).1]
    exact hj

/-- The row without its i-th pair: by two appends. -/
theorem l_drop {w wr : World} {b : Nat} {kt kv : List (Int × Int)} {m g lc i : Nat} (h : Both w b kt kv m (some ⟨g, 0, none⟩) lc wr) (hi : i < kv.length) (hb : kv.length ≤ 1000) (o2 c2 : Nat) (ho : kv.length - (i + 1) = 0 ∨ o2 = (i + 1) * 2) :
    ∃ a1 c1 w1 a3 c3 w3, (Builtin.append_ #[25, 25] 25 #[.slice none 0 0, .slice (some ⟨g, 0, none⟩) i lc]).run Try.prog wr = .ok (.slice a1 i c1) w1 ∧
      (Builtin.append_ #[25, 25] 25 #[.slice a1 i c1, .slice (some ⟨g, o2, none⟩) (kv.length - (i + 1)) c2]).run Try.prog w1 = .ok (.slice a3 (kv.length - 1) c3) w3 ∧
      Both w b kt (kv.take i ++ kv.drop (i + 1)) m a3 c3 w3 := by
  have hl1 : (kv.take i).length = i := by rw [List.length_take]; omega
  obtain ⟨a1, c1, w1, r1, R1, K1, F1⟩ := app2 25 none 0 [] (some ⟨g, 0, none⟩) lc (kv.take i) wr (Row2.nil wr) (fun e => nomatch e) (fun ad e j u hj => by
    injection e with e; subst e
    have := (h.row.cut (j := i) (by omega)).cells (i := 0) (Nat.zero_le _) j u (by simpa using hj)
    rw [Addr.add_lit]
    simpa using this) (by rw [hl1]; simp; omega) (n := 0) (m := i) rfl hl1.symm
  rw [Nat.zero_add] at r1
  rw [List.nil_append] at R1
  have hd : (kv.drop (i + 1)).length = kv.length - (i + 1) := by rw [List.length_drop]
  obtain ⟨a3, c3, w3, r3, R3, K3, F3⟩ := app2 25 a1 c1 (kv.take i) (some ⟨g, o2, none⟩) c2 (kv.drop (i + 1)) w1 R1 (fun e => nomatch e) (fun ad e j u hj => by
    injection e with e; subst e
    rcases ho with ho | ho
    · rw [List.eq_nil_of_length_eq_zero (hd.trans ho)] at hj
      simp [flat] at hj
    · subst ho
      rw [Addr.add_lit]
      exact K1.cell (h.row.cells (i := i + 1) (by omega) j u hj) (fun e => nomatch e)) (by rw [hl1, hd]; omega) (n := i) (m := kv.length - (i + 1)) hl1.symm hd.symm
  rw [show i + (kv.length - (i + 1)) = kv.length - 1 by omega] at r3
  refine ⟨a1, c1, w1, a3, c3, w3, r1, r3, h.rowed R3 ?_ (fun e' e => ?_)⟩
  · have hK : Kept (fun _ => False) wr w3 := (K1.mono (Y := fun _ => False) (fun _ _ e => nomatch e)).trans K3 (fun k hk e => by
      rcases F1 k e with e | e
      · cases e
      · omega)
    exact hK.mono (fun _ _ h => h.elim)
  · rcases F3 e' e with e | e
    · rcases F1 e' e with e | e
      · cases e
      · exact .inr e
    · exact .inr (Nat.le_trans K1.size e)

/-- The row with one pair more at i: by three appends. -/
theorem l_put {w wr : World} {b : Nat} {kt kv : List (Int × Int)} {m lc i : Nat} {la : Option Addr} (h : Both w b kt kv m la lc wr) (hi : i ≤ kv.length) (hb : kv.length ≤ 1000) (x v : Int) (s1 : Option Addr) (c1 : Nat)
    (hs : s1 = none → c1 = 0 ∧ kv.drop i = []) (hc : ∀ ad, s1 = some ad → ∀ j u, (flat (kv.drop i))[j]? = some u → wr.cell? (ad.add j) = some u) :
    ∃ ra rc w1 a2 c2 w2 a3 c3 w3, (Builtin.append_ #[25, 25] 25 #[.slice none 0 0, .slice s1 (kv.length - i) c1]).run Try.prog wr = .ok (.slice ra (kv.length - i) rc) w1 ∧
      (Builtin.append_ #[25, 25] 25 #[.slice la i lc, .slice (some ⟨w1.heap.size, 0, none⟩) 1 1]).run Try.prog (w1.alloc (.cells #[.int .i64 x, .int .i64 v] 29)) = .ok (.slice a2 (i + 1) c2) w2 ∧
      (Builtin.append_ #[25, 25] 25 #[.slice a2 (i + 1) c2, .slice ra (kv.length - i) rc]).run Try.prog w2 = .ok (.slice a3 (kv.length + 1) c3) w3 ∧
      Both w b kt (kv.take i ++ (x, v) :: kv.drop i) m a3 c3 w3 := by
  have hd : (kv.drop i).length = kv.length - i := by rw [List.length_drop]
  have hl1 : (kv.take i).length = i := by rw [List.length_take]; omega
  obtain ⟨ra, rc, w1, r1, R1, K1, F1⟩ := app2 25 none 0 [] s1 c1 (kv.drop i) wr (Row2.nil wr) hs hc (by rw [hd]; simp; omega) (n := 0) (m := kv.length - i) rfl hd.symm
  rw [Nat.zero_add] at r1
  rw [List.nil_append] at R1
  have K1' : Kept (fun _ => False) wr w1 := K1.mono (fun _ _ e => nomatch e)
  have Rl : Row2 (w1.alloc (.cells #[.int .i64 x, .int .i64 v] 29)) la lc (kv.take i) := (((h.row.cut hi).kept K1' (fun _ _ h => h)).kept (X := fun _ => False) ((Kept.refl _ _).alloc _) (fun _ _ h => h))
  have hne : ∀ g, ra = some ⟨g, 0, none⟩ → ¬ la = some ⟨g, 0, none⟩ := fun g e e' => by
    have := h.row.lt e'
    rcases F1 g e with e | e
    · cases e
    · omega
  obtain ⟨a2, c2, w2, r2, R2, K2, F2⟩ := app2 25 la lc (kv.take i) (some ⟨w1.heap.size, 0, none⟩) 1 [(x, v)] (w1.alloc (.cells #[.int .i64 x, .int .i64 v] 29)) Rl (fun e => nomatch e) (fun ad e j u hj => by
    injection e with e; subst e
    rw [Addr.add_lit, Nat.zero_add]
    have := (Lies.new w1 29 [.int .i64 x, .int .i64 v]).cell j
    exact this.trans hj) (by rw [hl1]; simp; omega) (n := i) (m := 1) hl1.symm rfl
  have Rr : Row2 w2 ra rc (kv.drop i) := (R1.kept (X := fun _ => False) ((Kept.refl _ _).alloc _) (fun _ _ h => h)).kept K2 hne
  have hl2 : (kv.take i ++ [(x, v)]).length = i + 1 := by rw [List.length_append, hl1]; rfl
  obtain ⟨a3, c3, w3, r3, R3, K3, F3⟩ := app2 25 a2 c2 (kv.take i ++ [(x, v)]) ra rc (kv.drop i) w2 R2 (fun e => by
      subst e
      rcases Rr with ⟨_, h1, h2⟩ | ⟨g, _, e, _⟩
      · exact ⟨h1, h2⟩
      · cases e) (fun ad e j u hj => by
    subst e
    obtain ⟨g, e⟩ : ∃ g, ad = ⟨g, 0, none⟩ := by
      rcases Rr.form with e | ⟨g, e⟩
      · cases e
      · injection e with e; exact ⟨g, e⟩
    subst e
    rw [Addr.add_lit]
    have := Rr.cells (i := 0) (Nat.zero_le _) j u (by simpa using hj)
    simpa using this) (by rw [hl2, hd]; omega) (n := i + 1) (m := kv.length - i) hl2.symm hd.symm
  rw [show i + 1 + (kv.length - i) = kv.length + 1 by omega] at r3
  rw [List.append_assoc, List.singleton_append] at R3
  have hz : (w1.alloc (.cells #[.int .i64 x, .int .i64 v] 29)).heap.size = w1.heap.size + 1 := by simp
  have hs1 := K1.size
  refine ⟨ra, rc, w1, a2, c2, w2, a3, c3, w3, r1, r2, r3, h.rowed R3 ?_ (fun e' e => ?_)⟩
  · have k12 : Kept (fun g => la = some ⟨g, 0, none⟩) wr w2 := ((K1'.mono (fun _ _ h => h.elim)).alloc _).trans K2 (fun _ _ h => h)
    exact k12.trans K3 (fun k hk e => by
      rcases F2 k e with e | e
      · exact e
      · omega)
  · rcases F3 e' e with e | e
    · rcases F2 e' e with e | e
      · exact .inl e
      · exact .inr (by omega)
    · exact .inr (by have := K2.size; omega)
end Go.Proofs.Ytkfjnojpgffchaa

/- The program's reader of patterns in memory, and contracts of its skip, next, last, add; the condition: the reader lies there. -/
import Derived.Test.YtkdejinhjdkkmaaDoorO
import Derived.Maps.OwnSet
import Derived.IntWalk
namespace Go.Proofs.YtkdejinhjdkkmaaDoor
open Go.ChangeShapes Go.WideShapes Go.ChangeAt Go.RowKit Go.Maps

/-- What stays while a text is read: its tokens, the names' map, where the reader lies; what lies below B is not turned. -/
structure Env where
  toks : List Tok
  nm : List Txt
  g : Nat
  ta : Option Addr
  tc : Nat
  mp : Nat
  B : Nat
  w0 : World
def TagMap (w : World) (mp : Nat) (nm : List Txt) : Prop :=
  ∃ n, ∃ D : DataW Unit, w.ownsMap Tryd.prog 9 (plainElem Tryd.prog 3) mp n D ∧ ∀ x : Txt, Maps.has D (.string x) = (posF x nm 0).isSome ∧ ∀ k, posF x nm 0 = some k → D.atKey (.string x) (.lit (.int .i64 0)) = .lit (.int .i64 (k : Nat))
structure Env.Ok (E : Env) : Prop where
  toks : Toks E.w0 E.ta E.tc E.toks
  tal : ∀ h, E.ta = some ⟨h, 0, none⟩ → h < E.B
  map : TagMap E.w0 E.mp E.nm
  mpl : E.mp < E.B
  len : E.toks.length ≤ 20000
  gB : E.B ≤ E.g
  ended : Ended E.toks
structure RSt (E : Env) (w : World) (i op : Nat) (st : Bool) (ns : List Nd) (na : Option Addr) (nc : Nat) : Prop where
  rd : Lies w E.g 64 [.slice E.ta E.toks.length E.tc, .map (some E.mp), .int .i64 (i : Nat), .int .i64 (op : Nat), .bool st, .slice na ns.length nc]
  nds : Nds w na nc ns
  own : ∀ h, na = some ⟨h, 0, none⟩ → E.B ≤ h
  bel : Below E.B E.w0 w
def RS (E : Env) (w : World) (i op : Nat) (st : Bool) (ns : List Nd) : Prop := ∃ na nc, RSt E w i op st ns na nc

section
variable {E : Env} {w w' : World} {i op : Nat} {st : Bool} {ns : List Nd} {na : Option Addr} {nc : Nat}
theorem RSt.drewN (h : RSt E w i op st ns na nc) (q : Nat) : RSt E (w.drewN q) i op st ns na nc := ⟨h.rd, h.nds, h.own, h.bel.trans (below_drewN _ _ _)⟩
theorem Toks.belowB {B : Nat} {a : Option Addr} {c : Nat} {ts : List Tok} (h : Toks w a c ts) (k : Below B w w') (hb : ∀ h, a = some ⟨h, 0, none⟩ → h < B) : Toks w' a c ts := by
  rcases h with h | ⟨g, sp, rfl, h1, h2, h3, l⟩
  · exact .inl h
  · exact .inr ⟨g, sp, rfl, h1, h2, h3, l.below k (hb g rfl)⟩
theorem RSt.toks (h : RSt E w i op st ns na nc) (ok : E.Ok) : Toks w E.ta E.tc E.toks := ok.toks.belowB h.bel ok.tal
theorem RSt.at (h : RSt E w i op st ns na nc) (ok : E.Ok) {j : Nat} (hj : j < E.toks.length) : ∃ g, E.ta = some ⟨g, 0, none⟩ ∧ TokAt w g (j * 5) E.toks[j] := (h.toks ok).there hj
theorem isT_at {c : UInt8} {ts : List Tok} {i : Nat} (hi : i < ts.length) : isT c (ts.drop i) = ((ts[i]).text == [c]) := by rw [List.drop_eq_getElem_cons hi]; rfl
theorem RSt.set2 (h : RSt E w i op st ns na nc) (ok : E.Ok) {v : Int} {n : Nat} (e : v = (n : Nat)) : RSt E (w.setCell ⟨E.g, 2, none⟩ (.int .i64 v)) n op st ns na nc := by
  subst e
  refine ⟨h.rd.set 2 _, h.nds.kept (X := fun x => x = E.g) ((Kept.refl (fun x => x = E.g) w).setCell (fun _ => rfl) _) (fun g e e2 => ?_), h.own, h.bel.setCell ok.gB _⟩
  subst e2
  rcases h.nds with ⟨e', _⟩ | ⟨g', sp, e', _, _, _, l⟩
  · rw [e] at e'; cases e'
  · rw [e] at e'; injection e' with e'; injection e' with e'
    exact Lies.other h.rd l (by decide) e'
end
theorem str_test (x : Txt) (c : UInt8) : ((str x).toList == [c]) = decide (x = [c]) := by
  have := str_eq (str x) [c]
  rw [str_data] at this
  rw [← this]
  simp [str]


set_option maxHeartbeats 1000000 in
theorem skip_yes (E : Env) (ok : E.Ok) (w : World) (i op : Nat) (st : Bool) (ns : List Nd) (na : Option Addr) (nc : Nat) (R : RSt E w i op st ns na nc) (hi : i < E.toks.length) (c : UInt8) (hT : isT c (E.toks.drop i) = true) :
    Calls Tryd.prog 76 #[.pointer (some ⟨E.g, 0, none⟩), .string ⟨#[c]⟩] w fun e w' => e = .returned (.bool true) ∧ RSt E w' (i + 1) op st ns na nc := by
  obtain ⟨gt, hta, T⟩ := R.at ok hi
  have hx : (E.toks[i]).text = [c] := by rw [isT_at hi] at hT; simpa using hT
  have c4 := T.c4
  rw [hx] at c4
  have e4 : str [c] = ⟨#[c]⟩ := rfl
  rw [e4] at c4
  have r0 := R.rd.cell 0
  have r2 := R.rd.cell 2
  simp only [List.getElem?_cons_zero, List.getElem?_cons_succ] at r0 r2
  have fz := R.rd.frozen
  rw [hta] at r0
  have hl := ok.len
  have HR := Lib.hid R
  have HK := Lib.hid ok
  clear hta T hx e4 hT R ok
  go_enter Tryd.func76, Tryd.ntmps76
  go_wp2_with (fail)
  go_quiet (fail)
  go_wp2
  go_ret
  exact ⟨rfl, RSt.set2 (HR.out.drewN _) HK.out (by omega)⟩
set_option maxHeartbeats 1000000 in
theorem skip_no (E : Env) (ok : E.Ok) (w : World) (i op : Nat) (st : Bool) (ns : List Nd) (na : Option Addr) (nc : Nat) (R : RSt E w i op st ns na nc) (hi : i < E.toks.length) (c : UInt8) (hT : isT c (E.toks.drop i) = false) :
    Calls Tryd.prog 76 #[.pointer (some ⟨E.g, 0, none⟩), .string ⟨#[c]⟩] w fun e w' => e = .returned (.bool false) ∧ RSt E w' i op st ns na nc := by
  obtain ⟨gt, hta, T⟩ := R.at ok hi
  have hx : ¬ (E.toks[i]).text = [c] := by rw [isT_at hi] at hT; simpa using hT
  have c4 := T.c4
  have hne : ((str (E.toks[i]).text).toList == [c]) = false := by rw [str_test]; simpa using hx
  generalize str (E.toks[i]).text = s at c4 hne
  have r0 := R.rd.cell 0
  have r2 := R.rd.cell 2
  simp only [List.getElem?_cons_zero, List.getElem?_cons_succ] at r0 r2
  have fz := R.rd.frozen
  rw [hta] at r0
  have hl := ok.len
  have HR := Lib.hid R
  have HK := Lib.hid ok
  clear hta T hx hT R ok
  go_enter Tryd.func76, Tryd.ntmps76
  go_wp2_with (fail)
  go_quiet (fail)
  go_wp2
  go_ret
  exact ⟨rfl, HR.out.drewN _⟩

theorem RSt.alloc {E : Env} {w : World} {i op : Nat} {st : Bool} {ns : List Nd} {na : Option Addr} {nc : Nat} (h : RSt E w i op st ns na nc) (ok : E.Ok) (o : Obj) : RSt E (w.alloc o) i op st ns na nc :=
  ⟨h.rd.alloc o, h.nds.alloc o, h.own, h.bel.alloc (Nat.le_of_lt (Nat.lt_of_le_of_lt ok.gB h.rd.lt)) o⟩
theorem RSt.below {E : Env} {w w' : World} {i op : Nat} {st : Bool} {ns : List Nd} {na : Option Addr} {nc : Nat} (h : RSt E w i op st ns na nc) (ok : E.Ok) (b : Below w.heap.size w w') : RSt E w' i op st ns na nc :=
  ⟨h.rd.below b h.rd.lt, h.nds.below b, h.own, h.bel.trans (b.mono (Nat.le_of_lt (Nat.lt_of_le_of_lt ok.gB h.rd.lt)))⟩
theorem RSt.far {E : Env} {w : World} {i op : Nat} {st : Bool} {ns : List Nd} {na : Option Addr} {nc : Nat} (h : RSt E w i op st ns na nc) {gt : Nat} {t : TypeId} {cs : List Value} (L : Lies w gt t cs) (h1 : t ≠ 64) (h2 : t ≠ 45) (hB : E.B ≤ gt) (o : Nat) (v : Value) :
    RSt E (w.setCell ⟨gt, o, none⟩ v) i op st ns na nc := by
  refine ⟨h.rd.far (Lies.other h.rd L h1.symm) v, h.nds.kept (X := fun x => x = gt) ((Kept.refl (fun x => x = gt) w).setCell (fun _ => rfl) _) (fun g e e2 => ?_), h.own, h.bel.setCell hB _⟩
  subst e2
  rcases h.nds with ⟨e', _⟩ | ⟨g', sp, e', _, _, _, l⟩
  · rw [e] at e'; cases e'
  · rw [e] at e'; injection e' with e'; injection e' with e'
    exact Lies.other L l h2 e'
theorem RSt.fill5 {E : Env} {w : World} {i op : Nat} {st : Bool} {ns : List Nd} {na : Option Addr} {nc : Nat} (h : RSt E w i op st ns na nc) {gt : Nat} {t : TypeId} {x0 x1 x2 x3 x4 : Value} (L : Lies w gt t [x0, x1, x2, x3, x4]) (h1 : t ≠ 64) (h2 : t ≠ 45) (hB : E.B ≤ gt) (y0 y1 y2 y3 y4 : Value) :
    RSt E (((((w.setCell ⟨gt, 0, none⟩ y0).setCell ⟨gt, 1, none⟩ y1).setCell ⟨gt, 2, none⟩ y2).setCell ⟨gt, 3, none⟩ y3).setCell ⟨gt, 4, none⟩ y4) i op st ns na nc ∧
      Lies (((((w.setCell ⟨gt, 0, none⟩ y0).setCell ⟨gt, 1, none⟩ y1).setCell ⟨gt, 2, none⟩ y2).setCell ⟨gt, 3, none⟩ y3).setCell ⟨gt, 4, none⟩ y4) gt t [y0, y1, y2, y3, y4] := by
  have L1 := L.set 0 y0
  have L2 := L1.set 1 y1
  have L3 := L2.set 2 y2
  have L4 := L3.set 3 y3
  have L5 := L4.set 4 y4
  exact ⟨((((h.far L h1 h2 hB 0 y0).far L1 h1 h2 hB 1 y1).far L2 h1 h2 hB 2 y2).far L3 h1 h2 hB 3 y3).far L4 h1 h2 hB 4 y4, L5⟩
def tokV (t : Tok) : Value := .agg #[.int .i64 (t.kind : Nat), .int .i64 (t.n : Nat), .int .i64 (t.line : Nat), .int .i64 (t.col : Nat), .string (str t.text)]
set_option maxRecDepth 100000 in
set_option maxHeartbeats 1000000 in
theorem next_any (E : Env) (ok : E.Ok) (w : World) (i op : Nat) (st : Bool) (ns : List Nd) (na : Option Addr) (nc : Nat) (R : RSt E w i op st ns na nc) (hi : i < E.toks.length) :
    Calls Tryd.prog 45 #[.pointer (some ⟨E.g, 0, none⟩)] w fun e w' => e = .returned (tokV E.toks[i]) ∧ RSt E w' (i + 1) op st ns na nc := by
  have hl := ok.len
  have R1 := R.alloc ok (.cells #[.int .i64 0, .int .i64 0, .int .i64 0, .int .i64 0, .string ⟨#[]⟩] 90)
  have L1 := Lies.new w 90 [.int .i64 0, .int .i64 0, .int .i64 0, .int .i64 0, .string ⟨#[]⟩]
  have R2 := RSt.set2 R1 ok (v := (i : Int) + 1) (n := i + 1) (by omega)
  have hne : ¬ w.heap.size = E.g := by have := R.rd.lt; omega
  have L2 := Lies.far L1 (p := ⟨E.g, 2, none⟩) hne (.int .i64 ((i : Int) + 1))
  have r2 := R1.rd.cell 2
  simp only [List.getElem?_cons_zero, List.getElem?_cons_succ] at r2
  have fz := R1.rd.frozen
  have HR2 := Lib.hid R2
  have HL2 := Lib.hid L2
  have HK := Lib.hid ok
  have HGB : Hid (E.B ≤ w.heap.size) := Lib.hid (Nat.le_of_lt (Nat.lt_of_le_of_lt ok.gB R.rd.lt))
  clear R R1 R2 L1 L2 hne
  go_enter Tryd.func45, Tryd.ntmps45
  go_wp2_with (fail)
  generalize (w.alloc (.cells #[.int .i64 0, .int .i64 0, .int .i64 0, .int .i64 0, .string ⟨#[]⟩] 90)).setCell ⟨E.g, 2, none⟩ (.int .i64 ((i : Int) + 1)) = W2 at HR2 HL2 ⊢
  have hgB : E.B ≤ w.heap.size := HGB.out
  generalize w.heap.size = gt at HL2 hgB ⊢
  have HGB2 := Lib.hid hgB
  clear hgB HGB
  refine wp_region_still_tail 11 (by kernel_rfl) (by kernel_rfl) ?_
  change wpStill _ _ W2.drew (fun a' => wpList _ _ _ _ a' W2.drew) _ _
  have HR3 : Hid (RSt E W2.drew (i + 1) op st ns na nc) := Lib.hid (HR2.out.drewN 1)
  have HL3 : Hid (Lies W2.drew gt _ _) := Lib.hid (Lies.drew HL2.out)
  clear HR2 HL2
  generalize W2.drew = W3 at *
  rename Hid (RSt E W3 (i + 1) op st ns na nc) => HR2
  rename Hid (Lies W3 gt _ _) => HL2
  obtain ⟨gk, hta, T⟩ := HR2.out.at HK.out hi
  have c0 := T.c0
  have c1 := T.c1
  have c2 := T.c2
  have c3 := T.c3
  have c4 := T.c4
  clear r2 fz T
  have r0 := HR2.out.rd.cell 0
  have r2 := HR2.out.rd.cell 2
  simp only [List.getElem?_cons_zero, List.getElem?_cons_succ] at r0 r2
  rw [hta] at r0
  have l0 := HL2.out.cell 0
  have l1 := HL2.out.cell 1
  have l2 := HL2.out.cell 2
  have l3 := HL2.out.cell 3
  have l4 := HL2.out.cell 4
  simp only [List.getElem?_cons_zero, List.getElem?_cons_succ] at l0 l1 l2 l3 l4
  have fz := HL2.out.frozen
  clear hta
  have hw : IntKind.i64.wrap (i : Int) = (i : Int) := IntWalk.i64_in _ (by omega)
  simp only [List.take_succ_cons, List.take_zero, List.drop_succ_cons, List.drop_zero]
  repeat still_step
  refine wpStill_nil ?_
  clear hw
  go_wp2
  have F := HR2.out.fill5 HL2.out (by decide) (by decide) HGB2.out (.int .i64 (E.toks[i].kind : Nat)) (.int .i64 (E.toks[i].n : Nat)) (.int .i64 (E.toks[i].line : Nat)) (.int .i64 (E.toks[i].col : Nat)) (.string (str E.toks[i].text))
  generalize ((((W3.setCell ⟨gt, 0, none⟩ (.int .i64 (E.toks[i].kind : Nat))).setCell ⟨gt, 1, none⟩ (.int .i64 (E.toks[i].n : Nat))).setCell ⟨gt, 2, none⟩ (.int .i64 (E.toks[i].line : Nat))).setCell ⟨gt, 3, none⟩ (.int .i64 (E.toks[i].col : Nat))).setCell ⟨gt, 4, none⟩ (.string (str E.toks[i].text)) = W4 at F ⊢
  obtain ⟨R4, L4⟩ := F
  have m0 := L4.cell 0
  have m1 := L4.cell 1
  have m2 := L4.cell 2
  have m3 := L4.cell 3
  have m4 := L4.cell 4
  simp only [List.getElem?_cons_zero, List.getElem?_cons_succ] at m0 m1 m2 m3 m4
  exact bodyPost_ret (v := tokV E.toks[i]) (by simp [results, Tryd.results45, go_sem, tokV, m0, m1, m2, m3, m4]) rfl ⟨rfl, R4⟩
theorem last_any (E : Env) (w : World) (i op : Nat) (st : Bool) (ns : List Nd) (na : Option Addr) (nc : Nat) (R : RSt E w i op st ns na nc) (hn : ns.length ≤ 100000) :
    Calls Tryd.prog 77 #[.pointer (some ⟨E.g, 0, none⟩)] w fun e w' => e = .returned (.int .i64 ((ns.length : Int) - 1)) ∧ w = w' := by
  have r5 := R.rd.cell 5
  simp only [List.getElem?_cons_zero, List.getElem?_cons_succ] at r5
  clear R
  go_enter Tryd.func77, Tryd.ntmps77
  go_wp2
  go_ret
  exact ⟨rfl, rfl⟩
end Go.Proofs.YtkdejinhjdkkmaaDoor

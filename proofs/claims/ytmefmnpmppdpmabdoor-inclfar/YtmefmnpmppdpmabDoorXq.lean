import Derived.Test.YtmefmnpmppdpmabDoorXp
import Derived.Test.YtmefmnpmppdpmabDoorXa
import Derived.Maps.OwnOps
import Derived.Maps.OwnSet
import Derived.Maps.Views
import Derived.StringKeys
import Derived.Lib.AppendIntMem
/- Where the program's search stands: its record, its map of texts, the pairs put in. -/
namespace Go.Proofs.YtmefmnpmppdpmabDoor
open Go.ChangeShapes Go.WideShapes Go.ChangeAt Go.RowKit Go.Maps

theorem Tryd.law9u : Keyed Tryd.prog 9 := string_keyed Tryd.underlying9
/-- The map at block b has just the texts T. -/
def MapU (w : World) (b : Nat) (T : List (List UInt8)) : Prop :=
  ∃ D : DataW Unit, w.ownsMap Tryd.prog 9 unitElem b T.length D ∧ ∀ t : List UInt8, Maps.has D (.string t) = decide (t ∈ T)
theorem MapU.new (w : World) : MapU (w.alloc (.map #[] 0)) w.heap.size [] := ⟨.map [], World.ownsMap_made w _ _ _, fun t => by simp; rfl⟩
theorem MapU.kept {X : Nat → Prop} {w w' : World} {b : Nat} {T : List (List UInt8)} (h : MapU w b T) (k : Kept X w w') (hx : ¬ X b) : MapU w' b T := by
  obtain ⟨D, o, hD⟩ := h
  have hlt := o.lt
  obtain ⟨es, clock, hb, F, hs, hd⟩ := o
  exact ⟨D, ⟨es, clock, (k.block b hlt hx).trans hb, F, hs, hd⟩, hD⟩
theorem MapU.lt {w : World} {b : Nat} {T : List (List UInt8)} (h : MapU w b T) : b < w.heap.size := by
  obtain ⟨D, o, hD⟩ := h
  exact o.lt
theorem MapU.cells {w : World} {b g : Nat} {T : List (List UInt8)} {t : TypeId} {cs : List Value} (h : MapU w b T) (l : Lies w g t cs) : g ≠ b := fun e => by
  obtain ⟨D, ⟨es, clock, hb, _⟩, _⟩ := h
  subst e
  unfold Lies at l
  rw [hb] at l
  cases l
theorem mapU_put {D : DataW Unit} (hm : IsMap D) {T : List (List UInt8)} (hD : ∀ t : List UInt8, Maps.has D (.string t) = decide (t ∈ T)) (y : List UInt8) (d : DataW Unit) (t : List UInt8) :
    Maps.has (D.put (.string y) d) (.string t) = decide (t ∈ T ++ [y]) := by
  by_cases h : t = y
  · subst h
    rw [has_put_same hm (show WideAt.IsKeyLit (.string t) from trivial)]
    simp
  · rw [has_put_other (fun e => h (by injection e)), hD t]
    simp [h]
theorem mapU_step {w w' : World} {gm : Nat} {T : List (List UInt8)} {D : DataW Unit} {y : List UInt8} {d : DataW Unit} (ho : w.ownsMap Tryd.prog 9 unitElem gm T.length D) (hD : ∀ t : List UInt8, Maps.has D (.string t) = decide (t ∈ T))
    (h1 : w'.ownsMap Tryd.prog 9 unitElem gm (T.length + 1) (D.put (.string y) d)) (hg : w.grownBy w' (some gm)) : MapU w' gm (T ++ [y]) ∧ Kept (fun g => g = gm) w w' := by
  refine ⟨⟨_, by rw [List.length_append]; exact h1, mapU_put (ho.tidy Tryd.law9u).isMap hD y d⟩, hg.os, hg.tape, hg.output, hg.size, fun g hl hx => hg.block g hl (fun e => hx (by injection e))⟩
/-- A pair's text, as the program has it. -/
def keyT (z : Pr) : List UInt8 := keyB z.c z.l
/-- What may be said of a pair, that it has a text. -/
structure PairR (z : Pr) : Prop where
  c : rightL z.c = true
  l : TextI z.l
  few : z.l.length ≤ 50000000
theorem key_key {z : Pr} (h : PairR z) : keyOf Tryd.prog 9 (.string ⟨(keyT z).toArray⟩) = some (.string (keyT z)) := by
  have h1 := keyB_len h.c h.l
  have h2 := h.few
  have := Go.WideMaps.keyOf_string_mk (P := Tryd.prog) (s := ⟨(keyT z).toArray⟩) Tryd.underlying9 (by unfold maxLen; show (keyB z.c z.l).toArray.size ≤ _; rw [List.size_toArray]; omega)
  simpa using this
theorem met_key {Q : List Pr} (hQ : ∀ z ∈ Q, PairR z) {p : Pr} (hp : PairR p) : keyT p ∈ Q.map keyT ↔ metP Q p.c p.l = true := by
  rw [met_iff, List.mem_map]
  constructor
  · rintro ⟨z, hz, e⟩
    have hz' := hQ z hz
    obtain ⟨e1, e2⟩ := key_inj hz'.c hp.c hz'.l hp.l e
    exact ⟨z, hz, e1, e2⟩
  · rintro ⟨z, hz, e1, e2⟩
    exact ⟨z, hz, by unfold keyT; rw [e1, e2]⟩
/-- The table of powers of ten stands, whatever turns of the meter. -/
def TabM (mp : Option Addr) (w0 : World) : Prop := ∀ V, MK mp w0 V → Lib.TabIs Tryd.prog V "internal/strconv.uint64pow10" .u64 Lib.pow10Tab
/-- What a step of the search may turn. -/
def SX (mp : Option Addr) (gs gm : Nat) (qa : Option Addr) (g : Nat) : Prop := mp = some ⟨g, 0, none⟩ ∨ g = gs ∨ g = gm ∨ qa = some ⟨g, 0, none⟩
def sqCells (mp : Option Addr) (bv : Value) (lv : Nat) (qa : Option Addr) (n qc gm : Nat) : List Value := [.pointer mp, bv, .int .i64 (lv : Nat), .slice qa n qc, .map (some gm)]
/-- Where a search stands: P is what was put in and not taken, T the texts of all that was. -/
structure SqAt (w0 : World) (mp : Option Addr) (M : Mr) (gs gm : Nat) (bv : Value) (lv : Nat) (qa : Option Addr) (qc : Nat) (P : List Pr) (T : List (List UInt8)) (W : World) : Prop where
  meter : MrAt W 73 mp M
  old : ∀ g, mp = some ⟨g, 0, none⟩ → g < w0.heap.size
  kept : MK mp w0 W
  map : MapU W gm T
  hm : w0.heap.size ≤ gm
  box : Lies W gs 46 (sqCells mp bv lv qa P.length qc gm)
  hs : w0.heap.size ≤ gs
  prs : Qrs W qa qc P
  new : From w0.heap.size qa
section
variable {w0 W W' : World} {mp : Option Addr} {M M' : Mr} {gs gm lv : Nat} {bv : Value} {qa : Option Addr} {qc : Nat} {P : List Pr} {T : List (List UInt8)}
theorem SqAt.below (h : SqAt w0 mp M gs gm bv lv qa qc P T W) (b : Below W.heap.size W W') : SqAt w0 mp M gs gm bv lv qa qc P T W' :=
  ⟨h.meter.below b, h.old, h.kept.then b, h.map.kept (X := fun _ => False) (Kept.of_below b) (fun e => e), h.hm, h.box.below b h.box.lt, h.hs, h.prs.below b, h.new⟩
theorem meter_farQ (h : MrAt W 73 mp M) : FarQ (fun g => mp = some ⟨g, 0, none⟩) W := by
  have hap : ∀ (t : TypeId) (g : Nat) (cs : List Value), t ≠ 73 → Lies W g t cs → mp ≠ some ⟨g, 0, none⟩ := fun t g cs ht l e => by
    rcases h.form with h | ⟨b, h, cs', l'⟩
    · rw [h] at e; cases e
    · rw [h] at e; injection e with e; injection e with e; subst e
      exact l.other l' ht rfl
  exact ⟨fun g cs l => hap _ g cs (by decide) l, fun g cs l => hap _ g cs (by decide) l⟩
theorem SqAt.spent (h : SqAt w0 mp M gs gm bv lv qa qc P T W) (m : MrAt W' 73 mp M') (k : MK mp W W') : SqAt w0 mp M' gs gm bv lv qa qc P T W' :=
  ⟨m, h.old, h.kept.and k, h.map.kept k (fun e => by have := h.old _ e; have := h.hm; omega), h.hm, h.box.kept k (fun e => by have := h.old _ e; have := h.hs; omega), h.hs,
   h.prs.far k (meter_farQ h.meter) (fun g e e2 => by have := h.old _ e2; have := h.new g e; omega), h.new⟩
/-- No block that a step may turn is one of bags' or of items. -/
theorem SqAt.far (h : SqAt w0 mp M gs gm bv lv qa qc P T W) : FarQ (SX mp gs gm qa) W := by
  have hm := meter_farQ h.meter
  refine ⟨fun g cs l e => ?_, fun g cs l e => ?_⟩
  · rcases e with e | e | e | e
    · exact hm.1 g cs l e
    · subst e; exact l.other h.box (by decide) rfl
    · exact h.map.cells l e
    · obtain ⟨ds, l2⟩ := h.prs.lies e
      exact l.other l2 (by decide) rfl
  · rcases e with e | e | e | e
    · exact hm.2 g cs l e
    · subst e; exact l.other h.box (by decide) rfl
    · exact h.map.cells l e
    · obtain ⟨ds, l2⟩ := h.prs.lies e
      exact l.other l2 (by decide) rfl
/-- A text is put into the map. -/
theorem SqAt.put (h : SqAt w0 mp M gs gm bv lv qa qc P T W) {y : List UInt8} (hT : MapU W' gm (T ++ [y])) (k : Kept (fun g => g = gm) W W') : SqAt w0 mp M gs gm bv lv qa qc P (T ++ [y]) W' := by
  have hsz := h.hm
  have hf : FarQ (fun g => g = gm) W := ⟨fun g cs l e => h.map.cells l e, fun g cs l e => h.map.cells l e⟩
  exact ⟨h.meter.kept k (fun g e e2 => by have := h.old _ e; omega), h.old, h.kept.trans k (fun i hi e => by omega), hT, h.hm, h.box.kept k (h.map.cells h.box), h.hs,
    h.prs.far k hf (fun g e e2 => by obtain ⟨cs, l2⟩ := h.prs.lies e; exact h.map.cells l2 e2), h.new⟩
/-- The row has grown, and the record names it. -/
theorem SqAt.push (h : SqAt w0 mp M gs gm bv lv qa qc P T W) {R : List Pr} {n : Nat} (hn : R.length = n) {qa' : Option Addr} {qc' : Nat} (r : Qrs W' qa' qc' R) (k : Kept (fun g => qa = some ⟨g, 0, none⟩) W W') (f : ∀ g, qa' = some ⟨g, 0, none⟩ → qa = some ⟨g, 0, none⟩ ∨ W.heap.size ≤ g) :
    SqAt w0 mp M gs gm bv lv qa' qc' R T (W'.setCell ⟨gs, 3, none⟩ (.slice qa' n qc')) ∧ Kept (SX mp gs gm qa) W (W'.setCell ⟨gs, 3, none⟩ (.slice qa' n qc')) := by
  subst hn
  have hsz := h.kept.size
  have hbox : Lies W' gs 46 (sqCells mp bv lv qa P.length qc gm) := h.box.kept k (fun e => by
    obtain ⟨cs, l2⟩ := h.prs.lies e
    exact h.box.other l2 (by decide) rfl)
  have hmap : MapU W' gm T := h.map.kept k (fun e => by
    obtain ⟨cs, l2⟩ := h.prs.lies e
    exact h.map.cells l2 rfl)
  have hmet : MrAt W' 73 mp M := h.meter.kept k (fun g e e2 => by have := h.old _ e; have := h.new _ e2; omega)
  have hk : MK mp w0 W' := h.kept.trans k (fun i hi e => by have := h.new _ e; omega)
  have k2 : Kept (fun g => g = gs) W' (W'.setCell ⟨gs, 3, none⟩ (.slice qa' R.length qc')) := (Kept.refl (fun g => g = gs) W').setCell (p := ⟨gs, 3, none⟩) (fun _ => rfl) _
  have hnew : From w0.heap.size qa' := fun g e => by
    rcases f g e with e | e
    · exact h.new g e
    · omega
  have hq : ∀ g, qa' = some ⟨g, 0, none⟩ → ¬ g = gs := fun g e e2 => by
    obtain ⟨cs, l2⟩ := r.lies e
    subst e2
    exact hbox.other l2 (by decide) rfl
  refine ⟨⟨hmet.kept k2 (fun g e e2 => by have := h.old _ e; have := h.hs; omega), h.old, hk.trans k2 (fun i hi e => by have := h.hs; omega), hmap.kept k2 (fun e => hmap.cells hbox e.symm), h.hm, ?_, h.hs,
    r.far k2 ⟨fun g cs l e => by subst e; exact l.other hbox (by decide) rfl, fun g cs l e => by subst e; exact l.other hbox (by decide) rfl⟩ hq, hnew⟩, ?_⟩
  · have := hbox.set 3 (.slice qa' R.length qc')
    simpa [sqCells] using this
  · exact (k.mono (Y := SX mp gs gm qa) (fun g _ e => .inr (.inr (.inr e)))).trans k2 (fun g hg e => .inr (.inl e))
end
/-- What a step of the search comes to. -/
def SqRet (w0 : World) (mp : Option Addr) (gs gm : Nat) (bv : Value) (lv k0 : Nat) (qa : Option Addr) (W : World) (r : List Pr × Int × Mr) (e : Ending) (w' : World) : Prop :=
  e = .returned (.int .i64 r.2.1) ∧ ∃ qa' qc', SqAt w0 mp r.2.2 gs gm bv lv qa' qc' (r.1.drop k0) (r.1.map keyT) w' ∧ Kept (SX mp gs gm qa) W w' ∧ ∀ g, qa' = some ⟨g, 0, none⟩ → qa = some ⟨g, 0, none⟩ ∨ W.heap.size ≤ g
/-- A pair is put in, if it was not met. -/
def addP (p : Pr) (Q : List Pr) (M : Mr) : List Pr × Int × Mr :=
  if metP Q p.c p.l = true then (Q, 0, M)
  else if (spendM M 1).1 = true then (Q ++ [p], 0, (spendM M 1).2)
  else (Q, 7, (spendM M 1).2)
theorem read_add {x : Lin} {b : List Lin} {q : Pr} {c : List Int} {Q : List Pr} {M : Mr} : readP x b q c Q M =
    if (nextM M b q.l (oddN c)).2.1 = 0 then addP ⟨halfL c, (nextM M b q.l (oddN c)).1, wordStep q.w (oddN c) q.n, q.n + 1⟩ Q (nextM M b q.l (oddN c)).2.2 else (Q, (nextM M b q.l (oddN c)).2) := rfl
end Go.Proofs.YtmefmnpmppdpmabDoor

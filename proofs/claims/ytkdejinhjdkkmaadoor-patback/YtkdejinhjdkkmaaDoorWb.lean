/- Contracts of the Builder's WriteByte, WriteString and String inside a writer; the condition: the writer lies there, and there is room. -/
import Derived.Test.YtkdejinhjdkkmaaDoorWa
namespace Go.Proofs.YtkdejinhjdkkmaaDoor
open Go.ChangeShapes Go.WideShapes Go.ChangeAt Go.RowKit Go.Maps

theorem Row.own1 {w : World} {t : TypeId} {a : Option Addr} {c : Nat} {xs : List Value} (h : Row w t a c xs) {B : Nat} (hB : ∀ g, a = some ⟨g, 0, none⟩ → B ≤ g) : w.ownsRow B t 1 (.slice a xs.length c) xs.length xs := by
  refine ⟨by omega, ?_⟩
  rcases h with ⟨rfl, rfl, rfl⟩ | ⟨g, sp, rfl, hc, hm, l⟩
  · exact .inl ⟨rfl, rfl⟩
  · refine .inr ⟨g, c, _, rfl, hB g rfl, l, by omega, by unfold maxLen; omega, ?_, ?_⟩
    · simp [hc]
    · simp
theorem Tryd.info5 : (Tryd.prog.info? 5).map (fun i => (i.zero, i.size, i.bytes)) = some (some (.int .u8 0), 1, 1) := by kernel_rfl
/-- What was written is put into the writer's buffer. -/
theorem WSt.put {E : WEnv} {w w2 : World} {l l' : Txt} {p : Value} {ba : Option Addr} {bc n : Nat} {v' : Value} (h : WSt E w l p ba bc) (ok : E.Ok) (hg : w.grownBy w2 (Value.slice ba l.length bc).ownBlock) (hown : w2.ownsRow E.B 5 1 v' n (Lib.byteCells l')) :
    ∃ a' c', v' = .slice a' l'.length c' ∧ Lies w2 E.g 55 [.slice E.pa E.ns.length E.pc, .slice E.sa E.nm.length E.sc, p, .slice ba l.length bc] ∧ Others w (w2.setCell ⟨E.g, 3, none⟩ (.slice a' l'.length c')) ∧ WSt E (w2.setCell ⟨E.g, 3, none⟩ (.slice a' l'.length c')) l' p a' c' := by
  obtain ⟨a', c', rfl, r, f⟩ := own_row hown
  rw [Lib.byteCells_length]
  have hblk : ∀ k, (Value.slice ba l.length bc).ownBlock = some k → ba = some ⟨k, 0, none⟩ := fun k e => by
    obtain ⟨x, rfl, hx⟩ := (ownBlock_slice ba _ _ k).1 e
    rcases h.row with ⟨e', _⟩ | ⟨g', sp, e', _, _, _⟩
    · cases e'
    · injection e' with e'; subst e'; subst hx; rfl
  have K : Kept (fun g => ba = some ⟨g, 0, none⟩) w w2 := ⟨hg.os, hg.tape, hg.output, hg.size, fun k hk hx => hg.block k hk (fun e => hx (hblk k e.symm))⟩
  have L := h.rd.kept K h.ne
  have hne : ¬ a' = some ⟨E.g, 0, none⟩ := fun e => by
    rcases r with ⟨e', _⟩ | ⟨g', sp, e', _, _, L'⟩
    · rw [e] at e'; cases e'
    · rw [e] at e'; injection e' with e'; injection e' with e'
      exact Lies.other L L' (by decide) e'
  have OT : Others w (w2.setCell ⟨E.g, 3, none⟩ (.slice a' l'.length c')) := fun _ _ _ h1 h2 l' => (l'.kept K (fun e => by
    rcases h.row with ⟨e', _⟩ | ⟨g', sp, e', _, _, Lb⟩
    · rw [e] at e'; cases e'
    · rw [e] at e'; injection e' with e'; injection e' with e'
      exact Lies.other l' Lb h1 e')).far (p := ⟨E.g, 3, none⟩) (Lies.other l' h.rd h2) _
  refine ⟨a', c', rfl, L, OT, ⟨L.set 3 _, h.addr, ?_, f, ?_⟩⟩
  · exact r.kept ((Kept.refl (fun x => x = E.g) w2).setCell (fun _ => rfl) _) (fun g e e2 => by subst e2; exact hne e)
  · exact ((h.bel.trans (K.below (fun g e => h.own g e) (h.Ble ok)))).setCell ok.gB _

set_option maxHeartbeats 2000000 in
set_option maxRecDepth 100000 in
theorem wbyte_any (E : WEnv) (ok : E.Ok) (w : World) (l : Txt) (R : WS E w l) (c : UInt8) (hl : l.length + 1 ≤ 140737488355328) :
    Calls Tryd.prog 39 #[.pointer (some ⟨E.g, 2, none⟩), .int .u8 (c.toNat : Int)] w fun e w' => e = .returned .nilIface ∧ WS E w' (l ++ [c]) ∧ Others w w' := by
  obtain ⟨i0, hi, hz0, hz1, hz2⟩ := info_parts Tryd.info5
  obtain ⟨p, ba, bc, R⟩ := R
  have CC := Lib.hid (copyCheck_any E ok w l p ba bc R)
  have HK := Lib.hid ok
  clear R ok
  go_enter Tryd.func39, Tryd.ntmps39
  go_wp2_with (fail)
  refine CC.out.mono ?_
  rintro e w1 ⟨rfl, R1, O1⟩
  have HO1 := Lib.hid O1
  clear O1
  have c3 := R1.c3
  have R2 := R1.alloc HK.out (.cells #[.int .u8 (c.toNat : Int)] 5)
  have hown := R2.row.own1 R2.own
  rw [Lib.byteCells_length] at hown
  have HR2 := Lib.hid R2
  have HO := Lib.hid hown
  have HB : Hid (E.B ≤ w1.heap.size) := Lib.hid (R1.Ble HK.out)
  clear R1 R2 hown CC
  go_wp2_with (at_builtin; refine wpList_append_own _ rfl _ _ 51 rfl E.B 5 i0 (.int .u8 0) 1 1 Tryd.underlying51 hi hz0 hz1 hz2 rfl (by decide) _ l.length _ rfl HO.out ⟨w1.heap.size, 0, none⟩ 1 1 [.int .u8 (c.toNat : Int)] rfl rfl ?c1 ?c2 ?c3 ?c4 ?c5 ?_)
  case c1 =>
    intro j u hj
    match j, hj with
    | 0, hj => simp at hj; subst hj; simp [Addr.add]
  case c2 => intro u hu; simp at hu; subst hu; rfl
  case c3 => unfold maxLen; omega
  case c4 => omega
  case c5 => have := HB.out; simp; omega
  intro v' w2 hown' hgrow _
  have he : Lib.byteCells l ++ [.int .u8 (c.toNat : Int)] = Lib.byteCells (l ++ [c]) := by simp [Lib.byteCells]
  rw [he] at hown'
  obtain ⟨a', c', rfl, L2, O3, R3⟩ := HR2.out.put HK.out hgrow hown'
  generalize List.length (l ++ [c]) = m at R3 O3 ⊢
  have d3 := L2.cell 3
  have fz := L2.frozen 3
  simp only [List.getElem?_cons_zero, List.getElem?_cons_succ] at d3
  have HR3 := Lib.hid R3
  have HO3 := Lib.hid O3
  clear O3
  clear L2 R3 hown' hgrow he HR2 HO c3
  go_wp2
  go_ret
  exact ⟨rfl, ⟨_, a', c', HR3.out⟩, HO1.out.trans (((Others.refl _).alloc _).trans HO3.out)⟩
set_option maxHeartbeats 2000000 in
set_option maxRecDepth 100000 in
theorem wstring_any (E : WEnv) (ok : E.Ok) (w : World) (l : Txt) (R : WS E w l) (x : Txt) (hl : l.length + x.length ≤ 140737488355328) :
    Calls Tryd.prog 58 #[.pointer (some ⟨E.g, 2, none⟩), .string (str x)] w fun e w' => e = .returned (.tuple #[.int .i64 (x.length : Nat), .nilIface]) ∧ WS E w' (l ++ x) ∧ Others w w' := by
  obtain ⟨i0, hi, hz0, hz1, hz2⟩ := info_parts Tryd.info5
  obtain ⟨p, ba, bc, R⟩ := R
  have CC := Lib.hid (copyCheck_any E ok w l p ba bc R)
  have HK := Lib.hid ok
  have hsz := str_size x
  have HE : Hid (Lib.strCells (str x) = Lib.byteCells x) := Lib.hid rfl
  clear R ok
  generalize str x = sx at hsz HE ⊢
  rw [← hsz] at hl ⊢
  clear hsz
  go_enter Tryd.func58, Tryd.ntmps58
  go_wp2_with (fail)
  refine CC.out.mono ?_
  rintro e w1 ⟨rfl, R1, O1⟩
  have HO1 := Lib.hid O1
  clear O1
  have c3 := R1.c3
  have hown := R1.row.own1 R1.own
  rw [Lib.byteCells_length] at hown
  have HR1 := Lib.hid R1
  have HO := Lib.hid hown
  have HB : Hid (E.B ≤ w1.heap.size) := Lib.hid (R1.Ble HK.out)
  clear R1 hown CC
  go_wp2_with (at_builtin; refine Lib.wpList_append_own_string _ rfl _ _ 51 9 rfl E.B 5 i0 Tryd.underlying51 Tryd.underlying9 hi hz0 hz1 hz2 _ l.length _ rfl HO.out sx rfl ?c3 ?c4 ?c5 ?_)
  case c3 => unfold maxLen; omega
  case c4 => omega
  case c5 => exact HB.out
  intro v' w2 hown' hgrow _
  have he : Lib.byteCells l ++ Lib.strCells sx = Lib.byteCells (l ++ x) := by rw [HE.out]; simp [Lib.byteCells]
  rw [he] at hown'
  obtain ⟨a', c', rfl, L2, O3, R3⟩ := HR1.out.put HK.out hgrow hown'
  generalize List.length (l ++ x) = m at R3 O3 ⊢
  have d3 := L2.cell 3
  have fz := L2.frozen 3
  simp only [List.getElem?_cons_zero, List.getElem?_cons_succ] at d3
  have HR3 := Lib.hid R3
  have HO3 := Lib.hid O3
  clear O3
  clear L2 R3 hown' hgrow he HR1 HO c3
  go_wp2
  go_ret2
  exact ⟨rfl, ⟨_, a', c', HR3.out⟩, HO1.out.trans HO3.out⟩
set_option maxHeartbeats 1000000 in
set_option maxRecDepth 100000 in
theorem wtext_any (E : WEnv) (w : World) (l : Txt) (R : WS E w l) (h0 : l ≠ []) (hl : l.length ≤ 140737488355328) :
    Calls Tryd.prog 20 #[.pointer (some ⟨E.g, 2, none⟩)] w fun e w' => e = .returned (.string (str l)) ∧ Below E.B E.w0 w' := by
  obtain ⟨p, ba, bc, R⟩ := R
  have c3 : w.drew.cell? ⟨E.g, 3, none⟩ = some (.slice ba l.length bc) := R.c3
  have hl0 : l.length ≠ 0 := by simpa using h0
  rcases R.row with ⟨_, _, e⟩ | ⟨g, sp, rfl, hc, hm, L⟩
  · have := congrArg List.length e; rw [Lib.byteCells_length] at this; simp at this; exact absurd this h0
  have hbl := Lib.byteCells_length l
  have hbg := R.own g rfl
  have hSD : (Builtin.unsafeSliceData_ #[51] 86 #[.slice (some ⟨g, 0, none⟩) l.length bc]).run Tryd.prog w.drew = .ok (.pointer (some ⟨g, 0, none⟩)) w.drew :=
    Lib.run_unsafeSliceData_row _ _ _ _ _ _ (by omega)
  have hUS : (Builtin.unsafeString_ #[86, 3] 9 #[.pointer (some ⟨g, 0, none⟩), .int .i64 l.length]).run Tryd.prog w.drew = .ok (.string ⟨l.toArray⟩) (w.drew.freeze ⟨g, 0, none⟩ l.length) := by
    refine Lib.run_unsafeString_row w.drew 86 3 9 5 Tryd.underlying86 (by kernel_rfl) g (Lib.byteCells l ++ sp).length (L.drew.shape) l h0 (by rw [List.length_append]; omega) (by omega) ?_
    intro j x hx
    rw [Addr.add_lit]
    exact one_cell (w := w.drew) L (by simp [Lib.byteCells, hx])
  have HB := Lib.hid R.bel
  clear R L hc hm hbl h0
  go_enter Tryd.func20, Tryd.ntmps20
  go_wp2_with (fail)
  go_region
  all_goals (go_wp2; go_ret; exact ⟨rfl, Lib.below_freeze (HB.out.trans (below_drewN _ _ 1)) (p := ⟨g, 0, none⟩) hbg _⟩)
end Go.Proofs.YtkdejinhjdkkmaaDoor

/- The writer of patterns in memory, a strings.Builder inside it; contracts of the Builder's copyCheck, WriteByte, WriteString, String there; the condition: the writer lies there. -/
import Derived.Test.YtkdejinhjdkkmaaDoorCc
import Derived.Test.YtkdejinhjdkkmaaDoorRf
import Derived.Test.YtkdejinhjdkkmaaDoorShelfB
import Derived.Shelf.RegionOpenPlain
import Derived.Lib.Builder
import Derived.Lib.AppendStr
import Derived.Lib.UnsafeStr
import Derived.Laws.Externs
import Derived.Lib.LaidTab
namespace Go.Proofs.YtkdejinhjdkkmaaDoor
open Go.ChangeShapes Go.WideShapes Go.ChangeAt Go.RowKit Go.Maps

/-- What stays while a pattern is written. -/
structure WEnv where
  ns : List Nd
  nm : List Txt
  g : Nat
  pa : Option Addr
  pc : Nat
  sa : Option Addr
  sc : Nat
  B : Nat
  w0 : World
structure WEnv.Ok (E : WEnv) : Prop where
  nds : NodesAt E.w0 E.pa E.ns
  strs : Strs E.w0 E.sa E.nm
  tab : Lib.TabIs Tryd.prog E.w0 "internal/strconv.uint64pow10" .u64 Lib.pow10Tab
  len : E.ns.length ≤ 24
  nml : E.nm.length ≤ 1000000
  gB : E.B ≤ E.g
  Bs : E.B = E.w0.heap.size
/-- l: what is written so far. -/
structure WSt (E : WEnv) (w : World) (l : Txt) (p : Value) (ba : Option Addr) (bc : Nat) : Prop where
  rd : Lies w E.g 55 [.slice E.pa E.ns.length E.pc, .slice E.sa E.nm.length E.sc, p, .slice ba l.length bc]
  addr : p = .pointer none ∨ p = .pointer (some ⟨E.g, 2, none⟩)
  row : Row w 5 ba bc (Lib.byteCells l)
  own : ∀ h, ba = some ⟨h, 0, none⟩ → E.B ≤ h
  bel : Below E.B E.w0 w
def WS (E : WEnv) (w : World) (l : Txt) : Prop := ∃ p ba bc, WSt E w l p ba bc

section
variable {E : WEnv} {w w' : World} {l : Txt} {p : Value} {ba : Option Addr} {bc : Nat}
theorem WSt.drewN (h : WSt E w l p ba bc) (q : Nat) : WSt E (w.drewN q) l p ba bc := ⟨h.rd, h.addr, h.row, h.own, h.bel.trans (below_drewN _ _ _)⟩
theorem WSt.Ble (h : WSt E w l p ba bc) (ok : E.Ok) : E.B ≤ w.heap.size := Nat.le_of_lt (Nat.lt_of_le_of_lt ok.gB h.rd.lt)
theorem WSt.alloc (h : WSt E w l p ba bc) (ok : E.Ok) (o : Obj) : WSt E (w.alloc o) l p ba bc :=
  ⟨h.rd.alloc o, h.addr, h.row.below ((Below.refl _ _).alloc (Nat.le_refl _) o), h.own, h.bel.alloc (h.Ble ok) o⟩
theorem WSt.below (h : WSt E w l p ba bc) (ok : E.Ok) (k : Below w.heap.size w w') : WSt E w' l p ba bc :=
  ⟨h.rd.below k h.rd.lt, h.addr, h.row.below k, h.own, h.bel.trans (k.mono (h.Ble ok))⟩
theorem WSt.strs (h : WSt E w l p ba bc) (ok : E.Ok) : Strs w E.sa E.nm := ok.strs.below (by have := h.bel; rw [ok.Bs] at this; exact this)
theorem WSt.nodes (h : WSt E w l p ba bc) (ok : E.Ok) : NodesAt w E.pa E.ns := ok.nds.below (by have := h.bel; rw [ok.Bs] at this; exact this)
theorem WSt.ne (h : WSt E w l p ba bc) : ¬ ba = some ⟨E.g, 0, none⟩ := fun e => by
  rcases h.row with ⟨e', _⟩ | ⟨g', sp, e', _, _, L⟩
  · rw [e] at e'; cases e'
  · rw [e] at e'; injection e' with e'; injection e' with e'
    exact Lies.other h.rd L (by decide) e'
theorem WSt.c0 (h : WSt E w l p ba bc) : w.cell? ⟨E.g, 0, none⟩ = some (.slice E.pa E.ns.length E.pc) := h.rd.cell 0
theorem WSt.c1 (h : WSt E w l p ba bc) : w.cell? ⟨E.g, 1, none⟩ = some (.slice E.sa E.nm.length E.sc) := h.rd.cell 1
theorem WSt.c2 (h : WSt E w l p ba bc) : w.cell? ⟨E.g, 2, none⟩ = some p := h.rd.cell 2
theorem WSt.c3 (h : WSt E w l p ba bc) : w.cell? ⟨E.g, 3, none⟩ = some (.slice ba l.length bc) := h.rd.cell 3
theorem WSt.used (h : WSt E w l p ba bc) (ok : E.Ok) : WSt E (w.setCell ⟨E.g, 2, none⟩ (.pointer (some ⟨E.g, 2, none⟩))) l (.pointer (some ⟨E.g, 2, none⟩)) ba bc :=
  ⟨h.rd.set 2 _, .inr rfl, h.row.kept ((Kept.refl (fun x => x = E.g) w).setCell (fun _ => rfl) _) (fun g e e2 => by subst e2; exact h.ne e), h.own, h.bel.setCell ok.gB _⟩
end

/-- Whatever is no writer and no row of bytes stays as it was. -/
def Others (w w' : World) : Prop := ∀ g t cs, t ≠ 5 → t ≠ 55 → Lies w g t cs → Lies w' g t cs
theorem Others.refl (w : World) : Others w w := fun _ _ _ _ _ h => h
theorem Others.trans {a b c : World} (h : Others a b) (k : Others b c) : Others a c := fun g t cs h1 h2 l => k g t cs h1 h2 (h g t cs h1 h2 l)
theorem Others.alloc {a b : World} (h : Others a b) (o : Obj) : Others a (b.alloc o) := fun g t cs h1 h2 l => (h g t cs h1 h2 l).alloc o
theorem Others.drew {a b : World} (h : Others a b) (q : Nat) : Others a (b.drewN q) := fun g t cs h1 h2 l => h g t cs h1 h2 l
theorem Others.below {a b : World} (h : Below a.heap.size a b) : Others a b := fun _ _ _ _ _ l => l.below h l.lt
theorem WSt.others_set {E : WEnv} {w : World} {l : Txt} {p : Value} {ba : Option Addr} {bc : Nat} (h : WSt E w l p ba bc) (o : Nat) (v : Value) : Others w (w.setCell ⟨E.g, o, none⟩ v) :=
  fun _ _ _ _ h2 l' => l'.far (p := ⟨E.g, o, none⟩) (Lies.other l' h.rd h2) v
theorem byte_one (l : Txt) : ∀ x ∈ Lib.byteCells l, x.oneCell' = true := fun x hx => by
  unfold Lib.byteCells at hx
  obtain ⟨c, _, rfl⟩ := List.mem_map.1 hx
  rfl

set_option maxHeartbeats 1000000 in
set_option maxRecDepth 100000 in
theorem copyCheck_any (E : WEnv) (ok : E.Ok) (w : World) (l : Txt) (p : Value) (ba : Option Addr) (bc : Nat) (R : WSt E w l p ba bc) :
    Calls Tryd.prog 59 #[.pointer (some ⟨E.g, 2, none⟩)] w fun e w' => e = .returned (.tuple #[]) ∧ WSt E w' l (.pointer (some ⟨E.g, 2, none⟩)) ba bc ∧ Others w w' := by
  obtain ⟨j, hj, hjs⟩ : ∃ j, Tryd.prog.info? 53 = some j ∧ j.size = 2 := Option.map_eq_some_iff.1 (by kernel_rfl)
  have c2 := R.c2
  have fz := R.rd.frozen
  have hsh : w.shape? E.g = some (55, 4) := R.rd.shape
  rcases R.addr with rfl | rfl
  · have HR := Lib.hid R
    have HK := Lib.hid ok
    clear R ok
    go_enter Tryd.func59, Tryd.ntmps59
    go_wp2
    rw [Lib.run_to_unsafe w ⟨E.g, 2, none⟩ Tryd.underlying50 Tryd.underlying111 hj (by rw [hjs]; decide) hsh (by show 2 < 4; omega)]
    simp only [Result.andThen]
    rw [Oper.upon_value]
    go_wp2
    rw [run_callFunc_extern Tryd.func74 (by kernel_rfl) (by kernel_rfl) (by kernel_rfl) (e := Extern.AbiNoEscape.same) (by kernel_rfl)]
    rw [Lib.run_noEscape]
    simp only [Result.andThen]
    rw [Oper.upon_value]
    go_wp2
    rw [Lib.run_from_unsafe w ⟨E.g, 2, none⟩ Tryd.underlying111 Tryd.underlying50 hj hsh (by kernel_rfl)]
    simp only [Result.andThen]
    rw [Oper.upon_value]
    go_wp2
    go_end0
    exact ⟨rfl, HR.out.used HK.out, HR.out.others_set _ _⟩
  · have HR := Lib.hid R
    clear R ok
    go_enter Tryd.func59, Tryd.ntmps59
    go_wp2
    rw [Lib.run_neq_ptr_same w _ Tryd.underlying50 hj]
    go_wp2
    go_end0
    exact ⟨rfl, HR.out, Others.refl _⟩
end Go.Proofs.YtkdejinhjdkkmaaDoor

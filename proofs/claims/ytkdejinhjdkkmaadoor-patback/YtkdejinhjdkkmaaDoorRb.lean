/- Contract of the reader's add: one node more; the condition: the reader lies there, and there is room. -/
import Derived.Test.YtkdejinhjdkkmaaDoorRa
import Derived.Deep.RegionLaw
namespace Go.Proofs.YtkdejinhjdkkmaaDoor
open Go.ChangeShapes Go.WideShapes Go.ChangeAt Go.RowKit Go.Maps

theorem Nds.alloc_drew {w : World} {a : Option Addr} {c : Nat} {ts : List Nd} (h : Nds w a c ts) (o : Obj) : Nds (w.alloc o).drew a c ts := h.alloc o
theorem Lies.new_drew (w : World) (t : TypeId) (cs : List Value) : Lies (w.alloc (.cells cs.toArray t)).drew w.heap.size t cs := Lies.new w t cs
theorem lies_app_drew {X : Nat → Prop} {w w' : World} {o : Obj} {g : Nat} {t : TypeId} {cs : List Value} (k : Kept X (w.alloc o).drew w') (l : Lies w g t cs) (hx : ¬ X g) : Lies w' g t cs := Lies.kept (w := (w.alloc o).drew) (l.alloc o) k hx
theorem lies_app {X : Nat → Prop} {w w' : World} {o : Obj} {g : Nat} {t : TypeId} {cs : List Value} (k : Kept X (w.alloc o) w') (l : Lies w g t cs) (hx : ¬ X g) : Lies w' g t cs := (l.alloc o).kept k hx
def ndV (x : Nd) : Value := .agg #[.int .i64 x.kind, .int .i64 x.a, .int .i64 x.b, .int .i64 x.n, .string x.name]
theorem RSt.added {E : Env} {w w' : World} {o : Obj} {i op : Nat} {st : Bool} {ns : List Nd} {na a' : Option Addr} {nc c' m : Nat} {x : Nd} (h : RSt E w i op st ns na nc) (ok : E.Ok) (T : Nds w' a' c' (ns ++ [x]))
    (K : Kept (fun g => na = some ⟨g, 0, none⟩) (w.alloc o).drew w') (O : ∀ g, a' = some ⟨g, 0, none⟩ → na = some ⟨g, 0, none⟩ ∨ (w.alloc o).drew.heap.size ≤ g) (hg : ¬ na = some ⟨E.g, 0, none⟩) (hm : m = ns.length) :
    RS E (w'.setCell ⟨E.g, 5, none⟩ (.slice a' (m + 1) c')) i op st (ns ++ [x]) := by
  have L := lies_app_drew K h.rd hg
  have hB : E.B ≤ w.heap.size := Nat.le_of_lt (Nat.lt_of_le_of_lt ok.gB h.rd.lt)
  have B2 : Below E.B E.w0 (w.alloc o).drew := (h.bel.alloc hB o).trans (below_drewN _ _ 1)
  have hz : w.heap.size ≤ (w.alloc o).drew.heap.size := by
    have : (w.alloc o).heap.size = w.heap.size + 1 := by simp
    exact Nat.le_trans (Nat.le_succ _) (Nat.le_of_eq this.symm)
  refine ⟨a', c', (L.set 5 _).to ?_, T.kept (X := fun x => x = E.g) ((Kept.refl (fun x => x = E.g) w').setCell (fun _ => rfl) _) (fun g e e2 => ?_), fun g e => ?_, (B2.trans (K.below (fun g e => h.own g e) (Nat.le_trans hB hz))).setCell ok.gB _⟩
  · simp [hm]
  · subst e2
    rcases T with ⟨e', _⟩ | ⟨g', sp, e', _, _, _, l⟩
    · rw [e] at e'; cases e'
    · rw [e] at e'; injection e' with e'; injection e' with e'
      exact Lies.other L l (by decide) e'
  · rcases O g e with h' | h'
    · exact h.own g h'
    · exact Nat.le_trans (Nat.le_trans hB hz) h'
set_option maxRecDepth 100000 in
set_option maxHeartbeats 2000000 in
theorem add_any (E : Env) (ok : E.Ok) (w : World) (i op : Nat) (st : Bool) (ns : List Nd) (na : Option Addr) (nc : Nat) (R : RSt E w i op st ns na nc) (hn : ns.length ≤ 100000) (k a b n : Int) (x : ByteArray) :
    Calls Tryd.prog 78 #[.pointer (some ⟨E.g, 0, none⟩), .agg #[.int .i64 k, .int .i64 a, .int .i64 b, .int .i64 n, .string x]] w fun e w' => e = .returned (.tuple #[]) ∧ RS E w' i op st (ns ++ [⟨k, a, b, n, x⟩]) := by
  have R1 := R.alloc ok (.cells #[.int .i64 k, .int .i64 a, .int .i64 b, .int .i64 n, .string x] 45)
  have L1 := Lies.new w 45 [.int .i64 k, .int .i64 a, .int .i64 b, .int .i64 n, .string x]
  have hgl : ¬ na = some ⟨w.heap.size, 0, none⟩ := fun e => by have := R.nds.lt e; omega
  have hgl2 : ¬ na = some ⟨E.g, 0, none⟩ := by
    rintro e
    rcases R.nds with ⟨e', _⟩ | ⟨g', sp, e', _, _, _, l⟩
    · rw [e] at e'; cases e'
    · rw [e] at e'; injection e' with e'; injection e' with e'
      exact Lies.other R.rd l (by decide) e'
  have HB : Hid (E.B ≤ w.heap.size) := Lib.hid (Nat.le_of_lt (Nat.lt_of_le_of_lt ok.gB R.rd.lt))
  have hne : ¬ w.heap.size = E.g := by have := R.rd.lt; omega
  have HR1 := Lib.hid R1
  have HL1 := Lib.hid L1
  have HK := Lib.hid ok
  clear R R1 L1 ok
  obtain ⟨m, hm⟩ : ∃ m, m = ns.length := ⟨_, rfl⟩
  have HM := Lib.hid hm
  clear hm
  go_enter Tryd.func78, Tryd.ntmps78
  go_wp2_with (fail)
  generalize w.alloc (.cells #[.int .i64 k, .int .i64 a, .int .i64 b, .int .i64 n, .string x] 45) = W1 at HR1 HL1 ⊢
  generalize w.heap.size = gb at HL1 HB hgl hne ⊢
  have r5 := HR1.out.rd.cell 5
  have l0 := HL1.out.cell 0
  have l1 := HL1.out.cell 1
  have l2 := HL1.out.cell 2
  have l3 := HL1.out.cell 3
  have l4 := HL1.out.cell 4
  simp only [List.getElem?_cons_zero, List.getElem?_cons_succ] at r5 l0 l1 l2 l3 l4
  rw [← HM.out] at r5
  have hlg : E.g < W1.heap.size := HR1.out.rd.lt
  have hlb : gb < W1.heap.size := HL1.out.lt
  have f5 := HR1.out.rd.frozen 5
  go_region_law ((refine step_appN _ (by rfl) _ _ (by rfl) na nc m _ (by rfl) (by rfl) ns ⟨k, a, b, n, x⟩ (Nds.alloc_drew HR1.out.nds _) (Lies.new_drew W1 45 (ndCells ⟨k, a, b, n, x⟩)) (by have := HM.out; omega) HM.out ?_; intro a' c' w' T K2 O; (have fz : w'.frozen? ⟨E.g, 5, none⟩ = false := (lies_app_drew K2 HR1.out.rd hgl2).frozen 5); (have cz : w'.cell? ⟨E.g, 5, none⟩ = some (.slice na ns.length nc) := (lies_app_drew K2 HR1.out.rd hgl2).cell 5)))
  all_goals
    have HT := Lib.hid T
    have HK2 := Lib.hid K2
    have HO := Lib.hid O
    clear T K2 O
    go_wp2
    exact bodyPost_end (v := .tuple #[]) (by simp [results, Tryd.results78, go_sem]) rfl ⟨rfl, RSt.added HR1.out HK.out HT.out HK2.out HO.out hgl2 HM.out⟩
end Go.Proofs.YtkdejinhjdkkmaaDoor

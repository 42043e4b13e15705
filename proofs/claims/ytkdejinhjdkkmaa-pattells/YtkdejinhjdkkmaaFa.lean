/- The reference's reader of patterns in memory, and contracts of its Sign and add; the condition: the reader lies there. -/
import Derived.Test.YtkdejinhjdkkmaaRc
import Derived.Test.YtkdejinhjdkkmaaRf
import Derived.Test.YtkdejinhjdkkmaaN4
namespace Go.Proofs.Ytkdejinhjdkkmaa
open Go.ChangeShapes Go.WideShapes Go.ChangeAt Go.RowKit Go.Maps

/-- What stays while the reference reads a text. -/
structure EnvF where
  toks : List Tok
  nm : List Txt
  g : Nat
  ta : Option Addr
  tc : Nat
  sa : Option Addr
  sc : Nat
  B : Nat
  w0 : World
structure EnvF.Ok (E : EnvF) : Prop where
  toks : Toks E.w0 E.ta E.tc E.toks
  tal : ∀ h, E.ta = some ⟨h, 0, none⟩ → h < E.B
  strs : Strs E.w0 E.sa E.nm
  len : E.toks.length ≤ 20000
  nml : E.nm.length ≤ 1000000
  gB : E.B ≤ E.g
  Bs : E.B = E.w0.heap.size
  ended : Ended E.toks
structure RfSt (E : EnvF) (w : World) (i d b : Nat) (ns : List Nd) (pa : Option Addr) (pc : Nat) : Prop where
  rd : Lies w E.g 71 [.slice E.ta E.toks.length E.tc, .int .i64 (i : Nat), .slice E.sa E.nm.length E.sc, .bool false, .int .i64 (d : Nat), .int .i64 (b : Nat), .slice pa ns.length pc]
  nds : Nds w pa pc ns
  own : ∀ h, pa = some ⟨h, 0, none⟩ → E.B ≤ h
  bel : Below E.B E.w0 w
def RF (E : EnvF) (w : World) (i d b : Nat) (ns : List Nd) : Prop := ∃ pa pc, RfSt E w i d b ns pa pc

section
variable {E : EnvF} {w w' : World} {i d b : Nat} {ns : List Nd} {pa : Option Addr} {pc : Nat}
theorem RfSt.drewN (h : RfSt E w i d b ns pa pc) (q : Nat) : RfSt E (w.drewN q) i d b ns pa pc := ⟨h.rd, h.nds, h.own, h.bel.trans (below_drewN _ _ _)⟩
theorem RfSt.toks (h : RfSt E w i d b ns pa pc) (ok : E.Ok) : Toks w E.ta E.tc E.toks := ok.toks.belowB h.bel ok.tal
theorem RfSt.strs (h : RfSt E w i d b ns pa pc) (ok : E.Ok) : Strs w E.sa E.nm := ok.strs.below (by have := h.bel; rw [ok.Bs] at this; exact this)
theorem RfSt.at (h : RfSt E w i d b ns pa pc) (ok : E.Ok) {j : Nat} (hj : j < E.toks.length) : ∃ g, E.ta = some ⟨g, 0, none⟩ ∧ TokAt w g (j * 5) E.toks[j] := (h.toks ok).there hj
theorem RfSt.ne (h : RfSt E w i d b ns pa pc) : ¬ pa = some ⟨E.g, 0, none⟩ := by
  rintro e
  rcases h.nds with ⟨e', _⟩ | ⟨g', sp, e', _, _, _, l⟩
  · rw [e] at e'; cases e'
  · rw [e] at e'; injection e' with e'; injection e' with e'
    exact Lies.other h.rd l (by decide) e'
theorem RfSt.setg (h : RfSt E w i d b ns pa pc) (ok : E.Ok) (k : Nat) (v : Value) {i' d' b' : Nat}
    (e : [Value.slice E.ta E.toks.length E.tc, .int .i64 (i : Nat), .slice E.sa E.nm.length E.sc, .bool false, .int .i64 (d : Nat), .int .i64 (b : Nat), .slice pa ns.length pc].set k v = [.slice E.ta E.toks.length E.tc, .int .i64 (i' : Nat), .slice E.sa E.nm.length E.sc, .bool false, .int .i64 (d' : Nat), .int .i64 (b' : Nat), .slice pa ns.length pc]) :
    RfSt E (w.setCell ⟨E.g, k, none⟩ v) i' d' b' ns pa pc :=
  ⟨(h.rd.set k v).to e, h.nds.kept (X := fun x => x = E.g) ((Kept.refl (fun x => x = E.g) w).setCell (fun _ => rfl) _) (fun g e e2 => by subst e2; exact h.ne e), h.own, h.bel.setCell ok.gB _⟩
theorem RfSt.set1 (h : RfSt E w i d b ns pa pc) (ok : E.Ok) {v : Int} {n : Nat} (e : v = (n : Nat)) : RfSt E (w.setCell ⟨E.g, 1, none⟩ (.int .i64 v)) n d b ns pa pc := by subst e; exact h.setg ok 1 _ rfl
theorem RfSt.set4 (h : RfSt E w i d b ns pa pc) (ok : E.Ok) {v : Int} {n : Nat} (e : v = (n : Nat)) : RfSt E (w.setCell ⟨E.g, 4, none⟩ (.int .i64 v)) i n b ns pa pc := by subst e; exact h.setg ok 4 _ rfl
theorem RfSt.set5 (h : RfSt E w i d b ns pa pc) (ok : E.Ok) {v : Int} {n : Nat} (e : v = (n : Nat)) : RfSt E (w.setCell ⟨E.g, 5, none⟩ (.int .i64 v)) i d n ns pa pc := by subst e; exact h.setg ok 5 _ rfl
theorem RfSt.c0 (h : RfSt E w i d b ns pa pc) : w.cell? ⟨E.g, 0, none⟩ = some (.slice E.ta E.toks.length E.tc) := h.rd.cell 0
theorem RfSt.c1 (h : RfSt E w i d b ns pa pc) : w.cell? ⟨E.g, 1, none⟩ = some (.int .i64 (i : Nat)) := h.rd.cell 1
theorem RfSt.c2 (h : RfSt E w i d b ns pa pc) : w.cell? ⟨E.g, 2, none⟩ = some (.slice E.sa E.nm.length E.sc) := h.rd.cell 2
theorem RfSt.c3 (h : RfSt E w i d b ns pa pc) : w.cell? ⟨E.g, 3, none⟩ = some (.bool false) := h.rd.cell 3
theorem RfSt.c4 (h : RfSt E w i d b ns pa pc) : w.cell? ⟨E.g, 4, none⟩ = some (.int .i64 (d : Nat)) := h.rd.cell 4
theorem RfSt.c5 (h : RfSt E w i d b ns pa pc) : w.cell? ⟨E.g, 5, none⟩ = some (.int .i64 (b : Nat)) := h.rd.cell 5
theorem RfSt.c6 (h : RfSt E w i d b ns pa pc) : w.cell? ⟨E.g, 6, none⟩ = some (.slice pa ns.length pc) := h.rd.cell 6
theorem RfSt.alloc (h : RfSt E w i d b ns pa pc) (ok : E.Ok) (o : Obj) : RfSt E (w.alloc o) i d b ns pa pc :=
  ⟨h.rd.alloc o, h.nds.alloc o, h.own, h.bel.alloc (Nat.le_of_lt (Nat.lt_of_le_of_lt ok.gB h.rd.lt)) o⟩
theorem RfSt.below (h : RfSt E w i d b ns pa pc) (ok : E.Ok) (k : Below w.heap.size w w') : RfSt E w' i d b ns pa pc :=
  ⟨h.rd.below k h.rd.lt, h.nds.below k, h.own, h.bel.trans (k.mono (Nat.le_of_lt (Nat.lt_of_le_of_lt ok.gB h.rd.lt)))⟩
theorem RfSt.far (h : RfSt E w i d b ns pa pc) {gt : Nat} {t : TypeId} {cs : List Value} (L : Lies w gt t cs) (h1 : t ≠ 71) (h2 : pa ≠ some ⟨gt, 0, none⟩) (hB : E.B ≤ gt) (o : Nat) (v : Value) :
    RfSt E (w.setCell ⟨gt, o, none⟩ v) i d b ns pa pc :=
  ⟨h.rd.far (Lies.other h.rd L h1.symm) v, h.nds.kept (X := fun x => x = gt) ((Kept.refl (fun x => x = gt) w).setCell (fun _ => rfl) _) (fun g e e2 => by subst e2; exact h2 e), h.own, h.bel.setCell hB _⟩
end

theorem isT_true {c : UInt8} {ts : List Tok} {i : Nat} (hi : i < ts.length) : isT c (ts.drop i) = true ↔ (ts[i]).text = [c] := by rw [isT_at hi]; simp
set_option maxHeartbeats 1000000 in
theorem sign_yes (E : EnvF) (ok : E.Ok) (w : World) (i d b : Nat) (ns : List Nd) (pa : Option Addr) (pc : Nat) (R : RfSt E w i d b ns pa pc) (he : Ended (E.toks.drop i)) (c : UInt8) (hl : letter c = false) (hd : digit c = false) (hT : isT c (E.toks.drop i) = true) :
    Calls Try.prog 48 #[.pointer (some ⟨E.g, 0, none⟩), .string ⟨#[c]⟩] w (Reads (.bool true) w) := by
  have hi := drop_lt he
  obtain ⟨gt, hta, T⟩ := R.at ok hi
  have hx := (isT_true hi).1 hT
  rw [drop_cons hi] at he
  have hk := sign_kind he hx hl hd
  have c0 := T.c0
  have c4 := T.c4
  rw [hx] at c4
  rw [hk] at c0
  have e4 : str [c] = ⟨#[c]⟩ := rfl
  rw [e4] at c4
  have r0 := R.c0
  have r1 := R.c1
  rw [hta] at r0
  have hll := ok.len
  clear hta T hx e4 hT R ok hk he hl hd
  go_enter Try.func48, Try.ntmps48
  go_wp2_with (fail)
  go_quiet (fail)
  go_wp2
  go_ret
  exact ⟨rfl, _, rfl⟩
set_option maxHeartbeats 1000000 in
theorem sign_no (E : EnvF) (ok : E.Ok) (w : World) (i d b : Nat) (ns : List Nd) (pa : Option Addr) (pc : Nat) (R : RfSt E w i d b ns pa pc) (he : Ended (E.toks.drop i)) (c : UInt8) (hT : isT c (E.toks.drop i) = false) :
    Calls Try.prog 48 #[.pointer (some ⟨E.g, 0, none⟩), .string ⟨#[c]⟩] w (Reads (.bool false) w) := by
  have hi := drop_lt he
  obtain ⟨gt, hta, T⟩ := R.at ok hi
  have hx : ¬ (E.toks[i]).text = [c] := by rw [← isT_true hi, hT]; simp
  have c0 := T.c0
  have c4 := T.c4
  have hne : ((str (E.toks[i]).text).toList == [c]) = false := by rw [str_test]; simpa using hx
  generalize str (E.toks[i]).text = s at c4 hne
  have r0 := R.c0
  have r1 := R.c1
  rw [hta] at r0
  have hll := ok.len
  clear hta T hx hT R ok he
  generalize (E.toks[i]).kind = k at c0
  by_cases hk : k = 3
  · subst hk
    go_enter Try.func48, Try.ntmps48
    go_wp2_with (fail)
    go_quiet (fail)
    go_wp2
    go_ret
    exact ⟨rfl, _, rfl⟩
  · have hk1 : ¬ (k : Int) = 3 := by omega
    have hk2 : ((k : Int) == 3) = false := by simp; omega
    clear hk
    go_enter Try.func48, Try.ntmps48
    go_wp2_with (fail)
    go_quiet (fail)
    go_wp2
    go_ret
    exact ⟨rfl, _, rfl⟩

theorem RfSt.added {E : EnvF} {w w' : World} {o : Obj} {i d b : Nat} {ns : List Nd} {pa a' : Option Addr} {pc c' m : Nat} {x : Nd} (h : RfSt E w i d b ns pa pc) (ok : E.Ok) (T : Nds w' a' c' (ns ++ [x]))
    (K : Kept (fun g => pa = some ⟨g, 0, none⟩) (w.alloc o).drew w') (O : ∀ g, a' = some ⟨g, 0, none⟩ → pa = some ⟨g, 0, none⟩ ∨ (w.alloc o).drew.heap.size ≤ g) (hm : m = ns.length) :
    RfSt E (w'.setCell ⟨E.g, 6, none⟩ (.slice a' (m + 1) c')) i d b (ns ++ [x]) a' c' := by
  have L := lies_app_drew K h.rd h.ne
  have hB : E.B ≤ w.heap.size := Nat.le_of_lt (Nat.lt_of_le_of_lt ok.gB h.rd.lt)
  have B2 : Below E.B E.w0 (w.alloc o).drew := (h.bel.alloc hB o).trans (below_drewN _ _ 1)
  have hz : w.heap.size ≤ (w.alloc o).drew.heap.size := by
    have : (w.alloc o).heap.size = w.heap.size + 1 := by simp
    exact Nat.le_trans (Nat.le_succ _) (Nat.le_of_eq this.symm)
  refine ⟨(L.set 6 _).to ?_, T.kept (X := fun x => x = E.g) ((Kept.refl (fun x => x = E.g) w').setCell (fun _ => rfl) _) (fun g e e2 => ?_), fun g e => ?_, (B2.trans (K.below (fun g e => h.own g e) (Nat.le_trans hB hz))).setCell ok.gB _⟩
  · simp [hm]
  · subst e2
    rcases T with ⟨e', _⟩ | ⟨g', sp, e', _, _, _, l⟩
    · rw [e] at e'; cases e'
    · rw [e] at e'; injection e' with e'; injection e' with e'
      exact Lies.other L l (by decide) e'
  · rcases O g e with h' | h'
    · exact h.own g h'
    · exact Nat.le_trans (Nat.le_trans hB hz) h'
set_option maxRecDepth 100000 in
set_option maxHeartbeats 2000000 in
theorem fadd_any (E : EnvF) (ok : E.Ok) (w : World) (i d bd : Nat) (ns : List Nd) (pa : Option Addr) (pc : Nat) (R : RfSt E w i d bd ns pa pc) (hn : ns.length ≤ 100000) (k a b n : Int) (x : ByteArray) :
    Calls Try.prog 49 #[.pointer (some ⟨E.g, 0, none⟩), .agg #[.int .i64 k, .int .i64 a, .int .i64 b, .int .i64 n, .string x]] w fun e w' => e = .returned (.int .i64 (ns.length : Nat)) ∧ RF E w' i d bd (ns ++ [⟨k, a, b, n, x⟩]) := by
  have R1 := R.alloc ok (.cells #[.int .i64 k, .int .i64 a, .int .i64 b, .int .i64 n, .string x] 47)
  have L1 := Lies.new w 47 [.int .i64 k, .int .i64 a, .int .i64 b, .int .i64 n, .string x]
  have hgl2 := R.ne
  have hne : ¬ w.heap.size = E.g := by have := R.rd.lt; omega
  have HR1 := Lib.hid R1
  have HL1 := Lib.hid L1
  have HK := Lib.hid ok
  clear R R1 L1 ok
  obtain ⟨m, hm⟩ : ∃ m, m = ns.length := ⟨_, rfl⟩
  rw [← hm] at hn ⊢
  have HM := Lib.hid hm
  clear hm
  go_enter Try.func49, Try.ntmps49
  go_wp2_with (fail)
  generalize w.alloc (.cells #[.int .i64 k, .int .i64 a, .int .i64 b, .int .i64 n, .string x] 47) = W1 at HR1 HL1 ⊢
  generalize w.heap.size = gb at HL1 hne ⊢
  have r5 := HR1.out.c6
  have l0 := HL1.out.cell 0
  have l1 := HL1.out.cell 1
  have l2 := HL1.out.cell 2
  have l3 := HL1.out.cell 3
  have l4 := HL1.out.cell 4
  simp only [List.getElem?_cons_zero, List.getElem?_cons_succ] at l0 l1 l2 l3 l4
  rw [← HM.out] at r5
  have hlg : E.g < W1.heap.size := HR1.out.rd.lt
  have hlb : gb < W1.heap.size := HL1.out.lt
  have f5 := HR1.out.rd.frozen 6
  go_region_law ((refine step_appN _ (by rfl) _ _ (by rfl) pa pc m _ (by rfl) (by rfl) ns ⟨k, a, b, n, x⟩ (Nds.alloc_drew HR1.out.nds _) (Lies.new_drew W1 47 (ndCells ⟨k, a, b, n, x⟩)) (by have := HM.out; omega) HM.out ?_; intro a' c' w' T K2 O; (have fz : w'.frozen? ⟨E.g, 6, none⟩ = false := (lies_app_drew K2 HR1.out.rd hgl2).frozen 6); (have cz : w'.cell? ⟨E.g, 6, none⟩ = some (.slice pa ns.length pc) := (lies_app_drew K2 HR1.out.rd hgl2).cell 6)))
  all_goals
    have R2 := RfSt.added HR1.out HK.out T K2 O HM.out
    have HR2 := Lib.hid R2
    have r6 := R2.c6
    simp only [List.length_append, List.length_cons, List.length_nil, ← HM.out] at r6
    clear T K2 O R2
    go_wp2
    go_ret
    exact ⟨rfl, a', c', HR2.out⟩
end Go.Proofs.Ytkdejinhjdkkmaa

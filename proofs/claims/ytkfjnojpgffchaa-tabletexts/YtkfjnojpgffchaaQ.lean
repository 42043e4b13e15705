/- Contracts of Fold over a table of ints, at ints and at slices of ints. -/
import Derived.Test.YtkfjnojpgffchaaP
namespace Go.Proofs.Ytkfjnojpgffchaa
open Go.ChangeShapes Go.WideShapes Go.ChangeAt Go.RowKit

theorem catch_r (p q : Addr) (w : World) :
    CallsD Try.prog 65 #[.pointer (some p), .pointer (some q)] .returning w fun e u' w' => e = .returned (.tuple #[]) ∧ u' = .returning ∧ w' = w := by
  refine callsD_of_wpS Try.func65 rfl fun c₀ cs hu => ?_
  apply wpS_seq
  apply wpS_region
  simp [wpOpsS, go_sem, recoverD, hu, Try.ntmps65, Exit.thenS]
  refine wpS_cond (t := false) (by simp [Act.eval, Array.replicate]) ?_
  simp only [Bool.false_eq_true, if_false]
  refine wpS_of_wp (wp_skip ?_)
  cases c₀
  simp_all [bodyPostS, results, Try.results65]

/-- What is gathered: the cell that holds the slice, its row. -/
structure Gathers (w : World) (ks : List Int) (k : Nat) (a : Option Addr) (c : Nat) (wr : World) : Prop where
  l : Lies wr (w.heap.size + 1) 22 [.slice a k c]
  r : Row wr 3 a c (ints (ks.take k))
  f : ∀ g, a = some ⟨g, 0, none⟩ → w.heap.size + 2 ≤ g
  b : Below w.heap.size w wr
  s : w.heap.size + 2 ≤ wr.heap.size

theorem take_ints {ks : List Int} {k : Nat} (h : k < ks.length) : ints (ks.take (k + 1)) = ints (ks.take k) ++ [.int .i64 ks[k]] := by
  rw [List.take_succ_eq_append_getElem h]; unfold ints; rw [List.map_append]; rfl

theorem Gathers.next {w wr w2 : World} {ks : List Int} {k : Nat} {a a' : Option Addr} {c c' : Nat} (h : Gathers w ks k a c wr) (hk : k < ks.length)
    (r : Row w2 3 a' c' (ints (ks.take k) ++ [.int .i64 ks[k]])) (kp : Kept (fun g => a = some ⟨g, 0, none⟩) wr w2) (fr : ∀ g, a' = some ⟨g, 0, none⟩ → a = some ⟨g, 0, none⟩ ∨ wr.heap.size ≤ g) :
    Gathers w ks (k + 1) a' c' (w2.setCell ⟨w.heap.size + 1, 0, none⟩ (.slice a' (k + 1) c')) := by
  have hf : ∀ g, a' = some ⟨g, 0, none⟩ → w.heap.size + 2 ≤ g := fun g e => by
    rcases fr g e with e | e
    · exact h.f g e
    · have := h.s; omega
  have l2 : Lies w2 (w.heap.size + 1) 22 [.slice a k c] := h.l.kept kp (fun e => by have := h.f _ e; omega)
  refine ⟨l2.set 0 _, ?_, hf, ?_, by have := h.s; have := kp.size; simp; omega⟩
  · rw [take_ints hk]
    exact r.kept ((Kept.refl (fun g => g = w.heap.size + 1) w2).setCell (p := ⟨w.heap.size + 1, 0, none⟩) (fun _ => rfl) _) (fun g e e' => by have := hf g e; omega)
  · exact (h.b.trans (kp.below (fun g e => by have := h.f g e; omega) h.b.size)).setCell (Nat.le_succ _) _

/-- What a fold that gathers the keys comes to. -/
def FoldsR (ks : List Int) (w : World) (e : Ending) (w' : World) : Prop := ∃ a c, e = .returned (.slice a ks.length c) ∧ Row w' 3 a c (ints ks) ∧ Below w.heap.size w w'

set_option maxHeartbeats 1000000 in
theorem fold_r (ka va : Option Addr) (kc vc : Nat) (ks vs : List Int) (w : World) (RK : Row w 3 ka kc (ints ks)) (RV : Row w 3 va vc (ints vs)) (hl : ks.length = vs.length) (hb : ks.length * 8 ≤ 140737488355328) :
    Calls Try.prog 52 #[.slice ka ks.length kc, .slice va ks.length vc, .slice none 0 0, .func (.func 27) #[] #[]] w
      (FoldsR ks w) := by
  have hmf : ∀ (fn : Fn) (first cap : Array Value) (w : World), (Instr.makeFunc fn first cap).run Try.prog w = .ok (.func fn first cap) w := fun _ _ _ _ => rfl
  have hle := RK.le
  rw [ints_len] at hle
  have HL := Lib.hid hl
  clear hl
  go_enter_defers Try.func52, Try.ntmps52
  go_wp2
  go_loopw [15] (fun i wr => ∃ (k : Nat) (a : Option Addr) (c : Nat), k ≤ ks.length ∧ i = .int .i64 k ∧ Gathers w ks k a c wr) (fun i _ => ks.length - (intOf i).toNat)
  case atStart =>
    refine ⟨0, none, 0, Nat.zero_le _, rfl, ?_, ?_, (fun _ e => nomatch e), ((Below.refl _ _).alloc (Nat.le_refl _) _).alloc (by simp) _, by simp⟩
    · have := Lies.new (w.alloc (.cells #[.slice none 0 0] 22)) 22 [.slice none 0 0]
      simpa using this
    · exact Row.nil _ _
  case round =>
    obtain ⟨k, a, c, hk, rfl, G⟩ := hrel
    by_cases hlt : k < ks.length
    · have hlv : k < vs.length := by rw [← HL.out]; exact hlt
      obtain ⟨kg, rfl, ck⟩ := (RK.below G.b).int hlt
      obtain ⟨vg, rfl, cv⟩ := (RV.below G.b).int hlv
      have N := fun a' c' w2 r kp fr => Gathers.next (w2 := w2) (a' := a') (c' := c') G hlt r kp fr
      have A := fun y => app_one a c (ints (ks.take k)) ks[k] y wr.drew G.r (by rw [ints_len, List.length_take]; omega)
      have hlen : (ints (ks.take k)).length = k := by rw [ints_len, List.length_take]; omega
      have cl : wr.cell? ⟨w.heap.size + 1, 0, none⟩ = some (.slice a k c) := G.l.cell 0
      generalize ks[k] = x at ck N A
      generalize vs[k] = y at cv
      unfold Appends at A
      rw [hlen] at A
      clear hlen
      have hsz := G.s
      have hgf := G.f
      have HG := Lib.hid G
      clear G
      go_wp2_with (fail)
      refine wp_region_still_tail 7 (by kernel_rfl) (by kernel_rfl) ?_
      change wpStill _ _ wr.drew (fun a' => wpList _ _ _ _ a' wr.drew) _ _
      have cl' : wr.drew.cell? ⟨w.heap.size + 1, 0, none⟩ = some (.slice a k c) := cl
      have cv' : wr.drew.cell? ⟨vg, k, none⟩ = some (.int .i64 y) := cv
      have hk' : ∀ w2, Kept (fun g => a = some ⟨g, 0, none⟩) wr.drew w2 → Kept (fun g => a = some ⟨g, 0, none⟩) wr w2 := fun w2 h => ⟨h.os, h.tape, h.output, h.size, h.block⟩
      have L' : Lies wr.drew (w.heap.size + 1) 22 [.slice a k c] := HG.out.l
      have hz' : wr.drew.heap.size = wr.heap.size := rfl
      clear cl cv ck
      generalize wr.drew = w2 at *
      simp only [List.take_succ_cons, List.take_zero, List.drop_succ_cons, List.drop_zero]
      repeat still_step
      refine wpStill_nil ?_
      go_wp2_with (fail)
      refine (A _).mono ?_
      rintro e w3 ⟨a', c', rfl, r3, k3, f3⟩
      have l3 : Lies w3 (w.heap.size + 1) 22 [.slice a k c] := L'.kept k3 (fun e => by have := hgf _ e; omega)
      have c3 : w3.cell? ⟨w.heap.size + 1, 0, none⟩ = some (.slice a k c) := l3.cell 0
      have g3 : w3.frozen? ⟨w.heap.size + 1, 0, none⟩ = false := l3.frozen 0
      have G3 := N a' c' w3 r3 (hk' _ k3) (fun g e => by rw [← hz']; exact f3 g e)
      clear r3 k3 f3 l3 N A hk' hz'
      go_wp2
      go_roundw
      case rel => exact ⟨k + 1, a', c', by omega, by go_num, G3⟩
      case measure => simp [intOf]; omega
    · obtain rfl : k = ks.length := by omega
      have cl : wr.cell? ⟨w.heap.size + 1, 0, none⟩ = some (.slice a ks.length c) := G.l.cell 0
      have fl : wr.frozen? ⟨w.heap.size + 1, 0, none⟩ = false := G.l.frozen 0
      go_wp2
      refine leaves_cons (f := 65) (args := #[.pointer (some ⟨w.heap.size, 0, none⟩), .pointer (some ⟨w.heap.size + 1, 0, none⟩)]) (by simp) (by simp [go_sem]) ?_
      refine (catch_r _ _ _).mono ?_
      rintro e u' w'' ⟨rfl, rfl, rfl⟩
      simp [Leaves, settle, results, Try.results52, go_sem, cl]
      have hr := G.r
      rw [List.take_length] at hr
      exact ⟨a, c, rfl, hr.kept ((Kept.refl (fun g => g = w.heap.size + 1) wr).setCell (p := ⟨w.heap.size + 1, 0, none⟩) (fun _ => rfl) _) (fun g e e' => by have := G.f g e; omega), G.b.setCell (Nat.le_succ _) _⟩

theorem clone_i (a : Option Addr) (c : Nat) (ks : List Int) (w : World) (R : Row w 3 a c (ints ks)) (hb : ks.length * 8 ≤ 140737488355328) :
    Calls Try.prog 51 #[.slice a ks.length c] w (FoldsR ks w) := by
  refine (clone_int a c ks w R hb).mono ?_
  rintro e w' ⟨a, c, rfl, r, _, b⟩
  exact ⟨a, c, by rw [ints_len], r, b⟩

theorem Row.below' {w w' : World} {t : TypeId} {a : Option Addr} {c : Nat} {xs : List Value} (k : Below w.heap.size w w') (h : Row w t a c xs) : Row w' t a c xs := h.below k

/-- .. of the values, told by the keys' number. -/
theorem clone_v (a : Option Addr) (c : Nat) (ks vs : List Int) (w : World) (R : Row w 3 a c (ints vs)) (hl : ks.length = vs.length) (hb : ks.length * 8 ≤ 140737488355328) :
    Calls Try.prog 51 #[.slice a ks.length c] w fun e w' => ∃ a c, e = .returned (.slice a ks.length c) ∧ Row w' 3 a c (ints vs) ∧ Below w.heap.size w w' := by
  rw [hl] at hb ⊢
  exact clone_i a c vs w R hb

set_option maxHeartbeats 1000000 in
theorem fold_ii (X : Nat → Prop) (b : Nat) (ks vs : List Int) (f : Int) (w : World) (h : Tab 60 3 3 w X b (ints ks) (ints vs)) (hl : ks.length = vs.length) (hb : ks.length * 8 ≤ 140737488355328) :
    Calls Try.prog 24 #[.pointer (some ⟨b, 0, none⟩), .int .i64 f, .func (.func 25) #[] #[]] w fun e w' => e = .returned (.int .i64 (mixN ks vs f ks.length)) ∧ Below w.heap.size w w' := by
  obtain ⟨ka, kc, va, vc, p⟩ := h
  have c0 : w.cell? ⟨b, 0, none⟩ = some (.slice ka ks.length kc) := by rw [← ints_len]; exact p.lb.cell 0
  have c1 : w.cell? ⟨b, 1, none⟩ = some (.slice va ks.length vc) := by rw [hl, ← ints_len]; exact p.lb.cell 1
  have lt := p.lb.lt
  have rk := p.rk
  have rv := p.rv
  have HL := Lib.hid hl
  clear p hl
  have hq : ∀ (w : World) (j : Nat), (binOp .eql 51 (.func (.func j) #[] #[]) .nilFunc).run Try.prog w = .ok (.bool false) w := fun _ _ => rfl
  go_enter Try.func24, Try.ntmps24
  go_wp2_with (fail)
  go_region_held3 (fun w' => w'.cell? ⟨b, 0, none⟩ = some (.slice ka ks.length kc) ∧ w'.cell? ⟨b, 1, none⟩ = some (.slice va ks.length vc))
    (first
      | go_keep
      | exact ⟨(b3.cell (p := ⟨b, 0, none⟩) l2).trans ((b2.cell (p := ⟨b, 0, none⟩) l1).trans ((b1.cell (p := ⟨b, 0, none⟩) lt).trans c0)), (b3.cell (p := ⟨b, 1, none⟩) l2).trans ((b2.cell (p := ⟨b, 1, none⟩) l1).trans ((b1.cell (p := ⟨b, 1, none⟩) lt).trans c1))⟩
      | exact ⟨(b2.cell (p := ⟨b, 0, none⟩) l1).trans ((b1.cell (p := ⟨b, 0, none⟩) lt).trans c0), (b2.cell (p := ⟨b, 1, none⟩) l1).trans ((b1.cell (p := ⟨b, 1, none⟩) lt).trans c1)⟩
      | exact ⟨(b1.cell (p := ⟨b, 0, none⟩) lt).trans c0, (b1.cell (p := ⟨b, 1, none⟩) lt).trans c1⟩)
    (first
      | (go_at_call 51; ((with_reducible refine (clone_i ka kc ks _ ?_ hb).mono ?_); (exact rk); rintro e w1 ⟨a1, d1, rfl, r1, b1⟩; have l1 : b < w1.heap.size := Nat.lt_of_lt_of_le lt b1.size))
      | (go_at_call 51; ((with_reducible refine (clone_v va vc ks vs _ ?_ HL.out hb).mono ?_); (exact Row.below' b1 rv); rintro e w2 ⟨a2, d2, rfl, r2, b2⟩; have l2 : b < w2.heap.size := Nat.lt_of_lt_of_le l1 b2.size))
      | (go_at_call 50; ((with_reducible refine (fold_i a1 a2 d1 d2 ks vs f _ ?_ ?_ HL.out).mono ?_); (exact Row.below' b2 r1); (exact r2); rintro e w3 ⟨rfl, b3⟩)))
  go_wp2
  go_ret
  exact ⟨rfl, (((Below.refl w.heap.size w).drew.trans b1).trans (b2.mono b1.size)).trans (b3.mono (Nat.le_trans b1.size b2.size))⟩
set_option maxHeartbeats 1000000 in
theorem fold_ir (X : Nat → Prop) (b : Nat) (ks vs : List Int) (w : World) (h : Tab 60 3 3 w X b (ints ks) (ints vs)) (hl : ks.length = vs.length) (hb : ks.length * 8 ≤ 140737488355328) :
    Calls Try.prog 26 #[.pointer (some ⟨b, 0, none⟩), .slice none 0 0, .func (.func 27) #[] #[]] w (FoldsR ks w) := by
  obtain ⟨ka, kc, va, vc, p⟩ := h
  have c0 : w.cell? ⟨b, 0, none⟩ = some (.slice ka ks.length kc) := by rw [← ints_len]; exact p.lb.cell 0
  have c1 : w.cell? ⟨b, 1, none⟩ = some (.slice va ks.length vc) := by rw [hl, ← ints_len]; exact p.lb.cell 1
  have lt := p.lb.lt
  have rk := p.rk
  have rv := p.rv
  have HL := Lib.hid hl
  clear p hl
  have hq : ∀ (w : World) (j : Nat), (binOp .eql 53 (.func (.func j) #[] #[]) .nilFunc).run Try.prog w = .ok (.bool false) w := fun _ _ => rfl
  go_enter Try.func26, Try.ntmps26
  go_wp2_with (fail)
  go_region_held3 (fun w' => w'.cell? ⟨b, 0, none⟩ = some (.slice ka ks.length kc) ∧ w'.cell? ⟨b, 1, none⟩ = some (.slice va ks.length vc))
    (first
      | go_keep
      | exact ⟨(b3.cell (p := ⟨b, 0, none⟩) l2).trans ((b2.cell (p := ⟨b, 0, none⟩) l1).trans ((b1.cell (p := ⟨b, 0, none⟩) lt).trans c0)), (b3.cell (p := ⟨b, 1, none⟩) l2).trans ((b2.cell (p := ⟨b, 1, none⟩) l1).trans ((b1.cell (p := ⟨b, 1, none⟩) lt).trans c1))⟩
      | exact ⟨(b2.cell (p := ⟨b, 0, none⟩) l1).trans ((b1.cell (p := ⟨b, 0, none⟩) lt).trans c0), (b2.cell (p := ⟨b, 1, none⟩) l1).trans ((b1.cell (p := ⟨b, 1, none⟩) lt).trans c1)⟩
      | exact ⟨(b1.cell (p := ⟨b, 0, none⟩) lt).trans c0, (b1.cell (p := ⟨b, 1, none⟩) lt).trans c1⟩)
    (first
      | (go_at_call 51; ((with_reducible refine (clone_i ka kc ks _ ?_ hb).mono ?_); (exact rk); rintro e w1 ⟨a1, d1, rfl, r1, b1⟩; have l1 : b < w1.heap.size := Nat.lt_of_lt_of_le lt b1.size))
      | (go_at_call 51; ((with_reducible refine (clone_v va vc ks vs _ ?_ HL.out hb).mono ?_); (exact Row.below' b1 rv); rintro e w2 ⟨a2, d2, rfl, r2, b2⟩; have l2 : b < w2.heap.size := Nat.lt_of_lt_of_le l1 b2.size))
      | (go_at_call 52; ((with_reducible refine (fold_r a1 a2 d1 d2 ks vs _ ?_ ?_ HL.out hb).mono ?_); (exact Row.below' b2 r1); (exact r2); rintro e w3 ⟨a3, d3, rfl, r3, b3⟩)))
  go_wp2
  go_ret
  exact ⟨a3, d3, rfl, r3, (((Below.refl w.heap.size w).drew.trans b1).trans (b2.mono b1.size)).trans (b3.mono (Nat.le_trans b1.size b2.size))⟩

set_option maxHeartbeats 1000000 in
theorem fold_i_new (b : Nat) (f : Int) (w : World) (lb : Lies w b 60 [.slice none 0 0, .slice none 0 0]) :
    Calls Try.prog 24 #[.pointer (some ⟨b, 0, none⟩), .int .i64 f, .func (.func 28) #[] #[]] w fun e w' => e = .returned (.int .i64 f) ∧ Below w.heap.size w w' := by
  have c0 : w.cell? ⟨b, 0, none⟩ = some (.slice none 0 0) := lb.cell 0
  have c1 : w.cell? ⟨b, 1, none⟩ = some (.slice none 0 0) := lb.cell 1
  have lt := lb.lt
  have hn : ∀ w, Calls Try.prog 51 #[.slice none 0 0] w fun e w' => e = .returned (.slice none 0 0) ∧ w = w' := fun w => by
    refine (Any.slices_Clone_int_nil Try.laysNm215 0 0 w).mono ?_
    rintro e w' ⟨rfl, rfl⟩
    exact ⟨rfl, rfl⟩
  clear lb
  have hq : ∀ (w : World) (j : Nat), (binOp .eql 51 (.func (.func j) #[] #[]) .nilFunc).run Try.prog w = .ok (.bool false) w := fun _ _ => rfl
  go_enter Try.func24, Try.ntmps24
  go_wp2_with (fail)
  go_region_held3 (fun w' => w'.cell? ⟨b, 0, none⟩ = some (.slice none 0 0) ∧ w'.cell? ⟨b, 1, none⟩ = some (.slice none 0 0))
    (first
      | go_keep
      | exact ⟨(b3.cell (p := ⟨b, 0, none⟩) lt).trans c0, (b3.cell (p := ⟨b, 1, none⟩) lt).trans c1⟩)
    (first
      | (go_at_call 51; refine (hn _).mono ?_; rintro e w1 ⟨rfl, rfl⟩)
      | (go_at_call 50; ((with_reducible refine (fold_i0 none none 0 0 f _).mono ?_); rintro e w3 ⟨rfl, b3⟩)))
  go_wp2
  go_ret
  exact ⟨rfl, (Below.refl w.heap.size w).drew.trans b3⟩
end Go.Proofs.Ytkfjnojpgffchaa

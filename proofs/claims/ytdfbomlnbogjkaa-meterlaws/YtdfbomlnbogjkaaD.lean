/- Contracts of meters: New, Spend, Spent, Out of package meter, and NewMeter, Spend of the document's own answers. -/
import Derived.Test.YtdfbomlnbogjkaaC
namespace Go.Proofs.Ytdfbomlnbogjkaa
open Go.ChangeShapes Go.WideShapes Go.ChangeAt Go.RowKit

/-- Block b holds a meter: budget B, spent S, out o. -/
structure At (w : World) (b : Nat) (B S : Int) (o : Bool) : Prop where
  c0 : w.cell? ⟨b, 0, none⟩ = some (.int .i64 B)
  c1 : w.cell? ⟨b, 1, none⟩ = some (.int .i64 S)
  c2 : w.cell? ⟨b, 2, none⟩ = some (.bool o)
  f1 : w.frozen? ⟨b, 1, none⟩ = false
  f2 : w.frozen? ⟨b, 2, none⟩ = false

/-- Nothing but block b has turned. -/
structure Only (b : Nat) (w w' : World) : Prop where
  os : w'.os = w.os
  tape : w'.tape = w.tape
  output : w'.output = w.output
  size : w'.heap.size = w.heap.size
  block : ∀ k, k ≠ b → w'.heap[k]? = w.heap[k]?

theorem Only.refl (b : Nat) (w : World) : Only b w w := ⟨rfl, rfl, rfl, rfl, fun _ _ => rfl⟩
theorem Only.trans {b : Nat} {w w1 w2 : World} (h : Only b w w1) (k : Only b w1 w2) : Only b w w2 :=
  ⟨k.os.trans h.os, k.tape.trans h.tape, k.output.trans h.output, k.size.trans h.size, fun i hi => (k.block i hi).trans (h.block i hi)⟩
theorem Only.drewN (b : Nat) (w : World) (n : Nat) : Only b w (w.drewN n) := ⟨rfl, rfl, rfl, rfl, fun _ _ => rfl⟩
theorem Only.setCell {b off : Nat} {w w1 : World} (h : Only b w w1) (v : Value) : Only b w (w1.setCell ⟨b, off, none⟩ v) :=
  h.trans ⟨rfl, rfl, rfl, by simp, fun k hk => Below.heap_setCell _ _ _ _ hk⟩
theorem Only.cell {b : Nat} {w w' : World} (h : Only b w w') {p : Addr} (hp : p.block ≠ b) : w'.cell? p = w.cell? p := World.cell?_of_block (w := w) (h.block p.block hp)
theorem Only.frozen {b : Nat} {w w' : World} (h : Only b w w') {p : Addr} (hp : p.block ≠ b) : w'.frozen? p = w.frozen? p := World.frozen?_of_block (w := w) (h.block p.block hp)
theorem Only.below {b B : Nat} {w w' : World} (h : Only b w w') (hb : B ≤ b) : Below B w w' :=
  ⟨h.os, h.tape, h.output, by rw [h.size]; exact Nat.le_refl _, fun k hk => h.block k (by omega)⟩
theorem Only.at {b c : Nat} {w w' : World} {B S : Int} {o : Bool} (h : Only b w w') (hc : c ≠ b) (a : At w c B S o) : At w' c B S o :=
  ⟨by rw [h.cell hc]; exact a.c0, by rw [h.cell hc]; exact a.c1, by rw [h.cell hc]; exact a.c2, by rw [h.frozen hc]; exact a.f1, by rw [h.frozen hc]; exact a.f2⟩

theorem At.set1 {w : World} {b : Nat} {B S : Int} {o : Bool} (a : At w b B S o) (S' : Int) : At (w.setCell ⟨b, 1, none⟩ (.int .i64 S')) b B S' o :=
  ⟨by rw [World.cell?_setCell_other (h := by simp)]; exact a.c0, World.cell?_setCell_same _ _ _ a.c1, by rw [World.cell?_setCell_other (h := by simp)]; exact a.c2,
   by rw [World.frozen?_setCell]; exact a.f1, by rw [World.frozen?_setCell]; exact a.f2⟩
theorem At.set2 {w : World} {b : Nat} {B S : Int} {o : Bool} (a : At w b B S o) (o' : Bool) : At (w.setCell ⟨b, 2, none⟩ (.bool o')) b B S o' :=
  ⟨by rw [World.cell?_setCell_other (h := by simp)]; exact a.c0, by rw [World.cell?_setCell_other (h := by simp)]; exact a.c1, World.cell?_setCell_same _ _ _ a.c2,
   by rw [World.frozen?_setCell]; exact a.f1, by rw [World.frozen?_setCell]; exact a.f2⟩
theorem At.drewN {w : World} {b : Nat} {B S : Int} {o : Bool} (a : At w b B S o) (n : Nat) : At (w.drewN n) b B S o := ⟨a.c0, a.c1, a.c2, a.f1, a.f2⟩

/-- Is n more let by a meter of budget B of which S was spent? -/
def lets (B S n : Int) (o : Bool) : Bool := !o && decide (n ≤ B - S)
def next (B S n : Int) (o : Bool) : Int := if lets B S n o then S + max n 0 else S
/-- What a Spend comes to. -/
def Spends (b : Nat) (B S n : Int) (o : Bool) (w : World) (e : Ending) (w' : World) : Prop :=
  e = .returned (.bool (lets B S n o)) ∧ At w' b B (next B S n o) (!lets B S n o) ∧ Only b w w'
theorem lets_t {B S n : Int} (h : n ≤ B - S) : lets B S n false = true ∧ next B S n false = S + max n 0 := by
  have e : lets B S n false = true := by unfold lets; simpa using h
  exact ⟨e, by unfold next; rw [e]; rfl⟩
theorem lets_f {B S n : Int} (h : ¬ n ≤ B - S) : lets B S n false = false ∧ next B S n false = S := by
  have e : lets B S n false = false := by unfold lets; simpa using h
  exact ⟨e, by unfold next; rw [e]; rfl⟩
theorem next_bd {B S n : Int} {o : Bool} (h0 : 0 ≤ S) (h1 : S ≤ B) : 0 ≤ next B S n o ∧ next B S n o ≤ B := by
  unfold next
  split
  · rename_i h
    have : n ≤ B - S := by unfold lets at h; simp at h; exact h.2
    omega
  · omega

theorem spend_out (b : Nat) (B S n : Int) (w : World) (a : At w b B S true) :
    Calls Try.prog 10 #[.pointer (some ⟨b, 0, none⟩), .int .i64 n] w (Spends b B S n true w) := by
  obtain ⟨c0, c1, c2, f1, f2⟩ := id a
  by_cases hn : n < 0
  all_goals
    go_enter Try.func10, Try.ntmps10
    go_wp2
    go_quiet (fail)
    go_wp2
    go_ret
    exact ⟨rfl, (a.drewN _).set2 true, (Only.drewN _ _ _).setCell _⟩

theorem spend_no (b : Nat) (B S n : Int) (w : World) (a : At w b B S false) (h0 : 0 ≤ S) (h1 : S ≤ B) (h2 : B ≤ 9223372036854775807) (h : B - S < n) :
    Calls Try.prog 10 #[.pointer (some ⟨b, 0, none⟩), .int .i64 n] w (Spends b B S n false w) := by
  have E := lets_f (B := B) (S := S) (n := n) (by omega)
  unfold Spends
  rw [E.1, E.2]
  clear E
  obtain ⟨c0, c1, c2, f1, f2⟩ := id a
  have hn : 0 ≤ n := by omega
  have d : decide (B - S < n) = true := by simpa using h
  go_enter Try.func10, Try.ntmps10
  go_wp2
  go_quiet (fail)
  go_wp2
  go_ret
  exact ⟨rfl, (a.drewN _).set2 true, (Only.drewN _ _ _).setCell _⟩

theorem spend_yes (b : Nat) (B S n : Int) (w : World) (a : At w b B S false) (h0 : 0 ≤ S) (h1 : S ≤ B) (h2 : B ≤ 9223372036854775807) (h : n ≤ B - S) :
    Calls Try.prog 10 #[.pointer (some ⟨b, 0, none⟩), .int .i64 n] w (Spends b B S n false w) := by
  have E := lets_t (B := B) (S := S) (n := n) h
  unfold Spends
  rw [E.1, E.2]
  clear E
  obtain ⟨c0, c1, c2, f1, f2⟩ := id a
  by_cases hn : n < 0
  · have d : decide (B - S < 0) = false := by simp; omega
    rw [show S + max n 0 = S by omega]
    go_enter Try.func10, Try.ntmps10
    go_wp2
    go_quiet (fail)
    go_wp2
    go_ret
    exact ⟨rfl, (a.drewN _).set1 _, (Only.drewN _ _ _).setCell _⟩
  · have d : decide (B - S < n) = false := by simp; omega
    rw [show S + max n 0 = S + n by omega]
    go_enter Try.func10, Try.ntmps10
    go_wp2
    go_quiet (fail)
    go_wp2
    go_ret
    exact ⟨rfl, (a.drewN _).set1 _, (Only.drewN _ _ _).setCell _⟩

theorem rspend_out (b : Nat) (B S n : Int) (w : World) (a : At w b B S true) :
    Calls Try.prog 11 #[.pointer (some ⟨b, 0, none⟩), .int .i64 n] w (Spends b B S n true w) := by
  obtain ⟨c0, c1, c2, f1, f2⟩ := id a
  by_cases hn : n < 0
  all_goals
    go_enter Try.func11, Try.ntmps11
    go_wp2
    go_quiet (fail)
    go_wp2
    go_ret
    exact ⟨rfl, (a.drewN _).set2 true, (Only.drewN _ _ _).setCell _⟩

theorem rspend_no (b : Nat) (B S n : Int) (w : World) (a : At w b B S false) (h0 : 0 ≤ S) (h1 : S ≤ B) (h2 : B ≤ 9223372036854775807) (h : B - S < n) :
    Calls Try.prog 11 #[.pointer (some ⟨b, 0, none⟩), .int .i64 n] w (Spends b B S n false w) := by
  have E := lets_f (B := B) (S := S) (n := n) (by omega)
  unfold Spends
  rw [E.1, E.2]
  clear E
  obtain ⟨c0, c1, c2, f1, f2⟩ := id a
  have hn : 0 ≤ n := by omega
  have d : decide (B - S < n) = true := by simpa using h
  go_enter Try.func11, Try.ntmps11
  go_wp2
  go_quiet (fail)
  go_wp2
  go_ret
  exact ⟨rfl, (a.drewN _).set2 true, (Only.drewN _ _ _).setCell _⟩

theorem rspend_yes (b : Nat) (B S n : Int) (w : World) (a : At w b B S false) (h0 : 0 ≤ S) (h1 : S ≤ B) (h2 : B ≤ 9223372036854775807) (h : n ≤ B - S) :
    Calls Try.prog 11 #[.pointer (some ⟨b, 0, none⟩), .int .i64 n] w (Spends b B S n false w) := by
  have E := lets_t (B := B) (S := S) (n := n) h
  unfold Spends
  rw [E.1, E.2]
  clear E
  obtain ⟨c0, c1, c2, f1, f2⟩ := id a
  by_cases hn : n < 0
  · have d : decide (B - S < 0) = false := by simp; omega
    rw [show S + max n 0 = S by omega]
    go_enter Try.func11, Try.ntmps11
    go_wp2
    go_quiet (fail)
    go_wp2
    go_ret
    exact ⟨rfl, (a.drewN _).set1 _, (Only.drewN _ _ _).setCell _⟩
  · have d : decide (B - S < n) = false := by simp; omega
    rw [show S + max n 0 = S + n by omega]
    go_enter Try.func11, Try.ntmps11
    go_wp2
    go_quiet (fail)
    go_wp2
    go_ret
    exact ⟨rfl, (a.drewN _).set1 _, (Only.drewN _ _ _).setCell _⟩

theorem spend_any (b : Nat) (B S n : Int) (o : Bool) (w : World) (a : At w b B S o) (h0 : 0 ≤ S) (h1 : S ≤ B) (h2 : B ≤ 9223372036854775807) :
    Calls Try.prog 10 #[.pointer (some ⟨b, 0, none⟩), .int .i64 n] w (Spends b B S n o w) := by
  cases o with
  | true => exact spend_out b B S n w a
  | false =>
    by_cases h : n ≤ B - S
    · exact spend_yes b B S n w a h0 h1 h2 h
    · exact spend_no b B S n w a h0 h1 h2 (by omega)

theorem rspend_any (b : Nat) (B S n : Int) (o : Bool) (w : World) (a : At w b B S o) (h0 : 0 ≤ S) (h1 : S ≤ B) (h2 : B ≤ 9223372036854775807) :
    Calls Try.prog 11 #[.pointer (some ⟨b, 0, none⟩), .int .i64 n] w (Spends b B S n o w) := by
  cases o with
  | true => exact rspend_out b B S n w a
  | false =>
    by_cases h : n ≤ B - S
    · exact rspend_yes b B S n w a h0 h1 h2 h
    · exact rspend_no b B S n w a h0 h1 h2 (by omega)

theorem spend_nil (n : Int) (w : World) : Calls Try.prog 10 #[.pointer none, .int .i64 n] w fun e w' => e = .returned (.bool true) ∧ w = w' := by
  go_enter Try.func10, Try.ntmps10
  go_wp2
  go_ret
  exact ⟨rfl, rfl⟩
theorem spent_nil (w : World) : Calls Try.prog 12 #[.pointer none] w fun e w' => e = .returned (.int .i64 0) ∧ w = w' := by
  go_enter Try.func12, Try.ntmps12
  go_wp2
  go_ret
  exact ⟨rfl, rfl⟩
theorem out_nil (w : World) : Calls Try.prog 13 #[.pointer none] w fun e w' => e = .returned (.bool false) ∧ w = w' := by
  go_enter Try.func13, Try.ntmps13
  go_wp2
  go_ret
  exact ⟨rfl, rfl⟩
theorem spent_any (b : Nat) (B S : Int) (o : Bool) (w : World) (a : At w b B S o) : Calls Try.prog 12 #[.pointer (some ⟨b, 0, none⟩)] w fun e w' => e = .returned (.int .i64 S) ∧ w = w' := by
  obtain ⟨c0, c1, c2, f1, f2⟩ := id a
  go_enter Try.func12, Try.ntmps12
  go_wp2
  go_ret
  exact ⟨rfl, rfl⟩
theorem out_any (b : Nat) (B S : Int) (o : Bool) (w : World) (a : At w b B S o) : Calls Try.prog 13 #[.pointer (some ⟨b, 0, none⟩)] w fun e w' => e = .returned (.bool o) ∧ w = w' := by
  obtain ⟨c0, c1, c2, f1, f2⟩ := id a
  go_enter Try.func13, Try.ntmps13
  go_wp2
  go_ret
  exact ⟨rfl, rfl⟩

/-- What New comes to: a new block with a meter. -/
def News (B : Int) (w : World) (e : Ending) (w' : World) : Prop :=
  e = .returned (.pointer (some ⟨w.heap.size, 0, none⟩)) ∧ At w' w.heap.size (max B 0) 0 false ∧ Below w.heap.size w w' ∧ w'.heap.size = w.heap.size + 1
theorem at_new (w : World) (B : Int) (t : TypeId) : At (w.alloc (.cells #[.int .i64 B, .int .i64 0, .bool false] t)) w.heap.size B 0 false :=
  ⟨by rw [World.cell?_alloc_new]; rfl, by rw [World.cell?_alloc_new]; rfl, by rw [World.cell?_alloc_new]; rfl, by rw [World.frozen?_alloc_new], by rw [World.frozen?_alloc_new]⟩
theorem new_any (B : Int) (w : World) : Calls Try.prog 8 #[.int .i64 B] w (News B w) := by
  by_cases h : B < 0
  · unfold News
    rw [show max B 0 = 0 by omega]
    go_enter Try.func8, Try.ntmps8
    go_wp2
    go_ret
    exact ⟨rfl, at_new _ _ _, (Below.refl _ _).alloc (Nat.le_refl _) _, by simp⟩
  · unfold News
    rw [show max B 0 = B by omega]
    go_enter Try.func8, Try.ntmps8
    go_wp2
    go_ret
    exact ⟨rfl, at_new _ _ _, (Below.refl _ _).alloc (Nat.le_refl _) _, by simp⟩
theorem rnew_any (B : Int) (w : World) : Calls Try.prog 9 #[.int .i64 B] w (News B w) := by
  by_cases h : B < 0
  · unfold News
    rw [show max B 0 = 0 by omega]
    go_enter Try.func9, Try.ntmps9
    go_wp2
    go_ret
    exact ⟨rfl, at_new _ _ _, (Below.refl _ _).alloc (Nat.le_refl _) _, by simp⟩
  · unfold News
    rw [show max B 0 = B by omega]
    go_enter Try.func9, Try.ntmps9
    go_wp2
    go_ret
    exact ⟨rfl, at_new _ _ _, (Below.refl _ _).alloc (Nat.le_refl _) _, by simp⟩

end Go.Proofs.Ytdfbomlnbogjkaa

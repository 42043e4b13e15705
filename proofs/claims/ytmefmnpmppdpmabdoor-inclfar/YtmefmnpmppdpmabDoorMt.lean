import Derived.Test.YtmefmnpmppdpmabDoorL
import Derived.Test.YtmefmnpmppdpmabDoorA
/- Meters: New, Spend, Spent, Out of package meter, and NewMeter, Spend of the document's own answers. -/
namespace Go.Proofs.YtmefmnpmppdpmabDoor
open Go.ChangeShapes Go.WideShapes Go.ChangeAt Go.RowKit

/-- Block b holds a meter: budget B, spent S, out o. -/
def At (w : World) (T : TypeId) (b : Nat) (B S : Int) (o : Bool) : Prop := Lies w b T [.int .i64 B, .int .i64 S, .bool o]
section
variable {w w' : World} {T : TypeId} {b : Nat} {B S : Int} {o : Bool}
theorem At.c0 (a : At w T b B S o) : w.cell? ⟨b, 0, none⟩ = some (.int .i64 B) := Lies.cell a 0
theorem At.c1 (a : At w T b B S o) : w.cell? ⟨b, 1, none⟩ = some (.int .i64 S) := Lies.cell a 1
theorem At.c2 (a : At w T b B S o) : w.cell? ⟨b, 2, none⟩ = some (.bool o) := Lies.cell a 2
theorem At.f1 (a : At w T b B S o) : w.frozen? ⟨b, 1, none⟩ = false := Lies.frozen a 1
theorem At.f2 (a : At w T b B S o) : w.frozen? ⟨b, 2, none⟩ = false := Lies.frozen a 2
theorem At.set1 (a : At w T b B S o) (S' : Int) : At (w.setCell ⟨b, 1, none⟩ (.int .i64 S')) T b B S' o := Lies.set a 1 _
theorem At.set2 (a : At w T b B S o) (o' : Bool) : At (w.setCell ⟨b, 2, none⟩ (.bool o')) T b B S o' := Lies.set a 2 _
theorem At.drewN (a : At w T b B S o) (n : Nat) : At (w.drewN n) T b B S o := a
theorem At.below (a : At w T b B S o) (k : Below w.heap.size w w') : At w' T b B S o := Lies.below a k a.lt
end
/-- Nothing but block b has turned. -/
structure Only (b : Nat) (w w' : World) : Prop where
  os : w'.os = w.os
  tape : w'.tape = w.tape
  output : w'.output = w.output
  size : w'.heap.size = w.heap.size
  block : ∀ k, k ≠ b → w'.heap[k]? = w.heap[k]?
theorem Only.refl (b : Nat) (w : World) : Only b w w := ⟨rfl, rfl, rfl, rfl, fun _ _ => rfl⟩
theorem Only.drewN (b : Nat) (w : World) (n : Nat) : Only b w (w.drewN n) := ⟨rfl, rfl, rfl, rfl, fun _ _ => rfl⟩
theorem Only.setCell {b off : Nat} {w w1 : World} (h : Only b w w1) (v : Value) : Only b w (w1.setCell ⟨b, off, none⟩ v) :=
  ⟨h.os, h.tape, h.output, by simp [h.size], fun k hk => (Below.heap_setCell _ _ _ _ hk).trans (h.block k hk)⟩
theorem Only.kept {b : Nat} {w w' : World} (h : Only b w w') : Kept (fun g => b = g) w w' :=
  ⟨h.os, h.tape, h.output, by rw [h.size]; exact Nat.le_refl _, fun k _ hx => h.block k (fun e => hx e.symm)⟩

/-- Is n more let by a meter of budget B of which S was spent? -/
def lets (B S n : Int) (o : Bool) : Bool := !o && decide (n ≤ B - S)
def next (B S n : Int) (o : Bool) : Int := if lets B S n o then S + max n 0 else S
/-- What a Spend comes to. -/
def Spends (T : TypeId) (b : Nat) (B S n : Int) (o : Bool) (w : World) (e : Ending) (w' : World) : Prop :=
  e = .returned (.bool (lets B S n o)) ∧ At w' T b B (next B S n o) (!lets B S n o) ∧ Only b w w'
theorem lets_t {B S n : Int} (h : n ≤ B - S) : lets B S n false = true ∧ next B S n false = S + max n 0 := by
  have e : lets B S n false = true := by unfold lets; simpa using h
  exact ⟨e, by unfold next; rw [e]; rfl⟩
theorem lets_f {B S n : Int} (h : ¬ n ≤ B - S) : lets B S n false = false ∧ next B S n false = S := by
  have e : lets B S n false = false := by unfold lets; simpa using h
  exact ⟨e, by unfold next; rw [e]; rfl⟩
theorem next_bd {B S n : Int} {o : Bool} (h0 : 0 ≤ S) (h1 : S ≤ B) : 0 ≤ next B S n o ∧ next B S n o ≤ B := by
  unfold next
  split
  · rename_i h
    have : n ≤ B - S := by unfold lets at h; simp at h; exact h.2
    omega
  · omega

theorem spend_out (b : Nat) (B S n : Int) (w : World) (a : At w 73 b B S true) :
    Calls Tryd.prog 24 #[.pointer (some ⟨b, 0, none⟩), .int .i64 n] w (Spends 73 b B S n true w) := by
  have c0 := a.c0
  have c1 := a.c1
  have c2 := a.c2
  have f1 := a.f1
  have f2 := a.f2
  by_cases hn : n < 0
  all_goals
    go_enter Tryd.func24, Tryd.ntmps24
    go_wp2
    go_quiet (fail)
    go_wp2
    go_ret
    exact ⟨rfl, At.set2 (a.drewN _) true, (Only.drewN _ _ _).setCell _⟩

theorem spend_no (b : Nat) (B S n : Int) (w : World) (a : At w 73 b B S false) (h0 : 0 ≤ S) (h1 : S ≤ B) (h2 : B ≤ 9223372036854775807) (h : B - S < n) :
    Calls Tryd.prog 24 #[.pointer (some ⟨b, 0, none⟩), .int .i64 n] w (Spends 73 b B S n false w) := by
  have E := lets_f (B := B) (S := S) (n := n) (by omega)
  unfold Spends
  rw [E.1, E.2]
  clear E
  have c0 := a.c0
  have c1 := a.c1
  have c2 := a.c2
  have f1 := a.f1
  have f2 := a.f2
  have hn : 0 ≤ n := by omega
  have d : decide (B - S < n) = true := by simpa using h
  go_enter Tryd.func24, Tryd.ntmps24
  go_wp2
  go_quiet (fail)
  go_wp2
  go_ret
  exact ⟨rfl, At.set2 (a.drewN _) true, (Only.drewN _ _ _).setCell _⟩

theorem spend_yes (b : Nat) (B S n : Int) (w : World) (a : At w 73 b B S false) (h0 : 0 ≤ S) (h1 : S ≤ B) (h2 : B ≤ 9223372036854775807) (h : n ≤ B - S) :
    Calls Tryd.prog 24 #[.pointer (some ⟨b, 0, none⟩), .int .i64 n] w (Spends 73 b B S n false w) := by
  have E := lets_t (B := B) (S := S) (n := n) h
  unfold Spends
  rw [E.1, E.2]
  clear E
  have c0 := a.c0
  have c1 := a.c1
  have c2 := a.c2
  have f1 := a.f1
  have f2 := a.f2
  by_cases hn : n < 0
  · have d : decide (B - S < 0) = false := by simp; omega
    rw [show S + max n 0 = S by omega]
    go_enter Tryd.func24, Tryd.ntmps24
    go_wp2
    go_quiet (fail)
    go_wp2
    go_ret
    exact ⟨rfl, At.set1 (a.drewN _) _, (Only.drewN _ _ _).setCell _⟩
  · have d : decide (B - S < n) = false := by simp; omega
    rw [show S + max n 0 = S + n by omega]
    go_enter Tryd.func24, Tryd.ntmps24
    go_wp2
    go_quiet (fail)
    go_wp2
    go_ret
    exact ⟨rfl, At.set1 (a.drewN _) _, (Only.drewN _ _ _).setCell _⟩




theorem spend_any (b : Nat) (B S n : Int) (o : Bool) (w : World) (a : At w 73 b B S o) (h0 : 0 ≤ S) (h1 : S ≤ B) (h2 : B ≤ 9223372036854775807) :
    Calls Tryd.prog 24 #[.pointer (some ⟨b, 0, none⟩), .int .i64 n] w (Spends 73 b B S n o w) := by
  cases o with
  | true => exact spend_out b B S n w a
  | false =>
    by_cases h : n ≤ B - S
    · exact spend_yes b B S n w a h0 h1 h2 h
    · exact spend_no b B S n w a h0 h1 h2 (by omega)


theorem spend_nil (n : Int) (w : World) : Calls Tryd.prog 24 #[.pointer none, .int .i64 n] w fun e w' => e = .returned (.bool true) ∧ w = w' := by
  go_enter Tryd.func24, Tryd.ntmps24
  go_wp2
  go_ret
  exact ⟨rfl, rfl⟩

end Go.Proofs.YtmefmnpmppdpmabDoor

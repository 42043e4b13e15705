/- The walk of the law BagTells of chapter 3. -/
import Derived.Test.YthjeollmjfdaeaaH
import Derived.Test.YthjeollmjfdaeaaI
import Derived.Test.YthjeollmjfdaeaaJ
import Derived.Test.YthjeollmjfdaeaaK
namespace Go.Proofs.Ythjeollmjfdaeaa
open Go.ChangeShapes Go.WideShapes Go.ChangeAt Go.RowKit

theorem reads_below {w w' : World} {q : Nat} (h : w' = w.drewN q) : Below w.heap.size w w' := h ▸ below_drewN _ _ q

theorem RowAt.below {w w' : World} {a : Option Addr} {zs : List Int} {k : Nat} (h : RowAt w a zs k) (b : Below w.heap.size w w') : RowAt w' a zs k := by
  obtain ⟨bk, off, e, hc, hb, h1, h2⟩ := h
  exact ⟨bk, off, e, (b.cell (p := ⟨bk, off + k, none⟩) hb).trans hc, Nat.lt_of_lt_of_le hb b.size, h1, h2⟩
theorem row_facts {w : World} {a : Option Addr} {len cap : Nat} {zs : List Int}
    (h : (a = none ∧ len = 0 ∧ cap = 0 ∧ zs = []) ∨
      ∃ x, a = some x ∧ len ≤ cap ∧ cap ≤ maxLen ∧ zs.length = cap ∧ (∀ i, i < zs.length → w.cell? (x.add i) = some (.int .i64 (zs.getD i 0))) ∧ ∀ n ∈ zs, (Lit.int .i64 n).wf = true) :
    len ≤ 9223372036854775807 ∧ (a = none → len = 0 ∧ cap = 0) ∧ len ≤ cap ∧ len ≤ zs.length ∧ ∀ k, k < len → RowAt w a zs k := by
  obtain ⟨h1, h2⟩ := rowAt_of h
  rcases h with ⟨rfl, rfl, rfl, rfl⟩ | ⟨x, rfl, hl, hm, hz, _, _⟩
  · exact ⟨h1, fun _ => ⟨rfl, rfl⟩, Nat.le_refl _, Nat.le_refl _, h2⟩
  · exact ⟨h1, (fun e => nomatch e), hl, by omega, h2⟩
theorem cut_came {w w' : World} {a : Option Addr} {len cap : Nat} {zs : List Int}
    (h : len ≤ 9223372036854775807 ∧ (a = none → len = 0 ∧ cap = 0) ∧ len ≤ cap ∧ len ≤ zs.length ∧ ∀ k, k < len → RowAt w a zs k) (b : Below w.heap.size w w') :
    Calls Try.prog 9 #[.slice a len cap, .int .i64 20] w' (Makes (zs.take (min len 20)) w') :=
  cut_in a len cap zs w' h.1 h.2.1 h.2.2.1 h.2.2.2.1 (Lib.hid (fun k hk => (h.2.2.2.2 k hk).below b))

set_option maxHeartbeats 4000000 in
set_option maxRecDepth 100000 in
theorem tells_walk (a0 a1 : Option Addr) (l0 c0 l1 c1 : Nat) (xs ys : List Int) (w : World) (C0 : Calls Try.prog 9 #[.slice a0 l0 c0, .int .i64 20] w (Makes xs w))
    (C1 : Hid (∀ w', Below w.heap.size w w' → Calls Try.prog 9 #[.slice a1 l1 c1, .int .i64 20] w' (Makes ys w'))) (hx : xs.length ≤ 20) :
    Calls Try.prog 3 #[.slice a0 l0 c0, .slice a1 l1 c1] w (True_ w) := by
  have FA := Lib.hid (fun a b c d w => add10 a b c d xs ys w)
  have FB := Lib.hid (fun a b c d w => add11 a b c d xs ys w)
  have FC := Lib.hid (fun a b c d w => sub12 a b c d xs ys w)
  have FD := Lib.hid (fun a b c d w => sub13 a b c d xs ys w)
  have FE := Lib.hid (fun a c w => tot14 a c xs w)
  have FF := Lib.hid (fun a c w => tot15 a c xs w)
  have FG := Lib.hid (fun a c w => right16 a c xs w)
  have FH := Lib.hid (fun a c w => right17 a c xs w)
  have FI := Lib.hid (fun a c w R => norm19 a c xs w R (by omega))
  have FJ := Lib.hid (fun a c w R => norm20 a c xs w R (by omega))
  have FK := Lib.hid (fun a b c d w => cmp21 a b c d xs ys w)
  have FL := Lib.hid (fun a b c d w => cmp22 a b c d xs ys w)
  clear hx
  generalize addS xs ys = ss at *
  generalize addOk xs ys = ok at *
  generalize subS xs ys = us at *
  generalize subOk xs ys = good at *
  generalize totN xs = n at *
  generalize totOk xs = all at *
  generalize rightL xs = rb at *
  generalize normL xs = ns at *
  generalize cmpL xs ys = cm at *
  go_enter Try.func3, Try.ntmps3
  go_wp2_with (fail)
  refine (C0).mono ?_
  rintro e w1 ⟨a_x, c_x, rfl, r_x, _, b⟩
  have B := b
  clear b
  go_wp2_with (fail)
  refine (C1.out _ B).mono ?_
  rintro e w2 ⟨a_y, c_y, rfl, r_y, _, b⟩
  have r_x := r_x.below b
  have B := B.trans (b.mono B.size)
  clear b
  go_wp2_with (fail)
  refine (FA.out a_x a_y c_x c_y _ r_x r_y).mono ?_
  rintro e w3 ⟨a_s, c_s, rfl, r_s, _, b⟩
  have r_x := r_x.below b
  have r_y := r_y.below b
  have B := B.trans (b.mono B.size)
  clear b
  go_wp2_with (fail)
  refine (FB.out a_x a_y c_x c_y _ r_x r_y).mono ?_
  rintro e w4 ⟨a_t, c_t, rfl, r_t, _, b⟩
  have r_x := r_x.below b
  have r_y := r_y.below b
  have r_s := r_s.below b
  have B := B.trans (b.mono B.size)
  clear b
  go_wp2_with (fail)
  refine (FC.out a_x a_y c_x c_y _ r_x r_y).mono ?_
  rintro e w5 ⟨a_u, c_u, rfl, r_u, _, b⟩
  have r_x := r_x.below b
  have r_y := r_y.below b
  have r_s := r_s.below b
  have r_t := r_t.below b
  have B := B.trans (b.mono B.size)
  clear b
  go_wp2_with (fail)
  refine (FD.out a_x a_y c_x c_y _ r_x r_y).mono ?_
  rintro e w6 ⟨a_v, c_v, rfl, r_v, _, b⟩
  have r_x := r_x.below b
  have r_y := r_y.below b
  have r_s := r_s.below b
  have r_t := r_t.below b
  have r_u := r_u.below b
  have B := B.trans (b.mono B.size)
  clear b
  go_wp2_with (fail)
  refine (FE.out a_x c_x _ r_x).mono ?_
  rintro e w' ⟨rfl, rfl⟩
  go_wp2_with (fail)
  refine (FF.out a_x c_x _ r_x).mono ?_
  rintro e w' ⟨rfl, rfl⟩
  go_wp2_with (fail)
  refine (FG.out a_x c_x _ r_x).mono ?_
  rintro e w' ⟨rfl, rfl⟩
  go_wp2_with (fail)
  refine (FH.out a_x c_x _ r_x).mono ?_
  rintro e w' ⟨rfl, rfl⟩
  go_wp2_with (fail)
  refine (FI.out a_x c_x _ r_x).mono ?_
  rintro e w7 ⟨a_p, c_p, rfl, r_p, _, b⟩
  have r_x := r_x.below b
  have r_y := r_y.below b
  have r_s := r_s.below b
  have r_t := r_t.below b
  have r_u := r_u.below b
  have r_v := r_v.below b
  have B := B.trans (b.mono B.size)
  clear b
  go_wp2_with (fail)
  refine (FJ.out a_x c_x _ r_x).mono ?_
  rintro e w8 ⟨a_q, c_q, rfl, r_q, _, b⟩
  have r_x := r_x.below b
  have r_y := r_y.below b
  have r_s := r_s.below b
  have r_t := r_t.below b
  have r_u := r_u.below b
  have r_v := r_v.below b
  have r_p := r_p.below b
  have B := B.trans (b.mono B.size)
  clear b
  go_wp2_with (fail)
  refine (same_yes a_p a_q c_p c_q ns _ r_p r_q).mono ?_
  rintro e w9 ⟨rfl, q, hq⟩
  have b := reads_below hq
  clear hq
  have r_x := r_x.below b
  have r_y := r_y.below b
  have r_s := r_s.below b
  have r_t := r_t.below b
  have r_u := r_u.below b
  have r_v := r_v.below b
  have r_p := r_p.below b
  have r_q := r_q.below b
  have B := B.trans (b.mono B.size)
  clear b
  go_wp2_with (fail)
  refine (same_yes a_s a_t c_s c_t ss _ r_s r_t).mono ?_
  rintro e w10 ⟨rfl, q, hq⟩
  have b := reads_below hq
  clear hq
  have r_x := r_x.below b
  have r_y := r_y.below b
  have r_s := r_s.below b
  have r_t := r_t.below b
  have r_u := r_u.below b
  have r_v := r_v.below b
  have r_p := r_p.below b
  have r_q := r_q.below b
  have B := B.trans (b.mono B.size)
  clear b
  go_wp2_with (fail)
  refine (same_yes a_u a_v c_u c_v us _ r_u r_v).mono ?_
  rintro e w11 ⟨rfl, q, hq⟩
  have b := reads_below hq
  clear hq
  have r_x := r_x.below b
  have r_y := r_y.below b
  have r_s := r_s.below b
  have r_t := r_t.below b
  have r_u := r_u.below b
  have r_v := r_v.below b
  have r_p := r_p.below b
  have r_q := r_q.below b
  have B := B.trans (b.mono B.size)
  clear b
  go_wp2_with (fail)
  refine (FK.out a_x a_y c_x c_y _ r_x r_y).mono ?_
  rintro e w12 ⟨rfl, b⟩
  have r_x := r_x.below b
  have r_y := r_y.below b
  have r_s := r_s.below b
  have r_t := r_t.below b
  have r_u := r_u.below b
  have r_v := r_v.below b
  have r_p := r_p.below b
  have r_q := r_q.below b
  have B := B.trans (b.mono B.size)
  clear b
  go_wp2_with (fail)
  refine (FL.out a_x a_y c_x c_y _ r_x r_y).mono ?_
  rintro e w13 ⟨rfl, b⟩
  have r_x := r_x.below b
  have r_y := r_y.below b
  have r_s := r_s.below b
  have r_t := r_t.below b
  have r_u := r_u.below b
  have r_v := r_v.below b
  have r_p := r_p.below b
  have r_q := r_q.below b
  have B := B.trans (b.mono B.size)
  clear b
  go_wp2_with (fail)
  refine (wakes_any _).mono ?_
  rintro e w14 ⟨rfl, b⟩
  have r_x := r_x.below b
  have r_y := r_y.below b
  have r_s := r_s.below b
  have r_t := r_t.below b
  have r_u := r_u.below b
  have r_v := r_v.below b
  have r_p := r_p.below b
  have r_q := r_q.below b
  have B := B.trans (b.mono B.size)
  clear b
  go_wp2
  go_ret
  exact ⟨rfl, B⟩
end Go.Proofs.Ythjeollmjfdaeaa

/- Contracts of the reader's brackets, star, row, cat, sum, whole: they read as the plain words do; the condition: the reader lies there. -/
import Derived.Test.YtkdejinhjdkkmaaDoorRd
namespace Go.Proofs.YtkdejinhjdkkmaaDoor
open Go.ChangeShapes Go.WideShapes Go.ChangeAt Go.RowKit Go.Maps

section
variable {E : Env} {w w' : World} {i op : Nat} {st : Bool} {ns : List Nd} {na : Option Addr} {nc : Nat}
theorem RSt.setg (h : RSt E w i op st ns na nc) (ok : E.Ok) (k : Nat) (v : Value) {j op' : Nat} {st' : Bool}
    (e : [Value.slice E.ta E.toks.length E.tc, .map (some E.mp), .int .i64 (i : Nat), .int .i64 (op : Nat), .bool st, .slice na ns.length nc].set k v = [.slice E.ta E.toks.length E.tc, .map (some E.mp), .int .i64 (j : Nat), .int .i64 (op' : Nat), .bool st', .slice na ns.length nc]) :
    RSt E (w.setCell ⟨E.g, k, none⟩ v) j op' st' ns na nc := by
  refine ⟨(h.rd.set k v).to e, h.nds.kept (X := fun x => x = E.g) ((Kept.refl (fun x => x = E.g) w).setCell (fun _ => rfl) _) (fun g e e2 => ?_), h.own, h.bel.setCell ok.gB _⟩
  subst e2
  rcases h.nds with ⟨e', _⟩ | ⟨g', sp, e', _, _, _, l⟩
  · rw [e] at e'; cases e'
  · rw [e] at e'; injection e' with e'; injection e' with e'
    exact Lies.other h.rd l (by decide) e'
theorem RSt.set3 (h : RSt E w i op st ns na nc) (ok : E.Ok) {v : Int} {n : Nat} (e : v = (n : Nat)) : RSt E (w.setCell ⟨E.g, 3, none⟩ (.int .i64 v)) i n st ns na nc := by subst e; exact h.setg ok 3 _ rfl
theorem RSt.set4 (h : RSt E w i op st ns na nc) (ok : E.Ok) (b : Bool) : RSt E (w.setCell ⟨E.g, 4, none⟩ (.bool b)) i op b ns na nc := h.setg ok 4 _ rfl
theorem RSt.c2 (h : RSt E w i op st ns na nc) : w.cell? ⟨E.g, 2, none⟩ = some (.int .i64 (i : Nat)) := h.rd.cell 2
theorem RSt.c3 (h : RSt E w i op st ns na nc) : w.cell? ⟨E.g, 3, none⟩ = some (.int .i64 (op : Nat)) := h.rd.cell 3
theorem RSt.c4 (h : RSt E w i op st ns na nc) : w.cell? ⟨E.g, 4, none⟩ = some (.bool st) := h.rd.cell 4
end
/-- What is known of where a piece ended. -/
theorem Fine.on {E : Env} {p : List Tok → List Nd → Out} (hp : Fine p) {i i' : Nat} {ns ns' : List Nd} {rest : List Tok} (he : Ended (E.toks.drop i)) (h : p (E.toks.drop i) ns = .ok rest ns') (hi : E.toks.drop i' = rest) : Ended (E.toks.drop i') ∧ ns'.length + i ≤ ns.length + i' ∧ i < i' ∧ ns.length < ns'.length := by
  obtain ⟨h1, h2, h3, h4⟩ := fine_ok hp he h
  subst hi
  have := drop_lt h1
  have := drop_lt he
  rw [List.length_drop, List.length_drop] at h2 h3
  exact ⟨h1, by omega, by omega, h4⟩

set_option maxRecDepth 100000 in
set_option maxHeartbeats 4000000 in
theorem brackets_P (E : Env) (ok : E.Ok) (op : Nat) (ho : op < 12) (st : Bool) (p : List Tok → List Nd → Out) (hp : Fine p) (hc : CallsP E 44 p (op + 1) st) : CallsP E 85 (fun ts ns => closeP (p ts ns)) op st := by
  intro w i ns R he hn
  have hl := ok.len
  obtain ⟨na, nc, R⟩ := R
  have r3 := R.c3
  have fz := R.rd.frozen 3
  have R1 := R.set3 ok (v := (op : Int) + 1) (n := op + 1) (by omega)
  have C := hc _ i ns ⟨na, nc, R1⟩ he hn
  show Calls Tryd.prog _ _ w (Rets E (closeP (p (E.toks.drop i) ns)) op st)
  cases hx : p (E.toks.drop i) ns with
  | bad k =>
    have hk := fine_bad hp he hx
    rw [hx] at C
    have C := Lib.hid C
    have hk0 : ¬ ((k : Nat) : Int) = 0 := by omega
    clear R R1 hx hk hc
    go_enter Tryd.func85, Tryd.ntmps85
    go_wp2_with (fail)
    refine C.out.mono ?_
    rintro e w1 ⟨rfl, b⟩
    have HB := Lib.hid b
    clear b
    go_wp2
    go_ret
    exact Rets.bad rfl HB.out
  | ok rest ns' =>
    rw [hx] at C
    have C := Lib.hid C
    have HF := Lib.hid (fun i' (h : E.toks.drop i' = rest) => hp.on he hx h)
    have HK := Lib.hid ok
    clear R R1 hx hc ok
    obtain ⟨o, ho2⟩ : ∃ o, closeP (.ok rest ns') = o := ⟨_, rfl⟩
    rw [ho2]
    have HO := Lib.hid ho2
    clear ho2
    go_enter Tryd.func85, Tryd.ntmps85
    go_wp2_with (fail)
    refine C.out.mono ?_
    rintro e w1 ⟨rfl, i1, hi1, hl1, na1, nc1, R1⟩
    obtain ⟨he1, hn1, -, -⟩ := HF.out i1 hi1
    rw [← hi1] at HO
    have HR1 := Lib.hid R1
    clear R1 C HF r3 fz hi1
    cases hT : isT 41 (E.toks.drop i1) with
    | false =>
      have CS := Lib.hid (skip_no E HK.out w1 i1 (op + 1) st ns' na1 nc1 HR1.out hl1 41 hT)
      have HO2 : Hid (o = .bad 2) := Lib.hid (by rw [← HO.out]; simp [closeP, hT])
      clear hT
      go_wp2_with (fail)
      refine CS.out.mono ?_
      rintro e w2 ⟨rfl, R2⟩
      have HB := Lib.hid R2.bel
      clear R2
      go_wp2
      go_ret
      rw [HO2.out]
      exact Rets.bad rfl HB.out
    | true =>
      have CS := Lib.hid (skip_yes E HK.out w1 i1 (op + 1) st ns' na1 nc1 HR1.out hl1 41 hT)
      have h2 := Lib.hid (isT_tail he1 hT).1
      rw [drop_tail] at h2
      have HO2 : Hid (o = .ok (E.toks.drop (i1 + 1)) ns') := Lib.hid (by rw [← HO.out]; simp [closeP, hT])
      clear hT
      go_wp2_with (fail)
      refine CS.out.mono ?_
      rintro e w2 ⟨rfl, R2⟩
      have r3 := R2.c3
      have fz := R2.rd.frozen 3
      have HR2 := Lib.hid R2
      clear R2
      go_wp2
      go_ret
      rw [HO2.out]
      exact Rets.ok rfl rfl (drop_lt h2.out) ⟨na1, nc1, HR2.out.set3 HK.out (by omega)⟩
theorem brackets_limit (E : Env) (st : Bool) : CallsP E 85 (fun _ _ => .bad 3) 12 st := by
  intro w i ns R he hn
  obtain ⟨na, nc, R⟩ := R
  have r3 := R.c3
  have HB := Lib.hid R.bel
  clear R
  go_enter Tryd.func85, Tryd.ntmps85
  go_wp2
  go_ret
  exact Rets.bad rfl HB.out

set_option maxRecDepth 100000 in
set_option maxHeartbeats 4000000 in
theorem star_P (E : Env) (ok : E.Ok) (op : Nat) (st : Bool) (br : Bool → List Tok → List Nd → Out) (hf : ∀ s, Fine (br s)) (hc : ∀ s, CallsP E 82 (singleP keysL E.nm (br s)) op s) : CallsP E 79 (starP keysL E.nm st br) op st := by
  intro w i ns R he hn
  have hl := ok.len
  have hi := drop_lt he
  obtain ⟨na, nc, R⟩ := R
  unfold starP
  cases hT : isT 42 (E.toks.drop i) with
  | false =>
    have CS := Lib.hid (skip_no E ok w i op st ns na nc R hi 42 hT)
    have C := Lib.hid (fun W (h : RSt E W i op st ns na nc) => hc st W i ns ⟨na, nc, h⟩ he hn)
    simp only [Bool.false_eq_true, if_false]
    clear R hT hc
    go_enter Tryd.func79, Tryd.ntmps79
    go_wp2_with (fail)
    refine CS.out.mono ?_
    rintro e w1 ⟨rfl, R1⟩
    have HR1 := Lib.hid R1
    clear R1
    go_wp2_with (fail)
    refine (C.out w1 HR1.out).mono ?_
    intro e w2 h2
    obtain ⟨z, rfl⟩ := h2.ret
    have H2 := Lib.hid h2
    clear h2
    go_wp2
    go_ret
    exact H2.out
  | true =>
    have CS := Lib.hid (skip_yes E ok w i op st ns na nc R hi 42 hT)
    have h2 := (isT_tail he hT).1
    rw [drop_tail] at h2
    simp only [if_true]
    cases st with
    | true =>
      simp only [if_true]
      clear R hT hc
      go_enter Tryd.func79, Tryd.ntmps79
      go_wp2_with (fail)
      refine CS.out.mono ?_
      rintro e w1 ⟨rfl, R1⟩
      have r4 := R1.c4
      have HB := Lib.hid R1.bel
      clear R1
      go_wp2
      go_ret
      exact Rets.bad rfl HB.out
    | false =>
      simp only [Bool.false_eq_true, if_false]
      rw [drop_tail]
      have hfs := fine_single keysL E.nm (br true) (hf true)
      have C := fun W (h : RSt E W (i + 1) op true ns na nc) => hc true W (i + 1) ns ⟨na, nc, h⟩ h2 (by omega)
      have HK := Lib.hid ok
      cases hx : singleP keysL E.nm (br true) (E.toks.drop (i + 1)) ns with
      | bad k =>
        have hk := fine_bad hfs h2 hx
        rw [hx] at C
        have C := Lib.hid C
        have hk0 : ¬ ((k : Nat) : Int) = 0 := by omega
        simp only [addStar]
        clear R hT hc hx hk ok
        go_enter Tryd.func79, Tryd.ntmps79
        go_wp2_with (fail)
        refine CS.out.mono ?_
        rintro e w1 ⟨rfl, R1⟩
        have r4 := R1.c4
        have fz := R1.rd.frozen 4
        have HR1 := Lib.hid (R1.set4 HK.out true)
        clear R1
        go_wp2_with (fail)
        refine (C.out _ HR1.out).mono ?_
        rintro e w2 ⟨rfl, b⟩
        have HB := Lib.hid b
        clear b
        go_wp2
        go_ret
        exact Rets.bad rfl HB.out
      | ok rest ns' =>
        rw [hx] at C
        have C := Lib.hid C
        have HF := Lib.hid (fun i' (h : E.toks.drop i' = rest) => hfs.on h2 hx h)
        simp only [addStar]
        clear R hT hc hx ok
        go_enter Tryd.func79, Tryd.ntmps79
        go_wp2_with (fail)
        refine CS.out.mono ?_
        rintro e w1 ⟨rfl, R1⟩
        have r4 := R1.c4
        have fz := R1.rd.frozen 4
        have HR1 := Lib.hid (R1.set4 HK.out true)
        clear R1
        go_wp2_with (fail)
        refine (C.out _ HR1.out).mono ?_
        clear r4 fz
        rintro e w2 ⟨rfl, i2, hi2, hl2, na2, nc2, R2⟩
        obtain ⟨he2, hn2, -, -⟩ := HF.out i2 hi2
        have r4 := R2.c4
        have fz := R2.rd.frozen 4
        have R3 := R2.set4 HK.out false
        have CL := Lib.hid (last_any E _ i2 op false ns' na2 nc2 R3 (by omega))
        have CA := Lib.hid (add_any E HK.out _ i2 op false ns' na2 nc2 R3 (by omega) 6 ((ns'.length : Int) - 1) 0 0 ⟨#[]⟩)
        have HI := Lib.hid hi2
        clear R2 R3 hi2
        go_wp2_with (fail)
        refine CL.out.mono ?_
        rintro e w3 ⟨rfl, rfl⟩
        go_wp2_with (fail)
        refine CA.out.mono ?_
        rintro e w4 ⟨rfl, R4⟩
        have HR4 := Lib.hid R4
        clear R4 CA CL
        go_wp2
        go_ret
        exact Rets.ok rfl HI.out hl2 HR4.out

def atR (w : World) (g : Nat) : Nat := (intOf ((w.cell? ⟨g, 2, none⟩).getD undef)).toNat
theorem atR_rs {E : Env} {w : World} {i op : Nat} {st : Bool} {ns : List Nd} (h : RS E w i op st ns) : atR w E.g = i := by
  obtain ⟨na, nc, h⟩ := h
  unfold atR
  rw [h.c2]
  simp [intOf]
/-- Where a row's loop stands. -/
def RowSt (E : Env) (p : List Tok → List Nd → Out) (c : UInt8) (kind : Int) (o : Out) (op : Nat) (st : Bool) (w : World) (i : Nat) (ns : List Nd) : Prop :=
  RS E w i op st ns ∧ Ended (E.toks.drop i) ∧ 1 ≤ ns.length ∧ ns.length ≤ i ∧ ∃ f, (E.toks.drop i).length ≤ f ∧ rowL p c kind f (E.toks.drop i) ns = o
theorem rowL_stop {p : List Tok → List Nd → Out} {c : UInt8} {kind : Int} {f : Nat} {ts : List Tok} {ns : List Nd} (h : isT c ts = false) : rowL p c kind f ts ns = .ok ts ns := by
  cases f with
  | zero => rfl
  | succ f => unfold rowL; rw [h]; simp
theorem rowL_bad {p : List Tok → List Nd → Out} {c : UInt8} {kind : Int} {f : Nat} {ts : List Tok} {ns : List Nd} {k : Nat} (h : isT c ts = true) (hf : ts.length ≤ f) (hp : p ts.tail ns = .bad k) : rowL p c kind f ts ns = .bad k := by
  cases f with
  | zero => cases ts with
    | nil => cases h
    | cons t r => simp at hf
  | succ f => unfold rowL; rw [h, hp]; simp [addTwo]
theorem rowL_on {p : List Tok → List Nd → Out} {c : UInt8} {kind : Int} {f : Nat} {ts ts' : List Tok} {ns ns' : List Nd} (h : isT c ts = true) (hf : ts.length ≤ f) (hp : p ts.tail ns = .ok ts' ns') (hl : ts'.length < ts.tail.length) :
    ∃ f', ts'.length ≤ f' ∧ rowL p c kind f ts ns = rowL p c kind f' ts' (ns' ++ [nTwo kind ((ns.length : Int) - 1) ((ns'.length : Int) - 1)]) := by
  cases f with
  | zero => cases ts with
    | nil => cases h
    | cons t r => simp at hf
  | succ f =>
    refine ⟨f, ?_, ?_⟩
    · cases ts with
      | nil => cases h
      | cons t r => simp only [List.length_cons, List.tail_cons] at hf hl; omega
    · rw [rowL, h, hp]; simp [addTwo]
set_option maxRecDepth 100000 in
set_option maxHeartbeats 8000000 in
theorem row_star (E : Env) (ok : E.Ok) (op : Nat) (st : Bool) (p : List Tok → List Nd → Out) (hp : Fine p) (hc : CallsP E 79 p op st) (w : World) (i : Nat) (ns : List Nd) (R : RS E w i op st ns) (he : Ended (E.toks.drop i)) (hn : ns.length ≤ i) :
    Calls Tryd.prog 68 #[.pointer (some ⟨E.g, 0, none⟩), .string ⟨#[46]⟩, .int .i64 5, .func (.func 79) #[.pointer (some ⟨E.g, 0, none⟩)] #[]] w (Rets E (rowP p 46 5 (E.toks.drop i) ns) op st) := by
  have hl := ok.len
  have C := hc w i ns R he hn
  unfold rowP
  cases hx : p (E.toks.drop i) ns with
  | bad k =>
    have hk := fine_bad hp he hx
    rw [hx] at C
    have C := Lib.hid C
    have hk0 : ¬ ((k : Nat) : Int) = 0 := by omega
    simp only
    clear R hx hk hc
    go_enter Tryd.func68, Tryd.ntmps68
    go_wp2_with (fail)
    refine C.out.mono ?_
    rintro e w1 ⟨rfl, b⟩
    have HB := Lib.hid b
    clear b
    go_wp2
    go_ret
    exact Rets.bad rfl HB.out
  | ok rest ns1 =>
    rw [hx] at C
    have C := Lib.hid C
    have HF := Lib.hid (fun i' (h : E.toks.drop i' = rest) => hp.on he hx h)
    have HP := Lib.hid hp
    have HC := Lib.hid hc
    have HK := Lib.hid ok
    simp only
    obtain ⟨o, ho⟩ : ∃ o, rowL p 46 5 rest.length rest ns1 = o := ⟨_, rfl⟩
    rw [ho]
    have HO := Lib.hid ho
    clear R hx hc ho he ok hp
    go_enter Tryd.func68, Tryd.ntmps68
    go_wp2_with (fail)
    refine C.out.mono ?_
    rintro e w1 ⟨rfl, i1, hi1, hl1, R1⟩
    obtain ⟨he1, hn1, -, hm1⟩ := HF.out i1 hi1
    have hn1 : ns1.length ≤ i1 := by omega
    have H0 : Hid (RowSt E p 46 5 o op st w1 i1 ns1) := Lib.hid ⟨R1, he1, by omega, hn1, _, Nat.le_of_eq (by rw [hi1]), by rw [hi1]; exact HO.out⟩
    clear R1 he1 hn1 hm1 hi1 hl1 C HF HO
    go_wp2_with (fail)
    go_loopw [8, 10, 11] (fun _ _ _ wr => ∃ j ms, Hid (RowSt E p 46 5 o op st wr j ms)) (fun _ _ _ wr => E.toks.length - atR wr E.g)
    case atStart => exact ⟨i1, ns1, H0⟩
    case round =>
      clear H0
      obtain ⟨j, ms, HS⟩ := hrel
      obtain ⟨R, he, hm, hn, f, hf, ho⟩ := HS.out
      have HM := Lib.hid (atR_rs R)
      obtain ⟨na, nc, R⟩ := R
      have hj := drop_lt he
      cases hT : isT 46 (E.toks.drop j) with
      | false =>
        have CS := Lib.hid (skip_no E HK.out wr j op st ms na nc R hj 46 hT)
        rw [rowL_stop hT] at ho
        have HO := Lib.hid ho
        clear R hT ho HS he hf HM
        go_wp2_with (fail)
        refine CS.out.mono ?_
        rintro e w2 ⟨rfl, R2⟩
        have HR2 := Lib.hid R2
        clear R2
        go_wp2
        go_ret
        rw [← HO.out]
        exact Rets.ok rfl rfl hj ⟨na, nc, HR2.out⟩
      | true =>
        have CS := Lib.hid (skip_yes E HK.out wr j op st ms na nc R hj 46 hT)
        have h2 := (isT_tail he hT).1
        have hlt := (isT_tail he hT).2
        have ho' := @rowL_bad p 46 5 f (E.toks.drop j) ms
        have ho2 := @rowL_on p 46 5 f (E.toks.drop j)
        rw [drop_tail] at h2 hlt
        simp only [drop_tail] at ho' ho2
        have CP := fun W (h : RSt E W (j + 1) op st ms na nc) => HC.out W (j + 1) ms ⟨na, nc, h⟩ h2 (by omega)
        have CL := Lib.hid (fun W (h : RSt E W (j + 1) op st ms na nc) => last_any E W (j + 1) op st ms na nc h (by omega))
        have hj1 := drop_lt h2
        cases hx : p (E.toks.drop (j + 1)) ms with
        | bad k =>
          have hk := fine_bad HP.out h2 hx
          rw [hx] at CP
          have CP := Lib.hid CP
          have hk0 : ¬ ((k : Nat) : Int) = 0 := by omega
          have HO : Hid (.bad k = o) := Lib.hid (by rw [← ho' hT hf hx]; exact ho)
          clear R hT ho HS he hf HM ho' ho2 hx hk h2 hlt
          go_wp2_with (fail)
          refine CS.out.mono ?_
          rintro e w2 ⟨rfl, R2⟩
          have HR2 := Lib.hid R2
          clear R2
          go_wp2_with (fail)
          refine (CL.out w2 HR2.out).mono ?_
          rintro e w3 ⟨rfl, rfl⟩
          go_wp2_with (fail)
          refine (CP.out w2 HR2.out).mono ?_
          rintro e w3 ⟨rfl, b⟩
          have HB := Lib.hid b
          clear b
          go_wp2
          go_ret
          rw [← HO.out]
          exact Rets.bad rfl HB.out
        | ok rest2 ms2 =>
          have HF := Lib.hid (fun i' (h : E.toks.drop i' = rest2) => HP.out.on h2 hx h)
          have hfl := fine_ok HP.out h2 hx
          obtain ⟨f2, hf2, ho3⟩ := ho2 hT hf hx hfl.2.1
          have HO : Hid (rowL p 46 5 f2 rest2 (ms2 ++ [nTwo 5 ((ms.length : Int) - 1) ((ms2.length : Int) - 1)]) = o) := Lib.hid (by rw [← ho3]; exact ho)
          have HF2 := Lib.hid hf2
          rw [hx] at CP
          have CP := Lib.hid CP
          clear R hT ho HS he hf ho' ho2 hx h2 hlt ho3 hf2 hfl
          go_wp2_with (fail)
          refine CS.out.mono ?_
          rintro e w2 ⟨rfl, R2⟩
          have HR2 := Lib.hid R2
          clear R2
          go_wp2_with (fail)
          refine (CL.out w2 HR2.out).mono ?_
          rintro e w3 ⟨rfl, rfl⟩
          go_wp2_with (fail)
          refine (CP.out w2 HR2.out).mono ?_
          rintro e w3 ⟨rfl, i3, hi3, hl3, na3, nc3, R3⟩
          obtain ⟨he3, hn3, hlt3, hm3⟩ := HF.out i3 hi3
          have CL3 := Lib.hid (last_any E w3 i3 op st ms2 na3 nc3 R3 (by omega))
          have CA := Lib.hid (add_any E HK.out w3 i3 op st ms2 na3 nc3 R3 (by omega) 5 ((ms.length : Int) - 1) ((ms2.length : Int) - 1) 0 ⟨#[]⟩)
          have HI := Lib.hid hi3
          have HE3 := Lib.hid he3
          have HLT := Lib.hid hlt3
          have HL3 := Lib.hid hl3
          have HNE : Hid (ms2.length + 1 ≤ i3) := Lib.hid (by omega)
          clear R3 hi3 he3 hlt3 CP CL HF hl3
          go_wp2_with (fail)
          refine CL3.out.mono ?_
          rintro e w4 ⟨rfl, rfl⟩
          go_wp2_with (fail)
          refine CA.out.mono ?_
          rintro e w4 ⟨rfl, R4⟩
          have HR4 := Lib.hid R4
          have HM4 := Lib.hid (atR_rs R4)
          have H4 : Hid (RowSt E p 46 5 o op st w4 i3 (ms2 ++ [nTwo 5 ((ms.length : Int) - 1) ((ms2.length : Int) - 1)])) := Lib.hid ⟨R4, HE3.out, by simp, by have h5 := HNE.out; simp; omega, f2, by rw [HI.out]; exact HF2.out, by rw [HI.out]; exact HO.out⟩
          clear R4 CA CL3
          go_wp2_with (fail)
          go_roundw
          case rel => exact ⟨i3, _, H4⟩
          case measure => rw [HM4.out, HM.out]; have := HLT.out; have := HL3.out; omega
set_option maxRecDepth 100000 in
set_option maxHeartbeats 8000000 in
theorem row_cat (E : Env) (ok : E.Ok) (op : Nat) (st : Bool) (p : List Tok → List Nd → Out) (hp : Fine p) (hc : CallsP E 69 p op st) (w : World) (i : Nat) (ns : List Nd) (R : RS E w i op st ns) (he : Ended (E.toks.drop i)) (hn : ns.length ≤ i) :
    Calls Tryd.prog 68 #[.pointer (some ⟨E.g, 0, none⟩), .string ⟨#[43]⟩, .int .i64 4, .func (.func 69) #[.pointer (some ⟨E.g, 0, none⟩)] #[]] w (Rets E (rowP p 43 4 (E.toks.drop i) ns) op st) := by
  have hl := ok.len
  have C := hc w i ns R he hn
  unfold rowP
  cases hx : p (E.toks.drop i) ns with
  | bad k =>
    have hk := fine_bad hp he hx
    rw [hx] at C
    have C := Lib.hid C
    have hk0 : ¬ ((k : Nat) : Int) = 0 := by omega
    simp only
    clear R hx hk hc
    go_enter Tryd.func68, Tryd.ntmps68
    go_wp2_with (fail)
    refine C.out.mono ?_
    rintro e w1 ⟨rfl, b⟩
    have HB := Lib.hid b
    clear b
    go_wp2
    go_ret
    exact Rets.bad rfl HB.out
  | ok rest ns1 =>
    rw [hx] at C
    have C := Lib.hid C
    have HF := Lib.hid (fun i' (h : E.toks.drop i' = rest) => hp.on he hx h)
    have HP := Lib.hid hp
    have HC := Lib.hid hc
    have HK := Lib.hid ok
    simp only
    obtain ⟨o, ho⟩ : ∃ o, rowL p 43 4 rest.length rest ns1 = o := ⟨_, rfl⟩
    rw [ho]
    have HO := Lib.hid ho
    clear R hx hc ho he ok hp
    go_enter Tryd.func68, Tryd.ntmps68
    go_wp2_with (fail)
    refine C.out.mono ?_
    rintro e w1 ⟨rfl, i1, hi1, hl1, R1⟩
    obtain ⟨he1, hn1, -, hm1⟩ := HF.out i1 hi1
    have hn1 : ns1.length ≤ i1 := by omega
    have H0 : Hid (RowSt E p 43 4 o op st w1 i1 ns1) := Lib.hid ⟨R1, he1, by omega, hn1, _, Nat.le_of_eq (by rw [hi1]), by rw [hi1]; exact HO.out⟩
    clear R1 he1 hn1 hm1 hi1 hl1 C HF HO
    go_wp2_with (fail)
    go_loopw [8, 10, 11] (fun _ _ _ wr => ∃ j ms, Hid (RowSt E p 43 4 o op st wr j ms)) (fun _ _ _ wr => E.toks.length - atR wr E.g)
    case atStart => exact ⟨i1, ns1, H0⟩
    case round =>
      clear H0
      obtain ⟨j, ms, HS⟩ := hrel
      obtain ⟨R, he, hm, hn, f, hf, ho⟩ := HS.out
      have HM := Lib.hid (atR_rs R)
      obtain ⟨na, nc, R⟩ := R
      have hj := drop_lt he
      cases hT : isT 43 (E.toks.drop j) with
      | false =>
        have CS := Lib.hid (skip_no E HK.out wr j op st ms na nc R hj 43 hT)
        rw [rowL_stop hT] at ho
        have HO := Lib.hid ho
        clear R hT ho HS he hf HM
        go_wp2_with (fail)
        refine CS.out.mono ?_
        rintro e w2 ⟨rfl, R2⟩
        have HR2 := Lib.hid R2
        clear R2
        go_wp2
        go_ret
        rw [← HO.out]
        exact Rets.ok rfl rfl hj ⟨na, nc, HR2.out⟩
      | true =>
        have CS := Lib.hid (skip_yes E HK.out wr j op st ms na nc R hj 43 hT)
        have h2 := (isT_tail he hT).1
        have hlt := (isT_tail he hT).2
        have ho' := @rowL_bad p 43 4 f (E.toks.drop j) ms
        have ho2 := @rowL_on p 43 4 f (E.toks.drop j)
        rw [drop_tail] at h2 hlt
        simp only [drop_tail] at ho' ho2
        have CP := fun W (h : RSt E W (j + 1) op st ms na nc) => HC.out W (j + 1) ms ⟨na, nc, h⟩ h2 (by omega)
        have CL := Lib.hid (fun W (h : RSt E W (j + 1) op st ms na nc) => last_any E W (j + 1) op st ms na nc h (by omega))
        have hj1 := drop_lt h2
        cases hx : p (E.toks.drop (j + 1)) ms with
        | bad k =>
          have hk := fine_bad HP.out h2 hx
          rw [hx] at CP
          have CP := Lib.hid CP
          have hk0 : ¬ ((k : Nat) : Int) = 0 := by omega
          have HO : Hid (.bad k = o) := Lib.hid (by rw [← ho' hT hf hx]; exact ho)
          clear R hT ho HS he hf HM ho' ho2 hx hk h2 hlt
          go_wp2_with (fail)
          refine CS.out.mono ?_
          rintro e w2 ⟨rfl, R2⟩
          have HR2 := Lib.hid R2
          clear R2
          go_wp2_with (fail)
          refine (CL.out w2 HR2.out).mono ?_
          rintro e w3 ⟨rfl, rfl⟩
          go_wp2_with (fail)
          refine (CP.out w2 HR2.out).mono ?_
          rintro e w3 ⟨rfl, b⟩
          have HB := Lib.hid b
          clear b
          go_wp2
          go_ret
          rw [← HO.out]
          exact Rets.bad rfl HB.out
        | ok rest2 ms2 =>
          have HF := Lib.hid (fun i' (h : E.toks.drop i' = rest2) => HP.out.on h2 hx h)
          have hfl := fine_ok HP.out h2 hx
          obtain ⟨f2, hf2, ho3⟩ := ho2 hT hf hx hfl.2.1
          have HO : Hid (rowL p 43 4 f2 rest2 (ms2 ++ [nTwo 4 ((ms.length : Int) - 1) ((ms2.length : Int) - 1)]) = o) := Lib.hid (by rw [← ho3]; exact ho)
          have HF2 := Lib.hid hf2
          rw [hx] at CP
          have CP := Lib.hid CP
          clear R hT ho HS he hf ho' ho2 hx h2 hlt ho3 hf2 hfl
          go_wp2_with (fail)
          refine CS.out.mono ?_
          rintro e w2 ⟨rfl, R2⟩
          have HR2 := Lib.hid R2
          clear R2
          go_wp2_with (fail)
          refine (CL.out w2 HR2.out).mono ?_
          rintro e w3 ⟨rfl, rfl⟩
          go_wp2_with (fail)
          refine (CP.out w2 HR2.out).mono ?_
          rintro e w3 ⟨rfl, i3, hi3, hl3, na3, nc3, R3⟩
          obtain ⟨he3, hn3, hlt3, hm3⟩ := HF.out i3 hi3
          have CL3 := Lib.hid (last_any E w3 i3 op st ms2 na3 nc3 R3 (by omega))
          have CA := Lib.hid (add_any E HK.out w3 i3 op st ms2 na3 nc3 R3 (by omega) 4 ((ms.length : Int) - 1) ((ms2.length : Int) - 1) 0 ⟨#[]⟩)
          have HI := Lib.hid hi3
          have HE3 := Lib.hid he3
          have HLT := Lib.hid hlt3
          have HL3 := Lib.hid hl3
          have HNE : Hid (ms2.length + 1 ≤ i3) := Lib.hid (by omega)
          clear R3 hi3 he3 hlt3 CP CL HF hl3
          go_wp2_with (fail)
          refine CL3.out.mono ?_
          rintro e w4 ⟨rfl, rfl⟩
          go_wp2_with (fail)
          refine CA.out.mono ?_
          rintro e w4 ⟨rfl, R4⟩
          have HR4 := Lib.hid R4
          have HM4 := Lib.hid (atR_rs R4)
          have H4 : Hid (RowSt E p 43 4 o op st w4 i3 (ms2 ++ [nTwo 4 ((ms.length : Int) - 1) ((ms2.length : Int) - 1)])) := Lib.hid ⟨R4, HE3.out, by simp, by have h5 := HNE.out; simp; omega, f2, by rw [HI.out]; exact HF2.out, by rw [HI.out]; exact HO.out⟩
          clear R4 CA CL3
          go_wp2_with (fail)
          go_roundw
          case rel => exact ⟨i3, _, H4⟩
          case measure => rw [HM4.out, HM.out]; have := HLT.out; have := HL3.out; omega
theorem cat_P (E : Env) (ok : E.Ok) (op : Nat) (st : Bool) (p : List Tok → List Nd → Out) (hp : Fine p) (hc : CallsP E 79 p op st) : CallsP E 69 (rowP p 46 5) op st := by
  intro w i ns R he hn
  have C := Lib.hid (row_star E ok op st p hp hc w i ns R he hn)
  clear R hc
  go_enter Tryd.func69, Tryd.ntmps69
  go_wp2_with (fail)
  refine C.out.mono ?_
  intro e w2 h2
  obtain ⟨z, rfl⟩ := h2.ret
  have H2 := Lib.hid h2
  clear h2
  go_wp2
  go_ret
  exact H2.out
theorem sum_P (E : Env) (ok : E.Ok) (op : Nat) (st : Bool) (p : List Tok → List Nd → Out) (hp : Fine p) (hc : CallsP E 69 p op st) : CallsP E 44 (rowP p 43 4) op st := by
  intro w i ns R he hn
  have C := Lib.hid (row_cat E ok op st p hp hc w i ns R he hn)
  clear R hc
  go_enter Tryd.func44, Tryd.ntmps44
  go_wp2_with (fail)
  refine C.out.mono ?_
  intro e w2 h2
  obtain ⟨z, rfl⟩ := h2.ret
  have H2 := Lib.hid h2
  clear h2
  go_wp2
  go_ret
  exact H2.out
/-- The readers of sums and of brackets, where d brackets more may be opened. -/
theorem both_P (E : Env) (ok : E.Ok) : ∀ (d op : Nat) (_ : d + op = 12) (st : Bool), CallsP E 85 (brP keysL E.nm d st) op st ∧ CallsP E 44 (sumP keysL E.nm d st) op st
  | 0, op, h, st => by
    obtain rfl : op = 12 := by omega
    have hb : ∀ s, CallsP E 85 (brP keysL E.nm 0 s) 12 s := fun s => brackets_limit E s
    refine ⟨hb st, ?_⟩
    exact sum_P E ok 12 st _ (fine_cat keysL E.nm st _ (fine_br keysL E.nm 0)) (cat_P E ok 12 st _ (fine_star keysL E.nm st _ (fine_br keysL E.nm 0)) (star_P E ok 12 st _ (fine_br keysL E.nm 0) (fun s => single_P E ok 12 s _ (hb s))))
  | d + 1, op, h, st => by
    have hb : ∀ s, CallsP E 85 (brP keysL E.nm (d + 1) s) op s := fun s =>
      brackets_P E ok op (by omega) s (sumP keysL E.nm d s) (fine_sum keysL E.nm d s) (both_P E ok d (op + 1) (by omega) s).2
    refine ⟨hb st, ?_⟩
    exact sum_P E ok op st _ (fine_cat keysL E.nm st _ (fine_br keysL E.nm (d + 1))) (cat_P E ok op st _ (fine_star keysL E.nm st _ (fine_br keysL E.nm (d + 1))) (star_P E ok op st _ (fine_br keysL E.nm (d + 1)) (fun s => single_P E ok op s _ (hb s))))
end Go.Proofs.YtkdejinhjdkkmaaDoor

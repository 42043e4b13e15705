/- Contracts of the reader's single, brackets, star, each by those of what it calls; the condition: the reader lies there. -/
import Derived.Test.YtkdejinhjdkkmaaDoorRc
namespace Go.Proofs.YtkdejinhjdkkmaaDoor
open Go.ChangeShapes Go.WideShapes Go.ChangeAt Go.RowKit Go.Maps

theorem text_len {t : Tok} {r : List Tok} (h : Ended (t :: r)) : t.text.length ≤ 16 := by
  cases r with
  | nil => rw [h.2]; simp
  | cons u ts =>
    rcases h.1 with ⟨_, h⟩ | ⟨_, _, _, h, _⟩ | ⟨_, c, _, h⟩
    · cases hx : t.text with
      | nil => simp
      | cons c r => rw [hx] at h; simp [isWord] at h; simp; omega
    · omega
    · rw [h]; simp
/-- What a reader of a piece does, as a contract of function f. -/
def CallsP (E : Env) (f : FuncId) (p : List Tok → List Nd → Out) (op : Nat) (st : Bool) : Prop :=
  ∀ w i ns, RS E w i op st ns → Ended (E.toks.drop i) → ns.length ≤ i → Calls Tryd.prog f #[.pointer (some ⟨E.g, 0, none⟩)] w (Rets E (p (E.toks.drop i) ns) op st)
theorem tag_any (E : Env) (ok : E.Ok) (w : World) (i op : Nat) (st : Bool) (ns : List Nd) (R : RS E w i op st ns) (he : Ended (E.toks.drop i)) (hn : ns.length ≤ i + 1) (x : Txt) (hx : x.length ≤ 1000) :
    Calls Tryd.prog 86 #[.pointer (some ⟨E.g, 0, none⟩), .string (str x)] w (Rets E (tagP E.nm x (E.toks.drop i) ns) op st) := by
  obtain ⟨na, nc, R⟩ := R
  have hi := drop_lt he
  have hl := ok.len
  unfold tagP
  cases hp : posF x E.nm 0 with
  | none =>
    refine (tag_none E ok w i op st ns na nc R x hx hp).mono ?_
    rintro e w' ⟨rfl, rfl⟩
    exact Rets.bad rfl R.bel
  | some k =>
    simp only
    unfold countP
    cases hT : isT 94 (E.toks.drop i) with
    | false =>
      refine (tag_one E ok w i op st ns na nc R (by omega) he x hx k hp hT).mono ?_
      rintro e w' ⟨rfl, r⟩
      exact Rets.ok rfl rfl hi r
    | true =>
      have e1 := isT_tail he hT
      rw [drop_tail] at e1
      have hi1 := drop_lt e1.1
      rw [if_pos rfl, drop_tail, drop_cons hi1]
      refine (tag_many E ok w i op st ns na nc R (by omega) he x hx k hp hT hi1).mono ?_
      intro e w' h
      unfold TagPost at h
      simp only
      by_cases hc : (E.toks[i + 1]).kind = 2 ∧ 1 ≤ (E.toks[i + 1]).n ∧ (E.toks[i + 1]).n ≤ 999999999
      · rw [if_pos hc] at h ⊢
        have h2 : Ended (E.toks.drop (i + 1 + 1)) := by
          have e2 := e1.1
          rw [drop_cons hi1] at e2
          cases hr : E.toks.drop (i + 1 + 1) with
          | nil => rw [hr] at e2; have := e2.1; omega
          | cons u ts => rw [hr] at e2; exact e2.2
        exact Rets.ok h.1 rfl (drop_lt h2) h.2
      · rw [if_neg hc] at h ⊢
        exact Rets.bad h.1 h.2
theorem Rets.ret {E : Env} {o : Out} {op : Nat} {st : Bool} {e : Ending} {w' : World} (h : Rets E o op st e w') : ∃ z : Int, e = .returned (.int .i64 z) := by
  cases o with
  | bad k => exact ⟨_, h.1⟩
  | ok rest ns => exact ⟨_, h.1⟩
theorem RS.alloc {E : Env} {w : World} {i op : Nat} {st : Bool} {ns : List Nd} (h : RS E w i op st ns) (ok : E.Ok) (o : Obj) : RS E (w.alloc o) i op st ns := by
  obtain ⟨na, nc, h⟩ := h
  exact ⟨na, nc, h.alloc ok o⟩
theorem lname_any (x : Txt) (w : World) (h : x.length ≤ 1000) : Calls Tryd.prog 35 #[.string (str x)] w fun e w' => e = .returned (.bool (isName keysL x)) ∧ w = w' :=
  lname (str x) w (by rw [str_size]; unfold maxLen; omega)

set_option maxRecDepth 100000 in
set_option maxHeartbeats 4000000 in
theorem single_P (E : Env) (ok : E.Ok) (op : Nat) (st : Bool) (br : List Tok → List Nd → Out) (hb : CallsP E 85 br op st) : CallsP E 82 (singleP keysL E.nm br) op st := by
  intro w i ns R he hn
  have hi := drop_lt he
  have hl := ok.len
  obtain ⟨na, nc, R⟩ := R
  have CN := Lib.hid (next_any E ok w i op st ns na nc R hi)
  rw [drop_cons hi] at he ⊢
  have ht := text_len he
  have HE : Hid ((E.toks[i]).text ≠ [] → Ended (E.toks.drop (i + 1))) := Lib.hid (fun h => (he.tail h).1)
  have HK := Lib.hid ok
  have HB := Lib.hid hb
  unfold singleP
  simp only
  generalize E.toks[i] = t at CN HE ht ⊢
  clear R he ok hb
  have h40 := str_test t.text 40
  have h48 := str_test t.text 48
  have h49 := str_test t.text 49
  obtain ⟨sx, hsx⟩ : ∃ sx, sx = str t.text := ⟨_, rfl⟩
  have CL := Lib.hid (fun W => lname_any t.text W (by omega))
  have CT := Lib.hid (fun W (R : RS E W (i + 1) op st ns) (h : Ended (E.toks.drop (i + 1))) => tag_any E HK.out W (i + 1) op st ns R h (by omega) t.text (by omega))
  have CB := Lib.hid (fun W (R : RS E W (i + 1) op st ns) (h : Ended (E.toks.drop (i + 1))) => HB.out W (i + 1) ns R h (by omega))
  rw [← hsx] at h40 h48 h49 CL CT
  unfold tokV at CN
  rw [← hsx] at CN
  clear HB
  have HX := Lib.hid hsx
  clear hsx
  by_cases c1 : t.text = [40]
  · rw [if_pos c1]
    have t1 : (sx.toList == [40]) = true := by rw [h40]; simpa using c1
    have HE2 := Lib.hid (HE.out (by rw [c1]; simp))
    have HC := Lib.hid c1
    clear h40 h48 h49 c1
    go_enter Tryd.func82, Tryd.ntmps82
    go_wp2_with (fail)
    refine CN.out.mono ?_
    rintro e w1 ⟨rfl, R1⟩
    have HR1 := Lib.hid (RS.alloc ⟨na, nc, R1⟩ HK.out (.cells #[.int .i64 (t.kind : Nat), .int .i64 (t.n : Nat), .int .i64 (t.line : Nat), .int .i64 (t.col : Nat), .string sx] 90))
    clear R1
    go_wp2_with (fail)
    refine (CB.out _ HR1.out HE2.out).mono ?_
    intro e w2 h2
    obtain ⟨z, rfl⟩ := h2.ret
    have H2 := Lib.hid h2
    clear h2
    go_wp2
    go_ret
    exact H2.out
  · rw [if_neg c1]
    have t1 : (sx.toList == [40]) = false := by rw [h40]; simpa using c1
    have HC1 := Lib.hid c1
    clear h40 c1
    by_cases c2 : t.text = [48]
    · rw [if_pos c2]
      have t2 : (sx.toList == [48]) = true := by rw [h48]; simpa using c2
      have HE2 := Lib.hid (HE.out (by rw [c2]; simp))
      have HC := Lib.hid c2
      clear h48 h49 c2
      go_enter Tryd.func82, Tryd.ntmps82
      go_wp2_with (fail)
      refine CN.out.mono ?_
      rintro e w1 ⟨rfl, R1⟩
      have HR1 := Lib.hid (RS.alloc ⟨na, nc, R1⟩ HK.out (.cells #[.int .i64 (t.kind : Nat), .int .i64 (t.n : Nat), .int .i64 (t.line : Nat), .int .i64 (t.col : Nat), .string sx] 90))
      clear R1
      obtain ⟨na', nc', R1'⟩ := HR1.out
      have CA := Lib.hid (add_any E HK.out _ (i + 1) op st ns na' nc' R1' (by omega) 1 0 0 0 ⟨#[]⟩)
      clear R1'
      go_wp2_with (fail)
      refine CA.out.mono ?_
      rintro e w2 ⟨rfl, R2⟩
      have HR2 := Lib.hid R2
      clear R2
      go_wp2
      go_ret
      exact Rets.ok rfl rfl (drop_lt HE2.out) HR2.out
    rw [if_neg c2]
    have t2 : (sx.toList == [48]) = false := by rw [h48]; simpa using c2
    have HC2 := Lib.hid c2
    clear h48 c2
    by_cases c3 : t.text = [49]
    · rw [if_pos c3]
      have t3 : (sx.toList == [49]) = true := by rw [h49]; simpa using c3
      have HE2 := Lib.hid (HE.out (by rw [c3]; simp))
      have HC := Lib.hid c3
      clear h49 c3
      go_enter Tryd.func82, Tryd.ntmps82
      go_wp2_with (fail)
      refine CN.out.mono ?_
      rintro e w1 ⟨rfl, R1⟩
      have HR1 := Lib.hid (RS.alloc ⟨na, nc, R1⟩ HK.out (.cells #[.int .i64 (t.kind : Nat), .int .i64 (t.n : Nat), .int .i64 (t.line : Nat), .int .i64 (t.col : Nat), .string sx] 90))
      clear R1
      obtain ⟨na', nc', R1'⟩ := HR1.out
      have CA := Lib.hid (add_any E HK.out _ (i + 1) op st ns na' nc' R1' (by omega) 2 0 0 0 ⟨#[]⟩)
      clear R1'
      go_wp2_with (fail)
      refine CA.out.mono ?_
      rintro e w2 ⟨rfl, R2⟩
      have HR2 := Lib.hid R2
      clear R2
      go_wp2
      go_ret
      exact Rets.ok rfl rfl (drop_lt HE2.out) HR2.out
    rw [if_neg c3]
    have t3 : (sx.toList == [49]) = false := by rw [h49]; simpa using c3
    have HC3 := Lib.hid c3
    clear h49 c3
    by_cases c4 : isName keysL t.text = true
    · rw [if_pos c4]
      have hne : t.text ≠ [] := by intro e; rw [e] at c4; simp [isName, isWord] at c4
      have HE2 := Lib.hid (HE.out hne)
      have HC := Lib.hid c4
      clear c4 hne
      go_enter Tryd.func82, Tryd.ntmps82
      go_wp2_with (fail)
      refine CN.out.mono ?_
      rintro e w1 ⟨rfl, R1⟩
      have HR1 := Lib.hid (RS.alloc ⟨na, nc, R1⟩ HK.out (.cells #[.int .i64 (t.kind : Nat), .int .i64 (t.n : Nat), .int .i64 (t.line : Nat), .int .i64 (t.col : Nat), .string sx] 90))
      clear R1
      go_wp2_with (fail)
      refine (CL.out _).mono ?_
      rintro e w2 ⟨rfl, rfl⟩
      rw [HC.out]
      go_wp2_with (fail)
      refine (CT.out _ HR1.out HE2.out).mono ?_
      intro e w2 h2
      obtain ⟨z, rfl⟩ := h2.ret
      have H2 := Lib.hid h2
      clear h2
      go_wp2
      go_ret
      exact H2.out
    · rw [if_neg c4]
      have c4 : isName keysL t.text = false := by simpa using c4
      have HC := Lib.hid c4
      clear c4
      go_enter Tryd.func82, Tryd.ntmps82
      go_wp2_with (fail)
      refine CN.out.mono ?_
      rintro e w1 ⟨rfl, R1⟩
      have HR1 := Lib.hid (RS.alloc ⟨na, nc, R1⟩ HK.out (.cells #[.int .i64 (t.kind : Nat), .int .i64 (t.n : Nat), .int .i64 (t.line : Nat), .int .i64 (t.col : Nat), .string sx] 90))
      clear R1
      go_wp2_with (fail)
      refine (CL.out _).mono ?_
      rintro e w2 ⟨rfl, rfl⟩
      rw [HC.out]
      go_wp2
      go_ret
      obtain ⟨na', nc', R1'⟩ := HR1.out
      exact Rets.bad rfl R1'.bel
end Go.Proofs.YtkdejinhjdkkmaaDoor

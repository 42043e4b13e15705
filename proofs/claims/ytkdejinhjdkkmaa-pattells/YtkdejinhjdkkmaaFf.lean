/- Contracts of the reference reader's atom, factor, cat, Sum: they read as the plain words do; the condition: the reader lies there. -/
import Derived.Test.YtkdejinhjdkkmaaFe
namespace Go.Proofs.Ytkdejinhjdkkmaa
open Go.ChangeShapes Go.WideShapes Go.ChangeAt Go.RowKit Go.Maps

theorem fatom_br (E : EnvF) (ok : E.Ok) (d : Nat) (hd : d < 12) (st : Bool) (p : List Tok → List Nd → Out) (hp : Fine p) (hc : CallsF E 31 p (d + 1) st) : CallsF E 70 (singleP keysL E.nm (fun ts ns => closeP (p ts ns))) d st := by
  intro w i ns R he hn
  obtain ⟨pa, pc, R⟩ := R
  have hi := drop_lt he
  by_cases h40 : (E.toks[i]).text = [40]
  · have := atom_br E ok w i d ns pa pc R he _ (fun _ => rfl) st hd h40 hn p hp hc
    rw [drop_cons hi]
    unfold singleP
    simp only
    rw [if_pos h40]
    exact this
  · exact atom_rest E ok w i d ns pa pc R he hn _ (fun _ => h40) st
theorem fatom_limit (E : EnvF) (ok : E.Ok) (st : Bool) : CallsF E 70 (singleP keysL E.nm (fun _ _ => .bad 3)) 12 st := by
  intro w i ns R he hn
  obtain ⟨pa, pc, R⟩ := R
  have hi := drop_lt he
  by_cases h40 : (E.toks[i]).text = [40]
  · have := atom_limit E ok w i ns pa pc R he _ (fun _ => rfl) h40 st
    rw [drop_cons hi]
    unfold singleP
    simp only
    rw [if_pos h40]
    refine this.mono ?_
    rintro e w' ⟨rfl, r⟩
    exact RetF.bad r (Nat.le_refl _) (by omega)
  · exact atom_rest E ok w i 12 ns pa pc R he hn _ (fun _ => h40) st

set_option maxRecDepth 100000 in
set_option maxHeartbeats 4000000 in
theorem factor_P (E : EnvF) (ok : E.Ok) (d : Nat) (st : Bool) (br : Bool → List Tok → List Nd → Out) (hf : ∀ s, Fine (br s)) (hc : ∀ s, CallsF E 70 (singleP keysL E.nm (br s)) d s) : CallsF E 64 (starP keysL E.nm st br) d st := by
  intro w i ns R he hn
  have hl := ok.len
  have hi := drop_lt he
  obtain ⟨pa, pc, R⟩ := R
  have r5 := R.c5
  rw [show (((0 : Nat) : Nat) : Int) = 0 from rfl] at r5
  unfold starP
  cases hT : isT 42 (E.toks.drop i) with
  | false =>
    have CS := Lib.hid (sign_no E ok w i d 0 ns pa pc R he 42 hT)
    have C := Lib.hid (fun W (h : RfSt E W i d 0 ns pa pc) => hc st W i ns ⟨pa, pc, h⟩ he hn)
    have HR := Lib.hid R
    simp only [Bool.false_eq_true, if_false]
    clear R hT hc he
    go_enter Try.func64, Try.ntmps64
    go_wp2_with (fail)
    refine CS.out.mono ?_
    rintro e w1 ⟨rfl, q, rfl⟩
    have HR1 := Lib.hid (HR.out.drewN q)
    clear HR r5 CS
    generalize World.drewN _ q = W1 at HR1 ⊢
    go_wp2_with (fail)
    refine (C.out W1 HR1.out).mono ?_
    intro e w2 h2
    obtain ⟨z, rfl⟩ := h2.ret
    have H2 := Lib.hid h2
    clear h2
    go_wp2
    go_ret
    exact H2.out
  | true =>
    have CS := Lib.hid (sign_yes E ok w i d 0 ns pa pc R he 42 rfl rfl hT)
    have h2 := (isT_tail he hT).1
    rw [drop_tail] at h2
    simp only [if_true]
    have HR := Lib.hid R
    have HK := Lib.hid ok
    cases st with
    | true =>
      simp only [if_true]
      clear R hT hc ok he h2
      go_enter Try.func64, Try.ntmps64
      go_wp2_with (fail)
      refine CS.out.mono ?_
      rintro e w1 ⟨rfl, q, rfl⟩
      have R1 := HR.out.drewN q
      clear HR r5 CS
      generalize World.drewN _ q = W1 at R1 ⊢
      have r5 := R1.c5
      have fz := R1.rd.frozen 5
      have HR1 := Lib.hid R1
      clear R1
      go_wp2
      go_ret
      exact RetF.bad ⟨pa, pc, HR1.out.set5 HK.out rfl⟩ (Nat.le_refl _) (by omega)
    | false =>
      simp only [Bool.false_eq_true, if_false]
      rw [drop_tail]
      have hfs := fine_single keysL E.nm (br true) (hf true)
      have C := fun W (h : RfSt E W (i + 1) d 0 ns pa pc) => hc true W (i + 1) ns ⟨pa, pc, h⟩ h2 (by omega)
      have HF := Lib.hid (fun rest ns' hx i' (h : E.toks.drop i' = rest) => Fine.onF (ns := ns) (ns' := ns') hfs h2 hx h)
      obtain ⟨o, ho⟩ : ∃ o, o = singleP keysL E.nm (br true) (E.toks.drop (i + 1)) ns := ⟨_, rfl⟩
      rw [← ho] at C ⊢
      have C := Lib.hid C
      have HO := Lib.hid ho
      have HBK : Hid (∀ k, o = .bad k → 2 ≤ k) := Lib.hid (fun k e => (fine_bad hfs h2 (by rw [← e]; exact ho.symm)).1)
      clear R hT hc ok he h2 ho hfs hf
      go_enter Try.func64, Try.ntmps64
      go_wp2_with (fail)
      refine CS.out.mono ?_
      rintro e w1 ⟨rfl, q, rfl⟩
      have R1 := HR.out.drewN q
      clear HR r5 CS
      generalize World.drewN _ q = W1 at R1 ⊢
      have r1 := R1.c1
      have fz := R1.rd.frozen 1
      have R2 := R1.set1 HK.out (v := (i : Int) + 1) (n := i + 1) (by omega)
      have C2 := C.out _ R2
      clear R1 R2 C
      cases o with
      | bad k =>
        have C2 := Lib.hid C2
        go_wp2_with (fail)
        refine C2.out.mono ?_
        rintro e w3 ⟨z, i', d', ns', rfl, ⟨pa', pc', R3⟩, h1, h2⟩
        have CA := Lib.hid (fadd_any E HK.out w3 i' d' k ns' pa' pc' R3 (by omega) 6 z 0 0 ⟨#[]⟩)
        clear R3 C2 r1 fz
        go_wp2_with (fail)
        refine CA.out.mono ?_
        rintro e w4 ⟨rfl, R4⟩
        have HR4 := Lib.hid R4
        clear R4 CA
        go_wp2
        go_ret
        exact RetF.bad HR4.out (by simp; omega) h2
      | ok rest ns' =>
        have C2 := Lib.hid C2
        go_wp2_with (fail)
        refine C2.out.mono ?_
        rintro e w3 ⟨rfl, i', hr, hi', pa', pc', R3⟩
        obtain ⟨-, hn2, -, -⟩ := HF.out rest ns' HO.out.symm i' hr
        have CA := Lib.hid (fadd_any E HK.out w3 i' d 0 ns' pa' pc' R3 (by omega) 6 ((ns'.length : Int) - 1) 0 0 ⟨#[]⟩)
        have HRR := Lib.hid hr
        clear R3 C2 r1 fz hr
        go_wp2_with (fail)
        refine CA.out.mono ?_
        rintro e w4 ⟨rfl, R4⟩
        have HR4 := Lib.hid R4
        clear R4 CA
        go_wp2
        go_ret
        exact RetF.ok (by simp) HRR.out hi' HR4.out

def mF (E : EnvF) (w : World) : Nat := if intOf ((w.cell? ⟨E.g, 5, none⟩).getD undef) = 0 then E.toks.length + 1 - (intOf ((w.cell? ⟨E.g, 1, none⟩).getD undef)).toNat else 0
theorem mF_good {E : EnvF} {w : World} {i d : Nat} {ns : List Nd} (h : RF E w i d 0 ns) : mF E w = E.toks.length + 1 - i := by
  obtain ⟨pa, pc, h⟩ := h
  unfold mF
  rw [h.c5, h.c1]
  simp [intOf]
theorem mF_bad {E : EnvF} {w : World} {i d k : Nat} {ns : List Nd} (h : RF E w i d k ns) (hk : ¬ k = 0) : mF E w = 0 := by
  obtain ⟨pa, pc, h⟩ := h
  unfold mF
  rw [h.c5]
  rw [if_neg (by simp [intOf]; omega)]
/-- Where a row's loop stands, which began at token i0 with n0 nodes; z: the place of what was read last. -/
def RowF (E : EnvF) (p : List Tok → List Nd → Out) (c : UInt8) (kind : Int) (o : Out) (d i0 n0 : Nat) (w : World) (z : Int) : Prop :=
  (∃ j ms, z = (ms.length : Int) - 1 ∧ RF E w j d 0 ms ∧ Ended (E.toks.drop j) ∧ ms.length ≤ j ∧ ms.length + i0 ≤ n0 + j ∧ ∃ f, (E.toks.drop j).length ≤ f ∧ rowL p c kind f (E.toks.drop j) ms = o) ∨
  (∃ k i' d' ns', ¬ k = 0 ∧ o = .bad k ∧ RF E w i' d' k ns' ∧ ns'.length + i0 ≤ n0 + i' ∧ i' ≤ E.toks.length)

set_option maxRecDepth 100000 in
set_option maxHeartbeats 8000000 in
theorem fcat_P (E : EnvF) (ok : E.Ok) (d : Nat) (st : Bool) (p : List Tok → List Nd → Out) (hp : Fine p) (hc : CallsF E 64 p d st) : CallsF E 47 (rowP p 46 5) d st := by
  intro w i ns R he hn
  have hl := ok.len
  have C := hc w i ns R he hn
  obtain ⟨o, ho⟩ : ∃ o, o = rowP p 46 5 (E.toks.drop i) ns := ⟨_, rfl⟩
  rw [← ho]
  have H0 : Hid (∀ e w', RetF E (p (E.toks.drop i) ns) d i ns.length e w' → ∃ z, e = .returned (.int .i64 z) ∧ RowF E p 46 5 o d i ns.length w' z) := Lib.hid (fun e w' h => by
    unfold rowP at ho
    cases hx : p (E.toks.drop i) ns with
    | bad k =>
      rw [hx] at h ho
      have hk := fine_bad hp he hx
      obtain ⟨z, i', d', ns', rfl, r, h1, h2⟩ := h
      exact ⟨z, rfl, .inr ⟨k, i', d', ns', by omega, ho, r, h1, h2⟩⟩
    | ok rest ns1 =>
      rw [hx] at h ho
      obtain ⟨rfl, i', hr, hi', r⟩ := h
      obtain ⟨e1, e2, e3, e4⟩ := Fine.onF hp he hx hr
      exact ⟨_, rfl, .inl ⟨i', ns1, rfl, r, e1, by omega, e2, _, Nat.le_of_eq (by rw [hr]), by rw [hr]; exact ho.symm⟩⟩)
  have C := Lib.hid C
  have HP := Lib.hid hp
  have HC := Lib.hid hc
  have HK := Lib.hid ok
  clear R ho hp hc ok he
  go_enter Try.func47, Try.ntmps47
  go_wp2_with (fail)
  refine C.out.mono ?_
  intro e w1 h1
  obtain ⟨z1, rfl, S1⟩ := H0.out e w1 h1
  have HS1 := Lib.hid S1
  clear S1 h1 H0 C
  go_wp2_with (fail)
  go_loopw [5, 6] (fun a _ wr => ∃ z : Int, a = .int .i64 z ∧ Hid (RowF E p 46 5 o d i ns.length wr z)) (fun _ _ wr => mF E wr)
  case atStart => exact ⟨z1, rfl, HS1⟩
  case round =>
    clear HS1
    obtain ⟨z, rfl, HS⟩ := hrel
    rcases HS.out with ⟨j, ms, hz, RR, hej, hmj, hmi, f, hf, hrow⟩ | ⟨k, i', d', ns', hk, hok, RR, h1, h2⟩
    · have HM := Lib.hid (mF_good RR)
      obtain ⟨pa, pc, R⟩ := RR
      have hj := drop_lt hej
      have r5 := R.c5
      rw [show (((0 : Nat) : Nat) : Int) = 0 from rfl] at r5
      have HR := Lib.hid R
      cases hT : isT 46 (E.toks.drop j) with
      | false =>
        have CS := Lib.hid (sign_no E HK.out wr j d 0 ms pa pc R hej 46 hT)
        rw [rowL_stop hT] at hrow
        have HO := Lib.hid hrow
        have HZ := Lib.hid hz
        clear R hT hrow HS hej hf HM hz
        go_wp2_with (fail)
        refine CS.out.mono ?_
        rintro e w2 ⟨rfl, q, rfl⟩
        have HR2 := Lib.hid (HR.out.drewN q)
        clear HR r5 CS
        generalize World.drewN _ q = W2 at HR2 ⊢
        go_wp2
        go_ret
        rw [← HO.out]
        exact RetF.ok HZ.out rfl hj ⟨pa, pc, HR2.out⟩
      | true =>
        have CS := Lib.hid (sign_yes E HK.out wr j d 0 ms pa pc R hej 46 rfl rfl hT)
        have h2 := (isT_tail hej hT).1
        have hlt := (isT_tail hej hT).2
        have ho' := @rowL_bad p 46 5 f (E.toks.drop j) ms
        have ho2 := @rowL_on p 46 5 f (E.toks.drop j)
        rw [drop_tail] at h2 hlt
        simp only [drop_tail] at ho' ho2
        have CP := Lib.hid (fun W (h : RfSt E W (j + 1) d 0 ms pa pc) => HC.out W (j + 1) ms ⟨pa, pc, h⟩ h2 (by omega))
        have HX : Hid (∀ e w', RetF E (p (E.toks.drop (j + 1)) ms) d (j + 1) ms.length e w' → ∃ (z2 : Int) (i2 d2 b2 : Nat) (ms2 : List Nd), e = .returned (.int .i64 z2) ∧ RF E w' i2 d2 b2 ms2 ∧ ms2.length ≤ 20000 ∧ ∀ w'', RF E w'' i2 d2 b2 (ms2 ++ [⟨5, z, z2, 0, ⟨#[]⟩⟩]) → RowF E p 46 5 o d i ns.length w'' (ms2.length : Nat) ∧ mF E w'' < E.toks.length + 1 - j) := Lib.hid (fun e w' h => by
          cases hx : p (E.toks.drop (j + 1)) ms with
          | bad k =>
            rw [hx] at h
            have hk := fine_bad HP.out h2 hx
            have hk0 : ¬ k = 0 := by omega
            obtain ⟨z2, i', d', ns', rfl, r, g1, g2⟩ := h
            refine ⟨z2, i', d', k, ns', rfl, r, by omega, fun w'' r'' => ⟨.inr ⟨k, i', d', _, hk0, ?_, r'', by simp; omega, g2⟩, ?_⟩⟩
            · rw [← hrow]; exact ho' hT hf hx
            · rw [mF_bad r'' hk0]; omega
          | ok rest ms2 =>
            rw [hx] at h
            obtain ⟨rfl, i', hr, hi', r⟩ := h
            obtain ⟨e1, e2, e3, e4⟩ := Fine.onF HP.out h2 hx hr
            obtain ⟨f', hf', hr'⟩ := ho2 hT hf hx (by rw [← hr, List.length_drop, List.length_drop]; omega)
            refine ⟨_, i', d, 0, ms2, rfl, r, by omega, fun w'' r'' => ⟨.inl ⟨i', _, by simp, r'', e1, by simp; omega, by simp; omega, f', by rw [hr]; exact hf', ?_⟩, ?_⟩⟩
            · rw [← hrow, hr', hr, hz]; rfl
            · rw [mF_good r'']; omega)
        clear R hT hrow HS hej hf h2 hlt ho' ho2 hz
        go_wp2_with (fail)
        refine CS.out.mono ?_
        rintro e w2 ⟨rfl, q, rfl⟩
        have R2 := HR.out.drewN q
        clear HR r5 CS
        generalize World.drewN _ q = W2 at R2 ⊢
        have r1 := R2.c1
        have fz := R2.rd.frozen 1
        have R3 := R2.set1 HK.out (v := (j : Int) + 1) (n := j + 1) (by omega)
        have CP3 := Lib.hid (CP.out _ R3)
        clear R2 R3 CP
        go_wp2_with (fail)
        refine CP3.out.mono ?_
        intro e w4 h4
        obtain ⟨z2, i2, d2, b2, ms2, rfl, ⟨pa2, pc2, R4⟩, hl4, F4⟩ := HX.out e w4 h4
        have CA := Lib.hid (fadd_any E HK.out w4 i2 d2 b2 ms2 pa2 pc2 R4 (by omega) 5 z z2 0 ⟨#[]⟩)
        have HF4 := Lib.hid F4
        clear h4 R4 F4 HX CP3 r1 fz
        go_wp2_with (fail)
        refine CA.out.mono ?_
        rintro e w5 ⟨rfl, R5⟩
        have G5 := HF4.out w5 R5
        have HS5 := Lib.hid G5.1
        have HM5 := Lib.hid G5.2
        clear R5 G5 CA HF4
        go_wp2_with (fail)
        go_roundw
        case rel => exact ⟨_, rfl, HS5⟩
        case measure => rw [HM.out]; exact HM5.out
    · obtain ⟨pa, pc, R⟩ := RR
      have r5 := R.c5
      have hk0 : ¬ ((k : Nat) : Int) = 0 := by omega
      have hk1 : (((k : Nat) : Int) == 0) = false := by simp; omega
      have HR := Lib.hid R
      have HO := Lib.hid hok
      clear R hok HS hk
      go_wp2
      go_ret
      rw [HO.out]
      exact RetF.bad ⟨pa, pc, HR.out⟩ h1 h2

set_option maxRecDepth 100000 in
set_option maxHeartbeats 8000000 in
theorem fsum_P (E : EnvF) (ok : E.Ok) (d : Nat) (st : Bool) (p : List Tok → List Nd → Out) (hp : Fine p) (hc : CallsF E 47 p d st) : CallsF E 31 (rowP p 43 4) d st := by
  intro w i ns R he hn
  have hl := ok.len
  have C := hc w i ns R he hn
  obtain ⟨o, ho⟩ : ∃ o, o = rowP p 43 4 (E.toks.drop i) ns := ⟨_, rfl⟩
  rw [← ho]
  have H0 : Hid (∀ e w', RetF E (p (E.toks.drop i) ns) d i ns.length e w' → ∃ z, e = .returned (.int .i64 z) ∧ RowF E p 43 4 o d i ns.length w' z) := Lib.hid (fun e w' h => by
    unfold rowP at ho
    cases hx : p (E.toks.drop i) ns with
    | bad k =>
      rw [hx] at h ho
      have hk := fine_bad hp he hx
      obtain ⟨z, i', d', ns', rfl, r, h1, h2⟩ := h
      exact ⟨z, rfl, .inr ⟨k, i', d', ns', by omega, ho, r, h1, h2⟩⟩
    | ok rest ns1 =>
      rw [hx] at h ho
      obtain ⟨rfl, i', hr, hi', r⟩ := h
      obtain ⟨e1, e2, e3, e4⟩ := Fine.onF hp he hx hr
      exact ⟨_, rfl, .inl ⟨i', ns1, rfl, r, e1, by omega, e2, _, Nat.le_of_eq (by rw [hr]), by rw [hr]; exact ho.symm⟩⟩)
  have C := Lib.hid C
  have HP := Lib.hid hp
  have HC := Lib.hid hc
  have HK := Lib.hid ok
  clear R ho hp hc ok he
  go_enter Try.func31, Try.ntmps31
  go_wp2_with (fail)
  refine C.out.mono ?_
  intro e w1 h1
  obtain ⟨z1, rfl, S1⟩ := H0.out e w1 h1
  have HS1 := Lib.hid S1
  clear S1 h1 H0 C
  go_wp2_with (fail)
  go_loopw [5, 6] (fun a _ wr => ∃ z : Int, a = .int .i64 z ∧ Hid (RowF E p 43 4 o d i ns.length wr z)) (fun _ _ wr => mF E wr)
  case atStart => exact ⟨z1, rfl, HS1⟩
  case round =>
    clear HS1
    obtain ⟨z, rfl, HS⟩ := hrel
    rcases HS.out with ⟨j, ms, hz, RR, hej, hmj, hmi, f, hf, hrow⟩ | ⟨k, i', d', ns', hk, hok, RR, h1, h2⟩
    · have HM := Lib.hid (mF_good RR)
      obtain ⟨pa, pc, R⟩ := RR
      have hj := drop_lt hej
      have r5 := R.c5
      rw [show (((0 : Nat) : Nat) : Int) = 0 from rfl] at r5
      have HR := Lib.hid R
      cases hT : isT 43 (E.toks.drop j) with
      | false =>
        have CS := Lib.hid (sign_no E HK.out wr j d 0 ms pa pc R hej 43 hT)
        rw [rowL_stop hT] at hrow
        have HO := Lib.hid hrow
        have HZ := Lib.hid hz
        clear R hT hrow HS hej hf HM hz
        go_wp2_with (fail)
        refine CS.out.mono ?_
        rintro e w2 ⟨rfl, q, rfl⟩
        have HR2 := Lib.hid (HR.out.drewN q)
        clear HR r5 CS
        generalize World.drewN _ q = W2 at HR2 ⊢
        go_wp2
        go_ret
        rw [← HO.out]
        exact RetF.ok HZ.out rfl hj ⟨pa, pc, HR2.out⟩
      | true =>
        have CS := Lib.hid (sign_yes E HK.out wr j d 0 ms pa pc R hej 43 rfl rfl hT)
        have h2 := (isT_tail hej hT).1
        have hlt := (isT_tail hej hT).2
        have ho' := @rowL_bad p 43 4 f (E.toks.drop j) ms
        have ho2 := @rowL_on p 43 4 f (E.toks.drop j)
        rw [drop_tail] at h2 hlt
        simp only [drop_tail] at ho' ho2
        have CP := Lib.hid (fun W (h : RfSt E W (j + 1) d 0 ms pa pc) => HC.out W (j + 1) ms ⟨pa, pc, h⟩ h2 (by omega))
        have HX : Hid (∀ e w', RetF E (p (E.toks.drop (j + 1)) ms) d (j + 1) ms.length e w' → ∃ (z2 : Int) (i2 d2 b2 : Nat) (ms2 : List Nd), e = .returned (.int .i64 z2) ∧ RF E w' i2 d2 b2 ms2 ∧ ms2.length ≤ 20000 ∧ ∀ w'', RF E w'' i2 d2 b2 (ms2 ++ [⟨4, z, z2, 0, ⟨#[]⟩⟩]) → RowF E p 43 4 o d i ns.length w'' (ms2.length : Nat) ∧ mF E w'' < E.toks.length + 1 - j) := Lib.hid (fun e w' h => by
          cases hx : p (E.toks.drop (j + 1)) ms with
          | bad k =>
            rw [hx] at h
            have hk := fine_bad HP.out h2 hx
            have hk0 : ¬ k = 0 := by omega
            obtain ⟨z2, i', d', ns', rfl, r, g1, g2⟩ := h
            refine ⟨z2, i', d', k, ns', rfl, r, by omega, fun w'' r'' => ⟨.inr ⟨k, i', d', _, hk0, ?_, r'', by simp; omega, g2⟩, ?_⟩⟩
            · rw [← hrow]; exact ho' hT hf hx
            · rw [mF_bad r'' hk0]; omega
          | ok rest ms2 =>
            rw [hx] at h
            obtain ⟨rfl, i', hr, hi', r⟩ := h
            obtain ⟨e1, e2, e3, e4⟩ := Fine.onF HP.out h2 hx hr
            obtain ⟨f', hf', hr'⟩ := ho2 hT hf hx (by rw [← hr, List.length_drop, List.length_drop]; omega)
            refine ⟨_, i', d, 0, ms2, rfl, r, by omega, fun w'' r'' => ⟨.inl ⟨i', _, by simp, r'', e1, by simp; omega, by simp; omega, f', by rw [hr]; exact hf', ?_⟩, ?_⟩⟩
            · rw [← hrow, hr', hr, hz]; rfl
            · rw [mF_good r'']; omega)
        clear R hT hrow HS hej hf h2 hlt ho' ho2 hz
        go_wp2_with (fail)
        refine CS.out.mono ?_
        rintro e w2 ⟨rfl, q, rfl⟩
        have R2 := HR.out.drewN q
        clear HR r5 CS
        generalize World.drewN _ q = W2 at R2 ⊢
        have r1 := R2.c1
        have fz := R2.rd.frozen 1
        have R3 := R2.set1 HK.out (v := (j : Int) + 1) (n := j + 1) (by omega)
        have CP3 := Lib.hid (CP.out _ R3)
        clear R2 R3 CP
        go_wp2_with (fail)
        refine CP3.out.mono ?_
        intro e w4 h4
        obtain ⟨z2, i2, d2, b2, ms2, rfl, ⟨pa2, pc2, R4⟩, hl4, F4⟩ := HX.out e w4 h4
        have CA := Lib.hid (fadd_any E HK.out w4 i2 d2 b2 ms2 pa2 pc2 R4 (by omega) 4 z z2 0 ⟨#[]⟩)
        have HF4 := Lib.hid F4
        clear h4 R4 F4 HX CP3 r1 fz
        go_wp2_with (fail)
        refine CA.out.mono ?_
        rintro e w5 ⟨rfl, R5⟩
        have G5 := HF4.out w5 R5
        have HS5 := Lib.hid G5.1
        have HM5 := Lib.hid G5.2
        clear R5 G5 CA HF4
        go_wp2_with (fail)
        go_roundw
        case rel => exact ⟨_, rfl, HS5⟩
        case measure => rw [HM.out]; exact HM5.out
    · obtain ⟨pa, pc, R⟩ := RR
      have r5 := R.c5
      have hk0 : ¬ ((k : Nat) : Int) = 0 := by omega
      have hk1 : (((k : Nat) : Int) == 0) = false := by simp; omega
      have HR := Lib.hid R
      have HO := Lib.hid hok
      clear R hok HS hk
      go_wp2
      go_ret
      rw [HO.out]
      exact RetF.bad ⟨pa, pc, HR.out⟩ h1 h2

theorem fboth (E : EnvF) (ok : E.Ok) : ∀ (D d : Nat), D + d = 12 → ∀ st, CallsF E 31 (sumP keysL E.nm D st) d st
  | 0, d, h, st => by
    obtain rfl : d = 12 := by omega
    have ha : ∀ s, CallsF E 70 (singleP keysL E.nm (brP keysL E.nm 0 s)) 12 s := fun s => fatom_limit E ok s
    have hf : ∀ s, Fine (brP keysL E.nm 0 s) := fine_br keysL E.nm 0
    exact fsum_P E ok 12 st _ (fine_cat keysL E.nm st _ hf) (fcat_P E ok 12 st _ (fine_star keysL E.nm st _ hf) (factor_P E ok 12 st _ hf ha))
  | D + 1, d, h, st => by
    have ih := fboth E ok D (d + 1) (by omega)
    have ha : ∀ s, CallsF E 70 (singleP keysL E.nm (brP keysL E.nm (D + 1) s)) d s := fun s => fatom_br E ok d (by omega) s _ (fine_sum keysL E.nm D s) (ih s)
    have hf : ∀ s, Fine (brP keysL E.nm (D + 1) s) := fine_br keysL E.nm (D + 1)
    exact fsum_P E ok d st _ (fine_cat keysL E.nm st _ hf) (fcat_P E ok d st _ (fine_star keysL E.nm st _ hf) (factor_P E ok d st _ hf ha))
end Go.Proofs.Ytkdejinhjdkkmaa

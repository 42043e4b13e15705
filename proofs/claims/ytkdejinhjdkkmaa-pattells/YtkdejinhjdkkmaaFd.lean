/- Contracts of the reference reader's atom, by what its Sum does; the condition: the reader lies there. -/
import Derived.Test.YtkdejinhjdkkmaaFc
import Derived.Test.YtkdejinhjdkkmaaRe
namespace Go.Proofs.Ytkdejinhjdkkmaa
open Go.ChangeShapes Go.WideShapes Go.ChangeAt Go.RowKit Go.Maps

/-- What a reader of a piece does, as a contract of the reference's function f. -/
def CallsF (E : EnvF) (f : FuncId) (p : List Tok → List Nd → Out) (d : Nat) (st : Bool) : Prop :=
  ∀ w i ns, RF E w i d 0 ns → Ended (E.toks.drop i) → ns.length ≤ i → Calls Try.prog f #[.pointer (some ⟨E.g, 0, none⟩), .bool st] w (RetF E (p (E.toks.drop i) ns) d i ns.length)
theorem Fine.onF {E : EnvF} {p : List Tok → List Nd → Out} (hp : Fine p) {i i' : Nat} {ns ns' : List Nd} {rest : List Tok} (he : Ended (E.toks.drop i)) (h : p (E.toks.drop i) ns = .ok rest ns') (hi : E.toks.drop i' = rest) : Ended (E.toks.drop i') ∧ ns'.length + i ≤ ns.length + i' ∧ i < i' ∧ ns.length < ns'.length := by
  obtain ⟨h1, h2, h3, h4⟩ := fine_ok hp he h
  subst hi
  have := drop_lt h1
  have := drop_lt he
  rw [List.length_drop, List.length_drop] at h2 h3
  exact ⟨h1, by omega, by omega, h4⟩
theorem RetF.ret {E : EnvF} {o : Out} {d i n : Nat} {e : Ending} {w' : World} (h : RetF E o d i n e w') : ∃ z : Int, e = .returned (.int .i64 z) := by
  cases o with
  | bad k => obtain ⟨z, _, _, _, h, _⟩ := h; exact ⟨z, h⟩
  | ok rest ns => exact ⟨_, h.1⟩
theorem ftag_any (E : EnvF) (ok : E.Ok) (w : World) (i d : Nat) (ns : List Nd) (pa : Option Addr) (pc : Nat) (R : RfSt E w i d 0 ns pa pc) (he : Ended (E.toks.drop (i + 1))) (hn : ns.length ≤ i) (t : Tok) :
    Calls Try.prog 74 #[.pointer (some ⟨E.g, 0, none⟩), tokV t] w (RetF E (tagP E.nm t.text (E.toks.drop (i + 1)) ns) d i ns.length) := by
  have hi := drop_lt he
  have hl := ok.len
  unfold tagP
  cases hp : posF t.text E.nm 0 with
  | none =>
    refine (ftag_none E ok w i d ns pa pc R t hp).mono ?_
    rintro e w' ⟨rfl, r⟩
    exact RetF.bad r (by omega) (by omega)
  | some k =>
    simp only
    unfold countP
    cases hT : isT 94 (E.toks.drop (i + 1)) with
    | false =>
      refine (ftag_one E ok w i d ns pa pc R (by omega) t k hp he hT).mono ?_
      rintro e w' ⟨rfl, r⟩
      exact RetF.ok (by simp) rfl hi r
    | true =>
      have e1 := isT_tail he hT
      rw [drop_tail] at e1
      have hi1 := drop_lt e1.1
      rw [if_pos rfl, drop_tail, drop_cons hi1]
      refine (ftag_many E ok w i d ns pa pc R (by omega) t k hp he hT hi1).mono ?_
      intro e w' h
      unfold TagF at h
      simp only
      have e2 := e1.1
      rw [drop_cons hi1] at e2
      by_cases hc : (E.toks[i + 1 + 1]).kind = 2 ∧ 1 ≤ (E.toks[i + 1 + 1]).n
      · have hb := (kind_num e2 hc.1).1
        rw [if_pos ⟨hc.1, hc.2, hb⟩]
        rw [if_pos hc] at h
        have h2 : Ended (E.toks.drop (i + 1 + 1 + 1)) := by
          cases hr : E.toks.drop (i + 1 + 1 + 1) with
          | nil => rw [hr] at e2; have := e2.1; omega
          | cons u ts => rw [hr] at e2; exact e2.2
        rw [h.1]
        exact RetF.ok (by simp) rfl (drop_lt h2) h.2
      · rw [if_neg (fun h => hc ⟨h.1, h.2.1⟩)]
        rw [if_neg hc] at h
        rw [h.1]
        exact RetF.bad h.2 (by omega) (by omega)

set_option maxRecDepth 100000 in
set_option maxHeartbeats 4000000 in
theorem atom_limit (E : EnvF) (ok : E.Ok) (w : World) (i : Nat) (ns : List Nd) (pa : Option Addr) (pc : Nat) (R : RfSt E w i 12 0 ns pa pc) (he : Ended (E.toks.drop i)) (t : Tok) (ht : ∀ h : i < E.toks.length, E.toks[i] = t) (h40 : t.text = [40]) (st : Bool) :
    Calls Try.prog 70 #[.pointer (some ⟨E.g, 0, none⟩), .bool st] w (fun e w' => e = .returned (.int .i64 0) ∧ RF E w' i 12 3 ns) := by
  have hT : isT 40 (E.toks.drop i) = true := by rw [isT_true (drop_lt he), ht]; exact h40
  have HT := Lib.hid hT
  clear hT h40
  have hi := drop_lt he
  obtain ⟨gt, hta, T⟩ := R.at ok hi
  have hl := ok.len
  have c0 := T.c0
  have c1 := T.c1
  have c2 := T.c2
  have c3 := T.c3
  have c4 := T.c4
  have r0 := R.c0
  have r1 := R.c1
  have r5 := R.c5
  rw [show (((0 : Nat) : Nat) : Int) = 0 from rfl] at r5
  rw [hta] at r0
  have hgt : gt < w.heap.size := (R.toks ok).lt hta
  have hg : E.g < w.heap.size := R.rd.lt
  rw [ht] at c0 c1 c2 c3 c4
  have HTT := Lib.hid ht
  clear ht
  have HR := Lib.hid R
  have HK := Lib.hid ok
  have HE := Lib.hid he
  clear hta T R ok he
  go_enter Try.func70, Try.ntmps70
  go_wp2_with (fail)
  go_region_held3 (fun w' => w'.cell? ⟨E.g, 0, none⟩ = some (.slice (some ⟨gt, 0, none⟩) E.toks.length E.tc) ∧ w'.cell? ⟨E.g, 1, none⟩ = some (.int .i64 (i : Nat)) ∧ w'.cell? ⟨gt, i * 5, none⟩ = some (.int .i64 (t.kind : Nat)) ∧ w'.cell? ⟨gt, i * 5 + 1, none⟩ = some (.int .i64 (t.n : Nat)) ∧ w'.cell? ⟨gt, i * 5 + 2, none⟩ = some (.int .i64 (t.line : Nat)) ∧ w'.cell? ⟨gt, i * 5 + 3, none⟩ = some (.int .i64 (t.col : Nat)) ∧ w'.cell? ⟨gt, i * 5 + 4, none⟩ = some (.string (str t.text)))
    (first | go_keep)
    (fail)
  have R8 : RfSt E (w.alloc (.cells #[.int .i64 (t.kind : Nat), .int .i64 (t.n : Nat), .int .i64 (t.line : Nat), .int .i64 (t.col : Nat), .string (str t.text)] 74)).drew i 12 0 ns pa pc := (HR.out.alloc HK.out _).drewN 1
  have U8 : Lies (w.alloc (.cells #[.int .i64 (t.kind : Nat), .int .i64 (t.n : Nat), .int .i64 (t.line : Nat), .int .i64 (t.col : Nat), .string (str t.text)] 74)).drew w.heap.size 74 [.int .i64 (t.kind : Nat), .int .i64 (t.n : Nat), .int .i64 (t.line : Nat), .int .i64 (t.col : Nat), .string (str t.text)] := Lies.new w 74 _
  have huE : ¬ w.heap.size = E.g := by omega
  clear c0 c1 c2 c3 c4 r0 r1 r5 hgt hg HR
  go_wp2_with (fail)
  generalize World.drew (w.alloc _) = W8 at R8 U8 ⊢
  generalize w.heap.size = gu at U8 huE ⊢
  have CS := Lib.hid (sign_yes E HK.out W8 i 12 0 ns pa pc R8 HE.out 40 rfl rfl HT.out)
  have HR8 := Lib.hid R8
  clear R8 U8 HT
  refine CS.out.mono ?_
  rintro e w9 ⟨rfl, q, rfl⟩
  have R9 := HR8.out.drewN q
  clear HR8 CS
  generalize World.drewN _ q = W9 at R9 ⊢
  have r4 := R9.c4
  have r5 := R9.c5
  have fz := R9.rd.frozen 5
  have HR9 := Lib.hid R9
  clear R9
  go_wp2
  go_ret
  exact ⟨rfl, pa, pc, HR9.out.set5 HK.out rfl⟩
set_option maxRecDepth 100000 in
set_option maxHeartbeats 4000000 in
theorem atom_br (E : EnvF) (ok : E.Ok) (w : World) (i d : Nat) (ns : List Nd) (pa : Option Addr) (pc : Nat) (R : RfSt E w i d 0 ns pa pc) (he : Ended (E.toks.drop i)) (t : Tok) (ht : ∀ h : i < E.toks.length, E.toks[i] = t) (st : Bool) (hd : d < 12) (h40 : t.text = [40]) (hn : ns.length ≤ i) (p : List Tok → List Nd → Out) (hp : Fine p) (hc : CallsF E 31 p (d + 1) st) :
    Calls Try.prog 70 #[.pointer (some ⟨E.g, 0, none⟩), .bool st] w (RetF E (closeP (p (E.toks.drop (i + 1)) ns)) d i ns.length) := by
  have hT : isT 40 (E.toks.drop i) = true := by rw [isT_true (drop_lt he), ht]; exact h40
  have he1 := (isT_tail he hT).1
  rw [drop_tail] at he1
  have HE1 := Lib.hid he1
  have HT := Lib.hid hT
  clear hT h40
  have hi := drop_lt he
  obtain ⟨gt, hta, T⟩ := R.at ok hi
  have hl := ok.len
  have c0 := T.c0
  have c1 := T.c1
  have c2 := T.c2
  have c3 := T.c3
  have c4 := T.c4
  have r0 := R.c0
  have r1 := R.c1
  have r5 := R.c5
  rw [show (((0 : Nat) : Nat) : Int) = 0 from rfl] at r5
  rw [hta] at r0
  have hgt : gt < w.heap.size := (R.toks ok).lt hta
  have hg : E.g < w.heap.size := R.rd.lt
  rw [ht] at c0 c1 c2 c3 c4
  have HTT := Lib.hid ht
  clear ht
  have HR := Lib.hid R
  have HK := Lib.hid ok
  have HE := Lib.hid he
  clear hta T R ok he
  clear he1
  have HP := Lib.hid hp
  have HC := Lib.hid hc
  clear hp hc
  obtain ⟨o, ho⟩ : ∃ o, o = p (E.toks.drop (i + 1)) ns := ⟨_, rfl⟩
  rw [← ho]
  have HO := Lib.hid ho
  clear ho
  go_enter Try.func70, Try.ntmps70
  go_wp2_with (fail)
  go_region_held3 (fun w' => w'.cell? ⟨E.g, 0, none⟩ = some (.slice (some ⟨gt, 0, none⟩) E.toks.length E.tc) ∧ w'.cell? ⟨E.g, 1, none⟩ = some (.int .i64 (i : Nat)) ∧ w'.cell? ⟨gt, i * 5, none⟩ = some (.int .i64 (t.kind : Nat)) ∧ w'.cell? ⟨gt, i * 5 + 1, none⟩ = some (.int .i64 (t.n : Nat)) ∧ w'.cell? ⟨gt, i * 5 + 2, none⟩ = some (.int .i64 (t.line : Nat)) ∧ w'.cell? ⟨gt, i * 5 + 3, none⟩ = some (.int .i64 (t.col : Nat)) ∧ w'.cell? ⟨gt, i * 5 + 4, none⟩ = some (.string (str t.text)))
    (first | go_keep)
    (fail)
  have R8 : RfSt E (w.alloc (.cells #[.int .i64 (t.kind : Nat), .int .i64 (t.n : Nat), .int .i64 (t.line : Nat), .int .i64 (t.col : Nat), .string (str t.text)] 74)).drew i d 0 ns pa pc := (HR.out.alloc HK.out _).drewN 1
  have U8 : Lies (w.alloc (.cells #[.int .i64 (t.kind : Nat), .int .i64 (t.n : Nat), .int .i64 (t.line : Nat), .int .i64 (t.col : Nat), .string (str t.text)] 74)).drew w.heap.size 74 [.int .i64 (t.kind : Nat), .int .i64 (t.n : Nat), .int .i64 (t.line : Nat), .int .i64 (t.col : Nat), .string (str t.text)] := Lies.new w 74 _
  have huE : ¬ w.heap.size = E.g := by omega
  clear c0 c1 c2 c3 c4 r0 r1 r5 hgt hg HR
  go_wp2_with (fail)
  generalize World.drew (w.alloc _) = W8 at R8 U8 ⊢
  generalize w.heap.size = gu at U8 huE ⊢
  have CS := Lib.hid (sign_yes E HK.out W8 i d 0 ns pa pc R8 HE.out 40 rfl rfl HT.out)
  have HR8 := Lib.hid R8
  clear R8 U8 HT
  refine CS.out.mono ?_
  rintro e w9 ⟨rfl, q, rfl⟩
  have R9 := HR8.out.drewN q
  clear HR8 CS
  generalize World.drewN _ q = W9 at R9 ⊢
  have r4 := R9.c4
  have r1 := R9.c1
  have fz := R9.rd.frozen
  have R10 := R9.set4 HK.out (v := (d : Int) + 1) (n := d + 1) (by omega)
  have R11 := R10.set1 HK.out (v := (i : Int) + 1) (n := i + 1) (by omega)
  have C := HC.out _ (i + 1) ns ⟨pa, pc, R11⟩ HE1.out (by omega)
  rw [← HO.out] at C
  clear R9 R10 R11
  cases o with
  | bad k =>
    have hk := fine_bad HP.out HE1.out HO.out.symm
    have hk0 : ¬ ((k : Nat) : Int) = 0 := by omega
    have hk1 : (((k : Nat) : Int) == 0) = false := by simp; omega
    have C := Lib.hid C
    clear hk
    go_wp2_with (fail)
    refine C.out.mono ?_
    rintro e w12 ⟨z, i', d', ns', rfl, ⟨pa', pc', R12⟩, h1, h2⟩
    have s5 := R12.c5
    have HR12 := Lib.hid R12
    clear R12 C r4 r1 fz
    go_wp2
    go_ret
    exact RetF.bad ⟨pa', pc', HR12.out⟩ (by omega) h2
  | ok rest ns' =>
    have HF := Lib.hid (fun i' (h : E.toks.drop i' = rest) => Fine.onF HP.out HE1.out HO.out.symm h)
    have C := Lib.hid C
    go_wp2_with (fail)
    refine C.out.mono ?_
    rintro e w12 ⟨rfl, i', hr, hi', pa', pc', R12⟩
    obtain ⟨he2, hn2, hlt2, hl2⟩ := HF.out i' hr
    have s5 := R12.c5
    rw [show (((0 : Nat) : Nat) : Int) = 0 from rfl] at s5
    have HR12 := Lib.hid R12
    have HRR := Lib.hid hr
    clear C r4 r1 fz hr HF
    cases hT2 : isT 41 (E.toks.drop i') with
    | false =>
      have CS2 := Lib.hid (sign_no E HK.out w12 i' (d + 1) 0 ns' pa' pc' R12 he2 41 hT2)
      have HO2 : Hid (closeP (.ok rest ns') = .bad 2) := Lib.hid (by rw [← HRR.out]; simp [closeP, hT2])
      clear R12 hT2 he2
      go_wp2_with (fail)
      refine CS2.out.mono ?_
      rintro e w13 ⟨rfl, q13, rfl⟩
      have R13 := HR12.out.drewN q13
      clear HR12 CS2 s5
      generalize World.drewN _ q13 = W13 at R13 ⊢
      have s5 := R13.c5
      have fz := R13.rd.frozen
      have HR13 := Lib.hid R13
      clear R13
      go_wp2
      go_ret
      rw [HO2.out]
      exact RetF.bad ⟨pa', pc', HR13.out.set5 HK.out rfl⟩ (by omega) (by omega)
    | true =>
      have CS2 := Lib.hid (sign_yes E HK.out w12 i' (d + 1) 0 ns' pa' pc' R12 he2 41 rfl rfl hT2)
      have h3 := (isT_tail he2 hT2).1
      rw [drop_tail] at h3
      have H3 := Lib.hid h3
      have HO2 : Hid (closeP (.ok rest ns') = .ok (E.toks.drop (i' + 1)) ns') := Lib.hid (by rw [← HRR.out]; simp [closeP, hT2])
      clear R12 hT2 he2 h3
      go_wp2_with (fail)
      refine CS2.out.mono ?_
      rintro e w13 ⟨rfl, q13, rfl⟩
      have R13 := HR12.out.drewN q13
      clear HR12 CS2 s5
      generalize World.drewN _ q13 = W13 at R13 ⊢
      have s5 := R13.c5
      rw [show (((0 : Nat) : Nat) : Int) = 0 from rfl] at s5
      have s1 := R13.c1
      have s4 := R13.c4
      have fz := R13.rd.frozen
      have HR13 := Lib.hid R13
      clear R13
      go_wp2
      go_ret
      rw [HO2.out]
      exact RetF.ok rfl rfl (drop_lt H3.out) ⟨pa', pc', (HR13.out.set1 HK.out (n := i' + 1) (by omega)).set4 HK.out (by omega)⟩
end Go.Proofs.Ytkdejinhjdkkmaa

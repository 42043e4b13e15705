/- Contracts of the reference's Name and of its reader's tag; the condition: the reader lies there. -/
import Derived.Test.YtkdejinhjdkkmaaFb
import Derived.Test.YtkdejinhjdkkmaaRd
namespace Go.Proofs.Ytkdejinhjdkkmaa
open Go.ChangeShapes Go.WideShapes Go.ChangeAt Go.RowKit Go.Maps

theorem rname_any (x : Txt) (w : World) (h : x.length ≤ 1000) : Calls Try.prog 73 #[.string (str x)] w fun e w' => e = .returned (.bool (isName keysL x)) ∧ Below w.heap.size w w' := by
  have CW := Lib.hid (fun W => rword (str x) W (by rw [str_size]; unfold maxLen; omega))
  have CK := Lib.hid (fun W => rkey (str x) W)
  rw [str_data] at CW CK
  have HE : Hid (isName keysL x = (isWord x && !isKey x)) := Lib.hid rfl
  generalize str x = sx at CW CK ⊢
  generalize isName keysL x = r at HE ⊢
  generalize isKey x = kx at CK HE
  cases hw : isWord x with
  | true =>
    rw [hw] at CW HE
    have HE2 : Hid (r = !kx) := Lib.hid HE.out
    clear hw HE
    go_enter Try.func73, Try.ntmps73
    go_wp2_with (fail)
    refine (CW.out _).mono ?_
    rintro e w1 ⟨rfl, rfl⟩
    go_wp2_with (fail)
    refine (CK.out _).mono ?_
    rintro e w2 ⟨rfl, b⟩
    have HB := Lib.hid b
    clear b
    go_wp2
    go_ret
    exact ⟨by rw [HE2.out]; rfl, HB.out⟩
  | false =>
    rw [hw] at CW HE
    have HE2 : Hid (r = false) := Lib.hid HE.out
    clear hw HE
    go_enter Try.func73, Try.ntmps73
    go_wp2_with (fail)
    refine (CW.out _).mono ?_
    rintro e w1 ⟨rfl, rfl⟩
    go_wp2
    go_ret
    exact ⟨by rw [HE2.out]; rfl, Below.refl _ _⟩

/-- What a reader of the reference comes to, which began at token i with n nodes. -/
def RetF (E : EnvF) (o : Out) (d i n : Nat) (e : Ending) (w' : World) : Prop :=
  match o with
  | .bad k => ∃ (z : Int) (i' d' : Nat) (ns' : List Nd), e = .returned (.int .i64 z) ∧ RF E w' i' d' k ns' ∧ ns'.length + i ≤ n + i' ∧ i' ≤ E.toks.length
  | .ok rest ns => e = .returned (.int .i64 ((ns.length : Int) - 1)) ∧ ∃ i', E.toks.drop i' = rest ∧ i' < E.toks.length ∧ RF E w' i' d 0 ns
theorem RetF.bad {E : EnvF} {d i n : Nat} {z : Int} {w' : World} {k i' d' : Nat} {ns' : List Nd} (r : RF E w' i' d' k ns') (hn : ns'.length + i ≤ n + i') (hi : i' ≤ E.toks.length) : RetF E (.bad k) d i n (.returned (.int .i64 z)) w' := ⟨z, i', d', ns', rfl, r, hn, hi⟩
theorem RetF.ok {E : EnvF} {d i n : Nat} {z : Int} {w' : World} {rest : List Tok} {i' : Nat} {ns : List Nd} (hz : z = (ns.length : Int) - 1) (hr : E.toks.drop i' = rest) (hi : i' < E.toks.length) (r : RF E w' i' d 0 ns) : RetF E (.ok rest ns) d i n (.returned (.int .i64 z)) w' := ⟨by rw [hz], i', hr, hi, r⟩

section
variable {E : EnvF} {w : World} {i d b : Nat} {ns : List Nd} {pa : Option Addr} {pc : Nat}
theorem RfSt.fresh (h : RfSt E w i d b ns pa pc) {g : Nat} (hg : w.heap.size ≤ g) : pa ≠ some ⟨g, 0, none⟩ := fun e => by have := h.nds.lt e; omega
theorem RfSt.Ble (h : RfSt E w i d b ns pa pc) (ok : E.Ok) : E.B ≤ w.heap.size := Nat.le_of_lt (Nat.lt_of_le_of_lt ok.gB h.rd.lt)
end

set_option maxRecDepth 100000 in
set_option maxHeartbeats 2000000 in
theorem ftag_none (E : EnvF) (ok : E.Ok) (w : World) (i d : Nat) (ns : List Nd) (pa : Option Addr) (pc : Nat) (R : RfSt E w i d 0 ns pa pc) (t : Tok) (hp : posF t.text E.nm 0 = none) :
    Calls Try.prog 74 #[.pointer (some ⟨E.g, 0, none⟩), tokV t] w fun e w' => e = .returned (.int .i64 0) ∧ RF E w' i d 4 ns := by
  have R1 := R.alloc ok (.cells #[.int .i64 (t.kind : Nat), .int .i64 (t.n : Nat), .int .i64 (t.line : Nat), .int .i64 (t.col : Nat), .string (str t.text)] 74)
  have R2 := R1.alloc ok (.cells #[.int .i64 3, .int .i64 1, .int .i64 0, .int .i64 0, .string ⟨#[]⟩] 47)
  have CN := named_any E ok _ i d 0 ns pa pc R2 t.text
  rw [hp] at CN
  have CN := Lib.hid CN
  have HR2 := Lib.hid R2
  have HK := Lib.hid ok
  clear R R1 R2 ok hp
  unfold tokV
  go_enter Try.func74, Try.ntmps74
  go_wp2_with (fail)
  refine CN.out.mono ?_
  rintro e w3 ⟨rfl, q, rfl⟩
  have R3 := HR2.out.drewN q
  unfold namedV
  clear HR2 CN
  generalize World.drewN _ q = W3 at R3 ⊢
  have r5 := R3.c5
  have fz := R3.rd.frozen 5
  have HR3 := Lib.hid R3
  clear R3
  go_wp2
  go_ret
  exact ⟨rfl, pa, pc, HR3.out.set5 HK.out rfl⟩

theorem RfSt.fresh_ne {E : EnvF} {w : World} {i d b : Nat} {ns : List Nd} {pa : Option Addr} {pc : Nat} (h : RfSt E w i d b ns pa pc) {g : Nat} (hg : w.heap.size ≤ g) : ¬ g = E.g := fun e => by have := h.rd.lt; omega
set_option maxRecDepth 100000 in
set_option maxHeartbeats 2000000 in
theorem ftag_one (E : EnvF) (ok : E.Ok) (w : World) (i d : Nat) (ns : List Nd) (pa : Option Addr) (pc : Nat) (R : RfSt E w i d 0 ns pa pc) (hn : ns.length ≤ 100000) (t : Tok) (k : Nat) (hp : posF t.text E.nm 0 = some k) (he : Ended (E.toks.drop (i + 1))) (hT : isT 94 (E.toks.drop (i + 1)) = false) :
    Calls Try.prog 74 #[.pointer (some ⟨E.g, 0, none⟩), tokV t] w fun e w' => e = .returned (.int .i64 (ns.length : Nat)) ∧ RF E w' (i + 1) d 0 (ns ++ [nTag k 1]) := by
  have R1 := R.alloc ok (.cells #[.int .i64 (t.kind : Nat), .int .i64 (t.n : Nat), .int .i64 (t.line : Nat), .int .i64 (t.col : Nat), .string (str t.text)] 74)
  have R2 := R1.alloc ok (.cells #[.int .i64 3, .int .i64 1, .int .i64 0, .int .i64 0, .string ⟨#[]⟩] 47)
  have L2 := Lies.new (w.alloc (.cells #[.int .i64 (t.kind : Nat), .int .i64 (t.n : Nat), .int .i64 (t.line : Nat), .int .i64 (t.col : Nat), .string (str t.text)] 74)) 47 [.int .i64 3, .int .i64 1, .int .i64 0, .int .i64 0, .string ⟨#[]⟩]
  have hz : (w.alloc (.cells #[.int .i64 (t.kind : Nat), .int .i64 (t.n : Nat), .int .i64 (t.line : Nat), .int .i64 (t.col : Nat), .string (str t.text)] 74)).heap.size = w.heap.size + 1 := by simp
  have hpn : pa ≠ some ⟨w.heap.size + 1, 0, none⟩ := R.fresh (by omega)
  have hgn : ¬ w.heap.size + 1 = E.g := R.fresh_ne (by omega)
  have HB : Hid (E.B ≤ w.heap.size + 1) := Lib.hid (Nat.le_succ_of_le (R.Ble ok))
  rw [hz] at L2
  have CN := named_any E ok _ i d 0 ns pa pc R2 t.text
  rw [hp] at CN
  have CN := Lib.hid CN
  have HR2 := Lib.hid R2
  have HL2 := Lib.hid L2
  have HK := Lib.hid ok
  have HPN := Lib.hid hpn
  have hl := ok.len
  have hi := drop_lt he
  have HE := Lib.hid he
  have HT := Lib.hid hT
  clear R R1 R2 L2 ok hp hz hpn he hT
  unfold tokV
  go_enter Try.func74, Try.ntmps74
  go_wp2_with (fail)
  refine CN.out.mono ?_
  rintro e w3 ⟨rfl, q, rfl⟩
  have R3 := HR2.out.drewN q
  have L3 := HL2.out.drewN q
  unfold namedV
  clear HR2 CN HL2
  generalize World.drewN _ q = W3 at R3 L3 ⊢
  generalize w.heap.size + 1 = gn at L3 HPN HB hgn ⊢
  have r1 := R3.c1
  have r3 := R3.c3
  have fz1 := R3.rd.frozen 1
  have fzn := L3.frozen
  have l3 := L3.cell 3
  simp only [List.getElem?_cons_zero, List.getElem?_cons_succ] at l3
  have R4 := R3.far L3 (by decide) HPN.out HB.out 3 (.int .i64 (k : Nat))
  have L4 := L3.set 3 (.int .i64 (k : Nat))
  have R5 := R4.set1 HK.out (v := (i : Int) + 1) (n := i + 1) (by omega)
  have L5 := L4.far (p := ⟨E.g, 1, none⟩) hgn (.int .i64 ((i : Int) + 1))
  have CS := Lib.hid (sign_no E HK.out _ (i + 1) d 0 ns pa pc R5 HE.out 94 HT.out)
  have HR5 := Lib.hid R5
  have HL5 := Lib.hid L5
  clear R3 R4 L4 R5 L5 L3
  go_wp2_with (fail)
  refine CS.out.mono ?_
  rintro e w6 ⟨rfl, q6, rfl⟩
  have R6 := HR5.out.drewN q6
  have L6 := HL5.out.drewN q6
  clear HR5 HL5 CS r1 r3 fz1 fzn l3
  generalize World.drewN _ q6 = W6 at R6 L6 ⊢
  simp only [List.set_cons_succ, List.set_cons_zero] at L6
  have l0 := L6.cell 0
  have l1 := L6.cell 1
  have l2 := L6.cell 2
  have l3 := L6.cell 3
  have l4 := L6.cell 4
  simp only [List.getElem?_cons_zero, List.getElem?_cons_succ] at l0 l1 l2 l3 l4
  have CA := Lib.hid (fadd_any E HK.out W6 (i + 1) d 0 ns pa pc R6 hn 3 1 0 (k : Int) ⟨#[]⟩)
  clear R6 L6
  go_wp2_with (fail)
  refine CA.out.mono ?_
  rintro e w7 ⟨rfl, R7⟩
  have HR7 := Lib.hid R7
  clear R7 CA
  go_wp2
  go_ret
  exact ⟨rfl, HR7.out⟩
/-- What tag comes to where the number that it reads is u. -/
def TagF (E : EnvF) (u : Tok) (i d : Nat) (ns : List Nd) (k : Nat) (e : Ending) (w' : World) : Prop :=
  if u.kind = 2 ∧ 1 ≤ u.n then e = .returned (.int .i64 (ns.length : Nat)) ∧ RF E w' (i + 3) d 0 (ns ++ [nTag k u.n]) else e = .returned (.int .i64 0) ∧ RF E w' (i + 2) d 2 ns
theorem TagF.yes {E : EnvF} {u : Tok} {i d : Nat} {ns : List Nd} {k : Nat} {w' : World} (h : u.kind = 2 ∧ 1 ≤ u.n) (r : RF E w' (i + 3) d 0 (ns ++ [nTag k u.n])) : TagF E u i d ns k (.returned (.int .i64 (ns.length : Nat))) w' := by
  unfold TagF; rw [if_pos h]; exact ⟨rfl, r⟩
theorem TagF.no {E : EnvF} {u : Tok} {i d : Nat} {ns : List Nd} {k : Nat} {w' : World} (h : ¬ (u.kind = 2 ∧ 1 ≤ u.n)) (r : RF E w' (i + 2) d 2 ns) : TagF E u i d ns k (.returned (.int .i64 0)) w' := by
  unfold TagF; rw [if_neg h]; exact ⟨rfl, r⟩
set_option maxRecDepth 100000 in
set_option maxHeartbeats 2000000 in
theorem ftag_many (E : EnvF) (ok : E.Ok) (w : World) (i d : Nat) (ns : List Nd) (pa : Option Addr) (pc : Nat) (R : RfSt E w i d 0 ns pa pc) (hn : ns.length ≤ 100000) (t : Tok) (k : Nat) (hp : posF t.text E.nm 0 = some k) (he : Ended (E.toks.drop (i + 1))) (hT : isT 94 (E.toks.drop (i + 1)) = true) (hi2 : i + 2 < E.toks.length) :
    Calls Try.prog 74 #[.pointer (some ⟨E.g, 0, none⟩), tokV t] w (TagF E E.toks[i + 2] i d ns k) := by
  have R1 := R.alloc ok (.cells #[.int .i64 (t.kind : Nat), .int .i64 (t.n : Nat), .int .i64 (t.line : Nat), .int .i64 (t.col : Nat), .string (str t.text)] 74)
  have R2 := R1.alloc ok (.cells #[.int .i64 3, .int .i64 1, .int .i64 0, .int .i64 0, .string ⟨#[]⟩] 47)
  have L2 := Lies.new (w.alloc (.cells #[.int .i64 (t.kind : Nat), .int .i64 (t.n : Nat), .int .i64 (t.line : Nat), .int .i64 (t.col : Nat), .string (str t.text)] 74)) 47 [.int .i64 3, .int .i64 1, .int .i64 0, .int .i64 0, .string ⟨#[]⟩]
  have hz : (w.alloc (.cells #[.int .i64 (t.kind : Nat), .int .i64 (t.n : Nat), .int .i64 (t.line : Nat), .int .i64 (t.col : Nat), .string (str t.text)] 74)).heap.size = w.heap.size + 1 := by simp
  have hpn : pa ≠ some ⟨w.heap.size + 1, 0, none⟩ := R.fresh (by omega)
  have hgn : ¬ w.heap.size + 1 = E.g := R.fresh_ne (by omega)
  have HB : Hid (E.B ≤ w.heap.size + 1) := Lib.hid (Nat.le_succ_of_le (R.Ble ok))
  rw [hz] at L2
  obtain ⟨u, hu⟩ : ∃ u, E.toks[i + 2] = u := ⟨_, rfl⟩
  rw [hu]
  obtain ⟨j, hj⟩ : ∃ j, j = i + 2 := ⟨_, rfl⟩
  have HU : Hid (∀ h : j < E.toks.length, E.toks[j] = u) := Lib.hid (by subst hj; intro _; exact hu)
  have HJ := Lib.hid hj
  have hj2 : j < E.toks.length := by omega
  clear hu hj
  have CN := named_any E ok _ i d 0 ns pa pc R2 t.text
  rw [hp] at CN
  have CN := Lib.hid CN
  have HR2 := Lib.hid R2
  have HL2 := Lib.hid L2
  have HK := Lib.hid ok
  have HPN := Lib.hid hpn
  have hl := ok.len
  have hi := drop_lt he
  have HE := Lib.hid he
  have HT := Lib.hid hT
  clear R R1 R2 L2 ok hp hz hpn he hT
  unfold tokV
  go_enter Try.func74, Try.ntmps74
  go_wp2_with (fail)
  refine CN.out.mono ?_
  rintro e w3 ⟨rfl, q, rfl⟩
  have R3 := HR2.out.drewN q
  have L3 := HL2.out.drewN q
  unfold namedV
  clear HR2 CN HL2
  generalize World.drewN _ q = W3 at R3 L3 ⊢
  generalize w.heap.size + 1 = gn at L3 HPN HB hgn ⊢
  have r1 := R3.c1
  have r3 := R3.c3
  have fz1 := R3.rd.frozen 1
  have fzn := L3.frozen
  have l3 := L3.cell 3
  simp only [List.getElem?_cons_zero, List.getElem?_cons_succ] at l3
  have R4 := R3.far L3 (by decide) HPN.out HB.out 3 (.int .i64 (k : Nat))
  have L4 := L3.set 3 (.int .i64 (k : Nat))
  have R5 := R4.set1 HK.out (v := (i : Int) + 1) (n := i + 1) (by omega)
  have L5 := L4.far (p := ⟨E.g, 1, none⟩) hgn (.int .i64 ((i : Int) + 1))
  have CS := Lib.hid (sign_yes E HK.out _ (i + 1) d 0 ns pa pc R5 HE.out 94 rfl rfl HT.out)
  have HR5 := Lib.hid R5
  have HL5 := Lib.hid L5
  clear R3 R4 L4 R5 L5 L3
  go_wp2_with (fail)
  refine CS.out.mono ?_
  rintro e w6 ⟨rfl, q6, rfl⟩
  have R6 := HR5.out.drewN q6
  have L6 := HL5.out.drewN q6
  clear HR5 HL5 CS r1 r3 fz1 fzn l3
  generalize World.drewN _ q6 = W6 at R6 L6 ⊢
  simp only [List.set_cons_succ, List.set_cons_zero] at L6
  have r1 := R6.c1
  have fz1 := R6.rd.frozen 1
  have R7 := R6.set1 HK.out (v := (i : Int) + 1 + 1) (n := j) (by have := HJ.out; omega)
  have L7 := L6.far (p := ⟨E.g, 1, none⟩) hgn (.int .i64 ((i : Int) + 1 + 1))
  have HR7 := Lib.hid R7
  have HL7 := Lib.hid L7
  clear R6 L6 R7 L7
  go_wp2_with (fail)
  clear r1 fz1
  generalize W6.setCell ⟨E.g, 1, none⟩ (.int .i64 ((i : Int) + 1 + 1)) = W7 at HR7 HL7 ⊢
  obtain ⟨gt, hta, T⟩ := HR7.out.at HK.out hj2
  have c0 := T.c0
  have c1 := T.c1
  have c2 := T.c2
  have c3 := T.c3
  have c4 := T.c4
  have r0 := HR7.out.c0
  have r1 := HR7.out.c1
  rw [hta] at r0
  have hgt : gt < W7.heap.size := (HR7.out.toks HK.out).lt hta
  have hg : E.g < W7.heap.size := HR7.out.rd.lt
  have hgnl : gn < W7.heap.size := HL7.out.lt
  rw [HU.out] at c0 c1 c2 c3 c4
  clear T hta
  go_region_held3 (fun w' => w'.cell? ⟨E.g, 0, none⟩ = some (.slice (some ⟨gt, 0, none⟩) E.toks.length E.tc) ∧ w'.cell? ⟨E.g, 1, none⟩ = some (.int .i64 (j : Nat)) ∧ w'.cell? ⟨gt, j * 5, none⟩ = some (.int .i64 (u.kind : Nat)) ∧ w'.cell? ⟨gt, j * 5 + 1, none⟩ = some (.int .i64 (u.n : Nat)) ∧ w'.cell? ⟨gt, j * 5 + 2, none⟩ = some (.int .i64 (u.line : Nat)) ∧ w'.cell? ⟨gt, j * 5 + 3, none⟩ = some (.int .i64 (u.col : Nat)) ∧ w'.cell? ⟨gt, j * 5 + 4, none⟩ = some (.string (str u.text)))
    (first | go_keep)
    (fail)
  have R8 : RfSt E (W7.alloc (.cells #[.int .i64 (u.kind : Nat), .int .i64 (u.n : Nat), .int .i64 (u.line : Nat), .int .i64 (u.col : Nat), .string (str u.text)] 74)).drew j d 0 ns pa pc := (HR7.out.alloc HK.out _).drewN 1
  have L8 : Lies (W7.alloc (.cells #[.int .i64 (u.kind : Nat), .int .i64 (u.n : Nat), .int .i64 (u.line : Nat), .int .i64 (u.col : Nat), .string (str u.text)] 74)).drew gn 47 [.int .i64 3, .int .i64 1, .int .i64 0, .int .i64 (k : Nat), .string ⟨#[]⟩] := HL7.out.alloc _
  have U8 : Lies (W7.alloc (.cells #[.int .i64 (u.kind : Nat), .int .i64 (u.n : Nat), .int .i64 (u.line : Nat), .int .i64 (u.col : Nat), .string (str u.text)] 74)).drew W7.heap.size 74 [.int .i64 (u.kind : Nat), .int .i64 (u.n : Nat), .int .i64 (u.line : Nat), .int .i64 (u.col : Nat), .string (str u.text)] := Lies.new W7 74 _
  have hun : ¬ gn = W7.heap.size := by omega
  have huE : ¬ W7.heap.size = E.g := by omega
  clear c0 c1 c2 c3 c4 r0 r1 hgt hg hgnl HR7 HL7
  generalize World.drew (W7.alloc _) = W8 at R8 L8 U8 ⊢
  generalize W7.heap.size = gu at U8 hun huE ⊢
  have u0 := U8.cell 0
  have u1 := U8.cell 1
  simp only [List.getElem?_cons_zero, List.getElem?_cons_succ] at u0 u1
  have r1 := R8.c1
  have r5 := R8.c5
  have fz1 := R8.rd.frozen
  have fzn := L8.frozen
  have l1 := L8.cell 1
  simp only [List.getElem?_cons_zero, List.getElem?_cons_succ] at l1
  have HR8 := Lib.hid R8
  have HL8 := Lib.hid L8
  clear R8 L8 U8
  by_cases hk : u.kind = 2
  · have hk1 : (u.kind : Int) = 2 := by omega
    have hk2 : ((u.kind : Int) != 2) = false := by rw [hk1]; rfl
    by_cases h1 : 1 ≤ u.n
    · have HPo : Hid (∀ w', RF E w' (j + 1) d 0 (ns ++ [nTag k u.n]) → TagF E u i d ns k (.returned (.int .i64 (ns.length : Nat))) w') := Lib.hid (fun w' h => TagF.yes ⟨hk, h1⟩ (by rw [HJ.out] at h; exact h))
      have h1' : ¬ (u.n : Int) < 1 := by omega
      have R9 := HR8.out.far HL8.out (by decide) HPN.out HB.out 1 (.int .i64 (u.n : Nat))
      have L9 := HL8.out.set 1 (.int .i64 (u.n : Nat))
      have R10 := R9.set1 HK.out (v := (j : Int) + 1) (n := j + 1) (by omega)
      have L10 := L9.far (p := ⟨E.g, 1, none⟩) hgn (.int .i64 ((j : Int) + 1))
      simp only [List.set_cons_succ, List.set_cons_zero] at L10
      have HR10 := Lib.hid R10
      have HL10 := Lib.hid L10
      have m0 := L10.cell 0
      have m1 := L10.cell 1
      have m2 := L10.cell 2
      have m3 := L10.cell 3
      have m4 := L10.cell 4
      simp only [List.getElem?_cons_zero, List.getElem?_cons_succ] at m0 m1 m2 m3 m4
      have CA := Lib.hid (fadd_any E HK.out _ (j + 1) d 0 ns pa pc R10 hn 3 (u.n : Nat) 0 (k : Int) ⟨#[]⟩)
      clear R9 L9 R10 L10 hk
      go_wp2_with (fail)
      refine CA.out.mono ?_
      rintro e w11 ⟨rfl, R11⟩
      have HR11 := Lib.hid R11
      clear R11 CA
      go_wp2
      go_ret
      exact HPo.out _ HR11.out
    · have HPo : Hid (∀ w', RF E w' j d 2 ns → TagF E u i d ns k (.returned (.int .i64 0)) w') := Lib.hid (fun w' h => TagF.no (by omega) (by rw [HJ.out] at h; exact h))
      have h1' : (u.n : Int) < 1 := by omega
      clear hk h1
      go_wp2
      go_ret
      exact HPo.out _ ⟨pa, pc, HR8.out.set5 HK.out rfl⟩
  · have hk1 : ¬ (u.kind : Int) = 2 := by omega
    have hk2 : ((u.kind : Int) != 2) = true := by simp; omega
    have HPo : Hid (∀ w', RF E w' j d 2 ns → TagF E u i d ns k (.returned (.int .i64 0)) w') := Lib.hid (fun w' h => TagF.no (by omega) (by rw [HJ.out] at h; exact h))
    clear hk
    go_wp2
    go_ret
    exact HPo.out _ ⟨pa, pc, HR8.out.set5 HK.out rfl⟩
end Go.Proofs.Ytkdejinhjdkkmaa

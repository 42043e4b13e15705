/- Contracts of the reference reader's atom where no bracket opens; the condition: the reader lies there. -/
import Derived.Test.YtkdejinhjdkkmaaFd
namespace Go.Proofs.Ytkdejinhjdkkmaa
open Go.ChangeShapes Go.WideShapes Go.ChangeAt Go.RowKit Go.Maps

set_option maxRecDepth 100000 in
set_option maxHeartbeats 4000000 in
theorem atom_zero (E : EnvF) (ok : E.Ok) (w : World) (i d : Nat) (ns : List Nd) (pa : Option Addr) (pc : Nat) (R : RfSt E w i d 0 ns pa pc) (he : Ended (E.toks.drop i)) (t : Tok) (ht : ∀ h : i < E.toks.length, E.toks[i] = t) (h40 : ¬ t.text = [40]) (hk : t.kind = 2) (hv : t.n = 0) (hn : ns.length ≤ i) (st : Bool) :
    Calls Try.prog 70 #[.pointer (some ⟨E.g, 0, none⟩), .bool st] w (fun e w' => e = .returned (.int .i64 (ns.length : Nat)) ∧ RF E w' (i + 1) d 0 (ns ++ [nLeaf 1])) := by
  have hT : isT 40 (E.toks.drop i) = false := by
    have h := isT_true (c := 40) (drop_lt he)
    rw [ht] at h
    cases hx : isT 40 (E.toks.drop i) with
    | false => rfl
    | true => exact absurd (h.1 hx) h40
  have HT := Lib.hid hT
  clear hT h40
  have HKD := Lib.hid hk
  have HVD := Lib.hid hv
  clear hk hv
  have hi := drop_lt he
  obtain ⟨gt, hta, T⟩ := R.at ok hi
  have hl := ok.len
  have c0 := T.c0
  have c1 := T.c1
  have c2 := T.c2
  have c3 := T.c3
  have c4 := T.c4
  have r0 := R.c0
  have r1 := R.c1
  have r5 := R.c5
  rw [show (((0 : Nat) : Nat) : Int) = 0 from rfl] at r5
  rw [hta] at r0
  have hgt : gt < w.heap.size := (R.toks ok).lt hta
  have hg : E.g < w.heap.size := R.rd.lt
  rw [ht] at c0 c1 c2 c3 c4
  have HTT := Lib.hid ht
  clear ht
  have HR := Lib.hid R
  have HK := Lib.hid ok
  have HE := Lib.hid he
  clear hta T R ok he
  go_enter Try.func70, Try.ntmps70
  go_wp2_with (fail)
  go_region_held3 (fun w' => w'.cell? ⟨E.g, 0, none⟩ = some (.slice (some ⟨gt, 0, none⟩) E.toks.length E.tc) ∧ w'.cell? ⟨E.g, 1, none⟩ = some (.int .i64 (i : Nat)) ∧ w'.cell? ⟨gt, i * 5, none⟩ = some (.int .i64 (t.kind : Nat)) ∧ w'.cell? ⟨gt, i * 5 + 1, none⟩ = some (.int .i64 (t.n : Nat)) ∧ w'.cell? ⟨gt, i * 5 + 2, none⟩ = some (.int .i64 (t.line : Nat)) ∧ w'.cell? ⟨gt, i * 5 + 3, none⟩ = some (.int .i64 (t.col : Nat)) ∧ w'.cell? ⟨gt, i * 5 + 4, none⟩ = some (.string (str t.text)))
    (first | go_keep)
    (fail)
  have R8 : RfSt E (w.alloc (.cells #[.int .i64 (t.kind : Nat), .int .i64 (t.n : Nat), .int .i64 (t.line : Nat), .int .i64 (t.col : Nat), .string (str t.text)] 74)).drew i d 0 ns pa pc := (HR.out.alloc HK.out _).drewN 1
  have U8 : Lies (w.alloc (.cells #[.int .i64 (t.kind : Nat), .int .i64 (t.n : Nat), .int .i64 (t.line : Nat), .int .i64 (t.col : Nat), .string (str t.text)] 74)).drew w.heap.size 74 [.int .i64 (t.kind : Nat), .int .i64 (t.n : Nat), .int .i64 (t.line : Nat), .int .i64 (t.col : Nat), .string (str t.text)] := Lies.new w 74 _
  have huE : ¬ w.heap.size = E.g := by omega
  clear c0 c1 c2 c3 c4 r0 r1 r5 hgt hg HR
  go_wp2_with (fail)
  generalize World.drew (w.alloc _) = W8 at R8 U8 ⊢
  generalize w.heap.size = gu at U8 huE ⊢
  have CS := Lib.hid (sign_no E HK.out W8 i d 0 ns pa pc R8 HE.out 40 HT.out)
  have HR8 := Lib.hid R8
  have HU8 := Lib.hid U8
  clear R8 U8 HT
  refine CS.out.mono ?_
  rintro e w9 ⟨rfl, q, rfl⟩
  have R9 := HR8.out.drewN q
  have U9 := HU8.out.drewN q
  clear HR8 CS HU8
  generalize World.drewN _ q = W9 at R9 U9 ⊢
  have u0 : W9.cell? ⟨gu, 0, none⟩ = some (.int .i64 2) := by rw [U9.cell 0]; simp [HKD.out]
  have u1 : W9.cell? ⟨gu, 1, none⟩ = some (.int .i64 0) := by rw [U9.cell 1]; simp [HVD.out]
  have r1 := R9.c1
  have fz := R9.rd.frozen
  have R10 := R9.set1 HK.out (v := (i : Int) + 1) (n := i + 1) (by omega)
  have CA := Lib.hid (fadd_any E HK.out _ (i + 1) d 0 ns pa pc R10 (by omega) 1 0 0 0 ⟨#[]⟩)
  have y1 : (W9.setCell ⟨E.g, 1, none⟩ (.int .i64 ((i : Int) + 1))).cell? ⟨gu, 1, none⟩ = some (.int .i64 0) := by rw [(U9.far (p := ⟨E.g, 1, none⟩) huE _).cell 1]; simp [HVD.out]
  clear R9 R10 U9
  go_wp2_with (fail)
  refine CA.out.mono ?_
  rintro e w11 ⟨rfl, R11⟩
  have HR11 := Lib.hid R11
  clear R11 CA
  go_wp2
  go_ret
  exact ⟨rfl, HR11.out⟩
set_option maxRecDepth 100000 in
set_option maxHeartbeats 4000000 in
theorem atom_one (E : EnvF) (ok : E.Ok) (w : World) (i d : Nat) (ns : List Nd) (pa : Option Addr) (pc : Nat) (R : RfSt E w i d 0 ns pa pc) (he : Ended (E.toks.drop i)) (t : Tok) (ht : ∀ h : i < E.toks.length, E.toks[i] = t) (h40 : ¬ t.text = [40]) (hk : t.kind = 2) (hv : t.n = 1) (hn : ns.length ≤ i) (st : Bool) :
    Calls Try.prog 70 #[.pointer (some ⟨E.g, 0, none⟩), .bool st] w (fun e w' => e = .returned (.int .i64 (ns.length : Nat)) ∧ RF E w' (i + 1) d 0 (ns ++ [nLeaf 2])) := by
  have hT : isT 40 (E.toks.drop i) = false := by
    have h := isT_true (c := 40) (drop_lt he)
    rw [ht] at h
    cases hx : isT 40 (E.toks.drop i) with
    | false => rfl
    | true => exact absurd (h.1 hx) h40
  have HT := Lib.hid hT
  clear hT h40
  have HKD := Lib.hid hk
  have HVD := Lib.hid hv
  clear hk hv
  have hi := drop_lt he
  obtain ⟨gt, hta, T⟩ := R.at ok hi
  have hl := ok.len
  have c0 := T.c0
  have c1 := T.c1
  have c2 := T.c2
  have c3 := T.c3
  have c4 := T.c4
  have r0 := R.c0
  have r1 := R.c1
  have r5 := R.c5
  rw [show (((0 : Nat) : Nat) : Int) = 0 from rfl] at r5
  rw [hta] at r0
  have hgt : gt < w.heap.size := (R.toks ok).lt hta
  have hg : E.g < w.heap.size := R.rd.lt
  rw [ht] at c0 c1 c2 c3 c4
  have HTT := Lib.hid ht
  clear ht
  have HR := Lib.hid R
  have HK := Lib.hid ok
  have HE := Lib.hid he
  clear hta T R ok he
  go_enter Try.func70, Try.ntmps70
  go_wp2_with (fail)
  go_region_held3 (fun w' => w'.cell? ⟨E.g, 0, none⟩ = some (.slice (some ⟨gt, 0, none⟩) E.toks.length E.tc) ∧ w'.cell? ⟨E.g, 1, none⟩ = some (.int .i64 (i : Nat)) ∧ w'.cell? ⟨gt, i * 5, none⟩ = some (.int .i64 (t.kind : Nat)) ∧ w'.cell? ⟨gt, i * 5 + 1, none⟩ = some (.int .i64 (t.n : Nat)) ∧ w'.cell? ⟨gt, i * 5 + 2, none⟩ = some (.int .i64 (t.line : Nat)) ∧ w'.cell? ⟨gt, i * 5 + 3, none⟩ = some (.int .i64 (t.col : Nat)) ∧ w'.cell? ⟨gt, i * 5 + 4, none⟩ = some (.string (str t.text)))
    (first | go_keep)
    (fail)
  have R8 : RfSt E (w.alloc (.cells #[.int .i64 (t.kind : Nat), .int .i64 (t.n : Nat), .int .i64 (t.line : Nat), .int .i64 (t.col : Nat), .string (str t.text)] 74)).drew i d 0 ns pa pc := (HR.out.alloc HK.out _).drewN 1
  have U8 : Lies (w.alloc (.cells #[.int .i64 (t.kind : Nat), .int .i64 (t.n : Nat), .int .i64 (t.line : Nat), .int .i64 (t.col : Nat), .string (str t.text)] 74)).drew w.heap.size 74 [.int .i64 (t.kind : Nat), .int .i64 (t.n : Nat), .int .i64 (t.line : Nat), .int .i64 (t.col : Nat), .string (str t.text)] := Lies.new w 74 _
  have huE : ¬ w.heap.size = E.g := by omega
  clear c0 c1 c2 c3 c4 r0 r1 r5 hgt hg HR
  go_wp2_with (fail)
  generalize World.drew (w.alloc _) = W8 at R8 U8 ⊢
  generalize w.heap.size = gu at U8 huE ⊢
  have CS := Lib.hid (sign_no E HK.out W8 i d 0 ns pa pc R8 HE.out 40 HT.out)
  have HR8 := Lib.hid R8
  have HU8 := Lib.hid U8
  clear R8 U8 HT
  refine CS.out.mono ?_
  rintro e w9 ⟨rfl, q, rfl⟩
  have R9 := HR8.out.drewN q
  have U9 := HU8.out.drewN q
  clear HR8 CS HU8
  generalize World.drewN _ q = W9 at R9 U9 ⊢
  have u0 : W9.cell? ⟨gu, 0, none⟩ = some (.int .i64 2) := by rw [U9.cell 0]; simp [HKD.out]
  have u1 : W9.cell? ⟨gu, 1, none⟩ = some (.int .i64 1) := by rw [U9.cell 1]; simp [HVD.out]
  have r1 := R9.c1
  have fz := R9.rd.frozen
  have R10 := R9.set1 HK.out (v := (i : Int) + 1) (n := i + 1) (by omega)
  have CA := Lib.hid (fadd_any E HK.out _ (i + 1) d 0 ns pa pc R10 (by omega) 2 0 0 0 ⟨#[]⟩)
  have y1 : (W9.setCell ⟨E.g, 1, none⟩ (.int .i64 ((i : Int) + 1))).cell? ⟨gu, 1, none⟩ = some (.int .i64 1) := by rw [(U9.far (p := ⟨E.g, 1, none⟩) huE _).cell 1]; simp [HVD.out]
  clear R9 R10 U9
  go_wp2_with (fail)
  refine CA.out.mono ?_
  rintro e w11 ⟨rfl, R11⟩
  have HR11 := Lib.hid R11
  clear R11 CA
  go_wp2
  go_ret
  exact ⟨rfl, HR11.out⟩
set_option maxRecDepth 100000 in
set_option maxHeartbeats 4000000 in
theorem atom_name (E : EnvF) (ok : E.Ok) (w : World) (i d : Nat) (ns : List Nd) (pa : Option Addr) (pc : Nat) (R : RfSt E w i d 0 ns pa pc) (he : Ended (E.toks.drop i)) (t : Tok) (ht : ∀ h : i < E.toks.length, E.toks[i] = t) (h40 : ¬ t.text = [40]) (hk : t.kind = 1) (hx : t.text.length ≤ 1000) (hnm : isName keysL t.text = true) (he1 : Ended (E.toks.drop (i + 1))) (hn : ns.length ≤ i) (st : Bool) :
    Calls Try.prog 70 #[.pointer (some ⟨E.g, 0, none⟩), .bool st] w (RetF E (tagP E.nm t.text (E.toks.drop (i + 1)) ns) d i ns.length) := by
  have hT : isT 40 (E.toks.drop i) = false := by
    have h := isT_true (c := 40) (drop_lt he)
    rw [ht] at h
    cases hx : isT 40 (E.toks.drop i) with
    | false => rfl
    | true => exact absurd (h.1 hx) h40
  have HT := Lib.hid hT
  clear hT h40
  have HKD := Lib.hid hk
  have HE1 := Lib.hid he1
  have CN := Lib.hid (fun W => rname_any t.text W hx)
  rw [hnm] at CN
  clear hk he1 hnm hx
  have hi := drop_lt he
  obtain ⟨gt, hta, T⟩ := R.at ok hi
  have hl := ok.len
  have c0 := T.c0
  have c1 := T.c1
  have c2 := T.c2
  have c3 := T.c3
  have c4 := T.c4
  have r0 := R.c0
  have r1 := R.c1
  have r5 := R.c5
  rw [show (((0 : Nat) : Nat) : Int) = 0 from rfl] at r5
  rw [hta] at r0
  have hgt : gt < w.heap.size := (R.toks ok).lt hta
  have hg : E.g < w.heap.size := R.rd.lt
  rw [ht] at c0 c1 c2 c3 c4
  have HTT := Lib.hid ht
  clear ht
  have HR := Lib.hid R
  have HK := Lib.hid ok
  have HE := Lib.hid he
  clear hta T R ok he
  go_enter Try.func70, Try.ntmps70
  go_wp2_with (fail)
  go_region_held3 (fun w' => w'.cell? ⟨E.g, 0, none⟩ = some (.slice (some ⟨gt, 0, none⟩) E.toks.length E.tc) ∧ w'.cell? ⟨E.g, 1, none⟩ = some (.int .i64 (i : Nat)) ∧ w'.cell? ⟨gt, i * 5, none⟩ = some (.int .i64 (t.kind : Nat)) ∧ w'.cell? ⟨gt, i * 5 + 1, none⟩ = some (.int .i64 (t.n : Nat)) ∧ w'.cell? ⟨gt, i * 5 + 2, none⟩ = some (.int .i64 (t.line : Nat)) ∧ w'.cell? ⟨gt, i * 5 + 3, none⟩ = some (.int .i64 (t.col : Nat)) ∧ w'.cell? ⟨gt, i * 5 + 4, none⟩ = some (.string (str t.text)))
    (first | go_keep)
    (fail)
  have R8 : RfSt E (w.alloc (.cells #[.int .i64 (t.kind : Nat), .int .i64 (t.n : Nat), .int .i64 (t.line : Nat), .int .i64 (t.col : Nat), .string (str t.text)] 74)).drew i d 0 ns pa pc := (HR.out.alloc HK.out _).drewN 1
  have U8 : Lies (w.alloc (.cells #[.int .i64 (t.kind : Nat), .int .i64 (t.n : Nat), .int .i64 (t.line : Nat), .int .i64 (t.col : Nat), .string (str t.text)] 74)).drew w.heap.size 74 [.int .i64 (t.kind : Nat), .int .i64 (t.n : Nat), .int .i64 (t.line : Nat), .int .i64 (t.col : Nat), .string (str t.text)] := Lies.new w 74 _
  have huE : ¬ w.heap.size = E.g := by omega
  clear c0 c1 c2 c3 c4 r0 r1 r5 hgt hg HR
  go_wp2_with (fail)
  generalize World.drew (w.alloc _) = W8 at R8 U8 ⊢
  generalize w.heap.size = gu at U8 huE ⊢
  have CS := Lib.hid (sign_no E HK.out W8 i d 0 ns pa pc R8 HE.out 40 HT.out)
  have HR8 := Lib.hid R8
  have HU8 := Lib.hid U8
  clear R8 U8 HT
  refine CS.out.mono ?_
  rintro e w9 ⟨rfl, q, rfl⟩
  have R9 := HR8.out.drewN q
  have U9 := HU8.out.drewN q
  clear HR8 CS HU8
  generalize World.drewN _ q = W9 at R9 U9 ⊢
  have u0 : W9.cell? ⟨gu, 0, none⟩ = some (.int .i64 1) := by rw [U9.cell 0]; simp [HKD.out]
  have u4 : W9.cell? ⟨gu, 4, none⟩ = some (.string (str t.text)) := U9.cell 4
  have HR9 := Lib.hid R9
  have HU9 := Lib.hid U9
  clear R9 U9
  go_wp2_with (fail)
  refine (CN.out _).mono ?_
  rintro e w10 ⟨rfl, b⟩
  have R10 := HR9.out.below HK.out b
  have U10 := HU9.out.below b HU9.out.lt
  have CT := ftag_any E HK.out w10 i d ns pa pc R10 HE1.out hn t
  have v0 := U10.cell 0
  have v1 := U10.cell 1
  have v2 := U10.cell 2
  have v3 := U10.cell 3
  have v4 := U10.cell 4
  simp only [List.getElem?_cons_zero, List.getElem?_cons_succ] at v0 v1 v2 v3 v4
  unfold tokV at CT
  have CT := Lib.hid CT
  clear HR9 HU9 b R10 U10 u0 u4
  go_wp2_with (fail)
  refine CT.out.mono ?_
  intro e w11 h11
  obtain ⟨z, rfl⟩ := h11.ret
  have H11 := Lib.hid h11
  clear h11 CT
  go_wp2
  go_ret
  exact H11.out
set_option maxRecDepth 100000 in
set_option maxHeartbeats 4000000 in
theorem atom_bad2 (E : EnvF) (ok : E.Ok) (w : World) (i d : Nat) (ns : List Nd) (pa : Option Addr) (pc : Nat) (R : RfSt E w i d 0 ns pa pc) (he : Ended (E.toks.drop i)) (t : Tok) (ht : ∀ h : i < E.toks.length, E.toks[i] = t) (h40 : ¬ t.text = [40]) (hk : t.kind = 2) (h0 : ¬ t.n = 0) (h1 : ¬ t.n = 1) (st : Bool) :
    Calls Try.prog 70 #[.pointer (some ⟨E.g, 0, none⟩), .bool st] w (fun e w' => e = .returned (.int .i64 0) ∧ RF E w' i d 2 ns) := by
  have hT : isT 40 (E.toks.drop i) = false := by
    have h := isT_true (c := 40) (drop_lt he)
    rw [ht] at h
    cases hx : isT 40 (E.toks.drop i) with
    | false => rfl
    | true => exact absurd (h.1 hx) h40
  have HT := Lib.hid hT
  clear hT h40
  have HKD := Lib.hid hk
  clear hk
  have hi := drop_lt he
  obtain ⟨gt, hta, T⟩ := R.at ok hi
  have hl := ok.len
  have c0 := T.c0
  have c1 := T.c1
  have c2 := T.c2
  have c3 := T.c3
  have c4 := T.c4
  have r0 := R.c0
  have r1 := R.c1
  have r5 := R.c5
  rw [show (((0 : Nat) : Nat) : Int) = 0 from rfl] at r5
  rw [hta] at r0
  have hgt : gt < w.heap.size := (R.toks ok).lt hta
  have hg : E.g < w.heap.size := R.rd.lt
  rw [ht] at c0 c1 c2 c3 c4
  have HTT := Lib.hid ht
  clear ht
  have HR := Lib.hid R
  have HK := Lib.hid ok
  have HE := Lib.hid he
  clear hta T R ok he
  go_enter Try.func70, Try.ntmps70
  go_wp2_with (fail)
  go_region_held3 (fun w' => w'.cell? ⟨E.g, 0, none⟩ = some (.slice (some ⟨gt, 0, none⟩) E.toks.length E.tc) ∧ w'.cell? ⟨E.g, 1, none⟩ = some (.int .i64 (i : Nat)) ∧ w'.cell? ⟨gt, i * 5, none⟩ = some (.int .i64 (t.kind : Nat)) ∧ w'.cell? ⟨gt, i * 5 + 1, none⟩ = some (.int .i64 (t.n : Nat)) ∧ w'.cell? ⟨gt, i * 5 + 2, none⟩ = some (.int .i64 (t.line : Nat)) ∧ w'.cell? ⟨gt, i * 5 + 3, none⟩ = some (.int .i64 (t.col : Nat)) ∧ w'.cell? ⟨gt, i * 5 + 4, none⟩ = some (.string (str t.text)))
    (first | go_keep)
    (fail)
  have R8 : RfSt E (w.alloc (.cells #[.int .i64 (t.kind : Nat), .int .i64 (t.n : Nat), .int .i64 (t.line : Nat), .int .i64 (t.col : Nat), .string (str t.text)] 74)).drew i d 0 ns pa pc := (HR.out.alloc HK.out _).drewN 1
  have U8 : Lies (w.alloc (.cells #[.int .i64 (t.kind : Nat), .int .i64 (t.n : Nat), .int .i64 (t.line : Nat), .int .i64 (t.col : Nat), .string (str t.text)] 74)).drew w.heap.size 74 [.int .i64 (t.kind : Nat), .int .i64 (t.n : Nat), .int .i64 (t.line : Nat), .int .i64 (t.col : Nat), .string (str t.text)] := Lies.new w 74 _
  have huE : ¬ w.heap.size = E.g := by omega
  clear c0 c1 c2 c3 c4 r0 r1 r5 hgt hg HR
  go_wp2_with (fail)
  generalize World.drew (w.alloc _) = W8 at R8 U8 ⊢
  generalize w.heap.size = gu at U8 huE ⊢
  have CS := Lib.hid (sign_no E HK.out W8 i d 0 ns pa pc R8 HE.out 40 HT.out)
  have HR8 := Lib.hid R8
  have HU8 := Lib.hid U8
  clear R8 U8 HT
  refine CS.out.mono ?_
  rintro e w9 ⟨rfl, q, rfl⟩
  have R9 := HR8.out.drewN q
  have U9 := HU8.out.drewN q
  clear HR8 CS HU8
  generalize World.drewN _ q = W9 at R9 U9 ⊢
  have u0 : W9.cell? ⟨gu, 0, none⟩ = some (.int .i64 2) := by rw [U9.cell 0]; simp [HKD.out]
  have u1 : W9.cell? ⟨gu, 1, none⟩ = some (.int .i64 (t.n : Nat)) := U9.cell 1
  have x0 : ((t.n : Int) == 0) = false := by simp; omega
  have x1 : ((t.n : Int) == 1) = false := by simp; omega
  have x2 : ¬ (t.n : Int) = 0 := by omega
  have x3 : ¬ (t.n : Int) = 1 := by omega
  have r5 := R9.c5
  have fz := R9.rd.frozen
  have HR9 := Lib.hid R9
  clear R9 U9
  go_wp2
  go_ret
  exact ⟨rfl, pa, pc, HR9.out.set5 HK.out rfl⟩
set_option maxRecDepth 100000 in
set_option maxHeartbeats 4000000 in
theorem atom_bad1 (E : EnvF) (ok : E.Ok) (w : World) (i d : Nat) (ns : List Nd) (pa : Option Addr) (pc : Nat) (R : RfSt E w i d 0 ns pa pc) (he : Ended (E.toks.drop i)) (t : Tok) (ht : ∀ h : i < E.toks.length, E.toks[i] = t) (h40 : ¬ t.text = [40]) (hk : t.kind = 1) (hx : t.text.length ≤ 1000) (hnm : isName keysL t.text = false) (st : Bool) :
    Calls Try.prog 70 #[.pointer (some ⟨E.g, 0, none⟩), .bool st] w (fun e w' => e = .returned (.int .i64 0) ∧ RF E w' i d 2 ns) := by
  have hT : isT 40 (E.toks.drop i) = false := by
    have h := isT_true (c := 40) (drop_lt he)
    rw [ht] at h
    cases hx : isT 40 (E.toks.drop i) with
    | false => rfl
    | true => exact absurd (h.1 hx) h40
  have HT := Lib.hid hT
  clear hT h40
  have HKD := Lib.hid hk
  have CN := Lib.hid (fun W => rname_any t.text W hx)
  rw [hnm] at CN
  clear hk hnm hx
  have hi := drop_lt he
  obtain ⟨gt, hta, T⟩ := R.at ok hi
  have hl := ok.len
  have c0 := T.c0
  have c1 := T.c1
  have c2 := T.c2
  have c3 := T.c3
  have c4 := T.c4
  have r0 := R.c0
  have r1 := R.c1
  have r5 := R.c5
  rw [show (((0 : Nat) : Nat) : Int) = 0 from rfl] at r5
  rw [hta] at r0
  have hgt : gt < w.heap.size := (R.toks ok).lt hta
  have hg : E.g < w.heap.size := R.rd.lt
  rw [ht] at c0 c1 c2 c3 c4
  have HTT := Lib.hid ht
  clear ht
  have HR := Lib.hid R
  have HK := Lib.hid ok
  have HE := Lib.hid he
  clear hta T R ok he
  go_enter Try.func70, Try.ntmps70
  go_wp2_with (fail)
  go_region_held3 (fun w' => w'.cell? ⟨E.g, 0, none⟩ = some (.slice (some ⟨gt, 0, none⟩) E.toks.length E.tc) ∧ w'.cell? ⟨E.g, 1, none⟩ = some (.int .i64 (i : Nat)) ∧ w'.cell? ⟨gt, i * 5, none⟩ = some (.int .i64 (t.kind : Nat)) ∧ w'.cell? ⟨gt, i * 5 + 1, none⟩ = some (.int .i64 (t.n : Nat)) ∧ w'.cell? ⟨gt, i * 5 + 2, none⟩ = some (.int .i64 (t.line : Nat)) ∧ w'.cell? ⟨gt, i * 5 + 3, none⟩ = some (.int .i64 (t.col : Nat)) ∧ w'.cell? ⟨gt, i * 5 + 4, none⟩ = some (.string (str t.text)))
    (first | go_keep)
    (fail)
  have R8 : RfSt E (w.alloc (.cells #[.int .i64 (t.kind : Nat), .int .i64 (t.n : Nat), .int .i64 (t.line : Nat), .int .i64 (t.col : Nat), .string (str t.text)] 74)).drew i d 0 ns pa pc := (HR.out.alloc HK.out _).drewN 1
  have U8 : Lies (w.alloc (.cells #[.int .i64 (t.kind : Nat), .int .i64 (t.n : Nat), .int .i64 (t.line : Nat), .int .i64 (t.col : Nat), .string (str t.text)] 74)).drew w.heap.size 74 [.int .i64 (t.kind : Nat), .int .i64 (t.n : Nat), .int .i64 (t.line : Nat), .int .i64 (t.col : Nat), .string (str t.text)] := Lies.new w 74 _
  have huE : ¬ w.heap.size = E.g := by omega
  clear c0 c1 c2 c3 c4 r0 r1 r5 hgt hg HR
  go_wp2_with (fail)
  generalize World.drew (w.alloc _) = W8 at R8 U8 ⊢
  generalize w.heap.size = gu at U8 huE ⊢
  have CS := Lib.hid (sign_no E HK.out W8 i d 0 ns pa pc R8 HE.out 40 HT.out)
  have HR8 := Lib.hid R8
  have HU8 := Lib.hid U8
  clear R8 U8 HT
  refine CS.out.mono ?_
  rintro e w9 ⟨rfl, q, rfl⟩
  have R9 := HR8.out.drewN q
  have U9 := HU8.out.drewN q
  clear HR8 CS HU8
  generalize World.drewN _ q = W9 at R9 U9 ⊢
  have u0 : W9.cell? ⟨gu, 0, none⟩ = some (.int .i64 1) := by rw [U9.cell 0]; simp [HKD.out]
  have u4 : W9.cell? ⟨gu, 4, none⟩ = some (.string (str t.text)) := U9.cell 4
  have HR9 := Lib.hid R9
  clear R9 U9
  go_wp2_with (fail)
  refine (CN.out _).mono ?_
  rintro e w10 ⟨rfl, b⟩
  have R10 := HR9.out.below HK.out b
  have r5 := R10.c5
  have fz := R10.rd.frozen
  have HR10 := Lib.hid R10
  clear HR9 R10 b u0 u4
  go_wp2
  go_ret
  exact ⟨rfl, pa, pc, HR10.out.set5 HK.out rfl⟩
set_option maxRecDepth 100000 in
set_option maxHeartbeats 4000000 in
theorem atom_bad (E : EnvF) (ok : E.Ok) (w : World) (i d : Nat) (ns : List Nd) (pa : Option Addr) (pc : Nat) (R : RfSt E w i d 0 ns pa pc) (he : Ended (E.toks.drop i)) (t : Tok) (ht : ∀ h : i < E.toks.length, E.toks[i] = t) (h40 : ¬ t.text = [40]) (hk : ¬ t.kind = 2) (hk1 : ¬ t.kind = 1) (st : Bool) :
    Calls Try.prog 70 #[.pointer (some ⟨E.g, 0, none⟩), .bool st] w (fun e w' => e = .returned (.int .i64 0) ∧ RF E w' i d 2 ns) := by
  have hT : isT 40 (E.toks.drop i) = false := by
    have h := isT_true (c := 40) (drop_lt he)
    rw [ht] at h
    cases hx : isT 40 (E.toks.drop i) with
    | false => rfl
    | true => exact absurd (h.1 hx) h40
  have HT := Lib.hid hT
  clear hT h40
  have hi := drop_lt he
  obtain ⟨gt, hta, T⟩ := R.at ok hi
  have hl := ok.len
  have c0 := T.c0
  have c1 := T.c1
  have c2 := T.c2
  have c3 := T.c3
  have c4 := T.c4
  have r0 := R.c0
  have r1 := R.c1
  have r5 := R.c5
  rw [show (((0 : Nat) : Nat) : Int) = 0 from rfl] at r5
  rw [hta] at r0
  have hgt : gt < w.heap.size := (R.toks ok).lt hta
  have hg : E.g < w.heap.size := R.rd.lt
  rw [ht] at c0 c1 c2 c3 c4
  have HTT := Lib.hid ht
  clear ht
  have HR := Lib.hid R
  have HK := Lib.hid ok
  have HE := Lib.hid he
  clear hta T R ok he
  go_enter Try.func70, Try.ntmps70
  go_wp2_with (fail)
  go_region_held3 (fun w' => w'.cell? ⟨E.g, 0, none⟩ = some (.slice (some ⟨gt, 0, none⟩) E.toks.length E.tc) ∧ w'.cell? ⟨E.g, 1, none⟩ = some (.int .i64 (i : Nat)) ∧ w'.cell? ⟨gt, i * 5, none⟩ = some (.int .i64 (t.kind : Nat)) ∧ w'.cell? ⟨gt, i * 5 + 1, none⟩ = some (.int .i64 (t.n : Nat)) ∧ w'.cell? ⟨gt, i * 5 + 2, none⟩ = some (.int .i64 (t.line : Nat)) ∧ w'.cell? ⟨gt, i * 5 + 3, none⟩ = some (.int .i64 (t.col : Nat)) ∧ w'.cell? ⟨gt, i * 5 + 4, none⟩ = some (.string (str t.text)))
    (first | go_keep)
    (fail)
  have R8 : RfSt E (w.alloc (.cells #[.int .i64 (t.kind : Nat), .int .i64 (t.n : Nat), .int .i64 (t.line : Nat), .int .i64 (t.col : Nat), .string (str t.text)] 74)).drew i d 0 ns pa pc := (HR.out.alloc HK.out _).drewN 1
  have U8 : Lies (w.alloc (.cells #[.int .i64 (t.kind : Nat), .int .i64 (t.n : Nat), .int .i64 (t.line : Nat), .int .i64 (t.col : Nat), .string (str t.text)] 74)).drew w.heap.size 74 [.int .i64 (t.kind : Nat), .int .i64 (t.n : Nat), .int .i64 (t.line : Nat), .int .i64 (t.col : Nat), .string (str t.text)] := Lies.new w 74 _
  have huE : ¬ w.heap.size = E.g := by omega
  clear c0 c1 c2 c3 c4 r0 r1 r5 hgt hg HR
  go_wp2_with (fail)
  generalize World.drew (w.alloc _) = W8 at R8 U8 ⊢
  generalize w.heap.size = gu at U8 huE ⊢
  have CS := Lib.hid (sign_no E HK.out W8 i d 0 ns pa pc R8 HE.out 40 HT.out)
  have HR8 := Lib.hid R8
  have HU8 := Lib.hid U8
  clear R8 U8 HT
  refine CS.out.mono ?_
  rintro e w9 ⟨rfl, q, rfl⟩
  have R9 := HR8.out.drewN q
  have U9 := HU8.out.drewN q
  clear HR8 CS HU8
  generalize World.drewN _ q = W9 at R9 U9 ⊢
  have u0 : W9.cell? ⟨gu, 0, none⟩ = some (.int .i64 (t.kind : Nat)) := U9.cell 0
  have x0 : ((t.kind : Int) == 2) = false := by simp; omega
  have x1 : ((t.kind : Int) == 1) = false := by simp; omega
  have x2 : ¬ (t.kind : Int) = 2 := by omega
  have x3 : ¬ (t.kind : Int) = 1 := by omega
  have r5 := R9.c5
  have fz := R9.rd.frozen
  have HR9 := Lib.hid R9
  clear R9 U9
  go_wp2
  go_ret
  exact ⟨rfl, pa, pc, HR9.out.set5 HK.out rfl⟩

theorem atom_rest (E : EnvF) (ok : E.Ok) (w : World) (i d : Nat) (ns : List Nd) (pa : Option Addr) (pc : Nat) (R : RfSt E w i d 0 ns pa pc) (he : Ended (E.toks.drop i)) (hn : ns.length ≤ i) (br : List Tok → List Nd → Out) (h40 : ∀ h : i < E.toks.length, ¬ (E.toks[i]).text = [40]) (st : Bool) :
    Calls Try.prog 70 #[.pointer (some ⟨E.g, 0, none⟩), .bool st] w (RetF E (singleP keysL E.nm br (E.toks.drop i) ns) d i ns.length) := by
  have hi := drop_lt he
  have hl := ok.len
  have he0 := he
  rw [drop_cons hi] at he ⊢
  have hx := text_len he
  unfold singleP
  simp only
  rw [if_neg (h40 hi)]
  by_cases h48 : (E.toks[i]).text = [48]
  · rw [if_pos h48]
    have hk := dig_kind he h48 rfl
    have hv := (kind_num he hk).2.1.2 h48
    refine (atom_zero E ok w i d ns pa pc R he0 _ (fun _ => rfl) (h40 hi) hk hv hn st).mono ?_
    rintro e w' ⟨rfl, r⟩
    exact RetF.ok (by simp) rfl (drop_lt (he.tail (by rw [h48]; simp)).1) r
  rw [if_neg h48]
  by_cases h49 : (E.toks[i]).text = [49]
  · rw [if_pos h49]
    have hk := dig_kind he h49 rfl
    have hv := (kind_num he hk).2.2.2 h49
    refine (atom_one E ok w i d ns pa pc R he0 _ (fun _ => rfl) (h40 hi) hk hv hn st).mono ?_
    rintro e w' ⟨rfl, r⟩
    exact RetF.ok (by simp) rfl (drop_lt (he.tail (by rw [h49]; simp)).1) r
  rw [if_neg h49]
  by_cases hm : isName keysL (E.toks[i]).text = true
  · rw [if_pos hm]
    have hk := name_kind he hm
    have hne : (E.toks[i]).text ≠ [] := by intro e; rw [e] at hm; simp [isName, isWord] at hm
    exact atom_name E ok w i d ns pa pc R he0 _ (fun _ => rfl) (h40 hi) hk (by omega) hm (he.tail hne).1 hn st
  rw [if_neg hm]
  have hm : isName keysL (E.toks[i]).text = false := by simpa using hm
  have fin : ∀ e w', (e = .returned (.int .i64 0) ∧ RF E w' i d 2 ns) → RetF E (.bad 2) d i ns.length e w' := by
    rintro e w' ⟨rfl, r⟩
    exact RetF.bad r (Nat.le_refl _) (by omega)
  by_cases hk2 : (E.toks[i]).kind = 2
  · exact (atom_bad2 E ok w i d ns pa pc R he0 _ (fun _ => rfl) (h40 hi) hk2 (fun h => h48 ((kind_num he hk2).2.1.1 h)) (fun h => h49 ((kind_num he hk2).2.2.1 h)) st).mono fin
  by_cases hk1 : (E.toks[i]).kind = 1
  · exact (atom_bad1 E ok w i d ns pa pc R he0 _ (fun _ => rfl) (h40 hi) hk1 (by omega) hm st).mono fin
  · exact (atom_bad E ok w i d ns pa pc R he0 _ (fun _ => rfl) (h40 hi) hk2 hk1 st).mono fin
end Go.Proofs.Ytkdejinhjdkkmaa

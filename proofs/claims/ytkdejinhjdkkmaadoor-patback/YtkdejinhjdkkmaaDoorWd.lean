/- Contracts of the writer's part and node: the text of a node; the condition: the writer lies there, the nodes are a pattern, and there is room. -/
import Derived.Test.YtkdejinhjdkkmaaDoorWc
import Derived.Test.YtkdejinhjdkkmaaDoorCe
namespace Go.Proofs.YtkdejinhjdkkmaaDoor
open Go.ChangeShapes Go.WideShapes Go.ChangeAt Go.RowKit Go.Maps

/-- What a call that writes comes to. -/
def WP (E : WEnv) (w : World) (l : Txt) (e : Ending) (w' : World) : Prop := e = .returned (.tuple #[]) ∧ WS E w' l ∧ Others w w'
/-- The kinds that are put in brackets. -/
def Brs (w : World) (ba : Option Addr) (bn : Nat) (brs : List Int) : Prop := (brs = [] ∧ bn = 0) ∨ ∃ g, ba = some ⟨g, 0, none⟩ ∧ bn = brs.length ∧ Lies w g 3 (ints brs) ∧ brs.length ≤ 10
theorem contains_any (ba : Option Addr) (bn bc : Nat) (brs : List Int) (x : Int) (w : World) (h : Brs w ba bn brs) :
    Calls Tryd.prog 37 #[.slice ba bn bc, .int .i64 x] w fun e w' => e = .returned (.bool (brs.contains x)) ∧ w = w' := by
  rcases h with ⟨rfl, rfl⟩ | ⟨g, rfl, rfl, L, hl⟩
  · refine (Tryd.slices_Contains_int_empty ba bc x w).mono ?_
    rintro e w' ⟨rfl, h⟩
    exact ⟨rfl, h.symm⟩
  · refine (Tryd.slices_Contains_int g 0 brs.length bc brs x w (Nat.le_refl _) (by omega) (fun j hj => ?_)).mono ?_
    · rw [Nat.zero_add, L.cell]
      simp [ints, List.getD, hj]
    · rintro e w' ⟨rfl, h⟩
      rw [List.take_length]
      exact ⟨rfl, h.symm⟩
def NodeC (E : WEnv) (i : Nat) : Prop := ∀ w l, WS E w l → l.length + (textAt E.nm E.ns i).length ≤ 140737488355328 → Calls Tryd.prog 38 #[.pointer (some ⟨E.g, 0, none⟩), ndV (E.ns.getD i noNd)] w (WP E w (l ++ textAt E.nm E.ns i))
def PartC (E : WEnv) (i : Nat) : Prop := ∀ w l ba bn bc brs, WS E w l → Brs w ba bn brs → l.length + (wrapT (brs.contains (kindAt E.ns i)) (textAt E.nm E.ns i)).length ≤ 140737488355328 →
  Calls Tryd.prog 19 #[.pointer (some ⟨E.g, 0, none⟩), .int .i64 (i : Nat), .slice ba bn bc] w (WP E w (l ++ wrapT (brs.contains (kindAt E.ns i)) (textAt E.nm E.ns i)))
theorem WS.nodes {E : WEnv} {w : World} {l : Txt} (h : WS E w l) (ok : E.Ok) {i : Nat} (hi : i < E.ns.length) : ∃ b off, E.pa = some ⟨b, off, none⟩ ∧ NdAt w b (off + i * 5) E.ns[i] := by
  obtain ⟨p, ba, bc, h⟩ := h
  obtain ⟨b, off, e, n, _⟩ := h.nodes ok i hi
  exact ⟨b, off, e, n⟩
theorem WS.c0 {E : WEnv} {w : World} {l : Txt} (h : WS E w l) : w.cell? ⟨E.g, 0, none⟩ = some (.slice E.pa E.ns.length E.pc) := by
  obtain ⟨p, ba, bc, h⟩ := h
  exact h.c0

set_option maxHeartbeats 4000000 in
set_option maxRecDepth 100000 in
theorem part_of_node (E : WEnv) (ok : E.Ok) (i : Nat) (hi : i < E.ns.length) (hc : NodeC E i) : PartC E i := by
  intro w l ba bn bc brs R hb hl
  have hlen := ok.len
  have hnd : E.ns.getD i noNd = E.ns[i] := by simp [List.getD, hi]
  have hk : kindAt E.ns i = (E.ns[i]).kind := by unfold kindAt; simp [hi]
  unfold NodeC at hc
  rw [hnd] at hc
  obtain ⟨b, off, hpa, N⟩ := R.nodes ok hi
  have c0 := R.c0
  rw [hpa] at c0
  have n0 := N.c0
  have n1 := N.c1
  have n2 := N.c2
  have n3 := N.c3
  have n4 := N.c4
  rw [hk] at hl ⊢
  have CB := Lib.hid (contains_any ba bn bc brs (E.ns[i]).kind w hb)
  have HN : Hid (∀ W l', WS E W l' → ∃ (_ : W.cell? ⟨E.g, 0, none⟩ = some (.slice (some ⟨b, off, none⟩) E.ns.length E.pc)), NdAt W b (off + i * 5) E.ns[i]) := Lib.hid (fun W l' h => by
    obtain ⟨b', off', e', N'⟩ := h.nodes ok hi
    rw [hpa] at e'
    injection e' with e'; injection e' with e1 e2
    subst e1 e2
    have := h.c0
    rw [hpa] at this
    exact ⟨this, N'⟩)
  have HR := Lib.hid R
  have HC := Lib.hid hc
  have HK := Lib.hid ok
  unfold ndV at HC
  generalize E.ns[i] = x at *
  generalize textAt E.nm E.ns i = T at *
  generalize E.ns.length = n at *
  clear R hc ok N hpa hb hnd hk
  cases hcc : brs.contains x.kind with
  | false =>
    rw [hcc] at CB hl
    have CN := Lib.hid (HC.out w l HR.out hl)
    clear hcc hl
    go_enter Tryd.func19, Tryd.ntmps19
    go_wp2_with (fail)
    refine CB.out.mono ?_
    rintro e w1 ⟨rfl, rfl⟩
    go_wp2_with (fail)
    refine CN.out.mono ?_
    rintro e w2 ⟨rfl, R2, O2⟩
    have HR2 := Lib.hid R2
    have HO2 := Lib.hid O2
    clear R2 O2 CN
    go_wp2
    go_end0
    exact ⟨rfl, HR2.out, HO2.out⟩
  | true =>
    rw [hcc] at CB hl
    have hl' : l.length + (T.length + 1 + 1) ≤ 140737488355328 := by simpa [wrapT] using hl
    have CW := Lib.hid (wbyte_any E HK.out w l HR.out 40 (by omega))
    clear hcc hl
    go_enter Tryd.func19, Tryd.ntmps19
    go_wp2_with (fail)
    refine CB.out.mono ?_
    rintro e w1 ⟨rfl, rfl⟩
    go_wp2_with (fail)
    refine CW.out.mono ?_
    rintro e w2 ⟨rfl, R2, O2⟩
    obtain ⟨d0, N2⟩ := HN.out w2 _ R2
    have CN := Lib.hid (HC.out w2 _ R2 (by rw [List.length_append]; show l.length + 1 + _ ≤ _; omega))
    have HO2 := Lib.hid O2
    have HR2 := Lib.hid R2
    clear R2 O2 CW n0 n1 n2 n3 n4 c0
    have n0 := N2.c0
    have n1 := N2.c1
    have n2 := N2.c2
    have n3 := N2.c3
    have n4 := N2.c4
    clear N2
    go_wp2_with (fail)
    refine CN.out.mono ?_
    rintro e w3 ⟨rfl, R3, O3⟩
    have CW3 := Lib.hid (wbyte_any E HK.out w3 _ R3 41 (by rw [List.length_append, List.length_append]; show l.length + 1 + _ + 1 ≤ _; omega))
    have HO3 := Lib.hid (HO2.out.trans O3)
    clear R3 O3 CN
    go_wp2_with (fail)
    refine CW3.out.mono ?_
    rintro e w4 ⟨rfl, R4, O4⟩
    have HR4 := Lib.hid R4
    have HO4 := Lib.hid (HO3.out.trans O4)
    clear R4 O4 CW3
    go_wp2
    go_end0
    refine ⟨rfl, ?_, HO4.out⟩
    have e : l ++ wrapT true T = l ++ [40] ++ T ++ [41] := by simp [wrapT]
    rw [e]
    exact HR4.out

set_option maxHeartbeats 4000000 in
set_option maxRecDepth 100000 in
theorem node_1 (E : WEnv) (ok : E.Ok) (w : World) (l : Txt) (R : WS E w l) (x : Nd) (hk : x.kind = 1) (hl : l.length + 1 ≤ 140737488355328) :
    Calls Tryd.prog 38 #[.pointer (some ⟨E.g, 0, none⟩), ndV x] w (WP E w (l ++ [48])) := by
  obtain ⟨p, ba, bc, R⟩ := R
  have R1 := R.alloc ok (.cells #[.int .i64 1, .int .i64 x.a, .int .i64 x.b, .int .i64 x.n, .string x.name] 45)
  have CW := Lib.hid (wbyte_any E ok _ l ⟨p, ba, bc, R1⟩ 48 hl)
  unfold ndV
  rw [hk]
  clear R R1 hk ok
  go_enter Tryd.func38, Tryd.ntmps38
  go_wp2_with (fail)
  refine CW.out.mono ?_
  rintro e w2 ⟨rfl, R2, O2⟩
  have HR2 := Lib.hid R2
  have HO2 := Lib.hid (((Others.refl w).alloc _).trans O2)
  clear R2 O2 CW
  go_wp2
  go_end0
  exact ⟨rfl, HR2.out, HO2.out⟩

set_option maxHeartbeats 4000000 in
set_option maxRecDepth 100000 in
theorem node_2 (E : WEnv) (ok : E.Ok) (w : World) (l : Txt) (R : WS E w l) (x : Nd) (hk : x.kind = 2) (hl : l.length + 1 ≤ 140737488355328) :
    Calls Tryd.prog 38 #[.pointer (some ⟨E.g, 0, none⟩), ndV x] w (WP E w (l ++ [49])) := by
  obtain ⟨p, ba, bc, R⟩ := R
  have R1 := R.alloc ok (.cells #[.int .i64 2, .int .i64 x.a, .int .i64 x.b, .int .i64 x.n, .string x.name] 45)
  have CW := Lib.hid (wbyte_any E ok _ l ⟨p, ba, bc, R1⟩ 49 hl)
  unfold ndV
  rw [hk]
  clear R R1 hk ok
  go_enter Tryd.func38, Tryd.ntmps38
  go_wp2_with (fail)
  refine CW.out.mono ?_
  rintro e w2 ⟨rfl, R2, O2⟩
  have HR2 := Lib.hid R2
  have HO2 := Lib.hid (((Others.refl w).alloc _).trans O2)
  clear R2 O2 CW
  go_wp2
  go_end0
  exact ⟨rfl, HR2.out, HO2.out⟩

set_option maxHeartbeats 4000000 in
set_option maxRecDepth 100000 in
theorem node_3 (E : WEnv) (ok : E.Ok) (w : World) (l : Txt) (R : WS E w l) (x : Nd) (hk : x.kind = 3) (hn0 : 0 ≤ x.n) (hn1 : x.n < E.nm.length) (ha0 : 1 ≤ x.a) (ha1 : x.a ≤ 999999999) (hl : l.length + (tagT E.nm x).length ≤ 140737488355328) :
    Calls Tryd.prog 38 #[.pointer (some ⟨E.g, 0, none⟩), ndV x] w (WP E w (l ++ tagT E.nm x)) := by
  obtain ⟨p, ba, bc, R⟩ := R
  have R1 := R.alloc ok (.cells #[.int .i64 3, .int .i64 x.a, .int .i64 x.b, .int .i64 x.n, .string x.name] 45)
  have CW := wtag_any E ok _ l ⟨p, ba, bc, R1⟩ x hn0 hn1 ha0 ha1 hl
  unfold ndV at CW ⊢
  rw [hk] at CW ⊢
  have CW := Lib.hid CW
  clear R R1 hk ok hn0 hn1 ha0 ha1
  generalize tagT E.nm x = T at *
  go_enter Tryd.func38, Tryd.ntmps38
  go_wp2_with (fail)
  refine CW.out.mono ?_
  rintro e w2 ⟨rfl, R2, O2⟩
  have HR2 := Lib.hid R2
  have HO2 := Lib.hid (((Others.refl w).alloc _).trans O2)
  clear R2 O2 CW
  go_wp2
  go_end0
  exact ⟨rfl, HR2.out, HO2.out⟩

set_option maxHeartbeats 4000000 in
set_option maxRecDepth 100000 in
theorem node_4 (E : WEnv) (ok : E.Ok) (w : World) (l : Txt) (R : WS E w l) (x : Nd) (hk : x.kind = 4) (ja jb : Nat) (ha : x.a = (ja : Int)) (hb : x.b = (jb : Int)) (_hja : ja ≤ 24) (_hjb : jb ≤ 24) (ca : PartC E ja) (cb : PartC E jb) (Ta Tb : Txt) (hTa : Ta = wrapT (([] : List Int).contains (kindAt E.ns ja)) (textAt E.nm E.ns ja)) (hTb : Tb = wrapT (([4] : List Int).contains (kindAt E.ns jb)) (textAt E.nm E.ns jb)) (hl : l.length + (Ta.length + 3 + Tb.length) ≤ 140737488355328) :
    Calls Tryd.prog 38 #[.pointer (some ⟨E.g, 0, none⟩), ndV x] w (WP E w (l ++ (Ta ++ ([32, 43, 32] ++ Tb)))) := by
  obtain ⟨p, ba, bc, R⟩ := R
  have R1 := R.alloc ok (.cells #[.int .i64 4, .int .i64 (ja : Nat), .int .i64 (jb : Nat), .int .i64 x.n, .string x.name] 45)
  have L1 := Lies.new w 45 [.int .i64 4, .int .i64 (ja : Nat), .int .i64 (jb : Nat), .int .i64 x.n, .string x.name]
  have HO1 := Lib.hid ((Others.refl w).alloc (.cells #[.int .i64 4, .int .i64 (ja : Nat), .int .i64 (jb : Nat), .int .i64 x.n, .string x.name] 45))
  have HR1 := Lib.hid R1
  have HL1 := Lib.hid L1
  have HK := Lib.hid ok
  have HA : Hid (∀ W l' ba bn bc, WS E W l' → Brs W ba bn [] → l'.length + Ta.length ≤ 140737488355328 → Calls Tryd.prog 19 #[.pointer (some ⟨E.g, 0, none⟩), .int .i64 (ja : Nat), .slice ba bn bc] W (WP E W (l' ++ Ta))) := Lib.hid (fun W l' ba bn bc h1 h2 h3 => by rw [hTa] at h3 ⊢; exact ca W l' ba bn bc _ h1 h2 h3)
  have HB : Hid (∀ W l' ba bn bc, WS E W l' → Brs W ba bn [4] → l'.length + Tb.length ≤ 140737488355328 → Calls Tryd.prog 19 #[.pointer (some ⟨E.g, 0, none⟩), .int .i64 (jb : Nat), .slice ba bn bc] W (WP E W (l' ++ Tb))) := Lib.hid (fun W l' ba bn bc h1 h2 h3 => by rw [hTb] at h3 ⊢; exact cb W l' ba bn bc _ h1 h2 h3)
  unfold ndV
  rw [hk, ha, hb]
  clear R R1 L1 ok hk ha hb ca cb hTa hTb
  generalize x.n = xn at *
  generalize x.name = xs at *
  have CA := Lib.hid (HA.out _ l none 0 0 ⟨p, ba, bc, HR1.out⟩ (.inl ⟨rfl, rfl⟩) (by omega))
  go_enter Tryd.func38, Tryd.ntmps38
  go_wp2_with (fail)
  refine CA.out.mono ?_
  rintro e w2 ⟨rfl, R2, O2⟩
  have O2' := O2
  have L2 := O2' _ _ _ (by decide) (by decide) HL1.out
  have HO2 := Lib.hid (HO1.out.trans O2')
  have CS := Lib.hid (wstring_any E HK.out w2 _ R2 [32, 43, 32] (by rw [List.length_append]; show l.length + Ta.length + 3 ≤ _; omega))
  have HL2 := Lib.hid L2
  clear R2 O2 O2' L2 CA HA HL1 HO1 HR1
  generalize w.heap.size = gb at HL2 ⊢
  go_wp2_with (fail)
  refine CS.out.mono ?_
  rintro e w3 ⟨rfl, R3, O3⟩
  have L3 := O3 _ _ _ (by decide) (by decide) HL2.out
  have HO3 := Lib.hid (HO2.out.trans O3)
  have m2 := L3.cell 2
  simp only [List.getElem?_cons_zero, List.getElem?_cons_succ] at m2
  have hgb : gb < w3.heap.size := L3.lt
  obtain ⟨p3, ba3, bc3, R3⟩ := R3
  have CB := Lib.hid (HB.out _ _ (some ⟨w3.heap.size, 0, none⟩) 1 1 ⟨p3, ba3, bc3, R3.alloc HK.out (.cells #[.int .i64 4] 3)⟩ (.inr ⟨w3.heap.size, rfl, rfl, Lies.new w3 3 _, by decide⟩) (by rw [List.length_append, List.length_append]; show l.length + Ta.length + 3 + Tb.length ≤ _; omega))
  clear R3 O3 L3 CS HL2 HB
  go_wp2_with (fail)
  refine CB.out.mono ?_
  rintro e w4 ⟨rfl, R4, O4⟩
  have HR4 := Lib.hid R4
  have HO4 := Lib.hid (HO3.out.trans (((Others.refl w3).alloc _).trans O4))
  clear R4 O4 CB
  go_wp2
  go_end0
  refine ⟨rfl, ?_, HO4.out⟩
  have e : l ++ Ta ++ [32, 43, 32] ++ Tb = l ++ (Ta ++ ([32, 43, 32] ++ Tb)) := by simp
  have h := HR4.out
  rw [e] at h
  exact h

set_option maxHeartbeats 4000000 in
set_option maxRecDepth 100000 in
theorem node_5 (E : WEnv) (ok : E.Ok) (w : World) (l : Txt) (R : WS E w l) (x : Nd) (hk : x.kind = 5) (ja jb : Nat) (ha : x.a = (ja : Int)) (hb : x.b = (jb : Int)) (_hja : ja ≤ 24) (_hjb : jb ≤ 24) (ca : PartC E ja) (cb : PartC E jb) (Ta Tb : Txt) (hTa : Ta = wrapT (([4] : List Int).contains (kindAt E.ns ja)) (textAt E.nm E.ns ja)) (hTb : Tb = wrapT (([4, 5] : List Int).contains (kindAt E.ns jb)) (textAt E.nm E.ns jb)) (hl : l.length + (Ta.length + 3 + Tb.length) ≤ 140737488355328) :
    Calls Tryd.prog 38 #[.pointer (some ⟨E.g, 0, none⟩), ndV x] w (WP E w (l ++ (Ta ++ ([32, 46, 32] ++ Tb)))) := by
  obtain ⟨p, ba, bc, R⟩ := R
  have R1 := R.alloc ok (.cells #[.int .i64 5, .int .i64 (ja : Nat), .int .i64 (jb : Nat), .int .i64 x.n, .string x.name] 45)
  have L1 := Lies.new w 45 [.int .i64 5, .int .i64 (ja : Nat), .int .i64 (jb : Nat), .int .i64 x.n, .string x.name]
  have HO1 := Lib.hid ((Others.refl w).alloc (.cells #[.int .i64 5, .int .i64 (ja : Nat), .int .i64 (jb : Nat), .int .i64 x.n, .string x.name] 45))
  have HR1 := Lib.hid R1
  have HL1 := Lib.hid L1
  have HK := Lib.hid ok
  have HA : Hid (∀ W l' ba bn bc, WS E W l' → Brs W ba bn [4] → l'.length + Ta.length ≤ 140737488355328 → Calls Tryd.prog 19 #[.pointer (some ⟨E.g, 0, none⟩), .int .i64 (ja : Nat), .slice ba bn bc] W (WP E W (l' ++ Ta))) := Lib.hid (fun W l' ba bn bc h1 h2 h3 => by rw [hTa] at h3 ⊢; exact ca W l' ba bn bc _ h1 h2 h3)
  have HB : Hid (∀ W l' ba bn bc, WS E W l' → Brs W ba bn [4, 5] → l'.length + Tb.length ≤ 140737488355328 → Calls Tryd.prog 19 #[.pointer (some ⟨E.g, 0, none⟩), .int .i64 (jb : Nat), .slice ba bn bc] W (WP E W (l' ++ Tb))) := Lib.hid (fun W l' ba bn bc h1 h2 h3 => by rw [hTb] at h3 ⊢; exact cb W l' ba bn bc _ h1 h2 h3)
  unfold ndV
  rw [hk, ha, hb]
  clear R R1 L1 ok hk ha hb ca cb hTa hTb
  generalize x.n = xn at *
  generalize x.name = xs at *
  have hz : (w.alloc (.cells #[.int .i64 5, .int .i64 (ja : Nat), .int .i64 (jb : Nat), .int .i64 xn, .string xs] 45)).heap.size = w.heap.size + 1 := by simp
  have CA := Lib.hid (HA.out _ l (some ⟨w.heap.size + 1, 0, none⟩) 1 1 ⟨p, ba, bc, HR1.out.alloc HK.out (.cells #[.int .i64 4] 3)⟩ (.inr ⟨w.heap.size + 1, rfl, rfl, Lies.newAt _ 3 _ hz.symm, by decide⟩) (by omega))
  clear hz
  go_enter Tryd.func38, Tryd.ntmps38
  go_wp2_with (fail)
  refine CA.out.mono ?_
  rintro e w2 ⟨rfl, R2, O2⟩
  have O2' := ((Others.refl _).alloc _).trans O2
  have L2 := O2' _ _ _ (by decide) (by decide) HL1.out
  have HO2 := Lib.hid (HO1.out.trans O2')
  have CS := Lib.hid (wstring_any E HK.out w2 _ R2 [32, 46, 32] (by rw [List.length_append]; show l.length + Ta.length + 3 ≤ _; omega))
  have HL2 := Lib.hid L2
  clear R2 O2 O2' L2 CA HA HL1 HO1 HR1
  generalize w.heap.size = gb at HL2 ⊢
  go_wp2_with (fail)
  refine CS.out.mono ?_
  rintro e w3 ⟨rfl, R3, O3⟩
  have L3 := O3 _ _ _ (by decide) (by decide) HL2.out
  have HO3 := Lib.hid (HO2.out.trans O3)
  have m2 := L3.cell 2
  simp only [List.getElem?_cons_zero, List.getElem?_cons_succ] at m2
  have hgb : gb < w3.heap.size := L3.lt
  obtain ⟨p3, ba3, bc3, R3⟩ := R3
  have CB := Lib.hid (HB.out _ _ (some ⟨w3.heap.size, 0, none⟩) 2 2 ⟨p3, ba3, bc3, R3.alloc HK.out (.cells #[.int .i64 4, .int .i64 5] 3)⟩ (.inr ⟨w3.heap.size, rfl, rfl, Lies.new w3 3 _, by decide⟩) (by rw [List.length_append, List.length_append]; show l.length + Ta.length + 3 + Tb.length ≤ _; omega))
  clear R3 O3 L3 CS HL2 HB
  go_wp2_with (fail)
  refine CB.out.mono ?_
  rintro e w4 ⟨rfl, R4, O4⟩
  have HR4 := Lib.hid R4
  have HO4 := Lib.hid (HO3.out.trans (((Others.refl w3).alloc _).trans O4))
  clear R4 O4 CB
  go_wp2
  go_end0
  refine ⟨rfl, ?_, HO4.out⟩
  have e : l ++ Ta ++ [32, 46, 32] ++ Tb = l ++ (Ta ++ ([32, 46, 32] ++ Tb)) := by simp
  have h := HR4.out
  rw [e] at h
  exact h

set_option maxHeartbeats 4000000 in
set_option maxRecDepth 100000 in
theorem node_6 (E : WEnv) (ok : E.Ok) (w : World) (l : Txt) (R : WS E w l) (x : Nd) (hk : x.kind = 6) (ja : Nat) (ha : x.a = (ja : Int)) (_hja : ja ≤ 24) (ca : PartC E ja) (Ta : Txt) (hTa : Ta = wrapT (([4, 5] : List Int).contains (kindAt E.ns ja)) (textAt E.nm E.ns ja)) (hl : l.length + (Ta.length + 1) ≤ 140737488355328) :
    Calls Tryd.prog 38 #[.pointer (some ⟨E.g, 0, none⟩), ndV x] w (WP E w (l ++ (42 :: Ta))) := by
  obtain ⟨p, ba, bc, R⟩ := R
  have R1 := R.alloc ok (.cells #[.int .i64 6, .int .i64 (ja : Nat), .int .i64 x.b, .int .i64 x.n, .string x.name] 45)
  have L1 := Lies.new w 45 [.int .i64 6, .int .i64 (ja : Nat), .int .i64 x.b, .int .i64 x.n, .string x.name]
  have CW := Lib.hid (wbyte_any E ok _ l ⟨p, ba, bc, R1⟩ 42 (by omega))
  have HK := Lib.hid ok
  have HL1 := Lib.hid L1
  have HA : Hid (∀ W l' ba bn bc, WS E W l' → Brs W ba bn [4, 5] → l'.length + Ta.length ≤ 140737488355328 → Calls Tryd.prog 19 #[.pointer (some ⟨E.g, 0, none⟩), .int .i64 (ja : Nat), .slice ba bn bc] W (WP E W (l' ++ Ta))) := Lib.hid (fun W l' ba bn bc h1 h2 h3 => by rw [hTa] at h3 ⊢; exact ca W l' ba bn bc _ h1 h2 h3)
  unfold ndV
  rw [hk, ha]
  clear R R1 L1 ok hk ha ca hTa
  generalize x.n = xn at *
  generalize x.b = xb at *
  generalize x.name = xs at *
  go_enter Tryd.func38, Tryd.ntmps38
  go_wp2_with (fail)
  refine CW.out.mono ?_
  rintro e w2 ⟨rfl, R2, O2⟩
  have L2 := O2 _ _ _ (by decide) (by decide) HL1.out
  have HO2 := Lib.hid (((Others.refl w).alloc _).trans O2)
  have m1 := L2.cell 1
  simp only [List.getElem?_cons_zero, List.getElem?_cons_succ] at m1
  have hgb := L2.lt
  obtain ⟨p2, ba2, bc2, R2⟩ := R2
  have CA := Lib.hid (HA.out _ _ (some ⟨w2.heap.size, 0, none⟩) 2 2 ⟨p2, ba2, bc2, R2.alloc HK.out (.cells #[.int .i64 4, .int .i64 5] 3)⟩ (.inr ⟨w2.heap.size, rfl, rfl, Lies.new w2 3 _, by decide⟩) (by rw [List.length_append]; show l.length + 1 + _ ≤ _; omega))
  clear R2 O2 L2 CW HL1 HA
  generalize w.heap.size = gb at m1 hgb ⊢
  go_wp2_with (fail)
  refine CA.out.mono ?_
  rintro e w3 ⟨rfl, R3, O3⟩
  have HR3 := Lib.hid R3
  have HO3 := Lib.hid (HO2.out.trans (((Others.refl w2).alloc _).trans O3))
  clear R3 O3 CA
  go_wp2
  go_end0
  refine ⟨rfl, ?_, HO3.out⟩
  have e : l ++ (42 :: Ta) = l ++ [42] ++ Ta := by simp
  rw [e]
  exact HR3.out

theorem con4 (k : Int) : ([4] : List Int).contains k = (k == 4) := by show (k == 4 || false) = _; rw [Bool.or_false]
theorem con45 (k : Int) : ([4, 5] : List Int).contains k = (k == 4 || k == 5) := by show (k == 4 || (k == 5 || false)) = _; rw [Bool.or_false]
theorem kindAt_nat (ns : List Nd) (z : Int) (h : 0 ≤ z) : kindAt ns z = kindAt ns (z.toNat : Int) := by rw [show ((z.toNat : Nat) : Int) = z by omega]
theorem node_all (E : WEnv) (ok : E.Ok) (hw : ∀ j (h : j < E.ns.length), wfN (E.nm.length : Int) j E.ns[j]) : ∀ i, i < E.ns.length → NodeC E i := by
  intro i
  induction i using Nat.strongRecOn with
  | _ i ih =>
    intro hi w l R hl
    have hlen := ok.len
    have h := hw i hi
    have hnd : E.ns.getD i noNd = E.ns[i] := by simp [List.getD, hi]
    have hp : ∀ j, j < i → PartC E j := fun j hj => part_of_node E ok j (by omega) (ih j hj (by omega))
    rw [hnd]
    rw [textAt_eq hi h] at hl ⊢
    generalize E.ns[i] = x at h hl ⊢
    unfold nodeT at hl ⊢
    rcases h with h | ⟨h, h1, h2, h3, h4⟩ | ⟨h, h1, h2, h3, h4⟩ | ⟨h, h1, h2⟩
    · rcases h with h | h
      · rw [if_pos h] at hl ⊢
        exact node_1 E ok w l R x h (by simpa using hl)
      · rw [if_neg (by omega), if_pos h] at hl ⊢
        exact node_2 E ok w l R x h (by simpa using hl)
    · rw [if_neg (by omega), if_neg (by omega), if_pos h] at hl ⊢
      exact node_3 E ok w l R x h h1 h2 h3 h4 hl
    · rw [if_neg (by omega), if_neg (by omega), if_neg (by omega)] at hl ⊢
      have ha : x.a = ((x.a.toNat : Nat) : Int) := by omega
      have hb : x.b = ((x.b.toNat : Nat) : Int) := by omega
      rcases h with h | h
      · rw [if_pos h] at hl ⊢
        refine node_4 E ok w l R x h x.a.toNat x.b.toNat ha hb (by omega) (by omega) (hp _ (by omega)) (hp _ (by omega)) _ _ ?_ ?_ ?_
        · simp [wrapT]
        · rw [con4, ← kindAt_nat E.ns x.b h3]
        · simp only [List.length_append, List.length_cons, List.length_nil] at hl; omega
      · rw [if_neg (by omega), if_pos h] at hl ⊢
        refine node_5 E ok w l R x h x.a.toNat x.b.toNat ha hb (by omega) (by omega) (hp _ (by omega)) (hp _ (by omega)) _ _ ?_ ?_ ?_
        · rw [con4, ← kindAt_nat E.ns x.a h1]
        · rw [con45, ← kindAt_nat E.ns x.b h3]
        · simp only [List.length_append, List.length_cons, List.length_nil] at hl; omega
    · rw [if_neg (by omega), if_neg (by omega), if_neg (by omega), if_neg (by omega), if_neg (by omega), if_pos h] at hl ⊢
      have ha : x.a = ((x.a.toNat : Nat) : Int) := by omega
      refine node_6 E ok w l R x h x.a.toNat ha (by omega) (hp _ (by omega)) _ ?_ ?_
      · rw [con45, ← kindAt_nat E.ns x.a h1]
      · rw [List.length_cons] at hl; exact hl
end Go.Proofs.YtkdejinhjdkkmaaDoor

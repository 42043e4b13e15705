/- Contract of the writer's tag; the condition: the writer lies there, and there is room. -/
import Derived.Test.YtkdejinhjdkkmaaDoorWb
import Derived.Test.YtkdejinhjdkkmaaDoorNp
import Derived.Deep.RegionHeld3
import Derived.StillTailTactics
namespace Go.Proofs.YtkdejinhjdkkmaaDoor
open Go.ChangeShapes Go.WideShapes Go.ChangeAt Go.RowKit Go.Maps

theorem tab_below {w w' : World} {name : String} {k : IntKind} {zs : List Int} (h : Lib.TabIs Tryd.prog w name k zs) (hb : Below w.heap.size w w') : Lib.TabIs Tryd.prog w' name k zs := by
  unfold Lib.TabIs World.var? at *
  cases hg : Tryd.prog.globalNamed name with
  | none => rw [hg] at h; cases h
  | some g =>
    rw [hg] at h
    simp only [Option.bind_some] at h ⊢
    have hlt : g < w.heap.size := by
      rcases Nat.lt_or_ge g w.heap.size with h' | h'
      · exact h'
      · rw [Array.getElem?_eq_none h'] at h; cases h
    rw [hb.block g hlt]
    exact h
theorem grow_below (w : World) (k : Nat) (os : Array Obj) : Below w.heap.size w (Sort.grow (w.drewN k) os) :=
  ⟨rfl, rfl, rfl, by show w.heap.size ≤ (w.heap ++ os).size; rw [Array.size_append]; omega, fun j hj => by
    show ((w.drewN k).heap ++ os)[j]? = _
    rw [Array.getElem?_append_left (by show j < w.heap.size; omega)]
    rfl⟩
theorem itoa_any (a : Int) (h0 : 0 ≤ a) (h1 : a ≤ 999999999) (w : World) (ht : Lib.TabIs Tryd.prog w "internal/strconv.uint64pow10" .u64 Lib.pow10Tab) :
    Calls Tryd.prog 73 #[.int .i64 a] w fun e w' => e = .returned (.string (str (Lib.decDigits a.toNat))) ∧ Below w.heap.size w w' := by
  refine (Tryd.strconv_Itoa a (by omega) (by omega) w ht).mono ?_
  rintro e w' ⟨rfl, k, os, rfl⟩
  refine ⟨?_, grow_below w k os⟩
  unfold Lib.itoa
  rw [if_neg (by omega)]
  rfl
theorem WSt.itoa {E : WEnv} {w : World} {l : Txt} {p : Value} {ba : Option Addr} {bc : Nat} (h : WSt E w l p ba bc) (ok : E.Ok) : Lib.TabIs Tryd.prog w "internal/strconv.uint64pow10" .u64 Lib.pow10Tab :=
  tab_below ok.tab (by have := h.bel; rw [ok.Bs] at this; exact this)

theorem WS.below {E : WEnv} {w w' : World} {l : Txt} (h : WS E w l) (ok : E.Ok) (b : Below w.heap.size w w') : WS E w' l := by
  obtain ⟨p, ba, bc, h⟩ := h
  exact ⟨p, ba, bc, h.below ok b⟩
theorem WS.drew {E : WEnv} {w : World} {l : Txt} (h : WS E w l) : WS E w.drew l := by
  obtain ⟨p, ba, bc, h⟩ := h
  exact ⟨p, ba, bc, h.drewN 1⟩
set_option maxHeartbeats 4000000 in
set_option maxRecDepth 100000 in
theorem wtag_any (E : WEnv) (ok : E.Ok) (w : World) (l : Txt) (R : WS E w l) (x : Nd) (hn0 : 0 ≤ x.n) (hn1 : x.n < E.nm.length) (ha0 : 1 ≤ x.a) (ha1 : x.a ≤ 999999999) (hl : l.length + (tagT E.nm x).length ≤ 140737488355328) :
    Calls Tryd.prog 57 #[.pointer (some ⟨E.g, 0, none⟩), ndV x] w fun e w' => e = .returned (.tuple #[]) ∧ WS E w' (l ++ tagT E.nm x) ∧ Others w w' := by
  obtain ⟨p, ba, bc, R⟩ := R
  obtain ⟨k, hk⟩ : ∃ k : Nat, x.n = (k : Int) := ⟨x.n.toNat, by omega⟩
  have hkn : k < E.nm.length := by omega
  have hnm : E.nm.getD x.n.toNat [] = E.nm[k] := by rw [hk]; simp [List.getD, hkn]
  obtain ⟨gs, hsa, hcs, hgs⟩ := (R.strs ok).there hkn
  have R1 := R.alloc ok (.cells #[.int .i64 x.kind, .int .i64 x.a, .int .i64 x.b, .int .i64 (k : Int), .string x.name] 45)
  have L1 := Lies.new w 45 [.int .i64 x.kind, .int .i64 x.a, .int .i64 x.b, .int .i64 (k : Int), .string x.name]
  have hgw : E.g < w.heap.size := R.rd.lt
  have c1 := R1.c1
  rw [hsa] at c1
  have hcs1 : (w.alloc (.cells #[.int .i64 x.kind, .int .i64 x.a, .int .i64 x.b, .int .i64 (k : Int), .string x.name] 45)).cell? ⟨gs, k, none⟩ = some (.string (str E.nm[k])) := by
    rw [← hcs]; exact ((Below.refl _ _).alloc (Nat.le_refl _) _).cell (p := ⟨gs, k, none⟩) hgs
  have hz : E.nm.length ≤ 1000000 := ok.nml
  unfold tagT at hl ⊢
  rw [hnm] at hl ⊢
  unfold ndV
  rw [hk]
  have HR1 := Lib.hid R1
  have HL1 := Lib.hid L1
  have HK := Lib.hid ok
  have HOT : Hid (Others w (w.alloc (.cells #[.int .i64 x.kind, .int .i64 x.a, .int .i64 x.b, .int .i64 (k : Int), .string x.name] 45))) := Lib.hid ((Others.refl w).alloc _)
  generalize E.nm[k] = nx at hcs1 hl ⊢
  clear R R1 L1 ok hsa hcs hgs hk hnm hn0 hn1
  generalize x.kind = xk at *
  generalize x.b = xb at *
  generalize x.name = xn at *
  by_cases h1 : 1 < x.a
  · rw [if_pos h1] at hl ⊢
    generalize x.a = xa at *
    rw [List.length_append, List.length_cons] at hl
    go_enter Tryd.func57, Tryd.ntmps57
    go_wp2_with (fail)
    generalize w.alloc (.cells #[.int .i64 xk, .int .i64 xa, .int .i64 xb, .int .i64 (k : Int), .string xn] 45) = W1 at HR1 HL1 HOT c1 hcs1 ⊢
    generalize w.heap.size = gb at HL1 hgw ⊢
    refine wp_region_still_tail 11 (by kernel_rfl) (by kernel_rfl) ?_
    change wpStill _ _ W1.drew (fun a' => wpList _ _ _ _ a' W1.drew) _ _
    have HR2 : Hid (WSt E W1.drew l p ba bc) := Lib.hid (HR1.out.drewN 1)
    have HL2 : Hid (Lies W1.drew gb _ _) := Lib.hid (Lies.drew HL1.out)
    have HO2 : Hid (Others w W1.drew) := Lib.hid (HOT.out.drew 1)
    have c1' : W1.drew.cell? ⟨E.g, 1, none⟩ = _ := c1
    have hc' : W1.drew.cell? ⟨gs, k, none⟩ = _ := hcs1
    clear HR1 HL1 c1 hcs1 HOT
    generalize W1.drew = W2 at *
    have l3 := HL2.out.cell 3
    simp only [List.getElem?_cons_zero, List.getElem?_cons_succ] at l3
    have hw : IntKind.i64.wrap (k : Int) = (k : Int) := IntWalk.i64_in _ (by omega)
    simp only [List.take_succ_cons, List.take_zero, List.drop_succ_cons, List.drop_zero]
    repeat still_step
    refine wpStill_nil ?_
    clear hw
    have CW := Lib.hid (wstring_any E HK.out W2 l ⟨p, ba, bc, HR2.out⟩ nx (by omega))
    go_wp2_with (fail)
    refine CW.out.mono ?_
    rintro e w3 ⟨rfl, R3, O3⟩
    have L3 := O3 _ _ _ (by decide) (by decide) HL2.out
    have HR3 := Lib.hid R3
    have HO3 := Lib.hid (HO2.out.trans O3)
    clear R3 O3 CW c1' hc' l3 HR2 HO2
    have m1 := L3.cell 1
    simp only [List.getElem?_cons_zero, List.getElem?_cons_succ] at m1
    have HL3 := Lib.hid L3
    clear L3 HL2
    have CB := Lib.hid (wbyte_any E HK.out w3 (l ++ nx) HR3.out 94 (by rw [List.length_append]; omega))
    go_wp2_with (fail)
    refine CB.out.mono ?_
    rintro e w4 ⟨rfl, R4, O4⟩
    have L4 := O4 _ _ _ (by decide) (by decide) HL3.out
    have HO4 := Lib.hid (HO3.out.trans O4)
    have HR4 := Lib.hid R4
    clear R4 O4 CB m1 HL3 HO3 HR3
    have m1 := L4.cell 1
    simp only [List.getElem?_cons_zero, List.getElem?_cons_succ] at m1
    have HL4 := Lib.hid L4
    clear L4
    have hgb : gb < w4.heap.size := HL4.out.lt
    have hll : (l ++ nx ++ [94]).length + (Lib.decDigits xa.toNat).length ≤ 140737488355328 := by rw [List.length_append, List.length_append]; show l.length + nx.length + 1 + _ ≤ _; omega
    have HT4 : Hid (Lib.TabIs Tryd.prog w4.drew "internal/strconv.uint64pow10" .u64 Lib.pow10Tab) := Lib.hid (by
      obtain ⟨_, _, _, R4⟩ := HR4.out
      exact R4.itoa HK.out)
    have HA : Hid (l ++ (nx ++ 94 :: Lib.decDigits xa.toNat) = l ++ nx ++ [94] ++ Lib.decDigits xa.toNat) := Lib.hid (by simp)
    go_wp2_with (fail)
    go_region_held3 (fun w' => w'.cell? ⟨gb, 1, none⟩ = some (.int .i64 xa))
      (first | go_keep | exact m5 | exact m6)
      (first
        | (go_at_call 73; refine (itoa_any xa (by omega) ha1 w4.drew HT4.out).mono ?_; rintro e w5 ⟨rfl, b5⟩; (have m5 : w5.cell? ⟨gb, 1, none⟩ = some (.int .i64 xa) := (b5.cell (p := ⟨gb, 1, none⟩) hgb).trans m1); (have HR5 := Lib.hid (WS.below (w := w4.drew) (WS.drew HR4.out) HK.out b5)); (have HO5 := Lib.hid ((HO4.out.drew 1).trans (Others.below b5))); (have HL5 := Lib.hid (Lies.below (w := w4.drew) HL4.out b5 hgb)); clear b5)
        | (go_at_call 58; refine (wstring_any E HK.out w5 _ HR5.out (Lib.decDigits xa.toNat) hll).mono ?_; rintro e w6 ⟨rfl, R6, O6⟩; (have m6 : w6.cell? ⟨gb, 1, none⟩ = some (.int .i64 xa) := (O6 _ _ _ (by decide) (by decide) HL5.out).cell 1); (have HR6 := Lib.hid R6); (have HO6 := Lib.hid (HO5.out.trans O6)); clear R6 O6))
    all_goals
      go_wp2
      go_end0
      exact ⟨rfl, by rw [HA.out]; exact HR6.out, HO6.out⟩
  · rw [if_neg h1] at hl ⊢
    rw [List.append_nil] at hl
    generalize x.a = xa at *
    have h1' : ¬ (1 : Int) < xa := h1
    go_enter Tryd.func57, Tryd.ntmps57
    go_wp2_with (fail)
    generalize w.alloc (.cells #[.int .i64 xk, .int .i64 xa, .int .i64 xb, .int .i64 (k : Int), .string xn] 45) = W1 at HR1 HL1 HOT c1 hcs1 ⊢
    generalize w.heap.size = gb at HL1 hgw ⊢
    refine wp_region_still_tail 11 (by kernel_rfl) (by kernel_rfl) ?_
    change wpStill _ _ W1.drew (fun a' => wpList _ _ _ _ a' W1.drew) _ _
    have HR2 : Hid (WSt E W1.drew l p ba bc) := Lib.hid (HR1.out.drewN 1)
    have HL2 : Hid (Lies W1.drew gb _ _) := Lib.hid (Lies.drew HL1.out)
    have HO2 : Hid (Others w W1.drew) := Lib.hid (HOT.out.drew 1)
    have c1' : W1.drew.cell? ⟨E.g, 1, none⟩ = _ := c1
    have hc' : W1.drew.cell? ⟨gs, k, none⟩ = _ := hcs1
    clear HR1 HL1 c1 hcs1 HOT
    generalize W1.drew = W2 at *
    have l3 := HL2.out.cell 3
    simp only [List.getElem?_cons_zero, List.getElem?_cons_succ] at l3
    have hw : IntKind.i64.wrap (k : Int) = (k : Int) := IntWalk.i64_in _ (by omega)
    simp only [List.take_succ_cons, List.take_zero, List.drop_succ_cons, List.drop_zero]
    repeat still_step
    refine wpStill_nil ?_
    clear hw
    have CW := Lib.hid (wstring_any E HK.out W2 l ⟨p, ba, bc, HR2.out⟩ nx (by omega))
    go_wp2_with (fail)
    refine CW.out.mono ?_
    rintro e w3 ⟨rfl, R3, O3⟩
    have L3 := O3 _ _ _ (by decide) (by decide) HL2.out
    have HR3 := Lib.hid R3
    have HO3 := Lib.hid (HO2.out.trans O3)
    clear R3 O3 CW c1' hc' l3 HR2 HO2
    have m1 := L3.cell 1
    simp only [List.getElem?_cons_zero, List.getElem?_cons_succ] at m1
    have HL3 := Lib.hid L3
    clear L3 HL2
    go_wp2
    go_end0
    exact ⟨rfl, by rw [List.append_nil]; exact HR3.out, HO3.out⟩
end Go.Proofs.YtkdejinhjdkkmaaDoor

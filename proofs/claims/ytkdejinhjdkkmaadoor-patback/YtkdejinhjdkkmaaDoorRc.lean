/- Contracts of the reader's tag and single, by what a bracket's reader does; the condition: the reader lies there. -/
import Derived.Test.YtkdejinhjdkkmaaDoorRb
import Derived.StringKeys
namespace Go.Proofs.YtkdejinhjdkkmaaDoor
open Go.ChangeShapes Go.WideShapes Go.ChangeAt Go.RowKit Go.Maps

theorem Tryd.zero3 (w : World) : (zeroValue 3).run Tryd.prog w = .ok (.int .i64 0) w := by kernel_rfl
theorem Tryd.law9 : Keyed Tryd.prog 9 := string_keyed Tryd.underlying9
theorem TagMap.below {B : Nat} {w w' : World} {mp : Nat} {nm : List Txt} (h : TagMap w mp nm) (b : Below B w w') (hm : mp < B) : TagMap w' mp nm := by
  obtain ⟨n, D, ⟨es, clock, hb, F, hs, hD⟩, hx⟩ := h
  exact ⟨n, D, ⟨es, clock, (b.block mp hm).trans hb, F, hs, hD⟩, hx⟩

/-- What a reader of the program comes to. -/
def Rets (E : Env) (o : Out) (op : Nat) (st : Bool) (e : Ending) (w' : World) : Prop :=
  match o with
  | .bad k => e = .returned (.int .i64 (k : Nat)) ∧ Below E.B E.w0 w'
  | .ok rest ns => e = .returned (.int .i64 0) ∧ ∃ i, E.toks.drop i = rest ∧ i < E.toks.length ∧ RS E w' i op st ns
theorem Rets.bad {E : Env} {op : Nat} {st : Bool} {e : Ending} {w' : World} {k : Nat} (h : e = .returned (.int .i64 (k : Nat))) (b : Below E.B E.w0 w') : Rets E (.bad k) op st e w' := ⟨h, b⟩
theorem Rets.ok {E : Env} {op : Nat} {st : Bool} {e : Ending} {w' : World} {rest : List Tok} {ns : List Nd} {i : Nat} (h : e = .returned (.int .i64 0)) (hi : E.toks.drop i = rest) (hl : i < E.toks.length) (r : RS E w' i op st ns) : Rets E (.ok rest ns) op st e w' := ⟨h, i, hi, hl, r⟩
theorem drop_tail {ts : List Tok} {i : Nat} : (ts.drop i).tail = ts.drop (i + 1) := List.tail_drop ..
theorem drop_lt {ts : List Tok} {i : Nat} (h : Ended (ts.drop i)) : i < ts.length := by
  have := h.ne
  rw [ne_eq, List.drop_eq_nil_iff] at this
  omega
theorem drop_cons {ts : List Tok} {i : Nat} (h : i < ts.length) : ts.drop i = ts[i] :: ts.drop (i + 1) := List.drop_eq_getElem_cons h

/-- What tag comes to, where the number that it reads stands at i + 1. -/
def TagPost (E : Env) (t : Tok) (i op : Nat) (st : Bool) (ns : List Nd) (k : Nat) (e : Ending) (w' : World) : Prop :=
  if t.kind = 2 ∧ 1 ≤ t.n ∧ t.n ≤ 999999999 then e = .returned (.int .i64 0) ∧ RS E w' (i + 2) op st (ns ++ [nTag k t.n]) else e = .returned (.int .i64 2) ∧ Below E.B E.w0 w'
theorem TagPost.yes {E : Env} {t : Tok} {i op : Nat} {st : Bool} {ns : List Nd} {k : Nat} {w' : World} (h : t.kind = 2 ∧ 1 ≤ t.n ∧ t.n ≤ 999999999) (r : RS E w' (i + 2) op st (ns ++ [nTag k t.n])) : TagPost E t i op st ns k (.returned (.int .i64 0)) w' := by
  unfold TagPost; rw [if_pos h]; exact ⟨rfl, r⟩
theorem TagPost.no {E : Env} {t : Tok} {i op : Nat} {st : Bool} {ns : List Nd} {k : Nat} {w' : World} (h : ¬ (t.kind = 2 ∧ 1 ≤ t.n ∧ t.n ≤ 999999999)) (r : Below E.B E.w0 w') : TagPost E t i op st ns k (.returned (.int .i64 2)) w' := by
  unfold TagPost; rw [if_neg h]; exact ⟨rfl, r⟩
theorem count_yes (n : Int) (w : World) (h : 1 ≤ n ∧ n ≤ 999999999) : Calls Tryd.prog 52 #[.int .i64 n] w fun e w' => e = .returned (.bool true) ∧ w = w' := by
  obtain ⟨h1, h2⟩ := h
  go_enter Tryd.func52, Tryd.ntmps52
  go_wp2
  go_ret
  exact ⟨rfl, rfl⟩
theorem count_no (n : Int) (w : World) (h : ¬ (1 ≤ n ∧ n ≤ 999999999)) : Calls Tryd.prog 52 #[.int .i64 n] w fun e w' => e = .returned (.bool false) ∧ w = w' := by
  by_cases h1 : 1 ≤ n
  · have h2 : ¬ n ≤ 999999999 := fun h2 => h ⟨h1, h2⟩
    go_enter Tryd.func52, Tryd.ntmps52
    go_wp2
    go_ret
    exact ⟨rfl, rfl⟩
  · go_enter Tryd.func52, Tryd.ntmps52
    go_wp2
    go_ret
    exact ⟨rfl, rfl⟩

set_option maxRecDepth 100000 in
set_option maxHeartbeats 2000000 in
theorem tag_none (E : Env) (ok : E.Ok) (w : World) (i op : Nat) (st : Bool) (ns : List Nd) (na : Option Addr) (nc : Nat) (R : RSt E w i op st ns na nc) (x : Txt) (hx : x.length ≤ 1000) (hp : posF x E.nm 0 = none) :
    Calls Tryd.prog 86 #[.pointer (some ⟨E.g, 0, none⟩), .string (str x)] w fun e w' => e = .returned (.int .i64 4) ∧ w = w' := by
  obtain ⟨n, D, hown, hD⟩ := ok.map.below R.bel ok.mpl
  have hh := (hD x).1
  rw [hp] at hh
  have hh : Maps.has D (.string x) = false := hh
  have hkey : keyOf Tryd.prog 9 (.string (str x)) = some (.string x) := Go.WideMaps.keyOf_string_mk Tryd.underlying9 (by rw [str_size]; unfold maxLen; omega)
  have r1 := R.rd.cell 1
  simp only [List.getElem?_cons_zero, List.getElem?_cons_succ] at r1
  have HO := Lib.hid hown
  have HK := Lib.hid hkey
  clear hp hD hown hkey R ok
  generalize str x = sx at HK ⊢
  go_enter Tryd.func86, Tryd.ntmps86
  go_wp2_with (at_lookup; refine wpList_lookup_own_ok_int _ rfl _ _ 61 rfl 9 3 .i64 Tryd.law9 Tryd.underlying61 Tryd.underlying3 (Tryd.zero3 _) E.mp n D rfl HO.out _ (.string x) rfl HK.out ?_; intro c hat hwc)
  go_ret
  exact ⟨rfl, rfl⟩
set_option maxRecDepth 100000 in
set_option maxHeartbeats 2000000 in
theorem tag_one (E : Env) (ok : E.Ok) (w : World) (i op : Nat) (st : Bool) (ns : List Nd) (na : Option Addr) (nc : Nat) (R : RSt E w i op st ns na nc) (hn : ns.length ≤ 100000) (he : Ended (E.toks.drop i)) (x : Txt) (hx : x.length ≤ 1000) (k : Nat) (hp : posF x E.nm 0 = some k) (hT : isT 94 (E.toks.drop i) = false) :
    Calls Tryd.prog 86 #[.pointer (some ⟨E.g, 0, none⟩), .string (str x)] w fun e w' => e = .returned (.int .i64 0) ∧ RS E w' i op st (ns ++ [nTag k 1]) := by
  obtain ⟨n, D, hown, hD⟩ := ok.map.below R.bel ok.mpl
  have hh := (hD x).1
  rw [hp] at hh
  have hh : Maps.has D (.string x) = true := hh
  have HC := Lib.hid ((hD x).2 k hp)
  have hkey : keyOf Tryd.prog 9 (.string (str x)) = some (.string x) := Go.WideMaps.keyOf_string_mk Tryd.underlying9 (by rw [str_size]; unfold maxLen; omega)
  have r1 := R.rd.cell 1
  simp only [List.getElem?_cons_zero, List.getElem?_cons_succ] at r1
  have HO := Lib.hid hown
  have HKY := Lib.hid hkey
  have HK := Lib.hid ok
  have CS := Lib.hid (skip_no E ok w i op st ns na nc R (drop_lt he) 94 hT)
  clear hp hD hown hkey R ok he hT
  generalize str x = sx at HKY ⊢
  go_enter Tryd.func86, Tryd.ntmps86
  go_wp2_with (at_lookup; refine wpList_lookup_own_ok_int _ rfl _ _ 61 rfl 9 3 .i64 Tryd.law9 Tryd.underlying61 Tryd.underlying3 (Tryd.zero3 _) E.mp n D rfl HO.out _ (.string x) rfl HKY.out ?_; intro c hat hwc; (obtain rfl : c = (k : Int) := by (rw [HC.out] at hat; injection hat with hat; injection hat with _ hat; exact hat.symm)); clear hat hwc)
  refine CS.out.mono ?_
  rintro e w1 ⟨rfl, R1⟩
  have CA := Lib.hid (add_any E HK.out w1 i op st ns na nc R1 hn 3 1 0 (k : Int) ⟨#[]⟩)
  clear R1 CS
  go_wp2_with (fail)
  refine CA.out.mono ?_
  rintro e w2 ⟨rfl, R2⟩
  have HR2 := Lib.hid R2
  clear R2 CA
  go_wp2
  go_ret
  exact ⟨rfl, HR2.out⟩
set_option maxRecDepth 100000 in
set_option maxHeartbeats 2000000 in
theorem tag_many (E : Env) (ok : E.Ok) (w : World) (i op : Nat) (st : Bool) (ns : List Nd) (na : Option Addr) (nc : Nat) (R : RSt E w i op st ns na nc) (hn : ns.length ≤ 100000) (he : Ended (E.toks.drop i)) (x : Txt) (hx : x.length ≤ 1000) (k : Nat) (hp : posF x E.nm 0 = some k) (hT : isT 94 (E.toks.drop i) = true) (hi : i + 1 < E.toks.length) :
    Calls Tryd.prog 86 #[.pointer (some ⟨E.g, 0, none⟩), .string (str x)] w (TagPost E E.toks[i + 1] i op st ns k) := by
  obtain ⟨n, D, hown, hD⟩ := ok.map.below R.bel ok.mpl
  have hh := (hD x).1
  rw [hp] at hh
  have hh : Maps.has D (.string x) = true := hh
  have HC := Lib.hid ((hD x).2 k hp)
  have hkey : keyOf Tryd.prog 9 (.string (str x)) = some (.string x) := Go.WideMaps.keyOf_string_mk Tryd.underlying9 (by rw [str_size]; unfold maxLen; omega)
  have r1 := R.rd.cell 1
  simp only [List.getElem?_cons_zero, List.getElem?_cons_succ] at r1
  have HO := Lib.hid hown
  have HKY := Lib.hid hkey
  have HK := Lib.hid ok
  have CS := Lib.hid (skip_yes E ok w i op st ns na nc R (drop_lt he) 94 hT)
  have CN := Lib.hid (fun W (R : RSt E W (i + 1) op st ns na nc) => next_any E ok W (i + 1) op st ns na nc R hi)
  clear hp hD hown hkey R ok he hT
  generalize str x = sx at HKY ⊢
  generalize E.toks[i + 1] = t at CN ⊢
  by_cases hk : t.kind = 2
  · have hk' : (t.kind : Int) = 2 := by omega
    by_cases hm : 1 ≤ (t.n : Int) ∧ (t.n : Int) ≤ 999999999
    · have CC := Lib.hid (fun W => count_yes (t.n : Int) W hm)
      have HPo : Hid (∀ w', RS E w' (i + 2) op st (ns ++ [nTag k t.n]) → TagPost E t i op st ns k (.returned (.int .i64 0)) w') := Lib.hid (fun w' h => TagPost.yes ⟨hk, by omega, by omega⟩ h)
      clear hm
      have HK1 := Lib.hid hk
      clear hk
      go_enter Tryd.func86, Tryd.ntmps86
      go_wp2_with (at_lookup; refine wpList_lookup_own_ok_int _ rfl _ _ 61 rfl 9 3 .i64 Tryd.law9 Tryd.underlying61 Tryd.underlying3 (Tryd.zero3 _) E.mp n D rfl HO.out _ (.string x) rfl HKY.out ?_; intro c hat hwc; (obtain rfl : c = (k : Int) := by (rw [HC.out] at hat; injection hat with hat; injection hat with _ hat; exact hat.symm)); clear hat hwc)
      refine CS.out.mono ?_
      rintro e w1 ⟨rfl, R1⟩
      have HR1 := Lib.hid R1
      clear R1
      go_wp2_with (fail)
      refine (CN.out w1 HR1.out).mono ?_
      rintro e w2 ⟨rfl, R2⟩
      have HR2 := Lib.hid R2
      clear R2
      unfold tokV
      go_wp2_with (fail)
      refine (CC.out _).mono ?_
      rintro e w3 ⟨rfl, rfl⟩
      have R3 := HR2.out.alloc HK.out (.cells #[.int .i64 2, .int .i64 (t.n : Nat), .int .i64 (t.line : Nat), .int .i64 (t.col : Nat), .string (str t.text)] 90)
      have CA := Lib.hid (add_any E HK.out _ (i + 2) op st ns na nc R3 hn 3 (t.n : Nat) 0 (k : Int) ⟨#[]⟩)
      clear R3
      go_wp2_with (fail)
      refine CA.out.mono ?_
      rintro e w4 ⟨rfl, R4⟩
      have HR4 := Lib.hid R4
      clear R4 CA
      go_wp2
      go_ret
      exact HPo.out _ HR4.out
    · have CC := Lib.hid (fun W => count_no (t.n : Int) W hm)
      have HPo : Hid (∀ w', Below E.B E.w0 w' → TagPost E t i op st ns k (.returned (.int .i64 2)) w') := Lib.hid (fun w' h => TagPost.no (by omega) h)
      clear hm
      have HK1 := Lib.hid hk
      clear hk
      go_enter Tryd.func86, Tryd.ntmps86
      go_wp2_with (at_lookup; refine wpList_lookup_own_ok_int _ rfl _ _ 61 rfl 9 3 .i64 Tryd.law9 Tryd.underlying61 Tryd.underlying3 (Tryd.zero3 _) E.mp n D rfl HO.out _ (.string x) rfl HKY.out ?_; intro c hat hwc; (obtain rfl : c = (k : Int) := by (rw [HC.out] at hat; injection hat with hat; injection hat with _ hat; exact hat.symm)); clear hat hwc)
      refine CS.out.mono ?_
      rintro e w1 ⟨rfl, R1⟩
      have HR1 := Lib.hid R1
      clear R1
      go_wp2_with (fail)
      refine (CN.out w1 HR1.out).mono ?_
      rintro e w2 ⟨rfl, R2⟩
      have HR2 := Lib.hid R2
      clear R2
      unfold tokV
      go_wp2_with (fail)
      refine (CC.out _).mono ?_
      rintro e w3 ⟨rfl, rfl⟩
      go_wp2
      go_ret
      exact HPo.out _ (HR2.out.alloc HK.out _).bel
  · have hk' : ¬ (t.kind : Int) = 2 := by omega
    have HPo : Hid (∀ w', Below E.B E.w0 w' → TagPost E t i op st ns k (.returned (.int .i64 2)) w') := Lib.hid (fun w' h => TagPost.no (by omega) h)
    clear hk
    · skip
      go_enter Tryd.func86, Tryd.ntmps86
      go_wp2_with (at_lookup; refine wpList_lookup_own_ok_int _ rfl _ _ 61 rfl 9 3 .i64 Tryd.law9 Tryd.underlying61 Tryd.underlying3 (Tryd.zero3 _) E.mp n D rfl HO.out _ (.string x) rfl HKY.out ?_; intro c hat hwc; (obtain rfl : c = (k : Int) := by (rw [HC.out] at hat; injection hat with hat; injection hat with _ hat; exact hat.symm)); clear hat hwc)
      refine CS.out.mono ?_
      rintro e w1 ⟨rfl, R1⟩
      have HR1 := Lib.hid R1
      clear R1
      go_wp2_with (fail)
      refine (CN.out w1 HR1.out).mono ?_
      rintro e w2 ⟨rfl, R2⟩
      have HR2 := Lib.hid R2
      clear R2
      unfold tokV
      go_wp2_with (fail)
      go_ret
      exact HPo.out _ (HR2.out.alloc HK.out _).bel
end Go.Proofs.YtkdejinhjdkkmaaDoor

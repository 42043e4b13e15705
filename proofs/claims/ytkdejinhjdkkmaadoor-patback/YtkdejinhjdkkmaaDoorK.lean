/- Contract of the program's Tokens: the tokens of a text, each with its place, or where it is wrong; no condition. -/
import Derived.Test.YtkdejinhjdkkmaaDoorJ
import Derived.Deep.RegionHeld3
import Derived.Deep.AppendLies
namespace Go.Proofs.YtkdejinhjdkkmaaDoor
open Go.ChangeShapes Go.WideShapes Go.ChangeAt Go.RowKit

/-- What the document asks of Tokens: the tokens, the line and the column of an error, the error. -/
def ans (l : Txt) : List Tok × Nat × Nat × Nat :=
  if 16384 < l.length then ([], 0, 0, 3) else match go l 1 1 with | .ok ts => (ts, 0, 0, 0) | .bad a b => ([], a, b, 2)
def Tells (l : Txt) (w : World) (e : Ending) (w' : World) : Prop :=
  ∃ a c, e = .returned (.tuple #[.slice a (ans l).1.length c, .int .i64 ((ans l).2.1 : Nat), .int .i64 ((ans l).2.2.1 : Nat), .int .i64 ((ans l).2.2.2 : Nat)]) ∧ Toks w' a c (ans l).1 ∧ Below w.heap.size w w'
theorem ans_limit {l : Txt} (h : 16384 < l.length) : ans l = ([], 0, 0, 3) := by unfold ans; rw [if_pos h]
theorem ans_ok {l : Txt} (h : l.length ≤ 16384) {ts : List Tok} (hg : go l 1 1 = .ok ts) : ans l = (ts, 0, 0, 0) := by unfold ans; rw [if_neg (by omega), hg]
theorem ans_bad {l : Txt} (h : l.length ≤ 16384) {a b : Nat} (hg : go l 1 1 = .bad a b) : ans l = ([], a, b, 2) := by unfold ans; rw [if_neg (by omega), hg]
theorem Tells.limit {l : Txt} {w w' : World} {e : Ending} (h : 16384 < l.length) (he : e = .returned (.tuple #[.slice none 0 0, .int .i64 0, .int .i64 0, .int .i64 3])) (b : Below w.heap.size w w') : Tells l w e w' := by
  unfold Tells; rw [ans_limit h]; exact ⟨none, 0, he, Toks.nil _, b⟩
theorem Tells.ok {l : Txt} {w w' : World} {e : Ending} {a : Option Addr} {c : Nat} {ts : List Tok} {n : Nat} (h : l.length ≤ 16384) (hg : go l 1 1 = .ok ts) (hn : n = ts.length) (he : e = .returned (.tuple #[.slice a n c, .int .i64 0, .int .i64 0, .int .i64 0])) (R : Toks w' a c ts) (b : Below w.heap.size w w') : Tells l w e w' := by
  subst hn; unfold Tells; rw [ans_ok h hg]; exact ⟨a, c, he, R, b⟩
theorem Tells.bad {l : Txt} {w w' : World} {e : Ending} {x y : Nat} (h : l.length ≤ 16384) (hg : go l 1 1 = .bad x y) (he : e = .returned (.tuple #[.slice none 0 0, .int .i64 (x : Nat), .int .i64 (y : Nat), .int .i64 2])) (b : Below w.heap.size w w') : Tells l w e w' := by
  unfold Tells; rw [ans_bad h hg]; exact ⟨none, 0, he, Toks.nil _, b⟩

theorem Toks.alloc {w : World} {a : Option Addr} {c : Nat} {ts : List Tok} (h : Toks w a c ts) (o : Obj) : Toks (w.alloc o) a c ts := h.kept (X := fun _ => False) ((Kept.refl _ w).alloc o) (fun _ _ h => h)
theorem kept_cell {X : Nat → Prop} {w w' : World} (k : Kept X w w') {g o : Nat} (hg : g < w.heap.size) (hx : ¬ X g) : w'.cell? ⟨g, o, none⟩ = w.cell? ⟨g, o, none⟩ := by
  simp only [World.cell?, k.block g hg hx]
theorem rd_toks {w : World} {g : Nat} {s : ByteArray} {i l b c : Nat} {a : Option Addr} {ts : List Tok} (R : Rd w g s i l b) (T : Toks w a c ts) : ¬ a = some ⟨g, 0, none⟩ := by
  rintro rfl
  rcases T with ⟨e, _⟩ | ⟨g', sp, e, _, _, _, l⟩
  · cases e
  · injection e with e; injection e with e; subst e
    exact Lies.other R l (by decide) rfl
theorem kept_below {X : Nat → Prop} {w x y : World} (b : Below w.heap.size w x) (k : Kept X x y) (hX : ∀ g, X g → w.heap.size ≤ g) : Below w.heap.size w y := b.trans (k.below hX b.size)
theorem step_append_run {P : Program} (w : World) {ops : Array Oper} {o : Oper} {a : Act} {K : Act → World → Prop} {Q : Exit → Act → World → Prop} {E : Prop} (hgd : o.guard = none) (s x : Operand) (t tn : TypeId)
    (ho : o.op = .call { callee := .builtin .append, args := #[s, x], argTypes := #[t, tn] }) (vs vx : Value) (hs : a.eval s = vs) (hx : a.eval x = vx)
    (v' : Value) (w' : World) (hr : (Builtin.append_ #[t, tn] o.type #[vs, vx]).run P w = .ok v' w') (h : K (a.put o.dst v') w') :
    if Region.wanted o (yielded ops a.tmps) = true then Oper.wp P o a w K Q else E := by
  have hw : Region.wanted o (yielded ops a.tmps) = true := by simp [Region.wanted, hgd]
  rw [if_pos hw]
  exact Lib.wp_append_run w s x t tn ho vs vx hs hx v' w' hr h

theorem step_app5 (w : World) {ops : Array Oper} {o : Oper} {x : Act} {K : Act → World → Prop} {Q : Exit → Act → World → Prop} {E : Prop} (hgd : o.guard = none) (s y : Operand)
    (ho : o.op = .call { callee := .builtin .append, args := #[s, y], argTypes := #[58, 58] }) (a : Option Addr) (c n : Nat) (g : Nat) (hs : x.eval s = .slice a n c) (hx : x.eval y = .slice (some ⟨g, 0, none⟩) 1 1)
    (ts : List Tok) (t : Tok) (R : Toks w a c ts) (hg : Lies w g 90 (tokCells t)) (hb : ts.length ≤ 1000000) (hn : n = ts.length)
    (h : ∀ a' c' w', Toks w' a' c' (ts ++ [t]) → Kept (fun g => a = some ⟨g, 0, none⟩) w w' → (∀ g, a' = some ⟨g, 0, none⟩ → a = some ⟨g, 0, none⟩ ∨ w.heap.size ≤ g) → K (x.put o.dst (.slice a' (n + 1) c')) w') :
    if Region.wanted o (yielded ops x.tmps) = true then Oper.wp Tryd.prog o x w K Q else E := by
  obtain ⟨a', c', w', hr, h1, h2, h3⟩ := app5 o.type a c ts g t w R hg hb hn
  exact step_append_run w hgd s y 58 58 ho _ _ hs hx _ _ hr (h a' c' w' h1 h2 h3)
theorem wpList_app5 (w : World) {ops : Array Oper} {rest : List Oper} {o : Oper} {x : Act} {Q : Exit → Act → World → Prop} (hgd : o.guard = none) (s y : Operand)
    (ho : o.op = .call { callee := .builtin .append, args := #[s, y], argTypes := #[58, 58] }) (a : Option Addr) (c n : Nat) (g : Nat) (hs : x.eval s = .slice a n c) (hx : x.eval y = .slice (some ⟨g, 0, none⟩) 1 1)
    (ts : List Tok) (t : Tok) (R : Toks w a c ts) (hg : Lies w g 90 (tokCells t)) (hb : ts.length ≤ 1000000) (hn : n = ts.length)
    (h : ∀ a' c' w', Toks w' a' c' (ts ++ [t]) → Kept (fun g => a = some ⟨g, 0, none⟩) w w' → (∀ g, a' = some ⟨g, 0, none⟩ → a = some ⟨g, 0, none⟩ ∨ w.heap.size ≤ g) → wpList Tryd.prog ops Q rest (x.put o.dst (.slice a' (n + 1) c')) w') :
    wpList Tryd.prog ops Q (o :: rest) x w := by
  obtain ⟨a', c', w', hr, h1, h2, h3⟩ := app5 o.type a c ts g t w R hg hb hn
  exact Lib.wpList_append_run w hgd s y 58 58 ho _ _ hs hx _ _ hr (h a' c' w' h1 h2 h3)

/-- Where the loop stands. -/
structure TokSt (s : ByteArray) (g : Nat) (r : Res) (w wr : World) (i l b : Nat) (acc : List Tok) (a : Option Addr) (c : Nat) : Prop where
  rd : Rd wr g s i l b
  toks : Toks wr a c acc
  bel : Below w.heap.size w wr
  gw : w.heap.size ≤ g
  own : ∀ g', a = some ⟨g', 0, none⟩ → w.heap.size ≤ g'
  is : i ≤ s.size
  bi : b ≤ i
  li : l ≤ i + 1
  ai : acc.length ≤ i
  eq : app acc (go (s.data.toList.drop i) l (i + 1 - b)) = r
  sol : ∀ h : i < s.size, solid s[i]

theorem tokens_limit (s : ByteArray) (w : World) (hs : s.size ≤ maxLen) (h : 16384 < s.size) : Calls Tryd.prog 21 #[.string s] w (Tells s.data.toList w) := by
  have HF : Hid (∀ e w', e = .returned (.tuple #[.slice none 0 0, .int .i64 0, .int .i64 0, .int .i64 3]) → Below w.heap.size w w' → Tells s.data.toList w e w') := Lib.hid (fun e w' he hb => Tells.limit (by rw [size_list]; exact h) he hb)
  unfold maxLen at hs
  have hi : decide ((16384 : Int) < (s.size : Int)) = true := by simp; omega
  generalize Tells s.data.toList w = F at HF ⊢
  go_enter Tryd.func21, Tryd.ntmps21
  go_wp2
  refine bodyPost_ret (v := .tuple #[.slice none 0 0, .int .i64 0, .int .i64 0, .int .i64 3]) (by simp [results, Tryd.results21, go_sem]) rfl (HF.out _ _ rfl ?_)
  exact Below.refl _ _

set_option maxHeartbeats 8000000 in
set_option maxRecDepth 100000 in
theorem tokens_main (s : ByteArray) (w : World) (h : s.size ≤ 16384) : Calls Tryd.prog 21 #[.string s] w (Tells s.data.toList w) := by
  have hsl : s.data.toList.length ≤ 16384 := by rw [size_list]; exact h
  obtain ⟨r, hr⟩ : ∃ r, r = go s.data.toList 1 1 := ⟨_, rfl⟩
  have HOK : Hid (∀ e w' a c ts n, r = .ok ts → n = ts.length → e = .returned (.tuple #[.slice a n c, .int .i64 0, .int .i64 0, .int .i64 0]) → Toks w' a c ts → Below w.heap.size w w' → Tells s.data.toList w e w') :=
    Lib.hid (fun e w' a c ts n h1 h2 h3 h4 h5 => Tells.ok hsl (by rw [← hr]; exact h1) h2 h3 h4 h5)
  have HBAD : Hid (∀ e w' x y, r = .bad x y → e = .returned (.tuple #[.slice none 0 0, .int .i64 (x : Nat), .int .i64 (y : Nat), .int .i64 2]) → Below w.heap.size w w' → Tells s.data.toList w e w') :=
    Lib.hid (fun e w' x y h1 h2 h3 => Tells.bad hsl (by rw [← hr]; exact h1) h2 h3)
  have HR0 := Lib.hid hr
  clear hr hsl
  have hi : decide ((16384 : Int) < (s.size : Int)) = false := by simp; omega
  generalize Tells s.data.toList w = F at HOK HBAD ⊢
  go_enter Tryd.func21, Tryd.ntmps21
  go_wp2_with (fail)
  have R0 : Rd (w.alloc (.cells #[.string s, .int .i64 0, .int .i64 1, .int .i64 0] 88)) w.heap.size s 0 1 0 := Lies.new w 88 [.string s, .int .i64 0, .int .i64 1, .int .i64 0]
  have B0 : Below w.heap.size w (w.alloc (.cells #[.string s, .int .i64 0, .int .i64 1, .int .i64 0] 88)) := (Below.refl _ w).alloc (Nat.le_refl _) _
  generalize (w.alloc (.cells #[.string s, .int .i64 0, .int .i64 1, .int .i64 0] 88)) = W0 at R0 B0 ⊢
  obtain ⟨g, hg⟩ : ∃ g, g = w.heap.size := ⟨_, rfl⟩
  rw [← hg] at R0 ⊢
  have hgw : w.heap.size ≤ g := Nat.le_of_eq hg.symm
  have CK := Lib.hid (skip_any s g 0 1 0 W0 R0 h (by omega) (by omega) (by omega))
  have HB0 := Lib.hid B0
  have HG := Lib.hid hgw
  clear hg hgw R0 B0
  refine CK.out.mono ?_
  rintro e W1 ⟨i, l, b, rfl, ⟨R, K, hi0, his, hb, hl, hg⟩, hsol⟩
  have H0 : Hid (TokSt s g r w W1 i l b [] none 0) := Lib.hid ⟨R, Toks.nil _, HB0.out.trans (K.below (fun k e => by rw [e]; exact HG.out) HB0.out.size), HG.out, (fun _ e => nomatch e), his, hb, hl, by simp, by rw [app_nil, hg, HR0.out]; simp, hsol⟩
  clear R K hi0 his hb hl hg hsol CK HB0
  go_wp2_with (fail)
  go_loopw [2, 7, 8] (fun v _ _ wr => ∃ i l b acc a c, Hid (TokSt s g r w wr i l b acc a c) ∧ v = .slice a acc.length c) (fun _ _ _ wr => s.size - atOf wr g)
  case atStart => exact ⟨i, l, b, [], none, 0, H0, rfl⟩
  case round =>
    clear H0
    obtain ⟨i, l, b, acc, a, c, HS, rfl⟩ := hrel
    have HM := Lib.hid (atOf_rd HS.out.rd)
    have c0 := HS.out.rd.c0
    have c1 := HS.out.rd.c1
    have c2 := HS.out.rd.c2
    have c3 := HS.out.rd.c3
    have fz := HS.out.rd.fz
    have hga := rd_toks HS.out.rd HS.out.toks
    have hgl : g < wr.heap.size := HS.out.rd.lt
    have his := HS.out.is
    have hbi := HS.out.bi
    have hli := HS.out.li
    have hai := HS.out.ai
    obtain ⟨n, hn⟩ : ∃ n, n = acc.length := ⟨_, rfl⟩
    rw [← hn]
    have HN := Lib.hid hn
    rw [← hn] at hai
    clear hn
    by_cases hlt : i < s.size
    · have hi1 : (i : Int) < (s.size : Int) := by omega
      have hsz : (s.extract i s.size).size = s.size - i := by rw [ByteArray.size_extract]; omega
      have cf := first_any (s.extract i s.size) wr (by omega) (by omega)
      rw [ext_drop] at cf
      have CF := Lib.hid cf
      have hsol := HS.out.sol hlt
      have hD := drop_at s i hlt
      clear cf hsz
      have hCol := Lib.hid (fun W (R : Rd W g s i l b) => col_any g s i l b W R hbi (by omega))
      cases hok : okOf (s.data.toList.drop i) with
      | false =>
        have HE : Hid (r = .bad l (i + 1 - b)) := Lib.hid (by
          have e := HS.out.eq
          rw [hD] at e hok
          rw [go_bad hsol hok] at e
          exact e.symm)
        obtain ⟨cl, hcl⟩ : ∃ cl, cl = i + 1 - b := ⟨_, rfl⟩
        rw [← hcl] at hCol HE
        have HO := Lib.hid hok
        clear hcl hok hD hsol
        go_wp2_with (fail)
        refine CF.out.mono ?_
        rintro e w1 ⟨k, nn, t, rfl, bel1, _⟩
        rw [HO.out]
        have R1 : Rd w1 g s i l b := Lies.below HS.out.rd bel1 hgl
        have B1 : Below w.heap.size w w1 := HS.out.bel.trans (bel1.mono HS.out.bel.size)
        clear bel1 c0 c1 c2 c3 fz hgl hga CF
        have R2 : Rd (w1.alloc (.cells #[.int .i64 (k : Nat), .int .i64 (nn : Nat), .int .i64 0, .int .i64 0, .string t] 90)) g s i l b := Lies.alloc R1 _
        have B2 : Below w.heap.size w (w1.alloc (.cells #[.int .i64 (k : Nat), .int .i64 (nn : Nat), .int .i64 0, .int .i64 0, .string t] 90)) := B1.alloc (by have := B1.size; exact this) _
        go_wp2_with (fail)
        generalize w1.alloc (.cells #[.int .i64 (k : Nat), .int .i64 (nn : Nat), .int .i64 0, .int .i64 0, .string t] 90) = W2 at R2 B2 ⊢
        have c2 := R2.c2
        have HR2 := Lib.hid R2
        have HB2 := Lib.hid B2
        clear R1 B1 R2 B2
        go_quiet ((go_at_call 42; exact Calls.quiet_of (hCol.out (W2.drewN _) HR2.out)))
        go_wp2
        refine bodyPost_ret (v := .tuple #[.slice none 0 0, .int .i64 (l : Nat), .int .i64 (cl : Nat), .int .i64 2]) (by simp [results, Tryd.results21, go_sem]) rfl (HBAD.out _ _ l cl HE.out rfl ?_)
        exact HB2.out.trans (below_drewN _ _ _)
      | true =>
        obtain ⟨m, hm⟩ : ∃ m, m = lenOf (s.data.toList.drop i) := ⟨_, rfl⟩
        obtain ⟨tok, htok⟩ : ∃ tok, tok = tokAt (s.data.toList.drop i) l (i + 1 - b) := ⟨_, rfl⟩
        have hm1 : 1 ≤ m := by rw [hm, hD]; exact lenOf_pos
        have hdl : (s.data.toList.drop (i + 1)).length = s.size - (i + 1) := by rw [List.length_drop, size_list]
        have hm2 : i + m ≤ s.size := by
          have h1 := lenOf_le (c := s[i]) (r := s.data.toList.drop (i + 1))
          rw [← hD, ← hm, hdl] at h1
          omega
        have HT : Hid (app (acc ++ [tok]) (go (s.data.toList.drop (i + m)) l (i + m + 1 - b)) = r) := Lib.hid (by
          have e := HS.out.eq
          have hok2 := hok
          rw [hD] at e hok2
          rw [go_tok hsol hok2, app_pre, ← hD, ← hm, List.drop_drop, ← htok, show i + 1 - b + m = i + m + 1 - b by omega] at e
          exact e)
        have HC : Hid (∀ k nn t, (okOf (s.data.toList.drop i) = true → k = kindOf (s.data.toList.drop i) ∧ nn = numOf (s.data.toList.drop i) ∧ t = str ((s.data.toList.drop i).take (lenOf (s.data.toList.drop i)))) →
            tokCells tok = [.int .i64 (k : Nat), .int .i64 (nn : Nat), .int .i64 (l : Nat), .int .i64 (i + 1 - b : Nat), .string t] ∧ t.size = m) := Lib.hid (fun k nn t hh => by
          obtain ⟨rfl, rfl, rfl⟩ := hh hok
          refine ⟨by rw [htok]; rfl, ?_⟩
          rw [str_size, List.length_take, ← hm, List.length_drop, size_list]
          omega)
        obtain ⟨cl, hcl⟩ : ∃ cl, cl = i + 1 - b := ⟨_, rfl⟩
        rw [← hcl] at hCol HC
        have HO := Lib.hid hok
        clear hcl hok hD hsol hm htok hdl
        have hal : ∀ g', a = some ⟨g', 0, none⟩ → g' < wr.heap.size := fun g' e => HS.out.toks.lt e
        have HAL := Lib.hid hal
        clear hal
        go_wp2_with (fail)
        refine CF.out.mono ?_
        rintro e w1 ⟨k, nn, t, rfl, bel1, hk⟩
        obtain ⟨hcell, htsz⟩ := HC.out k nn t hk
        rw [HO.out]
        have HCE := Lib.hid hcell
        have HTS := Lib.hid htsz
        have htm : t.size ≤ 16384 := by omega
        clear hk hcell htsz HC CF
        have hgl1 : g < w1.heap.size := Nat.lt_of_lt_of_le hgl bel1.size
        have HAL1 := Lib.hid (fun g' e => Nat.lt_of_lt_of_le (HAL.out g' e) bel1.size)
        have R1 : Rd w1 g s i l b := Lies.below HS.out.rd bel1 hgl
        have T1 : Toks w1 a c acc := HS.out.toks.below bel1
        have B1 : Below w.heap.size w w1 := HS.out.bel.trans (bel1.mono HS.out.bel.size)
        clear bel1 c0 c1 c2 c3 fz HAL
        have hgt : w.heap.size ≤ w1.heap.size := B1.size
        have R2 : Rd (w1.alloc (.cells #[.int .i64 (k : Nat), .int .i64 (nn : Nat), .int .i64 0, .int .i64 0, .string t] 90)) g s i l b := Lies.alloc R1 _
        have T2 : Toks (w1.alloc (.cells #[.int .i64 (k : Nat), .int .i64 (nn : Nat), .int .i64 0, .int .i64 0, .string t] 90)) a c acc := T1.alloc _
        have B2 : Below w.heap.size w (w1.alloc (.cells #[.int .i64 (k : Nat), .int .i64 (nn : Nat), .int .i64 0, .int .i64 0, .string t] 90)) := B1.alloc hgt _
        have L2 : Lies (w1.alloc (.cells #[.int .i64 (k : Nat), .int .i64 (nn : Nat), .int .i64 0, .int .i64 0, .string t] 90)) w1.heap.size 90 [.int .i64 (k : Nat), .int .i64 (nn : Nat), .int .i64 0, .int .i64 0, .string t] := Lies.new w1 90 _
        go_wp2_with (fail)
        generalize (w1.alloc (.cells #[.int .i64 (k : Nat), .int .i64 (nn : Nat), .int .i64 0, .int .i64 0, .string t] 90)) = W2 at R2 T2 B2 L2 ⊢
        obtain ⟨gt, hgt2⟩ : ∃ gt, gt = w1.heap.size := ⟨_, rfl⟩
        rw [← hgt2] at L2 hgt hgl1 HAL1 ⊢
        have hne : ¬ gt = g := by omega
        have hne2 : ¬ g = gt := by omega
        have HAG : Hid (∀ g', a = some ⟨g', 0, none⟩ → ¬ g' = gt) := Lib.hid (fun g' e => by have := HAL1.out g' e; omega)
        have HGT := Lib.hid hgt
        clear hgt2 R1 T1 B1 HAL1 hgt
        refine (clone_any t _ (by omega)).mono ?_
        rintro e w3 ⟨rfl, b3⟩
        have R3 : Rd w3 g s i l b := Lies.below R2 b3 (Lies.lt R2)
        have T3 := T2.below b3
        have B3 : Below w.heap.size w w3 := B2.trans (b3.mono B2.size)
        have L3 : Lies w3 gt 90 _ := L2.below b3 L2.lt
        have d4 := L3.cell 4
        have fz := L3.frozen
        clear b3 R2 T2 B2 L2
        go_wp2_with (fail)
        have R4 : Rd (w3.setCell ⟨gt, 4, none⟩ (.string t)) g s i l b := Lies.far R3 (by exact hne2) _
        have T4 : Toks (w3.setCell ⟨gt, 4, none⟩ (.string t)) a c acc := T3.kept ((Kept.refl (fun x => x = gt) w3).setCell (fun _ => rfl) _) HAG.out
        have B4 : Below w.heap.size w (w3.setCell ⟨gt, 4, none⟩ (.string t)) := B3.setCell HGT.out _
        have L4 : Lies (w3.setCell ⟨gt, 4, none⟩ (.string t)) gt 90 [.int .i64 (k : Nat), .int .i64 (nn : Nat), .int .i64 0, .int .i64 0, .string t] := L3.set 4 _
        clear R3 T3 B3 L3 d4 fz
        generalize w3.setCell ⟨gt, 4, none⟩ (.string t) = W4 at R4 T4 B4 L4 ⊢
        have c2 := R4.c2
        have d2 : W4.cell? ⟨gt, 2, none⟩ = some (.int .i64 0) := L4.cell 2
        have d3 : W4.cell? ⟨gt, 3, none⟩ = some (.int .i64 0) := L4.cell 3
        have fz := L4.frozen
        have HR4 := Lib.hid R4
        have HT4 := Lib.hid T4
        have HB4 := Lib.hid B4
        have HL4 := Lib.hid L4
        clear R4 T4 B4 L4
        go_region_held3 (fun w' => w'.cell? ⟨g, 2, none⟩ = some (.int .i64 (l : Nat)))
          (first | go_keep)
          (first
            | (go_at_call 42; refine (hCol.out W4.drew HR4.out).mono ?_; rintro e w' ⟨rfl, q, rfl⟩))
        have R5 : Rd (((W4.drewN (1 + q)).setCell ⟨gt, 2, none⟩ (.int .i64 (l : Nat))).setCell ⟨gt, 3, none⟩ (.int .i64 (cl : Nat))) g s i l b := Lies.far (Lies.far (w := W4.drewN (1 + q)) HR4.out (by exact hne2) _) (by exact hne2) _
        have T5 : Toks (((W4.drewN (1 + q)).setCell ⟨gt, 2, none⟩ (.int .i64 (l : Nat))).setCell ⟨gt, 3, none⟩ (.int .i64 (cl : Nat))) a c acc := Toks.kept (w := W4.drewN (1 + q)) HT4.out (((Kept.refl (fun x => x = gt) (W4.drewN (1 + q))).setCell (fun _ => rfl) _).setCell (fun _ => rfl) _) HAG.out
        have B5 : Below w.heap.size w (((W4.drewN (1 + q)).setCell ⟨gt, 2, none⟩ (.int .i64 (l : Nat))).setCell ⟨gt, 3, none⟩ (.int .i64 (cl : Nat))) := ((HB4.out.trans (below_drewN _ W4 _)).setCell HGT.out _).setCell HGT.out _
        have L5 : Lies (((W4.drewN (1 + q)).setCell ⟨gt, 2, none⟩ (.int .i64 (l : Nat))).setCell ⟨gt, 3, none⟩ (.int .i64 (cl : Nat))) gt 90 [.int .i64 (k : Nat), .int .i64 (nn : Nat), .int .i64 (l : Nat), .int .i64 (cl : Nat), .string t] := Lies.set (Lies.set (w := W4.drewN (1 + q)) HL4.out 2 _) 3 _
        clear c2 d2 d3 fz HR4 HT4 HB4 HL4
        generalize (((W4.drewN (1 + q)).setCell ⟨gt, 2, none⟩ (.int .i64 (l : Nat))).setCell ⟨gt, 3, none⟩ (.int .i64 (cl : Nat))) = W6 at R5 T5 B5 L5 ⊢
        have d0 : W6.cell? ⟨gt, 0, none⟩ = some (.int .i64 (k : Nat)) := L5.cell 0
        have d1 : W6.cell? ⟨gt, 1, none⟩ = some (.int .i64 (nn : Nat)) := L5.cell 1
        have d2 : W6.cell? ⟨gt, 2, none⟩ = some (.int .i64 (l : Nat)) := L5.cell 2
        have d3 : W6.cell? ⟨gt, 3, none⟩ = some (.int .i64 (cl : Nat)) := L5.cell 3
        have d4 : W6.cell? ⟨gt, 4, none⟩ = some (.string t) := L5.cell 4
        have HR5 := Lib.hid R5
        have HT5 := Lib.hid T5
        have HB5 := Lib.hid B5
        have HL5 := Lib.hid L5
        clear R5 T5 B5 L5
        go_wp2_with (at_builtin; refine wpList_app5 _ rfl _ _ rfl a c n _ rfl rfl acc tok (Toks.alloc HT5.out _) ((Lies.new W6 90 [.int .i64 (k : Nat), .int .i64 (nn : Nat), .int .i64 (l : Nat), .int .i64 (cl : Nat), .string t]).to HCE.out.symm) (by have := HN.out; omega) HN.out ?_; intro a' c' W7 T7 K7 O7; (have R7 : Rd W7 g s i l b := Lies.kept (Lies.alloc HR5.out _) K7 hga); (have L7 : Lies W7 gt 90 [.int .i64 (k : Nat), .int .i64 (nn : Nat), .int .i64 (l : Nat), .int .i64 (cl : Nat), .string t] := Lies.kept (Lies.alloc HL5.out _) K7 (fun e => HAG.out _ e rfl)); (have e1 := R7.c1); (have e4 : W7.cell? ⟨gt, 4, none⟩ = some (.string t) := L7.cell 4); (have fz := R7.fz))
        have HR7 := Lib.hid R7
        have HT7 := Lib.hid T7
        have HB7 : Hid (Below w.heap.size w W7) := Lib.hid (kept_below (HB5.out.alloc HB5.out.size _) K7 HS.out.own)
        have HO7 : Hid (∀ g', a' = some ⟨g', 0, none⟩ → w.heap.size ≤ g') := Lib.hid (fun g' e => by
          rcases O7 g' e with h | h
          · exact HS.out.own g' h
          · have h1 := HB5.out.size
            simp at h
            omega)
        clear R7 L7 T7 K7 O7 e1 e4 fz HL5 HT5 HB5 HR5 d0 d1 d2 d3 d4
        have R8 : Rd (W7.setCell ⟨g, 1, none⟩ (.int .i64 ((i : Int) + (t.size : Int)))) g s (i + m) l b := Rd.set1 HR7.out (by have := HTS.out; omega)
        have CK := Lib.hid (skip_any s g (i + m) l b _ R8 h (by omega) (by omega) (by omega))
        have hna : ¬ a' = some ⟨g, 0, none⟩ := rd_toks HR7.out HT7.out
        refine CK.out.mono ?_
        rintro e W9 ⟨i', l', b', rfl, ⟨R9, K9, hi9, his9, hb9, hl9, hg9⟩, hsol9⟩
        have HS9 : Hid (TokSt s g r w W9 i' l' b' (acc ++ [tok]) a' c') := Lib.hid ⟨R9,
          Toks.kept (w := W7.setCell ⟨g, 1, none⟩ (.int .i64 ((i : Int) + (t.size : Int)))) (HT7.out.kept ((Kept.refl (fun x => x = g) W7).setCell (fun _ => rfl) _) (fun g' e e2 => hna (by rw [e, e2]))) K9 (fun g' e e2 => hna (by rw [e, e2])),
          kept_below (HB7.out.setCell HG.out _) K9 (fun x e => by rw [e]; exact HG.out), HG.out, HO7.out, his9, hb9, hl9, by rw [List.length_append, ← HN.out]; simp; omega, by rw [hg9]; exact HT.out, hsol9⟩
        have HI : Hid (i + m ≤ i') := Lib.hid hi9
        have HSZ : Hid (i' ≤ s.size) := Lib.hid his9
        have HM9 := Lib.hid (atOf_rd R9)
        clear R9 K9 hi9 his9 hb9 hl9 hg9 hsol9 R8 CK
        have HN9 : Hid (n + 1 = (acc ++ [tok]).length) := Lib.hid (by rw [HN.out]; simp)
        go_wp2_with (fail)
        go_roundw
        case rel => exact ⟨i', l', b', acc ++ [tok], a', c', HS9, by rw [HN9.out]⟩
        case measure => rw [HM9.out, HM.out]; have := HI.out; have := HSZ.out; omega
    · have hi1 : decide ((i : Int) < (s.size : Int)) = false := by simp; omega
      have hCol := Lib.hid (fun W (R : Rd W g s i l b) => col_any g s i l b W R hbi (by omega))
      have HE : Hid (r = .ok (acc ++ [endAt l (i + 1 - b)])) := Lib.hid (by
        have e := HS.out.eq
        rw [show i = s.size by omega, drop_end, go_nil] at e
        rw [← e, show i = s.size by omega]; rfl)
      obtain ⟨cl, hcl⟩ : ∃ cl, cl = i + 1 - b := ⟨_, rfl⟩
      rw [← hcl] at hCol HE
      clear hcl
      go_wp2_with (fail)
      go_region_held3 (fun w' => w'.cell? ⟨g, 2, none⟩ = some (.int .i64 (l : Nat)))
        (first
          | go_keep
          | (refine (kept_cell K2 (by simp; omega) hga).trans ?_; go_keep))
        (first
          | (go_at_call 42; refine (hCol.out wr.drew HS.out.rd).mono ?_; rintro e w' ⟨rfl, q, rfl⟩)
          | (refine step_app5 _ (by rfl) _ _ (by rfl) a c n _ (by rfl) (by rfl) acc (endAt l cl) (by exact Toks.alloc (by exact HS.out.toks) _) (by exact Lies.new _ 90 (tokCells (endAt l cl))) (by have := HN.out; omega) HN.out ?_; intro a' c' w' T K2 O))
      have HT := Lib.hid T
      have HK2 := Lib.hid K2
      clear T K2 O
      go_wp2
      refine bodyPost_ret (v := .tuple #[.slice a' (n + 1) c', .int .i64 0, .int .i64 0, .int .i64 0]) (by simp [results, Tryd.results21, go_sem]) rfl (HOK.out _ _ a' c' _ (n + 1) HE.out (by simp [HN.out]) rfl HT.out ?_)
      exact kept_below ((HS.out.bel.trans (below_drewN _ wr _)).alloc (by have := HS.out.bel.size; exact this) _) HK2.out HS.out.own

theorem tokens_any (s : ByteArray) (w : World) (hs : s.size ≤ maxLen) : Calls Tryd.prog 21 #[.string s] w (Tells s.data.toList w) := by
  by_cases h : s.size ≤ 16384
  · exact tokens_main s w h
  · exact tokens_limit s w hs (by omega)
end Go.Proofs.YtkdejinhjdkkmaaDoor

/- The program's Check of patterns (stage 5's texts, for this seat): parts, count, hasStar, right, slices.ContainsFunc; the condition: the nodes lie there. -/
import Derived.Test.YtfkaagndlpcfdaaGreatQCf
import Derived.Deep.RegionLaw
import Derived.Laws.StructEq
import Derived.StillTailTactics
namespace Go.Proofs.YtfkaagndlpcfdaaGreat.Q
open Go.ChangeShapes Go.WideShapes Go.ChangeAt Go.RowKit


def prCells (t : Pr) : List Value := [.int .i64 t.1, .bool t.2]
def flatP (ts : List Pr) : List Value := ts.flatMap prCells
theorem flatP_cons (t : Pr) (ts : List Pr) : flatP (t :: ts) = prCells t ++ flatP ts := rfl
theorem flatP_len (ts : List Pr) : (flatP ts).length = ts.length * 2 := by
  induction ts with
  | nil => rfl
  | cons p kv ih => rw [flatP_cons, List.length_append, ih]; simp [prCells]; omega
theorem flatP_append (a b : List Pr) : flatP (a ++ b) = flatP a ++ flatP b := by unfold flatP; rw [List.flatMap_append]
theorem flatP_one (ts : List Pr) : ∀ x ∈ flatP ts, x.oneCell' = true := fun x hx => by
  unfold flatP at hx
  obtain ⟨p, _, hx⟩ := List.mem_flatMap.1 hx
  simp [prCells] at hx
  rcases hx with rfl | rfl <;> rfl
theorem flatP_get (ts : List Pr) (j : Nat) (hj : j < ts.length) (i : Nat) (hi : i < 2) : (flatP ts)[j * 2 + i]? = (prCells ts[j])[i]? := by
  induction ts generalizing j with
  | nil => simp at hj
  | cons t ts ih =>
    rw [flatP_cons]
    cases j with
    | zero => rw [List.getElem?_append_left (by simp [prCells]; omega)]; simp
    | succ j =>
      rw [List.getElem?_append_right (by simp [prCells]; omega)]
      have e : (j + 1) * 2 + i - (prCells t).length = j * 2 + i := by simp [prCells]; omega
      rw [e, ih j (by simpa using hj)]
      rfl

/-- The slice of address a and capacity c is nil, or stands at the head of a block of its own: the tokens ts, and spare room. -/
def Prs (w : World) (a : Option Addr) (c : Nat) (ts : List Pr) : Prop :=
  (a = none ∧ c = 0 ∧ ts = []) ∨ ∃ g sp, a = some ⟨g, 0, none⟩ ∧ sp.length = (c - ts.length) * 2 ∧ ts.length ≤ c ∧ c ≤ 9223372036854775807 ∧ Lies w g 70 (flatP ts ++ sp)

section
variable {w w' : World} {a : Option Addr} {c : Nat} {ts : List Pr}
theorem Prs.nil (w : World) : Prs w none 0 [] := .inl ⟨rfl, rfl, rfl⟩
theorem Prs.kept {X : Nat → Prop} (h : Prs w a c ts) (k : Kept X w w') (hx : ∀ g, a = some ⟨g, 0, none⟩ → ¬ X g) : Prs w' a c ts := by
  rcases h with h | ⟨g, sp, rfl, h1, h2, h3, l⟩
  · exact .inl h
  · exact .inr ⟨g, sp, rfl, h1, h2, h3, l.kept k (hx g rfl)⟩
theorem Prs.below (h : Prs w a c ts) (k : Below w.heap.size w w') : Prs w' a c ts := h.kept (X := fun _ => False) (Kept.of_below k) (fun _ _ h => h)
theorem Prs.lt (h : Prs w a c ts) {g : Nat} (e : a = some ⟨g, 0, none⟩) : g < w.heap.size := by
  subst e
  rcases h with ⟨h, _⟩ | ⟨g', sp, h, _, _, _, l⟩
  · cases h
  · injection h with h; injection h with h; subst h; exact l.lt
theorem Prs.le (h : Prs w a c ts) : ts.length ≤ c ∧ c ≤ 9223372036854775807 := by
  rcases h with ⟨_, rfl, rfl⟩ | ⟨g', sp, _, _, h1, h2, _⟩
  · simp
  · omega
theorem Prs.form (h : Prs w a c ts) : a = none ∨ ∃ g, a = some ⟨g, 0, none⟩ := by
  rcases h with ⟨e, _⟩ | ⟨g, _, e, _⟩
  · exact .inl e
  · exact .inr ⟨g, e⟩
/-- Where a token of a row lies. -/
structure PrAt (w : World) (g o : Nat) (t : Pr) : Prop where
  c0 : w.cell? ⟨g, o, none⟩ = some (.int .i64 t.1)
  c1 : w.cell? ⟨g, o + 1, none⟩ = some (.bool t.2)
theorem Prs.there (h : Prs w a c ts) {j : Nat} (hj : j < ts.length) : ∃ g, a = some ⟨g, 0, none⟩ ∧ PrAt w g (j * 2) ts[j] := by
  rcases h with ⟨_, _, rfl⟩ | ⟨g, sp, rfl, _, _, _, l⟩
  · simp at hj
  · have hl := flatP_len ts
    have hg : ∀ i, i < 2 → w.cell? ⟨g, j * 2 + i, none⟩ = (prCells ts[j])[i]? := fun i hi => by
      rw [l.cell, List.getElem?_append_left (by omega), flatP_get ts j hj i hi]
    exact ⟨g, rfl, ⟨hg 0 (by omega), hg 1 (by omega)⟩⟩
theorem Prs.own (h : Prs w a c ts) : w.ownsRow 0 70 2 (.slice a ts.length c) ts.length (flatP ts) := by
  refine ⟨flatP_len ts, ?_⟩
  rcases h with ⟨rfl, rfl, rfl⟩ | ⟨g, sp, rfl, h1, h2, h3, l⟩
  · exact .inl ⟨rfl, rfl⟩
  · refine .inr ⟨g, c, _, rfl, Nat.zero_le _, l, h2, by unfold maxLen; omega, ?_, ?_⟩
    · simp [flatP_len, h1]; omega
    · rw [← flatP_len ts]; simp
theorem own_prs {v : Value} {n : Nat} (hn : n = ts.length) (h : w.ownsRow 0 70 2 v n (flatP ts)) : ∃ a c, v = .slice a n c ∧ Prs w a c ts := by
  subst hn
  rcases h.2 with ⟨rfl, e⟩ | ⟨g, cap, cur, rfl, _, hh, hn, hm, hs, ht⟩
  · obtain rfl : ts = [] := List.eq_nil_of_length_eq_zero e
    exact ⟨none, 0, rfl, Prs.nil w⟩
  · unfold maxLen at hm
    refine ⟨_, _, rfl, .inr ⟨g, cur.toList.drop (ts.length * 2), rfl, ?_, hn, by omega, (lies_arr hh).to ?_⟩⟩
    · rw [List.length_drop, Array.length_toList, hs]; omega
    · rw [← ht, List.take_append_drop]
end

theorem Tryz.info70 : (Tryz.prog.info? 70).map (fun i => (i.zero, i.size, i.bytes)) = some (some (.agg #[.int .i64 0, .bool false]), 2, 16) := by kernel_rfl

/-- append of one token, which lies in a block of its own, to a row of tokens. -/
theorem appP (ty : TypeId) (a : Option Addr) (c : Nat) (ts : List Pr) (g : Nat) (t : Pr) (w : World) (R : Prs w a c ts) (hg : Lies w g 70 (prCells t)) (hb : ts.length ≤ 1000000) {n : Nat} (hn : n = ts.length) :
    ∃ a' c' w', (Builtin.append_ #[65, 65] ty #[.slice a n c, .slice (some ⟨g, 0, none⟩) 1 1]).run Tryz.prog w = .ok (.slice a' (n + 1) c') w' ∧ Prs w' a' c' (ts ++ [t]) ∧ Kept (fun g => a = some ⟨g, 0, none⟩) w w' ∧
      ∀ g, a' = some ⟨g, 0, none⟩ → a = some ⟨g, 0, none⟩ ∨ w.heap.size ≤ g := by
  subst hn
  obtain ⟨i, hi, hz, hsz, hby⟩ := info_parts Tryz.info70
  have hform := R.form
  obtain ⟨v', w', hr, h2, h3, _, h5⟩ := run_append_own_at (P := Tryz.prog) w 0 65 ty 70 i _ 2 16 Tryz.underlying65 hi hz hsz hby (by simp [Value.cells]) (by omega) _ ts.length (flatP ts) R.own
    ⟨g, 0, none⟩ 1 1 (flatP [t]) (flatP_len [t]) (fun j u hj => by
      rw [Addr.add_lit, Nat.zero_add, hg.cell]
      rw [← hj]
      simp [flatP]) (flatP_one [t]) (by unfold maxLen; omega) (by omega) (Nat.zero_le _)
  rw [← flatP_append] at h2
  obtain ⟨a', c', rfl, r'⟩ := own_prs (by simp) h2
  refine ⟨a', c', w', hr, r', ?_, fun g e => ?_⟩
  · refine ⟨h3.os, h3.tape, h3.output, h3.size, fun g hg hx => h3.block g hg (fun e => ?_)⟩
    obtain ⟨x, rfl, hx'⟩ := (ownBlock_slice a _ _ g).1 e.symm
    rcases hform with h | ⟨g', h⟩
    · cases h
    · injection h with h; subst h; subst hx'; exact hx rfl
  · subst e
    rcases h5 with h5 | h5
    · obtain ⟨x, rfl, hx⟩ := (ownBlock_slice a ts.length c g).1 (by rw [← h5]; rfl)
      rcases hform with h | ⟨g', h⟩
      · cases h
      · injection h with h; subst h; subst hx; exact .inl rfl
    · have : g = w.heap.size := by simpa [Value.ownBlock] using h5
      exact .inr (by omega)

theorem Prs.alloc {w : World} {a : Option Addr} {c : Nat} {ts : List Pr} (h : Prs w a c ts) (o : Obj) : Prs (w.alloc o) a c ts := h.kept (X := fun _ => False) ((Kept.refl _ w).alloc o) (fun _ _ h => h)
theorem step_appP (w : World) {ops : Array Oper} {o : Oper} {x : Act} {K : Act → World → Prop} {Q : Exit → Act → World → Prop} {E : Prop} (hgd : o.guard = none) (s y : Operand)
    (ho : o.op = .call { callee := .builtin .append, args := #[s, y], argTypes := #[65, 65] }) (a : Option Addr) (c n : Nat) (g : Nat) (hs : x.eval s = .slice a n c) (hx : x.eval y = .slice (some ⟨g, 0, none⟩) 1 1)
    (ts : List Pr) (t : Pr) (R : Prs w a c ts) (hg : Lies w g 70 (prCells t)) (hb : ts.length ≤ 1000000) (hn : n = ts.length)
    (h : ∀ a' c' w', Prs w' a' c' (ts ++ [t]) → Kept (fun g => a = some ⟨g, 0, none⟩) w w' → (∀ g, a' = some ⟨g, 0, none⟩ → a = some ⟨g, 0, none⟩ ∨ w.heap.size ≤ g) → K (x.put o.dst (.slice a' (n + 1) c')) w') :
    if Region.wanted o (yielded ops x.tmps) = true then Oper.wp Tryz.prog o x w K Q else E := by
  obtain ⟨a', c', w', hr, h1, h2, h3⟩ := appP o.type a c ts g t w R hg hb hn
  exact step_append_run w hgd s y 65 65 ho _ _ hs hx _ _ hr (h a' c' w' h1 h2 h3)
theorem wpList_appP (w : World) {ops : Array Oper} {rest : List Oper} {o : Oper} {x : Act} {Q : Exit → Act → World → Prop} (hgd : o.guard = none) (s y : Operand)
    (ho : o.op = .call { callee := .builtin .append, args := #[s, y], argTypes := #[65, 65] }) (a : Option Addr) (c n : Nat) (g : Nat) (hs : x.eval s = .slice a n c) (hx : x.eval y = .slice (some ⟨g, 0, none⟩) 1 1)
    (ts : List Pr) (t : Pr) (R : Prs w a c ts) (hg : Lies w g 70 (prCells t)) (hb : ts.length ≤ 1000000) (hn : n = ts.length)
    (h : ∀ a' c' w', Prs w' a' c' (ts ++ [t]) → Kept (fun g => a = some ⟨g, 0, none⟩) w w' → (∀ g, a' = some ⟨g, 0, none⟩ → a = some ⟨g, 0, none⟩ ∨ w.heap.size ≤ g) → wpList Tryz.prog ops Q rest (x.put o.dst (.slice a' (n + 1) c')) w') :
    wpList Tryz.prog ops Q (o :: rest) x w := by
  obtain ⟨a', c', w', hr, h1, h2, h3⟩ := appP o.type a c ts g t w R hg hb hn
  exact Lib.wpList_append_run w hgd s y 65 65 ho _ _ hs hx _ _ hr (h a' c' w' h1 h2 h3)

theorem Prs.cut {w : World} {a : Option Addr} {c : Nat} {ts : List Pr} (h : Prs w a c ts) {k : Nat} (hk : k ≤ ts.length) : Prs w a c (ts.take k) := by
  rcases h with ⟨e1, e2, rfl⟩ | ⟨g, sp, e, h1, h2, h3, l⟩
  · exact .inl ⟨e1, e2, by simp⟩
  · refine .inr ⟨g, flatP (ts.drop k) ++ sp, e, ?_, ?_, h3, l.to ?_⟩
    · rw [List.length_append, flatP_len, List.length_take, List.length_drop, h1, Nat.min_eq_left hk]; omega
    · rw [List.length_take]; omega
    · rw [← List.append_assoc, ← flatP_append, List.take_append_drop]
theorem count_yes (n : Int) (w : World) (h : 1 ≤ n ∧ n ≤ 999999999) : Calls Tryz.prog 42 #[.int .i64 n] w fun e w' => e = .returned (.bool true) ∧ w = w' := by
  obtain ⟨h1, h2⟩ := h
  go_enter Tryz.func42, Tryz.ntmps42
  go_wp2
  go_ret
  exact ⟨rfl, rfl⟩
theorem count_no (n : Int) (w : World) (h : ¬ (1 ≤ n ∧ n ≤ 999999999)) : Calls Tryz.prog 42 #[.int .i64 n] w fun e w' => e = .returned (.bool false) ∧ w = w' := by
  by_cases h1 : 1 ≤ n
  · have h2 : ¬ n ≤ 999999999 := fun h2 => h ⟨h1, h2⟩
    go_enter Tryz.func42, Tryz.ntmps42
    go_wp2
    go_ret
    exact ⟨rfl, rfl⟩
  · go_enter Tryz.func42, Tryz.ntmps42
    go_wp2
    go_ret
    exact ⟨rfl, rfl⟩


theorem parts_any (k : Int) (w : World) : Calls Tryz.prog 27 #[.int .i64 k] w fun e w' => e = .returned (.int .i64 (partsK k : Nat)) ∧ w = w' := by
  unfold partsK
  by_cases h4 : k = 4
  · subst h4
    go_enter Tryz.func27, Tryz.ntmps27
    go_wp2
    go_ret
    exact ⟨rfl, rfl⟩
  · by_cases h5 : k = 5
    · subst h5
      go_enter Tryz.func27, Tryz.ntmps27
      go_wp2
      go_ret
      exact ⟨rfl, rfl⟩
    · rw [if_neg (by omega)]
      by_cases h6 : k = 6
      · subst h6
        go_enter Tryz.func27, Tryz.ntmps27
        go_wp2
        go_ret
        exact ⟨rfl, rfl⟩
      · rw [if_neg h6]
        go_enter Tryz.func27, Tryz.ntmps27
        go_wp2
        go_ret
        exact ⟨rfl, rfl⟩
theorem hasStar_any (p : Int) (s : Bool) (w : World) : Calls Tryz.prog 30 #[.agg #[.int .i64 p, .bool s]] w fun e w' => e = .returned (.bool s) ∧ Below w.heap.size w w' := by
  go_enter Tryz.func30, Tryz.ntmps30
  go_wp2
  go_ret
  exact ⟨rfl, (Below.refl _ _).alloc (Nat.le_refl _) _⟩

/-- The slice at a reads as the parts l; what it reads was there. -/
def PartsAt (w : World) (a : Option Addr) (l : List Pr) : Prop := ∀ j (h : j < l.length), ∃ b off, a = some ⟨b, off, none⟩ ∧ PrAt w b (off + j * 2) l[j] ∧ b < w.heap.size
theorem PartsAt.below {w w' : World} {a : Option Addr} {l : List Pr} (h : PartsAt w a l) (b : Below w.heap.size w w') : PartsAt w' a l := fun j hj => by
  obtain ⟨x, off, e, p, hx⟩ := h j hj
  exact ⟨x, off, e, ⟨(b.cell (p := ⟨x, _, none⟩) hx).trans p.c0, (b.cell (p := ⟨x, _, none⟩) hx).trans p.c1⟩, Nat.lt_of_lt_of_le hx b.size⟩
/-- What a call that looks for a star comes to. -/
def Finds (l : List Pr) (w : World) (e : Ending) (w' : World) : Prop := ∃ z : Int, e = .returned (.int .i64 z) ∧ (0 ≤ z ↔ l.any (·.2) = true) ∧ Below w.heap.size w w'
set_option maxHeartbeats 1000000 in
theorem indexFunc_any (a : Option Addr) (l : List Pr) (c : Nat) (w : World) (P : PartsAt w a l) (hl : l.length ≤ 1000) :
    Calls Tryz.prog 43 #[.slice a l.length c, .func (.func 30) #[] #[]] w (Finds l w) := by
  have HP := Lib.hid P
  clear P
  obtain ⟨n, hn⟩ : ∃ n, n = l.length := ⟨_, rfl⟩
  rw [← hn] at hl ⊢
  have HN := Lib.hid hn
  clear hn
  go_enter Tryz.func43, Tryz.ntmps43
  go_wp2_with (fail)
  go_loopw [4, 5, 8] (fun _ _ i wr => ∃ k : Nat, k ≤ n ∧ i = .int .i64 k ∧ Hid (∀ j (h : j < l.length), j < k → (l[j]).2 = false) ∧ Hid (Below w.heap.size w wr)) (fun _ _ i _ => n - (intOf i).toNat)
  case atStart => exact ⟨0, Nat.zero_le _, rfl, Lib.hid (fun j _ h => by omega), Lib.hid (Below.refl _ _)⟩
  case round =>
    obtain ⟨k, hk, rfl, HF, HB⟩ := hrel
    by_cases hlt : k < n
    · have hkn : k < l.length := by have := HN.out; omega
      obtain ⟨b, off, ha, p, hb⟩ := HP.out.below HB.out k hkn
      subst ha
      have c0 := p.c0
      have c1 := p.c1
      have HA : Hid ((l[k]).2 = true → l.any (·.2) = true) := Lib.hid (fun h => List.any_eq_true.2 ⟨_, List.getElem_mem hkn, h⟩)
      have HX : Hid ((l[k]).2 = false → ∀ j (h : j < l.length), j < k + 1 → (l[j]).2 = false) := Lib.hid (fun h j hj hjk => by
        by_cases e : j = k
        · subst e; exact h
        · exact HF.out j hj (by omega))
      clear p hb
      generalize (l[k]).1 = x at *
      generalize (l[k]).2 = s at *
      have CS := Lib.hid (hasStar_any x s wr)
      cases s with
      | true =>
        go_wp2_with (fail)
        refine CS.out.mono ?_
        rintro e w1 ⟨rfl, b1⟩
        have HB1 : Hid (Below w.heap.size w w1) := Lib.hid (HB.out.trans (b1.mono HB.out.size))
        clear b1
        go_wp2
        go_ret
        exact ⟨k, rfl, ⟨fun _ => HA.out (by trivial), fun _ => by omega⟩, HB1.out⟩
      | false =>
        go_wp2_with (fail)
        refine CS.out.mono ?_
        rintro e w1 ⟨rfl, b1⟩
        have HB1 : Hid (Below w.heap.size w w1) := Lib.hid (HB.out.trans (b1.mono HB.out.size))
        clear b1
        go_wp2
        go_roundw
        case rel => exact ⟨k + 1, by omega, by go_num, Lib.hid (HX.out (by trivial)), HB1⟩
        case measure => simp [intOf]; omega
    · go_wp2
      go_ret
      refine ⟨-1, rfl, ⟨fun h => by omega, fun h => ?_⟩, HB.out⟩
      obtain ⟨x, hx, e⟩ := List.any_eq_true.1 h
      obtain ⟨j, hj, rfl⟩ := List.getElem_of_mem hx
      rw [HF.out j hj (by have := HN.out; omega)] at e
      cases e
theorem containsFunc_any (a : Option Addr) (l : List Pr) (c : Nat) (w : World) (P : PartsAt w a l) (hl : l.length ≤ 1000) :
    Calls Tryz.prog 29 #[.slice a l.length c, .func (.func 30) #[] #[]] w fun e w' => e = .returned (.bool (l.any (·.2))) ∧ Below w.heap.size w w' := by
  have C := Lib.hid (indexFunc_any a l c w P hl)
  clear P
  go_enter Tryz.func29, Tryz.ntmps29
  go_wp2_with (fail)
  refine C.out.mono ?_
  rintro e w1 ⟨z, rfl, hz, b1⟩
  have HB1 := Lib.hid b1
  have HZ := Lib.hid hz
  clear b1 hz
  have HD : Hid (decide (0 ≤ z) = l.any (·.2)) := Lib.hid (by rw [Bool.eq_iff_iff, decide_eq_true_eq]; exact HZ.out)
  go_wp2
  go_ret
  exact ⟨ret_bool HD.out, HB1.out⟩

set_option maxRecDepth 100000 in
set_option maxHeartbeats 4000000 in
theorem right_leaf (k a b n : Int) (x : ByteArray) (tags : Int) (ad : Option Addr) (m c : Nat) (hk : k = 1 ∨ k = 2) (w : World) :
    Calls Tryz.prog 28 #[.agg #[.int .i64 k, .int .i64 a, .int .i64 b, .int .i64 n, .string x], .int .i64 tags, .slice ad m c] w fun e w' => e = .returned (.bool (decide (a = 0) && (decide (b = 0) && decide (n = 0)))) ∧ Below w.heap.size w w' := by
  rcases hk with rfl | rfl
  · go_enter Tryz.func28, Tryz.ntmps28
    go_wp2
    all_goals
      go_ret
      refine ⟨ret_bool (by simp [*]), ?_⟩
      exact ((Below.refl _ _).alloc (Nat.le_refl _) _).alloc (by simp) _
  · go_enter Tryz.func28, Tryz.ntmps28
    go_wp2
    all_goals
      go_ret
      refine ⟨ret_bool (by simp [*]), ?_⟩
      exact ((Below.refl _ _).alloc (Nat.le_refl _) _).alloc (by simp) _
set_option maxRecDepth 100000 in
set_option maxHeartbeats 4000000 in
theorem right_other (k a b n : Int) (x : ByteArray) (tags : Int) (ad : Option Addr) (m c : Nat) (h1 : ¬ k = 1) (h2 : ¬ k = 2) (h3 : ¬ k = 3) (h4 : ¬ k = 4) (h5 : ¬ k = 5) (h6 : ¬ k = 6) (w : World) :
    Calls Tryz.prog 28 #[.agg #[.int .i64 k, .int .i64 a, .int .i64 b, .int .i64 n, .string x], .int .i64 tags, .slice ad m c] w fun e w' => e = .returned (.bool (false)) ∧ Below w.heap.size w w' := by
  go_enter Tryz.func28, Tryz.ntmps28
  go_wp2
  go_ret
  exact ⟨rfl, ((Below.refl _ _).alloc (Nat.le_refl _) _).alloc (by simp) _⟩
set_option maxRecDepth 100000 in
set_option maxHeartbeats 4000000 in
theorem right_tag (a b n : Int) (x : ByteArray) (tags : Int) (ad : Option Addr) (m c : Nat) (w : World) :
    Calls Tryz.prog 28 #[.agg #[.int .i64 3, .int .i64 a, .int .i64 b, .int .i64 n, .string x], .int .i64 tags, .slice ad m c] w fun e w' => e = .returned (.bool (decide (0 ≤ n) && (decide (n < tags) && (decide (1 ≤ a) && (decide (a ≤ 999999999) && decide (b = 0)))))) ∧ Below w.heap.size w w' := by
  have CY := Lib.hid (fun W h => count_yes a W h)
  have CN := Lib.hid (fun W h => count_no a W h)
  obtain ⟨r, hr⟩ : ∃ r, r = (decide (0 ≤ n) && (decide (n < tags) && (decide (1 ≤ a) && (decide (a ≤ 999999999) && decide (b = 0))))) := ⟨_, rfl⟩
  rw [← hr]
  by_cases h1 : 0 ≤ n
  · by_cases h2 : n < tags
    · by_cases h3 : 1 ≤ a ∧ a ≤ 999999999
      · have HR : Hid (r = decide (b = 0)) := Lib.hid (by rw [hr]; simp [h1, h2, h3.1, h3.2])
        clear hr
        go_enter Tryz.func28, Tryz.ntmps28
        go_wp2_with (fail)
        refine (CY.out _ h3).mono ?_
        rintro e w1 ⟨rfl, rfl⟩
        obtain ⟨h3a, h3b⟩ := h3
        go_wp2_with (fail)
        go_region
        all_goals
          go_wp2
        all_goals
          go_ret
          refine ⟨ret_bool (by rw [HR.out]; simp [*]), ?_⟩
          exact (((Below.refl w.heap.size w).alloc (Nat.le_refl _) _).alloc (by simp) _).trans (below_drewN _ _ 1)
      · have HR : Hid (r = false) := Lib.hid (by
          rw [hr]
          by_cases h : 1 ≤ a
          · have : ¬ a ≤ 999999999 := fun h' => h3 ⟨h, h'⟩
            simp [this]
          · simp [h])
        clear hr
        go_enter Tryz.func28, Tryz.ntmps28
        go_wp2_with (fail)
        refine (CN.out _ h3).mono ?_
        rintro e w1 ⟨rfl, rfl⟩
        go_wp2
        go_ret
        exact ⟨ret_bool HR.out.symm, ((Below.refl _ _).alloc (Nat.le_refl _) _).alloc (by simp) _⟩
    · have HR : Hid (r = false) := Lib.hid (by rw [hr]; simp [h2])
      have h2' : tags ≤ n := by omega
      clear hr
      go_enter Tryz.func28, Tryz.ntmps28
      go_wp2
      go_ret
      exact ⟨ret_bool HR.out.symm, ((Below.refl _ _).alloc (Nat.le_refl _) _).alloc (by simp) _⟩
  · have HR : Hid (r = false) := Lib.hid (by rw [hr]; simp [h1])
    clear hr
    go_enter Tryz.func28, Tryz.ntmps28
    go_wp2
    go_ret
    exact ⟨ret_bool HR.out.symm, ((Below.refl _ _).alloc (Nat.le_refl _) _).alloc (by simp) _⟩
set_option maxRecDepth 100000 in
set_option maxHeartbeats 4000000 in
theorem right_two (k a b n : Int) (x : ByteArray) (tags : Int) (ad : Option Addr) (c : Nat) (p q : Pr) (w : World) (hk : k = 4 ∨ k = 5) (P : PartsAt w ad [p, q]) :
    Calls Tryz.prog 28 #[.agg #[.int .i64 k, .int .i64 a, .int .i64 b, .int .i64 n, .string x], .int .i64 tags, .slice ad 2 c] w fun e w' => e = .returned (.bool (decide (a = p.1) && (decide (b = q.1) && decide (n = 0)))) ∧ Below w.heap.size w w' := by
  obtain ⟨g, off, rfl, p0, hg⟩ := P 0 (by simp)
  obtain ⟨g', off', e, p1, -⟩ := P 1 (by simp)
  injection e with e; injection e with e1 e2; subst e1; subst e2
  have c0 := p0.c0
  have c1 := p1.c0
  simp only [List.getElem_cons_zero, List.getElem_cons_succ, Nat.zero_mul, Nat.one_mul, Nat.add_zero] at c0 c1
  generalize p.1 = u at c0 ⊢
  generalize q.1 = v at c1 ⊢
  obtain ⟨r, hr⟩ : ∃ r, r = (decide (a = u) && (decide (b = v) && decide (n = 0))) := ⟨_, rfl⟩
  rw [← hr]
  have HR := Lib.hid hr
  clear hr p0 p1 P
  rcases hk with rfl | rfl
  · go_enter Tryz.func28, Tryz.ntmps28
    go_wp2_with (fail)
    go_region
    all_goals
      go_wp2
    all_goals
      go_ret
      refine ⟨ret_bool (by rw [HR.out]; simp [*]), ?_⟩
      exact (((Below.refl w.heap.size w).alloc (Nat.le_refl _) _).alloc (by simp) _).trans (below_drewN _ _ 1)
  · go_enter Tryz.func28, Tryz.ntmps28
    go_wp2_with (fail)
    go_region
    all_goals
      go_wp2
    all_goals
      go_ret
      refine ⟨ret_bool (by rw [HR.out]; simp [*]), ?_⟩
      exact (((Below.refl w.heap.size w).alloc (Nat.le_refl _) _).alloc (by simp) _).trans (below_drewN _ _ 1)
set_option maxRecDepth 100000 in
set_option maxHeartbeats 4000000 in
theorem right_star (a b n : Int) (x : ByteArray) (tags : Int) (ad : Option Addr) (c : Nat) (p : Pr) (w : World) (P : PartsAt w ad [p]) :
    Calls Tryz.prog 28 #[.agg #[.int .i64 6, .int .i64 a, .int .i64 b, .int .i64 n, .string x], .int .i64 tags, .slice ad 1 c] w fun e w' => e = .returned (.bool (!p.2 && (decide (a = p.1) && (decide (b = 0) && decide (n = 0))))) ∧ Below w.heap.size w w' := by
  obtain ⟨g, off, rfl, p0, hg⟩ := P 0 (by simp)
  have c0 := p0.c0
  have c1 := p0.c1
  simp only [List.getElem_cons_zero, Nat.zero_mul, Nat.add_zero] at c0 c1
  generalize p.1 = u at c0 ⊢
  generalize p.2 = s at c1 ⊢
  obtain ⟨r, hr⟩ : ∃ r, r = (!s && (decide (a = u) && (decide (b = 0) && decide (n = 0)))) := ⟨_, rfl⟩
  rw [← hr]
  have HR := Lib.hid hr
  clear hr p0 P
  cases s with
  | true =>
    go_enter Tryz.func28, Tryz.ntmps28
    go_wp2
    go_ret
    refine ⟨ret_bool (by rw [HR.out]; simp), ?_⟩
    exact ((Below.refl w.heap.size w).alloc (Nat.le_refl _) _).alloc (by simp) _
  | false =>
    go_enter Tryz.func28, Tryz.ntmps28
    go_wp2
    all_goals
      go_ret
      refine ⟨ret_bool (by rw [HR.out]; simp [*]), ?_⟩
      exact ((Below.refl w.heap.size w).alloc (Nat.le_refl _) _).alloc (by simp) _
theorem right_any (y : Nd) (tags : Int) (ad : Option Addr) (c : Nat) (l : List Pr) (w : World) (hl : l.length = partsK y.kind) (P : PartsAt w ad l) :
    Calls Tryz.prog 28 #[.agg #[.int .i64 y.kind, .int .i64 y.a, .int .i64 y.b, .int .i64 y.n, .string y.name], .int .i64 tags, .slice ad l.length c] w fun e w' => e = .returned (.bool (rightB y tags l)) ∧ Below w.heap.size w w' := by
  obtain ⟨k, a, b, n, x⟩ := y
  simp only at hl ⊢
  unfold rightB
  simp only
  by_cases h12 : k = 1 ∨ k = 2
  · rw [if_pos h12]
    exact right_leaf k a b n x tags ad _ c h12 w
  · rw [if_neg h12]
    by_cases h3 : k = 3
    · subst h3
      rw [if_pos rfl]
      exact right_tag a b n x tags ad _ c w
    · rw [if_neg h3]
      unfold partsK at hl
      by_cases h45 : k = 4 ∨ k = 5
      · rw [if_pos h45] at hl
        match l, hl with
        | [p, q], _ =>
          simp only [decide_eq_true h45, Bool.true_and]
          exact right_two k a b n x tags ad c p q w h45 P
      · rw [if_neg h45] at hl
        by_cases h6 : k = 6
        · rw [if_pos h6] at hl
          subst h6
          match l, hl with
          | [p], _ =>
            simp only [decide_true, Bool.true_and]
            exact right_star a b n x tags ad c p w P
        · rw [if_neg h6] at hl
          match l, hl with
          | [], _ => exact right_other k a b n x tags ad _ c (by omega) (by omega) h3 (by omega) (by omega) h6 w


/-- Where the loop of Check stands. -/
structure ChkSt (w wr : World) (ns : List Nd) (tags : Int) (i : Nat) (fl : List Pr) (a : Option Addr) (c : Nat) : Prop where
  prs : Prs wr a c fl
  own : ∀ g, a = some ⟨g, 0, none⟩ → w.heap.size ≤ g
  bel : Below w.heap.size w wr
  eq : chkL tags i (ns.drop i) fl = chkL tags 0 ns []
  len : fl.length ≤ i
/-- The last parts of a row, read through a slice of it. -/
theorem Prs.tail {w : World} {a : Option Addr} {c : Nat} {fl : List Pr} (h : Prs w a c fl) {k : Nat} (hk : k ≤ fl.length) (g : Nat) (ha : a = some ⟨g, 0, none⟩) : PartsAt w (some ⟨g, k * 2, none⟩) (fl.drop k) := fun j hj => by
  rw [List.length_drop] at hj
  obtain ⟨g', e, p⟩ := h.there (j := k + j) (by omega)
  rw [ha] at e
  injection e with e; injection e with e; subst e
  refine ⟨g, k * 2, rfl, ?_, h.lt ha⟩
  rw [List.getElem_drop, show k * 2 + j * 2 = (k + j) * 2 by omega]
  exact p
def pchkOut (w : World) (ns : List Nd) (tags : Int) (e : Ending) (w' : World) : Prop := e = .returned (.bool (chkB ns tags)) ∧ Below w.heap.size w w'

set_option maxRecDepth 100000 in
set_option maxHeartbeats 8000000 in
theorem check_any (ns : List Nd) (tags : Int) (a : Option Addr) (c : Nat) (w : World) (N : NodesAt w a ns) (hm : ns.length ≤ 1000000) :
    Calls Tryz.prog 16 #[.slice a ns.length c, .int .i64 tags] w (pchkOut w ns tags) := by
  have HN := Lib.hid N
  clear N
  obtain ⟨n, hn⟩ : ∃ n, n = ns.length := ⟨_, rfl⟩
  rw [← hn] at hm ⊢
  have HL := Lib.hid hn
  by_cases h24 : n ≤ 24
  · have HO : Hid (∀ r, oneB (chkL tags 0 ns []) = r → chkB ns tags = r) := Lib.hid (fun r h => by unfold chkB; rw [← hn, decide_eq_true h24, Bool.true_and]; exact h)
    clear hn
    have h24' : ¬ (24 : Int) < (n : Int) := by omega
    have H0 : Hid (ChkSt w w ns tags 0 [] none 0) := Lib.hid ⟨Prs.nil w, (fun _ e => nomatch e), Below.refl _ _, rfl, Nat.le_refl _⟩
    go_enter Tryz.func16, Tryz.ntmps16
    go_wp2_with (fail)
    go_loopw [4, 5, 6, 7, 8, 9, 15] (fun _ f _ _ _ _ i wr => ∃ (k : Nat) (fl : List Pr) (fa : Option Addr) (fc : Nat), k ≤ n ∧ i = .int .i64 k ∧ f = .slice fa fl.length fc ∧ Hid (ChkSt w wr ns tags k fl fa fc)) (fun _ _ _ _ _ _ i _ => n - (intOf i).toNat)
    case atStart => exact ⟨0, [], none, 0, Nat.zero_le _, rfl, rfl, H0⟩
    case round =>
      clear H0
      obtain ⟨k, fl, fa, fc, hk, rfl, rfl, HS⟩ := hrel
      by_cases hlt : k < n
      · have hkn : k < ns.length := by have := HL.out; omega
        obtain ⟨gb, off, hga, p, hgb⟩ := HN.out.below HS.out.bel k hkn
        subst hga
        have c0 := p.c0
        have c1 := p.c1
        have c2 := p.c2
        have c3 := p.c3
        have c4 := p.c4
        have hq := chk_on (tags := tags) (fl := fl) hkn
        rw [HS.out.eq] at hq
        have HQ := Lib.hid hq
        clear p hq
        generalize ns[k] = y at c0 c1 c2 c3 c4 HQ
        obtain ⟨pk, hpk⟩ : ∃ pk, pk = partsK y.kind := ⟨_, rfl⟩
        have HPK : Hid (partsK y.kind = pk) := Lib.hid hpk.symm
        have hpl : pk ≤ 2 := by rw [hpk]; unfold partsK; split; omega; split <;> omega
        obtain ⟨L, hL⟩ : ∃ L, L = fl.length := ⟨_, rfl⟩
        rw [← hL]
        have hLk : L ≤ k := by rw [hL]; exact HS.out.len
        by_cases hcut : L < pk
        · have HQ2 : Hid (chkL tags 0 ns [] = none) := Lib.hid (by rw [HQ.out]; unfold chkStep; rw [if_pos (by rw [← hL, ← hpk]; exact hcut)])
          have hneg : decide ((L : Int) - (pk : Int) < 0) = true := by simp; omega
          have HB1 : Hid (Below w.heap.size w (wr.alloc (.cells #[.int .i64 y.kind, .int .i64 y.a, .int .i64 y.b, .int .i64 y.n, .string y.name] 46))) := Lib.hid (HS.out.bel.alloc HS.out.bel.size _)
          clear hpk hL
          go_wp2_with (fail)
          refine (parts_any y.kind _).mono ?_
          rintro e w1 ⟨rfl, rfl⟩
          rw [HPK.out]
          go_wp2_with (fail)
          go_quiet (fail)
          go_wp2
          go_ret
          exact ⟨ret_bool (HO.out _ (by rw [HQ2.out]; rfl)).symm, HB1.out.trans (below_drewN _ _ _)⟩
        · obtain ⟨m, hmL⟩ : ∃ m, L = m + pk := ⟨L - pk, by omega⟩
          subst hmL
          have HDL : Hid ((fl.drop m).length = partsK y.kind) := Lib.hid (by rw [List.length_drop, ← hL, ← hpk]; omega)
          have HDL2 : Hid ((fl.drop m).length = pk) := Lib.hid (by rw [List.length_drop, ← hL]; omega)
          have HML : Hid (m ≤ fl.length) := Lib.hid (by rw [← hL]; omega)
          have HTL : Hid (m = (fl.take m).length) := Lib.hid (by rw [List.length_take, ← hL]; omega)
          have HT1 : Hid ((fl.take m).length ≤ 1000000) := Lib.hid (by rw [List.length_take, ← hL]; omega)
          have HPL := Lib.hid hpl
          have hcm : fl.length - partsK y.kind = m := by rw [← hL, ← hpk]; omega
          have HNO : Hid (rightB y tags (fl.drop m) = false → chkL tags 0 ns [] = none) := Lib.hid (fun h => by
            rw [HQ.out]; unfold chkStep; rw [if_neg (by rw [← hL, ← hpk]; exact hcut), hcm, if_neg (by rw [h]; simp)])
          have HYES : Hid (rightB y tags (fl.drop m) = true → chkL tags 0 ns [] = chkL tags (k + 1) (ns.drop (k + 1)) (fl.take m ++ [((k : Int), decide (y.kind = 6) || (fl.drop m).any (·.2))])) := Lib.hid (fun h => by
            rw [HQ.out]; unfold chkStep; rw [if_neg (by rw [← hL, ← hpk]; exact hcut), hcm, if_pos h])
          have HB1 : Hid (Below w.heap.size w (wr.alloc (.cells #[.int .i64 y.kind, .int .i64 y.a, .int .i64 y.b, .int .i64 y.n, .string y.name] 46))) := Lib.hid (HS.out.bel.alloc HS.out.bel.size _)
          have HL1 : Hid (Lies (wr.alloc (.cells #[.int .i64 y.kind, .int .i64 y.a, .int .i64 y.b, .int .i64 y.n, .string y.name] 46)) wr.heap.size 46 [.int .i64 y.kind, .int .i64 y.a, .int .i64 y.b, .int .i64 y.n, .string y.name]) := Lib.hid (Lies.new wr 46 _)
          have HR1 : Hid (Prs (wr.alloc (.cells #[.int .i64 y.kind, .int .i64 y.a, .int .i64 y.b, .int .i64 y.n, .string y.name] 46)) fa fc fl) := Lib.hid (HS.out.prs.alloc _)
          have HNB : Hid (wr.heap.size = wr.heap.size) := Lib.hid rfl
          have hle := HS.out.prs.le
          rw [← hL] at hle
          have hm0 : decide ((m : Int) < 0) = false := by simp
          have hml : m + pk ≤ 100 := by omega
          clear hpk hL hcm hcut HQ
          rcases HS.out.prs.form with hfa | ⟨g, hfa⟩
          · have hz : m + pk = 0 ∧ fc = 0 := by
              rcases HS.out.prs with ⟨_, h2, h3⟩ | ⟨g', sp, e, _⟩
              · have := HDL2.out; have := HML.out; subst h3; simp at this; simp at *; omega
              · rw [hfa] at e; cases e
            obtain ⟨hz1, hz2⟩ := hz
            obtain rfl : m = 0 := by omega
            obtain rfl : pk = 0 := by omega
            subst hz2
            subst hfa
            have HP1 : Hid (PartsAt (wr.alloc (.cells #[.int .i64 y.kind, .int .i64 y.a, .int .i64 y.b, .int .i64 y.n, .string y.name] 46)) none (fl.drop 0)) := Lib.hid (fun j hj => by have := HDL2.out; omega)
            clear hle hml hz1
            go_wp2_with (fail)
            refine (parts_any y.kind _).mono ?_
            rintro e w1 ⟨rfl, rfl⟩
            rw [HPK.out]
            go_wp2_with (fail)
            generalize wr.alloc (.cells #[.int .i64 y.kind, .int .i64 y.a, .int .i64 y.b, .int .i64 y.n, .string y.name] 46) = W1 at HB1 HL1 HP1 HR1 ⊢
            generalize wr.heap.size = nb at HL1 HNB ⊢
            refine wp_region_still_tail 8 (by kernel_rfl) (by kernel_rfl) ?_
            change wpStill _ _ W1.drew (fun a' => wpList _ _ _ _ a' W1.drew) _ _
            have HB2 : Hid (Below w.heap.size w W1.drew) := Lib.hid (HB1.out.trans (below_drewN _ _ 1))
            have HL2 : Hid (Lies W1.drew nb _ _) := Lib.hid (Lies.drew HL1.out)
            have HP2 : Hid (PartsAt W1.drew (none) (fl.drop 0)) := Lib.hid (HP1.out.below (below_drewN _ _ 1))
            have HR2 : Hid (Prs W1.drew (none) (0) fl) := Lib.hid HR1.out
            clear HB1 HL1 HP1 HR1
            generalize W1.drew = W2 at *
            have n0 := HL2.out.cell 0
            have n1 := HL2.out.cell 1
            have n2 := HL2.out.cell 2
            have n3 := HL2.out.cell 3
            have n4 := HL2.out.cell 4
            simp only [List.getElem?_cons_zero, List.getElem?_cons_succ] at n0 n1 n2 n3 n4
            simp only [List.take_succ_cons, List.take_zero, List.drop_succ_cons, List.drop_zero]
            repeat still_step
            refine wpStill_nil ?_
            have CR := right_any y tags (none) (0) (fl.drop 0) W2 HDL.out HP2.out
            rw [HDL2.out] at CR
            cases hrb : rightB y tags (fl.drop 0) with
            | false =>
              rw [hrb] at CR
              have CR := Lib.hid CR
              have HQ2 := Lib.hid (HNO.out hrb)
              clear hrb HYES
              go_wp2_with (fail)
              refine CR.out.mono ?_
              rintro e w3 ⟨rfl, b3⟩
              have HB3 : Hid (Below w.heap.size w w3) := Lib.hid (HB2.out.trans (b3.mono HB2.out.size))
              clear b3 n0 n1 n2 n3 n4
              go_wp2
              go_ret
              exact ⟨ret_bool (HO.out _ (by rw [HQ2.out]; rfl)).symm, HB3.out⟩
            | true =>
              rw [hrb] at CR
              have CR := Lib.hid CR
              have HQ2 := Lib.hid (HYES.out hrb)
              clear hrb HNO
              go_wp2_with (fail)
              refine CR.out.mono ?_
              rintro e w3 ⟨rfl, b3⟩
              have HB3 : Hid (Below w.heap.size w w3) := Lib.hid (HB2.out.trans (b3.mono HB2.out.size))
              have HP3 : Hid (PartsAt w3 (none) (fl.drop 0)) := Lib.hid (HP2.out.below b3)
              have HR3 : Hid (Prs w3 (none) (0) fl) := Lib.hid (HR2.out.below b3)
              have l0 : w3.cell? ⟨nb, 0, none⟩ = some (.int .i64 y.kind) := (HL2.out.below b3 HL2.out.lt).cell 0
              clear b3 n0 n1 n2 n3 n4 HP2 HR2 HL2 HB2 CR
              by_cases h6 : y.kind = 6
              · have HQ3 : Hid (chkL tags 0 ns [] = chkL tags (k + 1) (ns.drop (k + 1)) (fl.take 0 ++ [((k : Int), true)])) := Lib.hid (by rw [HQ2.out, decide_eq_true h6, Bool.true_or])
                clear HQ2
                go_wp2_with (at_builtin; refine wpList_appP _ rfl _ _ rfl (none) (0) 0 _ rfl rfl (fl.take 0) ((k : Int), true) (Prs.alloc (HR3.out.cut HML.out) _) (Lies.new w3 70 (prCells ((k : Int), true))) HT1.out HTL.out ?_; intro a' c' w5 T5 K5 O5; (have HT5 := Lib.hid T5); (have HK5 := Lib.hid K5); (have HO5 := Lib.hid O5); clear T5 K5 O5)
                go_roundw
                case rel =>
                  refine ⟨k + 1, fl.take 0 ++ [((k : Int), true)], a', c', by omega, by go_num, by rw [List.length_append, ← HTL.out]; rfl, Lib.hid ⟨HT5.out, fun g e => ?_, kept_below (HB3.out.alloc HB3.out.size _) HK5.out HS.out.own, by rw [← HQ3.out], by rw [List.length_append, ← HTL.out]; have := HS.out.len; have := HML.out; simp only [List.length_cons, List.length_nil]; omega⟩⟩
                  rcases HO5.out g e with h | h
                  · exact HS.out.own g h
                  · have := HB3.out.size
                    simp at h
                    omega
                case measure => simp [intOf]; omega
              · have HQ3 : Hid (chkL tags 0 ns [] = chkL tags (k + 1) (ns.drop (k + 1)) (fl.take 0 ++ [((k : Int), (fl.drop 0).any (·.2))])) := Lib.hid (by rw [HQ2.out, decide_eq_false h6, Bool.false_or])
                have h6' : (y.kind == 6) = false := by simp [h6]
                have CC := containsFunc_any (none) (fl.drop 0) (0) w3 HP3.out (by rw [HDL2.out]; have := HPL.out; omega)
                rw [HDL2.out] at CC
                have CC := Lib.hid CC
                clear HQ2
                go_wp2_with (fail)
                refine CC.out.mono ?_
                rintro e w4 ⟨rfl, b4⟩
                have HB4 : Hid (Below w.heap.size w w4) := Lib.hid (HB3.out.trans (b4.mono HB3.out.size))
                have HR4 : Hid (Prs w4 (none) (0) fl) := Lib.hid (HR3.out.below b4)
                clear b4 HR3 HB3 CC l0 HP3
                generalize (fl.drop 0).any (·.2) = sb at HQ3 ⊢
                go_wp2_with (at_builtin; refine wpList_appP _ rfl _ _ rfl (none) (0) 0 _ rfl rfl (fl.take 0) ((k : Int), sb) (Prs.alloc (HR4.out.cut HML.out) _) (Lies.new w4 70 (prCells ((k : Int), sb))) HT1.out HTL.out ?_; intro a' c' w5 T5 K5 O5; (have HT5 := Lib.hid T5); (have HK5 := Lib.hid K5); (have HO5 := Lib.hid O5); clear T5 K5 O5)
                go_roundw
                case rel =>
                  refine ⟨k + 1, fl.take 0 ++ [((k : Int), sb)], a', c', by omega, by go_num, by rw [List.length_append, ← HTL.out]; rfl, Lib.hid ⟨HT5.out, fun g e => ?_, kept_below (HB4.out.alloc HB4.out.size _) HK5.out HS.out.own, by rw [← HQ3.out], by rw [List.length_append, ← HTL.out]; have := HS.out.len; have := HML.out; simp only [List.length_cons, List.length_nil]; omega⟩⟩
                  rcases HO5.out g e with h | h
                  · exact HS.out.own g h
                  · have := HB4.out.size
                    simp at h
                    omega
                case measure => simp [intOf]; omega
          · subst hfa
            by_cases hfc : fc = m
            · subst hfc
              obtain rfl : pk = 0 := by omega
              have HP1 : Hid (PartsAt (wr.alloc (.cells #[.int .i64 y.kind, .int .i64 y.a, .int .i64 y.b, .int .i64 y.n, .string y.name] 46)) (some ⟨g, 0, none⟩) (fl.drop fc)) := Lib.hid (fun j hj => by have := HDL2.out; omega)
              clear hle hml
              go_wp2_with (fail)
              refine (parts_any y.kind _).mono ?_
              rintro e w1 ⟨rfl, rfl⟩
              rw [HPK.out]
              go_wp2_with (fail)
              generalize wr.alloc (.cells #[.int .i64 y.kind, .int .i64 y.a, .int .i64 y.b, .int .i64 y.n, .string y.name] 46) = W1 at HB1 HL1 HP1 HR1 ⊢
              generalize wr.heap.size = nb at HL1 HNB ⊢
              refine wp_region_still_tail 8 (by kernel_rfl) (by kernel_rfl) ?_
              change wpStill _ _ W1.drew (fun a' => wpList _ _ _ _ a' W1.drew) _ _
              have HB2 : Hid (Below w.heap.size w W1.drew) := Lib.hid (HB1.out.trans (below_drewN _ _ 1))
              have HL2 : Hid (Lies W1.drew nb _ _) := Lib.hid (Lies.drew HL1.out)
              have HP2 : Hid (PartsAt W1.drew (some ⟨g, 0, none⟩) (fl.drop fc)) := Lib.hid (HP1.out.below (below_drewN _ _ 1))
              have HR2 : Hid (Prs W1.drew (some ⟨g, 0, none⟩) (fc) fl) := Lib.hid HR1.out
              clear HB1 HL1 HP1 HR1
              generalize W1.drew = W2 at *
              have n0 := HL2.out.cell 0
              have n1 := HL2.out.cell 1
              have n2 := HL2.out.cell 2
              have n3 := HL2.out.cell 3
              have n4 := HL2.out.cell 4
              simp only [List.getElem?_cons_zero, List.getElem?_cons_succ] at n0 n1 n2 n3 n4
              simp only [List.take_succ_cons, List.take_zero, List.drop_succ_cons, List.drop_zero]
              repeat still_step
              refine wpStill_nil ?_
              have CR := right_any y tags (some ⟨g, 0, none⟩) (0) (fl.drop fc) W2 HDL.out HP2.out
              rw [HDL2.out] at CR
              cases hrb : rightB y tags (fl.drop fc) with
              | false =>
                rw [hrb] at CR
                have CR := Lib.hid CR
                have HQ2 := Lib.hid (HNO.out hrb)
                clear hrb HYES
                go_wp2_with (fail)
                refine CR.out.mono ?_
                rintro e w3 ⟨rfl, b3⟩
                have HB3 : Hid (Below w.heap.size w w3) := Lib.hid (HB2.out.trans (b3.mono HB2.out.size))
                clear b3 n0 n1 n2 n3 n4
                go_wp2
                go_ret
                exact ⟨ret_bool (HO.out _ (by rw [HQ2.out]; rfl)).symm, HB3.out⟩
              | true =>
                rw [hrb] at CR
                have CR := Lib.hid CR
                have HQ2 := Lib.hid (HYES.out hrb)
                clear hrb HNO
                go_wp2_with (fail)
                refine CR.out.mono ?_
                rintro e w3 ⟨rfl, b3⟩
                have HB3 : Hid (Below w.heap.size w w3) := Lib.hid (HB2.out.trans (b3.mono HB2.out.size))
                have HP3 : Hid (PartsAt w3 (some ⟨g, 0, none⟩) (fl.drop fc)) := Lib.hid (HP2.out.below b3)
                have HR3 : Hid (Prs w3 (some ⟨g, 0, none⟩) (fc) fl) := Lib.hid (HR2.out.below b3)
                have l0 : w3.cell? ⟨nb, 0, none⟩ = some (.int .i64 y.kind) := (HL2.out.below b3 HL2.out.lt).cell 0
                clear b3 n0 n1 n2 n3 n4 HP2 HR2 HL2 HB2 CR
                by_cases h6 : y.kind = 6
                · have HQ3 : Hid (chkL tags 0 ns [] = chkL tags (k + 1) (ns.drop (k + 1)) (fl.take fc ++ [((k : Int), true)])) := Lib.hid (by rw [HQ2.out, decide_eq_true h6, Bool.true_or])
                  clear HQ2
                  go_wp2_with (at_builtin; refine wpList_appP _ rfl _ _ rfl (some ⟨g, 0, none⟩) (fc) fc _ rfl rfl (fl.take fc) ((k : Int), true) (Prs.alloc (HR3.out.cut HML.out) _) (Lies.new w3 70 (prCells ((k : Int), true))) HT1.out HTL.out ?_; intro a' c' w5 T5 K5 O5; (have HT5 := Lib.hid T5); (have HK5 := Lib.hid K5); (have HO5 := Lib.hid O5); clear T5 K5 O5)
                  go_roundw
                  case rel =>
                    refine ⟨k + 1, fl.take fc ++ [((k : Int), true)], a', c', by omega, by go_num, by rw [List.length_append, ← HTL.out]; rfl, Lib.hid ⟨HT5.out, fun g e => ?_, kept_below (HB3.out.alloc HB3.out.size _) HK5.out HS.out.own, by rw [← HQ3.out], by rw [List.length_append, ← HTL.out]; have := HS.out.len; have := HML.out; simp only [List.length_cons, List.length_nil]; omega⟩⟩
                    rcases HO5.out g e with h | h
                    · exact HS.out.own g h
                    · have := HB3.out.size
                      simp at h
                      omega
                  case measure => simp [intOf]; omega
                · have HQ3 : Hid (chkL tags 0 ns [] = chkL tags (k + 1) (ns.drop (k + 1)) (fl.take fc ++ [((k : Int), (fl.drop fc).any (·.2))])) := Lib.hid (by rw [HQ2.out, decide_eq_false h6, Bool.false_or])
                  have h6' : (y.kind == 6) = false := by simp [h6]
                  have CC := containsFunc_any (some ⟨g, 0, none⟩) (fl.drop fc) (0) w3 HP3.out (by rw [HDL2.out]; have := HPL.out; omega)
                  rw [HDL2.out] at CC
                  have CC := Lib.hid CC
                  clear HQ2
                  go_wp2_with (fail)
                  refine CC.out.mono ?_
                  rintro e w4 ⟨rfl, b4⟩
                  have HB4 : Hid (Below w.heap.size w w4) := Lib.hid (HB3.out.trans (b4.mono HB3.out.size))
                  have HR4 : Hid (Prs w4 (some ⟨g, 0, none⟩) (fc) fl) := Lib.hid (HR3.out.below b4)
                  clear b4 HR3 HB3 CC l0 HP3
                  generalize (fl.drop fc).any (·.2) = sb at HQ3 ⊢
                  go_wp2_with (at_builtin; refine wpList_appP _ rfl _ _ rfl (some ⟨g, 0, none⟩) (fc) fc _ rfl rfl (fl.take fc) ((k : Int), sb) (Prs.alloc (HR4.out.cut HML.out) _) (Lies.new w4 70 (prCells ((k : Int), sb))) HT1.out HTL.out ?_; intro a' c' w5 T5 K5 O5; (have HT5 := Lib.hid T5); (have HK5 := Lib.hid K5); (have HO5 := Lib.hid O5); clear T5 K5 O5)
                  go_roundw
                  case rel =>
                    refine ⟨k + 1, fl.take fc ++ [((k : Int), sb)], a', c', by omega, by go_num, by rw [List.length_append, ← HTL.out]; rfl, Lib.hid ⟨HT5.out, fun g e => ?_, kept_below (HB4.out.alloc HB4.out.size _) HK5.out HS.out.own, by rw [← HQ3.out], by rw [List.length_append, ← HTL.out]; have := HS.out.len; have := HML.out; simp only [List.length_cons, List.length_nil]; omega⟩⟩
                    rcases HO5.out g e with h | h
                    · exact HS.out.own g h
                    · have := HB4.out.size
                      simp at h
                      omega
                  case measure => simp [intOf]; omega
            · have HP1 : Hid (PartsAt (wr.alloc (.cells #[.int .i64 y.kind, .int .i64 y.a, .int .i64 y.b, .int .i64 y.n, .string y.name] 46)) (some ⟨g, m * 2, none⟩) (fl.drop m)) := Lib.hid (Prs.tail HR1.out HML.out g rfl)
              have hcap : m ≤ fc := by omega
              have hi1 : (m : Int) ≤ (m : Int) + (pk : Int) := by omega
              have hi2 : (m : Int) ≤ ((m + pk : Nat) : Int) := by omega
              have hi3 : (0 : Int) ≤ (m : Int) := by omega
              go_wp2_with (fail)
              refine (parts_any y.kind _).mono ?_
              rintro e w1 ⟨rfl, rfl⟩
              rw [HPK.out]
              go_wp2_with (fail)
              generalize wr.alloc (.cells #[.int .i64 y.kind, .int .i64 y.a, .int .i64 y.b, .int .i64 y.n, .string y.name] 46) = W1 at HB1 HL1 HP1 HR1 ⊢
              generalize wr.heap.size = nb at HL1 HNB ⊢
              refine wp_region_still_tail 8 (by kernel_rfl) (by kernel_rfl) ?_
              change wpStill _ _ W1.drew (fun a' => wpList _ _ _ _ a' W1.drew) _ _
              have HB2 : Hid (Below w.heap.size w W1.drew) := Lib.hid (HB1.out.trans (below_drewN _ _ 1))
              have HL2 : Hid (Lies W1.drew nb _ _) := Lib.hid (Lies.drew HL1.out)
              have HP2 : Hid (PartsAt W1.drew (some ⟨g, m * 2, none⟩) (fl.drop m)) := Lib.hid (HP1.out.below (below_drewN _ _ 1))
              have HR2 : Hid (Prs W1.drew (some ⟨g, 0, none⟩) (fc) fl) := Lib.hid HR1.out
              clear HB1 HL1 HP1 HR1
              generalize W1.drew = W2 at *
              have n0 := HL2.out.cell 0
              have n1 := HL2.out.cell 1
              have n2 := HL2.out.cell 2
              have n3 := HL2.out.cell 3
              have n4 := HL2.out.cell 4
              simp only [List.getElem?_cons_zero, List.getElem?_cons_succ] at n0 n1 n2 n3 n4
              simp only [List.take_succ_cons, List.take_zero, List.drop_succ_cons, List.drop_zero]
              repeat still_step
              refine wpStill_nil ?_
              have CR := right_any y tags (some ⟨g, m * 2, none⟩) (fc - m) (fl.drop m) W2 HDL.out HP2.out
              rw [HDL2.out] at CR
              cases hrb : rightB y tags (fl.drop m) with
              | false =>
                rw [hrb] at CR
                have CR := Lib.hid CR
                have HQ2 := Lib.hid (HNO.out hrb)
                clear hrb HYES
                go_wp2_with (fail)
                refine CR.out.mono ?_
                rintro e w3 ⟨rfl, b3⟩
                have HB3 : Hid (Below w.heap.size w w3) := Lib.hid (HB2.out.trans (b3.mono HB2.out.size))
                clear b3 n0 n1 n2 n3 n4
                go_wp2
                go_ret
                exact ⟨ret_bool (HO.out _ (by rw [HQ2.out]; rfl)).symm, HB3.out⟩
              | true =>
                rw [hrb] at CR
                have CR := Lib.hid CR
                have HQ2 := Lib.hid (HYES.out hrb)
                clear hrb HNO
                go_wp2_with (fail)
                refine CR.out.mono ?_
                rintro e w3 ⟨rfl, b3⟩
                have HB3 : Hid (Below w.heap.size w w3) := Lib.hid (HB2.out.trans (b3.mono HB2.out.size))
                have HP3 : Hid (PartsAt w3 (some ⟨g, m * 2, none⟩) (fl.drop m)) := Lib.hid (HP2.out.below b3)
                have HR3 : Hid (Prs w3 (some ⟨g, 0, none⟩) (fc) fl) := Lib.hid (HR2.out.below b3)
                have l0 : w3.cell? ⟨nb, 0, none⟩ = some (.int .i64 y.kind) := (HL2.out.below b3 HL2.out.lt).cell 0
                clear b3 n0 n1 n2 n3 n4 HP2 HR2 HL2 HB2 CR
                by_cases h6 : y.kind = 6
                · have HQ3 : Hid (chkL tags 0 ns [] = chkL tags (k + 1) (ns.drop (k + 1)) (fl.take m ++ [((k : Int), true)])) := Lib.hid (by rw [HQ2.out, decide_eq_true h6, Bool.true_or])
                  clear HQ2
                  go_wp2_with (at_builtin; refine wpList_appP _ rfl _ _ rfl (some ⟨g, 0, none⟩) (fc) m _ rfl rfl (fl.take m) ((k : Int), true) (Prs.alloc (HR3.out.cut HML.out) _) (Lies.new w3 70 (prCells ((k : Int), true))) HT1.out HTL.out ?_; intro a' c' w5 T5 K5 O5; (have HT5 := Lib.hid T5); (have HK5 := Lib.hid K5); (have HO5 := Lib.hid O5); clear T5 K5 O5)
                  go_roundw
                  case rel =>
                    refine ⟨k + 1, fl.take m ++ [((k : Int), true)], a', c', by omega, by go_num, by rw [List.length_append, ← HTL.out]; rfl, Lib.hid ⟨HT5.out, fun g e => ?_, kept_below (HB3.out.alloc HB3.out.size _) HK5.out HS.out.own, by rw [← HQ3.out], by rw [List.length_append, ← HTL.out]; have := HS.out.len; have := HML.out; simp only [List.length_cons, List.length_nil]; omega⟩⟩
                    rcases HO5.out g e with h | h
                    · exact HS.out.own g h
                    · have := HB3.out.size
                      simp at h
                      omega
                  case measure => simp [intOf]; omega
                · have HQ3 : Hid (chkL tags 0 ns [] = chkL tags (k + 1) (ns.drop (k + 1)) (fl.take m ++ [((k : Int), (fl.drop m).any (·.2))])) := Lib.hid (by rw [HQ2.out, decide_eq_false h6, Bool.false_or])
                  have h6' : (y.kind == 6) = false := by simp [h6]
                  have CC := containsFunc_any (some ⟨g, m * 2, none⟩) (fl.drop m) (fc - m) w3 HP3.out (by rw [HDL2.out]; have := HPL.out; omega)
                  rw [HDL2.out] at CC
                  have CC := Lib.hid CC
                  clear HQ2
                  go_wp2_with (fail)
                  refine CC.out.mono ?_
                  rintro e w4 ⟨rfl, b4⟩
                  have HB4 : Hid (Below w.heap.size w w4) := Lib.hid (HB3.out.trans (b4.mono HB3.out.size))
                  have HR4 : Hid (Prs w4 (some ⟨g, 0, none⟩) (fc) fl) := Lib.hid (HR3.out.below b4)
                  clear b4 HR3 HB3 CC l0 HP3
                  generalize (fl.drop m).any (·.2) = sb at HQ3 ⊢
                  go_wp2_with (at_builtin; refine wpList_appP _ rfl _ _ rfl (some ⟨g, 0, none⟩) (fc) m _ rfl rfl (fl.take m) ((k : Int), sb) (Prs.alloc (HR4.out.cut HML.out) _) (Lies.new w4 70 (prCells ((k : Int), sb))) HT1.out HTL.out ?_; intro a' c' w5 T5 K5 O5; (have HT5 := Lib.hid T5); (have HK5 := Lib.hid K5); (have HO5 := Lib.hid O5); clear T5 K5 O5)
                  go_roundw
                  case rel =>
                    refine ⟨k + 1, fl.take m ++ [((k : Int), sb)], a', c', by omega, by go_num, by rw [List.length_append, ← HTL.out]; rfl, Lib.hid ⟨HT5.out, fun g e => ?_, kept_below (HB4.out.alloc HB4.out.size _) HK5.out HS.out.own, by rw [← HQ3.out], by rw [List.length_append, ← HTL.out]; have := HS.out.len; have := HML.out; simp only [List.length_cons, List.length_nil]; omega⟩⟩
                    rcases HO5.out g e with h | h
                    · exact HS.out.own g h
                    · have := HB4.out.size
                      simp at h
                      omega
                  case measure => simp [intOf]; omega
      · obtain rfl : k = n := by omega
        have HE : Hid (chkL tags 0 ns [] = some fl) := Lib.hid (by rw [← HS.out.eq, HL.out, List.drop_length]; rfl)
        by_cases h1 : fl.length = 1
        · have HV : Hid (chkB ns tags = true) := Lib.hid (HO.out _ (by
            rw [HE.out]
            match fl, h1 with
            | [p], _ => rfl))
          have h1' : (fl.length : Int) = 1 := by omega
          clear h1
          go_wp2
          go_ret
          exact ⟨ret_bool HV.out.symm, HS.out.bel⟩
        · have HV : Hid (chkB ns tags = false) := Lib.hid (HO.out _ (by
            rw [HE.out]
            match fl, h1 with
            | [], _ => rfl
            | _ :: _ :: _, _ => rfl))
          have h1' : ((fl.length : Int) == 1) = false := by simp; omega
          go_wp2
          go_ret
          exact ⟨ret_bool HV.out.symm, HS.out.bel⟩
  · have HV : Hid (chkB ns tags = false) := Lib.hid (by unfold chkB; rw [← hn, decide_eq_false h24, Bool.false_and])
    have h24' : (24 : Int) < (n : Int) := by omega
    clear hn
    go_enter Tryz.func16, Tryz.ntmps16
    go_wp2
    go_ret
    exact ⟨ret_bool HV.out.symm, Below.refl _ _⟩
end Go.Proofs.YtfkaagndlpcfdaaGreat.Q

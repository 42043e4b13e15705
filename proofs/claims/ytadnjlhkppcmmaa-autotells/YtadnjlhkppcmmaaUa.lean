/- Rows of raw items that came in; Cut of them; an argument of their type opened. -/
import Derived.Test.YtadnjlhkppcmmaaTe
import Derived.Deep.Slices
namespace Go.Proofs.Ytadnjlhkppcmmaa
open Go.ChangeShapes Go.WideShapes Go.ChangeAt Go.RowKit

/-- A raw item that came in. -/
structure Raw9 where
  j : Int
  a : Option Addr
  l : Nat
  c : Nat
  zs : List Int
def Raw9.cells (r : Raw9) : List Value := [.int .i64 r.j, .slice r.a r.l r.c]
def iraw (qs : List Raw9) : List Value := qs.flatMap Raw9.cells
theorem iraw_len : ∀ ls : List Raw9, (iraw ls).length = ls.length * 2
  | [] => rfl
  | l :: r => by
    have e : iraw (l :: r) = l.cells ++ iraw r := rfl
    rw [e, List.length_append, iraw_len r, List.length_cons]
    show 2 + _ = _
    omega
theorem iraw_get : ∀ (ls : List Raw9) (k : Nat) (hk : k < ls.length) (i : Nat), i < 2 → (iraw ls)[k * 2 + i]? = (ls[k]).cells[i]?
  | [], _, hk, _, _ => by simp at hk
  | l :: r, 0, _, i, hi => by
    have e : iraw (l :: r) = l.cells ++ iraw r := rfl
    rw [e, List.getElem?_append_left (by show 0 * 2 + i < 2; omega)]
    simp
  | l :: r, k + 1, hk, i, hi => by
    have e : iraw (l :: r) = l.cells ++ iraw r := rfl
    rw [e, List.getElem?_append_right (by show 2 ≤ _; omega)]
    have := iraw_get r k (by simpa using hk) i hi
    have e2 : (k + 1) * 2 + i - l.cells.length = k * 2 + i := by show (k + 1) * 2 + i - 2 = _; omega
    rw [e2, this]
    simp
theorem iraw_one (ls : List Raw9) : ∀ x ∈ iraw ls, x.oneCell' = true := fun x hx => by
  obtain ⟨l, _, h⟩ := List.mem_flatMap.1 hx
  simp only [Raw9.cells, List.mem_cons, List.not_mem_nil, or_false] at h
  rcases h with rfl | rfl <;> rfl
theorem iraw_take : ∀ (ls : List Raw9) (k : Nat), (iraw ls).take (k * 2) = iraw (ls.take k)
  | [], k => by simp [iraw]
  | l :: r, 0 => by simp [iraw]
  | l :: r, k + 1 => by
    have e : iraw (l :: r) = l.cells ++ iraw r := rfl
    have e2 : iraw ((l :: r).take (k + 1)) = l.cells ++ iraw (r.take k) := rfl
    have hl : l.cells.length = 2 := rfl
    rw [e, e2, ← iraw_take r k, List.take_append, hl, List.take_of_length_le (by rw [hl]; omega)]
    congr 2
    omega
/-- What is known of a slice of raw items that came in. -/
structure CameIts (w : World) (pa : Option Addr) (m pc : Nat) (qs : List Raw9) : Prop where
  len : m ≤ 9223372036854775807
  nil : pa = none → m = 0 ∧ pc = 0
  cap : m ≤ pc
  num : qs.length = m
  row : ∀ k u, (iraw qs)[k]? = some u → ∃ b off, pa = some ⟨b, off, none⟩ ∧ w.cell? ⟨b, off + k, none⟩ = some u ∧ b < w.heap.size
  each : ∀ r ∈ qs, Came w r.a r.l r.c r.zs
theorem CameIts.below {w w' : World} {pa : Option Addr} {m pc : Nat} {qs : List Raw9} (h : CameIts w pa m pc qs) (b : Below w.heap.size w w') : CameIts w' pa m pc qs :=
  ⟨h.len, h.nil, h.cap, h.num, fun k u hu => by
    obtain ⟨bb, off, e, hc, hb⟩ := h.row k u hu
    exact ⟨bb, off, e, (b.cell (p := ⟨bb, off + k, none⟩) hb).trans hc, Nat.lt_of_lt_of_le hb b.size⟩, fun r hr => (h.each r hr).below b⟩
/-- A slice of n elements of two cells each. -/
def RowR9 (w : World) (a : Option Addr) (c n : Nat) (xs : List Value) : Prop :=
  xs.length = n * 2 ∧ ((a = none ∧ c = 0 ∧ n = 0) ∨ ∃ g sp, a = some ⟨g, 0, none⟩ ∧ c * 2 = xs.length + sp.length ∧ n ≤ c ∧ c ≤ 9223372036854775807 ∧ Lies w g 73 (xs ++ sp))
section
variable {w w' : World} {a : Option Addr} {c n : Nat} {xs : List Value}
theorem RowR9.nil (w : World) : RowR9 w none 0 0 [] := ⟨rfl, .inl ⟨rfl, rfl, rfl⟩⟩
theorem RowR9.kept {X : Nat → Prop} (h : RowR9 w a c n xs) (k : Kept X w w') (hx : ∀ g, a = some ⟨g, 0, none⟩ → ¬ X g) : RowR9 w' a c n xs := by
  obtain ⟨h0, h⟩ := h
  rcases h with h | ⟨g, sp, e, h1, h2, h3, l⟩
  · exact ⟨h0, .inl h⟩
  · exact ⟨h0, .inr ⟨g, sp, e, h1, h2, h3, l.kept k (hx g e)⟩⟩
theorem RowR9.below (h : RowR9 w a c n xs) (k : Below w.heap.size w w') : RowR9 w' a c n xs := h.kept (X := fun _ => False) (Kept.of_below k) (fun _ _ h => h)
theorem RowR9.lt (h : RowR9 w a c n xs) {g : Nat} (e : a = some ⟨g, 0, none⟩) : g < w.heap.size := by
  obtain ⟨_, h⟩ := h
  rcases h with ⟨h, _⟩ | ⟨g', sp, e', _, _, _, l⟩
  · rw [h] at e; cases e
  · rw [e'] at e; injection e with e; injection e with e; subst e; exact l.lt
theorem RowR9.le (h : RowR9 w a c n xs) : n ≤ c ∧ c ≤ 9223372036854775807 := by
  obtain ⟨_, h⟩ := h
  rcases h with ⟨_, h1, h2⟩ | ⟨_, _, _, _, h1, h2, _⟩
  · omega
  · exact ⟨h1, h2⟩
theorem RowR9.form (h : RowR9 w a c n xs) : a = none ∨ ∃ g, a = some ⟨g, 0, none⟩ := by
  obtain ⟨_, h⟩ := h
  rcases h with ⟨e, _⟩ | ⟨g, _, e, _⟩
  · exact .inl e
  · exact .inr ⟨g, e⟩
theorem RowR9.cell (h : RowR9 w a c n xs) {j : Nat} {u : Value} (hj : xs[j]? = some u) : ∃ g, a = some ⟨g, 0, none⟩ ∧ w.cell? ⟨g, j, none⟩ = some u := by
  obtain ⟨h0, h⟩ := h
  rcases h with ⟨_, _, h2⟩ | ⟨g, sp, e, _, _, _, l⟩
  · have : xs = [] := List.eq_nil_of_length_eq_zero (by omega)
    rw [this] at hj; simp at hj
  · refine ⟨g, e, ?_⟩
    rw [l.cell, List.getElem?_append_left (List.getElem?_eq_some_iff.1 hj).1]
    exact hj
theorem RowR9.own (h : RowR9 w a c n xs) : w.ownsRow 0 73 2 (.slice a n c) n xs := by
  obtain ⟨h0, h⟩ := h
  refine ⟨h0, ?_⟩
  rcases h with ⟨rfl, rfl, rfl⟩ | ⟨g, sp, rfl, h1, h2, h3, l⟩
  · exact .inl ⟨rfl, rfl⟩
  · refine .inr ⟨g, c, _, rfl, Nat.zero_le _, l, h2, by unfold maxLen; omega, ?_, ?_⟩
    · simp; omega
    · rw [← h0]; simp
theorem own_rowR9 {v : Value} (h : w.ownsRow 0 73 2 v n xs) : ∃ a c, v = .slice a n c ∧ RowR9 w a c n xs := by
  obtain ⟨hl, h⟩ := h
  rcases h with ⟨rfl, rfl⟩ | ⟨g, cap, cur, rfl, _, hh, hn, hm, hs, ht⟩
  · obtain rfl : xs = [] := List.eq_nil_of_length_eq_zero (by omega)
    exact ⟨none, 0, rfl, RowR9.nil w⟩
  · unfold maxLen at hm
    refine ⟨_, _, rfl, hl, .inr ⟨g, cur.toList.drop (n * 2), rfl, ?_, hn, by omega, (lies_arr hh).to ?_⟩⟩
    · have h1 : cur.toList.length = cap * 2 := by simpa using hs
      rw [List.length_drop, h1, hl]; omega
    · rw [← ht, List.take_append_drop]
end
theorem Try.infoRaw9 : (Try.prog.info? 73).map (fun i => (i.zero, i.size, i.bytes)) = some (some (.agg #[.int .i64 0, .slice none 0 0]), 2, 32) := by kernel_rfl

/-- What append of the cells ys (m elements) to the row a comes to. -/
def AppendsR9 (a : Option Addr) (n m : Nat) (xs ys : List Value) (w : World) (v : Value) (w' : World) : Prop :=
  ∃ a' c', v = .slice a' (n + m) c' ∧ RowR9 w' a' c' (n + m) (xs ++ ys) ∧ Kept (fun g => a = some ⟨g, 0, none⟩) w w' ∧ ∀ g, a' = some ⟨g, 0, none⟩ → a = some ⟨g, 0, none⟩ ∨ w.heap.size ≤ g
theorem AppendsR9.below {a : Option Addr} {n m : Nat} {xs ys : List Value} {w w' : World} {v : Value} (h : AppendsR9 a n m xs ys w v w') {B : Nat} (hB : B ≤ w.heap.size) (hf : From B a) : Below B w w' ∧ ∀ a' k c', v = .slice a' k c' → From B a' := by
  obtain ⟨a', c', rfl, r, k, f⟩ := h
  refine ⟨k.below (fun g e => hf g e) hB, fun a2 n c2 e g h => ?_⟩
  injection e with e
  subst e
  rcases f g h with h | h
  · exact hf g h
  · omega
theorem run_appR9_at (t ty : TypeId) (hu : Try.prog.underlying t = some (.slice 73))
    (a : Option Addr) (c n : Nat) (xs : List Value) (w : World) (R : RowR9 w a c n xs) (ad : Addr) (m d : Nat) (ys : List Value) (hm : ys.length = m * 2) (hc : ∀ j u, ys[j]? = some u → w.cell? (ad.add j) = some u) (h1 : ∀ u ∈ ys, u.oneCell' = true) (hb : n + m ≤ 1000000000000) :
    ∃ v w', (Builtin.append_ #[t, t] ty #[.slice a n c, .slice (some ad) m d]).run Try.prog w = .ok v w' ∧ AppendsR9 a n m xs ys w v w' := by
  obtain ⟨i, hi, hz, hsz, hby⟩ := info_parts Try.infoRaw9
  have hform := R.form
  have hx := R.1
  obtain ⟨v', w', hr, h2, h3, _, h5⟩ := run_append_own_at (P := Try.prog) w 0 t ty 73 i _ 2 32 hu hi hz hsz hby (by simp [Value.cells]) (by omega) _ n xs R.own
    ad m d ys hm hc h1 (by unfold maxLen; omega) (by omega) (Nat.zero_le _)
  obtain ⟨a', c', rfl, r'⟩ := own_rowR9 h2
  refine ⟨_, w', hr, a', c', rfl, r', ?_, fun g e => ?_⟩
  · refine ⟨h3.os, h3.tape, h3.output, h3.size, fun g hg hx => h3.block g hg (fun e => ?_)⟩
    obtain ⟨x, rfl, hx'⟩ := (ownBlock_slice a _ _ g).1 e.symm
    rcases hform with h | ⟨g', h⟩
    · cases h
    · injection h with h; subst h; subst hx'; exact hx rfl
  · subst e
    rcases h5 with h5 | h5
    · obtain ⟨x, rfl, hx⟩ := (ownBlock_slice a n c g).1 (by rw [← h5]; rfl)
      rcases hform with h | ⟨g', h⟩
      · cases h
      · injection h with h; subst h; subst hx; exact .inl rfl
    · have : g = w.heap.size := by simpa [Value.ownBlock] using h5
      exact .inr (by omega)
theorem run_appR9_nil (t ty : TypeId) (hu : Try.prog.underlying t = some (.slice 73)) (a : Option Addr) (c n : Nat) (xs : List Value) (w : World) (R : RowR9 w a c n xs) :
    ∃ v w', (Builtin.append_ #[t, t] ty #[.slice a n c, .slice none 0 0]).run Try.prog w = .ok v w' ∧ AppendsR9 a n 0 xs [] w v w' := by
  obtain ⟨i, hi, hz, hsz, hby⟩ := info_parts Try.infoRaw9
  refine ⟨_, _, run_append_owned_none (w := w) 0 t ty 73 i 2 hu hi _ n xs R.own, a, c, by simp, by simpa using R, Kept.refl _ _, fun g e => .inl e⟩


def MakesR9 (xs : List Value) (n : Nat) (w : World) (e : Ending) (w' : World) : Prop :=
  ∃ a c, e = .returned (.slice a n c) ∧ RowR9 w' a c n xs ∧ Below w.heap.size w w'
theorem copyR9_nil (w : World) : Calls Try.prog 62 #[.slice none 0 0] w (MakesR9 [] 0 w) := by
  obtain ⟨v, w', hr, A⟩ := run_appR9_nil 23 23 Try.underlying23 none 0 0 [] w (RowR9.nil _)
  obtain ⟨bb, -⟩ := A.below (B := w.heap.size) (Nat.le_refl _) (From.none _)
  obtain ⟨a', c', rfl, r, _, _⟩ := A
  have HF : Hid (MakesR9 [] 0 w (.returned (.slice a' 0 c')) w') := Lib.hid ⟨a', c', rfl, r, bb⟩
  have hr2 : (Builtin.append_ #[23, 23] 23 #[.slice none 0 0, .slice none 0 0]).run Try.prog w = .ok (.slice a' 0 c') w' := hr
  clear r bb hr
  go_enter Try.func62, Try.ntmps62
  go_wp2_with (at_builtin; refine Lib.wpList_append_run _ rfl _ _ _ _ rfl _ _ rfl rfl _ _ hr2 ?_)
  go_ret
  exact HF.out
theorem copyR9_at (ad : Addr) (c n : Nat) (vs : List Value) (w : World) (hn : vs.length = n * 2) (hs : n ≤ 1000) (HC : Hid (∀ j u, vs[j]? = some u → w.cell? (ad.add j) = some u)) (H1 : Hid (∀ u ∈ vs, u.oneCell' = true)) :
    Calls Try.prog 62 #[.slice (some ad) n c] w (MakesR9 vs n w) := by
  obtain ⟨v, w', hr, A⟩ := run_appR9_at 23 23 Try.underlying23 none 0 0 [] w (RowR9.nil _) ad n c vs hn HC.out H1.out (by omega)
  obtain ⟨bb, -⟩ := A.below (B := w.heap.size) (Nat.le_refl _) (From.none _)
  obtain ⟨a', c', rfl, r, _, _⟩ := A
  rw [Nat.zero_add] at hr
  have HF : Hid (MakesR9 vs n w (.returned (.slice a' n c')) w') := Lib.hid ⟨a', c', rfl, by rw [Nat.zero_add] at r; exact r, bb⟩
  clear HC H1 r bb hn
  go_enter Try.func62, Try.ntmps62
  go_wp2_with (at_builtin; refine Lib.wpList_append_run _ rfl _ _ _ _ rfl _ _ rfl rfl _ _ hr ?_)
  go_ret
  exact HF.out
set_option maxRecDepth 100000 in
/-- Cut of a slice of raw items that came in. -/
theorem cutR9 (pa : Option Addr) (m pc : Nat) (qs : List Raw9) (w : World) (h : CameIts w pa m pc qs) :
    Calls Try.prog 34 #[.slice pa m pc, .int .i64 6] w (MakesR9 (iraw (qs.take 6)) (min m 6) w) := by
  have hlen := h.len
  have hcap := h.cap
  by_cases h0 : m = 0
  · subst h0
    have e : qs.take 6 = [] := by rw [List.eq_nil_of_length_eq_zero h.num]; rfl
    rw [e]
    have hnil := h.nil
    clear h e
    cases pa with
    | none =>
      obtain rfl := (hnil rfl).2
      have C := copyR9_nil w
      clear hnil
      go_enter Try.func34, Try.ntmps34
      go_wp2_with (fail)
      skip
      refine C.mono ?_
      rintro e w' ⟨a', c', rfl, r, bel⟩
      go_wp2
      go_ret
      exact ⟨a', c', rfl, r, bel⟩
    | some ad =>
      have C := copyR9_at ad pc 0 [] w rfl (by omega) (Lib.hid (by simp)) (Lib.hid (by simp))
      clear hnil
      go_enter Try.func34, Try.ntmps34
      go_wp2_with (fail)
      skip
      refine C.mono ?_
      rintro e w' ⟨a', c', rfl, r, bel⟩
      go_wp2
      go_ret
      exact ⟨a', c', rfl, r, bel⟩
  · have hl := iraw_len qs
    rw [h.num] at hl
    obtain ⟨b, off, rfl, -⟩ := h.row 0 ((iraw qs)[0]'(by omega)) (List.getElem?_eq_getElem (by omega))
    have ht : iraw (qs.take 6) = (iraw qs).take (6 * 2) := (iraw_take qs 6).symm
    have C := copyR9_at ⟨b, off, none⟩ pc (min m 6) (iraw (qs.take 6)) w (by rw [ht, List.length_take, hl]; omega) (by omega) (Lib.hid (fun j u hj => by
      rw [ht] at hj
      by_cases hjj5 : j < 6 * 2
      · rw [List.getElem?_take_of_lt hjj5] at hj
        obtain ⟨b', off', e, hc, _⟩ := h.row j u hj
        injection e with e; injection e with e1 e2; subst e1; subst e2
        rw [Addr.add_lit]; exact hc
      · rw [List.getElem?_eq_none (by rw [List.length_take]; omega)] at hj; cases hj)) (Lib.hid (iraw_one _))
    have HC := Lib.hid C
    clear C h ht hl
    generalize iraw (qs.take 6) = vs at HC
    have h1 : min m 6 ≤ pc := by omega
    by_cases hh5 : m ≤ 6
    · have ee5 : min m 6 = m := by omega
      rw [ee5] at HC ⊢
      clear ee5 h1
      go_enter Try.func34, Try.ntmps34
      go_wp2_with (fail)
      try rw [show (min (m : Int) 6).toNat = m by omega]
      refine HC.out.mono ?_
      rintro e w' ⟨a', c', rfl, r, bel⟩
      go_wp2
      go_ret
      exact ⟨a', c', rfl, r, bel⟩
    · have ee5 : min m 6 = 6 := by omega
      rw [ee5] at HC ⊢
      clear ee5 h1
      go_enter Try.func34, Try.ntmps34
      go_wp2_with (fail)
      try rw [show (min (m : Int) 6).toNat = 6 by omega]
      refine HC.out.mono ?_
      rintro e w' ⟨a', c', rfl, r, bel⟩
      go_wp2
      go_ret
      exact ⟨a', c', rfl, r, bel⟩

theorem list_two9 {α : Type} {l : List α} (h : l.length = 2) : ∃ a b, l = [a, b] := by
  match l, h with
  | [a, b], _ => exact ⟨a, b, rfl⟩
set_option maxRecDepth 100000 in
theorem open_raw9 {H : Type} {enc : TypeId × Value → H} {w : World} {base : Nat} {held : Bool} {fuel : Nat} {cs : List Value} {x : DataW H × List MemPlace}
    (h : DataW.trod enc Try.prog w base (fun _ => true) held fuel 73 cs = some x) :
    ∃ q : Raw9, cs = q.cells ∧ Came w q.a q.l q.c q.zs := by
  have hC : Program.cellsOf Try.prog 73 = 2 := by kernel_rfl
  obtain ⟨ys, n', _, _, hlen, hyl, hf⟩ := DataW.trod_struct Try.underlying73 h
  rw [hC] at hlen
  obtain ⟨s0, s1, rfl⟩ := list_two9 hlen
  obtain ⟨y0, y1, rfl⟩ := list_two9 (show ys.length = 2 from hyl)
  have f0 : DataW.trod enc Try.prog w base (fun _ => true) held n' 3 [s0] = some y0 := hf 0 _ rfl
  have f1 : DataW.trod enc Try.prog w base (fun _ => true) held n' 22 [s1] = some y1 := hf 1 _ rfl
  obtain ⟨jv, e1, _, _⟩ := DataW.trod_int Try.underlying3 f0
  injection e1 with e1 _
  subst e1
  rcases open_ints Try.underlying22 Try.underlying3 (by kernel_rfl) f1 with ⟨hcs, _⟩ | ⟨x, l, c, zs, hcs, _, hl, hm, hz, _, hcell, hwz⟩
  · injection hcs with hcs _
    subst hcs
    exact ⟨⟨jv, none, 0, 0, []⟩, rfl, row_facts (.inl ⟨rfl, rfl, rfl, rfl⟩)⟩
  · injection hcs with hcs _
    subst hcs
    exact ⟨⟨jv, some x, l, c, zs⟩, rfl, row_facts (.inr ⟨_, rfl, hl, hm, by simpa using hz, hcell, hwz⟩)⟩
set_option maxRecDepth 100000 in
theorem open_raws9 {H : Type} {enc : TypeId × Value → H} {w : World} {base : Nat} {held : Bool} {fuel : Nat} {cs : List Value} {x : DataW H × List MemPlace}
    (h : DataW.trod enc Try.prog w base (fun _ => true) held fuel 23 cs = some x) : ∃ pa m pc rs, cs = [.slice pa m pc] ∧ CameIts w pa m pc rs := by
  rcases Go.Deep.open_slice Try.underlying23 h with ⟨h0, _⟩ | ⟨a, len, cap, m, n, D, Pl, hcs, _, hl, hm, hmm, _, hi⟩
  · exact ⟨none, 0, 0, [], h0, by omega, fun _ => ⟨rfl, rfl⟩, by omega, rfl, (fun k u hu => by simp [iraw] at hu), (fun r hr => by simp at hr)⟩
  · have hle : len ≤ m := by rw [hmm]; split <;> omega
    have hC : Program.cellsOf Try.prog 73 = 2 := by kernel_rfl
    have spotless : 0 < len → a.spot = none := fun h0 => by
      obtain ⟨cs', hc, _⟩ := hi 0 (by omega)
      rw [hC] at hc
      obtain ⟨_, hlen, hat⟩ := World.cells?_some hc
      obtain ⟨c0, c1, rfl⟩ := list_two9 hlen
      have q0 := hat 0 (by omega)
      rw [Go.Deep.add_add] at q0
      exact World.cell?_spot (w := w) (a := a) q0
    have each : ∀ i, i < len → ∃ q : Raw9, (∃ b off, a = ⟨b, off, none⟩ ∧ (∀ j u, q.cells[j]? = some u → w.cell? ⟨b, off + (i * 2 + j), none⟩ = some u) ∧ b < w.heap.size) ∧ Came w q.a q.l q.c q.zs := fun i hil => by
      obtain ⟨cs', hc, ht⟩ := hi i (by omega)
      rw [hC] at hc
      obtain ⟨_, hlen, hat⟩ := World.cells?_some hc
      obtain ⟨q, rfl, g1⟩ := open_raw9 ht
      have q0 := hat 0 (by omega)
      have q1 := hat 1 (by omega)
      rw [Go.Deep.add_add] at q0 q1
      have hs : a.spot = none := spotless (by omega)
      obtain ⟨b, off, spot⟩ := a
      have hs : spot = none := hs
      subst hs
      rw [Addr.add_lit] at q0 q1
      refine ⟨q, ⟨b, off, rfl, fun j u hj => ?_, World.block_lt_of_cell? w _ q0⟩, g1⟩
      match j, hj with
      | 0, hj => injection hj with hj; subst hj; exact q0
      | 1, hj => injection hj with hj; subst hj; exact q1
      | j + 2, hj => simp [Raw9.cells] at hj
    have : Inhabited Raw9 := ⟨⟨0, none, 0, 0, []⟩⟩
    obtain ⟨f, hff⟩ := Go.Deep.choose_lt each
    refine ⟨some a, len, cap, (List.range len).map f, hcs, by unfold maxLen at hm; omega, (fun e => nomatch e), hl, by simp, fun k u hu => ?_, fun y hy => ?_⟩
    · have hk2 : k < len * 2 := by
        have h5 := (List.getElem?_eq_some_iff.1 hu).1
        rw [iraw_len] at h5
        simpa using h5
      have hkk : k / 2 < len := by omega
      have hk' : k / 2 < ((List.range len).map f).length := by simpa using hkk
      have e := iraw_get ((List.range len).map f) (k / 2) hk' (k % 2) (by omega)
      rw [show k / 2 * 2 + k % 2 = k by omega, hu] at e
      have e3 : ((List.range len).map f)[k / 2] = f (k / 2) := by simp
      rw [e3] at e
      obtain ⟨b, off, e2, p, hb⟩ := (hff (k / 2) hkk).1
      have := p (k % 2) u e.symm
      rw [show k / 2 * 2 + k % 2 = k by omega] at this
      exact ⟨b, off, by rw [e2], this, hb⟩
    · obtain ⟨i, hi', rfl⟩ := List.mem_map.1 hy
      exact (hff i (List.mem_range.1 hi')).2
end Go.Proofs.Ytadnjlhkppcmmaa

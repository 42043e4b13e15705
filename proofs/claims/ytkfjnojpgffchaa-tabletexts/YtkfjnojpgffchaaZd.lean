/- The walk of the law TableTexts of chapter 2. -/
import Derived.Test.YtkfjnojpgffchaaZc
import Derived.IntWalk
import Derived.Laws.Cover1
namespace Go.Proofs.Ytkfjnojpgffchaa
open Go.ChangeShapes Go.WideShapes Go.ChangeAt Go.RowKit

/-- A slice of texts that came in. -/
def ArgS (w : World) (a : Option Addr) (len cap : Nat) (ss : List ByteArray) : Prop :=
  (a = none ∧ len = 0 ∧ cap = 0 ∧ ss = []) ∨
  ∃ x, a = some x ∧ len ≤ cap ∧ cap ≤ maxLen ∧ ss.length = cap ∧ ∀ i, i < ss.length → w.cell? (x.add i) = some (.string (ss.getD i ByteArray.empty))

theorem argS_cut {w : World} {a : Option Addr} {len cap : Nat} {ss : List ByteArray} (h : ArgS w a len cap ss) {m : Nat} (hm : m ≤ len) : (ss.take m).length = m ∧ (a = none → cap = 0) ∧ Texts w a (ss.take m).length (ss.take m) := by
  rcases h with ⟨rfl, rfl, rfl, rfl⟩ | ⟨x, rfl, hl, _, hz, hc⟩
  · obtain rfl : m = 0 := by omega
    exact ⟨rfl, fun _ => rfl, rfl, .inl ⟨rfl, rfl⟩⟩
  · have hlen : (ss.take m).length = m := by rw [List.length_take]; omega
    refine ⟨hlen, (fun e => nomatch e), rfl, .inr ⟨x, rfl, fun j hj => ?_⟩⟩
    have hj' : j < ss.length := by omega
    rw [hc j hj', List.getD_eq_getElem?_getD, List.getElem?_eq_getElem hj', List.getElem_take]
    rfl

theorem cut_str (a : Option Addr) (len cap : Nat) (ss : List ByteArray) (w : World) (h : ArgS w a len cap ss) :
    Calls Try.prog 16 #[.slice a len cap, .int .i64 30] w (Makes 9 (strs (ss.take (min len 30))) w) := by
  have hlc : len ≤ cap ∧ cap ≤ 9223372036854775807 := by
    rcases h with ⟨_, rfl, rfl, _⟩ | ⟨x, _, h1, h2, _⟩
    · omega
    · unfold maxLen at h2; omega
  have hc := argS_cut h (m := min len 30) (by omega)
  have C := copy_str a cap (ss.take (min len 30)) w hc.2.1 hc.2.2 (by omega)
  rw [hc.1] at C
  clear hc
  have hform : a = none ∧ len = 0 ∧ cap = 0 ∨ ∃ x, a = some x := by
    rcases h with ⟨h1, h2, h3, _⟩ | ⟨x, h1, _⟩
    · exact .inl ⟨h1, h2, h3⟩
    · exact .inr ⟨x, h1⟩
  clear h
  rcases hform with ⟨rfl, rfl, rfl⟩ | ⟨⟨g, o, sp⟩, rfl⟩
  · go_enter Try.func16, Try.ntmps16
    go_wp2_with (fail)
    refine C.mono ?_
    rintro e w' ⟨a', c', rfl, r, f, bel⟩
    go_wp2
    go_ret
    exact ⟨a', c', rfl, r, f, bel⟩
  · have HM := Lib.hid (show (min (len : Int) 30).toNat = min len 30 by omega)
    go_enter Try.func16, Try.ntmps16
    go_wp2_with (fail)
    rw [HM.out]
    refine C.mono ?_
    rintro e w' ⟨a', c', rfl, r, f, bel⟩
    go_wp2
    go_ret
    exact ⟨a', c', rfl, r, f, bel⟩

theorem new_ss (w : World) : Calls Try.prog 15 #[] w fun e w' => e = .returned (.pointer (some ⟨w.heap.size, 0, none⟩)) ∧ w' = w.alloc (.cells #[.slice none 0 0, .slice none 0 0] 71) := new_ss' w

/-- The table, and the texts that were put, behind n Puts. -/
structure Stands (w : World) (b : Nat) (S : List ByteArray) (a : Option Addr) (c n : Nat) (ks : List ByteArray) (vs : List Value) (wr : World) : Prop where
  tab : Tab 71 9 36 wr (fun g => w.heap.size ≤ g ∧ a ≠ some ⟨g, 0, none⟩) b (strs ks) vs
  told : Told S a c n ks vs
  row : Row wr 9 a c (strs S)
  new : ∀ g, a = some ⟨g, 0, none⟩ → w.heap.size ≤ g
  bel : Below w.heap.size w wr

theorem txt_get {S : List ByteArray} {i : Nat} (h : i < S.length) : txt S i = S[i] := by
  unfold txt; rw [List.getD_eq_getElem?_getD, List.getElem?_eq_getElem h]; rfl

theorem stands_put {w wr : World} {b : Nat} {S : List ByteArray} {a : Option Addr} {c n : Nat} {ks : List ByteArray} {vs : List Value} (h : Stands w b S a c n ks vs wr) (hn : n ≤ 900) :
    Calls Try.prog 17 #[.pointer (some ⟨b, 0, none⟩), .string (txt S n), .slice a n c] wr fun e w2 =>
      (∃ v u, e = .returned (.tuple #[v, u])) ∧ Stands w b S a c (n + 1) (putK strLt ks (txt S n)) (putV strLt ks vs (txt S n) (.slice a n c)) w2 := by
  have hf := h.told.few
  refine (put_ss _ b ks vs (txt S n) a n c wr h.tab (by omega) h.told.up h.told.len h.told.one).mono ?_
  rintro e w2 ⟨rfl, t, kp⟩
  refine ⟨⟨_, _, rfl⟩, t.mono (fun g _ hg => ?_), h.told.put, h.row.kept kp (fun g e hx => hx.2 e), h.new, h.bel.trans (kp.below (fun _ h => h.1) h.bel.size)⟩
  rcases hg with hg | hg
  · exact hg
  · exact ⟨by have := h.bel.size; omega, fun e => by have := h.row.lt e; omega⟩

theorem Stands.below {w wr w2 : World} {b : Nat} {S : List ByteArray} {a : Option Addr} {c n : Nat} {ks : List ByteArray} {vs : List Value} (h : Stands w b S a c n ks vs wr) (k : Below wr.heap.size wr w2) : Stands w b S a c n ks vs w2 :=
  ⟨h.tab.below k, h.told, h.row.below k, h.new, h.bel.trans (k.mono h.bel.size)⟩
theorem Stands.drewN {w wr : World} {b : Nat} {S : List ByteArray} {a : Option Addr} {c n : Nat} {ks : List ByteArray} {vs : List Value} (h : Stands w b S a c n ks vs wr) (q : Nat) : Stands w b S a c n ks vs (wr.drewN q) := h.below (below_drewN _ _ q)

theorem stands_get {w wr : World} {b : Nat} {S : List ByteArray} {a : Option Addr} {c n : Nat} {ks : List ByteArray} {vs : List Value} (h : Stands w b S a c n ks vs wr) (hn : n ≤ 900) (k : ByteArray) :
    Calls Try.prog 19 #[.pointer (some ⟨b, 0, none⟩), .string k] wr fun e w2 => e = .returned (.tuple #[lastV S a c k n, .bool (lastH S k n)]) ∧ ∃ q, w2 = wr.drewN q := by
  have hf := h.told.few
  refine (get_ss _ b ks vs k wr h.tab (by omega) h.told.up h.told.len).mono ?_
  rintro e w2 ⟨rfl, q, rfl⟩
  exact ⟨by rw [(h.told.val k).1, (h.told.val k).2], q, rfl⟩

/-- What a Get of any text comes to, as far as it is asked. -/
def Asks (S : List ByteArray) (w : World) (e : Ending) (w' : World) : Prop := ∃ v h q, e = .returned (.tuple #[v, .bool h]) ∧ (S.length = 0 → h = false) ∧ w' = w.drewN q
theorem asks {w wr : World} {b : Nat} {S : List ByteArray} {a : Option Addr} {c : Nat} {ks : List ByteArray} {vs : List Value} (h : Stands w b S a c S.length ks vs wr) (hn : S.length ≤ 900) (k : ByteArray) :
    Calls Try.prog 19 #[.pointer (some ⟨b, 0, none⟩), .string k] wr (Asks S wr) := by
  refine (stands_get h hn k).mono ?_
  rintro e w2 ⟨rfl, q, rfl⟩
  exact ⟨_, _, q, rfl, fun h0 => by rw [h0]; rfl, rfl⟩

/-- Seventy bytes of nothing, as a text. -/
theorem made_text (w : World) : ∃ W Z, (Instr.makeSlice 45 (.int .i64 70) (.int .i64 70)).run Try.prog w = .ok (.slice (some ⟨w.heap.size, 0, none⟩) 70 70) W ∧
    (convert 45 9 (.slice (some ⟨w.heap.size, 0, none⟩) 70 70)).run Try.prog W = .ok (.string Z) W ∧ Below w.heap.size w W ∧ Z.size = 70 := by
  have hinfo : (Try.prog.info? 5).map (fun i => (i.zero, i.size, i.bytes)) = some (some (.int .u8 0), 1, 1) := by kernel_rfl
  obtain ⟨i, hi, hz, hsz, hby⟩ := info_parts hinfo
  have hr := run_make (P := Try.prog) w 45 5 i _ Try.underlying45 hi hz .i64 .i64 70 70 (by omega) (by omega) (by rw [hby]; omega) (by omega)
  rw [hsz] at hr
  have hc : ∀ j, j < 70 → (w.alloc (.cells (madeCells (Value.int .u8 0).cells ((70 : Int).toNat * 1)) 5)).cell? ⟨w.heap.size, j, none⟩ = some (.int .u8 0) := fun j hj => by
    rw [World.cell?_alloc_new]
    simp [madeCells, Value.cells, hj, Nat.mod_one]
  have hb := run_convert_bytes_back (P := Try.prog) (w.alloc (.cells (madeCells (Value.int .u8 0).cells ((70 : Int).toNat * 1)) 5)) 45 9 5 ⟨w.heap.size, 0, none⟩ 70 (List.replicate 70 0) Try.underlying45 Try.underlying5 Try.underlying9
    (fun j hj => by
      rw [Addr.add_lit, Nat.zero_add, hc j (by simpa using hj), List.getElem_replicate]
      rfl)
  rw [List.length_replicate] at hb
  exact ⟨_, _, hr, hb, (Below.refl _ _).alloc (Nat.le_refl _) _, rfl⟩

set_option maxRecDepth 100000 in
set_option maxHeartbeats 4000000 in
theorem texts_walk (a : Option Addr) (len cap : Nat) (ss : List ByteArray) (w : World) (h : ArgS w a len cap ss) :
    Calls Try.prog 4 #[.slice a len cap] w (True_ w) := by
  have HA := Lib.hid h
  clear h
  obtain ⟨S, hS⟩ : ∃ S, S = ss.take (min len 30) := ⟨_, rfl⟩
  have hSl : S.length ≤ 30 := by rw [hS, List.length_take]; omega
  have HS := Lib.hid hS
  clear hS
  go_enter Try.func4, Try.ntmps4
  go_wp2_with (fail)
  refine (new_ss _).mono ?_
  rintro e w1 ⟨rfl, e1⟩
  have t1 : Tab 71 9 36 w1 (fun k => k = w.heap.size) w.heap.size (strs []) [] := e1 ▸ tab_new 71 9 36 w
  have b1 : Below w.heap.size w w1 := e1 ▸ (Below.refl _ _).alloc (Nat.le_refl _) _
  have s1 : w.heap.size < w1.heap.size := by rw [e1]; simp
  have HA1 : ArgS w1 a len cap ss := by
    rcases HA.out with h | ⟨x, h1, h2, h3, h4, h5⟩
    · exact .inl h
    · exact .inr ⟨x, h1, h2, h3, h4, fun i hi => by
        have hx := h5 i hi
        exact (b1.cell (World.block_lt_of_cell? w _ hx)).trans hx⟩
  have C := cut_str a len cap ss w1 HA1
  rw [← HS.out] at C
  clear e1 HA HA1 HS
  go_wp2_with (fail)
  refine C.mono ?_
  clear C
  rintro e w2 ⟨ka, kc, rfl, r2, f2, b2⟩
  rw [strs_len]
  have N0 : Stands w w.heap.size S ka kc 0 [] [] w2 := by
    refine ⟨?_, told_none S ka kc, r2, fun g e => by have := f2 g e; omega, b1.trans (b2.mono (by omega))⟩
    exact (t1.mono (Y := fun g => w.heap.size ≤ g ∧ ka ≠ some ⟨g, 0, none⟩) (fun g hg e => ⟨by omega, fun e' => by have := f2 g e'; omega⟩)).below b2
  have hkc := r2.le
  rw [strs_len] at hkc
  clear t1 b1 b2 f2 r2
  go_wp2_with (fail)
  go_loopw [23] (fun i wr => ∃ (n : Nat) (ks : List ByteArray) (vs : List Value), n ≤ S.length ∧ i = .int .i64 n ∧ Stands w w.heap.size S ka kc n ks vs wr) (fun i _ => S.length - (intOf i).toNat)
  case atStart => exact ⟨0, [], [], Nat.zero_le _, rfl, N0⟩
  case round =>
    clear N0
    obtain ⟨n, ks, vs, hn, rfl, N⟩ := hrel
    by_cases hlt : n < S.length
    · obtain ⟨g, rfl, ck⟩ := N.row.str hlt
      rw [← txt_get hlt] at ck
      have P := stands_put N (by omega)
      have hnk : n ≤ kc := by omega
      clear N
      generalize txt S n = x at *
      go_wp2_with (fail)
      refine P.mono ?_
      clear P
      rintro e w3 ⟨⟨v, u, rfl⟩, N3⟩
      go_wp2
      go_roundw
      case rel => exact ⟨n + 1, _, _, by omega, by go_num, N3⟩
      case measure => simp [intOf]; omega
    · obtain rfl : n = S.length := by omega
      have hfew := N.told.few
      go_wp2_with (fail)
      refine (keys_ss _ _ ks vs _ N.tab (by omega)).mono ?_
      rintro e w3 ⟨la, lc, rfl, r3, f3, b3⟩
      rw [strs_len]
      have N3 := N.below b3
      have HU := Lib.hid N.told.up
      clear N f3 b3
      go_wp2_with (fail)
      go_loopw [7] (fun i wy => ∃ p q : Nat, p ≤ ks.length ∧ i = .int .i64 (p + 1) ∧ wy = w3.drewN q) (fun i _ => ks.length + 1 - (intOf i).toNat)
      case atStart => exact ⟨0, 0, Nat.zero_le _, rfl, rfl⟩
      case round =>
        obtain ⟨p, q, hp, rfl, rfl⟩ := hrel
        by_cases hpl : p + 1 < ks.length
        · obtain ⟨g, rfl, c0⟩ := r3.str (k := p) (by omega)
          obtain ⟨g', e', c1⟩ := r3.str (k := p + 1) hpl
          injection e' with e'; injection e' with e'; subst e'
          have hbl : Op.bytesLess ks[p].toList ks[p + 1].toList = true := List.pairwise_iff_getElem.1 HU.out p (p + 1) (by omega) hpl (by omega)
          have hi1 : (p : Int) + 1 < (ks.length : Int) := by omega
          have hi2 : (p : Int) < (ks.length : Int) := by omega
          have hw : IntKind.i64.wrap (p : Int) = (p : Int) := IntWalk.i64_in _ (by omega)
          have hz1 : (0 : Int) ≤ (p : Int) + 1 := by omega
          have ht1 : ((p : Int) + 1).toNat = p + 1 := by omega
          generalize ks[p] = x at c0 hbl
          generalize ks[p + 1] = y at c1 hbl
          go_wp2_with (fail)
          go_quiet (fail)
          go_wp2
          go_roundw
          case rel => exact ⟨p + 1, _, by omega, by go_num, rfl⟩
          case measure => simp [intOf]; omega
        · have hi1 : ¬ (p : Int) + 1 < (ks.length : Int) := by omega
          have N4 := N3.drewN q
          generalize w3.drewN q = w4 at *
          clear N3
          go_wp2_with (fail)
          go_loopw [55] (fun v wy => ∃ i q : Nat, i ≤ S.length ∧ v = .int .i64 i ∧ wy = w4.drewN q) (fun v _ => S.length - (intOf v).toNat)
          case atStart => exact ⟨0, 0, Nat.zero_le _, rfl, rfl⟩
          case round =>
            obtain ⟨i, q, hi, rfl, rfl⟩ := hrel
            have N5 := N4.drewN q
            generalize hw5 : w4.drewN q = w5 at *
            have HW5 := Lib.hid hw5
            clear hw5
            by_cases hil : i < S.length
            · obtain ⟨g, rfl, ck⟩ := N5.row.str hil
              rw [← txt_get hil] at ck
              have G := stands_get N5 (by omega) (txt S i)
              have hV := lastV_eq (S := S) (a := some ⟨g, 0, none⟩) (c := kc) hil
              rw [hV.1, hV.2] at G
              clear hV
              generalize hx : txt S i = x at *
              have HX := Lib.hid hx
              clear hx
              go_wp2_with (fail)
              go_loopw [10, 11] (fun l jv wz => ∃ j : Nat, i ≤ j ∧ j ≤ S.length ∧ jv = .int .i64 j ∧ l = .int .i64 (lastI S x i j) ∧ w5 = wz) (fun _ jv _ => S.length - (intOf jv).toNat)
              case atStart => exact ⟨i, Nat.le_refl _, by omega, rfl, by rw [lastI_start (Nat.le_refl _)], rfl⟩
              case round =>
                obtain ⟨j, hij, hj, rfl, rfl, rfl⟩ := hrel
                by_cases hjl : j < S.length
                · obtain ⟨g', e', cj⟩ := N5.row.str hjl
                  injection e' with e'; injection e' with e'; subst e'
                  rw [← txt_get hjl] at cj
                  by_cases he : txt S j = x
                  · have HL := Lib.hid (show lastI S x i (j + 1) = j by unfold lastI; rw [if_pos ⟨hij, he⟩])
                    have hb : ((txt S j).toList == x.toList) = true := by rw [he]; simp
                    clear he
                    generalize txt S j = y at cj hb
                    go_wp2
                    go_roundw
                    case rel => exact ⟨j + 1, by omega, by omega, by go_num, by rw [HL.out], trivial⟩
                    case measure => simp [intOf]; omega
                  · have HL := Lib.hid (show lastI S x i (j + 1) = lastI S x i j by conv => lhs; unfold lastI; rw [if_neg (fun h => he h.2)])
                    have hb : ((txt S j).toList == x.toList) = false := by
                      rw [Bool.eq_false_iff]
                      intro h
                      rw [beq_iff_eq, Lib.toList_data, Lib.toList_data] at h
                      exact he (bytes_ext h)
                    clear he
                    generalize txt S j = y at cj hb
                    go_wp2
                    go_roundw
                    case rel => exact ⟨j + 1, by omega, by omega, by go_num, by rw [HL.out], trivial⟩
                    case measure => simp [intOf]; omega
                · obtain rfl : j = S.length := by omega
                  have hm := lastI_le (S := S) (k := x) (i := i) (m := S.length) hil (Nat.le_refl _)
                  generalize lastI S x i S.length = m at *
                  have hmk : m ≤ kc := by omega
                  have hmn : m ≤ S.length := by omega
                  go_wp2_with (fail)
                  refine G.mono ?_
                  rintro e w6 ⟨rfl, q6, rfl⟩
                  go_wp2_with (fail)
                  refine (same_str _ kc m S _ (N5.row.drewN q6) hmn (by omega)).mono ?_
                  rintro e w7 ⟨rfl, q7, rfl⟩
                  go_wp2
                  go_roundw
                  case rel => exact ⟨i + 1, q + (q6 + q7), by omega, by go_num, by rw [← HW5.out]; simp [World.drewN, Nat.add_assoc]⟩
                  case measure => simp [intOf]; omega
            · obtain rfl : i = S.length := by omega
              obtain ⟨W6, Z, hmk, hcv, b6, hzs⟩ := made_text w5
              have N6 := N5.below b6
              have G7 := asks N6 (by omega)
              have hLen := fun q => len_ss' _ _ (strs ks) vs _ (N6.drewN q).tab
              rw [strs_len] at hLen
              have bel6 := N6.bel
              clear N6 N5 N4
              go_wp2_with (fail)
              refine (G7 _).mono ?_
              rintro e w7 ⟨v, h, q7, rfl, hh, rfl⟩
              clear hmk hcv G7 hzs
              cases h with
              | true =>
                have hpos : 0 < S.length := by
                  rcases Nat.eq_zero_or_pos S.length with h0 | h0
                  · exact absurd (hh h0) (by simp)
                  · exact h0
                clear hh
                go_wp2_with (fail)
                refine (hLen q7).mono ?_
                rintro e w8 ⟨rfl, rfl⟩
                go_wp2_with (fail)
                refine (wakes_any _).mono ?_
                rintro e w9 ⟨rfl, b9⟩
                go_wp2
                go_ret
                exact ⟨rfl, (bel6.trans (below_drewN _ _ q7)).trans (b9.mono bel6.size)⟩
              | false =>
                clear hh
                go_wp2_with (fail)
                refine (hLen q7).mono ?_
                rintro e w8 ⟨rfl, rfl⟩
                go_wp2_with (fail)
                refine (wakes_any _).mono ?_
                rintro e w9 ⟨rfl, b9⟩
                go_wp2
                go_ret
                exact ⟨rfl, (bel6.trans (below_drewN _ _ q7)).trans (b9.mono bel6.size)⟩
end Go.Proofs.Ytkfjnojpgffchaa

/- The walks of the laws LexTells and LexNames; the condition: what came in can be read. -/
import Derived.Test.YtoogffjmfihbgaaR
import Derived.Test.YtoogffjmfihbgaaP
namespace Go.Proofs.Ytoogffjmfihbgaa
open Go.ChangeShapes Go.WideShapes Go.ChangeAt Go.RowKit

/-- What is known of a slice of numbers that came in. -/
def Came (w : World) (a : Option Addr) (len cap : Nat) (zs : List Int) : Prop :=
  len ≤ 9223372036854775807 ∧ (a = none → len = 0 ∧ cap = 0) ∧ len ≤ cap ∧ len ≤ zs.length ∧ ∀ k, k < len → RowAt w a zs k
theorem row_facts {w : World} {a : Option Addr} {len cap : Nat} {zs : List Int}
    (h : (a = none ∧ len = 0 ∧ cap = 0 ∧ zs = []) ∨
      ∃ x, a = some x ∧ len ≤ cap ∧ cap ≤ maxLen ∧ zs.length = cap ∧ (∀ i, i < zs.length → w.cell? (x.add i) = some (.int .i64 (zs.getD i 0))) ∧ ∀ n ∈ zs, (Lit.int .i64 n).wf = true) :
    Came w a len cap zs := by
  obtain ⟨h1, h2⟩ := rowAt_of h
  rcases h with ⟨rfl, rfl, rfl, rfl⟩ | ⟨x, rfl, hl, hm, hz, _, _⟩
  · exact ⟨h1, fun _ => ⟨rfl, rfl⟩, Nat.le_refl _, Nat.le_refl _, h2⟩
  · exact ⟨h1, (fun e => nomatch e), hl, by omega, h2⟩
theorem RowAt.below {w w' : World} {a : Option Addr} {zs : List Int} {k : Nat} (h : RowAt w a zs k) (b : Below w.heap.size w w') : RowAt w' a zs k := by
  obtain ⟨x, off, e, hc, hb, lo, hi⟩ := h
  exact ⟨x, off, e, (b.cell (p := ⟨x, off + k, none⟩) hb).trans hc, Nat.lt_of_lt_of_le hb b.size, lo, hi⟩
theorem Came.below {w w' : World} {a : Option Addr} {len cap : Nat} {zs : List Int} (h : Came w a len cap zs) (b : Below w.heap.size w w') : Came w' a len cap zs :=
  ⟨h.1, h.2.1, h.2.2.1, h.2.2.2.1, fun k hk => (h.2.2.2.2 k hk).below b⟩
theorem two_at {w : World} {g : Nat} {s t : ByteArray} (h : Lies w g 9 [.string s, .string t]) {k : Nat} (hk : k < 2) : ∃ x, (x = s ∨ x = t) ∧ w.cell? ⟨g, k, none⟩ = some (.string x) := by
  rcases (show k = 0 ∨ k = 1 by omega) with rfl | rfl
  · exact ⟨s, .inl rfl, h.cell 0⟩
  · exact ⟨t, .inr rfl, h.cell 1⟩

set_option maxHeartbeats 2000000 in
theorem tells_walk (s : ByteArray) (a : Option Addr) (len cap : Nat) (zs : List Int) (w : World) (hs : s.size ≤ maxLen) (HC : Hid (Came w a len cap zs)) :
    Calls Try.prog 3 #[.string s, .slice a len cap] w fun e w' => e = .returned (.bool true) ∧ Below w.heap.size w w' := by
  have C0 := Lib.hid (text_any s 400 w hs (by omega))
  have h4 : (s.extract 0 (min s.size 400)).size ≤ 1140 := by rw [ByteArray.size_extract]; omega
  have CP := Lib.hid (play_text s a len cap zs w hs HC.out.1 (Lib.hid HC.out.2.2.2.2))
  unfold maxLen at hs
  generalize s.extract 0 (min s.size 400) = t0 at C0 h4
  go_enter Try.func3, Try.ntmps3
  go_wp2_with (fail)
  refine C0.out.mono ?_
  rintro e w' ⟨rfl, rfl⟩
  go_wp2_with (fail)
  refine CP.out.mono ?_
  rintro e w1 ⟨t, ht, rfl, b1⟩
  have L1 : Lies (w1.alloc (.cells #[.string t0, .string t] 9)) w1.heap.size 9 [.string t0, .string t] := Lies.new w1 9 _
  have B1 : Below w.heap.size w (w1.alloc (.cells #[.string t0, .string t] 9)) := b1.alloc b1.size _
  have H1 : Hid (Lies (w1.alloc (.cells #[.string t0, .string t] 9)) w1.heap.size 9 [.string t0, .string t] ∧ Below w.heap.size w (w1.alloc (.cells #[.string t0, .string t] 9))) := Lib.hid ⟨L1, B1⟩
  clear L1 B1 b1
  go_wp2_with (fail)
  generalize w1.alloc (.cells #[.string t0, .string t] 9) = W at H1 ⊢
  obtain ⟨g, hg⟩ : ∃ g, g = w1.heap.size := ⟨_, rfl⟩
  rw [← hg] at H1 ⊢
  clear hg
  go_loopw [6, 22] (fun _ i wr => ∃ k : Nat, k ≤ 2 ∧ i = .int .i64 k ∧ Hid (Lies wr g 9 [.string t0, .string t] ∧ Below w.heap.size w wr)) (fun _ i _ => 2 - (intOf i).toNat)
  case atStart => exact ⟨0, Nat.zero_le _, rfl, H1⟩
  case round =>
    clear H1
    obtain ⟨k, hk, rfl, HI⟩ := hrel
    by_cases hlt : k < 2
    · obtain ⟨x, hx, hc⟩ := two_at HI.out.1 hlt
      have hxs : x.size ≤ 1140 := by rcases hx with rfl | rfl <;> assumption
      have hi1 : (k : Int) < 2 := by omega
      clear hx
      go_wp2_with (fail)
      refine (tokens_any x wr (by unfold maxLen; omega)).mono ?_
      rintro e w2 ⟨a1, c1, rfl, T1, b2⟩
      have HB2 := Lib.hid (HI.out.2.trans (b2.mono HI.out.2.size))
      have HL2 := Lib.hid (HI.out.1.below b2 HI.out.1.lt)
      have HT1 := Lib.hid T1
      clear b2 T1
      go_wp2_with (fail)
      refine (rtokens_any x w2 (by unfold maxLen; omega)).mono ?_
      rintro e w3 ⟨a2, c2, rfl, T2, b3⟩
      have HB3 := Lib.hid (HB2.out.trans (b3.mono HB2.out.size))
      have HL3 := Lib.hid (HL2.out.below b3 HL2.out.lt)
      have HT3 := Lib.hid (HT1.out.below b3)
      have CS := Lib.hid (same_yes a1 a2 c1 c2 (ans x.data.toList).1 w3 HT3.out T2)
      clear b3 T2
      generalize (ans x.data.toList).1.length = n at CS
      generalize (ans x.data.toList).2.1 = n1
      generalize (ans x.data.toList).2.2.1 = n2
      generalize (ans x.data.toList).2.2.2 = n3
      go_wp2_with (fail)
      refine CS.out.mono ?_
      rintro e w4 ⟨rfl, q, rfl⟩
      go_wp2
      go_roundw
      case rel => exact ⟨k + 1, by omega, by go_num, Lib.hid ⟨HL3.out, HB3.out.trans (below_drewN _ _ _)⟩⟩
      case measure => simp [intOf]; omega
    · have hi1 : ¬ (k : Int) < 2 := by omega
      go_wp2_with (fail)
      refine (wakes_any _).mono ?_
      rintro e w2 ⟨rfl, b2⟩
      have HB2 := Lib.hid (HI.out.2.trans (b2.mono HI.out.2.size))
      clear b2
      go_wp2
      go_ret
      exact ⟨rfl, HB2.out⟩

theorem key_word (l : Txt) (h : isKey l = true) : isWord l = true := by
  unfold isKey at h
  rw [List.contains_iff_mem] at h
  have : ∀ l ∈ keysL, isWord l = true := by decide
  exact this l h
theorem came_bag {w w' : World} {a a' : Option Addr} {len cap c' : Nat} {zs : List Int} (h : Came w a len cap zs) (R : Bag w' a' c' (zs.take (min len 2))) : ∀ k, k < (zs.take (min len 2)).length → RowAt w' a' (zs.take (min len 2)) k := by
  intro k hk
  obtain ⟨g, e, hc⟩ := R.at hk
  have hk2 := hk
  rw [List.length_take] at hk2
  obtain ⟨_, _, _, _, _, lo, hi⟩ := h.2.2.2.2 k (by omega)
  have eq : (zs.take (min len 2)).getD k 0 = zs.getD k 0 := by
    simp only [List.getD_eq_getElem?_getD, List.getElem?_take, if_pos (show k < min len 2 by omega)]
  refine ⟨g, 0, e, by rw [Nat.zero_add]; exact hc, R.lt e, by rw [eq]; exact lo, by rw [eq]; exact hi⟩

set_option maxHeartbeats 4000000 in
theorem names_walk (s : ByteArray) (a : Option Addr) (len cap : Nat) (zs : List Int) (w : World) (hs : s.size ≤ maxLen) (HC : Hid (Came w a len cap zs)) :
    Calls Try.prog 4 #[.string s, .slice a len cap] w fun e w' => e = .returned (.bool true) ∧ Below w.heap.size w w' := by
  have CC := Lib.hid (cut_in a len cap zs w HC.out.1 HC.out.2.1 HC.out.2.2.1 HC.out.2.2.2.1 (Lib.hid HC.out.2.2.2.2))
  have HSZ := Lib.hid hs
  unfold maxLen at hs
  go_enter Try.func4, Try.ntmps4
  go_wp2_with (fail)
  refine CC.out.mono ?_
  rintro e w0 ⟨a', c', rfl, R, f, b0⟩
  have CP := Lib.hid (play_text ⟨#[]⟩ a' (zs.take (min len 2)).length c' (zs.take (min len 2)) w0 (by unfold maxLen; decide) (by rw [List.length_take]; omega) (Lib.hid (came_bag HC.out R)))
  have HB0 := Lib.hid b0
  generalize (zs.take (min len 2)).length = len' at CP ⊢
  clear R f b0 CC
  go_wp2_with (fail)
  refine CP.out.mono ?_
  rintro e w1 ⟨t, ht, rfl, b1⟩
  have B1 := HB0.out.trans (b1.mono HB0.out.size)
  have H1 : Hid (Lies (w1.alloc (.cells #[.string s, .string t] 9)) w1.heap.size 9 [.string s, .string t] ∧ Below w.heap.size w (w1.alloc (.cells #[.string s, .string t] 9))) := Lib.hid ⟨Lies.new w1 9 _, B1.alloc B1.size _⟩
  clear B1 b1 CP
  go_wp2_with (fail)
  generalize w1.alloc (.cells #[.string s, .string t] 9) = W at H1 ⊢
  obtain ⟨g, hg⟩ : ∃ g, g = w1.heap.size := ⟨_, rfl⟩
  rw [← hg] at H1 ⊢
  clear hg
  go_loopw [6, 13] (fun _ i wr => ∃ k : Nat, k ≤ 2 ∧ i = .int .i64 k ∧ Hid (Lies wr g 9 [.string s, .string t] ∧ Below w.heap.size w wr)) (fun _ i _ => 2 - (intOf i).toNat)
  case atStart => exact ⟨0, Nat.zero_le _, rfl, H1⟩
  case round =>
    clear H1
    obtain ⟨k, hk, rfl, HI⟩ := hrel
    by_cases hlt : k < 2
    · obtain ⟨x, hx, hc⟩ := two_at HI.out.1 hlt
      have hxs : x.size ≤ maxLen := by
        rcases hx with rfl | rfl
        · exact HSZ.out
        · unfold maxLen; omega
      have hi1 : (k : Int) < 2 := by omega
      have HL := Lib.hid HI.out.1
      have HB := Lib.hid HI.out.2
      have C15 := Lib.hid (fun w => lword x w hxs)
      have C16 := Lib.hid (fun w => rword x w hxs)
      have C17 := Lib.hid (fun w => lkey x w)
      have C18 := Lib.hid (fun w => rkey x w)
      have C19 := Lib.hid (fun w => lname x w hxs)
      have HKW := Lib.hid (key_word x.data.toList)
      clear hx hxs HI
      generalize isWord x.data.toList = b1 at C15 C16 C19 HKW
      generalize isKey x.data.toList = b2 at C17 C18 C19 HKW
      cases b1 <;> cases b2
      · clear HKW
        go_wp2_with (fail)
        with_reducible refine (C15.out wr).mono ?_
        rintro e w' ⟨rfl, rfl⟩
        go_wp2_with (fail)
        with_reducible refine (C16.out wr).mono ?_
        rintro e w' ⟨rfl, rfl⟩
        go_wp2_with (fail)
        with_reducible refine (C17.out wr).mono ?_
        rintro e w' ⟨rfl, rfl⟩
        go_wp2_with (fail)
        with_reducible refine (C18.out wr).mono ?_
        rintro e w2 ⟨rfl, b⟩
        have B2 : Hid (Below w.heap.size w w2) := Lib.hid (HB.out.trans (b.mono HB.out.size))
        have L2 : Hid (Lies w2 g 9 [.string s, .string t]) := Lib.hid (HL.out.below b HL.out.lt)
        clear b
        go_wp2_with (fail)
        with_reducible refine (C19.out w2).mono ?_
        rintro e w' ⟨rfl, rfl⟩
        go_wp2_with (fail)
        with_reducible refine (C15.out w2).mono ?_
        rintro e w' ⟨rfl, rfl⟩
        go_wp2_with (fail)
        with_reducible refine (C17.out w2).mono ?_
        rintro e w' ⟨rfl, rfl⟩
        go_wp2
        go_roundw
        case rel => exact ⟨k + 1, by omega, by go_num, Lib.hid ⟨L2.out, B2.out⟩⟩
        case measure => simp [intOf]; omega
      · exact absurd (HKW.out rfl) (by decide)
      · clear HKW
        go_wp2_with (fail)
        with_reducible refine (C15.out wr).mono ?_
        rintro e w' ⟨rfl, rfl⟩
        go_wp2_with (fail)
        with_reducible refine (C16.out wr).mono ?_
        rintro e w' ⟨rfl, rfl⟩
        go_wp2_with (fail)
        with_reducible refine (C17.out wr).mono ?_
        rintro e w' ⟨rfl, rfl⟩
        go_wp2_with (fail)
        with_reducible refine (C18.out wr).mono ?_
        rintro e w2 ⟨rfl, b⟩
        have B2 : Hid (Below w.heap.size w w2) := Lib.hid (HB.out.trans (b.mono HB.out.size))
        have L2 : Hid (Lies w2 g 9 [.string s, .string t]) := Lib.hid (HL.out.below b HL.out.lt)
        clear b
        go_wp2_with (fail)
        with_reducible refine (C19.out w2).mono ?_
        rintro e w' ⟨rfl, rfl⟩
        go_wp2_with (fail)
        with_reducible refine (C15.out w2).mono ?_
        rintro e w' ⟨rfl, rfl⟩
        go_wp2_with (fail)
        with_reducible refine (C17.out w2).mono ?_
        rintro e w' ⟨rfl, rfl⟩
        go_wp2_with (fail)
        with_reducible refine (C17.out w2).mono ?_
        rintro e w' ⟨rfl, rfl⟩
        go_wp2
        go_roundw
        case rel => exact ⟨k + 1, by omega, by go_num, Lib.hid ⟨L2.out, B2.out⟩⟩
        case measure => simp [intOf]; omega
      · clear HKW
        go_wp2_with (fail)
        with_reducible refine (C15.out wr).mono ?_
        rintro e w' ⟨rfl, rfl⟩
        go_wp2_with (fail)
        with_reducible refine (C16.out wr).mono ?_
        rintro e w' ⟨rfl, rfl⟩
        go_wp2_with (fail)
        with_reducible refine (C17.out wr).mono ?_
        rintro e w' ⟨rfl, rfl⟩
        go_wp2_with (fail)
        with_reducible refine (C18.out wr).mono ?_
        rintro e w2 ⟨rfl, b⟩
        have B2 : Hid (Below w.heap.size w w2) := Lib.hid (HB.out.trans (b.mono HB.out.size))
        have L2 : Hid (Lies w2 g 9 [.string s, .string t]) := Lib.hid (HL.out.below b HL.out.lt)
        clear b
        go_wp2_with (fail)
        with_reducible refine (C19.out w2).mono ?_
        rintro e w' ⟨rfl, rfl⟩
        go_wp2_with (fail)
        with_reducible refine (C15.out w2).mono ?_
        rintro e w' ⟨rfl, rfl⟩
        go_wp2_with (fail)
        with_reducible refine (C17.out w2).mono ?_
        rintro e w' ⟨rfl, rfl⟩
        go_wp2_with (fail)
        with_reducible refine (C17.out w2).mono ?_
        rintro e w' ⟨rfl, rfl⟩
        go_wp2_with (fail)
        with_reducible refine (C15.out w2).mono ?_
        rintro e w' ⟨rfl, rfl⟩
        go_wp2
        go_roundw
        case rel => exact ⟨k + 1, by omega, by go_num, Lib.hid ⟨L2.out, B2.out⟩⟩
        case measure => simp [intOf]; omega
    · have hi1 : ¬ (k : Int) < 2 := by omega
      go_wp2_with (fail)
      refine (wakes_any _).mono ?_
      rintro e w2 ⟨rfl, b2⟩
      have HB2 := Lib.hid (HI.out.2.trans (b2.mono HI.out.2.size))
      clear b2
      go_wp2
      go_ret
      exact ⟨rfl, HB2.out⟩
end Go.Proofs.Ytoogffjmfihbgaa

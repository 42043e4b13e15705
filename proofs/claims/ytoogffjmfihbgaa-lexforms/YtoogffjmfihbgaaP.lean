/- Contracts of columbaryplay.Text: a text of at most 1140 bytes, nothing old turned; of keep's Copy and Cut of numbers; the condition: what came in can be read. -/
import Derived.Test.YtoogffjmfihbgaaF
import Derived.Lib.AppendZeros
namespace Go.Proofs.Ytoogffjmfihbgaa
open Go.ChangeShapes Go.WideShapes Go.ChangeAt Go.RowKit

/-- What a call that makes some text of at most n bytes comes to. -/
def MakesTxt (n : Nat) (w : World) (e : Ending) (w' : World) : Prop := ∃ t : ByteArray, t.size ≤ n ∧ e = .returned (.string t) ∧ Below w.heap.size w w'
theorem words_size : ∀ (r : Nat) (h : r < wordsL.length), (str wordsL[r]).size ≤ 17 := by
  have : ∀ l ∈ wordsL, l.length ≤ 17 := by decide
  intro r h
  rw [str_size]
  exact this _ (List.getElem_mem h)
theorem tdiv_small (z : Int) (h0 : -9223372036854775808 ≤ z) (h1 : z ≤ 9223372036854775807) : -9223372036854775808 ≤ z.tdiv 128 ∧ z.tdiv 128 ≤ 9223372036854775807 := by
  by_cases h : 0 ≤ z
  · rw [Int.tdiv_eq_ediv_of_nonneg h]; omega
  · have e : z = -(-z) := by omega
    rw [e, Int.neg_tdiv, Int.tdiv_eq_ediv_of_nonneg (by omega)]; omega
theorem words_len : wordsL.length = 66 := rfl
theorem app_size (a b : ByteArray) : (a ++ b).size = a.size + b.size := ByteArray.size_append

set_option maxHeartbeats 2000000 in
theorem play_text (s : ByteArray) (a : Option Addr) (len cap : Nat) (zs : List Int) (w : World) (hs : s.size ≤ maxLen) (_hlen : len ≤ 9223372036854775807) (HR : Hid (∀ k, k < len → RowAt w a zs k)) :
    Calls Try.prog 9 #[.string s, .slice a len cap] w (MakesTxt 1140 w) := by
  have C0 := Lib.hid (text_any s 60 w hs (by omega))
  have h60 : (s.extract 0 (min s.size 60)).size ≤ 60 := by rw [ByteArray.size_extract]; omega
  unfold maxLen at hs
  generalize s.extract 0 (min s.size 60) = t0 at C0 h60
  go_enter Try.func9, Try.ntmps9
  go_wp2_with (fail)
  refine C0.out.mono ?_
  rintro e w' ⟨rfl, rfl⟩
  go_wp2_with (fail)
  refine (words_any _).mono ?_
  rintro e w1 ⟨g, rfl, hl, bel⟩
  rw [words_len]
  have HL := Lib.hid hl
  have HB := Lib.hid bel
  clear hl bel
  go_wp2
  go_loop [5, 7, 8, 14] (fun o _ _ i => ∃ (k : Nat) (t : ByteArray), k ≤ len ∧ k ≤ 60 ∧ i = .int .i64 k ∧ o = .string t ∧ t.size ≤ 60 + 18 * k) (fun _ _ _ i => len - (intOf i).toNat)
  case atStart => exact ⟨0, t0, Nat.zero_le _, Nat.zero_le _, rfl, rfl, by omega⟩
  case round =>
    obtain ⟨k, t, hk, hk60, rfl, rfl, ht⟩ := hrel
    by_cases hlt : k < len
    · obtain ⟨b, off, rfl, hcell, hb, hlo, hhi⟩ := HR.out k hlt
      have hc1 : w1.cell? ⟨b, off + k, none⟩ = some (.int .i64 (zs.getD k 0)) := (HB.out.cell (p := ⟨b, off + k, none⟩) hb).trans hcell
      clear hcell
      generalize zs.getD k 0 = z at hc1 hlo hhi
      by_cases hlt60 : k < 60
      · go_wp2_with (fail)
        refine (within_any z 66 _ (by omega) (by omega) hlo hhi).mono ?_
        rintro e w' ⟨r, hr, rfl, rfl⟩
        have hr' : r < wordsL.length := by rw [words_len]; omega
        have hcr := there_str HL.out hr'
        have hsz := words_size r hr'
        have hr66 : r < 66 := by omega
        generalize str wordsL[r] = y at hcr hsz
        have hd := tdiv_small z hlo hhi
        go_wp2_with (fail)
        refine (within_any _ 5 _ (by omega) (by omega) hd.1 hd.2).mono ?_
        rintro e w' ⟨q, hq, rfl, rfl⟩
        by_cases hq0 : 0 < q
        · have hq1 : decide ((0 : Int) < (q : Int)) = true := by simp; omega
          go_wp2
          go_round
          case rel => exact ⟨k + 1, _, by omega, by omega, by go_num, rfl, by simp only [app_size]; show t.size + y.size + 1 ≤ _; omega⟩
          case measure => simp [intOf]; omega
        · have hq1 : decide ((0 : Int) < (q : Int)) = false := by simp; omega
          go_wp2
          go_round
          case rel => exact ⟨k + 1, _, by omega, by omega, by go_num, rfl, by simp only [app_size]; omega⟩
          case measure => simp [intOf]; omega
      · go_wp2
        go_ret
        exact ⟨t, by omega, rfl, HB.out⟩
    · go_wp2
      go_ret
      exact ⟨t, by omega, rfl, HB.out⟩

theorem copy_any (a : Option Addr) (c : Nat) (xs : List Int) (w : World) (R : Bag w a c xs) (hb : xs.length ≤ 1000) :
    Calls Try.prog 28 #[.slice a xs.length c] w (Makes xs w) := by
  obtain ⟨v, w', hr, a', c', e, r, f, bel⟩ := run_copy 22 22 Try.underlying22 a c xs w R (by omega)
  injection e with e
  subst e
  go_enter Try.func28, Try.ntmps28
  go_wp2_with (at_builtin; refine Lib.wpList_append_run _ rfl _ _ _ _ rfl _ _ rfl rfl _ _ hr ?_)
  go_ret
  exact ⟨a', c', rfl, r, f, bel⟩
theorem copy_at (ad : Addr) (c : Nat) (xs : List Int) (w : World) (hc : ∀ j u, (ints xs)[j]? = some u → w.cell? (ad.add j) = some u) (hb : xs.length ≤ 1000) :
    Calls Try.prog 28 #[.slice (some ad) xs.length c] w (Makes xs w) := by
  obtain ⟨v, w', hr, a', c', e, r, f, bel⟩ := run_copy_at 22 22 Try.underlying22 ad c xs w hc (by omega)
  injection e with e
  subst e
  clear hc
  go_enter Try.func28, Try.ntmps28
  go_wp2_with (at_builtin; refine Lib.wpList_append_run _ rfl _ _ _ _ rfl _ _ rfl rfl _ _ hr ?_)
  go_ret
  exact ⟨a', c', rfl, r, f, bel⟩

/-- Cut of a slice that came in. -/
theorem cut_in (a : Option Addr) (len cap : Nat) (zs : List Int) (w : World) (hlen : len ≤ 9223372036854775807) (hn : a = none → len = 0 ∧ cap = 0) (hcap : len ≤ cap) (hz : len ≤ zs.length) (HR : Hid (∀ k, k < len → RowAt w a zs k)) :
    Calls Try.prog 14 #[.slice a len cap, .int .i64 2] w (Makes (zs.take (min len 2)) w) := by
  have hlt : (zs.take (min len 2)).length = min len 2 := by rw [List.length_take]; omega
  have HL := Lib.hid hlt
  clear hlt
  by_cases h0 : len = 0
  · subst h0
    have e : zs.take (min 0 2) = [] := by simp
    rw [e]
    clear HL HR e
    cases a with
    | none =>
      obtain rfl := (hn rfl).2
      have C := copy_any none 0 [] w (Bag.nil w) (by simp)
      go_enter Try.func14, Try.ntmps14
      go_wp2_with (fail)
      refine C.mono ?_
      rintro e w' ⟨a', c', rfl, r, f, bel⟩
      go_wp2
      go_ret
      exact ⟨a', c', rfl, r, f, bel⟩
    | some ad =>
      have C := copy_at ad cap [] w (by simp [ints]) (by simp)
      go_enter Try.func14, Try.ntmps14
      go_wp2_with (fail)
      refine C.mono ?_
      rintro e w' ⟨a', c', rfl, r, f, bel⟩
      go_wp2
      go_ret
      exact ⟨a', c', rfl, r, f, bel⟩
  · obtain ⟨b, off, rfl, _⟩ := HR.out 0 (by omega)
    have C := copy_at ⟨b, off, none⟩ cap (zs.take (min len 2)) w (by
      intro j u hj
      have hj' := (List.getElem?_eq_some_iff.1 hj).1
      rw [ints_len, HL.out] at hj'
      obtain ⟨b', off', e, hc, _⟩ := HR.out j (by omega)
      injection e with e; injection e with e1 e2; subst e1; subst e2
      rw [Addr.add_lit, hc]
      rw [← hj]
      simp [ints, List.getD, show j < zs.length by omega, show j < min len 2 by omega]) (by rw [HL.out]; omega)
    rw [HL.out] at C
    clear HR
    have h1 : min len 2 ≤ cap := by omega
    by_cases h20 : len ≤ 2
    · have e2 : min len 2 = len := by omega
      rw [e2] at C ⊢
      clear e2 HL
      have hm : (min (len : Int) 2).toNat = len := by omega
      generalize zs.take len = ys at C ⊢
      go_enter Try.func14, Try.ntmps14
      go_wp2_with (fail)
      refine C.mono ?_
      rintro e w' ⟨a', c', rfl, r, f, bel⟩
      go_wp2
      go_ret
      exact ⟨a', c', rfl, r, f, bel⟩
    · have e2 : min len 2 = 2 := by omega
      rw [e2] at C ⊢
      clear e2 HL
      have hm : (min (len : Int) 2).toNat = 2 := by omega
      generalize zs.take 2 = ys at C ⊢
      go_enter Try.func14, Try.ntmps14
      go_wp2_with (fail)
      refine C.mono ?_
      rintro e w' ⟨a', c', rfl, r, f, bel⟩
      go_wp2
      go_ret
      exact ⟨a', c', rfl, r, f, bel⟩

end Go.Proofs.Ytoogffjmfihbgaa

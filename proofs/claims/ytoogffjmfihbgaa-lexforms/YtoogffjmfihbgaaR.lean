/- Contracts of keep's Same at tokens (of two rows that are the same) and of wakes (the document's example); the condition: the rows lie there. -/
import Derived.Test.YtoogffjmfihbgaaQ
namespace Go.Proofs.Ytoogffjmfihbgaa
open Go.ChangeShapes Go.WideShapes Go.ChangeAt Go.RowKit

theorem rtokens_any (s : ByteArray) (w : World) (hs : s.size ≤ maxLen) : Calls Try.prog 11 #[.string s] w (Tells s.data.toList w) := by
  by_cases h : s.size ≤ 16384
  · exact rtokens_main s w h
  · exact rtokens_limit s w hs (by omega)

set_option maxHeartbeats 1000000 in
theorem same_yes (a a' : Option Addr) (c c' : Nat) (ts : List Tok) (w : World) (R : Toks w a c ts) (R' : Toks w a' c' ts) :
    Calls Try.prog 12 #[.slice a ts.length c, .slice a' ts.length c'] w (Reads (.bool true) w) := by
  have hle := R.le
  have HR := Lib.hid R
  have HR' := Lib.hid R'
  clear R R'
  obtain ⟨n, hn⟩ : ∃ n, n = ts.length := ⟨_, rfl⟩
  rw [← hn] at hle ⊢
  have HN := Lib.hid hn
  clear hn
  go_enter Try.func12, Try.ntmps12
  go_wp2
  go_loopw [5] (fun i wr => ∃ k q : Nat, k ≤ n ∧ i = .int .i64 k ∧ wr = w.drewN q) (fun i _ => n - (intOf i).toNat)
  case atStart => exact ⟨0, 0, Nat.zero_le _, rfl, rfl⟩
  case round =>
    obtain ⟨k, q, hk, rfl, rfl⟩ := hrel
    by_cases hlt : k < n
    · obtain ⟨g, rfl, d⟩ := HR.out.there (j := k) (by rw [← HN.out]; exact hlt)
      obtain ⟨g', rfl, d'⟩ := HR'.out.there (j := k) (by rw [← HN.out]; exact hlt)
      obtain ⟨c0, c1, c2, c3, c4⟩ := d
      obtain ⟨e0, e1, e2, e3, e4⟩ := d'
      generalize ts[k].kind = v0 at c0 e0
      generalize ts[k].n = v1 at c1 e1
      generalize ts[k].line = v2 at c2 e2
      generalize ts[k].col = v3 at c3 e3
      generalize str ts[k].text = v4 at c4 e4
      have hi1 : (k : Int) < (n : Int) := by omega
      go_wp2
      go_quiet (fail)
      go_wp2
      go_roundw
      case rel => exact ⟨k + 1, _, by omega, by go_num, rfl⟩
      case measure => simp [intOf]; omega
    · go_wp2
      go_ret
      exact ⟨rfl, _, rfl⟩

theorem ans_ex : ans [97, 49, 32, 49, 50] = ([⟨1, 0, 1, 1, [97, 49]⟩, ⟨2, 12, 1, 4, [49, 50]⟩, ⟨4, 0, 1, 6, []⟩], 0, 0, 0) := by decide
theorem reads_below {w w' : World} {q : Nat} (h : w' = w.drewN q) : Below w.heap.size w w' := by subst h; exact below_drewN _ _ _
set_option maxHeartbeats 1000000 in
theorem wakes_any (w : World) : Calls Try.prog 13 #[] w (True_ w) := by
  have C := tokens_any ⟨#[97, 49, 32, 49, 50]⟩ w (by unfold maxLen; decide)
  rw [show (⟨#[97, 49, 32, 49, 50]⟩ : ByteArray).data.toList = [97, 49, 32, 49, 50] from rfl] at C
  unfold Tells at C
  rw [ans_ex] at C
  have HC := Lib.hid C
  clear C
  go_enter Try.func13, Try.ntmps13
  go_wp2_with (fail)
  refine HC.out.mono ?_
  rintro e w1 ⟨a, c, rfl, T, B⟩
  obtain ⟨ts, hts⟩ : ∃ ts : List Tok, ts = [⟨1, 0, 1, 1, [97, 49]⟩, ⟨2, 12, 1, 4, [49, 50]⟩, ⟨4, 0, 1, 6, []⟩] := ⟨_, rfl⟩
  have T' : Toks w1 a c ts := by rw [hts]; exact T
  have HT := Lib.hid T'
  have HB := Lib.hid B
  have HTS := Lib.hid hts
  clear T B T' hts
  have h3 : ts.length = 3 := by rw [HTS.out]; rfl
  have S := same_yes a (some ⟨w1.heap.size, 0, none⟩) c 3 ts (w1.alloc (.cells #[.int .i64 1, .int .i64 0, .int .i64 1, .int .i64 1, .string ⟨#[97, 49]⟩, .int .i64 2, .int .i64 12, .int .i64 1, .int .i64 4, .string ⟨#[49, 50]⟩, .int .i64 4, .int .i64 0, .int .i64 1, .int .i64 6, .string ⟨#[]⟩] 34)) (HT.out.alloc _) (.inr ⟨w1.heap.size, [], rfl, by rw [h3]; rfl, by rw [h3]; exact Nat.le_refl _, by omega, by
    rw [HTS.out, List.append_nil]
    exact Lies.new w1 34 [.int .i64 1, .int .i64 0, .int .i64 1, .int .i64 1, .string ⟨#[97, 49]⟩, .int .i64 2, .int .i64 12, .int .i64 1, .int .i64 4, .string ⟨#[49, 50]⟩, .int .i64 4, .int .i64 0, .int .i64 1, .int .i64 6, .string ⟨#[]⟩]⟩)
  rw [h3] at S
  have HS := Lib.hid S
  have HA : Hid (Below w.heap.size w (w1.alloc (.cells #[.int .i64 1, .int .i64 0, .int .i64 1, .int .i64 1, .string ⟨#[97, 49]⟩, .int .i64 2, .int .i64 12, .int .i64 1, .int .i64 4, .string ⟨#[49, 50]⟩, .int .i64 4, .int .i64 0, .int .i64 1, .int .i64 6, .string ⟨#[]⟩] 34))) := Lib.hid (HB.out.alloc HB.out.size _)
  clear S h3
  go_wp2_with (fail)
  refine HS.out.mono ?_
  rintro e w2 ⟨rfl, q, rfl⟩
  go_wp2
  go_ret
  exact ⟨rfl, HA.out.trans (below_drewN _ _ _)⟩
end Go.Proofs.Ytoogffjmfihbgaa

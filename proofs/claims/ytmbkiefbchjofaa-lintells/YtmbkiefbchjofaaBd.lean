/- The reference's SameBag and Point. -/
import Derived.Test.YtmbkiefbchjofaaBc
namespace Go.Proofs.Ytmbkiefbchjofaa
open Go.ChangeShapes Go.WideShapes Go.ChangeAt Go.RowKit

theorem sameBag_any (a a' : Option Addr) (c c' : Nat) (xs ys : List Int) (w : World) (R : Bag w a c xs) (R' : Bag w a' c' ys) :
    Calls Try.prog 43 #[.slice a xs.length c, .slice a' ys.length c'] w (Reads (.bool (sameL xs ys)) w) := by
  have hle := R.le
  have hle' := R'.le
  have HR := Lib.hid R
  have HR' := Lib.hid R'
  clear R R'
  by_cases hl : xs.length = ys.length
  · obtain ⟨n, hn⟩ : ∃ n, n = xs.length := ⟨_, rfl⟩
    have hl' : n = ys.length := hn.trans hl
    rw [← hn] at hle ⊢
    rw [← hl'] at hle' ⊢
    have HN := Lib.hid hn.symm
    have HL := Lib.hid hl'
    clear hn hl hl'
    go_enter Try.func43, Try.ntmps43
    go_wp2
    go_loopw [13] (fun i wr => ∃ k q : Nat, k ≤ n ∧ i = .int .i64 k ∧ wr = w.drewN q ∧ Hid (∀ j, j < k → xs.getD j 0 = ys.getD j 0)) (fun i _ => n - (intOf i).toNat)
    case atStart => exact ⟨0, 0, Nat.zero_le _, rfl, rfl, Lib.hid (fun j h => by omega)⟩
    case round =>
      obtain ⟨k, q, hk, rfl, rfl, HE⟩ := hrel
      by_cases hlt : k < n
      · obtain ⟨g, rfl, hc⟩ := HR.out.at (k := k) (by rw [HN.out]; exact hlt)
        obtain ⟨g', rfl, hc'⟩ := HR'.out.at (k := k) (by rw [← HL.out]; exact hlt)
        by_cases he : xs.getD k 0 = ys.getD k 0
        · have HK := Lib.hid he
          rw [← he] at hc'
          clear he
          generalize xs.getD k 0 = z at hc hc'
          go_wp2
          go_quiet (fail)
          go_wp2
          go_roundw
          case rel => exact ⟨k + 1, _, by omega, by go_num, rfl, Lib.hid (fun j hj => by
            by_cases e : j = k
            · rw [e]; exact HK.out
            · exact HE.out j (by omega))⟩
          case measure => simp [intOf]; omega
        · have HK := Lib.hid (same_at he)
          have hne : ¬ xs.getD k 0 = ys.getD k 0 := he
          clear he
          generalize xs.getD k 0 = z at hc hne
          generalize ys.getD k 0 = z' at hc' hne
          go_wp2
          go_quiet (fail)
          go_wp2
          go_ret
          exact ⟨by rw [HK.out]; rfl, _, World.drewN_drewN _ _ _⟩
      · go_wp2
        go_ret
        exact ⟨by rw [same_all (by rw [HN.out, HL.out]) (fun j hj => HE.out j (by rw [HN.out] at hj; omega))]; rfl, _, rfl⟩
  · have HK := Lib.hid (same_len hl)
    go_enter Try.func43, Try.ntmps43
    go_wp2
    go_ret
    exact ⟨by rw [HK.out]; rfl, 0, rfl⟩

theorem point_any (a pa : Option Addr) (c pc : Nat) (x : Lin) (w : World) (R : Bag w a c x.base) (P : Bags w pa pc x.ps) :
    Calls Try.prog 16 #[.agg #[.slice a x.base.length c, .slice pa x.ps.length pc]] w (TellsB (pointLin x) w) := by
  have hle := P.le
  obtain ⟨n, hn⟩ : ∃ n, n = x.base.length := ⟨_, rfl⟩
  obtain ⟨m, hm⟩ : ∃ m, m = x.ps.length := ⟨_, rfl⟩
  have HB0 : Hid (Below w.heap.size w (w.alloc (.cells #[.slice a n c, .slice pa m pc] 29))) := Lib.hid ((Below.refl _ _).alloc (Nat.le_refl _) _)
  have HX : Hid (Lies (w.alloc (.cells #[.slice a n c, .slice pa m pc] 29)) w.heap.size 29 [.slice a n c, .slice pa m pc]) := Lib.hid (Lies.new w _ _)
  have HS : Hid (w.heap.size < (w.alloc (.cells #[.slice a n c, .slice pa m pc] 29)).heap.size) := Lib.hid HX.out.lt
  have HZ : Hid (Calls Try.prog 14 #[.agg #[.slice a n c, .slice pa m pc]] (w.alloc (.cells #[.slice a n c, .slice pa m pc] 29)) (TellsB (rightLin x) (w.alloc (.cells #[.slice a n c, .slice pa m pc] 29)))) := Lib.hid (by
    have := rightLin_any a pa c pc x _ (R.below HB0.out) (P.below HB0.out)
    rwa [← hn, ← hm] at this)
  have HE : Hid (pointLin x = (rightLin x && decide (m = 0))) := Lib.hid (by
    rw [hm]
    cases h : x.ps <;> simp [pointLin, h])
  rw [← hm] at hle
  rw [← hn, ← hm]
  clear R P hn hm
  go_enter Try.func16, Try.ntmps16
  go_wp2_with (fail)
  generalize w.alloc (.cells #[.slice a n c, .slice pa m pc] 29) = W at HB0 HX HS HZ ⊢
  generalize hg : w.heap.size = gb at HX HS ⊢
  have HG := Lib.hid hg
  clear hg
  have p0 : W.cell? ⟨gb, 0, none⟩ = some (.slice a n c) := HX.out.cell 0
  have p1 : W.cell? ⟨gb, 1, none⟩ = some (.slice pa m pc) := HX.out.cell 1
  go_wp2_with (fail)
  refine HZ.out.mono ?_
  rintro e w' ⟨rfl, b1⟩
  clear HZ p0 p1
  have HB1 : Hid (Below w.heap.size w w') := Lib.hid (HB0.out.trans (b1.mono (by have := HS.out; have := HG.out; omega)))
  have p1 : w'.cell? ⟨gb, 1, none⟩ = some (.slice pa m pc) := (b1.cell (p := ⟨gb, 1, none⟩) HS.out).trans (HX.out.cell 1)
  clear b1
  generalize rightLin x = r at HE ⊢
  cases r with
  | false =>
    go_wp2
    go_ret
    exact ⟨by rw [HE.out]; rfl, HB1.out⟩
  | true =>
    by_cases h0 : m = 0
    · subst h0
      go_wp2
      go_ret
      exact ⟨by rw [HE.out]; rfl, HB1.out⟩
    · have hl0 : ((m : Int) == 0) = false := by simp; omega
      go_wp2
      go_ret
      exact ⟨by rw [HE.out]; simp [h0], HB1.out⟩
end Go.Proofs.Ytmbkiefbchjofaa

/- Contracts of cmp.Or, slices.Compare, Compare and of the reference's CompareBag. -/
import Derived.Test.YtmbkiefbchjofaaF
namespace Go.Proofs.Ytmbkiefbchjofaa
open Go.ChangeShapes Go.WideShapes Go.ChangeAt Go.RowKit

theorem or33 (a : Option Addr) (c : Nat) (p q : Int) (w : World) (R : Bag w a c [p, q]) :
    Calls Try.prog 44 #[.slice a 2 c] w fun e w' => e = .returned (.int .i64 (orI p q)) ∧ w = w' := by
  obtain ⟨g, rfl, hc0⟩ := R.at (k := 0) (by simp)
  obtain ⟨g', e, hc1⟩ := R.at (k := 1) (by simp)
  injection e with e; injection e with e
  have hg : g = g' := e
  subst hg
  have hp : w.cell? ⟨g, 0, none⟩ = some (.int .i64 p) := hc0
  have hq : w.cell? ⟨g, 1, none⟩ = some (.int .i64 q) := hc1
  clear hc0 hc1 e R
  by_cases h0 : p = 0
  · have H : Hid (orI p q = q) := Lib.hid (by simp [orI, h0])
    rw [h0] at hp
    clear h0
    by_cases h1 : q = 0
    · rw [h1] at hq
      have HQ := Lib.hid h1
      clear h1
      go_enter Try.func44, Try.ntmps44
      go_wp2
      go_loop [8] (fun i => ∃ k : Nat, k ≤ 2 ∧ i = .int .i64 k) (fun i => 2 - (intOf i).toNat)
      case atStart => exact ⟨0, Nat.zero_le _, rfl⟩
      case round =>
        obtain ⟨k, hk, rfl⟩ := hrel
        obtain rfl | rfl | rfl : k = 0 ∨ k = 1 ∨ k = 2 := by omega
        · go_wp2
          go_round
          case rel => exact ⟨1, by omega, rfl⟩
          case measure => simp [intOf]
        · go_wp2
          go_round
          case rel => exact ⟨2, by omega, rfl⟩
          case measure => simp [intOf]
        · go_wp2
          go_ret
          exact ⟨by rw [H.out, HQ.out]; rfl, rfl⟩
    · go_enter Try.func44, Try.ntmps44
      go_wp2
      go_loop [8] (fun i => ∃ k : Nat, k ≤ 1 ∧ i = .int .i64 k) (fun i => 2 - (intOf i).toNat)
      case atStart => exact ⟨0, Nat.zero_le _, rfl⟩
      case round =>
        obtain ⟨k, hk, rfl⟩ := hrel
        obtain rfl | rfl : k = 0 ∨ k = 1 := by omega
        · go_wp2
          go_round
          case rel => exact ⟨1, by omega, rfl⟩
          case measure => simp [intOf]
        · go_wp2
          go_ret
          exact ⟨by rw [H.out]; rfl, rfl⟩
  · have H : Hid (orI p q = p) := Lib.hid (by simp [orI, h0])
    go_enter Try.func44, Try.ntmps44
    go_wp2
    go_loop [8] (fun i => i = .int .i64 0) (fun _ => 0)
    case atStart => rfl
    case round =>
      obtain rfl := hrel
      go_wp2
      go_ret
      exact ⟨by rw [H.out]; rfl, rfl⟩

set_option maxHeartbeats 1000000 in
theorem cmp35 (a b : Option Addr) (c d : Nat) (xs ys : List Int) (w : World) (R : Bag w a c xs) (S : Bag w b d ys) :
    Calls Try.prog 54 #[.slice a xs.length c, .slice b ys.length d] w fun e w' => e = .returned (.int .i64 (lex xs ys)) ∧ w = w' := by
  have hle := R.le
  have hle' := S.le
  obtain ⟨l, hl⟩ : ∃ l, l = xs.length := ⟨_, rfl⟩
  obtain ⟨m, hm⟩ : ∃ m, m = ys.length := ⟨_, rfl⟩
  rw [← hl] at hle ⊢
  rw [← hm] at hle' ⊢
  have HL := Lib.hid hl.symm
  have HM := Lib.hid hm.symm
  have HR := Lib.hid R
  have HS := Lib.hid S
  clear hl hm R S
  go_enter Try.func54, Try.ntmps54
  go_wp2
  go_loop [11] (fun i => ∃ k : Nat, k ≤ l ∧ i = .int .i64 k ∧ Hid (lex xs ys = lex (xs.drop k) (ys.drop k))) (fun i => l - (intOf i).toNat)
  case atStart => exact ⟨0, Nat.zero_le _, rfl, Lib.hid rfl⟩
  case round =>
    obtain ⟨k, hk, rfl, HE⟩ := hrel
    by_cases hlt : k < l
    · obtain ⟨g, rfl, hc⟩ := HR.out.at (k := k) (by rw [HL.out]; exact hlt)
      by_cases hkm : k < m
      · obtain ⟨g2, rfl, hd⟩ := HS.out.at (k := k) (by rw [HM.out]; exact hkm)
        have st := lex_step (a := xs) (b := ys) (k := k) (by rw [HL.out]; exact hlt) (by rw [HM.out]; exact hkm)
        have C := cmp_int (xs.getD k 0) (ys.getD k 0) w
        rcases sgn_cases (xs.getD k 0) (ys.getD k 0) with ⟨h, e⟩ | ⟨h, e⟩ | ⟨h, e⟩
        · rw [if_pos h] at st
          have H := Lib.hid (HE.out.trans st)
          rw [e] at C
          clear st e h
          generalize xs.getD k 0 = p at *
          generalize ys.getD k 0 = q at *
          go_wp2_with (fail)
          refine C.mono ?_
          rintro e w' ⟨rfl, rfl⟩
          go_wp2
          go_ret
          exact ⟨by rw [H.out]; rfl, rfl⟩
        · rw [if_neg (by omega), if_neg (by omega)] at st
          have H := Lib.hid (HE.out.trans st)
          rw [e] at C
          clear st e h
          generalize xs.getD k 0 = p at *
          generalize ys.getD k 0 = q at *
          go_wp2_with (fail)
          refine C.mono ?_
          rintro e w' ⟨rfl, rfl⟩
          go_wp2
          go_round
          case rel => exact ⟨k + 1, by omega, by go_num, H⟩
          case measure => simp [intOf]; omega
        · rw [if_neg (by omega), if_pos h] at st
          have H := Lib.hid (HE.out.trans st)
          rw [e] at C
          clear st e h
          generalize xs.getD k 0 = p at *
          generalize ys.getD k 0 = q at *
          go_wp2_with (fail)
          refine C.mono ?_
          rintro e w' ⟨rfl, rfl⟩
          go_wp2
          go_ret
          exact ⟨by rw [H.out]; rfl, rfl⟩
      · have H := Lib.hid (HE.out.trans (lex_end' (a := xs) (b := ys) (k := k) (by rw [HL.out]; exact hlt) (by rw [HM.out]; omega)))
        generalize xs.getD k 0 = p at *
        go_wp2
        go_ret
        exact ⟨by rw [H.out]; rfl, rfl⟩
    · by_cases hlm : l < m
      · have H := Lib.hid (HE.out.trans (lex_end (a := xs) (b := ys) (k := k) (by rw [HL.out]; omega) (by rw [HM.out]; omega)))
        go_wp2
        go_ret
        exact ⟨by rw [H.out]; rfl, rfl⟩
      · have H := Lib.hid (HE.out.trans (lex_both (a := xs) (b := ys) (k := k) (by rw [HL.out]; omega) (by rw [HM.out]; omega)))
        go_wp2
        go_ret
        exact ⟨by rw [H.out]; rfl, rfl⟩

/-- What a call that tells a number, and leaves what there was, comes to. -/
def Tells (n : Int) (w : World) (e : Ending) (w' : World) : Prop := e = .returned (.int .i64 n) ∧ Below w.heap.size w w'

theorem cmp21 (a b : Option Addr) (c d : Nat) (xs ys : List Int) (w : World) (R : Bag w a c xs) (S : Bag w b d ys) :
    Calls Try.prog 32 #[.slice a xs.length c, .slice b ys.length d] w (Tells (cmpL xs ys) w) := by
  have Z := right16 a c xs w R
  have Z2 := right16 b d ys w S
  cases hx : rightL xs with
  | false =>
    have H := Lib.hid (cmp_no1 (b := ys) hx)
    rw [hx] at Z
    clear hx R S Z2
    go_enter Try.func32, Try.ntmps32
    go_wp2_with (fail)
    refine Z.mono ?_
    rintro e w' ⟨rfl, rfl⟩
    go_wp2
    go_ret
    exact ⟨by rw [H.out]; rfl, Below.refl _ _⟩
  | true =>
    cases hy : rightL ys with
    | false =>
      have H := Lib.hid (cmp_no2 (a := xs) hy)
      rw [hx] at Z
      rw [hy] at Z2
      clear hx hy R S
      go_enter Try.func32, Try.ntmps32
      go_wp2_with (fail)
      refine Z.mono ?_
      rintro e w' ⟨rfl, rfl⟩
      go_wp2_with (fail)
      refine Z2.mono ?_
      rintro e w' ⟨rfl, rfl⟩
      go_wp2
      go_ret
      exact ⟨by rw [H.out]; rfl, Below.refl _ _⟩
    | true =>
      have H := Lib.hid (cmp_yes hx hy)
      rw [hx] at Z
      rw [hy] at Z2
      have C := cmp_int xs.length ys.length w
      have C2 := cmp35 a b c d xs ys w R S
      clear hx hy R S
      generalize sgn xs.length ys.length = p at *
      generalize lex xs ys = q at *
      go_enter Try.func32, Try.ntmps32
      go_wp2_with (fail)
      refine Z.mono ?_
      rintro e w' ⟨rfl, rfl⟩
      go_wp2_with (fail)
      refine Z2.mono ?_
      rintro e w' ⟨rfl, rfl⟩
      go_wp2_with (fail)
      refine C.mono ?_
      rintro e w' ⟨rfl, rfl⟩
      go_wp2_with (fail)
      refine C2.mono ?_
      rintro e w' ⟨rfl, rfl⟩
      go_wp2_with (fail)
      refine (or33 (some ⟨w.heap.size, 0, none⟩) 2 p q _ (bag_new2 w p q)).mono ?_
      rintro e w' ⟨rfl, rfl⟩
      go_wp2
      go_ret
      exact ⟨by rw [H.out]; rfl, below_alloc _ _⟩

theorem cmp22_ne (a b : Option Addr) (c d : Nat) (xs ys : List Int) (w : World) (R : Bag w a c xs) (S : Bag w b d ys) (hx : rightL xs = true) (hy : rightL ys = true) (hne : xs.length ≠ ys.length) :
    Calls Try.prog 42 #[.slice a xs.length c, .slice b ys.length d] w (Tells (cmpL xs ys) w) := by
  have Z := right17 a c xs w R
  have Z2 := right17 b d ys w S
  rw [hx] at Z
  rw [hy] at Z2
  have hc := cmp_yes hx hy
  by_cases hlt : xs.length < ys.length
  · have H : Hid (cmpL xs ys = -1) := Lib.hid (by
      rw [hc]
      rcases sgn_cases xs.length ys.length with ⟨_, e⟩ | ⟨h, e⟩ | ⟨h, e⟩
      · rw [e]; rfl
      · omega
      · omega)
    clear hx hy R S hc
    go_enter Try.func42, Try.ntmps42
    go_wp2_with (fail)
    refine Z.mono ?_
    rintro e w' ⟨rfl, rfl⟩
    go_wp2_with (fail)
    refine Z2.mono ?_
    rintro e w' ⟨rfl, rfl⟩
    go_wp2
    go_ret
    exact ⟨by rw [H.out]; rfl, Below.refl _ _⟩
  · have H : Hid (cmpL xs ys = 1) := Lib.hid (by
      rw [hc]
      rcases sgn_cases xs.length ys.length with ⟨_, e⟩ | ⟨h, e⟩ | ⟨h, e⟩
      · omega
      · omega
      · rw [e]; rfl)
    clear hx hy R S hc
    go_enter Try.func42, Try.ntmps42
    go_wp2_with (fail)
    refine Z.mono ?_
    rintro e w' ⟨rfl, rfl⟩
    go_wp2_with (fail)
    refine Z2.mono ?_
    rintro e w' ⟨rfl, rfl⟩
    go_wp2
    go_ret
    exact ⟨by rw [H.out]; rfl, Below.refl _ _⟩

set_option maxHeartbeats 1000000 in
theorem cmp22_eq (a b : Option Addr) (c d n : Nat) (xs ys : List Int) (w : World) (R : Bag w a c xs) (S : Bag w b d ys) (hx : rightL xs = true) (hy : rightL ys = true) (hl : xs.length = n) (hm : ys.length = n) :
    Calls Try.prog 42 #[.slice a n c, .slice b n d] w (Tells (cmpL xs ys) w) := by
  have Z := right17 a c xs w R
  have Z2 := right17 b d ys w S
  rw [hx, hl] at Z
  rw [hy, hm] at Z2
  have hle := R.le
  have hle' := S.le
  rw [hl] at hle
  have HC : Hid (cmpL xs ys = lex xs ys) := Lib.hid (by
    rw [cmp_yes hx hy]
    rcases sgn_cases xs.length ys.length with ⟨h, e⟩ | ⟨_, e⟩ | ⟨h, e⟩
    · omega
    · rw [e]; rfl
    · omega)
  have HL := Lib.hid hl
  have HM := Lib.hid hm
  have HR := Lib.hid R
  have HS := Lib.hid S
  clear hl hm R S hx hy hle'
  go_enter Try.func42, Try.ntmps42
  go_wp2_with (fail)
  refine Z.mono ?_
  rintro e w' ⟨rfl, rfl⟩
  go_wp2_with (fail)
  refine Z2.mono ?_
  rintro e w' ⟨rfl, rfl⟩
  clear Z Z2
  go_wp2
  go_loopw [26] (fun i wr => ∃ k q : Nat, k ≤ n ∧ i = .int .i64 k ∧ wr = w.drewN q ∧ Hid (lex xs ys = lex (xs.drop k) (ys.drop k))) (fun i _ => n - (intOf i).toNat)
  case atStart => exact ⟨0, 0, Nat.zero_le _, rfl, rfl, Lib.hid rfl⟩
  case round =>
    obtain ⟨k, q, hk, rfl, rfl, HE⟩ := hrel
    by_cases hlt : k < n
    · obtain ⟨g, rfl, hc⟩ := HR.out.at (k := k) (by rw [HL.out]; exact hlt)
      obtain ⟨g2, rfl, hd⟩ := HS.out.at (k := k) (by rw [HM.out]; exact hlt)
      have st := lex_step (a := xs) (b := ys) (k := k) (by rw [HL.out]; exact hlt) (by rw [HM.out]; exact hlt)
      by_cases h1 : xs.getD k 0 < ys.getD k 0
      · rw [if_pos h1] at st
        have H := Lib.hid (HC.out.trans (HE.out.trans st))
        clear st
        generalize xs.getD k 0 = p at *
        generalize ys.getD k 0 = q at *
        go_wp2
        go_quiet (fail)
        go_wp2
        go_ret
        exact ⟨by rw [H.out]; rfl, (below_drewN _ _ _).trans (below_drewN _ _ _)⟩
      · by_cases h2 : ys.getD k 0 < xs.getD k 0
        · rw [if_neg h1, if_pos h2] at st
          have H := Lib.hid (HC.out.trans (HE.out.trans st))
          clear st
          generalize xs.getD k 0 = p at *
          generalize ys.getD k 0 = q at *
          go_wp2
          go_quiet (fail)
          go_wp2
          go_quiet (fail)
          go_wp2
          go_ret
          exact ⟨by rw [H.out]; rfl, ((below_drewN _ _ _).trans (below_drewN _ _ _)).trans (below_drewN _ _ _)⟩
        · rw [if_neg h1, if_neg h2] at st
          have H := Lib.hid (HE.out.trans st)
          clear st
          generalize xs.getD k 0 = p at *
          generalize ys.getD k 0 = q at *
          go_wp2
          go_quiet (fail)
          go_wp2
          go_quiet (fail)
          go_wp2
          go_roundw
          case rel => exact ⟨k + 1, _, by omega, by go_num, rfl, H⟩
          case measure => simp [intOf]; omega
    · have H := Lib.hid (HC.out.trans (HE.out.trans (lex_both (a := xs) (b := ys) (k := k) (by rw [HL.out]; omega) (by rw [HM.out]; omega))))
      go_wp2
      go_ret
      exact ⟨by rw [H.out]; rfl, below_drewN _ _ _⟩

theorem cmp22 (a b : Option Addr) (c d : Nat) (xs ys : List Int) (w : World) (R : Bag w a c xs) (S : Bag w b d ys) :
    Calls Try.prog 42 #[.slice a xs.length c, .slice b ys.length d] w (Tells (cmpL xs ys) w) := by
  cases hx : rightL xs with
  | false =>
    have Z := right17 a c xs w R
    have H := Lib.hid (cmp_no1 (b := ys) hx)
    rw [hx] at Z
    clear hx R S
    go_enter Try.func42, Try.ntmps42
    go_wp2_with (fail)
    refine Z.mono ?_
    rintro e w' ⟨rfl, rfl⟩
    go_wp2
    go_ret
    exact ⟨by rw [H.out]; rfl, Below.refl _ _⟩
  | true =>
    cases hy : rightL ys with
    | false =>
      have Z := right17 a c xs w R
      have Z2 := right17 b d ys w S
      have H := Lib.hid (cmp_no2 (a := xs) hy)
      rw [hx] at Z
      rw [hy] at Z2
      clear hx hy R S
      go_enter Try.func42, Try.ntmps42
      go_wp2_with (fail)
      refine Z.mono ?_
      rintro e w' ⟨rfl, rfl⟩
      go_wp2_with (fail)
      refine Z2.mono ?_
      rintro e w' ⟨rfl, rfl⟩
      go_wp2
      go_ret
      exact ⟨by rw [H.out]; rfl, Below.refl _ _⟩
    | true =>
      by_cases h : xs.length = ys.length
      · rw [← h]
        exact cmp22_eq a b c d xs.length xs ys w R S hx hy rfl h.symm
      · exact cmp22_ne a b c d xs ys w R S hx hy h
end Go.Proofs.Ytmbkiefbchjofaa

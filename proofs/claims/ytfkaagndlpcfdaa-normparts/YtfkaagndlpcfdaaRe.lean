/- The law NormOne: its walk. -/
import Derived.Test.YtfkaagndlpcfdaaRd
namespace Go.Proofs.Ytfkaagndlpcfdaa
open Go.ChangeShapes Go.WideShapes Go.ChangeAt Go.RowKit

theorem open1 {W : World} {a : Option Addr} {c : Nat} {b : List Int} {ps : List (List Int)} {n m : Nat} (hn : b.length = n) (hm : ps.length = m) (h : Lins W a c [⟨b, ps⟩]) :
    ∃ g ba da pa qa, a = some ⟨g, 0, none⟩ ∧ g < W.heap.size ∧ W.cell? ⟨g, 0, none⟩ = some (.slice ba n da) ∧ W.cell? ⟨g, 1, none⟩ = some (.slice pa m qa) ∧ Bag W ba da b ∧ Bags W pa qa ps := by
  obtain ⟨g, ba, da, pa, qa, e, c0, c1, B, P⟩ := h.at (k := 0) (by simp)
  subst hn; subst hm
  exact ⟨g, ba, da, pa, qa, e, h.lt e, c0, c1, B, P⟩
theorem openB {W : World} {a : Option Addr} {c : Nat} {b : List Int} {n : Nat} (hn : b.length = n) (h : Bags W a c [b]) :
    ∃ g ba da, a = some ⟨g, 0, none⟩ ∧ g < W.heap.size ∧ W.cell? ⟨g, 0, none⟩ = some (.slice ba n da) ∧ Bag W ba da b := by
  obtain ⟨g, ba, da, e, c0, B⟩ := h.at (k := 0) (by simp)
  subst hn
  exact ⟨g, ba, da, e, h.lt e, c0, B⟩
theorem sameB {xs : List Int} {n : Nat} (hn : xs.length = n) (W : World) (a b : Option Addr) (c d : Nat) (R : Bag W a c xs) (S : Bag W b d xs) :
    Calls Try.prog 19 #[.slice a n c, .slice b n d] W (TellsB true W) := by
  have Z := same32 a b c d xs xs W R S
  rw [same_self, hn] at Z
  exact Z.mono (fun e w' h => by
    obtain ⟨h1, q, h2⟩ := h
    subst h2
    exact ⟨h1, below_drewN _ _ _⟩)
theorem sameP {s t : List Lin} {n m : Nat} (hn : s.length = n) (hm : t.length = m) (h : s = t) (W : World) (a b : Option Addr) (c d : Nat) (R : Lins W a c s) (S : Lins W b d t) :
    Calls Try.prog 15 #[.slice a n c, .slice b m d] W (TellsB true W) := by
  have Z := sameSemi_any a b c d s t W R S
  rw [decide_eq_true h, hn, hm] at Z
  exact Z
theorem onesP (W : World) : Calls Try.prog 20 #[] W (fun e w' => ∃ a c, e = .returned (.slice a 1 c) ∧ Lins w' a c oneS ∧ Below W.heap.size W w') := by
  refine (one_any W).mono ?_
  rintro e w' ⟨a, c, e1, A⟩
  exact ⟨a, c, e1, ⟨_, rfl, A.row⟩, A.bel⟩

set_option maxRecDepth 100000 in
set_option maxHeartbeats 8000000 in
theorem one_walk8 (t n : Int) (w : World) (ht : -9223372036854775808 ≤ t ∧ t ≤ 9223372036854775807) (hn : -9223372036854775808 ≤ n ∧ n ≤ 9223372036854775807) :
    Calls Try.prog 6 #[.int .i64 t, .int .i64 n] w (True_ w) := by
  go_enter Try.func6, Try.ntmps6
  go_wp2_with (fail)
  refine (within_any t 12 _ (by omega) (by omega) ht.1 ht.2).mono ?_
  rintro e _ ⟨k, hk0, hk1, rfl, rfl⟩
  go_wp2_with (fail)
  refine (within_any n 999999999 _ (by omega) (by omega) hn.1 hn.2).mono ?_
  rintro e _ ⟨m, hm0, hm1, rfl, rfl⟩
  obtain ⟨k, rfl⟩ : ∃ j : Nat, k = j := ⟨k.toNat, by omega⟩
  have hk1' : k < 12 := by omega
  have hm2 : m + 1 ≤ 999999999 := by omega
  have hm3 : 1 ≤ m + 1 := by omega
  have ho : oneL (k : Int) (m + 1) = tab (k + 1) (fun j => if j = k then m + 1 else 0) := by
    unfold oneL
    rw [if_pos (one_iff.2 ⟨by omega, by omega, by omega⟩)]
    rfl
  have P1 := nds_new (ns := [⟨3, m + 1, 0, (k : Int), Q.emp⟩]) (n := 1) (Lies.new w 35 [.int .i64 3, .int .i64 (m + 1), .int .i64 0, .int .i64 (k : Int), .string Q.emp]) rfl (by omega)
  have HB1 := Lib.hid (below_alloc w (.cells #[.int .i64 3, .int .i64 (m + 1), .int .i64 0, .int .i64 (k : Int), .string Q.emp] 35))
  have HZ := Lib.hid (ofN (n := 1) (l := 1) (tag_words (T := 12) (t := (k : Int)) (n := m + 1) (nm := Q.emp) (by omega) (by omega) (by omega) hm3 hm2 none rfl) rfl rfl (by omega) _ _ _ P1)
  have HE3 := Lib.hid (one_star (t := (k : Int)) (n := m + 1) (nm := Q.emp) (nm2 := Q.emp) (by omega) (by omega) hm3 hm2 none rfl)
  have HE4 := Lib.hid (tag_refused (t := (k : Int)) (n := m + 1) (nm := Q.emp) (none : Mr))
  have hol : (oneL (k : Int) (m + 1)).length = k + 1 := by rw [ho, tab_len]
  generalize hob : oneL (k : Int) (m + 1) = ob at HZ HE3 ho hol
  have HOL := Lib.hid hol
  have HOB := Lib.hid ho
  clear P1 hol ho hob
  go_wp2_with (fail)
  refine HZ.out.mono ?_
  rintro e w1 ⟨a1, c1, rfl, L1, b1⟩
  have HL1 := Lib.hid L1
  have HB1 := Lib.hid (HB1.out.trans (b1.mono HB1.out.size))
  have hle1 := L1.le
  clear L1 b1 HZ
  have P2 := nds_new (ns := [⟨2, 0, 0, 0, Q.emp⟩]) (n := 1) (Lies.new w1 35 [.int .i64 2, .int .i64 0, .int .i64 0, .int .i64 0, .string Q.emp]) rfl (by omega)
  have b2 := below_alloc w1 (.cells #[.int .i64 2, .int .i64 0, .int .i64 0, .int .i64 0, .string Q.emp] 35)
  have HL1 := Lib.hid (HL1.out.below b2)
  have HB2 := Lib.hid (HB1.out.trans (b2.mono HB1.out.size))
  have HZ := Lib.hid (ofN (n := 1) (l := 1) (one_words (T := 0) (by omega) (by omega) Q.emp none rfl) rfl rfl (by omega) _ _ _ P2)
  clear P2 b2 HB1
  go_wp2_with (fail)
  refine HZ.out.mono ?_
  rintro e w2 ⟨a2, c2, rfl, L2, b2⟩
  have HL2 := Lib.hid L2
  have HL1 := Lib.hid (HL1.out.below b2)
  have HB2 := Lib.hid (HB2.out.trans (b2.mono HB2.out.size))
  have hle2 := L2.le
  clear L2 b2 HZ
  have P3 := nds_new (ns := [⟨3, m + 1, 0, (k : Int), Q.emp⟩, ⟨6, 0, 0, 0, Q.emp⟩]) (n := 2) (Lies.new w2 35 [.int .i64 3, .int .i64 (m + 1), .int .i64 0, .int .i64 (k : Int), .string Q.emp, .int .i64 6, .int .i64 0, .int .i64 0, .int .i64 0, .string Q.emp]) rfl (by omega)
  have b3 := below_alloc w2 (.cells #[.int .i64 3, .int .i64 (m + 1), .int .i64 0, .int .i64 (k : Int), .string Q.emp, .int .i64 6, .int .i64 0, .int .i64 0, .int .i64 0, .string Q.emp] 35)
  have HL1 := Lib.hid (HL1.out.below b3)
  have HL2 := Lib.hid (HL2.out.below b3)
  have HB3 := Lib.hid (HB2.out.trans (b3.mono HB2.out.size))
  have HZ := Lib.hid (ofN (n := 2) (l := 1) HE3.out rfl rfl (by omega) _ _ _ P3)
  clear P3 b3 HB2 HE3
  go_wp2_with (fail)
  refine HZ.out.mono ?_
  rintro e w3 ⟨a3, c3, rfl, L3, b3⟩
  have HL3 := Lib.hid L3
  have HL1 := Lib.hid (HL1.out.below b3)
  have HL2 := Lib.hid (HL2.out.below b3)
  have HB3 := Lib.hid (HB3.out.trans (b3.mono HB3.out.size))
  have hle3 := L3.le
  clear L3 b3 HZ
  have P4 := nds_new (ns := [⟨3, m + 1, 0, (k : Int), Q.emp⟩]) (n := 1) (Lies.new w3 35 [.int .i64 3, .int .i64 (m + 1), .int .i64 0, .int .i64 (k : Int), .string Q.emp]) rfl (by omega)
  have b4 := below_alloc w3 (.cells #[.int .i64 3, .int .i64 (m + 1), .int .i64 0, .int .i64 (k : Int), .string Q.emp] 35)
  have HL1 := Lib.hid (HL1.out.below b4)
  have HL2 := Lib.hid (HL2.out.below b4)
  have HL3 := Lib.hid (HL3.out.below b4)
  have HB4 := Lib.hid (HB3.out.trans (b4.mono HB3.out.size))
  have HZ := Lib.hid (ofN (n := 1) (l := 0) HE4.out rfl rfl (by omega) _ _ _ P4)
  clear P4 b4 HB3 HE4
  go_wp2_with (fail)
  refine HZ.out.mono ?_
  rintro e w4 ⟨a4, c4, rfl, L4, b4⟩
  have HL1 := Lib.hid (HL1.out.below b4)
  have HL2 := Lib.hid (HL2.out.below b4)
  have HL3 := Lib.hid (HL3.out.below b4)
  have HB4 := Lib.hid (HB4.out.trans (b4.mono HB4.out.size))
  clear L4 b4 HZ
  obtain ⟨ga, ba, da, pa, qa, rfl, la, ca0, ca1, Ba, _⟩ := open1 (n := k + 1) (m := 0) HOL.out rfl HL1.out
  obtain ⟨gc, bc, dc, pc, qc, rfl, lc, cc0, cc1, _, Pc⟩ := open1 (n := 0) (m := 1) rfl rfl HL3.out
  obtain ⟨gp, bp, dp, rfl, lp, cp0, Bp⟩ := openB HOL.out Pc
  have HBa := Lib.hid Ba
  have HBp := Lib.hid Bp
  clear Ba Bp Pc HL1 HL3
  have hk2 : (0 : Int) ≤ (k : Int) + 1 := by omega
  go_wp2_with (at_make; refine wpList_make_bag _ rfl _ _ rfl _ _ (k + 1) rfl rfl (by omega) (by omega) (by omega) ?_)
  intro w5 r1 b5
  have hfz := r1.frozen k
  obtain ⟨g, e, hc⟩ := r1.at (k := k) (by rw [tab_len]; omega)
  injection e with e; injection e with e
  have hne : w4.heap.size = g := e
  have R2 := r1.set (j := k) (by rw [tab_len]; omega) (m + 1)
  rw [tab_set, ← HOB.out] at R2
  have HR := Lib.hid R2
  have b6 : Below w4.heap.size w4 (w5.setCell ⟨w4.heap.size, k, none⟩ (.int .i64 (m + 1))) := b5.setCell (p := ⟨w4.heap.size, k, none⟩) (Nat.le_refl _) (.int .i64 (m + 1))
  have HB6 := Lib.hid b6
  clear r1 R2 b5 b6
  subst hne
  go_upto_region 10 with (fail)
  have b6 := HB6.out
  generalize w5.setCell ⟨w4.heap.size, k, none⟩ (.int .i64 (m + 1)) = w6 at HB6 HR b6 ⊢
  replace ca0 := (b6.cell (p := ⟨ga, 0, none⟩) la).trans ca0
  replace ca1 := (b6.cell (p := ⟨ga, 1, none⟩) la).trans ca1
  replace cc0 := (b6.cell (p := ⟨gc, 0, none⟩) lc).trans cc0
  replace cc1 := (b6.cell (p := ⟨gc, 1, none⟩) lc).trans cc1
  replace cp0 := (b6.cell (p := ⟨gp, 0, none⟩) lp).trans cp0
  replace la := Nat.lt_of_lt_of_le la b6.size
  replace lc := Nat.lt_of_lt_of_le lc b6.size
  replace lp := Nat.lt_of_lt_of_le lp b6.size
  have HBa := Lib.hid (HBa.out.below b6)
  have HBp := Lib.hid (HBp.out.below b6)
  have HL2 := Lib.hid (HL2.out.below b6)
  have HB6 := Lib.hid (HB4.out.trans (b6.mono HB4.out.size))
  clear b6 HB4 hfz hc
  generalize w4.heap.size = gw at HR ⊢
  have HZ := Lib.hid (sameB HOL.out w6 ba (some ⟨gw, 0, none⟩) da (k + 1) HBa.out HR.out)
  go_wp2_with (fail)
  refine HZ.out.mono ?_
  rintro e w7 ⟨rfl, b7⟩
  replace ca0 := (b7.cell (p := ⟨ga, 0, none⟩) la).trans ca0
  replace ca1 := (b7.cell (p := ⟨ga, 1, none⟩) la).trans ca1
  replace cc0 := (b7.cell (p := ⟨gc, 0, none⟩) lc).trans cc0
  replace cc1 := (b7.cell (p := ⟨gc, 1, none⟩) lc).trans cc1
  replace cp0 := (b7.cell (p := ⟨gp, 0, none⟩) lp).trans cp0
  replace la := Nat.lt_of_lt_of_le la b7.size
  replace lc := Nat.lt_of_lt_of_le lc b7.size
  replace lp := Nat.lt_of_lt_of_le lp b7.size
  have HBp := Lib.hid (HBp.out.below b7)
  have HR := Lib.hid (HR.out.below b7)
  have HL2 := Lib.hid (HL2.out.below b7)
  have HB7 := Lib.hid (HB6.out.trans (b7.mono HB6.out.size))
  clear b7 HB6 HZ HBa
  go_wp2_with (fail)
  refine (onesP w7).mono ?_
  rintro e w8 ⟨a8, c8, rfl, L8, b8⟩
  replace cc0 := (b8.cell (p := ⟨gc, 0, none⟩) lc).trans cc0
  replace cc1 := (b8.cell (p := ⟨gc, 1, none⟩) lc).trans cc1
  replace cp0 := (b8.cell (p := ⟨gp, 0, none⟩) lp).trans cp0
  replace lc := Nat.lt_of_lt_of_le lc b8.size
  replace lp := Nat.lt_of_lt_of_le lp b8.size
  have HBp := Lib.hid (HBp.out.below b8)
  have HR := Lib.hid (HR.out.below b8)
  have HL2 := Lib.hid (HL2.out.below b8)
  have HL8 := Lib.hid L8
  have HB8 := Lib.hid (HB7.out.trans (b8.mono HB7.out.size))
  clear b8 HB7 L8 ca0 ca1
  have HZ := Lib.hid (sameP (s := oneS) (t := oneS) (n := 1) (m := 1) rfl rfl rfl w8 a2 a8 c2 c8 HL2.out HL8.out)
  go_wp2_with (fail)
  refine HZ.out.mono ?_
  rintro e w9 ⟨rfl, b9⟩
  replace cc0 := (b9.cell (p := ⟨gc, 0, none⟩) lc).trans cc0
  replace cc1 := (b9.cell (p := ⟨gc, 1, none⟩) lc).trans cc1
  replace cp0 := (b9.cell (p := ⟨gp, 0, none⟩) lp).trans cp0
  have HBp := Lib.hid (HBp.out.below b9)
  have HR := Lib.hid (HR.out.below b9)
  have HB9 := Lib.hid (HB8.out.trans (b9.mono HB8.out.size))
  clear b9 HB8 HZ HL2 HL8
  have HZ := Lib.hid (sameB HOL.out w9 bp (some ⟨gw, 0, none⟩) dp (k + 1) HBp.out HR.out)
  go_wp2_with (fail)
  refine HZ.out.mono ?_
  rintro e w10 ⟨rfl, b10⟩
  have HB10 := Lib.hid (HB9.out.trans (b10.mono HB9.out.size))
  clear b10 HB9 HZ cc0 cc1 cp0
  go_wp2_with (fail)
  refine (wakes10 w10).mono ?_
  rintro e w11 ⟨rfl, b11⟩
  have HB11 := Lib.hid (HB10.out.trans (b11.mono HB10.out.size))
  clear b11 HB10
  go_wp2
  go_ret
  exact ⟨rfl, HB11.out⟩
end Go.Proofs.Ytfkaagndlpcfdaa

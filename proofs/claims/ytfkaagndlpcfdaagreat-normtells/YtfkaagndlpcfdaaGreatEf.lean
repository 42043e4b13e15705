/- slices.Grow and slices.Concat at few bags. -/
import Derived.Test.YtfkaagndlpcfdaaGreatEe
import Derived.Lib.AppendZeros
namespace Go.Proofs.YtfkaagndlpcfdaaGreat
open Go.ChangeShapes Go.WideShapes Go.ChangeAt Go.RowKit

set_option maxRecDepth 100000 in
theorem zeros_run (w : World) (n : Nat) (h0 : 0 < n) (hn : n ≤ 100000000000) : ∃ cap w', (Builtin.append_ #[58, 3] 58 #[.slice none 0 0, .int .i64 n]).run Tryz.prog w = .ok (.slice (some ⟨w.heap.size, 0, none⟩) n cap) w' ∧
    Row w' 56 (some ⟨w.heap.size, 0, none⟩) cap [] ∧ Below w.heap.size w w' := by
  obtain ⟨i, hi, hz, hsz, hby⟩ := info_parts Tryz.infoBag
  have hr := Lib.run_append_nil_zeros (P := Tryz.prog) w 58 3 58 56 i _ .i64 .i64 Tryz.underlying58 Tryz.underlying3 hi hz n h0 (by omega) (by omega) (by rw [hby]; omega)
  have hg := grownCap_ge w n 0 56
  have hm := grownCap_le_maxLen w n 0 56 (by unfold maxLen; omega)
  unfold maxLen at hm
  generalize hA : Builtin.zeroCells (Value.slice none 0 0).cells n ++ Builtin.zeroCells (Value.slice none 0 0).cells (grownCap w n 0 56 - n) = A at hr
  have hs : A.size = grownCap w n 0 56 := by
    rw [← hA, Array.size_append, size_zeroCells, size_zeroCells]
    have : (Value.slice none 0 0).cells.size = 1 := rfl
    rw [this]
    omega
  generalize grownCap w n 0 56 = cap at hr hs hm
  exact ⟨cap, _, hr, .inr ⟨w.heap.size, A.toList, rfl, by simp [hs], hm, lies_arr (heap_alloc_new w.drew _)⟩, ((Below.refl w.heap.size w).drew).alloc (Nat.le_refl _) _⟩

/-- Room for more. -/
def Room (w : World) (e : Ending) (w' : World) : Prop := ∃ a c, e = .returned (.slice a 0 c) ∧ Row w' 56 a c [] ∧ From w.heap.size a ∧ Below w.heap.size w w'
set_option maxRecDepth 100000 in
theorem grow_any (n : Nat) (w : World) (hn : n ≤ 100000000000) :
    Calls Tryz.prog 81 #[.slice none 0 0, .int .i64 n] w (Room w) := by
  by_cases h0 : 0 < n
  · obtain ⟨cap, w1, hr, r1, b1⟩ := zeros_run w n h0 hn
    have hle := r1.le
    have HF : Hid (Room w (.returned (.slice (some ⟨w.heap.size, 0, none⟩) 0 cap)) w1) := Lib.hid ⟨_, _, rfl, r1, fun g e => by injection e with e; injection e with e; omega, b1⟩
    have i1 : (0 : Int) < (n : Int) := by omega
    clear r1 b1
    go_enter Tryz.func81, Tryz.ntmps81
    go_wp2_with (at_builtin; refine Lib.wpList_append_run _ rfl _ _ _ _ rfl _ _ rfl rfl _ _ hr ?_)
    go_ret
    exact HF.out
  · obtain rfl : n = 0 := by omega
    have HF : Hid (Room w (.returned (.slice none 0 0)) w) := Lib.hid ⟨none, 0, rfl, Row.nil _ _, From.none _, Below.refl _ _⟩
    go_enter Tryz.func81, Tryz.ntmps81
    go_wp2
    go_ret
    exact HF.out

/-- What a call that makes a slice of these very bags comes to. -/
def MakesBg (ps : List Bg) (w : World) (e : Ending) (w' : World) : Prop :=
  ∃ a c, e = .returned (.slice a ps.length c) ∧ Bgs w' a c ps ∧ From w.heap.size a ∧ Below w.heap.size w w'
set_option maxRecDepth 100000 in
theorem vals_app (ps qs : List Bg) : vals (ps ++ qs) = vals ps ++ vals qs := by simp [vals]

set_option maxRecDepth 100000 in
set_option maxHeartbeats 4000000 in
theorem concat_any (gs : Nat) (pa qa : Option Addr) (pc qc m k : Nat) (ps qs : List Bg) (w : World) (S : Lies w gs 58 [.slice pa m pc, .slice qa k qc]) (P : Bgs w pa pc ps) (Q : Bgs w qa qc qs) (hm : ps.length = m) (hk : qs.length = k) (hs : m + k ≤ 100000000000) :
    Calls Tryz.prog 63 #[.slice (some ⟨gs, 0, none⟩) 2 2] w (MakesBg (ps ++ qs) w) := by
  have lP := P.le
  have lQ := Q.le
  rw [hm] at lP
  rw [hk] at lQ
  have HP := Lib.hid P
  have HQ := Lib.hid Q
  have HS := Lib.hid S
  have HM := Lib.hid hm
  have HK := Lib.hid hk
  have e0 : w.cell? ⟨gs, 0, none⟩ = some (.slice pa m pc) := S.cell 0
  have e1 : w.cell? ⟨gs, 1, none⟩ = some (.slice qa k qc) := S.cell 1
  have hN : (ps ++ qs).length = m + k := by rw [List.length_append, hm, hk]
  have HN := Lib.hid hN
  clear P Q S hm hk hN
  go_enter Tryz.func63, Tryz.ntmps63
  go_wp2
  go_loop [3, 11] (fun s i => ∃ (j t : Nat), i = .int .i64 j ∧ s = .int .i64 t ∧ ((j = 0 ∧ t = 0) ∨ (j = 1 ∧ t = m) ∨ (j = 2 ∧ t = m + k))) (fun _ i => 2 - (intOf i).toNat)
  case atStart => exact ⟨0, 0, rfl, rfl, .inl ⟨rfl, rfl⟩⟩
  case round =>
    obtain ⟨j, t, rfl, rfl, h⟩ := hrel
    rcases h with ⟨rfl, rfl⟩ | ⟨rfl, rfl⟩ | ⟨rfl, rfl⟩
    · have n1 : ¬ ((m : Int) < 0) := by omega
      go_wp2
      go_round
      case rel => exact ⟨1, m, by go_num, by go_num, .inr (.inl ⟨rfl, rfl⟩)⟩
      case measure => simp [intOf]
    · have n1 : ¬ ((t : Int) + (k : Int) < 0) := by omega
      go_wp2
      go_round
      case rel => exact ⟨2, t + k, by go_num, by go_num, .inr (.inr ⟨rfl, rfl⟩)⟩
      case measure => simp [intOf]
    · have Z := grow_any (m + k) w (by omega)
      have HZ := Lib.hid Z
      clear Z
      go_wp2_with (fail)
      refine HZ.out.mono ?_
      rintro e w1 ⟨a1, c1, rfl, r1, f1, b1⟩
      have HR1 := Lib.hid r1
      have HF1 := Lib.hid f1
      have HB1 := Lib.hid b1
      clear r1 f1 b1 HZ e0 e1
      go_wp2
      go_loopw [6, 27] (fun s i wr => ∃ (j t : Nat) (a : Option Addr) (c : Nat) (cur : List Bg), i = .int .i64 j ∧ s = .slice a t c ∧ Hid (cur.length = t) ∧ Hid (Row wr 56 a c (vals cur)) ∧ Hid (From w.heap.size a) ∧ Hid (Below w.heap.size w wr) ∧ ((j = 0 ∧ t = 0 ∧ Hid (cur = [])) ∨ (j = 1 ∧ t = m ∧ Hid (cur = ps)) ∨ (j = 2 ∧ t = m + k ∧ Hid (cur = ps ++ qs)))) (fun _ i _ => 2 - (intOf i).toNat)
      case atStart => exact ⟨0, 0, a1, c1, [], rfl, rfl, Lib.hid rfl, HR1, HF1, HB1, .inl ⟨rfl, rfl, Lib.hid rfl⟩⟩
      case round =>
        obtain ⟨j, t, a, c, cur, rfl, rfl, HL, HR, HF, HB, h⟩ := hrel
        have lC := HR.out.le
        rw [vals_len, HL.out] at lC
        have e0 : wr.cell? ⟨gs, 0, none⟩ = some (.slice pa m pc) := (HS.out.below HB.out HS.out.lt).cell 0
        have e1 : wr.cell? ⟨gs, 1, none⟩ = some (.slice qa k qc) := (HS.out.below HB.out HS.out.lt).cell 1
        rcases h with ⟨rfl, rfl, HC⟩ | ⟨rfl, rfl, HC⟩ | ⟨rfl, rfl, HC⟩
        · obtain ⟨v2, w2, hr, A2⟩ := run_app 58 58 56 Tryz.underlying58 Tryz.infoBag a c 0 (vals cur) wr HR.out (by rw [vals_len, HL.out]) pa pc m (vals ps) (HP.out.below HB.out).row (by rw [vals_len, HM.out]) (vals_one ps) (by rw [vals_len, vals_len, HL.out, HM.out]; omega)
          obtain ⟨bb, ff⟩ := A2.below (B := w.heap.size) HB.out.size HF.out
          obtain ⟨a2, c2, rfl, r2, _, _⟩ := A2
          have HF2 := Lib.hid (ff _ _ _ rfl)
          have HB2 := Lib.hid (HB.out.trans bb)
          have HR2 : Hid (Row w2 56 a2 c2 (vals ps)) := Lib.hid (by rw [HC.out] at r2; exact r2)
          rw [vals_len, vals_len, HL.out, HM.out, Nat.zero_add] at hr
          clear bb ff r2
          go_wp2_with (at_builtin; refine Lib.wpList_append_run _ rfl _ _ _ _ rfl _ _ rfl rfl _ _ hr ?_)
          go_roundw
          case rel => exact ⟨1, m, a2, c2, ps, by go_num, rfl, HM, HR2, HF2, HB2, .inr (.inl ⟨rfl, rfl, Lib.hid rfl⟩)⟩
          case measure => simp [intOf]
        · obtain ⟨v2, w2, hr, A2⟩ := run_app 58 58 56 Tryz.underlying58 Tryz.infoBag a c t (vals cur) wr HR.out (by rw [vals_len, HL.out]) qa qc k (vals qs) (HQ.out.below HB.out).row (by rw [vals_len, HK.out]) (vals_one qs) (by rw [vals_len, vals_len, HL.out, HK.out]; omega)
          obtain ⟨bb, ff⟩ := A2.below (B := w.heap.size) HB.out.size HF.out
          obtain ⟨a2, c2, rfl, r2, _, _⟩ := A2
          have HF2 := Lib.hid (ff _ _ _ rfl)
          have HB2 := Lib.hid (HB.out.trans bb)
          have HR2 : Hid (Row w2 56 a2 c2 (vals (ps ++ qs))) := Lib.hid (by rw [HC.out] at r2; rw [vals_app]; exact r2)
          rw [vals_len, vals_len, HL.out, HK.out] at hr
          clear bb ff r2
          go_wp2_with (at_builtin; refine Lib.wpList_append_run _ rfl _ _ _ _ rfl _ _ rfl rfl _ _ hr ?_)
          go_roundw
          case rel => exact ⟨2, t + k, a2, c2, ps ++ qs, by go_num, rfl, HN, HR2, HF2, HB2, .inr (.inr ⟨rfl, rfl, Lib.hid rfl⟩)⟩
          case measure => simp [intOf]
        · have HE : Hid (MakesBg (ps ++ qs) w (.returned (.slice a (m + k) c)) wr) := Lib.hid ⟨a, c, by rw [HN.out], ⟨by rw [← HC.out]; exact HR.out, fun p hp => by
            rcases List.mem_append.1 hp with hp | hp
            · exact (HP.out.below HB.out).each p hp
            · exact (HQ.out.below HB.out).each p hp⟩, HF.out, HB.out⟩
          go_wp2
          go_ret
          exact HE.out
end Go.Proofs.YtfkaagndlpcfdaaGreat

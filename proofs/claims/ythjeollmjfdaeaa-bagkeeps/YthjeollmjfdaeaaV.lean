/- The walk of the law BagKeeps of chapter 3. -/
import Derived.Test.YthjeollmjfdaeaaP
namespace Go.Proofs.Ythjeollmjfdaeaa
open Go.ChangeShapes Go.WideShapes Go.ChangeAt Go.RowKit

/-- Slices (address, length, capacity) whose blocks lie from lo to hi, each its own. -/
structure Own (lo hi : Nat) (T : List (Option Addr × Nat × Nat)) : Prop where
  within : ∀ t ∈ T, ∀ g, t.1 = some ⟨g, 0, none⟩ → lo ≤ g ∧ g < hi
  one : ∀ t ∈ T, ∀ t' ∈ T, ∀ g, t.1 = some ⟨g, 0, none⟩ → t'.1 = some ⟨g, 0, none⟩ → t = t'
/-- Each of them holds numbers; nothing but their blocks has turned since W. -/
structure St (W : World) (lo hi : Nat) (T : List (Option Addr × Nat × Nat)) (wr : World) : Prop where
  bag : ∀ t ∈ T, ∃ zs : List Int, zs.length = t.2.1 ∧ Bag wr t.1 t.2.2 zs
  kept : Kept (fun g => lo ≤ g ∧ g < hi) W wr
theorem St.at {W wr : World} {lo hi : Nat} {T : List (Option Addr × Nat × Nat)} (h : St W lo hi T wr) (o : Own lo hi T) {a : Option Addr} {n c : Nat} (ht : (a, n, c) ∈ T) {j : Nat} (hj : j < n) :
    ∃ g z, a = some ⟨g, 0, none⟩ ∧ wr.cell? ⟨g, j, none⟩ = some (.int .i64 z) ∧ wr.frozen? ⟨g, j, none⟩ = false ∧ ∀ v, St W lo hi T (wr.setCell ⟨g, j, none⟩ (.int .i64 v)) := by
  obtain ⟨zs, hl0, hb⟩ := h.bag _ ht
  have hl : zs.length = n := hl0
  obtain ⟨g, e, hc⟩ := hb.at (k := j) (by omega)
  have e' : a = some ⟨g, 0, none⟩ := e
  subst e'
  refine ⟨g, _, rfl, hc, hb.frozen j, fun v => ⟨fun t ht' => ?_, ?_⟩⟩
  · obtain ⟨ys, hl', hb'⟩ := h.bag t ht'
    by_cases hg : t.1 = some ⟨g, 0, none⟩
    · rw [← o.one _ ht _ ht' g rfl hg]
      exact ⟨zs.set j v, by rw [List.length_set]; exact hl, hb.set (by omega) v⟩
    · have s : Kept (fun k => k = g) wr (wr.setCell ⟨g, j, none⟩ (.int .i64 v)) := (Kept.refl (fun k => k = g) wr).setCell (p := ⟨g, j, none⟩) (fun _ => rfl) _
      exact ⟨ys, hl', hb'.kept s (fun k e e' => hg (by rw [← e']; exact e))⟩
  · exact h.kept.setCell (p := ⟨g, j, none⟩) (fun _ => o.within _ ht g rfl) _

set_option maxHeartbeats 4000000 in
set_option maxRecDepth 100000 in
theorem keeps_walk (a0 a1 : Option Addr) (l0 c0 l1 c1 : Nat) (z0 z1 : List Int) (w : World) (K0 : Hid (Came w a0 l0 c0 z0)) (K1 : Hid (Came w a1 l1 c1 z1)) :
    Calls Try.prog 8 #[.slice a0 l0 c0, .slice a1 l1 c1] w (True_ w) := by
  go_enter Try.func8, Try.ntmps8
  go_wp2_with (fail)
  with_reducible refine (play_any a0 l0 c0 z0 _ K0.out).mono ?_
  rintro e w1 ⟨xs, sx, a_x, c_x, rfl, r_x, _, b⟩
  have K1 := Lib.hid (K1.out.below b)
  have B := b
  clear b
  go_wp2_with (fail)
  with_reducible refine (play_any a1 l1 c1 z1 _ K1.out).mono ?_
  rintro e w2 ⟨ys, sy, a_y, c_y, rfl, r_y, _, b⟩
  have r_x := r_x.below b
  have B := B.trans (b.mono B.size)
  clear b
  clear K0 K1
  have hx := sx.len
  have hy := sy.len
  clear sx sy
  go_wp2_with (fail)
  with_reducible refine (copy_any a_x c_x xs _ r_x (by omega)).mono ?_
  rintro e w3 ⟨a_u, c_u, rfl, r_u, _, b⟩
  have r_x := r_x.below b
  have r_y := r_y.below b
  have B := B.trans (b.mono B.size)
  clear b
  go_wp2_with (fail)
  with_reducible refine (copy_any a_y c_y ys _ r_y (by omega)).mono ?_
  rintro e w4 ⟨a_v, c_v, rfl, r_v, _, b⟩
  have r_x := r_x.below b
  have r_y := r_y.below b
  have r_u := r_u.below b
  have B := B.trans (b.mono B.size)
  clear b
  have FA := Lib.hid (fun a b c d w => add10 a b c d xs ys w)
  have FB := Lib.hid (fun a b c d w => sub12 a b c d xs ys w)
  have FC := Lib.hid (fun a c w R => norm19 a c xs w R (by omega))
  generalize addS xs ys = ss at *
  generalize addOk xs ys = b1 at *
  generalize subS xs ys = ds at *
  generalize subOk xs ys = b2 at *
  generalize normL xs = ns at *
  have tx : Hid (∀ g, a_x = some ⟨g, 0, none⟩ → g < w4.heap.size) := Lib.hid (fun g e => r_x.lt e)
  have ty : Hid (∀ g, a_y = some ⟨g, 0, none⟩ → g < w4.heap.size) := Lib.hid (fun g e => r_y.lt e)
  have tu : Hid (∀ g, a_u = some ⟨g, 0, none⟩ → g < w4.heap.size) := Lib.hid (fun g e => r_u.lt e)
  have tv : Hid (∀ g, a_v = some ⟨g, 0, none⟩ → g < w4.heap.size) := Lib.hid (fun g e => r_v.lt e)
  have B4 := B.size
  go_wp2_with (fail)
  with_reducible refine (FA.out a_x a_y c_x c_y _ r_x r_y).mono ?_
  rintro e w5 ⟨a_s, c_s, rfl, r_s, f, b⟩
  have f_s := Lib.hid f
  have t_s : Hid (∀ g, a_s = some ⟨g, 0, none⟩ → g < w5.heap.size) := Lib.hid (fun g e => r_s.lt e)
  have z_s := b.size
  clear f
  have r_x := r_x.below b
  have r_y := r_y.below b
  have r_u := r_u.below b
  have r_v := r_v.below b
  have B := B.trans (b.mono B.size)
  clear b
  go_wp2_with (fail)
  with_reducible refine (FB.out a_x a_y c_x c_y _ r_x r_y).mono ?_
  rintro e w6 ⟨a_d, c_d, rfl, r_d, f, b⟩
  have f_d := Lib.hid f
  have t_d : Hid (∀ g, a_d = some ⟨g, 0, none⟩ → g < w6.heap.size) := Lib.hid (fun g e => r_d.lt e)
  have z_d := b.size
  clear f
  have r_x := r_x.below b
  have r_y := r_y.below b
  have r_u := r_u.below b
  have r_v := r_v.below b
  have r_s := r_s.below b
  have B := B.trans (b.mono B.size)
  clear b
  go_wp2_with (fail)
  with_reducible refine (FC.out a_x c_x _ r_x).mono ?_
  rintro e w7 ⟨a_n, c_n, rfl, r_n, f, b⟩
  have f_n := Lib.hid f
  have t_n : Hid (∀ g, a_n = some ⟨g, 0, none⟩ → g < w7.heap.size) := Lib.hid (fun g e => r_n.lt e)
  have z_n := b.size
  clear f
  have r_x := r_x.below b
  have r_y := r_y.below b
  have r_u := r_u.below b
  have r_v := r_v.below b
  have r_s := r_s.below b
  have r_d := r_d.below b
  have B := B.trans (b.mono B.size)
  clear b
  clear FA FB FC
  have O : Hid (Own w4.heap.size w7.heap.size [(a_s, ss.length, c_s), (a_d, ds.length, c_d), (a_n, ns.length, c_n)]) := Lib.hid (by
    refine ⟨fun t ht g e => ?_, fun t ht t' ht' g e e' => ?_⟩
    · simp only [List.mem_cons, List.mem_nil_iff, or_false] at ht
      rcases ht with rfl | rfl | rfl
      · have := f_s.out g e; have := t_s.out g e; omega
      · have := f_d.out g e; have := t_d.out g e; omega
      · have := f_n.out g e; have := t_n.out g e; omega
    · simp only [List.mem_cons, List.mem_nil_iff, or_false] at ht ht'
      rcases ht with rfl | rfl | rfl <;> rcases ht' with rfl | rfl | rfl
      · rfl
      · have := t_s.out g e; have := f_d.out g e'; omega
      · have := t_s.out g e; have := f_n.out g e'; omega
      · have := f_d.out g e; have := t_s.out g e'; omega
      · rfl
      · have := t_d.out g e; have := f_n.out g e'; omega
      · have := f_n.out g e; have := t_s.out g e'; omega
      · have := f_n.out g e; have := t_d.out g e'; omega
      · rfl)
  have hlo : w.heap.size ≤ w4.heap.size := B4
  have hhi : w4.heap.size ≤ w7.heap.size := by omega
  clear f_s f_d f_n t_s t_d t_n z_s z_d z_n B4
  go_wp2_with (fail)
  obtain ⟨W, hW⟩ : ∃ W, W = w7.alloc (.cells #[.slice a_s ss.length c_s, .slice a_d ds.length c_d, .slice a_n ns.length c_n] 23) := ⟨_, rfl⟩
  rw [← hW]
  have b8 : Below w7.heap.size w7 W := hW ▸ below_alloc _ _
  have LW : Hid (Lies W w7.heap.size 23 [.slice a_s ss.length c_s, .slice a_d ds.length c_d, .slice a_n ns.length c_n]) := Lib.hid (hW ▸ Lies.new w7 23 _)
  clear hW
  have ST : Hid (St W w4.heap.size w7.heap.size [(a_s, ss.length, c_s), (a_d, ds.length, c_d), (a_n, ns.length, c_n)] W) := Lib.hid (by
    refine ⟨fun t ht => ?_, Kept.refl _ _⟩
    simp only [List.mem_cons, List.mem_nil_iff, or_false] at ht
    rcases ht with rfl | rfl | rfl
    · exact ⟨ss, rfl, r_s.below b8⟩
    · exact ⟨ds, rfl, r_d.below b8⟩
    · exact ⟨ns, rfl, r_n.below b8⟩)
  have BW := B.trans (b8.mono B.size)
  have RX := Lib.hid (r_x.below b8)
  have RY := Lib.hid (r_y.below b8)
  have RU := Lib.hid (r_u.below b8)
  have RV := Lib.hid (r_v.below b8)
  have hWs : w.heap.size ≤ W.heap.size := BW.size
  clear r_x r_y r_u r_v r_s r_d r_n b8 B
  have HBS : Hid (∀ k, k < 3 → ∃ a n c, [Value.slice a_s ss.length c_s, .slice a_d ds.length c_d, .slice a_n ns.length c_n][k]? = some (.slice a n c) ∧ (a, n, c) ∈ [(a_s, ss.length, c_s), (a_d, ds.length, c_d), (a_n, ns.length, c_n)]) := Lib.hid (fun k hk => by
    obtain rfl | rfl | rfl : k = 0 ∨ k = 1 ∨ k = 2 := by omega
    · exact ⟨_, _, _, rfl, by simp⟩
    · exact ⟨_, _, _, rfl, by simp⟩
    · exact ⟨_, _, _, rfl, by simp⟩)
  have HLN : Hid (∀ t ∈ [(a_s, ss.length, c_s), (a_d, ds.length, c_d), (a_n, ns.length, c_n)], t.2.1 ≤ 9223372036854775807) := Lib.hid (fun t ht => by
    obtain ⟨zs, e, hb⟩ := ST.out.bag t ht
    have := hb.le
    omega)
  obtain ⟨T, hT⟩ : ∃ T, T = [(a_s, ss.length, c_s), (a_d, ds.length, c_d), (a_n, ns.length, c_n)] := ⟨_, rfl⟩
  rw [← hT] at O ST HBS HLN
  clear hT
  obtain ⟨L, hL⟩ : ∃ L, L = [Value.slice a_s ss.length c_s, .slice a_d ds.length c_d, .slice a_n ns.length c_n] := ⟨_, rfl⟩
  rw [← hL] at LW HBS
  clear hL
  go_loopw [44] (fun i wr => ∃ k : Nat, k ≤ 3 ∧ i = .int .i64 k ∧ Hid (St W w4.heap.size w7.heap.size T wr)) (fun i _ => 3 - (intOf i).toNat)
  case atStart => exact ⟨0, Nat.zero_le _, rfl, ST⟩
  case round =>
    clear ST
    obtain ⟨k, hk, rfl, HS⟩ := hrel
    by_cases hlt : k < 3
    · obtain ⟨a, n, c, e, ht⟩ := HBS.out k hlt
      have hc : wr.cell? ⟨w7.heap.size, k, none⟩ = some (.slice a n c) := ((LW.out.kept HS.out.kept (by omega)).cell k).trans e
      have hn := HLN.out _ ht
      have hn' : n ≤ 9223372036854775807 := hn
      have HT := Lib.hid ht
      clear e ht hn
      go_wp2_with (fail)
      go_loopw [50] (fun i wr => ∃ j : Nat, j ≤ n ∧ i = .int .i64 j ∧ Hid (St W w4.heap.size w7.heap.size T wr)) (fun i _ => n - (intOf i).toNat)
      case atStart => exact ⟨0, Nat.zero_le _, rfl, HS⟩
      case round =>
        clear HS hc
        obtain ⟨j, hj, rfl, HS⟩ := hrel
        by_cases hjl : j < n
        · obtain ⟨g, z, rfl, hz, hf, S⟩ := HS.out.at O.out HT.out hjl
          clear HS
          have HSS := Lib.hid S
          clear S
          go_wp2
          go_roundw
          case rel => exact ⟨j + 1, by omega, by go_num, Lib.hid (HSS.out _)⟩
          case measure => simp [intOf]; omega
        · go_wp2
          go_roundw
          case rel => exact ⟨k + 1, by omega, by go_num, HS⟩
          case measure => simp [intOf]; omega
    · have hX : ∀ g, (w4.heap.size ≤ g ∧ g < w7.heap.size) → w.heap.size ≤ g := fun g h => by omega
      have B := BW.trans (HS.out.kept.below hX hWs)
      have r_x := RX.out.kept HS.out.kept (fun g e h => by have := tx.out g e; omega)
      have r_y := RY.out.kept HS.out.kept (fun g e h => by have := ty.out g e; omega)
      have r_u := RU.out.kept HS.out.kept (fun g e h => by have := tu.out g e; omega)
      have r_v := RV.out.kept HS.out.kept (fun g e h => by have := tv.out g e; omega)
      clear hX HS BW RX RY RU RV
      go_wp2_with (fail)
      with_reducible refine (same_yes a_x a_u c_x c_u xs _ r_x r_u).mono ?_
      rintro e w21 ⟨rfl, q, hq⟩
      have b := reads_below hq
      clear hq
      have r_x := r_x.below b
      have r_y := r_y.below b
      have r_u := r_u.below b
      have r_v := r_v.below b
      have B := B.trans (b.mono B.size)
      clear b
      go_wp2_with (fail)
      with_reducible refine (same_yes a_y a_v c_y c_v ys _ r_y r_v).mono ?_
      rintro e w22 ⟨rfl, q, hq⟩
      have b := reads_below hq
      clear hq
      have r_x := r_x.below b
      have r_y := r_y.below b
      have r_u := r_u.below b
      have r_v := r_v.below b
      have B := B.trans (b.mono B.size)
      clear b
      go_wp2_with (fail)
      with_reducible refine (wakes_any _).mono ?_
      rintro e w23 ⟨rfl, b⟩
      have r_x := r_x.below b
      have r_y := r_y.below b
      have r_u := r_u.below b
      have r_v := r_v.below b
      have B := B.trans (b.mono B.size)
      clear b
      go_wp2
      go_ret
      exact ⟨rfl, B⟩
end Go.Proofs.Ythjeollmjfdaeaa

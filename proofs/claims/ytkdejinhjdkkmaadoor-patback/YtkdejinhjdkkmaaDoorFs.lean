/- Contracts of pat.Same (at rows that are the same) and of the law's text; the condition: what is read lies there. -/
import Derived.Test.YtkdejinhjdkkmaaDoorCu
import Derived.Test.YtkdejinhjdkkmaaDoorCb
import Derived.Test.YtkdejinhjdkkmaaDoorSa
namespace Go.Proofs.YtkdejinhjdkkmaaDoor
open Go.ChangeShapes Go.WideShapes Go.ChangeAt Go.RowKit Go.Maps

set_option maxRecDepth 100000 in
set_option maxHeartbeats 1000000 in
theorem equal_yes (a a' : Option Addr) (c c' : Nat) (ts : List Nd) (w : World) (R : Nds w a c ts) (R' : Nds w a' c' ts) :
    Calls Tryd.prog 24 #[.slice a ts.length c, .slice a' ts.length c'] w (Reads (.bool true) w) := by
  have hle := R.le
  have HR := Lib.hid R
  have HR' := Lib.hid R'
  clear R R'
  obtain ⟨n, hn⟩ : ∃ n, n = ts.length := ⟨_, rfl⟩
  rw [← hn] at hle ⊢
  have HN := Lib.hid hn
  clear hn
  go_enter Tryd.func24, Tryd.ntmps24
  go_wp2
  go_loopw [4, 5, 13] (fun _ _ i wr => ∃ k q : Nat, k ≤ n ∧ i = .int .i64 k ∧ wr = w.drewN q) (fun _ _ i _ => n - (intOf i).toNat)
  case atStart => exact ⟨0, 0, Nat.zero_le _, rfl, rfl⟩
  case round =>
    obtain ⟨k, q, hk, rfl, rfl⟩ := hrel
    by_cases hlt : k < n
    · obtain ⟨g, rfl, d⟩ := HR.out.there (j := k) (by rw [← HN.out]; exact hlt)
      obtain ⟨g', rfl, d'⟩ := HR'.out.there (j := k) (by rw [← HN.out]; exact hlt)
      obtain ⟨c0, c1, c2, c3, c4⟩ := d
      obtain ⟨e0, e1, e2, e3, e4⟩ := d'
      generalize ts[k].kind = v0 at c0 e0
      generalize ts[k].a = v1 at c1 e1
      generalize ts[k].b = v2 at c2 e2
      generalize ts[k].n = v3 at c3 e3
      generalize ts[k].name = v4 at c4 e4
      have hi1 : (k : Int) < (n : Int) := by omega
      go_wp2
      go_quiet (fail)
      go_wp2
      go_roundw
      case rel => exact ⟨k + 1, _, by omega, by go_num, rfl⟩
      case measure => simp [intOf]; omega
    · go_wp2
      go_ret
      exact ⟨rfl, _, rfl⟩
theorem psame_yes (a a' : Option Addr) (c c' : Nat) (ts : List Nd) (w : World) (R : Nds w a c ts) (R' : Nds w a' c' ts) :
    Calls Tryd.prog 9 #[.slice a ts.length c, .slice a' ts.length c'] w (Reads (.bool true) w) := by
  have C := Lib.hid (equal_yes a a' c c' ts w R R')
  clear R R'
  generalize ts.length = n at C ⊢
  go_enter Tryd.func9, Tryd.ntmps9
  go_wp2_with (fail)
  refine C.out.mono ?_
  rintro e w' ⟨rfl, q, rfl⟩
  go_wp2
  go_ret
  exact ⟨rfl, _, rfl⟩

/-- What a call that makes some text of at most n bytes comes to. -/
def MakesTxt (n : Nat) (w : World) (e : Ending) (w' : World) : Prop := ∃ t : ByteArray, t.size ≤ n ∧ e = .returned (.string t) ∧ Below w.heap.size w w'
theorem app_size (a b : ByteArray) : (a ++ b).size = a.size + b.size := ByteArray.size_append
def piecesL : List Txt := [[97], [98], [99, 49], [100, 95, 120], [48], [49], [43], [46], [42], [40], [41], [94], [50], [57, 57], [48], [122, 122], [43], [46], [97], [98]]
theorem pieces_size : ∀ (r : Nat) (h : r < piecesL.length), (str piecesL[r]).size ≤ 3 := by
  have : ∀ l ∈ piecesL, l.length ≤ 3 := by decide
  intro r h
  rw [str_size]
  exact this _ (List.getElem_mem h)
theorem pieces_len : piecesL.length = 20 := rfl
/-- The numbers that a slice reads as, as cells. -/
theorem cells_rows {w : World} {a : Option Addr} {len : Nat} {zs : List Int} (hz : len ≤ zs.length) (h : ∀ k, k < len → RowAt w a zs k) : CellsAt w a (ints (zs.take len)) := fun j hj => by
  rw [ints_len, List.length_take] at hj
  obtain ⟨b, off, e, hc, hb, _, _⟩ := h j (by omega)
  refine ⟨b, off, e, ?_, hb⟩
  rw [hc]
  simp [ints, List.getD, show j < zs.length by omega]
theorem rows_in {w : World} {a : Option Addr} {len : Nat} {zs : List Int} (h : ∀ k, k < len → RowAt w a zs k) : ∀ z ∈ zs.take len, -9223372036854775808 ≤ z ∧ z ≤ 9223372036854775807 := fun z hz => by
  obtain ⟨j, hj, e⟩ := List.mem_iff_getElem.1 hz
  rw [List.length_take] at hj
  obtain ⟨b, off, _, _, _, h0, h1⟩ := h j (by omega)
  have : zs.getD j 0 = z := by
    rw [← e, List.getElem_take]
    simp [List.getD, show j < zs.length by omega]
  rw [this] at h0 h1
  exact ⟨h0, h1⟩

set_option maxRecDepth 100000 in
set_option maxHeartbeats 2000000 in
theorem ltext_any (s : ByteArray) (a : Option Addr) (len cap : Nat) (zs : List Int) (w : World) (hs : s.size ≤ maxLen) (hn : a = none → len = 0 ∧ cap = 0) (hlc : len ≤ cap) (hcap : cap ≤ 9223372036854775807) (hz : len ≤ zs.length) (HR : Hid (∀ k, k < len → RowAt w a zs k)) :
    Calls Tryd.prog 10 #[.string s, .slice a len cap] w (MakesTxt 200 w) := by
  have C0 := Lib.hid (fun W => text_any s 20 W hs (by omega))
  have h60 : (s.extract 0 (min s.size 20)).size ≤ 20 := by rw [ByteArray.size_extract]; omega
  generalize s.extract 0 (min s.size 20) = t0 at C0 h60
  have hlt : (zs.take len).length = len := by rw [List.length_take]; omega
  have CC := fun W (b : Below w.heap.size w W) => cut_ints a cap (ints (zs.take len)) 40 W (fun e => ⟨by rw [(hn e).1]; rfl, (hn e).2⟩) ((cells_rows hz HR.out).below b) (ints_one _) (by rw [ints_len]; omega) hcap (by omega)
  rw [ints_len, hlt] at CC
  have HBD : Hid (∀ z ∈ (zs.take len).take 40, -9223372036854775808 ≤ z ∧ z ≤ 9223372036854775807) := Lib.hid (fun z h => rows_in HR.out z (List.mem_of_mem_take h))
  have hty : (ints (zs.take len)).take 40 = ints ((zs.take len).take 40) := by unfold ints; exact List.map_take.symm
  rw [hty] at CC
  have hyl : ((zs.take len).take 40).length ≤ 40 := by rw [List.length_take]; omega
  generalize (zs.take len).take 40 = ys at CC HBD hyl
  have CC := Lib.hid CC
  clear hty hlt HR hz hn
  unfold maxLen at hs
  go_enter Tryd.func10, Tryd.ntmps10
  go_wp2_with (fail)
  refine (CC.out _ ((Below.refl _ _).alloc (Nat.le_refl _) _)).mono ?_
  rintro e w1 ⟨ta, tc, rfl, T1, -, b1⟩
  have L1 : Lies w1 w.heap.size 9 (strs piecesL) := (Lies.new w 9 (strs piecesL)).below b1 (by simp)
  have HB : Hid (Below w.heap.size w w1) := Lib.hid (((Below.refl _ _).alloc (Nat.le_refl _) _).trans (b1.mono (by simp)))
  have HT := Lib.hid T1
  have HL := Lib.hid L1
  clear T1 L1 b1 CC
  rw [ints_len]
  generalize w.heap.size = g at HL ⊢
  obtain ⟨n, hnn⟩ : ∃ n, n = ys.length := ⟨_, rfl⟩
  rw [← hnn] at hyl ⊢
  have HN := Lib.hid hnn
  clear hnn
  go_wp2
  go_loop [6, 8, 13] (fun o _ i => ∃ (k : Nat) (t : ByteArray), k ≤ n ∧ i = .int .i64 k ∧ o = .string t ∧ t.size ≤ 4 * k) (fun _ _ i => n - (intOf i).toNat)
  case atStart => exact ⟨0, ⟨#[]⟩, Nat.zero_le _, rfl, rfl, by decide⟩
  case round =>
    obtain ⟨k, t, hk, rfl, rfl, ht⟩ := hrel
    by_cases hlt : k < n
    · obtain ⟨b, hta, hc1⟩ := Row.there HT.out (i := k) (by rw [ints_len, ← HN.out]; exact hlt)
      subst hta
      have hkl : k < ys.length := by have := HN.out; omega
      rw [ints_get hkl] at hc1
      have hbd := HBD.out _ (List.getElem_mem hkl)
      generalize ys[k] = z at hc1 hbd
      obtain ⟨hlo, hhi⟩ := hbd
      go_wp2_with (fail)
      refine (within_any z 20 _ (by omega) (by omega) hlo hhi).mono ?_
      rintro e w' ⟨r, hr, rfl, rfl⟩
      have hr' : r < piecesL.length := by rw [pieces_len]; omega
      have hcr := there_str HL.out hr'
      have hsz := pieces_size r hr'
      have hr20 : r < 20 := by omega
      generalize str piecesL[r] = y at hcr hsz
      by_cases h5 : z.tmod 5 = 0
      · go_wp2
        go_round
        case rel => exact ⟨k + 1, _, by omega, by go_num, rfl, by simp only [app_size]; omega⟩
        case measure => simp [intOf]; omega
      · have h5b : (z.tmod 5 != 0) = true := by simp [h5]
        go_wp2
        go_round
        case rel => exact ⟨k + 1, _, by omega, by go_num, rfl, by simp only [app_size]; show t.size + y.size + 1 ≤ _; omega⟩
        case measure => simp [intOf]; omega
    · by_cases hz0 : t.size = 0
      · go_wp2_with (fail)
        refine (C0.out _).mono ?_
        rintro e w' ⟨rfl, rfl⟩
        go_wp2
        go_ret
        exact ⟨t0, by omega, rfl, HB.out⟩
      · have hz1 : ¬ (t.size : Int) = 0 := by omega
        go_wp2
        go_ret
        exact ⟨t, by omega, rfl, HB.out⟩
end Go.Proofs.YtkdejinhjdkkmaaDoor

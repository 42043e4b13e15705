/- PatPrints' walk: of any nodes and any names Print and the reference's PrintPat say the same; the condition: what came in lies there, the table of powers too. -/
import Derived.Test.YtkdejinhjdkkmaaDoorWi
import Derived.Test.YtkdejinhjdkkmaaDoorNb
import Derived.Test.YtkdejinhjdkkmaaDoorSa
import Derived.Test.YtkdejinhjdkkmaaDoorCu
namespace Go.Proofs.YtkdejinhjdkkmaaDoor
open Go.ChangeShapes Go.WideShapes Go.ChangeAt Go.RowKit Go.Maps

theorem names_here (w : World) : Calls Tryd.prog 5 #[] w fun e w' => e = .returned (.slice (some ⟨w.heap.size, 0, none⟩) 4 4) ∧ Lies w' w.heap.size 9 (strs namesL) ∧ Below w.heap.size w w' := by
  go_enter Tryd.func5, Tryd.ntmps5
  go_wp2
  go_ret
  exact ⟨rfl, Lies.new w 9 (strs namesL), (Below.refl _ _).alloc (Nat.le_refl _) _⟩
theorem strs_set (ls : List Txt) (k : Nat) (y : Txt) : (strs ls).set k (.string (str y)) = strs (ls.set k y) := by
  unfold strs; rw [List.map_set]

/-- What the law does behind its names. -/
def TailOk (w : World) (a : Option Addr) (c : Nat) (ns : List Nd) (g : Nat) (W : World) : Prop := ∃ nm : List Txt, nm.length = 4 ∧ (∀ x ∈ nm, x.length ≤ maxLen) ∧ Lies W g 9 (strs nm) ∧ Nds W a c ns ∧ Below w.heap.size w W
set_option maxHeartbeats 4000000 in
set_option maxRecDepth 100000 in
theorem prints_walk (ra : Option Addr) (rc : Nat) (rs : List Nd) (la : Option Addr) (len cap : Nat) (zs : List Int) (how : Int) (na : Option Addr) (nlen ncap : Nat) (nms : List Txt) (w : World) (hn : ra = none → rs = [] ∧ rc = 0) (h : NodesAt w ra rs) (hlc : rs.length ≤ rc) (hc : rc ≤ 9223372036854775807) (hw0 : -9223372036854775808 ≤ how) (hw1 : how ≤ 9223372036854775807)
    (hrb : ∀ x ∈ rs, -9223372036854775808 ≤ x.a ∧ x.a ≤ 9223372036854775807 ∧ -9223372036854775808 ≤ x.b ∧ x.b ≤ 9223372036854775807) (hlen : len ≤ 9223372036854775807) (HR : Hid (∀ k, k < len → RowAt w la zs k))
    (hnl : nms.length = nlen) (HC : CellsAt w na (strs nms)) (hx : ∀ x ∈ nms, x.length ≤ maxLen) (hnb : nlen ≤ 9223372036854775807) (ht : Lib.TabIs Tryd.prog w "internal/strconv.uint64pow10" .u64 Lib.pow10Tab) :
    Calls Tryd.prog 4 #[.slice ra rs.length rc, .slice la len cap, .int .i64 how, .slice na nlen ncap] w (True_ w) := by
  have CN : Hid (Calls Tryd.prog 12 #[.slice ra rs.length rc, .slice la len cap, .int .i64 how] w (MakesNds w)) := Lib.hid (by
    by_cases h3 : how.tmod 3 = 0
    · exact nodes_raw ra rc rs la len cap how w hn h hlc hc h3
    · exact nodes_pat ra rc rs la len cap zs how w h hlc hc hw0 hw1 hrb hlen HR h3)
  have HTB := Lib.hid ht
  have HCC := Lib.hid HC
  have HX := Lib.hid hx
  have HNL := Lib.hid hnl
  have CW : Hid (∀ W, Calls Tryd.prog 13 #[.int .i64 how, .int .i64 4] W fun e w' => e = .returned (.int .i64 (how % 4)) ∧ W = w') := Lib.hid (fun W => within_mod how 4 W (by omega) (by omega) hw0 hw1)
  have CP : Hid (∀ W a c ns g, TailOk w a c ns g W → ns.length ≤ 30 → ∃ r : Nat × Txt, Calls Tryd.prog 7 #[.slice a ns.length c, .slice (some ⟨g, 0, none⟩) 4 4] W (Prints r W) ∧ ∀ W', Below W.heap.size W W' → Calls Tryd.prog 14 #[.slice a ns.length c, .slice (some ⟨g, 0, none⟩) 4 4] W' (Prints r W')) := Lib.hid (fun W a c ns g ⟨nm, h4, hxx, L, N, b⟩ h30 => by
    have S : Strs W (some ⟨g, 0, none⟩) nm := strs_of L
    have c1 := print_any ns nm a c (some ⟨g, 0, none⟩) 4 W N.at S (tab_below HTB.out b) (by omega) (by omega) hxx
    rw [h4] at c1
    refine ⟨printP keysL nm ns, c1, fun W' b' => ?_⟩
    have c2 := printPat_any ns nm a c (some ⟨g, 0, none⟩) 4 W' (N.at.below b') (S.below b') (by omega) (by omega) hxx
    rw [h4] at c2
    exact c2)
  clear h hn hrb HC hx ht hnl
  generalize rs.length = rn at CN ⊢
  by_cases h0 : 0 < nlen
  · obtain ⟨gb, off, hna, hcy, hgb⟩ := HCC.out 0 (by rw [strs_len, HNL.out]; exact h0)
    subst hna
    have h0n : 0 < nms.length := by rw [HNL.out]; exact h0
    rw [strs_get h0n] at hcy
    have hyl := HX.out _ (List.getElem_mem h0n)
    generalize nms[0] = y at hcy hyl
    obtain ⟨kk, hkk⟩ : ∃ kk : Nat, how % 4 = (kk : Int) := ⟨(how % 4).toNat, by omega⟩
    have hk4 : kk < 4 := by omega
    have hk4i : (kk : Int) < 4 := by omega
    have hk0i : (0 : Int) ≤ (kk : Int) := by omega
    rw [hkk] at CW
    have h0' : (0 : Int) < (nlen : Int) := by omega
    clear hkk
    go_enter Tryd.func4, Tryd.ntmps4
    go_wp2_with (fail)
    refine CN.out.mono ?_
    rintro e w1 ⟨a, c, ns, rfl, N1, hl1, -, b1⟩
    have HN1 := Lib.hid N1
    have HB1 := Lib.hid b1
    clear N1 b1 CN
    go_wp2_with (fail)
    refine (names_here _).mono ?_
    rintro e w2 ⟨rfl, L2, b2⟩
    have HN2 := Lib.hid (HN1.out.below b2)
    have HB2 : Hid (Below w.heap.size w w2) := Lib.hid (HB1.out.trans (b2.mono HB1.out.size))
    have HG : Hid (w.heap.size ≤ w1.heap.size) := Lib.hid HB1.out.size
    have hcy2 : w2.cell? ⟨gb, off, none⟩ = some (.string (str y)) := by rw [← hcy]; exact HB2.out.cell (p := ⟨gb, off, none⟩) hgb
    have HL2 := Lib.hid L2
    have HNE : Hid (¬ a = some ⟨w1.heap.size, 0, none⟩) := Lib.hid (fun e => by have := HN1.out.lt e; omega)
    clear L2 b2 HN1 HB1 hcy
    generalize w1.heap.size = gn at *
    go_wp2_with (fail)
    refine wp_region_still_tail 9 (by kernel_rfl) (by kernel_rfl) ?_
    change wpStill _ _ w2.drew (fun a' => wpList _ _ _ _ a' w2.drew) _ _
    have HN3 : Hid (Nds w2.drew a c ns) := Lib.hid HN2.out
    have HB3 : Hid (Below w.heap.size w w2.drew) := Lib.hid (HB2.out.trans (below_drewN _ _ 1))
    have HL3 : Hid (Lies w2.drew gn 9 (strs namesL)) := Lib.hid HL2.out
    have hcy3 : w2.drew.cell? ⟨gb, off, none⟩ = some (.string (str y)) := hcy2
    clear HN2 HB2 HL2 hcy2
    generalize w2.drew = W at *
    have lk := HL3.out.cell kk
    rw [List.getElem?_eq_getElem (show kk < (strs namesL).length from hk4)] at lk
    generalize (strs namesL)[kk]'(show kk < (strs namesL).length from hk4) = old at lk
    have fz := HL3.out.frozen
    have hwk : IntKind.i64.wrap (kk : Int) = (kk : Int) := IntWalk.i64_in _ (by omega)
    simp only [List.take_succ_cons, List.take_zero, List.drop_succ_cons, List.drop_zero]
    repeat still_step
    still_call ((CW.out W).mono (fun _ _ ⟨a, b⟩ => ⟨a, b.symm⟩))
    repeat still_step
    refine wpStill_nil ?_
    clear hwk
    have T4 : TailOk w a c ns gn (W.setCell ⟨gn, kk, none⟩ (.string (str y))) := ⟨namesL.set kk y, by simp [namesL], fun x hx => by
      rcases List.mem_or_eq_of_mem_set hx with h | h
      · have : ∀ x ∈ namesL, x.length ≤ 16 := by decide
        have := this x h
        unfold maxLen; omega
      · rw [h]; exact hyl, (HL3.out.set kk _).to (strs_set _ _ _), HN3.out.kept (X := fun b => b = gn) ((Kept.refl (fun b => b = gn) W).setCell (fun _ => rfl) _) (fun g e e2 => by subst e2; exact HNE.out e), HB3.out.setCell HG.out _⟩
    obtain ⟨r, C1, C2⟩ := CP.out _ a c ns gn T4 hl1
    have HB4 : Hid (Below w.heap.size w (W.setCell ⟨gn, kk, none⟩ (.string (str y)))) := Lib.hid (by obtain ⟨_, _, _, _, _, b⟩ := T4; exact b)
    have C1 := Lib.hid C1
    have C2 := Lib.hid C2
    clear T4 CP HN3 HB3 HL3 HNE
    generalize ns.length = n at *
    go_wp2_with (fail)
    refine C1.out.mono ?_
    rintro e w5 ⟨rfl, b5⟩
    have C3 := Lib.hid (C2.out w5 b5)
    have HB5 : Hid (Below w.heap.size w w5) := Lib.hid (HB4.out.trans (b5.mono HB4.out.size))
    clear b5 C1 C2 lk fz hcy3
    obtain ⟨r1, r2⟩ := r
    go_wp2_with (fail)
    refine C3.out.mono ?_
    rintro e w6 ⟨rfl, b6⟩
    have HB6 : Hid (Below w.heap.size w w6) := Lib.hid (HB5.out.trans (b6.mono HB5.out.size))
    clear b6 C3
    generalize str r2 = s2
    go_wp2_with (fail)
    refine (wakes_any _).mono ?_
    rintro e w7 ⟨rfl, b7⟩
    have HB7 : Hid (Below w.heap.size w w7) := Lib.hid (HB6.out.trans (b7.mono HB6.out.size))
    clear b7
    go_wp2
    go_ret
    exact ⟨rfl, HB7.out⟩
  · obtain rfl : nlen = 0 := by omega
    go_enter Tryd.func4, Tryd.ntmps4
    go_wp2_with (fail)
    refine CN.out.mono ?_
    rintro e w1 ⟨a, c, ns, rfl, N1, hl1, -, b1⟩
    have HN1 := Lib.hid N1
    have HB1 := Lib.hid b1
    clear N1 b1 CN
    go_wp2_with (fail)
    refine (names_here _).mono ?_
    rintro e w2 ⟨rfl, L2, b2⟩
    have HB2 : Hid (Below w.heap.size w w2) := Lib.hid (HB1.out.trans (b2.mono HB1.out.size))
    obtain ⟨r, C1, C2⟩ := CP.out w2 a c ns w1.heap.size ⟨namesL, rfl, fun x hx => by
      have : ∀ x ∈ namesL, x.length ≤ 16 := by decide
      have := this x hx
      unfold maxLen; omega, L2, HN1.out.below b2, HB2.out⟩ hl1
    have C1 := Lib.hid C1
    have C2 := Lib.hid C2
    clear L2 b2 HN1 HB1 CP
    generalize ns.length = n at *
    generalize w1.heap.size = gn at *
    go_wp2_with (fail)
    refine C1.out.mono ?_
    rintro e w5 ⟨rfl, b5⟩
    have C3 := Lib.hid (C2.out w5 b5)
    have HB5 : Hid (Below w.heap.size w w5) := Lib.hid (HB2.out.trans (b5.mono HB2.out.size))
    clear b5 C1 C2
    obtain ⟨r1, r2⟩ := r
    go_wp2_with (fail)
    refine C3.out.mono ?_
    rintro e w6 ⟨rfl, b6⟩
    have HB6 : Hid (Below w.heap.size w w6) := Lib.hid (HB5.out.trans (b6.mono HB5.out.size))
    clear b6 C3
    generalize str r2 = s2
    go_wp2_with (fail)
    refine (wakes_any _).mono ?_
    rintro e w7 ⟨rfl, b7⟩
    have HB7 : Hid (Below w.heap.size w w7) := Lib.hid (HB6.out.trans (b7.mono HB6.out.size))
    clear b7
    go_wp2
    go_ret
    exact ⟨rfl, HB7.out⟩
end Go.Proofs.YtkdejinhjdkkmaaDoor

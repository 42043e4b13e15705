/- Contract of the law's nodes, where it begins with a pattern; the condition: what came in lies there. -/
import Derived.Test.YtkdejinhjdkkmaaDoorNa
import Derived.Test.YtkdejinhjdkkmaaDoorPd
namespace Go.Proofs.YtkdejinhjdkkmaaDoor
open Go.ChangeShapes Go.WideShapes Go.ChangeAt Go.RowKit

theorem Nds.frozen {w : World} {g c : Nat} {ns : List Nd} (h : Nds w (some ⟨g, 0, none⟩) c ns) (j : Nat) : w.frozen? ⟨g, j, none⟩ = false := by
  rcases h with ⟨e, _⟩ | ⟨g', sp, e, _, _, _, l⟩
  · cases e
  · injection e with e; injection e with e; subst e; exact l.frozen j
set_option maxRecDepth 100000 in
set_option maxHeartbeats 16000000 in
theorem nodes_pat (ra : Option Addr) (rc : Nat) (rs : List Nd) (la : Option Addr) (len cap : Nat) (zs : List Int) (how : Int) (w : World) (h : NodesAt w ra rs) (hlc : rs.length ≤ rc) (_hc : rc ≤ 9223372036854775807) (hw0 : -9223372036854775808 ≤ how) (hw1 : how ≤ 9223372036854775807)
    (hrb : ∀ x ∈ rs, -9223372036854775808 ≤ x.a ∧ x.a ≤ 9223372036854775807 ∧ -9223372036854775808 ≤ x.b ∧ x.b ≤ 9223372036854775807) (hlen : len ≤ 9223372036854775807) (HR : Hid (∀ k, k < len → RowAt w la zs k)) (h3 : ¬ how.tmod 3 = 0) :
    Calls Tryd.prog 12 #[.slice ra rs.length rc, .slice la len cap, .int .i64 how] w (MakesNds w) := by
  have CP := Lib.hid (pattern_any la len cap zs w hlen HR)
  have HNA := Lib.hid h
  have HRB := Lib.hid hrb
  clear h hrb
  obtain ⟨rn, hrn⟩ : ∃ rn, rn = rs.length := ⟨_, rfl⟩
  rw [← hrn] at hlc ⊢
  have HRN := Lib.hid hrn
  clear hrn
  have h3b : (how.tmod 3 == 0) = false := by simp [h3]
  by_cases hgo : ¬ how.tmod 3 = 1 ∧ 0 < rn
  · obtain ⟨h31, hrp⟩ := hgo
    have h31b : (how.tmod 3 == 1) = false := by simp [h31]
    have h31c : (how.tmod 3 != 1) = true := by simp [h31]
    have hrpi : (0 : Int) < (rn : Int) := by omega
    go_enter Tryd.func12, Tryd.ntmps12
    go_wp2_with (fail)
    refine CP.out.mono ?_
    rintro e w1 ⟨pa, pc, ns, rfl, N1, hck, hn1, hn2, hnm, how1, b1⟩
    obtain ⟨b, off, hra, rp, hrl⟩ := (HNA.out.below b1) 0 (by rw [← HRN.out]; omega)
    have hbd := HRB.out (rs[0]'(by rw [← HRN.out]; omega)) (List.getElem_mem _)
    subst hra
    have r1 := rp.c1
    have r2 := rp.c2
    have r4 := rp.c4
    rw [Nat.zero_mul, Nat.add_zero] at r1 r2 r4
    generalize (rs[0]'(by rw [← HRN.out]; omega)) = r0 at r1 r2 r4 hbd
    clear rp hrl HRB HNA
    obtain ⟨m, hm⟩ : ∃ m, m = ns.length := ⟨_, rfl⟩
    rw [← hm] at hn1 hn2 ⊢
    have HM := Lib.hid hm
    clear hm
    obtain ⟨g, hpa, -⟩ := N1.there (j := 0) (by rw [← HM.out]; omega)
    subst hpa
    obtain ⟨kN, hkN⟩ : ∃ kN : Nat, how % (m : Int) = (kN : Int) := ⟨(how % (m : Int)).toNat, by have := Int.emod_nonneg how (b := (m : Int)) (by omega); omega⟩
    have hkm : kN < m := by have := Int.emod_lt_of_pos how (b := (m : Int)) (by omega); omega
    have CKN : Hid (∀ W, Calls Tryd.prog 13 #[.int .i64 how, .int .i64 (m : Nat)] W fun e w' => e = .returned (.int .i64 kN) ∧ W = w') := Lib.hid (fun W => by have := within_mod how m W (by omega) (by omega) hw0 hw1; rw [hkN] at this; exact this)
    obtain ⟨tN, htN⟩ : ∃ tN : Nat, r0.a % 6 = (tN : Int) := ⟨(r0.a % 6).toNat, by omega⟩
    have ht6 : tN < 6 := by omega
    have CT : Hid (∀ W, Calls Tryd.prog 13 #[.int .i64 r0.a, .int .i64 6] W fun e w' => e = .returned (.int .i64 tN) ∧ W = w') := Lib.hid (fun W => by have := within_mod r0.a 6 W (by omega) (by omega) hbd.1 hbd.2.1; rw [show ((6 : Nat) : Int) = 6 from rfl, htN] at this; exact this)
    obtain ⟨b3, hb3⟩ : ∃ b3 : Nat, r0.b % 3 = (b3 : Int) := ⟨(r0.b % 3).toNat, by omega⟩
    have CB3 : Hid (∀ W, Calls Tryd.prog 13 #[.int .i64 r0.b, .int .i64 3] W fun e w' => e = .returned (.int .i64 b3) ∧ W = w') := Lib.hid (fun W => by have := within_mod r0.b 3 W (by omega) (by omega) hbd.2.2.1 hbd.2.2.2; rw [show ((3 : Nat) : Int) = 3 from rfl, hb3] at this; exact this)
    obtain ⟨b5, hb5⟩ : ∃ b5 : Nat, r0.b % 5 = (b5 : Int) := ⟨(r0.b % 5).toNat, by omega⟩
    have CB5 : Hid (∀ W, Calls Tryd.prog 13 #[.int .i64 r0.b, .int .i64 5] W fun e w' => e = .returned (.int .i64 b5) ∧ W = w') := Lib.hid (fun W => by have := within_mod r0.b 5 W (by omega) (by omega) hbd.2.2.1 hbd.2.2.2; rw [show ((5 : Nat) : Int) = 5 from rfl, hb5] at this; exact this)
    have hb3l : b3 < 3 := by omega
    have hb5l : b5 < 5 := by omega
    have HKM : Hid (kN < ns.length) := Lib.hid (by rw [← HM.out]; exact hkm)
    obtain ⟨g', hpa, xp⟩ := N1.there HKM.out
    injection hpa with hpa; injection hpa with hpa; subst hpa
    have x0 := xp.c0
    have x1 := xp.c1
    have x2 := xp.c2
    have x3 := xp.c3
    have x4 := xp.c4
    have HFZ := Lib.hid N1.frozen
    have HND := Lib.hid N1
    have HB := Lib.hid b1
    have HOW := Lib.hid how1
    have hkmi : (kN : Int) < (m : Int) := by omega
    generalize r0.a = raA at r1 CT
    generalize r0.b = rb at r2 CB3 CB5
    clear xp N1 b1 how1 hck hnm htN hb3 hb5 hbd hkN CP
    rcases (show tN = 0 ∨ tN = 1 ∨ tN = 2 ∨ tN = 3 ∨ tN = 4 ∨ tN = 5 from by omega) with rfl | rfl | rfl | rfl | rfl | rfl
    · obtain ⟨fv, hfv⟩ : ∃ fv, (ns[kN]'HKM.out).kind = fv := ⟨_, rfl⟩
      rw [hfv] at x0
      clear hfv
      go_wp2_with (fail)
      refine (CKN.out _).mono ?_
      rintro e w2 ⟨rfl, rfl⟩
      go_wp2_with (fail)
      refine (CT.out _).mono ?_
      rintro e w2 ⟨rfl, rfl⟩
      go_wp2_with (fail)
      refine wp_region_still_tail 14 (by kernel_rfl) (by kernel_rfl) ?_
      change wpStill _ _ w1.drew (fun a' => wpList _ _ _ _ a' w1.drew) _ _
      have HND2 : Hid (Nds w1.drew (some ⟨g, 0, none⟩) pc ns) := Lib.hid HND.out
      have HB2 : Hid (Below w.heap.size w w1.drew) := Lib.hid (HB.out.trans (below_drewN _ _ 1))
      have q0 : w1.drew.cell? ⟨g, kN * 5, none⟩ = some (.int .i64 fv) := x0
      have qb : w1.drew.cell? ⟨b, off + 2, none⟩ = some (.int .i64 rb) := r2
      have fz : w1.drew.frozen? ⟨g, kN * 5, none⟩ = false := HFZ.out _
      clear x0 r1 r2 r4
      generalize w1.drew = W at HND2 HB2 q0 qb fz ⊢
      simp only [List.take_succ_cons, List.take_zero, List.drop_succ_cons, List.drop_zero]
      repeat still_step
      still_call ((CB3.out W).mono (fun _ _ ⟨a, b⟩ => ⟨a, b.symm⟩))
      repeat still_step
      refine wpStill_nil ?_
      go_wp2
      go_ret
      exact ⟨some ⟨g, 0, none⟩, pc, ns.set kN ⟨wrap64 (fv + ((b3 : Int) - 1)), (ns[kN]).a, (ns[kN]).b, (ns[kN]).n, (ns[kN]).name⟩, by rw [List.length_set, ← HM.out]; rfl, Nds.put HND2.out (by rw [← HM.out]; exact hkm) _ 0 _ (by omega) rfl, by rw [List.length_set, ← HM.out]; omega, HOW.out, HB2.out.setCell (HOW.out g rfl) _⟩
    · obtain ⟨fv, hfv⟩ : ∃ fv, (ns[kN]'HKM.out).a = fv := ⟨_, rfl⟩
      rw [hfv] at x1
      clear hfv
      go_wp2_with (fail)
      refine (CKN.out _).mono ?_
      rintro e w2 ⟨rfl, rfl⟩
      go_wp2_with (fail)
      refine (CT.out _).mono ?_
      rintro e w2 ⟨rfl, rfl⟩
      go_wp2_with (fail)
      refine wp_region_still_tail 14 (by kernel_rfl) (by kernel_rfl) ?_
      change wpStill _ _ w1.drew (fun a' => wpList _ _ _ _ a' w1.drew) _ _
      have HND2 : Hid (Nds w1.drew (some ⟨g, 0, none⟩) pc ns) := Lib.hid HND.out
      have HB2 : Hid (Below w.heap.size w w1.drew) := Lib.hid (HB.out.trans (below_drewN _ _ 1))
      have q1 : w1.drew.cell? ⟨g, kN * 5 + 1, none⟩ = some (.int .i64 fv) := x1
      have qb : w1.drew.cell? ⟨b, off + 2, none⟩ = some (.int .i64 rb) := r2
      have fz : w1.drew.frozen? ⟨g, kN * 5 + 1, none⟩ = false := HFZ.out _
      clear x1 r1 r2 r4
      generalize w1.drew = W at HND2 HB2 q1 qb fz ⊢
      simp only [List.take_succ_cons, List.take_zero, List.drop_succ_cons, List.drop_zero]
      repeat still_step
      still_call ((CB3.out W).mono (fun _ _ ⟨a, b⟩ => ⟨a, b.symm⟩))
      repeat still_step
      refine wpStill_nil ?_
      go_wp2
      go_ret
      exact ⟨some ⟨g, 0, none⟩, pc, ns.set kN ⟨(ns[kN]).kind, wrap64 (fv + ((b3 : Int) - 1)), (ns[kN]).b, (ns[kN]).n, (ns[kN]).name⟩, by rw [List.length_set, ← HM.out]; rfl, Nds.put HND2.out (by rw [← HM.out]; exact hkm) _ 1 _ (by omega) rfl, by rw [List.length_set, ← HM.out]; omega, HOW.out, HB2.out.setCell (HOW.out g rfl) _⟩
    · obtain ⟨fv, hfv⟩ : ∃ fv, (ns[kN]'HKM.out).b = fv := ⟨_, rfl⟩
      rw [hfv] at x2
      clear hfv
      go_wp2_with (fail)
      refine (CKN.out _).mono ?_
      rintro e w2 ⟨rfl, rfl⟩
      go_wp2_with (fail)
      refine (CT.out _).mono ?_
      rintro e w2 ⟨rfl, rfl⟩
      go_wp2_with (fail)
      refine wp_region_still_tail 14 (by kernel_rfl) (by kernel_rfl) ?_
      change wpStill _ _ w1.drew (fun a' => wpList _ _ _ _ a' w1.drew) _ _
      have HND2 : Hid (Nds w1.drew (some ⟨g, 0, none⟩) pc ns) := Lib.hid HND.out
      have HB2 : Hid (Below w.heap.size w w1.drew) := Lib.hid (HB.out.trans (below_drewN _ _ 1))
      have q2 : w1.drew.cell? ⟨g, kN * 5 + 2, none⟩ = some (.int .i64 fv) := x2
      have qb : w1.drew.cell? ⟨b, off + 2, none⟩ = some (.int .i64 rb) := r2
      have fz : w1.drew.frozen? ⟨g, kN * 5 + 2, none⟩ = false := HFZ.out _
      clear x2 r1 r2 r4
      generalize w1.drew = W at HND2 HB2 q2 qb fz ⊢
      simp only [List.take_succ_cons, List.take_zero, List.drop_succ_cons, List.drop_zero]
      repeat still_step
      still_call ((CB3.out W).mono (fun _ _ ⟨a, b⟩ => ⟨a, b.symm⟩))
      repeat still_step
      refine wpStill_nil ?_
      go_wp2
      go_ret
      exact ⟨some ⟨g, 0, none⟩, pc, ns.set kN ⟨(ns[kN]).kind, (ns[kN]).a, wrap64 (fv + ((b3 : Int) - 1)), (ns[kN]).n, (ns[kN]).name⟩, by rw [List.length_set, ← HM.out]; rfl, Nds.put HND2.out (by rw [← HM.out]; exact hkm) _ 2 _ (by omega) rfl, by rw [List.length_set, ← HM.out]; omega, HOW.out, HB2.out.setCell (HOW.out g rfl) _⟩
    · obtain ⟨fv, hfv⟩ : ∃ fv, (ns[kN]'HKM.out).n = fv := ⟨_, rfl⟩
      rw [hfv] at x3
      clear hfv
      go_wp2_with (fail)
      refine (CKN.out _).mono ?_
      rintro e w2 ⟨rfl, rfl⟩
      go_wp2_with (fail)
      refine (CT.out _).mono ?_
      rintro e w2 ⟨rfl, rfl⟩
      go_wp2_with (fail)
      refine wp_region_still_tail 14 (by kernel_rfl) (by kernel_rfl) ?_
      change wpStill _ _ w1.drew (fun a' => wpList _ _ _ _ a' w1.drew) _ _
      have HND2 : Hid (Nds w1.drew (some ⟨g, 0, none⟩) pc ns) := Lib.hid HND.out
      have HB2 : Hid (Below w.heap.size w w1.drew) := Lib.hid (HB.out.trans (below_drewN _ _ 1))
      have q3 : w1.drew.cell? ⟨g, kN * 5 + 3, none⟩ = some (.int .i64 fv) := x3
      have qb : w1.drew.cell? ⟨b, off + 2, none⟩ = some (.int .i64 rb) := r2
      have fz : w1.drew.frozen? ⟨g, kN * 5 + 3, none⟩ = false := HFZ.out _
      clear x3 r1 r2 r4
      generalize w1.drew = W at HND2 HB2 q3 qb fz ⊢
      simp only [List.take_succ_cons, List.take_zero, List.drop_succ_cons, List.drop_zero]
      repeat still_step
      still_call ((CB5.out W).mono (fun _ _ ⟨a, b⟩ => ⟨a, b.symm⟩))
      repeat still_step
      refine wpStill_nil ?_
      go_wp2
      go_ret
      exact ⟨some ⟨g, 0, none⟩, pc, ns.set kN ⟨(ns[kN]).kind, (ns[kN]).a, (ns[kN]).b, wrap64 (fv + ((b5 : Int) - 1)), (ns[kN]).name⟩, by rw [List.length_set, ← HM.out]; rfl, Nds.put HND2.out (by rw [← HM.out]; exact hkm) _ 3 _ (by omega) rfl, by rw [List.length_set, ← HM.out]; omega, HOW.out, HB2.out.setCell (HOW.out g rfl) _⟩
    · have hkpc : (kN : Int) ≤ (pc : Int) := by have := HND.out.le; have := HM.out; omega
      go_wp2_with (fail)
      refine (CKN.out _).mono ?_
      rintro e w2 ⟨rfl, rfl⟩
      go_wp2_with (fail)
      refine (CT.out _).mono ?_
      rintro e w2 ⟨rfl, rfl⟩
      go_wp2
      go_ret
      have hlt : (ns.take kN).length = kN := by rw [List.length_take, ← HM.out]; omega
      exact ⟨some ⟨g, 0, none⟩, pc, ns.take kN, by rw [hlt]; rfl, HND.out.cut (by rw [← HM.out]; omega), by rw [hlt]; omega, HOW.out, HB.out⟩
    · have fz : w1.frozen? ⟨g, kN * 5 + 4, none⟩ = false := HFZ.out _
      go_wp2_with (fail)
      refine (CKN.out _).mono ?_
      rintro e w2 ⟨rfl, rfl⟩
      go_wp2_with (fail)
      refine (CT.out _).mono ?_
      rintro e w2 ⟨rfl, rfl⟩
      go_wp2
      go_ret
      exact ⟨some ⟨g, 0, none⟩, pc, ns.set kN ⟨(ns[kN]'HKM.out).kind, (ns[kN]'HKM.out).a, (ns[kN]'HKM.out).b, (ns[kN]'HKM.out).n, r0.name⟩, by rw [List.length_set, ← HM.out]; rfl, Nds.put HND.out HKM.out _ 4 _ (by omega) rfl, by rw [List.length_set, ← HM.out]; omega, HOW.out, HB.out.setCell (HOW.out g rfl) _⟩
  · go_enter Tryd.func12, Tryd.ntmps12
    go_wp2_with (fail)
    refine CP.out.mono ?_
    rintro e w1 ⟨pa, pc, ns, rfl, N1, hck, hn1, hn2, hnm, how1, b1⟩
    have HND := Lib.hid N1
    have HB := Lib.hid b1
    have HOW := Lib.hid how1
    have HN2 := Lib.hid hn2
    clear N1 b1 how1 hck hnm
    by_cases h31 : how.tmod 3 = 1
    · go_wp2
      go_ret
      exact ⟨pa, pc, ns, rfl, HND.out, by have := HN2.out; omega, HOW.out, HB.out⟩
    · obtain rfl : rn = 0 := by omega
      have h31b : (how.tmod 3 == 1) = false := by simp [h31]
      have h31c : (how.tmod 3 != 1) = true := by simp [h31]
      go_wp2
      go_ret
      exact ⟨pa, pc, ns, rfl, HND.out, by have := HN2.out; omega, HOW.out, HB.out⟩
end Go.Proofs.YtkdejinhjdkkmaaDoor

/- Contract of the program's Check: whether nodes are a pattern; the condition: the nodes lie there. -/
import Derived.Test.YtkdejinhjdkkmaaDoorCb
namespace Go.Proofs.YtkdejinhjdkkmaaDoor
open Go.ChangeShapes Go.WideShapes Go.ChangeAt Go.RowKit

/-- The slice at a reads as the nodes ns; what it reads was there. -/
def NodesAt (w : World) (a : Option Addr) (ns : List Nd) : Prop := ∀ j (h : j < ns.length), ∃ b off, a = some ⟨b, off, none⟩ ∧ NdAt w b (off + j * 5) ns[j] ∧ b < w.heap.size
theorem NodesAt.below {w w' : World} {a : Option Addr} {l : List Nd} (h : NodesAt w a l) (b : Below w.heap.size w w') : NodesAt w' a l := fun j hj => by
  obtain ⟨x, off, e, p, hx⟩ := h j hj
  exact ⟨x, off, e, ⟨(b.cell (p := ⟨x, _, none⟩) hx).trans p.c0, (b.cell (p := ⟨x, _, none⟩) hx).trans p.c1, (b.cell (p := ⟨x, _, none⟩) hx).trans p.c2, (b.cell (p := ⟨x, _, none⟩) hx).trans p.c3, (b.cell (p := ⟨x, _, none⟩) hx).trans p.c4⟩, Nat.lt_of_lt_of_le hx b.size⟩
theorem Nds.at {w : World} {a : Option Addr} {c : Nat} {ns : List Nd} (h : Nds w a c ns) : NodesAt w a ns := fun j hj => by
  obtain ⟨g, e, p⟩ := h.there hj
  exact ⟨g, 0, e, by rw [Nat.zero_add]; exact p, h.lt e⟩
/-- Where the loop of Check stands. -/
structure ChkSt (w wr : World) (ns : List Nd) (tags : Int) (i : Nat) (fl : List Pr) (a : Option Addr) (c : Nat) : Prop where
  prs : Prs wr a c fl
  own : ∀ g, a = some ⟨g, 0, none⟩ → w.heap.size ≤ g
  bel : Below w.heap.size w wr
  eq : chkL tags i (ns.drop i) fl = chkL tags 0 ns []
  len : fl.length ≤ i
theorem chk_on {ns : List Nd} {tags : Int} {i : Nat} {fl : List Pr} (h : i < ns.length) : chkL tags i (ns.drop i) fl = match chkStep tags i ns[i] fl with | none => none | some fl' => chkL tags (i + 1) (ns.drop (i + 1)) fl' := by
  rw [List.drop_eq_getElem_cons h]; rfl
/-- The last parts of a row, read through a slice of it. -/
theorem Prs.tail {w : World} {a : Option Addr} {c : Nat} {fl : List Pr} (h : Prs w a c fl) {k : Nat} (hk : k ≤ fl.length) (g : Nat) (ha : a = some ⟨g, 0, none⟩) : PartsAt w (some ⟨g, k * 2, none⟩) (fl.drop k) := fun j hj => by
  rw [List.length_drop] at hj
  obtain ⟨g', e, p⟩ := h.there (j := k + j) (by omega)
  rw [ha] at e
  injection e with e; injection e with e; subst e
  refine ⟨g, k * 2, rfl, ?_, h.lt ha⟩
  rw [List.getElem_drop, show k * 2 + j * 2 = (k + j) * 2 by omega]
  exact p
def chkOut (w : World) (ns : List Nd) (tags : Int) (e : Ending) (w' : World) : Prop := e = .returned (.bool (chkB ns tags)) ∧ Below w.heap.size w w'

set_option maxRecDepth 100000 in
set_option maxHeartbeats 8000000 in
theorem check_any (ns : List Nd) (tags : Int) (a : Option Addr) (c : Nat) (w : World) (N : NodesAt w a ns) (hm : ns.length ≤ 1000000) :
    Calls Tryd.prog 17 #[.slice a ns.length c, .int .i64 tags] w (chkOut w ns tags) := by
  have HN := Lib.hid N
  clear N
  obtain ⟨n, hn⟩ : ∃ n, n = ns.length := ⟨_, rfl⟩
  rw [← hn] at hm ⊢
  have HL := Lib.hid hn
  by_cases h24 : n ≤ 24
  · have HO : Hid (∀ r, oneB (chkL tags 0 ns []) = r → chkB ns tags = r) := Lib.hid (fun r h => by unfold chkB; rw [← hn, decide_eq_true h24, Bool.true_and]; exact h)
    clear hn
    have h24' : ¬ (24 : Int) < (n : Int) := by omega
    have H0 : Hid (ChkSt w w ns tags 0 [] none 0) := Lib.hid ⟨Prs.nil w, (fun _ e => nomatch e), Below.refl _ _, rfl, Nat.le_refl _⟩
    go_enter Tryd.func17, Tryd.ntmps17
    go_wp2_with (fail)
    go_loopw [4, 5, 6, 7, 8, 9, 15] (fun _ f _ _ _ _ i wr => ∃ (k : Nat) (fl : List Pr) (fa : Option Addr) (fc : Nat), k ≤ n ∧ i = .int .i64 k ∧ f = .slice fa fl.length fc ∧ Hid (ChkSt w wr ns tags k fl fa fc)) (fun _ _ _ _ _ _ i _ => n - (intOf i).toNat)
    case atStart => exact ⟨0, [], none, 0, Nat.zero_le _, rfl, rfl, H0⟩
    case round =>
      clear H0
      obtain ⟨k, fl, fa, fc, hk, rfl, rfl, HS⟩ := hrel
      by_cases hlt : k < n
      · have hkn : k < ns.length := by have := HL.out; omega
        obtain ⟨gb, off, hga, p, hgb⟩ := HN.out.below HS.out.bel k hkn
        subst hga
        have c0 := p.c0
        have c1 := p.c1
        have c2 := p.c2
        have c3 := p.c3
        have c4 := p.c4
        have hq := chk_on (tags := tags) (fl := fl) hkn
        rw [HS.out.eq] at hq
        have HQ := Lib.hid hq
        clear p hq
        generalize ns[k] = y at c0 c1 c2 c3 c4 HQ
        obtain ⟨pk, hpk⟩ : ∃ pk, pk = partsK y.kind := ⟨_, rfl⟩
        have HPK : Hid (partsK y.kind = pk) := Lib.hid hpk.symm
        have hpl : pk ≤ 2 := by rw [hpk]; unfold partsK; split; omega; split <;> omega
        obtain ⟨L, hL⟩ : ∃ L, L = fl.length := ⟨_, rfl⟩
        rw [← hL]
        have hLk : L ≤ k := by rw [hL]; exact HS.out.len
        by_cases hcut : L < pk
        · have HQ2 : Hid (chkL tags 0 ns [] = none) := Lib.hid (by rw [HQ.out]; unfold chkStep; rw [if_pos (by rw [← hL, ← hpk]; exact hcut)])
          have hneg : decide ((L : Int) - (pk : Int) < 0) = true := by simp; omega
          have HB1 : Hid (Below w.heap.size w (wr.alloc (.cells #[.int .i64 y.kind, .int .i64 y.a, .int .i64 y.b, .int .i64 y.n, .string y.name] 45))) := Lib.hid (HS.out.bel.alloc HS.out.bel.size _)
          clear hpk hL
          go_wp2_with (fail)
          refine (parts_any y.kind _).mono ?_
          rintro e w1 ⟨rfl, rfl⟩
          rw [HPK.out]
          go_wp2_with (fail)
          go_quiet (fail)
          go_wp2
          go_ret
          exact ⟨ret_bool (HO.out _ (by rw [HQ2.out]; rfl)).symm, HB1.out.trans (below_drewN _ _ _)⟩
        · obtain ⟨m, hmL⟩ : ∃ m, L = m + pk := ⟨L - pk, by omega⟩
          subst hmL
          have HDL : Hid ((fl.drop m).length = partsK y.kind) := Lib.hid (by rw [List.length_drop, ← hL, ← hpk]; omega)
          have HDL2 : Hid ((fl.drop m).length = pk) := Lib.hid (by rw [List.length_drop, ← hL]; omega)
          have HML : Hid (m ≤ fl.length) := Lib.hid (by rw [← hL]; omega)
          have HTL : Hid (m = (fl.take m).length) := Lib.hid (by rw [List.length_take, ← hL]; omega)
          have HT1 : Hid ((fl.take m).length ≤ 1000000) := Lib.hid (by rw [List.length_take, ← hL]; omega)
          have HPL := Lib.hid hpl
          have hcm : fl.length - partsK y.kind = m := by rw [← hL, ← hpk]; omega
          have HNO : Hid (rightB y tags (fl.drop m) = false → chkL tags 0 ns [] = none) := Lib.hid (fun h => by
            rw [HQ.out]; unfold chkStep; rw [if_neg (by rw [← hL, ← hpk]; exact hcut), hcm, if_neg (by rw [h]; simp)])
          have HYES : Hid (rightB y tags (fl.drop m) = true → chkL tags 0 ns [] = chkL tags (k + 1) (ns.drop (k + 1)) (fl.take m ++ [((k : Int), decide (y.kind = 6) || (fl.drop m).any (·.2))])) := Lib.hid (fun h => by
            rw [HQ.out]; unfold chkStep; rw [if_neg (by rw [← hL, ← hpk]; exact hcut), hcm, if_pos h])
          have HB1 : Hid (Below w.heap.size w (wr.alloc (.cells #[.int .i64 y.kind, .int .i64 y.a, .int .i64 y.b, .int .i64 y.n, .string y.name] 45))) := Lib.hid (HS.out.bel.alloc HS.out.bel.size _)
          have HL1 : Hid (Lies (wr.alloc (.cells #[.int .i64 y.kind, .int .i64 y.a, .int .i64 y.b, .int .i64 y.n, .string y.name] 45)) wr.heap.size 45 [.int .i64 y.kind, .int .i64 y.a, .int .i64 y.b, .int .i64 y.n, .string y.name]) := Lib.hid (Lies.new wr 45 _)
          have HR1 : Hid (Prs (wr.alloc (.cells #[.int .i64 y.kind, .int .i64 y.a, .int .i64 y.b, .int .i64 y.n, .string y.name] 45)) fa fc fl) := Lib.hid (HS.out.prs.alloc _)
          have HNB : Hid (wr.heap.size = wr.heap.size) := Lib.hid rfl
          have hle := HS.out.prs.le
          rw [← hL] at hle
          have hm0 : decide ((m : Int) < 0) = false := by simp
          have hml : m + pk ≤ 100 := by omega
          clear hpk hL hcm hcut HQ
          rcases HS.out.prs.form with hfa | ⟨g, hfa⟩
          · have hz : m + pk = 0 ∧ fc = 0 := by
              rcases HS.out.prs with ⟨_, h2, h3⟩ | ⟨g', sp, e, _⟩
              · have := HDL2.out; have := HML.out; subst h3; simp at this; simp at *; omega
              · rw [hfa] at e; cases e
            obtain ⟨hz1, hz2⟩ := hz
            obtain rfl : m = 0 := by omega
            obtain rfl : pk = 0 := by omega
            subst hz2
            subst hfa
            have HP1 : Hid (PartsAt (wr.alloc (.cells #[.int .i64 y.kind, .int .i64 y.a, .int .i64 y.b, .int .i64 y.n, .string y.name] 45)) none (fl.drop 0)) := Lib.hid (fun j hj => by have := HDL2.out; omega)
            clear hle hml hz1
            go_wp2_with (fail)
            refine (parts_any y.kind _).mono ?_
            rintro e w1 ⟨rfl, rfl⟩
            rw [HPK.out]
            go_wp2_with (fail)
            generalize wr.alloc (.cells #[.int .i64 y.kind, .int .i64 y.a, .int .i64 y.b, .int .i64 y.n, .string y.name] 45) = W1 at HB1 HL1 HP1 HR1 ⊢
            generalize wr.heap.size = nb at HL1 HNB ⊢
            refine wp_region_still_tail 8 (by kernel_rfl) (by kernel_rfl) ?_
            change wpStill _ _ W1.drew (fun a' => wpList _ _ _ _ a' W1.drew) _ _
            have HB2 : Hid (Below w.heap.size w W1.drew) := Lib.hid (HB1.out.trans (below_drewN _ _ 1))
            have HL2 : Hid (Lies W1.drew nb _ _) := Lib.hid (Lies.drew HL1.out)
            have HP2 : Hid (PartsAt W1.drew (none) (fl.drop 0)) := Lib.hid (HP1.out.below (below_drewN _ _ 1))
            have HR2 : Hid (Prs W1.drew (none) (0) fl) := Lib.hid HR1.out
            clear HB1 HL1 HP1 HR1
            generalize W1.drew = W2 at *
            have n0 := HL2.out.cell 0
            have n1 := HL2.out.cell 1
            have n2 := HL2.out.cell 2
            have n3 := HL2.out.cell 3
            have n4 := HL2.out.cell 4
            simp only [List.getElem?_cons_zero, List.getElem?_cons_succ] at n0 n1 n2 n3 n4
            simp only [List.take_succ_cons, List.take_zero, List.drop_succ_cons, List.drop_zero]
            repeat still_step
            refine wpStill_nil ?_
            have CR := right_any y tags (none) (0) (fl.drop 0) W2 HDL.out HP2.out
            rw [HDL2.out] at CR
            cases hrb : rightB y tags (fl.drop 0) with
            | false =>
              rw [hrb] at CR
              have CR := Lib.hid CR
              have HQ2 := Lib.hid (HNO.out hrb)
              clear hrb HYES
              go_wp2_with (fail)
              refine CR.out.mono ?_
              rintro e w3 ⟨rfl, b3⟩
              have HB3 : Hid (Below w.heap.size w w3) := Lib.hid (HB2.out.trans (b3.mono HB2.out.size))
              clear b3 n0 n1 n2 n3 n4
              go_wp2
              go_ret
              exact ⟨ret_bool (HO.out _ (by rw [HQ2.out]; rfl)).symm, HB3.out⟩
            | true =>
              rw [hrb] at CR
              have CR := Lib.hid CR
              have HQ2 := Lib.hid (HYES.out hrb)
              clear hrb HNO
              go_wp2_with (fail)
              refine CR.out.mono ?_
              rintro e w3 ⟨rfl, b3⟩
              have HB3 : Hid (Below w.heap.size w w3) := Lib.hid (HB2.out.trans (b3.mono HB2.out.size))
              have HP3 : Hid (PartsAt w3 (none) (fl.drop 0)) := Lib.hid (HP2.out.below b3)
              have HR3 : Hid (Prs w3 (none) (0) fl) := Lib.hid (HR2.out.below b3)
              have l0 : w3.cell? ⟨nb, 0, none⟩ = some (.int .i64 y.kind) := (HL2.out.below b3 HL2.out.lt).cell 0
              clear b3 n0 n1 n2 n3 n4 HP2 HR2 HL2 HB2 CR
              by_cases h6 : y.kind = 6
              · have HQ3 : Hid (chkL tags 0 ns [] = chkL tags (k + 1) (ns.drop (k + 1)) (fl.take 0 ++ [((k : Int), true)])) := Lib.hid (by rw [HQ2.out, decide_eq_true h6, Bool.true_or])
                clear HQ2
                go_wp2_with (at_builtin; refine wpList_appP _ rfl _ _ rfl (none) (0) 0 _ rfl rfl (fl.take 0) ((k : Int), true) (Prs.alloc (HR3.out.cut HML.out) _) (Lies.new w3 77 (prCells ((k : Int), true))) HT1.out HTL.out ?_; intro a' c' w5 T5 K5 O5; (have HT5 := Lib.hid T5); (have HK5 := Lib.hid K5); (have HO5 := Lib.hid O5); clear T5 K5 O5)
                go_roundw
                case rel =>
                  refine ⟨k + 1, fl.take 0 ++ [((k : Int), true)], a', c', by omega, by go_num, by rw [List.length_append, ← HTL.out]; rfl, Lib.hid ⟨HT5.out, fun g e => ?_, kept_below (HB3.out.alloc HB3.out.size _) HK5.out HS.out.own, by rw [← HQ3.out], by rw [List.length_append, ← HTL.out]; have := HS.out.len; have := HML.out; simp only [List.length_cons, List.length_nil]; omega⟩⟩
                  rcases HO5.out g e with h | h
                  · exact HS.out.own g h
                  · have := HB3.out.size
                    simp at h
                    omega
                case measure => simp [intOf]; omega
              · have HQ3 : Hid (chkL tags 0 ns [] = chkL tags (k + 1) (ns.drop (k + 1)) (fl.take 0 ++ [((k : Int), (fl.drop 0).any (·.2))])) := Lib.hid (by rw [HQ2.out, decide_eq_false h6, Bool.false_or])
                have h6' : (y.kind == 6) = false := by simp [h6]
                have CC := containsFunc_any (none) (fl.drop 0) (0) w3 HP3.out (by rw [HDL2.out]; have := HPL.out; omega)
                rw [HDL2.out] at CC
                have CC := Lib.hid CC
                clear HQ2
                go_wp2_with (fail)
                refine CC.out.mono ?_
                rintro e w4 ⟨rfl, b4⟩
                have HB4 : Hid (Below w.heap.size w w4) := Lib.hid (HB3.out.trans (b4.mono HB3.out.size))
                have HR4 : Hid (Prs w4 (none) (0) fl) := Lib.hid (HR3.out.below b4)
                clear b4 HR3 HB3 CC l0 HP3
                generalize (fl.drop 0).any (·.2) = sb at HQ3 ⊢
                go_wp2_with (at_builtin; refine wpList_appP _ rfl _ _ rfl (none) (0) 0 _ rfl rfl (fl.take 0) ((k : Int), sb) (Prs.alloc (HR4.out.cut HML.out) _) (Lies.new w4 77 (prCells ((k : Int), sb))) HT1.out HTL.out ?_; intro a' c' w5 T5 K5 O5; (have HT5 := Lib.hid T5); (have HK5 := Lib.hid K5); (have HO5 := Lib.hid O5); clear T5 K5 O5)
                go_roundw
                case rel =>
                  refine ⟨k + 1, fl.take 0 ++ [((k : Int), sb)], a', c', by omega, by go_num, by rw [List.length_append, ← HTL.out]; rfl, Lib.hid ⟨HT5.out, fun g e => ?_, kept_below (HB4.out.alloc HB4.out.size _) HK5.out HS.out.own, by rw [← HQ3.out], by rw [List.length_append, ← HTL.out]; have := HS.out.len; have := HML.out; simp only [List.length_cons, List.length_nil]; omega⟩⟩
                  rcases HO5.out g e with h | h
                  · exact HS.out.own g h
                  · have := HB4.out.size
                    simp at h
                    omega
                case measure => simp [intOf]; omega
          · subst hfa
            by_cases hfc : fc = m
            · subst hfc
              obtain rfl : pk = 0 := by omega
              have HP1 : Hid (PartsAt (wr.alloc (.cells #[.int .i64 y.kind, .int .i64 y.a, .int .i64 y.b, .int .i64 y.n, .string y.name] 45)) (some ⟨g, 0, none⟩) (fl.drop fc)) := Lib.hid (fun j hj => by have := HDL2.out; omega)
              clear hle hml
              go_wp2_with (fail)
              refine (parts_any y.kind _).mono ?_
              rintro e w1 ⟨rfl, rfl⟩
              rw [HPK.out]
              go_wp2_with (fail)
              generalize wr.alloc (.cells #[.int .i64 y.kind, .int .i64 y.a, .int .i64 y.b, .int .i64 y.n, .string y.name] 45) = W1 at HB1 HL1 HP1 HR1 ⊢
              generalize wr.heap.size = nb at HL1 HNB ⊢
              refine wp_region_still_tail 8 (by kernel_rfl) (by kernel_rfl) ?_
              change wpStill _ _ W1.drew (fun a' => wpList _ _ _ _ a' W1.drew) _ _
              have HB2 : Hid (Below w.heap.size w W1.drew) := Lib.hid (HB1.out.trans (below_drewN _ _ 1))
              have HL2 : Hid (Lies W1.drew nb _ _) := Lib.hid (Lies.drew HL1.out)
              have HP2 : Hid (PartsAt W1.drew (some ⟨g, 0, none⟩) (fl.drop fc)) := Lib.hid (HP1.out.below (below_drewN _ _ 1))
              have HR2 : Hid (Prs W1.drew (some ⟨g, 0, none⟩) (fc) fl) := Lib.hid HR1.out
              clear HB1 HL1 HP1 HR1
              generalize W1.drew = W2 at *
              have n0 := HL2.out.cell 0
              have n1 := HL2.out.cell 1
              have n2 := HL2.out.cell 2
              have n3 := HL2.out.cell 3
              have n4 := HL2.out.cell 4
              simp only [List.getElem?_cons_zero, List.getElem?_cons_succ] at n0 n1 n2 n3 n4
              simp only [List.take_succ_cons, List.take_zero, List.drop_succ_cons, List.drop_zero]
              repeat still_step
              refine wpStill_nil ?_
              have CR := right_any y tags (some ⟨g, 0, none⟩) (0) (fl.drop fc) W2 HDL.out HP2.out
              rw [HDL2.out] at CR
              cases hrb : rightB y tags (fl.drop fc) with
              | false =>
                rw [hrb] at CR
                have CR := Lib.hid CR
                have HQ2 := Lib.hid (HNO.out hrb)
                clear hrb HYES
                go_wp2_with (fail)
                refine CR.out.mono ?_
                rintro e w3 ⟨rfl, b3⟩
                have HB3 : Hid (Below w.heap.size w w3) := Lib.hid (HB2.out.trans (b3.mono HB2.out.size))
                clear b3 n0 n1 n2 n3 n4
                go_wp2
                go_ret
                exact ⟨ret_bool (HO.out _ (by rw [HQ2.out]; rfl)).symm, HB3.out⟩
              | true =>
                rw [hrb] at CR
                have CR := Lib.hid CR
                have HQ2 := Lib.hid (HYES.out hrb)
                clear hrb HNO
                go_wp2_with (fail)
                refine CR.out.mono ?_
                rintro e w3 ⟨rfl, b3⟩
                have HB3 : Hid (Below w.heap.size w w3) := Lib.hid (HB2.out.trans (b3.mono HB2.out.size))
                have HP3 : Hid (PartsAt w3 (some ⟨g, 0, none⟩) (fl.drop fc)) := Lib.hid (HP2.out.below b3)
                have HR3 : Hid (Prs w3 (some ⟨g, 0, none⟩) (fc) fl) := Lib.hid (HR2.out.below b3)
                have l0 : w3.cell? ⟨nb, 0, none⟩ = some (.int .i64 y.kind) := (HL2.out.below b3 HL2.out.lt).cell 0
                clear b3 n0 n1 n2 n3 n4 HP2 HR2 HL2 HB2 CR
                by_cases h6 : y.kind = 6
                · have HQ3 : Hid (chkL tags 0 ns [] = chkL tags (k + 1) (ns.drop (k + 1)) (fl.take fc ++ [((k : Int), true)])) := Lib.hid (by rw [HQ2.out, decide_eq_true h6, Bool.true_or])
                  clear HQ2
                  go_wp2_with (at_builtin; refine wpList_appP _ rfl _ _ rfl (some ⟨g, 0, none⟩) (fc) fc _ rfl rfl (fl.take fc) ((k : Int), true) (Prs.alloc (HR3.out.cut HML.out) _) (Lies.new w3 77 (prCells ((k : Int), true))) HT1.out HTL.out ?_; intro a' c' w5 T5 K5 O5; (have HT5 := Lib.hid T5); (have HK5 := Lib.hid K5); (have HO5 := Lib.hid O5); clear T5 K5 O5)
                  go_roundw
                  case rel =>
                    refine ⟨k + 1, fl.take fc ++ [((k : Int), true)], a', c', by omega, by go_num, by rw [List.length_append, ← HTL.out]; rfl, Lib.hid ⟨HT5.out, fun g e => ?_, kept_below (HB3.out.alloc HB3.out.size _) HK5.out HS.out.own, by rw [← HQ3.out], by rw [List.length_append, ← HTL.out]; have := HS.out.len; have := HML.out; simp only [List.length_cons, List.length_nil]; omega⟩⟩
                    rcases HO5.out g e with h | h
                    · exact HS.out.own g h
                    · have := HB3.out.size
                      simp at h
                      omega
                  case measure => simp [intOf]; omega
                · have HQ3 : Hid (chkL tags 0 ns [] = chkL tags (k + 1) (ns.drop (k + 1)) (fl.take fc ++ [((k : Int), (fl.drop fc).any (·.2))])) := Lib.hid (by rw [HQ2.out, decide_eq_false h6, Bool.false_or])
                  have h6' : (y.kind == 6) = false := by simp [h6]
                  have CC := containsFunc_any (some ⟨g, 0, none⟩) (fl.drop fc) (0) w3 HP3.out (by rw [HDL2.out]; have := HPL.out; omega)
                  rw [HDL2.out] at CC
                  have CC := Lib.hid CC
                  clear HQ2
                  go_wp2_with (fail)
                  refine CC.out.mono ?_
                  rintro e w4 ⟨rfl, b4⟩
                  have HB4 : Hid (Below w.heap.size w w4) := Lib.hid (HB3.out.trans (b4.mono HB3.out.size))
                  have HR4 : Hid (Prs w4 (some ⟨g, 0, none⟩) (fc) fl) := Lib.hid (HR3.out.below b4)
                  clear b4 HR3 HB3 CC l0 HP3
                  generalize (fl.drop fc).any (·.2) = sb at HQ3 ⊢
                  go_wp2_with (at_builtin; refine wpList_appP _ rfl _ _ rfl (some ⟨g, 0, none⟩) (fc) fc _ rfl rfl (fl.take fc) ((k : Int), sb) (Prs.alloc (HR4.out.cut HML.out) _) (Lies.new w4 77 (prCells ((k : Int), sb))) HT1.out HTL.out ?_; intro a' c' w5 T5 K5 O5; (have HT5 := Lib.hid T5); (have HK5 := Lib.hid K5); (have HO5 := Lib.hid O5); clear T5 K5 O5)
                  go_roundw
                  case rel =>
                    refine ⟨k + 1, fl.take fc ++ [((k : Int), sb)], a', c', by omega, by go_num, by rw [List.length_append, ← HTL.out]; rfl, Lib.hid ⟨HT5.out, fun g e => ?_, kept_below (HB4.out.alloc HB4.out.size _) HK5.out HS.out.own, by rw [← HQ3.out], by rw [List.length_append, ← HTL.out]; have := HS.out.len; have := HML.out; simp only [List.length_cons, List.length_nil]; omega⟩⟩
                    rcases HO5.out g e with h | h
                    · exact HS.out.own g h
                    · have := HB4.out.size
                      simp at h
                      omega
                  case measure => simp [intOf]; omega
            · have HP1 : Hid (PartsAt (wr.alloc (.cells #[.int .i64 y.kind, .int .i64 y.a, .int .i64 y.b, .int .i64 y.n, .string y.name] 45)) (some ⟨g, m * 2, none⟩) (fl.drop m)) := Lib.hid (Prs.tail HR1.out HML.out g rfl)
              have hcap : m ≤ fc := by omega
              have hi1 : (m : Int) ≤ (m : Int) + (pk : Int) := by omega
              have hi2 : (m : Int) ≤ ((m + pk : Nat) : Int) := by omega
              have hi3 : (0 : Int) ≤ (m : Int) := by omega
              go_wp2_with (fail)
              refine (parts_any y.kind _).mono ?_
              rintro e w1 ⟨rfl, rfl⟩
              rw [HPK.out]
              go_wp2_with (fail)
              generalize wr.alloc (.cells #[.int .i64 y.kind, .int .i64 y.a, .int .i64 y.b, .int .i64 y.n, .string y.name] 45) = W1 at HB1 HL1 HP1 HR1 ⊢
              generalize wr.heap.size = nb at HL1 HNB ⊢
              refine wp_region_still_tail 8 (by kernel_rfl) (by kernel_rfl) ?_
              change wpStill _ _ W1.drew (fun a' => wpList _ _ _ _ a' W1.drew) _ _
              have HB2 : Hid (Below w.heap.size w W1.drew) := Lib.hid (HB1.out.trans (below_drewN _ _ 1))
              have HL2 : Hid (Lies W1.drew nb _ _) := Lib.hid (Lies.drew HL1.out)
              have HP2 : Hid (PartsAt W1.drew (some ⟨g, m * 2, none⟩) (fl.drop m)) := Lib.hid (HP1.out.below (below_drewN _ _ 1))
              have HR2 : Hid (Prs W1.drew (some ⟨g, 0, none⟩) (fc) fl) := Lib.hid HR1.out
              clear HB1 HL1 HP1 HR1
              generalize W1.drew = W2 at *
              have n0 := HL2.out.cell 0
              have n1 := HL2.out.cell 1
              have n2 := HL2.out.cell 2
              have n3 := HL2.out.cell 3
              have n4 := HL2.out.cell 4
              simp only [List.getElem?_cons_zero, List.getElem?_cons_succ] at n0 n1 n2 n3 n4
              simp only [List.take_succ_cons, List.take_zero, List.drop_succ_cons, List.drop_zero]
              repeat still_step
              refine wpStill_nil ?_
              have CR := right_any y tags (some ⟨g, m * 2, none⟩) (fc - m) (fl.drop m) W2 HDL.out HP2.out
              rw [HDL2.out] at CR
              cases hrb : rightB y tags (fl.drop m) with
              | false =>
                rw [hrb] at CR
                have CR := Lib.hid CR
                have HQ2 := Lib.hid (HNO.out hrb)
                clear hrb HYES
                go_wp2_with (fail)
                refine CR.out.mono ?_
                rintro e w3 ⟨rfl, b3⟩
                have HB3 : Hid (Below w.heap.size w w3) := Lib.hid (HB2.out.trans (b3.mono HB2.out.size))
                clear b3 n0 n1 n2 n3 n4
                go_wp2
                go_ret
                exact ⟨ret_bool (HO.out _ (by rw [HQ2.out]; rfl)).symm, HB3.out⟩
              | true =>
                rw [hrb] at CR
                have CR := Lib.hid CR
                have HQ2 := Lib.hid (HYES.out hrb)
                clear hrb HNO
                go_wp2_with (fail)
                refine CR.out.mono ?_
                rintro e w3 ⟨rfl, b3⟩
                have HB3 : Hid (Below w.heap.size w w3) := Lib.hid (HB2.out.trans (b3.mono HB2.out.size))
                have HP3 : Hid (PartsAt w3 (some ⟨g, m * 2, none⟩) (fl.drop m)) := Lib.hid (HP2.out.below b3)
                have HR3 : Hid (Prs w3 (some ⟨g, 0, none⟩) (fc) fl) := Lib.hid (HR2.out.below b3)
                have l0 : w3.cell? ⟨nb, 0, none⟩ = some (.int .i64 y.kind) := (HL2.out.below b3 HL2.out.lt).cell 0
                clear b3 n0 n1 n2 n3 n4 HP2 HR2 HL2 HB2 CR
                by_cases h6 : y.kind = 6
                · have HQ3 : Hid (chkL tags 0 ns [] = chkL tags (k + 1) (ns.drop (k + 1)) (fl.take m ++ [((k : Int), true)])) := Lib.hid (by rw [HQ2.out, decide_eq_true h6, Bool.true_or])
                  clear HQ2
                  go_wp2_with (at_builtin; refine wpList_appP _ rfl _ _ rfl (some ⟨g, 0, none⟩) (fc) m _ rfl rfl (fl.take m) ((k : Int), true) (Prs.alloc (HR3.out.cut HML.out) _) (Lies.new w3 77 (prCells ((k : Int), true))) HT1.out HTL.out ?_; intro a' c' w5 T5 K5 O5; (have HT5 := Lib.hid T5); (have HK5 := Lib.hid K5); (have HO5 := Lib.hid O5); clear T5 K5 O5)
                  go_roundw
                  case rel =>
                    refine ⟨k + 1, fl.take m ++ [((k : Int), true)], a', c', by omega, by go_num, by rw [List.length_append, ← HTL.out]; rfl, Lib.hid ⟨HT5.out, fun g e => ?_, kept_below (HB3.out.alloc HB3.out.size _) HK5.out HS.out.own, by rw [← HQ3.out], by rw [List.length_append, ← HTL.out]; have := HS.out.len; have := HML.out; simp only [List.length_cons, List.length_nil]; omega⟩⟩
                    rcases HO5.out g e with h | h
                    · exact HS.out.own g h
                    · have := HB3.out.size
                      simp at h
                      omega
                  case measure => simp [intOf]; omega
                · have HQ3 : Hid (chkL tags 0 ns [] = chkL tags (k + 1) (ns.drop (k + 1)) (fl.take m ++ [((k : Int), (fl.drop m).any (·.2))])) := Lib.hid (by rw [HQ2.out, decide_eq_false h6, Bool.false_or])
                  have h6' : (y.kind == 6) = false := by simp [h6]
                  have CC := containsFunc_any (some ⟨g, m * 2, none⟩) (fl.drop m) (fc - m) w3 HP3.out (by rw [HDL2.out]; have := HPL.out; omega)
                  rw [HDL2.out] at CC
                  have CC := Lib.hid CC
                  clear HQ2
                  go_wp2_with (fail)
                  refine CC.out.mono ?_
                  rintro e w4 ⟨rfl, b4⟩
                  have HB4 : Hid (Below w.heap.size w w4) := Lib.hid (HB3.out.trans (b4.mono HB3.out.size))
                  have HR4 : Hid (Prs w4 (some ⟨g, 0, none⟩) (fc) fl) := Lib.hid (HR3.out.below b4)
                  clear b4 HR3 HB3 CC l0 HP3
                  generalize (fl.drop m).any (·.2) = sb at HQ3 ⊢
                  go_wp2_with (at_builtin; refine wpList_appP _ rfl _ _ rfl (some ⟨g, 0, none⟩) (fc) m _ rfl rfl (fl.take m) ((k : Int), sb) (Prs.alloc (HR4.out.cut HML.out) _) (Lies.new w4 77 (prCells ((k : Int), sb))) HT1.out HTL.out ?_; intro a' c' w5 T5 K5 O5; (have HT5 := Lib.hid T5); (have HK5 := Lib.hid K5); (have HO5 := Lib.hid O5); clear T5 K5 O5)
                  go_roundw
                  case rel =>
                    refine ⟨k + 1, fl.take m ++ [((k : Int), sb)], a', c', by omega, by go_num, by rw [List.length_append, ← HTL.out]; rfl, Lib.hid ⟨HT5.out, fun g e => ?_, kept_below (HB4.out.alloc HB4.out.size _) HK5.out HS.out.own, by rw [← HQ3.out], by rw [List.length_append, ← HTL.out]; have := HS.out.len; have := HML.out; simp only [List.length_cons, List.length_nil]; omega⟩⟩
                    rcases HO5.out g e with h | h
                    · exact HS.out.own g h
                    · have := HB4.out.size
                      simp at h
                      omega
                  case measure => simp [intOf]; omega
      · obtain rfl : k = n := by omega
        have HE : Hid (chkL tags 0 ns [] = some fl) := Lib.hid (by rw [← HS.out.eq, HL.out, List.drop_length]; rfl)
        by_cases h1 : fl.length = 1
        · have HV : Hid (chkB ns tags = true) := Lib.hid (HO.out _ (by
            rw [HE.out]
            match fl, h1 with
            | [p], _ => rfl))
          have h1' : (fl.length : Int) = 1 := by omega
          clear h1
          go_wp2
          go_ret
          exact ⟨ret_bool HV.out.symm, HS.out.bel⟩
        · have HV : Hid (chkB ns tags = false) := Lib.hid (HO.out _ (by
            rw [HE.out]
            match fl, h1 with
            | [], _ => rfl
            | _ :: _ :: _, _ => rfl))
          have h1' : ((fl.length : Int) == 1) = false := by simp; omega
          go_wp2
          go_ret
          exact ⟨ret_bool HV.out.symm, HS.out.bel⟩
  · have HV : Hid (chkB ns tags = false) := Lib.hid (by unfold chkB; rw [← hn, decide_eq_false h24, Bool.false_and])
    have h24' : (24 : Int) < (n : Int) := by omega
    clear hn
    go_enter Tryd.func17, Tryd.ntmps17
    go_wp2
    go_ret
    exact ⟨ret_bool HV.out.symm, Below.refl _ _⟩
end Go.Proofs.YtkdejinhjdkkmaaDoor

/- The reference's putItem. -/
import Derived.Test.YtadnjlhkppcmmaaTg
import Derived.Test.YtadnjlhkppcmmaaTr
import Derived.Laws.CopyOwn
import Derived.Deep.RegionLaw

/-! The reference's halved, chosen. -/
namespace Go.Proofs.Ytadnjlhkppcmmaa
open Go.ChangeShapes Go.WideShapes Go.ChangeAt Go.RowKit

/-- What halved comes to. -/
def Halves (xs : List Int) (n : Nat) (w : World) (e : Ending) (w' : World) : Prop := ∃ a c, e = .returned (.tuple #[.int .u64 (oddN xs), .slice a n c]) ∧ Bag w' a c (halfL xs) ∧ From w.heap.size a ∧ Below w.heap.size w w'
set_option maxRecDepth 100000 in
set_option maxHeartbeats 2000000 in
theorem halved_any (a : Option Addr) (c : Nat) (xs : List Int) (w : World) (R : Bag w a c xs) (hx : rightL xs = true) :
    Calls Try.prog 41 #[.slice a xs.length c] w (Halves xs (halfL xs).length w) := by
  have hl12 := (right_iff.1 hx).1
  have hle := R.le
  have HLT : Hid (∀ g, a = some ⟨g, 0, none⟩ → g < w.heap.size) := Lib.hid (fun g e => R.lt e)
  have HHT := Lib.hid (half_tab (xs := xs) rfl)
  have HNL : Hid (halfL xs = normL (halfT xs)) := Lib.hid rfl
  generalize hn : xs.length = n at hle hl12 HHT ⊢
  have HN := Lib.hid hn
  have HR := Lib.hid R
  have HRT := Lib.hid hx
  have HTL : Hid ((halfT xs).length = n) := Lib.hid ((half_len xs).trans hn)
  clear R hn hx
  go_enter Try.func41, Try.ntmps41
  go_wp2_with (at_make; refine wpList_make_bag _ rfl _ _ rfl _ _ n rfl rfl (by omega) (by omega) (by omega) ?_)
  intro w1 r1 b1
  have HR1 := Lib.hid (HR.out.below b1)
  have HO : Hid (Bag w1 (some ⟨w.heap.size, 0, none⟩) n (tab n (fun j => if j < 0 then xs.getD j 0 / 2 else 0))) := Lib.hid (by simpa using r1)
  have HB := Lib.hid b1
  clear r1 b1 HR
  generalize hgw : w.heap.size = gw at HO HLT ⊢
  have HGW := Lib.hid hgw
  clear hgw
  go_wp2
  go_loopw [4, 13] (fun x i wr => ∃ k : Nat, k ≤ n ∧ i = .int .i64 k ∧ x = .int .u64 (packN (xs.take k)) ∧ Hid (Bag wr (some ⟨gw, 0, none⟩) n (tab n (fun j => if j < k then xs.getD j 0 / 2 else 0))) ∧ Hid (Bag wr a c xs) ∧ Hid (Below w.heap.size w wr)) (fun _ i _ => n - (intOf i).toNat)
  case atStart => exact ⟨0, Nat.zero_le _, rfl, rfl, HO, HR1, HB⟩
  case round =>
    clear HO HR1 HB
    obtain ⟨k, hk, rfl, rfl, HO, HR1, HB⟩ := hrel
    by_cases hlt : k < n
    · have hk' : k < xs.length := by rw [HN.out]; exact hlt
      obtain ⟨g, e1, hc⟩ := HR1.out.at hk'
      have hga := HLT.out g e1
      subst e1
      have hb := right_at HRT.out k
      have hpt := pack_take hk'
      have hpb := pack_bound (xs.take k)
      have el : (xs.take k).length = k := by rw [List.length_take]; omega
      rw [el] at hpb
      have hor := or_pack (k := k) (by omega) hpb.1 hpb.2 hb.1 hb.2
      rw [← hpt] at hor
      obtain ⟨g0, e0, hc0⟩ := HO.out.at (k := k) (by rw [tab_len]; exact hlt)
      injection e0 with e0; injection e0 with e0
      subst e0
      have hfz := HO.out.frozen k
      have O2 := HO.out.set (j := k) (by rw [tab_len]; exact hlt) (xs.getD k 0 / 2)
      have e2 : (tab n (fun j => if j < k then xs.getD j 0 / 2 else 0)).set k (xs.getD k 0 / 2) = tab n (fun j => if j < k + 1 then xs.getD j 0 / 2 else 0) := by
        rw [tab_set]
        refine tab_congr (fun j hj => ?_)
        by_cases hjk : j = k
        · subst hjk; simp
        · by_cases hj2 : j < k
          · rw [if_neg hjk, if_pos hj2, if_pos (by omega)]
          · rw [if_neg hjk, if_neg hj2, if_neg (by omega)]
      rw [e2] at O2
      have kx : Kept (fun i => i = gw) wr (wr.setCell ⟨gw, k, none⟩ (.int .i64 (xs.getD k 0 / 2))) := (Kept.refl (fun i => i = gw) wr).setCell (p := ⟨gw, k, none⟩) (fun _ => rfl) _
      have HO2 := Lib.hid O2
      have HR2 := Lib.hid (HR1.out.kept kx (fun g' e e2 => by injection e with e; injection e with e; omega))
      have HB2 : Hid (Below w.heap.size w (wr.setCell ⟨gw, k, none⟩ (.int .i64 (xs.getD k 0 / 2)))) := Lib.hid (HB.out.setCell (p := ⟨gw, k, none⟩) (by have := HGW.out; show w.heap.size ≤ gw; omega) _)
      generalize xs.getD k 0 = v at hc hb hor HO2 HR2 HB2
      generalize packN (xs.take k) = pk at hor
      clear hpt hpb hk' O2 kx e2 HO HR1 HB el
      have i1 : (0 : Int) ≤ (k : Int) := by omega
      have i2 : (k : Int) < (n : Int) := by omega
      have hq : v.tdiv 2 = v / 2 := Int.tdiv_eq_ediv_of_nonneg hb.1
      go_wp2
      go_roundw
      case rel => exact ⟨k + 1, by omega, by go_num, by first | rw [hor] | rfl, HO2, HR2, HB2⟩
      case measure => simp [intOf]; omega
    · obtain rfl : k = n := by omega
      have htk : xs.take k = xs := by rw [← HN.out]; exact List.take_length
      rw [htk]
      have O2 := HO.out
      rw [HHT.out] at O2
      have Z := norm20 (some ⟨gw, 0, none⟩) k (halfT xs) wr O2 (by rw [HTL.out]; omega)
      rw [HTL.out, ← HNL.out] at Z
      have HZ := Lib.hid Z
      clear Z O2 HO
      go_wp2_with (fail)
      refine HZ.out.mono ?_
      rintro e w3 ⟨a3, c3, rfl, B3, f3, b3⟩
      have hs := HB.out.size
      have HF : Hid (Halves xs (halfL xs).length w (.returned (.tuple #[.int .u64 (packN xs), .slice a3 (halfL xs).length c3])) w3) := Lib.hid ⟨a3, c3, rfl, B3, fun g e => Nat.le_trans hs (f3 g e), HB.out.trans (b3.mono hs)⟩
      generalize hq : (halfL xs).length = hl
      have HQL := Lib.hid hq
      clear hq
      clear B3 f3 b3 HZ
      go_wp2
      exact bodyPost_ret (v := .tuple #[.int .u64 (packN xs), .slice a3 hl c3]) (by simp [results, Try.results41, go_sem]) rfl (by have h := HF.out; rw [HQL.out] at h ⊢; exact h)
theorem and_shift (m k : Nat) (hm : m < 4294967296) : bits BinOp.and IntKind.i64 ((m : Int) / 2 ^ k) 1 = ((m / 2 ^ k % 2 : Nat) : Int) := by
  have e : (m : Int) / 2 ^ k = ((m / 2 ^ k : Nat) : Int) := by simp
  have h := Nat.div_le_self m (2 ^ k)
  rw [e, Go.Proofs.and_one _ (by omega)]
/-- What chosen comes to. -/
def Chooses (o : Option (List Int)) (w : World) (e : Ending) (w' : World) : Prop :=
  match o with
  | none => e = .returned (.tuple #[.slice none 0 0, .bool false]) ∧ Below w.heap.size w w'
  | some x => ∃ a c, e = .returned (.tuple #[.slice a x.length c, .bool true]) ∧ Bag w' a c x ∧ rightL x = true ∧ From w.heap.size a ∧ Below w.heap.size w w'
theorem chosen_step {ps : List (List Int)} {k : Nat} (hk : k < ps.length) (c : List Int) (m : Nat) : chosenL c (ps.drop k) m = if m % 2 = 1 then (if addOk c (ps.getD k []) = true then chosenL (addT c (ps.getD k [])) (ps.drop (k + 1)) (m / 2) else none) else chosenL c (ps.drop (k + 1)) (m / 2) := by
  have e : ps.getD k [] = ps[k] := by simp [List.getD, hk]
  rw [List.drop_eq_getElem_cons hk, e]
  rfl
set_option maxRecDepth 100000 in
set_option maxHeartbeats 4000000 in
theorem chosen_any (a pa : Option Addr) (c pc : Nat) (cs : List Int) (ps : List (List Int)) (m : Nat) (w : World) (R : Bag w a c cs) (P : Bags w pa pc ps) (hr : rightL cs = true) (hn20 : ps.length ≤ 20) (hm : m < 4294967296) :
    Calls Try.prog 40 #[.slice a cs.length c, .slice pa ps.length pc, .int .i64 (m : Int)] w (Chooses (chosenL cs ps m) w) := by
  have hle := R.le
  have hlp := P.le
  have hl12 := (right_iff.1 hr).1
  obtain ⟨v, w1, hrun, a1, c1, e1, r1, f1, b1⟩ := run_copy 52 52 Try.underlying52 a c cs w R (by omega)
  injection e1 with e1
  subst e1
  have HP := Lib.hid (P.below b1)
  generalize hn : ps.length = n at hlp hn20 ⊢
  have HN := Lib.hid hn
  have H0 : Hid (Bag w1 a1 c1 cs) := Lib.hid r1
  have HF0 : Hid (From w.heap.size a1) := Lib.hid f1
  have HB0 := Lib.hid b1
  have HRI := Lib.hid hr
  have hl0 := r1.le
  have HC0 : Hid (chosenL cs ps m = chosenL cs (ps.drop 0) (m / 2 ^ 0)) := Lib.hid (by simp)
  have HL0 : Hid (cs.length ≤ 12) := Lib.hid hl12
  generalize chosenL cs ps m = q at HC0 ⊢
  clear R P hn r1 f1 b1 hr hl12
  generalize hcl : cs.length = cl at hrun hl0 hle ⊢
  have HCL := Lib.hid hcl
  clear hcl
  go_enter Try.func40, Try.ntmps40
  go_wp2_with (at_builtin; refine Lib.wpList_append_run _ rfl _ _ _ _ rfl _ _ rfl rfl _ _ hrun ?_)
  go_loopw [8, 17] (fun o i wr => ∃ (k : Nat) (oa : Option Addr) (oc : Nat) (out : List Int) (ol : Nat), k ≤ n ∧ i = .int .i64 k ∧ o = .slice oa ol oc ∧ Hid (out.length = ol) ∧ Hid (Bag wr oa oc out) ∧ Hid (rightL out = true) ∧ Hid (q = chosenL out (ps.drop k) (m / 2 ^ k)) ∧ Hid (From w.heap.size oa) ∧ Hid (Bags wr pa pc ps) ∧ Hid (Below w.heap.size w wr)) (fun _ i _ => n - (intOf i).toNat)
  case atStart => exact ⟨0, a1, c1, cs, _, Nat.zero_le _, rfl, rfl, HCL, H0, HRI, HC0, HF0, HP, HB0⟩
  case round =>
    clear HCL H0 HRI HC0 HF0 HP HB0 hl0 HL0
    obtain ⟨k, oa, oc, out, ol, hk, rfl, rfl, HOL, HO, HRO, HC, HF, HP, HB⟩ := hrel
    have hol := HO.out.le
    rw [HOL.out] at hol
    by_cases hlt : k < n
    · have hk' : k < ps.length := by rw [HN.out]; exact hlt
      obtain ⟨g, b, d, rfl, c0, B1⟩ := HP.out.at hk'
      have hst := chosen_step hk' out (m / 2 ^ k)
      rw [← HC.out, Nat.div_div_eq_div_mul, ← Nat.pow_succ] at hst
      have hbl := B1.le
      have Z := add11 oa b oc d out (ps.getD k []) wr HO.out B1
      have HS : Hid (addOk out (ps.getD k []) = true → addS out (ps.getD k []) = addT out (ps.getD k []) ∧ rightL (addT out (ps.getD k [])) = true) := Lib.hid (fun h => ⟨by unfold addS; rw [if_pos h], addT_right h⟩)
      generalize hu : (ps.getD k []).length = u at c0 hbl Z
      rw [HOL.out] at Z
      generalize ps.getD k [] = p at Z hst HS
      generalize hok : addOk out p = ok at Z hst HS
      generalize addT out p = T at hst HS
      generalize hS : addS out p = S at Z HS
      have HZ := Lib.hid Z
      have HST := Lib.hid hst
      clear Z hst hok hu B1 hk' hS
      have i1 : (0 : Int) ≤ (k : Int) := by omega
      have i2 : (k : Int) < (n : Int) := by omega
      have hkk : k ≤ 20 := by omega
      have hand := and_shift m k (by omega)
      by_cases hbit : m / 2 ^ k % 2 = 1
      · rw [hbit] at hand
        have hst := HST.out
        rw [if_pos hbit] at hst
        clear HST
        have hand2 : bits BinOp.and IntKind.i64 ((m : Int) / 2 ^ k) 1 = 1 := hand
        go_wp2_with (fail)
        refine HZ.out.mono ?_
        rintro e w3 ⟨a3, c3, rfl, B3, f3, b3⟩
        have hs := HB.out.size
        cases ok with
        | false =>
          have E : Hid (q = none) := Lib.hid (by rw [hst]; simp)
          have HB3 := Lib.hid (HB.out.trans (b3.mono hs))
          clear B3 f3 b3 HZ c0 hst
          generalize S.length = sl
          go_wp2
          exact bodyPost_ret (v := .tuple #[.slice none 0 0, .bool false]) (by simp [results, Try.results40, go_sem]) rfl (by unfold Chooses; rw [E.out]; exact ⟨rfl, HB3.out⟩)
        | true =>
          obtain ⟨hS, hT⟩ := HS.out rfl
          subst hS
          rw [if_pos rfl] at hst
          have HC2 := Lib.hid hst
          have HB3 := Lib.hid (HB.out.trans (b3.mono hs))
          have HP3 := Lib.hid (HP.out.below b3)
          have HO3 := Lib.hid B3
          have HT3 := Lib.hid hT
          have HF3 : Hid (From w.heap.size a3) := Lib.hid (fun g e => Nat.le_trans hs (f3 g e))
          generalize hsl : S.length = sl
          have HSL := Lib.hid hsl
          clear B3 f3 b3 HZ c0 hst hsl hT
          go_wp2
          go_roundw
          case rel => exact ⟨k + 1, a3, c3, S, sl, by omega, by go_num, rfl, HSL, HO3, HT3, HC2, HF3, HP3, HB3⟩
          case measure => simp [intOf]; omega
      · have hb0 : m / 2 ^ k % 2 = 0 := by omega
        rw [hb0] at hand
        have hand2 : bits BinOp.and IntKind.i64 ((m : Int) / 2 ^ k) 1 = 0 := hand
        have hst := HST.out
        rw [if_neg hbit] at hst
        have HC2 := Lib.hid hst
        clear HST hst HZ
        go_wp2
        go_roundw
        case rel => exact ⟨k + 1, oa, oc, out, ol, by omega, by go_num, rfl, HOL, HO, HRO, HC2, HF, HP, HB⟩
        case measure => simp [intOf]; omega
    · obtain rfl : k = n := by omega
      have hq : q = some out := by
        have h := HC.out
        rw [← HN.out, List.drop_length] at h
        exact h
      go_wp2
      exact bodyPost_ret (v := .tuple #[.slice oa ol oc, .bool true]) (by simp [results, Try.results40, go_sem]) rfl (by unfold Chooses; rw [hq]; exact ⟨oa, oc, by rw [HOL.out], HO.out, HRO.out, HF.out, HB.out⟩)
end Go.Proofs.Ytadnjlhkppcmmaa

/-! The reference's putItem. -/
namespace Go.Proofs.Ytadnjlhkppcmmaa
open Go.ChangeShapes Go.WideShapes Go.ChangeAt Go.RowKit
def rgTh0 : Oper := { dst := some 17, op := Op.move (Operand.tmp 0), type := 28, pos := "ref.go:530", after := #[], guard := none }
def rgTh1 : Oper := { dst := some 18, op := Op.move (Operand.tmp 7), type := 3, pos := "ref.go:530", after := #[], guard := none }
def rgTh2 : Oper := { dst := some 19, op := Op.indexAddr 28 (Operand.tmp 17) (Operand.tmp 18), type := 0, pos := "ref.go:530", after := #[{ on := 0, ground := Ground.data }, { on := 1, ground := Ground.data }], guard := none }
def rgTh3 : Oper := { dst := some 20, op := Op.load 75 (Operand.tmp 19), type := 75, pos := "ref.go:530", after := #[{ on := 2, ground := Ground.data }], guard := none }
def rgTh4 : Oper := { dst := some 21, op := Op.load 75 (Operand.tmp 3), type := 75, pos := "ref.go:530", after := #[], guard := none }
def rgTh5 : Oper := { dst := some 22, op := Op.call { callee := Callee.value (Operand.func 48), args := #[Operand.tmp 20, Operand.tmp 21], argTypes := #[75, 75] }, type := 4, pos := "ref.go:530", after := #[{ on := 3, ground := Ground.data }, { on := 4, ground := Ground.data }], guard := none }
def rgTh6 : Oper := { dst := some 26, op := Op.move (Operand.tmp 5), type := 3, pos := "ref.go:536", after := #[], guard := none }
def rgTh7 : Oper := { dst := some 27, op := Op.move (Operand.tmp 0), type := 28, pos := "ref.go:536", after := #[], guard := none }
def rgTh8 : Oper := { dst := some 28, op := Op.call { callee := Callee.builtin Builtin.len, args := #[Operand.tmp 27], argTypes := #[28] }, type := 3, pos := "ref.go:536", after := #[{ on := 1, ground := Ground.data }], guard := none }
def rgTh9 : Oper := { dst := some 29, op := Op.binOp BinOp.lss 3 (Operand.tmp 26) (Operand.tmp 28) 3, type := 4, pos := "ref.go:536", after := #[{ on := 0, ground := Ground.data }, { on := 2, ground := Ground.data }], guard := none }
def rgTh10 : Oper := { dst := some 30, op := Op.move (Operand.tmp 29), type := 4, pos := "ref.go:536", after := #[{ on := 3, ground := Ground.data }], guard := none }
def rgTh11 : Oper := { dst := some 31, op := Op.load 75 (Operand.tmp 3), type := 75, pos := "ref.go:536", after := #[{ on := 4, ground := Ground.guard }], guard := some (4, true) }
def rgTh12 : Oper := { dst := some 32, op := Op.move (Operand.tmp 0), type := 28, pos := "ref.go:536", after := #[{ on := 4, ground := Ground.guard }], guard := some (4, true) }
def rgTh13 : Oper := { dst := some 33, op := Op.move (Operand.tmp 5), type := 3, pos := "ref.go:536", after := #[{ on := 4, ground := Ground.guard }], guard := some (4, true) }
def rgTh14 : Oper := { dst := some 34, op := Op.indexAddr 28 (Operand.tmp 32) (Operand.tmp 33), type := 0, pos := "ref.go:536", after := #[{ on := 6, ground := Ground.data }, { on := 7, ground := Ground.data }, { on := 4, ground := Ground.guard }], guard := some (4, true) }
def rgTh15 : Oper := { dst := some 35, op := Op.load 75 (Operand.tmp 34), type := 75, pos := "ref.go:536", after := #[{ on := 8, ground := Ground.data }, { on := 4, ground := Ground.guard }], guard := some (4, true) }
def rgTh16 : Oper := { dst := some 36, op := Op.call { callee := Callee.value (Operand.func 48), args := #[Operand.tmp 31, Operand.tmp 35], argTypes := #[75, 75] }, type := 4, pos := "ref.go:536", after := #[{ on := 5, ground := Ground.data }, { on := 9, ground := Ground.data }, { on := 4, ground := Ground.chain }, { on := 4, ground := Ground.guard }], guard := some (4, true) }
def rgTh17 : Oper := { dst := some 37, op := Op.unOp UnOp.not 4 (Operand.tmp 36), type := 4, pos := "ref.go:536", after := #[{ on := 10, ground := Ground.data }, { on := 4, ground := Ground.guard }], guard := some (4, true) }
def rgTh18 : Oper := { dst := some 38, op := Op.pick (Operand.tmp 30) (Operand.tmp 37) (Operand.const (Value.bool false)), type := 4, pos := "ref.go:536", after := #[{ on := 4, ground := Ground.data }, { on := 11, ground := Ground.data }], guard := none }
def rgTh19 : Oper := { dst := some 44, op := Op.move (Operand.tmp 0), type := 28, pos := "ref.go:540", after := #[], guard := none }
def rgTh20 : Oper := { dst := some 45, op := Op.move (Operand.tmp 5), type := 3, pos := "ref.go:540", after := #[], guard := none }
def rgTh21 : Oper := { dst := some 46, op := Op.binOp BinOp.add 3 (Operand.tmp 45) (Operand.const (Value.int IntKind.i64 1)) 3, type := 3, pos := "ref.go:540", after := #[{ on := 1, ground := Ground.data }], guard := none }
def rgTh22 : Oper := { dst := some 47, op := Op.slice 28 (Operand.tmp 44) (some (Operand.tmp 46)) none none, type := 28, pos := "ref.go:540", after := #[{ on := 0, ground := Ground.data }, { on := 2, ground := Ground.data }], guard := none }
def rgTh23 : Oper := { dst := some 48, op := Op.move (Operand.tmp 0), type := 28, pos := "ref.go:540", after := #[], guard := none }
def rgTh24 : Oper := { dst := some 49, op := Op.move (Operand.tmp 5), type := 3, pos := "ref.go:540", after := #[], guard := none }
def rgTh25 : Oper := { dst := some 50, op := Op.slice 28 (Operand.tmp 48) (some (Operand.tmp 49)) none none, type := 28, pos := "ref.go:540", after := #[{ on := 4, ground := Ground.data }, { on := 5, ground := Ground.data }], guard := none }
def rgTh26 : Oper := { dst := some 51, op := Op.call { callee := Callee.builtin Builtin.copy, args := #[Operand.tmp 47, Operand.tmp 50], argTypes := #[28, 28] }, type := 3, pos := "ref.go:540", after := #[{ on := 3, ground := Ground.data }, { on := 6, ground := Ground.data }], guard := none }

theorem rise_at {s : List It} (h : RiseI s) {j k : Nat} (hjk : j < k) (hk : k < s.length) : cmpI (itAt s j) (itAt s k) < 0 := by
  rw [itAt_get hk, itAt_get (by omega : j < s.length)]
  exact List.pairwise_iff_getElem.1 h.2 j k (by omega) hk hjk
theorem good_at {s : List It} (h : RiseI s) {k : Nat} (hk : k < s.length) : rightIt (itAt s k) = true := by
  rw [itAt_get hk]
  exact h.1 _ (List.getElem_mem hk)
theorem less_up {s : List It} (h : RiseI s) {x : It} (hx : rightIt x = true) {j k : Nat} (hjk : j ≤ k) (hk : k < s.length) (hl : ltI (itAt s k) x = true) : ltI (itAt s j) x = true := by
  by_cases e : j = k
  · rw [e]; exact hl
  · have h1 := (ltI_iff (good_at h hk) hx).1 hl
    have hj : j < s.length := by omega
    exact (ltI_iff (good_at h hj) hx).2 (cmpI_lt_trans (good_at h hj) (good_at h hk) hx (rise_at h (by omega) hk) h1)
theorem putI_spot {x : It} (hx : rightIt x = true) : ∀ {s : List It} {k : Nat}, GoodI s → k ≤ s.length → (∀ j, j < k → ltI (itAt s j) x = true) → (k < s.length → ltI (itAt s k) x = false) →
    putI x s = if k < s.length ∧ ltI x (itAt s k) = false then s else s.take k ++ x :: s.drop k
  | [], k, _, hk, _, _ => by
    obtain rfl : k = 0 := by simpa using hk
    simp [putI]
  | y :: r, 0, g, _, _, hn => by
    have h := hn (by simp)
    have e0 : itAt (y :: r) 0 = y := rfl
    rw [e0] at h
    have hy : rightIt y = true := g y (by simp)
    have h1 : ¬ cmpI y x < 0 := fun h2 => by rw [(ltI_iff hy hx).2 h2] at h; cases h
    unfold putI
    rw [if_neg h1, e0]
    by_cases h3 : cmpI y x = 0
    · have e : y = x := (cmpI_zero hy hx).1 h3
      subst e
      rw [if_pos h3, if_pos ⟨by simp, h⟩]
    · rw [if_neg h3]
      have h4 : ltI x y = true := (ltI_iff hx hy).2 (by have := cmpI_neg hy hx; omega)
      rw [if_neg (by rw [h4]; simp)]
      rfl
  | y :: r, k + 1, g, hk, hl, hn => by
    have e1 : ∀ j, itAt (y :: r) (j + 1) = itAt r j := fun j => by simp [itAt, List.getD]
    have h0 := hl 0 (by omega)
    have e0 : itAt (y :: r) 0 = y := rfl
    rw [e0] at h0
    have hy : rightIt y = true := g y (by simp)
    have ih := putI_spot hx (s := r) (k := k) (fun z hz => g z (List.mem_cons_of_mem _ hz)) (by simpa using hk) (fun j hj => by have := hl (j + 1) (by omega); rwa [e1] at this) (fun h => by have := hn (by simpa using h); rwa [e1] at this)
    unfold putI
    rw [if_pos ((ltI_iff hy hx).1 h0), ih, e1]
    by_cases hc : k < r.length ∧ ltI x (itAt r k) = false
    · rw [if_pos hc, if_pos ⟨by simpa using hc.1, hc.2⟩]
    · rw [if_neg hc, if_neg (fun h => hc ⟨by simpa using h.1, h.2⟩)]
      rfl
/-- What putItem comes to. -/
def PutsI (a : Option Addr) (s : List It) (w : World) (e : Ending) (w' : World) : Prop :=
  ∃ a' c', e = .returned (.slice a' s.length c') ∧ Its w' a' c' s ∧ Kept (fun g => a = some ⟨g, 0, none⟩) w w' ∧ ∀ g, a' = some ⟨g, 0, none⟩ → a = some ⟨g, 0, none⟩ ∨ w.heap.size ≤ g
theorem run_copy_row2 {P : Program} (w : World) (dT sT ty elem : TypeId) (g o dLen dCap : Nat) (a : Addr) (sLen sCap : Nat) (cur : Array Value) (t : TypeId) (cs : List Value)
    (hu : P.underlying dT = some (.slice elem)) (hs : (P.info? elem).map (·.size) = some 2)
    (hg : w.heap[g]? = some (.cells cur t (0, 0))) (hn : cs.length = Nat.min sLen dLen * 2)
    (hsrc : ∀ j v, cs[j]? = some v → w.cell? (a.add j) = some v) (hfit : o + cs.length ≤ cur.size) (h1 : ∀ v ∈ cs, v.oneCell' = true) :
    (Builtin.copy_ #[dT, sT] ty #[.slice (some ⟨g, o, none⟩) dLen dCap, .slice (some a) sLen sCap]).run P w =
      .ok (goInt (Nat.min sLen dLen)) (w.setRow g (cur.toList.take o ++ cs ++ cur.toList.drop (o + cs.length)).toArray) := by
  have hl := run_loadCells_list (P := P) w a cs hsrc
  have hst := run_storeCells_at P g o t cs 0 cur w hg (by simpa using hfit) h1
  cases hq : P.info? elem with
  | none => simp [hq] at hs
  | some i =>
    have hi : i.size = 2 := by simpa [hq] using hs
    simp [Builtin.copy_, run_underlying hu, Builtin.lenOf, Builtin.firstCells, sizeOf, typeInfo, hq, hi, ← hn, hl, hst]
theorem run_copy_zero2 {P : Program} (w : World) (dT sT ty elem : TypeId) (d a : Option Addr) (dLen dCap sLen sCap : Nat) (hu : P.underlying dT = some (.slice elem)) (hs : (P.info? elem).map (·.size) = some 2) (hn : Nat.min sLen dLen = 0) :
    (Builtin.copy_ #[dT, sT] ty #[.slice d dLen dCap, .slice a sLen sCap]).run P w = .ok (goInt 0) w := by
  cases hq : P.info? elem with
  | none => simp [hq] at hs
  | some i =>
    have hl : ∀ (x : Addr), (loadCells x 0).run P w = .ok #[] w := fun x => by simpa using run_loadCells_list (P := P) w x [] (by simp)
    cases d <;> cases a <;> simp [Builtin.copy_, run_underlying hu, Builtin.lenOf, Builtin.firstCells, sizeOf, typeInfo, hq, hn, storeCells, hl]
theorem wp_copyI {P : Program} (w : World) {o : Oper} {act : Act} {K : Act → World → Prop} {Q : Exit → Act → World → Prop} (d s : Operand) (t t' : TypeId)
    (ho : o.op = .call { callee := .builtin .copy, args := #[d, s], argTypes := #[t, t'] }) (v u : Value) (hd : act.eval d = v) (hs : act.eval s = u) {v' : Value} {w' : World}
    (hr : (Builtin.copy_ #[t, t'] o.type #[v, u]).run P w = .ok v' w') (h : K (act.put o.dst v') w') : o.wp P act w K Q := by
  unfold Oper.wp execOp
  simp only [ho, resolve, invoke, builtin, Sem.run_bind, Sem.run_pure, Result.andThen_ok, List.map_toArray, List.map_cons, List.map_nil, hd, hs, hr]
  exact h
/-- The row with what stands from place p on moved up by one. -/
def movedI (L : List Value) (n p : Nat) : List Value := L.take ((p + 1) * 2) ++ (L.drop (p * 2)).take ((n - p) * 2)
theorem moved_len {L : List Value} {n p : Nat} (hL : L.length = (n + 1) * 2) (hp : p ≤ n) : (movedI L n p).length = (n + 1) * 2 := by
  unfold movedI
  rw [List.length_append, List.length_take, List.length_take, List.length_drop, hL]; omega
theorem moved_set {A B Z : List Value} {n p : Nat} (hA : A.length = p * 2) (hB : B.length = (n - p) * 2) (hZ : Z.length = 2) (u v : Value) :
    ((movedI (A ++ B ++ Z) n p).set (p * 2) u).set (p * 2 + 1) v = A ++ [u, v] ++ B := by
  have e1 : (A ++ B ++ Z).drop (p * 2) = B ++ Z := by
    rw [List.append_assoc, ← hA, List.drop_left]
  have e2 : (B ++ Z).take ((n - p) * 2) = B := by rw [← hB, List.take_left]
  have e3 : (A ++ B ++ Z).take ((p + 1) * 2) = A ++ (B ++ Z).take 2 := by
    rw [List.append_assoc, List.take_append, hA, show (p + 1) * 2 - p * 2 = 2 by omega, List.take_of_length_le (by omega)]
  unfold movedI
  rw [e1, e2, e3]
  have hl : ((B ++ Z).take 2).length = 2 := by rw [List.length_take, List.length_append]; omega
  generalize (B ++ Z).take 2 = q at hl
  match q, hl with
  | [y, z], _ =>
    rw [List.append_assoc, List.set_append_right _ _ (by omega), hA, Nat.sub_self, List.cons_append, List.set_cons_zero, List.set_append_right _ _ (by omega), hA, show p * 2 + 1 - p * 2 = 1 by omega]
    simp
theorem row_put {w : World} {g c n p : Nat} {ls : List Ib} {x : It} {b : Option Addr} {d : Nat} (R : RowI w (some ⟨g, 0, none⟩) c (n + 1) (movedI (iflat ls ++ [.int .i64 0, .slice none 0 0]) n p)) (hn : ls.length = n) (hp : p ≤ n) :
    RowI ((w.setCell ⟨g, p * 2, none⟩ (.int .i64 x.j)).setCell ⟨g, p * 2 + 1, none⟩ (.slice b x.c.length d)) (some ⟨g, 0, none⟩) c (n + 1) (iflat (ls.take p ++ ⟨b, d, x⟩ :: ls.drop p)) := by
  have hA : (iflat (ls.take p)).length = p * 2 := by rw [iflat_len, List.length_take]; omega
  have hB : (iflat (ls.drop p)).length = (n - p) * 2 := by rw [iflat_len, List.length_drop, hn]
  have hs := moved_set (Z := [.int .i64 0, .slice none 0 0]) hA hB rfl (.int .i64 x.j) (.slice b x.c.length d)
  rw [← iflat_app, List.take_append_drop] at hs
  have hf : iflat (ls.take p ++ ⟨b, d, x⟩ :: ls.drop p) = iflat (ls.take p) ++ [.int .i64 x.j, .slice b x.c.length d] ++ iflat (ls.drop p) := by
    rw [iflat_app, List.append_assoc]; rfl
  have hl : (iflat (ls.take p ++ ⟨b, d, x⟩ :: ls.drop p)).length = (n + 1) * 2 := by
    rw [hf, List.length_append, List.length_append, hA, hB]
    show p * 2 + 2 + _ = _
    omega
  obtain ⟨h0, R2⟩ := R
  rcases R2 with ⟨e, _⟩ | ⟨g', sp, e, k1, k2, k3, l⟩
  · cases e
  · injection e with e; injection e with e; subst e
    refine ⟨hl, .inr ⟨g, sp, rfl, by rw [hl, ← h0]; exact k1, k2, k3, ?_⟩⟩
    refine ((l.set (p * 2) (.int .i64 x.j)).set (p * 2 + 1) (.slice b x.c.length d)).to ?_
    rw [List.set_append_left _ _ (by omega), List.set_append_left _ _ (by rw [List.length_set]; omega), hs, hf]
theorem RowI.slot {w : World} {g c n : Nat} {xs : List Value} (R : RowI w (some ⟨g, 0, none⟩) c n xs) {j : Nat} (hj : j < n * 2) : (∃ v, w.cell? ⟨g, j, none⟩ = some v) ∧ w.frozen? ⟨g, j, none⟩ = false := by
  have h0 := R.1
  have hj2 : j < xs.length := by omega
  obtain ⟨g', e, h⟩ := R.cell (j := j) (u := xs[j]) (List.getElem?_eq_getElem hj2)
  injection e with e; injection e with e; subst e
  refine ⟨⟨_, h⟩, ?_⟩
  rcases R.2 with ⟨e, _⟩ | ⟨g', sp, e, _, _, _, l⟩
  · cases e
  · injection e with e; injection e with e; subst e
    exact l.frozen j
theorem step_copyI {ops : Array Oper} {o : Oper} {act : Act} {w : World} {K : Act → World → Prop} {Q : Exit → Act → World → Prop} {E : Prop} (hgd : o.guard = none) (d s : Operand)
    (ho : o.op = .call { callee := .builtin .copy, args := #[d, s], argTypes := #[28, 28] }) {g c n p : Nat} {L : List Value} (R : RowI w (some ⟨g, 0, none⟩) c (n + 1) L) (h1 : ∀ v ∈ L, v.oneCell' = true) (hp : p ≤ n)
    (dp : Option Addr) (dLen dCap sLen sCap : Nat) (hd : act.eval d = .slice dp dLen dCap) (hs : act.eval s = .slice (some ⟨g, p * 2, none⟩) sLen sCap) (hdl : dLen = n - p) (hsl : sLen = n + 1 - p) (hdp : p < n → dp = some ⟨g, (p + 1) * 2, none⟩)
    (h : ∀ w', Hid (RowI w' (some ⟨g, 0, none⟩) c (n + 1) (movedI L n p)) → Hid (Kept (fun k => k = g) w w') → K (act.put o.dst (goInt ((n - p : Nat) : Int))) w') :
    if Region.wanted o (yielded ops act.tmps) = true then Oper.wp Try.prog o act w K Q else E := by
  have hw : Region.wanted o (yielded ops act.tmps) = true := by simp [Region.wanted, hgd]
  rw [if_pos hw]
  subst hdl hsl
  obtain ⟨i, hi, hz, hsz, hby⟩ := info_parts Try.infoItem
  have hu : Try.prog.underlying 28 = some (.slice 75) := Try.underlying28
  have hL : L.length = (n + 1) * 2 := R.1
  by_cases hpn : p < n
  · have hdp := hdp hpn
    subst hdp
    obtain ⟨_, R2⟩ := R
    rcases R2 with ⟨e, _⟩ | ⟨g', sp, e, k1, k2, k3, l⟩
    · cases e
    · injection e with e; injection e with e; subst e
      have hcl : ((L.drop (p * 2)).take ((n - p) * 2)).length = (n - p) * 2 := by rw [List.length_take, List.length_drop]; omega
      have hmin : Nat.min (n + 1 - p) (n - p) = n - p := Nat.min_eq_right (by omega)
      have hr := run_copy_row2 (P := Try.prog) w 28 28 o.type 75 g ((p + 1) * 2) (n - p) dCap ⟨g, p * 2, none⟩ (n + 1 - p) sCap (L ++ sp).toArray 75 ((L.drop (p * 2)).take ((n - p) * 2)) hu (by rw [hi]; simp [hsz]) l
        (by rw [hcl, hmin]) (fun j v hj => by
          rw [Addr.add_lit, l.cell]
          have hj2 : j < (n - p) * 2 := by
            have := (List.getElem?_eq_some_iff.1 hj).1
            omega
          rw [List.getElem?_take, if_pos hj2, List.getElem?_drop] at hj
          rw [List.getElem?_append_left (by omega)]
          exact hj) (by simp only [List.size_toArray, List.length_append]; omega) (fun v hv => h1 v (List.mem_of_mem_drop (List.mem_of_mem_take hv)))
      rw [hmin] at hr
      refine wp_copyI w d s 28 28 ho _ _ hd hs hr (h _ ?_ ?_)
      rotate_left
      · exact Lib.hid ⟨rfl, rfl, rfl, by simp [World.setRow], fun k hk hx => setRow_other w g k _ hx⟩
      refine Lib.hid ⟨moved_len hL hp, .inr ⟨g, sp, rfl, by rw [moved_len hL hp, ← hL]; exact k1, k2, k3, ?_⟩⟩
      have e : (L ++ sp).toArray.toList.take ((p + 1) * 2) ++ (L.drop (p * 2)).take ((n - p) * 2) ++ (L ++ sp).toArray.toList.drop ((p + 1) * 2 + ((L.drop (p * 2)).take ((n - p) * 2)).length) = movedI L n p ++ sp := by
        rw [hcl]
        unfold movedI
        have e1 : (L ++ sp).toArray.toList = L ++ sp := rfl
        rw [e1, List.take_append_of_le_length (by omega), show (p + 1) * 2 + (n - p) * 2 = L.length by omega, List.drop_left]
      rw [e]
      exact setRow_heap w g _ _ _ _ l
  · obtain rfl : p = n := by omega
    have e : movedI L p p = L := by
      unfold movedI
      rw [← hL, List.take_length]; simp
    have hr := run_copy_zero2 (P := Try.prog) w 28 28 o.type 75 dp (some ⟨g, p * 2, none⟩) (p - p) dCap (p + 1 - p) sCap hu (by rw [hi]; simp [hsz]) (by rw [Nat.sub_self]; exact Nat.min_zero _)
    refine wp_copyI w d s 28 28 ho _ _ hd hs hr ?_
    have h2 := h w (Lib.hid (by rw [e]; exact R)) (Lib.hid (Kept.refl _ _))
    rw [Nat.sub_self] at h2
    exact h2
set_option maxRecDepth 100000 in
set_option maxHeartbeats 4000000 in
theorem putItem_any (a : Option Addr) (c : Nat) (s : List It) (x : It) (b : Option Addr) (u d : Nat) (w : World) (R : Its w a c s) (hs : RiseI s) (hx : rightIt x = true) (S : Bag w b d x.c) (hu : x.c.length = u) (hb : s.length ≤ 100000000000) :
    Calls Try.prog 42 #[.slice a s.length c, .agg #[.int .i64 x.j, .slice b u d]] w (PutsI a (putI x s) w) := by
  have hle := R.le
  have hbl := S.le
  rw [hu] at hbl
  have HRI := Lib.hid hs
  have HXR := Lib.hid hx
  have b1 := below_alloc w (.cells #[.int .i64 x.j, .slice b u d] 75)
  have HB := Lib.hid b1
  have HX := Lib.hid (Lies.new w 75 [.int .i64 x.j, .slice b u d])
  have HR := Lib.hid (R.below b1)
  have HS := Lib.hid (S.below b1)
  have HR0 := Lib.hid R
  have HS0 := Lib.hid S
  have HU := Lib.hid hu
  generalize hn : s.length = n at hle hb ⊢
  have HN := Lib.hid hn
  generalize hjx : x.j = jx at HB HX HR HS ⊢
  have HXJ := Lib.hid hjx
  clear R S hs hx hu b1 hn hjx
  go_enter Try.func42, Try.ntmps42
  go_upto_region 1 with (fail)
  generalize hW : w.alloc (.cells #[.int .i64 jx, .slice b u d] 75) = W0 at HB HX HR HS ⊢
  generalize hgb : w.heap.size = gb at HX ⊢
  have HW := Lib.hid hW
  have HB0 := HB
  have HG := Lib.hid hgb
  clear hW hgb
  go_wp2
  go_loopw [5, 6] (fun lo hi wr => ∃ p q : Nat, p ≤ q ∧ q ≤ n ∧ lo = .int .i64 p ∧ hi = .int .i64 q ∧ Hid (Below W0.heap.size W0 wr) ∧ Hid (∀ j, j < p → ltI (itAt s j) x = true) ∧ Hid (q < n → ltI (itAt s q) x = false)) (fun lo hi _ => (intOf hi - intOf lo).toNat)
  case atStart => exact ⟨0, n, Nat.zero_le _, Nat.le_refl _, rfl, rfl, Lib.hid (Below.refl _ _), Lib.hid (fun j h => by omega), Lib.hid (fun h => by omega)⟩
  case round =>
    obtain ⟨p, q, hpq, hq, rfl, rfl, HB2, HL, HQ⟩ := hrel
    have HRW := Lib.hid (HR.out.below HB2.out)
    have HSW := Lib.hid (HS.out.below HB2.out)
    have HXW := Lib.hid (HX.out.below HB2.out HX.out.lt)
    by_cases hlt : p < q
    · obtain ⟨m, hm⟩ : ∃ m, m = (p + q) / 2 := ⟨_, rfl⟩
      have hmp : p ≤ m := by omega
      have hmq : m < q := by omega
      obtain ⟨g, b2, d2, e1, c0, c1, B2⟩ := HRW.out.at (k := m) (by rw [HN.out]; omega)
      subst e1
      have hbl2 := B2.le
      generalize hu2 : (itAt s m).c.length = u2 at c1 hbl2
      have ltg := HRW.out.lt rfl
      have k0 := HXW.out.cell 0
      have k1 := HXW.out.cell 1
      simp only [List.getElem?_cons_zero, List.getElem?_cons_succ] at k0 k1
      have ltb := HXW.out.lt
      have ZL : Hid (∀ V, Below wr.heap.size wr V → Calls Try.prog 48 #[.agg #[.int .i64 (itAt s m).j, .slice b2 u2 d2], .agg #[.int .i64 jx, .slice b u d]] V (TellsB (ltI (itAt s m) x) V)) := Lib.hid (fun V h => by
        have Z := lessItem_any b2 b d2 d u2 u (itAt s m) x V hu2 HU.out (B2.below h) (HSW.out.below h)
        rwa [HXJ.out] at Z)
      clear B2 hu2
      generalize (itAt s m).j = j2 at c0 ZL
      generalize hv : ltI (itAt s m) x = v at ZL
      have HV := Lib.hid hv
      clear hv
      have hmm : ((p : Int) + (q : Int)) / 2 = (m : Int) := by omega
      go_upto_region 4 with (fail)
      rw [hmm]
      clear hmm hm
      have bd : Below wr.heap.size wr wr.drew := ⟨rfl, rfl, rfl, Nat.le_refl _, fun _ _ => rfl⟩
      have i1 : (0 : Int) ≤ (m : Int) := by omega
      have i2 : (m : Int) < (n : Int) := by omega
      have HB := HB2
      generalize wr = W at *
      cases v with
      | true =>
        have HL2 : Hid (∀ j, j < m + 1 → ltI (itAt s j) x = true) := Lib.hid (fun j hj => less_up HRI.out HXR.out (by omega) (by rw [HN.out]; omega) HV.out)
        refine wp_region_held_drew (S := fun w' => Below W.heap.size W w') (by kernel_rfl) bd (fun hHeld => ?_)
        clear hHeld
        refine tkY 0 rgTh0 (v := ?_) rfl bd ?_ ?_
        rotate_left
        · intro w hSw
          simp only [rgTh0]; go_simp
          try with_reducible rfl
        try simp only [rgTh0, Act.put, pA, pB, pC]
        refine tkY 1 rgTh1 (v := ?_) rfl bd ?_ ?_
        rotate_left
        · intro w hSw
          simp only [rgTh1]; go_simp
          try with_reducible rfl
        try simp only [rgTh1, Act.put, pA, pB, pC]
        refine tkY 2 rgTh2 (v := ?_) rfl bd ?_ ?_
        rotate_left
        · intro w hSw
          simp only [rgTh2]; go_simp
          try with_reducible rfl
        try simp only [rgTh2, Act.put, pA, pB, pC]
        refine tkY 3 rgTh3 (v := ?_) rfl bd ?_ ?_
        rotate_left
        · intro w hSw
          have f1 := (hSw.cell (p := ⟨gb, 0, none⟩) ltb).trans k0
          have f2 := (hSw.cell (p := ⟨gb, 1, none⟩) ltb).trans k1
          have f3 := (hSw.cell (p := ⟨g, m * 2, none⟩) ltg).trans c0
          have f4 := (hSw.cell (p := ⟨g, m * 2 + 1, none⟩) ltg).trans c1
          simp only [rgTh3]; go_simp
          try with_reducible rfl
        try simp only [rgTh3, Act.put, pA, pB, pC]
        refine tkY 4 rgTh4 (v := ?_) rfl bd ?_ ?_
        rotate_left
        · intro w hSw
          have f1 := (hSw.cell (p := ⟨gb, 0, none⟩) ltb).trans k0
          have f2 := (hSw.cell (p := ⟨gb, 1, none⟩) ltb).trans k1
          have f3 := (hSw.cell (p := ⟨g, m * 2, none⟩) ltg).trans c0
          have f4 := (hSw.cell (p := ⟨g, m * 2 + 1, none⟩) ltg).trans c1
          simp only [rgTh4]; go_simp
          try with_reducible rfl
        try simp only [rgTh4, Act.put, pA, pB, pC]
        refine wpAnyH_ready (rs := [5]) (by kernel_rfl) (by simp) ?_
        refine AllReadyH.cons (o := rgTh5) rfl (fun K hK => ?_) AllReadyH.nil
        simp only [rgTh5]; go_simp
        refine (ZL.out _ bd).mono ?_
        rintro e V1 ⟨rfl, d1⟩
        have b1 : Below W.heap.size W V1 := bd.trans (d1.mono bd.size)
        go_wp2_with (fail)
        refine hK.out _ _ b1 (fun hHeld => ?_)
        clear hK K hHeld
        try simp only [rgTh5, Act.put, pA, pB, pC]
        refine wpAnyH_done (by kernel_rfl) ?_ _
        have HB3 := Lib.hid (HB.out.trans (b1.mono HB.out.size))
        clear ltb ltg bd ZL k0 k1 c0 c1
        go_wp2
        go_roundw
        case rel => exact ⟨m + 1, q, by omega, hq, by go_num, rfl, HB3, HL2, HQ⟩
        case measure => simp [intOf]; omega
      | false =>
        have HQ2 : Hid (m < n → ltI (itAt s m) x = false) := Lib.hid (fun _ => HV.out)
        refine wp_region_held_drew (S := fun w' => Below W.heap.size W w') (by kernel_rfl) bd (fun hHeld => ?_)
        clear hHeld
        refine tkY 0 rgTh0 (v := ?_) rfl bd ?_ ?_
        rotate_left
        · intro w hSw
          simp only [rgTh0]; go_simp
          try with_reducible rfl
        try simp only [rgTh0, Act.put, pA, pB, pC]
        refine tkY 1 rgTh1 (v := ?_) rfl bd ?_ ?_
        rotate_left
        · intro w hSw
          simp only [rgTh1]; go_simp
          try with_reducible rfl
        try simp only [rgTh1, Act.put, pA, pB, pC]
        refine tkY 2 rgTh2 (v := ?_) rfl bd ?_ ?_
        rotate_left
        · intro w hSw
          simp only [rgTh2]; go_simp
          try with_reducible rfl
        try simp only [rgTh2, Act.put, pA, pB, pC]
        refine tkY 3 rgTh3 (v := ?_) rfl bd ?_ ?_
        rotate_left
        · intro w hSw
          have f1 := (hSw.cell (p := ⟨gb, 0, none⟩) ltb).trans k0
          have f2 := (hSw.cell (p := ⟨gb, 1, none⟩) ltb).trans k1
          have f3 := (hSw.cell (p := ⟨g, m * 2, none⟩) ltg).trans c0
          have f4 := (hSw.cell (p := ⟨g, m * 2 + 1, none⟩) ltg).trans c1
          simp only [rgTh3]; go_simp
          try with_reducible rfl
        try simp only [rgTh3, Act.put, pA, pB, pC]
        refine tkY 4 rgTh4 (v := ?_) rfl bd ?_ ?_
        rotate_left
        · intro w hSw
          have f1 := (hSw.cell (p := ⟨gb, 0, none⟩) ltb).trans k0
          have f2 := (hSw.cell (p := ⟨gb, 1, none⟩) ltb).trans k1
          have f3 := (hSw.cell (p := ⟨g, m * 2, none⟩) ltg).trans c0
          have f4 := (hSw.cell (p := ⟨g, m * 2 + 1, none⟩) ltg).trans c1
          simp only [rgTh4]; go_simp
          try with_reducible rfl
        try simp only [rgTh4, Act.put, pA, pB, pC]
        refine wpAnyH_ready (rs := [5]) (by kernel_rfl) (by simp) ?_
        refine AllReadyH.cons (o := rgTh5) rfl (fun K hK => ?_) AllReadyH.nil
        simp only [rgTh5]; go_simp
        refine (ZL.out _ bd).mono ?_
        rintro e V1 ⟨rfl, d1⟩
        have b1 : Below W.heap.size W V1 := bd.trans (d1.mono bd.size)
        go_wp2_with (fail)
        refine hK.out _ _ b1 (fun hHeld => ?_)
        clear hK K hHeld
        try simp only [rgTh5, Act.put, pA, pB, pC]
        refine wpAnyH_done (by kernel_rfl) ?_ _
        have HB3 := Lib.hid (HB.out.trans (b1.mono HB.out.size))
        clear ltb ltg bd ZL k0 k1 c0 c1
        go_wp2
        go_roundw
        case rel => exact ⟨p, m, by omega, by omega, rfl, rfl, HB3, HL, HQ2⟩
        case measure => simp [intOf]; omega
    · obtain rfl : p = q := by omega
      have bd : Below wr.heap.size wr wr.drew := ⟨rfl, rfl, rfl, Nat.le_refl _, fun _ _ => rfl⟩
      have HSP := Lib.hid (putI_spot HXR.out (s := s) (k := p) HRI.out.1 (by rw [HN.out]; exact hq) HL.out (by rw [HN.out]; exact HQ.out))
      clear HB
      have HB := HB2
      clear HB2
      by_cases hpn : p < n
      · obtain ⟨g, b2, d2, e1, c0, c1, B2⟩ := HRW.out.at (k := p) (by rw [HN.out]; exact hpn)
        subst e1
        have hbl2 := B2.le
        generalize hu2 : (itAt s p).c.length = u2 at c1 hbl2
        have ltg := HRW.out.lt rfl
        have k0 := HXW.out.cell 0
        have k1 := HXW.out.cell 1
        simp only [List.getElem?_cons_zero, List.getElem?_cons_succ] at k0 k1
        have ltb := HXW.out.lt
        have ZL : Hid (∀ V, Below wr.heap.size wr V → Calls Try.prog 48 #[.agg #[.int .i64 jx, .slice b u d], .agg #[.int .i64 (itAt s p).j, .slice b2 u2 d2]] V (TellsB (ltI x (itAt s p)) V)) := Lib.hid (fun V h => by
          have Z := lessItem_any b b2 d d2 u u2 x (itAt s p) V HU.out hu2 (HSW.out.below h) (B2.below h)
          rwa [HXJ.out] at Z)
        clear B2 hu2
        generalize (itAt s p).j = j2 at c0 ZL
        generalize hv : ltI x (itAt s p) = v at ZL HSP
        have HV := Lib.hid hv
        clear hv
        have i1 : (0 : Int) ≤ (p : Int) := by omega
        have i2 : (p : Int) < (n : Int) := by omega
        go_upto_region 7 with (fail)
        generalize wr = W at *
        cases v with
        | false =>
          have E : Hid (putI x s = s) := Lib.hid (by rw [HSP.out, if_pos ⟨by rw [HN.out]; exact hpn, rfl⟩])
          refine wp_region_held_drew (S := fun w' => Below W.heap.size W w') (by kernel_rfl) bd (fun hHeld => ?_)
          clear hHeld
          refine tkY 0 rgTh6 (v := ?_) rfl bd ?_ ?_
          rotate_left
          · intro w hSw
            simp only [rgTh6]; go_simp
            try with_reducible rfl
          try simp only [rgTh6, Act.put, pA, pB, pC]
          refine tkY 1 rgTh7 (v := ?_) rfl bd ?_ ?_
          rotate_left
          · intro w hSw
            simp only [rgTh7]; go_simp
            try with_reducible rfl
          try simp only [rgTh7, Act.put, pA, pB, pC]
          refine tkY 2 rgTh8 (v := ?_) rfl bd ?_ ?_
          rotate_left
          · intro w hSw
            simp only [rgTh8]; go_simp
            try with_reducible rfl
          try simp only [rgTh8, Act.put, pA, pB, pC]
          refine tkY 3 rgTh9 (v := ?_) rfl bd ?_ ?_
          rotate_left
          · intro w hSw
            simp only [rgTh9]; go_simp
            try with_reducible rfl
          try simp only [rgTh9, Act.put, pA, pB, pC]
          refine tkY 4 rgTh10 (v := ?_) rfl bd ?_ ?_
          rotate_left
          · intro w hSw
            simp only [rgTh10]; go_simp
            try with_reducible rfl
          try simp only [rgTh10, Act.put, pA, pB, pC]
          refine tkY 5 rgTh11 (v := ?_) rfl bd ?_ ?_
          rotate_left
          · intro w hSw
            have f1 := (hSw.cell (p := ⟨gb, 0, none⟩) ltb).trans k0
            have f2 := (hSw.cell (p := ⟨gb, 1, none⟩) ltb).trans k1
            have f3 := (hSw.cell (p := ⟨g, p * 2, none⟩) ltg).trans c0
            have f4 := (hSw.cell (p := ⟨g, p * 2 + 1, none⟩) ltg).trans c1
            simp only [rgTh11]; go_simp
            try with_reducible rfl
          try simp only [rgTh11, Act.put, pA, pB, pC]
          refine tkY 6 rgTh12 (v := ?_) rfl bd ?_ ?_
          rotate_left
          · intro w hSw
            simp only [rgTh12]; go_simp
            try with_reducible rfl
          try simp only [rgTh12, Act.put, pA, pB, pC]
          refine tkY 7 rgTh13 (v := ?_) rfl bd ?_ ?_
          rotate_left
          · intro w hSw
            simp only [rgTh13]; go_simp
            try with_reducible rfl
          try simp only [rgTh13, Act.put, pA, pB, pC]
          refine tkY 8 rgTh14 (v := ?_) rfl bd ?_ ?_
          rotate_left
          · intro w hSw
            simp only [rgTh14]; go_simp
            try with_reducible rfl
          try simp only [rgTh14, Act.put, pA, pB, pC]
          refine tkY 9 rgTh15 (v := ?_) rfl bd ?_ ?_
          rotate_left
          · intro w hSw
            have f1 := (hSw.cell (p := ⟨gb, 0, none⟩) ltb).trans k0
            have f2 := (hSw.cell (p := ⟨gb, 1, none⟩) ltb).trans k1
            have f3 := (hSw.cell (p := ⟨g, p * 2, none⟩) ltg).trans c0
            have f4 := (hSw.cell (p := ⟨g, p * 2 + 1, none⟩) ltg).trans c1
            simp only [rgTh15]; go_simp
            try with_reducible rfl
          try simp only [rgTh15, Act.put, pA, pB, pC]
          refine wpAnyH_ready (rs := [10]) (by kernel_rfl) (by simp) ?_
          refine AllReadyH.cons (o := rgTh16) rfl (fun K hK => ?_) AllReadyH.nil
          simp only [rgTh16]; go_simp
          refine (ZL.out _ bd).mono ?_
          rintro e V1 ⟨rfl, d1⟩
          have b1 : Below W.heap.size W V1 := bd.trans (d1.mono bd.size)
          go_wp2_with (fail)
          refine hK.out _ _ b1 (fun hHeld => ?_)
          clear hK K hHeld
          try simp only [rgTh16, Act.put, pA, pB, pC]
          refine tkY 11 rgTh17 (v := ?_) rfl b1 ?_ ?_
          rotate_left
          · intro w hSw
            simp only [rgTh17]; go_simp
            try with_reducible rfl
          try simp only [rgTh17, Act.put, pA, pB, pC]
          refine tkY 12 rgTh18 (v := ?_) rfl b1 ?_ ?_
          rotate_left
          · intro w hSw
            simp only [rgTh18]; go_simp
            try with_reducible rfl
          try simp only [rgTh18, Act.put, pA, pB, pC]
          refine wpAnyH_done (by kernel_rfl) ?_ _
          have HB3 := Lib.hid (HB.out.trans (b1.mono HB.out.size))
          have HR3 := Lib.hid (HR.out.below HB3.out)
          have HBF := Lib.hid ((HB0.out).trans (HB3.out.mono HB0.out.size))
          clear ltb ltg bd ZL k0 k1 c0 c1
          go_wp2
          go_ret
          rw [E.out]
          exact ⟨_, _, by rw [HN.out]; rfl, HR3.out, Kept.of_below HBF.out, fun g e => .inl e⟩
        | true =>
          have E : Hid (putI x s = s.take p ++ x :: s.drop p) := Lib.hid (by rw [HSP.out, if_neg (by simp)])
          refine wp_region_held_drew (S := fun w' => Below W.heap.size W w') (by kernel_rfl) bd (fun hHeld => ?_)
          clear hHeld
          refine tkY 0 rgTh6 (v := ?_) rfl bd ?_ ?_
          rotate_left
          · intro w hSw
            simp only [rgTh6]; go_simp
            try with_reducible rfl
          try simp only [rgTh6, Act.put, pA, pB, pC]
          refine tkY 1 rgTh7 (v := ?_) rfl bd ?_ ?_
          rotate_left
          · intro w hSw
            simp only [rgTh7]; go_simp
            try with_reducible rfl
          try simp only [rgTh7, Act.put, pA, pB, pC]
          refine tkY 2 rgTh8 (v := ?_) rfl bd ?_ ?_
          rotate_left
          · intro w hSw
            simp only [rgTh8]; go_simp
            try with_reducible rfl
          try simp only [rgTh8, Act.put, pA, pB, pC]
          refine tkY 3 rgTh9 (v := ?_) rfl bd ?_ ?_
          rotate_left
          · intro w hSw
            simp only [rgTh9]; go_simp
            try with_reducible rfl
          try simp only [rgTh9, Act.put, pA, pB, pC]
          refine tkY 4 rgTh10 (v := ?_) rfl bd ?_ ?_
          rotate_left
          · intro w hSw
            simp only [rgTh10]; go_simp
            try with_reducible rfl
          try simp only [rgTh10, Act.put, pA, pB, pC]
          refine tkY 5 rgTh11 (v := ?_) rfl bd ?_ ?_
          rotate_left
          · intro w hSw
            have f1 := (hSw.cell (p := ⟨gb, 0, none⟩) ltb).trans k0
            have f2 := (hSw.cell (p := ⟨gb, 1, none⟩) ltb).trans k1
            have f3 := (hSw.cell (p := ⟨g, p * 2, none⟩) ltg).trans c0
            have f4 := (hSw.cell (p := ⟨g, p * 2 + 1, none⟩) ltg).trans c1
            simp only [rgTh11]; go_simp
            try with_reducible rfl
          try simp only [rgTh11, Act.put, pA, pB, pC]
          refine tkY 6 rgTh12 (v := ?_) rfl bd ?_ ?_
          rotate_left
          · intro w hSw
            simp only [rgTh12]; go_simp
            try with_reducible rfl
          try simp only [rgTh12, Act.put, pA, pB, pC]
          refine tkY 7 rgTh13 (v := ?_) rfl bd ?_ ?_
          rotate_left
          · intro w hSw
            simp only [rgTh13]; go_simp
            try with_reducible rfl
          try simp only [rgTh13, Act.put, pA, pB, pC]
          refine tkY 8 rgTh14 (v := ?_) rfl bd ?_ ?_
          rotate_left
          · intro w hSw
            simp only [rgTh14]; go_simp
            try with_reducible rfl
          try simp only [rgTh14, Act.put, pA, pB, pC]
          refine tkY 9 rgTh15 (v := ?_) rfl bd ?_ ?_
          rotate_left
          · intro w hSw
            have f1 := (hSw.cell (p := ⟨gb, 0, none⟩) ltb).trans k0
            have f2 := (hSw.cell (p := ⟨gb, 1, none⟩) ltb).trans k1
            have f3 := (hSw.cell (p := ⟨g, p * 2, none⟩) ltg).trans c0
            have f4 := (hSw.cell (p := ⟨g, p * 2 + 1, none⟩) ltg).trans c1
            simp only [rgTh15]; go_simp
            try with_reducible rfl
          try simp only [rgTh15, Act.put, pA, pB, pC]
          refine wpAnyH_ready (rs := [10]) (by kernel_rfl) (by simp) ?_
          refine AllReadyH.cons (o := rgTh16) rfl (fun K hK => ?_) AllReadyH.nil
          simp only [rgTh16]; go_simp
          refine (ZL.out _ bd).mono ?_
          rintro e V1 ⟨rfl, d1⟩
          have b1 : Below W.heap.size W V1 := bd.trans (d1.mono bd.size)
          go_wp2_with (fail)
          refine hK.out _ _ b1 (fun hHeld => ?_)
          clear hK K hHeld
          try simp only [rgTh16, Act.put, pA, pB, pC]
          refine tkY 11 rgTh17 (v := ?_) rfl b1 ?_ ?_
          rotate_left
          · intro w hSw
            simp only [rgTh17]; go_simp
            try with_reducible rfl
          try simp only [rgTh17, Act.put, pA, pB, pC]
          refine tkY 12 rgTh18 (v := ?_) rfl b1 ?_ ?_
          rotate_left
          · intro w hSw
            simp only [rgTh18]; go_simp
            try with_reducible rfl
          try simp only [rgTh18, Act.put, pA, pB, pC]
          refine wpAnyH_done (by kernel_rfl) ?_ _
          have HB3 := Lib.hid (HB.out.trans (b1.mono HB.out.size))
          clear ltb ltg bd ZL k0 k1 c0 c1
          clear HRW HSW HXW HSP
          generalize V1 = V at *
          have HRV := Lib.hid (HR.out.below HB3.out)
          have HXV := Lib.hid (HX.out.below HB3.out HX.out.lt)
          obtain ⟨ls, hls, I0⟩ := HR0.out
          have hln : ls.length = n := by rw [← its_len, hls]; exact HN.out
          have HBV := Lib.hid (HB0.out.trans (HB3.out.mono HB0.out.size))
          have I := I0.below HBV.out
          have bz := below_alloc V (.cells #[.int .i64 0, .slice none 0 0] 75)
          have RR := I.row.below bz
          rw [hln] at RR
          have LZ := Lies.new V 75 [.int .i64 0, .slice none 0 0]
          obtain ⟨v4, w4, hr, a4, c4, e4, R4, K4, F4⟩ := run_appIt_at 28 28 Try.underlying28 _ c n (iflat ls) _ RR ⟨V.heap.size, 0, none⟩ 1 1 [.int .i64 0, .slice none 0 0] rfl (fun j y hj => by rw [Addr.add_lit, Nat.zero_add]; exact (LZ.cell j).trans hj) (by intro y hy; simp only [List.mem_cons, List.not_mem_nil, or_false] at hy; rcases hy with rfl | rfl <;> rfl) (by omega)
          subst e4
          obtain ⟨g4, e4⟩ : ∃ g4, a4 = some ⟨g4, 0, none⟩ := by
            rcases R4.2 with ⟨_, _, h⟩ | ⟨g, _, h, _⟩
            · omega
            · exact ⟨g, h⟩
          subst e4
          have HGB := HX.out.lt
          have hbz := bz.size
          have hbv := HBV.out.size
          have hb3 := HB3.out.size
          have HF4 : Hid ((some ⟨g, 0, none⟩ : Option Addr) = some ⟨g4, 0, none⟩ ∨ V.heap.size < g4) := Lib.hid ((F4 g4 rfl).imp id (fun h => by
            have : (V.alloc (.cells #[.int .i64 0, .slice none 0 0] 75)).heap.size = V.heap.size + 1 := by simp
            omega))
          have HK4 : Hid (Kept (fun gx => (some ⟨g, 0, none⟩ : Option Addr) = some ⟨gx, 0, none⟩) w w4) := Lib.hid ((Kept.of_below (X := fun gx => (some ⟨g, 0, none⟩ : Option Addr) = some ⟨gx, 0, none⟩) (HBV.out.trans (bz.mono hbv))).trans K4 (fun i _ h => h))
          have HR4 := Lib.hid R4
          have hne : gb ≠ g4 := by
            rcases HF4.out with h | h
            · have := HR0.out.lt h
              have := HG.out
              omega
            · omega
          have HX4 : Hid (Lies w4 gb 75 [.int .i64 jx, .slice b u d]) := Lib.hid ((HXV.out.below bz (by omega)).kept K4 (fun h => by
            have := HR0.out.lt h
            have := HG.out
            omega))
          have hc4 := R4.le
          have HI := Lib.hid I0
          have HLS := Lib.hid hls
          have HLN := Lib.hid hln
          have HO4 : Hid (∀ y ∈ iflat ls ++ [.int .i64 0, .slice none 0 0], y.oneCell' = true) := Lib.hid (fun y hy => by
            rcases List.mem_append.1 hy with hy | hy
            · exact iflat_one ls y hy
            · simp only [List.mem_cons, List.not_mem_nil, or_false] at hy
              rcases hy with rfl | rfl <;> rfl)
          clear bz RR LZ F4 K4 R4 I I0 hls hln HRV HXV hbz
          go_upto_region 10 with (at_builtin; refine Lib.wpList_append_run _ rfl _ _ _ _ rfl _ _ rfl rfl _ _ hr ?_)
          clear hr
          have i3 : (0 : Int) ≤ (p : Int) := by omega
          have q1 : IntKind.i64.wrap ((p : Int) + 1) = (p : Int) + 1 := IntWalk.i64_in _ (by omega)
          have q2 : ((p : Int) + 1).toNat = p + 1 := by omega
          have q3 : (0 : Int) ≤ (p : Int) + 1 := by omega
          have q4 : (p : Int) + 1 ≤ (n : Int) + 1 := by omega
          have q5 : (p : Int) ≤ (n : Int) + 1 := by omega
          have q6 : ¬ c4 = p := by omega
          by_cases hpc : c4 = p + 1
          · exfalso; omega
          · skip
            refine wp_region_held_drew (S := fun _ => True) (by kernel_rfl) trivial (fun hHeld => ?_)
            clear hHeld
            refine tkY 0 rgTh19 (v := ?_) rfl trivial ?_ ?_
            rotate_left
            · intro w hSw
              simp only [rgTh19]; go_simp
              try with_reducible rfl
            try simp only [rgTh19, Act.put, pA, pB, pC]
            refine tkY 1 rgTh20 (v := ?_) rfl trivial ?_ ?_
            rotate_left
            · intro w hSw
              simp only [rgTh20]; go_simp
              try with_reducible rfl
            try simp only [rgTh20, Act.put, pA, pB, pC]
            refine tkY 2 rgTh21 (v := ?_) rfl trivial ?_ ?_
            rotate_left
            · intro w hSw
              simp only [rgTh21]; go_simp
              try with_reducible rfl
            try simp only [rgTh21, Act.put, pA, pB, pC]
            refine tkY 3 rgTh22 (v := ?_) rfl trivial ?_ ?_
            rotate_left
            · intro w hSw
              simp only [rgTh22]; go_simp
              try with_reducible rfl
            try simp only [rgTh22, Act.put, pA, pB, pC]
            refine tkY 4 rgTh23 (v := ?_) rfl trivial ?_ ?_
            rotate_left
            · intro w hSw
              simp only [rgTh23]; go_simp
              try with_reducible rfl
            try simp only [rgTh23, Act.put, pA, pB, pC]
            refine tkY 5 rgTh24 (v := ?_) rfl trivial ?_ ?_
            rotate_left
            · intro w hSw
              simp only [rgTh24]; go_simp
              try with_reducible rfl
            try simp only [rgTh24, Act.put, pA, pB, pC]
            refine tkY 6 rgTh25 (v := ?_) rfl trivial ?_ ?_
            rotate_left
            · intro w hSw
              simp only [rgTh25]; go_simp
              try with_reducible rfl
            try simp only [rgTh25, Act.put, pA, pB, pC]
            refine wpAnyH_ready (rs := [7]) (by kernel_rfl) (by simp) ?_
            refine AllReadyH.cons (o := rgTh26) rfl (fun K hK => ?_) AllReadyH.nil
            refine step_copyI rfl (.tmp 47) (.tmp 50) rfl (HR4.out.kept (X := fun _ => False) (Kept.refl _ _).drew (fun _ _ h => h)) HO4.out hq _ _ _ _ _ rfl rfl (by omega) (by omega) (fun h => rfl) ?_
            intro w5 R5 K5
            refine hK.out _ _ trivial (fun hHeld => ?_)
            clear hK K hHeld
            try simp only [rgTh26, Act.put, pA, pB, pC]
            refine wpAnyH_done (by kernel_rfl) ?_ _
            have K45 : Kept (fun k => k = g4) w4 w5 := (Kept.refl (fun k => k = g4) w4).drew.trans K5.out (fun i _ h => h)
            have HK5 : Hid (Kept (fun gx => (some ⟨g, 0, none⟩ : Option Addr) = some ⟨gx, 0, none⟩) w w5) := Lib.hid (HK4.out.trans K45 (fun i hi h => by
              subst h
              rcases HF4.out with h2 | h2
              · exact h2
              · have := HBV.out.size; omega))
            have HX5 := Lib.hid (HX4.out.kept K45 (fun h => hne h))
            clear K5 K45 HX4
            have s1 := HX5.out.cell 0
            have s2 := HX5.out.cell 1
            simp only [List.getElem?_cons_zero, List.getElem?_cons_succ] at s1 s2
            obtain ⟨⟨v0, r0⟩, z0⟩ := R5.out.slot (j := p * 2) (by omega)
            obtain ⟨⟨v1, r1⟩, z1⟩ := R5.out.slot (j := p * 2 + 1) (by omega)
            have q7 : (p : Int) < (n : Int) + 1 := by omega
            go_wp2
            go_ret
            try subst hpc
            have hput := row_put (x := x) (b := b) (d := d) R5.out HLN.out hq
            rw [HXJ.out, HU.out] at hput
            have hX : g4 < w.heap.size → (some ⟨g, 0, none⟩ : Option Addr) = some ⟨g4, 0, none⟩ := fun h => by
              rcases HF4.out with h2 | h2
              · exact h2
              · have := HBV.out.size; omega
            have hk := (HK5.out.setCell (p := ⟨g4, p * 2, none⟩) hX (.int .i64 jx)).setCell (p := ⟨g4, p * 2 + 1, none⟩) hX (.slice b u d)
            have hI := HI.out
            rw [← HLN.out] at hput
            have hit := its_set hI HS0.out hk p hput
            rw [HLS.out] at hit
            have hlen : (s.take p ++ x :: s.drop p).length = n + 1 := by
              rw [List.length_append, List.length_cons, List.length_take, List.length_drop, HN.out]; omega
            rw [E.out]
            exact ⟨some ⟨g4, 0, none⟩, _, by rw [hlen]; rfl, hit, hk, fun gx e => by
              injection e with e; injection e with e; subst e
              rcases HF4.out with h2 | h2
              · exact .inl h2
              · have := HBV.out.size; exact .inr (by omega)⟩
      · have hpn2 : ¬ (p : Int) < (n : Int) := by omega
        have E : Hid (putI x s = s.take p ++ x :: s.drop p) := Lib.hid (by rw [HSP.out, if_neg (by rw [HN.out]; omega)])
        go_upto_region 7 with (fail)
        generalize wr = W at *
        refine wp_region_held_drew (S := fun w' => Below W.heap.size W w') (by kernel_rfl) bd (fun hHeld => ?_)
        clear hHeld
        refine tkY 0 rgTh6 (v := ?_) rfl bd ?_ ?_
        rotate_left
        · intro w hSw
          simp only [rgTh6]; go_simp
          try with_reducible rfl
        try simp only [rgTh6, Act.put, pA, pB, pC]
        refine tkY 1 rgTh7 (v := ?_) rfl bd ?_ ?_
        rotate_left
        · intro w hSw
          simp only [rgTh7]; go_simp
          try with_reducible rfl
        try simp only [rgTh7, Act.put, pA, pB, pC]
        refine tkY 2 rgTh8 (v := ?_) rfl bd ?_ ?_
        rotate_left
        · intro w hSw
          simp only [rgTh8]; go_simp
          try with_reducible rfl
        try simp only [rgTh8, Act.put, pA, pB, pC]
        refine tkY 3 rgTh9 (v := ?_) rfl bd ?_ ?_
        rotate_left
        · intro w hSw
          simp only [rgTh9]; go_simp
          try with_reducible rfl
        try simp only [rgTh9, Act.put, pA, pB, pC]
        refine tkY 4 rgTh10 (v := ?_) rfl bd ?_ ?_
        rotate_left
        · intro w hSw
          simp only [rgTh10]; go_simp
          try with_reducible rfl
        try simp only [rgTh10, Act.put, pA, pB, pC]
        refine tkN 5 rgTh11 rfl bd ?_
        try simp only [rgTh11, Act.put, pA, pB, pC]
        refine tkN 6 rgTh12 rfl bd ?_
        try simp only [rgTh12, Act.put, pA, pB, pC]
        refine tkN 7 rgTh13 rfl bd ?_
        try simp only [rgTh13, Act.put, pA, pB, pC]
        refine tkN 8 rgTh14 rfl bd ?_
        try simp only [rgTh14, Act.put, pA, pB, pC]
        refine tkN 9 rgTh15 rfl bd ?_
        try simp only [rgTh15, Act.put, pA, pB, pC]
        refine tkN 10 rgTh16 rfl bd ?_
        try simp only [rgTh16, Act.put, pA, pB, pC]
        refine tkN 11 rgTh17 rfl bd ?_
        try simp only [rgTh17, Act.put, pA, pB, pC]
        refine tkY 12 rgTh18 (v := ?_) rfl bd ?_ ?_
        rotate_left
        · intro w hSw
          simp only [rgTh18]; go_simp
          try with_reducible rfl
        try simp only [rgTh18, Act.put, pA, pB, pC]
        refine wpAnyH_done (by kernel_rfl) ?_ _
        have HB3 := Lib.hid (HB.out.trans (bd.mono HB.out.size))
        clear bd
        clear HRW HSW HXW HSP
        generalize W.drew = V at *
        have HRV := Lib.hid (HR.out.below HB3.out)
        have HXV := Lib.hid (HX.out.below HB3.out HX.out.lt)
        obtain ⟨ls, hls, I0⟩ := HR0.out
        have hln : ls.length = n := by rw [← its_len, hls]; exact HN.out
        have HBV := Lib.hid (HB0.out.trans (HB3.out.mono HB0.out.size))
        have I := I0.below HBV.out
        have bz := below_alloc V (.cells #[.int .i64 0, .slice none 0 0] 75)
        have RR := I.row.below bz
        rw [hln] at RR
        have LZ := Lies.new V 75 [.int .i64 0, .slice none 0 0]
        obtain ⟨v4, w4, hr, a4, c4, e4, R4, K4, F4⟩ := run_appIt_at 28 28 Try.underlying28 _ c n (iflat ls) _ RR ⟨V.heap.size, 0, none⟩ 1 1 [.int .i64 0, .slice none 0 0] rfl (fun j y hj => by rw [Addr.add_lit, Nat.zero_add]; exact (LZ.cell j).trans hj) (by intro y hy; simp only [List.mem_cons, List.not_mem_nil, or_false] at hy; rcases hy with rfl | rfl <;> rfl) (by omega)
        subst e4
        obtain ⟨g4, e4⟩ : ∃ g4, a4 = some ⟨g4, 0, none⟩ := by
          rcases R4.2 with ⟨_, _, h⟩ | ⟨g, _, h, _⟩
          · omega
          · exact ⟨g, h⟩
        subst e4
        have HGB := HX.out.lt
        have hbz := bz.size
        have hbv := HBV.out.size
        have hb3 := HB3.out.size
        have HF4 : Hid (a = some ⟨g4, 0, none⟩ ∨ V.heap.size < g4) := Lib.hid ((F4 g4 rfl).imp id (fun h => by
          have : (V.alloc (.cells #[.int .i64 0, .slice none 0 0] 75)).heap.size = V.heap.size + 1 := by simp
          omega))
        have HK4 : Hid (Kept (fun gx => a = some ⟨gx, 0, none⟩) w w4) := Lib.hid ((Kept.of_below (X := fun gx => a = some ⟨gx, 0, none⟩) (HBV.out.trans (bz.mono hbv))).trans K4 (fun i _ h => h))
        have HR4 := Lib.hid R4
        have hne : gb ≠ g4 := by
          rcases HF4.out with h | h
          · have := HR0.out.lt h
            have := HG.out
            omega
          · omega
        have HX4 : Hid (Lies w4 gb 75 [.int .i64 jx, .slice b u d]) := Lib.hid ((HXV.out.below bz (by omega)).kept K4 (fun h => by
          have := HR0.out.lt h
          have := HG.out
          omega))
        have hc4 := R4.le
        have HI := Lib.hid I0
        have HLS := Lib.hid hls
        have HLN := Lib.hid hln
        have HO4 : Hid (∀ y ∈ iflat ls ++ [.int .i64 0, .slice none 0 0], y.oneCell' = true) := Lib.hid (fun y hy => by
          rcases List.mem_append.1 hy with hy | hy
          · exact iflat_one ls y hy
          · simp only [List.mem_cons, List.not_mem_nil, or_false] at hy
            rcases hy with rfl | rfl <;> rfl)
        clear bz RR LZ F4 K4 R4 I I0 hls hln HRV HXV hbz
        go_upto_region 10 with (at_builtin; refine Lib.wpList_append_run _ rfl _ _ _ _ rfl _ _ rfl rfl _ _ hr ?_)
        clear hr
        have i3 : (0 : Int) ≤ (p : Int) := by omega
        have q1 : IntKind.i64.wrap ((p : Int) + 1) = (p : Int) + 1 := IntWalk.i64_in _ (by omega)
        have q2 : ((p : Int) + 1).toNat = p + 1 := by omega
        have q3 : (0 : Int) ≤ (p : Int) + 1 := by omega
        have q4 : (p : Int) + 1 ≤ (n : Int) + 1 := by omega
        have q5 : (p : Int) ≤ (n : Int) + 1 := by omega
        have q6 : ¬ c4 = p := by omega
        by_cases hpc : c4 = p + 1
        · skip
          refine wp_region_held_drew (S := fun _ => True) (by kernel_rfl) trivial (fun hHeld => ?_)
          clear hHeld
          refine tkY 0 rgTh19 (v := ?_) rfl trivial ?_ ?_
          rotate_left
          · intro w hSw
            simp only [rgTh19]; go_simp
            try with_reducible rfl
          try simp only [rgTh19, Act.put, pA, pB, pC]
          refine tkY 1 rgTh20 (v := ?_) rfl trivial ?_ ?_
          rotate_left
          · intro w hSw
            simp only [rgTh20]; go_simp
            try with_reducible rfl
          try simp only [rgTh20, Act.put, pA, pB, pC]
          refine tkY 2 rgTh21 (v := ?_) rfl trivial ?_ ?_
          rotate_left
          · intro w hSw
            simp only [rgTh21]; go_simp
            try with_reducible rfl
          try simp only [rgTh21, Act.put, pA, pB, pC]
          refine tkY 3 rgTh22 (v := ?_) rfl trivial ?_ ?_
          rotate_left
          · intro w hSw
            simp only [rgTh22]; go_simp
            try with_reducible rfl
          try simp only [rgTh22, Act.put, pA, pB, pC]
          refine tkY 4 rgTh23 (v := ?_) rfl trivial ?_ ?_
          rotate_left
          · intro w hSw
            simp only [rgTh23]; go_simp
            try with_reducible rfl
          try simp only [rgTh23, Act.put, pA, pB, pC]
          refine tkY 5 rgTh24 (v := ?_) rfl trivial ?_ ?_
          rotate_left
          · intro w hSw
            simp only [rgTh24]; go_simp
            try with_reducible rfl
          try simp only [rgTh24, Act.put, pA, pB, pC]
          refine tkY 6 rgTh25 (v := ?_) rfl trivial ?_ ?_
          rotate_left
          · intro w hSw
            simp only [rgTh25]; go_simp
            try with_reducible rfl
          try simp only [rgTh25, Act.put, pA, pB, pC]
          refine wpAnyH_ready (rs := [7]) (by kernel_rfl) (by simp) ?_
          refine AllReadyH.cons (o := rgTh26) rfl (fun K hK => ?_) AllReadyH.nil
          refine step_copyI rfl (.tmp 47) (.tmp 50) rfl (HR4.out.kept (X := fun _ => False) (Kept.refl _ _).drew (fun _ _ h => h)) HO4.out hq _ _ _ _ _ rfl rfl (by omega) (by omega) (fun h => by omega) ?_
          intro w5 R5 K5
          refine hK.out _ _ trivial (fun hHeld => ?_)
          clear hK K hHeld
          try simp only [rgTh26, Act.put, pA, pB, pC]
          refine wpAnyH_done (by kernel_rfl) ?_ _
          have K45 : Kept (fun k => k = g4) w4 w5 := (Kept.refl (fun k => k = g4) w4).drew.trans K5.out (fun i _ h => h)
          have HK5 : Hid (Kept (fun gx => a = some ⟨gx, 0, none⟩) w w5) := Lib.hid (HK4.out.trans K45 (fun i hi h => by
            subst h
            rcases HF4.out with h2 | h2
            · exact h2
            · have := HBV.out.size; omega))
          have HX5 := Lib.hid (HX4.out.kept K45 (fun h => hne h))
          clear K5 K45 HX4
          have s1 := HX5.out.cell 0
          have s2 := HX5.out.cell 1
          simp only [List.getElem?_cons_zero, List.getElem?_cons_succ] at s1 s2
          obtain ⟨⟨v0, r0⟩, z0⟩ := R5.out.slot (j := p * 2) (by omega)
          obtain ⟨⟨v1, r1⟩, z1⟩ := R5.out.slot (j := p * 2 + 1) (by omega)
          have q7 : (p : Int) < (n : Int) + 1 := by omega
          go_wp2
          go_ret
          try subst hpc
          have hput := row_put (x := x) (b := b) (d := d) R5.out HLN.out hq
          rw [HXJ.out, HU.out] at hput
          have hX : g4 < w.heap.size → a = some ⟨g4, 0, none⟩ := fun h => by
            rcases HF4.out with h2 | h2
            · exact h2
            · have := HBV.out.size; omega
          have hk := (HK5.out.setCell (p := ⟨g4, p * 2, none⟩) hX (.int .i64 jx)).setCell (p := ⟨g4, p * 2 + 1, none⟩) hX (.slice b u d)
          have hI := HI.out
          rw [← HLN.out] at hput
          have hit := its_set hI HS0.out hk p hput
          rw [HLS.out] at hit
          have hlen : (s.take p ++ x :: s.drop p).length = n + 1 := by
            rw [List.length_append, List.length_cons, List.length_take, List.length_drop, HN.out]; omega
          rw [E.out]
          exact ⟨some ⟨g4, 0, none⟩, _, by rw [hlen]; rfl, hit, hk, fun gx e => by
            injection e with e; injection e with e; subst e
            rcases HF4.out with h2 | h2
            · exact .inl h2
            · have := HBV.out.size; exact .inr (by omega)⟩
        · skip
          refine wp_region_held_drew (S := fun _ => True) (by kernel_rfl) trivial (fun hHeld => ?_)
          clear hHeld
          refine tkY 0 rgTh19 (v := ?_) rfl trivial ?_ ?_
          rotate_left
          · intro w hSw
            simp only [rgTh19]; go_simp
            try with_reducible rfl
          try simp only [rgTh19, Act.put, pA, pB, pC]
          refine tkY 1 rgTh20 (v := ?_) rfl trivial ?_ ?_
          rotate_left
          · intro w hSw
            simp only [rgTh20]; go_simp
            try with_reducible rfl
          try simp only [rgTh20, Act.put, pA, pB, pC]
          refine tkY 2 rgTh21 (v := ?_) rfl trivial ?_ ?_
          rotate_left
          · intro w hSw
            simp only [rgTh21]; go_simp
            try with_reducible rfl
          try simp only [rgTh21, Act.put, pA, pB, pC]
          refine tkY 3 rgTh22 (v := ?_) rfl trivial ?_ ?_
          rotate_left
          · intro w hSw
            simp only [rgTh22]; go_simp
            try with_reducible rfl
          try simp only [rgTh22, Act.put, pA, pB, pC]
          refine tkY 4 rgTh23 (v := ?_) rfl trivial ?_ ?_
          rotate_left
          · intro w hSw
            simp only [rgTh23]; go_simp
            try with_reducible rfl
          try simp only [rgTh23, Act.put, pA, pB, pC]
          refine tkY 5 rgTh24 (v := ?_) rfl trivial ?_ ?_
          rotate_left
          · intro w hSw
            simp only [rgTh24]; go_simp
            try with_reducible rfl
          try simp only [rgTh24, Act.put, pA, pB, pC]
          refine tkY 6 rgTh25 (v := ?_) rfl trivial ?_ ?_
          rotate_left
          · intro w hSw
            simp only [rgTh25]; go_simp
            try with_reducible rfl
          try simp only [rgTh25, Act.put, pA, pB, pC]
          refine wpAnyH_ready (rs := [7]) (by kernel_rfl) (by simp) ?_
          refine AllReadyH.cons (o := rgTh26) rfl (fun K hK => ?_) AllReadyH.nil
          refine step_copyI rfl (.tmp 47) (.tmp 50) rfl (HR4.out.kept (X := fun _ => False) (Kept.refl _ _).drew (fun _ _ h => h)) HO4.out hq _ _ _ _ _ rfl rfl (by omega) (by omega) (fun h => rfl) ?_
          intro w5 R5 K5
          refine hK.out _ _ trivial (fun hHeld => ?_)
          clear hK K hHeld
          try simp only [rgTh26, Act.put, pA, pB, pC]
          refine wpAnyH_done (by kernel_rfl) ?_ _
          have K45 : Kept (fun k => k = g4) w4 w5 := (Kept.refl (fun k => k = g4) w4).drew.trans K5.out (fun i _ h => h)
          have HK5 : Hid (Kept (fun gx => a = some ⟨gx, 0, none⟩) w w5) := Lib.hid (HK4.out.trans K45 (fun i hi h => by
            subst h
            rcases HF4.out with h2 | h2
            · exact h2
            · have := HBV.out.size; omega))
          have HX5 := Lib.hid (HX4.out.kept K45 (fun h => hne h))
          clear K5 K45 HX4
          have s1 := HX5.out.cell 0
          have s2 := HX5.out.cell 1
          simp only [List.getElem?_cons_zero, List.getElem?_cons_succ] at s1 s2
          obtain ⟨⟨v0, r0⟩, z0⟩ := R5.out.slot (j := p * 2) (by omega)
          obtain ⟨⟨v1, r1⟩, z1⟩ := R5.out.slot (j := p * 2 + 1) (by omega)
          have q7 : (p : Int) < (n : Int) + 1 := by omega
          go_wp2
          go_ret
          try subst hpc
          have hput := row_put (x := x) (b := b) (d := d) R5.out HLN.out hq
          rw [HXJ.out, HU.out] at hput
          have hX : g4 < w.heap.size → a = some ⟨g4, 0, none⟩ := fun h => by
            rcases HF4.out with h2 | h2
            · exact h2
            · have := HBV.out.size; omega
          have hk := (HK5.out.setCell (p := ⟨g4, p * 2, none⟩) hX (.int .i64 jx)).setCell (p := ⟨g4, p * 2 + 1, none⟩) hX (.slice b u d)
          have hI := HI.out
          rw [← HLN.out] at hput
          have hit := its_set hI HS0.out hk p hput
          rw [HLS.out] at hit
          have hlen : (s.take p ++ x :: s.drop p).length = n + 1 := by
            rw [List.length_append, List.length_cons, List.length_take, List.length_drop, HN.out]; omega
          rw [E.out]
          exact ⟨some ⟨g4, 0, none⟩, _, by rw [hlen]; rfl, hit, hk, fun gx e => by
            injection e with e; injection e with e; subst e
            rcases HF4.out with h2 | h2
            · exact .inl h2
            · have := HBV.out.size; exact .inr (by omega)⟩

end Go.Proofs.Ytadnjlhkppcmmaa

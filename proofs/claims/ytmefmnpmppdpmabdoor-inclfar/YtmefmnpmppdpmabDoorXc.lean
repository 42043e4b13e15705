import Derived.Test.YtmefmnpmppdpmabDoorXb
import Derived.Test.YtmefmnpmppdpmabDoorHa
import Derived.Deep.RegionHeld3
import Derived.Deep.AppendLies
import Derived.Maps.AppendAt
import Derived.Lib.BufferRead
/- The program's key of a pair: its text. -/
namespace Go.Proofs.YtmefmnpmppdpmabDoor
open Go.ChangeShapes Go.WideShapes Go.ChangeAt Go.RowKit

set_option maxRecDepth 100000 in
/-- append of one byte that was just laid. -/
theorem appO (ty : TypeId) {w : World} {B : Nat} {v : Value} {l : List UInt8} (hB : B ≤ w.heap.size) (h : OwnU w B v l) (hl : l.length ≤ 100000000000000) (x : UInt8) (y : Value) (hy : y = .int .u8 (x.toNat : Int)) :
    ∃ v' w', (Builtin.append_ #[69, 69] ty #[v, .slice (some ⟨w.heap.size, 0, none⟩) 1 1]).run Tryd.prog (w.alloc (.cells #[y] 5)) = .ok v' w' ∧ OwnU w' B v' (l ++ [x]) ∧ Below B w w' ∧ Lib.OthersKept 5 none w w' := by
  subst hy
  obtain ⟨i, hi, hz, hsz, hby⟩ := info_parts Tryd.info5o
  obtain ⟨v', w', hr, h2, h3, _, _⟩ := run_append_own_at (P := Tryd.prog) (w.alloc (.cells #[.int .u8 (x.toNat : Int)] 5)) B 69 ty 5 i _ 1 1 Tryd.underlying69 hi hz hsz hby (by simp [Value.cells]) (by omega) v l.length (Lib.byteCells l) (World.ownsRow.alloc h _)
    ⟨w.heap.size, 0, none⟩ 1 1 [.int .u8 (x.toNat : Int)] rfl (by intro j u' hj; match j, hj with | 0, hj => simp at hj; subst hj; simp [Addr.add]) (by intro u' hu'; simp at hu'; subst hu'; rfl) (by unfold maxLen; omega) (by omega) (by simp; omega)
  exact ⟨v', w', hr, OwnU.push hB h h2 h3⟩
/-- What is put of the first k items. -/
def keyK (cs : List Int) (l : List It) (k : Nat) : List UInt8 := wordB cs ++ (l.take k).flatMap itemK
theorem keyK_succ {cs : List Int} {l : List It} {k : Nat} (hk : k < l.length) : keyK cs l (k + 1) = keyK cs l k ++ itemK (itAt l k) := by
  unfold keyK
  rw [List.take_succ_eq_append_getElem hk, List.flatMap_append, ← List.append_assoc, itAt_get hk]
  simp
/-- Bytes that are one's own, as a string. -/
theorem convert_own {w : World} {B : Nat} {v : Value} {l : List UInt8} (h : OwnU w B v l) : (convert 69 9 v).run Tryd.prog w = .ok (.string ⟨l.toArray⟩) w := by
  obtain ⟨a, c, rfl, R, _⟩ := own_row h
  rcases R with ⟨rfl, rfl, e⟩ | ⟨g, sp, rfl, _, _, L⟩
  · have : l = [] := List.eq_nil_of_length_eq_zero (by have := congrArg List.length e; simpa [Lib.byteCells] using this)
    subst this
    exact Lib.run_convert_nil_bytes w 69 9 5 0 Tryd.underlying69 Tryd.underlying5 Tryd.underlying9
  · have hcell : ∀ j (hj : j < l.length), w.cell? ((⟨g, 0, none⟩ : Addr).add j) = some (.int .u8 ((l[j]).toNat : Int)) := fun j hj => by
      have := one_cell (j := j) (v := .int .u8 ((l[j]).toNat : Int)) L (by simp [Lib.byteCells, hj])
      rw [Addr.add_lit]
      exact this
    have := run_convert_bytes_back (P := Tryd.prog) w 69 9 5 ⟨g, 0, none⟩ c l Tryd.underlying69 Tryd.underlying5 Tryd.underlying9 hcell
    rw [Lib.byteCells_length]
    exact this
set_option maxRecDepth 100000 in
set_option maxHeartbeats 4000000 in
theorem key117 (ca la : Option Addr) (cc lc : Nat) (cs : List Int) (l : List It) (wv : Value) (w : World) (hC : Bag w ca cc cs) (hL : Its w la lc l) (hr : rightL cs = true) (hi : TextI l) (hl : l.length ≤ 50000000) (htab : Lib.TabIs Tryd.prog w "internal/strconv.uint64pow10" .u64 Lib.pow10Tab) :
    Calls Tryd.prog 23 #[.agg #[.slice ca cs.length cc, .slice la l.length lc, wv]] w (fun e w' => e = .returned (.string ⟨(keyB cs l).toArray⟩) ∧ Below w.heap.size w w') := by
  have HC := Lib.hid hC
  have HL := Lib.hid hL
  have HRT := Lib.hid hr
  have HI := Lib.hid hi
  have hle := hL.le
  have h12 : cs.length ≤ 12 := (right_iff.1 hr).1
  have HKL : Hid (∀ k, (keyK cs l k).length ≤ 264 + 286 * l.length) := Lib.hid (fun k => by
    have h1 := keyB_len (l := l.take k) hr (fun z hz => hi z (List.mem_of_mem_take hz))
    have h2 : (l.take k).length ≤ l.length := by rw [List.length_take]; omega
    have h3 : keyK cs l k = keyB cs (l.take k) := rfl
    rw [h3]
    omega)
  have HKE : Hid (keyK cs l l.length = keyB cs l) := Lib.hid (by unfold keyK keyB; rw [List.take_length])
  have HK0 : Hid (wordB cs = keyK cs l 0) := Lib.hid (by simp [keyK])
  have HW : Hid (Below w.heap.size w (w.alloc (.cells #[.slice ca cs.length cc, .slice la l.length lc, wv] 51))) := Lib.hid (below_alloc _ _)
  have HP0 : Hid (Lies (w.alloc (.cells #[.slice ca cs.length cc, .slice la l.length lc, wv] 51)) w.heap.size 51 [.slice ca cs.length cc, .slice la l.length lc, wv]) := Lib.hid (Lies.new _ _ _)
  have HTB : Hid (Lib.TabIs Tryd.prog (w.alloc (.cells #[.slice ca cs.length cc, .slice la l.length lc, wv] 51)) "internal/strconv.uint64pow10" .u64 Lib.pow10Tab) := Lib.hid (Lib.tabBelow_of_tabIs htab _ HW.out)
  have Z := fun W (h : Below w.heap.size w W) (t : Lib.TabIs Tryd.prog W "internal/strconv.uint64pow10" .u64 Lib.pow10Tab) => appendWord136 W.heap.size (.slice none 0 0) [] ca cc cs W (ownU_nil W _) (Nat.le_refl _) (HC.out.below h) HRT.out (fun g e => (HC.out.below h).lt e) (by simp) (Lib.tabBelow_of_tabIs t)
  generalize hn : cs.length = n at h12 HW HP0 HTB Z ⊢
  generalize hm : l.length = m at hle hl HKL HKE HW HP0 HTB ⊢
  have HN := Lib.hid hn
  have HM := Lib.hid hm
  clear hC hL hr hi hn hm
  have HZ := Lib.hid (Z _ HW.out HTB.out)
  clear Z
  go_enter Tryd.func23, Tryd.ntmps23
  go_wp2_with (fail)
  refine HZ.out.mono ?_
  clear HZ
  generalize w.alloc (.cells #[.slice ca n cc, .slice la m lc, wv] 51) = W1 at HW HP0 HTB ⊢
  generalize hgb : w.heap.size = gb at HP0 ⊢
  have HGB := Lib.hid hgb
  clear hgb
  rintro e w1 ⟨v1, rfl, o1, b1, k1⟩
  have HP1 := Lib.hid (HP0.out.others (by decide) k1)
  have p1 := HP1.out.cell 1
  simp only [List.getElem?_cons_zero, List.getElem?_cons_succ] at p1
  rw [List.nil_append, HK0.out] at o1
  have HO1 := Lib.hid o1
  have HB1 : Hid (Below W1.heap.size W1 w1 ∧ Lib.OthersKept 5 none W1 w1) := Lib.hid ⟨b1, k1⟩
  have HTW := Lib.hid (Lib.tabBelow_of_tabIs HTB.out)
  have HL1 := Lib.hid (HL.out.below HW.out)
  obtain ⟨B, hB⟩ : ∃ B, B = W1.heap.size := ⟨_, rfl⟩
  rw [← hB] at HO1 HB1 HTW
  have HBS : Hid (B ≤ W1.heap.size) := Lib.hid (by omega)
  have HBE := Lib.hid hB
  clear o1 b1 k1 HK0 HP0 hB HTB HC
  go_wp2
  go_loopw [3, 12] (fun v i wr => ∃ k : Nat, k ≤ m ∧ i = .int .i64 k ∧ Hid (OwnU wr B v (keyK cs l k)) ∧ Hid (Below B W1 wr ∧ Lib.OthersKept 5 none W1 wr)) (fun _ i _ => m - (intOf i).toNat)
  case atStart => exact ⟨0, Nat.zero_le _, rfl, HO1, HB1⟩
  case round =>
    clear HO1 HB1 p1 HP1
    obtain ⟨k, hk, rfl, HO, HB⟩ := hrel
    by_cases hlt : k < m
    · obtain ⟨g, b, d, e1, c00, c11, B0⟩ := HL1.out.at (k := k) (by rw [HM.out]; exact hlt)
      subst e1
      have hlg : g < W1.heap.size := HL1.out.lt rfl
      have hBr : Below W1.heap.size W1 wr := by have := HB.out.1; rw [HBE.out] at this; exact this
      have c0 := (hBr.cell (p := ⟨g, k * 2, none⟩) hlg).trans c00
      have c1 := (hBr.cell (p := ⟨g, k * 2 + 1, none⟩) hlg).trans c11
      have hmem : itAt l k ∈ l := by rw [itAt_get (by rw [HM.out]; exact hlt)]; exact List.getElem_mem _
      obtain ⟨hri, hj0, hj1⟩ := HI.out _ hmem
      have HFL := Lib.hid (keyK_succ (cs := cs) (l := l) (k := k) (by rw [HM.out]; exact hlt))
      have hlk := HKL.out k
      have hble := B0.le
      generalize hk1 : keyK cs l (k + 1) = lk1 at HFL
      have HK1 := Lib.hid hk1
      clear hk1
      generalize keyK cs l k = lk at HO HFL hlk
      generalize itAt l k = z at c0 c1 B0 hri hj0 hj1 HFL hble c00 c11
      obtain ⟨j, xs⟩ := z
      obtain ⟨jn, rfl⟩ : ∃ jn : Nat, j = jn := ⟨j.toNat, by have : 0 ≤ j := hj0; omega⟩
      have hjn : jn < 65536 := by have : (jn : Int) < 65536 := hj1; omega
      simp only at c0 c1 B0 hri HFL hble
      have HZA : Hid (∀ V v' L, OwnU V B v' L → Below B W1 V → L.length ≤ 100000000000 → Calls Tryd.prog 31 #[v', .slice b xs.length d] V (fun e w' => ∃ v'', e = .returned v'' ∧ OwnU w' B v'' (L ++ wordB xs) ∧ Below B V w' ∧ Lib.OthersKept 5 none V w')) := Lib.hid (fun V v' L o h hl => by
        have h' : Below W1.heap.size W1 V := by rw [HBE.out] at h; exact h
        exact appendWord136 B v' L b d xs V o (by rw [HBE.out]; exact h'.size) (B0.below h') hri (fun g e => by rw [HBE.out]; exact B0.lt e) hl (HTW.out.on h))
      generalize hu : xs.length = u at c1 hble HZA
      have hbr : B ≤ wr.heap.size := by rw [HBE.out]; exact hBr.size
      have HX := Lib.hid (Lies.new wr 65 [.int .i64 (jn : Int), .slice b u d])
      have HOA : Hid (OwnU (wr.alloc (.cells #[.int .i64 (jn : Int), .slice b u d] 65)) B u3 lk) := Lib.hid (World.ownsRow.alloc HO.out _)
      have HBA : Hid (Below B W1 (wr.alloc (.cells #[.int .i64 (jn : Int), .slice b u d] 65)) ∧ Lib.OthersKept 5 none W1 (wr.alloc (.cells #[.int .i64 (jn : Int), .slice b u d] 65))) := Lib.hid ⟨HB.out.1.alloc hbr _, HB.out.2.alloc _⟩
      have hlj : (lk ++ Lib.itoa (jn : Int)).length ≤ 100000000000000 ∧ (lk ++ Lib.itoa (jn : Int) ++ [58]).length ≤ 100000000000 := by
        have := Lib.itoa_length_le (jn : Int) (by omega) (by omega)
        simp only [List.length_append, List.length_singleton]
        omega
      obtain ⟨hlj, hlc⟩ := hlj
      have Z := Tryd.strconv_AppendInt_10 B lk.length (jn : Int) (by omega) (by omega) u3 (Lib.byteCells lk) _ HOA.out (by have := HBA.out.1.size; rw [HBE.out]; exact this) (by omega) (HTW.out.on HBA.out.1)
      have HZ := Lib.hid Z
      have i1 : (0 : Int) ≤ (k : Int) := by omega
      have i2 : (k : Int) < (m : Int) := by omega
      clear Z B0 hri hj0 hj1 hmem hu HO HB hBr c00 c11 hbr
      go_wp2_with (fail)
      generalize wr.alloc (.cells #[.int .i64 (jn : Int), .slice b u d] 65) = W0 at HX HOA HBA HZ ⊢
      generalize wr.heap.size = gx at HX ⊢
      refine HZ.out.mono ?_
      clear HZ
      rintro e W ⟨v2, rfl, o2, b2, k2⟩
      have HO2 := Lib.hid (OwnU.num o2)
      have HB2 : Hid (Below B W1 W ∧ Lib.OthersKept 5 none W1 W) := Lib.hid ⟨HBA.out.1.trans b2, HBA.out.2.trans k2⟩
      have HX2 := Lib.hid (HX.out.others (by decide) k2)
      clear o2 b2 k2 HX HOA HBA c0 c1 hlg
      go_upto_region 6 with (fail)
      have bd : Lies W.drew gx 65 [.int .i64 (jn : Int), .slice b u d] := HX2.out
      clear HX2
      refine wp_region_held_drew (S := fun V => Lies V gx 65 [.int .i64 (jn : Int), .slice b u d]) (by kernel_rfl) bd (fun hHeld => ?_)
      clear hHeld
      refine wpAnyH_take (i := 0) (oi := { dst := some 20, op := Op.move (Operand.tmp 3), type := 69, pos := "search.go:130", after := #[], guard := none }) (v := ?_) rfl (by kernel_rfl) (by kernel_rfl) (by kernel_rfl) (fun _ _ _ h => h) (Or.inl ⟨by rfl, ?_⟩) bd ?_
      rotate_left
      · intro w hSw
        go_simp
        try with_reducible rfl
      try simp only [Act.put, List.setIfInBounds_toArray, List.set_cons_zero, List.set_cons_succ]
      refine wpAnyH_take (i := 3) (oi := { dst := some 23, op := Op.fieldAddr 65 (Operand.tmp 5) 1, type := 0, pos := "search.go:130", after := #[], guard := none }) (v := ?_) rfl (by kernel_rfl) (by kernel_rfl) (by kernel_rfl) (fun _ _ _ h => h) (Or.inl ⟨by rfl, ?_⟩) bd ?_
      rotate_left
      · intro w hSw
        go_simp
        try with_reducible rfl
      try simp only [Act.put, List.setIfInBounds_toArray, List.set_cons_zero, List.set_cons_succ]
      refine wpAnyH_take (i := 4) (oi := { dst := some 24, op := Op.load 24 (Operand.tmp 23), type := 24, pos := "search.go:130", after := #[{ on := 3, ground := Ground.data }], guard := none }) (v := ?_) rfl (by kernel_rfl) (by kernel_rfl) (by kernel_rfl) (fun _ _ _ h => h) (Or.inl ⟨by rfl, ?_⟩) bd ?_
      rotate_left
      · intro w hSw
        have k0 := hSw.cell 0
        have k1 := hSw.cell 1
        simp only [List.getElem?_cons_zero, List.getElem?_cons_succ] at k0 k1
        go_simp
        try with_reducible rfl
      try simp only [Act.put, List.setIfInBounds_toArray, List.set_cons_zero, List.set_cons_succ]
      have HX0 := Lib.hid bd
      have HO0 : Hid (OwnU W.drew B v2 (lk ++ Lib.itoa (jn : Int))) := Lib.hid (show OwnU W B v2 _ from HO2.out)
      have HW0 : Hid (Below B W1 W.drew ∧ Lib.OthersKept 5 none W1 W.drew) := Lib.hid ⟨below_drew HB2.out.1, HB2.out.2.drew⟩
      clear bd HO2 HB2
      generalize W.drew = V0 at HX0 HO0 HW0 ⊢
      have hb0 : B ≤ V0.heap.size := Nat.le_trans HBS.out HW0.out.1.size
      have HX1 : Hid (Lies (V0.alloc (.cells #[.int .u8 58] 5)) gx 65 [.int .i64 (jn : Int), .slice b u d]) := Lib.hid (HX0.out.below (below_alloc _ _) HX0.out.lt)
      obtain ⟨v3, V2, hr2, o2, b2, k2⟩ := appO 69 hb0 HO0.out hlj 58 (.int .u8 58) rfl
      refine wpAnyH_ready (rs := [1]) (by kernel_rfl) (by simp) ?_
      refine AllReadyH.cons (o := { dst := some 21, op := Op.buildSlice 69 1 #[(0, Operand.const (Value.int IntKind.u8 58))], type := 69, pos := "search.go:130", after := #[], guard := none }) rfl (fun K hK => ?_) AllReadyH.nil
      go_simp
      refine hK.out _ _ HX1.out (fun hHeld => ?_)
      clear hK K hHeld
      try simp only [Act.put, List.setIfInBounds_toArray, List.set_cons_zero, List.set_cons_succ]
      refine wpAnyH_ready (rs := [2]) (by kernel_rfl) (by simp) ?_
      refine AllReadyH.cons (o := { dst := some 22, op := Op.call { callee := Callee.builtin Builtin.append, args := #[Operand.tmp 20, Operand.tmp 21], argTypes := #[69, 69] }, type := 69, pos := "search.go:130", after := #[{ on := 0, ground := Ground.data }, { on := 1, ground := Ground.data }], guard := none }) rfl (fun K hK => ?_) AllReadyH.nil
      refine step_append_run _ rfl _ _ _ _ rfl _ _ rfl rfl _ _ hr2 ?_
      have HX2 : Hid (Lies V2 gx 65 [.int .i64 (jn : Int), .slice b u d]) := Lib.hid (HX0.out.others (by decide) k2)
      have HO2 := Lib.hid o2
      have HW2 : Hid (Below B W1 V2 ∧ Lib.OthersKept 5 none W1 V2) := Lib.hid ⟨HW0.out.1.trans b2, HW0.out.2.trans k2⟩
      clear hr2 o2 b2 k2 HX1 HX0 HO0 HW0 hb0
      refine hK.out _ _ HX2.out (fun hHeld => ?_)
      clear hK K hHeld
      try simp only [Act.put, List.setIfInBounds_toArray, List.set_cons_zero, List.set_cons_succ]
      refine wpAnyH_ready (rs := [5]) (by kernel_rfl) (by simp) ?_
      refine AllReadyH.cons (o := { dst := some 25, op := Op.call { callee := Callee.value (Operand.func 31), args := #[Operand.tmp 22, Operand.tmp 24], argTypes := #[69, 24] }, type := 69, pos := "search.go:130", after := #[{ on := 2, ground := Ground.data }, { on := 4, ground := Ground.data }, { on := 2, ground := Ground.chain }], guard := none }) rfl (fun K hK => ?_) AllReadyH.nil
      have Z := HZA.out V2 v3 _ HO2.out HW2.out.1 hlc
      go_simp
      refine Z.mono ?_
      clear Z
      rintro e V3 ⟨v4, rfl, o4, b4, k4⟩
      have HX3 := Lib.hid (HX2.out.others (by decide) k4)
      have HO3 : Hid (OwnU V3 B v4 (keyK cs l (k + 1))) := Lib.hid (by rw [HK1.out, HFL.out]; simpa [itemK, numB] using o4)
      have HW3 : Hid (Below B W1 V3 ∧ Lib.OthersKept 5 none W1 V3) := Lib.hid ⟨HW2.out.1.trans b4, HW2.out.2.trans k4⟩
      clear o4 b4 k4 HX2 HO2 HW2
      go_wp2_with (fail)
      refine hK.out _ _ HX3.out (fun hHeld => ?_)
      clear hK K hHeld
      try simp only [Act.put, List.setIfInBounds_toArray, List.set_cons_zero, List.set_cons_succ]
      refine wpAnyH_take (i := 6) (oi := { dst := some 3, op := Op.assign (Operand.tmp 25), type := 69, pos := "search.go:130", after := #[{ on := 5, ground := Ground.data }, { on := 5, ground := Ground.chain }, { on := 0, ground := Ground.phase }, { on := 1, ground := Ground.phase }, { on := 2, ground := Ground.phase }, { on := 3, ground := Ground.phase }, { on := 4, ground := Ground.phase }, { on := 5, ground := Ground.phase }], guard := none }) (v := ?_) rfl (by kernel_rfl) (by kernel_rfl) (by kernel_rfl) (fun _ _ _ h => h) (Or.inl ⟨by rfl, ?_⟩) HX3.out ?_
      rotate_left
      · intro w hSw
        go_simp
        try with_reducible rfl
      try simp only [Act.put, List.setIfInBounds_toArray, List.set_cons_zero, List.set_cons_succ]
      refine wpAnyH_done (by kernel_rfl) ?_ _
      go_wp2
      go_roundw
      case rel => exact ⟨k + 1, by omega, by go_num, HO3, HW3⟩
      case measure => simp [intOf]; omega
    · obtain rfl : k = m := by omega
      rw [HKE.out] at HO
      have hconv := convert_own HO.out
      have HF : Hid (Below w.heap.size w wr) := Lib.hid (by exact HW.out.trans (HB.out.1.mono (by rw [HBE.out]; exact HW.out.size)))
      go_wp2
      go_ret
      exact ⟨rfl, HF.out⟩
end Go.Proofs.YtmefmnpmppdpmabDoor

import Derived.Test.YtmefmnpmppdpmabDoorC
/- copy into a bag that was made; contract of Add. -/
namespace Go.Proofs.YtmefmnpmppdpmabDoor
open Go.ChangeShapes Go.WideShapes Go.ChangeAt Go.RowKit

theorem full_lies {w : World} {g n : Nat} {zs : List Int} (Z : Bag w (some ⟨g, 0, none⟩) n zs) (hn : zs.length = n) : Lies w g 3 (ints zs) := by
  rcases Z with ⟨e, _⟩ | ⟨g', sp, e, hc, _, l⟩
  · cases e
  · injection e with e; injection e with e; subst e
    rw [ints_len] at hc
    obtain rfl : sp = [] := List.eq_nil_of_length_eq_zero (by omega)
    rwa [List.append_nil] at l
theorem lies_full {w : World} {g n : Nat} {zs : List Int} (l : Lies w g 3 (ints zs)) (hn : zs.length = n) (hm : n ≤ 1000) : Bag w (some ⟨g, 0, none⟩) n zs :=
  .inr ⟨g, [], rfl, by rw [ints_len]; simpa using hn.symm, by omega, by rwa [List.append_nil]⟩

theorem wpList_copy_bag {w : World} {ops : Array Oper} {rest : List Oper} {o : Oper} {a : Act} {Q : Exit → Act → World → Prop} (hgd : o.guard = none) (d s : Operand)
    (ho : o.op = .call { callee := .builtin .copy, args := #[d, s], argTypes := #[24, 24] }) (g n : Nat) (sp : Option Addr) (c : Nat) (xs zs : List Int)
    (l : Nat) (hxl : xs.length = l) (hd : a.eval d = .slice (some ⟨g, 0, none⟩) n n) (hs : a.eval s = .slice sp l c) (R : Bag w sp c xs) (Z : Bag w (some ⟨g, 0, none⟩) n zs) (hz : zs.length = n) (hle : xs.length ≤ n) (hm : n ≤ 1000)
    (B : Nat) (w0 : World) (hb : Below B w0 w) (hBg : B ≤ g)
    (h : ∀ w', Bag w' (some ⟨g, 0, none⟩) n (xs ++ zs.drop xs.length) → Below B w0 w' → wpList Tryd.prog ops Q rest (a.put o.dst (goInt l)) w') : wpList Tryd.prog ops Q (o :: rest) a w := by
  subst hxl
  have hl : (ints xs).length = xs.length := ints_len xs
  refine wpList_copy_splice hgd d s 24 24 ho 3 Tryd.underlying24 Tryd.one3 (some ⟨g, 0, none⟩) sp n n xs.length c hd hs g 0 (ints zs) 3 (full_lies Z hz) (ints xs) (by rw [hl]; exact (Nat.min_eq_left hle).symm) ?_ (by rw [hl, ints_len]; omega) (ints_one xs) B w0 hb hBg ?_
  · intro hp
    rcases R with ⟨_, _, e⟩ | ⟨g', sp', e, hc, _, l⟩
    · rw [e] at hp; simp at hp
    · exact ⟨rfl, _, e, fun j v hj => by rw [Addr.add_lit]; exact one_cell l hj⟩
  · intro w' HG hb'
    rw [hl]
    refine h w' (lies_full (Lies.to HG.out ?_) ?_ hm) hb'
    · simp [splice, ints]
    · rw [List.length_append, List.length_drop]; omega

/-- The sum, as far as place k. -/
def addK (xs ys : List Int) (n k : Nat) : List Int := tab n (fun j => xs.getD j 0 + if j < k then ys.getD j 0 else 0)
theorem addK_len (xs ys : List Int) (n k : Nat) : (addK xs ys n k).length = n := tab_len _ _
theorem addK_zero {xs ys : List Int} {n : Nat} (h : xs.length ≤ n) : xs ++ (tab n (fun _ => 0)).drop xs.length = addK xs ys n 0 := by
  apply ext_getD
  · rw [List.length_append, List.length_drop, tab_len, addK_len]; omega
  · intro j hj
    rw [List.length_append, List.length_drop, tab_len] at hj
    rw [addK, tab_at (by omega), if_neg (by omega), Int.add_zero]
    by_cases hx : j < xs.length
    · simp [List.getD, List.getElem?_append_left hx]
    · rw [getD_past (l := xs) (by omega)]
      simp only [List.getD, List.getElem?_append_right (show xs.length ≤ j by omega), List.getElem?_drop]
      have := tab_at (n := n) (f := fun _ => 0) (j := xs.length + (j - xs.length)) (by omega)
      rwa [List.getD_eq_getElem?_getD] at this
theorem addK_at {xs ys : List Int} {n k : Nat} (hk : k < n) : (addK xs ys n k).getD k 0 = xs.getD k 0 := by
  rw [addK, tab_at hk, if_neg (by omega), Int.add_zero]
theorem addK_set {xs ys : List Int} {n k : Nat} : (addK xs ys n k).set k (xs.getD k 0 + ys.getD k 0) = addK xs ys n (k + 1) := by
  unfold addK
  rw [tab_set]
  refine tab_congr (fun j _ => ?_)
  by_cases h : j = k
  · subst h; rw [if_pos rfl, if_pos (by omega)]
  · rw [if_neg h]
    by_cases h' : j < k
    · rw [if_pos h', if_pos (by omega)]
    · rw [if_neg h', if_neg (by omega)]
theorem addK_end {xs ys : List Int} {n : Nat} (hn : n = max xs.length ys.length) : addK xs ys n ys.length = addT xs ys := by
  unfold addK addT
  rw [← hn]
  refine tab_congr (fun j _ => ?_)
  by_cases h' : j < ys.length
  · rw [if_pos h']
  · rw [if_neg h', getD_past (l := ys) (by omega)]

theorem makes2_nil {w w' : World} {xs : List Int} {b : Bool} (h1 : xs = []) (h2 : b = false) (bel : Below w.heap.size w w') : Makes2 xs b w (.returned (.tuple #[.slice none 0 0, .bool false])) w' := by
  subst h1; subst h2
  exact ⟨none, 0, rfl, Bag.nil _, (fun _ e => nomatch e), bel⟩

theorem add10_no1 (a b : Option Addr) (c d : Nat) (xs ys : List Int) (w : World) (R : Bag w a c xs) (hx : rightL xs = false) :
    Calls Tryd.prog 37 #[.slice a xs.length c, .slice b ys.length d] w (Makes2 (addS xs ys) (addOk xs ys) w) := by
  have H := Lib.hid (add_no1 (b := ys) hx)
  have Z := right16 a c xs w R
  rw [hx] at Z
  clear hx R
  go_enter Tryd.func37, Tryd.ntmps37
  go_wp2_with (fail)
  refine Z.mono ?_
  rintro e w' ⟨rfl, rfl⟩
  go_wp2
  go_ret2
  exact makes2_nil H.out.2 H.out.1 (Below.refl _ _)
theorem add10_no2 (a b : Option Addr) (c d : Nat) (xs ys : List Int) (w : World) (R : Bag w a c xs) (S : Bag w b d ys) (hx : rightL xs = true) (hy : rightL ys = false) :
    Calls Tryd.prog 37 #[.slice a xs.length c, .slice b ys.length d] w (Makes2 (addS xs ys) (addOk xs ys) w) := by
  have H := Lib.hid (add_no2 (a := xs) hy)
  have Z := right16 a c xs w R
  have Z2 := right16 b d ys w S
  rw [hx] at Z
  rw [hy] at Z2
  clear hx hy R S
  go_enter Tryd.func37, Tryd.ntmps37
  go_wp2_with (fail)
  refine Z.mono ?_
  rintro e w' ⟨rfl, rfl⟩
  go_wp2_with (fail)
  refine Z2.mono ?_
  rintro e w' ⟨rfl, rfl⟩
  go_wp2
  go_ret2
  exact makes2_nil H.out.2 H.out.1 (Below.refl _ _)

set_option maxHeartbeats 2000000 in
theorem add10_le (a b : Option Addr) (c d : Nat) (xs ys : List Int) (w : World) (R : Bag w a c xs) (S : Bag w b d ys) (hx : rightL xs = true) (hy : rightL ys = true) (hle : xs.length < ys.length) :
    Calls Tryd.prog 37 #[.slice a xs.length c, .slice b ys.length d] w (Makes2 (addS xs ys) (addOk xs ys) w) := by
  have Z := right16 a c xs w R
  have Z2 := right16 b d ys w S
  rw [hx] at Z
  rw [hy] at Z2
  obtain ⟨l, hl⟩ : ∃ l, l = xs.length := ⟨_, rfl⟩
  obtain ⟨m, hm⟩ : ∃ m, m = ys.length := ⟨_, rfl⟩
  have hl12 : l ≤ 12 := by rw [hl]; exact (right_iff.1 hx).1
  have hm12 : m ≤ 12 := by rw [hm]; exact (right_iff.1 hy).1
  have hlm : l < m := by rw [hl, hm]; exact hle
  have HX := Lib.hid hx
  have HY := Lib.hid hy
  rw [← hl, ← hm]
  rw [← hl] at Z
  rw [← hm] at Z2
  have HL := Lib.hid hl.symm
  have HM := Lib.hid hm.symm
  have HR := Lib.hid R
  have HS := Lib.hid S
  clear hl hm hx hy R S hle
  go_enter Tryd.func37, Tryd.ntmps37
  go_wp2_with (fail)
  refine Z.mono ?_
  rintro e w' ⟨rfl, rfl⟩
  go_wp2_with (fail)
  refine Z2.mono ?_
  rintro e w' ⟨rfl, rfl⟩
  clear Z Z2
  go_wp2_with (at_make; refine wpList_make_bag _ rfl _ _ rfl _ _ m rfl rfl rfl rfl (by omega) ?_)
  intro w1 r1 b1
  have HR1 := Lib.hid r1
  clear r1
  go_wp2_with (refine wpList_copy_bag (o := ⟨some 24, _, _, _, _, _⟩) rfl (.tmp 22) (.tmp 23) rfl w.heap.size m a c xs (tab m (fun _ => 0)) l HL.out rfl rfl (HR.out.below b1) HR1.out (tab_len _ _) (by rw [HL.out]; omega) (by omega) w.heap.size w b1 (Nat.le_refl _) ?_)
  intro w2 r2 b2
  rw [addK_zero (ys := ys) (by rw [HL.out]; omega)] at r2
  have HR2 := Lib.hid r2
  clear r2 b1 HR1
  go_wp2_with (fail)
  go_loopw [4, 27] (fun s i wr => ∃ k : Nat, k ≤ m ∧ s = .slice (some ⟨w.heap.size, 0, none⟩) m m ∧ i = .int .i64 k ∧ Hid (Bag wr (some ⟨w.heap.size, 0, none⟩) m (addK xs ys m k)) ∧ Below w.heap.size w wr ∧ Hid (∀ j, j < k → xs.getD j 0 + ys.getD j 0 ≤ 1152921504606846976)) (fun _ i _ => m - (intOf i).toNat)
  case atStart => exact ⟨0, Nat.zero_le _, rfl, rfl, HR2, b2, Lib.hid (fun j h => by omega)⟩
  case round =>
    clear HR2 b2
    obtain ⟨k, hk, rfl, rfl, HB, bel, HE⟩ := hrel
    by_cases hlt : k < m
    · obtain ⟨g', rfl, hc0⟩ := HS.out.at (k := k) (by rw [HM.out]; exact hlt)
      have hc := (bel.cell (p := ⟨g', k, none⟩) (HS.out.lt rfl)).trans hc0
      clear hc0
      obtain ⟨g, e, hs⟩ := HB.out.at (k := k) (by rw [addK_len]; omega)
      injection e with e; injection e with e
      have hg : w.heap.size = g := e
      subst hg
      clear e
      rw [addK_at (by omega)] at hs
      have hf := HB.out.frozen k
      have P := HB.out.set (j := k) (by rw [addK_len]; omega) (xs.getD k 0 + ys.getD k 0)
      rw [addK_set] at P
      have HP := Lib.hid P
      have p1 : okN (xs.getD k 0) = true := okN_iff.2 (right_at HX.out k)
      have p2 : okN (ys.getD k 0) = true := okN_iff.2 (right_at HY.out k)
      clear P
      by_cases hfit : xs.getD k 0 + ys.getD k 0 ≤ 1152921504606846976
      · have M := madd_yes (xs.getD k 0) (ys.getD k 0) wr p1 p2 hfit
        have HF : Hid (∀ j, j < k + 1 → xs.getD j 0 + ys.getD j 0 ≤ 1152921504606846976) := Lib.hid (fun j hj => by
          by_cases e : j = k
          · rw [e]; exact hfit
          · exact HE.out j (by omega))
        clear p1 p2 hfit HE
        generalize xs.getD k 0 = p at *
        generalize ys.getD k 0 = q at *
        go_wp2_with (fail)
        refine M.mono ?_
        rintro e w' ⟨rfl, rfl⟩
        clear M
        go_wp2
        go_roundw
        case rel => exact ⟨k + 1, by omega, rfl, by go_num, HP, bel.setCell (Nat.le_refl _) _, HF⟩
        case measure => simp [intOf]; omega
      · have M := madd_no (xs.getD k 0) (ys.getD k 0) wr p1 p2 (by omega)
        have H := Lib.hid (add_no3 (a := xs) (b := ys) (j := k) (by rw [HL.out, HM.out]; omega) (by omega))
        clear p1 p2 hfit
        generalize xs.getD k 0 = p at *
        generalize ys.getD k 0 = q at *
        go_wp2_with (fail)
        refine M.mono ?_
        rintro e w' ⟨rfl, rfl⟩
        clear M
        go_wp2
        go_ret2
        exact makes2_nil H.out.2 H.out.1 (bel.setCell (Nat.le_refl _) _)
    · obtain rfl : k = m := by omega
      have H := Lib.hid (add_yes HX.out HY.out (fun j _ => by
        by_cases h : j < k
        · exact HE.out j h
        · rw [getD_past (l := ys) (by rw [HM.out]; omega), Int.add_zero]; exact (right_at HX.out j).2))
      have E : addK xs ys k k = addT xs ys := by
        rw [← addK_end (n := k) (by rw [HL.out, HM.out]; omega), HM.out]
      have HE2 := Lib.hid E
      have HL2 : Hid ((addT xs ys).length = k) := Lib.hid (by rw [add_len, HL.out, HM.out]; omega)
      clear E
      go_wp2
      go_ret2
      rw [H.out.1, H.out.2]
      refine ⟨some ⟨w.heap.size, 0, none⟩, k, by rw [HL2.out]; rfl, ?_, fun g e => ?_, bel⟩
      · rw [← HE2.out]; exact HB.out
      · injection e with e; injection e with e; omega

set_option maxHeartbeats 2000000 in
theorem add10_gt (a b : Option Addr) (c d : Nat) (xs ys : List Int) (w : World) (R : Bag w a c xs) (S : Bag w b d ys) (hx : rightL xs = true) (hy : rightL ys = true) (hle : ys.length ≤ xs.length) :
    Calls Tryd.prog 37 #[.slice a xs.length c, .slice b ys.length d] w (Makes2 (addS xs ys) (addOk xs ys) w) := by
  have Z := right16 a c xs w R
  have Z2 := right16 b d ys w S
  rw [hx] at Z
  rw [hy] at Z2
  obtain ⟨l, hl⟩ : ∃ l, l = xs.length := ⟨_, rfl⟩
  obtain ⟨m, hm⟩ : ∃ m, m = ys.length := ⟨_, rfl⟩
  have hl12 : l ≤ 12 := by rw [hl]; exact (right_iff.1 hx).1
  have hm12 : m ≤ 12 := by rw [hm]; exact (right_iff.1 hy).1
  have hlm : m ≤ l := by rw [hl, hm]; exact hle
  have HX := Lib.hid hx
  have HY := Lib.hid hy
  rw [← hl, ← hm]
  rw [← hl] at Z
  rw [← hm] at Z2
  have HL := Lib.hid hl.symm
  have HM := Lib.hid hm.symm
  have HR := Lib.hid R
  have HS := Lib.hid S
  clear hl hm hx hy R S hle
  go_enter Tryd.func37, Tryd.ntmps37
  go_wp2_with (fail)
  refine Z.mono ?_
  rintro e w' ⟨rfl, rfl⟩
  go_wp2_with (fail)
  refine Z2.mono ?_
  rintro e w' ⟨rfl, rfl⟩
  clear Z Z2
  go_wp2_with (at_make; refine wpList_make_bag _ rfl _ _ rfl _ _ l rfl rfl rfl rfl (by omega) ?_)
  intro w1 r1 b1
  have HR1 := Lib.hid r1
  clear r1
  go_wp2_with (refine wpList_copy_bag (o := ⟨some 24, _, _, _, _, _⟩) rfl (.tmp 22) (.tmp 23) rfl w.heap.size l a c xs (tab l (fun _ => 0)) l HL.out rfl rfl (HR.out.below b1) HR1.out (tab_len _ _) (by rw [HL.out]; omega) (by omega) w.heap.size w b1 (Nat.le_refl _) ?_)
  intro w2 r2 b2
  rw [addK_zero (ys := ys) (by rw [HL.out]; omega)] at r2
  have HR2 := Lib.hid r2
  clear r2 b1 HR1
  go_wp2_with (fail)
  go_loopw [4, 27] (fun s i wr => ∃ k : Nat, k ≤ m ∧ s = .slice (some ⟨w.heap.size, 0, none⟩) l l ∧ i = .int .i64 k ∧ Hid (Bag wr (some ⟨w.heap.size, 0, none⟩) l (addK xs ys l k)) ∧ Below w.heap.size w wr ∧ Hid (∀ j, j < k → xs.getD j 0 + ys.getD j 0 ≤ 1152921504606846976)) (fun _ i _ => m - (intOf i).toNat)
  case atStart => exact ⟨0, Nat.zero_le _, rfl, rfl, HR2, b2, Lib.hid (fun j h => by omega)⟩
  case round =>
    clear HR2 b2
    obtain ⟨k, hk, rfl, rfl, HB, bel, HE⟩ := hrel
    by_cases hlt : k < m
    · obtain ⟨g', rfl, hc0⟩ := HS.out.at (k := k) (by rw [HM.out]; exact hlt)
      have hc := (bel.cell (p := ⟨g', k, none⟩) (HS.out.lt rfl)).trans hc0
      clear hc0
      obtain ⟨g, e, hs⟩ := HB.out.at (k := k) (by rw [addK_len]; omega)
      injection e with e; injection e with e
      have hg : w.heap.size = g := e
      subst hg
      clear e
      rw [addK_at (by omega)] at hs
      have hf := HB.out.frozen k
      have P := HB.out.set (j := k) (by rw [addK_len]; omega) (xs.getD k 0 + ys.getD k 0)
      rw [addK_set] at P
      have HP := Lib.hid P
      have p1 : okN (xs.getD k 0) = true := okN_iff.2 (right_at HX.out k)
      have p2 : okN (ys.getD k 0) = true := okN_iff.2 (right_at HY.out k)
      clear P
      by_cases hfit : xs.getD k 0 + ys.getD k 0 ≤ 1152921504606846976
      · have M := madd_yes (xs.getD k 0) (ys.getD k 0) wr p1 p2 hfit
        have HF : Hid (∀ j, j < k + 1 → xs.getD j 0 + ys.getD j 0 ≤ 1152921504606846976) := Lib.hid (fun j hj => by
          by_cases e : j = k
          · rw [e]; exact hfit
          · exact HE.out j (by omega))
        clear p1 p2 hfit HE
        generalize xs.getD k 0 = p at *
        generalize ys.getD k 0 = q at *
        go_wp2_with (fail)
        refine M.mono ?_
        rintro e w' ⟨rfl, rfl⟩
        clear M
        go_wp2
        go_roundw
        case rel => exact ⟨k + 1, by omega, rfl, by go_num, HP, bel.setCell (Nat.le_refl _) _, HF⟩
        case measure => simp [intOf]; omega
      · have M := madd_no (xs.getD k 0) (ys.getD k 0) wr p1 p2 (by omega)
        have H := Lib.hid (add_no3 (a := xs) (b := ys) (j := k) (by rw [HL.out, HM.out]; omega) (by omega))
        clear p1 p2 hfit
        generalize xs.getD k 0 = p at *
        generalize ys.getD k 0 = q at *
        go_wp2_with (fail)
        refine M.mono ?_
        rintro e w' ⟨rfl, rfl⟩
        clear M
        go_wp2
        go_ret2
        exact makes2_nil H.out.2 H.out.1 (bel.setCell (Nat.le_refl _) _)
    · obtain rfl : k = m := by omega
      have H := Lib.hid (add_yes HX.out HY.out (fun j _ => by
        by_cases h : j < k
        · exact HE.out j h
        · rw [getD_past (l := ys) (by rw [HM.out]; omega), Int.add_zero]; exact (right_at HX.out j).2))
      have E : addK xs ys l k = addT xs ys := by
        rw [← addK_end (n := l) (by rw [HL.out, HM.out]; omega), HM.out]
      have HE2 := Lib.hid E
      have HL2 : Hid ((addT xs ys).length = l) := Lib.hid (by rw [add_len, HL.out, HM.out]; omega)
      clear E
      go_wp2
      go_ret2
      rw [H.out.1, H.out.2]
      refine ⟨some ⟨w.heap.size, 0, none⟩, l, by rw [HL2.out]; rfl, ?_, fun g e => ?_, bel⟩
      · rw [← HE2.out]; exact HB.out
      · injection e with e; injection e with e; omega

theorem add10 (a b : Option Addr) (c d : Nat) (xs ys : List Int) (w : World) (R : Bag w a c xs) (S : Bag w b d ys) :
    Calls Tryd.prog 37 #[.slice a xs.length c, .slice b ys.length d] w (Makes2 (addS xs ys) (addOk xs ys) w) := by
  cases hx : rightL xs with
  | false => exact add10_no1 a b c d xs ys w R hx
  | true =>
    cases hy : rightL ys with
    | false => exact add10_no2 a b c d xs ys w R S hx hy
    | true =>
      by_cases h : xs.length < ys.length
      · exact add10_le a b c d xs ys w R S hx hy h
      · exact add10_gt a b c d xs ys w R S hx hy (by omega)
end Go.Proofs.YtmefmnpmppdpmabDoor

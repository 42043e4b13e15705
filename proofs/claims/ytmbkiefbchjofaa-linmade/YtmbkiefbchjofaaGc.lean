/- The walk of the law LinMade. -/
import Derived.Test.YtmbkiefbchjofaaGb
import Derived.Deep.RegionHeld3
import Derived.Deep.CutBlock
import Derived.Deep.DeepCutAuto
import Derived.Deep.CutRange
namespace Go.Proofs.Ytmbkiefbchjofaa
open Go.ChangeShapes Go.WideShapes Go.ChangeAt Go.RowKit

theorem reg_below {W1 W : World} {g pc m k : Nat} {ps : List Bg} (h : LpSt W1 (some ⟨g, 0, none⟩) pc m ps W) (hk : k < m) (hm : m ≤ 1000) {ak : Option Addr} {nk ck : Nat} (V V2 : World) (a : Option Addr) (c gz gt : Nat) (a' : Option Addr) (n' c' : Nat) (r : RegSt W V (some (a, c, (vals ps).drop k ++ (vals ps).take k)) (some gz) (some (gt, [.slice ak nk ck, .slice none 0 0, .slice (some ⟨gz, 0, none⟩) 1 1])))
    (hr : (Builtin.append_ #[27, 27] 27 #[.slice a m c, .slice (some ⟨gt, 0, none⟩) 3 3]).run Try.prog V = .ok (.slice a' n' c') V2) : Below W.heap.size W V2 := by
  have hl : (vals ps).length = m := (vals_len ps).trans h.num
  have e0 : ((vals ps).drop k ++ (vals ps).take k).length = m := by rw [List.length_append, List.length_drop, List.length_take, hl]; omega
  have rt := r.t _ _ rfl
  obtain ⟨v, V', hr', A⟩ := run_app 27 27 26 Try.underlying27 Try.infoBag a c m ((vals ps).drop k ++ (vals ps).take k) V (r.row _ _ _ rfl).1 e0.symm (some ⟨gt, 0, none⟩) 3 3 _ rt rfl (by simp [Value.oneCell']) (by rw [e0]; simp; omega)
  rw [hr] at hr'
  injection hr' with h1 h2
  subst h1; subst h2
  obtain ⟨_, _, _, R⟩ := r.apped A
  exact R.bel

set_option maxHeartbeats 8000000 in
set_option maxRecDepth 100000 in
theorem made_walk (a0 : Option Addr) (l0 c0 : Nat) (z0 : List Int) (t : Int) (ht0 : -9223372036854775808 ≤ t) (ht1 : t ≤ 9223372036854775807) (w : World) (K0 : Hid (Came w a0 l0 c0 z0)) :
    Calls Try.prog 4 #[.slice a0 l0 c0, .int .i64 t] w (True_ w) := by
  go_enter Try.func4, Try.ntmps4
  go_wp2_with (fail)
  with_reducible refine (made_any a0 l0 c0 z0 _ K0.out).mono ?_
  rintro e w1 ⟨x, sx, ax, cx, px, qx, rfl, rx, tx, b⟩
  have BB := b
  clear b
  clear K0
  have lx := sx.few
  generalize hnx : x.base.length = nx
  generalize hmx : x.ps.length = mx
  rw [hmx] at lx
  have HX := Lib.hid sx
  have HS : Hid (Sts w [⟨w1.heap.size, ax, cx, nx, px, qx, mx, x⟩] (w1.alloc (.cells #[.slice ax nx cx, .slice px mx qx] 29))) := Lib.hid (by
    refine ⟨BB.alloc BB.size _, ?_⟩
    intro e he
    simp only [List.mem_cons, List.not_mem_nil, or_false] at he
    subst he
    exact Bx.In.new rx tx hnx hmx)
  have HMX := Lib.hid hmx
  clear rx tx BB hnx hmx sx
  have ex0 : (w1.alloc (.cells #[.slice ax nx cx, .slice px mx qx] 29)).cell? ⟨w1.heap.size, 0, none⟩ = some (.slice ax nx cx) := (HS.out.all ⟨w1.heap.size, ax, cx, nx, px, qx, mx, x⟩ (by simp)).c0
  have ex1 : (w1.alloc (.cells #[.slice ax nx cx, .slice px mx qx] 29)).cell? ⟨w1.heap.size, 1, none⟩ = some (.slice px mx qx) := (HS.out.all ⟨w1.heap.size, ax, cx, nx, px, qx, mx, x⟩ (by simp)).c1
  go_wp2
  generalize w1.alloc (.cells #[.slice ax nx cx, .slice px mx qx] 29) = W1 at HS ex0 ex1 ⊢
  generalize w1.heap.size = g at HS ex0 ex1 ⊢
  go_loopw [6, 17] (fun p i wr => ∃ (k : Nat) (pa : Option Addr) (pc : Nat) (ps : List Bg), k ≤ mx ∧ i = .int .i64 k ∧ p = .slice pa k pc ∧ Hid (LpSt W1 pa pc k ps wr) ∧ Hid (words ps = (x.ps.take k).map (fun q => q ++ [0, 0]))) (fun _ i _ => mx - (intOf i).toNat)
  case atStart => exact ⟨0, none, 0, [], by omega, rfl, rfl, Lib.hid (LpSt.start W1), Lib.hid (by simp [words])⟩
  case round =>
    clear ex0 ex1
    obtain ⟨k, pa, pc, ps, hk, rfl, rfl, HT, HW⟩ := hrel
    by_cases hlt : k < mx
    · have hle := (HS.out.all ⟨g, ax, cx, nx, px, qx, mx, x⟩ (by simp)).ps.le
      rw [HMX.out] at hle
      obtain ⟨gq, b, d, epx, hc, hbag⟩ := ((HS.out.all ⟨g, ax, cx, nx, px, qx, mx, x⟩ (by simp)).ps.below HT.out.bel).at (k := k) (by rw [HMX.out]; exact hlt)
      have HPX := Lib.hid epx
      obtain ⟨xs, hxs⟩ : ∃ xs, xs = x.ps.getD k [] := ⟨_, rfl⟩
      rw [← hxs] at hc hbag
      have hsh : xs.length ≤ 12 := by
        rw [hxs]
        have hm : x.ps.getD k [] ∈ x.ps := by have := HMX.out; simp [List.getD, this, hlt]
        exact (right_iff.1 ((rightLin_iff.1 HX.out.right).2.1 _ hm).1).1
      have HW2 : ∀ a3 c3, words (ps ++ [⟨a3, c3, xs ++ [0, 0]⟩]) = (x.ps.take (k + 1)).map (fun q => q ++ [0, 0]) := fun a3 c3 => by
        have hk' : k < x.ps.length := by rw [HMX.out]; exact hlt
        have e1 : words (ps ++ [⟨a3, c3, xs ++ [0, 0]⟩]) = words ps ++ [xs ++ [0, 0]] := by simp [words]
        have e2 : x.ps.getD k [] = x.ps[k] := by simp [List.getD, hk']
        rw [e1, HW.out, List.take_succ_eq_append_getElem hk', List.map_append, hxs, e2]; rfl
      have HW3 := Lib.hid HW2
      have HZ := Lib.hid (copy_any b d xs wr hbag (by omega))
      clear hxs hbag HW2
      subst epx
      generalize hn : xs.length = n at hc hsh HZ
      have HN := Lib.hid hn
      clear hn
      go_wp2_with (fail)
      refine HZ.out.mono ?_
      rintro e w2 ⟨a2, c2, rfl, r2, f2, b2⟩
      rw [HN.out]
      obtain ⟨a3, c3, w3, a4, c4, w4, hr3, hr4, T4⟩ := HT.out.step b2 r2 f2 HN.out (by omega) (by omega) 22
      have HT4 := Lib.hid T4
      clear T4 r2 f2 b2 HZ hc
      go_wp2_with (first
        | (at_builtin; refine Lib.wpList_append_run (o := ⟨some 25, _, _, _, _, _⟩) _ rfl _ _ _ _ rfl _ _ rfl rfl _ _ hr3 ?_)
        | (at_builtin; refine Lib.wpList_append_run (o := ⟨some 27, _, _, _, _, _⟩) _ rfl _ _ _ _ rfl _ _ rfl rfl _ _ hr4 ?_))
      go_roundw
      case rel => exact ⟨k + 1, a4, c4, _, by omega, by go_num, rfl, HT4, Lib.hid (HW3.out a3 c3)⟩
      case measure => simp [intOf]; omega
    · obtain rfl : mx = k := by omega
      have HW4 : Hid (words ps = noughted x) := Lib.hid (by rw [HW.out, List.take_of_length_le (by rw [HMX.out]; exact Nat.le_refl _)]; rfl)
      clear HW
      have hle := HT.out.row.le
      rw [HT.out.num] at hle
      go_upto_if 31 with (fail)
      go_cut [6] (fun p wx => ∃ (pa : Option Addr) (pc m : Nat) (ps : List Bg), p = .slice pa m pc ∧ Hid (LpSt W1 pa pc m ps wx) ∧ Hid (Again x (words ps)) ∧ m ≤ 6)
      case first =>
        by_cases h0 : mx = 0
        · subst h0
          have HA0 : Hid (Again x (words ps)) := Lib.hid (by
            have e : words ps = [] := List.eq_nil_of_length_eq_zero ((words_len ps).trans HT.out.num)
            rw [e]
            exact again_nil (List.eq_nil_of_length_eq_zero HMX.out))
          go_wp2
          go_meet
          exact ⟨pa, pc, 0, ps, rfl, HT, HA0, by omega⟩
        · have h1 : (0 : Int) < (mx : Int) := by omega
          have hkp : 0 < mx := by omega
          generalize hkm : mx = m at *
          clear hkm
          have HZ := Lib.hid (within_any t m wr hkp (by omega) ht0 ht1)
          go_wp2_with (fail)
          refine HZ.out.mono ?_
          rintro e W' ⟨r, hr0, hr1, rfl, rfl⟩
          obtain ⟨k, rfl⟩ := Int.eq_ofNat_of_zero_le hr0
          clear HZ hr0 h0
          have hkm : k < m := by omega
          obtain ⟨gp, ak, nk, ck, xk, rfl, hcell, hpk, hxk⟩ := HT.out.row.at' (k := k) (by rw [HT.out.num]; exact hkm)
          have hlt := HT.out.row.row.lt rfl
          have HAG : Hid (∀ l, l = ((words ps).drop k ++ (words ps).take k) ++ [(words ps).getD k [], [], [0]] → Again x l) := Lib.hid (fun l e => by
            rw [e]; exact again_turned k (by rw [words_len, HT.out.num]; exact hkm) HW4.out)
          have HC := Lib.hid (reg_copy HT.out hkm (by omega))
          have HP := Lib.hid (reg_app HT.out hkm (by omega))
          have HE := Lib.hid (reg_end HT.out hkm (by omega) hpk hxk)
          have HEB := Lib.hid (reg_below HT.out hkm (by omega) (ak := ak) (nk := nk) (ck := ck))
          have bd : Below wr.heap.size wr wr.drew := ⟨rfl, rfl, rfl, Nat.le_refl _, fun _ _ => rfl⟩
          have hk1 : (k : Int) ≤ (m : Int) := by omega
          have hk2 : (0 : Int) ≤ (k : Int) := by omega
          have hk3 : (k : Int) ≤ (pc : Int) := by omega
          have hk4 : (k : Int) < (m : Int) := by omega
          have hk5 : k < pc := by omega
          have hk6 : ¬ pc = k := by omega
          clear hpk hxk
          go_wp2_with (fail)
          refine wp_region_held_drew (S := fun w' => Below wr.heap.size wr w') (by kernel_rfl) bd (fun hHeld => ?_)
          clear hHeld
          refine wpAnyH_take (i := 0) (oi := { dst := some 36, op := Op.move (Operand.tmp 6), type := 27, pos := "law.go:60", after := #[], guard := none }) (v := ?_) rfl (by kernel_rfl) (by kernel_rfl) (by kernel_rfl) (fun _ _ _ h => h) (Or.inl ⟨by rfl, ?_⟩) bd ?_
          rotate_left
          · intro w hSw
            go_simp
            try with_reducible rfl
          try simp only [Act.put, List.setIfInBounds_toArray, List.set_cons_zero, List.set_cons_succ]
          refine wpAnyH_take (i := 1) (oi := { dst := some 37, op := Op.move (Operand.tmp 9), type := 3, pos := "law.go:60", after := #[], guard := none }) (v := ?_) rfl (by kernel_rfl) (by kernel_rfl) (by kernel_rfl) (fun _ _ _ h => h) (Or.inl ⟨by rfl, ?_⟩) bd ?_
          rotate_left
          · intro w hSw
            go_simp
            try with_reducible rfl
          try simp only [Act.put, List.setIfInBounds_toArray, List.set_cons_zero, List.set_cons_succ]
          refine wpAnyH_take (i := 2) (oi := { dst := some 38, op := Op.slice 27 (Operand.tmp 36) (some (Operand.tmp 37)) none none, type := 27, pos := "law.go:60", after := #[{ on := 0, ground := Ground.data }, { on := 1, ground := Ground.data }], guard := none }) (v := ?_) rfl (by kernel_rfl) (by kernel_rfl) (by kernel_rfl) (fun _ _ _ h => h) (Or.inl ⟨by rfl, ?_⟩) bd ?_
          rotate_left
          · intro w hSw
            go_simp
            try with_reducible rfl
          try simp only [Act.put, List.setIfInBounds_toArray, List.set_cons_zero, List.set_cons_succ]
          refine wpAnyH_take (i := 4) (oi := { dst := some 40, op := Op.move (Operand.tmp 6), type := 27, pos := "law.go:60", after := #[], guard := none }) (v := ?_) rfl (by kernel_rfl) (by kernel_rfl) (by kernel_rfl) (fun _ _ _ h => h) (Or.inl ⟨by rfl, ?_⟩) bd ?_
          rotate_left
          · intro w hSw
            go_simp
            try with_reducible rfl
          try simp only [Act.put, List.setIfInBounds_toArray, List.set_cons_zero, List.set_cons_succ]
          refine wpAnyH_take (i := 5) (oi := { dst := some 41, op := Op.move (Operand.tmp 9), type := 3, pos := "law.go:60", after := #[], guard := none }) (v := ?_) rfl (by kernel_rfl) (by kernel_rfl) (by kernel_rfl) (fun _ _ _ h => h) (Or.inl ⟨by rfl, ?_⟩) bd ?_
          rotate_left
          · intro w hSw
            go_simp
            try with_reducible rfl
          try simp only [Act.put, List.setIfInBounds_toArray, List.set_cons_zero, List.set_cons_succ]
          refine wpAnyH_take (i := 6) (oi := { dst := some 42, op := Op.slice 27 (Operand.tmp 40) none (some (Operand.tmp 41)) none, type := 27, pos := "law.go:60", after := #[{ on := 4, ground := Ground.data }, { on := 5, ground := Ground.data }], guard := none }) (v := ?_) rfl (by kernel_rfl) (by kernel_rfl) (by kernel_rfl) (fun _ _ _ h => h) (Or.inl ⟨by rfl, ?_⟩) bd ?_
          rotate_left
          · intro w hSw
            go_simp
            try with_reducible rfl
          try simp only [Act.put, List.setIfInBounds_toArray, List.set_cons_zero, List.set_cons_succ]
          refine wpAnyH_take (i := 8) (oi := { dst := some 44, op := Op.move (Operand.tmp 6), type := 27, pos := "law.go:60", after := #[], guard := none }) (v := ?_) rfl (by kernel_rfl) (by kernel_rfl) (by kernel_rfl) (fun _ _ _ h => h) (Or.inl ⟨by rfl, ?_⟩) bd ?_
          rotate_left
          · intro w hSw
            go_simp
            try with_reducible rfl
          try simp only [Act.put, List.setIfInBounds_toArray, List.set_cons_zero, List.set_cons_succ]
          refine wpAnyH_take (i := 9) (oi := { dst := some 45, op := Op.move (Operand.tmp 9), type := 3, pos := "law.go:60", after := #[], guard := none }) (v := ?_) rfl (by kernel_rfl) (by kernel_rfl) (by kernel_rfl) (fun _ _ _ h => h) (Or.inl ⟨by rfl, ?_⟩) bd ?_
          rotate_left
          · intro w hSw
            go_simp
            try with_reducible rfl
          try simp only [Act.put, List.setIfInBounds_toArray, List.set_cons_zero, List.set_cons_succ]
          refine wpAnyH_take (i := 10) (oi := { dst := some 46, op := Op.indexAddr 27 (Operand.tmp 44) (Operand.tmp 45), type := 0, pos := "law.go:60", after := #[{ on := 8, ground := Ground.data }, { on := 9, ground := Ground.data }], guard := none }) (v := ?_) rfl (by kernel_rfl) (by kernel_rfl) (by kernel_rfl) (fun _ _ _ h => h) (Or.inl ⟨by rfl, ?_⟩) bd ?_
          rotate_left
          · intro w hSw
            go_simp
            try with_reducible rfl
          try simp only [Act.put, List.setIfInBounds_toArray, List.set_cons_zero, List.set_cons_succ]
          refine wpAnyH_take (i := 11) (oi := { dst := some 47, op := Op.load 26 (Operand.tmp 46), type := 26, pos := "law.go:60", after := #[{ on := 10, ground := Ground.data }], guard := none }) (v := ?_) rfl (by kernel_rfl) (by kernel_rfl) (by kernel_rfl) (fun _ _ _ h => h) (Or.inl ⟨by rfl, ?_⟩) bd ?_
          rotate_left
          · intro w hSw
            have f := (hSw.cell (p := ⟨gp, k, none⟩) hlt).trans hcell
            go_simp
            try with_reducible rfl
          try simp only [Act.put, List.setIfInBounds_toArray, List.set_cons_zero, List.set_cons_succ]
          have HR : Hid (RegSt wr wr.drew none none none) := Lib.hid (RegSt.start bd)
          generalize wr.drew = V0 at HR ⊢
          clear bd
          refine wpAnyH_ready (rs := [3, 12]) (by kernel_rfl) (by simp) ?_
          refine AllReadyH.cons (o := { dst := some 39, op := Op.call { callee := Callee.value (Operand.func 24), args := #[Operand.tmp 38], argTypes := #[27] }, type := 27, pos := "law.go:60", after := #[{ on := 2, ground := Ground.data }], guard := none }) rfl (fun K hK => ?_) ?_
          · go_simp
            refine (HC.out V0 HR.out.bel).mono ?_
            rintro e V1 ⟨aA, cA, rfl, rA, fA, bA⟩
            have HR := Lib.hid (HR.out.copied bA rA fA)
            clear bA rA fA
            go_wp2_with (fail)
            refine hK.out _ _ HR.out.bel (fun hHeld => ?_)
            clear hK K hHeld
            try simp only [Act.put, List.setIfInBounds_toArray, List.set_cons_zero, List.set_cons_succ]
            refine wpAnyH_ready (rs := [7, 12]) (by kernel_rfl) (by simp) ?_
            refine AllReadyH.cons (o := { dst := some 43, op := Op.call { callee := Callee.builtin Builtin.append, args := #[Operand.tmp 39, Operand.tmp 42], argTypes := #[27, 27] }, type := 27, pos := "law.go:60", after := #[{ on := 3, ground := Ground.data }, { on := 6, ground := Ground.data }, { on := 3, ground := Ground.chain }], guard := none }) rfl (fun K hK => ?_) ?_
            · obtain ⟨aB, cB, V2, hr, R2⟩ := HP.out V1 aA cA _ _ HR.out
              have HR := Lib.hid R2
              clear R2
              refine step_append_run _ rfl _ _ _ _ rfl _ _ rfl rfl _ _ hr ?_
              clear hr
              refine hK.out _ _ HR.out.bel (fun hHeld => ?_)
              clear hK K hHeld
              try simp only [Act.put, List.setIfInBounds_toArray, List.set_cons_zero, List.set_cons_succ]
              refine wpAnyH_ready (rs := [12]) (by kernel_rfl) (by simp) ?_
              refine AllReadyH.cons (o := { dst := some 48, op := Op.buildSlice 26 1 #[(0, Operand.const (Value.int IntKind.i64 0))], type := 26, pos := "law.go:60", after := #[], guard := none }) rfl (fun K hK => ?_) AllReadyH.nil
              have HR := Lib.hid HR.out.allocZ
              go_simp
              refine hK.out _ _ HR.out.bel (fun hHeld => ?_)
              clear hK K hHeld
              try simp only [Act.put, List.setIfInBounds_toArray, List.set_cons_zero, List.set_cons_succ]
              generalize V2.alloc (.cells #[.int .i64 0] 3) = V3 at HR ⊢
              generalize V2.heap.size = gz at HR ⊢
              refine wpAnyH_ready (rs := [13]) (by kernel_rfl) (by simp) ?_
              refine AllReadyH.cons (o := { dst := some 49, op := Op.buildSlice 27 3 #[(0, Operand.tmp 47), (1, Operand.const (Value.slice none 0 0)), (2, Operand.tmp 48)], type := 27, pos := "law.go:60", after := #[{ on := 11, ground := Ground.data }, { on := 12, ground := Ground.data }], guard := none }) rfl (fun K hK => ?_) AllReadyH.nil
              have HR := Lib.hid (HR.out.allocT (.slice ak nk ck) (.slice none 0 0) (.slice (some ⟨gz, 0, none⟩) 1 1))
              go_simp
              refine hK.out _ _ HR.out.bel (fun hHeld => ?_)
              clear hK K hHeld
              try simp only [Act.put, List.setIfInBounds_toArray, List.set_cons_zero, List.set_cons_succ]
              generalize V3.alloc (.cells #[.slice ak nk ck, .slice none 0 0, .slice (some ⟨gz, 0, none⟩) 1 1] 26) = V4 at HR ⊢
              generalize V3.heap.size = gt at HR ⊢
              obtain ⟨a5, c5, V5, ps5, hr, HL5, HW5⟩ := HE.out V4 aB cB gz gt HR.out
              have bE : Below wr.heap.size wr V5 := HEB.out V4 V5 aB cB gz gt _ _ _ HR.out hr
              refine wpAnyH_ready (rs := [14]) (by kernel_rfl) (by simp) ?_
              refine AllReadyH.cons (o := { dst := some 50, op := Op.call { callee := Callee.builtin Builtin.append, args := #[Operand.tmp 43, Operand.tmp 49], argTypes := #[27, 27] }, type := 27, pos := "law.go:60", after := #[{ on := 7, ground := Ground.data }, { on := 13, ground := Ground.data }, { on := 7, ground := Ground.chain }], guard := none }) rfl (fun K hK => ?_) AllReadyH.nil
              refine step_append_run _ rfl _ _ _ _ rfl _ _ rfl rfl _ _ hr ?_
              refine hK.out _ _ bE (fun hHeld => ?_)
              clear hK K hHeld
              try simp only [Act.put, List.setIfInBounds_toArray, List.set_cons_zero, List.set_cons_succ]
              refine wpAnyH_take (i := 15) (oi := { dst := some 6, op := Op.assign (Operand.tmp 50), type := 27, pos := "law.go:60", after := #[{ on := 14, ground := Ground.data }, { on := 14, ground := Ground.chain }, { on := 0, ground := Ground.phase }, { on := 1, ground := Ground.phase }, { on := 2, ground := Ground.phase }, { on := 3, ground := Ground.phase }, { on := 4, ground := Ground.phase }, { on := 5, ground := Ground.phase }, { on := 6, ground := Ground.phase }, { on := 7, ground := Ground.phase }, { on := 8, ground := Ground.phase }, { on := 9, ground := Ground.phase }, { on := 10, ground := Ground.phase }, { on := 11, ground := Ground.phase }, { on := 12, ground := Ground.phase }, { on := 13, ground := Ground.phase }, { on := 14, ground := Ground.phase }], guard := none }) (v := ?_) rfl (by kernel_rfl) (by kernel_rfl) (by kernel_rfl) (fun _ _ _ h => h) (Or.inl ⟨by rfl, ?_⟩) bE ?_
              rotate_left
              · intro w hSw
                go_simp
                try with_reducible rfl
              try simp only [Act.put, List.setIfInBounds_toArray, List.set_cons_zero, List.set_cons_succ]
              refine wpAnyH_done (by kernel_rfl) ?_ _
              have HL6 := Lib.hid HL5
              have HA6 := Lib.hid (HAG.out _ HW5)
              clear HL5 HW5 HR hr bE
              go_wp2
              go_meet
              exact ⟨a5, c5, m + 3, ps5, rfl, HL6, HA6, by omega⟩
            refine AllReadyH.cons (o := { dst := some 48, op := Op.buildSlice 26 1 #[(0, Operand.const (Value.int IntKind.i64 0))], type := 26, pos := "law.go:60", after := #[], guard := none }) rfl (fun K hK => ?_) AllReadyH.nil
            have HR := Lib.hid HR.out.allocZ
            go_simp
            refine hK.out _ _ HR.out.bel (fun hHeld => ?_)
            clear hK K hHeld
            try simp only [Act.put, List.setIfInBounds_toArray, List.set_cons_zero, List.set_cons_succ]
            generalize V1.alloc (.cells #[.int .i64 0] 3) = V2 at HR ⊢
            generalize V1.heap.size = gz at HR ⊢
            refine wpAnyH_ready (rs := [7, 13]) (by kernel_rfl) (by simp) ?_
            refine AllReadyH.cons (o := { dst := some 43, op := Op.call { callee := Callee.builtin Builtin.append, args := #[Operand.tmp 39, Operand.tmp 42], argTypes := #[27, 27] }, type := 27, pos := "law.go:60", after := #[{ on := 3, ground := Ground.data }, { on := 6, ground := Ground.data }, { on := 3, ground := Ground.chain }], guard := none }) rfl (fun K hK => ?_) ?_
            · obtain ⟨aB, cB, V3, hr, R2⟩ := HP.out V2 aA cA _ _ HR.out
              have HR := Lib.hid R2
              clear R2
              refine step_append_run _ rfl _ _ _ _ rfl _ _ rfl rfl _ _ hr ?_
              clear hr
              refine hK.out _ _ HR.out.bel (fun hHeld => ?_)
              clear hK K hHeld
              try simp only [Act.put, List.setIfInBounds_toArray, List.set_cons_zero, List.set_cons_succ]
              refine wpAnyH_ready (rs := [13]) (by kernel_rfl) (by simp) ?_
              refine AllReadyH.cons (o := { dst := some 49, op := Op.buildSlice 27 3 #[(0, Operand.tmp 47), (1, Operand.const (Value.slice none 0 0)), (2, Operand.tmp 48)], type := 27, pos := "law.go:60", after := #[{ on := 11, ground := Ground.data }, { on := 12, ground := Ground.data }], guard := none }) rfl (fun K hK => ?_) AllReadyH.nil
              have HR := Lib.hid (HR.out.allocT (.slice ak nk ck) (.slice none 0 0) (.slice (some ⟨gz, 0, none⟩) 1 1))
              go_simp
              refine hK.out _ _ HR.out.bel (fun hHeld => ?_)
              clear hK K hHeld
              try simp only [Act.put, List.setIfInBounds_toArray, List.set_cons_zero, List.set_cons_succ]
              generalize V3.alloc (.cells #[.slice ak nk ck, .slice none 0 0, .slice (some ⟨gz, 0, none⟩) 1 1] 26) = V4 at HR ⊢
              generalize V3.heap.size = gt at HR ⊢
              obtain ⟨a5, c5, V5, ps5, hr, HL5, HW5⟩ := HE.out V4 aB cB gz gt HR.out
              have bE : Below wr.heap.size wr V5 := HEB.out V4 V5 aB cB gz gt _ _ _ HR.out hr
              refine wpAnyH_ready (rs := [14]) (by kernel_rfl) (by simp) ?_
              refine AllReadyH.cons (o := { dst := some 50, op := Op.call { callee := Callee.builtin Builtin.append, args := #[Operand.tmp 43, Operand.tmp 49], argTypes := #[27, 27] }, type := 27, pos := "law.go:60", after := #[{ on := 7, ground := Ground.data }, { on := 13, ground := Ground.data }, { on := 7, ground := Ground.chain }], guard := none }) rfl (fun K hK => ?_) AllReadyH.nil
              refine step_append_run _ rfl _ _ _ _ rfl _ _ rfl rfl _ _ hr ?_
              refine hK.out _ _ bE (fun hHeld => ?_)
              clear hK K hHeld
              try simp only [Act.put, List.setIfInBounds_toArray, List.set_cons_zero, List.set_cons_succ]
              refine wpAnyH_take (i := 15) (oi := { dst := some 6, op := Op.assign (Operand.tmp 50), type := 27, pos := "law.go:60", after := #[{ on := 14, ground := Ground.data }, { on := 14, ground := Ground.chain }, { on := 0, ground := Ground.phase }, { on := 1, ground := Ground.phase }, { on := 2, ground := Ground.phase }, { on := 3, ground := Ground.phase }, { on := 4, ground := Ground.phase }, { on := 5, ground := Ground.phase }, { on := 6, ground := Ground.phase }, { on := 7, ground := Ground.phase }, { on := 8, ground := Ground.phase }, { on := 9, ground := Ground.phase }, { on := 10, ground := Ground.phase }, { on := 11, ground := Ground.phase }, { on := 12, ground := Ground.phase }, { on := 13, ground := Ground.phase }, { on := 14, ground := Ground.phase }], guard := none }) (v := ?_) rfl (by kernel_rfl) (by kernel_rfl) (by kernel_rfl) (fun _ _ _ h => h) (Or.inl ⟨by rfl, ?_⟩) bE ?_
              rotate_left
              · intro w hSw
                go_simp
                try with_reducible rfl
              try simp only [Act.put, List.setIfInBounds_toArray, List.set_cons_zero, List.set_cons_succ]
              refine wpAnyH_done (by kernel_rfl) ?_ _
              have HL6 := Lib.hid HL5
              have HA6 := Lib.hid (HAG.out _ HW5)
              clear HL5 HW5 HR hr bE
              go_wp2
              go_meet
              exact ⟨a5, c5, m + 3, ps5, rfl, HL6, HA6, by omega⟩
            refine AllReadyH.cons (o := { dst := some 49, op := Op.buildSlice 27 3 #[(0, Operand.tmp 47), (1, Operand.const (Value.slice none 0 0)), (2, Operand.tmp 48)], type := 27, pos := "law.go:60", after := #[{ on := 11, ground := Ground.data }, { on := 12, ground := Ground.data }], guard := none }) rfl (fun K hK => ?_) AllReadyH.nil
            have HR := Lib.hid (HR.out.allocT (.slice ak nk ck) (.slice none 0 0) (.slice (some ⟨gz, 0, none⟩) 1 1))
            go_simp
            refine hK.out _ _ HR.out.bel (fun hHeld => ?_)
            clear hK K hHeld
            try simp only [Act.put, List.setIfInBounds_toArray, List.set_cons_zero, List.set_cons_succ]
            generalize V2.alloc (.cells #[.slice ak nk ck, .slice none 0 0, .slice (some ⟨gz, 0, none⟩) 1 1] 26) = V3 at HR ⊢
            generalize V2.heap.size = gt at HR ⊢
            refine wpAnyH_ready (rs := [7]) (by kernel_rfl) (by simp) ?_
            refine AllReadyH.cons (o := { dst := some 43, op := Op.call { callee := Callee.builtin Builtin.append, args := #[Operand.tmp 39, Operand.tmp 42], argTypes := #[27, 27] }, type := 27, pos := "law.go:60", after := #[{ on := 3, ground := Ground.data }, { on := 6, ground := Ground.data }, { on := 3, ground := Ground.chain }], guard := none }) rfl (fun K hK => ?_) AllReadyH.nil
            obtain ⟨aB, cB, V4, hr, R2⟩ := HP.out V3 aA cA _ _ HR.out
            have HR := Lib.hid R2
            clear R2
            refine step_append_run _ rfl _ _ _ _ rfl _ _ rfl rfl _ _ hr ?_
            clear hr
            refine hK.out _ _ HR.out.bel (fun hHeld => ?_)
            clear hK K hHeld
            try simp only [Act.put, List.setIfInBounds_toArray, List.set_cons_zero, List.set_cons_succ]
            obtain ⟨a5, c5, V5, ps5, hr, HL5, HW5⟩ := HE.out V4 aB cB gz gt HR.out
            have bE : Below wr.heap.size wr V5 := HEB.out V4 V5 aB cB gz gt _ _ _ HR.out hr
            refine wpAnyH_ready (rs := [14]) (by kernel_rfl) (by simp) ?_
            refine AllReadyH.cons (o := { dst := some 50, op := Op.call { callee := Callee.builtin Builtin.append, args := #[Operand.tmp 43, Operand.tmp 49], argTypes := #[27, 27] }, type := 27, pos := "law.go:60", after := #[{ on := 7, ground := Ground.data }, { on := 13, ground := Ground.data }, { on := 7, ground := Ground.chain }], guard := none }) rfl (fun K hK => ?_) AllReadyH.nil
            refine step_append_run _ rfl _ _ _ _ rfl _ _ rfl rfl _ _ hr ?_
            refine hK.out _ _ bE (fun hHeld => ?_)
            clear hK K hHeld
            try simp only [Act.put, List.setIfInBounds_toArray, List.set_cons_zero, List.set_cons_succ]
            refine wpAnyH_take (i := 15) (oi := { dst := some 6, op := Op.assign (Operand.tmp 50), type := 27, pos := "law.go:60", after := #[{ on := 14, ground := Ground.data }, { on := 14, ground := Ground.chain }, { on := 0, ground := Ground.phase }, { on := 1, ground := Ground.phase }, { on := 2, ground := Ground.phase }, { on := 3, ground := Ground.phase }, { on := 4, ground := Ground.phase }, { on := 5, ground := Ground.phase }, { on := 6, ground := Ground.phase }, { on := 7, ground := Ground.phase }, { on := 8, ground := Ground.phase }, { on := 9, ground := Ground.phase }, { on := 10, ground := Ground.phase }, { on := 11, ground := Ground.phase }, { on := 12, ground := Ground.phase }, { on := 13, ground := Ground.phase }, { on := 14, ground := Ground.phase }], guard := none }) (v := ?_) rfl (by kernel_rfl) (by kernel_rfl) (by kernel_rfl) (fun _ _ _ h => h) (Or.inl ⟨by rfl, ?_⟩) bE ?_
            rotate_left
            · intro w hSw
              go_simp
              try with_reducible rfl
            try simp only [Act.put, List.setIfInBounds_toArray, List.set_cons_zero, List.set_cons_succ]
            refine wpAnyH_done (by kernel_rfl) ?_ _
            have HL6 := Lib.hid HL5
            have HA6 := Lib.hid (HAG.out _ HW5)
            clear HL5 HW5 HR hr bE
            go_wp2
            go_meet
            exact ⟨a5, c5, m + 3, ps5, rfl, HL6, HA6, by omega⟩
          refine AllReadyH.cons (o := { dst := some 48, op := Op.buildSlice 26 1 #[(0, Operand.const (Value.int IntKind.i64 0))], type := 26, pos := "law.go:60", after := #[], guard := none }) rfl (fun K hK => ?_) AllReadyH.nil
          have HR := Lib.hid HR.out.allocZ
          go_simp
          refine hK.out _ _ HR.out.bel (fun hHeld => ?_)
          clear hK K hHeld
          try simp only [Act.put, List.setIfInBounds_toArray, List.set_cons_zero, List.set_cons_succ]
          generalize V0.alloc (.cells #[.int .i64 0] 3) = V1 at HR ⊢
          generalize V0.heap.size = gz at HR ⊢
          refine wpAnyH_ready (rs := [3, 13]) (by kernel_rfl) (by simp) ?_
          refine AllReadyH.cons (o := { dst := some 39, op := Op.call { callee := Callee.value (Operand.func 24), args := #[Operand.tmp 38], argTypes := #[27] }, type := 27, pos := "law.go:60", after := #[{ on := 2, ground := Ground.data }], guard := none }) rfl (fun K hK => ?_) ?_
          · go_simp
            refine (HC.out V1 HR.out.bel).mono ?_
            rintro e V2 ⟨aA, cA, rfl, rA, fA, bA⟩
            have HR := Lib.hid (HR.out.copied bA rA fA)
            clear bA rA fA
            go_wp2_with (fail)
            refine hK.out _ _ HR.out.bel (fun hHeld => ?_)
            clear hK K hHeld
            try simp only [Act.put, List.setIfInBounds_toArray, List.set_cons_zero, List.set_cons_succ]
            refine wpAnyH_ready (rs := [7, 13]) (by kernel_rfl) (by simp) ?_
            refine AllReadyH.cons (o := { dst := some 43, op := Op.call { callee := Callee.builtin Builtin.append, args := #[Operand.tmp 39, Operand.tmp 42], argTypes := #[27, 27] }, type := 27, pos := "law.go:60", after := #[{ on := 3, ground := Ground.data }, { on := 6, ground := Ground.data }, { on := 3, ground := Ground.chain }], guard := none }) rfl (fun K hK => ?_) ?_
            · obtain ⟨aB, cB, V3, hr, R2⟩ := HP.out V2 aA cA _ _ HR.out
              have HR := Lib.hid R2
              clear R2
              refine step_append_run _ rfl _ _ _ _ rfl _ _ rfl rfl _ _ hr ?_
              clear hr
              refine hK.out _ _ HR.out.bel (fun hHeld => ?_)
              clear hK K hHeld
              try simp only [Act.put, List.setIfInBounds_toArray, List.set_cons_zero, List.set_cons_succ]
              refine wpAnyH_ready (rs := [13]) (by kernel_rfl) (by simp) ?_
              refine AllReadyH.cons (o := { dst := some 49, op := Op.buildSlice 27 3 #[(0, Operand.tmp 47), (1, Operand.const (Value.slice none 0 0)), (2, Operand.tmp 48)], type := 27, pos := "law.go:60", after := #[{ on := 11, ground := Ground.data }, { on := 12, ground := Ground.data }], guard := none }) rfl (fun K hK => ?_) AllReadyH.nil
              have HR := Lib.hid (HR.out.allocT (.slice ak nk ck) (.slice none 0 0) (.slice (some ⟨gz, 0, none⟩) 1 1))
              go_simp
              refine hK.out _ _ HR.out.bel (fun hHeld => ?_)
              clear hK K hHeld
              try simp only [Act.put, List.setIfInBounds_toArray, List.set_cons_zero, List.set_cons_succ]
              generalize V3.alloc (.cells #[.slice ak nk ck, .slice none 0 0, .slice (some ⟨gz, 0, none⟩) 1 1] 26) = V4 at HR ⊢
              generalize V3.heap.size = gt at HR ⊢
              obtain ⟨a5, c5, V5, ps5, hr, HL5, HW5⟩ := HE.out V4 aB cB gz gt HR.out
              have bE : Below wr.heap.size wr V5 := HEB.out V4 V5 aB cB gz gt _ _ _ HR.out hr
              refine wpAnyH_ready (rs := [14]) (by kernel_rfl) (by simp) ?_
              refine AllReadyH.cons (o := { dst := some 50, op := Op.call { callee := Callee.builtin Builtin.append, args := #[Operand.tmp 43, Operand.tmp 49], argTypes := #[27, 27] }, type := 27, pos := "law.go:60", after := #[{ on := 7, ground := Ground.data }, { on := 13, ground := Ground.data }, { on := 7, ground := Ground.chain }], guard := none }) rfl (fun K hK => ?_) AllReadyH.nil
              refine step_append_run _ rfl _ _ _ _ rfl _ _ rfl rfl _ _ hr ?_
              refine hK.out _ _ bE (fun hHeld => ?_)
              clear hK K hHeld
              try simp only [Act.put, List.setIfInBounds_toArray, List.set_cons_zero, List.set_cons_succ]
              refine wpAnyH_take (i := 15) (oi := { dst := some 6, op := Op.assign (Operand.tmp 50), type := 27, pos := "law.go:60", after := #[{ on := 14, ground := Ground.data }, { on := 14, ground := Ground.chain }, { on := 0, ground := Ground.phase }, { on := 1, ground := Ground.phase }, { on := 2, ground := Ground.phase }, { on := 3, ground := Ground.phase }, { on := 4, ground := Ground.phase }, { on := 5, ground := Ground.phase }, { on := 6, ground := Ground.phase }, { on := 7, ground := Ground.phase }, { on := 8, ground := Ground.phase }, { on := 9, ground := Ground.phase }, { on := 10, ground := Ground.phase }, { on := 11, ground := Ground.phase }, { on := 12, ground := Ground.phase }, { on := 13, ground := Ground.phase }, { on := 14, ground := Ground.phase }], guard := none }) (v := ?_) rfl (by kernel_rfl) (by kernel_rfl) (by kernel_rfl) (fun _ _ _ h => h) (Or.inl ⟨by rfl, ?_⟩) bE ?_
              rotate_left
              · intro w hSw
                go_simp
                try with_reducible rfl
              try simp only [Act.put, List.setIfInBounds_toArray, List.set_cons_zero, List.set_cons_succ]
              refine wpAnyH_done (by kernel_rfl) ?_ _
              have HL6 := Lib.hid HL5
              have HA6 := Lib.hid (HAG.out _ HW5)
              clear HL5 HW5 HR hr bE
              go_wp2
              go_meet
              exact ⟨a5, c5, m + 3, ps5, rfl, HL6, HA6, by omega⟩
            refine AllReadyH.cons (o := { dst := some 49, op := Op.buildSlice 27 3 #[(0, Operand.tmp 47), (1, Operand.const (Value.slice none 0 0)), (2, Operand.tmp 48)], type := 27, pos := "law.go:60", after := #[{ on := 11, ground := Ground.data }, { on := 12, ground := Ground.data }], guard := none }) rfl (fun K hK => ?_) AllReadyH.nil
            have HR := Lib.hid (HR.out.allocT (.slice ak nk ck) (.slice none 0 0) (.slice (some ⟨gz, 0, none⟩) 1 1))
            go_simp
            refine hK.out _ _ HR.out.bel (fun hHeld => ?_)
            clear hK K hHeld
            try simp only [Act.put, List.setIfInBounds_toArray, List.set_cons_zero, List.set_cons_succ]
            generalize V2.alloc (.cells #[.slice ak nk ck, .slice none 0 0, .slice (some ⟨gz, 0, none⟩) 1 1] 26) = V3 at HR ⊢
            generalize V2.heap.size = gt at HR ⊢
            refine wpAnyH_ready (rs := [7]) (by kernel_rfl) (by simp) ?_
            refine AllReadyH.cons (o := { dst := some 43, op := Op.call { callee := Callee.builtin Builtin.append, args := #[Operand.tmp 39, Operand.tmp 42], argTypes := #[27, 27] }, type := 27, pos := "law.go:60", after := #[{ on := 3, ground := Ground.data }, { on := 6, ground := Ground.data }, { on := 3, ground := Ground.chain }], guard := none }) rfl (fun K hK => ?_) AllReadyH.nil
            obtain ⟨aB, cB, V4, hr, R2⟩ := HP.out V3 aA cA _ _ HR.out
            have HR := Lib.hid R2
            clear R2
            refine step_append_run _ rfl _ _ _ _ rfl _ _ rfl rfl _ _ hr ?_
            clear hr
            refine hK.out _ _ HR.out.bel (fun hHeld => ?_)
            clear hK K hHeld
            try simp only [Act.put, List.setIfInBounds_toArray, List.set_cons_zero, List.set_cons_succ]
            obtain ⟨a5, c5, V5, ps5, hr, HL5, HW5⟩ := HE.out V4 aB cB gz gt HR.out
            have bE : Below wr.heap.size wr V5 := HEB.out V4 V5 aB cB gz gt _ _ _ HR.out hr
            refine wpAnyH_ready (rs := [14]) (by kernel_rfl) (by simp) ?_
            refine AllReadyH.cons (o := { dst := some 50, op := Op.call { callee := Callee.builtin Builtin.append, args := #[Operand.tmp 43, Operand.tmp 49], argTypes := #[27, 27] }, type := 27, pos := "law.go:60", after := #[{ on := 7, ground := Ground.data }, { on := 13, ground := Ground.data }, { on := 7, ground := Ground.chain }], guard := none }) rfl (fun K hK => ?_) AllReadyH.nil
            refine step_append_run _ rfl _ _ _ _ rfl _ _ rfl rfl _ _ hr ?_
            refine hK.out _ _ bE (fun hHeld => ?_)
            clear hK K hHeld
            try simp only [Act.put, List.setIfInBounds_toArray, List.set_cons_zero, List.set_cons_succ]
            refine wpAnyH_take (i := 15) (oi := { dst := some 6, op := Op.assign (Operand.tmp 50), type := 27, pos := "law.go:60", after := #[{ on := 14, ground := Ground.data }, { on := 14, ground := Ground.chain }, { on := 0, ground := Ground.phase }, { on := 1, ground := Ground.phase }, { on := 2, ground := Ground.phase }, { on := 3, ground := Ground.phase }, { on := 4, ground := Ground.phase }, { on := 5, ground := Ground.phase }, { on := 6, ground := Ground.phase }, { on := 7, ground := Ground.phase }, { on := 8, ground := Ground.phase }, { on := 9, ground := Ground.phase }, { on := 10, ground := Ground.phase }, { on := 11, ground := Ground.phase }, { on := 12, ground := Ground.phase }, { on := 13, ground := Ground.phase }, { on := 14, ground := Ground.phase }], guard := none }) (v := ?_) rfl (by kernel_rfl) (by kernel_rfl) (by kernel_rfl) (fun _ _ _ h => h) (Or.inl ⟨by rfl, ?_⟩) bE ?_
            rotate_left
            · intro w hSw
              go_simp
              try with_reducible rfl
            try simp only [Act.put, List.setIfInBounds_toArray, List.set_cons_zero, List.set_cons_succ]
            refine wpAnyH_done (by kernel_rfl) ?_ _
            have HL6 := Lib.hid HL5
            have HA6 := Lib.hid (HAG.out _ HW5)
            clear HL5 HW5 HR hr bE
            go_wp2
            go_meet
            exact ⟨a5, c5, m + 3, ps5, rfl, HL6, HA6, by omega⟩
          refine AllReadyH.cons (o := { dst := some 49, op := Op.buildSlice 27 3 #[(0, Operand.tmp 47), (1, Operand.const (Value.slice none 0 0)), (2, Operand.tmp 48)], type := 27, pos := "law.go:60", after := #[{ on := 11, ground := Ground.data }, { on := 12, ground := Ground.data }], guard := none }) rfl (fun K hK => ?_) AllReadyH.nil
          have HR := Lib.hid (HR.out.allocT (.slice ak nk ck) (.slice none 0 0) (.slice (some ⟨gz, 0, none⟩) 1 1))
          go_simp
          refine hK.out _ _ HR.out.bel (fun hHeld => ?_)
          clear hK K hHeld
          try simp only [Act.put, List.setIfInBounds_toArray, List.set_cons_zero, List.set_cons_succ]
          generalize V1.alloc (.cells #[.slice ak nk ck, .slice none 0 0, .slice (some ⟨gz, 0, none⟩) 1 1] 26) = V2 at HR ⊢
          generalize V1.heap.size = gt at HR ⊢
          refine wpAnyH_ready (rs := [3]) (by kernel_rfl) (by simp) ?_
          refine AllReadyH.cons (o := { dst := some 39, op := Op.call { callee := Callee.value (Operand.func 24), args := #[Operand.tmp 38], argTypes := #[27] }, type := 27, pos := "law.go:60", after := #[{ on := 2, ground := Ground.data }], guard := none }) rfl (fun K hK => ?_) AllReadyH.nil
          go_simp
          refine (HC.out V2 HR.out.bel).mono ?_
          rintro e V3 ⟨aA, cA, rfl, rA, fA, bA⟩
          have HR := Lib.hid (HR.out.copied bA rA fA)
          clear bA rA fA
          go_wp2_with (fail)
          refine hK.out _ _ HR.out.bel (fun hHeld => ?_)
          clear hK K hHeld
          try simp only [Act.put, List.setIfInBounds_toArray, List.set_cons_zero, List.set_cons_succ]
          refine wpAnyH_ready (rs := [7]) (by kernel_rfl) (by simp) ?_
          refine AllReadyH.cons (o := { dst := some 43, op := Op.call { callee := Callee.builtin Builtin.append, args := #[Operand.tmp 39, Operand.tmp 42], argTypes := #[27, 27] }, type := 27, pos := "law.go:60", after := #[{ on := 3, ground := Ground.data }, { on := 6, ground := Ground.data }, { on := 3, ground := Ground.chain }], guard := none }) rfl (fun K hK => ?_) AllReadyH.nil
          obtain ⟨aB, cB, V4, hr, R2⟩ := HP.out V3 aA cA _ _ HR.out
          have HR := Lib.hid R2
          clear R2
          refine step_append_run _ rfl _ _ _ _ rfl _ _ rfl rfl _ _ hr ?_
          clear hr
          refine hK.out _ _ HR.out.bel (fun hHeld => ?_)
          clear hK K hHeld
          try simp only [Act.put, List.setIfInBounds_toArray, List.set_cons_zero, List.set_cons_succ]
          obtain ⟨a5, c5, V5, ps5, hr, HL5, HW5⟩ := HE.out V4 aB cB gz gt HR.out
          have bE : Below wr.heap.size wr V5 := HEB.out V4 V5 aB cB gz gt _ _ _ HR.out hr
          refine wpAnyH_ready (rs := [14]) (by kernel_rfl) (by simp) ?_
          refine AllReadyH.cons (o := { dst := some 50, op := Op.call { callee := Callee.builtin Builtin.append, args := #[Operand.tmp 43, Operand.tmp 49], argTypes := #[27, 27] }, type := 27, pos := "law.go:60", after := #[{ on := 7, ground := Ground.data }, { on := 13, ground := Ground.data }, { on := 7, ground := Ground.chain }], guard := none }) rfl (fun K hK => ?_) AllReadyH.nil
          refine step_append_run _ rfl _ _ _ _ rfl _ _ rfl rfl _ _ hr ?_
          refine hK.out _ _ bE (fun hHeld => ?_)
          clear hK K hHeld
          try simp only [Act.put, List.setIfInBounds_toArray, List.set_cons_zero, List.set_cons_succ]
          refine wpAnyH_take (i := 15) (oi := { dst := some 6, op := Op.assign (Operand.tmp 50), type := 27, pos := "law.go:60", after := #[{ on := 14, ground := Ground.data }, { on := 14, ground := Ground.chain }, { on := 0, ground := Ground.phase }, { on := 1, ground := Ground.phase }, { on := 2, ground := Ground.phase }, { on := 3, ground := Ground.phase }, { on := 4, ground := Ground.phase }, { on := 5, ground := Ground.phase }, { on := 6, ground := Ground.phase }, { on := 7, ground := Ground.phase }, { on := 8, ground := Ground.phase }, { on := 9, ground := Ground.phase }, { on := 10, ground := Ground.phase }, { on := 11, ground := Ground.phase }, { on := 12, ground := Ground.phase }, { on := 13, ground := Ground.phase }, { on := 14, ground := Ground.phase }], guard := none }) (v := ?_) rfl (by kernel_rfl) (by kernel_rfl) (by kernel_rfl) (fun _ _ _ h => h) (Or.inl ⟨by rfl, ?_⟩) bE ?_
          rotate_left
          · intro w hSw
            go_simp
            try with_reducible rfl
          try simp only [Act.put, List.setIfInBounds_toArray, List.set_cons_zero, List.set_cons_succ]
          refine wpAnyH_done (by kernel_rfl) ?_ _
          have HL6 := Lib.hid HL5
          have HA6 := Lib.hid (HAG.out _ HW5)
          clear HL5 HW5 HR hr bE
          go_wp2
          go_meet
          exact ⟨a5, c5, m + 3, ps5, rfl, HL6, HA6, by omega⟩
      case rest =>
        clear HT HW4 hle hk hlt
        obtain ⟨pa, pc, m, ps, rfl, HT, HA, hm6⟩ := hcut
        have HS := Lib.hid (HS.out.below HT.out.bel)
        have HO := Lib.hid (HA.out.of HX.out.right)
        have HSH := Lib.hid (HA.out.short HX.out.right)
        have HR := Lib.hid (rightLin_iff.1 HX.out.right).1
        have hnx : x.base.length = nx := (HS.out.all ⟨g, ax, cx, nx, px, qx, mx, x⟩ (by simp)).len
        have hn12 : nx ≤ 12 := by rw [← hnx]; exact (right_iff.1 HR.out).1
        have HQ := Lib.hid HT.out.row
        have HQN := Lib.hid HT.out.num
        clear HT
        have ex0 : wc.cell? ⟨g, 0, none⟩ = some (.slice ax nx cx) := (HS.out.all ⟨g, ax, cx, nx, px, qx, mx, x⟩ (by simp)).c0
        have ex1 : wc.cell? ⟨g, 1, none⟩ = some (.slice px mx qx) := (HS.out.all ⟨g, ax, cx, nx, px, qx, mx, x⟩ (by simp)).c1
        have Z := copy_any ax cx x.base wc (HS.out.all ⟨g, ax, cx, nx, px, qx, mx, x⟩ (by simp)).base (by rw [hnx]; omega)
        rw [hnx] at Z
        have HNX := Lib.hid hnx
        have HZ := Lib.hid Z
        clear Z hnx
        go_wp2_with (fail)
        refine HZ.out.mono ?_
        rintro e w2 ⟨a2, c2, rfl, r2, f2, b2⟩
        clear HZ
        rw [HNX.out]
        obtain ⟨a3, c3, w3, hr3, r3, f3, b3⟩ := appz 22 a2 c2 nx x.base w2 r2 HNX.out (by omega) [0] 1 rfl (by omega) wc.heap.size b2.size f2
        have b4 := b2.trans b3
        have Z := of9 a3 pa c3 pc (x.base ++ [0]) (words ps) w3 r3 ⟨ps, rfl, HQ.out.below b4⟩ (by rw [List.length_append, HNX.out]; simp; omega) HSH.out (by rw [words_len, HQN.out]; omega)
        rw [HO.out.1, HO.out.2, List.length_append, HNX.out, words_len, HQN.out] at Z
        have HZ := Lib.hid Z
        have HS := Lib.hid (HS.out.below b4)
        clear Z r3 f3 b4 r2 f2 b2 b3 ex0 ex1
        go_wp2_with (at_builtin; refine Lib.wpList_append_run _ rfl _ _ _ _ rfl _ _ rfl rfl _ _ hr3 ?_)
        refine HZ.out.mono ?_
        rintro e w4 he
        obtain ⟨ay, cy, py, qy, rfl, ry, ty, b⟩ := he.lin
        clear HZ he
        generalize hny : x.base.length = ny
        generalize hmy : x.ps.length = my
        have HS := Lib.hid (HS.out.below b)
        have ex0 : w4.cell? ⟨g, 0, none⟩ = some (.slice ax nx cx) := (HS.out.all ⟨g, ax, cx, nx, px, qx, mx, x⟩ (by simp)).c0
        have ex1 : w4.cell? ⟨g, 1, none⟩ = some (.slice px mx qx) := (HS.out.all ⟨g, ax, cx, nx, px, qx, mx, x⟩ (by simp)).c1
        have ltx : g < w4.heap.size := (HS.out.all ⟨g, ax, cx, nx, px, qx, mx, x⟩ (by simp)).l.lt
        have HS := Lib.hid (HS.out.push ry ty hny hmy)
        clear b ry ty hny hmy
        go_wp2_with (fail)
        generalize w4.alloc (.cells #[.slice ay ny cy, .slice py my qy] 29) = W5 at HS ⊢
        generalize w4.heap.size = gy at HS ⊢
        clear ex0 ex1 ltx
        have ex0 : W5.cell? ⟨g, 0, none⟩ = some (.slice ax nx cx) := (HS.out.all ⟨g, ax, cx, nx, px, qx, mx, x⟩ (by simp)).c0
        have ex1 : W5.cell? ⟨g, 1, none⟩ = some (.slice px mx qx) := (HS.out.all ⟨g, ax, cx, nx, px, qx, mx, x⟩ (by simp)).c1
        have ey0 : W5.cell? ⟨gy, 0, none⟩ = some (.slice ay ny cy) := (HS.out.all ⟨gy, ay, cy, ny, py, qy, my, x⟩ (by simp)).c0
        have ey1 : W5.cell? ⟨gy, 1, none⟩ = some (.slice py my qy) := (HS.out.all ⟨gy, ay, cy, ny, py, qy, my, x⟩ (by simp)).c1
        have Z : Calls Try.prog 17 #[.agg #[.slice ax nx cx, .slice px mx qx], .agg #[.slice ay ny cy, .slice py my qy]] W5 (TellsB true W5) := same_val (e := ⟨g, ax, cx, nx, px, qx, mx, x⟩) (f := ⟨gy, ay, cy, ny, py, qy, my, x⟩) (by simp) (HS.out.all ⟨g, ax, cx, nx, px, qx, mx, x⟩ (by simp)) (HS.out.all ⟨gy, ay, cy, ny, py, qy, my, x⟩ (by simp))
        have HZ := Lib.hid Z
        clear Z
        go_wp2_with (fail)
        refine HZ.out.mono ?_
        rintro e W6 ⟨rfl, b⟩
        clear HZ
        clear ex0 ex1 ey0 ey1
        have HS := Lib.hid (HS.out.below b)
        clear b
        have ex0 : W6.cell? ⟨g, 0, none⟩ = some (.slice ax nx cx) := (HS.out.all ⟨g, ax, cx, nx, px, qx, mx, x⟩ (by simp)).c0
        have ex1 : W6.cell? ⟨g, 1, none⟩ = some (.slice px mx qx) := (HS.out.all ⟨g, ax, cx, nx, px, qx, mx, x⟩ (by simp)).c1
        have ey0 : W6.cell? ⟨gy, 0, none⟩ = some (.slice ay ny cy) := (HS.out.all ⟨gy, ay, cy, ny, py, qy, my, x⟩ (by simp)).c0
        have ey1 : W6.cell? ⟨gy, 1, none⟩ = some (.slice py my qy) := (HS.out.all ⟨gy, ay, cy, ny, py, qy, my, x⟩ (by simp)).c1
        have Z : Calls Try.prog 13 #[.agg #[.slice ay ny cy, .slice py my qy]] W6 (TellsB true W6) := right_val (e := ⟨gy, ay, cy, ny, py, qy, my, x⟩) HX.out.right (HS.out.all ⟨gy, ay, cy, ny, py, qy, my, x⟩ (by simp))
        have HZ := Lib.hid Z
        clear Z
        go_wp2_with (fail)
        refine HZ.out.mono ?_
        rintro e W7 ⟨rfl, b⟩
        clear HZ
        clear ex0 ex1 ey0 ey1
        have HS := Lib.hid (HS.out.below b)
        clear b
        have ex0 : W7.cell? ⟨g, 0, none⟩ = some (.slice ax nx cx) := (HS.out.all ⟨g, ax, cx, nx, px, qx, mx, x⟩ (by simp)).c0
        have ex1 : W7.cell? ⟨g, 1, none⟩ = some (.slice px mx qx) := (HS.out.all ⟨g, ax, cx, nx, px, qx, mx, x⟩ (by simp)).c1
        have ey0 : W7.cell? ⟨gy, 0, none⟩ = some (.slice ay ny cy) := (HS.out.all ⟨gy, ay, cy, ny, py, qy, my, x⟩ (by simp)).c0
        have ey1 : W7.cell? ⟨gy, 1, none⟩ = some (.slice py my qy) := (HS.out.all ⟨gy, ay, cy, ny, py, qy, my, x⟩ (by simp)).c1
        have HZ := Lib.hid (wakes_any W7)
        go_wp2_with (fail)
        refine HZ.out.mono ?_
        rintro e W8 ⟨rfl, b⟩
        have HB := Lib.hid (HS.out.bel.trans (b.mono HS.out.bel.size))
        clear HZ HS b
        go_wp2
        go_ret
        exact ⟨rfl, HB.out⟩
end Go.Proofs.Ytmbkiefbchjofaa

/- 'of' of chapter 9: items out of raw ones. -/
import Derived.Test.YtadnjlhkppcmmaaUa
import Derived.Test.YtadnjlhkppcmmaaTj
import Derived.Test.YtadnjlhkppcmmaaCk
import Derived.Deep.RegionHeld3
import Derived.Deep.AppendLies
namespace Go.Proofs.Ytadnjlhkppcmmaa
open Go.ChangeShapes Go.WideShapes Go.ChangeAt Go.RowKit
def rgUb0 : Oper := { dst := some 13, op := Op.move (Operand.tmp 3), type := 28, pos := "law.go:26", after := #[], guard := none }
def rgUb1 : Oper := { dst := some 14, op := Op.fieldAddr 73 (Operand.tmp 5) 0, type := 0, pos := "law.go:26", after := #[], guard := none }
def rgUb2 : Oper := { dst := some 15, op := Op.load 3 (Operand.tmp 14), type := 3, pos := "law.go:26", after := #[{ on := 1, ground := Ground.data }], guard := none }
def rgUb3 : Oper := { dst := some 16, op := Op.fieldAddr 73 (Operand.tmp 5) 1, type := 0, pos := "law.go:26", after := #[], guard := none }
def rgUb4 : Oper := { dst := some 17, op := Op.load 22 (Operand.tmp 16), type := 22, pos := "law.go:26", after := #[{ on := 3, ground := Ground.data }], guard := none }
def rgUb5 : Oper := { dst := some 18, op := Op.call { callee := Callee.value (Operand.func 27), args := #[Operand.tmp 17, Operand.const (Value.int IntKind.i64 6)], argTypes := #[22, 3] }, type := 22, pos := "law.go:26", after := #[{ on := 4, ground := Ground.data }], guard := none }
def rgUb6 : Oper := { dst := some 19, op := Op.build 75 #[(0, Operand.tmp 15), (1, Operand.tmp 18)], type := 75, pos := "law.go:26", after := #[{ on := 2, ground := Ground.data }, { on := 5, ground := Ground.data }], guard := none }
def rgUb7 : Oper := { dst := some 20, op := Op.buildSlice 28 1 #[(0, Operand.tmp 19)], type := 28, pos := "law.go:26", after := #[{ on := 6, ground := Ground.data }], guard := none }
def rgUb8 : Oper := { dst := some 21, op := Op.call { callee := Callee.builtin Builtin.append, args := #[Operand.tmp 13, Operand.tmp 20], argTypes := #[28, 28] }, type := 28, pos := "law.go:26", after := #[{ on := 0, ground := Ground.data }, { on := 7, ground := Ground.data }, { on := 5, ground := Ground.chain }], guard := none }
def rgUb9 : Oper := { dst := some 3, op := Op.assign (Operand.tmp 21), type := 28, pos := "law.go:26", after := #[{ on := 8, ground := Ground.data }, { on := 8, ground := Ground.chain }, { on := 0, ground := Ground.phase }, { on := 1, ground := Ground.phase }, { on := 2, ground := Ground.phase }, { on := 3, ground := Ground.phase }, { on := 4, ground := Ground.phase }, { on := 5, ground := Ground.phase }, { on := 6, ground := Ground.phase }, { on := 7, ground := Ground.phase }, { on := 8, ground := Ground.phase }], guard := none }

/-- What 'of' comes to. -/
def IOut (w : World) (e : Ending) (w' : World) : Prop := ∃ a c l, e = .returned (.slice a (l : List It).length c) ∧ Its w' a c l ∧ l.length ≤ 6 ∧ Below w.heap.size w w'
set_option maxRecDepth 100000 in
set_option maxHeartbeats 4000000 in
theorem of9 (pa : Option Addr) (m pc : Nat) (qs : List Raw9) (w : World) (h : Hid (CameIts w pa m pc qs)) :
    Calls Try.prog 9 #[.slice pa m pc] w (IOut w) := by
  have hlen := h.out.len
  have hcap := h.out.cap
  have HZ0 := Lib.hid (cutR9 pa m pc qs w h.out)
  go_enter Try.func9, Try.ntmps9
  go_wp2_with (fail)
  refine HZ0.out.mono ?_
  rintro e w1 ⟨ra, rc, rfl, r1, b1⟩
  have HQ1 := Lib.hid (h.out.below b1)
  have hle := r1.le
  have HR1 := Lib.hid r1
  have HB1 := Lib.hid b1
  have HN5 : Hid ((qs.take 6).length = min m 6) := Lib.hid (by rw [List.length_take, h.out.num]; omega)
  have hm5 : min m 6 ≤ 6 := by omega
  clear r1 b1 HZ0
  generalize min m 6 = n at HR1 HN5 hm5 hle ⊢
  go_wp2
  go_loopw [3, 9] (fun al i wr => ∃ (k : Nat) (oa : Option Addr) (oc : Nat) (l : List It), k ≤ n ∧ al = .slice oa k oc ∧ i = .int .i64 k ∧ Hid (l.length = k) ∧ Hid (Its wr oa oc l) ∧ Hid (From w1.heap.size oa) ∧ Hid (Below w1.heap.size w1 wr)) (fun _ i _ => n - (intOf i).toNat)
  case atStart => exact ⟨0, none, 0, [], Nat.zero_le _, rfl, rfl, Lib.hid rfl, Lib.hid (Its.nil _), Lib.hid (From.none _), Lib.hid (Below.refl _ _)⟩
  case round =>
    obtain ⟨k, oa, oc, l, hk, rfl, rfl, HLK, HI0, HF, HB⟩ := hrel
    have hlo := HI0.out.le
    rw [HLK.out] at hlo
    by_cases hlt : k < n
    · have hk0 : k < (qs.take 6).length := by rw [HN5.out]; exact hlt
      obtain ⟨q, hq⟩ : ∃ q, q = (qs.take 6)[k] := ⟨_, rfl⟩
      have hmq : q ∈ qs := by rw [hq]; exact List.mem_of_mem_take (List.getElem_mem hk0)
      have f0 := iraw_get (qs.take 6) k hk0 0 (by omega)
      have f1 := iraw_get (qs.take 6) k hk0 1 (by omega)
      rw [← hq] at f0 f1
      obtain ⟨g, e1, x0⟩ := HR1.out.cell (j := k * 2 + 0) (u := .int .i64 q.j) (by rw [f0]; rfl)
      obtain ⟨g', e1', x1⟩ := HR1.out.cell (j := k * 2 + 1) (u := .slice q.a q.l q.c) (by rw [f1]; rfl)
      rw [e1] at e1'
      injection e1' with e1'; injection e1' with e1'; subst e1'
      have c0 : wr.cell? ⟨g, k * 2, none⟩ = some (.int .i64 q.j) := (HB.out.cell (p := ⟨g, k * 2, none⟩) (HR1.out.lt e1)).trans x0
      have c1 : wr.cell? ⟨g, k * 2 + 1, none⟩ = some (.slice q.a q.l q.c) := (HB.out.cell (p := ⟨g, k * 2 + 1, none⟩) (HR1.out.lt e1)).trans x1
      have HCA := Lib.hid ((HQ1.out.each q hmq).below HB.out)
      obtain ⟨j0, a0, l0, d0, zs0⟩ := q
      simp only at c0 c1 HCA
      clear hq hmq f0 f1 x0 x1 hk0
      have hl0 := HCA.out.1
      have hl1 := HCA.out.2.2.1
      have bb := below_alloc wr (.cells #[.int .i64 j0, .slice a0 l0 d0] 73)
      have HI := Lib.hid (HI0.out.below bb)
      have HL := Lib.hid (Lies.new wr 73 [.int .i64 j0, .slice a0 l0 d0])
      have HCA := Lib.hid (HCA.out.below bb)
      have HBW := Lib.hid (HB.out.trans (bb.mono HB.out.size))
      clear bb
      subst e1
      go_upto_region 5 with (fail)
      clear c0 c1 HI0
      generalize wr.alloc (.cells #[.int .i64 j0, .slice a0 l0 d0] 73) = W at HI HL HCA HBW ⊢
      generalize wr.heap.size = gb at HL ⊢
      have bd : Below w1.heap.size w1 W.drew ∧ Lies W.drew gb 73 [.int .i64 j0, .slice a0 l0 d0] := ⟨HBW.out.trans (b := W) ⟨rfl, rfl, rfl, Nat.le_refl _, fun _ _ => rfl⟩, HL.out⟩
      refine wp_region_held_drew (S := fun V => Below w1.heap.size w1 V ∧ Lies V gb 73 [.int .i64 j0, .slice a0 l0 d0]) (by kernel_rfl) bd (fun hHeld => ?_)
      clear hHeld
      refine tkY 0 rgUb0 (v := ?_) rfl bd ?_ ?_
      rotate_left
      · intro w hSw
        simp only [rgUb0]; go_simp
        try with_reducible rfl
      try simp only [rgUb0, Act.put, pA, pB, pC]
      refine tkY 1 rgUb1 (v := ?_) rfl bd ?_ ?_
      rotate_left
      · intro w hSw
        simp only [rgUb1]; go_simp
        try with_reducible rfl
      try simp only [rgUb1, Act.put, pA, pB, pC]
      refine tkY 2 rgUb2 (v := ?_) rfl bd ?_ ?_
      rotate_left
      · intro w hSw
        have k0 := hSw.2.cell 0
        have k1 := hSw.2.cell 1
        simp only [List.getElem?_cons_zero, List.getElem?_cons_succ] at k0 k1
        simp only [rgUb2]; go_simp
        try with_reducible rfl
      try simp only [rgUb2, Act.put, pA, pB, pC]
      refine tkY 3 rgUb3 (v := ?_) rfl bd ?_ ?_
      rotate_left
      · intro w hSw
        simp only [rgUb3]; go_simp
        try with_reducible rfl
      try simp only [rgUb3, Act.put, pA, pB, pC]
      refine tkY 4 rgUb4 (v := ?_) rfl bd ?_ ?_
      rotate_left
      · intro w hSw
        have k0 := hSw.2.cell 0
        have k1 := hSw.2.cell 1
        simp only [List.getElem?_cons_zero, List.getElem?_cons_succ] at k0 k1
        simp only [rgUb4]; go_simp
        try with_reducible rfl
      try simp only [rgUb4, Act.put, pA, pB, pC]
      have HBD := Lib.hid bd
      have b0 : Below W.heap.size W W.drew := ⟨rfl, rfl, rfl, Nat.le_refl _, fun _ _ => rfl⟩
      have HI := Lib.hid (HI.out.below b0)
      have HCA := Lib.hid (HCA.out.below b0)
      clear b0 bd
      generalize W.drew = V0 at HBD HI HCA ⊢
      have HZ := Lib.hid (cut6i a0 l0 d0 zs0 V0 HCA.out.1 HCA.out.2.1 HCA.out.2.2.1 HCA.out.2.2.2.1 (Lib.hid HCA.out.2.2.2.2))
      generalize zs0.take (min l0 6) = nb at HZ
      refine wpAnyH_ready (rs := [5]) (by kernel_rfl) (by simp) ?_
      refine AllReadyH.cons (o := rgUb5) rfl (fun K hK => ?_) AllReadyH.nil
      simp only [rgUb5]; go_simp
      refine HZ.out.mono ?_
      rintro e V1 ⟨a2, c2, rfl, r2, f2, b2⟩
      generalize hn0 : nb.length = n0
      have hl4 := r2.le
      rw [hn0] at hl4
      have hs1 := HBD.out.1.size
      have HS1 : Hid (Below w1.heap.size w1 V1 ∧ Lies V1 gb 73 [.int .i64 j0, .slice a0 l0 d0]) := Lib.hid ⟨HBD.out.1.trans (b2.mono hs1), HBD.out.2.below b2 HBD.out.2.lt⟩
      have HI1 := Lib.hid (HI.out.below b2)
      have HN0 := Lib.hid hn0
      have bz := below_alloc V1 (.cells #[.int .i64 j0, .slice a2 n0 c2] 75)
      have HS2 : Hid (Below w1.heap.size w1 (V1.alloc (.cells #[.int .i64 j0, .slice a2 n0 c2] 75)) ∧ Lies (V1.alloc (.cells #[.int .i64 j0, .slice a2 n0 c2] 75)) gb 73 [.int .i64 j0, .slice a0 l0 d0]) := Lib.hid ⟨HS1.out.1.trans (bz.mono HS1.out.1.size), HS1.out.2.below bz HS1.out.2.lt⟩
      obtain ⟨ls, hls, I⟩ := HI1.out.below bz
      have hln : ls.length = k := by rw [← its_len, hls]; exact HLK.out
      have RR := I.row
      rw [hln] at RR
      have LZ := Lies.new V1 75 [.int .i64 j0, .slice a2 n0 c2]
      obtain ⟨v4, w4, hr3, A4⟩ := run_appIt_at 28 28 Try.underlying28 oa oc k (iflat ls) _ RR ⟨V1.heap.size, 0, none⟩ 1 1 [.int .i64 j0, .slice a2 n0 c2] rfl (fun j y hj => by rw [Addr.add_lit, Nat.zero_add]; exact (LZ.cell j).trans hj) (by intro y hy; simp only [List.mem_cons, List.not_mem_nil, or_false] at hy; rcases hy with rfl | rfl <;> rfl) (by omega)
      have HA4 := Lib.hid A4
      obtain ⟨a4, c4, rfl, I4, G4⟩ := its_push (x := ⟨j0, nb⟩) hls I (r2.below bz) HLK.out hn0 A4
      have hG := G4 w1.heap.size HS2.out.1.size HF.out
      have HI4 := Lib.hid I4
      have HF4 := Lib.hid hG.1
      have HB4 : Hid (Below w1.heap.size w1 w4) := Lib.hid (HS2.out.1.trans hG.2)
      have HX4 : Hid (Lies w4 gb 73 [.int .i64 j0, .slice a0 l0 d0]) := Lib.hid (by
        obtain ⟨_, _, _, _, k4, _⟩ := HA4.out
        refine HS2.out.2.kept k4 (fun e => ?_)
        exact its_apart ⟨ls, hls, I⟩ HS2.out.2 (by decide) e)
      have hc4 := HI4.out.le
      rw [List.length_append, HLK.out] at hc4
      have HLK4 : Hid ((l ++ [(⟨j0, nb⟩ : It)]).length = k + 1) := Lib.hid (by rw [List.length_append, HLK.out]; rfl)
      clear bz RR LZ A4 HA4 I4 hG G4 r2 f2 b2 I hls hln HZ hn0 HI HI1 HCA
      go_wp2_with (fail)
      refine hK.out _ _ HS1.out (fun hHeld => ?_)
      clear hK K hHeld
      try simp only [rgUb5, Act.put, pA, pB, pC]
      refine tkY 6 rgUb6 (v := ?_) rfl HS1.out ?_ ?_
      rotate_left
      · intro w hSw
        simp only [rgUb6]; go_simp
        try with_reducible rfl
      try simp only [rgUb6, Act.put, pA, pB, pC]
      refine wpAnyH_ready (rs := [7]) (by kernel_rfl) (by simp) ?_
      refine AllReadyH.cons (o := rgUb7) rfl (fun K hK => ?_) AllReadyH.nil
      simp only [rgUb7]; go_simp
      refine hK.out _ _ HS2.out (fun hHeld => ?_)
      clear hK K hHeld
      try simp only [rgUb7, Act.put, pA, pB, pC]
      refine wpAnyH_ready (rs := [8]) (by kernel_rfl) (by simp) ?_
      refine AllReadyH.cons (o := rgUb8) rfl (fun K hK => ?_) AllReadyH.nil
      refine step_append_run _ rfl _ _ _ _ rfl _ _ rfl rfl _ _ hr3 ?_
      clear hr3
      refine hK.out _ _ ⟨HB4.out, HX4.out⟩ (fun hHeld => ?_)
      clear hK K hHeld
      try simp only [rgUb8, Act.put, pA, pB, pC]
      refine tkY 9 rgUb9 (v := ?_) rfl ⟨HB4.out, HX4.out⟩ ?_ ?_
      rotate_left
      · intro w hSw
        simp only [rgUb9]; go_simp
        try with_reducible rfl
      try simp only [rgUb9, Act.put, pA, pB, pC]
      refine wpAnyH_done (by kernel_rfl) ?_ _
      go_wp2
      go_roundw
      case rel => exact ⟨k + 1, a4, c4, _, by omega, rfl, by go_num, HLK4, HI4, HF4, HB4⟩
      case measure => simp [intOf]; omega
    · have hkn : k = n := by omega
      subst hkn
      have HBF := Lib.hid (HB1.out.trans (HB.out.mono HB1.out.size))
      go_wp2
      go_ret
      exact ⟨oa, oc, l, by rw [HLK.out]; rfl, HI0.out, by rw [HLK.out]; exact hm5, HBF.out⟩
end Go.Proofs.Ytadnjlhkppcmmaa

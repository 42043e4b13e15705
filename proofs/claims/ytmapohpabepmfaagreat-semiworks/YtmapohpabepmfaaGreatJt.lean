/- 'of' of chapter 7: a set of raw linear sets, or what Semi makes. -/
import Derived.Test.YtmapohpabepmfaaGreatJs
import Derived.Test.YtmapohpabepmfaaGreatLw
import Derived.Deep.RegionHeld3
namespace Go.Proofs.YtmapohpabepmfaaGreat
open Go.ChangeShapes Go.WideShapes Go.ChangeAt Go.RowKit

theorem OfP.app2 {w W : World} {g4 : Nat} {a pa : Option Addr} {c n pc m : Nat} {nb : List Int} {ps : List Bg} (h : OfP w g4 a c n nb pa pc m ps W) {b : Option Addr} {d l : Nat} {ys : List Int} (R : Bag W b d ys) (hl : ys.length = l) (f : From w.heap.size b) (hs : m ≤ 1000) :
    ∃ a2 c2 w2, (Builtin.append_ #[58, 58] 58 #[.slice pa m pc, .slice (some ⟨W.heap.size, 0, none⟩) 1 1]).run Tryz.prog (W.alloc (.cells #[.slice b l d] 57)) = .ok (.slice a2 (m + 1) c2) w2 ∧
      Lies w2 g4 60 [.slice a n c, .slice pa m pc] ∧ OfP w g4 a c n nb a2 c2 (m + 1) (ps ++ [⟨b, d, ys⟩]) (w2.setCell ⟨g4, 1, none⟩ (.slice a2 (m + 1) c2)) ∧
      (∀ g cs, Lies W g 60 cs → g ≠ g4 → Lies (w2.setCell ⟨g4, 1, none⟩ (.slice a2 (m + 1) c2)) g 60 cs) ∧
      ∀ ra rc vs, Row W 23 ra rc vs → Row (w2.setCell ⟨g4, 1, none⟩ (.slice a2 (m + 1) c2)) 23 ra rc vs := by
  obtain ⟨a2, c2, w2, hr, q2, k2, f2⟩ := app1 pa pc m ps W h.row h.num b d l ys R hl (by omega)
  obtain ⟨f3, b3⟩ := f2 w.heap.size h.bel.size h.op
  have l2 := h.l4.kept k2 (h.l4.apartRow h.row.row)
  refine ⟨a2, c2, w2, hr, l2, OfP.put (h.bel.trans b3) l2 (h.base.kept k2 (fun _ e => h.base.apart h.row.row e)) q2 h.len (by simp [h.num]) h.h4 h.oa f3 ?_, fun g cs l hne => ?_, fun ra rc vs r => ?_⟩
  · intro p hp
    rcases List.mem_append.1 hp with hp | hp
    · exact h.each p hp
    · rw [List.mem_singleton.1 hp]; exact f
  · exact (l.kept k2 (l.apartRow h.row.row)).far hne _
  · have r1 : Row w2 23 ra rc vs := r.kept k2 (fun g e e2 => by
      rcases r with ⟨h1, _⟩ | ⟨g1, sp, h1, _, _, l1⟩
      · rw [h1] at e; cases e
      · rw [h1] at e; injection e with e; injection e with e; subst e
        rcases h.row.row with ⟨h3, _⟩ | ⟨g2, sp2, h3, _, _, l3⟩
        · rw [h3] at e2; cases e2
        · rw [h3] at e2; injection e2 with e2; injection e2 with e2; subst e2
          exact l1.other l3 (by decide) rfl)
    refine r1.kept (kept_set w2 g4 1 _) (fun g e e2 => ?_)
    subst e2
    rcases r1 with ⟨h1, _⟩ | ⟨g1, sp, h1, _, _, l1⟩
    · rw [h1] at e; cases e
    · rw [h1] at e; injection e with e; injection e with e; subst e
      exact l1.other l2 (by decide) rfl


/-- A set of at most six, none of too many periods. -/
def Short6 (s : List Lin) : Prop := s.length ≤ 6 ∧ ∀ k, (linAt s k).ps.length ≤ 16777216
theorem short_fine {s : List Lin} (h : Fine s) : Short6 s := by
  refine ⟨h.2, fun k => ?_⟩
  unfold linAt
  rw [List.getD_eq_getElem?_getD]
  by_cases hk : k < s.length
  · rw [List.getElem?_eq_getElem hk]; exact (h.1.each _ (List.getElem_mem hk)).few
  · rw [List.getElem?_eq_none (by omega)]; exact Nat.zero_le _
theorem short_few {s : List Lin} (hs : s.length ≤ 6) (h : ∀ x ∈ s, x.ps.length ≤ 4) : Short6 s := by
  refine ⟨hs, fun k => ?_⟩
  unfold linAt
  rw [List.getD_eq_getElem?_getD]
  by_cases hk : k < s.length
  · rw [List.getElem?_eq_getElem hk]
    have := h _ (List.getElem_mem hk)
    show s[k].ps.length ≤ _
    omega
  · rw [List.getElem?_eq_none (by omega)]; exact Nat.zero_le _
/-- What 'of' comes to. -/
def SOut (w : World) (e : Ending) (w' : World) : Prop := ∃ a c s, e = .returned (.slice a (s : List Lin).length c) ∧ Lins w' a c s ∧ Short6 s ∧ Below w.heap.size w w'
set_option maxRecDepth 100000 in
set_option maxHeartbeats 8000000 in
theorem of8 (pa : Option Addr) (m pc : Nat) (qs : List Raw7) (a : Option Addr) (l c : Nat) (zs : List Int) (how : Int) (w : World) (h : Hid (CameLins w pa m pc qs)) (h2 : Hid (Came w a l c zs)) :
    Calls Tryz.prog 8 #[.slice pa m pc, .slice a l c, .int .i64 how] w (SOut w) := by
  have hlen := h.out.len
  have hcap := h.out.cap
  obtain ⟨hlen2, hcap2⟩ : l ≤ 9223372036854775807 ∧ l ≤ c := ⟨h2.out.1, h2.out.2.2.1⟩
  have hr0 : -2 < how.tmod 2 := by have := Int.lt_tmod_of_pos how (show (0 : Int) < 2 by omega); omega
  have hr1 : how.tmod 2 < 2 := Int.tmod_lt_of_pos how (by omega)
  by_cases ho : how.tmod 2 = 0
  · have HZ0 := Lib.hid (cutQ5 pa m pc qs w h.out)
    go_enter Tryz.func8, Tryz.ntmps8
    go_wp2_with (fail)
    refine HZ0.out.mono ?_
    rintro e w1 ⟨ra, rc, rfl, r1, b1⟩
    have HQ1 := Lib.hid (h.out.below b1)
    have hle := r1.le
    have HR1 := Lib.hid r1
    have HB1 := Lib.hid b1
    have HN5 : Hid ((qs.take 5).length = min m 5) := Lib.hid (by rw [List.length_take, h.out.num]; omega)
    have hm5 : min m 5 ≤ 5 := by omega
    clear r1 b1 HZ0
    generalize min m 5 = m5 at HR1 HN5 hm5 hle ⊢
    go_wp2
    go_loopw [7, 21] (fun al i wr => ∃ (k : Nat) (oa : Option Addr) (oc : Nat) (ls : List Lb), k ≤ m5 ∧ al = .slice oa k oc ∧ i = .int .i64 k ∧ Hid (AccN Any3 w1 oa oc k ls wr) ∧ Hid (∀ x ∈ lins ls, x.ps.length ≤ 4)) (fun _ i _ => m5 - (intOf i).toNat)
    case atStart => exact ⟨0, none, 0, [], Nat.zero_le _, rfl, rfl, Lib.hid (AccN.nil _ _), Lib.hid (fun x hx => by simp [lins] at hx)⟩
    case round =>
      obtain ⟨k, oa, oc, ls, hk, rfl, rfl, HT0, HA⟩ := hrel
      have hlo := HT0.out.row.row.le
      rw [HT0.out.num] at hlo
      by_cases hlt : k < m5
      · have hk0 : k < (qs.take 5).length := by rw [HN5.out]; exact hlt
        obtain ⟨q, hq⟩ : ∃ q, q = (qs.take 5)[k] := ⟨_, rfl⟩
        have hmq : q ∈ qs := by rw [hq]; exact List.mem_of_mem_take (List.getElem_mem hk0)
        have f0 := qflat_get (qs.take 5) k hk0 0 (by omega)
        have f1 := qflat_get (qs.take 5) k hk0 1 (by omega)
        rw [← hq] at f0 f1
        obtain ⟨g, e1, x0⟩ := HR1.out.cell (j := k * 2 + 0) (u := .slice q.a q.l q.c) (by rw [f0]; rfl)
        obtain ⟨g', e1', x1⟩ := HR1.out.cell (j := k * 2 + 1) (u := .slice q.pa q.m q.pc) (by rw [f1]; rfl)
        rw [e1] at e1'
        injection e1' with e1'; injection e1' with e1'; subst e1'
        have c0 : wr.cell? ⟨g, k * 2, none⟩ = some (.slice q.a q.l q.c) := (HT0.out.bel.cell (p := ⟨g, k * 2, none⟩) (HR1.out.lt e1)).trans x0
        have c1 : wr.cell? ⟨g, k * 2 + 1, none⟩ = some (.slice q.pa q.m q.pc) := (HT0.out.bel.cell (p := ⟨g, k * 2 + 1, none⟩) (HR1.out.lt e1)).trans x1
        obtain ⟨z1, z2⟩ := HQ1.out.each q hmq
        have HCA := Lib.hid (z1.below HT0.out.bel)
        have HCR := Lib.hid (z2.below HT0.out.bel)
        obtain ⟨a0, l0, d0, zs0, p0, m0, e0, rs0⟩ := q
        simp only at c0 c1 HCA HCR
        clear hq hmq f0 f1 x0 x1 z1 z2 hk0
        have hl0 := HCA.out.1
        have hl1 := HCA.out.2.2.1
        have hl2 := HCR.out.len
        have hl3 := HCR.out.cap
        have bb := below_alloc wr (.cells #[.slice a0 l0 d0, .slice p0 m0 e0] 68)
        have HTW := Lib.hid (HT0.out.below stays_any bb)
        have HL := Lib.hid (Lies.new wr 68 [.slice a0 l0 d0, .slice p0 m0 e0])
        have HCA := Lib.hid (HCA.out.below bb)
        have HCR := Lib.hid (HCR.out.below bb)
        clear bb
        subst e1
        go_upto_region 7 with (fail)
        clear c0 c1 HT0
        generalize wr.alloc (.cells #[.slice a0 l0 d0, .slice p0 m0 e0] 68) = W at HTW HL HCA HCR ⊢
        generalize wr.heap.size = gb at HL ⊢
        have k0 := HL.out.cell 0
        have k1 := HL.out.cell 1
        simp only [List.getElem?_cons_zero, List.getElem?_cons_succ] at k0 k1
        have HZ := Lib.hid (cut6i a0 l0 d0 zs0 W HCA.out.1 HCA.out.2.1 HCA.out.2.2.1 HCA.out.2.2.2.1 (Lib.hid HCA.out.2.2.2.2))
        generalize zs0.take (min l0 6) = nb at HZ
        clear HCA
        go_wp2_with (fail)
        refine HZ.out.mono ?_
        rintro e w3 ⟨a1, c1, rfl, r1, f1, b1⟩
        clear HZ k0 k1
        generalize hn0 : nb.length = n0
        have b3 := below_alloc w3 (.cells #[.slice a1 n0 c1, .slice none 0 0] 60)
        have HS : Hid (OfP W w3.heap.size a1 c1 n0 nb none 0 0 [] (w3.alloc (.cells #[.slice a1 n0 c1, .slice none 0 0] 60))) := Lib.hid
          ⟨b1.trans (b3.mono b1.size), Lies.new w3 _ _, r1.below b3, Bgs.nil _, hn0, rfl, b1.size, fun g e => f1 g e, From.none _, fun p hp => by simp at hp⟩
        have hl4 := r1.le
        rw [hn0] at hl4
        have HL3 := Lib.hid ((HL.out.below b1 HL.out.lt).alloc (.cells #[.slice a1 n0 c1, .slice none 0 0] 60))
        clear r1 f1 b1 b3 hn0
        go_upto_region 8 with (fail)
        generalize w3.alloc (.cells #[.slice a1 n0 c1, .slice none 0 0] 60) = W3 at HS HL3 ⊢
        generalize w3.heap.size = g3 at HS ⊢
        have k0 := HL3.out.cell 0
        have k1 := HL3.out.cell 1
        simp only [List.getElem?_cons_zero, List.getElem?_cons_succ] at k0 k1
        have HZ2 := Lib.hid (cutR4 p0 m0 e0 rs0 W3 (HCR.out.below HS.out.bel))
        go_wp2_with (fail)
        refine HZ2.out.mono ?_
        rintro e w4 ⟨ra4, rc4, rfl, rr, b4⟩
        have HS := Lib.hid (HS.out.below b4)
        have HRW := Lib.hid rr
        have hrl := rr.le
        have HNV : Hid ((rvals (rs0.take 4)).length = min m0 4) := Lib.hid (by rw [rvals_len, List.length_take, HCR.out.num]; omega)
        rw [HNV.out] at hrl
        have h4 : min m0 4 ≤ 4 := by omega
        clear HZ2 k0 k1 rr b4 HL HL3
        generalize hm6 : min m0 4 = m4 at HNV h4 hrl ⊢
        clear hm6
        go_wp2
        go_loopw [33] (fun i wr => ∃ (k2 : Nat) (qa : Option Addr) (qc : Nat) (bs : List Bg), k2 ≤ m4 ∧ i = .int .i64 k2 ∧ Hid (OfP W g3 a1 c1 n0 nb qa qc k2 bs wr) ∧ Hid (Row wr 23 ra4 rc4 (rvals (rs0.take 4)))) (fun i _ => m4 - (intOf i).toNat)
        case atStart => exact ⟨0, none, 0, [], by omega, rfl, HS, HRW⟩
        case round =>
          clear HS HRW
          obtain ⟨k2, qa, qc, bs, hk2, rfl, HT, HRW⟩ := hrel
          by_cases hlt2 : k2 < m4
          · have hk0 : k2 < (rs0.take 4).length := by have := HNV.out; rw [rvals_len] at this; omega
            obtain ⟨gr, era, hcr⟩ := HRW.out.there (i := k2) (by rw [HNV.out]; exact hlt2)
            obtain ⟨r, hrk⟩ : ∃ r, r = (rs0.take 4)[k2] := ⟨_, rfl⟩
            have hmr : r ∈ rs0 := by rw [hrk]; exact List.mem_of_mem_take (List.getElem_mem hk0)
            have ev : (rvals (rs0.take 4))[k2]'(by rw [HNV.out]; exact hlt2) = .slice r.a r.l r.c := by rw [hrk]; simp [rvals, Rw.val]
            rw [ev] at hcr
            have HCM0 := Lib.hid (HCR.out.each r hmr)
            have HCM := Lib.hid (HCM0.out.below HT.out.bel)
            obtain ⟨br, lr, cr, zr⟩ := r
            simp only at hcr HCM HCM0
            generalize hys : zr.take (min lr 6) = ys
            have HZ : Hid (∀ V, Came V br lr cr zr → Below W.heap.size W V → Calls Tryz.prog 35 #[.slice br lr cr, .int .i64 6] V (Makes ys V)) := Lib.hid (fun V hc _ => by
              have := cut6i br lr cr zr V hc.1 hc.2.1 hc.2.2.1 hc.2.2.2.1 (Lib.hid hc.2.2.2.2)
              rwa [hys] at this)
            obtain ⟨u, hu⟩ : ∃ u, ys.length = u := ⟨_, rfl⟩
            have HU := Lib.hid hu
            have bd : Below wr.heap.size wr wr.drew := ⟨rfl, rfl, rfl, Nat.le_refl _, fun _ _ => rfl⟩
            have hlr := HCM.out.1
            have hcr2 := HCM.out.2.2.1
            clear hrk hmr ev hys hu hk0 HCM0
            subst era
            go_wp2_with (fail)
            refine wp_region_held_drew (S := fun _ => True) (by kernel_rfl) trivial (fun hHeld => ?_)
            clear hHeld
            refine wpAnyH_take (i := 0) (oi := { dst := some 37, op := Op.fieldAddr 60 (Operand.tmp 10) 1, type := 0, pos := "law.go:34", after := #[], guard := none }) (v := ?_) rfl (by kernel_rfl) (by kernel_rfl) (by kernel_rfl) (fun _ _ _ h => h) (Or.inl ⟨by rfl, ?_⟩) trivial ?_
            rotate_left
            · intro w hSw
              go_simp
              try with_reducible rfl
            try simp only [Act.put, List.setIfInBounds_toArray, List.set_cons_zero, List.set_cons_succ]
            refine wpAnyH_take (i := 2) (oi := { dst := some 39, op := Op.move (Operand.tmp 12), type := 23, pos := "law.go:34", after := #[], guard := none }) (v := ?_) rfl (by kernel_rfl) (by kernel_rfl) (by kernel_rfl) (fun _ _ _ h => h) (Or.inl ⟨by rfl, ?_⟩) trivial ?_
            rotate_left
            · intro w hSw
              go_simp
              try with_reducible rfl
            try simp only [Act.put, List.setIfInBounds_toArray, List.set_cons_zero, List.set_cons_succ]
            have HB0 : Hid (Below W.heap.size W wr.drew) := Lib.hid (HT.out.bel.trans (bd.mono HT.out.bel.size))
            have HT := Lib.hid (HT.out.below bd)
            have HRW := Lib.hid (HRW.out.below bd)
            have HCM := Lib.hid (HCM.out.below bd)
            clear bd
            generalize wr.drew = V0 at HB0 HT HRW HCM ⊢
            refine wpAnyH_ready (rs := [1, 3]) (by kernel_rfl) (by simp) ?_
            refine AllReadyH.cons (o := { dst := some 38, op := Op.load 58 (Operand.tmp 37), type := 58, pos := "law.go:34", after := #[{ on := 0, ground := Ground.data }], guard := none }) rfl (fun K hK => ?_) ?_
            · have q1 : V0.cell? ⟨g3, 1, none⟩ = some (.slice qa k2 qc) := HT.out.l4.cell 1
              go_simp
              clear q1
              refine hK.out _ _ trivial (fun hHeld => ?_)
              clear hK K hHeld
              try simp only [Act.put, List.setIfInBounds_toArray, List.set_cons_zero, List.set_cons_succ]
              refine wpAnyH_ready (rs := [3]) (by kernel_rfl) (by simp) ?_
              refine AllReadyH.cons (o := { dst := some 40, op := Op.call { callee := Callee.value (Operand.func 35), args := #[Operand.tmp 39, Operand.const (Value.int IntKind.i64 6)], argTypes := #[23, 3] }, type := 23, pos := "law.go:34", after := #[{ on := 2, ground := Ground.data }], guard := none }) rfl (fun K hK => ?_) AllReadyH.nil
              go_simp
              refine (HZ.out V0 HCM.out HB0.out).mono ?_
              rintro e V1 ⟨a2, c2, rfl, r2, f2, b2⟩
              rw [HU.out]
              have HT := Lib.hid (HT.out.below b2)
              have HRW := Lib.hid (HRW.out.below b2)
              have HR2 := Lib.hid r2
              have HF2 : Hid (From W.heap.size a2) := Lib.hid (From.mono (fun g e => f2 g e) HB0.out.size)
              clear r2 f2 b2
              go_wp2_with (fail)
              refine hK.out _ _ trivial (fun hHeld => ?_)
              clear hK K hHeld
              try simp only [Act.put, List.setIfInBounds_toArray, List.set_cons_zero, List.set_cons_succ]
              refine wpAnyH_ready (rs := [4]) (by kernel_rfl) (by simp) ?_
              refine AllReadyH.cons (o := { dst := some 41, op := Op.buildSlice 58 1 #[(0, Operand.tmp 40)], type := 58, pos := "law.go:34", after := #[{ on := 3, ground := Ground.data }], guard := none }) rfl (fun K hK => ?_) AllReadyH.nil
              go_simp
              refine hK.out _ _ trivial (fun hHeld => ?_)
              clear hK K hHeld
              try simp only [Act.put, List.setIfInBounds_toArray, List.set_cons_zero, List.set_cons_succ]
              refine wpAnyH_ready (rs := [5]) (by kernel_rfl) (by simp) ?_
              refine AllReadyH.cons (o := { dst := some 42, op := Op.call { callee := Callee.builtin Builtin.append, args := #[Operand.tmp 38, Operand.tmp 41], argTypes := #[58, 58] }, type := 58, pos := "law.go:34", after := #[{ on := 1, ground := Ground.data }, { on := 4, ground := Ground.data }, { on := 3, ground := Ground.chain }], guard := none }) rfl (fun K hK => ?_) AllReadyH.nil
              obtain ⟨a3, c3, w3, hr3, l3, T3, o3, o4⟩ := HT.out.app2 HR2.out HU.out HF2.out (by omega)
              have HRW3 := Lib.hid (o4 _ _ _ HRW.out)
              have HT3 := Lib.hid T3
              have d3 := l3.cell 1
              simp only [List.getElem?_cons_zero, List.getElem?_cons_succ] at d3
              have z3 := l3.frozen 1
              clear l3 T3 o3 o4
              refine step_append_run _ rfl _ _ _ _ rfl _ _ rfl rfl _ _ hr3 ?_
              clear hr3
              refine hK.out _ _ trivial (fun hHeld => ?_)
              clear hK K hHeld
              try simp only [Act.put, List.setIfInBounds_toArray, List.set_cons_zero, List.set_cons_succ]
              refine wpAnyH_take (i := 6) (oi := { dst := some 43, op := Op.fieldAddr 60 (Operand.tmp 10) 1, type := 0, pos := "law.go:34", after := #[{ on := 0, ground := Ground.phase }, { on := 1, ground := Ground.phase }, { on := 2, ground := Ground.phase }, { on := 3, ground := Ground.phase }, { on := 4, ground := Ground.phase }, { on := 5, ground := Ground.phase }], guard := none }) (v := ?_) rfl (by kernel_rfl) (by kernel_rfl) (by kernel_rfl) (fun _ _ _ h => h) (Or.inl ⟨by rfl, ?_⟩) trivial ?_
              rotate_left
              · intro w hSw
                go_simp
                try with_reducible rfl
              try simp only [Act.put, List.setIfInBounds_toArray, List.set_cons_zero, List.set_cons_succ]
              refine wpAnyH_ready (rs := [7]) (by kernel_rfl) (by simp) ?_
              refine AllReadyH.cons (o := { dst := none, op := Op.store 58 (Operand.tmp 43) (Operand.tmp 42), type := 0, pos := "law.go:34", after := #[{ on := 6, ground := Ground.data }, { on := 5, ground := Ground.data }, { on := 5, ground := Ground.chain }, { on := 0, ground := Ground.phase }, { on := 1, ground := Ground.phase }, { on := 2, ground := Ground.phase }, { on := 3, ground := Ground.phase }, { on := 4, ground := Ground.phase }, { on := 5, ground := Ground.phase }], guard := none }) rfl (fun K hK => ?_) AllReadyH.nil
              go_simp
              refine hK.out _ _ trivial (fun hHeld => ?_)
              clear hK K hHeld
              try simp only [Act.put, List.setIfInBounds_toArray, List.set_cons_zero, List.set_cons_succ]
              refine wpAnyH_done (by kernel_rfl) ?_ _
              go_wp2
              go_roundw
              case rel => exact ⟨k2 + 1, a3, c3, _, by omega, by go_num, HT3, HRW3⟩
              case measure => simp [intOf]; omega
            refine AllReadyH.cons (o := { dst := some 40, op := Op.call { callee := Callee.value (Operand.func 35), args := #[Operand.tmp 39, Operand.const (Value.int IntKind.i64 6)], argTypes := #[23, 3] }, type := 23, pos := "law.go:34", after := #[{ on := 2, ground := Ground.data }], guard := none }) rfl (fun K hK => ?_) AllReadyH.nil
            go_simp
            refine (HZ.out V0 HCM.out HB0.out).mono ?_
            rintro e V1 ⟨a2, c2, rfl, r2, f2, b2⟩
            rw [HU.out]
            have HT := Lib.hid (HT.out.below b2)
            have HRW := Lib.hid (HRW.out.below b2)
            have HR2 := Lib.hid r2
            have HF2 : Hid (From W.heap.size a2) := Lib.hid (From.mono (fun g e => f2 g e) HB0.out.size)
            clear r2 f2 b2
            go_wp2_with (fail)
            refine hK.out _ _ trivial (fun hHeld => ?_)
            clear hK K hHeld
            try simp only [Act.put, List.setIfInBounds_toArray, List.set_cons_zero, List.set_cons_succ]
            refine wpAnyH_ready (rs := [1, 4]) (by kernel_rfl) (by simp) ?_
            refine AllReadyH.cons (o := { dst := some 38, op := Op.load 58 (Operand.tmp 37), type := 58, pos := "law.go:34", after := #[{ on := 0, ground := Ground.data }], guard := none }) rfl (fun K hK => ?_) ?_
            · have q1 : V1.cell? ⟨g3, 1, none⟩ = some (.slice qa k2 qc) := HT.out.l4.cell 1
              go_simp
              clear q1
              refine hK.out _ _ trivial (fun hHeld => ?_)
              clear hK K hHeld
              try simp only [Act.put, List.setIfInBounds_toArray, List.set_cons_zero, List.set_cons_succ]
              refine wpAnyH_ready (rs := [4]) (by kernel_rfl) (by simp) ?_
              refine AllReadyH.cons (o := { dst := some 41, op := Op.buildSlice 58 1 #[(0, Operand.tmp 40)], type := 58, pos := "law.go:34", after := #[{ on := 3, ground := Ground.data }], guard := none }) rfl (fun K hK => ?_) AllReadyH.nil
              go_simp
              refine hK.out _ _ trivial (fun hHeld => ?_)
              clear hK K hHeld
              try simp only [Act.put, List.setIfInBounds_toArray, List.set_cons_zero, List.set_cons_succ]
              refine wpAnyH_ready (rs := [5]) (by kernel_rfl) (by simp) ?_
              refine AllReadyH.cons (o := { dst := some 42, op := Op.call { callee := Callee.builtin Builtin.append, args := #[Operand.tmp 38, Operand.tmp 41], argTypes := #[58, 58] }, type := 58, pos := "law.go:34", after := #[{ on := 1, ground := Ground.data }, { on := 4, ground := Ground.data }, { on := 3, ground := Ground.chain }], guard := none }) rfl (fun K hK => ?_) AllReadyH.nil
              obtain ⟨a3, c3, w3, hr3, l3, T3, o3, o4⟩ := HT.out.app2 HR2.out HU.out HF2.out (by omega)
              have HRW3 := Lib.hid (o4 _ _ _ HRW.out)
              have HT3 := Lib.hid T3
              have d3 := l3.cell 1
              simp only [List.getElem?_cons_zero, List.getElem?_cons_succ] at d3
              have z3 := l3.frozen 1
              clear l3 T3 o3 o4
              refine step_append_run _ rfl _ _ _ _ rfl _ _ rfl rfl _ _ hr3 ?_
              clear hr3
              refine hK.out _ _ trivial (fun hHeld => ?_)
              clear hK K hHeld
              try simp only [Act.put, List.setIfInBounds_toArray, List.set_cons_zero, List.set_cons_succ]
              refine wpAnyH_take (i := 6) (oi := { dst := some 43, op := Op.fieldAddr 60 (Operand.tmp 10) 1, type := 0, pos := "law.go:34", after := #[{ on := 0, ground := Ground.phase }, { on := 1, ground := Ground.phase }, { on := 2, ground := Ground.phase }, { on := 3, ground := Ground.phase }, { on := 4, ground := Ground.phase }, { on := 5, ground := Ground.phase }], guard := none }) (v := ?_) rfl (by kernel_rfl) (by kernel_rfl) (by kernel_rfl) (fun _ _ _ h => h) (Or.inl ⟨by rfl, ?_⟩) trivial ?_
              rotate_left
              · intro w hSw
                go_simp
                try with_reducible rfl
              try simp only [Act.put, List.setIfInBounds_toArray, List.set_cons_zero, List.set_cons_succ]
              refine wpAnyH_ready (rs := [7]) (by kernel_rfl) (by simp) ?_
              refine AllReadyH.cons (o := { dst := none, op := Op.store 58 (Operand.tmp 43) (Operand.tmp 42), type := 0, pos := "law.go:34", after := #[{ on := 6, ground := Ground.data }, { on := 5, ground := Ground.data }, { on := 5, ground := Ground.chain }, { on := 0, ground := Ground.phase }, { on := 1, ground := Ground.phase }, { on := 2, ground := Ground.phase }, { on := 3, ground := Ground.phase }, { on := 4, ground := Ground.phase }, { on := 5, ground := Ground.phase }], guard := none }) rfl (fun K hK => ?_) AllReadyH.nil
              go_simp
              refine hK.out _ _ trivial (fun hHeld => ?_)
              clear hK K hHeld
              try simp only [Act.put, List.setIfInBounds_toArray, List.set_cons_zero, List.set_cons_succ]
              refine wpAnyH_done (by kernel_rfl) ?_ _
              go_wp2
              go_roundw
              case rel => exact ⟨k2 + 1, a3, c3, _, by omega, by go_num, HT3, HRW3⟩
              case measure => simp [intOf]; omega
            refine AllReadyH.cons (o := { dst := some 41, op := Op.buildSlice 58 1 #[(0, Operand.tmp 40)], type := 58, pos := "law.go:34", after := #[{ on := 3, ground := Ground.data }], guard := none }) rfl (fun K hK => ?_) AllReadyH.nil
            go_simp
            refine hK.out _ _ trivial (fun hHeld => ?_)
            clear hK K hHeld
            try simp only [Act.put, List.setIfInBounds_toArray, List.set_cons_zero, List.set_cons_succ]
            refine wpAnyH_ready (rs := [1]) (by kernel_rfl) (by simp) ?_
            refine AllReadyH.cons (o := { dst := some 38, op := Op.load 58 (Operand.tmp 37), type := 58, pos := "law.go:34", after := #[{ on := 0, ground := Ground.data }], guard := none }) rfl (fun K hK => ?_) AllReadyH.nil
            have q1 : (V1.alloc (.cells #[.slice a2 u c2] 57)).cell? ⟨g3, 1, none⟩ = some (.slice qa k2 qc) := (HT.out.l4.alloc (.cells #[.slice a2 u c2] 57)).cell 1
            go_simp
            clear q1
            refine hK.out _ _ trivial (fun hHeld => ?_)
            clear hK K hHeld
            try simp only [Act.put, List.setIfInBounds_toArray, List.set_cons_zero, List.set_cons_succ]
            refine wpAnyH_ready (rs := [5]) (by kernel_rfl) (by simp) ?_
            refine AllReadyH.cons (o := { dst := some 42, op := Op.call { callee := Callee.builtin Builtin.append, args := #[Operand.tmp 38, Operand.tmp 41], argTypes := #[58, 58] }, type := 58, pos := "law.go:34", after := #[{ on := 1, ground := Ground.data }, { on := 4, ground := Ground.data }, { on := 3, ground := Ground.chain }], guard := none }) rfl (fun K hK => ?_) AllReadyH.nil
            obtain ⟨a3, c3, w3, hr3, l3, T3, o3, o4⟩ := HT.out.app2 HR2.out HU.out HF2.out (by omega)
            have HRW3 := Lib.hid (o4 _ _ _ HRW.out)
            have HT3 := Lib.hid T3
            have d3 := l3.cell 1
            simp only [List.getElem?_cons_zero, List.getElem?_cons_succ] at d3
            have z3 := l3.frozen 1
            clear l3 T3 o3 o4
            refine step_append_run _ rfl _ _ _ _ rfl _ _ rfl rfl _ _ hr3 ?_
            clear hr3
            refine hK.out _ _ trivial (fun hHeld => ?_)
            clear hK K hHeld
            try simp only [Act.put, List.setIfInBounds_toArray, List.set_cons_zero, List.set_cons_succ]
            refine wpAnyH_take (i := 6) (oi := { dst := some 43, op := Op.fieldAddr 60 (Operand.tmp 10) 1, type := 0, pos := "law.go:34", after := #[{ on := 0, ground := Ground.phase }, { on := 1, ground := Ground.phase }, { on := 2, ground := Ground.phase }, { on := 3, ground := Ground.phase }, { on := 4, ground := Ground.phase }, { on := 5, ground := Ground.phase }], guard := none }) (v := ?_) rfl (by kernel_rfl) (by kernel_rfl) (by kernel_rfl) (fun _ _ _ h => h) (Or.inl ⟨by rfl, ?_⟩) trivial ?_
            rotate_left
            · intro w hSw
              go_simp
              try with_reducible rfl
            try simp only [Act.put, List.setIfInBounds_toArray, List.set_cons_zero, List.set_cons_succ]
            refine wpAnyH_ready (rs := [7]) (by kernel_rfl) (by simp) ?_
            refine AllReadyH.cons (o := { dst := none, op := Op.store 58 (Operand.tmp 43) (Operand.tmp 42), type := 0, pos := "law.go:34", after := #[{ on := 6, ground := Ground.data }, { on := 5, ground := Ground.data }, { on := 5, ground := Ground.chain }, { on := 0, ground := Ground.phase }, { on := 1, ground := Ground.phase }, { on := 2, ground := Ground.phase }, { on := 3, ground := Ground.phase }, { on := 4, ground := Ground.phase }, { on := 5, ground := Ground.phase }], guard := none }) rfl (fun K hK => ?_) AllReadyH.nil
            go_simp
            refine hK.out _ _ trivial (fun hHeld => ?_)
            clear hK K hHeld
            try simp only [Act.put, List.setIfInBounds_toArray, List.set_cons_zero, List.set_cons_succ]
            refine wpAnyH_done (by kernel_rfl) ?_ _
            go_wp2
            go_roundw
            case rel => exact ⟨k2 + 1, a3, c3, _, by omega, by go_num, HT3, HRW3⟩
            case measure => simp [intOf]; omega
          · obtain rfl : m4 = k2 := by omega
            have d0' := HT.out.l4.cell 0
            have d1' := HT.out.l4.cell 1
            simp only [List.getElem?_cons_zero, List.getElem?_cons_succ] at d0' d1'
            have HLW : Hid ((words bs).length = m4) := Lib.hid (by rw [← HT.out.num]; simp [words])
            have HTX := Lib.hid (HTW.out.below stays_any HT.out.bel)
            have HTB : Hid (Bag wr a1 c1 nb ∧ Bags wr qa qc (words bs)) := Lib.hid ⟨HT.out.base, bs, rfl, HT.out.row⟩
            obtain ⟨a6, c6, w6, hr, T6, G6⟩ := HTX.out.push stays_any 25 Tryz.underlying25 (by omega) ⟨a1, c1, qa, qc, ⟨nb, words bs⟩⟩ n0 m4 HT.out.len HLW.out HTB.out trivial
            have HT6 := Lib.hid T6
            have HA6 : Hid (∀ x ∈ lins (ls ++ [⟨a1, c1, qa, qc, ⟨nb, words bs⟩⟩]), x.ps.length ≤ 4) := Lib.hid (fun x hx => by
              have hx' : x ∈ lins ls ∨ x = ⟨nb, words bs⟩ := by simpa [lins] using hx
              rcases hx' with hx' | rfl
              · exact HA.out x hx'
              · show (words bs).length ≤ 4
                rw [HLW.out]; exact h4)
            clear T6 G6 HTX HTW HT
            go_wp2_with (at_builtin; refine Lib.wpList_append_run _ rfl _ _ _ _ rfl _ _ rfl rfl _ _ hr ?_)
            go_wp2
            go_roundw
            case rel => exact ⟨k + 1, a6, c6, _, by omega, rfl, by go_num, HT6, HA6⟩
            case measure => simp [intOf]; omega
      · obtain rfl : m5 = k := by omega
        have HF : Hid (SOut w (.returned (.slice oa m5 oc)) wr) := Lib.hid ⟨oa, oc, lins ls, by rw [lins_len, HT0.out.num], ⟨ls, rfl, HT0.out.row⟩, short_few (by rw [lins_len, HT0.out.num]; omega) HA.out, HB1.out.trans (HT0.out.bel.mono HB1.out.size)⟩
        clear HT0
        go_wp2
        go_ret
        exact HF.out
  · have HZ0 := Lib.hid (semi18 a l c zs w h2)
    go_enter Tryz.func8, Tryz.ntmps8
    go_wp2_with (fail)
    refine HZ0.out.mono ?_
    rintro e w1 ⟨sa, sc, s, rfl, R, F, b⟩
    have hle := R.le
    have HF : Hid (SOut w (.returned (.slice sa s.length sc)) w1) := Lib.hid ⟨sa, sc, s, rfl, R, short_fine F, b⟩
    clear R F b HZ0
    generalize s.length = n at HF hle ⊢
    go_wp2
    go_ret
    exact HF.out
end Go.Proofs.YtmapohpabepmfaaGreat

/- The law SemiKeeps: sets that are written over; its walk. -/
import Derived.Test.YtmapohpabepmfaaGreatLy
import Derived.Test.YtmapohpabepmfaaGreatHb
import Derived.Deep.CutBlock
namespace Go.Proofs.YtmapohpabepmfaaGreat
open Go.ChangeShapes Go.WideShapes Go.ChangeAt Go.RowKit

def Lv.cells (e : Lv) : List Value := [.slice e.a e.n e.c, .slice e.pa e.m e.pc]
def vflat (ls : List Lv) : List Value := ls.flatMap Lv.cells
theorem vflat_get : ∀ (ls : List Lv) (k : Nat) (hk : k < ls.length) (i : Nat), i < 2 → (vflat ls)[k * 2 + i]? = (ls[k]).cells[i]?
  | [], _, hk, _, _ => by simp at hk
  | l :: r, 0, _, i, hi => by
    have e : vflat (l :: r) = l.cells ++ vflat r := rfl
    rw [e, List.getElem?_append_left (by show 0 * 2 + i < 2; omega)]
    simp
  | l :: r, k + 1, hk, i, hi => by
    have e : vflat (l :: r) = l.cells ++ vflat r := rfl
    rw [e, List.getElem?_append_right (by show 2 ≤ _; omega)]
    have := vflat_get r k (by simpa using hk) i hi
    have e2 : (k + 1) * 2 + i - l.cells.length = k * 2 + i := by show (k + 1) * 2 + i - 2 = _; omega
    rw [e2, this]
    simp
/-- A set in memory that may be written over. -/
structure Sv where
  a : Option Addr
  c : Nat
  ls : List Lv
structure Sv.In (e : Sv) (B : Nat) (W : World) : Prop where
  row : Row2 W e.a e.c e.ls.length (vflat e.ls)
  each : ∀ l ∈ e.ls, l.In B W
theorem Sv.In.below {e : Sv} {B : Nat} {W W' : World} (h : e.In B W) (b : Below W.heap.size W W') : e.In B W' := ⟨h.row.below b, fun l hl => (h.each l hl).below b⟩
theorem Row2.setNum {W : World} {a : Option Addr} {c n : Nat} {vs : List Value} (h : Row2 W a c n vs) {g j : Nat} {cs : List Value} (l : Lies W g 3 cs) (u : Value) : Row2 (W.setCell ⟨g, j, none⟩ u) a c n vs := by
  refine h.kept (kept_set W g j u) fun g' e e2 => ?_
  subst e2
  obtain ⟨_, h⟩ := h
  rcases h with ⟨h, _⟩ | ⟨g1, sp, h, _, _, _, l1⟩
  · rw [h] at e; cases e
  · rw [h] at e; injection e with e; injection e with e; subst e
    exact l1.other l (by decide) rfl
theorem Sv.In.set {e : Sv} {B : Nat} {W : World} (h : e.In B W) {g j : Nat} {cs : List Value} (l : Lies W g 3 cs) (z : Int) : e.In B (W.setCell ⟨g, j, none⟩ (.int .i64 z)) :=
  ⟨h.row.setNum l _, fun d hd => (h.each d hd).set l z⟩
theorem NewS.sv {w : World} {B : Nat} {a : Option Addr} {c : Nat} {s : List Lin} (h : NewS w B a c s) : ∃ ls : List Lv, ls.length = s.length ∧ Sv.In ⟨a, c, ls⟩ B w := by
  obtain ⟨l0, e, P, f, nn⟩ := h
  have key : ∀ l : List Lb, (∀ x ∈ l, (Bag w x.a x.c x.x.base ∧ Bags w x.pa x.pc x.x.ps) ∧ NewLin w B x) → ∃ ls : List Lv, ls.length = l.length ∧ vflat ls = lflat l ∧ ∀ d ∈ ls, d.In B w := by
    intro l
    induction l with
    | nil => exact fun _ => ⟨[], rfl, rfl, fun d h => by simp at h⟩
    | cons x r ih =>
      intro hx
      obtain ⟨ls, h1, h2, h3⟩ := ih (fun y hy => hx y (List.mem_cons_of_mem _ hy))
      obtain ⟨⟨hb, _⟩, f1, f2, ps, ew, PP, fp⟩ := hx x List.mem_cons_self
      refine ⟨⟨x.a, x.c, x.x.base.length, x.pa, x.pc, x.x.ps.length, ps⟩ :: ls, by simp [h1], ?_, fun d hd => ?_⟩
      · show Lv.cells _ ++ vflat ls = x.cells ++ lflat r
        rw [h2]; rfl
      · rcases List.mem_cons.1 hd with rfl | hd
        · exact ⟨hb.nums, f1, PP.row, by show ps.length = x.x.ps.length; rw [← ew, words_len], fun p hp => ⟨(PP.each p hp).nums, fp p hp⟩, by have := hb.le; show x.x.base.length ≤ _; omega, fun p hp => by have := (PP.each p hp).le; omega⟩
        · exact h3 d hd
  obtain ⟨ls, h1, h2, h3⟩ := key l0 (fun x hx => ⟨P.each x hx, nn x hx⟩)
  refine ⟨ls, by rw [h1, ← e, lins_len], ?_, h3⟩
  show Row2 w a c ls.length (vflat ls)
  rw [h1, h2]
  exact P.row
theorem Sv.In.rowAt {e : Sv} {B : Nat} {W : World} (h : e.In B W) {i : Nat} (hi : i < e.ls.length) {P : World → Prop} (hP : ∀ V, P V → e.In B V) :
    ∃ (g : Nat) (d : Lv), e.a = some ⟨g, 0, none⟩ ∧ W.cell? ⟨g, i * 2, none⟩ = some (.slice d.a d.n d.c) ∧ W.cell? ⟨g, i * 2 + 1, none⟩ = some (.slice d.pa d.m d.pc) ∧ ∀ V, P V → d.In B V := by
  obtain ⟨g, e0, c0⟩ := h.row.cell (j := i * 2 + 0) (u := .slice (e.ls[i]).a (e.ls[i]).n (e.ls[i]).c) (by rw [vflat_get e.ls i hi 0 (by omega)]; rfl)
  obtain ⟨g', e1, c1⟩ := h.row.cell (j := i * 2 + 1) (u := .slice (e.ls[i]).pa (e.ls[i]).m (e.ls[i]).pc) (by rw [vflat_get e.ls i hi 1 (by omega)]; rfl)
  rw [e0] at e1
  injection e1 with e1; injection e1 with e1; subst e1
  exact ⟨g, e.ls[i], e0, c0, c1, fun V hV => (hP V hV).each _ (List.getElem_mem hi)⟩
/-- Three sets that are written over, and the slice of them; nothing that was there in W3 has turned. -/
structure Ks (W3 W : World) (g3 : Nat) (e f h : Sv) : Prop where
  bel : Below W3.heap.size W3 W
  sl : Lies W g3 25 [.slice e.a e.ls.length e.c, .slice f.a f.ls.length f.c, .slice h.a h.ls.length h.c]
  ie : e.In W3.heap.size W
  fe : f.In W3.heap.size W
  he : h.In W3.heap.size W
theorem Ks.below {W3 W W' : World} {g3 : Nat} {e f h : Sv} (k : Ks W3 W g3 e f h) (b : Below W.heap.size W W') : Ks W3 W' g3 e f h :=
  ⟨k.bel.trans (b.mono k.bel.size), k.sl.below b k.sl.lt, k.ie.below b, k.fe.below b, k.he.below b⟩
theorem Ks.set {W3 W : World} {g3 : Nat} {e f h : Sv} (k : Ks W3 W g3 e f h) {g j : Nat} {cs : List Value} (l : Lies W g 3 cs) (hg : W3.heap.size ≤ g) (z : Int) : Ks W3 (W.setCell ⟨g, j, none⟩ (.int .i64 z)) g3 e f h :=
  ⟨k.bel.setCell hg _, k.sl.far (p := ⟨g, j, none⟩) (k.sl.other l (by decide)) _, k.ie.set l z, k.fe.set l z, k.he.set l z⟩
theorem Ks.pick {W3 W : World} {g3 : Nat} {e f h : Sv} (k : Ks W3 W g3 e f h) {t : Nat} (ht : t < 3) :
    ∃ sa sc sn ls, W.cell? ⟨g3, t, none⟩ = some (.slice sa sn sc) ∧ (ls : List Lv).length = sn ∧ (sn ≤ sc ∧ sc ≤ 9223372036854775807) ∧ ∀ V, Ks W3 V g3 e f h → Sv.In ⟨sa, sc, ls⟩ W3.heap.size V := by
  obtain rfl | rfl | rfl : t = 0 ∨ t = 1 ∨ t = 2 := by omega
  · exact ⟨_, _, _, e.ls, k.sl.cell 0, rfl, k.ie.row.le, fun V h => h.ie⟩
  · exact ⟨_, _, _, f.ls, k.sl.cell 1, rfl, k.fe.row.le, fun V h => h.fe⟩
  · exact ⟨_, _, _, h.ls, k.sl.cell 2, rfl, k.he.row.le, fun V h => h.he⟩
/-- One linear set of one of them, in a box of its own. -/
structure Kx (W3 W : World) (g3 : Nat) (e f h : Sv) (gb : Nat) (d : Lv) : Prop where
  ks : Ks W3 W g3 e f h
  box : Lies W gb 60 [.slice d.a d.n d.c, .slice d.pa d.m d.pc]
  mine : d.In W3.heap.size W
theorem Ks.box {W3 W : World} {g3 : Nat} {e f h : Sv} (k : Ks W3 W g3 e f h) (d : Lv) (hd : ∀ V, Ks W3 V g3 e f h → d.In W3.heap.size V) : Kx W3 (W.alloc (.cells #[.slice d.a d.n d.c, .slice d.pa d.m d.pc] 60)) g3 e f h W.heap.size d :=
  ⟨k.below (below_alloc _ _), Lies.new W _ _, (hd W k).below (below_alloc _ _)⟩
theorem Kx.set {W3 W : World} {g3 gb : Nat} {e f h : Sv} {d : Lv} (k : Kx W3 W g3 e f h gb d) {g j : Nat} {cs : List Value} (l : Lies W g 3 cs) (hg : W3.heap.size ≤ g) (z : Int) : Kx W3 (W.setCell ⟨g, j, none⟩ (.int .i64 z)) g3 e f h gb d :=
  ⟨k.ks.set l hg z, k.box.setNum l _, k.mine.set l z⟩
theorem Kx.baseAt {W3 W : World} {g3 gb : Nat} {e f h : Sv} {d : Lv} (k : Kx W3 W g3 e f h gb d) {j : Nat} (hj : j < d.n) : ∃ g z, d.a = some ⟨g, 0, none⟩ ∧ W.cell? ⟨g, j, none⟩ = some (.int .i64 z) ∧ W.frozen? ⟨g, j, none⟩ = false ∧ ∀ z, Kx W3 (W.setCell ⟨g, j, none⟩ (.int .i64 z)) g3 e f h gb d := by
  obtain ⟨g, z, cs, ea, h1, h2, l⟩ := k.mine.base.at hj
  exact ⟨g, z, ea, h1, h2, fun z => k.set l (k.mine.oa g ea) z⟩
theorem Kx.rowAt {W3 W : World} {g3 gb : Nat} {e f h : Sv} {d : Lv} (k : Kx W3 W g3 e f h gb d) {i : Nat} (hi : i < d.m) : ∃ g a n c, d.pa = some ⟨g, 0, none⟩ ∧ W.cell? ⟨g, i, none⟩ = some (.slice a n c) ∧ n ≤ 9223372036854775807 ∧
    ∀ V, Kx W3 V g3 e f h gb d → ∀ j, j < n → ∃ g z, a = some ⟨g, 0, none⟩ ∧ V.cell? ⟨g, j, none⟩ = some (.int .i64 z) ∧ V.frozen? ⟨g, j, none⟩ = false ∧ ∀ z, Kx W3 (V.setCell ⟨g, j, none⟩ (.int .i64 z)) g3 e f h gb d := by
  have hi' : i < d.ps.length := by rw [k.mine.num]; exact hi
  obtain ⟨g, e1, e2⟩ := k.mine.row.there (i := i) (by rw [vals_len]; exact hi')
  have ev : (vals d.ps)[i]'(by rw [vals_len]; exact hi') = (d.ps[i]).val := by simp [vals]
  rw [ev] at e2
  have hm : d.ps[i] ∈ d.ps := List.getElem_mem hi'
  refine ⟨g, _, _, _, e1, e2, k.mine.big.2 _ hm, fun V hV j hj => ?_⟩
  obtain ⟨g', z, cs, ea, h1, h2, l⟩ := (hV.mine.each _ hm).1.at hj
  exact ⟨g', z, ea, h1, h2, fun z => hV.set l ((hV.mine.each _ hm).2 g' ea) z⟩
theorem Kx.lens {W3 W : World} {g3 gb : Nat} {e f h : Sv} {d : Lv} (k : Kx W3 W g3 e f h gb d) : d.m ≤ 9223372036854775807 ∧ d.n ≤ 9223372036854775807 := by
  have := k.mine.row.le
  rw [vals_len, k.mine.num] at this
  exact ⟨by omega, k.mine.big.1⟩
/-- The reference's copy of a right set. -/
theorem rofN {m : Int} {k q : Nat} {s : List Lin} {n : Nat} (hn : s.length = n) (hs : TrimS m k q s) (W : World) (a : Option Addr) (c : Nat) (R : Lins W a c s) (h1 : q ≤ 100000000000 := by decide) (h2 : k ≤ 100000000000 := by decide) :
    Calls Tryz.prog 10 #[.slice a n c] W (fun e w' => ∃ a c, e = .returned (.tuple #[.slice a n c, .bool true]) ∧ Lins w' a c s ∧ Below W.heap.size W w') := by
  have Z := ofSemi_any a c s W R (Nat.le_trans hs.few h1) (fun j => Nat.le_trans (trim_ps hs j) h2)
  rw [of_yesS hs.rise.1, putAllS_nil hs.rise, ofSOk_iff.2 hs.rise.1, hn] at Z
  refine Z.mono ?_
  rintro e w' ⟨a3, c3, ls, e1, e2, P, _, b⟩
  rw [hn] at e2
  exact ⟨a3, c3, e2, ⟨ls, e1, P⟩, b⟩
/-- semi.Of of a right set. -/
theorem ofN {m : Int} {k q : Nat} {s : List Lin} {n : Nat} (hn : s.length = n) (hs : TrimS m k q s) (W : World) (a : Option Addr) (c : Nat) (R : Lins W a c s) (h1 : q ≤ 100000000000 := by decide) (h2 : k ≤ 100000000000 := by decide) :
    Calls Tryz.prog 9 #[.slice a n c] W (fun e w' => ∃ a c, e = .returned (.tuple #[.slice a n c, .bool true]) ∧ NewS w' W.heap.size a c s ∧ Below W.heap.size W w') := by
  have Z := of_semi a c s W R (Nat.le_trans hs.few h1) (fun j => Nat.le_trans (trim_ps hs j) h2)
  rw [of_yesS hs.rise.1, putAllS_nil hs.rise, ofSOk_iff.2 hs.rise.1, hn] at Z
  refine Z.mono ?_
  rintro e w' ⟨a3, c3, ls, e1, e2, P, f, nn, b⟩
  rw [hn] at e2
  exact ⟨a3, c3, e2, ⟨ls, e1, P, f, nn⟩, b⟩
set_option maxRecDepth 100000 in
set_option maxHeartbeats 8000000 in
theorem keeps_walk (a0 : Option Addr) (l0 c0 : Nat) (z0 : List Int) (a1 : Option Addr) (l1 c1 : Nat) (z1 : List Int) (w : World) (K0 : Hid (Came w a0 l0 c0 z0)) (K1 : Hid (Came w a1 l1 c1 z1)) :
    Calls Tryz.prog 7 #[.slice a0 l0 c0, .slice a1 l1 c1] w (True_ w) := by
  go_enter Tryz.func7, Tryz.ntmps7
  go_wp2_with (fail)
  refine (semi18 a0 l0 c0 z0 w K0).mono ?_
  rintro e W1 ⟨Ax, Cx, sx, rfl, nn, Fx, bb⟩
  have HB1 := Lib.hid (bb)
  clear bb
  have Hx_1 := Lib.hid nn
  have HFx := Lib.hid Fx
  clear nn Fx
  generalize hnx : sx.length = Nx
  have HNx := Lib.hid hnx
  clear hnx
  go_wp2_with (fail)
  refine (semi18 a1 l1 c1 z1 W1 (Lib.hid (K1.out.below HB1.out))).mono ?_
  rintro e W2 ⟨Ay, Cy, sy, rfl, nn, Fy, bb⟩
  have HB2 := Lib.hid (HB1.out.trans (bb.mono HB1.out.size))
  have Hx_2 := Lib.hid (Hx_1.out.below bb)
  clear Hx_1
  clear bb HB1
  have Hy_2 := Lib.hid nn
  have HFy := Lib.hid Fy
  clear nn Fy
  generalize hny : sy.length = Ny
  have HNy := Lib.hid hny
  clear hny
  go_wp2_with (fail)
  refine (rofN HNx.out HFx.out.trim _ _ _ Hx_2.out).mono ?_
  rintro e W3 ⟨Au, Cu, rfl, nn, bb⟩
  have HB3 := Lib.hid (HB2.out.trans (bb.mono HB2.out.size))
  have Hx_3 := Lib.hid (Hx_2.out.below bb)
  have Hy_3 := Lib.hid (Hy_2.out.below bb)
  clear Hx_2 Hy_2
  clear bb HB2
  have Hu_3 := Lib.hid nn
  clear nn
  go_wp2_with (fail)
  refine (rofN HNy.out HFy.out.trim _ _ _ Hy_3.out).mono ?_
  rintro e W4 ⟨Av, Cv, rfl, nn, bb⟩
  have HB4 := Lib.hid (HB3.out.trans (bb.mono HB3.out.size))
  have Hx_4 := Lib.hid (Hx_3.out.below bb)
  have Hy_4 := Lib.hid (Hy_3.out.below bb)
  have Hu_4 := Lib.hid (Hu_3.out.below bb)
  clear Hx_3 Hy_3 Hu_3
  clear bb HB3
  have Hv_4 := Lib.hid nn
  clear nn
  obtain ⟨p, q, np, nq, hp, hq, ep, eq, okxy⟩ : ∃ (p q : List Lin) (np nq : Nat), p.length = np ∧ q.length = nq ∧ catS sx sy = p ∧ unionS sx sy = q ∧ catsOk sx sy = true := ⟨_, _, _, _, rfl, rfl, rfl, rfl, HFx.out.trim.cats HFy.out.trim (by decide)⟩
  have Hp := Lib.hid hp
  have Hq := Lib.hid hq
  have HEp := Lib.hid ep
  have HEq := Lib.hid eq
  have HOK := Lib.hid okxy
  clear hp hq ep eq okxy
  go_wp2_with (fail)
  refine (catN HNx.out HNy.out Hp.out HEp.out HFx.out.trim HFy.out.trim HOK.out (by decide) (by decide) _ _ _ _ _ Hx_4.out Hy_4.out).mono ?_
  rintro e W5 ⟨Ap, Cp, rfl, np5, b5⟩
  have HP5 := Lib.hid np5
  have HB5 := Lib.hid b5
  clear np5 b5
  go_wp2_with (fail)
  refine (ofN HNx.out HFx.out.trim _ _ _ (Hx_4.out.below HB5.out)).mono ?_
  rintro e W6 ⟨Ao, Co, rfl, no6, b6⟩
  have HP6 := Lib.hid (HP5.out.below b6)
  have HO6 := Lib.hid (no6.mono HB5.out.size)
  have HB6 := Lib.hid (HB5.out.trans (b6.mono HB5.out.size))
  clear no6 b6 HP5 HB5
  go_wp2_with (fail)
  refine (unionN HNx.out HNy.out Hq.out HEq.out HFx.out.trim HFy.out.trim (by decide) (by decide) _ _ _ _ _ (Hx_4.out.below HB6.out) (Hy_4.out.below HB6.out)).mono ?_
  rintro e W7 ⟨Aq, Cq, rfl, nq7, b7⟩
  obtain ⟨lp, hlp, ip⟩ := (HP6.out.below b7).sv
  obtain ⟨lo, hlo, io⟩ := (HO6.out.below b7).sv
  obtain ⟨lq, hlq, iq⟩ := (nq7.mono HB6.out.size).sv
  have hlp : lp.length = np := by rw [hlp, Hp.out]
  have hlo : lo.length = Nx := by rw [hlo, HNx.out]
  have hlq : lq.length = nq := by rw [hlq, Hq.out]
  have bx := below_alloc W7 (.cells #[.slice Ap np Cp, .slice Ao Nx Co, .slice Aq nq Cq] 25)
  have HK : Hid (Ks W4 (W7.alloc (.cells #[.slice Ap np Cp, .slice Ao Nx Co, .slice Aq nq Cq] 25)) W7.heap.size ⟨Ap, Cp, lp⟩ ⟨Ao, Co, lo⟩ ⟨Aq, Cq, lq⟩) := Lib.hid
    ⟨(HB6.out.trans (b7.mono HB6.out.size)).trans (bx.mono (Nat.le_trans HB6.out.size b7.size)), (Lies.new W7 25 [.slice Ap np Cp, .slice Ao Nx Co, .slice Aq nq Cq]).to (by rw [← hlp, ← hlo, ← hlq]), ip.below bx, io.below bx, iq.below bx⟩
  have HLP := Lib.hid hlp
  have HLO := Lib.hid hlo
  have HLQ := Lib.hid hlq
  clear nq7 b7 bx ip io iq hlp hlo hlq HP6 HO6 HB6
  go_upto_region 7 with (fail)
  generalize W7.alloc (.cells #[.slice Ap np Cp, .slice Ao Nx Co, .slice Aq nq Cq] 25) = WK at HK ⊢
  generalize W7.heap.size = g3 at HK ⊢
  go_wp2
  go_loopw [55] (fun i wr => ∃ t : Nat, t ≤ 3 ∧ i = .int .i64 t ∧ Hid (Ks W4 wr g3 ⟨Ap, Cp, lp⟩ ⟨Ao, Co, lo⟩ ⟨Aq, Cq, lq⟩)) (fun i _ => 3 - (intOf i).toNat)
  case atStart => exact ⟨0, by omega, rfl, HK⟩
  case round =>
    clear HK
    obtain ⟨t, ht, rfl, HK⟩ := hrel
    by_cases hlt : t < 3
    · obtain ⟨sa, sc, sn, ls, hc, hsn, hsc, HI⟩ := HK.out.pick hlt
      have HSN := Lib.hid hsn
      have HII := Lib.hid HI
      have t0 : (0 : Int) ≤ (t : Int) := by omega
      have t3 : (t : Int) < 3 := by omega
      clear hsn HI
      go_wp2
      clear hc t0 t3
      go_loopw [61] (fun i wr => ∃ k : Nat, k ≤ sn ∧ i = .int .i64 k ∧ Hid (Ks W4 wr g3 ⟨Ap, Cp, lp⟩ ⟨Ao, Co, lo⟩ ⟨Aq, Cq, lq⟩)) (fun i _ => sn - (intOf i).toNat)
      case atStart => exact ⟨0, by omega, rfl, HK⟩
      case round =>
        clear HK
        obtain ⟨k, hk, rfl, HK⟩ := hrel
        by_cases hlt1 : k < sn
        · obtain ⟨g, d, rfl, c0, c1, HD⟩ := (HII.out wr HK.out).rowAt (i := k) (by show k < ls.length; rw [HSN.out]; exact hlt1) (fun V (h : Ks W4 V g3 ⟨Ap, Cp, lp⟩ ⟨Ao, Co, lo⟩ ⟨Aq, Cq, lq⟩) => HII.out V h)
          obtain ⟨ac, cc, nc, pc, qc, mc, psc⟩ := d
          simp only at c0 c1
          have HB := Lib.hid (HK.out.box ⟨ac, cc, nc, pc, qc, mc, psc⟩ HD)
          have hnn := HB.out.lens
          simp only at hnn
          clear HK HD
          have b0 := HB.out.box.cell 0
          simp only [List.getElem?_cons_zero] at b0
          go_wp2
          clear c0 c1 b0
          generalize wr.alloc (.cells #[.slice ac nc cc, .slice pc mc qc] 60) = WB at HB ⊢
          generalize wr.heap.size = gb at HB ⊢
          go_loopw [68] (fun i wr => ∃ j : Nat, j ≤ nc ∧ i = .int .i64 j ∧ Hid (Kx W4 wr g3 ⟨Ap, Cp, lp⟩ ⟨Ao, Co, lo⟩ ⟨Aq, Cq, lq⟩ gb ⟨ac, cc, nc, pc, qc, mc, psc⟩)) (fun i _ => nc - (intOf i).toNat)
          case atStart => exact ⟨0, by omega, rfl, HB⟩
          case round =>
            clear HB
            obtain ⟨j, hj, rfl, HB⟩ := hrel
            by_cases hlt2 : j < nc
            · obtain ⟨g1, z, ea, hc, hf, HB2⟩ := HB.out.baseAt (j := j) hlt2
              have ea' : ac = some ⟨g1, 0, none⟩ := ea
              have HEA := Lib.hid ea'
              have HB3 := Lib.hid (HB2 (wrap64 (z + 3)))
              have b0 := HB.out.box.cell 0
              simp only [List.getElem?_cons_zero] at b0
              rw [ea'] at b0
              clear HB2 ea ea'
              go_wp2
              go_roundw
              case rel => exact ⟨j + 1, by omega, by go_num, HB3⟩
              case measure => simp [intOf]; omega
            · obtain rfl : nc = j := by omega
              have b1 := HB.out.box.cell 1
              simp only [List.getElem?_cons_zero, List.getElem?_cons_succ] at b1
              go_wp2
              clear b1
              go_loopw [82] (fun i wr => ∃ j : Nat, j ≤ mc ∧ i = .int .i64 j ∧ Hid (Kx W4 wr g3 ⟨Ap, Cp, lp⟩ ⟨Ao, Co, lo⟩ ⟨Aq, Cq, lq⟩ gb ⟨ac, cc, nc, pc, qc, mc, psc⟩)) (fun i _ => mc - (intOf i).toNat)
              case atStart => exact ⟨0, by omega, rfl, HB⟩
              case round =>
                clear HB
                obtain ⟨i, hi, rfl, HB⟩ := hrel
                by_cases hlt3 : i < mc
                · obtain ⟨gp, b, l, d, ep, hc, hll, HR0⟩ := HB.out.rowAt (i := i) hlt3
                  have ep' : pc = some ⟨gp, 0, none⟩ := ep
                  have HRR := Lib.hid HR0
                  clear ep HR0
                  subst ep'
                  go_wp2
                  clear hc
                  go_loopw [88] (fun i wr => ∃ j : Nat, j ≤ l ∧ i = .int .i64 j ∧ Hid (Kx W4 wr g3 ⟨Ap, Cp, lp⟩ ⟨Ao, Co, lo⟩ ⟨Aq, Cq, lq⟩ gb ⟨ac, cc, nc, (some ⟨gp, 0, none⟩), qc, mc, psc⟩)) (fun i _ => l - (intOf i).toNat)
                  case atStart => exact ⟨0, by omega, rfl, HB⟩
                  case round =>
                    clear HB
                    obtain ⟨j, hj2, rfl, HB⟩ := hrel
                    by_cases hlt4 : j < l
                    · obtain ⟨g2, z, ea, hc, hf, HB2⟩ := HRR.out _ HB.out j hlt4
                      have HB3 := Lib.hid (HB2 (wrap64 (z + 3)))
                      clear HB2
                      subst ea
                      go_wp2
                      go_roundw
                      case rel => exact ⟨j + 1, by omega, by go_num, HB3⟩
                      case measure => simp [intOf]; omega
                    · obtain rfl : l = j := by omega
                      go_wp2
                      go_roundw
                      case rel => exact ⟨i + 1, by omega, by go_num, HB⟩
                      case measure => simp [intOf]; omega
                · obtain rfl : mc = i := by omega
                  have HK := Lib.hid HB.out.ks
                  go_wp2
                  go_roundw
                  case rel => exact ⟨k + 1, by omega, by go_num, HK⟩
                  case measure => simp [intOf]; omega
        · obtain rfl : k = sn := by omega
          go_wp2
          go_roundw
          case rel => exact ⟨t + 1, by omega, by go_num, HK⟩
          case measure => simp [intOf]; omega
    · obtain rfl : t = 3 := by omega
      have HBB := Lib.hid HK.out.bel
      clear HK
      have HX := Lib.hid (Hx_4.out.below HBB.out)
      have HU := Lib.hid (Hu_4.out.below HBB.out)
      have HZ := Lib.hid (sameN HNx.out HNx.out rfl _ _ _ _ _ HX.out HU.out)
      go_wp2_with (fail)
      refine HZ.out.mono ?_
      rintro e V1 ⟨rfl, bb⟩
      have HB1 := Lib.hid (HBB.out.trans (bb.mono HBB.out.size))
      clear bb HZ HX HU
      have HY := Lib.hid (Hy_4.out.below HB1.out)
      have HV := Lib.hid (Hv_4.out.below HB1.out)
      have HZ := Lib.hid (sameN HNy.out HNy.out rfl _ _ _ _ _ HY.out HV.out)
      go_wp2_with (fail)
      refine HZ.out.mono ?_
      rintro e V2 ⟨rfl, bb⟩
      have HB2 := Lib.hid (HB1.out.trans (bb.mono HB1.out.size))
      clear bb HZ HY HV
      go_wp2_with (fail)
      refine (wakes17 _).mono ?_
      rintro e V3 ⟨rfl, bb⟩
      have HB3 := Lib.hid (HB2.out.trans (bb.mono HB2.out.size))
      clear bb
      go_wp2
      go_ret
      exact ⟨rfl, HB4.out.trans (HB3.out.mono HB4.out.size)⟩
end Go.Proofs.YtmapohpabepmfaaGreat

/- The program's norm.set: what a node stands for, kind by kind; the condition: its parts' sets lie there. -/
import Derived.Test.YtfkaagndlpcfdaaGreatRa
namespace Go.Proofs.YtfkaagndlpcfdaaGreat
open Go.ChangeShapes Go.WideShapes Go.ChangeAt Go.RowKit

theorem NormX.to {T : TypeId} {mp : Option Addr} {r : List Lin × Int × Mr} {w w' : World} {a : Option Addr} {c n : Nat} {x : List Lin} {q : Int} {M : Mr} (hr : r = (x, q, M)) (hn : x.length = n) (hl : Lins w' a c x) (hm : MrAt w' T mp M) (hk : MK mp w w') : NormX T mp r w (.returned (.tuple #[.slice a n c, .int .i64 q])) w' := by
  subst hr; subst hn
  exact ⟨a, c, rfl, hl, hm, hk⟩
set_option maxRecDepth 100000 in
theorem set_zero (mp sa : Option Addr) (sn sc : Nat) (M : Mr) (na nb nn : Int) (nm : ByteArray) (w : World) (h0 : MrAt w 50 mp M) :
    Calls Tryz.prog 18 #[.pointer mp, .agg #[.int .i64 1, .int .i64 na, .int .i64 nb, .int .i64 nn, .string nm], .slice sa sn sc] w (NormX 50 mp ([], 0, M) w) := by
  have bb := below_alloc w (.cells #[.int .i64 1, .int .i64 na, .int .i64 nb, .int .i64 nn, .string nm] 46)
  have HM := Lib.hid (h0.below bb)
  have HK : Hid (MK mp w (w.alloc (.cells #[.int .i64 1, .int .i64 na, .int .i64 nb, .int .i64 nn, .string nm] 46))) := Lib.hid ((MK.refl mp w).then bb)
  clear bb
  go_enter Tryz.func18, Tryz.ntmps18
  go_wp2
  exact bodyPost_ret (v := .tuple #[.slice none 0 0, .int .i64 0]) (by simp [results, Tryz.results18, go_sem]) rfl (⟨none, 0, rfl, Lins.nil _, HM.out, HK.out⟩)
set_option maxRecDepth 100000 in
theorem set_one (mp sa : Option Addr) (sn sc : Nat) (M : Mr) (na nb nn : Int) (nm : ByteArray) (w : World) (h0 : MrAt w 50 mp M) :
    Calls Tryz.prog 18 #[.pointer mp, .agg #[.int .i64 2, .int .i64 na, .int .i64 nb, .int .i64 nn, .string nm], .slice sa sn sc] w (NormX 50 mp (oneS, 0, M) w) := by
  have bb := below_alloc w (.cells #[.int .i64 2, .int .i64 na, .int .i64 nb, .int .i64 nn, .string nm] 46)
  have HM := Lib.hid (h0.below bb)
  have HK : Hid (MK mp w (w.alloc (.cells #[.int .i64 2, .int .i64 na, .int .i64 nb, .int .i64 nn, .string nm] 46))) := Lib.hid ((MK.refl mp w).then bb)
  clear bb
  go_enter Tryz.func18, Tryz.ntmps18
  go_wp2_with (fail)
  refine (one_any _).mono ?_
  rintro e w3 ⟨sa, sc, rfl, A3⟩
  have HA3 := Lib.hid A3
  clear A3
  go_wp2
  exact bodyPost_ret (v := .tuple #[.slice sa 1 sc, .int .i64 0]) (by simp [results, Tryz.results18, go_sem]) rfl (⟨sa, sc, rfl, ⟨_, rfl, HA3.out.row⟩, HM.out.below HA3.out.bel, HK.out.then HA3.out.bel⟩)
set_option maxRecDepth 100000 in
theorem set_tag (mp sa : Option Addr) (sn sc : Nat) (M : Mr) (k : Nat) (na nb : Int) (nm : ByteArray) (w : World) (h0 : MrAt w 50 mp M) (hk : k < 12) (h1 : 1 ≤ na) (h2 : na ≤ 999999999) :
    Calls Tryz.prog 18 #[.pointer mp, .agg #[.int .i64 3, .int .i64 na, .int .i64 nb, .int .i64 (k : Int), .string nm], .slice sa sn sc] w (NormX 50 mp ([⟨oneL k na, []⟩], 0, M) w) := by
  have bb := below_alloc w (.cells #[.int .i64 3, .int .i64 na, .int .i64 nb, .int .i64 (k : Int), .string nm] 46)
  have HM := Lib.hid (h0.below bb)
  have HK : Hid (MK mp w (w.alloc (.cells #[.int .i64 3, .int .i64 na, .int .i64 nb, .int .i64 (k : Int), .string nm] 46))) := Lib.hid ((MK.refl mp w).then bb)
  have HL := Lib.hid (Lies.new w 46 [.int .i64 3, .int .i64 na, .int .i64 nb, .int .i64 (k : Int), .string nm])
  clear bb
  go_enter Tryz.func18, Tryz.ntmps18
  go_upto_region 5 with (fail)
  generalize w.alloc (.cells #[.int .i64 3, .int .i64 na, .int .i64 nb, .int .i64 (k : Int), .string nm] 46) = W at HM HK HL ⊢
  generalize w.heap.size = gb at HL ⊢
  have y1 : W.cell? ⟨gb, 1, none⟩ = some (.int .i64 na) := HL.out.cell 1
  have y3 : W.cell? ⟨gb, 3, none⟩ = some (.int .i64 (k : Int)) := HL.out.cell 3
  go_wp2_with (fail)
  refine (word_any k na W hk h1 h2).mono ?_
  rintro e w3 ⟨a3, c3, rfl, L3, b3⟩
  have HL3 := Lib.hid L3
  have HB3 := Lib.hid b3
  clear L3 b3 y1 y3
  go_wp2
  exact bodyPost_ret (v := .tuple #[.slice a3 1 c3, .int .i64 0]) (by simp [results, Tryz.results18, go_sem]) rfl (⟨a3, c3, rfl, HL3.out, HM.out.below HB3.out, HK.out.then HB3.out⟩)
set_option maxRecDepth 100000 in
set_option maxHeartbeats 4000000 in
theorem set_union (mp : Option Addr) (gl n sc : Nat) (M : Mr) (i j : Nat) (nn : Int) (nm : ByteArray) (ai aj : Option Addr) (ci cj : Nat) (si sj : List Lin) (w : World) (h0 : MrAt w 50 mp M)
    (hg : gl < w.heap.size) (hi : i < n) (hj : j < n) (di : w.cell? ⟨gl, i, none⟩ = some (.slice ai si.length ci)) (dj : w.cell? ⟨gl, j, none⟩ = some (.slice aj sj.length cj)) (Li : Lins w ai ci si) (Lj : Lins w aj cj sj)
    (hb : si.length + sj.length ≤ 100000000000) (hp : ∀ t, (linAt (si ++ sj) t).ps.length ≤ 100000000000) :
    Calls Tryz.prog 18 #[.pointer mp, .agg #[.int .i64 4, .int .i64 (i : Int), .int .i64 (j : Int), .int .i64 nn, .string nm], .slice (some ⟨gl, 0, none⟩) n sc] w (NormX 50 mp (unionS si sj, 0, M) w) := by
  have bb := below_alloc w (.cells #[.int .i64 4, .int .i64 (i : Int), .int .i64 (j : Int), .int .i64 nn, .string nm] 46)
  have HM := Lib.hid (h0.below bb)
  have HK : Hid (MK mp w (w.alloc (.cells #[.int .i64 4, .int .i64 (i : Int), .int .i64 (j : Int), .int .i64 nn, .string nm] 46))) := Lib.hid ((MK.refl mp w).then bb)
  have HL := Lib.hid (Lies.new w 46 [.int .i64 4, .int .i64 (i : Int), .int .i64 (j : Int), .int .i64 nn, .string nm])
  have di1 := (bb.cell (p := ⟨gl, i, none⟩) hg).trans di
  have dj1 := (bb.cell (p := ⟨gl, j, none⟩) hg).trans dj
  have hg1 := Nat.lt_of_lt_of_le hg bb.size
  have HLI := Lib.hid (Li.below bb)
  have HLJ := Lib.hid (Lj.below bb)
  have hmb : mp ≠ some ⟨w.heap.size, 0, none⟩ := fun e2 => by
    rcases h0.form with h | ⟨b, h, cs, l2⟩
    · rw [h] at e2; cases e2
    · rw [h] at e2; injection e2 with e2; injection e2 with e2; subst e2
      exact absurd l2.lt (Nat.lt_irrefl _)
  have HB := Lib.hid hb
  have HP := Lib.hid hp
  clear bb di dj hg Li Lj h0 hb hp
  go_enter Tryz.func18, Tryz.ntmps18
  go_upto_region 7 with (fail)
  generalize w.alloc (.cells #[.int .i64 4, .int .i64 (i : Int), .int .i64 (j : Int), .int .i64 nn, .string nm] 46) = W at HM HK HL di1 dj1 hg1 HLI HLJ ⊢
  generalize w.heap.size = gb at HL hmb ⊢
  have y1 : W.cell? ⟨gb, 1, none⟩ = some (.int .i64 (i : Int)) := HL.out.cell 1
  have y2 : W.cell? ⟨gb, 2, none⟩ = some (.int .i64 (j : Int)) := HL.out.cell 2
  have ltb := HL.out.lt
  have b0 : Below W.heap.size W W.drew := ⟨rfl, rfl, rfl, Nat.le_refl _, fun _ _ => rfl⟩
  have Z := union14 ai aj ci cj si sj W.drew (HLI.out.below b0) (HLJ.out.below b0) HB.out HP.out
  generalize hun : unionS si sj = un at Z
  have HUN := Lib.hid hun
  clear hun
  have hbi := HLI.out.le
  have hbj := HLJ.out.le
  generalize si.length = li at Z di1 hbi
  generalize sj.length = lj at Z dj1 hbj
  have HZ := Lib.hid Z
  clear Z HLI HLJ HB HP b0
  have i1 : (0 : Int) ≤ (i : Int) := by omega
  have i2 : (i : Int) < (n : Int) := by omega
  have j1 : (0 : Int) ≤ (j : Int) := by omega
  have j2 : (j : Int) < (n : Int) := by omega
  go_region_held3 (fun w' => w'.cell? ⟨gb, 1, none⟩ = some (.int .i64 (i : Int)) ∧ w'.cell? ⟨gb, 2, none⟩ = some (.int .i64 (j : Int)) ∧ w'.cell? ⟨gl, i, none⟩ = some (.slice ai li ci) ∧ w'.cell? ⟨gl, j, none⟩ = some (.slice aj lj cj))
      (first | (exact ⟨y1, y2, di1, dj1⟩) | (exact ⟨z1, z2, zi, zj⟩) | go_keep)
      (first
        | (go_at_call 33; refine HZ.out.mono ?_; rintro e w3 ⟨a3, c3, ls, hls, rfl, A3⟩; (have b3 : Below W.heap.size W w3 := undrew A3.bel); (have z1 := (b3.cell (p := ⟨gb, 1, none⟩) ltb).trans y1); (have z2 := (b3.cell (p := ⟨gb, 2, none⟩) ltb).trans y2); (have zi := (b3.cell (p := ⟨gl, i, none⟩) hg1).trans di1); (have zj := (b3.cell (p := ⟨gl, j, none⟩) hg1).trans dj1); (have L3 : Lins w3 a3 c3 un := ⟨ls, hls, A3.row⟩); (have hb3 := L3.le)))
  have HL3 := Lib.hid L3
  have Hb3 := Lib.hid b3
  clear L3 b3 A3 hls z1 z2 zi zj di1 dj1 y1 y2
  generalize hul : un.length = ul at hb3 ⊢
  have HUL := Lib.hid hul
  clear hul
  go_wp2
  exact bodyPost_ret (v := .tuple #[.slice a3 ul c3, .int .i64 0]) (by simp [results, Tryz.results18, go_sem]) rfl (NormX.to (by rw [HUN.out]) HUL.out HL3.out (HM.out.below Hb3.out) (HK.out.then Hb3.out))
set_option maxRecDepth 100000 in
set_option maxHeartbeats 4000000 in
theorem set_cat (mp : Option Addr) (gl n sc : Nat) (M : Mr) (i j : Nat) (nn : Int) (nm : ByteArray) (ai aj : Option Addr) (ci cj : Nat) (si sj : List Lin) (w : World) (h0 : MrAt w 50 mp M)
    (hg : gl < w.heap.size) (hi : i < n) (hj : j < n) (di : w.cell? ⟨gl, i, none⟩ = some (.slice ai si.length ci)) (dj : w.cell? ⟨gl, j, none⟩ = some (.slice aj sj.length cj)) (Li : Lins w ai ci si) (Lj : Lins w aj cj sj) (hmg : mp ≠ some ⟨gl, 0, none⟩)
    (hb : si.length * sj.length ≤ 100000000000) (hp : ∀ s t, (linAt si s).ps.length + (linAt sj t).ps.length ≤ 100000000000) :
    Calls Tryz.prog 18 #[.pointer mp, .agg #[.int .i64 5, .int .i64 (i : Int), .int .i64 (j : Int), .int .i64 nn, .string nm], .slice (some ⟨gl, 0, none⟩) n sc] w (NormX 50 mp (catM M si sj) w) := by
  have bb := below_alloc w (.cells #[.int .i64 5, .int .i64 (i : Int), .int .i64 (j : Int), .int .i64 nn, .string nm] 46)
  have HM := Lib.hid (h0.below bb)
  have HK : Hid (MK mp w (w.alloc (.cells #[.int .i64 5, .int .i64 (i : Int), .int .i64 (j : Int), .int .i64 nn, .string nm] 46))) := Lib.hid ((MK.refl mp w).then bb)
  have HL := Lib.hid (Lies.new w 46 [.int .i64 5, .int .i64 (i : Int), .int .i64 (j : Int), .int .i64 nn, .string nm])
  have di1 := (bb.cell (p := ⟨gl, i, none⟩) hg).trans di
  have dj1 := (bb.cell (p := ⟨gl, j, none⟩) hg).trans dj
  have hg1 := Nat.lt_of_lt_of_le hg bb.size
  have HLI := Lib.hid (Li.below bb)
  have HLJ := Lib.hid (Lj.below bb)
  have hmb : mp ≠ some ⟨w.heap.size, 0, none⟩ := fun e2 => by
    rcases h0.form with h | ⟨b, h, cs, l2⟩
    · rw [h] at e2; cases e2
    · rw [h] at e2; injection e2 with e2; injection e2 with e2; subst e2
      exact absurd l2.lt (Nat.lt_irrefl _)
  have HB := Lib.hid hb
  have HP := Lib.hid hp
  clear bb di dj hg Li Lj h0 hb hp
  go_enter Tryz.func18, Tryz.ntmps18
  go_upto_region 9 with (fail)
  generalize w.alloc (.cells #[.int .i64 5, .int .i64 (i : Int), .int .i64 (j : Int), .int .i64 nn, .string nm] 46) = W at HM HK HL di1 dj1 hg1 HLI HLJ ⊢
  generalize w.heap.size = gb at HL hmb ⊢
  have y1 : W.cell? ⟨gb, 1, none⟩ = some (.int .i64 (i : Int)) := HL.out.cell 1
  have y2 : W.cell? ⟨gb, 2, none⟩ = some (.int .i64 (j : Int)) := HL.out.cell 2
  have ltb := HL.out.lt
  have b0 : Below W.heap.size W W.drew := ⟨rfl, rfl, rfl, Nat.le_refl _, fun _ _ => rfl⟩
  have Z := cat22 mp ai aj ci cj M si sj W.drew (HM.out.below b0) (HLI.out.below b0) (HLJ.out.below b0) HB.out HP.out
  generalize hr : catM M si sj = r at Z
  obtain ⟨un, e0, M2⟩ := r
  have HUN := Lib.hid hr
  clear hr
  have hbi := HLI.out.le
  have hbj := HLJ.out.le
  generalize si.length = li at Z di1 hbi
  generalize sj.length = lj at Z dj1 hbj
  have HZ := Lib.hid Z
  clear Z HLI HLJ HB HP b0
  have i1 : (0 : Int) ≤ (i : Int) := by omega
  have i2 : (i : Int) < (n : Int) := by omega
  have j1 : (0 : Int) ≤ (j : Int) := by omega
  have j2 : (j : Int) < (n : Int) := by omega
  go_region_held3 (fun w' => w'.cell? ⟨gb, 1, none⟩ = some (.int .i64 (i : Int)) ∧ w'.cell? ⟨gb, 2, none⟩ = some (.int .i64 (j : Int)) ∧ w'.cell? ⟨gl, i, none⟩ = some (.slice ai li ci) ∧ w'.cell? ⟨gl, j, none⟩ = some (.slice aj lj cj))
      (first | (exact ⟨y1, y2, di1, dj1⟩) | (exact ⟨z1, z2, zi, zj⟩) | go_keep)
      (first
        | (go_at_call 34; refine HZ.out.mono ?_; rintro e w3 ⟨a3, c3, ls, hls, rfl, L3, F3, _, m3, k3⟩; (replace k3 : MK mp W w3 := ⟨k3.os, k3.tape, k3.output, k3.size, k3.block⟩); (have z1 := (cell_kept k3 (p := ⟨gb, 1, none⟩) ltb hmb).trans y1); (have z2 := (cell_kept k3 (p := ⟨gb, 2, none⟩) ltb hmb).trans y2); (have zi := (cell_kept k3 (p := ⟨gl, i, none⟩) hg1 hmg).trans di1); (have zj := (cell_kept k3 (p := ⟨gl, j, none⟩) hg1 hmg).trans dj1); (have hb3 := L3.row.le); (have HL3 : Hid (Lins w3 a3 c3 un) := Lib.hid ⟨ls, hls, L3⟩); (have hul : ls.length = un.length := by rw [← lins_len, hls])))
  have Hm3 := Lib.hid m3
  have Hk3 := Lib.hid k3
  rw [hul] at hb3
  clear L3 k3 m3 F3 z1 z2 zi zj di1 dj1 y1 y2 hls hul
  generalize hul : un.length = ul at hb3 ⊢
  have HUL := Lib.hid hul
  clear hul
  go_wp2
  exact bodyPost_ret (v := .tuple #[.slice a3 ul c3, .int .i64 e0]) (by simp [results, Tryz.results18, go_sem]) rfl (NormX.to HUN.out HUL.out HL3.out Hm3.out (HK.out.and Hk3.out))
set_option maxRecDepth 100000 in
set_option maxHeartbeats 4000000 in
theorem set_star (mp : Option Addr) (gl n sc : Nat) (M : Mr) (i : Nat) (nb nn : Int) (nm : ByteArray) (ai : Option Addr) (ci : Nat) (si : List Lin) (w : World) (h0 : MrAt w 50 mp M)
    (hg : gl < w.heap.size) (hi : i < n) (di : w.cell? ⟨gl, i, none⟩ = some (.slice ai si.length ci)) (Li : Lins w ai ci si) (hb : si.length ≤ 100000000000) :
    Calls Tryz.prog 18 #[.pointer mp, .agg #[.int .i64 6, .int .i64 (i : Int), .int .i64 nb, .int .i64 nn, .string nm], .slice (some ⟨gl, 0, none⟩) n sc] w (NormX 50 mp (starM M si) w) := by
  have bb := below_alloc w (.cells #[.int .i64 6, .int .i64 (i : Int), .int .i64 nb, .int .i64 nn, .string nm] 46)
  have HM := Lib.hid (h0.below bb)
  have HK : Hid (MK mp w (w.alloc (.cells #[.int .i64 6, .int .i64 (i : Int), .int .i64 nb, .int .i64 nn, .string nm] 46))) := Lib.hid ((MK.refl mp w).then bb)
  have HL := Lib.hid (Lies.new w 46 [.int .i64 6, .int .i64 (i : Int), .int .i64 nb, .int .i64 nn, .string nm])
  have di1 := (bb.cell (p := ⟨gl, i, none⟩) hg).trans di
  have HLI := Lib.hid (Li.below bb)
  clear bb di hg Li h0
  go_enter Tryz.func18, Tryz.ntmps18
  go_upto_region 11 with (fail)
  generalize w.alloc (.cells #[.int .i64 6, .int .i64 (i : Int), .int .i64 nb, .int .i64 nn, .string nm] 46) = W at HM HK HL di1 HLI ⊢
  generalize w.heap.size = gb at HL ⊢
  have y1 : W.cell? ⟨gb, 1, none⟩ = some (.int .i64 (i : Int)) := HL.out.cell 1
  have Z := star25 mp ai ci M si W HM.out HLI.out hb
  generalize hr : starM M si = r at Z
  obtain ⟨un, e0, M2⟩ := r
  have HUN := Lib.hid hr
  clear hr
  have hbi := HLI.out.le
  generalize si.length = li at Z di1 hbi
  have HZ := Lib.hid Z
  clear Z HLI hb
  have i1 : (0 : Int) ≤ (i : Int) := by omega
  have i2 : (i : Int) < (n : Int) := by omega
  go_wp2_with (fail)
  refine HZ.out.mono ?_
  rintro e w3 ⟨a3, c3, ls, hls, rfl, L3, F3, _, m3, k3⟩
  have hb3 := L3.row.le
  have HL3 : Hid (Lins w3 a3 c3 un) := Lib.hid ⟨ls, hls, L3⟩
  have hul : ls.length = un.length := by rw [← lins_len, hls]
  have Hm3 := Lib.hid m3
  have Hk3 := Lib.hid k3
  rw [hul] at hb3
  clear L3 k3 m3 F3 di1 y1 hls hul HZ
  generalize hul : un.length = ul at hb3 ⊢
  have HUL := Lib.hid hul
  clear hul
  go_wp2
  exact bodyPost_ret (v := .tuple #[.slice a3 ul c3, .int .i64 e0]) (by simp [results, Tryz.results18, go_sem]) rfl (NormX.to HUN.out HUL.out HL3.out Hm3.out (HK.out.and Hk3.out))

/-- set at a node that Check takes. -/
theorem set_any {T : Int} (hT : T ≤ 12) {w : World} {mp : Option Addr} {g n k : Nat} {es : List Sx} {fl fl' : List (Int × Bool)} {M : Mr} {W : World} (h : NpSt w mp g n k es fl M W) (hk : k < 24) (hkn : k ≤ n) {x : Q.Nd} (hs : Q.chkStep T k x fl = some fl') :
    Calls Tryz.prog 18 #[.pointer mp, .agg #[.int .i64 x.kind, .int .i64 x.a, .int .i64 x.b, .int .i64 x.n, .string x.name], .slice (some ⟨g, 0, none⟩) n n] W (NormX 50 mp (nodeM M (sxs es) x.kind x.a x.b x.n) W) := by
  have S := h.stk
  have hl : (sxs es).length = k := by rw [sxs_len, h.num]
  obtain ⟨xk, xa, xb, xn, nm⟩ := x
  rcases step_kindsT hs with ⟨h12, hfl⟩ | ⟨h3, n0, n1, a0, a1, hfl⟩ | ⟨h45, F, p, q, hF, hp, hq, hfl⟩ | ⟨h6, F, p, hF, hp, hfl⟩
  · rcases h12 with h1 | h2
    · dsimp only at h1 ⊢
      subst h1
      rw [node1]
      exact set_zero mp _ n n M xa xb xn nm W h.met
    · dsimp only at h2 ⊢
      subst h2
      rw [node2]
      exact set_one mp _ n n M xa xb xn nm W h.met
  · dsimp only at h3 n0 n1 a0 a1 ⊢
    subst h3
    obtain ⟨t, rfl⟩ : ∃ t : Nat, xn = t := ⟨xn.toNat, by omega⟩
    rw [node3]
    exact set_tag mp _ n n M t xa xb nm W h.met (by omega) a0 a1
  · rw [hF] at S
    obtain ⟨u, wa, wb, i, j, huv, SF, hi, hil, gi, hj, hjl, gj⟩ := two_parts S
    rw [hi] at hp
    rw [hj] at hq
    dsimp only at hp hq h45 ⊢
    subst hp; subst hq
    obtain ⟨ai, ci, hgl, di, Li⟩ := h.at hil
    obtain ⟨aj, cj, _, dj, Lj⟩ := h.at hjl
    have hi1 := gi.few
    have hj1 := gj.few
    have hab : wa + wb ≤ 24 := by omega
    have pa := pow_mono (show wa ≤ 24 by omega)
    have pb := pow_mono (show wb ≤ 24 by omega)
    have hpi : ∀ t, (linAt ((sxs es).getD i []) t).ps.length ≤ 2 ^ wa := fun t => by
      unfold linAt
      rw [List.getD_eq_getElem?_getD]
      by_cases ht : t < ((sxs es).getD i []).length
      · rw [List.getElem?_eq_getElem ht]; exact (gi.each _ (List.getElem_mem ht)).few
      · rw [List.getElem?_eq_none (by omega)]; exact Nat.zero_le _
    have hpj : ∀ t, (linAt ((sxs es).getD j []) t).ps.length ≤ 2 ^ wb := fun t => by
      unfold linAt
      rw [List.getD_eq_getElem?_getD]
      by_cases ht : t < ((sxs es).getD j []).length
      · rw [List.getElem?_eq_getElem ht]; exact (gj.each _ (List.getElem_mem ht)).few
      · rw [List.getElem?_eq_none (by omega)]; exact Nat.zero_le _
    rcases h45 with rfl | rfl
    · rw [node4]
      refine set_union mp g n n M i j xn nm ai aj ci cj _ _ W h.met hgl (by omega) (by omega) di dj Li Lj (by omega) (fun t => ?_)
      unfold linAt
      rw [List.getD_eq_getElem?_getD]
      by_cases ht : t < ((sxs es).getD i [] ++ (sxs es).getD j []).length
      · rw [List.getElem?_eq_getElem ht]
        rcases List.mem_append.1 (List.getElem_mem ht) with hm | hm
        · have := (gi.each _ hm).few
          simp only [Option.getD_some]
          omega
        · have := (gj.each _ hm).few
          simp only [Option.getD_some]
          omega
      · rw [List.getElem?_eq_none (by omega)]; exact Nat.zero_le _
    · rw [node5]
      exact set_cat mp g n n M i j xn nm ai aj ci cj _ _ W h.met hgl (by omega) (by omega) di dj Li Lj (row_apartT h.met (by decide) h.row rfl) (Nat.le_trans (Nat.mul_le_mul hi1 hj1) (by rw [← Nat.pow_add]; have := pow_mono hab; omega)) (fun s t => by have := hpi s; have := hpj t; omega)
  · rw [hF] at S
    obtain ⟨u, wa, i, huv, SF, hi, hil, gi⟩ := one_part S
    rw [hi] at hp
    dsimp only at hp h6 ⊢
    subst hp; subst h6
    obtain ⟨ai, ci, hgl, di, Li⟩ := h.at hil
    have hi1 := gi.few
    have pa := pow_mono (show wa ≤ 24 by omega)
    rw [node6]
    exact set_star mp g n n M i xb xn nm ai ci _ W h.met hgl (by omega) di Li (by omega)
end Go.Proofs.YtfkaagndlpcfdaaGreat

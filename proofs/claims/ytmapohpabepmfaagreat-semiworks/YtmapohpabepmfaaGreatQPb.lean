/- What columbaryplay.Pattern keeps in memory while it makes a pattern, and the contract of its inner add; the condition: it lies there. -/
import Derived.Test.YtmapohpabepmfaaGreatQPa
import Derived.Deep.DeepCutAuto
namespace Go.Proofs.YtmapohpabepmfaaGreat.Q
open Go.ChangeShapes Go.WideShapes Go.ChangeAt Go.RowKit

/-- The variables of Pattern: nodes, open parts, stars, each in a block of its own. -/
structure PM (B : Nat) (w0 w : World) (gp go gs : Nat) (ns : List Nd) (os : List Int) (sl : List Bool) (pa : Option Addr) (pc : Nat) (oa : Option Addr) (oc : Nat) (sa : Option Addr) (sc : Nat) : Prop where
  p : Lies w gp 79 [.slice pa ns.length pc]
  o : Lies w go 23 [.slice oa os.length oc]
  s : Lies w gs 106 [.slice sa sl.length sc]
  nds : Nds w pa pc ns
  ins : Ins w oa oc os
  bls : Bls w sa sc sl
  bp : B ≤ gp
  bo : B ≤ go
  bs : B ≤ gs
  ap : ∀ g, pa = some ⟨g, 0, none⟩ → B ≤ g
  ao : ∀ g, oa = some ⟨g, 0, none⟩ → B ≤ g
  aS : ∀ g, sa = some ⟨g, 0, none⟩ → B ≤ g
  bel : Below B w0 w
def PMem (B : Nat) (w0 w : World) (gp go gs : Nat) (ns : List Nd) (os : List Int) (sl : List Bool) : Prop := ∃ pa pc oa oc sa sc, PM B w0 w gp go gs ns os sl pa pc oa oc sa sc
theorem nds_apart {w : World} {g : Nat} {t : TypeId} {cs : List Value} {a : Option Addr} {c : Nat} {xs : List Nd} (h : Lies w g t cs) (i : Nds w a c xs) (ht : t ≠ 104) : ¬ a = some ⟨g, 0, none⟩ := by
  rintro rfl
  rcases i with ⟨e, _⟩ | ⟨g', sp, e, _, _, _, l⟩
  · cases e
  · injection e with e; injection e with e; subst e
    exact Lies.other h l ht rfl
theorem ins_apart {w : World} {g : Nat} {t : TypeId} {cs : List Value} {a : Option Addr} {c : Nat} {xs : List Int} (h : Lies w g t cs) (i : Ins w a c xs) (ht : t ≠ 3) : ¬ a = some ⟨g, 0, none⟩ := by
  rintro rfl
  rcases i with ⟨e, _⟩ | ⟨g', sp, e, _, _, _, l⟩
  · cases e
  · injection e with e; injection e with e; subst e
    exact Lies.other h l ht rfl
theorem bls_apart {w : World} {g : Nat} {t : TypeId} {cs : List Value} {a : Option Addr} {c : Nat} {xs : List Bool} (h : Lies w g t cs) (i : Bls w a c xs) (ht : t ≠ 4) : ¬ a = some ⟨g, 0, none⟩ := by
  rintro rfl
  rcases i with ⟨e, _⟩ | ⟨g', sp, e, _, _, _, l⟩
  · cases e
  · injection e with e; injection e with e; subst e
    exact Lies.other h l ht rfl
theorem nds_ins {w : World} {a b : Option Addr} {c d : Nat} {xs : List Nd} {ys : List Int} (i : Nds w a c xs) (j : Ins w b d ys) (g : Nat) (e : a = some ⟨g, 0, none⟩) : ¬ b = some ⟨g, 0, none⟩ := by
  rcases i with ⟨h, _⟩ | ⟨g', sp, h, _, _, _, l⟩
  · rw [e] at h; cases h
  · rw [e] at h; injection h with h; injection h with h; subst h
    exact ins_apart l j (by decide)
theorem nds_bls {w : World} {a b : Option Addr} {c d : Nat} {xs : List Nd} {ys : List Bool} (i : Nds w a c xs) (j : Bls w b d ys) (g : Nat) (e : a = some ⟨g, 0, none⟩) : ¬ b = some ⟨g, 0, none⟩ := by
  rcases i with ⟨h, _⟩ | ⟨g', sp, h, _, _, _, l⟩
  · rw [e] at h; cases h
  · rw [e] at h; injection h with h; injection h with h; subst h
    exact bls_apart l j (by decide)
theorem ins_bls {w : World} {a b : Option Addr} {c d : Nat} {xs : List Int} {ys : List Bool} (i : Ins w a c xs) (j : Bls w b d ys) (g : Nat) (e : a = some ⟨g, 0, none⟩) : ¬ b = some ⟨g, 0, none⟩ := by
  rcases i with ⟨h, _⟩ | ⟨g', sp, h, _, _, _, l⟩
  · rw [e] at h; cases h
  · rw [e] at h; injection h with h; injection h with h; subst h
    exact bls_apart l j (by decide)
section
variable {B : Nat} {w0 w w' : World} {gp go gs : Nat} {ns : List Nd} {os : List Int} {sl : List Bool} {pa oa sa : Option Addr} {pc oc sc : Nat}
theorem PM.lt (h : PM B w0 w gp go gs ns os sl pa pc oa oc sa sc) : B ≤ w.heap.size := Nat.le_of_lt (Nat.lt_of_le_of_lt h.bp h.p.lt)
theorem PM.alloc (h : PM B w0 w gp go gs ns os sl pa pc oa oc sa sc) (ob : Obj) : PM B w0 (w.alloc ob) gp go gs ns os sl pa pc oa oc sa sc :=
  ⟨h.p.alloc ob, h.o.alloc ob, h.s.alloc ob, h.nds.alloc ob, h.ins.alloc ob, h.bls.alloc ob, h.bp, h.bo, h.bs, h.ap, h.ao, h.aS, h.bel.alloc h.lt ob⟩
theorem PM.drew (h : PM B w0 w gp go gs ns os sl pa pc oa oc sa sc) : PM B w0 w.drew gp go gs ns os sl pa pc oa oc sa sc :=
  ⟨h.p, h.o, h.s, h.nds, h.ins, h.bls, h.bp, h.bo, h.bs, h.ap, h.ao, h.aS, h.bel.trans (below_drewN _ _ 1)⟩
theorem PM.drewN (h : PM B w0 w gp go gs ns os sl pa pc oa oc sa sc) (q : Nat) : PM B w0 (w.drewN q) gp go gs ns os sl pa pc oa oc sa sc :=
  ⟨h.p, h.o, h.s, h.nds, h.ins, h.bls, h.bp, h.bo, h.bs, h.ap, h.ao, h.aS, h.bel.trans (below_drewN _ _ q)⟩
/-- open has one number more, behind some that stay. -/
theorem PM.setO {v : World} {oa' : Option Addr} {oc' m : Nat} {os' : List Int} (h : PM B w0 v gp go gs ns os sl pa pc oa oc sa sc) (T : Ins w' oa' oc' os') (K : Kept (fun g => oa = some ⟨g, 0, none⟩) v w') (O : ∀ g, oa' = some ⟨g, 0, none⟩ → oa = some ⟨g, 0, none⟩ ∨ v.heap.size ≤ g) (hm : m = os'.length) :
    PM B w0 (w'.setCell ⟨go, 0, none⟩ (.slice oa' m oc')) gp go gs ns os' sl pa pc oa' oc' sa sc := by
  subst hm
  have np := ins_apart h.p h.ins (by decide)
  have no := ins_apart h.o h.ins (by decide)
  have nS := ins_apart h.s h.ins (by decide)
  have P' := h.p.kept K np
  have O' := h.o.kept K no
  have S' := h.s.kept K nS
  have N' := h.nds.kept K (fun g e e2 => nds_ins h.nds h.ins g e e2)
  have B' := h.bls.kept K (fun g e e2 => ins_bls h.ins h.bls g e2 e)
  have KS : Kept (fun x => x = go) w' (w'.setCell ⟨go, 0, none⟩ (.slice oa' os'.length oc')) := (Kept.refl (fun x => x = go) w').setCell (fun _ => rfl) _
  refine ⟨P'.far (Lies.other P' O' (by decide)) _, (O'.set 0 _), S'.far (Lies.other S' O' (by decide)) _, N'.kept KS (fun g e e2 => nds_apart O' N' (by decide) (by rw [e, e2])), T.kept KS (fun g e e2 => ins_apart O' T (by decide) (by rw [e, e2])), B'.kept KS (fun g e e2 => bls_apart O' B' (by decide) (by rw [e, e2])), h.bp, h.bo, h.bs, h.ap, fun g e => ?_, h.aS, (h.bel.trans (K.below h.ao h.lt)).setCell h.bo _⟩
  rcases O g e with h' | h'
  · exact h.ao g h'
  · exact Nat.le_trans h.lt h'
theorem PM.setP {v : World} {pa' : Option Addr} {pc' m : Nat} {ns' : List Nd} (h : PM B w0 v gp go gs ns os sl pa pc oa oc sa sc) (T : Nds w' pa' pc' ns') (K : Kept (fun g => pa = some ⟨g, 0, none⟩) v w') (O : ∀ g, pa' = some ⟨g, 0, none⟩ → pa = some ⟨g, 0, none⟩ ∨ v.heap.size ≤ g) (hm : m = ns'.length) :
    PM B w0 (w'.setCell ⟨gp, 0, none⟩ (.slice pa' m pc')) gp go gs ns' os sl pa' pc' oa oc sa sc := by
  subst hm
  have P' := h.p.kept K (nds_apart h.p h.nds (by decide))
  have O' := h.o.kept K (nds_apart h.o h.nds (by decide))
  have S' := h.s.kept K (nds_apart h.s h.nds (by decide))
  have N' := h.ins.kept K (fun g e e2 => nds_ins h.nds h.ins g e2 e)
  have B' := h.bls.kept K (fun g e e2 => nds_bls h.nds h.bls g e2 e)
  have KS : Kept (fun x => x = gp) w' (w'.setCell ⟨gp, 0, none⟩ (.slice pa' ns'.length pc')) := (Kept.refl (fun x => x = gp) w').setCell (fun _ => rfl) _
  refine ⟨P'.set 0 _, O'.far (Lies.other O' P' (by decide)) _, S'.far (Lies.other S' P' (by decide)) _, T.kept KS (fun g e e2 => nds_apart P' T (by decide) (by rw [e, e2])), N'.kept KS (fun g e e2 => ins_apart P' N' (by decide) (by rw [e, e2])), B'.kept KS (fun g e e2 => bls_apart P' B' (by decide) (by rw [e, e2])), h.bp, h.bo, h.bs, fun g e => ?_, h.ao, h.aS, (h.bel.trans (K.below h.ap h.lt)).setCell h.bp _⟩
  rcases O g e with h' | h'
  · exact h.ap g h'
  · exact Nat.le_trans h.lt h'
theorem PM.setS {v : World} {sa' : Option Addr} {sc' m : Nat} {sl' : List Bool} (h : PM B w0 v gp go gs ns os sl pa pc oa oc sa sc) (T : Bls w' sa' sc' sl') (K : Kept (fun g => sa = some ⟨g, 0, none⟩) v w') (O : ∀ g, sa' = some ⟨g, 0, none⟩ → sa = some ⟨g, 0, none⟩ ∨ v.heap.size ≤ g) (hm : m = sl'.length) :
    PM B w0 (w'.setCell ⟨gs, 0, none⟩ (.slice sa' m sc')) gp go gs ns os sl' pa pc oa oc sa' sc' := by
  subst hm
  have P' := h.p.kept K (bls_apart h.p h.bls (by decide))
  have O' := h.o.kept K (bls_apart h.o h.bls (by decide))
  have S' := h.s.kept K (bls_apart h.s h.bls (by decide))
  have N' := h.nds.kept K (fun g e e2 => nds_bls h.nds h.bls g e e2)
  have I' := h.ins.kept K (fun g e e2 => ins_bls h.ins h.bls g e e2)
  have KS : Kept (fun x => x = gs) w' (w'.setCell ⟨gs, 0, none⟩ (.slice sa' sl'.length sc')) := (Kept.refl (fun x => x = gs) w').setCell (fun _ => rfl) _
  refine ⟨P'.far (Lies.other P' S' (by decide)) _, O'.far (Lies.other O' S' (by decide)) _, S'.set 0 _, N'.kept KS (fun g e e2 => nds_apart S' N' (by decide) (by rw [e, e2])), I'.kept KS (fun g e e2 => ins_apart S' I' (by decide) (by rw [e, e2])), T.kept KS (fun g e e2 => bls_apart S' T (by decide) (by rw [e, e2])), h.bp, h.bo, h.bs, h.ap, h.ao, fun g e => ?_, (h.bel.trans (K.below h.aS h.lt)).setCell h.bs _⟩
  rcases O g e with h' | h'
  · exact h.aS g h'
  · exact Nat.le_trans h.lt h'
end
theorem Ins.alloc_drew {w : World} {a : Option Addr} {c : Nat} {ts : List Int} (h : Ins w a c ts) (o : Obj) : Ins (w.alloc o).drew a c ts := h.alloc o
set_option maxRecDepth 100000 in
set_option maxHeartbeats 4000000 in
theorem padd_any (B : Nat) (w0 w : World) (gp go gs : Nat) (ns : List Nd) (os : List Int) (sl : List Bool) (h : PMem B w0 w gp go gs ns os sl) (m pk : Nat) (hm : os.length = m + pk) (hn : ns.length ≤ 1000) (ho : os.length ≤ 1000) (hs : sl.length ≤ 1000) (k a b n : Int) (x : ByteArray) (st : Bool) :
    Calls Tryz.prog 78 #[.agg #[.int .i64 k, .int .i64 a, .int .i64 b, .int .i64 n, .string x], .int .i64 (pk : Nat), .bool st, .pointer (some ⟨go, 0, none⟩), .pointer (some ⟨gp, 0, none⟩), .pointer (some ⟨gs, 0, none⟩)] w
      fun e w' => e = .returned (.tuple #[]) ∧ PMem B w0 w' gp go gs (ns ++ [⟨k, a, b, n, x⟩]) (os.take m ++ [(ns.length : Int)]) (sl ++ [st]) := by
  obtain ⟨pa, pc, oa, oc, sa, sc, M⟩ := h
  have HM0 := Lib.hid (M.alloc (.cells #[.int .i64 k, .int .i64 a, .int .i64 b, .int .i64 n, .string x] 104))
  have HX : Hid (Lies (w.alloc (.cells #[.int .i64 k, .int .i64 a, .int .i64 b, .int .i64 n, .string x] 104)) w.heap.size 104 [.int .i64 k, .int .i64 a, .int .i64 b, .int .i64 n, .string x]) := Lib.hid (Lies.new w _ _)
  have hnp : ¬ pa = some ⟨w.heap.size, 0, none⟩ := fun e => by have := M.nds.lt e; omega
  have hng : ¬ w.heap.size = go ∧ ¬ w.heap.size = gp ∧ ¬ w.heap.size = gs := ⟨by have := M.o.lt; omega, by have := M.p.lt; omega, by have := M.s.lt; omega⟩
  have HNG := Lib.hid hng
  have HNP := Lib.hid hnp
  have hle := M.ins.le
  clear M hng hnp
  obtain ⟨q, hq⟩ : ∃ q, q = ns.length := ⟨_, rfl⟩
  obtain ⟨r, hr⟩ : ∃ r, r = sl.length := ⟨_, rfl⟩
  have HQ := Lib.hid hq
  have HR := Lib.hid hr
  rw [← hq] at hn ⊢
  rw [← hr] at hs
  rw [hm] at ho hle
  have HMK : Hid (os.length = m + pk) := Lib.hid hm
  clear hq hr hm
  go_enter Tryz.func78, Tryz.ntmps78
  go_wp2_with (fail)
  generalize w.alloc (.cells #[.int .i64 k, .int .i64 a, .int .i64 b, .int .i64 n, .string x] 104) = W1 at HM0 HX ⊢
  generalize w.heap.size = gb at HX HNG HNP ⊢
  have p0 : W1.cell? ⟨gp, 0, none⟩ = some (.slice pa q pc) := by rw [HQ.out]; exact HM0.out.p.cell 0
  have o0 : W1.cell? ⟨go, 0, none⟩ = some (.slice oa (m + pk) oc) := by rw [← HMK.out]; exact HM0.out.o.cell 0
  have hno := ins_apart HM0.out.o HM0.out.ins (by decide)
  have f0 := HM0.out.o.frozen 0
  have hlo : go < W1.heap.size := HM0.out.o.lt
  have hlp : gp < W1.heap.size := HM0.out.p.lt
  have hw : IntKind.i64.wrap (m : Int) = (m : Int) := IntWalk.i64_in _ (by omega)
  have hmo : (m : Int) ≤ (oc : Int) := by omega
  have hm0 : (0 : Int) ≤ (m : Int) := by omega
  go_cut [9] (fun _ wx => ∃ a' c', Hid (PM B w0 wx gp go gs ns (os.take m ++ [(q : Int)]) sl pa pc a' c' sa sc) ∧ Hid (Lies wx gb 104 [.int .i64 k, .int .i64 a, .int .i64 b, .int .i64 n, .string x]))
  case first =>
    go_region_law ((refine step_appI _ (by rfl) _ _ (by rfl) oa oc m _ (by rfl) (by rfl) (os.take m) (q : Int) (Ins.alloc_drew (Ins.cut HM0.out.ins (by have := HMK.out; omega)) _) (Lies.new_drew W1 3 (inCells (q : Int))) (by rw [List.length_take]; omega) (by rw [List.length_take]; have := HMK.out; omega) ?_; intro a' c' w' T K2 O; (have fz : w'.frozen? ⟨go, 0, none⟩ = false := (lies_app_drew K2 HM0.out.o hno).frozen 0); (have cz : w'.cell? ⟨go, 0, none⟩ = some (.slice oa os.length oc) := (lies_app_drew K2 HM0.out.o hno).cell 0)))
    all_goals
      have HT := Lib.hid T
      have HK2 := Lib.hid K2
      have HO := Lib.hid O
      clear T K2 O
      have HM2 : Hid (PM B w0 (w'.setCell ⟨go, 0, none⟩ (.slice a' (m + 1) c')) gp go gs ns (os.take m ++ [(q : Int)]) sl pa pc a' c' sa sc) := Lib.hid (PM.setO ((HM0.out.alloc _).drew) HT.out HK2.out HO.out (by rw [List.length_append, List.length_take]; have := HMK.out; simp; omega))
      have HX2 : Hid (Lies (w'.setCell ⟨go, 0, none⟩ (.slice a' (m + 1) c')) gb 104 [.int .i64 k, .int .i64 a, .int .i64 b, .int .i64 n, .string x]) := Lib.hid (Lies.far (lies_app_drew HK2.out HX.out (fun e => ins_apart HX.out HM0.out.ins (by decide) e)) (by exact HNG.out.1) _)
      clear HT HK2 HO fz cz
      go_wp2
      go_meet
      exact ⟨a', c', HM2, HX2⟩
  case rest =>
    obtain ⟨a', c', HM2, HX2⟩ := hcut
    generalize wc = W2 at HM2 HX2 ⊢
    have p2 : W2.cell? ⟨gp, 0, none⟩ = some (.slice pa q pc) := by rw [HQ.out]; exact HM2.out.p.cell 0
    have x0 := HX2.out.cell 0
    have x1 := HX2.out.cell 1
    have x2 := HX2.out.cell 2
    have x3 := HX2.out.cell 3
    have x4 := HX2.out.cell 4
    simp only [List.getElem?_cons_zero, List.getElem?_cons_succ] at x0 x1 x2 x3 x4
    have hgpgs : ¬ gp = gs := Lies.other HM2.out.p HM2.out.s (by decide)
    have hgsgp : ¬ gs = gp := Ne.symm hgpgs
    have hPn := nds_apart HM2.out.p HM2.out.nds (by decide)
    have hSn := nds_apart HM2.out.s HM2.out.nds (by decide)
    have hSb := bls_apart HM2.out.s HM2.out.bls (by decide)
    clear p0 o0 f0 hlo hlp hno
    go_wp2_with (at_builtin; first
      | (refine wpList_appN _ rfl _ _ rfl pa pc q _ rfl rfl ns ⟨k, a, b, n, x⟩ (Nds.alloc HM2.out.nds _) (Lies.new W2 104 (ndCells ⟨k, a, b, n, x⟩)) (by have := HQ.out; omega) HQ.out ?_; intro a2 c2 w3 T3 K3 O3; (have fz3 := (lies_app K3 HM2.out.p hPn).frozen 0); (have cz3 : w3.cell? ⟨gp, 0, none⟩ = some (.slice pa ns.length pc) := (lies_app K3 HM2.out.p hPn).cell 0); (have sz3 : w3.cell? ⟨gs, 0, none⟩ = some (.slice sa r sc) := by (rw [HR.out]; exact (lies_app K3 HM2.out.s hSn).cell 0)); (have HM3 := Lib.hid (PM.setP (m := q + 1) (HM2.out.alloc _) T3 K3 O3 (by rw [List.length_append, ← HQ.out]; rfl))); clear T3 K3 O3)
      | (refine wpList_appB _ rfl _ _ rfl sa sc r _ rfl rfl sl st (Bls.alloc HM3.out.bls _) (Lies.newAt _ 4 (blCells st) (by simp)) (by have := HR.out; omega) HR.out ?_; intro a3 c3 w4 T4 K4 O4; (have fz4 := (lies_app K4 HM3.out.s (bls_apart HM3.out.s HM3.out.bls (by decide))).frozen 0); (have cz4 : w4.cell? ⟨gs, 0, none⟩ = some (.slice sa sl.length sc) := (lies_app K4 HM3.out.s (bls_apart HM3.out.s HM3.out.bls (by decide))).cell 0); (have HM4 := Lib.hid (PM.setS (m := r + 1) (HM3.out.alloc _) T4 K4 O4 (by rw [List.length_append, ← HR.out]; rfl))); clear T4 K4 O4))
    exact bodyPost_end (v := .tuple #[]) (by simp [results, Tryz.results78, go_sem]) rfl ⟨rfl, _, _, _, _, _, _, HM4.out⟩
end Go.Proofs.YtmapohpabepmfaaGreat.Q

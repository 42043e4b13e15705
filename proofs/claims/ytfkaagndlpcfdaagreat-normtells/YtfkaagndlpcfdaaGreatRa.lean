/- The program's norm: word and set; how far Of has come. -/
import Derived.Test.YtfkaagndlpcfdaaGreatOc
import Derived.Test.YtfkaagndlpcfdaaGreatNf
import Derived.Test.YtfkaagndlpcfdaaGreatQCk
import Derived.Deep.RegionHeld3
import Derived.Deep.CutBlock
import Derived.Deep.DeepCutAuto
import Derived.Deep.CutRange
namespace Go.Proofs.YtfkaagndlpcfdaaGreat
open Go.ChangeShapes Go.WideShapes Go.ChangeAt Go.RowKit

/-- What comes of a node: it stands on the stack, and is not too great. -/
theorem node_step {T : Int} (hT : T ≤ 12) {k : Nat} {x : Q.Nd} {es : List (List Lin)} {fl fl' : List (Int × Bool)} {M : Mr} (h : Stk es fl k) (hl : es.length = k) (hk : k < 24) (hs : Q.chkStep T k x fl = some fl')
    (e : (nodeM M es x.kind x.a x.b x.n).2.1 = 0) : Stk (es ++ [(nodeM M es x.kind x.a x.b x.n).1]) fl' (k + 1) ∧ Good 24 (nodeM M es x.kind x.a x.b x.n).1 := by
  have hs2 := step_kindsT hs
  obtain ⟨xk, xa, xb, xn, nm⟩ := x
  dsimp only at hs2 e ⊢
  clear hs
  rcases hs2 with ⟨h12, hfl⟩ | ⟨h3, n0, n1, a0, a1, hfl⟩ | ⟨h45, F, p, q, hF, hp, hq, hfl⟩ | ⟨h6, F, p, hF, hp, hfl⟩
  · rcases h12 with rfl | rfl
    · rw [hfl, node1]
      exact stk_leaf h hl hk (good_nil 1)
    · rw [hfl, node2]
      exact stk_leaf h hl hk (good_one 1)
  · subst h3
    rw [hfl, node3]
    exact stk_leaf h hl hk (good_tag n0 (by omega) a0 a1)
  · rw [hF] at h
    obtain ⟨u, wa, wb, i, j, huv, SF, hi, hil, gi, hj, hjl, gj⟩ := two_parts h
    rw [hi] at hp
    rw [hj] at hq
    subst hp; subst hq
    rw [hfl]
    rcases h45 with rfl | rfl
    · rw [node4]
      exact stk_part SF hl (by omega) hk (good_sum gi gj)
    · rw [node5] at e ⊢
      rw [catM_ok e]
      exact stk_part SF hl (by omega) hk (good_cat gi gj (by omega)).2
  · rw [hF] at h
    obtain ⟨u, wa, i, huv, SF, hi, hil, gi⟩ := one_part h
    rw [hi] at hp
    subst hp; subst h6
    rw [hfl]
    rw [node6] at e ⊢
    rw [starM_ok e]
    exact stk_part SF hl (by omega) hk (good_star gi)

/-- How far Of has come: a set for each node so far, and the stack. -/
structure NpSt (w : World) (mp : Option Addr) (g n k : Nat) (es : List Sx) (fl : List (Int × Bool)) (M : Mr) (W : World) : Prop where
  mks : MK mp w W
  row : Row W 32 (some ⟨g, 0, none⟩) n (sxv es)
  each : ∀ e ∈ es, Lins W e.a e.c e.s
  num : es.length = k
  own : w.heap.size ≤ g
  met : MrAt W 50 mp M
  stk : Stk (sxs es) fl k
  good : ∀ e ∈ es, Good 24 e.s
theorem mt_meterP : MT 50 := by unfold MT; decide
section
variable {w : World} {mp : Option Addr} {g n k : Nat} {es : List Sx} {fl : List (Int × Bool)} {M M' : Mr} {W W' : World}
theorem NpSt.turn (h : NpSt w mp g n k es fl M W) (m : MK mp W W') (met : MrAt W' 50 mp M') : NpSt w mp g n k es fl M' W' :=
  ⟨h.mks.and m, h.row.kept m (fun _ e => row_apartT h.met (by decide) h.row e), fun e he => (h.each e he).mk h.met mt_meterP m, h.num, h.own, met, h.stk, h.good⟩
theorem NpSt.below (h : NpSt w mp g n k es fl M W) (b : Below W.heap.size W W') : NpSt w mp g n k es fl M W' :=
  ⟨h.mks.then b, h.row.below b, fun e he => (h.each e he).below b, h.num, h.own, h.met.below b, h.stk, h.good⟩
theorem NpSt.at (h : NpSt w mp g n k es fl M W) {i : Nat} (hi : i < (sxs es).length) :
    ∃ a c, g < W.heap.size ∧ W.cell? ⟨g, i, none⟩ = some (.slice a ((sxs es).getD i []).length c) ∧ Lins W a c ((sxs es).getD i []) := by
  have hi2 : i < es.length := by rwa [sxs_len] at hi
  have hi3 : i < (sxv es).length := by rw [sxv_len]; exact hi2
  obtain ⟨g', e, hc⟩ := h.row.there hi3
  injection e with e; injection e with e; subst e
  have e1 : (sxs es).getD i [] = es[i].s := by simp [sxs, List.getD, hi2]
  have e2 : (sxv es)[i] = es[i].val := by simp [sxv]
  rw [e2] at hc
  rw [e1]
  exact ⟨_, _, h.row.lt rfl, hc, h.each _ (List.getElem_mem hi2)⟩
theorem MrAt.far {w w' : World} {T t : TypeId} {mp : Option Addr} {M : Mr} {g : Nat} {cs : List Value} (h : MrAt w T mp M) (l : Lies w g t cs) (hT : T ≠ t) (k : Kept (fun x => x = g) w w') : MrAt w' T mp M := by
  cases M with
  | none => exact h
  | some p =>
    obtain ⟨B, S, o⟩ := p
    obtain ⟨b, e, a, r⟩ := h
    exact ⟨b, e, Lies.kept a k (fun e2 => Lies.other a l hT e2), r⟩
theorem NpSt.fill (h : NpSt w mp g n k es fl M W) (hk : k < n) {fl' : List (Int × Bool)} (e : Sx) (q : Nat) (hq : e.s.length = q) (hl : Lins W e.a e.c e.s) (hs : Stk (sxs es ++ [e.s]) fl' (k + 1)) (hg : Good 24 e.s) :
    NpSt w mp g n (k + 1) (es ++ [e]) fl' M (W.setCell ⟨g, k, none⟩ (.slice e.a q e.c)) ∧ Kept (fun x => x = g) W (W.setCell ⟨g, k, none⟩ (.slice e.a q e.c)) := by
  subst hq
  have kx : Kept (fun x => x = g) W (W.setCell ⟨g, k, none⟩ (.slice e.a e.s.length e.c)) := (Kept.refl (fun x => x = g) W).setCell (p := ⟨g, k, none⟩) (fun _ => rfl) _
  rcases h.row with ⟨e0, _⟩ | ⟨g', sp, e0, hc, hm, l⟩
  · cases e0
  · injection e0 with e0; injection e0 with e0; subst e0
    have hX : ∀ x, x = g → ∃ T cs, Lies W x T cs ∧ MT T := fun x ex => by
      subst ex
      exact ⟨_, _, l, by unfold MT; decide⟩
    have hlen : (sxv es).length = k := by rw [sxv_len, h.num]
    obtain ⟨s0, sp', rfl⟩ : ∃ s0 sp', sp = s0 :: sp' := by
      cases sp with
      | nil => simp at hc; omega
      | cons s0 sp' => exact ⟨s0, sp', rfl⟩
    have l2 := l.set k (.slice e.a e.s.length e.c)
    have e2 : (sxv es ++ s0 :: sp').set k (.slice e.a e.s.length e.c) = sxv (es ++ [e]) ++ sp' := by
      rw [List.set_append_right _ _ (by omega), hlen, Nat.sub_self]
      simp [sxv, Sx.val]
    rw [e2] at l2
    refine ⟨⟨h.mks.setCell (p := ⟨g, k, none⟩) (fun hlt => absurd h.own (Nat.not_le.2 hlt)) _, .inr ⟨g, sp', rfl, ?_, hm, l2⟩, fun x hx => ?_, by rw [List.length_append, h.num]; rfl, h.own, h.met.far l (by decide) kx, by simpa [sxs] using hs, fun x hx => ?_⟩, kx⟩
    · rw [sxv_len, List.length_append, h.num]
      rw [hlen] at hc
      simp at hc ⊢
      omega
    · rcases List.mem_append.1 hx with hx | hx
      · exact (h.each x hx).keptOf kx hX
      · obtain rfl := List.mem_singleton.1 hx
        exact hl.keptOf kx hX
    · rcases List.mem_append.1 hx with hx | hx
      · exact h.good x hx
      · obtain rfl := List.mem_singleton.1 hx
        exact hg
end

/-! ### word -/
set_option maxRecDepth 100000 in
theorem word_any (k : Nat) (n : Int) (w : World) (hk : k < 12) (h1 : 1 ≤ n) (h2 : n ≤ 999999999) :
    Calls Tryz.prog 32 #[.int .i64 k, .int .i64 n] w (fun e w' => ∃ a c, e = .returned (.slice a 1 c) ∧ Lins w' a c [⟨oneL k n, []⟩] ∧ Below w.heap.size w w') := by
  have ho : oneL k n = tab (k + 1) (fun j => if j = k then n else 0) := by
    unfold oneL
    rw [if_pos (one_iff.2 ⟨by omega, by omega, by omega⟩)]
    rfl
  go_enter Tryz.func32, Tryz.ntmps32
  go_wp2_with (at_make; refine wpList_make_bag _ rfl _ _ rfl _ _ (k + 1) rfl rfl (by omega) (by omega) (by omega) ?_)
  intro w1 r1 b1
  obtain ⟨g, e, hc⟩ := r1.at (k := k) (by rw [tab_len]; omega)
  injection e with e; injection e with e
  have hne : w.heap.size = g := e
  have hfz := r1.frozen k
  have R2 := r1.set (j := k) (by rw [tab_len]; omega) n
  rw [tab_set, ← ho] at R2
  have HR := Lib.hid R2
  have B2 := Lib.hid (b1.setCell (p := ⟨w.heap.size, k, none⟩) (Nat.le_refl _) (.int .i64 n))
  have hol : (oneL k n).length = k + 1 := by rw [ho, tab_len]
  have HOL := Lib.hid hol
  subst hne
  clear r1 b1 R2 ho hol
  go_wp2
  go_ret
  have bx := below_alloc (w1.setCell ⟨w.heap.size, k, none⟩ (.int .i64 n)) (.cells #[.slice (some ⟨w.heap.size, 0, none⟩) (k + 1) (k + 1), .slice none 0 0] 60)
  have rn := row2_new (V := w1.setCell ⟨w.heap.size, k, none⟩ (.int .i64 n)) ⟨some ⟨w.heap.size, 0, none⟩, k + 1, none, 0, ⟨oneL k n, []⟩⟩ (k + 1) 0 HOL.out rfl
  have hs : (w1.setCell ⟨w.heap.size, k, none⟩ (.int .i64 n)).heap.size = w1.heap.size := by simp [World.setCell]
  rw [hs] at rn
  exact ⟨_, 1, rfl, ⟨[⟨some ⟨w.heap.size, 0, none⟩, k + 1, none, 0, ⟨oneL k n, []⟩⟩], rfl, rn, fun l hl => by
    obtain rfl := List.mem_singleton.1 hl
    exact ⟨HR.out.below bx, Bags.nil _⟩⟩, B2.out.trans (bx.mono B2.out.size)⟩
end Go.Proofs.YtfkaagndlpcfdaaGreat

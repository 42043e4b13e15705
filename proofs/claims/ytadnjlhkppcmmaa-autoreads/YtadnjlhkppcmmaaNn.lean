/- The reference's Norm: of a pattern, a right set that is not too great. -/
import Derived.Test.YtadnjlhkppcmmaaNm
import Derived.Test.YtadnjlhkppcmmaaNl
import Derived.Test.YtadnjlhkppcmmaaQCf
import Derived.Deep.RegionHeld3
import Derived.Deep.CutBlock
import Derived.Deep.DeepCutAuto
import Derived.Deep.CutRange
namespace Go.Proofs.Ytadnjlhkppcmmaa
open Go.ChangeShapes Go.WideShapes Go.ChangeAt Go.RowKit

/-! ### Nodes, step by step -/
theorem chkL_app (tags : Int) : ∀ (A B : List Q.Nd) (i : Nat) (fl : List (Int × Bool)), Q.chkL tags i (A ++ B) fl = match Q.chkL tags i A fl with | none => none | some fl' => Q.chkL tags (i + A.length) B fl'
  | [], B, i, fl => by simp [Q.chkL]
  | x :: A, B, i, fl => by
    have e : ∀ L : List Q.Nd, Q.chkL tags i (x :: L) fl = match Q.chkStep tags i x fl with | none => none | some fl' => Q.chkL tags (i + 1) L fl' := fun _ => rfl
    rw [List.cons_append, e, e]
    cases Q.chkStep tags i x fl with
    | none => rfl
    | some fl' =>
      show Q.chkL tags (i + 1) (A ++ B) fl' = match Q.chkL tags (i + 1) A fl' with | none => none | some fl'' => Q.chkL tags (i + (x :: A).length) B fl''
      rw [chkL_app tags A B (i + 1) fl', List.length_cons, show i + 1 + A.length = i + (A.length + 1) by omega]
theorem chk_step {ns : List Q.Nd} (h : Q.chkB ns 4 = true) {k : Nat} (hk : k < ns.length) {fl : List (Int × Bool)} (hf : Q.chkL 4 0 (ns.take k) [] = some fl) :
    ∃ fl', Q.chkStep 4 k ns[k] fl = some fl' ∧ Q.chkL 4 0 (ns.take (k + 1)) [] = some fl' := by
  have h2 : Q.chkL 4 0 ns [] ≠ none := by
    intro e
    unfold Q.chkB at h
    rw [e] at h
    simp [Q.oneB] at h
  have e1 := chkL_app 4 (ns.take (k + 1)) (ns.drop (k + 1)) 0 []
  rw [List.take_append_drop] at e1
  have e2 := chkL_app 4 (ns.take k) [ns[k]] 0 []
  rw [← List.take_succ_eq_append_getElem hk, hf] at e2
  have hl : (ns.take k).length = k := by rw [List.length_take]; omega
  rw [hl] at e2
  cases hs : Q.chkStep 4 k ns[k] fl with
  | none =>
    exfalso
    have e3 : Q.chkL 4 0 (ns.take (k + 1)) [] = none := by
      rw [e2]
      show Q.chkL 4 (0 + k) [ns[k]] fl = none
      unfold Q.chkL
      rw [Nat.zero_add, hs]
    rw [e3] at e1
    exact h2 e1
  | some fl' =>
    refine ⟨fl', rfl, ?_⟩
    rw [e2]
    show Q.chkL 4 (0 + k) [ns[k]] fl = some fl'
    unfold Q.chkL
    rw [Nat.zero_add, hs]
    rfl
theorem step_kinds {k : Nat} {x : Q.Nd} {fl fl' : List (Int × Bool)} (h : Q.chkStep 4 k x fl = some fl') :
    ((x.kind = 1 ∨ x.kind = 2) ∧ fl' = fl ++ [((k : Int), false)]) ∨
    (x.kind = 3 ∧ 0 ≤ x.n ∧ x.n < 4 ∧ 1 ≤ x.a ∧ x.a ≤ 999999999 ∧ fl' = fl ++ [((k : Int), false)]) ∨
    ((x.kind = 4 ∨ x.kind = 5) ∧ ∃ F p q, fl = F ++ [p, q] ∧ x.a = p.1 ∧ x.b = q.1 ∧ fl' = F ++ [((k : Int), p.2 || q.2)]) ∨
    (x.kind = 6 ∧ ∃ F p, fl = F ++ [p] ∧ x.a = p.1 ∧ fl' = F ++ [((k : Int), true)]) := by
  by_cases h45 : x.kind = 4 ∨ x.kind = 5
  · have hp : Q.partsK x.kind = 2 := by unfold Q.partsK; rw [if_pos h45]
    by_cases hl : fl.length < 2
    · rw [Q.step_short (by rw [hp]; exact hl)] at h; cases h
    · obtain ⟨F, p, q, rfl⟩ := Q.last_two (fl := fl) (by omega)
      rw [Q.step_two F p q h45] at h
      split at h
      · next hh =>
        refine .inr (.inr (.inl ⟨h45, F, p, q, rfl, hh.1, hh.2.1, ?_⟩))
        injection h with h
        rw [← h]; simp
      · cases h
  · by_cases h6 : x.kind = 6
    · have hp : Q.partsK x.kind = 1 := by unfold Q.partsK; rw [if_neg h45, if_pos h6]
      by_cases hl : fl.length < 1
      · rw [Q.step_short (by rw [hp]; exact hl)] at h; cases h
      · obtain ⟨F, p, rfl⟩ := Q.last_one (fl := fl) (by omega)
        rw [Q.step_star F p h6] at h
        split at h
        · next hh =>
          refine .inr (.inr (.inr ⟨h6, F, p, rfl, hh.2.1, ?_⟩))
          injection h with h
          rw [← h]; simp
        · cases h
    · have hp : Q.partsK x.kind = 0 := by unfold Q.partsK; rw [if_neg h45, if_neg h6]
      obtain ⟨s1, s2⟩ := Q.step_leaf (tags := 4) (k := k) (y := x) fl hp h6
      cases hr : Q.rightB x 4 [] with
      | false => rw [s2 hr] at h; cases h
      | true =>
        have e := s1 hr
        rw [h] at e
        injection e with e
        rw [List.take_length] at e
        unfold Q.rightB at hr
        by_cases h12 : x.kind = 1 ∨ x.kind = 2
        · exact .inl ⟨h12, e⟩
        · rw [if_neg h12] at hr
          by_cases h3 : x.kind = 3
          · rw [if_pos h3] at hr
            simp only [Bool.and_eq_true, decide_eq_true_eq] at hr
            exact .inr (.inl ⟨h3, hr.1, hr.2.1, hr.2.2.1, hr.2.2.2.1, e⟩)
          · rw [if_neg h3] at hr; cases hr
theorem two_parts {es : List (List Lin)} {F : List (Int × Bool)} {p q : Int × Bool} {t : Nat} (h : Stk es (F ++ [p, q]) t) :
    ∃ u a b i j, u + a + b ≤ t ∧ Stk es F u ∧ p.1 = ((i : Nat) : Int) ∧ i < es.length ∧ Good a (es.getD i []) ∧ q.1 = ((j : Nat) : Int) ∧ j < es.length ∧ Good b (es.getD j []) := by
  obtain ⟨u, v, huv, hF, a, v', hav, ⟨i, hi, hil, hg⟩, b, v'', hbv, ⟨j, hj, hjl, hg'⟩, _⟩ := stk_split h
  exact ⟨u, a, b, i, j, by omega, hF, hi, hil, hg, hj, hjl, hg'⟩
theorem one_part {es : List (List Lin)} {F : List (Int × Bool)} {p : Int × Bool} {t : Nat} (h : Stk es (F ++ [p]) t) :
    ∃ u a i, u + a ≤ t ∧ Stk es F u ∧ p.1 = ((i : Nat) : Int) ∧ i < es.length ∧ Good a (es.getD i []) := by
  obtain ⟨u, v, huv, hF, a, v', hav, ⟨i, hi, hil, hg⟩, _⟩ := stk_split h
  exact ⟨u, a, i, by omega, hF, hi, hil, hg⟩
/-- What comes of a new part: it stands on the stack, and is not too great. -/
theorem stk_leaf {es : List (List Lin)} {fl : List (Int × Bool)} {k : Nat} {x : List Lin} {b : Bool} (h : Stk es fl k) (hl : es.length = k) (hk : k < 24) (g : Good 1 x) : Stk (es ++ [x]) (fl ++ [((k : Int), b)]) (k + 1) ∧ Good 24 x := by
  subst hl
  exact ⟨stk_join (stk_push x h) (stk_new g), g.more (by omega)⟩
theorem stk_part {es : List (List Lin)} {F : List (Int × Bool)} {k u v : Nat} {x : List Lin} {b : Bool} (h : Stk es F u) (hl : es.length = k) (huv : u + v ≤ k + 1) (hk : k < 24) (g : Good v x) : Stk (es ++ [x]) (F ++ [((k : Int), b)]) (k + 1) ∧ Good 24 x := by
  subst hl
  exact ⟨stk_more (stk_join (stk_push x h) (stk_new g)) huv, g.more (by omega)⟩

/-! ### Rows of sets in memory -/
theorem Try.infoSemi : (Try.prog.info? 26).map (fun i => (i.zero, i.size, i.bytes)) = some (some (.slice none 0 0), 1, 24) := by kernel_rfl
/-- A set in memory. -/
structure Sx where
  a : Option Addr
  c : Nat
  s : List Lin
def Sx.val (e : Sx) : Value := .slice e.a e.s.length e.c
def sxs (es : List Sx) : List (List Lin) := es.map Sx.s
def sxv (es : List Sx) : List Value := es.map Sx.val
theorem sxv_len (es : List Sx) : (sxv es).length = es.length := List.length_map ..
theorem sxs_len (es : List Sx) : (sxs es).length = es.length := List.length_map ..
theorem row_apartT {w : World} {T : TypeId} {mp : Option Addr} {M : Mr} (h : MrAt w T mp M) {e : TypeId} (hT : T ≠ e) {a : Option Addr} {c : Nat} {xs : List Value} (r : Row w e a c xs) {g : Nat} (e1 : a = some ⟨g, 0, none⟩) : mp ≠ some ⟨g, 0, none⟩ := by
  intro e2
  rcases h.form with h | ⟨b, h, cs, l⟩
  · rw [h] at e2; cases e2
  · rw [h] at e2; injection e2 with e2; injection e2 with e2; subst e2
    rcases r with ⟨h1, _⟩ | ⟨g1, sp, h1, _, _, l1⟩
    · rw [h1] at e1; cases e1
    · rw [h1] at e1; injection e1 with e1; injection e1 with e1; subst e1
      exact l.other l1 hT rfl
/-- Only one block has turned, of another kind: sets stay. -/
theorem Lins.keptOf {w w' : World} {X : Nat → Prop} (k : Kept X w w') (hX : ∀ g, X g → ∃ T cs, Lies w g T cs ∧ MT T) {a : Option Addr} {c : Nat} {s : List Lin} (r : Lins w a c s) : Lins w' a c s := by
  have nb : ∀ {a : Option Addr} {c : Nat} {xs : List Int}, Bag w a c xs → ∀ g, a = some ⟨g, 0, none⟩ → ¬ X g := fun h g e x => by
    obtain ⟨T, cs, l, m⟩ := hX g x
    rcases h with ⟨h1, _⟩ | ⟨g1, sp, h1, _, _, l1⟩
    · rw [h1] at e; cases e
    · rw [h1] at e; injection e with e; injection e with e; subst e
      exact l.other l1 m.1 rfl
  have nr : ∀ {a : Option Addr} {c : Nat} {xs : List Value}, Row w 52 a c xs → ∀ g, a = some ⟨g, 0, none⟩ → ¬ X g := fun h g e x => by
    obtain ⟨T, cs, l, m⟩ := hX g x
    rcases h with ⟨h1, _⟩ | ⟨g1, sp, h1, _, _, l1⟩
    · rw [h1] at e; cases e
    · rw [h1] at e; injection e with e; injection e with e; subst e
      exact l.other l1 m.2.1 rfl
  have n2 : ∀ {a : Option Addr} {c n : Nat} {xs : List Value}, Row2 w a c n xs → ∀ g, a = some ⟨g, 0, none⟩ → ¬ X g := fun h g e x => by
    obtain ⟨T, cs, l, m⟩ := hX g x
    obtain ⟨_, h⟩ := h
    rcases h with ⟨h1, _⟩ | ⟨g1, sp, h1, _, _, _, l1⟩
    · rw [h1] at e; cases e
    · rw [h1] at e; injection e with e; injection e with e; subst e
      exact l.other l1 m.2.2 rfl
  obtain ⟨ls, e, P⟩ := r
  refine ⟨ls, e, P.row.kept k (n2 P.row), fun l hl => ?_⟩
  obtain ⟨h1, ps, e, R⟩ := P.each l hl
  exact ⟨h1.kept k (nb h1), ps, e, R.row.kept k (nr R.row), fun p hp => (R.each p hp).kept k (nb (R.each p hp))⟩
/-- How far Norm has come: a set for each node so far, and the stack. -/
structure NoSt (w : World) (mp la : Option Addr) (lc k : Nat) (es : List Sx) (fl : List (Int × Bool)) (M : Mr) (W : World) : Prop where
  mks : MK mp w W
  row : Row W 26 la lc (sxv es)
  each : ∀ e ∈ es, Lins W e.a e.c e.s
  num : es.length = k
  own : From w.heap.size la
  met : MrAt W 46 mp M
  some : M ≠ none
  stk : Stk (sxs es) fl k
  good : ∀ e ∈ es, Good 24 e.s
theorem mt_meter : MT 46 := by unfold MT; decide
theorem NoSt.turn {w : World} {mp la : Option Addr} {lc k : Nat} {es : List Sx} {fl : List (Int × Bool)} {M M' : Mr} {W W' : World} (h : NoSt w mp la lc k es fl M W) (m : MK mp W W') (met : MrAt W' 46 mp M') (ne : M' ≠ none) : NoSt w mp la lc k es fl M' W' :=
  ⟨h.mks.and m, h.row.kept m (fun _ e => row_apartT h.met (by decide) h.row e), fun e he => (h.each e he).mk h.met mt_meter m, h.num, h.own, met, ne, h.stk, h.good⟩
theorem NoSt.below {w : World} {mp la : Option Addr} {lc k : Nat} {es : List Sx} {fl : List (Int × Bool)} {M : Mr} {W W' : World} (h : NoSt w mp la lc k es fl M W) (b : Below W.heap.size W W') : NoSt w mp la lc k es fl M W' :=
  ⟨h.mks.then b, h.row.below b, fun e he => (h.each e he).below b, h.num, h.own, h.met.below b, h.some, h.stk, h.good⟩
theorem NoSt.at {w : World} {mp la : Option Addr} {lc k : Nat} {es : List Sx} {fl : List (Int × Bool)} {M : Mr} {W : World} (h : NoSt w mp la lc k es fl M W) {i : Nat} (hi : i < (sxs es).length) :
    ∃ g a c, la = Option.some ⟨g, 0, none⟩ ∧ g < W.heap.size ∧ W.cell? ⟨g, i, none⟩ = Option.some (.slice a ((sxs es).getD i []).length c) ∧ Lins W a c ((sxs es).getD i []) := by
  have hi2 : i < es.length := by rwa [sxs_len] at hi
  have hi3 : i < (sxv es).length := by rw [sxv_len]; exact hi2
  obtain ⟨g, e, hc⟩ := h.row.there hi3
  have e1 : (sxs es).getD i [] = es[i].s := by simp [sxs, List.getD, hi2]
  have e2 : (sxv es)[i] = es[i].val := by simp [sxv]
  rw [e2] at hc
  rw [e1]
  exact ⟨g, _, _, e, h.row.lt e, hc, h.each _ (List.getElem_mem hi2)⟩
set_option maxRecDepth 100000 in
theorem NoSt.push {w : World} {mp la : Option Addr} {lc k : Nat} {es : List Sx} {fl fl' : List (Int × Bool)} {M : Mr} {W : World} (h : NoSt w mp la lc k es fl M W) (hk : k < 24) (e : Sx) (q : Nat) (hq : e.s.length = q) (hl : Lins W e.a e.c e.s) (hs : Stk (sxs es ++ [e.s]) fl' (k + 1)) (hg : Good 24 e.s) :
    ∃ a2 c2 w2, (Builtin.append_ #[98, 98] 98 #[.slice la k lc, .slice (Option.some ⟨W.heap.size, 0, none⟩) 1 1]).run Try.prog (W.alloc (.cells #[.slice e.a q e.c] 26)) = .ok (.slice a2 (k + 1) c2) w2 ∧ NoSt w mp a2 c2 (k + 1) (es ++ [e]) fl' M w2 ∧ Kept (fun g => la = Option.some ⟨g, 0, none⟩) W w2 := by
  subst hq
  have b1 := below_alloc W (.cells #[.slice e.a e.s.length e.c] 26)
  have h1 := h.below b1
  have rn : Row (W.alloc (.cells #[.slice e.a e.s.length e.c] 26)) 26 (Option.some ⟨W.heap.size, 0, none⟩) 1 [.slice e.a e.s.length e.c] := .inr ⟨W.heap.size, [], rfl, rfl, by omega, Lies.new W 26 [.slice e.a e.s.length e.c]⟩
  obtain ⟨v, w2, hr, A⟩ := run_app 98 98 26 Try.underlying98 Try.infoSemi la lc k (sxv es) _ h1.row (by rw [sxv_len, h1.num]) (Option.some ⟨W.heap.size, 0, none⟩) 1 1 [.slice e.a e.s.length e.c] rn rfl (fun u hu => by obtain rfl := List.mem_singleton.1 hu; rfl) (by rw [sxv_len, h1.num]; simp; omega)
  obtain ⟨a2, c2, rfl, r2, k2, f2⟩ := A
  rw [sxv_len, h1.num] at hr
  have kx : Kept (fun g => la = Option.some ⟨g, 0, none⟩) (W.alloc (.cells #[.slice e.a e.s.length e.c] 26)) w2 := k2
  have hX : ∀ g, la = Option.some ⟨g, 0, none⟩ → ∃ T cs, Lies (W.alloc (.cells #[.slice e.a e.s.length e.c] 26)) g T cs ∧ MT T := fun g eg => by
    rcases h1.row with ⟨e0, _⟩ | ⟨g', sp, e0, _, _, l⟩
    · rw [e0] at eg; cases eg
    · rw [e0] at eg; injection eg with eg; injection eg with eg; subst eg
      exact ⟨_, _, l, by unfold MT; decide⟩
  have mk2 : MK mp w w2 := h1.mks.trans kx (fun i hi eg => by have := h1.own i eg; omega)
  refine ⟨a2, c2, w2, hr, ⟨mk2, by simpa [sxv, Sx.val] using r2, fun x hx => ?_, by rw [List.length_append, h.num]; rfl, fun g eg => ?_, ?_, h.some, by simpa [sxs] using hs, fun x hx => ?_⟩, (Kept.of_below (X := fun g => la = Option.some ⟨g, 0, none⟩) b1).trans kx (fun _ _ e => e)⟩
  · rcases List.mem_append.1 hx with hx | hx
    · exact (h1.each x hx).keptOf kx hX
    · obtain rfl := List.mem_singleton.1 hx
      exact (hl.below b1).keptOf kx hX
  · rcases f2 g eg with h3 | h3
    · exact h1.own g h3
    · exact Nat.le_trans h1.mks.size h3
  · have hm := h1.met
    cases M with
    | none => exact absurd rfl h.some
    | some p =>
      obtain ⟨B, S, o⟩ := p
      obtain ⟨g, eg, l, r⟩ := hm
      exact ⟨g, eg, l.kept kx (fun e2 => by
        rcases h1.row with ⟨e0, _⟩ | ⟨g', sp, e0, _, _, l2⟩
        · rw [e0] at e2; cases e2
        · rw [e0] at e2; injection e2 with e2; injection e2 with e2; subst e2
          exact Lies.other l l2 (by decide) rfl), r⟩
  · rcases List.mem_append.1 hx with hx | hx
    · exact h.good x hx
    · obtain rfl := List.mem_singleton.1 hx
      exact hg
/-- What Norm comes to. -/
def NormOut (mp : Option Addr) (w : World) (e : Ending) (w' : World) : Prop :=
  ∃ sa sc s q, e = .returned (.tuple #[.slice sa (s : List Lin).length sc, .int .i64 q]) ∧ Lins w' sa sc s ∧ Good 24 s ∧ MK mp w w'
theorem normOut_none {mp : Option Addr} {w w' : World} (q : Int) (k : MK mp w w') : NormOut mp w (.returned (.tuple #[.slice none 0 0, .int .i64 q])) w' := ⟨none, 0, [], q, rfl, Lins.nil _, good_nil _, k⟩
theorem cell_kept {X : Nat → Prop} {w w' : World} (k : Kept X w w') {p : Addr} (h : p.block < w.heap.size) (hx : ¬ X p.block) : w'.cell? p = w.cell? p := World.cell?_of_block (w := w) (k.block p.block h hx)

set_option maxRecDepth 100000 in
set_option maxHeartbeats 16000000 in
theorem norm47 (mp a : Option Addr) (c : Nat) (ns : List Q.Nd) (M : Mr) (w : World) (h0 : MrAt w 46 mp M) (hM : M ≠ none) (P : Q.Nds w a c ns) (hc : Q.chkB ns 4 = true) (h1 : 1 ≤ ns.length) (h24 : ns.length ≤ 24) :
    Calls Try.prog 32 #[.pointer mp, .slice a ns.length c, .int .i64 4] w (NormOut mp w) := by
  have hle := P.le
  have Z := Q.checkPat_any ns 4 a c w P.at (by omega)
  unfold Q.chkOut at Z
  rw [hc] at Z
  generalize hn : ns.length = n at hle Z h1 h24 ⊢
  have HN := Lib.hid hn
  have HP := Lib.hid P
  have HC := Lib.hid hc
  have HMM := Lib.hid h0
  have HNM := Lib.hid hM
  have HZ := Lib.hid Z
  clear P hc hn h0 hM Z
  go_enter Try.func32, Try.ntmps32
  go_wp2_with (fail)
  refine HZ.out.mono ?_
  rintro e w1 ⟨rfl, b1⟩
  have HP1 := Lib.hid (HP.out.below b1)
  have HS1 : Hid (NoSt w mp none 0 0 [] [] M w1) := Lib.hid ⟨(MK.refl mp w).then b1, Row.nil _ _, fun e h => by simp at h, rfl, From.none _, HMM.out.below b1, HNM.out, trivial, fun e h => by simp at h⟩
  clear b1 HZ HP HMM
  go_wp2
  go_loopw [6, 7, 8, 27] (fun r er l i wr => ∃ (k : Nat) (la : Option Addr) (lc : Nat) (es : List Sx) (fl : List (Int × Bool)) (Mi : Mr), k ≤ n ∧ r = .slice none 0 0 ∧ er = .int .i64 0 ∧ l = .slice la k lc ∧ i = .int .i64 k ∧ Hid (NoSt w mp la lc k es fl Mi wr) ∧ Hid (Q.chkL 4 0 (ns.take k) [] = some fl) ∧ Hid (Q.Nds wr a c ns)) (fun _ _ _ i _ => n - (intOf i).toNat)
  case atStart => exact ⟨0, none, 0, [], [], M, Nat.zero_le _, rfl, rfl, rfl, rfl, HS1, Lib.hid rfl, HP1⟩
  case round =>
    obtain ⟨k, la, lc, es, fl, Mi, hk, rfl, rfl, rfl, rfl, HT, HF, HD⟩ := hrel
    have hlo := HT.out.row.le
    rw [sxv_len, HT.out.num] at hlo
    by_cases hlt : k < n
    · have hk' : k < ns.length := by rw [HN.out]; exact hlt
      obtain ⟨fl', hst, hf'⟩ := chk_step HC.out hk' HF.out
      have HKN := Lib.hid (step_kinds hst)
      have HF' := Lib.hid hf'
      obtain ⟨g, rfl, X⟩ := HD.out.there hk'
      have x0 := X.c0
      have x1 := X.c1
      have x2 := X.c2
      have x3 := X.c3
      have x4 := X.c4
      clear X hst hf'
      generalize (ns[k]).kind = kd at x0 HKN
      generalize (ns[k]).a = na at x1 HKN
      generalize (ns[k]).b = nb at x2 HKN
      generalize (ns[k]).n = nn at x3 HKN
      generalize (ns[k]).name = nm at x4
      have bb := below_alloc wr (.cells #[.int .i64 kd, .int .i64 na, .int .i64 nb, .int .i64 nn, .string nm] 100)
      have HTW := Lib.hid (HT.out.below bb)
      have HDW := Lib.hid (HD.out.below bb)
      have HL := Lib.hid (Lies.new wr 100 [.int .i64 kd, .int .i64 na, .int .i64 nb, .int .i64 nn, .string nm])
      clear bb hk'
      go_upto_region 7 with (fail)
      clear x0 x1 x2 x3 x4 HT HD
      generalize wr.alloc (.cells #[.int .i64 kd, .int .i64 na, .int .i64 nb, .int .i64 nn, .string nm] 100) = W at HTW HDW HL ⊢
      generalize wr.heap.size = gb at HL ⊢
      have Z : Calls Try.prog _ #[.pointer mp, .int .i64 1] W _ := spend51 mp Mi 1 W HTW.out.met HTW.out.some
      unfold SpendsM at Z
      have HNE := Lib.hid (spendM_ne (n := 1) HTW.out.some)
      generalize spendM Mi 1 = q at Z HNE
      obtain ⟨v, M1⟩ := q
      have HZ := Lib.hid Z
      clear Z
      go_wp2_with (fail)
      refine HZ.out.mono ?_
      rintro e W2 ⟨rfl, m2, k2⟩
      have HT2 := Lib.hid (HTW.out.turn k2 m2 HNE.out)
      have gne : ∀ {X : List Value}, Lies W gb 100 X → mp ≠ some ⟨gb, 0, none⟩ := fun l e2 => by
        rcases HTW.out.met.form with h | ⟨b, h, cs, l2⟩
        · rw [h] at e2; cases e2
        · rw [h] at e2; injection e2 with e2; injection e2 with e2; subst e2
          exact l.other l2 (by decide) rfl
      have HL2 := Lib.hid (HL.out.kept k2 (gne HL.out))
      have HD2 : Hid (Q.Nds W2 (some ⟨g, 0, none⟩) c ns) := Lib.hid (HDW.out.kept k2 (fun g' eg e2 => by
        rcases HTW.out.met.form with h | ⟨b, h, cs, l2⟩
        · rw [h] at e2; cases e2
        · rcases HDW.out with ⟨h3, _⟩ | ⟨g3, sp, h3, _, _, _, l3⟩
          · cases h3
          · rw [h3] at eg; injection eg with eg; injection eg with eg; subst eg
            rw [h] at e2; injection e2 with e2; injection e2 with e2; subst e2
            exact Lies.other l2 l3 (by decide) rfl))
      clear m2 k2 HZ gne HTW HDW HL
      cases v with
      | false =>
        have HO := Lib.hid (normOut_none 7 HT2.out.mks)
        go_wp2
        exact bodyPost_ret (v := .tuple #[.slice none 0 0, .int .i64 7]) (by simp [results, Try.results32, go_sem]) rfl HO.out
      | true =>
        have y0 : W2.cell? ⟨gb, 0, none⟩ = some (.int .i64 kd) := HL2.out.cell 0
        have y1 : W2.cell? ⟨gb, 1, none⟩ = some (.int .i64 na) := HL2.out.cell 1
        have y2 : W2.cell? ⟨gb, 2, none⟩ = some (.int .i64 nb) := HL2.out.cell 2
        have y3 : W2.cell? ⟨gb, 3, none⟩ = some (.int .i64 nn) := HL2.out.cell 3
        have hk24 : k < 24 := by omega
        go_upto_block 2 with (fail)
        go_cut [11, 12] from 36 to 89 (fun p er wx => ∃ (sa : Option Addr) (sc q : Nat) (e0 : Int) (x : List Lin) (M' : Mr), p = .slice sa q sc ∧ er = .int .i64 e0 ∧ Hid (x.length = q) ∧ Hid (Lins wx sa sc x) ∧ Hid (MrAt wx 46 mp M' ∧ M' ≠ none) ∧ Hid (MK mp W2 wx) ∧ Hid (e0 = 0 → Stk (sxs es ++ [x]) fl' (k + 1) ∧ Good 24 x))
        case first =>
          rcases HKN.out with ⟨rfl | rfl, hfl⟩ | ⟨rfl, h2, h3, h4, h5, hfl⟩ | ⟨h45, F, p, q, hF, hp, hq, hfl⟩ | ⟨rfl, F, p, hF, hp, hfl⟩
          · have HO : Hid (Stk (sxs es ++ [[]]) fl' (k + 1) ∧ Good 24 []) := Lib.hid (by rw [hfl]; exact stk_leaf HT2.out.stk (by rw [sxs_len, HT2.out.num]) hk24 (good_nil 1))
            clear hfl
            go_wp2
            go_meet
            exact ⟨none, 0, 0, 0, [], M1, rfl, rfl, Lib.hid rfl, Lib.hid (Lins.nil _), Lib.hid ⟨HT2.out.met, HT2.out.some⟩, Lib.hid (MK.refl _ _), Lib.hid (fun _ => HO.out)⟩
          · have HO : Hid (Stk (sxs es ++ [oneS]) fl' (k + 1) ∧ Good 24 oneS) := Lib.hid (by rw [hfl]; exact stk_leaf HT2.out.stk (by rw [sxs_len, HT2.out.num]) hk24 (good_one 1))
            clear hfl
            go_wp2_with (fail)
            refine (rone_any _).mono ?_
            rintro e w3 ⟨sa, sc, rfl, A3⟩
            have HA3 := Lib.hid A3
            clear A3
            go_wp2
            go_meet
            exact ⟨sa, sc, 1, 0, oneS, M1, rfl, rfl, Lib.hid rfl, Lib.hid ⟨_, rfl, HA3.out.row⟩, Lib.hid ⟨HT2.out.met.below HA3.out.bel, HT2.out.some⟩, Lib.hid ((MK.refl _ _).then HA3.out.bel), Lib.hid (fun _ => HO.out)⟩
          · have HO : Hid (Stk (sxs es ++ [[⟨oneL nn na, []⟩]]) fl' (k + 1) ∧ Good 24 [⟨oneL nn na, []⟩]) := Lib.hid (by rw [hfl]; exact stk_leaf HT2.out.stk (by rw [sxs_len, HT2.out.num]) hk24 (good_tag h2 (by omega) h4 h5))
            clear hfl h2 h3 h4 h5
            have HZ := Lib.hid (one25 nn na W2)
            go_wp2_with (fail)
            refine HZ.out.mono ?_
            rintro e w3 ⟨ba, bc, rfl, B3, _, b3⟩
            have HB3 := Lib.hid B3
            have Hb3 := Lib.hid b3
            have hlb := B3.le
            clear B3 b3 HZ
            generalize hob : oneL nn na = ob at HB3 hlb HO ⊢
            generalize hol : ob.length = ol at hlb ⊢
            have HOL := Lib.hid hol
            clear hob hol
            go_wp2
            go_meet
            have bx := below_alloc w3 (.cells #[.slice ba ol bc, .slice none 0 0] 61)
            have rn := row2_new (V := w3) ⟨ba, bc, none, 0, ⟨ob, []⟩⟩ ol 0 HOL.out rfl
            exact ⟨_, 1, 1, 0, [⟨ob, []⟩], M1, rfl, rfl, Lib.hid rfl, Lib.hid ⟨[⟨ba, bc, none, 0, ⟨ob, []⟩⟩], rfl, rn, fun l hl => by
              obtain rfl := List.mem_singleton.1 hl
              exact ⟨HB3.out.below bx, Bags.nil _⟩⟩, Lib.hid ⟨(HT2.out.met.below Hb3.out).below bx, HT2.out.some⟩, Lib.hid (((MK.refl _ _).then Hb3.out).then bx), Lib.hid (fun _ => HO.out)⟩
          · have hstk := HT2.out.stk
            rw [hF] at hstk
            obtain ⟨u, wa, wb, i, j, huv, SF, hi, hil, gi, hj, hjl, gj⟩ := two_parts hstk
            rw [hi] at hp
            rw [hj] at hq
            subst hp; subst hq
            obtain ⟨gl, ai, ci, rfl, hgl, di, Li⟩ := HT2.out.at hil
            obtain ⟨gl', aj, cj, e2, _, dj, Lj⟩ := HT2.out.at hjl
            injection e2 with e2; injection e2 with e2; subst e2
            rw [sxs_len, HT2.out.num] at hil hjl
            have HSF := Lib.hid SF
            have HGI := Lib.hid gi
            have HGJ := Lib.hid gj
            have HLI := Lib.hid Li
            have HLJ := Lib.hid Lj
            have HFL := Lib.hid hfl
            have ltb := HL2.out.lt
            have b0 : Below W2.heap.size W2 W2.drew := ⟨rfl, rfl, rfl, Nat.le_refl _, fun _ _ => rfl⟩
            have hi1 := gi.few
            have hj1 := gj.few
            have hab : wa + wb ≤ 24 := by omega
            have pa := pow_mono (show wa ≤ 24 by omega)
            have pb := pow_mono (show wb ≤ 24 by omega)
            have hpi : ∀ t, (linAt ((sxs es).getD i []) t).ps.length ≤ 2 ^ wa := fun t => by
              unfold linAt
              rw [List.getD_eq_getElem?_getD]
              by_cases ht : t < ((sxs es).getD i []).length
              · rw [List.getElem?_eq_getElem ht]; exact (gi.each _ (List.getElem_mem ht)).few
              · rw [List.getElem?_eq_none (by omega)]; exact Nat.zero_le _
            have hpj : ∀ t, (linAt ((sxs es).getD j []) t).ps.length ≤ 2 ^ wb := fun t => by
              unfold linAt
              rw [List.getD_eq_getElem?_getD]
              by_cases ht : t < ((sxs es).getD j []).length
              · rw [List.getElem?_eq_getElem ht]; exact (gj.each _ (List.getElem_mem ht)).few
              · rw [List.getElem?_eq_none (by omega)]; exact Nat.zero_le _
            have hpij : ∀ t, (linAt ((sxs es).getD i [] ++ (sxs es).getD j []) t).ps.length ≤ 100000000000 := fun t => by
              unfold linAt
              rw [List.getD_eq_getElem?_getD]
              by_cases ht : t < ((sxs es).getD i [] ++ (sxs es).getD j []).length
              · rw [List.getElem?_eq_getElem ht]
                rcases List.mem_append.1 (List.getElem_mem ht) with hm | hm
                · have := (gi.each _ hm).few
                  simp only [Option.getD_some]
                  omega
                · have := (gj.each _ hm).few
                  simp only [Option.getD_some]
                  omega
              · rw [List.getElem?_eq_none (by omega)]; exact Nat.zero_le _
            rcases h45 with rfl | rfl
            · have Z := runion15 ai aj ci cj _ _ W2.drew (Li.below b0) (Lj.below b0) (by omega) hpij
              have HO : Hid (Stk (sxs es ++ [unionS ((sxs es).getD i []) ((sxs es).getD j [])]) fl' (k + 1) ∧ Good 24 (unionS ((sxs es).getD i []) ((sxs es).getD j []))) := Lib.hid (by rw [hfl]; exact stk_part SF (by rw [sxs_len, HT2.out.num]) (by omega) hk24 (good_sum gi gj))
              generalize hun : unionS ((sxs es).getD i []) ((sxs es).getD j []) = un at Z HO
              clear hun
              have hbi := Li.le
              have hbj := Lj.le
              generalize ((sxs es).getD i []).length = li at Z di hbi
              generalize ((sxs es).getD j []).length = lj at Z dj hbj
              have HZ := Lib.hid Z
              clear Z hF hfl SF gi gj Li Lj hi hj huv hstk hi1 hj1 pa pb hpi hpj hpij b0
              have i1 : (0 : Int) ≤ (i : Int) := by omega
              have i2 : (i : Int) < (k : Int) := by omega
              have j1 : (0 : Int) ≤ (j : Int) := by omega
              have j2 : (j : Int) < (k : Int) := by omega
              go_upto_region 17 with (fail)
              go_region_held3 (fun w' => w'.cell? ⟨gb, 1, none⟩ = some (.int .i64 i) ∧ w'.cell? ⟨gb, 2, none⟩ = some (.int .i64 j) ∧ w'.cell? ⟨gl, i, none⟩ = some (.slice ai li ci) ∧ w'.cell? ⟨gl, j, none⟩ = some (.slice aj lj cj))
                (first | (exact ⟨y1, y2, di, dj⟩) | (exact ⟨z1, z2, zi, zj⟩) | go_keep)
                (first
                  | (go_at_call 58; refine HZ.out.mono ?_; rintro e w3 ⟨a3, c3, rfl, L3, F3, b3⟩; (replace b3 : Below W2.heap.size W2 w3 := undrew b3); (have z1 := (b3.cell (p := ⟨gb, 1, none⟩) ltb).trans y1); (have z2 := (b3.cell (p := ⟨gb, 2, none⟩) ltb).trans y2); (have zi := (b3.cell (p := ⟨gl, i, none⟩) hgl).trans di); (have zj := (b3.cell (p := ⟨gl, j, none⟩) hgl).trans dj); (have hb3 := L3.le)))
              have HL3 := Lib.hid L3
              have Hb3 := Lib.hid b3
              clear L3 b3 F3 z1 z2 zi zj di dj y0 y1 y2 y3
              generalize hul : un.length = ul at hb3 ⊢
              have HUL := Lib.hid hul
              clear hul
              go_wp2
              go_meet
              exact ⟨a3, c3, ul, 0, un, M1, rfl, rfl, HUL, HL3, Lib.hid ⟨HT2.out.met.below Hb3.out, HT2.out.some⟩, Lib.hid ((MK.refl _ _).then Hb3.out), Lib.hid (fun _ => HO.out)⟩
            · have gc := good_cat gi gj (by omega)
              have Z := rcat23 mp ai aj ci cj M1 _ _ W2.drew (HT2.out.met.below b0) HT2.out.some (Li.below b0) (Lj.below b0) (Nat.le_trans (Nat.mul_le_mul hi1 hj1) (by rw [← Nat.pow_add]; have := pow_mono hab; omega)) (fun s t => by have := hpi s; have := hpj t; omega)
              have HO : Hid ((catM M1 ((sxs es).getD i []) ((sxs es).getD j [])).2.1 = 0 → Stk (sxs es ++ [(catM M1 ((sxs es).getD i []) ((sxs es).getD j [])).1]) fl' (k + 1) ∧ Good 24 (catM M1 ((sxs es).getD i []) ((sxs es).getD j [])).1) := Lib.hid (fun h => by rw [hfl, catM_ok h]; exact stk_part SF (by rw [sxs_len, HT2.out.num]) (by omega) hk24 gc.2)
              have HNE2 := Lib.hid (catM_ne (s := (sxs es).getD i []) (t := (sxs es).getD j []) HT2.out.some)
              generalize hr : catM M1 ((sxs es).getD i []) ((sxs es).getD j []) = r at Z HO HNE2
              clear hr
              obtain ⟨un, e0, M2⟩ := r
              have hbi := Li.le
              have hbj := Lj.le
              generalize ((sxs es).getD i []).length = li at Z di hbi
              generalize ((sxs es).getD j []).length = lj at Z dj hbj
              have HZ := Lib.hid Z
              clear Z hF hfl SF gi gj Li Lj hi hj huv hstk hi1 hj1 pa pb hpi hpj hpij gc b0
              have i1 : (0 : Int) ≤ (i : Int) := by omega
              have i2 : (i : Int) < (k : Int) := by omega
              have j1 : (0 : Int) ≤ (j : Int) := by omega
              have j2 : (j : Int) < (k : Int) := by omega
              have nb1 : mp ≠ some ⟨gb, 0, none⟩ := fun e2 => by
                rcases HT2.out.met.form with h | ⟨b, h, cs, l2⟩
                · rw [h] at e2; cases e2
                · rw [h] at e2; injection e2 with e2; injection e2 with e2; subst e2
                  exact HL2.out.other l2 (by decide) rfl
              have nb2 : mp ≠ some ⟨gl, 0, none⟩ := row_apartT HT2.out.met (by decide) HT2.out.row rfl
              go_upto_region 19 with (fail)
              go_region_held3 (fun w' => w'.cell? ⟨gb, 1, none⟩ = some (.int .i64 i) ∧ w'.cell? ⟨gb, 2, none⟩ = some (.int .i64 j) ∧ w'.cell? ⟨gl, i, none⟩ = some (.slice ai li ci) ∧ w'.cell? ⟨gl, j, none⟩ = some (.slice aj lj cj))
                (first | (exact ⟨y1, y2, di, dj⟩) | (exact ⟨z1, z2, zi, zj⟩) | go_keep)
                (first
                  | (go_at_call 59; refine HZ.out.mono ?_; rintro e w3 ⟨a3, c3, ls, hls, rfl, L3, F3, _, m3, k3⟩; (replace k3 : MK mp W2 w3 := ⟨k3.os, k3.tape, k3.output, k3.size, k3.block⟩); (have z1 := (cell_kept k3 (p := ⟨gb, 1, none⟩) ltb nb1).trans y1); (have z2 := (cell_kept k3 (p := ⟨gb, 2, none⟩) ltb nb1).trans y2); (have zi := (cell_kept k3 (p := ⟨gl, i, none⟩) hgl nb2).trans di); (have zj := (cell_kept k3 (p := ⟨gl, j, none⟩) hgl nb2).trans dj); (have hb3 := L3.row.le); (have HL3 : Hid (Lins w3 a3 c3 un) := Lib.hid ⟨ls, hls, L3⟩); (have hul : ls.length = un.length := by rw [← lins_len, hls])))
              have Hm3 := Lib.hid m3
              have Hk3 := Lib.hid k3
              rw [hul] at hb3
              clear L3 k3 m3 F3 z1 z2 zi zj di dj y0 y1 y2 y3 hls hul
              generalize hul : un.length = ul at hb3 ⊢
              have HUL := Lib.hid hul
              clear hul
              go_wp2
              go_meet
              exact ⟨a3, c3, ul, e0, un, M2, rfl, rfl, HUL, HL3, Lib.hid ⟨Hm3.out, HNE2.out⟩, Hk3, HO⟩
          · have hstk := HT2.out.stk
            rw [hF] at hstk
            obtain ⟨u, wa, i, huv, SF, hi, hil, gi⟩ := one_part hstk
            rw [hi] at hp
            subst hp
            obtain ⟨gl, ai, ci, rfl, hgl, di, Li⟩ := HT2.out.at hil
            rw [sxs_len, HT2.out.num] at hil
            have hi1 := gi.few
            have pa := pow_mono (show wa ≤ 24 by omega)
            have Z := rstar26 mp ai ci M1 _ W2 HT2.out.met HT2.out.some Li (by omega)
            have HO : Hid ((starM M1 ((sxs es).getD i [])).2.1 = 0 → Stk (sxs es ++ [(starM M1 ((sxs es).getD i [])).1]) fl' (k + 1) ∧ Good 24 (starM M1 ((sxs es).getD i [])).1) := Lib.hid (fun h => by rw [hfl, starM_ok h]; exact stk_part SF (by rw [sxs_len, HT2.out.num]) (by omega) hk24 (good_star gi))
            have HNE2 : Hid ((starM M1 ((sxs es).getD i [])).2.2 ≠ none) := Lib.hid (by
              unfold starM
              split
              · split
                · exact spendM_ne HT2.out.some
                · exact spendM_ne HT2.out.some
              · exact HT2.out.some)
            generalize hr : starM M1 ((sxs es).getD i []) = r at Z HO HNE2
            clear hr
            obtain ⟨un, e0, M2⟩ := r
            have hbi := Li.le
            generalize ((sxs es).getD i []).length = li at Z di hbi
            have HZ := Lib.hid Z
            clear Z hF hfl SF gi Li hi huv hstk hi1 pa
            have i1 : (0 : Int) ≤ (i : Int) := by omega
            have i2 : (i : Int) < (k : Int) := by omega
            go_wp2_with (fail)
            refine HZ.out.mono ?_
            rintro e w3 ⟨a3, c3, ls, hls, rfl, L3, F3, _, m3, k3⟩
            have hb3 := L3.row.le
            have HL3 : Hid (Lins w3 a3 c3 un) := Lib.hid ⟨ls, hls, L3⟩
            have hul : ls.length = un.length := by rw [← lins_len, hls]
            have Hm3 := Lib.hid m3
            have Hk3 := Lib.hid k3
            rw [hul] at hb3
            clear L3 k3 m3 F3 di y0 y1 y2 y3 hls hul HZ
            generalize hul : un.length = ul at hb3 ⊢
            have HUL := Lib.hid hul
            clear hul
            go_wp2
            go_meet
            exact ⟨a3, c3, ul, e0, un, M2, rfl, rfl, HUL, HL3, Lib.hid ⟨Hm3.out, HNE2.out⟩, Hk3, HO⟩
        case rest =>
          obtain ⟨sa, sc, q, e0, x, M2, rfl, rfl, HQ, HLX, HMX, HKX, HSX⟩ := hcut
          have HT3 := Lib.hid (HT2.out.turn HKX.out HMX.out.1 HMX.out.2)
          have HD3 : Hid (Q.Nds wc (some ⟨g, 0, none⟩) c ns) := Lib.hid (HD2.out.kept HKX.out (fun g' eg e2 => by
            rcases HT2.out.met.form with h | ⟨b, h, cs, l2⟩
            · rw [h] at e2; cases e2
            · rcases HD2.out with ⟨h3, _⟩ | ⟨g3, sp, h3, _, _, _, l3⟩
              · cases h3
              · rw [h3] at eg; injection eg with eg; injection eg with eg; subst eg
                rw [h] at e2; injection e2 with e2; injection e2 with e2; subst e2
                exact Lies.other l2 l3 (by decide) rfl))
          clear y0 y1 y2 y3
          by_cases h3 : e0 = 0
          · subst h3
            have hsx := HSX.out rfl
            obtain ⟨a4, c4, w4, hr, T4, K4⟩ := HT3.out.push hk24 ⟨sa, sc, x⟩ q HQ.out HLX.out hsx.1 hsx.2
            have HT4 := Lib.hid T4
            have HD4 : Hid (Q.Nds w4 (some ⟨g, 0, none⟩) c ns) := Lib.hid (HD3.out.kept K4 (fun g' eg e2 => by
              rcases HT3.out.row with ⟨h, _⟩ | ⟨g2, sp2, h, _, _, l2⟩
              · rw [h] at e2; cases e2
              · rcases HD3.out with ⟨h3, _⟩ | ⟨g3, sp, h3, _, _, _, l3⟩
                · cases h3
                · rw [h3] at eg; injection eg with eg; injection eg with eg; subst eg
                  rw [h] at e2; injection e2 with e2; injection e2 with e2; subst e2
                  exact Lies.other l2 l3 (by decide) rfl))
            clear T4 hsx K4
            go_wp2_with (at_builtin; refine Lib.wpList_append_run _ rfl _ _ _ _ rfl _ _ rfl rfl _ _ hr ?_)
            go_roundw
            case rel => exact ⟨k + 1, a4, c4, _, fl', M2, by omega, rfl, rfl, rfl, by go_num, HT4, HF', HD4⟩
            case measure => simp [intOf]; omega
          · have HO := Lib.hid (normOut_none e0 HT3.out.mks)
            have h4 : (e0 == 0) = false := by simpa using h3
            go_wp2
            exact bodyPost_ret (v := .tuple #[.slice none 0 0, .int .i64 e0]) (by simp [results, Try.results32, go_sem]) rfl HO.out
    · obtain rfl : k = n := by omega
      obtain ⟨N, rfl⟩ : ∃ N, k = N + 1 := ⟨k - 1, by omega⟩
      obtain ⟨gl, ai, ci, rfl, hgl, di, Li⟩ := HT.out.at (i := N) (by rw [sxs_len, HT.out.num]; omega)
      have HG : Hid (Good 24 ((sxs es).getD N [])) := Lib.hid (by
        have hN : N < es.length := by rw [HT.out.num]; omega
        have e1 : (sxs es).getD N [] = es[N].s := by simp [sxs, List.getD, hN]
        rw [e1]; exact HT.out.good _ (List.getElem_mem hN))
      have HL := Lib.hid Li
      have hll := Li.le
      generalize (sxs es).getD N [] = x at di HG HL hll
      have HO : Hid (NormOut mp w (.returned (.tuple #[.slice ai x.length ci, .int .i64 0])) wr) := Lib.hid ⟨ai, ci, x, 0, rfl, HL.out, HG.out, HT.out.mks⟩
      generalize x.length = q at di HO hll
      have hw1 : IntKind.i64.wrap ((N : Int) + 1 - 1) = (N : Int) := by rw [Int.add_sub_cancel]; exact IntWalk.i64_in _ (by omega)
      have i1 : (0 : Int) ≤ (N : Int) := by omega
      have i2 : (N : Int) < (N : Int) + 1 := by omega
      clear Li
      go_wp2
      exact bodyPost_ret (v := .tuple #[.slice ai q ci, .int .i64 0]) (by simp [results, Try.results32, go_sem]) rfl HO.out
end Go.Proofs.Ytadnjlhkppcmmaa

/- The reference's Norm: of a pattern, a right set that is not too great. -/
import Derived.Test.YtfkaagndlpcfdaaNm
import Derived.Test.YtfkaagndlpcfdaaQCf
import Derived.Deep.RegionHeld3
import Derived.Deep.CutBlock
import Derived.Deep.DeepCutAuto
import Derived.Deep.CutRange
namespace Go.Proofs.Ytfkaagndlpcfdaa
open Go.ChangeShapes Go.WideShapes Go.ChangeAt Go.RowKit

/-! ### Nodes, step by step -/
theorem chkL_app (tags : Int) : ∀ (A B : List Q.Nd) (i : Nat) (fl : List (Int × Bool)), Q.chkL tags i (A ++ B) fl = match Q.chkL tags i A fl with | none => none | some fl' => Q.chkL tags (i + A.length) B fl'
  | [], B, i, fl => by simp [Q.chkL]
  | x :: A, B, i, fl => by
    have e : ∀ L : List Q.Nd, Q.chkL tags i (x :: L) fl = match Q.chkStep tags i x fl with | none => none | some fl' => Q.chkL tags (i + 1) L fl' := fun _ => rfl
    rw [List.cons_append, e, e]
    cases Q.chkStep tags i x fl with
    | none => rfl
    | some fl' =>
      show Q.chkL tags (i + 1) (A ++ B) fl' = match Q.chkL tags (i + 1) A fl' with | none => none | some fl'' => Q.chkL tags (i + (x :: A).length) B fl''
      rw [chkL_app tags A B (i + 1) fl', List.length_cons, show i + 1 + A.length = i + (A.length + 1) by omega]
theorem chk_step {ns : List Q.Nd} (h : Q.chkB ns 4 = true) {k : Nat} (hk : k < ns.length) {fl : List (Int × Bool)} (hf : Q.chkL 4 0 (ns.take k) [] = some fl) :
    ∃ fl', Q.chkStep 4 k ns[k] fl = some fl' ∧ Q.chkL 4 0 (ns.take (k + 1)) [] = some fl' := by
  have h2 : Q.chkL 4 0 ns [] ≠ none := by
    intro e
    unfold Q.chkB at h
    rw [e] at h
    simp [Q.oneB] at h
  have e1 := chkL_app 4 (ns.take (k + 1)) (ns.drop (k + 1)) 0 []
  rw [List.take_append_drop] at e1
  have e2 := chkL_app 4 (ns.take k) [ns[k]] 0 []
  rw [← List.take_succ_eq_append_getElem hk, hf] at e2
  have hl : (ns.take k).length = k := by rw [List.length_take]; omega
  rw [hl] at e2
  cases hs : Q.chkStep 4 k ns[k] fl with
  | none =>
    exfalso
    have e3 : Q.chkL 4 0 (ns.take (k + 1)) [] = none := by
      rw [e2]
      show Q.chkL 4 (0 + k) [ns[k]] fl = none
      unfold Q.chkL
      rw [Nat.zero_add, hs]
    rw [e3] at e1
    exact h2 e1
  | some fl' =>
    refine ⟨fl', rfl, ?_⟩
    rw [e2]
    show Q.chkL 4 (0 + k) [ns[k]] fl = some fl'
    unfold Q.chkL
    rw [Nat.zero_add, hs]
    rfl
theorem step_kinds {k : Nat} {x : Q.Nd} {fl fl' : List (Int × Bool)} (h : Q.chkStep 4 k x fl = some fl') :
    ((x.kind = 1 ∨ x.kind = 2) ∧ fl' = fl ++ [((k : Int), false)]) ∨
    (x.kind = 3 ∧ 0 ≤ x.n ∧ x.n < 4 ∧ 1 ≤ x.a ∧ x.a ≤ 999999999 ∧ fl' = fl ++ [((k : Int), false)]) ∨
    ((x.kind = 4 ∨ x.kind = 5) ∧ ∃ F p q, fl = F ++ [p, q] ∧ x.a = p.1 ∧ x.b = q.1 ∧ fl' = F ++ [((k : Int), p.2 || q.2)]) ∨
    (x.kind = 6 ∧ ∃ F p, fl = F ++ [p] ∧ x.a = p.1 ∧ fl' = F ++ [((k : Int), true)]) := by
  by_cases h45 : x.kind = 4 ∨ x.kind = 5
  · have hp : Q.partsK x.kind = 2 := by unfold Q.partsK; rw [if_pos h45]
    by_cases hl : fl.length < 2
    · rw [Q.step_short (by rw [hp]; exact hl)] at h; cases h
    · obtain ⟨F, p, q, rfl⟩ := Q.last_two (fl := fl) (by omega)
      rw [Q.step_two F p q h45] at h
      split at h
      · next hh =>
        refine .inr (.inr (.inl ⟨h45, F, p, q, rfl, hh.1, hh.2.1, ?_⟩))
        injection h with h
        rw [← h]; simp
      · cases h
  · by_cases h6 : x.kind = 6
    · have hp : Q.partsK x.kind = 1 := by unfold Q.partsK; rw [if_neg h45, if_pos h6]
      by_cases hl : fl.length < 1
      · rw [Q.step_short (by rw [hp]; exact hl)] at h; cases h
      · obtain ⟨F, p, rfl⟩ := Q.last_one (fl := fl) (by omega)
        rw [Q.step_star F p h6] at h
        split at h
        · next hh =>
          refine .inr (.inr (.inr ⟨h6, F, p, rfl, hh.2.1, ?_⟩))
          injection h with h
          rw [← h]; simp
        · cases h
    · have hp : Q.partsK x.kind = 0 := by unfold Q.partsK; rw [if_neg h45, if_neg h6]
      obtain ⟨s1, s2⟩ := Q.step_leaf (tags := 4) (k := k) (y := x) fl hp h6
      cases hr : Q.rightB x 4 [] with
      | false => rw [s2 hr] at h; cases h
      | true =>
        have e := s1 hr
        rw [h] at e
        injection e with e
        rw [List.take_length] at e
        unfold Q.rightB at hr
        by_cases h12 : x.kind = 1 ∨ x.kind = 2
        · exact .inl ⟨h12, e⟩
        · rw [if_neg h12] at hr
          by_cases h3 : x.kind = 3
          · rw [if_pos h3] at hr
            simp only [Bool.and_eq_true, decide_eq_true_eq] at hr
            exact .inr (.inl ⟨h3, hr.1, hr.2.1, hr.2.2.1, hr.2.2.2.1, e⟩)
          · rw [if_neg h3] at hr; cases hr
theorem two_parts {es : List (List Lin)} {F : List (Int × Bool)} {p q : Int × Bool} {t : Nat} (h : Stk es (F ++ [p, q]) t) :
    ∃ u a b i j, u + a + b ≤ t ∧ Stk es F u ∧ p.1 = ((i : Nat) : Int) ∧ i < es.length ∧ Good a (es.getD i []) ∧ q.1 = ((j : Nat) : Int) ∧ j < es.length ∧ Good b (es.getD j []) := by
  obtain ⟨u, v, huv, hF, a, v', hav, ⟨i, hi, hil, hg⟩, b, v'', hbv, ⟨j, hj, hjl, hg'⟩, _⟩ := stk_split h
  exact ⟨u, a, b, i, j, by omega, hF, hi, hil, hg, hj, hjl, hg'⟩
theorem one_part {es : List (List Lin)} {F : List (Int × Bool)} {p : Int × Bool} {t : Nat} (h : Stk es (F ++ [p]) t) :
    ∃ u a i, u + a ≤ t ∧ Stk es F u ∧ p.1 = ((i : Nat) : Int) ∧ i < es.length ∧ Good a (es.getD i []) := by
  obtain ⟨u, v, huv, hF, a, v', hav, ⟨i, hi, hil, hg⟩, _⟩ := stk_split h
  exact ⟨u, a, i, by omega, hF, hi, hil, hg⟩
/-- What comes of a new part: it stands on the stack, and is not too great. -/
theorem stk_leaf {es : List (List Lin)} {fl : List (Int × Bool)} {k : Nat} {x : List Lin} {b : Bool} (h : Stk es fl k) (hl : es.length = k) (hk : k < 24) (g : Good 1 x) : Stk (es ++ [x]) (fl ++ [((k : Int), b)]) (k + 1) ∧ Good 24 x := by
  subst hl
  exact ⟨stk_join (stk_push x h) (stk_new g), g.more (by omega)⟩
theorem stk_part {es : List (List Lin)} {F : List (Int × Bool)} {k u v : Nat} {x : List Lin} {b : Bool} (h : Stk es F u) (hl : es.length = k) (huv : u + v ≤ k + 1) (hk : k < 24) (g : Good v x) : Stk (es ++ [x]) (F ++ [((k : Int), b)]) (k + 1) ∧ Good 24 x := by
  subst hl
  exact ⟨stk_more (stk_join (stk_push x h) (stk_new g)) huv, g.more (by omega)⟩

/-! ### Rows of sets in memory -/
theorem Try.infoSemi : (Try.prog.info? 28).map (fun i => (i.zero, i.size, i.bytes)) = some (some (.slice none 0 0), 1, 24) := by kernel_rfl
/-- A set in memory. -/
structure Sx where
  a : Option Addr
  c : Nat
  s : List Lin
def Sx.val (e : Sx) : Value := .slice e.a e.s.length e.c
def sxs (es : List Sx) : List (List Lin) := es.map Sx.s
def sxv (es : List Sx) : List Value := es.map Sx.val
theorem sxv_len (es : List Sx) : (sxv es).length = es.length := List.length_map ..
theorem sxs_len (es : List Sx) : (sxs es).length = es.length := List.length_map ..
theorem sxv_one (es : List Sx) : ∀ x ∈ sxv es, x.oneCell' = true := fun x hx => by
  obtain ⟨z, _, rfl⟩ := List.mem_map.1 hx
  rfl
theorem row_apartT {w : World} {T : TypeId} {mp : Option Addr} {M : Mr} (h : MrAt w T mp M) {e : TypeId} (hT : T ≠ e) {a : Option Addr} {c : Nat} {xs : List Value} (r : Row w e a c xs) {g : Nat} (e1 : a = some ⟨g, 0, none⟩) : mp ≠ some ⟨g, 0, none⟩ := by
  intro e2
  rcases h.form with h | ⟨b, h, cs, l⟩
  · rw [h] at e2; cases e2
  · rw [h] at e2; injection e2 with e2; injection e2 with e2; subst e2
    rcases r with ⟨h1, _⟩ | ⟨g1, sp, h1, _, _, l1⟩
    · rw [h1] at e1; cases e1
    · rw [h1] at e1; injection e1 with e1; injection e1 with e1; subst e1
      exact l.other l1 hT rfl
/-- Only one block has turned, of another kind: sets stay. -/
theorem Lins.keptOf {w w' : World} {X : Nat → Prop} (k : Kept X w w') (hX : ∀ g, X g → ∃ T cs, Lies w g T cs ∧ MT T) {a : Option Addr} {c : Nat} {s : List Lin} (r : Lins w a c s) : Lins w' a c s := by
  have nb : ∀ {a : Option Addr} {c : Nat} {xs : List Int}, Bag w a c xs → ∀ g, a = some ⟨g, 0, none⟩ → ¬ X g := fun h g e x => by
    obtain ⟨T, cs, l, m⟩ := hX g x
    rcases h with ⟨h1, _⟩ | ⟨g1, sp, h1, _, _, l1⟩
    · rw [h1] at e; cases e
    · rw [h1] at e; injection e with e; injection e with e; subst e
      exact l.other l1 m.1 rfl
  have nr : ∀ {a : Option Addr} {c : Nat} {xs : List Value}, Row w 47 a c xs → ∀ g, a = some ⟨g, 0, none⟩ → ¬ X g := fun h g e x => by
    obtain ⟨T, cs, l, m⟩ := hX g x
    rcases h with ⟨h1, _⟩ | ⟨g1, sp, h1, _, _, l1⟩
    · rw [h1] at e; cases e
    · rw [h1] at e; injection e with e; injection e with e; subst e
      exact l.other l1 m.2.1 rfl
  have n2 : ∀ {a : Option Addr} {c n : Nat} {xs : List Value}, Row2 w a c n xs → ∀ g, a = some ⟨g, 0, none⟩ → ¬ X g := fun h g e x => by
    obtain ⟨T, cs, l, m⟩ := hX g x
    obtain ⟨_, h⟩ := h
    rcases h with ⟨h1, _⟩ | ⟨g1, sp, h1, _, _, _, l1⟩
    · rw [h1] at e; cases e
    · rw [h1] at e; injection e with e; injection e with e; subst e
      exact l.other l1 m.2.2 rfl
  obtain ⟨ls, e, P⟩ := r
  refine ⟨ls, e, P.row.kept k (n2 P.row), fun l hl => ?_⟩
  obtain ⟨h1, ps, e, R⟩ := P.each l hl
  exact ⟨h1.kept k (nb h1), ps, e, R.row.kept k (nr R.row), fun p hp => (R.each p hp).kept k (nb (R.each p hp))⟩
/-- What Norm comes to. -/
def NormOut (mp : Option Addr) (w : World) (e : Ending) (w' : World) : Prop :=
  ∃ sa sc s q, e = .returned (.tuple #[.slice sa (s : List Lin).length sc, .int .i64 q]) ∧ Lins w' sa sc s ∧ Good 24 s ∧ MK mp w w'
theorem normOut_none {mp : Option Addr} {w w' : World} (q : Int) (k : MK mp w w') : NormOut mp w (.returned (.tuple #[.slice none 0 0, .int .i64 q])) w' := ⟨none, 0, [], q, rfl, Lins.nil _, good_nil _, k⟩
theorem cell_kept {X : Nat → Prop} {w w' : World} (k : Kept X w w') {p : Addr} (h : p.block < w.heap.size) (hx : ¬ X p.block) : w'.cell? p = w.cell? p := World.cell?_of_block (w := w) (k.block p.block h hx)

end Go.Proofs.Ytfkaagndlpcfdaa

/- The reference's Norm: its answer said in full. -/
import Derived.Test.YtfkaagndlpcfdaaNn
namespace Go.Proofs.Ytfkaagndlpcfdaa
open Go.ChangeShapes Go.WideShapes Go.ChangeAt Go.RowKit

/-! ### What a pattern stands for, node by node -/
def setAt (es : List (List Lin)) (a : Int) : List Lin := es.getD a.toNat []
def nodeM (M : Mr) (es : List (List Lin)) (kd na nb nn : Int) : List Lin × Int × Mr :=
  if kd = 2 then (oneS, 0, M)
  else if kd = 3 then ([⟨oneL nn na, []⟩], 0, M)
  else if kd = 4 then (unionS (setAt es na) (setAt es nb), 0, M)
  else if kd = 5 then catM M (setAt es na) (setAt es nb)
  else if kd = 6 then starM M (setAt es na)
  else ([], 0, M)
def normGo : List Q.Nd → Mr → List (List Lin) → List (List Lin) × Int × Mr
  | [], M, es => (es, 0, M)
  | x :: r, M, es =>
    if (spendM M 1).1 = true then
      (if (nodeM (spendM M 1).2 es x.kind x.a x.b x.n).2.1 = 0 then normGo r (nodeM (spendM M 1).2 es x.kind x.a x.b x.n).2.2 (es ++ [(nodeM (spendM M 1).2 es x.kind x.a x.b x.n).1])
       else ([], (nodeM (spendM M 1).2 es x.kind x.a x.b x.n).2.1, (nodeM (spendM M 1).2 es x.kind x.a x.b x.n).2.2))
    else ([], 7, (spendM M 1).2)
theorem normGo_nil (M : Mr) (es : List (List Lin)) : normGo [] M es = (es, 0, M) := rfl
theorem normGo_cons (x : Q.Nd) (r : List Q.Nd) (M : Mr) (es : List (List Lin)) : normGo (x :: r) M es =
    if (spendM M 1).1 = true then
      (if (nodeM (spendM M 1).2 es x.kind x.a x.b x.n).2.1 = 0 then normGo r (nodeM (spendM M 1).2 es x.kind x.a x.b x.n).2.2 (es ++ [(nodeM (spendM M 1).2 es x.kind x.a x.b x.n).1])
       else ([], (nodeM (spendM M 1).2 es x.kind x.a x.b x.n).2.1, (nodeM (spendM M 1).2 es x.kind x.a x.b x.n).2.2))
    else ([], 7, (spendM M 1).2) := rfl
def normM (M : Mr) (ns : List Q.Nd) (T : Int) : List Lin × Int × Mr :=
  if 0 ≤ T ∧ T ≤ 12 ∧ Q.chkB ns T = true then
    (if (normGo ns M []).2.1 = 0 then ((normGo ns M []).1.getD (ns.length - 1) [], 0, (normGo ns M []).2.2) else ([], (normGo ns M []).2.1, (normGo ns M []).2.2))
  else ([], 1, M)
theorem normM_no {M : Mr} {ns : List Q.Nd} {T : Int} (h : ¬ (0 ≤ T ∧ T ≤ 12 ∧ Q.chkB ns T = true)) : normM M ns T = ([], 1, M) := if_neg h
theorem normM_err {M M' : Mr} {ns : List Q.Nd} {T q : Int} {l : List (List Lin)} (h : 0 ≤ T ∧ T ≤ 12 ∧ Q.chkB ns T = true) (e : normGo ns M [] = (l, q, M')) (hq : q ≠ 0) : normM M ns T = ([], q, M') := by
  unfold normM
  rw [if_pos h, e, if_neg hq]
theorem normM_ok {M M' : Mr} {ns : List Q.Nd} {T : Int} {l : List (List Lin)} (h : 0 ≤ T ∧ T ≤ 12 ∧ Q.chkB ns T = true) (e : normGo ns M [] = (l, 0, M')) : normM M ns T = (l.getD (ns.length - 1) [], 0, M') := by
  unfold normM
  rw [if_pos h, e, if_pos rfl]
/-- What Norm comes to, in full. -/
def NormX (T : TypeId) (mp : Option Addr) (r : List Lin × Int × Mr) (w : World) (e : Ending) (w' : World) : Prop :=
  ∃ a c, e = .returned (.tuple #[.slice a r.1.length c, .int .i64 r.2.1]) ∧ Lins w' a c r.1 ∧ MrAt w' T mp r.2.2 ∧ MK mp w w'
theorem normX_none {T : TypeId} {mp : Option Addr} {r : List Lin × Int × Mr} {q : Int} {M : Mr} {w w' : World} (h : r = ([], q, M)) (m : MrAt w' T mp M) (k : MK mp w w') : NormX T mp r w (.returned (.tuple #[.slice none 0 0, .int .i64 q])) w' := by
  subst h
  exact ⟨none, 0, rfl, Lins.nil _, m, k⟩
theorem chk_stepT {T : Int} {ns : List Q.Nd} (h : Q.chkB ns T = true) {k : Nat} (hk : k < ns.length) {fl : List (Int × Bool)} (hf : Q.chkL T 0 (ns.take k) [] = some fl) :
    ∃ fl', Q.chkStep T k ns[k] fl = some fl' ∧ Q.chkL T 0 (ns.take (k + 1)) [] = some fl' := by
  have h2 : Q.chkL T 0 ns [] ≠ none := by
    intro e
    unfold Q.chkB at h
    rw [e] at h
    simp [Q.oneB] at h
  have e1 := chkL_app T (ns.take (k + 1)) (ns.drop (k + 1)) 0 []
  rw [List.take_append_drop] at e1
  have e2 := chkL_app T (ns.take k) [ns[k]] 0 []
  rw [← List.take_succ_eq_append_getElem hk, hf] at e2
  have hl : (ns.take k).length = k := by rw [List.length_take]; omega
  rw [hl] at e2
  cases hs : Q.chkStep T k ns[k] fl with
  | none =>
    exfalso
    have e3 : Q.chkL T 0 (ns.take (k + 1)) [] = none := by
      rw [e2]
      show Q.chkL T (0 + k) [ns[k]] fl = none
      unfold Q.chkL
      rw [Nat.zero_add, hs]
    rw [e3] at e1
    exact h2 e1
  | some fl' =>
    refine ⟨fl', rfl, ?_⟩
    rw [e2]
    show Q.chkL T (0 + k) [ns[k]] fl = some fl'
    unfold Q.chkL
    rw [Nat.zero_add, hs]
    rfl
theorem step_kindsT {T : Int} {k : Nat} {x : Q.Nd} {fl fl' : List (Int × Bool)} (h : Q.chkStep T k x fl = some fl') :
    ((x.kind = 1 ∨ x.kind = 2) ∧ fl' = fl ++ [((k : Int), false)]) ∨
    (x.kind = 3 ∧ 0 ≤ x.n ∧ x.n < T ∧ 1 ≤ x.a ∧ x.a ≤ 999999999 ∧ fl' = fl ++ [((k : Int), false)]) ∨
    ((x.kind = 4 ∨ x.kind = 5) ∧ ∃ F p q, fl = F ++ [p, q] ∧ x.a = p.1 ∧ x.b = q.1 ∧ fl' = F ++ [((k : Int), p.2 || q.2)]) ∨
    (x.kind = 6 ∧ ∃ F p, fl = F ++ [p] ∧ x.a = p.1 ∧ fl' = F ++ [((k : Int), true)]) := by
  by_cases h45 : x.kind = 4 ∨ x.kind = 5
  · have hp : Q.partsK x.kind = 2 := by unfold Q.partsK; rw [if_pos h45]
    by_cases hl : fl.length < 2
    · rw [Q.step_short (by rw [hp]; exact hl)] at h; cases h
    · obtain ⟨F, p, q, rfl⟩ := Q.last_two (fl := fl) (by omega)
      rw [Q.step_two F p q h45] at h
      split at h
      · next hh =>
        refine .inr (.inr (.inl ⟨h45, F, p, q, rfl, hh.1, hh.2.1, ?_⟩))
        injection h with h
        rw [← h]; simp
      · cases h
  · by_cases h6 : x.kind = 6
    · have hp : Q.partsK x.kind = 1 := by unfold Q.partsK; rw [if_neg h45, if_pos h6]
      by_cases hl : fl.length < 1
      · rw [Q.step_short (by rw [hp]; exact hl)] at h; cases h
      · obtain ⟨F, p, rfl⟩ := Q.last_one (fl := fl) (by omega)
        rw [Q.step_star F p h6] at h
        split at h
        · next hh =>
          refine .inr (.inr (.inr ⟨h6, F, p, rfl, hh.2.1, ?_⟩))
          injection h with h
          rw [← h]; simp
        · cases h
    · have hp : Q.partsK x.kind = 0 := by unfold Q.partsK; rw [if_neg h45, if_neg h6]
      obtain ⟨s1, s2⟩ := Q.step_leaf (tags := T) (k := k) (y := x) fl hp h6
      cases hr : Q.rightB x T [] with
      | false => rw [s2 hr] at h; cases h
      | true =>
        have e := s1 hr
        rw [h] at e
        injection e with e
        rw [List.take_length] at e
        unfold Q.rightB at hr
        by_cases h12 : x.kind = 1 ∨ x.kind = 2
        · exact .inl ⟨h12, e⟩
        · rw [if_neg h12] at hr
          by_cases h3 : x.kind = 3
          · rw [if_pos h3] at hr
            simp only [Bool.and_eq_true, decide_eq_true_eq] at hr
            exact .inr (.inl ⟨h3, hr.1, hr.2.1, hr.2.2.1, hr.2.2.2.1, e⟩)
          · rw [if_neg h3] at hr; cases hr
end Go.Proofs.Ytfkaagndlpcfdaa

/- Plain words: the smallest patterns. -/
import Derived.Test.YtfkaagndlpcfdaaGreatOc

/-! Plain words: two patterns put together. -/
namespace Go.Proofs.YtfkaagndlpcfdaaGreat
open Go.ChangeShapes Go.WideShapes Go.ChangeAt Go.RowKit

/-- A node n places further on. -/
def shN (n : Nat) (x : Q.Nd) : Q.Nd := if 4 ≤ x.kind then ⟨x.kind, x.a + n, if x.kind = 6 then x.b else x.b + n, x.n, x.name⟩ else x
def shP (n : Nat) (p : Int × Bool) : Int × Bool := (p.1 + n, p.2)
theorem shN_low {n : Nat} {x : Q.Nd} (h : ¬ 4 ≤ x.kind) : shN n x = x := if_neg h
theorem shN_two {n : Nat} {x : Q.Nd} (h : x.kind = 4 ∨ x.kind = 5) : shN n x = ⟨x.kind, x.a + n, x.b + n, x.n, x.name⟩ := by
  unfold shN
  rw [if_pos (by omega), if_neg (by omega)]
theorem shN_star {n : Nat} {x : Q.Nd} (h : x.kind = 6) : shN n x = ⟨x.kind, x.a + n, x.b, x.n, x.name⟩ := by
  unfold shN
  rw [if_pos (by omega), if_pos h]
theorem take_l {α : Type} (a b : List α) : (a ++ b).take a.length = a := by rw [List.take_append_of_le_length (Nat.le_refl _), List.take_length]
theorem step_shift {T : Int} (n : Nat) {k : Nat} {x : Q.Nd} {fl fl' : List (Int × Bool)} (G : List (Int × Bool)) (h : Q.chkStep T k x fl = some fl') : Q.chkStep T (k + n) (shN n x) (G ++ fl.map (shP n)) = some (G ++ fl'.map (shP n)) := by
  by_cases h45 : x.kind = 4 ∨ x.kind = 5
  · have hp : Q.partsK x.kind = 2 := by unfold Q.partsK; rw [if_pos h45]
    by_cases hl : fl.length < 2
    · rw [Q.step_short (by rw [hp]; exact hl)] at h; cases h
    · obtain ⟨F, p, q, rfl⟩ := Q.last_two (fl := fl) (by omega)
      rw [Q.step_two F p q h45] at h
      split at h
      · next hh =>
        injection h with h
        rw [← h, shN_two h45]
        have e : G ++ (F ++ [p, q]).map (shP n) = (G ++ F.map (shP n)) ++ [shP n p, shP n q] := by simp
        rw [e, Q.step_two (y := ⟨x.kind, x.a + n, x.b + n, x.n, x.name⟩) _ _ _ h45, if_pos ⟨by show x.a + n = p.1 + n; omega, by show x.b + n = q.1 + n; omega, hh.2.2⟩, take_l, take_l]
        simp [shP]
      · cases h
  · by_cases h6 : x.kind = 6
    · have hp : Q.partsK x.kind = 1 := by unfold Q.partsK; rw [if_neg h45, if_pos h6]
      by_cases hl : fl.length < 1
      · rw [Q.step_short (by rw [hp]; exact hl)] at h; cases h
      · obtain ⟨F, p, rfl⟩ := Q.last_one (fl := fl) (by omega)
        rw [Q.step_star F p h6] at h
        split at h
        · next hh =>
          injection h with h
          rw [← h, shN_star h6]
          have e : G ++ (F ++ [p]).map (shP n) = (G ++ F.map (shP n)) ++ [shP n p] := by simp
          rw [e, Q.step_star (y := ⟨x.kind, x.a + n, x.b, x.n, x.name⟩) _ _ h6, if_pos ⟨hh.1, by show x.a + n = p.1 + n; omega, hh.2.2.1, hh.2.2.2⟩, take_l, take_l]
          simp [shP]
        · cases h
    · have hp : Q.partsK x.kind = 0 := by unfold Q.partsK; rw [if_neg h45, if_neg h6]
      obtain ⟨s1, s2⟩ := Q.step_leaf (tags := T) (k := k) (y := x) fl hp h6
      cases hr : Q.rightB x T [] with
      | false => rw [s2 hr] at h; cases h
      | true =>
        have e := s1 hr
        rw [h] at e
        injection e with e
        have hlow : ¬ 4 ≤ x.kind := by
          unfold Q.rightB at hr
          by_cases h12 : x.kind = 1 ∨ x.kind = 2
          · omega
          · rw [if_neg h12] at hr
            by_cases h3 : x.kind = 3
            · omega
            · rw [if_neg h3] at hr; cases hr
        obtain ⟨t1, _⟩ := Q.step_leaf (tags := T) (k := k + n) (y := x) (G ++ fl.map (shP n)) hp h6
        rw [shN_low hlow, t1 hr, e, List.take_length, List.take_length]
        simp [shP]
theorem chkL_shift {T : Int} (n : Nat) (G : List (Int × Bool)) : ∀ (ns : List Q.Nd) (i : Nat) (fl fl' : List (Int × Bool)), Q.chkL T i ns fl = some fl' → Q.chkL T (i + n) (ns.map (shN n)) (G ++ fl.map (shP n)) = some (G ++ fl'.map (shP n))
  | [], i, fl, fl', h => by
    injection h with h
    subst h
    rfl
  | x :: r, i, fl, fl', h => by
    have e : ∀ (i : Nat) (y : Q.Nd) (L : List Q.Nd) (f : List (Int × Bool)), Q.chkL T i (y :: L) f = match Q.chkStep T i y f with | none => none | some f' => Q.chkL T (i + 1) L f' := fun _ _ _ _ => rfl
    rw [e] at h
    rw [List.map_cons, e]
    cases hs : Q.chkStep T i x fl with
    | none => rw [hs] at h; cases h
    | some f1 =>
      rw [hs] at h
      rw [step_shift n G hs]
      have := chkL_shift n G r (i + 1) f1 fl' h
      rw [show i + 1 + n = i + n + 1 by omega] at this
      exact this
def Nats (fl : List (Int × Bool)) : Prop := ∀ p ∈ fl, ∃ j : Nat, p.1 = (j : Int)
theorem getD_past2 (E es : List (List Lin)) (i : Nat) : (E ++ es).getD (E.length + i) [] = es.getD i [] := by
  rw [List.getD_eq_getElem?_getD, List.getD_eq_getElem?_getD, List.getElem?_append_right (by omega), show E.length + i - E.length = i by omega]
theorem node_shift {T : Int} {k : Nat} {x : Q.Nd} {fl fl' : List (Int × Bool)} (h : Q.chkStep T k x fl = some fl') (hn : Nats fl) (E es : List (List Lin)) (M : Mr) :
    nodeM M (E ++ es) (shN E.length x).kind (shN E.length x).a (shN E.length x).b (shN E.length x).n = nodeM M es x.kind x.a x.b x.n ∧ Nats fl' := by
  have hk : Nats [((k : Int), false)] := fun p hp => by obtain rfl := List.mem_singleton.1 hp; exact ⟨k, rfl⟩
  rcases step_kindsT h with ⟨h12, e⟩ | ⟨h3, _, _, _, _, e⟩ | ⟨h45, F, p, q, hF, hp, hq, e⟩ | ⟨h6, F, p, hF, hp, e⟩
  · refine ⟨?_, fun z hz => ?_⟩
    · rw [shN_low (by omega)]
      rcases h12 with h1 | h2
      · rw [h1, node1, node1]
      · rw [h2, node2, node2]
    · rw [e] at hz
      rcases List.mem_append.1 hz with hz | hz
      · exact hn z hz
      · exact hk z hz
  · refine ⟨?_, fun z hz => ?_⟩
    · rw [shN_low (by omega), h3, node3, node3]
    · rw [e] at hz
      rcases List.mem_append.1 hz with hz | hz
      · exact hn z hz
      · exact hk z hz
  · obtain ⟨i, hi⟩ := hn p (by rw [hF]; simp)
    obtain ⟨j, hj⟩ := hn q (by rw [hF]; simp)
    refine ⟨?_, fun z hz => ?_⟩
    · rw [shN_two h45]
      show nodeM M (E ++ es) x.kind (x.a + (E.length : Int)) (x.b + (E.length : Int)) x.n = _
      rw [hp, hq, hi, hj, show (i : Int) + (E.length : Int) = ((E.length + i : Nat) : Int) by omega, show (j : Int) + (E.length : Int) = ((E.length + j : Nat) : Int) by omega]
      rcases h45 with h4 | h5
      · rw [h4, node4, node4, getD_past2, getD_past2]
      · rw [h5, node5, node5, getD_past2, getD_past2]
    · rw [e] at hz
      rcases List.mem_append.1 hz with hz | hz
      · exact hn z (by rw [hF]; exact List.mem_append_left _ hz)
      · obtain rfl := List.mem_singleton.1 hz
        exact ⟨k, rfl⟩
  · obtain ⟨i, hi⟩ := hn p (by rw [hF]; simp)
    refine ⟨?_, fun z hz => ?_⟩
    · rw [shN_star h6]
      show nodeM M (E ++ es) x.kind (x.a + (E.length : Int)) x.b x.n = _
      rw [hp, hi, show (i : Int) + (E.length : Int) = ((E.length + i : Nat) : Int) by omega, h6, node6, node6, getD_past2]
    · rw [e] at hz
      rcases List.mem_append.1 hz with hz | hz
      · exact hn z (by rw [hF]; exact List.mem_append_left _ hz)
      · obtain rfl := List.mem_singleton.1 hz
        exact ⟨k, rfl⟩
theorem normGo_shift {T : Int} (E : List (List Lin)) : ∀ (ns : List Q.Nd) (i : Nat) (fl fl' : List (Int × Bool)) (M M' : Mr) (es es' : List (List Lin)), Q.chkL T i ns fl = some fl' → Nats fl → normGo ns M es = (es', 0, M') → normGo (ns.map (shN E.length)) M (E ++ es) = (E ++ es', 0, M')
  | [], _, _, _, M, M', es, es', _, _, h => by
    rw [normGo_nil] at h
    injection h with h1 h2
    injection h2 with _ h3
    subst h1; subst h3
    rfl
  | x :: r, i, fl, fl', M, M', es, es', hc, hn, h => by
    have e : ∀ (i : Nat) (y : Q.Nd) (L : List Q.Nd) (f : List (Int × Bool)), Q.chkL T i (y :: L) f = match Q.chkStep T i y f with | none => none | some f' => Q.chkL T (i + 1) L f' := fun _ _ _ _ => rfl
    rw [e] at hc
    cases hs : Q.chkStep T i x fl with
    | none => rw [hs] at hc; cases hc
    | some f1 =>
      rw [hs] at hc
      have hc : Q.chkL T (i + 1) r f1 = some fl' := hc
      rw [normGo_cons] at h
      rw [List.map_cons, normGo_cons]
      obtain ⟨g1, g2⟩ := node_shift hs hn E es (spendM M 1).2
      rw [g1]
      by_cases h1 : (spendM M 1).1 = true
      · rw [if_pos h1] at h ⊢
        by_cases h2 : (nodeM (spendM M 1).2 es x.kind x.a x.b x.n).2.1 = 0
        · rw [if_pos h2] at h ⊢
          have := normGo_shift E r (i + 1) f1 fl' _ M' _ es' hc g2 h
          rw [List.append_assoc]
          exact this
        · rw [if_neg h2] at h
          injection h with _ h3
          injection h3 with h4 _
          exact absurd h4 h2
      · rw [if_neg h1] at h
        injection h with _ h3
        injection h3 with h4 _
        exact absurd h4 (by decide)
/-- Two patterns together: a sum (kind 4) or a cat (kind 5). -/
def both (kind : Int) (x y : List Q.Nd) : List Q.Nd := x ++ y.map (shN x.length) ++ [⟨kind, ((x.length - 1 : Nat) : Int), ((x.length + y.length - 1 : Nat) : Int), 0, Q.emp⟩]
theorem both_fine {T : Int} (h0 : 0 ≤ T) (hT : T ≤ 12) {x y : List Q.Nd} (hx : Q.chkB x T = true) (hy : Q.chkB y T = true) (h : x.length + y.length + 1 ≤ 24) :
    normM none (both 4 x y) T = (unionS (normM none x T).1 (normM none y T).1, 0, none) ∧ normM none (both 5 x y) T = (catS (normM none x T).1 (normM none y T).1, 0, none) ∧
    catsOk (normM none x T).1 (normM none y T).1 = true ∧ Good 24 (normM none x T).1 ∧ Good 24 (normM none y T).1 := by
  obtain ⟨x1, x24, b, hlx⟩ := chk_one hx
  obtain ⟨y1, y24, b', hly⟩ := chk_one hy
  obtain ⟨es, e1, e2, e3, e4, _⟩ := normM_fine h0 hT hx x1 x24
  obtain ⟨es2, f1, f2, f3, f4, _⟩ := normM_fine h0 hT hy y1 y24
  have e3' : (normM none x T).1 = es.getD (x.length - 1) [] := by rw [e3]
  have f3' : (normM none y T).1 = es2.getD (y.length - 1) [] := by rw [f3]
  rw [e3', f3']
  obtain ⟨ok, _⟩ := good_cat e4 f4 (by omega)
  have c1 : Q.chkL T 0 (x ++ y.map (shN x.length)) [] = some [(((x.length - 1 : Nat) : Int), b), (((x.length + y.length - 1 : Nat) : Int), b')] := by
    rw [chkL_app, hlx]
    have := chkL_shift x.length [(((x.length - 1 : Nat) : Int), b)] y 0 [] _ hly
    simp only [List.map_nil, List.append_nil] at this
    show Q.chkL T (0 + x.length) (y.map (shN x.length)) [(((x.length - 1 : Nat) : Int), b)] = _
    rw [this]
    have e : ((y.length - 1 : Nat) : Int) + (x.length : Int) = ((x.length + y.length - 1 : Nat) : Int) := by omega
    simp [shP, e]
  have c2 : ∀ kind : Int, kind = 4 ∨ kind = 5 → Q.chkB (both kind x y) T = true := fun kind hk => by
    refine chkB_of (p := (((x.length + y.length : Nat) : Int), b || b')) (by simp [both]; omega) ?_
    unfold both
    rw [Q.chkL_snoc, c1]
    simp only [Nat.zero_add, List.length_append, List.length_map]
    rw [show [(((x.length - 1 : Nat) : Int), b), (((x.length + y.length - 1 : Nat) : Int), b')] = ([] : List (Int × Bool)) ++ [(((x.length - 1 : Nat) : Int), b), (((x.length + y.length - 1 : Nat) : Int), b')] from rfl]
    rw [Q.step_two [] _ _ hk]
    simp
  have hE : x.length = es.length := e2.symm
  have g1 : normGo (x ++ y.map (shN x.length)) none [] = (es ++ es2, 0, none) := by
    rw [normGo_app x _ none none [] es e1, hE]
    have := normGo_shift es y 0 [] _ none none [] es2 hly (fun p hp => by simp at hp) f1
    rwa [List.append_nil] at this
  have d1 : (es ++ es2).getD (x.length - 1) [] = es.getD (x.length - 1) [] := by
    rw [List.getD_eq_getElem?_getD, List.getD_eq_getElem?_getD, List.getElem?_append_left (by omega)]
  have d2 : (es ++ es2).getD (x.length + y.length - 1) [] = es2.getD (y.length - 1) [] := by
    rw [show x.length + y.length - 1 = es.length + (y.length - 1) by omega]
    exact getD_past2 es es2 _
  have hlen : ∀ kind : Int, (both kind x y).length = x.length + y.length + 1 := fun kind => by simp [both]; omega
  have last : ∀ s : List Lin, (es ++ es2 ++ [s]).getD (x.length + y.length + 1 - 1) [] = s := fun s => by
    rw [List.getD_eq_getElem?_getD, List.getElem?_append_right (by simp; omega)]
    simp [e2, f2]
  refine ⟨?_, ?_, ok, e4, f4⟩
  · have g2 : normGo (both 4 x y) none [] = (es ++ es2 ++ [unionS (es.getD (x.length - 1) []) (es2.getD (y.length - 1) [])], 0, none) := by
      refine normGo_snoc g1 ((node4 none (es ++ es2) 0 (x.length - 1) (x.length + y.length - 1)).trans ?_)
      rw [d1, d2]; rfl
    rw [normM_ok ⟨h0, by omega, c2 4 (.inl rfl)⟩ g2, hlen, last]; rfl
  · have g2 : normGo (both 5 x y) none [] = (es ++ es2 ++ [catS (es.getD (x.length - 1) []) (es2.getD (y.length - 1) [])], 0, none) := by
      refine normGo_snoc g1 ((node5 none (es ++ es2) 0 (x.length - 1) (x.length + y.length - 1)).trans ?_)
      rw [d1, d2]
      exact catM_free e4.rise f4.rise ok
    rw [normM_ok ⟨h0, by omega, c2 5 (.inr rfl)⟩ g2, hlen, last]; rfl
end Go.Proofs.YtfkaagndlpcfdaaGreat

/-! Plain words: the smallest patterns. -/
namespace Go.Proofs.YtfkaagndlpcfdaaGreat
open Go.ChangeShapes Go.WideShapes Go.ChangeAt Go.RowKit

theorem tag_step {T t n : Int} {nm : ByteArray} (k : Nat) (fl : List (Int × Bool)) (h0 : 0 ≤ t) (h1 : t < T) (h2 : 1 ≤ n) (h3 : n ≤ 999999999) : Q.chkStep T k ⟨3, n, 0, t, nm⟩ fl = some (fl ++ [((k : Int), false)]) := by
  have := (Q.step_leaf (tags := T) (k := k) (y := ⟨3, n, 0, t, nm⟩) fl rfl (show ¬ (3 : Int) = 6 by decide)).1 (by simp [Q.rightB, h0, h1, h2, h3])
  rw [this, List.take_length]
theorem one_tag {t n : Int} {nm : ByteArray} (h0 : 0 ≤ t) (h1 : t < 12) (h2 : 1 ≤ n) (h3 : n ≤ 999999999) (M : Mr) (hM : M = none) : normM M [⟨3, n, 0, t, nm⟩] 12 = ([⟨oneL t n, []⟩], 0, none) := by
  subst hM
  have hl : Q.chkL 12 0 ([] ++ [⟨3, n, 0, t, nm⟩]) [] = some [(((0 : Nat) : Int), false)] := by
    rw [Q.chkL_snoc]
    show Q.chkStep 12 0 ⟨3, n, 0, t, nm⟩ [] = _
    rw [tag_step 0 [] h0 h1 h2 h3]; rfl
  have hc : Q.chkB [⟨3, n, 0, t, nm⟩] 12 = true := chkB_of (by simp) hl
  have g : normGo ([] ++ [⟨3, n, 0, t, nm⟩]) none [] = ([] ++ [[⟨oneL t n, []⟩]], 0, none) := normGo_snoc rfl (node3 none [] n 0 t)
  exact normM_ok ⟨by omega, by omega, hc⟩ g
theorem tag_refused {t n : Int} {nm : ByteArray} (M : Mr) : normM M [⟨3, n, 0, t, nm⟩] t = ([], 1, M) := by
  refine normM_no (fun h => ?_)
  obtain ⟨_, _, b, hl⟩ := chk_one h.2.2
  have e : Q.chkL t 0 ([] ++ [⟨3, n, 0, t, nm⟩]) [] = Q.chkStep t 0 ⟨3, n, 0, t, nm⟩ [] := by rw [Q.chkL_snoc]; rfl
  have := (Q.step_leaf (tags := t) (k := 0) (y := ⟨3, n, 0, t, nm⟩) [] rfl (show ¬ (3 : Int) = 6 by decide)).2 (by simp [Q.rightB])
  rw [this] at e
  have hl' : Q.chkL t 0 ([] ++ [⟨3, n, 0, t, nm⟩]) [] = _ := hl
  rw [e] at hl'
  cases hl'
theorem ofLin_one {w : List Int} (hr : rightL w = true) (hne : w ≠ []) : ofLin [] [w] = ⟨[], [w]⟩ := by
  have hn := norm_self hr
  have lost : lostL w = false := by
    unfold lostL
    rw [hn]
    cases w <;> simp
  have ok : ofOk [] [w] = true := by
    unfold ofOk
    rw [Bool.and_eq_true, List.all_eq_true]
    exact ⟨by decide, fun b hb => by obtain rfl := List.mem_singleton.1 hb; rw [lost]; rfl⟩
  have hf : ofNorm [w] = [w] := by
    unfold ofNorm
    simp [hn, hne]
  unfold ofLin
  rw [if_pos ok, hf, putAll_nil (show Rise [w] from ⟨fun b hb => by obtain rfl := List.mem_singleton.1 hb; exact ⟨hr, hne⟩, by simp⟩)]
  show (⟨normL [], [w]⟩ : Lin) = _
  rw [show normL [] = [] by decide]
theorem one_star {t n : Int} {nm nm2 : ByteArray} (h0 : 0 ≤ t) (h1 : t < 12) (h2 : 1 ≤ n) (h3 : n ≤ 999999999) (M : Mr) (hM : M = none) : normM M [⟨3, n, 0, t, nm⟩, ⟨6, 0, 0, 0, nm2⟩] 12 = ([⟨[], [oneL t n]⟩], 0, none) := by
  subst hM
  have ok : oneOk t n = true := one_iff.2 ⟨⟨h0, by omega⟩, h2, by omega⟩
  have hr := one_right ok
  have hne : oneL t n ≠ [] := fun e => by
    have : (oneL t n).length = 0 := by rw [e]; rfl
    unfold oneL at this
    rw [if_pos ok, tab_len] at this
    omega
  have hl : Q.chkL 12 0 ([] ++ [⟨3, n, 0, t, nm⟩]) [] = some [(((0 : Nat) : Int), false)] := by
    rw [Q.chkL_snoc]
    show Q.chkStep 12 0 ⟨3, n, 0, t, nm⟩ [] = _
    rw [tag_step 0 [] h0 h1 h2 h3]; rfl
  have hl2 : Q.chkL 12 0 ([⟨3, n, 0, t, nm⟩] ++ [⟨6, 0, 0, 0, nm2⟩]) [] = some [(((1 : Nat) : Int), true)] := by
    rw [Q.chkL_snoc, show Q.chkL 12 0 [⟨3, n, 0, t, nm⟩] [] = some [(((0 : Nat) : Int), false)] from hl]
    show Q.chkStep 12 1 ⟨6, 0, 0, 0, nm2⟩ ([] ++ [(((0 : Nat) : Int), false)]) = _
    rw [Q.step_star [] _ rfl]
    simp
  have hc : Q.chkB [⟨3, n, 0, t, nm⟩, ⟨6, 0, 0, 0, nm2⟩] 12 = true := chkB_of (by simp) hl2
  have g : normGo ([] ++ [⟨3, n, 0, t, nm⟩]) none [] = ([] ++ [[⟨oneL t n, []⟩]], 0, none) := normGo_snoc rfl (node3 none [] n 0 t)
  have rs : RiseS [(⟨oneL t n, []⟩ : Lin)] := ⟨fun z hz => by obtain rfl := List.mem_singleton.1 hz; exact rightLin_iff.2 ⟨hr, by simp [Rise, Goods]⟩, by simp⟩
  have ps : pointsS [(⟨oneL t n, []⟩ : Lin)] = true := by
    rw [points_iff]
    intro z hz
    have := rs.1 z hz
    obtain rfl := List.mem_singleton.1 hz
    exact ⟨this, rfl⟩
  have g2 : normGo ([⟨3, n, 0, t, nm⟩] ++ [⟨6, 0, 0, 0, nm2⟩]) none [] = ([[⟨oneL t n, []⟩]] ++ [[ofLin [] [oneL t n]]], 0, none) := normGo_snoc g ((node6 none [[⟨oneL t n, []⟩]] 0 0 0).trans (starM_free rs ps))
  rw [ofLin_one hr hne] at g2
  exact normM_ok ⟨by omega, by omega, hc⟩ g2
end Go.Proofs.YtfkaagndlpcfdaaGreat

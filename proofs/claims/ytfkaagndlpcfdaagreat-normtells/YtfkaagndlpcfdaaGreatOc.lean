/- Plain words: a pattern with nothing added; two patterns put together. -/
import Derived.Test.YtfkaagndlpcfdaaGreatNx

/-! Plain words: what a pattern stands for does not hang on names; what it costs. -/
namespace Go.Proofs.YtfkaagndlpcfdaaGreat
open Go.ChangeShapes Go.WideShapes Go.ChangeAt Go.RowKit

/-! ### Names -/
def named (nm : ByteArray) (x : Q.Nd) : Q.Nd := ⟨x.kind, x.a, x.b, x.n, nm⟩
theorem chkStep_named (T : Int) (nm : ByteArray) (i : Nat) (x : Q.Nd) (fl : List (Int × Bool)) : Q.chkStep T i (named nm x) fl = Q.chkStep T i x fl := rfl
theorem chkL_named (T : Int) (nm : ByteArray) : ∀ (ns : List Q.Nd) (i : Nat) (fl : List (Int × Bool)), Q.chkL T i (ns.map (named nm)) fl = Q.chkL T i ns fl
  | [], _, _ => rfl
  | x :: r, i, fl => by
    have e : ∀ (y : Q.Nd) (L : List Q.Nd), Q.chkL T i (y :: L) fl = match Q.chkStep T i y fl with | none => none | some fl' => Q.chkL T (i + 1) L fl' := fun _ _ => rfl
    rw [List.map_cons, e, e, chkStep_named]
    cases Q.chkStep T i x fl with
    | none => rfl
    | some fl' => exact chkL_named T nm r (i + 1) fl'
theorem chkB_named (T : Int) (nm : ByteArray) (ns : List Q.Nd) : Q.chkB (ns.map (named nm)) T = Q.chkB ns T := by
  unfold Q.chkB
  rw [List.length_map, chkL_named]
theorem normGo_named (nm : ByteArray) : ∀ (ns : List Q.Nd) (M : Mr) (es : List (List Lin)), normGo (ns.map (named nm)) M es = normGo ns M es
  | [], _, _ => rfl
  | x :: r, M, es => by
    rw [List.map_cons, normGo_cons, normGo_cons]
    show (if (spendM M 1).1 = true then
      (if (nodeM (spendM M 1).2 es x.kind x.a x.b x.n).2.1 = 0 then normGo (r.map (named nm)) (nodeM (spendM M 1).2 es x.kind x.a x.b x.n).2.2 (es ++ [(nodeM (spendM M 1).2 es x.kind x.a x.b x.n).1])
       else ([], (nodeM (spendM M 1).2 es x.kind x.a x.b x.n).2.1, (nodeM (spendM M 1).2 es x.kind x.a x.b x.n).2.2))
    else ([], 7, (spendM M 1).2)) = _
    rw [normGo_named nm r]
theorem normM_named (nm : ByteArray) (ns : List Q.Nd) (M : Mr) (T : Int) : normM M (ns.map (named nm)) T = normM M ns T := by
  unfold normM
  rw [chkB_named, normGo_named, List.length_map]

/-! ### Part by part -/
theorem normGo_app : ∀ (A B : List Q.Nd) (M M' : Mr) (es es' : List (List Lin)), normGo A M es = (es', 0, M') → normGo (A ++ B) M es = normGo B M' es'
  | [], B, M, M', es, es', h => by
    rw [normGo_nil] at h
    injection h with h1 h2
    injection h2 with _ h3
    subst h1; subst h3
    rfl
  | x :: A, B, M, M', es, es', h => by
    rw [normGo_cons] at h
    rw [List.cons_append, normGo_cons]
    by_cases h1 : (spendM M 1).1 = true
    · rw [if_pos h1] at h ⊢
      by_cases h2 : (nodeM (spendM M 1).2 es x.kind x.a x.b x.n).2.1 = 0
      · rw [if_pos h2] at h ⊢
        exact normGo_app A B _ M' _ es' h
      · rw [if_neg h2] at h
        injection h with _ h3
        injection h3 with h4 _
        exact absurd h4 h2
    · rw [if_neg h1] at h
      injection h with _ h3
      injection h3 with h4 _
      exact absurd h4 (by decide)
theorem normGo_len : ∀ (A : List Q.Nd) (M M' : Mr) (es es' : List (List Lin)), normGo A M es = (es', 0, M') → es'.length = es.length + A.length ∧ ∀ j, j < es.length → es'.getD j [] = es.getD j []
  | [], M, M', es, es', h => by
    rw [normGo_nil] at h
    injection h with h1 _
    subst h1
    exact ⟨rfl, fun _ _ => rfl⟩
  | x :: A, M, M', es, es', h => by
    rw [normGo_cons] at h
    by_cases h1 : (spendM M 1).1 = true
    · rw [if_pos h1] at h
      by_cases h2 : (nodeM (spendM M 1).2 es x.kind x.a x.b x.n).2.1 = 0
      · rw [if_pos h2] at h
        obtain ⟨e1, e2⟩ := normGo_len A _ M' _ es' h
        refine ⟨by rw [e1]; simp; omega, fun j hj => ?_⟩
        rw [e2 j (by simp; omega), List.getD_eq_getElem?_getD, List.getD_eq_getElem?_getD, List.getElem?_append_left hj]
      · rw [if_neg h2] at h
        injection h with _ h3
        injection h3 with h4 _
        exact absurd h4 h2
    · rw [if_neg h1] at h
      injection h with _ h3
      injection h3 with h4 _
      exact absurd h4 (by decide)

/-! ### What it costs -/
def nodeC (es : List (List Lin)) (kd na nb : Int) : Int :=
  if kd = 5 then (((setAt es na).length * (setAt es nb).length : Nat) : Int) else if kd = 6 then (((setAt es na).length : Nat) : Int) else 0
theorem nodeC_pos (es : List (List Lin)) (kd na nb : Int) : 0 ≤ nodeC es kd na nb := by
  unfold nodeC
  split
  · omega
  · split <;> omega
theorem lets_yes {B S n : Int} (h : n ≤ B - S) (h0 : 0 ≤ n) : spendM (some (B, S, false)) n = (true, some (B, S + n, false)) := by
  obtain ⟨h1, h2⟩ := lets_t h
  show (lets B S n false, some (B, next B S n false, !lets B S n false)) = _
  rw [h1, h2, show max n 0 = n by omega]
  rfl
theorem lets_no {B S n : Int} (h : ¬ n ≤ B - S) : spendM (some (B, S, false)) n = (false, some (B, S, true)) := by
  have h1 : lets B S n false = false := by unfold lets; simp [h]
  have h2 : next B S n false = S := by unfold next; rw [h1]; rfl
  show (lets B S n false, some (B, next B S n false, !lets B S n false)) = _
  rw [h1, h2]
  rfl
/-- What goes well without a bound goes well just where there is enough. -/
theorem nodeM_cost {es : List (List Lin)} {kd na nb nn : Int} {x : List Lin} (h : nodeM none es kd na nb nn = (x, 0, none)) (B S : Int) :
    (nodeC es kd na nb ≤ B - S → nodeM (some (B, S, false)) es kd na nb nn = (x, 0, some (B, S + nodeC es kd na nb, false))) ∧
    (¬ nodeC es kd na nb ≤ B - S → 0 ≤ B - S → nodeM (some (B, S, false)) es kd na nb nn = ([], 7, some (B, S, true))) := by
  by_cases h5 : kd = 5
  · subst h5
    have e : ∀ M, nodeM M es 5 na nb nn = catM M (setAt es na) (setAt es nb) := fun _ => by simp [nodeM]
    have ec : nodeC es 5 na nb = (((setAt es na).length * (setAt es nb).length : Nat) : Int) := by simp [nodeC]
    rw [e none] at h
    rw [e (some (B, S, false)), ec]
    generalize setAt es na = s at h ⊢
    generalize setAt es nb = t at h ⊢
    unfold catM at h ⊢
    by_cases h1 : (rightS s && rightS t) = true
    · rw [if_pos h1] at h ⊢
      rw [show (spendM none ((s.length * t.length : Nat) : Int)) = (true, none) from rfl, if_pos rfl] at h
      by_cases h3 : catsOk s t = true
      · rw [if_pos h3] at h
        injection h with hx _
        refine ⟨fun hn => ?_, fun hn _ => ?_⟩
        · rw [lets_yes hn (by omega), if_pos rfl, if_pos h3, hx]; rfl
        · rw [lets_no hn, if_neg Bool.false_ne_true]; rfl
      · rw [if_neg h3] at h
        injection h with _ h4
        injection h4 with h4 _
        exact absurd h4 (by decide)
    · rw [if_neg h1] at h
      injection h with _ h4
      injection h4 with h4 _
      exact absurd h4 (by decide)
  · by_cases h6 : kd = 6
    · subst h6
      have e : ∀ M, nodeM M es 6 na nb nn = starM M (setAt es na) := fun _ => by simp [nodeM]
      have ec : nodeC es 6 na nb = (((setAt es na).length : Nat) : Int) := by simp [nodeC]
      rw [e none] at h
      rw [e (some (B, S, false)), ec]
      generalize setAt es na = s at h ⊢
      unfold starM at h ⊢
      by_cases h1 : (rightS s && pointsS s) = true
      · rw [if_pos h1] at h ⊢
        rw [show (spendM none ((s.length : Nat) : Int)) = (true, none) from rfl, if_pos rfl] at h
        injection h with hx _
        refine ⟨fun hn => ?_, fun hn _ => ?_⟩
        · rw [lets_yes hn (by omega), if_pos rfl, hx]; rfl
        · rw [lets_no hn, if_neg Bool.false_ne_true]; rfl
      · rw [if_neg h1] at h
        injection h with _ h4
        injection h4 with h4 _
        exact absurd h4 (by decide)
    · have ec : nodeC es kd na nb = 0 := by unfold nodeC; rw [if_neg h5, if_neg h6]
      rw [ec]
      have e : ∀ M, nodeM M es kd na nb nn = ((nodeM none es kd na nb nn).1, 0, M) := fun M => by
        unfold nodeM
        split
        · rfl
        · split
          · rfl
          · split
            · rfl
            · rfl
      refine ⟨fun _ => ?_, fun hn h0 => absurd h0 (by omega)⟩
      rw [e (some (B, S, false)), h, Int.add_zero]; rfl
def costGo : List Q.Nd → List (List Lin) → Int
  | [], _ => 0
  | x :: r, es => 1 + nodeC es x.kind x.a x.b + costGo r (es ++ [(nodeM none es x.kind x.a x.b x.n).1])
theorem costGo_len : ∀ (ns : List Q.Nd) (es : List (List Lin)), (ns.length : Int) ≤ costGo ns es
  | [], _ => by simp [costGo]
  | x :: r, es => by
    have := costGo_len r (es ++ [(nodeM none es x.kind x.a x.b x.n).1])
    have := nodeC_pos es x.kind x.a x.b
    show ((r.length + 1 : Nat) : Int) ≤ 1 + nodeC es x.kind x.a x.b + costGo r (es ++ [(nodeM none es x.kind x.a x.b x.n).1])
    omega
theorem normGo_none_cons {x : Q.Nd} {r : List Q.Nd} {es es' : List (List Lin)} (h : normGo (x :: r) none es = (es', 0, none)) :
    nodeM none es x.kind x.a x.b x.n = ((nodeM none es x.kind x.a x.b x.n).1, 0, none) ∧ normGo r none (es ++ [(nodeM none es x.kind x.a x.b x.n).1]) = (es', 0, none) := by
  rw [normGo_cons x r none es, show spendM none 1 = (true, none) from rfl, if_pos rfl] at h
  dsimp only at h
  by_cases h2 : (nodeM none es x.kind x.a x.b x.n).2.1 = 0
  · rw [if_pos h2] at h
    have h3 : (nodeM none es x.kind x.a x.b x.n).2.2 = none := by
      unfold nodeM catM starM
      repeat' split
      all_goals rfl
    refine ⟨?_, by rw [h3] at h; exact h⟩
    exact Prod.ext rfl (Prod.ext h2 h3)
  · rw [if_neg h2] at h
    injection h with _ h4
    injection h4 with h4 _
    exact absurd h4 h2
theorem normGo_cost : ∀ (ns : List Q.Nd) (es es' : List (List Lin)), normGo ns none es = (es', 0, none) → ∀ (B S : Int), 0 ≤ B - S →
    (costGo ns es ≤ B - S → normGo ns (some (B, S, false)) es = (es', 0, some (B, S + costGo ns es, false))) ∧
    (¬ costGo ns es ≤ B - S → ∃ S', normGo ns (some (B, S, false)) es = ([], 7, some (B, S', true)))
  | [], es, es', h, B, S, h0 => by
    refine ⟨fun _ => ?_, fun hn => absurd h0 hn⟩
    rw [normGo_nil none es] at h
    injection h with h1 _
    subst h1
    rw [normGo_nil (some (B, S, false)) es]
    show _ = (_, 0, some (B, S + 0, false))
    rw [Int.add_zero]; rfl
  | x :: r, es, es', h, B, S, h0 => by
    obtain ⟨h1, h2⟩ := normGo_none_cons h
    have hc := nodeC_pos es x.kind x.a x.b
    have hr := costGo_len r (es ++ [(nodeM none es x.kind x.a x.b x.n).1])
    have ec : costGo (x :: r) es = 1 + nodeC es x.kind x.a x.b + costGo r (es ++ [(nodeM none es x.kind x.a x.b x.n).1]) := rfl
    rw [ec]
    by_cases g1 : (1 : Int) ≤ B - S
    · rw [normGo_cons x r (some (B, S, false)) es, lets_yes g1 (by omega), if_pos rfl]
      dsimp only
      obtain ⟨k1, k2⟩ := nodeM_cost h1 B (S + 1)
      by_cases g2 : nodeC es x.kind x.a x.b ≤ B - (S + 1)
      · rw [k1 g2]
        dsimp only
        rw [if_pos rfl]
        obtain ⟨m1, m2⟩ := normGo_cost r _ es' h2 B (S + 1 + nodeC es x.kind x.a x.b) (by omega)
        refine ⟨fun hle => ?_, fun hn => m2 (by omega)⟩
        rw [m1 (by omega), show S + 1 + nodeC es x.kind x.a x.b + costGo r (es ++ [(nodeM none es x.kind x.a x.b x.n).1]) = S + (1 + nodeC es x.kind x.a x.b + costGo r (es ++ [(nodeM none es x.kind x.a x.b x.n).1])) by omega]
      · rw [k2 g2 (by omega)]
        refine ⟨fun hle => absurd hle (by omega), fun _ => ⟨S + 1, ?_⟩⟩
        dsimp only
        rw [if_neg (by decide)]; rfl
    · refine ⟨fun hle => absurd hle (by omega), fun _ => ⟨S, ?_⟩⟩
      rw [normGo_cons x r (some (B, S, false)) es, lets_no g1, if_neg Bool.false_ne_true]; rfl
end Go.Proofs.YtfkaagndlpcfdaaGreat

/-! Plain words: what Check takes stands for a set, and what it costs is bounded. -/
namespace Go.Proofs.YtfkaagndlpcfdaaGreat
open Go.ChangeShapes Go.WideShapes Go.ChangeAt Go.RowKit

theorem points_iff {s : List Lin} : pointsS s = true ↔ ∀ x ∈ s, rightLin x = true ∧ x.ps = [] := by
  unfold pointsS
  rw [List.all_eq_true]
  constructor
  · intro h x hx
    have := h x hx
    unfold pointLin at this
    rw [Bool.and_eq_true, List.isEmpty_iff] at this
    exact this
  · intro h x hx
    obtain ⟨h1, h2⟩ := h x hx
    unfold pointLin
    rw [h1, h2]; rfl
theorem points_nil : pointsS [] = true := rfl
theorem points_union {s t : List Lin} (hs : RiseS s) (ht : RiseS t) (h : pointsS s = true) (g : pointsS t = true) : pointsS (unionS s t) = true := by
  rw [points_iff] at h g ⊢
  intro x hx
  rcases ((union_yes hs ht).2.1 x).1 hx with hx | hx
  · exact h x hx
  · exact g x hx
theorem points_cat {s t : List Lin} (hok : catsOk s t = true) (h : pointsS s = true) (g : pointsS t = true) : pointsS (catS s t) = true := by
  rw [points_iff] at h g ⊢
  intro x hx
  obtain ⟨c1, c2, _⟩ := catS_yes hok
  obtain ⟨p, hp, q, hq, rfl⟩ := (c2 x).1 hx
  refine ⟨c1.1 _ hx, List.eq_nil_of_length_eq_zero ?_⟩
  have hc : catOk p q = true := List.all_eq_true.1 hok (p, q) (prod_mem.2 ⟨hp, hq⟩)
  have := cat_len hc
  rw [(h p hp).2, (g q hq).2] at this
  simpa using this
/-- Each open part without a star stands for words alone. -/
def StP (es : List (List Lin)) (fl : List (Int × Bool)) : Prop := ∀ p ∈ fl, ∃ j : Nat, p.1 = (j : Int) ∧ j < es.length ∧ (p.2 = false → pointsS (es.getD j []) = true)
theorem stp_push {es : List (List Lin)} {fl : List (Int × Bool)} (y : List Lin) (h : StP es fl) : StP (es ++ [y]) fl := fun p hp => by
  obtain ⟨j, h1, h2, h3⟩ := h p hp
  refine ⟨j, h1, by simp; omega, fun hf => ?_⟩
  have : (es ++ [y]).getD j [] = es.getD j [] := by
    rw [List.getD_eq_getElem?_getD, List.getD_eq_getElem?_getD, List.getElem?_append_left h2]
  rw [this]; exact h3 hf
theorem stp_leaf {es : List (List Lin)} {F : List (Int × Bool)} {k : Nat} {y : List Lin} {b : Bool} (h : StP es F) (hl : es.length = k) (hb : b = false → pointsS y = true) : StP (es ++ [y]) (F ++ [((k : Int), b)]) := fun p hp => by
  rcases List.mem_append.1 hp with hp | hp
  · exact stp_push y h p hp
  · obtain rfl := List.mem_singleton.1 hp
    subst hl
    exact ⟨es.length, rfl, by simp, fun hf => by simpa using hb hf⟩
theorem stp_front {es : List (List Lin)} {F G : List (Int × Bool)} (h : StP es (F ++ G)) : StP es F := fun p hp => h p (List.mem_append_left _ hp)
theorem stp_at {es : List (List Lin)} {fl : List (Int × Bool)} (h : StP es fl) {p : Int × Bool} (hp : p ∈ fl) {i : Nat} (e : p.1 = (i : Int)) (hf : p.2 = false) : pointsS (es.getD i []) = true := by
  obtain ⟨j, h1, _, h3⟩ := h p hp
  have : i = j := by omega
  subst this
  exact h3 hf
theorem catM_free {s t : List Lin} (hs : RiseS s) (ht : RiseS t) (hok : catsOk s t = true) : catM none s t = (catS s t, 0, none) := catM_0 (rightS_iff.2 hs) (rightS_iff.2 ht) rfl rfl hok
theorem starM_free {s : List Lin} (hs : RiseS s) (hp : pointsS s = true) : starM none s = ([ofLin [] (basesS s)], 0, none) := starM_0 (rightS_iff.2 hs) hp rfl rfl
section
variable (M : Mr) (es : List (List Lin)) (a b n : Int)
theorem node1 : nodeM M es 1 a b n = ([], 0, M) := by simp [nodeM]
theorem node2 : nodeM M es 2 a b n = (oneS, 0, M) := by simp [nodeM]
theorem node3 : nodeM M es 3 a b n = ([⟨oneL n a, []⟩], 0, M) := by simp [nodeM]
theorem node4 (i j : Nat) : nodeM M es 4 (i : Int) (j : Int) n = (unionS (es.getD i []) (es.getD j []), 0, M) := by simp [nodeM, setAt]
theorem node5 (i j : Nat) : nodeM M es 5 (i : Int) (j : Int) n = catM M (es.getD i []) (es.getD j []) := by simp [nodeM, setAt]
theorem node6 (i : Nat) : nodeM M es 6 (i : Int) b n = starM M (es.getD i []) := by simp [nodeM, setAt]
end
theorem good_pow {u : Nat} {s : List Lin} (h : Good u s) : s.length ≤ 2 ^ u := h.few
theorem node_fine {T : Int} (hT : T ≤ 12) {es : List (List Lin)} {fl fl' : List (Int × Bool)} {k : Nat} {x : Q.Nd} (hs : Q.chkStep T k x fl = some fl') (S : Stk es fl k) (P : StP es fl) (hl : es.length = k) (hk : k < 24) :
    ∃ y, nodeM none es x.kind x.a x.b x.n = (y, 0, none) ∧ Stk (es ++ [y]) fl' (k + 1) ∧ Good 24 y ∧ StP (es ++ [y]) fl' ∧ nodeC es x.kind x.a x.b ≤ 16777216 := by
  rcases step_kindsT hs with ⟨h12, hfl⟩ | ⟨h3, n0, n1, a0, a1, hfl⟩ | ⟨h45, F, p, q, hF, hp, hq, hfl⟩ | ⟨h6, F, p, hF, hp, hfl⟩
  · rcases h12 with h1 | h2
    · obtain ⟨s1, s2⟩ := stk_leaf (b := false) S hl hk (good_nil 1)
      rw [h1, hfl]
      exact ⟨[], node1 none es _ _ _, s1, s2, stp_leaf P hl (fun _ => rfl), by simp [nodeC]⟩
    · obtain ⟨s1, s2⟩ := stk_leaf (b := false) S hl hk (good_one 1)
      rw [h2, hfl]
      exact ⟨oneS, node2 none es _ _ _, s1, s2, stp_leaf P hl (fun _ => by rw [points_iff]; intro x hx; obtain rfl := List.mem_singleton.1 hx; exact ⟨right_empty, rfl⟩), by simp [nodeC]⟩
  · have g := good_tag n0 (show x.n < 12 by omega) a0 a1
    obtain ⟨s1, s2⟩ := stk_leaf (b := false) S hl hk g
    rw [h3, hfl]
    exact ⟨_, node3 none es _ _ _, s1, s2, stp_leaf P hl (fun _ => by
      rw [points_iff]; intro z hz
      have := g.rise.1 z hz
      obtain rfl := List.mem_singleton.1 hz
      exact ⟨this, rfl⟩), by simp [nodeC]⟩
  · have S' := S
    have P' := P
    rw [hF] at S' P'
    obtain ⟨u, a, b, i, j, huv, SF, hi, hil, gi, hj, hjl, gj⟩ := two_parts S'
    rw [hi] at hp
    rw [hj] at hq
    have hab : a + b ≤ 24 := by omega
    have pp : p.2 = false → pointsS (es.getD i []) = true := fun hf => stp_at P' (List.mem_append_right _ (by simp)) hi hf
    have pq : q.2 = false → pointsS (es.getD j []) = true := fun hf => stp_at P' (List.mem_append_right _ (by simp)) hj hf
    have PF := stp_front P'
    rcases h45 with h4 | h5
    · obtain ⟨s1, s2⟩ := stk_part (b := p.2 || q.2) (v := a + b + 1) SF hl (by omega) hk (good_sum gi gj)
      rw [h4, hp, hq, hfl]
      refine ⟨unionS (es.getD i []) (es.getD j []), node4 none es _ i j, s1, s2, stp_leaf PF hl (fun hb => ?_), by simp [nodeC]⟩
      rw [Bool.or_eq_false_iff] at hb
      exact points_union gi.rise gj.rise (pp hb.1) (pq hb.2)
    · obtain ⟨ok, gc⟩ := good_cat gi gj (by omega)
      obtain ⟨s1, s2⟩ := stk_part (b := p.2 || q.2) (v := a + b + 1) SF hl (by omega) hk gc
      rw [h5, hp, hq, hfl]
      refine ⟨catS (es.getD i []) (es.getD j []), ?_, s1, s2, stp_leaf PF hl (fun hb => ?_), ?_⟩
      · exact (node5 none es _ i j).trans (catM_free gi.rise gj.rise ok)
      · rw [Bool.or_eq_false_iff] at hb
        exact points_cat ok (pp hb.1) (pq hb.2)
      · have e : nodeC es 5 (i : Int) (j : Int) = (((es.getD i []).length * (es.getD j []).length : Nat) : Int) := by simp [nodeC, setAt]
        rw [e]
        have m := Nat.mul_le_mul (good_pow gi) (good_pow gj)
        rw [← Nat.pow_add] at m
        have := pow_mono hab
        have h24 : (2 : Nat) ^ 24 = 16777216 := by decide
        omega
  · have S' := S
    have P' := P
    rw [hF] at S' P' hs
    obtain ⟨u, a, i, huv, SF, hi, hil, gi⟩ := one_part S'
    rw [hi] at hp
    have hpf : p.2 = false := by
      rw [Q.step_star F p h6] at hs
      split at hs
      · next hh => exact hh.1
      · cases hs
    have pp := stp_at P' (List.mem_append_right _ (by simp)) hi hpf
    obtain ⟨s1, s2⟩ := stk_part (b := true) (v := a + 1) SF hl (by omega) hk (good_star gi)
    rw [h6, hp, hfl]
    refine ⟨[ofLin [] (basesS (es.getD i []))], ?_, s1, s2, stp_leaf (stp_front P') hl (fun hb => nomatch hb), ?_⟩
    · exact (node6 none es _ _ i).trans (starM_free gi.rise pp)
    · have e : nodeC es 6 (i : Int) x.b = (((es.getD i []).length : Nat) : Int) := by simp [nodeC, setAt]
      rw [e]
      have := good_pow gi
      have := pow_mono (show a ≤ 24 by omega)
      have h24 : (2 : Nat) ^ 24 = 16777216 := by decide
      omega
theorem normGo_snoc {A : List Q.Nd} {x : Q.Nd} {M : Mr} {es es' : List (List Lin)} (h : normGo A M es = (es', 0, none)) {y : List Lin} (hy : nodeM none es' x.kind x.a x.b x.n = (y, 0, none)) : normGo (A ++ [x]) M es = (es' ++ [y], 0, none) := by
  rw [normGo_app A [x] M none es es' h, normGo_cons x [] none es', show spendM none 1 = (true, none) from rfl, if_pos rfl]
  dsimp only
  rw [hy]
  dsimp only
  rw [if_pos rfl]
  rfl
theorem costGo_snoc : ∀ (A : List Q.Nd) (x : Q.Nd) (es es' : List (List Lin)), normGo A none es = (es', 0, none) → costGo (A ++ [x]) es = costGo A es + 1 + nodeC es' x.kind x.a x.b
  | [], x, es, es', h => by
    rw [normGo_nil none es] at h
    injection h with h1 _
    subst h1
    show 1 + nodeC es x.kind x.a x.b + 0 = 0 + 1 + nodeC es x.kind x.a x.b
    omega
  | z :: A, x, es, es', h => by
    obtain ⟨_, h2⟩ := normGo_none_cons h
    have ih := costGo_snoc A x _ es' h2
    show 1 + nodeC es z.kind z.a z.b + costGo (A ++ [x]) (es ++ [(nodeM none es z.kind z.a z.b z.n).1]) = 1 + nodeC es z.kind z.a z.b + costGo A (es ++ [(nodeM none es z.kind z.a z.b z.n).1]) + 1 + nodeC es' x.kind x.a x.b
    omega
/-- What Check takes stands for a set. -/
theorem norm_fine {T : Int} (hT : T ≤ 12) {ns : List Q.Nd} (hc : Q.chkB ns T = true) (h24 : ns.length ≤ 24) : ∀ k, k ≤ ns.length → ∃ es fl, normGo (ns.take k) none [] = (es, 0, none) ∧ es.length = k ∧ Q.chkL T 0 (ns.take k) [] = some fl ∧ Stk es fl k ∧ StP es fl ∧ (∀ e ∈ es, Good 24 e) ∧ costGo (ns.take k) [] ≤ (k : Int) * 16777217
  | 0, _ => ⟨[], [], rfl, rfl, rfl, trivial, fun p h => by simp at h, fun e h => by simp at h, by show (0 : Int) ≤ _; omega⟩
  | k + 1, hk => by
    obtain ⟨es, fl, e1, e2, e3, e4, e5, e6, e7⟩ := norm_fine hT hc h24 k (by omega)
    have hk' : k < ns.length := by omega
    obtain ⟨fl', hs, hf'⟩ := chk_stepT hc hk' e3
    obtain ⟨y, n1, n2, n3, n4, n5⟩ := node_fine hT hs e4 e5 e2 (by omega)
    refine ⟨es ++ [y], fl', ?_, by simp [e2], hf', n2, n4, fun e he => ?_, ?_⟩
    · rw [List.take_succ_eq_append_getElem hk']
      exact normGo_snoc e1 n1
    · rcases List.mem_append.1 he with he | he
      · exact e6 e he
      · obtain rfl := List.mem_singleton.1 he
        exact n3
    · rw [List.take_succ_eq_append_getElem hk', costGo_snoc _ _ _ _ e1]
      omega
/-- Without a bound: a right set; and its cost. -/
theorem normM_fine {T : Int} (h0 : 0 ≤ T) (hT : T ≤ 12) {ns : List Q.Nd} (hc : Q.chkB ns T = true) (h1 : 1 ≤ ns.length) (h24 : ns.length ≤ 24) :
    ∃ es, normGo ns none [] = (es, 0, none) ∧ es.length = ns.length ∧ normM none ns T = (es.getD (ns.length - 1) [], 0, none) ∧ Good 24 (es.getD (ns.length - 1) []) ∧ costGo ns [] ≤ 24 * 16777217 := by
  obtain ⟨es, fl, e1, e2, _, _, _, e6, e7⟩ := norm_fine hT hc h24 ns.length (Nat.le_refl _)
  rw [List.take_length] at e1 e7
  refine ⟨es, e1, e2, normM_ok ⟨h0, by omega, hc⟩ e1, ?_, by omega⟩
  have hlt : ns.length - 1 < es.length := by omega
  rw [List.getD_eq_getElem?_getD, List.getElem?_eq_getElem hlt]
  exact e6 _ (List.getElem_mem hlt)
/-- With a bound: just where it is enough. -/
theorem normM_bound {T : Int} (h0 : 0 ≤ T) (hT : T ≤ 12) {ns : List Q.Nd} (hc : Q.chkB ns T = true) (h1 : 1 ≤ ns.length) (h24 : ns.length ≤ 24) {B : Int} (hB : 0 ≤ B) :
    (costGo ns [] ≤ B → normM (some (B, 0, false)) ns T = ((normM none ns T).1, 0, some (B, costGo ns [], false))) ∧
    (¬ costGo ns [] ≤ B → ∃ S', normM (some (B, 0, false)) ns T = ([], 7, some (B, S', true))) := by
  obtain ⟨es, e1, e2, e3, _, _⟩ := normM_fine h0 hT hc h1 h24
  obtain ⟨g1, g2⟩ := normGo_cost ns [] es e1 B 0 (by omega)
  refine ⟨fun hle => ?_, fun hn => ?_⟩
  · have g := g1 (by omega)
    rw [Int.zero_add] at g
    rw [normM_ok ⟨h0, by omega, hc⟩ g, e3]; rfl
  · obtain ⟨S', g⟩ := g2 (by omega)
    exact ⟨S', normM_err ⟨h0, by omega, hc⟩ g (by decide)⟩
end Go.Proofs.YtfkaagndlpcfdaaGreat

/-! Plain words: a pattern with nothing added; two patterns put together. -/
namespace Go.Proofs.YtfkaagndlpcfdaaGreat
open Go.ChangeShapes Go.WideShapes Go.ChangeAt Go.RowKit

theorem union_nil {s : List Lin} (hs : RiseS s) : unionS s [] = s := by
  obtain ⟨h1, h2, _⟩ := union_yes hs riseS_nil
  exact riseS_ext h1 hs (fun z => by rw [h2]; simp)
/-- The last open part is the last node. -/
theorem chk_last {T : Int} {ns : List Q.Nd} {x : Q.Nd} {fl : List (Int × Bool)} (h : Q.chkL T 0 (ns ++ [x]) [] = some fl) : ∃ F b, fl = F ++ [((ns.length : Int), b)] := by
  rw [Q.chkL_snoc] at h
  cases h1 : Q.chkL T 0 ns [] with
  | none => rw [h1] at h; cases h
  | some fl1 =>
    rw [h1] at h
    simp only [Nat.zero_add] at h
    rcases step_kindsT h with ⟨_, e⟩ | ⟨_, _, _, _, _, e⟩ | ⟨_, F, p, q, _, _, _, e⟩ | ⟨_, F, p, _, _, e⟩
    · exact ⟨_, _, e⟩
    · exact ⟨_, _, e⟩
    · exact ⟨_, _, e⟩
    · exact ⟨_, _, e⟩
/-- What Check takes leaves one open part: the last node. -/
theorem chk_one {T : Int} {ns : List Q.Nd} (hc : Q.chkB ns T = true) : 1 ≤ ns.length ∧ ns.length ≤ 24 ∧ ∃ b, Q.chkL T 0 ns [] = some [(((ns.length - 1 : Nat) : Int), b)] := by
  unfold Q.chkB at hc
  rw [Bool.and_eq_true] at hc
  obtain ⟨h24, h1⟩ := hc
  have h24 := of_decide_eq_true h24
  rcases List.eq_nil_or_concat ns with rfl | ⟨A, x, rfl⟩
  · exact absurd (show false = true from h1) Bool.false_ne_true
  · cases hf : Q.chkL T 0 (A ++ [x]) [] with
    | none => rw [List.concat_eq_append, hf] at h1; exact absurd h1 (by decide)
    | some fl =>
      obtain ⟨F, b, rfl⟩ := chk_last hf
      rw [List.concat_eq_append] at h24 h1 ⊢
      rw [hf] at h1 ⊢
      refine ⟨by simp, h24, b, ?_⟩
      cases F with
      | nil => simp
      | cons p F =>
        exfalso
        cases F with
        | nil => exact absurd h1 (by simp [Q.oneB])
        | cons q F => exact absurd h1 (by simp [Q.oneB])
theorem chkB_of {T : Int} {ns : List Q.Nd} {p : Int × Bool} (h24 : ns.length ≤ 24) (h : Q.chkL T 0 ns [] = some [p]) : Q.chkB ns T = true := by
  unfold Q.chkB
  rw [h, decide_eq_true h24]
  rfl
/-- A sum with nothing. -/
def withNo (ns : List Q.Nd) : List Q.Nd := ns ++ [⟨1, 0, 0, 0, Q.emp⟩, ⟨4, ((ns.length - 1 : Nat) : Int), (ns.length : Int), 0, Q.emp⟩]
theorem withNo_far {T : Int} {ns : List Q.Nd} {M : Mr} (h : ¬ ns.length + 2 ≤ 24) : normM M (withNo ns) T = ([], 1, M) := by
  refine normM_no (fun g => ?_)
  have := (chk_one g.2.2).2.1
  unfold withNo at this
  simp at this
  omega
theorem withNo_same {T : Int} (h0 : 0 ≤ T) (hT : T ≤ 12) {ns : List Q.Nd} (hc : Q.chkB ns T = true) (h : ns.length + 2 ≤ 24) : normM none (withNo ns) T = normM none ns T := by
  obtain ⟨h1, h24, b, hl⟩ := chk_one hc
  obtain ⟨es, e1, e2, e3, e4, _⟩ := normM_fine h0 hT hc h1 h24
  have hw : withNo ns = (ns ++ [⟨1, 0, 0, 0, Q.emp⟩]) ++ [⟨4, ((ns.length - 1 : Nat) : Int), (ns.length : Int), 0, Q.emp⟩] := by simp [withNo]
  have hlen : (withNo ns).length = ns.length + 2 := by simp [withNo]
  have c1 : Q.chkL T 0 (ns ++ [⟨1, 0, 0, 0, Q.emp⟩]) [] = some ([(((ns.length - 1 : Nat) : Int), b)] ++ [((ns.length : Int), false)]) := by
    rw [Q.chkL_snoc, hl]
    simp only [Nat.zero_add]
    have := (Q.step_leaf (tags := T) (k := ns.length) (y := ⟨1, 0, 0, 0, Q.emp⟩) [(((ns.length - 1 : Nat) : Int), b)] rfl (by decide)).1 (by simp [Q.rightB])
    rw [this]; simp
  have c2 : Q.chkL T 0 (withNo ns) [] = some [(((ns.length + 1 : Nat) : Int), b || false)] := by
    rw [hw, Q.chkL_snoc, c1]
    simp only [Nat.zero_add, List.length_append, List.length_cons, List.length_nil]
    rw [show [(((ns.length - 1 : Nat) : Int), b)] ++ [((ns.length : Int), false)] = ([] : List (Int × Bool)) ++ [(((ns.length - 1 : Nat) : Int), b), ((ns.length : Int), false)] from rfl]
    rw [Q.step_two [] _ _ (.inl rfl)]
    simp
  have hcw := chkB_of (by rw [hlen]; exact h) c2
  have g1 : normGo (ns ++ [⟨1, 0, 0, 0, Q.emp⟩]) none [] = (es ++ [[]], 0, none) := normGo_snoc e1 (node1 none es 0 0 0)
  have d1 : (es ++ [[]]).getD (ns.length - 1) [] = es.getD (ns.length - 1) [] := by
    rw [List.getD_eq_getElem?_getD, List.getD_eq_getElem?_getD, List.getElem?_append_left (by omega)]
  have d2 : (es ++ [([] : List Lin)]).getD ns.length [] = [] := by
    rw [List.getD_eq_getElem?_getD, ← e2]; simp
  have g2 : normGo (withNo ns) none [] = (es ++ [[]] ++ [es.getD (ns.length - 1) []], 0, none) := by
    rw [hw]
    refine normGo_snoc g1 ((node4 none (es ++ [[]]) 0 (ns.length - 1) ns.length).trans ?_)
    rw [d1, d2, union_nil e4.rise]; rfl
  rw [normM_ok ⟨h0, by omega, hcw⟩ g2, e3, hlen]
  have : (es ++ [[]] ++ [es.getD (ns.length - 1) []]).getD (ns.length + 2 - 1) [] = es.getD (ns.length - 1) [] := by
    rw [List.getD_eq_getElem?_getD, List.getElem?_append_right (by simp; omega)]
    simp [e2]
  rw [this]; rfl
end Go.Proofs.YtfkaagndlpcfdaaGreat

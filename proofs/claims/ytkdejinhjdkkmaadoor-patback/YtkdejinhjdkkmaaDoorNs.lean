/- Plain words: the text of a part of a pattern is read as that part; the condition: its tags are known by their names, its nodes bear no names of their own. -/
import Derived.Test.YtkdejinhjdkkmaaDoorNr
namespace Go.Proofs.YtkdejinhjdkkmaaDoor

/-- A row's loop with fuel enough. -/
def rowR (p : List Tok → List Nd → Out) (c : UInt8) (kind : Int) (ts : List Tok) (ns : List Nd) : Out := rowL p c kind ts.length ts ns
theorem rowL_fuel {p : List Tok → List Nd → Out} (hp : Fine p) (c : UInt8) (kind : Int) : ∀ (f g : Nat) (ts : List Tok) (ns : List Nd), Ended ts → ts.length ≤ f → ts.length ≤ g → rowL p c kind f ts ns = rowL p c kind g ts ns
  | 0, g, ts, ns, ht, h, _ => by
    cases ts with
    | nil => exact ht.elim
    | cons t r => simp at h
  | f + 1, 0, ts, ns, ht, _, h => by
    cases ts with
    | nil => exact ht.elim
    | cons t r => simp at h
  | f + 1, g + 1, ts, ns, ht, hf, hg => by
    simp only [rowL]
    by_cases hc : isT c ts = true
    · rw [if_pos hc, if_pos hc]
      have e := isT_tail ht hc
      cases hx : p ts.tail ns with
      | bad k => rfl
      | ok ts' ns' =>
        simp only [addTwo]
        have := fine_ok hp e.1 hx
        exact rowL_fuel hp c kind f g ts' _ this.1 (by omega) (by omega)
    · rw [if_neg hc, if_neg hc]
theorem rowR_stop {p : List Tok → List Nd → Out} {c : UInt8} {kind : Int} {ts : List Tok} {ns : List Nd} (h : isT c ts = false) : rowR p c kind ts ns = .ok ts ns := by
  unfold rowR
  cases ts with
  | nil => rfl
  | cons t r => rw [List.length_cons, rowL, h]; rfl
theorem rowR_on {p : List Tok → List Nd → Out} (hp : Fine p) {c : UInt8} {kind : Int} {ts ts' : List Tok} {ns ns' : List Nd} (ht : Ended ts) (h : isT c ts = true) (hx : p ts.tail ns = .ok ts' ns') :
    rowR p c kind ts ns = rowR p c kind ts' (ns' ++ [nTwo kind ((ns.length : Int) - 1) ((ns'.length : Int) - 1)]) := by
  have e := isT_tail ht h
  have hf := fine_ok hp e.1 hx
  unfold rowR
  cases ts with
  | nil => cases h
  | cons t r =>
    rw [List.length_cons, rowL, if_pos h, hx]
    simp only [addTwo]
    exact rowL_fuel hp c kind _ _ _ _ hf.1 (by have := hf.2.1; simp only [List.tail_cons] at this; omega) (Nat.le_refl _)
theorem rowP_of {p : List Tok → List Nd → Out} {c : UInt8} {kind : Int} {ts ts' : List Tok} {ns ns' : List Nd} (hx : p ts ns = .ok ts' ns') : rowP p c kind ts ns = rowR p c kind ts' ns' := by
  unfold rowP; rw [hx]; rfl

/-- The text t is read; what its tokens are, by those of what stands behind it. -/
def Lx (t : Txt) (Q : List Tok → List Tok → Prop) : Prop :=
  ∀ rest line col tsr, Bnd rest → go rest line (col + t.length) = .ok tsr → isT 94 tsr = false → ∃ ts, go (t ++ rest) line col = .ok ts ∧ Q ts tsr
theorem Lx.mono {t : Txt} {Q Q' : List Tok → List Tok → Prop} (h : Lx t Q) (hq : ∀ ts tsr, Ended ts → Ended tsr → Q ts tsr → Q' ts tsr) : Lx t Q' := fun rest line col tsr hb hg hh => by
  obtain ⟨ts, h1, h2⟩ := h rest line col tsr hb hg hh
  exact ⟨ts, h1, hq ts tsr (go_ended _ _ _ _ ts (Nat.le_refl _) h1).1 (go_ended _ _ _ _ tsr (Nat.le_refl _) hg).1 h2⟩
theorem isT_hd {c : UInt8} {k n l cl : Nat} {x : Txt} {ts : List Tok} : isT c (⟨k, n, l, cl, x⟩ :: ts) = (x == [c]) := rfl
theorem sgn (c : UInt8) (h : c = 40 ∨ c = 41 ∨ c = 42 ∨ c = 43 ∨ c = 46 ∨ c = 94) : solid c ∧ sign c = true ∧ letter c = false ∧ digit c = false ∧ inWord c = false := by
  rcases h with rfl | rfl | rfl | rfl | rfl | rfl <;> exact ⟨by unfold solid; decide, by decide, by decide, by decide, by decide⟩

section
variable {keys nm : List Txt} {ns : List Nd}
/-- What is in brackets is read as a single. -/
theorem lx_wrap {s e d : Nat} {st : Bool} {t : Txt} (h : Lx t (fun ts tsr => isT 46 tsr = false → sumPB keys nm st (brP keys nm d) ts (ns.take s) = rowR (catP keys nm st (brP keys nm d)) 43 4 tsr (ns.take e))) :
    Lx (wrapT true t) (fun ts tsr => singleP keys nm (brP keys nm (d + 1) st) ts (ns.take s) = .ok tsr (ns.take e) ∧ isT 42 ts = false) := by
  intro rest line col tsr hb hg hh
  obtain ⟨o1, o2, o3, o4, o5⟩ := sgn 41 (by simp)
  obtain ⟨q1, q2, q3, q4, q5⟩ := sgn 40 (by simp)
  have hlen : (wrapT true t).length = t.length + 2 := by simp [wrapT]
  rw [hlen] at hg
  have hclose : go (41 :: rest) line (col + 1 + t.length) = .ok (⟨3, 0, line, col + 1 + t.length, [41]⟩ :: tsr) := by
    rw [lex_sign 41 rest line _ o1 o2 o3 o4, show col + 1 + t.length + 1 = col + (t.length + 2) by omega, hg]; rfl
  obtain ⟨ts, h1, h2⟩ := h (41 :: rest) line (col + 1) _ (Bnd.cons o5) hclose (by rw [isT_hd]; decide)
  refine ⟨⟨3, 0, line, col, [40]⟩ :: ts, ?_, ?_, by rw [isT_hd]; decide⟩
  · have e1 : wrapT true t ++ rest = 40 :: (t ++ 41 :: rest) := by simp [wrapT]
    rw [e1, lex_sign 40 _ line col q1 q2 q3 q4, h1]; rfl
  · unfold singleP
    simp only [if_true]
    have h3 := h2 (by rw [isT_hd]; decide)
    rw [brP, h3, rowR_stop (by rw [isT_hd]; decide)]
    simp only [closeP]
    rw [isT_hd]
    rfl
/-- What is a single, and begins with no star, stands where a star may. -/
theorem lx_star {s e d : Nat} {st : Bool} {t : Txt} (h : Lx t (fun ts tsr => singleP keys nm (brP keys nm d st) ts (ns.take s) = .ok tsr (ns.take e) ∧ isT 42 ts = false)) :
    Lx t (fun ts tsr => starP keys nm st (brP keys nm d) ts (ns.take s) = .ok tsr (ns.take e)) :=
  h.mono (fun ts tsr _ _ ⟨h1, h2⟩ => by unfold starP; rw [h2]; exact h1)
theorem lx_cat {s e d : Nat} {st : Bool} {t : Txt} (h : Lx t (fun ts tsr => starP keys nm st (brP keys nm d) ts (ns.take s) = .ok tsr (ns.take e))) :
    Lx t (fun ts tsr => catP keys nm st (brP keys nm d) ts (ns.take s) = rowR (starP keys nm st (brP keys nm d)) 46 5 tsr (ns.take e)) :=
  h.mono (fun _ _ _ _ h1 => rowP_of h1)
theorem lx_sum {s e d : Nat} {st : Bool} {t : Txt} (h : Lx t (fun ts tsr => catP keys nm st (brP keys nm d) ts (ns.take s) = rowR (starP keys nm st (brP keys nm d)) 46 5 tsr (ns.take e))) :
    Lx t (fun ts tsr => isT 46 tsr = false → sumPB keys nm st (brP keys nm d) ts (ns.take s) = rowR (catP keys nm st (brP keys nm d)) 43 4 tsr (ns.take e)) :=
  h.mono (fun _ _ _ _ h1 h2 => rowP_of (by rw [h1, rowR_stop h2]))
theorem lx_app {t1 t2 : Txt} (c : UInt8) (hc : c = 43 ∨ c = 46) {Q1 Q2 Q : List Tok → List Tok → Prop} (h1 : Lx t1 Q1) (h2 : Lx t2 Q2) (hq : ∀ ts1 ts2 tsr tk, Ended ts1 → Ended (tk :: ts2) → Ended tsr → tk.text = [c] → Q1 ts1 (tk :: ts2) → Q2 ts2 tsr → Q ts1 tsr) : Lx (t1 ++ ([32, c, 32] ++ t2)) Q := by
  intro rest line col tsr hb hg hh
  obtain ⟨o1, o2, o3, o4, o5⟩ := sgn c (by rcases hc with rfl | rfl <;> simp)
  have hlen : (t1 ++ ([32, c, 32] ++ t2)).length = t1.length + 3 + t2.length := by simp; omega
  rw [hlen] at hg
  obtain ⟨ts2, g2, q2⟩ := h2 rest line (col + t1.length + 3) tsr hb (by rw [show col + t1.length + 3 + t2.length = col + (t1.length + 3 + t2.length) by omega]; exact hg) hh
  have hmid : go (32 :: c :: 32 :: (t2 ++ rest)) line (col + t1.length) = .ok (⟨3, 0, line, col + t1.length + 1, [c]⟩ :: ts2) := by
    rw [go_blank (.inl rfl), lex_sign c _ line _ o1 o2 o3 o4, go_blank (.inl rfl), show col + t1.length + 1 + 1 + 1 = col + t1.length + 3 by omega, g2]; rfl
  obtain ⟨ts1, g1, q1⟩ := h1 (32 :: c :: 32 :: (t2 ++ rest)) line col _ (Bnd.cons (by decide)) hmid (by rw [isT_hd]; rcases hc with rfl | rfl <;> decide)
  have e : t1 ++ ([32, c, 32] ++ t2) ++ rest = t1 ++ (32 :: c :: 32 :: (t2 ++ rest)) := by simp
  exact ⟨ts1, by rw [e]; exact g1, hq ts1 ts2 tsr _ (go_ended _ _ _ _ ts1 (Nat.le_refl _) g1).1 (go_ended _ _ _ _ _ (Nat.le_refl _) hmid).1 (go_ended _ _ _ _ tsr (Nat.le_refl _) hg).1 rfl q1 q2⟩
theorem take_put {x : Nd} {e : Nat} (h : ns[e]? = some x) : ns.take e ++ [x] = ns.take (e + 1) := by
  obtain ⟨he, h⟩ := List.getElem?_eq_some_iff.1 h
  rw [← h, List.take_succ_eq_append_getElem he]
theorem take_len {e : Nat} (h : e ≤ ns.length) : (ns.take e).length = e := by rw [List.length_take]; omega
end

/-- All that is known of how a part's text is read. -/
structure Rd1 (keys nm : List Txt) (ns : List Nd) (s e : Nat) (st0 : Bool) (D : Nat) (k : Int) : Prop where
  single : ∀ d st, (k = 1 ∨ k = 2 ∨ k = 3) → D ≤ d → (st = true → st0 = false) → Lx (textAt nm ns (e - 1)) (fun ts tsr => singleP keys nm (brP keys nm d st) ts (ns.take s) = .ok tsr (ns.take e) ∧ isT 42 ts = false)
  star : ∀ d st, (k ≠ 4 ∧ k ≠ 5) → D ≤ d → (st = true → st0 = false) → Lx (textAt nm ns (e - 1)) (fun ts tsr => starP keys nm st (brP keys nm d) ts (ns.take s) = .ok tsr (ns.take e))
  cat : ∀ d st, k ≠ 4 → D ≤ d → (st = true → st0 = false) → Lx (textAt nm ns (e - 1)) (fun ts tsr => catP keys nm st (brP keys nm d) ts (ns.take s) = rowR (starP keys nm st (brP keys nm d)) 46 5 tsr (ns.take e))
  sum : ∀ d st, D ≤ d → (st = true → st0 = false) → Lx (textAt nm ns (e - 1)) (fun ts tsr => isT 46 tsr = false → sumPB keys nm st (brP keys nm d) ts (ns.take s) = rowR (catP keys nm st (brP keys nm d)) 43 4 tsr (ns.take e))
section
variable {keys nm : List Txt} {ns : List Nd} {s e D : Nat} {st0 : Bool} {k : Int}
theorem Rd1.wrap (h : Rd1 keys nm ns s e st0 D k) (d : Nat) (st : Bool) (hd : D + 1 ≤ d) (hs : st = true → st0 = false) : Lx (wrapT true (textAt nm ns (e - 1))) (fun ts tsr => singleP keys nm (brP keys nm d st) ts (ns.take s) = .ok tsr (ns.take e) ∧ isT 42 ts = false) := by
  obtain ⟨d', rfl⟩ : ∃ d', d = d' + 1 := ⟨d - 1, by omega⟩
  exact lx_wrap (h.sum d' st (by omega) hs)
/-- By the star's level alone. -/
theorem Rd1.of_star (h : ∀ d st, D ≤ d → (st = true → st0 = false) → Lx (textAt nm ns (e - 1)) (fun ts tsr => starP keys nm st (brP keys nm d) ts (ns.take s) = .ok tsr (ns.take e))) (hk : k = 6) : Rd1 keys nm ns s e st0 D k :=
  ⟨fun _ _ h3 => by omega, fun d st _ hd hs => h d st hd hs, fun d st _ hd hs => lx_cat (h d st hd hs), fun d st hd hs => lx_sum (lx_cat (h d st hd hs))⟩
theorem Rd1.of_single (h : ∀ d st, D ≤ d → (st = true → st0 = false) → Lx (textAt nm ns (e - 1)) (fun ts tsr => singleP keys nm (brP keys nm d st) ts (ns.take s) = .ok tsr (ns.take e) ∧ isT 42 ts = false)) : Rd1 keys nm ns s e st0 D k :=
  ⟨fun d st _ hd hs => h d st hd hs, fun d st _ hd hs => lx_star (h d st hd hs), fun d st _ hd hs => lx_cat (lx_star (h d st hd hs)), fun d st hd hs => lx_sum (lx_cat (lx_star (h d st hd hs)))⟩
end
end Go.Proofs.YtkdejinhjdkkmaaDoor

/- Plain words: how great what patterns stand for may become; the stack of open parts. -/
import Derived.Test.YtmnkjekjknhhjaaGreatDoorNf
import Derived.Test.YtmnkjekjknhhjaaGreatDoorQCe
namespace Go.Proofs.YtmnkjekjknhhjaaGreatDoor
open Go.ChangeShapes Go.WideShapes Go.ChangeAt Go.RowKit

theorem Small.more {m m' : Int} {l : List Int} (h : Small m l) (hm : m ≤ m') : Small m' l := ⟨h.right, h.len, fun j => Int.le_trans (h.top j) hm⟩
theorem small_empty {m : Int} (hm : 0 ≤ m) : Small m [] := ⟨by decide, by simp, fun j => by simpa using hm⟩
/-- What u nodes may stand for. -/
def Good (u : Nat) (s : List Lin) : Prop := TrimS ((u : Int) * 1000000000) (2 ^ u) (2 ^ u) s
theorem pow_mono {a b : Nat} (h : a ≤ b) : 2 ^ a ≤ 2 ^ b := Nat.pow_le_pow_right (by omega) h
theorem Good.more {u v : Nat} {s : List Lin} (h : Good u s) (huv : u ≤ v) : Good v s :=
  ⟨h.rise, fun x hx => ⟨(h.each x hx).right, (h.each x hx).base.more (by omega), Nat.le_trans (h.each x hx).few (pow_mono huv)⟩, Nat.le_trans h.few (pow_mono huv)⟩
theorem good_nil (u : Nat) : Good u [] := ⟨riseS_nil, fun x h => by simp at h, Nat.zero_le _⟩
theorem good_single {u : Nat} {x : Lin} (h : Trim ((u : Int) * 1000000000) (2 ^ u) x) : Good u [x] :=
  ⟨⟨fun z hz => by obtain rfl := List.mem_singleton.1 hz; exact h.right, by simp⟩, fun z hz => by obtain rfl := List.mem_singleton.1 hz; exact h, Nat.one_le_two_pow⟩
theorem good_one (u : Nat) : Good u oneS := good_single ⟨right_empty, small_empty (by omega), Nat.zero_le _⟩
theorem good_tag {t n : Int} (h0 : 0 ≤ t) (h1 : t < 12) (h2 : 1 ≤ n) (h3 : n ≤ 999999999) : Good 1 [⟨oneL t n, []⟩] := by
  have ok : oneOk t n = true := one_iff.2 ⟨⟨h0, by omega⟩, h2, by omega⟩
  refine good_single ⟨rightLin_iff.2 ⟨one_right ok, by simp [Rise, Goods]⟩, ⟨one_right ok, ?_, fun j => ?_⟩, Nat.zero_le _⟩
  · unfold oneL
    rw [if_pos ok, tab_len]
    omega
  · unfold oneL
    rw [if_pos ok]
    by_cases hj : j < t.toNat + 1
    · rw [tab_at hj]
      split <;> omega
    · have : (tab (t.toNat + 1) (fun j => if j = t.toNat then n else 0)).getD j 0 = 0 := by
        rw [List.getD_eq_getElem?_getD, List.getElem?_eq_none (by rw [tab_len]; omega)]; rfl
      rw [this]; omega
theorem good_sum {a b : Nat} {s t : List Lin} (hs : Good a s) (ht : Good b t) : Good (a + b + 1) (unionS s t) := by
  have h1 : Good (a + b) s := hs.more (by omega)
  have h2 : Good (a + b) t := ht.more (by omega)
  have h := TrimS.union h1 h2
  refine ⟨h.rise, fun x hx => ?_, ?_⟩
  · have g := h.each x hx
    exact ⟨g.right, g.base.more (by omega), Nat.le_trans g.few (pow_mono (by omega))⟩
  · have := h.few
    rw [Nat.pow_succ]
    omega
theorem good_cat {a b : Nat} {s t : List Lin} (hs : Good a s) (ht : Good b t) (h : a + b ≤ 1000) : catsOk s t = true ∧ Good (a + b + 1) (catS s t) := by
  have hle : (a : Int) * 1000000000 + (b : Int) * 1000000000 ≤ 1000000000000000 := by omega
  refine ⟨TrimS.cats hs ht hle, ?_⟩
  have g := TrimS.cat hs ht hle
  have p1 := pow_mono (show a ≤ a + b by omega)
  have p2 := pow_mono (show b ≤ a + b by omega)
  refine ⟨g.rise, fun x hx => ?_, ?_⟩
  · have e := g.each x hx
    refine ⟨e.right, e.base.more (by omega), ?_⟩
    have := e.few
    rw [Nat.pow_succ]
    omega
  · have := g.few
    rw [← Nat.pow_add] at this
    exact Nat.le_trans this (pow_mono (by omega))
theorem of_base (ps : List (List Int)) : (ofLin [] ps).base = [] := by
  unfold ofLin
  split
  · show normL [] = []
    decide
  · rfl
theorem of_few (b : List Int) (ps : List (List Int)) : (ofLin b ps).ps.length ≤ ps.length := by
  unfold ofLin
  split
  · have h := putAll_len (ofNorm ps) []
    have h2 : (ofNorm ps).length ≤ ps.length := by
      unfold ofNorm
      have := List.length_filter_le (fun p => decide (p ≠ [])) (ps.map normL)
      rwa [List.length_map] at this
    simp only [List.length_nil] at h
    exact Nat.le_trans h (by omega)
  · exact Nat.zero_le _
theorem good_star {a : Nat} {s : List Lin} (hs : Good a s) : Good (a + 1) [ofLin [] (basesS s)] := by
  refine good_single ⟨of_right _ _, by rw [of_base]; exact small_empty (by omega), ?_⟩
  have h := of_few [] (basesS s)
  have h2 : (basesS s).length = s.length := by unfold basesS; rw [List.length_map]
  have := hs.few
  have := pow_mono (show a ≤ a + 1 by omega)
  omega
theorem catM_ok {M : Mr} {s t : List Lin} (h : (catM M s t).2.1 = 0) : (catM M s t).1 = catS s t := by
  unfold catM at h ⊢
  split
  · split
    · split
      · rfl
      · next h1 h2 h3 => rw [if_pos h1, if_pos h2, if_neg h3] at h; simp at h
    · next h1 h2 => rw [if_pos h1, if_neg h2] at h; simp at h
  · next h1 => rw [if_neg h1] at h; simp at h
theorem starM_ok {M : Mr} {s : List Lin} (h : (starM M s).2.1 = 0) : (starM M s).1 = [ofLin [] (basesS s)] := by
  unfold starM at h ⊢
  split
  · split
    · rfl
    · next h1 h2 => rw [if_pos h1, if_neg h2] at h; simp at h
  · next h1 => rw [if_neg h1] at h; simp at h

/-- The open parts: each has its set, and all their weights together are at most t. -/
def Stk (es : List (List Lin)) : List (Int × Bool) → Nat → Prop
  | [], _ => True
  | p :: r, t => ∃ u v, u + v ≤ t ∧ (∃ j : Nat, p.1 = (j : Int) ∧ j < es.length ∧ Good u (es.getD j [])) ∧ Stk es r v
theorem stk_more {es : List (List Lin)} : ∀ {fl : List (Int × Bool)} {t t' : Nat}, Stk es fl t → t ≤ t' → Stk es fl t'
  | [], _, _, _, _ => trivial
  | _ :: _, _, _, h, le => by
    obtain ⟨u, v, huv, g, r⟩ := h
    exact ⟨u, v, by omega, g, r⟩
theorem stk_push {es : List (List Lin)} (x : List Lin) : ∀ {fl : List (Int × Bool)} {t : Nat}, Stk es fl t → Stk (es ++ [x]) fl t
  | [], _, _ => trivial
  | _ :: _, _, h => by
    obtain ⟨u, v, huv, ⟨j, hj, hl, g⟩, r⟩ := h
    refine ⟨u, v, huv, ⟨j, hj, by simp; omega, ?_⟩, stk_push x r⟩
    have : (es ++ [x]).getD j [] = es.getD j [] := by
      rw [List.getD_eq_getElem?_getD, List.getD_eq_getElem?_getD, List.getElem?_append_left hl]
    rw [this]; exact g
theorem stk_split {es : List (List Lin)} : ∀ {A B : List (Int × Bool)} {t : Nat}, Stk es (A ++ B) t → ∃ u v, u + v ≤ t ∧ Stk es A u ∧ Stk es B v
  | [], _, t, h => ⟨0, t, by omega, trivial, h⟩
  | p :: A, B, t, h => by
    obtain ⟨u, v, huv, g, r⟩ := h
    obtain ⟨u', v', h', a, b⟩ := stk_split (A := A) r
    exact ⟨u + u', v', by omega, ⟨u, u', Nat.le_refl _, g, a⟩, b⟩
theorem stk_join {es : List (List Lin)} : ∀ {A B : List (Int × Bool)} {u v : Nat}, Stk es A u → Stk es B v → Stk es (A ++ B) (u + v)
  | [], _, _, _, _, h => stk_more h (by omega)
  | p :: A, B, _, _, h, k => by
    obtain ⟨u, v, huv, g, r⟩ := h
    exact ⟨u, v + _, by omega, g, stk_join (A := A) r k⟩
theorem stk_new {es : List (List Lin)} {x : List Lin} {u : Nat} {b : Bool} (h : Good u x) : Stk (es ++ [x]) [((es.length : Int), b)] u :=
  ⟨u, 0, by omega, ⟨es.length, rfl, by simp, by simpa using h⟩, trivial⟩
end Go.Proofs.YtmnkjekjknhhjaaGreatDoor

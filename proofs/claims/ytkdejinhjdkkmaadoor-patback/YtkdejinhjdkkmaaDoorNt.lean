/- Plain words: a pattern that is printed and read again is what it was; the condition: its tags are known by their names, its nodes bear no names of their own. -/
import Derived.Test.YtkdejinhjdkkmaaDoorNs
namespace Go.Proofs.YtkdejinhjdkkmaaDoor

theorem Sub.noStar {ns : List Nd} {tags : Int} {s e D : Nat} {st : Bool} {k : Int} (h : Sub ns tags s e st D k) (hs : st = false) : k = 1 ∨ k = 2 ∨ k = 3 ∨ k = 4 ∨ k = 5 := by
  cases h with
  | leaf _ hk => omega
  | tag _ hk => omega
  | two _ _ _ hk => omega
  | star => cases hs
theorem nd_eq {x y : Nd} (h1 : x.kind = y.kind) (h2 : x.a = y.a) (h3 : x.b = y.b) (h4 : x.n = y.n) (h5 : x.name = y.name) : x = y := by
  cases x; cases y; simp_all
theorem word_not {keys : List Txt} {y : Txt} (h : isName keys y = true) : y ≠ [40] ∧ y ≠ [48] ∧ y ≠ [49] ∧ y ≠ [42] ∧ isWord y = true := by
  have hw : isWord y = true := by unfold isName at h; simp only [Bool.and_eq_true] at h; exact h.1
  refine ⟨?_, ?_, ?_, ?_, hw⟩ <;> (rintro rfl; revert hw; decide)
theorem kindAt_of {ns : List Nd} {e : Nat} {k : Int} (he : 0 < e) (h : ∃ x, ns[e - 1]? = some x ∧ x.kind = k) : kindAt ns ((e : Int) - 1) = k := by
  obtain ⟨x, h1, h2⟩ := h
  unfold kindAt
  rw [show ((e : Int) - 1).toNat = e - 1 by omega, h1]
  exact h2

section
variable {keys nm : List Txt} {ns : List Nd} {tags : Int}
theorem text_node {x : Nd} {i : Nat} (hw : ∀ j (h : j < ns.length), wfN tags j ns[j]) (hx : ns[i]? = some x) : textAt nm ns i = nodeT nm ns (textAt nm ns) x := by
  obtain ⟨hi, h⟩ := List.getElem?_eq_some_iff.1 hx
  rw [textAt_eq hi (hw i hi), h]
theorem rd_leaf {s : Nat} {x : Nd} {D : Nat} (hw : ∀ j (h : j < ns.length), wfN tags j ns[j]) (hx : ns[s]? = some x) (hk : x.kind = 1 ∨ x.kind = 2) (ha : x.a = 0) (hb : x.b = 0) (hn : x.n = 0) (he : x.name = emp) : Rd1 keys nm ns s (s + 1) false D x.kind := by
  refine Rd1.of_single (fun d st _ _ rest line col tsr hbn hg hh => ?_)
  rw [Nat.add_sub_cancel] at hg ⊢
  rw [text_node hw hx] at hg ⊢
  have hp := take_put hx
  unfold nodeT at hg ⊢
  rcases hk with hk | hk
  · have hxe : x = nLeaf 1 := nd_eq hk ha hb hn he
    rw [if_pos hk] at hg ⊢
    have e0 : ([48] : Txt) = Lib.decDigits 0 := by rw [Lib.decDigits, dif_pos (by omega)]; rfl
    rw [e0] at hg ⊢
    refine ⟨_, by rw [lex_num 0 (by omega) rest line col hbn, hg]; rfl, ?_, by rw [isT_hd, ← e0]; rfl⟩
    unfold singleP
    simp only [← e0]
    rw [if_neg (by decide), if_pos trivial, ← hxe, hp]
  · have hxe : x = nLeaf 2 := nd_eq hk ha hb hn he
    rw [if_neg (by omega), if_pos hk] at hg ⊢
    have e0 : ([49] : Txt) = Lib.decDigits 1 := by rw [Lib.decDigits, dif_pos (by omega)]; rfl
    rw [e0] at hg ⊢
    refine ⟨_, by rw [lex_num 1 (by omega) rest line col hbn, hg]; rfl, ?_, by rw [isT_hd, ← e0]; rfl⟩
    unfold singleP
    simp only [← e0]
    rw [if_neg (by decide), if_neg (by decide), if_pos trivial, ← hxe, hp]
theorem rd_tag {s : Nat} {x : Nd} {D : Nat} (hw : ∀ j (h : j < ns.length), wfN tags j ns[j]) (hx : ns[s]? = some x) (hk : x.kind = 3) (h0 : 0 ≤ x.n) (h1 : 1 ≤ x.a) (h2 : x.a ≤ 999999999) (hb : x.b = 0) (he : x.name = emp) (hnm : isName keys (nm.getD x.n.toNat []) = true) (hpo : posF (nm.getD x.n.toNat []) nm 0 = some x.n.toNat) : Rd1 keys nm ns s (s + 1) false D x.kind := by
  refine Rd1.of_single (fun d st _ _ rest line col tsr hbn hg hh => ?_)
  rw [Nat.add_sub_cancel] at hg ⊢
  rw [text_node hw hx] at hg ⊢
  have hp := take_put hx
  unfold nodeT at hg ⊢
  rw [if_neg (by omega), if_neg (by omega), if_pos hk] at hg ⊢
  unfold tagT at hg ⊢
  generalize nm.getD x.n.toNat [] = y at hnm hpo hg ⊢
  obtain ⟨n1, n2, n3, n4, hwd⟩ := word_not hnm
  by_cases h1a : 1 < x.a
  · rw [if_pos h1a] at hg ⊢
    obtain ⟨o1, o2, o3, o4, o5⟩ := sgn 94 (by simp)
    have hxe : x = nTag x.n.toNat x.a.toNat := nd_eq hk (by show x.a = ((x.a.toNat : Nat) : Int); omega) hb (by show x.n = ((x.n.toNat : Nat) : Int); omega) he
    have hlen : (y ++ 94 :: Lib.decDigits x.a.toNat).length = y.length + 1 + (Lib.decDigits x.a.toNat).length := by simp; omega
    rw [hlen] at hg
    have g2 : go (94 :: (Lib.decDigits x.a.toNat ++ rest)) line (col + y.length) = .ok (⟨3, 0, line, col + y.length, [94]⟩ :: ⟨2, x.a.toNat, line, col + y.length + 1, Lib.decDigits x.a.toNat⟩ :: tsr) := by
      rw [lex_sign 94 _ line _ o1 o2 o3 o4, lex_num x.a.toNat (by omega) rest line _ hbn, show col + y.length + 1 + (Lib.decDigits x.a.toNat).length = col + (y.length + 1 + (Lib.decDigits x.a.toNat).length) by omega, hg]; rfl
    have e1 : y ++ 94 :: Lib.decDigits x.a.toNat ++ rest = y ++ (94 :: (Lib.decDigits x.a.toNat ++ rest)) := by simp
    refine ⟨_, by rw [e1, lex_word y _ line col hwd (Bnd.cons o5), g2]; rfl, ?_, by rw [isT_hd]; simpa using n4⟩
    unfold singleP
    simp only
    rw [if_neg n1, if_neg n2, if_neg n3, if_pos hnm]
    unfold tagP
    rw [hpo]
    simp only
    unfold countP
    rw [if_pos (by rw [isT_hd]; rfl)]
    simp only [List.tail_cons]
    rw [if_pos ⟨trivial, by omega, by omega⟩, ← hxe, hp]
  · rw [if_neg h1a, List.append_nil] at hg ⊢
    have hxe : x = nTag x.n.toNat 1 := nd_eq hk (by show x.a = 1; omega) hb (by show x.n = ((x.n.toNat : Nat) : Int); omega) he
    refine ⟨_, by rw [lex_word y rest line col hwd hbn, hg]; rfl, ?_, by rw [isT_hd]; simpa using n4⟩
    unfold singleP
    simp only
    rw [if_neg n1, if_neg n2, if_neg n3, if_pos hnm]
    unfold tagP
    rw [hpo]
    simp only
    unfold countP
    rw [hh, if_neg (by simp), ← hxe, hp]
theorem rd_star {s e D1 D : Nat} {k1 : Int} {x : Nd} (hw : ∀ j (h : j < ns.length), wfN tags j ns[j]) (S1 : Sub ns tags s e false D1 k1) (R1 : Rd1 keys nm ns s e false D1 k1) (hx : ns[e]? = some x) (hk : x.kind = 6) (ha : x.a = (e : Int) - 1) (hb : x.b = 0) (hn : x.n = 0) (he : x.name = emp) (hD : D1 ≤ D) (hD1 : k1 = 4 ∨ k1 = 5 → D1 + 1 ≤ D) : Rd1 keys nm ns s (e + 1) true D x.kind := by
  have l1 := S1.lt
  have hk1 := S1.noStar rfl
  have hka := kindAt_of (by omega) l1.2.2
  refine Rd1.of_star (fun d st hd hs => ?_) hk
  have hst : st = false := by cases st with
    | false => rfl
    | true => exact absurd (hs rfl) (by decide)
  subst hst
  rw [Nat.add_sub_cancel, text_node hw hx]
  unfold nodeT
  rw [if_neg (by omega), if_neg (by omega), if_neg (by omega), if_neg (by omega), if_neg (by omega), if_pos hk, ha, hka, show ((e : Int) - 1).toNat = e - 1 by omega]
  have hin : Lx (wrapT (k1 == 4 || k1 == 5) (textAt nm ns (e - 1))) (fun ts tsr => singleP keys nm (brP keys nm d true) ts (ns.take s) = .ok tsr (ns.take e) ∧ isT 42 ts = false) := by
    by_cases h45 : k1 = 4 ∨ k1 = 5
    · have e1 : (k1 == 4 || k1 == 5) = true := by rcases h45 with rfl | rfl <;> rfl
      rw [e1]
      exact R1.wrap d true (by have := hD1 h45; omega) (fun _ => rfl)
    · have e1 : (k1 == 4 || k1 == 5) = false := by simp only [Bool.or_eq_false_iff, beq_eq_false_iff_ne]; omega
      rw [e1]
      exact R1.single d true (by omega) (by omega) (fun _ => rfl)
  generalize wrapT (k1 == 4 || k1 == 5) (textAt nm ns (e - 1)) = t at hin
  intro rest line col tsr hbn hg hh
  obtain ⟨o1, o2, o3, o4, o5⟩ := sgn 42 (by simp)
  obtain ⟨ts, g1, q1, _⟩ := hin rest line (col + 1) tsr hbn (by rw [List.length_cons] at hg; rw [show col + 1 + t.length = col + (t.length + 1) by omega]; exact hg) hh
  refine ⟨⟨3, 0, line, col, [42]⟩ :: ts, by rw [List.cons_append, lex_sign 42 _ line col o1 o2 o3 o4, g1]; rfl, ?_⟩
  show starP keys nm false (brP keys nm d) (⟨3, 0, line, col, [42]⟩ :: ts) (ns.take s) = .ok tsr (ns.take (e + 1))
  unfold starP
  rw [if_pos (by rw [isT_hd]; rfl), if_neg (by simp), List.tail_cons, q1]
  simp only [addStar]
  rw [take_len (by omega)]
  have hxe : x = nStar ((e : Int) - 1) := nd_eq hk ha hb hn he
  rw [← hxe, take_put hx]
theorem rd_two {s m e D1 D2 D : Nat} {st1 st2 : Bool} {k1 k2 : Int} {x : Nd} (hw : ∀ j (h : j < ns.length), wfN tags j ns[j]) (S1 : Sub ns tags s m st1 D1 k1) (R1 : Rd1 keys nm ns s m st1 D1 k1) (S2 : Sub ns tags m e st2 D2 k2) (R2 : Rd1 keys nm ns m e st2 D2 k2) (hx : ns[e]? = some x) (hk : x.kind = 4 ∨ x.kind = 5) (ha : x.a = (m : Int) - 1) (hb : x.b = (e : Int) - 1) (hn : x.n = 0) (he : x.name = emp)
    (hD1 : D1 ≤ D) (hD2 : D2 ≤ D) (hW1 : k1 = 4 ∨ k1 = 5 → D1 + 1 ≤ D) (hW2 : k2 = 4 ∨ k2 = 5 → D2 + 1 ≤ D) : Rd1 keys nm ns s (e + 1) (st1 || st2) D x.kind := by
  have l1 := S1.lt
  have l2 := S2.lt
  have hka := kindAt_of (by omega) l1.2.2
  have hkb := kindAt_of (by omega) l2.2.2
  have hxe : x = nTwo x.kind ((m : Int) - 1) ((e : Int) - 1) := nd_eq rfl ha hb hn he
  have htx := text_node (nm := nm) hw hx
  unfold nodeT at htx
  rw [if_neg (by omega), if_neg (by omega), if_neg (by omega)] at htx
  rcases hk with hk | hk
  · rw [if_pos hk, ha, hb, hkb, show ((m : Int) - 1).toNat = m - 1 by omega, show ((e : Int) - 1).toNat = e - 1 by omega] at htx
    have hsum : ∀ d st, D ≤ d → (st = true → (st1 || st2) = false) → Lx (textAt nm ns (e + 1 - 1)) (fun ts tsr => isT 46 tsr = false → sumPB keys nm st (brP keys nm d) ts (ns.take s) = rowR (catP keys nm st (brP keys nm d)) 43 4 tsr (ns.take (e + 1))) := fun d st hd hs => by
      rw [Nat.add_sub_cancel, htx]
      have hs1 : st = true → st1 = false := fun h => by have := hs h; simp only [Bool.or_eq_false_iff] at this; exact this.1
      have hs2 : st = true → st2 = false := fun h => by have := hs h; simp only [Bool.or_eq_false_iff] at this; exact this.2
      have hr : Lx (wrapT (k2 == 4) (textAt nm ns (e - 1))) (fun ts tsr => catP keys nm st (brP keys nm d) ts (ns.take m) = rowR (starP keys nm st (brP keys nm d)) 46 5 tsr (ns.take e)) := by
        by_cases h4 : k2 = 4
        · rw [show (k2 == 4) = true by rw [h4]; rfl]
          exact lx_cat (lx_star (R2.wrap d st (by have := hW2 (.inl h4); omega) hs2))
        · rw [show (k2 == 4) = false by simpa using h4]
          exact R2.cat d st h4 (by omega) hs2
      refine lx_app 43 (.inl rfl) (R1.sum d st (by omega) hs1) hr (fun ts1 ts2 tsr tk he1 he2 he3 htk q1 q2 h46 => ?_)
      have hT : ∀ c, isT c (tk :: ts2) = ([43] == [c]) := fun c => by show (tk.text == [c]) = _; rw [htk]
      rw [q1 (by rw [hT]; decide)]
      have hcat : catP keys nm st (brP keys nm d) ts2 (ns.take m) = .ok tsr (ns.take e) := by rw [q2, rowR_stop h46]
      rw [rowR_on (fine_cat keys nm st _ (fine_br keys nm d)) he2 (by rw [hT]; rfl) (by rw [List.tail_cons]; exact hcat), take_len (by omega), take_len (by omega)]
      rw [← hk, ← hxe, take_put hx]
    exact ⟨fun _ _ h => by omega, fun _ _ h => by omega, fun _ _ h => by omega, hsum⟩
  · rw [if_neg (by omega), if_pos hk, ha, hb, hka, hkb, show ((m : Int) - 1).toNat = m - 1 by omega, show ((e : Int) - 1).toNat = e - 1 by omega] at htx
    have hcat : ∀ d st, D ≤ d → (st = true → (st1 || st2) = false) → Lx (textAt nm ns (e + 1 - 1)) (fun ts tsr => catP keys nm st (brP keys nm d) ts (ns.take s) = rowR (starP keys nm st (brP keys nm d)) 46 5 tsr (ns.take (e + 1))) := fun d st hd hs => by
      rw [Nat.add_sub_cancel, htx]
      have hs1 : st = true → st1 = false := fun h => by have := hs h; simp only [Bool.or_eq_false_iff] at this; exact this.1
      have hs2 : st = true → st2 = false := fun h => by have := hs h; simp only [Bool.or_eq_false_iff] at this; exact this.2
      have hl : Lx (wrapT (k1 == 4) (textAt nm ns (m - 1))) (fun ts tsr => catP keys nm st (brP keys nm d) ts (ns.take s) = rowR (starP keys nm st (brP keys nm d)) 46 5 tsr (ns.take m)) := by
        by_cases h4 : k1 = 4
        · rw [show (k1 == 4) = true by rw [h4]; rfl]
          exact lx_cat (lx_star (R1.wrap d st (by have := hW1 (.inl h4); omega) hs1))
        · rw [show (k1 == 4) = false by simpa using h4]
          exact R1.cat d st h4 (by omega) hs1
      have hr : Lx (wrapT (k2 == 4 || k2 == 5) (textAt nm ns (e - 1))) (fun ts tsr => starP keys nm st (brP keys nm d) ts (ns.take m) = .ok tsr (ns.take e)) := by
        by_cases h45 : k2 = 4 ∨ k2 = 5
        · rw [show (k2 == 4 || k2 == 5) = true by rcases h45 with rfl | rfl <;> rfl]
          exact lx_star (R2.wrap d st (by have := hW2 h45; omega) hs2)
        · rw [show (k2 == 4 || k2 == 5) = false by simp only [Bool.or_eq_false_iff, beq_eq_false_iff_ne]; omega]
          exact R2.star d st (by omega) (by omega) hs2
      refine lx_app 46 (.inr rfl) hl hr (fun ts1 ts2 tsr tk he1 he2 he3 htk q1 q2 => ?_)
      have hT : ∀ c, isT c (tk :: ts2) = ([46] == [c]) := fun c => by show (tk.text == [c]) = _; rw [htk]
      rw [q1]
      rw [rowR_on (fine_star keys nm st _ (fine_br keys nm d)) he2 (by rw [hT]; rfl) (by rw [List.tail_cons]; exact q2), take_len (by omega), take_len (by omega)]
      rw [← hk, ← hxe, take_put hx]
    exact ⟨fun _ _ h => by omega, fun _ _ h => by omega, fun d st _ hd hs => hcat d st hd hs, fun d st hd hs => lx_sum (hcat d st hd hs)⟩
end
theorem read_part {keys nm : List Txt} {ns : List Nd} {tags : Int} (hw : ∀ j (h : j < ns.length), wfN tags j ns[j]) (hnm : namedB keys nm ns = true) (hemp : ∀ x ∈ ns, x.name = emp) {s e D : Nat} {st : Bool} {k : Int} (h : Sub ns tags s e st D k) : Rd1 keys nm ns s e st D k := by
  have mem : ∀ {i : Nat} {x : Nd}, ns[i]? = some x → x ∈ ns := fun h => List.mem_of_getElem? h
  induction h with
  | leaf hx hk ha hb hn => exact rd_leaf hw hx hk ha hb hn (hemp _ (mem hx))
  | tag hx hk h0 _ h1 h2 hb =>
    have := List.all_eq_true.1 hnm _ (mem hx)
    simp only [hk, decide_true, Bool.not_true, Bool.false_or, Bool.and_eq_true, decide_eq_true_eq] at this
    exact rd_tag hw hx hk h0 h1 h2 hb (hemp _ (mem hx)) this.1 this.2
  | two S1 S2 hx hk ha hb hn hD1 hD2 hW1 hW2 i1 i2 => exact rd_two hw S1 i1 S2 i2 hx hk ha hb hn (hemp _ (mem hx)) hD1 hD2 hW1 hW2
  | star S1 hx hk ha hb hn hD hD1 i1 => exact rd_star hw S1 i1 hx hk ha hb hn (hemp _ (mem hx)) hD hD1
/-- A pattern's text, with what is nothing around it, is read as the pattern. -/
theorem back {keys nm : List Txt} {ns : List Nd} (hc : chkB ns (nm.length : Int) = true) (hnm : namedB keys nm ns = true) (hemp : ∀ x ∈ ns, x.name = emp) (rest : Txt) (line col l2 c2 : Nat) (hb : Bnd rest) (hg : go rest line (col + (textAt nm ns (ns.length - 1)).length) = .ok [endAt l2 c2]) :
    parseP keys nm (go (textAt nm ns (ns.length - 1) ++ rest) line col) = (0, ns) := by
  obtain ⟨h0, h24, hw⟩ := chk_wf hc
  obtain ⟨st, D, k, S, b1, _⟩ := chk_sub hc
  have R := read_part (keys := keys) (nm := nm) hw hnm hemp S
  obtain ⟨ts, g1, q1⟩ := R.sum 12 false (by omega) (fun h => by cases h) rest line col _ hb hg rfl
  have h2 := q1 rfl
  rw [rowR_stop rfl, List.take_length] at h2
  rw [g1]
  simp only [parseP]
  unfold wholeP sumP
  rw [List.take_zero] at h2
  rw [h2]
  simp only [endAt, List.head?_cons, Option.map_some, if_true]
  rw [if_neg (by omega)]
end Go.Proofs.YtkdejinhjdkkmaaDoor

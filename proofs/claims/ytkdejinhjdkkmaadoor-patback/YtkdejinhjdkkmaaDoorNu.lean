/- Plain words: how long a pattern's text is; that what is read bears no names; that the law's names are known; no condition. -/
import Derived.Test.YtkdejinhjdkkmaaDoorNt
namespace Go.Proofs.YtkdejinhjdkkmaaDoor

theorem sub_len {keys nm : List Txt} {ns : List Nd} {tags : Int} (hw : ∀ j (h : j < ns.length), wfN tags j ns[j]) (hnm : namedB keys nm ns = true) {s e D : Nat} {st : Bool} {k : Int} (h : Sub ns tags s e st D k) : (textAt nm ns (e - 1)).length ≤ 30 * (e - s) := by
  have mem : ∀ {i : Nat} {x : Nd}, ns[i]? = some x → x ∈ ns := fun h => List.mem_of_getElem? h
  induction h with
  | leaf hx hk =>
    rw [Nat.add_sub_cancel, text_node hw hx]
    unfold nodeT
    rcases hk with hk | hk
    · rw [if_pos hk]; simp
    · rw [if_neg (by omega), if_pos hk]; simp
  | tag hx hk h0 _ h1 h2 hb =>
    rename_i s' x' hlt
    rw [Nat.add_sub_cancel, text_node hw hx]
    unfold nodeT
    rw [if_neg (by omega), if_neg (by omega), if_pos hk]
    have hn := List.all_eq_true.1 hnm _ (mem hx)
    simp only [hk, decide_true, Bool.not_true, Bool.false_or, Bool.and_eq_true, decide_eq_true_eq] at hn
    have hl := word_not hn.1
    obtain ⟨_, _, _, _, _, h16⟩ := wordIn hl.2.2.2.2
    have hd : (Lib.decDigits x'.a.toNat).length ≤ 9 := dec_len _ 8 (by omega)
    unfold tagT
    rw [List.length_append]
    split
    · rw [List.length_cons]; omega
    · simp only [List.length_nil]; omega
  | two S1 S2 hx hk ha hb hn hD1 hD2 hW1 hW2 i1 i2 =>
    have l1 := S1.lt
    have l2 := S2.lt
    rw [Nat.add_sub_cancel, text_node hw hx]
    unfold nodeT
    rw [if_neg (by omega), if_neg (by omega), if_neg (by omega), ha, hb]
    rename_i s' m' e' _ _ _ _ _ _ _ x'
    rw [show ((m' : Int) - 1).toNat = m' - 1 by omega, show ((e' : Int) - 1).toNat = e' - 1 by omega]
    rcases hk with hk | hk
    · rw [if_pos hk]
      have w2 := wrap_len (kindAt ns ((e' : Int) - 1) == 4) (textAt nm ns (e' - 1))
      simp only [List.length_append, List.length_cons, List.length_nil]
      omega
    · rw [if_neg (by omega), if_pos hk]
      have w1 := wrap_len (kindAt ns ((m' : Int) - 1) == 4) (textAt nm ns (m' - 1))
      have w2 := wrap_len (kindAt ns ((e' : Int) - 1) == 4 || kindAt ns ((e' : Int) - 1) == 5) (textAt nm ns (e' - 1))
      simp only [List.length_append, List.length_cons, List.length_nil]
      omega
  | star S1 hx hk ha hb hn hD hD1 i1 =>
    have l1 := S1.lt
    rw [Nat.add_sub_cancel, text_node hw hx]
    unfold nodeT
    rename_i s' e' _ _ _ x'
    rw [if_neg (by omega), if_neg (by omega), if_neg (by omega), if_neg (by omega), if_neg (by omega), if_pos hk, ha, show ((e' : Int) - 1).toNat = e' - 1 by omega]
    have w1 := wrap_len (kindAt ns ((e' : Int) - 1) == 4 || kindAt ns ((e' : Int) - 1) == 5) (textAt nm ns (e' - 1))
    rw [List.length_cons]
    omega
theorem text_short {keys nm : List Txt} {ns : List Nd} (hc : chkB ns (nm.length : Int) = true) (hnm : namedB keys nm ns = true) : (textAt nm ns (ns.length - 1)).length ≤ 720 := by
  obtain ⟨h0, h24, hw⟩ := chk_wf hc
  obtain ⟨st, D, k, S, _, _⟩ := chk_sub hc
  have := sub_len hw hnm S
  omega
/-- A reader makes nodes that bear no names. -/
def Bare (ns : List Nd) : Prop := ∀ x ∈ ns, x.name = emp
theorem Bare.put {ns : List Nd} (h : Bare ns) {x : Nd} (hx : x.name = emp) : Bare (ns ++ [x]) := fun y hy => by
  rcases List.mem_append.1 hy with hy | hy
  · exact h y hy
  · rw [List.mem_singleton] at hy; rw [hy]; exact hx
def Clean (p : List Tok → List Nd → Out) : Prop := ∀ ts ns rest ns', Bare ns → p ts ns = .ok rest ns' → Bare ns'
theorem clean_single (keys nm : List Txt) (br : List Tok → List Nd → Out) (hb : Clean br) : Clean (singleP keys nm br) := by
  intro ts ns rest ns' h hp
  unfold singleP at hp
  split at hp
  · cases hp
  · split at hp
    · exact hb _ _ _ _ h hp
    split at hp
    · injection hp with _ hp; subst hp; exact h.put rfl
    split at hp
    · injection hp with _ hp; subst hp; exact h.put rfl
    split at hp
    · unfold tagP at hp
      split at hp
      · cases hp
      · unfold countP at hp
        split at hp
        · split at hp
          · split at hp
            · injection hp with _ hp; subst hp; exact h.put rfl
            · cases hp
          · cases hp
        · injection hp with _ hp; subst hp; exact h.put rfl
    · cases hp
theorem clean_star (keys nm : List Txt) (st : Bool) (br : Bool → List Tok → List Nd → Out) (hb : ∀ s, Clean (br s)) : Clean (starP keys nm st br) := by
  intro ts ns rest ns' h hp
  unfold starP at hp
  split at hp
  · split at hp
    · cases hp
    · cases hx : singleP keys nm (br true) ts.tail ns with
      | bad e => rw [hx] at hp; cases hp
      | ok r n2 =>
        rw [hx] at hp
        simp only [addStar] at hp
        injection hp with _ hp
        subst hp
        exact (clean_single keys nm _ (hb true) _ _ _ _ h hx).put rfl
  · exact clean_single keys nm _ (hb st) _ _ _ _ h hp
theorem clean_rowL (p : List Tok → List Nd → Out) (hp : Clean p) (c : UInt8) (kind : Int) : ∀ (f : Nat) (ts : List Tok) (ns : List Nd) (rest : List Tok) (ns' : List Nd), Bare ns → rowL p c kind f ts ns = .ok rest ns' → Bare ns'
  | 0, ts, ns, rest, ns', h, e => by simp only [rowL] at e; injection e with _ e; subst e; exact h
  | f + 1, ts, ns, rest, ns', h, e => by
    simp only [rowL] at e
    split at e
    · cases hx : p ts.tail ns with
      | bad k => rw [hx] at e; cases e
      | ok r n2 =>
        rw [hx] at e
        simp only [addTwo] at e
        exact clean_rowL p hp c kind f _ _ _ _ ((hp _ _ _ _ h hx).put rfl) e
    · injection e with _ e; subst e; exact h
theorem clean_row (p : List Tok → List Nd → Out) (hp : Clean p) (c : UInt8) (kind : Int) : Clean (rowP p c kind) := by
  intro ts ns rest ns' h e
  unfold rowP at e
  cases hx : p ts ns with
  | bad k => rw [hx] at e; cases e
  | ok r n2 => rw [hx] at e; exact clean_rowL p hp c kind _ _ _ _ _ (hp _ _ _ _ h hx) e
theorem clean_sumB (keys nm : List Txt) (st : Bool) (br : Bool → List Tok → List Nd → Out) (hb : ∀ s, Clean (br s)) : Clean (sumPB keys nm st br) := clean_row _ (clean_row _ (clean_star keys nm st br hb) _ _) _ _
theorem clean_br (keys nm : List Txt) : ∀ (d : Nat) (st : Bool), Clean (brP keys nm d st)
  | 0, _ => fun _ _ _ _ _ e => by cases e
  | d + 1, st => fun ts ns rest ns' h e => by
    simp only [brP] at e
    cases hx : sumPB keys nm st (brP keys nm d) ts ns with
    | bad k => rw [hx] at e; cases e
    | ok r n2 =>
      rw [hx] at e
      simp only [closeP] at e
      split at e
      · injection e with _ e; subst e
        exact clean_sumB keys nm st _ (clean_br keys nm d) _ _ _ _ h hx
      · cases e
theorem parse_bare (keys nm : List Txt) (l : Txt) : Bare (parseT keys nm l).2 := by
  unfold parseT
  split
  · exact fun _ h => by cases h
  · cases go l 1 1 with
    | bad a b => exact fun _ h => by cases h
    | ok ts =>
      simp only [parseP]
      unfold wholeP
      cases hx : sumP keys nm 12 false ts [] with
      | bad e => exact fun _ h => by cases h
      | ok r n2 =>
        have hb := clean_sumB keys nm false _ (clean_br keys nm 12) ts [] r n2 (fun _ h => by cases h) hx
        simp only
        split
        · exact fun _ h => by cases h
        · rename_i heq
          split at heq
          · injection heq with _ heq; subst heq
            split
            · exact fun _ h => by cases h
            · exact hb
          · cases heq
theorem parse_none (keys nm : List Txt) (l : Txt) (h : (parseT keys nm l).1 ≠ 0) : (parseT keys nm l).2 = [] := by
  revert h
  unfold parseT
  split
  · intro _; rfl
  · cases go l 1 1 with
    | bad a b => intro _; rfl
    | ok ts =>
      simp only [parseP]
      split
      · intro _; rfl
      · split
        · intro _; rfl
        · intro h; exact absurd rfl h
/-- The law's names. -/
def names4 : List Txt := [[97], [98], [99, 49], [100, 95, 120]]
theorem names_known (keys : List Txt) (hk : ∀ x ∈ names4, isName keys x = true) {ns : List Nd} (hw : ∀ j (h : j < ns.length), wfN 4 j ns[j]) : namedB keys names4 ns = true := by
  unfold namedB
  rw [List.all_eq_true]
  intro x hx
  obtain ⟨j, hj, rfl⟩ := List.mem_iff_getElem.1 hx
  have h := hw j hj
  by_cases h3 : (ns[j]).kind = 3
  · rcases h with h | ⟨_, h0, h1, _⟩ | ⟨h, _⟩ | ⟨h, _⟩
    · omega
    · simp only [h3, decide_true, Bool.not_true, Bool.false_or, Bool.and_eq_true, decide_eq_true_eq]
      have hc : (ns[j]).n = 0 ∨ (ns[j]).n = 1 ∨ (ns[j]).n = 2 ∨ (ns[j]).n = 3 := by omega
      rcases hc with hc | hc | hc | hc <;> rw [hc] <;> exact ⟨hk _ (by decide), by decide⟩
    · omega
    · omega
  · simp [h3]
/-- A pattern over the law's names, printed and read again, with blanks and a remark around it or not. -/
theorem back_plain (keys : List Txt) (hk : ∀ x ∈ names4, isName keys x = true) {ns : List Nd} (hc : chkB ns 4 = true) (he : Bare ns) :
    ∃ T : Txt, printP keys names4 ns = (0, T) ∧ T.length ≤ 720 ∧ parseT keys names4 T = (0, ns) ∧ parseT keys names4 ([32] ++ T ++ [32, 32, 35, 32, 42, 10]) = (0, ns) := by
  obtain ⟨h0, h24, hw⟩ := chk_wf hc
  have hn := names_known keys hk hw
  have hc4 : chkB ns (names4.length : Int) = true := hc
  have hl := text_short hc4 hn
  refine ⟨textAt names4 ns (ns.length - 1), ?_, hl, ?_, ?_⟩
  · unfold printP; rw [hc4, hn]; rfl
  · unfold parseT
    rw [if_neg (by omega)]
    have := back hc4 hn he [] 1 1 1 (1 + (textAt names4 ns (ns.length - 1)).length) Bnd.nil (go_nil _ _)
    rw [List.append_nil] at this
    exact this
  · unfold parseT
    rw [if_neg (by simp; omega)]
    have e : ([32] ++ textAt names4 ns (ns.length - 1) ++ [32, 32, 35, 32, 42, 10] : Txt) = 32 :: (textAt names4 ns (ns.length - 1) ++ [32, 32, 35, 32, 42, 10]) := by simp
    rw [e, go_blank (.inl rfl)]
    refine back hc4 hn he [32, 32, 35, 32, 42, 10] 1 2 2 1 (Bnd.cons (by decide)) ?_
    rw [go_blank (.inl rfl), go_blank (.inl rfl), go_hash]
    exact go_nl [] 1 _
end Go.Proofs.YtkdejinhjdkkmaaDoor

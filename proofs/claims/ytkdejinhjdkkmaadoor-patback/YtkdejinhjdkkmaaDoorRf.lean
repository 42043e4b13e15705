/- Contract of numbers: the map of names, of equal ones the first; the condition: the names lie there, and are no longer than a text may be. -/
import Derived.Test.YtkdejinhjdkkmaaDoorRe
import Derived.Test.YtkdejinhjdkkmaaDoorN2
namespace Go.Proofs.YtkdejinhjdkkmaaDoor
open Go.ChangeShapes Go.WideShapes Go.ChangeAt Go.RowKit Go.Maps

/-- The slice at a reads as the texts ls; it stands at the head of a block, or has nothing. -/
def Strs (w : World) (a : Option Addr) (ls : List Txt) : Prop := ls = [] ∨ ∃ g sp, a = some ⟨g, 0, none⟩ ∧ Lies w g 9 (strs ls ++ sp)
theorem Strs.below {w w' : World} {a : Option Addr} {ls : List Txt} (h : Strs w a ls) (b : Below w.heap.size w w') : Strs w' a ls := by
  rcases h with h | ⟨g, sp, e, l⟩
  · exact .inl h
  · exact .inr ⟨g, sp, e, l.below b l.lt⟩
theorem Strs.there {w : World} {a : Option Addr} {ls : List Txt} (h : Strs w a ls) {k : Nat} (hk : k < ls.length) : ∃ g, a = some ⟨g, 0, none⟩ ∧ w.cell? ⟨g, k, none⟩ = some (.string (str ls[k])) ∧ g < w.heap.size := by
  rcases h with rfl | ⟨g, sp, e, l⟩
  · simp at hk
  · refine ⟨g, e, ?_, l.lt⟩
    rw [l.cell, List.getElem?_append_left (by rw [strs_len]; exact hk), List.getElem?_eq_getElem (by rw [strs_len]; exact hk), strs_get hk]

/-- The map at mp reads as the names nm, of at most n entries. -/
def TagMapN (w : World) (mp : Nat) (nm : List Txt) (n : Nat) : Prop :=
  ∃ D : DataW Unit, w.ownsMap Tryd.prog 9 (plainElem Tryd.prog 3) mp n D ∧ ∀ x : Txt, Maps.has D (.string x) = (posF x nm 0).isSome ∧ ∀ k, posF x nm 0 = some k → D.atKey (.string x) (.lit (.int .i64 0)) = .lit (.int .i64 (k : Nat))
theorem TagMapN.tag {w : World} {mp : Nat} {nm : List Txt} {n : Nat} (h : TagMapN w mp nm n) : TagMap w mp nm := by
  obtain ⟨D, h1, h2⟩ := h
  exact ⟨n, D, h1, h2⟩
theorem lit_str_ne {x y : Txt} (h : ¬ x = y) : (Lit.string x) ≠ .string y := fun e => h (by injection e)
theorem tags_put {D : DataW Unit} (hm : IsMap D) {nm : List Txt} {y : Txt} (hD : ∀ x : Txt, Maps.has D (.string x) = (posF x nm 0).isSome ∧ ∀ k, posF x nm 0 = some k → D.atKey (.string x) (.lit (.int .i64 0)) = .lit (.int .i64 (k : Nat)))
    (hy : Maps.has D (.string y) = false) : ∀ x : Txt, Maps.has (D.put (.string y) (.lit (.int .i64 (nm.length : Nat)))) (.string x) = (posF x (nm ++ [y]) 0).isSome ∧
      ∀ k, posF x (nm ++ [y]) 0 = some k → (D.put (.string y) (.lit (.int .i64 (nm.length : Nat)))).atKey (.string x) (.lit (.int .i64 0)) = .lit (.int .i64 (k : Nat)) := by
  intro x
  rw [posF_snoc]
  by_cases h : y = x
  · subst h
    have hkl : WideAt.IsKeyLit (.string y) := trivial
    rw [has_put_same hm hkl, atKey_put_same hm hkl]
    have h1 := (hD y).1
    rw [hy] at h1
    cases hp : posF y nm 0 with
    | some j => rw [hp] at h1; cases h1
    | none => simp
  · rw [has_put_other (lit_str_ne (Ne.symm h)), atKey_put_other (lit_str_ne (Ne.symm h)), (hD x).1]
    cases hp : posF x nm 0 with
    | some j => exact ⟨rfl, fun k e => (hD x).2 k (by rw [hp]; exact e)⟩
    | none => simp [h]
theorem tags_same {D : DataW Unit} {nm : List Txt} {y : Txt} (hD : ∀ x : Txt, Maps.has D (.string x) = (posF x nm 0).isSome ∧ ∀ k, posF x nm 0 = some k → D.atKey (.string x) (.lit (.int .i64 0)) = .lit (.int .i64 (k : Nat)))
    (hy : Maps.has D (.string y) = true) : ∀ x : Txt, Maps.has D (.string x) = (posF x (nm ++ [y]) 0).isSome ∧ ∀ k, posF x (nm ++ [y]) 0 = some k → D.atKey (.string x) (.lit (.int .i64 0)) = .lit (.int .i64 (k : Nat)) := by
  intro x
  rw [posF_snoc, (hD x).1]
  cases hp : posF x nm 0 with
  | some j => exact ⟨rfl, fun k e => (hD x).2 k (by rw [hp]; exact e)⟩
  | none =>
    by_cases h : y = x
    · subst h
      have h1 := (hD y).1
      rw [hy, hp] at h1
      cases h1
    · simp [h]
theorem run_makeMap_hint (n : Int) (w : World) : (Instr.makeMap 61 (some (.int .i64 n))).run Tryd.prog w = .ok (.map (some w.heap.size)) (w.alloc (.map #[] 0)) := by
  simp [Instr.makeMap, go_sem]
/-- Where the loop of numbers stands. -/
structure NumSt (w wr : World) (nm : List Txt) (k : Nat) : Prop where
  map : TagMapN wr w.heap.size (nm.take k) k
  bel : Below w.heap.size w wr
theorem take_snoc' {nm : List Txt} {k : Nat} (h : k < nm.length) : nm.take (k + 1) = nm.take k ++ [nm[k]] := List.take_succ_eq_append_getElem h
/-- What a call that makes the map of names comes to. -/
def MakesMap (nm : List Txt) (w : World) (e : Ending) (w' : World) : Prop := ∃ mp, e = .returned (.map (some mp)) ∧ w.heap.size ≤ mp ∧ TagMap w' mp nm ∧ mp < w'.heap.size ∧ Below w.heap.size w w'
set_option maxRecDepth 100000 in
set_option maxHeartbeats 4000000 in
theorem numbers_any (nm : List Txt) (a : Option Addr) (c : Nat) (w : World) (S : Strs w a nm) (hn : nm.length ≤ 1000000) (hx : ∀ x ∈ nm, x.length ≤ maxLen) :
    Calls Tryd.prog 22 #[.slice a nm.length c] w (MakesMap nm w) := by
  have hmm := run_makeMap_hint
  have H0 : Hid (NumSt w (w.alloc (.map #[] 0)) nm 0) := Lib.hid ⟨⟨.map [], World.ownsMap_made w _ _ _, fun x => ⟨rfl, fun k e => by simp [posF] at e⟩⟩, (Below.refl _ _).alloc (Nat.le_refl _) _⟩
  have HS := Lib.hid S
  have HX := Lib.hid hx
  clear S hx
  obtain ⟨n, hnn⟩ : ∃ n, n = nm.length := ⟨_, rfl⟩
  rw [← hnn] at hn ⊢
  have HN := Lib.hid hnn
  clear hnn
  go_enter Tryd.func22, Tryd.ntmps22
  go_wp2_with (fail)
  go_loopw [4, 5, 6, 7, 13] (fun _ _ _ _ i wr => ∃ k : Nat, k ≤ n ∧ i = .int .i64 k ∧ Hid (NumSt w wr nm k)) (fun _ _ _ _ i _ => n - (intOf i).toNat)
  case atStart => exact ⟨0, Nat.zero_le _, rfl, H0⟩
  case round =>
    clear H0 hmm
    obtain ⟨k, hk, rfl, HR⟩ := hrel
    by_cases hlt : k < n
    · have hkn : k < nm.length := by have := HN.out; omega
      obtain ⟨g, ha, hc, hg⟩ := HS.out.there hkn
      have hc' : wr.cell? ⟨g, k, none⟩ = some (.string (str nm[k])) := by rw [← hc]; exact HR.out.bel.cell (p := ⟨g, k, none⟩) hg
      subst ha
      have hkey : keyOf Tryd.prog 9 (.string (str nm[k])) = some (.string nm[k]) := Go.WideMaps.keyOf_string_mk Tryd.underlying9 (by rw [str_size]; exact HX.out _ (List.getElem_mem hkn))
      obtain ⟨D, hown, hD⟩ := HR.out.map
      have HO := Lib.hid hown
      have HKY := Lib.hid hkey
      have hT := take_snoc' hkn
      have HPUT : Hid (Maps.has D (.string nm[k]) = false → ∀ x : Txt, Maps.has (D.put (.string nm[k]) (.lit (.int .i64 (k : Nat)))) (.string x) = (posF x (nm.take (k + 1)) 0).isSome ∧
          ∀ j, posF x (nm.take (k + 1)) 0 = some j → (D.put (.string nm[k]) (.lit (.int .i64 (k : Nat)))).atKey (.string x) (.lit (.int .i64 0)) = .lit (.int .i64 (j : Nat))) := Lib.hid (fun hy => by
        have := tags_put (hown.tidy Tryd.law9).isMap hD hy
        rw [List.length_take, Nat.min_eq_left (by omega), ← hT] at this
        exact this)
      have HSAME : Hid (Maps.has D (.string nm[k]) = true → TagMapN wr w.heap.size (nm.take (k + 1)) (k + 1)) := Lib.hid (fun hy => ⟨D, hown.mono (Nat.le_succ _), by rw [hT]; exact tags_same hD hy⟩)
      clear hown hkey hD hT hc
      generalize nm[k] = y at *
      generalize str y = sy at *
      cases hy : Maps.has D (.string y) with
      | true =>
        have HM := Lib.hid (HSAME.out hy)
        clear HPUT HSAME
        go_wp2_with (at_lookup; refine wpList_lookup_own_ok_int _ rfl _ _ 61 rfl 9 3 .i64 Tryd.law9 Tryd.underlying61 Tryd.underlying3 (Tryd.zero3 _) w.heap.size k D rfl HO.out _ (.string y) rfl HKY.out ?_; intro c hat hwc; clear hat hwc)
        go_roundw
        case rel => exact ⟨k + 1, by omega, by go_num, Lib.hid ⟨HM.out, HR.out.bel⟩⟩
        case measure => simp [intOf]; omega
      | false =>
        have HM := Lib.hid (HPUT.out hy)
        clear HPUT HSAME
        go_wp2_with (first
          | (at_lookup; refine wpList_lookup_own_ok_int _ rfl _ _ 61 rfl 9 3 .i64 Tryd.law9 Tryd.underlying61 Tryd.underlying3 (Tryd.zero3 _) w.heap.size k D rfl HO.out _ (.string y) rfl HKY.out ?_; intro c hat hwc; clear hat hwc)
          | (at_mapUpdate; refine wpList_mapUpdate_own _ rfl _ _ _ 61 rfl 9 3 Tryd.law9 Tryd.underlying61 _ w.heap.size k D rfl HO.out (by unfold maxLen; omega) _ _ (.string y) rfl rfl HKY.out (.lit (.int .i64 (k : Nat))) [] (plainElem_int Tryd.underlying3 (WalkArith.wf_i64 (by omega))) ?_; intro w1 hown1 hgrow1; (have HO1 := Lib.hid hown1); (have HG1 := Lib.hid hgrow1); clear hown1 hgrow1))
        go_roundw
        case rel => exact ⟨k + 1, by omega, by go_num, Lib.hid ⟨⟨_, HO1.out, HM.out⟩, HR.out.bel.grown HG1.out HR.out.bel.size (fun j hj => by cases hj; exact Nat.le_refl _)⟩⟩
        case measure => simp [intOf]; omega
    · go_wp2
      go_ret
      have e : nm.take k = nm := List.take_of_length_le (by have := HN.out; omega)
      have M := HR.out.map
      rw [e] at M
      exact ⟨w.heap.size, rfl, Nat.le_refl _, M.tag, M.choose_spec.1.lt, HR.out.bel⟩
end Go.Proofs.YtkdejinhjdkkmaaDoor

/- Contract of the program's first: the token at the head of a text that is not empty; no condition but that it fits. -/
import Derived.Test.YtkdejinhjdkkmaaDoorI
import Derived.BigRegion
namespace Go.Proofs.YtkdejinhjdkkmaaDoor
open Go.ChangeShapes Go.WideShapes Go.ChangeAt Go.RowKit

/-- What first comes to at the text l. -/
def Firsts (l : Txt) (w : World) (e : Ending) (w' : World) : Prop :=
  ∃ (k n : Nat) (t : ByteArray), e = .returned (.tuple #[.agg #[.int .i64 (k : Nat), .int .i64 (n : Nat), .int .i64 0, .int .i64 0, .string t], .bool (okOf l)]) ∧ Below w.heap.size w w' ∧
    (okOf l = true → k = kindOf l ∧ n = numOf l ∧ t = str (l.take (lenOf l)))
theorem zero_tok (w : World) : Lies (w.alloc (.cells #[.int .i64 0, .int .i64 0, .int .i64 0, .int .i64 0, .string ⟨#[]⟩] 90)) w.heap.size 90 [.int .i64 0, .int .i64 0, .int .i64 0, .int .i64 0, .string ⟨#[]⟩] := Lies.new w 90 _
theorem ext_take (s : ByteArray) (k : Nat) : s.extract 0 k = str (s.data.toList.take k) := by rw [Lib.extract_eq, List.drop_zero, Nat.sub_zero]; rfl
theorem ext_take' (s : ByteArray) (k : Nat) : (s.extract 0 k).data.toList = s.data.toList.take k := by rw [Lib.extract_data, List.drop_zero, Nat.sub_zero]
theorem take_span (p : UInt8 → Bool) : ∀ l : Txt, l.take (span p l) = l.takeWhile p
  | [] => by simp [span]
  | c :: r => by
    rw [span_cons, List.takeWhile_cons]
    cases h : p c with
    | false => simp
    | true => simp only [if_true, List.take_succ_cons, take_span p r]
theorem all_take (p : UInt8 → Bool) (l : Txt) : ∀ x ∈ l.takeWhile p, p x = true := fun x h => by
  have := List.all_takeWhile (l := l) (p := p)
  rw [List.all_eq_true] at this
  exact this x h
theorem digits_take (p : UInt8 → Bool) (s t : ByteArray) (h : t = s.extract 0 (span p s.data.toList)) : ∀ j (h : j < t.size), p t[j] = true := by
  intro j hj
  have : t[j] ∈ t.data.toList := List.getElem_mem (l := t.data.toList) (n := j) (by rw [size_list]; exact hj)
  have e : t.data.toList = s.data.toList.takeWhile p := by rw [h, ext_take', take_span]
  rw [e] at this
  exact all_take p _ _ this
theorem head_at (s : ByteArray) (h : 0 < s.size) : s.data.toList = s[0] :: s.data.toList.drop 1 := by have := drop_at s 0 h; rwa [List.drop_zero] at this
theorem of_letter {l r : Txt} {c : UInt8} (hl : l = c :: r) (h : letter c = true) : okOf l = isWord (l.take (span inWord l)) ∧ kindOf l = 1 ∧ lenOf l = span inWord l ∧ numOf l = 0 := by
  subst hl
  have hk : kindOf (c :: r) = 1 := by simp [kindOf, h]
  refine ⟨?_, hk, by simp [lenOf, h], by simp [numOf, hk]⟩
  rw [Bool.eq_iff_iff, take_span]
  have hsp : span inWord (c :: r) = ((c :: r).takeWhile inWord).length := rfl
  have hw := all_take inWord (c :: r)
  rw [List.takeWhile_cons, if_pos (letter_word h)] at hsp hw ⊢
  unfold okOf isWord
  simp only [h, if_true, decide_eq_true_eq, Bool.true_and, Bool.and_eq_true, List.all_eq_true]
  rw [hsp, List.length_cons]
  constructor
  · intro k; exact ⟨fun x hx => hw x (List.mem_cons_of_mem _ hx), by omega⟩
  · intro ⟨_, k⟩; omega
theorem of_digit {l r : Txt} {c : UInt8} (hl : l = c :: r) (h : letter c = false) (h2 : digit c = true) : okOf l = okNum (l.take (span digit l)) ∧ kindOf l = 2 ∧ lenOf l = span digit l ∧ numOf l = num (l.take (span digit l)) := by
  subst hl
  have hk : kindOf (c :: r) = 2 := by simp [kindOf, h, h2]
  have hn : lenOf (c :: r) = span digit (c :: r) := by simp [lenOf, h, h2]
  refine ⟨?_, hk, hn, by simp [numOf, hk, hn]⟩
  have hle := span_le digit (c :: r)
  unfold okOf okNum
  simp only [h, h2, if_true]
  rw [List.length_take, Nat.min_eq_left hle]
  have : ((c :: r).take (span digit (c :: r))).head? = some c := by rw [span_cons, if_pos h2]; rfl
  rw [this]
  simp
theorem of_sign {l r : Txt} {c : UInt8} (hl : l = c :: r) (h : letter c = false) (h2 : digit c = false) : okOf l = sign c ∧ lenOf l = 1 ∧ numOf l = 0 ∧ (sign c = true → kindOf l = 3) := by
  subst hl
  refine ⟨by simp [okOf, h, h2], by simp [lenOf, h, h2], ?_, fun hs => by simp [kindOf, h, h2, hs]⟩
  have hk : ¬ kindOf (c :: r) = 2 := by
    simp only [kindOf, h, h2]
    cases sign c <;> simp
  simp [numOf, hk]

theorem first_letter (s : ByteArray) (w : World) (h0 : 0 < s.size) (hs : s.size ≤ 16384) (hl : letter s[0] = true) : Calls Tryd.prog 41 #[.string s] w (Firsts s.data.toList w) := by
  have C1 := Lib.hid (fun w => lletter s[0] w)
  have CS := Lib.hid (fun w => span_word s w (by unfold maxLen; omega))
  have h0i : (0 : Int) < (s.size : Int) := by omega
  obtain ⟨e1, e2, e3, e4⟩ := of_letter (head_at s h0) hl
  have hm : span inWord s.data.toList ≤ s.size := by have := span_le inWord s.data.toList; rwa [size_list] at this
  have CW := Lib.hid (fun w => lword (s.extract 0 (span inWord s.data.toList)) w (by unfold maxLen; rw [ByteArray.size_extract]; omega))
  rw [ext_take', ← e1] at CW
  rw [hl] at C1
  have HF : Hid (∀ e w', e = .returned (.tuple #[.agg #[.int .i64 1, .int .i64 0, .int .i64 0, .int .i64 0, .string (s.extract 0 (span inWord s.data.toList))], .bool (okOf s.data.toList)]) → Below w.heap.size w w' → Firsts s.data.toList w e w') := Lib.hid (fun e w' he hb => ⟨1, 0, _, he, hb, fun _ => ⟨e2.symm, e4.symm, by rw [ext_take, e3]⟩⟩)
  clear e1 e2 e3 e4
  generalize Firsts s.data.toList w = F at HF ⊢
  generalize okOf s.data.toList = b at CW HF
  generalize span inWord s.data.toList = m at CS hm CW HF
  go_enter Tryd.func41, Tryd.ntmps41
  go_wp2_with (fail)
  refine (C1.out _).mono ?_
  rintro e w' ⟨rfl, rfl⟩
  have L := zero_tok w
  have B := (Below.refl w.heap.size w).alloc (Nat.le_refl _) (.cells #[.int .i64 0, .int .i64 0, .int .i64 0, .int .i64 0, .string ⟨#[]⟩] 90)
  generalize w.alloc (.cells #[.int .i64 0, .int .i64 0, .int .i64 0, .int .i64 0, .string ⟨#[]⟩] 90) = W at L B ⊢
  obtain ⟨g, hg⟩ : ∃ g, g = w.heap.size := ⟨_, rfl⟩
  rw [← hg] at L ⊢
  have HG := Lib.hid hg
  have HL := Lib.hid L
  have HB := Lib.hid B
  have c0 : W.cell? ⟨g, 0, none⟩ = some (.int .i64 0) := L.cell 0
  have c1 : W.cell? ⟨g, 1, none⟩ = some (.int .i64 0) := L.cell 1
  have c2 : W.cell? ⟨g, 2, none⟩ = some (.int .i64 0) := L.cell 2
  have c3 : W.cell? ⟨g, 3, none⟩ = some (.int .i64 0) := L.cell 3
  have c4 : W.cell? ⟨g, 4, none⟩ = some (.string ⟨#[]⟩) := L.cell 4
  have fz := L.frozen
  clear hg L B hl
  go_wp2_with (fail)
  go_region_with ((go_at_call 60; refine (CS.out _).mono ?_; rintro e w' ⟨rfl, rfl⟩))
  have L2 : Lies ((W.setCell ⟨g, 0, none⟩ (.int .i64 1)).setCell ⟨g, 4, none⟩ (.string (s.extract 0 m))).drew g 90 [.int .i64 1, .int .i64 0, .int .i64 0, .int .i64 0, .string (s.extract 0 m)] := (HL.out.set 0 _).set 4 _
  have B2 : Below w.heap.size w ((W.setCell ⟨g, 0, none⟩ (.int .i64 1)).setCell ⟨g, 4, none⟩ (.string (s.extract 0 m))).drew := (((HB.out.setCell (p := ⟨g, 0, none⟩) (Nat.le_of_eq HG.out.symm) _).setCell (p := ⟨g, 4, none⟩) (Nat.le_of_eq HG.out.symm) _)).drew
  clear c0 c1 c2 c3 c4 fz HL HB
  generalize ((W.setCell ⟨g, 0, none⟩ (.int .i64 1)).setCell ⟨g, 4, none⟩ (.string (s.extract 0 m))).drew = W2 at L2 B2 ⊢
  have c0 : W2.cell? ⟨g, 0, none⟩ = some (.int .i64 1) := L2.cell 0
  have c1 : W2.cell? ⟨g, 1, none⟩ = some (.int .i64 0) := L2.cell 1
  have c2 : W2.cell? ⟨g, 2, none⟩ = some (.int .i64 0) := L2.cell 2
  have c3 : W2.cell? ⟨g, 3, none⟩ = some (.int .i64 0) := L2.cell 3
  have c4 : W2.cell? ⟨g, 4, none⟩ = some (.string (s.extract 0 m)) := L2.cell 4
  have fz := L2.frozen
  have HL := Lib.hid L2
  have HB := Lib.hid B2
  clear L2 B2
  generalize s.extract 0 m = t at *
  go_wp2_with (fail)
  go_region_with ((go_at_call 54; refine (CW.out _).mono ?_; rintro e w' ⟨rfl, rfl⟩))
  all_goals
    go_wp2
    refine bodyPost_ret (v := .tuple #[.agg #[.int .i64 1, .int .i64 0, .int .i64 0, .int .i64 0, .string t], .bool b]) (by simp [results, Tryd.results41, go_sem, c0, c1, c2, c3, c4]) rfl (HF.out _ _ rfl ?_)
    exact (((((HB.out.setCell (Nat.le_of_eq HG.out.symm) _).setCell (Nat.le_of_eq HG.out.symm) _).setCell (Nat.le_of_eq HG.out.symm) _).setCell (Nat.le_of_eq HG.out.symm) _).setCell (Nat.le_of_eq HG.out.symm) _).drew

theorem lnumber_any (s : ByteArray) (hd : Hid (∀ j (h : j < s.size), digit s[j] = true)) (hs : s.size ≤ maxLen) :
    ∃ n : Nat, (okNum s.data.toList = true → n = num s.data.toList) ∧ ∀ w, Calls Tryd.prog 65 #[.string s] w fun e w' => e = .returned (.tuple #[.int .i64 (n : Nat), .bool (okNum s.data.toList)]) ∧ w = w' := by
  cases h : okNum s.data.toList with
  | true => exact ⟨num s.data.toList, fun _ => rfl, fun w => lnumber_yes s w h hd⟩
  | false => exact ⟨0, (fun e => by cases e), fun w => lnumber_no s w h hs⟩

theorem first_digit (s : ByteArray) (w : World) (h0 : 0 < s.size) (hs : s.size ≤ 16384) (hl : letter s[0] = false) (hd : digit s[0] = true) : Calls Tryd.prog 41 #[.string s] w (Firsts s.data.toList w) := by
  have C1 := Lib.hid (fun w => lletter s[0] w)
  have C2 := Lib.hid (fun w => ldigit s[0] w)
  have CS := Lib.hid (fun w => span_digit s w (by unfold maxLen; omega))
  have h0i : (0 : Int) < (s.size : Int) := by omega
  obtain ⟨e1, e2, e3, e4⟩ := of_digit (head_at s h0) hl hd
  have hm : span digit s.data.toList ≤ s.size := by have := span_le digit s.data.toList; rwa [size_list] at this
  obtain ⟨n, hn, cn⟩ := lnumber_any (s.extract 0 (span digit s.data.toList)) (Lib.hid (digits_take digit s _ rfl)) (by unfold maxLen; rw [ByteArray.size_extract]; omega)
  rw [ext_take', ← e1] at hn cn
  have CW := Lib.hid cn
  clear cn
  rw [hl] at C1
  rw [hd] at C2
  have HF : Hid (∀ e w', e = .returned (.tuple #[.agg #[.int .i64 2, .int .i64 (n : Nat), .int .i64 0, .int .i64 0, .string (s.extract 0 (span digit s.data.toList))], .bool (okOf s.data.toList)]) → Below w.heap.size w w' → Firsts s.data.toList w e w') := Lib.hid (fun e w' he hb => ⟨2, n, _, he, hb, fun hh => ⟨e2.symm, by rw [e4]; exact hn hh, by rw [ext_take, e3]⟩⟩)
  clear e1 e2 e3 e4 hn
  generalize Firsts s.data.toList w = F at HF ⊢
  generalize okOf s.data.toList = b at CW HF
  generalize span digit s.data.toList = m at CS hm CW HF
  go_enter Tryd.func41, Tryd.ntmps41
  go_wp2_with (fail)
  refine (C1.out _).mono ?_
  rintro e w' ⟨rfl, rfl⟩
  have L := zero_tok w
  have B := (Below.refl w.heap.size w).alloc (Nat.le_refl _) (.cells #[.int .i64 0, .int .i64 0, .int .i64 0, .int .i64 0, .string ⟨#[]⟩] 90)
  generalize w.alloc (.cells #[.int .i64 0, .int .i64 0, .int .i64 0, .int .i64 0, .string ⟨#[]⟩] 90) = W at L B ⊢
  obtain ⟨g, hg⟩ : ∃ g, g = w.heap.size := ⟨_, rfl⟩
  rw [← hg] at L ⊢
  have HG := Lib.hid hg
  have HL := Lib.hid L
  have HB := Lib.hid B
  have c0 : W.cell? ⟨g, 0, none⟩ = some (.int .i64 0) := L.cell 0
  have c1 : W.cell? ⟨g, 1, none⟩ = some (.int .i64 0) := L.cell 1
  have c2 : W.cell? ⟨g, 2, none⟩ = some (.int .i64 0) := L.cell 2
  have c3 : W.cell? ⟨g, 3, none⟩ = some (.int .i64 0) := L.cell 3
  have c4 : W.cell? ⟨g, 4, none⟩ = some (.string ⟨#[]⟩) := L.cell 4
  have fz := L.frozen
  clear hg L B hl hd
  go_wp2_with (fail)
  refine (C2.out _).mono ?_
  rintro e w' ⟨rfl, rfl⟩
  go_wp2_with (fail)
  go_region_with ((go_at_call 60; refine (CS.out _).mono ?_; rintro e w' ⟨rfl, rfl⟩))
  have L2 : Lies ((W.setCell ⟨g, 0, none⟩ (.int .i64 2)).setCell ⟨g, 4, none⟩ (.string (s.extract 0 m))).drew g 90 [.int .i64 2, .int .i64 0, .int .i64 0, .int .i64 0, .string (s.extract 0 m)] := (HL.out.set 0 _).set 4 _
  have B2 : Below w.heap.size w ((W.setCell ⟨g, 0, none⟩ (.int .i64 2)).setCell ⟨g, 4, none⟩ (.string (s.extract 0 m))).drew := (((HB.out.setCell (p := ⟨g, 0, none⟩) (Nat.le_of_eq HG.out.symm) _).setCell (p := ⟨g, 4, none⟩) (Nat.le_of_eq HG.out.symm) _)).drew
  clear c0 c1 c2 c3 c4 fz HL HB
  generalize ((W.setCell ⟨g, 0, none⟩ (.int .i64 2)).setCell ⟨g, 4, none⟩ (.string (s.extract 0 m))).drew = W2 at L2 B2 ⊢
  have c0 : W2.cell? ⟨g, 0, none⟩ = some (.int .i64 2) := L2.cell 0
  have c1 : W2.cell? ⟨g, 1, none⟩ = some (.int .i64 0) := L2.cell 1
  have c2 : W2.cell? ⟨g, 2, none⟩ = some (.int .i64 0) := L2.cell 2
  have c3 : W2.cell? ⟨g, 3, none⟩ = some (.int .i64 0) := L2.cell 3
  have c4 : W2.cell? ⟨g, 4, none⟩ = some (.string (s.extract 0 m)) := L2.cell 4
  have fz := L2.frozen
  have HL := Lib.hid L2
  have HB := Lib.hid B2
  clear L2 B2
  generalize s.extract 0 m = t at *
  go_wp2_with (fail)
  refine (CW.out _).mono ?_
  rintro e w' ⟨rfl, rfl⟩
  go_wp2
  refine bodyPost_ret (v := .tuple #[.agg #[.int .i64 2, .int .i64 (n : Nat), .int .i64 0, .int .i64 0, .string t], .bool b]) (by simp [results, Tryd.results41, go_sem, c0, c1, c2, c3, c4]) rfl (HF.out _ _ rfl ?_)
  exact ((((((HB.out.setCell (Nat.le_of_eq HG.out.symm) _).setCell (Nat.le_of_eq HG.out.symm) _).setCell (Nat.le_of_eq HG.out.symm) _).setCell (Nat.le_of_eq HG.out.symm) _).setCell (Nat.le_of_eq HG.out.symm) _).setCell (Nat.le_of_eq HG.out.symm) _)

theorem first_sign (s : ByteArray) (w : World) (h0 : 0 < s.size) (hs : s.size ≤ 16384) (hl : letter s[0] = false) (hd : digit s[0] = false) (hg : sign s[0] = true) : Calls Tryd.prog 41 #[.string s] w (Firsts s.data.toList w) := by
  have C1 := Lib.hid (fun w => lletter s[0] w)
  have C2 := Lib.hid (fun w => ldigit s[0] w)
  have C3 := Lib.hid (fun w => lsign s[0] w)
  have h0i : (0 : Int) < (s.size : Int) := by omega
  have h1i : (1 : Int) ≤ (s.size : Int) := by omega
  obtain ⟨e1, e2, e3, e4⟩ := of_sign (head_at s h0) hl hd
  rw [hl] at C1
  rw [hd] at C2
  rw [hg] at C3 e1
  have HF : Hid (∀ e w', e = .returned (.tuple #[.agg #[.int .i64 3, .int .i64 0, .int .i64 0, .int .i64 0, .string (s.extract 0 1)], .bool true]) → Below w.heap.size w w' → Firsts s.data.toList w e w') := Lib.hid (fun e w' he hb => ⟨3, 0, _, by rw [e1]; exact he, hb, fun hh => ⟨(e4 hg).symm, e3.symm, by rw [ext_take, e2]⟩⟩)
  clear e1 e2 e3 e4
  generalize Firsts s.data.toList w = F at HF ⊢
  go_enter Tryd.func41, Tryd.ntmps41
  go_wp2_with (fail)
  refine (C1.out _).mono ?_
  rintro e w' ⟨rfl, rfl⟩
  have L := zero_tok w
  have B := (Below.refl w.heap.size w).alloc (Nat.le_refl _) (.cells #[.int .i64 0, .int .i64 0, .int .i64 0, .int .i64 0, .string ⟨#[]⟩] 90)
  generalize w.alloc (.cells #[.int .i64 0, .int .i64 0, .int .i64 0, .int .i64 0, .string ⟨#[]⟩] 90) = W at L B ⊢
  obtain ⟨g, hg⟩ : ∃ g, g = w.heap.size := ⟨_, rfl⟩
  rw [← hg] at L ⊢
  have HG := Lib.hid hg
  have HL := Lib.hid L
  have HB := Lib.hid B
  have c0 : W.cell? ⟨g, 0, none⟩ = some (.int .i64 0) := L.cell 0
  have c1 : W.cell? ⟨g, 1, none⟩ = some (.int .i64 0) := L.cell 1
  have c2 : W.cell? ⟨g, 2, none⟩ = some (.int .i64 0) := L.cell 2
  have c3 : W.cell? ⟨g, 3, none⟩ = some (.int .i64 0) := L.cell 3
  have c4 : W.cell? ⟨g, 4, none⟩ = some (.string ⟨#[]⟩) := L.cell 4
  have fz := L.frozen
  clear hg L B hl hd
  go_wp2_with (fail)
  refine (C2.out _).mono ?_
  rintro e w' ⟨rfl, rfl⟩
  go_wp2_with (fail)
  refine (C3.out _).mono ?_
  rintro e w' ⟨rfl, rfl⟩
  go_wp2_with (fail)
  go_region
  have L2 : Lies ((W.setCell ⟨g, 0, none⟩ (.int .i64 3)).setCell ⟨g, 4, none⟩ (.string (s.extract 0 1))).drew g 90 [.int .i64 3, .int .i64 0, .int .i64 0, .int .i64 0, .string (s.extract 0 1)] := (HL.out.set 0 _).set 4 _
  have B2 : Below w.heap.size w ((W.setCell ⟨g, 0, none⟩ (.int .i64 3)).setCell ⟨g, 4, none⟩ (.string (s.extract 0 1))).drew := (((HB.out.setCell (p := ⟨g, 0, none⟩) (Nat.le_of_eq HG.out.symm) _).setCell (p := ⟨g, 4, none⟩) (Nat.le_of_eq HG.out.symm) _)).drew
  clear c0 c1 c2 c3 c4 fz HL HB
  generalize ((W.setCell ⟨g, 0, none⟩ (.int .i64 3)).setCell ⟨g, 4, none⟩ (.string (s.extract 0 1))).drew = W2 at L2 B2 ⊢
  have c0 : W2.cell? ⟨g, 0, none⟩ = some (.int .i64 3) := L2.cell 0
  have c1 : W2.cell? ⟨g, 1, none⟩ = some (.int .i64 0) := L2.cell 1
  have c2 : W2.cell? ⟨g, 2, none⟩ = some (.int .i64 0) := L2.cell 2
  have c3 : W2.cell? ⟨g, 3, none⟩ = some (.int .i64 0) := L2.cell 3
  have c4 : W2.cell? ⟨g, 4, none⟩ = some (.string (s.extract 0 1)) := L2.cell 4
  have fz := L2.frozen
  have HL := Lib.hid L2
  have HB := Lib.hid B2
  clear L2 B2
  generalize s.extract 0 1 = t at *
  go_wp2
  refine bodyPost_ret (v := .tuple #[.agg #[.int .i64 3, .int .i64 0, .int .i64 0, .int .i64 0, .string t], .bool true]) (by simp [results, Tryd.results41, go_sem, c0, c1, c2, c3, c4]) rfl (HF.out _ _ rfl ?_)
  exact (((((HB.out.setCell (Nat.le_of_eq HG.out.symm) _).setCell (Nat.le_of_eq HG.out.symm) _).setCell (Nat.le_of_eq HG.out.symm) _).setCell (Nat.le_of_eq HG.out.symm) _).setCell (Nat.le_of_eq HG.out.symm) _)

theorem first_none (s : ByteArray) (w : World) (h0 : 0 < s.size) (hs : s.size ≤ 16384) (hl : letter s[0] = false) (hd : digit s[0] = false) (hg : sign s[0] = false) : Calls Tryd.prog 41 #[.string s] w (Firsts s.data.toList w) := by
  have C1 := Lib.hid (fun w => lletter s[0] w)
  have C2 := Lib.hid (fun w => ldigit s[0] w)
  have C3 := Lib.hid (fun w => lsign s[0] w)
  have h0i : (0 : Int) < (s.size : Int) := by omega
  obtain ⟨e1, e2, e3, e4⟩ := of_sign (head_at s h0) hl hd
  rw [hl] at C1
  rw [hd] at C2
  rw [hg] at C3 e1
  have HF : Hid (∀ e w', e = .returned (.tuple #[.agg #[.int .i64 0, .int .i64 0, .int .i64 0, .int .i64 0, .string ⟨#[]⟩], .bool false]) → Below w.heap.size w w' → Firsts s.data.toList w e w') := Lib.hid (fun e w' he hb => ⟨0, 0, _, by rw [e1]; exact he, hb, fun hh => by rw [e1] at hh; cases hh⟩)
  clear e1 e2 e3 e4
  generalize Firsts s.data.toList w = F at HF ⊢
  go_enter Tryd.func41, Tryd.ntmps41
  go_wp2_with (fail)
  refine (C1.out _).mono ?_
  rintro e w' ⟨rfl, rfl⟩
  have L := zero_tok w
  have B := (Below.refl w.heap.size w).alloc (Nat.le_refl _) (.cells #[.int .i64 0, .int .i64 0, .int .i64 0, .int .i64 0, .string ⟨#[]⟩] 90)
  generalize w.alloc (.cells #[.int .i64 0, .int .i64 0, .int .i64 0, .int .i64 0, .string ⟨#[]⟩] 90) = W at L B ⊢
  obtain ⟨g, hg⟩ : ∃ g, g = w.heap.size := ⟨_, rfl⟩
  rw [← hg] at L ⊢
  have HG := Lib.hid hg
  have HL := Lib.hid L
  have HB := Lib.hid B
  have c0 : W.cell? ⟨g, 0, none⟩ = some (.int .i64 0) := L.cell 0
  have c1 : W.cell? ⟨g, 1, none⟩ = some (.int .i64 0) := L.cell 1
  have c2 : W.cell? ⟨g, 2, none⟩ = some (.int .i64 0) := L.cell 2
  have c3 : W.cell? ⟨g, 3, none⟩ = some (.int .i64 0) := L.cell 3
  have c4 : W.cell? ⟨g, 4, none⟩ = some (.string ⟨#[]⟩) := L.cell 4
  have fz := L.frozen
  clear hg L B hl hd
  go_wp2_with (fail)
  refine (C2.out _).mono ?_
  rintro e w' ⟨rfl, rfl⟩
  go_wp2_with (fail)
  refine (C3.out _).mono ?_
  rintro e w' ⟨rfl, rfl⟩
  go_wp2
  refine bodyPost_ret (v := .tuple #[.agg #[.int .i64 0, .int .i64 0, .int .i64 0, .int .i64 0, .string ⟨#[]⟩], .bool false]) (by simp [results, Tryd.results41, go_sem, c0, c1, c2, c3, c4]) rfl (HF.out _ _ rfl ?_)
  exact (((((HB.out.setCell (Nat.le_of_eq HG.out.symm) _).setCell (Nat.le_of_eq HG.out.symm) _).setCell (Nat.le_of_eq HG.out.symm) _).setCell (Nat.le_of_eq HG.out.symm) _).setCell (Nat.le_of_eq HG.out.symm) _)

theorem first_any (s : ByteArray) (w : World) (h0 : 0 < s.size) (hs : s.size ≤ 16384) : Calls Tryd.prog 41 #[.string s] w (Firsts s.data.toList w) := by
  cases hl : letter s[0] with
  | true => exact first_letter s w h0 hs hl
  | false =>
    cases hd : digit s[0] with
    | true => exact first_digit s w h0 hs hl hd
    | false =>
      cases hg : sign s[0] with
      | true => exact first_sign s w h0 hs hl hd hg
      | false => exact first_none s w h0 hs hl hd hg
end Go.Proofs.YtkdejinhjdkkmaaDoor

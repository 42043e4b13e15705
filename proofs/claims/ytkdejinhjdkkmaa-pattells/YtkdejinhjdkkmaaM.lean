/- Contract of the reference's piece: the token at a place of a text; the condition: the place is within the text. -/
import Derived.Test.YtkdejinhjdkkmaaK
namespace Go.Proofs.Ytkdejinhjdkkmaa
open Go.ChangeShapes Go.WideShapes Go.ChangeAt Go.RowKit

def pieceK (l : Txt) : Nat := if okOf l = true then kindOf l else 0
def pieceE (l : Txt) (i : Nat) : Nat := if okOf l = true then i + lenOf l else 0
theorem span_drop (p : UInt8 → Bool) (s : ByteArray) (i j : Nat) (h : i + j < s.size) : (j < span p (s.data.toList.drop i) → p s[i + j] = true) ∧ (j = span p (s.data.toList.drop i) → p s[i + j] = false) := by
  have hl : j < (s.data.toList.drop i).length := by rw [List.length_drop, size_list]; omega
  have := span_list p (s.data.toList.drop i) j hl
  rw [List.getElem_drop] at this
  exact this
theorem span_drop_le (p : UInt8 → Bool) (s : ByteArray) (i : Nat) (h : i ≤ s.size) : i + span p (s.data.toList.drop i) ≤ s.size := by
  have := span_le p (s.data.toList.drop i)
  rw [List.length_drop, size_list] at this
  omega
theorem word_parts (c : UInt8) : (inWord c = true ↔ letter c = true ∨ digit c = true ∨ (c.toNat : Int) = 95) := by
  constructor
  · intro h
    cases h1 : letter c with
    | true => exact .inl rfl
    | false =>
      cases h2 : digit c with
      | true => exact .inr (.inl rfl)
      | false =>
        refine .inr (.inr ?_)
        by_cases h3 : (c.toNat : Int) = 95
        · exact h3
        · rw [not_inWord h1 h2 h3] at h; cases h
  · exact inWord_of

set_option maxHeartbeats 2000000 in
theorem piece_letter (s : ByteArray) (i : Nat) (w : World) (h0 : i < s.size) (hs : s.size ≤ 16384) (hl : letter s[i] = true) :
    Calls Try.prog 45 #[.string s, .int .i64 (i : Nat)] w fun e w' => e = .returned (.tuple #[.int .i64 (pieceK (s.data.toList.drop i) : Nat), .int .i64 (pieceE (s.data.toList.drop i) i : Nat)]) ∧ w = w' := by
  have C1 := Lib.hid (rletter s[i] w)
  rw [hl] at C1
  obtain ⟨-, e2, e3, -⟩ := of_letter (drop_at s i h0) hl
  have e1 : okOf (s.data.toList.drop i) = decide (span inWord (s.data.toList.drop i) ≤ 16) := by rw [drop_at s i h0]; simp [okOf, hl]
  have hm := span_drop_le inWord s i (by omega)
  have HP := Lib.hid (fun j h => span_drop inWord s i j h)
  have EK : Hid (pieceK (s.data.toList.drop i) = if span inWord (s.data.toList.drop i) ≤ 16 then 1 else 0) := Lib.hid (by unfold pieceK; rw [e1, e2]; simp)
  have EE : Hid (pieceE (s.data.toList.drop i) i = if span inWord (s.data.toList.drop i) ≤ 16 then i + span inWord (s.data.toList.drop i) else 0) := Lib.hid (by unfold pieceE; rw [e1, e3]; simp)
  clear e1 e2 e3 hl
  generalize pieceK (s.data.toList.drop i) = pk at EK ⊢
  generalize pieceE (s.data.toList.drop i) i = pe at EE ⊢
  generalize span inWord (s.data.toList.drop i) = m at hm HP EK EE
  have hi1 : (i : Int) < (s.size : Int) := by omega
  go_enter Try.func45, Try.ntmps45
  go_wp2_with (fail)
  refine C1.out.mono ?_
  rintro e w' ⟨rfl, rfl⟩
  go_wp2
  go_loop [6] (fun x => ∃ j : Nat, j ≤ m ∧ x = .int .i64 (i + j : Nat)) (fun x => i + m - (intOf x).toNat)
  case atStart => exact ⟨0, Nat.zero_le _, rfl⟩
  case round =>
    obtain ⟨j, hj, rfl⟩ := hrel
    have fin : ∀ _ : j = m, (if m ≤ 16 then (pk = 1 ∧ pe = i + j) else (pk = 0 ∧ pe = 0)) := by
      intro e
      have h1 := EK.out
      have h2 := EE.out
      by_cases h : m ≤ 16
      · rw [if_pos h] at h1 h2 ⊢; exact ⟨h1, by omega⟩
      · rw [if_neg h] at h1 h2 ⊢; exact ⟨h1, h2⟩
    have FIN := Lib.hid fin
    clear fin
    obtain ⟨x, hx⟩ : ∃ x, x = i + j := ⟨_, rfl⟩
    rw [← hx]
    by_cases hlt : x < s.size
    · have hP := HP.out j (by omega)
      have c1 := rletter s[x] w
      have c2 := rdigit s[x] w
      have hxe : s[x] = s[i + j] := by subst hx; rfl
      rw [← hxe] at hP
      have HX := Lib.hid hx
      have hxm : x ≤ i + m := by omega
      have hxi : i ≤ x := by omega
      clear hxe hx
      by_cases hjm : j < m
      · have hw := (word_parts _).1 (hP.1 hjm)
        have hxm2 : x < i + m := by have := HX.out; omega
        clear hP
        have D1 := Lib.hid c1
        have D2 := Lib.hid c2
        clear c1 c2
        cases h1 : letter s[x] with
        | true =>
          rw [h1] at D1
          clear hw h1 D2
          go_wp2_with (fail)
          refine D1.out.mono ?_
          rintro e w' ⟨rfl, rfl⟩
          go_wp2
          go_round
          case rel => exact ⟨j + 1, by omega, by rw [HX.out]; go_num⟩
          case measure => simp [intOf]; omega
        | false =>
          rw [h1] at D1
          cases h2 : digit s[x] with
          | true =>
            rw [h2] at D2
            clear hw h1 h2
            go_wp2_with (fail)
            refine D1.out.mono ?_
            rintro e w' ⟨rfl, rfl⟩
            go_wp2_with (fail)
            refine D2.out.mono ?_
            rintro e w' ⟨rfl, rfl⟩
            go_wp2
            go_round
            case rel => exact ⟨j + 1, by omega, by rw [HX.out]; go_num⟩
            case measure => simp [intOf]; omega
          | false =>
            rw [h2] at D2
            have h3 : (s[x].toNat : Int) = 95 := by
              rcases hw with h | h | h
              · rw [h1] at h; cases h
              · rw [h2] at h; cases h
              · exact h
            have D1 := Lib.hid (by have := D1.out; rw [h3] at this; exact this)
            have D2 := Lib.hid (by have := D2.out; rw [h3] at this; exact this)
            have h3' : s[x].toNat = 95 := by omega
            clear hw h1 h2
            go_wp2_with (fail)
            refine D1.out.mono ?_
            rintro e w' ⟨rfl, rfl⟩
            go_wp2_with (fail)
            refine D2.out.mono ?_
            rintro e w' ⟨rfl, rfl⟩
            go_wp2
            go_round
            case rel => exact ⟨j + 1, by omega, by rw [HX.out]; go_num⟩
            case measure => simp [intOf]; omega
      · have hf := hP.2 (by omega)
        have hF := FIN.out (by omega)
        clear hP
        have hn : ¬ (letter s[x] = true ∨ digit s[x] = true ∨ (s[x].toNat : Int) = 95) := fun hh => by rw [(word_parts _).2 hh] at hf; cases hf
        have h1 : letter s[x] = false := by cases h : letter s[x] <;> simp_all
        have h2 : digit s[x] = false := by cases h : digit s[x] <;> simp_all
        have h3 : ¬ (s[x].toNat : Int) = 95 := fun h => hn (.inr (.inr h))
        rw [h1] at c1
        rw [h2] at c2
        have D1 := Lib.hid c1
        have D2 := Lib.hid c2
        have h3' : ¬ s[x].toNat = 95 := by omega
        clear c1 c2 hf hn h1 h2
        by_cases h16 : m ≤ 16
        · rw [if_pos h16] at hF
          have h17 : ¬ (16 : Int) < (x : Int) - (i : Int) := by have := HX.out; omega
          obtain ⟨rfl, hpe⟩ := hF
          have HPE := Lib.hid hpe; clear hpe
          go_wp2_with (fail)
          refine D1.out.mono ?_
          rintro e w' ⟨rfl, rfl⟩
          go_wp2_with (fail)
          refine D2.out.mono ?_
          rintro e w' ⟨rfl, rfl⟩
          go_wp2
          go_ret2
          exact ⟨by rw [HPE.out, ← HX.out]; rfl, rfl⟩
        · rw [if_neg h16] at hF
          have h17 : (16 : Int) < (x : Int) - (i : Int) := by have := HX.out; omega
          obtain ⟨rfl, rfl⟩ := hF
          go_wp2_with (fail)
          refine D1.out.mono ?_
          rintro e w' ⟨rfl, rfl⟩
          go_wp2_with (fail)
          refine D2.out.mono ?_
          rintro e w' ⟨rfl, rfl⟩
          go_wp2
          go_ret2
          exact ⟨rfl, rfl⟩
    · have HX := Lib.hid hx
      have hF := FIN.out (by omega)
      have hxm : x ≤ i + m := by omega
      have hxi : i ≤ x := by omega
      clear hx
      by_cases h16 : m ≤ 16
      · rw [if_pos h16] at hF
        have h17 : ¬ (16 : Int) < (x : Int) - (i : Int) := by have := HX.out; omega
        obtain ⟨rfl, hpe⟩ := hF
        have HPE := Lib.hid hpe; clear hpe
        go_wp2
        go_ret2
        exact ⟨by rw [HPE.out, ← HX.out]; rfl, rfl⟩
      · rw [if_neg h16] at hF
        have h17 : (16 : Int) < (x : Int) - (i : Int) := by have := HX.out; omega
        obtain ⟨rfl, rfl⟩ := hF
        go_wp2
        go_ret2
        exact ⟨rfl, rfl⟩

set_option maxHeartbeats 2000000 in
theorem piece_digit (s : ByteArray) (i : Nat) (w : World) (h0 : i < s.size) (hs : s.size ≤ 16384) (hl : letter s[i] = false) (hd : digit s[i] = true) :
    Calls Try.prog 45 #[.string s, .int .i64 (i : Nat)] w fun e w' => e = .returned (.tuple #[.int .i64 (pieceK (s.data.toList.drop i) : Nat), .int .i64 (pieceE (s.data.toList.drop i) i : Nat)]) ∧ w = w' := by
  have C1 := Lib.hid (rletter s[i] w)
  rw [hl] at C1
  have C2 := Lib.hid (rdigit s[i] w)
  rw [hd] at C2
  obtain ⟨-, e2, e3, -⟩ := of_digit (drop_at s i h0) hl hd
  have hcc : (s[i] == 48) = decide ((s[i].toNat : Int) = 48) := by
    rw [Bool.eq_iff_iff]; simp only [beq_iff_eq, decide_eq_true_eq, ← UInt8.toNat_inj]
    rw [show (48 : UInt8).toNat = 48 from rfl]; omega
  have e1 : okOf (s.data.toList.drop i) = (decide (span digit (s.data.toList.drop i) ≤ 9) && !(decide (1 < span digit (s.data.toList.drop i)) && decide ((s[i].toNat : Int) = 48))) := by
    rw [← hcc]
    conv => lhs; rw [drop_at s i h0]
    unfold okOf
    simp only [hl, hd, if_true]
    rw [← drop_at s i h0]
    simp
  have hm := span_drop_le digit s i (by omega)
  have hm1 : 1 ≤ span digit (s.data.toList.drop i) := by rw [drop_at s i h0, span_cons, if_pos hd]; omega
  have HP := Lib.hid (fun j h => span_drop digit s i j h)
  have EK : Hid (okOf (s.data.toList.drop i) = true → pieceK (s.data.toList.drop i) = 2 ∧ pieceE (s.data.toList.drop i) i = i + span digit (s.data.toList.drop i)) := Lib.hid (fun h => by unfold pieceK pieceE; rw [if_pos h, if_pos h, e2, e3]; exact ⟨rfl, rfl⟩)
  have EE : Hid (okOf (s.data.toList.drop i) = false → pieceK (s.data.toList.drop i) = 0 ∧ pieceE (s.data.toList.drop i) i = 0) := Lib.hid (fun h => by unfold pieceK pieceE; rw [h]; exact ⟨rfl, rfl⟩)
  have E1 := Lib.hid e1
  clear e1 e2 e3 hl hd hcc
  generalize pieceK (s.data.toList.drop i) = pk at EK EE ⊢
  generalize pieceE (s.data.toList.drop i) i = pe at EK EE ⊢
  generalize okOf (s.data.toList.drop i) = ok at EK EE E1
  generalize span digit (s.data.toList.drop i) = m at hm hm1 HP EK EE E1
  have hi1 : (i : Int) < (s.size : Int) := by omega
  go_enter Try.func45, Try.ntmps45
  go_wp2_with (fail)
  refine C1.out.mono ?_
  rintro e w' ⟨rfl, rfl⟩
  go_wp2_with (fail)
  refine C2.out.mono ?_
  rintro e w' ⟨rfl, rfl⟩
  go_wp2
  go_loop [6] (fun x => ∃ j : Nat, j ≤ m ∧ x = .int .i64 (i + j : Nat)) (fun x => i + m - (intOf x).toNat)
  case atStart => exact ⟨0, Nat.zero_le _, rfl⟩
  case round =>
    obtain ⟨j, hj, rfl⟩ := hrel
    obtain ⟨x, hx⟩ : ∃ x, x = i + j := ⟨_, rfl⟩
    rw [← hx]
    have hxm : x ≤ i + m := by omega
    have hxi : i ≤ x := by omega
    by_cases hjm : j < m
    · have hlt : x < s.size := by omega
      have hP := HP.out j (by omega)
      have c2 := rdigit s[x] w
      have hxe : s[x] = s[i + j] := by subst hx; rfl
      rw [← hxe] at hP
      rw [hP.1 hjm] at c2
      have HX := Lib.hid hx
      have hxm2 : x < i + m := by omega
      have D2 := Lib.hid c2
      clear hxe hx hP c2
      go_wp2_with (fail)
      refine D2.out.mono ?_
      rintro e w' ⟨rfl, rfl⟩
      go_wp2
      go_round
      case rel => exact ⟨j + 1, by omega, by rw [HX.out]; go_num⟩
      case measure => simp [intOf]; omega
    · have HX := Lib.hid hx
      have hxv : x = i + m := by omega
      have HXV := Lib.hid hxv
      clear hx hxv
      -- what the test answers, by the three parts
      have tests : (ok = true ∧ ¬ (9 : Int) < (x : Int) - (i : Int) ∧ (¬ (1 : Int) < (x : Int) - (i : Int) ∨ ((1 : Int) < (x : Int) - (i : Int) ∧ ¬ (s[i].toNat : Int) = 48))) ∨ (ok = false ∧ ((9 : Int) < (x : Int) - (i : Int) ∨ (¬ (9 : Int) < (x : Int) - (i : Int) ∧ (1 : Int) < (x : Int) - (i : Int) ∧ (s[i].toNat : Int) = 48))) := by
        have hE := E1.out
        have hv := HXV.out
        by_cases h9 : m ≤ 9
        · by_cases h1 : 1 < m
          · by_cases hc : (s[i].toNat : Int) = 48
            · exact .inr ⟨by rw [hE]; simp [h9, h1, hc], .inr ⟨by omega, by omega, hc⟩⟩
            · exact .inl ⟨by rw [hE]; simp [h9, hc], by omega, .inr ⟨by omega, hc⟩⟩
          · exact .inl ⟨by rw [hE]; simp [h9, h1], by omega, .inl (by omega)⟩
        · exact .inr ⟨by rw [hE]; simp [h9], .inl (by omega)⟩
      have stop : x < s.size ∨ ¬ x < s.size := by omega
      have D2 : Hid (∀ h : x < s.size, Calls Try.prog 62 #[.int .u8 (s[x].toNat : Int)] w fun e w' => e = .returned (.bool false) ∧ w = w') := Lib.hid (fun h => by
        have hij : i + j < s.size := by have := HX.out; omega
        have hP := HP.out j hij
        have c2 := rdigit s[x] w
        have hxe : s[x] = s[i + j] := by have := HX.out; subst this; rfl
        rw [hxe, hP.2 (by omega)] at c2
        rw [hxe]
        exact c2)
      have RES : Hid (∀ (k e : Nat), (ok = true ∧ k = 2 ∧ e = x ∨ ok = false ∧ k = 0 ∧ e = 0) → pk = k ∧ pe = e) := Lib.hid (by
        rintro k e (⟨h1, rfl, rfl⟩ | ⟨h1, rfl, rfl⟩)
        · rw [HXV.out]; exact EK.out h1
        · exact EE.out h1)
      clear EK EE E1
      rcases tests with ⟨hok, t1, t2 | ⟨t2, t3⟩⟩ | ⟨hok, t1 | ⟨t1, t2, t3⟩⟩
      · obtain ⟨e1, e2⟩ := RES.out 2 x (.inl ⟨hok, rfl, rfl⟩)
        subst e1
        have e3 := e2.symm
        subst e3
        clear RES hok
        have u1 : decide ((9 : Int) < (x : Int) - (i : Int)) = false := by simpa using t1
        have u2 : decide ((1 : Int) < (x : Int) - (i : Int)) = false := by simpa using t2
        rcases stop with hlt | hlt
        · have D2' := D2.out hlt
          have D3 := Lib.hid D2'
          clear D2'
          go_wp2_with (fail)
          refine D3.out.mono ?_
          rintro e w' ⟨rfl, rfl⟩
          go_wp2
          go_ret2
          exact ⟨rfl, rfl⟩
        · go_wp2
          go_ret2
          exact ⟨rfl, rfl⟩
      · obtain ⟨e1, e2⟩ := RES.out 2 x (.inl ⟨hok, rfl, rfl⟩)
        subst e1
        have e3 := e2.symm
        subst e3
        clear RES hok
        have u1 : decide ((9 : Int) < (x : Int) - (i : Int)) = false := by simpa using t1
        have u2 : decide ((1 : Int) < (x : Int) - (i : Int)) = true := by simpa using t2
        have u3 : ((s[i].toNat : Int) == 48) = false := by simpa using t3
        rcases stop with hlt | hlt
        · have D2' := D2.out hlt
          have D3 := Lib.hid D2'
          clear D2'
          go_wp2_with (fail)
          refine D3.out.mono ?_
          rintro e w' ⟨rfl, rfl⟩
          go_wp2
          go_ret2
          exact ⟨rfl, rfl⟩
        · go_wp2
          go_ret2
          exact ⟨rfl, rfl⟩
      · obtain ⟨e1, e2⟩ := RES.out 0 0 (.inr ⟨hok, rfl, rfl⟩)
        subst e1
        have e3 := e2.symm
        subst e3
        clear RES hok
        have u1 : decide ((9 : Int) < (x : Int) - (i : Int)) = true := by simpa using t1
        rcases stop with hlt | hlt
        · have D2' := D2.out hlt
          have D3 := Lib.hid D2'
          clear D2'
          go_wp2_with (fail)
          refine D3.out.mono ?_
          rintro e w' ⟨rfl, rfl⟩
          go_wp2
          go_ret2
          exact ⟨rfl, rfl⟩
        · go_wp2
          go_ret2
          exact ⟨rfl, rfl⟩
      · obtain ⟨e1, e2⟩ := RES.out 0 0 (.inr ⟨hok, rfl, rfl⟩)
        subst e1
        have e3 := e2.symm
        subst e3
        clear RES hok
        have u1 : decide ((9 : Int) < (x : Int) - (i : Int)) = false := by simpa using t1
        have u2 : decide ((1 : Int) < (x : Int) - (i : Int)) = true := by simpa using t2
        have u3 : ((s[i].toNat : Int) == 48) = true := by simpa using t3
        rcases stop with hlt | hlt
        · have D2' := D2.out hlt
          have D3 := Lib.hid D2'
          clear D2'
          go_wp2_with (fail)
          refine D3.out.mono ?_
          rintro e w' ⟨rfl, rfl⟩
          go_wp2
          go_ret2
          exact ⟨rfl, rfl⟩
        · go_wp2
          go_ret2
          exact ⟨rfl, rfl⟩

theorem piece_sign (s : ByteArray) (i : Nat) (w : World) (h0 : i < s.size) (hs : s.size ≤ 16384) (hl : letter s[i] = false) (hd : digit s[i] = false) :
    Calls Try.prog 45 #[.string s, .int .i64 (i : Nat)] w fun e w' => e = .returned (.tuple #[.int .i64 (pieceK (s.data.toList.drop i) : Nat), .int .i64 (pieceE (s.data.toList.drop i) i : Nat)]) ∧ w = w' := by
  have C1 := Lib.hid (rletter s[i] w)
  rw [hl] at C1
  have C2 := Lib.hid (rdigit s[i] w)
  rw [hd] at C2
  have C3 := Lib.hid (rsign s[i] w)
  obtain ⟨e1, e2, -, e4⟩ := of_sign (drop_at s i h0) hl hd
  have hi1 : (i : Int) < (s.size : Int) := by omega
  cases hg : sign s[i] with
  | true =>
    rw [hg] at C3 e1
    have k1 : pieceK (s.data.toList.drop i) = 3 := by unfold pieceK; rw [if_pos e1, e4 hg]
    have k2 : pieceE (s.data.toList.drop i) i = i + 1 := by unfold pieceE; rw [if_pos e1, e2]
    rw [k1, k2]
    clear k1 k2 e1 e2 e4 hg hl hd
    go_enter Try.func45, Try.ntmps45
    go_wp2_with (fail)
    refine C1.out.mono ?_
    rintro e w' ⟨rfl, rfl⟩
    go_wp2_with (fail)
    refine C2.out.mono ?_
    rintro e w' ⟨rfl, rfl⟩
    go_wp2_with (fail)
    refine C3.out.mono ?_
    rintro e w' ⟨rfl, rfl⟩
    go_wp2
    go_ret2
    exact ⟨rfl, rfl⟩
  | false =>
    rw [hg] at C3 e1
    have k1 : pieceK (s.data.toList.drop i) = 0 := by unfold pieceK; rw [e1]; rfl
    have k2 : pieceE (s.data.toList.drop i) i = 0 := by unfold pieceE; rw [e1]; rfl
    rw [k1, k2]
    clear k1 k2 e1 e2 e4 hg hl hd
    go_enter Try.func45, Try.ntmps45
    go_wp2_with (fail)
    refine C1.out.mono ?_
    rintro e w' ⟨rfl, rfl⟩
    go_wp2_with (fail)
    refine C2.out.mono ?_
    rintro e w' ⟨rfl, rfl⟩
    go_wp2_with (fail)
    refine C3.out.mono ?_
    rintro e w' ⟨rfl, rfl⟩
    go_wp2
    go_ret2
    exact ⟨rfl, rfl⟩
theorem piece_any (s : ByteArray) (i : Nat) (w : World) (h0 : i < s.size) (hs : s.size ≤ 16384) :
    Calls Try.prog 45 #[.string s, .int .i64 (i : Nat)] w fun e w' => e = .returned (.tuple #[.int .i64 (pieceK (s.data.toList.drop i) : Nat), .int .i64 (pieceE (s.data.toList.drop i) i : Nat)]) ∧ w = w' := by
  cases hl : letter s[i] with
  | true => exact piece_letter s i w h0 hs hl
  | false =>
    cases hd : digit s[i] with
    | true => exact piece_digit s i w h0 hs hl hd
    | false => exact piece_sign s i w h0 hs hl hd
end Go.Proofs.Ytkdejinhjdkkmaa

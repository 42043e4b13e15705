/- Contract of the reference's Tokens: it tells what the program's tells; no condition. -/
import Derived.Test.YtkdejinhjdkkmaaM
namespace Go.Proofs.Ytkdejinhjdkkmaa
open Go.ChangeShapes Go.WideShapes Go.ChangeAt Go.RowKit

theorem rtokens_limit (s : ByteArray) (w : World) (hs : s.size ≤ maxLen) (h : 16384 < s.size) : Calls Try.prog 30 #[.string s] w (Tells s.data.toList w) := by
  have HF : Hid (∀ e w', e = .returned (.tuple #[.slice none 0 0, .int .i64 0, .int .i64 0, .int .i64 3]) → Below w.heap.size w w' → Tells s.data.toList w e w') := Lib.hid (fun e w' he hb => Tells.limit (by rw [size_list]; exact h) he hb)
  unfold maxLen at hs
  have hi : decide ((16384 : Int) < (s.size : Int)) = true := by simp; omega
  generalize Tells s.data.toList w = F at HF ⊢
  go_enter Try.func30, Try.ntmps30
  go_wp2
  refine bodyPost_ret (v := .tuple #[.slice none 0 0, .int .i64 0, .int .i64 0, .int .i64 3]) (by simp [results, Try.results30, go_sem]) rfl (HF.out _ _ rfl ?_)
  exact Below.refl _ _

theorem Lies.new_at (w : World) (t : TypeId) (cs : List Value) {n : Nat} (h : w.heap.size = n) : Lies (w.alloc (.cells cs.toArray t)) n t cs := by subst h; exact Lies.new w t cs
/-- Where the loop stands. -/
structure RefSt (s : ByteArray) (r : Res) (w wr : World) (i l b : Nat) (acc : List Tok) (a : Option Addr) (c : Nat) : Prop where
  toks : Toks wr a c acc
  bel : Below w.heap.size w wr
  own : ∀ g', a = some ⟨g', 0, none⟩ → w.heap.size ≤ g'
  is : i ≤ s.size
  bi : b ≤ i
  li : l ≤ i + 1
  ai : acc.length ≤ i
  eq : app acc (go (s.data.toList.drop i) l (i + 1 - b)) = r

theorem ext_mid (s : ByteArray) (i m : Nat) : s.extract i (i + m) = str ((s.data.toList.drop i).take m) := by rw [Lib.extract_eq, Nat.add_sub_cancel_left]; rfl
theorem kind_two {l r : Txt} {c : UInt8} (hl : l = c :: r) (h : kindOf l = 2) : letter c = false ∧ digit c = true := by
  subst hl
  unfold kindOf at h
  cases h1 : letter c with
  | true => simp [h1] at h
  | false =>
    cases h2 : digit c with
    | true => exact ⟨rfl, rfl⟩
    | false =>
      cases h3 : sign c <;> simp [h1, h2, h3] at h
theorem kind_ok {l r : Txt} {c : UInt8} (hl : l = c :: r) (h : okOf l = true) : 1 ≤ kindOf l ∧ kindOf l ≤ 3 := by
  subst hl
  unfold kindOf
  simp only
  split
  · omega
  · rename_i h1
    split
    · omega
    · rename_i h2
      split
      · omega
      · rename_i h3
        unfold okOf at h
        simp [h1, h2, h3] at h
theorem num_any (s : ByteArray) (i : Nat) (h0 : i < s.size) (hok : okOf (s.data.toList.drop i) = true) (h2 : kindOf (s.data.toList.drop i) = 2) (w : World) :
    Calls Try.prog 46 #[.string (s.extract i (i + lenOf (s.data.toList.drop i)))] w fun e w' => e = .returned (.int .i64 (numOf (s.data.toList.drop i) : Nat)) ∧ w = w' := by
  obtain ⟨hl, hd⟩ := kind_two (drop_at s i h0) h2
  obtain ⟨e1, e2, e3, e4⟩ := of_digit (drop_at s i h0) hl hd
  rw [e1] at hok
  unfold okNum at hok
  rw [Bool.and_eq_true] at hok
  have h9 : ((s.data.toList.drop i).take (span digit (s.data.toList.drop i))).length ≤ 9 := by simpa using hok.1
  have := rnumber (s.extract i (i + lenOf (s.data.toList.drop i))) w (Lib.hid (fun j hj => by
    have hm : (s.extract i (i + lenOf (s.data.toList.drop i)))[j] ∈ (s.extract i (i + lenOf (s.data.toList.drop i))).data.toList := List.getElem_mem (l := (s.extract i (i + lenOf (s.data.toList.drop i))).data.toList) (n := j) (by rw [size_list]; exact hj)
    have e : (s.extract i (i + lenOf (s.data.toList.drop i))).data.toList = (s.data.toList.drop i).takeWhile digit := by rw [Lib.extract_data, Nat.add_sub_cancel_left, e3, take_span]
    rw [e] at hm
    exact all_take digit _ _ hm)) (by rw [ext_mid, str_size, e3]; exact h9)
  rw [ext_mid, str_data, e3, ← e4, ← e3, ← ext_mid] at this
  exact this

set_option maxHeartbeats 8000000 in
set_option maxRecDepth 100000 in
theorem rtokens_main (s : ByteArray) (w : World) (h : s.size ≤ 16384) : Calls Try.prog 30 #[.string s] w (Tells s.data.toList w) := by
  have hsl : s.data.toList.length ≤ 16384 := by rw [size_list]; exact h
  obtain ⟨r, hr⟩ : ∃ r, r = go s.data.toList 1 1 := ⟨_, rfl⟩
  have HOK : Hid (∀ e w' a c ts n, r = .ok ts → n = ts.length → e = .returned (.tuple #[.slice a n c, .int .i64 0, .int .i64 0, .int .i64 0]) → Toks w' a c ts → Below w.heap.size w w' → Tells s.data.toList w e w') :=
    Lib.hid (fun e w' a c ts n h1 h2 h3 h4 h5 => Tells.ok hsl (by rw [← hr]; exact h1) h2 h3 h4 h5)
  have HBAD : Hid (∀ e w' x y, r = .bad x y → e = .returned (.tuple #[.slice none 0 0, .int .i64 (x : Nat), .int .i64 (y : Nat), .int .i64 2]) → Below w.heap.size w w' → Tells s.data.toList w e w') :=
    Lib.hid (fun e w' x y h1 h2 h3 => Tells.bad hsl (by rw [← hr]; exact h1) h2 h3)
  have H0 : Hid (RefSt s r w w 0 1 0 [] none 0) := Lib.hid ⟨Toks.nil _, Below.refl _ _, (fun _ e => nomatch e), Nat.zero_le _, Nat.le_refl _, by omega, by simp, by rw [app_nil, hr]; simp⟩
  clear hr hsl
  have hi : decide ((16384 : Int) < (s.size : Int)) = false := by simp; omega
  generalize Tells s.data.toList w = F at HOK HBAD ⊢
  go_enter Try.func30, Try.ntmps30
  go_wp2_with (fail)
  go_loopw [6, 7, 8, 9] (fun v x y z wr => ∃ i l b acc a c, Hid (RefSt s r w wr i l b acc a c) ∧ v = .slice a acc.length c ∧ x = .int .i64 (l : Nat) ∧ y = .int .i64 (b : Nat) ∧ z = .int .i64 (i : Nat)) (fun _ _ _ z _ => s.size - (intOf z).toNat)
  case atStart => exact ⟨0, 1, 0, [], none, 0, H0, rfl, rfl, rfl, rfl⟩
  case round =>
    clear H0
    obtain ⟨i, l, b, acc, a, c, HS, rfl, rfl, rfl, rfl⟩ := hrel
    have his := HS.out.is
    have hbi := HS.out.bi
    have hli := HS.out.li
    have hai := HS.out.ai
    obtain ⟨n, hn⟩ : ∃ n, n = acc.length := ⟨_, rfl⟩
    rw [← hn]
    have HN := Lib.hid hn
    rw [← hn] at hai
    clear hn
    by_cases hlt : i < s.size
    · have hi1 : (i : Int) < (s.size : Int) := by omega
      rcases parts s[i] with hc | hc | hc | hc
      · have hx : (s[i].toNat : Int) = 10 := by rw [hc]; rfl
        have hx' : s[i].toNat = 10 := by omega
        have HS2 : Hid (RefSt s r w wr (i + 1) (l + 1) (i + 1) acc a c) := Lib.hid ⟨HS.out.toks, HS.out.bel, HS.out.own, by omega, by omega, by omega, by have := HN.out; omega, by
          rw [show i + 1 + 1 - (i + 1) = 1 by omega, ← step_nl s i l (i + 1 - b) hlt hc]; exact HS.out.eq⟩
        clear hc
        go_wp2
        go_roundw
        case rel => exact ⟨i + 1, l + 1, i + 1, acc, a, c, HS2, by rw [HN.out], by go_num, by go_num, by go_num⟩
        case measure => simp [intOf]; omega
      · have HS2 : Hid (RefSt s r w wr (i + 1) l b acc a c) := Lib.hid ⟨HS.out.toks, HS.out.bel, HS.out.own, by omega, by omega, by omega, by have := HN.out; omega, by
          rw [show i + 1 + 1 - b = i + 1 - b + 1 by omega, ← step_blank s i l (i + 1 - b) hlt hc]; exact HS.out.eq⟩
        rcases hc with hc | hc
        · have hx : (s[i].toNat : Int) = 32 := by rw [hc]; rfl
          have hx' : s[i].toNat = 32 := by omega
          clear hc
          go_wp2
          go_roundw
          case rel => exact ⟨i + 1, l, b, acc, a, c, HS2, by rw [HN.out], rfl, rfl, by go_num⟩
          case measure => simp [intOf]; omega
        · have hx : (s[i].toNat : Int) = 9 := by rw [hc]; rfl
          have hx' : s[i].toNat = 9 := by omega
          clear hc
          go_wp2
          go_roundw
          case rel => exact ⟨i + 1, l, b, acc, a, c, HS2, by rw [HN.out], rfl, rfl, by go_num⟩
          case measure => simp [intOf]; omega
      · have hx : (s[i].toNat : Int) = 35 := by rw [hc]; rfl
        have hx' : s[i].toNat = 35 := by omega
        obtain ⟨he, hm0, hm1⟩ := step_hash s i l (i + 1 - b) hlt hc
        have HS2 : Hid (RefSt s r w wr (i + span inLine (s.data.toList.drop i)) l b acc a c) := Lib.hid ⟨HS.out.toks, HS.out.bel, HS.out.own, by omega, by omega, by omega, by have := HN.out; omega, by
          rw [show i + span inLine (s.data.toList.drop i) + 1 - b = i + 1 - b + span inLine (s.data.toList.drop i) by omega, ← he]; exact HS.out.eq⟩
        have HP := Lib.hid (fun j h => span_drop inLine s i j h)
        generalize span inLine (s.data.toList.drop i) = m at HS2 HP hm0 hm1
        clear he hc
        go_wp2
        go_loop [9] (fun x => ∃ j : Nat, j ≤ m ∧ x = .int .i64 (i + j : Nat)) (fun x => i + m - (intOf x).toNat)
        case atStart => exact ⟨0, Nat.zero_le _, rfl⟩
        case round =>
          obtain ⟨j, hj, rfl⟩ := hrel
          obtain ⟨x, hx⟩ : ∃ x, x = i + j := ⟨_, rfl⟩
          rw [← hx]
          have hxm : x ≤ i + m := by omega
          have hxi : i ≤ x := by omega
          by_cases hjm : j < m
          · have hxs : x < s.size := by omega
            have hP := (HP.out j (by omega)).1 hjm
            have hxe : s[x] = s[i + j] := by subst hx; rfl
            rw [← hxe] at hP
            have hne : ¬ (s[x].toNat : Int) = 10 := by
              intro e
              have : s[x] = 10 := UInt8.toNat_inj.1 (by rw [show (10 : UInt8).toNat = 10 from rfl]; omega)
              rw [this] at hP
              exact absurd hP (by decide)
            have hne' : ¬ s[x].toNat = 10 := by omega
            have HX := Lib.hid hx
            have hxm2 : x < i + m := by omega
            clear hx hxe hP
            go_wp2
            go_round
            case rel => exact ⟨j + 1, by omega, by rw [HX.out]; go_num⟩
            case measure => simp [intOf]; omega
          · have hxv : x = i + m := by omega
            have hxi2 : i < x := by omega
            by_cases hxs : x < s.size
            · have hP := (HP.out j (by omega)).2 (by omega)
              have hxe : s[x] = s[i + j] := by subst hx; rfl
              rw [← hxe] at hP
              have heq : (s[x].toNat : Int) = 10 := by
                have : s[x] = 10 := by
                  unfold inLine at hP
                  simpa using hP
                rw [this]; rfl
              have heq' : s[x].toNat = 10 := by omega
              have HX := Lib.hid hxv
              clear hx hxv hxe hP
              go_wp2
              go_roundw
              case rel => exact ⟨i + m, l, b, acc, a, c, HS2, by rw [HN.out], rfl, rfl, by rw [HX.out]⟩
              case measure => simp [intOf]; omega
            · have HX := Lib.hid hxv
              clear hx hxv
              go_wp2
              go_roundw
              case rel => exact ⟨i + m, l, b, acc, a, c, HS2, by rw [HN.out], rfl, rfl, by rw [HX.out]⟩
              case measure => simp [intOf]; omega
      · have hD := drop_at s i hlt
        obtain ⟨hx1, hx2, hx3, hx4⟩ := solid_int hc
        have hy1 : ((s[i].toNat : Int) == 10) = false := by simpa using hx1
        have hy2 : ((s[i].toNat : Int) == 32) = false := by simpa using hx2
        have hy3 : ((s[i].toNat : Int) == 9) = false := by simpa using hx3
        have hy4 : ((s[i].toNat : Int) == 35) = false := by simpa using hx4
        have C := piece_any s i wr hlt h
        cases hok : okOf (s.data.toList.drop i) with
        | false =>
          have HE : Hid (r = .bad l (i + 1 - b)) := Lib.hid (by
            have e := HS.out.eq
            have hok2 := hok
            rw [hD] at e hok2
            rw [go_bad hc hok2] at e
            exact e.symm)
          have k1 : pieceK (s.data.toList.drop i) = 0 := by unfold pieceK; rw [hok]; rfl
          have k2 : pieceE (s.data.toList.drop i) i = 0 := by unfold pieceE; rw [hok]; rfl
          rw [k1, k2] at C
          have C := Lib.hid C
          clear k1 k2 hok hD hc
          go_wp2_with (fail)
          refine C.out.mono ?_
          rintro e w' ⟨rfl, rfl⟩
          go_wp2
          refine bodyPost_ret (v := .tuple #[.slice none 0 0, .int .i64 (l : Nat), .int .i64 ((i : Int) - (b : Int) + 1), .int .i64 2]) (by simp [results, Try.results30, go_sem]) rfl (HBAD.out _ _ l (i + 1 - b) HE.out (by rw [show ((i + 1 - b : Nat) : Int) = (i : Int) - (b : Int) + 1 by omega]) HS.out.bel)
        | true =>
          obtain ⟨m, hm⟩ : ∃ m, m = lenOf (s.data.toList.drop i) := ⟨_, rfl⟩
          obtain ⟨tok, htok⟩ : ∃ tok, tok = tokAt (s.data.toList.drop i) l (i + 1 - b) := ⟨_, rfl⟩
          obtain ⟨kk, hkk⟩ : ∃ kk, kk = kindOf (s.data.toList.drop i) := ⟨_, rfl⟩
          obtain ⟨nn, hnn⟩ : ∃ nn, nn = numOf (s.data.toList.drop i) := ⟨_, rfl⟩
          obtain ⟨ee, hee⟩ : ∃ ee, ee = i + m := ⟨_, rfl⟩
          obtain ⟨t, ht⟩ : ∃ t, t = s.extract i ee := ⟨_, rfl⟩
          have hm1 : 1 ≤ m := by rw [hm, hD]; exact lenOf_pos
          have hdl : (s.data.toList.drop (i + 1)).length = s.size - (i + 1) := by rw [List.length_drop, size_list]
          have hm2 : i + m ≤ s.size := by
            have h1 := lenOf_le (c := s[i]) (r := s.data.toList.drop (i + 1))
            rw [← hD, ← hm, hdl] at h1
            omega
          have HT : Hid (app (acc ++ [tok]) (go (s.data.toList.drop (i + m)) l (i + m + 1 - b)) = r) := Lib.hid (by
            have e := HS.out.eq
            have hok2 := hok
            rw [hD] at e hok2
            rw [go_tok hc hok2, app_pre, ← hD, ← hm, List.drop_drop, ← htok, show i + 1 - b + m = i + m + 1 - b by omega] at e
            exact e)
          have HCE : Hid (tokCells tok = [.int .i64 (kk : Nat), .int .i64 (nn : Nat), .int .i64 (l : Nat), .int .i64 ((i : Int) - (b : Int) + 1), .string t]) := Lib.hid (by
            rw [htok, ht, hee, ext_mid, hm, hkk, hnn, show (i : Int) - (b : Int) + 1 = ((i + 1 - b : Nat) : Int) by omega]
            rfl)
          have hk1 := kind_ok hD hok
          rw [← hkk] at hk1
          have k1 : pieceK (s.data.toList.drop i) = kk := by unfold pieceK; rw [if_pos hok, hkk]
          have k2 : pieceE (s.data.toList.drop i) i = ee := by unfold pieceE; rw [if_pos hok, hee, hm]
          rw [k1, k2] at C
          have HC := Lib.hid C
          have HNO : Hid (¬ kk = 2 → nn = 0) := Lib.hid (fun e => by rw [hnn]; unfold numOf; rw [← hkk, if_neg e])
          have HNU : Hid (kk = 2 → ∀ w, Calls Try.prog 46 #[.string t] w fun e w' => e = .returned (.int .i64 (nn : Nat)) ∧ w = w') := Lib.hid (fun e w => by
            have := num_any s i hlt hok (by rw [← hkk]; exact e) w
            rw [← hm, ← hee, ← ht, ← hnn] at this
            exact this)
          have hT := Lib.hid ht.symm
          have hk0 : ((kk : Int) == 0) = false := by simp; omega
          have hee1 : i < ee := by omega
          have hee2 : ee ≤ s.size := by omega
          have hee3 : (i : Int) ≤ (ee : Int) := by omega
          have hee4 : (ee : Int) ≤ (s.size : Int) := by omega
          have HEE := Lib.hid hee
          clear k1 k2 hok hD hc hm htok hkk hnn hdl C ht hee
          have L2 : Lies (wr.alloc (.cells #[.int .i64 (kk : Nat), .int .i64 0, .int .i64 (l : Nat), .int .i64 ((i : Int) - (b : Int) + 1), .string t] 74)) wr.heap.size 74 [.int .i64 (kk : Nat), .int .i64 0, .int .i64 (l : Nat), .int .i64 ((i : Int) - (b : Int) + 1), .string t] := Lies.new wr 74 _
          have T2 : Toks (wr.alloc (.cells #[.int .i64 (kk : Nat), .int .i64 0, .int .i64 (l : Nat), .int .i64 ((i : Int) - (b : Int) + 1), .string t] 74)) a c acc := HS.out.toks.alloc _
          have B2 : Below w.heap.size w (wr.alloc (.cells #[.int .i64 (kk : Nat), .int .i64 0, .int .i64 (l : Nat), .int .i64 ((i : Int) - (b : Int) + 1), .string t] 74)) := HS.out.bel.alloc HS.out.bel.size _
          have HAL : Hid (∀ g', a = some ⟨g', 0, none⟩ → ¬ g' = wr.heap.size) := Lib.hid (fun g' e => by have := HS.out.toks.lt e; omega)
          by_cases hk2 : kk = 2
          · have CN := Lib.hid (HNU.out hk2)
            subst hk2
            clear HNU HNO
            go_wp2_with (fail)
            refine HC.out.mono ?_
            rintro e w' ⟨rfl, rfl⟩
            rw [← hT.out] at CN HCE L2 T2 B2
            go_wp2_with (fail)
            rw [hT.out] at CN HCE L2 T2 B2 ⊢
            generalize (wr.alloc (.cells #[.int .i64 2, .int .i64 0, .int .i64 (l : Nat), .int .i64 ((i : Int) - (b : Int) + 1), .string t] 74)) = W2 at L2 T2 B2 ⊢
            have hgt : w.heap.size ≤ wr.heap.size := HS.out.bel.size
            obtain ⟨gt, hgt2⟩ : ∃ gt, gt = wr.heap.size := ⟨_, rfl⟩
            rw [← hgt2] at L2 hgt HAL ⊢
            clear hgt2
            refine (CN.out _).mono ?_
            rintro e w' ⟨rfl, rfl⟩
            have L3 : Lies (W2.setCell ⟨gt, 1, none⟩ (.int .i64 (nn : Nat))) gt 74 [.int .i64 2, .int .i64 (nn : Nat), .int .i64 (l : Nat), .int .i64 ((i : Int) - (b : Int) + 1), .string t] := L2.set 1 _
            have T3 : Toks (W2.setCell ⟨gt, 1, none⟩ (.int .i64 (nn : Nat))) a c acc := T2.kept ((Kept.refl (fun x => x = gt) W2).setCell (fun _ => rfl) _) HAL.out
            have B3 : Below w.heap.size w (W2.setCell ⟨gt, 1, none⟩ (.int .i64 (nn : Nat))) := B2.setCell hgt _
            have d1 : W2.cell? ⟨gt, 1, none⟩ = some (.int .i64 0) := L2.cell 1
            have fz := L2.frozen
            have HT3 := Lib.hid T3
            have HB3 := Lib.hid B3
            have d0 : W2.cell? ⟨gt, 0, none⟩ = some (.int .i64 2) := L2.cell 0
            have d2 : W2.cell? ⟨gt, 2, none⟩ = some (.int .i64 (l : Nat)) := L2.cell 2
            have d3 : W2.cell? ⟨gt, 3, none⟩ = some (.int .i64 ((i : Int) - (b : Int) + 1)) := L2.cell 3
            have d4 : W2.cell? ⟨gt, 4, none⟩ = some (.string t) := L2.cell 4
            clear L3 T3 B3 T2 B2 L2
            go_wp2_with (at_builtin; refine wpList_app5 _ rfl _ _ rfl a c n _ rfl rfl acc tok (Toks.alloc HT3.out _) ((Lies.new_at (W2.setCell ⟨gt, 1, none⟩ (.int .i64 (nn : Nat))) 74 [.int .i64 2, .int .i64 (nn : Nat), .int .i64 (l : Nat), .int .i64 ((i : Int) - (b : Int) + 1), .string t] (by simp)).to HCE.out.symm) (by have := HN.out; omega) HN.out ?_; intro a' c' W7 T7 K7 O7)
            have HS2 : Hid (RefSt s r w W7 ee l b (acc ++ [tok]) a' c') := Lib.hid ⟨T7, kept_below (HB3.out.alloc HB3.out.size _) K7 HS.out.own, (fun g' e => by
                rcases O7 g' e with h | h
                · exact HS.out.own g' h
                · have h1 := HB3.out.size
                  simp at h h1
                  omega), hee2, by omega, by omega, by rw [List.length_append, ← HN.out]; simp; omega, by rw [HEE.out]; exact HT.out⟩
            have HN9 : Hid (n + 1 = (acc ++ [tok]).length) := Lib.hid (by rw [HN.out]; simp)
            clear T7 K7 O7
            go_roundw
            case rel => exact ⟨ee, l, b, acc ++ [tok], a', c', HS2, by rw [HN9.out], rfl, rfl, rfl⟩
            case measure => simp [intOf]; omega
          · have hk2' : ((kk : Int) == 2) = false := by simp; omega
            obtain rfl := HNO.out hk2
            clear HNO HNU
            have hgt : w.heap.size ≤ wr.heap.size := HS.out.bel.size
            rw [← hT.out] at L2 T2 B2 HCE
            have e0 := L2.cell 0
            have e1 := L2.cell 1
            have e2 := L2.cell 2
            have e3 := L2.cell 3
            have e4 := L2.cell 4
            have HT2 := Lib.hid T2
            have HB2 := Lib.hid B2
            clear L2 T2 B2 e0 e1 e2 e3 e4
            go_wp2_with (fail)
            refine HC.out.mono ?_
            rintro e w' ⟨rfl, rfl⟩
            go_wp2_with (at_builtin; refine wpList_app5 _ rfl _ _ rfl a c n _ rfl rfl acc tok (Toks.alloc HT2.out _) ((Lies.new_at (wr.alloc (.cells #[.int .i64 (kk : Nat), .int .i64 0, .int .i64 (l : Nat), .int .i64 ((i : Int) - (b : Int) + 1), .string (s.extract i ee)] 74)) 74 [.int .i64 (kk : Nat), .int .i64 0, .int .i64 (l : Nat), .int .i64 ((i : Int) - (b : Int) + 1), .string (s.extract i ee)] (by simp)).to HCE.out.symm) (by have := HN.out; omega) HN.out ?_; intro a' c' W7 T7 K7 O7)
            have HS2 : Hid (RefSt s r w W7 ee l b (acc ++ [tok]) a' c') := Lib.hid ⟨T7, kept_below (HB2.out.alloc HB2.out.size _) K7 HS.out.own, (fun g' e => by
                rcases O7 g' e with h | h
                · exact HS.out.own g' h
                · have h1 := HB2.out.size
                  simp at h h1
                  omega), hee2, by omega, by omega, by rw [List.length_append, ← HN.out]; simp; omega, by rw [HEE.out]; exact HT.out⟩
            have HN9 : Hid (n + 1 = (acc ++ [tok]).length) := Lib.hid (by rw [HN.out]; simp)
            clear T7 K7 O7
            go_roundw
            case rel => exact ⟨ee, l, b, acc ++ [tok], a', c', HS2, by rw [HN9.out], rfl, rfl, rfl⟩
            case measure => simp [intOf]; omega
    · have hi1 : decide ((i : Int) < (s.size : Int)) = false := by simp; omega
      have HE : Hid (r = .ok (acc ++ [endAt l (i + 1 - b)])) := Lib.hid (by
        have e := HS.out.eq
        rw [show i = s.size by omega, drop_end, go_nil] at e
        rw [← e, show i = s.size by omega]; rfl)
      have hcl : ((i + 1 - b : Nat) : Int) = (s.size : Int) - (b : Int) + 1 := by omega
      have HTC : Hid (tokCells (endAt l (i + 1 - b)) = [.int .i64 4, .int .i64 0, .int .i64 (l : Nat), .int .i64 ((s.size : Int) - (b : Int) + 1), .string ⟨#[]⟩]) := Lib.hid (by rw [← hcl]; rfl)
      clear hcl
      go_wp2_with (at_builtin; refine wpList_app5 _ rfl _ _ rfl a c n _ rfl rfl acc (endAt l (i + 1 - b)) (Toks.alloc HS.out.toks _) ((Lies.new wr 74 [.int .i64 4, .int .i64 0, .int .i64 (l : Nat), .int .i64 ((s.size : Int) - (b : Int) + 1), .string ⟨#[]⟩]).to HTC.out.symm) (by have := HN.out; omega) HN.out ?_; intro a' c' w' T K2 O)
      refine bodyPost_ret (v := .tuple #[.slice a' (n + 1) c', .int .i64 0, .int .i64 0, .int .i64 0]) (by simp [results, Try.results30, go_sem]) rfl (HOK.out _ _ a' c' _ (n + 1) HE.out (by simp [HN.out]) rfl T ?_)
      exact kept_below (HS.out.bel.alloc HS.out.bel.size _) K2 HS.out.own
end Go.Proofs.Ytkdejinhjdkkmaa

/- The walk of the law LexPlaces; the condition: what came in can be read. -/
import Derived.Test.YtoogffjmfihbgaaS
import Derived.IntWalk
namespace Go.Proofs.Ytoogffjmfihbgaa
open Go.ChangeShapes Go.WideShapes Go.ChangeAt Go.RowKit

/-- What stands at a place of a text whose tokens are known. -/
structure Sees (s : ByteArray) (ts : List Tok) (i l c k : Nat) : Prop where
  kn : k < ts.length
  is : i ≤ s.size
  li : l ≤ i + 1
  ci : c ≤ i + 1
  eq : go (s.data.toList.drop i) l c = .ok (ts.drop k)
theorem Sees.head {s : ByteArray} {ts : List Tok} {i l c k : Nat} (h : Sees s ts i l c k) : go (s.data.toList.drop i) l c = .ok (ts[k]'h.kn :: ts.drop (k + 1)) := by
  rw [h.eq, List.drop_eq_getElem_cons h.kn]
/-- At the end. -/
theorem Sees.last {s : ByteArray} {ts : List Tok} {i l c k : Nat} (h : Sees s ts i l c k) (hi : ¬ i < s.size) : ts[k]'h.kn = endAt l c ∧ k + 1 = ts.length := by
  have e := h.head
  have his := h.is
  have hkn := h.kn
  have hz : s.data.toList.drop i = [] := by rw [show i = s.size by omega, drop_end]
  rw [hz, go_nil] at e
  injection e with e
  injection e with e1 e2
  refine ⟨e1.symm, ?_⟩
  have hl := congrArg List.length e2
  rw [List.length_drop] at hl
  simp at hl
  omega
theorem Sees.nl {s : ByteArray} {ts : List Tok} {i l c k : Nat} (h : Sees s ts i l c k) (hi : i < s.size) (hc : s[i] = 10) : Sees s ts (i + 1) (l + 1) 1 k ∧ ¬ (ts[k]'h.kn).line = l := by
  have e := h.head
  rw [step_nl s i l c hi hc] at e
  have ha := go_after _ _ _ _ _ _ (Nat.le_refl _) e
  refine ⟨⟨h.kn, by omega, by have := h.li; omega, by omega, by rw [← step_nl s i l c hi hc]; exact h.eq⟩, ?_⟩
  omega
theorem Sees.blank {s : ByteArray} {ts : List Tok} {i l c k : Nat} (h : Sees s ts i l c k) (hi : i < s.size) (hc : s[i] = 32 ∨ s[i] = 9) : Sees s ts (i + 1) l (c + 1) k ∧ (¬ (ts[k]'h.kn).line = l ∨ ((ts[k]'h.kn).line = l ∧ ¬ (ts[k]'h.kn).col = c)) := by
  have e := h.head
  rw [step_blank s i l c hi hc] at e
  have ha := go_after _ _ _ _ _ _ (Nat.le_refl _) e
  refine ⟨⟨h.kn, by omega, by have := h.li; omega, by have := h.ci; omega, by rw [← step_blank s i l c hi hc]; exact h.eq⟩, ?_⟩
  omega
theorem Sees.hash {s : ByteArray} {ts : List Tok} {i l c k : Nat} (h : Sees s ts i l c k) (hi : i < s.size) (hc : s[i] = 35) :
    Sees s ts (i + span inLine (s.data.toList.drop i)) l (c + span inLine (s.data.toList.drop i)) k ∧ (¬ (ts[k]'h.kn).line = l ∨ ((ts[k]'h.kn).line = l ∧ ¬ (ts[k]'h.kn).col = c)) := by
  have e := h.head
  obtain ⟨he, h0, h1⟩ := step_hash s i l c hi hc
  rw [he] at e
  have ha := go_after _ _ _ _ _ _ (Nat.le_refl _) e
  refine ⟨⟨h.kn, h1, by have := h.li; omega, by have := h.ci; omega, by rw [← he]; exact h.eq⟩, ?_⟩
  omega
theorem Sees.tok {s : ByteArray} {ts : List Tok} {i l c k : Nat} (h : Sees s ts i l c k) (hi : i < s.size) (hc : solid s[i]) :
    okOf (s.data.toList.drop i) = true ∧ ts[k]'h.kn = tokAt (s.data.toList.drop i) l c ∧ 1 ≤ lenOf (s.data.toList.drop i) ∧ i + lenOf (s.data.toList.drop i) ≤ s.size ∧
      k + 1 < ts.length ∧ Sees s ts (i + lenOf (s.data.toList.drop i)) l (c + lenOf (s.data.toList.drop i)) (k + 1) := by
  have e := h.head
  have hD := drop_at s i hi
  have hp : 1 ≤ lenOf (s.data.toList.drop i) := by rw [hD]; exact lenOf_pos
  have hm : i + lenOf (s.data.toList.drop i) ≤ s.size := by
    have h1 := lenOf_le (c := s[i]) (r := s.data.toList.drop (i + 1))
    rw [← hD, List.length_drop, size_list] at h1
    omega
  cases ho : okOf (s.data.toList.drop i) with
  | false =>
    rw [hD] at e ho
    rw [go_bad hc ho] at e
    cases e
  | true =>
    have ho2 := ho
    rw [hD] at e ho2
    rw [go_tok hc ho2, ← hD] at e
    obtain ⟨ts', e1, e2⟩ := pre_ok e
    injection e2 with e2 e3
    rw [List.drop_drop] at e1
    have hne := go_ne _ (s.data.toList.drop (i + lenOf (s.data.toList.drop i))) l (c + lenOf (s.data.toList.drop i)) (Nat.le_refl _)
    have hk : k + 1 < ts.length := by
      by_cases hk : k + 1 < ts.length
      · exact hk
      · exfalso
        apply hne
        rw [e1, ← e3, List.drop_eq_nil_of_le (by omega)]
    exact ⟨rfl, e2, hp, hm, hk, ⟨hk, hm, by have := h.li; omega, by have := h.ci; omega, by rw [e1, e3]⟩⟩
theorem sees_start {s : ByteArray} {ts : List Tok} (h : go s.data.toList 1 1 = .ok ts) : Sees s ts 0 1 1 0 := by
  refine ⟨?_, Nat.zero_le _, Nat.le_refl _, Nat.le_refl _, by rw [List.drop_zero, List.drop_zero]; exact h⟩
  cases ts with
  | nil => exact absurd h (go_ne _ _ _ _ (Nat.le_refl _))
  | cons t ts => simp
theorem TokAt.to {w : World} {g o : Nat} {t t' : Tok} (h : TokAt w g o t) (e : t = t') : TokAt w g o t' := e ▸ h

set_option maxHeartbeats 8000000 in
set_option maxRecDepth 100000 in
theorem places_loop (s : ByteArray) (a : Option Addr) (len cap : Nat) (zs : List Int) (w : World) (hs : s.size ≤ maxLen) (HC : Hid (Came w a len cap zs)) :
    Calls Try.prog 5 #[.string s, .slice a len cap] w fun e w' => e = .returned (.bool true) ∧ Below w.heap.size w w' := by
  have CP := Lib.hid (play_text s a len cap zs w hs HC.out.1 (Lib.hid HC.out.2.2.2.2))
  unfold maxLen at hs
  go_enter Try.func5, Try.ntmps5
  go_wp2_with (fail)
  refine CP.out.mono ?_
  rintro e w1 ⟨x, hx, rfl, b1⟩
  have HB1 := Lib.hid b1
  clear b1 CP
  go_wp2_with (fail)
  refine (tokens_any x w1 (by unfold maxLen; omega)).mono ?_
  rintro e w2 ⟨a1, c1, rfl, T1, b2⟩
  have HB2 := Lib.hid (HB1.out.trans (b2.mono HB1.out.size))
  clear b2 HB1
  have hxl : x.data.toList.length ≤ 16384 := by rw [size_list]; omega
  cases hg : go x.data.toList 1 1 with
  | bad l0 c0 =>
    rw [ans_bad hxl hg] at T1 ⊢
    have h0 : ((2 : Int) == 0) = false := by decide
    clear hg hxl T1
    go_wp2_with (fail)
    refine (wakes_any _).mono ?_
    rintro e w3 ⟨rfl, b3⟩
    have HB3 := Lib.hid (HB2.out.trans (b3.mono HB2.out.size))
    clear b3
    go_wp2
    go_ret
    exact ⟨rfl, HB3.out⟩
  | ok ts =>
    rw [ans_ok hxl hg] at T1 ⊢
    have HS0 := Lib.hid (sees_start hg)
    have HT1 := Lib.hid T1
    obtain ⟨n, hn⟩ : ∃ n, n = ts.length := ⟨_, rfl⟩
    have hle := T1.le
    rw [← hn] at hle
    show _
    simp only [← hn]
    have HN := Lib.hid hn
    clear hg hxl T1 hn
    go_wp2_with (fail)
    go_loopw [10, 11, 12, 13, 14] (fun vl vc vi vk _ wr => ∃ i l c k : Nat, Hid (Sees x ts i l c k) ∧ vl = .int .i64 l ∧ vc = .int .i64 c ∧ vi = .int .i64 i ∧ vk = .int .i64 k ∧ Hid (Toks wr a1 c1 ts ∧ Below w.heap.size w wr)) (fun _ _ vi _ _ _ => x.size + 1 - (intOf vi).toNat)
    case atStart => exact ⟨0, 1, 1, 0, HS0, rfl, rfl, rfl, rfl, Lib.hid ⟨HT1.out, HB2.out⟩⟩
    case round =>
      clear HS0 HT1 HB2
      obtain ⟨i, l, c, k, HS, rfl, rfl, rfl, rfl, HW⟩ := hrel
      have hkn : k < n := by rw [HN.out]; exact HS.out.kn
      have hki : (k : Int) < (n : Int) := by omega
      have his := HS.out.is
      have hli := HS.out.li
      have hci := HS.out.ci
      have hii : (i : Int) ≤ (x.size : Int) := by omega
      obtain ⟨g, rfl, d⟩ := HW.out.1.there HS.out.kn
      by_cases hlt : i < x.size
      · have hi1 : (i : Int) < (x.size : Int) := by omega
        have hne : ((i : Int) == (x.size : Int)) = false := by simp; omega
        rcases parts x[i] with hc | hc | hc | hc
        · obtain ⟨hS, hl2⟩ := HS.out.nl hlt hc
          have HS2 := Lib.hid hS
          have hx1 : (x[i].toNat : Int) = 10 := by rw [hc]; rfl
          have hx1' : x[i].toNat = 10 := by omega
          obtain ⟨c0, c1', c2, c3, c4⟩ := d
          generalize (ts[k]'HS.out.kn).line = tl at c2 hl2
          have hl3 : ((tl : Int) == (l : Int)) = false := by simp; omega
          clear hS hc c0 c1' c3 c4
          go_wp2
          go_roundw
          case rel => exact ⟨i + 1, l + 1, 1, k, HS2, by go_num, by go_num, by go_num, rfl, HW⟩
          case measure => simp [intOf]; omega
        · obtain ⟨hS, hcol⟩ := HS.out.blank hlt hc
          have HS2 := Lib.hid hS
          clear hS
          rcases hc with hc | hc
          · have hx1 : (x[i].toNat : Int) = 32 := by rw [hc]; rfl
            have hx1' : x[i].toNat = 32 := by omega
            clear hc
            obtain ⟨c0, c1', c2, c3, c4⟩ := d
            generalize (ts[k]'HS.out.kn).line = tl at c2 hcol
            generalize (ts[k]'HS.out.kn).col = tc at c3 hcol
            clear c0 c1' c4
            rcases hcol with hcol | ⟨hl2, hcol⟩
            · have hl3 : ((tl : Int) == (l : Int)) = false := by simp; omega
              clear hcol
              go_wp2
              go_roundw
              case rel => exact ⟨i + 1, l, c + 1, k, HS2, rfl, by go_num, by go_num, rfl, HW⟩
              case measure => simp [intOf]; omega
            · subst hl2
              have hl3 : ((tc : Int) == (c : Int)) = false := by simp; omega
              clear hcol
              go_wp2
              go_roundw
              case rel => exact ⟨i + 1, tl, c + 1, k, HS2, rfl, by go_num, by go_num, rfl, HW⟩
              case measure => simp [intOf]; omega
          · have hx1 : (x[i].toNat : Int) = 9 := by rw [hc]; rfl
            have hx1' : x[i].toNat = 9 := by omega
            clear hc
            obtain ⟨c0, c1', c2, c3, c4⟩ := d
            generalize (ts[k]'HS.out.kn).line = tl at c2 hcol
            generalize (ts[k]'HS.out.kn).col = tc at c3 hcol
            clear c0 c1' c4
            rcases hcol with hcol | ⟨hl2, hcol⟩
            · have hl3 : ((tl : Int) == (l : Int)) = false := by simp; omega
              clear hcol
              go_wp2
              go_roundw
              case rel => exact ⟨i + 1, l, c + 1, k, HS2, rfl, by go_num, by go_num, rfl, HW⟩
              case measure => simp [intOf]; omega
            · subst hl2
              have hl3 : ((tc : Int) == (c : Int)) = false := by simp; omega
              clear hcol
              go_wp2
              go_roundw
              case rel => exact ⟨i + 1, tl, c + 1, k, HS2, rfl, by go_num, by go_num, rfl, HW⟩
              case measure => simp [intOf]; omega
        · obtain ⟨hS, hcol⟩ := HS.out.hash hlt hc
          obtain ⟨-, hm0, hm1⟩ := step_hash x i l c hlt hc
          have HS2 := Lib.hid hS
          have HP := Lib.hid (fun j h => span_drop inLine x i j h)
          have hx1 : (x[i].toNat : Int) = 35 := by rw [hc]; rfl
          have hx1' : x[i].toNat = 35 := by omega
          clear hS hc
          generalize span inLine (x.data.toList.drop i) = m at HS2 HP hm0 hm1
          obtain ⟨c0, c1', c2, c3, c4⟩ := d
          generalize (ts[k]'HS.out.kn).line = tl at c2 hcol
          generalize (ts[k]'HS.out.kn).col = tc at c3 hcol
          clear c0 c1' c4
          rcases hcol with hcol | ⟨hl2, hcol⟩
          · have hl3 : ((tl : Int) == (l : Int)) = false := by simp; omega
            clear hcol
            go_wp2
            go_loop [11, 12] (fun vc vi => ∃ j : Nat, j + 1 ≤ m ∧ vc = .int .i64 (c + j : Nat) ∧ vi = .int .i64 (i + j : Nat)) (fun _ vi => i + m - (intOf vi).toNat)
            case atStart => exact ⟨0, by omega, rfl, rfl⟩
            case round =>
              obtain ⟨j, hj, rfl, rfl⟩ := hrel
              obtain ⟨y, hy⟩ : ∃ y, y = i + j := ⟨_, rfl⟩
              obtain ⟨z, hz⟩ : ∃ z, z = c + j := ⟨_, rfl⟩
              rw [← hy, ← hz]
              have hyi : i ≤ y := by omega
              have hym : y + 1 ≤ i + m := by omega
              have hzc : z ≤ c + m := by omega
              by_cases hjm : j + 1 < m
              · have hys : y + 1 < x.size := by omega
                have hys2 : (y : Int) + 1 < (x.size : Int) := by omega
                have hP := (HP.out (j + 1) (by omega)).1 hjm
                have hxe : x[y + 1] = x[i + (j + 1)] := by subst hy; rfl
                rw [← hxe] at hP
                have hne1 : ¬ (x[y + 1].toNat : Int) = 10 := by
                  intro e
                  have : x[y + 1] = 10 := UInt8.toNat_inj.1 (by rw [show (10 : UInt8).toNat = 10 from rfl]; omega)
                  rw [this] at hP
                  exact absurd hP (by decide)
                have hne2 : ¬ x[y + 1].toNat = 10 := by omega
                have HY := Lib.hid hy
                have HZ := Lib.hid hz
                have hym2 : y + 1 < i + m := by omega
                clear hy hz hxe hP
                go_wp2
                go_round
                case rel => exact ⟨j + 1, by omega, by rw [HZ.out]; go_num, by rw [HY.out]; go_num⟩
                case measure => simp [intOf]; omega
              · have hyv : y + 1 = i + m := by omega
                have hzv : z + 1 = c + m := by omega
                by_cases hys : y + 1 < x.size
                · have hys2 : (y : Int) + 1 < (x.size : Int) := by omega
                  have hP := (HP.out (j + 1) (by omega)).2 (by omega)
                  have hxe : x[y + 1] = x[i + (j + 1)] := by subst hy; rfl
                  rw [← hxe] at hP
                  have heq : (x[y + 1].toNat : Int) = 10 := by
                    have : x[y + 1] = 10 := by
                      unfold inLine at hP
                      simpa using hP
                    rw [this]; rfl
                  have heq' : x[y + 1].toNat = 10 := by omega
                  have HY := Lib.hid hyv
                  have HZ := Lib.hid hzv
                  clear hy hz hyv hzv hxe hP
                  go_wp2
                  go_roundw
                  case rel => exact ⟨i + m, l, c + m, k, HS2, rfl, by rw [← HZ.out]; go_num, by rw [← HY.out]; go_num, rfl, HW⟩
                  case measure => simp [intOf]; omega
                · have hys2 : ¬ (y : Int) + 1 < (x.size : Int) := by omega
                  have HY := Lib.hid hyv
                  have HZ := Lib.hid hzv
                  clear hy hz hyv hzv
                  go_wp2
                  go_roundw
                  case rel => exact ⟨i + m, l, c + m, k, HS2, rfl, by rw [← HZ.out]; go_num, by rw [← HY.out]; go_num, rfl, HW⟩
                  case measure => simp [intOf]; omega
          · subst hl2
            have hl3 : ((tc : Int) == (c : Int)) = false := by simp; omega
            clear hcol
            go_wp2
            go_loop [11, 12] (fun vc vi => ∃ j : Nat, j + 1 ≤ m ∧ vc = .int .i64 (c + j : Nat) ∧ vi = .int .i64 (i + j : Nat)) (fun _ vi => i + m - (intOf vi).toNat)
            case atStart => exact ⟨0, by omega, rfl, rfl⟩
            case round =>
              obtain ⟨j, hj, rfl, rfl⟩ := hrel
              obtain ⟨y, hy⟩ : ∃ y, y = i + j := ⟨_, rfl⟩
              obtain ⟨z, hz⟩ : ∃ z, z = c + j := ⟨_, rfl⟩
              rw [← hy, ← hz]
              have hyi : i ≤ y := by omega
              have hym : y + 1 ≤ i + m := by omega
              have hzc : z ≤ c + m := by omega
              by_cases hjm : j + 1 < m
              · have hys : y + 1 < x.size := by omega
                have hys2 : (y : Int) + 1 < (x.size : Int) := by omega
                have hP := (HP.out (j + 1) (by omega)).1 hjm
                have hxe : x[y + 1] = x[i + (j + 1)] := by subst hy; rfl
                rw [← hxe] at hP
                have hne1 : ¬ (x[y + 1].toNat : Int) = 10 := by
                  intro e
                  have : x[y + 1] = 10 := UInt8.toNat_inj.1 (by rw [show (10 : UInt8).toNat = 10 from rfl]; omega)
                  rw [this] at hP
                  exact absurd hP (by decide)
                have hne2 : ¬ x[y + 1].toNat = 10 := by omega
                have HY := Lib.hid hy
                have HZ := Lib.hid hz
                have hym2 : y + 1 < i + m := by omega
                clear hy hz hxe hP
                go_wp2
                go_round
                case rel => exact ⟨j + 1, by omega, by rw [HZ.out]; go_num, by rw [HY.out]; go_num⟩
                case measure => simp [intOf]; omega
              · have hyv : y + 1 = i + m := by omega
                have hzv : z + 1 = c + m := by omega
                by_cases hys : y + 1 < x.size
                · have hys2 : (y : Int) + 1 < (x.size : Int) := by omega
                  have hP := (HP.out (j + 1) (by omega)).2 (by omega)
                  have hxe : x[y + 1] = x[i + (j + 1)] := by subst hy; rfl
                  rw [← hxe] at hP
                  have heq : (x[y + 1].toNat : Int) = 10 := by
                    have : x[y + 1] = 10 := by
                      unfold inLine at hP
                      simpa using hP
                    rw [this]; rfl
                  have heq' : x[y + 1].toNat = 10 := by omega
                  have HY := Lib.hid hyv
                  have HZ := Lib.hid hzv
                  clear hy hz hyv hzv hxe hP
                  go_wp2
                  go_roundw
                  case rel => exact ⟨i + m, tl, c + m, k, HS2, rfl, by rw [← HZ.out]; go_num, by rw [← HY.out]; go_num, rfl, HW⟩
                  case measure => simp [intOf]; omega
                · have hys2 : ¬ (y : Int) + 1 < (x.size : Int) := by omega
                  have HY := Lib.hid hyv
                  have HZ := Lib.hid hzv
                  clear hy hz hyv hzv
                  go_wp2
                  go_roundw
                  case rel => exact ⟨i + m, tl, c + m, k, HS2, rfl, by rw [← HZ.out]; go_num, by rw [← HY.out]; go_num, rfl, HW⟩
                  case measure => simp [intOf]; omega
        · obtain ⟨hok, htk, hm1, hm2, hk2, hS⟩ := HS.out.tok hlt hc
          have hD := drop_at x i hlt
          have hkd := kind_ok hD hok
          obtain ⟨m, hm⟩ : ∃ m, m = lenOf (x.data.toList.drop i) := ⟨_, rfl⟩
          rw [← hm] at hm1 hm2 hS
          have HS2 := Lib.hid hS
          have hyt : str ((x.data.toList.drop i).take (lenOf (x.data.toList.drop i))) = x.extract i (i + m) := by rw [ext_mid, hm]
          have hysz : (x.extract i (i + m)).size = m := by rw [ByteArray.size_extract]; omega
          obtain ⟨c0, c1', c2, c3, c4⟩ := d.to htk
          rw [show str (tokAt (x.data.toList.drop i) l c).text = x.extract i (i + m) from hyt] at c4
          rw [show (tokAt (x.data.toList.drop i) l c).line = l from rfl] at c2
          rw [show (tokAt (x.data.toList.drop i) l c).col = c from rfl] at c3
          rw [show (tokAt (x.data.toList.drop i) l c).kind = kindOf (x.data.toList.drop i) from rfl] at c0
          rw [show (tokAt (x.data.toList.drop i) l c).n = numOf (x.data.toList.drop i) from rfl] at c1'
          generalize kindOf (x.data.toList.drop i) = kk at c0 hkd
          generalize numOf (x.data.toList.drop i) = nn at c1'
          obtain ⟨ee, hee⟩ : ∃ ee, ee = i + m := ⟨_, rfl⟩
          rw [← hee] at c4 hysz hm2
          obtain ⟨y, hy⟩ : ∃ y, y = x.extract i ee := ⟨_, rfl⟩
          rw [← hy] at c4 hysz
          have hkk : ((kk : Int) == 4) = false := by simp; omega
          have HEE := Lib.hid hee
          have HYE := Lib.hid hy.symm
          have HYS := Lib.hid hysz
          clear hok htk hS hc hD hm hyt hee hysz hy d
          have W2 : Hid (Toks (wr.alloc (.cells #[.int .i64 (kk : Nat), .int .i64 (nn : Nat), .int .i64 (l : Nat), .int .i64 (c : Nat), .string y] 34)) (some ⟨g, 0, none⟩) c1 ts ∧ Below w.heap.size w (wr.alloc (.cells #[.int .i64 (kk : Nat), .int .i64 (nn : Nat), .int .i64 (l : Nat), .int .i64 (c : Nat), .string y] 34))) := Lib.hid ⟨HW.out.1.alloc _, HW.out.2.alloc HW.out.2.size _⟩
          have L2 : Lies (wr.alloc (.cells #[.int .i64 (kk : Nat), .int .i64 (nn : Nat), .int .i64 (l : Nat), .int .i64 (c : Nat), .string y] 34)) wr.heap.size 34 [.int .i64 (kk : Nat), .int .i64 (nn : Nat), .int .i64 (l : Nat), .int .i64 (c : Nat), .string y] := Lies.new wr 34 _
          go_wp2_with (fail)
          generalize wr.alloc (.cells #[.int .i64 (kk : Nat), .int .i64 (nn : Nat), .int .i64 (l : Nat), .int .i64 (c : Nat), .string y] 34) = W at W2 L2 ⊢
          obtain ⟨gt, hgt⟩ : ∃ gt, gt = wr.heap.size := ⟨_, rfl⟩
          rw [← hgt] at L2 ⊢
          have d4 : W.cell? ⟨gt, 4, none⟩ = some (.string y) := L2.cell 4
          clear hgt L2 c0 c1' c2 c3 c4
          have hmb : m ≤ 1140 := by have := HEE.out; omega
          have q1 : ((m : Int) == 0) = false := by simp; omega
          have q3 : decide ((x.size : Int) < (ee : Int)) = false := by simp; omega
          have q5 : IntKind.i64.wrap ((c : Int) + (m : Int)) = (c : Int) + (m : Int) := IntWalk.i64_in _ (by omega)
          have q6 : IntKind.i64.wrap ((k : Int) + 1) = (k : Int) + 1 := IntWalk.i64_in _ (by omega)
          have q7 : (i : Int) ≤ (ee : Int) := by have := HEE.out; omega
          have q8 : (ee : Int) ≤ (x.size : Int) := by omega
          have q2 : IntKind.i64.wrap ((i : Int) + (m : Int)) = (ee : Int) := by rw [IntWalk.i64_in _ (by omega)]; have := HEE.out; omega
          have q0 := HYS.out
          have q4 := HYE.out
          go_quiet (fail)
          go_wp2_with (fail)
          go_quiet (fail)
          go_wp2_with (fail)
          have HS3 : Hid (Sees x ts ee l (c + m) (k + 1)) := Lib.hid (by rw [HEE.out]; exact HS2.out)
          have hei : i < ee := by have := HEE.out; omega
          clear q0 q1 q2 q3 q4 q5 q6 q7 q8
          go_roundw
          case rel => exact ⟨ee, l, c + m, k + 1, HS3, rfl, by go_num, rfl, by go_num, Lib.hid ⟨W2.out.1, (W2.out.2.trans (below_drewN _ W _)).trans (below_drewN _ _ _)⟩⟩
          case measure => simp [intOf]; omega
      · have hi1 : ((i : Int) == (x.size : Int)) = true := by simp; omega
        obtain ⟨htk, hk1⟩ := HS.out.last hlt
        rw [← HN.out] at hk1
        obtain ⟨c0, c1', c2, c3, c4⟩ := d.to htk
        rw [show str (endAt l c).text = ⟨#[]⟩ from rfl] at c4
        rw [show (endAt l c).line = l from rfl] at c2
        rw [show (endAt l c).col = c from rfl] at c3
        rw [show (endAt l c).kind = 4 from rfl] at c0
        rw [show (endAt l c).n = 0 from rfl] at c1'
        have hk3 : ((k : Int) == (n : Int) - 1) = true := by simp; omega
        have HB3 := Lib.hid (HW.out.2.alloc HW.out.2.size (.cells #[.int .i64 4, .int .i64 0, .int .i64 (l : Nat), .int .i64 (c : Nat), .string ⟨#[]⟩] 34))
        clear htk hk1 d
        go_wp2_with (fail)
        refine (wakes_any _).mono ?_
        rintro e w3 ⟨rfl, b3⟩
        have HB4 := Lib.hid (HB3.out.trans (b3.mono HB3.out.size))
        clear b3
        go_wp2
        go_ret
        exact ⟨rfl, HB4.out⟩
end Go.Proofs.Ytoogffjmfihbgaa

/- The walk of the law LexJoins; the condition: what came in can be read. -/
import Derived.Test.YtoogffjmfihbgaaS
import Derived.IntWalk
namespace Go.Proofs.Ytoogffjmfihbgaa
open Go.ChangeShapes Go.WideShapes Go.ChangeAt Go.RowKit

theorem app_list (a b : ByteArray) : (a ++ b).data.toList = a.data.toList ++ b.data.toList := by
  rw [ByteArray.data_append, Array.toList_append]
theorem three_list (x y : ByteArray) : (x ++ ⟨#[10]⟩ ++ y).data.toList = x.data.toList ++ 10 :: y.data.toList := by
  rw [app_list, app_list]
  simp
theorem nls_snoc (l : Txt) (c : UInt8) : nls (l ++ [c]) = nls l + if c = 10 then 1 else 0 := by
  unfold nls
  rw [List.count_append]
  by_cases h : c = 10
  · subst h; simp
  · simp [h]
theorem nls_le (s : ByteArray) (k : Nat) (h : k ≤ s.size) : nls (s.data.toList.take k) ≤ s.size := by
  unfold nls
  have := List.count_le_length (a := (10 : UInt8)) (l := s.data.toList.take k)
  rw [List.length_take, size_list] at this
  omega

/-- The rows of tokens of both texts and of the text that they make. -/
structure Joint (ts us vs : List Tok) (d : Nat) : Prop where
  len : vs.length + 1 = ts.length + us.length
  t1 : 1 ≤ ts.length
  u1 : 1 ≤ us.length
  lo : ∀ k (h : k < vs.length) (h' : k < ts.length), k + 1 < ts.length → vs[k] = ts[k]
  hi : ∀ k (h : k < vs.length) (j : Nat) (h' : j < us.length), k + 1 = ts.length + j → vs[k] = shiftT d us[j]
theorem go_len : ∀ (n : Nat) (l : Txt) (line col : Nat) (ts : List Tok), l.length ≤ n → go l line col = .ok ts → ts.length ≤ l.length + 1
  | n, [], line, col, ts, _, e => by
    rw [go_nil] at e
    injection e with e; subst e
    simp
  | 0, _ :: _, _, _, _, h, _ => by simp at h
  | n + 1, c :: r, line, col, ts, h, e => by
    simp only [List.length_cons] at h ⊢
    rcases parts c with rfl | hc | rfl | hs
    · rw [go_nl] at e
      have := go_len n r _ _ ts (by omega) e
      omega
    · rw [go_blank hc] at e
      have := go_len n r _ _ ts (by omega) e
      omega
    · rw [go_hash] at e
      have := go_len n _ _ _ ts (by rw [List.length_drop]; omega) e
      rw [List.length_drop] at this
      omega
    · have hp := lenOf_pos (c := c) (r := r)
      have hq := lenOf_le (c := c) (r := r)
      cases ho : okOf (c :: r) with
      | false => rw [go_bad hs ho] at e; cases e
      | true =>
        rw [go_tok hs ho] at e
        obtain ⟨ts', e1, e2⟩ := pre_ok e
        have := go_len n _ _ _ ts' (by simp only [List.length_drop, List.length_cons]; omega) e1
        simp only [List.length_drop, List.length_cons] at this
        subst e2
        simp only [List.length_cons]
        omega
theorem line_le : ∀ (n : Nat) (l : Txt) (line col : Nat) (ts : List Tok), l.length ≤ n → go l line col = .ok ts → ∀ t ∈ ts, t.line ≤ line + l.length
  | n, [], line, col, ts, _, e => by
    rw [go_nil] at e
    injection e with e; subst e
    simp [endAt]
  | 0, _ :: _, _, _, _, h, _ => by simp at h
  | n + 1, c :: r, line, col, ts, h, e => by
    simp only [List.length_cons] at h ⊢
    intro t ht
    rcases parts c with rfl | hc | rfl | hs
    · rw [go_nl] at e
      have := line_le n r _ _ ts (by omega) e t ht
      omega
    · rw [go_blank hc] at e
      have := line_le n r _ _ ts (by omega) e t ht
      omega
    · rw [go_hash] at e
      have := line_le n _ _ _ ts (by rw [List.length_drop]; omega) e t ht
      rw [List.length_drop] at this
      omega
    · have hp := lenOf_pos (c := c) (r := r)
      cases ho : okOf (c :: r) with
      | false => rw [go_bad hs ho] at e; cases e
      | true =>
        rw [go_tok hs ho] at e
        obtain ⟨ts', e1, e2⟩ := pre_ok e
        subst e2
        rcases List.mem_cons.1 ht with rfl | ht
        · show line ≤ _; omega
        · have := line_le n _ _ _ ts' (by simp only [List.length_drop, List.length_cons]; omega) e1 t ht
          simp only [List.length_drop, List.length_cons] at this
          omega
theorem ne_len {x : Txt} {ts : List Tok} (h : go x 1 1 = .ok ts) : 1 ≤ ts.length := by
  cases ts with
  | nil => exact absurd h (go_ne _ _ _ _ (Nat.le_refl _))
  | cons t ts => simp
theorem joint_of {x y : Txt} {ts us : List Tok} (h1 : go x 1 1 = .ok ts) (h2 : go y 1 1 = .ok us) : ∃ vs, go (x ++ 10 :: y) 1 1 = .ok vs ∧ Joint ts us vs (1 + nls x) := by
  have hj := go_join _ x y 1 1 (Nat.le_refl _)
  rw [h1] at hj
  have hs := go_shift (1 + nls x) _ y 1 1 (Nat.le_refl _)
  rw [h2] at hs
  refine ⟨ts.dropLast ++ us.map (shiftT (1 + nls x)), ?_, ?_⟩
  · rw [hj]
    show app ts.dropLast (go y (1 + nls x + 1) 1) = _
    rw [show 1 + nls x + 1 = 1 + (1 + nls x) by omega, hs]
    rfl
  · have t1 := ne_len h1
    have u1 := ne_len h2
    refine ⟨by simp; omega, t1, u1, ?_, ?_⟩
    · intro k h h' hk
      rw [List.getElem_append_left (by simp; omega), List.getElem_dropLast]
    · intro k h j h' hk
      rw [List.getElem_append_right (by simp; omega)]
      simp only [List.length_dropLast, List.getElem_map]
      congr 2
      omega
theorem joint_bad1 {x y : Txt} {a b : Nat} (h1 : go x 1 1 = .bad a b) : go (x ++ 10 :: y) 1 1 = .bad a b := by
  rw [go_join _ x y 1 1 (Nat.le_refl _), h1]; rfl
theorem joint_bad2 {x y : Txt} {ts : List Tok} {a b : Nat} (h1 : go x 1 1 = .ok ts) (h2 : go y 1 1 = .bad a b) : ∃ a' b', go (x ++ 10 :: y) 1 1 = .bad a' b' := by
  have hs := go_shift (1 + nls x) _ y 1 1 (Nat.le_refl _)
  rw [h2] at hs
  refine ⟨a + (1 + nls x), b, ?_⟩
  rw [go_join _ x y 1 1 (Nat.le_refl _), h1]
  show app ts.dropLast (go y (1 + nls x + 1) 1) = _
  rw [show 1 + nls x + 1 = 1 + (1 + nls x) by omega, hs]
  rfl
theorem TokAt.to' {w : World} {g o : Nat} {t t' : Tok} (h : TokAt w g o t) (e : t = t') : TokAt w g o t' := e ▸ h

set_option maxHeartbeats 8000000 in
set_option maxRecDepth 100000 in
theorem joins_walk (s : ByteArray) (a b : Option Addr) (lena capa lenb capb : Nat) (za zb : List Int) (w : World) (hs : s.size ≤ maxLen) (HCA : Hid (Came w a lena capa za)) (HCB : Hid (Came w b lenb capb zb)) :
    Calls Try.prog 6 #[.string s, .slice a lena capa, .slice b lenb capb] w fun e w' => e = .returned (.bool true) ∧ Below w.heap.size w w' := by
  have CP := Lib.hid (play_text s a lena capa za w hs HCA.out.1 (Lib.hid HCA.out.2.2.2.2))
  unfold maxLen at hs
  go_enter Try.func6, Try.ntmps6
  go_wp2_with (fail)
  refine CP.out.mono ?_
  rintro e w1 ⟨x, hx, rfl, b1⟩
  have CQ := Lib.hid (play_text ⟨#[]⟩ b lenb capb zb w1 (by unfold maxLen; decide) HCB.out.1 (Lib.hid (HCB.out.below b1).2.2.2.2))
  have HB1 := Lib.hid b1
  clear b1 CP HCA HCB
  go_wp2_with (fail)
  refine CQ.out.mono ?_
  rintro e w2 ⟨y, hy, rfl, b2⟩
  have HB2 := Lib.hid (HB1.out.trans (b2.mono HB1.out.size))
  clear b2 CQ HB1
  go_wp2_with (fail)
  refine (tokens_any x w2 (by unfold maxLen; omega)).mono ?_
  rintro e w3 ⟨a1, c1, rfl, T1, b3⟩
  have HB3 := Lib.hid (HB2.out.trans (b3.mono HB2.out.size))
  have HT1 := Lib.hid T1
  clear b3 T1 HB2
  have hxl : x.data.toList.length ≤ 16384 := by rw [size_list]; omega
  have hyl : y.data.toList.length ≤ 16384 := by rw [size_list]; omega
  have hzs : (x ++ ⟨#[10]⟩ ++ y).size ≤ 2281 := by rw [app_size, app_size]; show x.size + 1 + y.size ≤ 2281; omega
  have hzl : (x.data.toList ++ 10 :: y.data.toList).length ≤ 16384 := by rw [← three_list, size_list]; omega
  obtain ⟨A1, hA1⟩ : ∃ A, A = ans x.data.toList := ⟨_, rfl⟩
  rw [← hA1] at HT1 ⊢
  have HA1 := Lib.hid hA1
  clear hA1
  go_wp2_with (fail)
  refine (tokens_any y w3 (by unfold maxLen; omega)).mono ?_
  rintro e w4 ⟨a2, c2, rfl, T2, b4⟩
  have HB4 := Lib.hid (HB3.out.trans (b4.mono HB3.out.size))
  have HT14 := Lib.hid (HT1.out.below b4)
  have HT2 := Lib.hid T2
  clear b4 T2 HB3 HT1
  obtain ⟨A2, hA2⟩ : ∃ A, A = ans y.data.toList := ⟨_, rfl⟩
  rw [← hA2] at HT2 ⊢
  have HA2 := Lib.hid hA2
  clear hA2
  have ct := tokens_any (x ++ ⟨#[10]⟩ ++ y) w4 (by unfold maxLen; omega)
  rw [three_list] at ct
  have CT := Lib.hid ct
  clear ct
  go_wp2_with (fail)
  refine CT.out.mono ?_
  rintro e w5 ⟨a3, c3, rfl, T3, b5⟩
  have HB := Lib.hid (HB4.out.trans (b5.mono HB4.out.size))
  have HT15 := Lib.hid (HT14.out.below b5)
  have HT25 := Lib.hid (HT2.out.below b5)
  have HT35 := Lib.hid T3
  clear b5 T3 HB4 HT14 HT2 CT
  generalize x ++ ⟨#[10]⟩ ++ y = z at *
  cases hg1 : go x.data.toList 1 1 with
  | bad p q =>
    have e1 : A1 = ([], p, q, 2) := by rw [HA1.out, ans_bad hxl hg1]
    have e3 : ans (x.data.toList ++ 10 :: y.data.toList) = ([], p, q, 2) := ans_bad hzl (joint_bad1 hg1)
    rw [e3]
    subst e1
    clear e3 HT15 HT25 HT35 hg1 HA1
    obtain ⟨v1, v2, v3, v4⟩ := A2
    go_wp2_with (fail)
    refine (wakes_any _).mono ?_
    rintro e w6 ⟨rfl, b6⟩
    have HB6 := Lib.hid (HB.out.trans (b6.mono HB.out.size))
    clear b6
    go_wp2
    go_ret
    exact ⟨rfl, HB6.out⟩
  | ok ts =>
    have e1 : A1 = (ts, 0, 0, 0) := by rw [HA1.out, ans_ok hxl hg1]
    subst e1
    cases hg2 : go y.data.toList 1 1 with
    | bad p q =>
      obtain ⟨p', q', hg3⟩ := joint_bad2 hg1 hg2
      have e2 : A2 = ([], p, q, 2) := by rw [HA2.out, ans_bad hyl hg2]
      have e3 : ans (x.data.toList ++ 10 :: y.data.toList) = ([], p', q', 2) := ans_bad hzl hg3
      rw [e3]
      subst e2
      clear e3 HT15 HT25 HT35 hg1 hg2 hg3 HA1 HA2
      generalize ts.length = n1
      go_wp2_with (fail)
      refine (wakes_any _).mono ?_
      rintro e w6 ⟨rfl, b6⟩
      have HB6 := Lib.hid (HB.out.trans (b6.mono HB.out.size))
      clear b6
      go_wp2
      go_ret
      exact ⟨rfl, HB6.out⟩
    | ok us =>
      obtain ⟨vs, hg3, hJ⟩ := joint_of hg1 hg2
      have hb1 := go_len _ _ _ _ _ (Nat.le_refl _) hg1
      have hb2 := go_len _ _ _ _ _ (Nat.le_refl _) hg2
      rw [size_list] at hb1 hb2
      have HLB : Hid (∀ j (h : j < us.length), us[j].line ≤ 1141) := Lib.hid (fun j hh => by
        have := line_le _ _ _ _ _ (Nat.le_refl _) hg2 _ (List.getElem_mem hh)
        rw [size_list] at this
        omega)
      have e2 : A2 = (us, 0, 0, 0) := by rw [HA2.out, ans_ok hyl hg2]
      have e3 : ans (x.data.toList ++ 10 :: y.data.toList) = (vs, 0, 0, 0) := ans_ok hzl hg3
      rw [e3] at HT35 ⊢
      subst e2
      have hl1 := HT15.out.le
      have hl2 := HT25.out.le
      have hl3 := HT35.out.le
      have HJ := Lib.hid hJ
      have HW0 : Hid (Toks w5 a1 c1 ts ∧ Toks w5 a2 c2 us ∧ Toks w5 a3 c3 vs ∧ Below w.heap.size w w5) := Lib.hid ⟨HT15.out, HT25.out, HT35.out, HB.out⟩
      obtain ⟨n1, hn1⟩ : ∃ n, n = ts.length := ⟨_, rfl⟩
      obtain ⟨n2, hn2⟩ : ∃ n, n = us.length := ⟨_, rfl⟩
      obtain ⟨n3, hn3⟩ : ∃ n, n = vs.length := ⟨_, rfl⟩
      have hlen := hJ.len
      have ht1 := hJ.t1
      have hu1 := hJ.u1
      simp only [← hn1] at hlen ht1 hl1 hb1 ⊢
      simp only [← hn2] at hlen hu1 hl2 hb2 ⊢
      simp only [← hn3] at hlen hl3 ⊢
      have H1 := Lib.hid hn1
      have H2 := Lib.hid hn2
      have H3 := Lib.hid hn3
      clear hn1 hn2 hn3 hJ e3 hg1 hg2 hg3 HA1 HA2 HT15 HT25 HT35 HB
      have hq : ((n3 : Int) == (n1 : Int) + (n2 : Int) - 1) = true := by simp; omega
      have hq2 : ((n3 : Int) != (n1 : Int) + (n2 : Int) - 1) = false := by simp; omega
      go_wp2_with (fail)
      go_loop [21, 22] (fun vl vi => ∃ k : Nat, k ≤ x.size ∧ vi = .int .i64 k ∧ vl = .int .i64 (1 + nls (x.data.toList.take k) : Nat)) (fun _ vi => x.size - (intOf vi).toNat)
      case atStart => exact ⟨0, Nat.zero_le _, rfl, rfl⟩
      case round =>
        obtain ⟨k, hk, rfl, rfl⟩ := hrel
        have hnl := nls_le x k hk
        by_cases hlt : k < x.size
        · have hki : (k : Int) < (x.size : Int) := by omega
          have hsn := nls_snoc (x.data.toList.take k) x[k]
          rw [← take_snoc x k hlt] at hsn
          by_cases hc : x[k] = 10
          · have hx1 : (x[k].toNat : Int) = 10 := by rw [hc]; rfl
            have hx1' : x[k].toNat = 10 := by omega
            rw [if_pos hc] at hsn
            have HSN := Lib.hid hsn
            clear hsn hc
            generalize nls (x.data.toList.take k) = nl at hnl HSN
            go_wp2
            go_round
            case rel => exact ⟨k + 1, by omega, by go_num, by rw [HSN.out]; go_num⟩
            case measure => simp [intOf]; omega
          · have hx1 : ¬ (x[k].toNat : Int) = 10 := fun e => hc (UInt8.toNat_inj.1 (by rw [show (10 : UInt8).toNat = 10 from rfl]; omega))
            have hx1' : ¬ x[k].toNat = 10 := by omega
            rw [if_neg hc, Nat.add_zero] at hsn
            have HSN := Lib.hid hsn
            clear hsn hc
            generalize nls (x.data.toList.take k) = nl at hnl HSN
            go_wp2
            go_round
            case rel => exact ⟨k + 1, by omega, by go_num, by rw [HSN.out]; rfl⟩
            case measure => simp [intOf]; omega
        · have hki : ¬ (k : Int) < (x.size : Int) := by omega
          have hfull : nls (x.data.toList.take k) = nls x.data.toList := by rw [show k = x.size by omega, take_all]
          rw [hfull] at hnl ⊢
          clear hfull
          obtain ⟨d, hd⟩ : ∃ d, d = 1 + nls x.data.toList := ⟨_, rfl⟩
          rw [← hd] at HJ ⊢
          have hdb : d ≤ 1141 := by omega
          clear hd hnl
          go_wp2_with (fail)
          go_loopw [23, 24, 112] (fun _ _ vi wr => ∃ k : Nat, k ≤ n3 ∧ vi = .int .i64 k ∧ Hid (Toks wr a1 c1 ts ∧ Toks wr a2 c2 us ∧ Toks wr a3 c3 vs ∧ Below w.heap.size w wr)) (fun _ _ vi _ => n3 - (intOf vi).toNat)
          case atStart => exact ⟨0, Nat.zero_le _, rfl, HW0⟩
          case round =>
            clear HW0 hki hlt
            obtain ⟨k, hk, rfl, HW⟩ := hrel
            by_cases hlt : k < n3
            · have hki : (k : Int) < (n3 : Int) := by omega
              obtain ⟨g3, rfl, d3⟩ := HW.out.2.2.1.there (j := k) (by rw [← H3.out]; exact hlt)
              by_cases hlo : k + 1 < n1
              · have hlo2 : (k : Int) < (n1 : Int) - 1 := by omega
                have hlo3 : (k : Int) < (n1 : Int) := by omega
                obtain ⟨g1, rfl, d1⟩ := HW.out.1.there (j := k) (by rw [← H1.out]; omega)
                have he := HJ.out.lo k (by rw [← H3.out]; exact hlt) (by rw [← H1.out]; omega) (by rw [← H1.out]; omega)
                obtain ⟨e0, e1, e2, e3, e4⟩ := d3.to' he
                obtain ⟨f0, f1, f2, f3, f4⟩ := d1
                clear he
                generalize (ts[k]'(by rw [← H1.out]; omega)).kind = v0 at e0 f0
                generalize (ts[k]'(by rw [← H1.out]; omega)).n = v1 at e1 f1
                generalize (ts[k]'(by rw [← H1.out]; omega)).line = v2 at e2 f2
                generalize (ts[k]'(by rw [← H1.out]; omega)).col = v3 at e3 f3
                generalize str (ts[k]'(by rw [← H1.out]; omega)).text = v4 at e4 f4
                go_wp2_with (fail)
                go_quiet (fail)
                go_wp2_with (fail)
                go_roundw
                case rel => exact ⟨k + 1, by omega, by go_num, Lib.hid ⟨HW.out.1, HW.out.2.1, HW.out.2.2.1, HW.out.2.2.2.trans (below_drewN _ _ _)⟩⟩
                case measure => simp [intOf]; omega
              · have hlo2 : ¬ (k : Int) < (n1 : Int) - 1 := by omega
                obtain ⟨j, hj⟩ : ∃ j, j = k + 1 - n1 := ⟨_, rfl⟩
                have hjn : j < n2 := by omega
                obtain ⟨g2, rfl, d2⟩ := HW.out.2.1.there (j := j) (by rw [← H2.out]; exact hjn)
                have he := HJ.out.hi k (by rw [← H3.out]; exact hlt) j (by rw [← H2.out]; exact hjn) (by rw [← H1.out]; omega)
                obtain ⟨e0, e1, e2, e3, e4⟩ := d3.to' he
                obtain ⟨f0, f1, f2, f3, f4⟩ := d2
                clear he
                have hu : j < us.length := by rw [← H2.out]; exact hjn
                rw [show (shiftT d us[j]).kind = us[j].kind from rfl] at e0
                rw [show (shiftT d us[j]).n = us[j].n from rfl] at e1
                rw [show (shiftT d us[j]).line = us[j].line + d from rfl] at e2
                rw [show (shiftT d us[j]).col = us[j].col from rfl] at e3
                rw [show str (shiftT d us[j]).text = str us[j].text from rfl] at e4
                have hlb : us[j].line ≤ 1141 := HLB.out j hu
                generalize us[j].kind = v0 at e0 f0
                generalize us[j].n = v1 at e1 f1
                generalize us[j].line = v2 at e2 f2 hlb
                generalize us[j].col = v3 at e3 f3
                generalize str us[j].text = v4 at e4 f4
                have hj0 : (0 : Int) ≤ (k : Int) - (n1 : Int) + 1 := by omega
                have hj1 : (k : Int) - (n1 : Int) + 1 < (n2 : Int) := by omega
                have hj2 : ((k : Int) - (n1 : Int) + 1).toNat = j := by omega
                have hg3 : g3 < wr.heap.size := World.block_lt_of_cell? wr _ e0
                have hg2 : g2 < wr.heap.size := World.block_lt_of_cell? wr _ f0
                have HA : Hid (∀ o, Toks (wr.alloc o) a1 c1 ts ∧ Toks (wr.alloc o) (some ⟨g2, 0, none⟩) c2 us ∧ Toks (wr.alloc o) (some ⟨g3, 0, none⟩) c3 vs ∧ Below w.heap.size w (wr.alloc o)) := Lib.hid (fun o => ⟨HW.out.1.alloc o, HW.out.2.1.alloc o, HW.out.2.2.1.alloc o, HW.out.2.2.2.alloc HW.out.2.2.2.size o⟩)
                clear hj hu
                go_wp2_with (fail)
                go_quiet (fail)
                go_wp2_with (fail)
                go_roundw
                case rel => exact ⟨k + 1, by omega, by go_num, Lib.hid ⟨(HA.out _).1, (HA.out _).2.1, (HA.out _).2.2.1, (HA.out _).2.2.2.trans (below_drewN _ _ _)⟩⟩
                case measure => simp [intOf]; omega
            · have hki : ¬ (k : Int) < (n3 : Int) := by omega
              go_wp2_with (fail)
              refine (wakes_any _).mono ?_
              rintro e w6 ⟨rfl, b6⟩
              have HB6 := Lib.hid (HW.out.2.2.2.trans (b6.mono HW.out.2.2.2.size))
              clear b6
              go_wp2
              go_ret
              exact ⟨rfl, HB6.out⟩
end Go.Proofs.Ytoogffjmfihbgaa

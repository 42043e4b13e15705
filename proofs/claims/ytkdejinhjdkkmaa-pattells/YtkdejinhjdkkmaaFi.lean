/- PatTells' walk: of every text and every names Parse and the reference's ParsePat say the same, and what they make is a pattern; the condition: what came in lies there. -/
import Derived.Test.YtkdejinhjdkkmaaFh
import Derived.Test.YtkdejinhjdkkmaaCc
namespace Go.Proofs.Ytkdejinhjdkkmaa
open Go.ChangeShapes Go.WideShapes Go.ChangeAt Go.RowKit Go.Maps

theorem Row.own {w : World} {t : TypeId} {a : Option Addr} {c : Nat} {xs : List Value} (h : Row w t a c xs) {B : Nat} (hB : ∀ g, a = some ⟨g, 0, none⟩ → B ≤ g) : w.ownsRow B t 1 (.slice a xs.length c) xs.length xs := by
  refine ⟨by omega, ?_⟩
  rcases h with ⟨rfl, rfl, rfl⟩ | ⟨g, sp, rfl, hc, hm, l⟩
  · exact .inl ⟨rfl, rfl⟩
  · refine .inr ⟨g, c, _, rfl, hB g rfl, l, by omega, by unfold maxLen; omega, ?_, ?_⟩
    · simp [hc]
    · simp
/-- append of a row to a row of one's own. -/
theorem run_app_rows (t ty el : TypeId) (z : Value) (nb : Nat) (hu : Try.prog.underlying t = some (.slice el)) (hinfo : (Try.prog.info? el).map (fun i => (i.zero, i.size, i.bytes)) = some (some z, 1, nb)) (hz1 : z.cells.size = 1) (hnb : nb ≤ 1000)
    (B : Nat) (a a2 : Option Addr) (c c2 : Nat) (xs ys : List Value) (w : World) (R : Row w el a c xs) (hB : ∀ g, a = some ⟨g, 0, none⟩ → B ≤ g) (hBw : B ≤ w.heap.size) (R2 : Row w el a2 c2 ys) (h1 : ∀ x ∈ ys, x.oneCell' = true) (hb : xs.length + ys.length ≤ 1000000) :
    ∃ a' c' w', (Builtin.append_ #[t, t] ty #[.slice a xs.length c, .slice a2 ys.length c2]).run Try.prog w = .ok (.slice a' (xs ++ ys).length c') w' ∧ Row w' el a' c' (xs ++ ys) ∧ (∀ g, a' = some ⟨g, 0, none⟩ → B ≤ g) ∧ Below B w w' := by
  obtain ⟨i, hi, hz, hsz, hby⟩ := info_parts hinfo
  have hown := R.own hB
  rcases R2 with ⟨rfl, rfl, rfl⟩ | ⟨g, sp, rfl, hc, hm, l⟩
  · have hr := run_append_owned_none (w := w) B t ty el i 1 hu hi _ xs.length xs hown
    refine ⟨a, c, w, ?_, ?_, hB, Below.refl _ _⟩
    · rw [List.append_nil]; exact hr
    · rw [List.append_nil]; exact R
  · have hmul : (xs.length + ys.length) * nb ≤ 140737488355328 := Nat.le_trans (Nat.mul_le_mul hb hnb) (by decide)
    obtain ⟨v', w', hr, h2, h3, _, _⟩ := run_append_own_at (P := Try.prog) w B t ty el i _ 1 nb hu hi hz hsz hby hz1 (by omega) _ xs.length xs hown
        ⟨g, 0, none⟩ ys.length c2 ys (by omega) (fun j u hj => by rw [Addr.add_lit]; exact one_cell l hj) h1 (by unfold maxLen; omega) hmul hBw
    obtain ⟨a', c', rfl, r, f⟩ := own_row h2
    refine ⟨a', c', w', hr, r, f, (Below.refl _ _).grown h3 hBw (fun k e => ?_)⟩
    obtain ⟨x, rfl, hx'⟩ := (ownBlock_slice a _ _ k).1 e
    rcases R with ⟨e', _⟩ | ⟨g', sp', e', _, _, _⟩
    · cases e'
    · injection e' with e'
      subst e'
      subst hx'
      exact hB _ rfl
theorem names_at (w : World) : Calls Try.prog 12 #[] w fun e w' => e = .returned (.slice (some ⟨w.heap.size, 0, none⟩) 4 4) ∧ Lies w' w.heap.size 9 (strs namesL) ∧ Below w.heap.size w w' := by
  go_enter Try.func12, Try.ntmps12
  go_wp2
  go_ret
  exact ⟨rfl, Lies.new w 9 (strs namesL), (Below.refl _ _).alloc (Nat.le_refl _) _⟩
theorem strs_one (ls : List Txt) : ∀ x ∈ strs ls, x.oneCell' = true := fun x hx => by
  unfold strs at hx
  obtain ⟨l, _, rfl⟩ := List.mem_map.1 hx
  rfl
theorem Row.strs {w : World} {a : Option Addr} {c : Nat} {ls : List Txt} (h : Row w 9 a c (strs ls)) : Strs w a ls := by
  rcases h with ⟨_, _, e⟩ | ⟨g, sp, e, _, _, l⟩
  · exact .inl (List.map_eq_nil_iff.1 e)
  · exact .inr ⟨g, sp, e, l⟩

theorem parse_len (keys nm : List Txt) (l : Txt) : (parseT keys nm l).2.length ≤ 24 := by
  unfold parseT
  split
  · simp
  · cases go l 1 1 with
    | bad a b => simp [parseP]
    | ok ts =>
      simp only [parseP]
      cases wholeP keys nm ts with
      | bad e => simp
      | ok rest ns =>
        simp only
        split
        · simp
        · simp only; omega
/-- Where the law's loop stands. -/
structure TellSt (w wr : World) (sa : Option Addr) (nm : List Txt) (gx : Nat) (t1 t2 : ByteArray) : Prop where
  bel : Below w.heap.size w wr
  nms : Strs wr sa nm
  txt : Lies wr gx 9 [.string t1, .string t2]
theorem TellSt.below {w wr w' : World} {sa : Option Addr} {nm : List Txt} {gx : Nat} {t1 t2 : ByteArray} (h : TellSt w wr sa nm gx t1 t2) (b : Below wr.heap.size wr w') : TellSt w w' sa nm gx t1 t2 :=
  ⟨h.bel.trans (b.mono h.bel.size), h.nms.below b, h.txt.below b h.txt.lt⟩

set_option maxRecDepth 100000 in
set_option maxHeartbeats 8000000 in
theorem tells_walk (s : ByteArray) (pa : Option Addr) (len cap : Nat) (zs : List Int) (na : Option Addr) (nlen ncap : Nat) (nms : List Txt) (w : World) (hs : s.size ≤ maxLen)
    (hpn : pa = none → len = 0 ∧ cap = 0) (hplc : len ≤ cap) (hpcap : cap ≤ 9223372036854775807) (hz : len ≤ zs.length) (HR : ∀ k, k < len → RowAt w pa zs k)
    (hnl : nms.length = nlen) (hnn : na = none → nms = [] ∧ ncap = 0) (hnlc : nlen ≤ ncap) (hncap : ncap ≤ 9223372036854775807) (HC : CellsAt w na (strs nms)) (hx : ∀ x ∈ nms, x.length ≤ maxLen) :
    Calls Try.prog 4 #[.string s, .slice pa len cap, .slice na nlen ncap] w (True_ w) := by
  subst hnl
  have CC := fun W (b : Below w.heap.size w W) => cut_strings na ncap (strs nms) 4 W (fun e => ⟨by rw [(hnn e).1]; rfl, (hnn e).2⟩) (HC.below b) (strs_one _) (by rw [strs_len]; exact hnlc) hncap (by omega)
  have hty : (strs nms).take 4 = strs (nms.take 4) := by unfold strs; exact List.map_take.symm
  rw [strs_len, hty] at CC
  have HX : Hid (∀ x ∈ namesL ++ nms.take 4, x.length ≤ maxLen) := Lib.hid (fun x h => by
    rcases List.mem_append.1 h with h | h
    · have : ∀ x ∈ namesL, x.length ≤ 16 := by decide
      have := this x h
      unfold maxLen; omega
    · exact hx x (List.mem_of_mem_take h))
  have hl4 : (nms.take 4).length ≤ 4 := by rw [List.length_take]; omega
  have CC := Lib.hid CC
  generalize nms.take 4 = ms at CC HX hl4
  have CT := Lib.hid (fun W => text_any s 200 W hs (by omega))
  have CL := Lib.hid (fun W (b : Below w.heap.size w W) => ltext_any s pa len cap zs W hs hpn hplc hpcap hz (Lib.hid (fun k hk => by
    obtain ⟨b', off, e, hc, hb, h0, h1⟩ := HR k hk
    exact ⟨b', off, e, (b.cell (p := ⟨b', _, none⟩) hb).trans hc, Nat.lt_of_lt_of_le hb b.size, h0, h1⟩)))
  have h200 : (s.extract 0 (min s.size 200)).size ≤ 200 := by rw [ByteArray.size_extract]; omega
  generalize s.extract 0 (min s.size 200) = t1 at CT h200
  clear hty HC HR hx hnn hpn hz
  generalize nms.length = nlen at CC ⊢
  go_enter Try.func4, Try.ntmps4
  go_wp2_with (fail)
  refine (names_at _).mono ?_
  rintro e w1 ⟨rfl, L1, b1⟩
  have C1 := Lib.hid (CC.out w1 b1)
  have HB1 := Lib.hid b1
  have HL1 := Lib.hid L1
  clear L1 b1 CC
  go_wp2_with (fail)
  refine C1.out.mono ?_
  rintro e w2 ⟨a2, c2, rfl, T2, -, b2⟩
  have R2 : Row w2 9 (some ⟨w.heap.size, 0, none⟩) 4 (strs namesL) := .inr ⟨w.heap.size, [], rfl, rfl, by omega, by rw [List.append_nil]; exact HL1.out.below b2 HL1.out.lt⟩
  have HB2 : Below w.heap.size w w2 := HB1.out.trans (b2.mono HB1.out.size)
  obtain ⟨a3, c3, w3, hrun, R3, O3, b3⟩ := run_app_rows 31 31 9 (.string ⟨#[]⟩) 16 Try.underlying31 Try.info9 rfl (by omega) w.heap.size _ a2 4 c2 _ _ w2 R2 (fun g e => by injection e with e; injection e with e; omega) HB2.size T2 (strs_one _) (by rw [strs_len, strs_len]; show 4 + ms.length ≤ _; omega)
  have HB3 : Hid (Below w.heap.size w w3) := Lib.hid (HB2.trans b3)
  have hnm : (strs namesL ++ strs ms) = strs (namesL ++ ms) := by unfold strs; exact List.map_append.symm
  rw [hnm] at R3 hrun
  have hl3 : (strs namesL).length = 4 := rfl
  rw [hl3, strs_len, strs_len] at hrun
  have HS3 := Lib.hid R3.strs
  have hnml : (namesL ++ ms).length ≤ 8 := by rw [List.length_append]; show 4 + ms.length ≤ 8; omega
  rw [strs_len]
  generalize namesL ++ ms = nm at HS3 HX hrun hnml
  obtain ⟨n, hn⟩ : ∃ n, n = nm.length := ⟨_, rfl⟩
  rw [← hn] at hrun hnml
  have HN := Lib.hid hn
  clear R2 HB2 R3 O3 b3 T2 b2 HB1 HL1 C1 hnm hl3 hn
  go_wp2_with (at_builtin; refine Lib.wpList_append_run _ rfl _ _ _ _ rfl _ _ rfl rfl _ _ hrun ?_)
  refine (CT.out _).mono ?_
  rintro e w4 ⟨rfl, rfl⟩
  go_wp2_with (fail)
  refine (CL.out _ HB3.out).mono ?_
  rintro e w5 ⟨t2, ht2, rfl, b5⟩
  have S5 : TellSt w (w5.alloc (.cells #[.string t1, .string t2] 9)) a3 nm w5.heap.size t1 t2 := ⟨(HB3.out.trans (b5.mono HB3.out.size)).alloc (Nat.le_trans HB3.out.size b5.size) _, (HS3.out.below b5).below ((Below.refl _ _).alloc (Nat.le_refl _) _), Lies.new w5 9 _⟩
  have HS5 := Lib.hid S5
  clear S5 b5 HB3 HS3 hrun CT CL
  go_wp2_with (fail)
  generalize w5.heap.size = gx at HS5 ⊢
  go_loopw [6, 8, 9, 10, 11, 12, 24] (fun _ _ _ _ _ _ i wr => ∃ k : Nat, k ≤ 2 ∧ i = .int .i64 k ∧ Hid (TellSt w wr a3 nm gx t1 t2)) (fun _ _ _ _ _ _ i _ => 2 - (intOf i).toNat)
  case atStart => exact ⟨0, Nat.zero_le _, rfl, HS5⟩
  case round =>
    clear HS5
    obtain ⟨k, hk, rfl, HS⟩ := hrel
    by_cases hlt : k < 2
    · obtain ⟨y, hy, hc⟩ : ∃ y : ByteArray, y.size ≤ 200 ∧ wr.cell? ⟨gx, k, none⟩ = some (.string y) := by
        rw [HS.out.txt.cell]
        match k, hlt with
        | 0, _ => exact ⟨t1, h200, rfl⟩
        | 1, _ => exact ⟨t2, ht2, rfl⟩
      have CP := parse_any y nm a3 c3 wr (by unfold maxLen; omega) HS.out.nms (by rw [← HN.out]; omega) HX.out
      have CR := fun W (b : Below wr.heap.size wr W) => fparse_any y nm a3 c3 W (by unfold maxLen; omega) (HS.out.nms.below b) (by rw [← HN.out]; omega)
      have HCK := Lib.hid (parse_chk keysL nm y.data.toList)
      have hr4 : (parseT keysL nm y.data.toList).2.length ≤ 24 := parse_len keysL nm y.data.toList
      rw [← HN.out] at CP CR HCK
      generalize parseT keysL nm y.data.toList = r at CP CR HCK hr4
      obtain ⟨r1, r2⟩ := r
      have CP := Lib.hid CP
      have CR := Lib.hid CR
      simp only at HCK hr4
      go_wp2_with (fail)
      refine CP.out.mono ?_
      rintro e w6 ⟨qa, qc, rfl, T6, -, b6⟩
      have C6 := Lib.hid (CR.out w6 b6)
      have HT6 := Lib.hid T6
      have HS6 := Lib.hid (HS.out.below b6)
      clear T6 b6 CP CR HS
      simp only at HT6 C6
      go_wp2_with (fail)
      refine C6.out.mono ?_
      rintro e w7 ⟨ua, uc, rfl, T7, -, b7⟩
      have T6' := HT6.out.below b7
      have CS := Lib.hid (psame_yes qa ua qc uc r2 w7 T6' T7)
      have HS7 := Lib.hid (HS6.out.below b7)
      have HT7 := Lib.hid T6'
      clear T7 b7 C6 HT6 HS6 T6'
      obtain ⟨m, hm⟩ : ∃ m, m = r2.length := ⟨_, rfl⟩
      have HM := Lib.hid hm
      simp only
      rw [← hm] at CS hr4 ⊢
      clear hm
      go_wp2_with (fail)
      refine CS.out.mono ?_
      rintro e w8 ⟨rfl, q, rfl⟩
      have HS8 := Lib.hid (HS7.out.below (below_drewN _ w7 q))
      have HT8 := Lib.hid (HT7.out.below (below_drewN _ w7 q))
      clear HS7 HT7 CS hc
      generalize World.drewN w7 q = w8 at HS8 HT8 ⊢
      by_cases h0 : r1 = 0
      · subst h0
        have CK := check_any r2 (n : Int) qa qc w8 HT8.out.at (by rw [← HM.out]; omega)
        unfold chkOut at CK
        rw [HCK.out rfl, ← HM.out] at CK
        have CK := Lib.hid CK
        go_wp2_with (fail)
        refine CK.out.mono ?_
        rintro e w9 ⟨rfl, b9⟩
        have HS9 := Lib.hid (HS8.out.below b9)
        clear b9 CK HS8 HT8
        go_wp2_with (fail)
        go_roundw
        case rel => exact ⟨k + 1, by omega, by go_num, HS9⟩
        case measure => simp [intOf]; omega
      · have h1 : ¬ (r1 : Int) = 0 := by omega
        have h2 : ((r1 : Int) == 0) = false := by simp; omega
        clear h0
        go_wp2_with (fail)
        go_roundw
        case rel => exact ⟨k + 1, by omega, by go_num, HS8⟩
        case measure => simp [intOf]; omega
    · go_wp2_with (fail)
      refine (wakes_any _).mono ?_
      rintro e w6 ⟨rfl, b6⟩
      have HB6 : Hid (Below w.heap.size w w6) := Lib.hid (HS.out.bel.trans (b6.mono HS.out.bel.size))
      clear b6
      go_wp2
      go_ret
      exact ⟨rfl, HB6.out⟩
end Go.Proofs.Ytkdejinhjdkkmaa

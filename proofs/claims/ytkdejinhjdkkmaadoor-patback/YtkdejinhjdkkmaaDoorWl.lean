/- PatBack's walk: a pattern is read of its text as it was; a text that is read, printed, is read as the same; the condition: what came in lies there, the table of powers too. -/
import Derived.Test.YtkdejinhjdkkmaaDoorWf
import Derived.Test.YtkdejinhjdkkmaaDoorFs
import Derived.Test.YtkdejinhjdkkmaaDoorNu
import Derived.Test.YtkdejinhjdkkmaaDoorPd
namespace Go.Proofs.YtkdejinhjdkkmaaDoor
open Go.ChangeShapes Go.WideShapes Go.ChangeAt Go.RowKit Go.Maps

theorem str_cat (a b : Txt) : str a ++ str b = str (a ++ b) := by
  apply ByteArray.ext
  apply Array.toList_inj.1
  rw [ByteArray.data_append]
  simp [str]
theorem parse_len (keys nm : List Txt) (l : Txt) : (parseT keys nm l).2.length ≤ 24 := by
  unfold parseT
  split
  · simp
  · cases go l 1 1 with
    | bad a b => simp [parseP]
    | ok ts =>
      simp only [parseP]
      cases wholeP keys nm ts with
      | bad e => simp
      | ok rest ns =>
        simp only
        split
        · simp
        · simp only; omega
theorem keys_known : ∀ x ∈ names4, isName keysL x = true := by decide
theorem names_there (w : World) : Calls Tryd.prog 5 #[] w fun e w' => e = .returned (.slice (some ⟨w.heap.size, 0, none⟩) 4 4) ∧ Lies w' w.heap.size 9 (strs names4) ∧ Below w.heap.size w w' := by
  go_enter Tryd.func5, Tryd.ntmps5
  go_wp2
  go_ret
  exact ⟨rfl, Lies.new w 9 (strs names4), (Below.refl _ _).alloc (Nat.le_refl _) _⟩
theorem names_short : ∀ x ∈ names4, x.length ≤ maxLen := fun x hx => by
  have : ∀ x ∈ names4, x.length ≤ 16 := by decide
  have := this x hx
  unfold maxLen; omega
/-- What Print and Parse do over the law's names. -/
theorem print4 (ns : List Nd) (a : Option Addr) (c g : Nat) (w : World) (N : Nds w a c ns) (L : Lies w g 9 (strs names4)) (ht : Lib.TabIs Tryd.prog w "internal/strconv.uint64pow10" .u64 Lib.pow10Tab) (hl : ns.length ≤ 1000000) {T : Txt} (hT : printP keysL names4 ns = (0, T)) :
    Calls Tryd.prog 7 #[.slice a ns.length c, .slice (some ⟨g, 0, none⟩) 4 4] w fun e w' => e = .returned (.tuple #[.string (str T), .int .i64 0]) ∧ Below w.heap.size w w' := by
  have C := print_any ns names4 a c (some ⟨g, 0, none⟩) 4 w N.at (.inr ⟨g, [], rfl, by rw [List.append_nil]; exact L⟩) ht hl (by decide) names_short
  rw [hT] at C
  exact C
theorem parse4 (x : Txt) (g : Nat) (w : World) (L : Lies w g 9 (strs names4)) (hl : x.length ≤ 1000000) {r : Nat × List Nd} (hr : parseT keysL names4 x = r) :
    Calls Tryd.prog 8 #[.string (str x), .slice (some ⟨g, 0, none⟩) 4 4] w (Parses r w) := by
  subst hr
  exact parse_lit x names4 (some ⟨g, 0, none⟩) 4 w hl (.inr ⟨g, [], rfl, by rw [List.append_nil]; exact L⟩) (by decide) names_short

set_option maxHeartbeats 8000000 in
set_option maxRecDepth 100000 in
theorem back_walk (la : Option Addr) (len cap : Nat) (zs : List Int) (pa : Option Addr) (plen pcap : Nat) (ps : List Int) (w : World) (hlen : len ≤ 9223372036854775807) (HR : ∀ k, k < len → RowAt w la zs k)
    (hpn : pa = none → plen = 0 ∧ pcap = 0) (hplc : plen ≤ pcap) (hpcap : pcap ≤ 9223372036854775807) (hpz : plen ≤ ps.length) (HP : ∀ k, k < plen → RowAt w pa ps k) (ht : Lib.TabIs Tryd.prog w "internal/strconv.uint64pow10" .u64 Lib.pow10Tab) :
    Calls Tryd.prog 3 #[.slice la len cap, .slice pa plen pcap] w (True_ w) := by
  have up : ∀ {a : Option Addr} {n : Nat} {l : List Int} {W : World}, (∀ k, k < n → RowAt w a l k) → Below w.heap.size w W → Hid (∀ k, k < n → RowAt W a l k) := fun h b => Lib.hid (fun k hk => by
    obtain ⟨b', off, e, hc, hb, h0, h1⟩ := h k hk
    exact ⟨b', off, e, (b.cell (p := ⟨b', _, none⟩) hb).trans hc, Nat.lt_of_lt_of_le hb b.size, h0, h1⟩)
  have CPat := Lib.hid (fun W (b : Below w.heap.size w W) => pattern_any la len cap zs W hlen (up HR b))
  have CTx := Lib.hid (fun W (b : Below w.heap.size w W) => ltext_any ⟨#[]⟩ pa plen pcap ps W (by decide) hpn hplc hpcap hpz (up HP b))
  have HT := Lib.hid ht
  clear up HR HP hpn hpz ht
  go_enter Tryd.func3, Tryd.ntmps3
  go_wp2_with (fail)
  refine (names_there _).mono ?_
  rintro e w1 ⟨rfl, L1, b1⟩
  have HL1 := Lib.hid L1
  have HB1 := Lib.hid b1
  have C1 := Lib.hid (CPat.out w1 b1)
  clear L1 b1 CPat
  generalize hgg : w.heap.size = gn at HL1 ⊢
  have HGG := Lib.hid hgg
  clear hgg
  go_wp2_with (fail)
  refine C1.out.mono ?_
  rintro e w2 ⟨a, c, ns, rfl, N2, hck, h1, h24, hem, -, b2⟩
  obtain ⟨T, hT1, hTl, hT2, hT3⟩ := back_plain keysL keys_known hck hem
  have HB2 : Hid (Below w.heap.size w w2) := Lib.hid (HB1.out.trans (b2.mono HB1.out.size))
  have HL2 := Lib.hid (HL1.out.below b2 HL1.out.lt)
  have HN2 := Lib.hid N2
  have CPr := Lib.hid (print4 ns a c gn w2 N2 HL2.out (tab_below HT.out HB2.out) (by omega) hT1)
  have HT2 := Lib.hid hT2
  have HT3 := Lib.hid hT3
  clear N2 b2 C1 HL1 HB1 hck hem hT1 hT2 hT3
  obtain ⟨n, hn⟩ : ∃ n, n = ns.length := ⟨_, rfl⟩
  rw [← hn] at CPr h1 h24 ⊢
  have HN := Lib.hid hn
  clear hn
  go_wp2_with (fail)
  refine CPr.out.mono ?_
  rintro e w3 ⟨rfl, b3⟩
  have HB3 : Hid (Below w.heap.size w w3) := Lib.hid (HB2.out.trans (b3.mono HB2.out.size))
  have HL3 := Lib.hid (HL2.out.below b3 HL2.out.lt)
  have HN3 := Lib.hid (HN2.out.below b3)
  have C3 := Lib.hid (parse4 T gn w3 HL3.out (by omega) HT2.out)
  have hsz : (str T).size = T.length := str_size T
  have HX : Hid (⟨#[32]⟩ ++ str T ++ ⟨#[32, 32, 35, 32, 42, 10]⟩ = str ([32] ++ T ++ [32, 32, 35, 32, 42, 10])) := Lib.hid (by
    have e1 : (⟨#[32]⟩ : ByteArray) = str [32] := rfl
    have e2 : (⟨#[32, 32, 35, 32, 42, 10]⟩ : ByteArray) = str [32, 32, 35, 32, 42, 10] := rfl
    rw [e1, e2, str_cat, str_cat])
  have hszT : (str T).size ≤ 720 := by omega
  clear b3 CPr HB2 HL2 HN2 hsz
  go_wp2_with (fail)
  refine C3.out.mono ?_
  rintro e w4 ⟨qa, qc, rfl, N4, -, b4⟩
  have HB4 : Hid (Below w.heap.size w w4) := Lib.hid (HB3.out.trans (b4.mono HB3.out.size))
  have HL4 := Lib.hid (HL3.out.below b4 HL3.out.lt)
  have HN4 := Lib.hid (HN3.out.below b4)
  have HQ4 := Lib.hid N4
  have C4 := parse4 ([32] ++ T ++ [32, 32, 35, 32, 42, 10]) gn w4 HL4.out (by simp; omega) HT3.out
  rw [← HX.out] at C4
  have C4 := Lib.hid C4
  clear b4 C3 HB3 HL3 HN3 N4 HT2 HT3 HX
  simp only
  rw [← HN.out]
  generalize str T = sT at *
  go_wp2_with (fail)
  refine C4.out.mono ?_
  rintro e w5 ⟨ua, uc, rfl, N5, -, b5⟩
  have HB5 : Hid (Below w.heap.size w w5) := Lib.hid (HB4.out.trans (b5.mono HB4.out.size))
  have HL5 := Lib.hid (HL4.out.below b5 HL4.out.lt)
  have HN5 := Lib.hid (HN4.out.below b5)
  have HQ5 := Lib.hid (HQ4.out.below b5)
  have HU5 := Lib.hid N5
  have CS1 := psame_yes a qa c qc ns w5 HN5.out HQ5.out
  have CS2 := Lib.hid (fun q => psame_yes a ua c uc ns (w5.drewN q) (HN5.out.below (below_drewN _ _ _)) (Nds.below (w := w5) HU5.out (below_drewN _ _ _)))
  rw [← HN.out] at CS1 CS2
  have CS1 := Lib.hid CS1
  clear b5 C4 HB4 HL4 HN4 HQ4 N5
  simp only
  rw [← HN.out]
  go_wp2_with (fail)
  refine CS1.out.mono ?_
  rintro e w6 ⟨rfl, q6, rfl⟩
  have C6 := Lib.hid (CS2.out q6)
  clear CS1 CS2
  go_wp2_with (fail)
  refine C6.out.mono ?_
  rintro e w7 ⟨rfl, q7, rfl⟩
  have HB7 : Hid (Below w.heap.size w ((w5.drewN q6).drewN q7)) := Lib.hid ((HB5.out.trans (below_drewN _ _ _)).trans (below_drewN _ _ _))
  have HL7 : Hid (Lies ((w5.drewN q6).drewN q7) gn 9 (strs names4)) := Lib.hid HL5.out
  have C7 := Lib.hid (CTx.out _ HB7.out)
  clear C6 HB5 HL5 HN5 HQ5 HU5 CTx
  generalize (w5.drewN q6).drewN q7 = w7 at HB7 HL7 C7 ⊢
  go_wp2_with (fail)
  refine C7.out.mono ?_
  rintro e w8 ⟨t, htl, rfl, b8⟩
  have HB8 : Hid (Below w.heap.size w w8) := Lib.hid (HB7.out.trans (b8.mono HB7.out.size))
  have HL8 := Lib.hid (HL7.out.below b8 HL7.out.lt)
  have hchk := parse_chk keysL names4 t.data.toList
  have hbare := parse_bare keysL names4 t.data.toList
  have hnone := parse_none keysL names4 t.data.toList
  have hplen : (parseT keysL names4 t.data.toList).2.length ≤ 24 := parse_len keysL names4 t.data.toList
  have C8 := parse4 t.data.toList gn w8 HL8.out (by rw [size_list]; omega) rfl
  rw [str_list] at C8
  generalize parseT keysL names4 t.data.toList = r at C8 hchk hbare hnone hplen
  obtain ⟨r1, r2⟩ := r
  simp only at hchk hbare hnone hplen
  have C8 := Lib.hid C8
  clear b8 C7 HB7 HL7
  go_wp2_with (fail)
  refine C8.out.mono ?_
  rintro e w9 ⟨va, vc, rfl, N9, -, b9⟩
  have HB9 : Hid (Below w.heap.size w w9) := Lib.hid (HB8.out.trans (b9.mono HB8.out.size))
  have HL9 := Lib.hid (HL8.out.below b9 HL8.out.lt)
  have HN9 := Lib.hid N9
  clear b9 C8 HB8 HL8 N9
  simp only
  by_cases h0 : r1 = 0
  · subst h0
    obtain ⟨T2, hU1, hUl, hU2, -⟩ := back_plain keysL keys_known (hchk rfl) hbare
    have C9 := print4 r2 va vc gn w9 HN9.out HL9.out (tab_below HT.out HB9.out) (by omega) hU1
    obtain ⟨m, hm⟩ : ∃ m, m = r2.length := ⟨_, rfl⟩
    rw [← hm] at C9 hplen ⊢
    have C9 := Lib.hid C9
    have HM := Lib.hid hm
    have HU2 := Lib.hid hU2
    clear hm hU1 hU2 hchk hbare hnone
    go_wp2_with (fail)
    refine C9.out.mono ?_
    rintro e w10 ⟨rfl, b10⟩
    have HB10 : Hid (Below w.heap.size w w10) := Lib.hid (HB9.out.trans (b10.mono HB9.out.size))
    have HL10 := Lib.hid (HL9.out.below b10 HL9.out.lt)
    have HN10 := Lib.hid (HN9.out.below b10)
    have C10 := Lib.hid (parse4 T2 gn w10 HL10.out (by omega) HU2.out)
    clear b10 C9 HB9 HL9 HN9 HU2
    generalize str T2 = sT2 at *
    go_wp2_with (fail)
    refine C10.out.mono ?_
    rintro e w11 ⟨xa, xc, rfl, N11, -, b11⟩
    have HB11 : Hid (Below w.heap.size w w11) := Lib.hid (HB10.out.trans (b11.mono HB10.out.size))
    have CS := psame_yes va xa vc xc r2 w11 (HN10.out.below b11) N11
    rw [← HM.out] at CS
    have CS := Lib.hid CS
    clear b11 C10 HB10 HL10 HN10 N11
    simp only
    rw [← HM.out]
    go_wp2_with (fail)
    refine CS.out.mono ?_
    rintro e w12 ⟨rfl, q, rfl⟩
    have HB12 : Hid (Below w.heap.size w (w11.drewN q)) := Lib.hid (HB11.out.trans (below_drewN _ _ _))
    clear CS HB11
    generalize w11.drewN q = w12 at HB12 ⊢
    go_wp2_with (fail)
    refine (wakes_any _).mono ?_
    rintro e w13 ⟨rfl, b13⟩
    have HB13 : Hid (Below w.heap.size w w13) := Lib.hid (HB12.out.trans (b13.mono HB12.out.size))
    clear b13
    go_wp2
    go_ret
    exact ⟨rfl, HB13.out⟩
  · have hz : ¬ (r1 : Int) = 0 := by omega
    have hz2 : ((r1 : Int) != 0) = true := by simp; omega
    rw [hnone h0]
    clear h0 hchk hbare hnone HN9 HL9
    go_wp2_with (fail)
    refine (wakes_any _).mono ?_
    rintro e w13 ⟨rfl, b13⟩
    have HB13 : Hid (Below w.heap.size w w13) := Lib.hid (HB9.out.trans (b13.mono HB9.out.size))
    clear b13
    go_wp2
    go_ret
    exact ⟨rfl, HB13.out⟩
end Go.Proofs.YtkdejinhjdkkmaaDoor

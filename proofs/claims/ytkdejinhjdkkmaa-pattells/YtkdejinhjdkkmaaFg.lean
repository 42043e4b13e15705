/- Contract of the reference's ParsePat: the pattern that a text writes, or the error; the condition: the names lie there. -/
import Derived.Test.YtkdejinhjdkkmaaFf
import Derived.Test.YtkdejinhjdkkmaaQ
import Derived.Test.YtkdejinhjdkkmaaRg
namespace Go.Proofs.Ytkdejinhjdkkmaa
open Go.ChangeShapes Go.WideShapes Go.ChangeAt Go.RowKit Go.Maps

theorem rtokens_any (s : ByteArray) (w : World) (hs : s.size ≤ maxLen) : Calls Try.prog 30 #[.string s] w (Tells s.data.toList w) := by
  by_cases h : s.size ≤ 16384
  · exact rtokens_main s w h
  · exact rtokens_limit s w hs (by omega)

set_option maxRecDepth 100000 in
set_option maxHeartbeats 4000000 in
theorem fparse_any (s : ByteArray) (nm : List Txt) (a : Option Addr) (c : Nat) (w : World) (hs : s.size ≤ maxLen) (S : Strs w a nm) (hn : nm.length ≤ 1000000) :
    Calls Try.prog 17 #[.string s, .slice a nm.length c] w (Parses (parseT keysL nm s.data.toList) w) := by
  have CT := rtokens_any s w hs
  unfold Tells at CT
  obtain ⟨r, hr⟩ : ∃ r, r = parseT keysL nm s.data.toList := ⟨_, rfl⟩
  rw [← hr]
  unfold parseT at hr
  by_cases hlim : 16384 < s.data.toList.length
  · rw [if_pos hlim] at hr
    rw [ans_limit hlim] at CT
    have HO := Lib.hid hr
    have CT := Lib.hid CT
    clear hr hlim S
    go_enter Try.func17, Try.ntmps17
    go_wp2_with (fail)
    refine CT.out.mono ?_
    rintro e w1 ⟨a1, c1, rfl, T1, b1⟩
    have HB := Lib.hid b1
    clear T1 b1
    go_wp2
    go_ret2
    exact Parses.bad HO.out rfl HB.out
  · rw [if_neg hlim] at hr
    cases hg : go s.data.toList 1 1 with
    | bad l cl =>
      rw [hg] at hr
      rw [ans_bad (by omega) hg] at CT
      have HO : Hid (r = (2, [])) := Lib.hid hr
      have CT := Lib.hid CT
      clear hr hlim hg S
      go_enter Try.func17, Try.ntmps17
      go_wp2_with (fail)
      refine CT.out.mono ?_
      rintro e w1 ⟨a1, c1, rfl, T1, b1⟩
      have HB := Lib.hid b1
      clear T1 b1
      go_wp2
      go_ret2
      exact Parses.bad HO.out rfl HB.out
    | ok ts =>
      rw [hg] at hr
      rw [ans_ok (by omega) hg] at CT
      have hE := go_ended _ _ _ _ ts (Nat.le_refl _) hg
      simp only [parseP] at hr
      unfold wholeP at hr
      have HRR := Lib.hid hr
      have CT := Lib.hid CT
      have HE := Lib.hid hE.1
      have hlen : ts.length ≤ 20000 := by have := hE.2; omega
      have HS := Lib.hid S
      clear hr hlim hg hE S
      go_enter Try.func17, Try.ntmps17
      go_wp2_with (fail)
      refine CT.out.mono ?_
      rintro e w1 ⟨a1, c1, rfl, T1, b1⟩
      have HB1 := Lib.hid b1
      have HOK : Hid (EnvF.Ok ⟨ts, nm, w1.heap.size, a1, c1, a, c, w1.heap.size, w1⟩) := Lib.hid ⟨T1, fun h e => T1.lt e, HS.out.below b1, hlen, hn, Nat.le_refl _, rfl, HE.out⟩
      have R2 : RF ⟨ts, nm, w1.heap.size, a1, c1, a, c, w1.heap.size, w1⟩ (w1.alloc (.cells #[.slice a1 ts.length c1, .int .i64 0, .slice a nm.length c, .bool false, .int .i64 0, .int .i64 0, .slice none 0 0] 71)) 0 0 0 [] :=
        ⟨none, 0, Lies.new w1 71 _, Nds.nil _, (fun _ e => nomatch e), (Below.refl _ _).alloc (Nat.le_refl _) _⟩
      have C := fboth _ HOK.out 12 0 rfl false _ 0 [] R2 HE.out (Nat.le_refl _)
      have hfine := fine_sum keysL nm 12 false
      clear T1 b1 R2 CT HS
      obtain ⟨E, hEE⟩ : ∃ E : EnvF, E = ⟨ts, nm, w1.heap.size, a1, c1, a, c, w1.heap.size, w1⟩ := ⟨_, rfl⟩
      have eg : E.g = w1.heap.size := by rw [hEE]
      have et : E.toks = ts := by rw [hEE]
      have en : E.nm = nm := by rw [hEE]
      have ea : E.ta = a1 := by rw [hEE]
      have ec : E.tc = c1 := by rw [hEE]
      have eB : E.B = w1.heap.size := by rw [hEE]
      have ew : E.w0 = w1 := by rw [hEE]
      rw [← hEE] at C HOK
      have HEG := Lib.hid eg
      have HET := Lib.hid et
      have HEA := Lib.hid ea
      have HEC := Lib.hid ec
      have HEB := Lib.hid eB
      have HEW := Lib.hid ew
      simp only [List.drop_zero, List.length_nil] at C
      rw [eg, en, et] at C
      clear hEE eg et ea ec eB ew en
      cases hx : sumP keysL nm 12 false ts [] with
      | bad k =>
        rw [hx] at C HRR
        have hk := fine_bad hfine HE.out hx
        have hk0 : ¬ ((k : Nat) : Int) = 0 := by omega
        have hk1 : (((k : Nat) : Int) == 0) = false := by simp; omega
        have hk2 : (((k : Nat) : Int) != 0) = true := by simp; omega
        have HO : Hid (r = (k, [])) := Lib.hid HRR.out
        have C := Lib.hid C
        clear hx hk HRR hfine
        go_wp2_with (fail)
        refine C.out.mono ?_
        rintro e w3 ⟨z, i', d', ns', rfl, ⟨pa, pc, R3⟩, -, -⟩
        have r5 := R3.c5
        rw [HEG.out] at r5
        have HB3 : Hid (Below w.heap.size w w3) := Lib.hid (by
          have := R3.bel
          rw [HEB.out, HEW.out] at this
          exact HB1.out.trans (this.mono HB1.out.size))
        clear R3 C
        go_wp2_with (fail)
        go_quiet (fail)
        go_wp2
        go_ret2
        exact Parses.bad HO.out rfl (HB3.out.trans (below_drewN _ _ _))
      | ok rest ns =>
        rw [hx] at C HRR
        have HF : Hid (∀ i' : Nat, ts.drop i' = rest → Ended (ts.drop i') ∧ ns.length ≤ i') := Lib.hid (fun i' h => by
          obtain ⟨h1, h2, h3, h4⟩ := fine_ok hfine HE.out hx
          subst h
          have := drop_lt h1
          rw [List.length_drop] at h2 h3
          simp only [List.length_nil] at h3
          exact ⟨h1, by omega⟩)
        simp only at HRR
        have C := Lib.hid C
        clear hx hfine
        go_wp2_with (fail)
        refine C.out.mono ?_
        rintro e w3 ⟨rfl, i', hr', hi', pa, pc, R3⟩
        rw [HET.out] at hr' hi'
        obtain ⟨he2, hn2⟩ := HF.out i' hr'
        have r5 := R3.c5
        have r1 := R3.c1
        have r6 := R3.c6
        have fz := R3.rd.frozen
        rw [show (((0 : Nat) : Nat) : Int) = 0 from rfl] at r5
        rw [HEG.out] at r5 r1 r6 fz
        obtain ⟨gt, hta, T⟩ := R3.at HOK.out (j := i') (by rw [HET.out]; exact hi')
        have c0 := T.c0
        rw [HEA.out] at hta
        subst hta
        simp only [HET.out] at c0
        have HB3 : Hid (Below w.heap.size w w3) := Lib.hid (by
          have := R3.bel
          rw [HEB.out, HEW.out] at this
          exact HB1.out.trans (this.mono HB1.out.size))
        have HT3 := Lib.hid R3.nds
        have HO3 : Hid (∀ g, pa = some ⟨g, 0, none⟩ → w.heap.size ≤ g) := Lib.hid (fun g e => Nat.le_trans HB1.out.size (by have := R3.own g e; rw [HEB.out] at this; exact this))
        have hgB : w.heap.size ≤ w1.heap.size := HB1.out.size
        have hgn : ¬ pa = some ⟨w1.heap.size, 0, none⟩ := by have := R3.ne; rw [HEG.out] at this; exact this
        rw [← hr', drop_cons hi'] at HRR
        simp only [List.head?_cons, Option.map_some, Option.some.injEq] at HRR
        obtain ⟨kd, hkd⟩ : ∃ kd, kd = (ts[i']).kind := ⟨_, rfl⟩
        rw [← hkd] at c0 HRR
        clear R3 C T hr' HF he2 hkd
        obtain ⟨m, hm⟩ : ∃ m, m = ns.length := ⟨_, rfl⟩
        rw [← hm] at r6 hn2
        have HM := Lib.hid hm
        clear hm
        by_cases hk : kd = 4
        · subst hk
          rw [if_pos rfl] at HRR
          simp only [← HM.out] at HRR
          by_cases h24 : 24 < m
          · rw [if_pos h24] at HRR
            have h24' : (24 : Int) < (m : Int) := by omega
            go_wp2_with (fail)
            go_quiet (fail)
            go_wp2
            go_ret2
            exact Parses.bad HRR.out rfl ((HB3.out.setCell (p := ⟨w1.heap.size, 5, none⟩) hgB _).trans (below_drewN _ _ _))
          · rw [if_neg h24] at HRR
            have h24' : ¬ (24 : Int) < (m : Int) := by omega
            go_wp2
            go_ret2
            exact Parses.ok HRR.out HM.out rfl HT3.out HO3.out HB3.out
        · have hk' : ¬ (kd : Int) = 4 := by omega
          have hk2 : ((kd : Int) != 4) = true := by simp; omega
          rw [if_neg hk] at HRR
          clear hk
          go_wp2_with (fail)
          go_quiet (fail)
          go_wp2
          go_ret2
          exact Parses.bad HRR.out rfl ((HB3.out.setCell (p := ⟨w1.heap.size, 5, none⟩) hgB _).trans (below_drewN _ _ _))
end Go.Proofs.Ytkdejinhjdkkmaa

/- Contract of the program's Parse: the pattern that a text writes, or the error; the condition: the names lie there. -/
import Derived.Test.YtkdejinhjdkkmaaDoorRf
namespace Go.Proofs.YtkdejinhjdkkmaaDoor
open Go.ChangeShapes Go.WideShapes Go.ChangeAt Go.RowKit Go.Maps

/-- What whole comes to. -/
def Whole (E : Env) (o : Out) (e : Ending) (w' : World) : Prop :=
  match o with
  | .bad k => e = .returned (.int .i64 (k : Nat)) ∧ Below E.B E.w0 w'
  | .ok _ ns => e = .returned (.int .i64 0) ∧ ∃ i op st, RS E w' i op st ns
theorem Whole.bad {E : Env} {o : Out} {k : Nat} {e : Ending} {w' : World} (ho : o = .bad k) (h : e = .returned (.int .i64 (k : Nat))) (b : Below E.B E.w0 w') : Whole E o e w' := by subst ho; exact ⟨h, b⟩
theorem Whole.ok {E : Env} {o : Out} {r : List Tok} {ns : List Nd} {e : Ending} {w' : World} {i op : Nat} {st : Bool} (ho : o = .ok r ns) (h : e = .returned (.int .i64 0)) (b : RS E w' i op st ns) : Whole E o e w' := by subst ho; exact ⟨h, i, op, st, b⟩
theorem whole_bad {keys nm : List Txt} {ts : List Tok} {k : Nat} (he : Ended ts) (h : wholeP keys nm ts = .bad k) : 2 ≤ k ∧ k ≤ 4 := by
  unfold wholeP at h
  cases hx : sumP keys nm 12 false ts [] with
  | bad e => rw [hx] at h; injection h with h; subst h; exact fine_bad (fine_sum keys nm 12 false) he hx
  | ok rest ns =>
    rw [hx] at h
    simp only at h
    split at h
    · cases h
    · injection h with h; omega
theorem whole_len {keys nm : List Txt} {ts rest : List Tok} {ns : List Nd} (he : Ended ts) (h : wholeP keys nm ts = .ok rest ns) : ns.length ≤ ts.length := by
  unfold wholeP at h
  cases hx : sumP keys nm 12 false ts [] with
  | bad e => rw [hx] at h; cases h
  | ok rest' ns' =>
    rw [hx] at h
    simp only at h
    have := fine_ok (fine_sum keys nm 12 false) he hx
    split at h
    · injection h with h1 h2; subst h2; simp at this; omega
    · cases h

theorem tok_field0 (k n l c : Int) (s : ByteArray) (w : World) : (Instr.field 90 (.agg #[.int .i64 k, .int .i64 n, .int .i64 l, .int .i64 c, .string s]) 0).run Tryd.prog w = .ok (.int .i64 k) w := by kernel_rfl
set_option maxRecDepth 100000 in
set_option maxHeartbeats 4000000 in
theorem whole_any (E : Env) (ok : E.Ok) (w : World) (R : RS E w 0 0 false []) : Calls Tryd.prog 23 #[.pointer (some ⟨E.g, 0, none⟩)] w (Whole E (wholeP keysL E.nm E.toks)) := by
  have he : Ended (E.toks.drop 0) := ok.ended
  have C := (both_P E ok 12 0 rfl false).2 w 0 [] R he (Nat.le_refl _)
  have hp := fine_sum keysL E.nm 12 false
  have hl := ok.len
  obtain ⟨o, ho⟩ : ∃ o, o = wholeP keysL E.nm E.toks := ⟨_, rfl⟩
  rw [← ho]
  unfold wholeP at ho
  cases hx : sumP keysL E.nm 12 false (E.toks.drop 0) [] with
  | bad k =>
    have hk := fine_bad hp he hx
    rw [hx] at C
    rw [List.drop_zero] at hx
    rw [hx] at ho
    have HO : Hid (o = .bad k) := Lib.hid ho
    have C := Lib.hid C
    have hk0 : ¬ ((k : Nat) : Int) = 0 := by omega
    clear hx hk ho R
    go_enter Tryd.func23, Tryd.ntmps23
    go_wp2_with (fail)
    refine C.out.mono ?_
    rintro e w1 ⟨rfl, b⟩
    have HB := Lib.hid b
    clear b
    go_wp2
    go_ret
    exact Whole.bad HO.out rfl HB.out
  | ok rest ns =>
    have HF := Lib.hid (fun i' (h : E.toks.drop i' = rest) => hp.on he hx h)
    rw [hx] at C
    rw [List.drop_zero] at hx
    rw [hx] at ho
    simp only at ho
    have HO := Lib.hid ho
    have C := Lib.hid C
    have HK := Lib.hid ok
    clear hx ho R ok
    go_enter Tryd.func23, Tryd.ntmps23
    go_wp2_with (fail)
    refine C.out.mono ?_
    rintro e w1 ⟨rfl, i1, hi1, hl1, na1, nc1, R1⟩
    have CN := Lib.hid (next_any E HK.out w1 i1 0 false ns na1 nc1 R1 hl1)
    rw [← hi1, drop_cons hl1] at HO
    simp only [List.head?_cons, Option.map_some, Option.some.injEq] at HO
    clear R1 HF C hi1
    unfold tokV at CN
    generalize E.toks[i1] = t at CN HO
    have hfld := tok_field0
    by_cases hk : t.kind = 4
    · have hk' : (t.kind : Int) = 4 := by omega
      rw [if_pos hk] at HO
      clear hk
      go_wp2_with (fail)
      refine CN.out.mono ?_
      rintro e w2 ⟨rfl, R2⟩
      have HR2 := Lib.hid R2
      clear R2
      go_wp2
      go_ret
      exact Whole.ok HO.out rfl ⟨na1, nc1, HR2.out⟩
    · have hk' : ¬ (t.kind : Int) = 4 := by omega
      rw [if_neg hk] at HO
      clear hk
      go_wp2_with (fail)
      refine CN.out.mono ?_
      rintro e w2 ⟨rfl, R2⟩
      have HB := Lib.hid R2.bel
      clear R2
      go_wp2
      go_ret
      exact Whole.bad HO.out rfl HB.out

/-- What Parse comes to: the error, and the nodes in memory of their own. -/
def Parses (r : Nat × List Nd) (w : World) (e : Ending) (w' : World) : Prop :=
  ∃ a c, e = .returned (.tuple #[.slice a r.2.length c, .int .i64 (r.1 : Nat)]) ∧ Nds w' a c r.2 ∧ (∀ g, a = some ⟨g, 0, none⟩ → w.heap.size ≤ g) ∧ Below w.heap.size w w'
theorem Parses.bad {r : Nat × List Nd} {k : Nat} {w w' : World} {e : Ending} (hr : r = (k, [])) (h : e = .returned (.tuple #[.slice none 0 0, .int .i64 (k : Nat)])) (b : Below w.heap.size w w') : Parses r w e w' := by
  subst hr; exact ⟨none, 0, h, Nds.nil _, (fun _ e => nomatch e), b⟩
theorem Parses.ok {r : Nat × List Nd} {ns : List Nd} {n : Nat} {a : Option Addr} {c : Nat} {w w' : World} {e : Ending} (hr : r = (0, ns)) (hn : n = ns.length) (h : e = .returned (.tuple #[.slice a n c, .int .i64 0])) (T : Nds w' a c ns) (o : ∀ g, a = some ⟨g, 0, none⟩ → w.heap.size ≤ g) (b : Below w.heap.size w w') : Parses r w e w' := by
  subst hr; subst hn; exact ⟨a, c, h, T, o, b⟩

set_option maxRecDepth 100000 in
set_option maxHeartbeats 4000000 in
theorem parse_any (s : ByteArray) (nm : List Txt) (a : Option Addr) (c : Nat) (w : World) (hs : s.size ≤ maxLen) (S : Strs w a nm) (hn : nm.length ≤ 1000000) (hx : ∀ x ∈ nm, x.length ≤ maxLen) :
    Calls Tryd.prog 8 #[.string s, .slice a nm.length c] w (Parses (parseT keysL nm s.data.toList) w) := by
  have CT := tokens_any s w hs
  unfold Tells at CT
  obtain ⟨r, hr⟩ : ∃ r, r = parseT keysL nm s.data.toList := ⟨_, rfl⟩
  rw [← hr]
  unfold parseT at hr
  have CM := Lib.hid (fun W (b : Below w.heap.size w W) => numbers_any nm a c W (S.below b) hn hx)
  obtain ⟨n, hnn⟩ : ∃ n, n = nm.length := ⟨_, rfl⟩
  rw [← hnn] at CM hn ⊢
  clear hnn S hx
  by_cases hlim : 16384 < s.data.toList.length
  · rw [if_pos hlim] at hr
    rw [ans_limit hlim] at CT
    have HO := Lib.hid hr
    have CT := Lib.hid CT
    clear hr hlim
    go_enter Tryd.func8, Tryd.ntmps8
    go_wp2_with (fail)
    refine CT.out.mono ?_
    rintro e w1 ⟨a1, c1, rfl, T1, b1⟩
    have HB := Lib.hid b1
    clear T1 b1
    go_wp2
    go_ret2
    exact Parses.bad HO.out rfl HB.out
  · rw [if_neg hlim] at hr
    cases hg : go s.data.toList 1 1 with
    | bad l cl =>
      rw [hg] at hr
      rw [ans_bad (by omega) hg] at CT
      have HO : Hid (r = (2, [])) := Lib.hid hr
      have CT := Lib.hid CT
      clear hr hlim hg
      go_enter Tryd.func8, Tryd.ntmps8
      go_wp2_with (fail)
      refine CT.out.mono ?_
      rintro e w1 ⟨a1, c1, rfl, T1, b1⟩
      have HB := Lib.hid b1
      clear T1 b1
      go_wp2
      go_ret2
      exact Parses.bad HO.out rfl HB.out
    | ok ts =>
      rw [hg] at hr
      rw [ans_ok (by omega) hg] at CT
      have hE := go_ended _ _ _ _ ts (Nat.le_refl _) hg
      simp only [parseP] at hr
      have HR := Lib.hid hr
      have CT := Lib.hid CT
      have HE := Lib.hid hE
      have hlen : ts.length ≤ 20000 := by have := hE.2; omega
      clear hr hlim hg hE
      go_enter Tryd.func8, Tryd.ntmps8
      go_wp2_with (fail)
      refine CT.out.mono ?_
      rintro e w1 ⟨a1, c1, rfl, T1, b1⟩
      have HT1 := Lib.hid T1
      have HB1 := Lib.hid b1
      clear T1 b1
      go_wp2_with (fail)
      refine (CM.out w1 HB1.out).mono ?_
      rintro e w2 ⟨mp, rfl, hmp, M2, hml, b2⟩
      have T2 : Toks w2 a1 c1 ts := HT1.out.below b2
      have HOK : Hid (Env.Ok ⟨ts, nm, w2.heap.size, a1, c1, mp, w2.heap.size, w2⟩) := Lib.hid ⟨T2, fun h e => T2.lt e, M2, hml, hlen, Nat.le_refl _, HE.out.1⟩
      have RS2 : RS ⟨ts, nm, w2.heap.size, a1, c1, mp, w2.heap.size, w2⟩ (w2.alloc (.cells #[.slice a1 ts.length c1, .map (some mp), .int .i64 0, .int .i64 0, .bool false, .slice none 0 0] 64)) 0 0 false [] :=
        ⟨none, 0, Lies.new w2 64 _, Nds.nil _, (fun _ e => nomatch e), (Below.refl _ _).alloc (Nat.le_refl _) _⟩
      have CW := whole_any _ HOK.out _ RS2
      have HB2 : Hid (Below w.heap.size w w2) := Lib.hid (HB1.out.trans (b2.mono HB1.out.size))
      clear T2 RS2 M2 b2 hml hmp
      cases hw : wholeP keysL nm ts with
      | bad k =>
        have hk := whole_bad HE.out.1 hw
        simp only at CW
        rw [hw] at CW HR
        have HO : Hid (r = (k, [])) := Lib.hid HR.out
        have CW := Lib.hid CW
        have hk0 : ¬ ((k : Nat) : Int) = 0 := by omega
        clear hw hk HR
        go_wp2_with (fail)
        refine CW.out.mono ?_
        rintro e w3 ⟨rfl, b3⟩
        have HB3 : Hid (Below w.heap.size w w3) := Lib.hid (HB2.out.trans (b3.mono HB2.out.size))
        clear b3
        go_wp2
        go_ret2
        exact Parses.bad HO.out rfl HB3.out
      | ok rest ns =>
        have hnl := whole_len HE.out.1 hw
        simp only at CW
        rw [hw] at CW HR
        simp only at HR
        have CW := Lib.hid CW
        clear hw
        go_wp2_with (fail)
        refine CW.out.mono ?_
        rintro e w3 ⟨rfl, i3, op3, st3, na, nc, R3⟩
        have r5 : w3.cell? ⟨w2.heap.size, 5, none⟩ = some (.slice na ns.length nc) := R3.rd.cell 5
        have HB3 : Hid (Below w.heap.size w w3) := Lib.hid (HB2.out.trans (R3.bel.mono HB2.out.size))
        have HT3 := Lib.hid R3.nds
        have HO3 : Hid (∀ g, na = some ⟨g, 0, none⟩ → w.heap.size ≤ g) := Lib.hid (fun g e => Nat.le_trans HB2.out.size (R3.own g e))
        clear R3 CW
        by_cases h24 : 24 < ns.length
        · rw [if_pos h24] at HR
          have h24' : (24 : Int) < (ns.length : Int) := by omega
          go_wp2
          go_ret2
          exact Parses.bad HR.out rfl HB3.out
        · rw [if_neg h24] at HR
          have h24' : ¬ (24 : Int) < (ns.length : Int) := by omega
          obtain ⟨m, hm⟩ : ∃ m, m = ns.length := ⟨_, rfl⟩
          rw [← hm] at r5 h24' h24
          have HM := Lib.hid hm
          clear hm
          go_wp2
          go_ret2
          exact Parses.ok HR.out HM.out rfl HT3.out HO3.out HB3.out
end Go.Proofs.YtkdejinhjdkkmaaDoor

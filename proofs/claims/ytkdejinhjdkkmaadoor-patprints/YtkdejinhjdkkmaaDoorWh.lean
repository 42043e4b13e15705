/- Contract of the reference's TextPat: the text of a pattern; the condition: nodes and names lie there, the nodes are a pattern. -/
import Derived.Test.YtkdejinhjdkkmaaDoorWg
import Derived.Test.YtkdejinhjdkkmaaDoorWf
namespace Go.Proofs.YtkdejinhjdkkmaaDoor
open Go.ChangeShapes Go.WideShapes Go.ChangeAt Go.RowKit Go.Maps

theorem Tryd.info9 : (Tryd.prog.info? 9).map (fun i => (i.zero, i.size, i.bytes)) = some (some (.string ⟨#[]⟩), 1, 16) := by kernel_rfl
/-- append of one text to a row of one's own. -/
theorem app_str1 (B : Nat) (a : Option Addr) (c n : Nat) (xs : List Value) (v : ByteArray) (w : World) (hn : n = xs.length) (R : Row w 9 a c xs) (hB : ∀ g, a = some ⟨g, 0, none⟩ → B ≤ g) (hBw : B ≤ w.heap.size) (hb : xs.length ≤ 1000) :
    ∃ a' c' w', (Builtin.append_ #[23, 23] 23 #[.slice a n c, .slice (some ⟨w.heap.size, 0, none⟩) 1 1]).run Tryd.prog (w.alloc (.cells #[.string v] 9)) = .ok (.slice a' (n + 1) c') w' ∧ Row w' 9 a' c' (xs ++ [.string v]) ∧ (∀ g, a' = some ⟨g, 0, none⟩ → B ≤ g) ∧ Below B w w' := by
  subst hn
  obtain ⟨i, hi, hz, hsz, hby⟩ := info_parts Tryd.info9
  have R1 : Row (w.alloc (.cells #[.string v] 9)) 9 a c xs := R.below ((Below.refl _ _).alloc (Nat.le_refl _) _)
  have hown := R1.own1 hB
  have L := Lies.new w 9 [.string v]
  obtain ⟨v', w', hr, h2, h3, _, _⟩ := run_append_own_at (P := Tryd.prog) (w.alloc (.cells #[.string v] 9)) B 23 23 9 i _ 1 16 Tryd.underlying23 hi hz hsz hby rfl (by omega) _ xs.length xs hown
      ⟨w.heap.size, 0, none⟩ 1 1 [.string v] rfl (fun j u hj => by
        match j, hj with
        | 0, hj => simp at hj; subst hj; rw [Addr.add_lit]; exact L.cell 0) (fun u hu => by simp at hu; subst hu; rfl) (by unfold maxLen; omega) (by omega) (by simp; omega)
  obtain ⟨a', c', rfl, r, f⟩ := own_row h2
  refine ⟨a', c', w', ?_, r, f, ((Below.refl _ _).alloc hBw _).grown h3 (by simp; omega) (fun k e => ?_)⟩
  · rw [hr]; simp
  · obtain ⟨x, rfl, hx'⟩ := (ownBlock_slice a _ _ k).1 e
    rcases R with ⟨e', _⟩ | ⟨g', sp', e', _, _, _⟩
    · cases e'
    · injection e' with e'
      subst e'
      subst hx'
      exact hB _ rfl
/-- Where the loop of TextPat stands. -/
structure TxSt (w wr : World) (nm : List Txt) (ns : List Nd) (k : Nat) (la : Option Addr) (lc : Nat) : Prop where
  row : Row wr 9 la lc (strs (textsN nm ns k))
  own : ∀ h, la = some ⟨h, 0, none⟩ → w.heap.size ≤ h
  bel : Below w.heap.size w wr
section
variable {w wr w' : World} {nm : List Txt} {ns : List Nd} {k : Nat} {la : Option Addr} {lc : Nat}
theorem TxSt.alloc (h : TxSt w wr nm ns k la lc) (o : Obj) : TxSt w (wr.alloc o) nm ns k la lc := ⟨h.row.below ((Below.refl _ _).alloc (Nat.le_refl _) o), h.own, h.bel.alloc h.bel.size o⟩
theorem TxSt.drewN (h : TxSt w wr nm ns k la lc) (q : Nat) : TxSt w (wr.drewN q) nm ns k la lc := ⟨h.row, h.own, h.bel.trans (below_drewN _ _ _)⟩
theorem TxSt.below (h : TxSt w wr nm ns k la lc) (b : Below wr.heap.size wr w') : TxSt w w' nm ns k la lc := ⟨h.row.below b, h.own, h.bel.trans (b.mono h.bel.size)⟩
theorem TxSt.len (_h : TxSt w wr nm ns k la lc) : (strs (textsN nm ns k)).length = k := by rw [strs_len, textsN_len]
theorem TxSt.at (h : TxSt w wr nm ns k la lc) {j : Nat} (hj : j < k) : ∃ g, la = some ⟨g, 0, none⟩ ∧ wr.cell? ⟨g, j, none⟩ = some (.string (str (textAt nm ns j))) := by
  obtain ⟨g, e, hc⟩ := Row.there h.row (i := j) (by rw [h.len]; exact hj)
  refine ⟨g, e, ?_⟩
  rw [hc, strs_get (by rw [textsN_len]; exact hj)]
  have := textsN_at nm ns j k hj
  rw [← this]
  simp [List.getD, show j < (textsN nm ns k).length by rw [textsN_len]; exact hj]
/-- The next text is put behind the others. -/
theorem TxSt.next (h : TxSt w wr nm ns k la lc) (hk : k < ns.length) (h24 : ns.length ≤ 24) {tags : Int} (hw : wfN tags k ns[k]) (v : ByteArray) (hv : v = str (nodeT nm ns (textAt nm ns) ns[k])) :
    ∃ a' c' w2, (Builtin.append_ #[23, 23] 23 #[.slice la k lc, .slice (some ⟨wr.heap.size, 0, none⟩) 1 1]).run Tryd.prog (wr.alloc (.cells #[.string v] 9)) = .ok (.slice a' (k + 1) c') w2 ∧ TxSt w w2 nm ns (k + 1) a' c' := by
  obtain ⟨a', c', w2, hr, r, f, b⟩ := app_str1 w.heap.size la lc k _ v wr h.len.symm h.row h.own h.bel.size (by rw [h.len]; omega)
  refine ⟨a', c', w2, hr, ⟨?_, f, h.bel.trans b⟩⟩
  have e : strs (textsN nm ns k) ++ [.string v] = strs (textsN nm ns (k + 1)) := by
    rw [textsN]
    unfold strs
    rw [List.map_append, hv, show ns.getD k noNd = ns[k] by simp [List.getD, hk], nodeT_same (l := fun j => (textsN nm ns k).getD j []) (l' := textAt nm ns) hw (fun j hj => textsN_at nm ns j k hj)]
    rfl
  rw [e] at r
  exact r
end
def bigT : Nat := 1000000000
set_option maxHeartbeats 8000000 in
set_option maxRecDepth 100000 in
theorem textPat_any (ns : List Nd) (nm : List Txt) (pa : Option Addr) (pc : Nat) (sa : Option Addr) (sc : Nat) (w : World) (N : NodesAt w pa ns) (S : Strs w sa nm) (h0 : 0 < ns.length) (h24 : ns.length ≤ 24) (_hnl : nm.length ≤ 1000000) (hw : ∀ j (h : j < ns.length), wfN (nm.length : Int) j ns[j]) (hbig : ∀ j, j < ns.length → (textAt nm ns j).length ≤ 1000000000) (hnx : ∀ x ∈ ns, x.kind = 3 → (nm.getD x.n.toNat []).length ≤ 1000000000) :
    Calls Tryd.prog 30 #[.slice pa ns.length pc, .slice sa nm.length sc, .bool false] w fun e w' => e = .returned (.string (str (textAt nm ns (ns.length - 1)))) ∧ Below w.heap.size w w' := by
  have HN := Lib.hid N
  have HSS := Lib.hid S
  have HW := Lib.hid hw
  have HBG := Lib.hid hbig
  have HNXL := Lib.hid hnx
  clear N S hw hbig hnx
  obtain ⟨n, hn⟩ : ∃ n, n = ns.length := ⟨_, rfl⟩
  rw [← hn] at h0 h24 ⊢
  have HNN := Lib.hid hn
  clear hn
  obtain ⟨m, hm⟩ : ∃ m, m = nm.length := ⟨_, rfl⟩
  rw [← hm] at _hnl ⊢
  have HMM := Lib.hid hm
  clear hm
  have H0 : Hid (TxSt w w nm ns 0 none 0) := Lib.hid ⟨Row.nil _ _, (fun _ e => nomatch e), Below.refl _ _⟩
  go_enter Tryd.func30, Tryd.ntmps30
  go_wp2_with (fail)
  go_loopw [7, 9, 10, 13] (fun l _ _ i wr => ∃ (k : Nat) (la : Option Addr) (lc : Nat), k ≤ n ∧ i = .int .i64 k ∧ l = .slice la k lc ∧ Hid (TxSt w wr nm ns k la lc)) (fun _ _ _ i _ => n - (intOf i).toNat)
  case atStart => exact ⟨0, none, 0, Nat.zero_le _, rfl, rfl, H0⟩
  case round =>
    clear H0
    obtain ⟨k, la, lc, hk, rfl, rfl, HS⟩ := hrel
    by_cases hlt : k < n
    · have hkn : k < ns.length := by have := HNN.out; omega
      obtain ⟨b, off, hpa, N, hb⟩ := (HN.out.below HS.out.bel) k hkn
      have HND : Hid (∀ j (h : j < ns.length), wr.cell? ⟨b, off + j * 5, none⟩ = some (.int .i64 (kindAt ns (j : Int)))) := Lib.hid (fun j h => by
        obtain ⟨b', off', e', N', _⟩ := (HN.out.below HS.out.bel) j h
        rw [hpa] at e'; injection e' with e'; injection e' with e1 e2; subst e1 e2
        rw [N'.c0]; unfold kindAt; simp [h])
      subst hpa
      have hwk := HW.out k hkn
      have HXB := Lib.hid (HNXL.out ns[k] (List.getElem_mem hkn))
      have HNX : Hid (∀ W v, TxSt w W nm ns k la lc → v = str (nodeT nm ns (textAt nm ns) ns[k]) → ∃ a' c' w2, (Builtin.append_ #[23, 23] 23 #[.slice la k lc, .slice (some ⟨W.heap.size, 0, none⟩) 1 1]).run Tryd.prog (W.alloc (.cells #[.string v] 9)) = .ok (.slice a' (k + 1) c') w2 ∧ TxSt w w2 nm ns (k + 1) a' c') := Lib.hid (fun W v h e => h.next hkn (by rw [← HNN.out]; exact h24) hwk v e)
      have n0 := N.c0
      have n1 := N.c1
      have n2 := N.c2
      have n3 := N.c3
      have n4 := N.c4
      clear N
      generalize ns[k] = x at *
      have HS1 : Hid (TxSt w (wr.alloc (.cells #[.int .i64 x.kind, .int .i64 x.a, .int .i64 x.b, .int .i64 x.n, .string x.name] 45)) nm ns k la lc) := Lib.hid (HS.out.alloc _)
      have L1 : Lies (wr.alloc (.cells #[.int .i64 x.kind, .int .i64 x.a, .int .i64 x.b, .int .i64 x.n, .string x.name] 45)) wr.heap.size 45 [.int .i64 x.kind, .int .i64 x.a, .int .i64 x.b, .int .i64 x.n, .string x.name] := Lies.new wr 45 _
      have HND1 : Hid (∀ j (h : j < ns.length), (wr.alloc (.cells #[.int .i64 x.kind, .int .i64 x.a, .int .i64 x.b, .int .i64 x.n, .string x.name] 45)).cell? ⟨b, off + j * 5, none⟩ = some (.int .i64 (kindAt ns (j : Int)))) := Lib.hid (fun j h => by
        rw [← HND.out j h]; exact ((Below.refl _ _).alloc (Nat.le_refl _) _).cell (p := ⟨b, off + j * 5, none⟩) hb)
      have HBEL : Hid (Below w.heap.size w (wr.alloc (.cells #[.int .i64 x.kind, .int .i64 x.a, .int .i64 x.b, .int .i64 x.n, .string x.name] 45))) := Lib.hid HS1.out.bel
      have HL1 := Lib.hid L1
      clear L1 HND HS
      rcases hwk with h | ⟨h, h1, h2, h3, h4⟩ | ⟨h, h1, h2, h3, h4⟩ | ⟨h, h1, h2⟩
      · rcases h with h | h
        · rw [h] at n0 HS1
          have HV : Hid ((⟨#[48]⟩ : ByteArray) = str (nodeT nm ns (textAt nm ns) x)) := Lib.hid (by unfold nodeT; simp [h]; rfl)
          clear h HL1 HND1 HBEL
          obtain ⟨a', c', w2, hrun, T2⟩ := HNX.out _ _ HS1.out HV.out
          rw [show (wr.alloc (.cells #[.int .i64 1, .int .i64 x.a, .int .i64 x.b, .int .i64 x.n, .string x.name] 45)).heap.size = wr.heap.size + 1 by simp] at hrun
          have HT2 := Lib.hid T2
          clear T2 HNX HS1
          go_wp2_with (at_builtin; refine Lib.wpList_append_run _ rfl _ _ _ _ rfl _ _ rfl rfl _ _ hrun ?_)
          go_roundw
          case rel => exact ⟨k + 1, a', c', by omega, by go_num, rfl, HT2⟩
          case measure => simp [intOf]; omega
        · rw [h] at n0 HS1
          have HV : Hid ((⟨#[49]⟩ : ByteArray) = str (nodeT nm ns (textAt nm ns) x)) := Lib.hid (by unfold nodeT; simp [h]; rfl)
          clear h HL1 HND1 HBEL
          obtain ⟨a', c', w2, hrun, T2⟩ := HNX.out _ _ HS1.out HV.out
          rw [show (wr.alloc (.cells #[.int .i64 2, .int .i64 x.a, .int .i64 x.b, .int .i64 x.n, .string x.name] 45)).heap.size = wr.heap.size + 1 by simp] at hrun
          have HT2 := Lib.hid T2
          clear T2 HNX HS1
          go_wp2_with (at_builtin; refine Lib.wpList_append_run _ rfl _ _ _ _ rfl _ _ rfl rfl _ _ hrun ?_)
          go_roundw
          case rel => exact ⟨k + 1, a', c', by omega, by go_num, rfl, HT2⟩
          case measure => simp [intOf]; omega
      · obtain ⟨j, hj⟩ : ∃ j : Nat, x.n = (j : Int) := ⟨x.n.toNat, by omega⟩
        obtain ⟨ja, hja⟩ : ∃ ja : Nat, x.a = (ja : Int) := ⟨x.a.toNat, by omega⟩
        have hjn : j < nm.length := by omega
        obtain ⟨gs, hsa, hcs, hgs⟩ := (HSS.out.below HBEL.out).there hjn
        subst hsa
        have eg : nm.getD x.n.toNat [] = nm[j] := by rw [hj]; simp [List.getD, hjn]
        have hnsz : nm[j].length ≤ 1000000000 := by rw [← eg]; exact HXB.out h
        have HT1 : Hid ((1 : Int) < (ja : Int) → str nm[j] ++ ((⟨#[94]⟩ : ByteArray) ++ str (Lib.decDigits ja)) = str (nodeT nm ns (textAt nm ns) x)) := Lib.hid (fun h1a => by
          have e1 : (⟨#[94]⟩ : ByteArray) = str [94] := rfl
          unfold nodeT
          rw [if_neg (by omega), if_neg (by omega), if_pos h]
          unfold tagT
          rw [eg, hja, if_pos h1a, e1, str_app, str_app]; rfl)
        have HT0 : Hid (¬ (1 : Int) < (ja : Int) → str nm[j] = str (nodeT nm ns (textAt nm ns) x)) := Lib.hid (fun h1a => by
          unfold nodeT
          rw [if_neg (by omega), if_neg (by omega), if_pos h]
          unfold tagT
          rw [eg, hja, if_neg h1a, List.append_nil])
        rw [h, hja, hj] at HS1 HBEL hcs
        rw [h] at n0
        rw [hja] at n1 h3 h4
        rw [hj] at n3
        clear eg
        generalize nm[j] = nx at *
        have CD := Lib.hid (fun W => digits_any ja (by omega) (by omega) W)
        have hdl : (Lib.decDigits ja).length ≤ 9 := dec_len ja 8 (by omega)
        have hs1 : (str nx).size ≤ 1000000000 := by rw [str_size]; exact hnsz
        have hs2 : (str (Lib.decDigits ja)).size ≤ 9 := by rw [str_size]; exact hdl
        generalize str nx = sx at *
        generalize str (Lib.decDigits ja) = sd at *
        have hjm : j < m := by have := HMM.out; omega
        clear h hj hja hjn HND1 h1 h2 hnsz hdl hgs HL1
        by_cases h1a : (1 : Int) < (ja : Int)
        · have HV := Lib.hid (HT1.out h1a)
          clear HT1 HT0
          go_wp2_with (fail)
          refine (CD.out _).mono ?_
          rintro e w5 ⟨rfl, b5⟩
          have HS2 := Lib.hid (HS1.out.below b5)
          clear b5 HS1 HBEL hcs n0 n1 n2 n3 n4
          obtain ⟨a', c', w9, hrun, T2⟩ := HNX.out w5 _ HS2.out HV.out
          have HT2 := Lib.hid T2
          clear T2 HNX HS2
          go_wp2_with (at_builtin; refine Lib.wpList_append_run _ rfl _ _ _ _ rfl _ _ rfl rfl _ _ hrun ?_)
          go_roundw
          case rel => exact ⟨k + 1, a', c', by omega, by go_num, rfl, HT2⟩
          case measure => simp [intOf]; omega
        · have HV := Lib.hid (HT0.out h1a)
          clear HT1 HT0 CD
          obtain ⟨a', c', w2, hrun, T2⟩ := HNX.out _ _ HS1.out HV.out
          rw [show (wr.alloc (.cells #[.int .i64 3, .int .i64 (ja : Nat), .int .i64 x.b, .int .i64 (j : Nat), .string x.name] 45)).heap.size = wr.heap.size + 1 by simp] at hrun
          have HT2 := Lib.hid T2
          clear T2 HNX HS1
          go_wp2_with (at_builtin; refine Lib.wpList_append_run _ rfl _ _ _ _ rfl _ _ rfl rfl _ _ hrun ?_)
          go_roundw
          case rel => exact ⟨k + 1, a', c', by omega, by go_num, rfl, HT2⟩
          case measure => simp [intOf]; omega
      · rcases h with h | h
        · obtain ⟨ja, hja⟩ : ∃ ja : Nat, x.a = (ja : Int) := ⟨x.a.toNat, by omega⟩
          obtain ⟨jb, hjb⟩ : ∃ jb : Nat, x.b = (jb : Int) := ⟨x.b.toNat, by omega⟩
          have hjak : ja < k := by omega
          have hjbk : jb < k := by omega
          have HVV : Hid (str (textAt nm ns ja) ++ ⟨#[32, 43, 32]⟩ ++ str (wrapT (kindAt ns (jb : Int) == 4) (textAt nm ns jb)) = str (nodeT nm ns (textAt nm ns) x)) := Lib.hid (by
            have e1 : (⟨#[32, 43, 32]⟩ : ByteArray) = str [32, 43, 32] := rfl
            unfold nodeT
            rw [if_neg (by omega), if_neg (by omega), if_neg (by omega), if_pos h]
            rw [hja, hjb, e1, str_app, str_app, List.append_assoc]
            rfl)
          rw [h, hja, hjb] at HS1 HND1 HL1
          rw [h] at n0
          rw [hja] at n1
          rw [hjb] at n2
          obtain ⟨gl, hla, ca⟩ := HS1.out.at hjak
          obtain ⟨gl', hla', cb⟩ := HS1.out.at hjbk
          rw [hla] at hla'
          injection hla' with hla'; injection hla' with hla'
          subst hla'
          subst hla
          have kb := HND1.out jb (by omega)
          have ka := HND1.out ja (by omega)
          have m1 := HL1.out.cell 1
          have m2 := HL1.out.cell 2
          simp only [List.getElem?_cons_zero, List.getElem?_cons_succ] at m1 m2
          have ta9 := HBG.out ja (by omega)
          have tb9 := HBG.out jb (by omega)
          have hjan : ja < n := by omega
          have hjbn : jb < n := by omega
          generalize textAt nm ns ja = ta at *
          generalize textAt nm ns jb = tb at *
          generalize kindAt ns (ja : Int) = kja at *
          generalize kindAt ns (jb : Int) = kjb at *
          have sza : (str ta).size ≤ 1000000000 := by rw [str_size]; exact ta9
          have szb : ∀ q, (str (wrapT q tb)).size ≤ 1000000002 := fun q => by rw [str_size]; have := wrap_len q tb; omega
          have szw : ∀ q, (str (wrapT q ta)).size ≤ 1000000002 := fun q => by rw [str_size]; have := wrap_len q ta; omega
          have hw1 : IntKind.i64.wrap (ja : Int) = (ja : Int) := IntWalk.i64_in _ (by omega)
          have hw2 : IntKind.i64.wrap (jb : Int) = (jb : Int) := IntWalk.i64_in _ (by omega)
          clear h hja hjb HND1 h1 h2 h3 h4 HL1 HBEL
          have HV := Lib.hid (HVV.out)
          have szb1 := szb (kjb == 4)
          clear HVV szb szw
          go_wp2_with (fail)
          obtain ⟨W1, hW1⟩ : ∃ W1, W1 = (wr.alloc (.cells #[.int .i64 4, .int .i64 (ja : Nat), .int .i64 (jb : Nat), .int .i64 x.n, .string x.name] 45)) := ⟨_, rfl⟩
          rw [← hW1] at HS1 ca cb ka kb m1 m2 ⊢
          clear hW1
          generalize wr.heap.size = gb at m1 m2 ⊢
          go_quiet ((go_at_call 51; exact Calls.quiet_of_same (wrapped_any _ _ _ (by omega))))
          have HS2 := Lib.hid (HS1.out.drewN nq)
          clear ca cb ka kb m1 m2 HS1
          generalize World.drewN W1 nq = W2 at HS2 ⊢
          obtain ⟨a', c', w9, hrun, T2⟩ := HNX.out W2 _ HS2.out HV.out
          have HT2 := Lib.hid T2
          clear T2 HNX HS2
          go_wp2_with (at_builtin; refine Lib.wpList_append_run _ rfl _ _ _ _ rfl _ _ rfl rfl _ _ hrun ?_)
          go_roundw
          case rel => exact ⟨k + 1, a', c', by omega, by go_num, rfl, HT2⟩
          case measure => simp [intOf]; omega
        · obtain ⟨ja, hja⟩ : ∃ ja : Nat, x.a = (ja : Int) := ⟨x.a.toNat, by omega⟩
          obtain ⟨jb, hjb⟩ : ∃ jb : Nat, x.b = (jb : Int) := ⟨x.b.toNat, by omega⟩
          have hjak : ja < k := by omega
          have hjbk : jb < k := by omega
          have HVV : Hid (str (wrapT (kindAt ns (ja : Int) == 4) (textAt nm ns ja)) ++ ⟨#[32, 46, 32]⟩ ++ str (wrapT (kindAt ns (jb : Int) == 4 || kindAt ns (jb : Int) == 5) (textAt nm ns jb)) = str (nodeT nm ns (textAt nm ns) x)) := Lib.hid (by
            have e1 : (⟨#[32, 46, 32]⟩ : ByteArray) = str [32, 46, 32] := rfl
            unfold nodeT
            rw [if_neg (by omega), if_neg (by omega), if_neg (by omega), if_neg (by omega), if_pos h]
            rw [hja, hjb, e1, str_app, str_app, List.append_assoc]
            rfl)
          rw [h, hja, hjb] at HS1 HND1 HL1
          rw [h] at n0
          rw [hja] at n1
          rw [hjb] at n2
          obtain ⟨gl, hla, ca⟩ := HS1.out.at hjak
          obtain ⟨gl', hla', cb⟩ := HS1.out.at hjbk
          rw [hla] at hla'
          injection hla' with hla'; injection hla' with hla'
          subst hla'
          subst hla
          have kb := HND1.out jb (by omega)
          have ka := HND1.out ja (by omega)
          have m1 := HL1.out.cell 1
          have m2 := HL1.out.cell 2
          simp only [List.getElem?_cons_zero, List.getElem?_cons_succ] at m1 m2
          have ta9 := HBG.out ja (by omega)
          have tb9 := HBG.out jb (by omega)
          have hjan : ja < n := by omega
          have hjbn : jb < n := by omega
          generalize textAt nm ns ja = ta at *
          generalize textAt nm ns jb = tb at *
          generalize kindAt ns (ja : Int) = kja at *
          generalize kindAt ns (jb : Int) = kjb at *
          have sza : (str ta).size ≤ 1000000000 := by rw [str_size]; exact ta9
          have szb : ∀ q, (str (wrapT q tb)).size ≤ 1000000002 := fun q => by rw [str_size]; have := wrap_len q tb; omega
          have szw : ∀ q, (str (wrapT q ta)).size ≤ 1000000002 := fun q => by rw [str_size]; have := wrap_len q ta; omega
          have hw1 : IntKind.i64.wrap (ja : Int) = (ja : Int) := IntWalk.i64_in _ (by omega)
          have hw2 : IntKind.i64.wrap (jb : Int) = (jb : Int) := IntWalk.i64_in _ (by omega)
          clear h hja hjb HND1 h1 h2 h3 h4 HL1 HBEL
          by_cases hg : kjb = 4
          · have g4 : (kjb == 4) = true := by simpa using hg
            clear hg
            rw [g4, Bool.true_or] at HVV
            have HV := Lib.hid (HVV.out)
            have szw1 := szw (kja == 4)
            have szb1 := szb true
            clear HVV szb szw
            go_wp2_with (fail)
            obtain ⟨W1, hW1⟩ : ∃ W1, W1 = (wr.alloc (.cells #[.int .i64 5, .int .i64 (ja : Nat), .int .i64 (jb : Nat), .int .i64 x.n, .string x.name] 45)) := ⟨_, rfl⟩
            rw [← hW1] at HS1 ca cb ka kb m1 m2 ⊢
            clear hW1
            generalize wr.heap.size = gb at m1 m2 ⊢
            go_quiet ((go_at_call 51; exact Calls.quiet_of_same (wrapped_any _ _ _ (by omega))))
            have HS2 := Lib.hid (HS1.out.drewN nq)
            clear ca cb ka kb m1 m2 HS1
            generalize World.drewN W1 nq = W2 at HS2 ⊢
            obtain ⟨a', c', w9, hrun, T2⟩ := HNX.out W2 _ HS2.out HV.out
            have HT2 := Lib.hid T2
            clear T2 HNX HS2
            go_wp2_with (at_builtin; refine Lib.wpList_append_run _ rfl _ _ _ _ rfl _ _ rfl rfl _ _ hrun ?_)
            go_roundw
            case rel => exact ⟨k + 1, a', c', by omega, by go_num, rfl, HT2⟩
            case measure => simp [intOf]; omega
          · have g4 : (kjb == 4) = false := by simpa using hg
            rw [g4, Bool.false_or] at HVV
            have HV := Lib.hid (HVV.out)
            have szw1 := szw (kja == 4)
            have szb1 := szb (kjb == 5)
            clear HVV szb szw
            go_wp2_with (fail)
            obtain ⟨W1, hW1⟩ : ∃ W1, W1 = (wr.alloc (.cells #[.int .i64 5, .int .i64 (ja : Nat), .int .i64 (jb : Nat), .int .i64 x.n, .string x.name] 45)) := ⟨_, rfl⟩
            rw [← hW1] at HS1 ca cb ka kb m1 m2 ⊢
            clear hW1
            generalize wr.heap.size = gb at m1 m2 ⊢
            go_quiet ((go_at_call 51; exact Calls.quiet_of_same (wrapped_any _ _ _ (by omega))))
            have HS2 := Lib.hid (HS1.out.drewN nq)
            clear ca cb ka kb m1 m2 HS1
            generalize World.drewN W1 nq = W2 at HS2 ⊢
            obtain ⟨a', c', w9, hrun, T2⟩ := HNX.out W2 _ HS2.out HV.out
            have HT2 := Lib.hid T2
            clear T2 HNX HS2
            go_wp2_with (at_builtin; refine Lib.wpList_append_run _ rfl _ _ _ _ rfl _ _ rfl rfl _ _ hrun ?_)
            go_roundw
            case rel => exact ⟨k + 1, a', c', by omega, by go_num, rfl, HT2⟩
            case measure => simp [intOf]; omega
      · obtain ⟨ja, hja⟩ : ∃ ja : Nat, x.a = (ja : Int) := ⟨x.a.toNat, by omega⟩
        have hjak : ja < k := by omega
        have HVV : Hid ((⟨#[42]⟩ : ByteArray) ++ str (wrapT (kindAt ns (ja : Int) == 4 || kindAt ns (ja : Int) == 5) (textAt nm ns ja)) = str (nodeT nm ns (textAt nm ns) x)) := Lib.hid (by
          have e1 : (⟨#[42]⟩ : ByteArray) = str [42] := rfl
          unfold nodeT
          rw [if_neg (by omega), if_neg (by omega), if_neg (by omega), if_neg (by omega), if_neg (by omega), if_pos h]
          rw [hja, e1, str_app]
          rfl)
        rw [h, hja] at HS1 HND1 HL1
        rw [h] at n0
        rw [hja] at n1
        obtain ⟨gl, hla, ca⟩ := HS1.out.at hjak
        subst hla
        have ka := HND1.out ja (by omega)
        have m1 := HL1.out.cell 1
        simp only [List.getElem?_cons_zero, List.getElem?_cons_succ] at m1
        have ta9 := HBG.out ja (by omega)
        have hjan : ja < n := by omega
        generalize textAt nm ns ja = ta at *
        generalize kindAt ns (ja : Int) = kja at *
        have szw : ∀ q, (str (wrapT q ta)).size ≤ 1000000002 := fun q => by rw [str_size]; have := wrap_len q ta; omega
        have hw1 : IntKind.i64.wrap (ja : Int) = (ja : Int) := IntWalk.i64_in _ (by omega)
        clear h hja HND1 h1 h2 HL1 HBEL
        by_cases hg : kja = 4
        · have g4 : (kja == 4) = true := by simpa using hg
          clear hg
          rw [g4, Bool.true_or] at HVV
          have szb1 := szw true
          have HV := Lib.hid (HVV.out)
          clear HVV szw
          go_wp2_with (fail)
          obtain ⟨W1, hW1⟩ : ∃ W1, W1 = (wr.alloc (.cells #[.int .i64 6, .int .i64 (ja : Nat), .int .i64 x.b, .int .i64 x.n, .string x.name] 45)) := ⟨_, rfl⟩
          rw [← hW1] at HS1 ca ka m1 ⊢
          clear hW1
          generalize wr.heap.size = gb at m1 ⊢
          go_quiet ((go_at_call 51; exact Calls.quiet_of_same (wrapped_any ta _ _ (by omega))))
          have HS2 := Lib.hid (HS1.out.drewN nq)
          clear ca ka m1 HS1
          generalize World.drewN W1 nq = W2 at HS2 ⊢
          obtain ⟨a', c', w9, hrun, T2⟩ := HNX.out W2 _ HS2.out HV.out
          have HT2 := Lib.hid T2
          clear T2 HNX HS2
          go_wp2_with (at_builtin; refine Lib.wpList_append_run _ rfl _ _ _ _ rfl _ _ rfl rfl _ _ hrun ?_)
          go_roundw
          case rel => exact ⟨k + 1, a', c', by omega, by go_num, rfl, HT2⟩
          case measure => simp [intOf]; omega
        · have g4 : (kja == 4) = false := by simpa using hg
          rw [g4, Bool.false_or] at HVV
          have szb1 := szw (kja == 5)
          have HV := Lib.hid (HVV.out)
          clear HVV szw
          go_wp2_with (fail)
          obtain ⟨W1, hW1⟩ : ∃ W1, W1 = (wr.alloc (.cells #[.int .i64 6, .int .i64 (ja : Nat), .int .i64 x.b, .int .i64 x.n, .string x.name] 45)) := ⟨_, rfl⟩
          rw [← hW1] at HS1 ca ka m1 ⊢
          clear hW1
          generalize wr.heap.size = gb at m1 ⊢
          go_quiet ((go_at_call 51; exact Calls.quiet_of_same (wrapped_any ta _ _ (by omega))))
          have HS2 := Lib.hid (HS1.out.drewN nq)
          clear ca ka m1 HS1
          generalize World.drewN W1 nq = W2 at HS2 ⊢
          obtain ⟨a', c', w9, hrun, T2⟩ := HNX.out W2 _ HS2.out HV.out
          have HT2 := Lib.hid T2
          clear T2 HNX HS2
          go_wp2_with (at_builtin; refine Lib.wpList_append_run _ rfl _ _ _ _ rfl _ _ rfl rfl _ _ hrun ?_)
          go_roundw
          case rel => exact ⟨k + 1, a', c', by omega, by go_num, rfl, HT2⟩
          case measure => simp [intOf]; omega
    · obtain rfl : k = n := by omega
      obtain ⟨gl, hla, ca⟩ := HS.out.at (j := k - 1) (by omega)
      subst hla
      have hwn : IntKind.i64.wrap ((k : Int) - 1) = (k : Int) - 1 := IntWalk.i64_in _ (by omega)
      have ht : ((k : Int) - 1).toNat = k - 1 := by omega
      go_wp2
      go_ret
      exact ⟨rfl, HS.out.bel⟩
end Go.Proofs.YtkdejinhjdkkmaaDoor

/- Contract of the reference's PrintPat; the condition: nodes and names lie there. -/
import Derived.Test.YtkdejinhjdkkmaaDoorWh
import Derived.Test.YtkdejinhjdkkmaaDoorRn
import Derived.Test.YtkdejinhjdkkmaaDoorCf
namespace Go.Proofs.YtkdejinhjdkkmaaDoor
open Go.ChangeShapes Go.WideShapes Go.ChangeAt Go.RowKit Go.Maps

theorem posF_on' {x : Txt} {nm : List Txt} {k : Nat} (h : k < nm.length) (hne : ¬ nm[k] = x) : posF x (nm.drop k) k = posF x (nm.drop (k + 1)) (k + 1) := by
  rw [List.drop_eq_getElem_cons h]; simp [posF, hne]
theorem posF_at' {x : Txt} {nm : List Txt} {k : Nat} (h : k < nm.length) (he : nm[k] = x) : posF x (nm.drop k) k = some k := by
  rw [List.drop_eq_getElem_cons h]; simp [posF, he]
set_option maxHeartbeats 8000000 in
set_option maxRecDepth 100000 in
theorem printPat_any (ns : List Nd) (nm : List Txt) (pa : Option Addr) (pc : Nat) (sa : Option Addr) (sc : Nat) (w : World) (N : NodesAt w pa ns) (S : Strs w sa nm) (hl : ns.length ≤ 1000000) (hnl : nm.length ≤ 1000000) (hx : ∀ x ∈ nm, x.length ≤ maxLen) :
    Calls Tryd.prog 14 #[.slice pa ns.length pc, .slice sa nm.length sc] w (Prints (printP keysL nm ns) w) := by
  have CK := checkPat_any ns (nm.length : Int) pa pc w N hl
  unfold chkOut at CK
  obtain ⟨r, hr⟩ : ∃ r, r = printP keysL nm ns := ⟨_, rfl⟩
  rw [← hr]
  unfold printP at hr
  cases hc : chkB ns (nm.length : Int) with
  | false =>
    rw [hc] at CK hr
    have HO : Hid (r = (1, [])) := Lib.hid hr
    have CK := Lib.hid CK
    clear N S hr hc hx
    generalize ns.length = n at CK hl ⊢
    generalize nm.length = m at CK hnl ⊢
    go_enter Tryd.func14, Tryd.ntmps14
    go_wp2_with (fail)
    refine CK.out.mono ?_
    rintro e w1 ⟨rfl, b1⟩
    have HB := Lib.hid b1
    clear b1
    go_wp2
    go_ret2
    exact Prints.bad HO.out rfl HB.out
  | true =>
    rw [hc, Bool.true_and] at hr
    rw [hc] at CK
    obtain ⟨h0, h24, hw⟩ := chk_wf hc
    have CT := Lib.hid (fun W (b : Below w.heap.size w W) (h : namedB keysL nm ns = true) => textPat_any ns nm pa pc sa sc W (N.below b) (S.below b) h0 h24 hnl hw (fun j hj => by
      have := text_bound hw (fun x hx hk => (named_facts h x hx hk).2) j hj
      have hp : 2 ^ j ≤ 2 ^ 23 := Nat.pow_le_pow_right (by omega) (by omega)
      omega) (fun x hx hk => by have := (named_facts h x hx hk).2; omega))
    have CK := Lib.hid CK
    have HO := Lib.hid hr
    rw [namedB_take] at HO CT
    have HN := Lib.hid N
    have HSS := Lib.hid S
    have HX := Lib.hid hx
    have HW := Lib.hid hw
    clear hc N S hr hx hw
    obtain ⟨n, hn⟩ : ∃ n, n = ns.length := ⟨_, rfl⟩
    obtain ⟨m, hm⟩ : ∃ m, m = nm.length := ⟨_, rfl⟩
    rw [← hn, ← hm] at CK ⊢
    rw [← hn] at h0 h24 hl HO
    rw [← hm] at hnl
    simp only [← hn, ← hm] at CT
    have HNN := Lib.hid hn
    have HMM := Lib.hid hm
    clear hn hm
    obtain ⟨bb, hbb⟩ : ∃ bb, bb = ns.all (nameOk keysL nm) := ⟨_, rfl⟩
    rw [← hbb] at HO CT
    have HBB := Lib.hid hbb
    clear hbb
    go_enter Tryd.func14, Tryd.ntmps14
    go_wp2_with (fail)
    refine CK.out.mono ?_
    rintro e w1 ⟨rfl, b1⟩
    have HB1 := Lib.hid b1
    clear b1 CK
    go_wp2_with (fail)
    go_loopw [4, 5, 7, 8, 16] (fun _ _ _ _ i wr => ∃ k : Nat, k ≤ n ∧ i = .int .i64 k ∧ Hid (Below w.heap.size w wr) ∧ Hid (bb = (ns.drop k).all (nameOk keysL nm))) (fun _ _ _ _ i _ => n - (intOf i).toNat)
    case atStart => exact ⟨0, Nat.zero_le _, rfl, HB1, HBB⟩
    case round =>
      clear HBB HB1
      obtain ⟨k, hk, rfl, HB, HR⟩ := hrel
      by_cases hlt : k < n
      · have hkn : k < ns.length := by have := HNN.out; omega
        obtain ⟨b, off, hpa, N, hb⟩ := (HN.out.below HB.out) k hkn
        subst hpa
        have hwk := HW.out k hkn
        have HR2 : Hid (bb = (nameOk keysL nm ns[k] && (ns.drop (k + 1)).all (nameOk keysL nm))) := Lib.hid (by rw [HR.out, List.drop_eq_getElem_cons hkn, List.all_cons])
        have n0 := N.c0
        have n1 := N.c1
        have n2 := N.c2
        have n3 := N.c3
        have n4 := N.c4
        generalize ns[k] = x at *
        clear N HR
        have HB2 : Hid (Below w.heap.size w (wr.alloc (.cells #[.int .i64 x.kind, .int .i64 x.a, .int .i64 x.b, .int .i64 x.n, .string x.name] 45))) := Lib.hid (HB.out.alloc HB.out.size _)
        by_cases h3 : x.kind = 3
        · obtain ⟨hn0, hn1⟩ : 0 ≤ x.n ∧ x.n < (nm.length : Int) := by
            rcases hwk with h | ⟨_, h1, h2, _⟩ | ⟨h, _⟩ | ⟨h, _⟩
            · omega
            · exact ⟨h1, h2⟩
            · omega
            · omega
          obtain ⟨j, hj⟩ : ∃ j : Nat, x.n = (j : Int) := ⟨x.n.toNat, by omega⟩
          have hjn : j < nm.length := by omega
          obtain ⟨gs, hsa, hcs, hgs⟩ := (HSS.out.below HB2.out).there hjn
          have HCA : Hid (∀ W, Below w.heap.size w W → NmAt W gs nm) := Lib.hid (fun W b k h => by
            obtain ⟨g', e', hc', _⟩ := (HSS.out.below b).there h
            rw [hsa] at e'; injection e' with e'; injection e' with e'; subst e'
            exact hc')
          subst hsa
          have HOK : Hid (nameOk keysL nm x = (isName keysL nm[j] && decide (posF nm[j] nm 0 = some j))) := Lib.hid (by
            unfold nameOk
            have e : nm.getD x.n.toNat [] = nm[j] := by rw [hj]; simp [List.getD, hjn]
            rw [e, h3, hj]
            simp)
          have hxl := HX.out _ (List.getElem_mem hjn)
          have CL := Lib.hid (fun W => rnamed_any nm[j] W hxl)
          have L1 : Lies (wr.alloc (.cells #[.int .i64 x.kind, .int .i64 x.a, .int .i64 x.b, .int .i64 x.n, .string x.name] 45)) wr.heap.size 45 [.int .i64 x.kind, .int .i64 x.a, .int .i64 x.b, .int .i64 x.n, .string x.name] := Lies.new wr 45 _
          rw [hj] at n3 HB2 hcs L1
          rw [h3] at n0 HB2 hcs L1
          have hjm : j < m := by have := HMM.out; omega
          have HL1 := Lib.hid L1
          have HPO : Hid (∀ t, t < nm.length → t ≤ j → ∀ h : t < nm.length, True) := Lib.hid (fun _ _ _ _ => trivial)
          clear HPO L1 hgs hj h3 hwk hn0 hn1 hxl
          obtain ⟨y, hy⟩ : ∃ y, y = nm[j] := ⟨_, rfl⟩
          have HY := Lib.hid hy
          rw [← hy] at hcs HOK CL
          clear hy
          go_wp2_with (fail)
          refine (CL.out _).mono ?_
          rintro e w2 ⟨rfl, b2⟩
          have L2 := HL1.out.below b2 HL1.out.lt
          have HB3 : Hid (Below w.heap.size w w2) := Lib.hid (HB2.out.trans (b2.mono HB2.out.size))
          clear b2 HB2 HB n0 n1 n2 n3 n4 hcs CL HL1
          generalize wr.heap.size = gb at *
          cases hbn : isName keysL y with
          | false =>
            have HR3 : Hid (bb = false) := Lib.hid (by rw [HR2.out, HOK.out, hbn]; rfl)
            clear HR2 HOK hbn L2
            go_wp2
            go_ret2
            exact Prints.bad (by rw [HO.out, HR3.out]; rfl) rfl HB3.out
          | true =>
            rw [hbn, Bool.true_and] at HOK
            clear hbn
            have HL2 := Lib.hid L2
            clear L2
            have HP0 : Hid (posF y nm 0 = posF y (nm.drop 0) 0) := Lib.hid rfl
            go_wp2_with (fail)
            go_loopw [4, 5, 8] (fun _ _ i wv => ∃ t : Nat, t ≤ j ∧ i = .int .i64 t ∧ Hid (Below w.heap.size w wv) ∧ Hid (posF y nm 0 = posF y (nm.drop t) t) ∧ Hid (Lies wv gb 45 [.int .i64 3, .int .i64 x.a, .int .i64 x.b, .int .i64 (j : Int), .string x.name])) (fun _ _ i _ => j - (intOf i).toNat)
            case atStart => exact ⟨0, Nat.zero_le _, rfl, HB3, HP0, HL2⟩
            case round =>
              clear HB3 HP0 HL2
              obtain ⟨t, ht, rfl, HB3, HP, HL2⟩ := hrel
              have m3 := HL2.out.cell 3
              simp only [List.getElem?_cons_zero, List.getElem?_cons_succ] at m3
              by_cases htj : t < j
              · have htn : t < nm.length := by omega
                have htm : t < m := by omega
                have ct := HCA.out _ HB3.out t htn
                have cj := HCA.out _ HB3.out j hjn
                rw [← HY.out] at cj
                by_cases he : nm[t] = y
                · have hq : ((str nm[t]).toList == (str y).toList) = true := by rw [str_eq, str_data]; simpa using he
                  have HR3 : Hid (bb = false) := Lib.hid (by
                    rw [HR2.out, HOK.out, HP.out, posF_at' htn he]
                    simp; omega)
                  generalize str nm[t] = st at *
                  generalize str y = sy at *
                  clear HR2 HOK HP he
                  go_wp2_with (fail)
                  go_quiet (fail)
                  go_wp2
                  go_ret2
                  exact Prints.bad (by rw [HO.out, HR3.out]; rfl) rfl (HB3.out.trans (below_drewN _ _ _))
                · have hq : ((str nm[t]).toList == (str y).toList) = false := by rw [str_eq, str_data]; simpa using he
                  have HP2 : Hid (posF y nm 0 = posF y (nm.drop (t + 1)) (t + 1)) := Lib.hid (by rw [HP.out, posF_on' htn he])
                  generalize str nm[t] = st at *
                  generalize str y = sy at *
                  clear HP he
                  go_wp2_with (fail)
                  go_quiet (fail)
                  go_wp2_with (fail)
                  go_roundw
                  case rel => exact ⟨t + 1, by omega, by go_num, Lib.hid (HB3.out.trans (below_drewN _ _ _)), HP2, Lib.hid (HL2.out.drewN _)⟩
                  case measure => simp [intOf]; omega
              · obtain rfl : t = j := by omega
                have HR3 : Hid (bb = (ns.drop (k + 1)).all (nameOk keysL nm)) := Lib.hid (by
                  rw [HR2.out, HOK.out, HP.out, posF_at' hjn HY.out.symm]; simp)
                clear HR2 HOK HP
                go_wp2_with (fail)
                go_roundw
                case rel => exact ⟨k + 1, by omega, by go_num, HB3, HR3⟩
                case measure => simp [intOf]; omega
        · have h3' : (x.kind != 3) = true := by simp [h3]
          have HR3 : Hid (bb = (ns.drop (k + 1)).all (nameOk keysL nm)) := Lib.hid (by rw [HR2.out]; unfold nameOk; simp [h3])
          clear h3 HR2
          go_wp2_with (fail)
          go_roundw
          case rel => exact ⟨k + 1, by omega, by go_num, HB2, HR3⟩
          case measure => simp [intOf]; omega
      · have HR2 : Hid (bb = true) := Lib.hid (by rw [HR.out, List.drop_eq_nil_of_le (by have := HNN.out; omega)]; rfl)
        have C1 := Lib.hid (CT.out wr HB.out HR2.out)
        clear HR CT
        go_wp2_with (fail)
        refine C1.out.mono ?_
        rintro e w2 ⟨rfl, b2⟩
        have HB2 : Hid (Below w.heap.size w w2) := Lib.hid (HB.out.trans (b2.mono HB.out.size))
        clear b2 C1
        go_wp2
        go_ret2
        rw [HO.out, HR2.out]
        exact ⟨rfl, HB2.out⟩
end Go.Proofs.YtkdejinhjdkkmaaDoor

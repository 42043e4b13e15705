/- Contract of the program's Print: the text of a pattern, or the error; the condition: nodes, names and the table of powers lie there. -/
import Derived.Test.YtkdejinhjdkkmaaDoorWe
namespace Go.Proofs.YtkdejinhjdkkmaaDoor
open Go.ChangeShapes Go.WideShapes Go.ChangeAt Go.RowKit Go.Maps

theorem name_len {keys : List Txt} {x : Txt} (h : isName keys x = true) : 0 < x.length ∧ x.length ≤ 16 := by
  unfold isName at h
  simp only [Bool.and_eq_true] at h
  cases x with
  | nil => simp [isWord] at h
  | cons c r =>
    simp only [isWord, Bool.and_eq_true, decide_eq_true_eq] at h
    simp only [List.length_cons]
    omega
theorem named_facts {keys nm : List Txt} {ns : List Nd} (h : namedB keys nm ns = true) : ∀ x ∈ ns, x.kind = 3 → 0 < (nm.getD x.n.toNat []).length ∧ (nm.getD x.n.toNat []).length ≤ 16 := fun x hx hk => by
  unfold namedB at h
  have := List.all_eq_true.1 h x hx
  simp only [hk, decide_true, Bool.not_true, Bool.false_or, Bool.and_eq_true] at this
  exact name_len this.1
theorem text_ne {nm : List Txt} {ns : List Nd} {tags : Int} {i : Nat} (hi : i < ns.length) (h : wfN tags i ns[i]) (hn : ∀ x ∈ ns, x.kind = 3 → 0 < (nm.getD x.n.toNat []).length) : textAt nm ns i ≠ [] := by
  rw [textAt_eq hi h]
  unfold nodeT
  split
  · simp
  split
  · simp
  split
  · rename_i k3
    have := hn _ (List.getElem_mem hi) k3
    unfold tagT
    intro e
    have e2 := congrArg List.length e
    rw [List.length_append] at e2
    simp only [List.length_nil] at e2
    omega
  split
  · simp
  split
  · simp
  split
  · simp
  · rcases h with h | ⟨h, _⟩ | ⟨h, _⟩ | ⟨h, _⟩ <;> omega
/-- What Print comes to: the error, and the text. -/
def Prints (r : Nat × Txt) (w : World) (e : Ending) (w' : World) : Prop := e = .returned (.tuple #[.string (str r.2), .int .i64 (r.1 : Nat)]) ∧ Below w.heap.size w w'
theorem Prints.bad {r : Nat × Txt} {w w' : World} {e : Ending} (hr : r = (1, [])) (h : e = .returned (.tuple #[.string ⟨#[]⟩, .int .i64 1])) (b : Below w.heap.size w w') : Prints r w e w' := by
  subst hr; exact ⟨h, b⟩

set_option maxHeartbeats 4000000 in
set_option maxRecDepth 100000 in
theorem print_any (ns : List Nd) (nm : List Txt) (pa : Option Addr) (pc : Nat) (sa : Option Addr) (sc : Nat) (w : World) (N : NodesAt w pa ns) (S : Strs w sa nm) (ht : Lib.TabIs Tryd.prog w "internal/strconv.uint64pow10" .u64 Lib.pow10Tab) (hl : ns.length ≤ 1000000) (hnl : nm.length ≤ 1000000) (hx : ∀ x ∈ nm, x.length ≤ maxLen) :
    Calls Tryd.prog 7 #[.slice pa ns.length pc, .slice sa nm.length sc] w (Prints (printP keysL nm ns) w) := by
  have CK := check_any ns (nm.length : Int) pa pc w N hl
  unfold chkOut at CK
  obtain ⟨r, hr⟩ : ∃ r, r = printP keysL nm ns := ⟨_, rfl⟩
  rw [← hr]
  unfold printP at hr
  cases hc : chkB ns (nm.length : Int) with
  | false =>
    rw [hc] at CK hr
    have HO : Hid (r = (1, [])) := Lib.hid hr
    have CK := Lib.hid CK
    clear N S hr hc hx
    generalize ns.length = n at CK hl ⊢
    generalize nm.length = m at CK hnl ⊢
    go_enter Tryd.func7, Tryd.ntmps7
    go_wp2_with (fail)
    refine CK.out.mono ?_
    rintro e w1 ⟨rfl, b1⟩
    have HB := Lib.hid b1
    clear b1
    go_wp2
    go_ret2
    exact Prints.bad HO.out rfl HB.out
  | true =>
    rw [hc] at CK hr
    obtain ⟨h0, h24, hw⟩ := chk_wf hc
    have CN := Lib.hid (fun W (b : Below w.heap.size w W) => pnamed_any ns nm pa pc sa sc W (N.below b) (S.below b) h24 hnl hx hw)
    have CK := Lib.hid CK
    clear hc
    cases hnm : namedB keysL nm ns with
    | false =>
      rw [hnm] at CN hr
      have HO : Hid (r = (1, [])) := Lib.hid hr
      clear N S hr hnm hx hw
      generalize ns.length = n at *
      generalize nm.length = m at *
      go_enter Tryd.func7, Tryd.ntmps7
      go_wp2_with (fail)
      refine CK.out.mono ?_
      rintro e w1 ⟨rfl, b1⟩
      have C1 := Lib.hid (CN.out w1 b1)
      have HB := Lib.hid b1
      clear b1
      go_wp2_with (fail)
      refine C1.out.mono ?_
      rintro e w2 ⟨rfl, b2⟩
      have HB2 : Hid (Below w.heap.size w w2) := Lib.hid (HB.out.trans (b2.mono HB.out.size))
      clear b2 C1
      go_wp2
      go_ret2
      exact Prints.bad HO.out rfl HB2.out
    | true =>
      rw [hnm] at CN hr
      have hfacts := named_facts hnm
      have HO : Hid (r = (0, textAt nm ns (ns.length - 1))) := Lib.hid hr
      have hbd := text_bound hw (fun x hx hk => (hfacts x hx hk).2) (ns.length - 1) (by omega)
      have hp : 2 ^ (ns.length - 1) ≤ 2 ^ 23 := Nat.pow_le_pow_right (by omega) (by omega)
      have hne : textAt nm ns (ns.length - 1) ≠ [] := text_ne (by omega) (hw _ (by omega)) (fun x hx hk => (hfacts x hx hk).1)
      have hT : (textAt nm ns (ns.length - 1)).length ≤ 140737488355328 := by omega
      have HNE := Lib.hid hne
      have HN := Lib.hid N
      have HS := Lib.hid S
      have HT := Lib.hid ht
      have HW := Lib.hid hw
      clear N S hr hnm hx hw ht hfacts hbd hp hne
      obtain ⟨n, hn⟩ : ∃ n, n = ns.length := ⟨_, rfl⟩
      obtain ⟨m, hm⟩ : ∃ m, m = nm.length := ⟨_, rfl⟩
      rw [← hn, ← hm] at CK CN ⊢
      rw [← hn] at h0 h24 hl HO hT HNE
      have HNN := Lib.hid hn
      have HMM := Lib.hid hm
      clear hn hm
      go_enter Tryd.func7, Tryd.ntmps7
      go_wp2_with (fail)
      refine CK.out.mono ?_
      rintro e w1 ⟨rfl, b1⟩
      have C1 := Lib.hid (CN.out w1 b1)
      have HB := Lib.hid b1
      clear b1
      go_wp2_with (fail)
      refine C1.out.mono ?_
      rintro e w2 ⟨rfl, b2⟩
      have B2 : Below w.heap.size w w2 := HB.out.trans (b2.mono HB.out.size)
      have ok : WEnv.Ok ⟨ns, nm, w2.heap.size, pa, pc, sa, sc, w2.heap.size, w2⟩ := ⟨HN.out.below B2, HS.out.below B2, tab_below HT.out B2, by show ns.length ≤ 24; rw [← HNN.out]; exact h24, hnl, Nat.le_refl _, rfl⟩
      have R2 : WS ⟨ns, nm, w2.heap.size, pa, pc, sa, sc, w2.heap.size, w2⟩ (w2.alloc (.cells #[.slice pa n pc, .slice sa m sc, .pointer none, .slice none 0 0] 55)) [] := by
        rw [HNN.out, HMM.out]
        exact ⟨_, none, 0, Lies.new w2 55 _, .inl rfl, Row.nil _ _, (fun _ e => nomatch e), (Below.refl _ _).alloc (Nat.le_refl _) _⟩
      have hni : n - 1 < ns.length := by have := HNN.out; omega
      have CP := (part_of_node _ ok (n - 1) hni (node_all _ ok HW.out (n - 1) hni)) _ [] none 0 0 [] R2 (.inl ⟨rfl, rfl⟩) (by simpa [wrapT] using hT)
      have CT := fun W R => wtext_any ⟨ns, nm, w2.heap.size, pa, pc, sa, sc, w2.heap.size, w2⟩ W (textAt nm ns (n - 1)) R HNE.out hT
      simp only [List.contains_nil, wrapT, List.nil_append, Bool.false_eq_true, if_false] at CP CT
      have HB2 := Lib.hid B2
      have hcast : ((n - 1 : Nat) : Int) = (n : Int) - 1 := by omega
      rw [hcast] at CP
      have CP := Lib.hid CP
      have CT := Lib.hid CT
      generalize textAt nm ns (n - 1) = T at *
      clear B2 b2 R2 ok C1 hcast
      go_wp2_with (fail)
      refine CP.out.mono ?_
      rintro e w3 ⟨rfl, R3, -⟩
      have C3 := Lib.hid (CT.out w3 R3)
      clear R3 CP CT
      go_wp2_with (fail)
      refine C3.out.mono ?_
      rintro e w4 ⟨rfl, b4⟩
      have HB4 : Hid (Below w.heap.size w w4) := Lib.hid (HB2.out.trans (b4.mono HB2.out.size))
      clear b4 C3
      go_wp2
      go_ret2
      rw [HO.out]
      exact ⟨rfl, HB4.out⟩
end Go.Proofs.YtkdejinhjdkkmaaDoor

/- Contracts of the program's named and Print; the condition: nodes, names and the table of powers lie there. -/
import Derived.Test.YtkdejinhjdkkmaaDoorWd
import Derived.Lib.SlicesS
namespace Go.Proofs.YtkdejinhjdkkmaaDoor
open Go.ChangeShapes Go.WideShapes Go.ChangeAt Go.RowKit Go.Maps

theorem str_inj {a b : Txt} : str a = str b ↔ a = b := ⟨fun h => by have := congrArg (fun s : ByteArray => s.data.toList) h; exact this, fun h => by rw [h]⟩
def posI (x : Txt) (nm : List Txt) : Int := match posF x nm 0 with
  | some k => (k : Int)
  | none => -1
theorem idx_pos (x : Txt) : ∀ (nm : List Txt) (i : Nat), Lib.idxFromS (nm.map str) (str x) i = match posF x nm i with | some k => (k : Int) | none => -1
  | [], _ => rfl
  | y :: r, i => by
    simp only [List.map_cons, Lib.idxFromS, posF]
    by_cases h : y = x
    · rw [if_pos (str_inj.2 h), if_pos h]
    · rw [if_neg (fun e => h (str_inj.1 e)), if_neg h]; exact idx_pos x r (i + 1)
/-- The names' cells. -/
def NmAt (w : World) (gs : Nat) (nm : List Txt) : Prop := ∀ k (h : k < nm.length), w.cell? ⟨gs, k, none⟩ = some (.string (str nm[k]))
theorem index_any (nm : List Txt) (gs sc m : Nat) (hm : m = nm.length) (x : Txt) (w : World) (hl : m ≤ 1000000) (L : NmAt w gs nm) :
    Calls Tryd.prog 36 #[.slice (some ⟨gs, 0, none⟩) m sc, .string (str x)] w fun e w' => e = .returned (.int .i64 (posI x nm)) ∧ w' = w := by
  subst hm
  refine (Tryd.slices_Index_string gs 0 nm.length sc (nm.map str) (str x) w (by simp) (by omega) (fun j hj => ?_)).mono ?_
  · have hj' : j < nm.length := by simpa using hj
    rw [Nat.zero_add, L j hj']
    simp [List.getD, hj']
  · rintro e w' ⟨rfl, h⟩
    refine ⟨?_, h⟩
    have e : (nm.map str).take nm.length = nm.map str := List.take_of_length_le (by simp)
    rw [e]
    unfold Lib.idxOfS posI
    rw [idx_pos]
theorem posF_le {x : Txt} {nm : List Txt} {k : Nat} (h : k < nm.length) (e : nm[k] = x) : ∃ j, posF x nm 0 = some j ∧ j ≤ k := by
  have aux : ∀ (nm : List Txt) (i k : Nat) (h : k < nm.length), nm[k] = x → ∃ j, posF x nm i = some j ∧ j ≤ i + k := by
    intro nm
    induction nm with
    | nil => intro i k h; simp at h
    | cons y r ih =>
      intro i k h e
      unfold posF
      by_cases hy : y = x
      · rw [if_pos hy]; exact ⟨i, rfl, by omega⟩
      · rw [if_neg hy]
        cases k with
        | zero => exact absurd e hy
        | succ k =>
          obtain ⟨j, hj, hle⟩ := ih (i + 1) k (by simpa using h) (by simpa using e)
          exact ⟨j, hj, by omega⟩
  obtain ⟨j, h1, h2⟩ := aux nm 0 k h e
  exact ⟨j, h1, by omega⟩
def nameOk (keys nm : List Txt) (x : Nd) : Bool := !decide (x.kind = 3) || (isName keys (nm.getD x.n.toNat []) && decide (posF (nm.getD x.n.toNat []) nm 0 = some x.n.toNat))
theorem namedB_take {keys nm : List Txt} {ns : List Nd} : namedB keys nm ns = ns.all (nameOk keys nm) := rfl

set_option maxHeartbeats 4000000 in
set_option maxRecDepth 100000 in
theorem pnamed_any (ns : List Nd) (nm : List Txt) (pa : Option Addr) (pc : Nat) (sa : Option Addr) (sc : Nat) (w : World) (N : NodesAt w pa ns) (S : Strs w sa nm) (hl : ns.length ≤ 24) (hnl : nm.length ≤ 1000000) (hx : ∀ x ∈ nm, x.length ≤ maxLen) (hw : ∀ j (h : j < ns.length), wfN (nm.length : Int) j ns[j]) :
    Calls Tryd.prog 18 #[.slice pa ns.length pc, .slice sa nm.length sc] w fun e w' => e = .returned (.bool (namedB keysL nm ns)) ∧ Below w.heap.size w w' := by
  rw [namedB_take]
  have HN := Lib.hid N
  have HS := Lib.hid S
  have HX := Lib.hid hx
  have HW := Lib.hid hw
  clear N S hx hw
  obtain ⟨n, hn⟩ : ∃ n, n = ns.length := ⟨_, rfl⟩
  rw [← hn] at hl ⊢
  have HNN := Lib.hid hn
  clear hn
  obtain ⟨m, hm⟩ : ∃ m, m = nm.length := ⟨_, rfl⟩
  rw [← hm] at hnl ⊢
  have HM := Lib.hid hm
  clear hm
  obtain ⟨r, hr⟩ : ∃ r, r = ns.all (nameOk keysL nm) := ⟨_, rfl⟩
  rw [← hr]
  have HR := Lib.hid hr
  clear hr
  go_enter Tryd.func18, Tryd.ntmps18
  go_wp2_with (fail)
  go_loopw [4, 6, 7, 10] (fun _ _ _ i wr => ∃ k : Nat, k ≤ n ∧ i = .int .i64 k ∧ Hid (Below w.heap.size w wr) ∧ Hid (r = (ns.drop k).all (nameOk keysL nm))) (fun _ _ _ i _ => n - (intOf i).toNat)
  case atStart => exact ⟨0, Nat.zero_le _, rfl, Lib.hid (Below.refl _ _), HR⟩
  case round =>
    clear HR
    obtain ⟨k, hk, rfl, HB, HR⟩ := hrel
    by_cases hlt : k < n
    · have hkn : k < ns.length := by have := HNN.out; omega
      obtain ⟨b, off, hpa, N, hb⟩ := (HN.out.below HB.out) k hkn
      subst hpa
      have hwk := HW.out k hkn
      have HR2 : Hid (r = (nameOk keysL nm ns[k] && (ns.drop (k + 1)).all (nameOk keysL nm))) := Lib.hid (by rw [HR.out, List.drop_eq_getElem_cons hkn, List.all_cons])
      have n0 := N.c0
      have n1 := N.c1
      have n2 := N.c2
      have n3 := N.c3
      have n4 := N.c4
      generalize ns[k] = x at *
      clear N HR
      have HB2 : Hid (Below w.heap.size w (wr.alloc (.cells #[.int .i64 x.kind, .int .i64 x.a, .int .i64 x.b, .int .i64 x.n, .string x.name] 45))) := Lib.hid (HB.out.alloc HB.out.size _)
      by_cases h3 : x.kind = 3
      · have h3' : (x.kind != 3) = false := by rw [h3]; rfl
        obtain ⟨hn0, hn1⟩ : 0 ≤ x.n ∧ x.n < (nm.length : Int) := by
          rcases hwk with h | ⟨_, h1, h2, _⟩ | ⟨h, _⟩ | ⟨h, _⟩
          · omega
          · exact ⟨h1, h2⟩
          · omega
          · omega
        obtain ⟨j, hj⟩ : ∃ j : Nat, x.n = (j : Int) := ⟨x.n.toNat, by omega⟩
        have hjn : j < nm.length := by omega
        obtain ⟨gs, hsa, hcs, hgs⟩ := (HS.out.below HB.out).there hjn
        have HCA : Hid (NmAt wr gs nm) := Lib.hid (fun k h => by
          obtain ⟨g', e', hc', _⟩ := (HS.out.below HB.out).there h
          rw [hsa] at e'; injection e' with e'; injection e' with e'; subst e'
          exact hc')
        subst hsa
        obtain ⟨jj, hjj, hle⟩ := posF_le hjn rfl
        have HPO : Hid (posI nm[j] nm = (jj : Int)) := Lib.hid (by unfold posI; rw [hjj])
        have HOK : Hid (nameOk keysL nm x = (isName keysL nm[j] && decide (jj = j))) := Lib.hid (by
          unfold nameOk
          have e : nm.getD x.n.toNat [] = nm[j] := by rw [hj]; simp [List.getD, hjn]
          rw [e, hjj, h3, hj]
          simp)
        have CI := Lib.hid (fun W (hW : NmAt W gs nm) => index_any nm gs sc m HM.out nm[j] W hnl hW)
        have CL := Lib.hid (fun W => lname_any nm[j] W)
        rw [hj] at n3 HB2
        rw [h3] at n0 HB2
        have hxl := HX.out _ (List.getElem_mem hjn)
        have CL2 : Hid (∀ W, Calls Tryd.prog 35 #[.string (str nm[j])] W fun e w' => e = .returned (.bool (isName keysL nm[j])) ∧ W = w') := Lib.hid (fun W => lname (str nm[j]) W (by rw [str_size]; exact hxl))
        have hjm : j < m := by have := HM.out; omega
        clear CL hxl
        have hcw : (wr.alloc (.cells #[.int .i64 3, .int .i64 x.a, .int .i64 x.b, .int .i64 (j : Int), .string x.name] 45)).cell? ⟨gs, j, none⟩ = some (.string (str nm[j])) := by
          rw [← hcs]; exact ((Below.refl _ _).alloc (Nat.le_refl _) _).cell (p := ⟨gs, j, none⟩) hgs
        have L1 : Lies (wr.alloc (.cells #[.int .i64 3, .int .i64 x.a, .int .i64 x.b, .int .i64 (j : Int), .string x.name] 45)) wr.heap.size 45 [.int .i64 3, .int .i64 x.a, .int .i64 x.b, .int .i64 (j : Int), .string x.name] := Lies.new wr 45 _
        have HCW : Hid (∀ q, NmAt ((wr.alloc (.cells #[.int .i64 3, .int .i64 x.a, .int .i64 x.b, .int .i64 (j : Int), .string x.name] 45)).drewN q) gs nm) := Lib.hid (fun q k h => by
          rw [← HCA.out k h]; exact ((Below.refl _ _).alloc (Nat.le_refl _) _).cell (p := ⟨gs, k, none⟩) hgs)
        have m3 := L1.cell 3
        simp only [List.getElem?_cons_zero, List.getElem?_cons_succ] at m3
        rw [HPO.out] at CI
        clear L1 hcs hgs HCA hj h3 hjj HPO hwk hn0 hn1
        generalize nm[j] = y at *
        generalize str y = sy at *
        generalize isName keysL y = bn at *
        cases bn with
        | false =>
          have HR3 : Hid (r = false) := Lib.hid (by rw [HR2.out, HOK.out]; rfl)
          clear HR2 HOK
          go_wp2_with (fail)
          generalize wr.alloc (.cells #[.int .i64 3, .int .i64 x.a, .int .i64 x.b, .int .i64 (j : Int), .string x.name] 45) = W1 at *
          generalize wr.heap.size = gb at *
          go_quiet ((go_at_call 35; exact Calls.quiet_of_same ((CL2.out _).mono (fun _ _ h => ⟨h.1, h.2.symm⟩))))
          go_wp2
          go_ret
          exact ⟨by rw [HR3.out]; rfl, HB2.out.trans (below_drewN _ _ _)⟩
        | true =>
          by_cases hjj : jj = j
          · subst hjj
            have HR3 : Hid (r = (ns.drop (k + 1)).all (nameOk keysL nm)) := Lib.hid (by rw [HR2.out, HOK.out]; simp)
            clear HR2 HOK
            go_wp2_with (fail)
            generalize wr.alloc (.cells #[.int .i64 3, .int .i64 x.a, .int .i64 x.b, .int .i64 (jj : Int), .string x.name] 45) = W1 at *
            generalize wr.heap.size = gb at *
            go_quiet ((first | (go_at_call 35; exact Calls.quiet_of_same ((CL2.out _).mono (fun _ _ h => ⟨h.1, h.2.symm⟩))) | (go_at_call 36; exact Calls.quiet_of_same (CI.out _ (HCW.out _)))))
            go_wp2_with (fail)
            go_roundw
            case rel => exact ⟨k + 1, by omega, by go_num, Lib.hid (HB2.out.trans (below_drewN _ _ _)), HR3⟩
            case measure => simp [intOf]; omega
          · have HR3 : Hid (r = false) := Lib.hid (by rw [HR2.out, HOK.out]; simp [hjj])
            have hjl : (jj : Int) < (j : Int) := by omega
            have hjl2 : jj < j := by omega
            clear HR2 HOK hjj
            go_wp2_with (fail)
            generalize wr.alloc (.cells #[.int .i64 3, .int .i64 x.a, .int .i64 x.b, .int .i64 (j : Int), .string x.name] 45) = W1 at *
            generalize wr.heap.size = gb at *
            go_quiet ((first | (go_at_call 35; exact Calls.quiet_of_same ((CL2.out _).mono (fun _ _ h => ⟨h.1, h.2.symm⟩))) | (go_at_call 36; exact Calls.quiet_of_same (CI.out _ (HCW.out _)))))
            go_wp2
            go_ret
            exact ⟨by rw [HR3.out]; rfl, HB2.out.trans (below_drewN _ _ _)⟩
      · have h3' : (x.kind != 3) = true := by simp [h3]
        have HR3 : Hid (r = (ns.drop (k + 1)).all (nameOk keysL nm)) := Lib.hid (by rw [HR2.out]; unfold nameOk; simp [h3])
        clear h3 HR2
        go_wp2_with (fail)
        go_roundw
        case rel => exact ⟨k + 1, by omega, by go_num, HB2, HR3⟩
        case measure => simp [intOf]; omega
    · have HR2 : Hid (r = true) := Lib.hid (by rw [HR.out, List.drop_eq_nil_of_le (by have := HNN.out; omega)]; rfl)
      clear HR
      go_wp2
      go_ret
      exact ⟨by rw [HR2.out]; rfl, HB.out⟩
end Go.Proofs.YtkdejinhjdkkmaaDoor

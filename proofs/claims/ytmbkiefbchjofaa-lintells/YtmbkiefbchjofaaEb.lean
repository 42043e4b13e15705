/- slices.insertionSortCmpFunc at bags, by bag.Compare. -/
import Derived.Test.YtmbkiefbchjofaaEa
import Derived.Test.YtmbkiefbchjofaaCd
import Derived.BigRegion
namespace Go.Proofs.Ytmbkiefbchjofaa
open Go.ChangeShapes Go.WideShapes Go.ChangeAt Go.RowKit

/-- What sorting comes to. -/
def Sorted (a : Option Addr) (c : Nat) (ps : List Bg) (w : World) (e : Ending) (w' : World) : Prop :=
  ∃ l, e = .returned (.tuple #[]) ∧ Sorts w a c ps w' l ∧ Up l l.length

set_option maxRecDepth 100000 in
set_option maxHeartbeats 2000000 in
theorem insertion_any (g c n : Nat) (ps : List Bg) (w : World) (P : Bgs w (some ⟨g, 0, none⟩) c ps) (hn : ps.length = n) (hs : n ≤ 12) (r : Rights ps) :
    Calls Try.prog 62 #[.slice (some ⟨g, 0, none⟩) n c, .int .i64 0, .int .i64 n, .func (.func 32) #[] #[]] w (Sorted (some ⟨g, 0, none⟩) c ps w) := by
  have hle := P.le
  rw [hn] at hle
  have HN := Lib.hid hn
  have HR := Lib.hid r
  have HS0 := Lib.hid (Sorts.refl P)
  clear P hn r
  go_enter Try.func62, Try.ntmps62
  go_wp2
  go_loopw [8] (fun i wr => ∃ (k : Nat) (l : List Bg), 1 ≤ k ∧ k ≤ 13 ∧ (n ≤ k → n ≤ 1 ∨ k = n) ∧ i = .int .i64 k ∧ Hid (Sorts w (some ⟨g, 0, none⟩) c ps wr l) ∧ Hid (Up l k)) (fun i _ => 13 - (intOf i).toNat)
  case atStart => exact ⟨1, ps, by omega, by omega, by omega, rfl, HS0, Lib.hid (fun p q h1 h2 => by omega)⟩
  case round =>
    obtain ⟨k, l, hk1, hk2, hkn, rfl, HS, HU⟩ := hrel
    by_cases hlt : k < n
    · go_wp2
      go_loopw [9] (fun i wr => ∃ (j : Nat) (m : List Bg), j ≤ k ∧ i = .int .i64 j ∧ Hid (Sorts w (some ⟨g, 0, none⟩) c ps wr m) ∧ Hid (Ins m j k)) (fun i _ => (intOf i).toNat)
      case atStart => exact ⟨k, l, by omega, rfl, HS, Lib.hid (up_ins HU.out)⟩
      case round =>
        obtain ⟨j, m, hj, rfl, HT, HI⟩ := hrel
        have HM : Hid (m.length = n) := Lib.hid (HT.out.len.trans HN.out)
        by_cases h0 : j = 0
        · subst h0
          have hd : decide ((0 : Int) < ((0 : Nat) : Int)) = false := by simp
          have HU2 := Lib.hid (ins_first HI.out)
          go_wp2
          go_quiet (fail)
          have HT2 := Lib.hid (HT.out.below (below_drewN wr.heap.size wr nq))
          go_wp2
          go_roundw
          case rel => exact ⟨k + 1, m, by omega, by omega, by omega, by go_num, HT2, HU2⟩
          case measure => simp [intOf]; omega
        · obtain ⟨J, rfl⟩ : ∃ J, j = J + 1 := ⟨j - 1, by omega⟩
          obtain ⟨cA, hA⟩ := HT.out.at (j := J + 1) (by rw [HM.out]; omega)
          obtain ⟨cB, hB⟩ := HT.out.at (j := J) (by rw [HM.out]; omega)
          have hlA := hA.le
          have hlB := hB.le
          have Z := cmp21 (bgAt m (J + 1)).a (bgAt m J).a (bgAt m (J + 1)).c (bgAt m J).c (bgAt m (J + 1)).xs (bgAt m J).xs wr.drew hA hB
          have HRm := Lib.hid (HT.out.rights HR.out)
          have HEA : Hid ((bgAt m (J + 1)).val = .slice (bgAt m (J + 1)).a (bgAt m (J + 1)).xs.length (bgAt m (J + 1)).c) := Lib.hid rfl
          have HEB : Hid ((bgAt m J).val = .slice (bgAt m J).a (bgAt m J).xs.length (bgAt m J).c) := Lib.hid rfl
          generalize hv : cmpL (bgAt m (J + 1)).xs (bgAt m J).xs = v at Z
          have HV := Lib.hid hv
          generalize (bgAt m (J + 1)).a = aA at Z cA HEA
          generalize (bgAt m J).a = aB at Z cB HEB
          generalize (bgAt m (J + 1)).c = dA at Z cA hlA HEA
          generalize (bgAt m J).c = dB at Z cB hlB HEB
          generalize (bgAt m (J + 1)).xs.length = nA at Z cA hlA HEA
          generalize (bgAt m J).xs.length = nB at Z cB hlB HEB
          have HZ := Lib.hid Z
          have hlt0 : g < wr.heap.size := HT.out.bgs.row.lt rfl
          clear Z hA hB hv
          have i1 : (0 : Int) ≤ (J : Int) + 1 := by omega
          have i2 : (J : Int) + 1 < (n : Int) := by omega
          have i3 : (0 : Int) ≤ (J : Int) := by omega
          have i4 : (J : Int) < (n : Int) := by omega
          have hd : decide ((0 : Int) < (J : Int) + 1) = true := by simp
          have hw1 : IntKind.i64.wrap ((J : Int) + 1 - 1) = (J : Int) := by rw [Int.add_sub_cancel]; exact IntWalk.i64_in _ (by omega)
          have hw3 : IntKind.i64.wrap (J : Int) = (J : Int) := IntWalk.i64_in _ (by omega)
          go_wp2
          go_region_held3 (fun w' => w'.cell? ⟨g, J + 1, none⟩ = some (.slice aA nA dA) ∧ w'.cell? ⟨g, J, none⟩ = some (.slice aB nB dB))
            (first | (exact ⟨cA, cB⟩) | (exact ⟨cA2, cB2⟩) | go_keep)
            (first
              | (go_at_call 32; refine HZ.out.mono ?_; rintro e w2 ⟨rfl, b2⟩; (replace b2 : Below wr.heap.size wr w2 := undrew b2); (have cA2 := (b2.cell (p := ⟨g, J + 1, none⟩) hlt0).trans cA); (have cB2 := (b2.cell (p := ⟨g, J, none⟩) hlt0).trans cB)))
          have HT2 := Lib.hid (HT.out.below b2)
          clear hw1 hw3 cA cB b2
          by_cases hneg : v < 0
          · have HI2 := Lib.hid (ins_swap HRm.out (by rw [HM.out]; exact hlt) hj HI.out (by rw [HV.out]; exact hneg))
            have T3 := HT2.out.swap (j := J) (by rw [HM.out]; omega)
            rw [HEA.out, HEB.out] at T3
            have HT3 := Lib.hid T3
            have zA := HT2.out.bgs.row.frozen (J + 1)
            have zB := HT2.out.bgs.row.frozen J
            clear T3
            go_wp2
            go_region
            go_wp2
            go_roundw
            case rel => exact ⟨J, _, by omega, by go_num, Lib.hid (HT3.out.below ⟨rfl, rfl, rfl, Nat.le_refl _, fun _ _ => rfl⟩), HI2⟩
            case measure => simp [intOf]
          · have HU2 := Lib.hid (ins_done HRm.out HI.out hj (by rw [HV.out]; omega))
            have hneg' : 0 ≤ v := by omega
            go_wp2
            go_roundw
            case rel => exact ⟨k + 1, m, by omega, by omega, by omega, by go_num, HT2, HU2⟩
            case measure => simp [intOf]; omega
    · have HF : Hid (Up l l.length) := Lib.hid (by
        rw [HS.out.len, HN.out]
        rcases hkn (by omega) with h | h
        · exact fun p q h1 h2 => by omega
        · rw [← h]; exact HU.out)
      go_wp2
      exact bodyPost_ret (v := .tuple #[]) (by simp [results, Try.results62, go_sem]) rfl ⟨l, rfl, HS.out, HF.out⟩
end Go.Proofs.Ytmbkiefbchjofaa

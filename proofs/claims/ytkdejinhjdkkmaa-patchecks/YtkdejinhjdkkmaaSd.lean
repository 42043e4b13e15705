/- PatChecks' walk: of any nodes Check and the reference's CheckPat say the same; the condition: what came in lies there. -/
import Derived.Test.YtkdejinhjdkkmaaNb
import Derived.Test.YtkdejinhjdkkmaaCf
import Derived.Deep.Slices
namespace Go.Proofs.Ytkdejinhjdkkmaa
open Go.ChangeShapes Go.WideShapes Go.ChangeAt Go.RowKit

set_option maxRecDepth 100000 in
set_option maxHeartbeats 4000000 in
theorem checks_walk (ra : Option Addr) (rc : Nat) (rs : List Nd) (la : Option Addr) (len cap : Nat) (zs : List Int) (how tags : Int) (w : World) (hn : ra = none → rs = [] ∧ rc = 0) (h : NodesAt w ra rs) (hlc : rs.length ≤ rc) (hc : rc ≤ 9223372036854775807) (hw0 : -9223372036854775808 ≤ how) (hw1 : how ≤ 9223372036854775807) (ht0 : -9223372036854775808 ≤ tags) (ht1 : tags ≤ 9223372036854775807)
    (hrb : ∀ x ∈ rs, -9223372036854775808 ≤ x.a ∧ x.a ≤ 9223372036854775807 ∧ -9223372036854775808 ≤ x.b ∧ x.b ≤ 9223372036854775807) (hlen : len ≤ 9223372036854775807) (HR : Hid (∀ k, k < len → RowAt w la zs k)) :
    Calls Try.prog 3 #[.slice ra rs.length rc, .slice la len cap, .int .i64 how, .int .i64 tags] w (True_ w) := by
  have CN : Hid (Calls Try.prog 7 #[.slice ra rs.length rc, .slice la len cap, .int .i64 how] w (MakesNds w)) := Lib.hid (by
    by_cases h3 : how.tmod 3 = 0
    · exact nodes_raw ra rc rs la len cap how w hn h hlc hc h3
    · exact nodes_pat ra rc rs la len cap zs how w h hlc hc hw0 hw1 hrb hlen HR h3)
  have CW : Hid (∀ W, Calls Try.prog 8 #[.int .i64 tags, .int .i64 6] W fun e w' => e = .returned (.int .i64 (tags % 6)) ∧ W = w') := Lib.hid (fun W => within_mod tags 6 W (by omega) (by omega) ht0 ht1)
  clear h hn hrb
  generalize rs.length = rn at CN ⊢
  by_cases h2 : how.tmod 2 = 0
  · go_enter Try.func3, Try.ntmps3
    go_wp2_with (fail)
    refine CN.out.mono ?_
    rintro e w1 ⟨a, c, ns, rfl, N1, hl1, -, b1⟩
    have HN := Lib.hid N1
    have HB := Lib.hid b1
    clear N1 b1
    go_wp2_with (fail)
    refine (CW.out _).mono ?_
    rintro e w2 ⟨rfl, rfl⟩
    generalize tags % 6 = tg at *
    have CK := Lib.hid (check_any ns tg a c w1 HN.out.at (by omega))
    go_wp2_with (fail)
    refine CK.out.mono ?_
    rintro e w2 ⟨rfl, b2⟩
    have HB2 : Hid (Below w.heap.size w w2) := Lib.hid (HB.out.trans (b2.mono HB.out.size))
    have CR := Lib.hid (checkPat_any ns tg a c w2 (HN.out.below b2).at (by omega))
    clear b2 CK
    go_wp2_with (fail)
    refine CR.out.mono ?_
    rintro e w3 ⟨rfl, b3⟩
    have HB3 : Hid (Below w.heap.size w w3) := Lib.hid (HB2.out.trans (b3.mono HB2.out.size))
    clear b3 CR
    generalize chkB ns tg = r
    go_wp2_with (fail)
    refine (wakes_any _).mono ?_
    rintro e w4 ⟨rfl, b4⟩
    have HB4 : Hid (Below w.heap.size w w4) := Lib.hid (HB3.out.trans (b4.mono HB3.out.size))
    clear b4
    go_wp2
    go_ret
    exact ⟨rfl, HB4.out⟩
  · have h2b : (how.tmod 2 == 0) = false := by simp [h2]
    go_enter Try.func3, Try.ntmps3
    go_wp2_with (fail)
    refine CN.out.mono ?_
    rintro e w1 ⟨a, c, ns, rfl, N1, hl1, -, b1⟩
    have HN := Lib.hid N1
    have HB := Lib.hid b1
    clear N1 b1
    have CK := Lib.hid (check_any ns tags a c w1 HN.out.at (by omega))
    go_wp2_with (fail)
    refine CK.out.mono ?_
    rintro e w2 ⟨rfl, b2⟩
    have HB2 : Hid (Below w.heap.size w w2) := Lib.hid (HB.out.trans (b2.mono HB.out.size))
    have CR := Lib.hid (checkPat_any ns tags a c w2 (HN.out.below b2).at (by omega))
    clear b2 CK
    go_wp2_with (fail)
    refine CR.out.mono ?_
    rintro e w3 ⟨rfl, b3⟩
    have HB3 : Hid (Below w.heap.size w w3) := Lib.hid (HB2.out.trans (b3.mono HB2.out.size))
    clear b3 CR
    generalize chkB ns tags = r
    go_wp2_with (fail)
    refine (wakes_any _).mono ?_
    rintro e w4 ⟨rfl, b4⟩
    have HB4 : Hid (Below w.heap.size w w4) := Lib.hid (HB3.out.trans (b4.mono HB3.out.size))
    clear b4
    go_wp2
    go_ret
    exact ⟨rfl, HB4.out⟩
end Go.Proofs.Ytkdejinhjdkkmaa

import Derived.Test.YtmefmnpmppdpmabDoorYa
import Derived.Test.YtmefmnpmppdpmabDoorYc
import Derived.Test.YtmefmnpmppdpmabDoorWk
import Derived.Test.YtmefmnpmppdpmabDoorUo
import Derived.WalkSmall
import Derived.Test.YtmefmnpmppdpmabDoorG
import Derived.Test.YtmefmnpmppdpmabDoorXh
import Derived.Test.YtmefmnpmppdpmabDoorNd
import Derived.Test.YtmefmnpmppdpmabDoorNl
/- The program's Within where a search's pairs are known (InclFar): any sets; and what the pairs of a line are. -/
namespace Go.Proofs.YtmefmnpmppdpmabDoor
open Go.ChangeShapes Go.WideShapes Go.ChangeAt Go.RowKit

/-- The pairs of a line. -/
def LineG (u : List Int) (b : List Lin) (N : Mr) (q : Pr) : Prop := ∃ i, i ≤ 60 ∧ q = lineP u b N i
theorem goes_line {X : Lin} (hX : X.ps = []) {b : List Lin} {N : Mr} (hN : N = none) {C : Int} (hC : Small C X.base)
    (hl : ∀ i, i ≤ 60 → TextI (lineP X.base b N i).l ∧ (lineP X.base b N i).l.length ≤ 50000000 ∧ costI b (lineP X.base b N i).l ≤ 100000000000) : Goes X b (LineG X.base b N) := by
  refine ⟨hC.right, fun p hp => by rw [hX] at hp; simp at hp, ⟨0, by omega, rfl⟩, fun z hz => ?_, fun q m c M hq hn hc h0 => ?_⟩
  · obtain ⟨i, hi, rfl⟩ := hz
    obtain ⟨a1, a2, a3, a4⟩ := line_word (N := N) (b := b) hC i hi
    obtain ⟨l1, l2, l3⟩ := hl i hi
    refine ⟨⟨a1.right, l1, l2⟩, l3, a3, fun t => ?_, ?_⟩
    · rw [a4, line_n]
      refine Int.emod_lt_of_pos _ ?_
      have h1 : 0 < (2 : Nat) ^ i := Nat.two_pow_pos i
      have e : (2 : Int) ^ i = ((2 ^ i : Nat) : Int) := by simp
      omega
    · rw [line_n]; exact hi
  · obtain ⟨i, hi, rfl⟩ := hq
    rw [line_n] at hn
    rw [hX] at hc
    injection hc with hc
    subst hc
    have e := nextM_same (oddN (lineP X.base b N i).c) (lineP X.base b N i).l M N hN h0
    refine ⟨i + 1, by omega, ?_⟩
    rw [← e, line_n]
    rfl
theorem goes_step {n k : Int} (h1 : 1 ≤ n) (h2 : n ≤ 1073741823) (k1 : 1 ≤ k) (k2 : k ≤ 6) {N : Mr} (hN : N = none) : Goes (wordX n) (stepS k) (LineG [n] (stepS k) N) := by
  have hb := thin_step k1 k2
  refine goes_line (X := wordX n) rfl hN (one_small h1 (by omega)) (fun i hi => ?_)
  have hs : Stand (stepS k) (lineP [n] (stepS k) N i).l := by
    rw [line_items hb hN h1 (by omega) i hi]
    exact items_stand hb [n] i hN
  refine ⟨fun x hx => ?_, ?_, cost_bound hb hs.1 hs.2⟩
  · have := hs.2 x hx
    exact ⟨this.small.right, this.lo, by have := this.hi; have := hb.few; omega⟩
  · have := rise_few hb hs.1 hs.2
    show (lineP [n] (stepS k) N i).l.length ≤ 50000000
    omega
theorem goes_next {n : Int} (h1 : 1 ≤ n) (h2 : n ≤ 1073741823) {N : Mr} (hN : N = none) : Goes (wordX n) (nextS (n + 1)) (LineG [n] (nextS (n + 1)) N) := by
  refine goes_line (X := wordX n) rfl hN (one_small h1 (by omega)) (fun i hi => ?_)
  cases i with
  | zero =>
    have e : (lineP (wordX n).base (nextS (n + 1)) N 0).l = [⟨0, [n + 1]⟩] := start_one h1 (by omega)
    rw [e]
    refine ⟨fun x hx => ?_, by simp, by simp [costI, linAt, nextS, wordX]⟩
    rw [List.mem_singleton] at hx
    subst hx
    exact ⟨one_word (by omega) (by omega), Int.le_refl 0, by show (0 : Int) < 65536; decide⟩
  | succ i =>
    have e : (lineP (wordX n).base (nextS (n + 1)) N (i + 1)).l = [] := next_line h1 (by omega) hN i
    rw [e]
    exact ⟨fun x hx => by simp at hx, by simp, by simp [costI]⟩
theorem goes_thin {X : Lin} {b : List Lin} (ha : Thin [X]) (hb : Thin b) : Goes X b (PrOk [X] b 0 (none : Mr)) := goes_prOk (a := [X]) ha hb (j := 0) (by simp) rfl
set_option maxRecDepth 100000 in
set_option maxHeartbeats 4000000 in
theorem within18g {mp : Option Addr} {M : Mr} (w : World) (HM0 : MrAt w 73 mp M) (htab : TabM mp w) (aa : Option Addr) (ac : Nat) (ba : Option Addr) (bc : Nat) (a b : List Lin) (RA : Lins w aa ac a) (RB : Lins w ba bc b) (ha : rightS a = true) (hb : rightS b = true) (hb3 : b.length ≤ 1000000) (Inv : Nat → Mr → Prop) (hm : Inv 0 M) (f : Nat) (hs0 : ∀ i Mi s, i < a.length → Inv i Mi → searchM f (linAt a i) b Mi = some s → s.q.length ≤ 1000000000 ∧ Inv (i + 1) s.m) (hg : ∀ i, i < a.length → ∃ G, Goes (linAt a i) b G) (res : Bool × List Int × Int × Mr) (hr : withinGo f b a M = some res) :
    Calls Tryd.prog 6 #[.pointer mp, .slice aa a.length ac, .slice ba b.length bc] w (WinE 73 mp res w) := by
  have hla := RA.le
  have hlb := RB.le
  have Z0 := right11 aa ac a w RA
  rw [ha] at Z0
  have Z1 := fun W (h : Below w.heap.size w W) => right11 ba bc b W (RB.below h)
  rw [hb] at Z1
  have HRA : Hid (∀ V, MK mp w V → Lins V aa ac a) := Lib.hid (fun V k => Lins.mk HM0 mtP k RA)
  have HRB : Hid (∀ V, MK mp w V → Lins V ba bc b) := Lib.hid (fun V k => Lins.mk HM0 mtP k RB)
  have HMM := Lib.hid HM0
  have HTAB := Lib.hid htab
  have HS0 := Lib.hid hs0
  have HG := Lib.hid hg
  have HB3 := Lib.hid hb3
  have HMB := Lib.hid hm
  have HR := Lib.hid hr
  generalize hna : a.length = na at hla Z0 ⊢
  generalize hnb : b.length = nb at hlb Z1 ⊢
  have HNA := Lib.hid hna
  have HNB := Lib.hid hnb
  have HZ0 := Lib.hid Z0
  have HZ1 := Lib.hid Z1
  clear Z0 Z1 RA RB HM0 ha hb hm hr hna hnb hb3 hs0 hg htab
  go_enter Tryd.func6, Tryd.ntmps6
  go_wp2_with (fail)
  refine HZ0.out.mono ?_
  rintro e w1 ⟨rfl, b1⟩
  have HB1 := Lib.hid b1
  clear b1 HZ0
  go_wp2_with (fail)
  refine (HZ1.out w1 HB1.out).mono ?_
  rintro e w2 ⟨rfl, b2⟩
  have HB2 := Lib.hid (HB1.out.trans (b2.mono HB1.out.size))
  have HM2 := Lib.hid (HMM.out.below HB2.out)
  have HK2 : Hid (MK mp w w2) := Lib.hid (Kept.of_below HB2.out)
  have HR2 : Hid (withinGo f b (a.drop 0) M = some res) := Lib.hid (by rw [List.drop_zero]; exact HR.out)
  clear b2 HZ1 HB1 HB2 HR
  go_wp2
  go_loopw [21] (fun iv wr => ∃ (i : Nat) (Mi : Mr), i ≤ na ∧ iv = .int .i64 i ∧ Hid (MrAt wr 73 mp Mi) ∧ Hid (MK mp w wr) ∧ Hid (Inv i Mi) ∧ Hid (withinGo f b (a.drop i) Mi = some res)) (fun iv _ => na - (intOf iv).toNat)
  case atStart => exact ⟨0, M, Nat.zero_le _, rfl, HM2, HK2, HMB, HR2⟩
  case round =>
    clear HM2 HK2 HR2
    obtain ⟨i, Mi, hi, rfl, HMi, HK, HMb, HRi⟩ := hrel
    by_cases hlt : i < na
    · have hia : i < a.length := by rw [HNA.out]; exact hlt
      obtain ⟨g, xb, xd, pb, pd, e1, q0, q1, B0, P0⟩ := (HRA.out _ HK.out).at (k := i) hia
      subst e1
      have hbl := B0.le
      have hpl := P0.le
      have hst := HRi.out
      rw [lin_drop hia] at hst
      obtain ⟨s, hs, hs1, hs2⟩ := within_step hst
      obtain ⟨hqb, hmb⟩ := HS0.out i Mi s hia HMb.out hs
      obtain ⟨G, hG⟩ := HG.out i hia
      have bb := below_alloc wr (.cells #[.slice xb (linAt a i).base.length xd, .slice pb (linAt a i).ps.length pd] 28)
      have HK3 : Hid (MK mp w (wr.alloc (.cells #[.slice xb (linAt a i).base.length xd, .slice pb (linAt a i).ps.length pd] 28))) := Lib.hid (HK.out.then bb)
      have Z := within52 _ (HMi.out.below bb) (fun U u => HTAB.out U (HK3.out.and u)) xb xd pb pd (linAt a i) (B0.below bb) (P0.below bb) ba bc b ((HRB.out _ HK3.out)) HB3.out G hG f s hs hqb
      have HMS := Lib.hid hmb
      have HS1 := Lib.hid hs1
      have HS2 := Lib.hid hs2
      have HSO := Lib.hid (searchM_ok hs)
      rw [HNB.out] at Z
      generalize (linAt a i).base.length = u at q0 hbl Z HK3
      generalize (linAt a i).ps.length = v at q1 hpl Z HK3
      have HZ := Lib.hid Z
      have i1 : (0 : Int) ≤ (i : Int) := by omega
      have i2 : (i : Int) < (na : Int) := by omega
      clear B0 P0 bb Z hs hst hs1 hs2 hmb hqb hia hG
      go_wp2_with (fail)
      refine HZ.out.mono ?_
      clear HZ
      rintro e W4 ⟨a4, c4, rfl, B4, m4, k4⟩
      have HK4 := Lib.hid (HK3.out.and k4)
      have HM4 := Lib.hid m4
      have HB4 := Lib.hid B4
      have hl4 := B4.le
      clear B4 m4 k4 HK3
      obtain ⟨sok, sw, se, sm, sq⟩ := s
      dsimp only at HMS HS1 HS2 HM4 HB4 hl4 HSO ⊢
      generalize hswl : sw.length = swl at hl4 ⊢
      have HSW := Lib.hid hswl
      clear hswl
      cases sok with
      | true =>
        have he := HSO.out rfl
        have HR5 := Lib.hid (HS1.out rfl)
        subst he
        go_wp2
        go_roundw
        case rel => exact ⟨i + 1, sm, by omega, by go_num, HM4, HK4, HMS, HR5⟩
        case measure => simp [intOf]; omega
      | false =>
        have hre := HS2.out rfl
        have HF : Hid (WinE 73 mp res w (.returned (.tuple #[.bool false, .slice a4 swl c4, .int .i64 se])) W4) := Lib.hid (by
          rw [hre, ← HSW.out]
          exact ⟨a4, c4, rfl, HB4.out, HM4.out, HK4.out⟩)
        clear hre
        go_wp2
        exact bodyPost_ret (v := .tuple #[.bool false, .slice a4 swl c4, .int .i64 se]) (by simp [results, Tryd.results6, go_sem]) rfl HF.out
    · obtain rfl : i = na := by omega
      have HF : Hid (WinE 73 mp res w (.returned (.tuple #[.bool true, .slice none 0 0, .int .i64 0])) wr) := Lib.hid (by
        have h := HRi.out
        rw [← HNA.out, List.drop_length] at h
        unfold withinGo at h
        injection h with h
        rw [← h]
        exact ⟨none, 0, rfl, Bag.nil _, HMi.out, HK.out⟩)
      go_wp2
      exact bodyPost_ret (v := .tuple #[.bool true, .slice none 0 0, .int .i64 0]) (by simp [results, Tryd.results6, go_sem]) rfl HF.out
/-- Within of one linear set, no meter. -/
theorem within18one (w : World) (htab : TabM none w) (aa : Option Addr) (ac : Nat) (ba : Option Addr) (bc : Nat) (X : Lin) (b : List Lin) (RA : Lins w aa ac [X]) (RB : Lins w ba bc b) (ha : rightS [X] = true) (hb : rightS b = true) (hb3 : b.length ≤ 1000000)
    (G : Pr → Prop) (hg : Goes X b G) (f : Nat) (r : Sr) (hr : searchM f X b (none : Mr) = some r) (hq : r.q.length ≤ 1000000000) :
    Calls Tryd.prog 6 #[.pointer none, .slice aa 1 ac, .slice ba b.length bc] w (fun e w' => ∃ a c, e = .returned (.tuple #[.bool r.ok, .slice a (if r.ok = true then [] else r.w).length c, .int .i64 (if r.ok = true then 0 else r.e)]) ∧ Bag w' a c (if r.ok = true then [] else r.w) ∧ Below w.heap.size w w') := by
  have hi0 : ∀ i, i < [X].length → linAt [X] i = X := fun i hi => by
    have : i = 0 := by simpa using hi
    subst this; rfl
  have hw : withinGo f b [X] (none : Mr) = some (if r.ok = true then (true, [], 0, r.m) else (false, r.w, r.e, r.m)) := by
    show (match searchM f X b (none : Mr) with | none => none | some s => if s.e = 0 ∧ s.ok = true then withinGo f b [] s.m else some (false, s.w, s.e, s.m)) = _
    rw [hr]
    cases ho : r.ok with
    | true =>
      have h0 := searchM_ok hr ho
      show (if r.e = 0 ∧ r.ok = true then withinGo f b [] r.m else some (false, r.w, r.e, r.m)) = _
      rw [if_pos ⟨h0, ho⟩]
      rfl
    | false =>
      show (if r.e = 0 ∧ r.ok = true then withinGo f b [] r.m else some (false, r.w, r.e, r.m)) = _
      rw [if_neg (by rw [ho]; simp)]
      rfl
  have Z := within18g (mp := none) (M := (none : Mr)) w rfl htab aa ac ba bc [X] b RA RB ha hb hb3 (fun i N => i = 0 → N = (none : Mr)) (fun _ => rfl) f (fun i Mi s hi hM hs => ?_) (fun i hi => ⟨G, by rw [hi0 i hi]; exact hg⟩) _ hw
  · refine Z.mono ?_
    rintro e w' ⟨a, c, rfl, B, m, k⟩
    have hb2 : Below w.heap.size w w' := k.below (fun i h => by cases h) (Nat.le_refl _)
    cases ho : r.ok with
    | true =>
      rw [ho] at B
      exact ⟨a, c, rfl, B, hb2⟩
    | false =>
      rw [ho] at B
      exact ⟨a, c, rfl, B, hb2⟩
  · have h0 : i = 0 := by simpa using hi
    rw [hi0 i hi, hM h0, hr] at hs
    injection hs with hs
    subst hs
    exact ⟨hq, fun h => absurd h (by omega)⟩
end Go.Proofs.YtmefmnpmppdpmabDoor
/- Rows of one linear set and of one period in new memory (InclFar's literals). -/
namespace Go.Proofs.YtmefmnpmppdpmabDoor
open Go.ChangeShapes Go.WideShapes Go.ChangeAt Go.RowKit

theorem lins_fresh (w : World) (xa pa : Option Addr) (xc pc nx np : Nat) (X : Lin) (hx : X.base.length = nx) (hp : X.ps.length = np) (B : Bag w xa xc X.base) (P : Bags w pa pc X.ps) :
    Lins (w.alloc (.cells #[.slice xa nx xc, .slice pa np pc] 28)) (some ⟨w.heap.size, 0, none⟩) 1 [X] := by
  have b := below_alloc w (.cells #[.slice xa nx xc, .slice pa np pc] 28)
  refine ⟨[⟨xa, xc, pa, pc, X⟩], rfl, row2_new (V := w) ⟨xa, xc, pa, pc, X⟩ nx np hx hp, fun l h => ?_⟩
  obtain rfl := List.mem_singleton.1 h
  exact ⟨B.below b, P.below b⟩
theorem bags_fresh (w : World) (xa : Option Addr) (xc n : Nat) (xs : List Int) (hx : xs.length = n) (B : Bag w xa xc xs) :
    Bags (w.alloc (.cells #[.slice xa n xc] 24)) (some ⟨w.heap.size, 0, none⟩) 1 [xs] := by
  have b := below_alloc w (.cells #[.slice xa n xc] 24)
  subst hx
  refine ⟨[⟨xa, xc, xs⟩], rfl, .inr ⟨_, [], rfl, by simp [vals], by omega, Lies.new w 24 [.slice xa xs.length xc]⟩, fun l h => ?_⟩
  obtain rfl := List.mem_singleton.1 h
  exact B.below b
end Go.Proofs.YtmefmnpmppdpmabDoor
/- Plain words: a word made of another one and some words, each any number of times. -/
namespace Go.Proofs.YtmefmnpmppdpmabDoor
open Go.ChangeShapes Go.WideShapes Go.ChangeAt Go.RowKit

end Go.Proofs.YtmefmnpmppdpmabDoor
/- The walks of AutoLetters and AutoCost, over the program's functions handed in. -/
namespace Go.Proofs.YtmefmnpmppdpmabDoor
open Go.ChangeShapes Go.WideShapes Go.ChangeAt Go.RowKit

end Go.Proofs.YtmefmnpmppdpmabDoor
/- Contracts of Sub and of the reference's SubBag. -/
namespace Go.Proofs.YtmefmnpmppdpmabDoor
open Go.ChangeShapes Go.WideShapes Go.ChangeAt Go.RowKit
set_option maxRecDepth 100000

end Go.Proofs.YtmefmnpmppdpmabDoor
/- InclPlain's parts: wakes, small, made. -/
namespace Go.Proofs.YtmefmnpmppdpmabDoor
open Go.ChangeShapes Go.WideShapes Go.ChangeAt Go.RowKit

set_option maxRecDepth 100000 in
set_option maxHeartbeats 2000000 in
/-- Within of no set: yes. -/
theorem within18_nil (mp ba : Option Addr) (bc : Nat) (b : List Lin) (w : World) (R : Lins w ba bc b) (hr : rightS b = true) :
    Calls Tryd.prog 6 #[.pointer mp, .slice none 0 0, .slice ba b.length bc] w (fun e w' => e = .returned (.tuple #[.bool true, .slice none 0 0, .int .i64 0]) ∧ Below w.heap.size w w') := by
  have hle := R.le
  have Z0 := right11 none 0 [] w (Lins.nil w)
  rw [show rightS [] = true from rfl] at Z0
  have Z1 := fun W (h : Below w.heap.size w W) => right11 ba bc b W (R.below h)
  rw [hr] at Z1
  generalize b.length = n at hle Z1 ⊢
  have HZ0 := Lib.hid Z0
  have HZ1 := Lib.hid Z1
  clear Z0 Z1 R hr
  go_enter Tryd.func6, Tryd.ntmps6
  go_wp2_with (fail)
  refine HZ0.out.mono ?_
  rintro e w1 ⟨rfl, b1⟩
  have HB1 := Lib.hid b1
  clear b1 HZ0
  go_wp2_with (fail)
  refine (HZ1.out w1 HB1.out).mono ?_
  rintro e w2 ⟨rfl, b2⟩
  have HB2 := Lib.hid (HB1.out.trans (b2.mono HB1.out.size))
  clear b2 HZ1 HB1
  go_wp2
  go_loopw [21] (fun i wr => i = .int .i64 0 ∧ w2 = wr) (fun _ _ => 0)
  case atStart => exact ⟨rfl, rfl⟩
  case round =>
    obtain ⟨rfl, rfl⟩ := hrel
    go_wp2
    exact bodyPost_ret (v := .tuple #[.bool true, .slice none 0 0, .int .i64 0]) (by simp [results, Tryd.results6, go_sem]) rfl ⟨rfl, HB2.out⟩
theorem rightS_one : rightS oneS = true := rightS_iff.2 one_rise
set_option maxRecDepth 100000 in
set_option maxHeartbeats 2000000 in
theorem wakes24 (w : World) : Calls Tryd.prog 8 #[] w (fun e w' => e = .returned (.bool true) ∧ Below w.heap.size w w') := by
  go_enter Tryd.func8, Tryd.ntmps8
  go_wp2_with (fail)
  refine (one_any w).mono ?_
  rintro e w1 ⟨a, c, rfl, A⟩
  have HB1 := Lib.hid A.bel
  have hL : Lins w1 a c oneS := ⟨_, rfl, A.row⟩
  have hle := hL.le
  have Z := within18_nil none a c oneS w1 hL rightS_one
  rw [show oneS.length = 1 from rfl] at Z hle
  have HZ := Lib.hid Z
  clear Z A hL
  go_wp2_with (fail)
  refine HZ.out.mono ?_
  rintro e w2 ⟨rfl, b2⟩
  have HB2 := Lib.hid (HB1.out.trans (b2.mono HB1.out.size))
  clear b2 HZ HB1
  go_wp2
  go_ret
  exact ⟨rfl, HB2.out⟩
/-! ### made -/
end Go.Proofs.YtmefmnpmppdpmabDoor

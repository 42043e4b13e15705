/- The walk of the law TablePlays of chapter 2. -/
import Derived.Test.YtkfjnojpgffchaaW
import Derived.Deep.DeepCutAuto
import Derived.IntWalk
namespace Go.Proofs.Ytkfjnojpgffchaa
open Go.ChangeShapes Go.WideShapes Go.ChangeAt Go.RowKit

theorem Both.drew {w wr : World} {b : Nat} {kt kv : List (Int × Int)} {m : Nat} {la : Option Addr} {lc : Nat} (h : Both w b kt kv m la lc wr) : Both w b kt kv m la lc wr.drew :=
  h.rowed (h.row.kept (X := fun _ => False) (Kept.refl _ _).drew (fun _ _ h => h)) ((Kept.refl _ _).drew) (fun _ e => .inl e)

/-- Where a key stands among pairs, whether it is there, and what a Drop and a Put come to. -/
structure Spot (kv : List (Int × Int)) (x : Int) (i : Nat) (h : Bool) (o : Int) : Prop where
  le : i ≤ kv.length
  yes : h = true → ∃ hi : i < kv.length, kv[i].1 = x ∧ o = kv[i].2
  no : h = false → ∀ hi : i < kv.length, ¬ kv[i].1 = x
  old : h = false → o = 0
  d1 : h = true → dropP kv x = kv.take i ++ kv.drop (i + 1)
  d0 : h = false → dropP kv x = kv
  p1 : h = true → ∀ v, putP kv x v = kv.set i (x, v)
  p0 : h = false → ∀ v, putP kv x v = kv.take i ++ (x, v) :: kv.drop i

theorem spot_at {kv : List (Int × Int)} (hu : Up intLt (keysOf kv)) (x : Int) : Spot kv x (spot intLt (keysOf kv) x) (has (keysOf kv) x) (hasV intLt (keysOf kv) (valsOf kv) x 0) := by
  have hle := spot_le (lt := intLt) (keysOf kv) x
  rw [List.length_map] at hle
  refine ⟨hle, fun h => ?_, fun h hi e => ?_, fun h => hasV_no h, fun h => ?_, fun h => ?_, fun h v => ?_, fun h v => ?_⟩
  · have hi : spot intLt (keysOf kv) x < kv.length := by have := spot_lt intOrder hu h; simpa using this
    refine ⟨hi, ?_, ?_⟩
    · have := (spot_has intOrder hu x).1 h
      rw [List.getElem?_map, List.getElem?_eq_getElem hi] at this
      simpa using this
    · rw [hasV_yes h rfl (by simpa using hi)]; simp
  · have := (spot_has intOrder hu x).2 (by rw [List.getElem?_map, List.getElem?_eq_getElem hi]; simp [e])
    rw [h] at this; cases this
  · unfold dropP; rw [h, if_pos rfl]
  · unfold dropP; rw [h]; rfl
  · unfold putP; rw [h, if_pos rfl]
  · unfold putP; rw [h]; rfl

set_option maxRecDepth 100000 in
set_option maxHeartbeats 4000000 in
theorem plays_walk (a a' : Option Addr) (len cap klen kcap : Nat) (zs ys : List Int) (w : World) (_hlen : len ≤ 9223372036854775807) (hklen : klen ≤ 9223372036854775807)
    (HR : Hid (∀ k, k < len → RowAt w a zs k)) (HR' : Hid (∀ k, k < klen → RowAt w a' ys k)) :
    Calls Try.prog 3 #[.slice a len cap, .slice a' klen kcap] w (True_ w) := by
  go_enter Try.func3, Try.ntmps3
  go_wp2_with (fail)
  refine (new_ii _).mono ?_
  rintro e w1 ⟨rfl, e1⟩
  have B0 : Both w w.heap.size [] [] 0 none 0 w1 := e1 ▸ both_new w
  clear e1
  go_wp2_with (fail)
  go_loopw [6, 23] (fun l i wr => ∃ (k : Nat) (kv : List (Int × Int)) (la : Option Addr) (lc : Nat), k ≤ len ∧ k ≤ 60 ∧ i = .int .i64 k ∧ l = .slice la kv.length lc ∧ Both w w.heap.size kv kv k la lc wr) (fun _ i _ => len - (intOf i).toNat)
  case atStart => exact ⟨0, [], none, 0, Nat.zero_le _, by omega, rfl, rfl, B0⟩
  case round =>
    clear B0
    obtain ⟨k, kv, la, lc, hk, hk6, rfl, rfl, B⟩ := hrel
    by_cases hlt : k < len
    · obtain ⟨bk, off, rfl, hc0, hb, hn0, hn1⟩ := HR.out k hlt
      have hc := (B.bel.cell (p := ⟨bk, off + k, none⟩) hb).trans hc0
      clear hc0
      generalize zs.getD k 0 = n at hc hn0 hn1
      by_cases h60 : k < 60
      · have HB := Lib.hid B
        clear B
        go_upto_if 33 with (fail)
        go_cut [9] (fun v wx => (∃ x : Int, v = .int .i64 x) ∧ wr = wx)
        case first =>
          by_cases hkl : 0 < klen
          · go_wp2_with (fail)
            refine (within_any n klen _ hkl hklen hn0 hn1).mono ?_
            rintro e w' ⟨r, hr, rfl, rfl⟩
            obtain ⟨bk', off', rfl, hd0, hb', hx0, hx1⟩ := HR'.out r hr
            have hd := (HB.out.bel.cell (p := ⟨bk', off' + r, none⟩) hb').trans hd0
            clear hd0
            generalize ys.getD r 0 = x at hd hx0 hx1
            go_wp2_with (fail)
            go_meet
            exact ⟨⟨x, rfl⟩, rfl⟩
          · go_wp2_with (fail)
            go_meet
            exact ⟨⟨n, rfl⟩, rfl⟩
        case rest =>
          obtain ⟨⟨x, rfl⟩, rfl⟩ := hcut
          go_wp2_with (fail)
          have SP := Lib.hid (spot_at HB.out.up x)
          have hle := HB.out.row.le
          have F := find_any la lc kv x _ HB.out.row HB.out.up
          have D := both_drop x HB.out (by omega)
          have P := both_put x (k + 1) HB.out (by omega)
          generalize hasV intLt (keysOf kv) (valsOf kv) x 0 = o at *
          generalize has (keysOf kv) x = h at *
          generalize spot intLt (keysOf kv) x = i at *
          have hik := SP.out.le
          refine F.mono ?_
          clear F
          rintro e w' ⟨rfl, rfl⟩
          go_upto_region 13 with (fail)
          go_cut [11] (fun v wx => v = .bool h ∧ wr = wx)
          case first =>
            cases h with
            | true =>
              obtain ⟨hi, hk1, -⟩ := SP.out.yes rfl
              obtain ⟨g, rfl, l0, l1, lf⟩ := HB.out.row.there hi
              rw [hk1] at l0
              clear hk1
              go_wp2_with (fail)
              go_meet
              exact ⟨rfl, rfl⟩
            | false =>
              by_cases hi : i < kv.length
              · have hne := SP.out.no rfl hi
                obtain ⟨g, rfl, l0, l1, lf⟩ := HB.out.row.there hi
                generalize kv[i].1 = x' at l0 hne
                have hnb : (x' == x) = false := by simpa using hne
                go_wp2_with (fail)
                go_meet
                exact ⟨rfl, rfl⟩
              · go_wp2_with (fail)
                go_meet
                exact ⟨rfl, rfl⟩
          case rest =>
            obtain ⟨rfl, rfl⟩ := hcut
            cases h with
            | true =>
              obtain ⟨hi, hk1, ho⟩ := SP.out.yes rfl
              obtain ⟨g, rfl, l0, l1, lf⟩ := HB.out.row.there hi
              rw [← ho] at l1
              have HO := Lib.hid ho
              have HK1 := Lib.hid hk1
              clear ho hk1 l0
              have lf1 := lf (i * 2 + 1)
              clear lf
              cases h3 : (n.tmod 3 == 0) with
              | true =>
                go_wp2_with (fail)
                refine D.mono ?_
                rintro e w2 ⟨rfl, B2⟩
                have hkl := HB.out.len
                have HD := Lib.hid (SP.out.d1 rfl)
                clear D P SP HB
                go_wp2_with (fail)
                have hil : i ≤ lc := by omega
                have hi1 : i + 1 ≤ kv.length := by omega
                have hi2 : (i : Int) + 1 ≤ (kv.length : Int) := by omega
                have hw1 : IntKind.i64.wrap ((i : Int) + 1) = (i : Int) + 1 := IntWalk.i64_in _ (by omega)
                have hw2 : (0 : Int) ≤ (i : Int) + 1 := by omega
                have hw3 : ((i : Int) + 1).toNat = i + 1 := by omega
                by_cases hci : lc = i + 1
                · subst hci
                  have hA1 : (i : Int) ≤ (i : Int) + 1 := by omega
                  obtain ⟨a1, c1, w3, a3, c3, w4, r1, r2, B4⟩ := l_drop B2.drew hi (by omega) 0 0 (.inl (by omega))
                  rw [show kv.length - (i + 1) = 0 by omega] at r2
                  rw [HD.out] at B4
                  have HLP : Hid ((kv.take i ++ kv.drop (i + 1)).length = kv.length - 1) := Lib.hid (by simp; omega)
                  clear B2
                  go_region_law (first
                    | (refine step_append_run (o := ⟨some 84, _, _, _, _, _⟩) rfl _ _ 25 25 rfl _ _ (by simp [Act.eval]) (by simp [Act.eval, Act.put]) r1 ?_)
                    | (refine step_append_run (o := ⟨some 89, _, _, _, _, _⟩) rfl _ _ 25 25 rfl _ _ (by simp [Act.eval]) (by simp [Act.eval]) r2 ?_))
                  all_goals
                    go_wp2
                    go_roundw
                    case rel => exact ⟨k + 1, _, a3, c3, by omega, by omega, by go_num, by rw [HLP.out], B4⟩
                    case measure => simp [intOf]; omega
                · obtain ⟨a1, c1, w3, a3, c3, w4, r1, r2, B4⟩ := l_drop B2.drew hi (by omega) ((i + 1) * 2) (lc - (i + 1)) (.inr rfl)
                  rw [HD.out] at B4
                  have HLP : Hid ((kv.take i ++ kv.drop (i + 1)).length = kv.length - 1) := Lib.hid (by simp; omega)
                  clear B2
                  go_region_law (first
                    | (refine step_append_run (o := ⟨some 84, _, _, _, _, _⟩) rfl _ _ 25 25 rfl _ _ (by simp [Act.eval]) (by simp [Act.eval, Act.put]) r1 ?_)
                    | (refine step_append_run (o := ⟨some 89, _, _, _, _, _⟩) rfl _ _ 25 25 rfl _ _ (by simp [Act.eval]) (by simp [Act.eval]) r2 ?_))
                  all_goals
                    go_wp2
                    go_roundw
                    case rel => exact ⟨k + 1, _, a3, c3, by omega, by omega, by go_num, by rw [HLP.out], B4⟩
                    case measure => simp [intOf]; omega
              | false =>
                go_wp2_with (fail)
                refine P.mono ?_
                rintro e w2 ⟨rfl, B2⟩
                obtain ⟨g', e', l0', l1', lf'⟩ := B2.row.there hi
                injection e' with e'; injection e' with e'; subst e'
                have lf1' := lf' (i * 2 + 1)
                clear lf' l0'
                have S2 := B2.row.set hi (k + 1)
                rw [HK1.out] at S2
                have B3 : Both w w.heap.size (putP kv x (k + 1)) (kv.set i (x, (k : Int) + 1)) (k + 1) (some ⟨g, 0, none⟩) lc (w2.setCell ⟨g, i * 2 + 1, none⟩ (.int .i64 (k + 1))) :=
                  B2.rowed S2 ((Kept.refl (fun h => some (⟨g, 0, none⟩ : Addr) = some ⟨h, 0, none⟩) w2).setCell (p := ⟨g, i * 2 + 1, none⟩) (fun _ => rfl) _) (fun _ e => .inl e)
                rw [SP.out.p1 rfl] at B3
                have hls : (kv.set i (x, (k : Int) + 1)).length = kv.length := by rw [List.length_set]
                have HLS := Lib.hid hls
                clear hls S2 B2 D P SP HB
                go_wp2
                go_roundw
                case rel => exact ⟨k + 1, _, _, lc, by omega, by omega, by go_num, by rw [HLS.out], B3⟩
                case measure => simp [intOf]; omega
            | false =>
              have ho := SP.out.old rfl
              subst ho
              cases h3 : (n.tmod 3 == 0) with
              | true =>
                go_wp2_with (fail)
                refine D.mono ?_
                rintro e w2 ⟨rfl, B2⟩
                rw [SP.out.d0 rfl] at B2
                clear D P SP HB
                go_wp2
                go_roundw
                case rel => exact ⟨k + 1, kv, la, lc, by omega, by omega, by go_num, rfl, B2⟩
                case measure => simp [intOf]; omega
              | false =>
                go_wp2_with (fail)
                refine P.mono ?_
                rintro e w2 ⟨rfl, B2⟩
                have hkl := HB.out.len
                have HP := Lib.hid (SP.out.p0 rfl (k + 1))
                clear D P SP HB
                rcases B2.row.form with e' | ⟨g, e'⟩
                · subst e'
                  obtain ⟨rfl, rfl⟩ : lc = 0 ∧ kv = [] := by
                    rcases B2.row with ⟨_, h1, h2⟩ | ⟨g, _, e, _⟩
                    · exact ⟨h1, h2⟩
                    · cases e
                  obtain rfl : i = 0 := by simpa using hik
                  obtain ⟨ra, rc, w3, a2, c2, w4, a3, c3, w5, r1, r2, r3, B5⟩ := l_put B2 hik (by omega) x (k + 1) none 0 (fun _ => ⟨rfl, rfl⟩) (fun ad e => nomatch e)
                  rw [HP.out] at B5
                  clear B2
                  go_wp2_with (first
                    | (at_builtin; refine Lib.wpList_append_run (o := ⟨some 116, _, _, _, _, _⟩) _ rfl _ _ _ _ rfl _ _ rfl rfl _ _ r1 ?_)
                    | (at_builtin; refine Lib.wpList_append_run (o := ⟨some 125, _, _, _, _, _⟩) _ rfl _ _ _ _ rfl _ _ rfl rfl _ _ r2 ?_)
                    | (at_builtin; refine Lib.wpList_append_run (o := ⟨some 127, _, _, _, _, _⟩) _ rfl _ _ _ _ rfl _ _ rfl rfl _ _ r3 ?_))
                  go_roundw
                  case rel => exact ⟨k + 1, _, a3, c3, by omega, by omega, by go_num, rfl, B5⟩
                  case measure => simp [intOf]; omega
                · subst e'
                  by_cases hci : lc = i
                  · obtain rfl : i = kv.length := by omega
                    subst hci
                    obtain ⟨ra, rc, w3, a2, c2, w4, a3, c3, w5, r1, r2, r3, B5⟩ := l_put B2 hik (by omega) x (k + 1) (some ⟨g, 0, none⟩) 0 (fun e => nomatch e) (fun ad e j u hj => by rw [List.drop_of_length_le (by omega)] at hj; simp [flat] at hj)
                    rw [HP.out] at B5
                    rw [Nat.sub_self] at r1 r3
                    have HLP : Hid ((kv.take kv.length ++ (x, (k : Int) + 1) :: kv.drop kv.length).length = kv.length + 1) := Lib.hid (by simp)
                    clear B2
                    go_wp2_with (first
                      | (at_builtin; refine Lib.wpList_append_run (o := ⟨some 116, _, _, _, _, _⟩) _ rfl _ _ _ _ rfl _ _ rfl rfl _ _ r1 ?_)
                      | (at_builtin; refine Lib.wpList_append_run (o := ⟨some 125, _, _, _, _, _⟩) _ rfl _ _ _ _ rfl _ _ rfl rfl _ _ r2 ?_)
                      | (at_builtin; refine Lib.wpList_append_run (o := ⟨some 127, _, _, _, _, _⟩) _ rfl _ _ _ _ rfl _ _ rfl rfl _ _ r3 ?_))
                    go_roundw
                    case rel => exact ⟨k + 1, _, a3, c3, by omega, by omega, by go_num, by rw [HLP.out], B5⟩
                    case measure => simp [intOf]; omega
                  · obtain ⟨ra, rc, w3, a2, c2, w4, a3, c3, w5, r1, r2, r3, B5⟩ := l_put B2 hik (by omega) x (k + 1) (some ⟨g, i * 2, none⟩) (lc - i) (fun e => nomatch e) (fun ad e j u hj => by injection e with e; subst e; rw [Addr.add_lit]; exact B2.row.cells hik j u hj)
                    rw [HP.out] at B5
                    have HLP : Hid ((kv.take i ++ (x, (k : Int) + 1) :: kv.drop i).length = kv.length + 1) := Lib.hid (by simp; omega)
                    have hil : i ≤ lc := by omega
                    clear B2
                    go_wp2_with (first
                      | (at_builtin; refine Lib.wpList_append_run (o := ⟨some 116, _, _, _, _, _⟩) _ rfl _ _ _ _ rfl _ _ rfl rfl _ _ r1 ?_)
                      | (at_builtin; refine Lib.wpList_append_run (o := ⟨some 125, _, _, _, _, _⟩) _ rfl _ _ _ _ rfl _ _ rfl rfl _ _ r2 ?_)
                      | (at_builtin; refine Lib.wpList_append_run (o := ⟨some 127, _, _, _, _, _⟩) _ rfl _ _ _ _ rfl _ _ rfl rfl _ _ r3 ?_))
                    go_roundw
                    case rel => exact ⟨k + 1, _, a3, c3, by omega, by omega, by go_num, by rw [HLP.out], B5⟩
                    case measure => simp [intOf]; omega
      · have S := shows_any _ _ kv la lc _ B.tab B.up (by have := B.len; omega) B.row
        have bel := B.bel
        clear B
        go_wp2_with (fail)
        refine S.mono ?_
        rintro e w2 ⟨rfl, b2⟩
        go_wp2_with (fail)
        refine (wakes_any _).mono ?_
        rintro e w3 ⟨rfl, b3⟩
        go_wp2
        go_ret
        exact ⟨rfl, (bel.trans (b2.mono bel.size)).trans (b3.mono (Nat.le_trans bel.size b2.size))⟩
    · have S := shows_any _ _ kv la lc _ B.tab B.up (by have := B.len; omega) B.row
      have bel := B.bel
      clear B
      go_wp2_with (fail)
      refine S.mono ?_
      rintro e w2 ⟨rfl, b2⟩
      go_wp2_with (fail)
      refine (wakes_any _).mono ?_
      rintro e w3 ⟨rfl, b3⟩
      go_wp2
      go_ret
      exact ⟨rfl, (bel.trans (b2.mono bel.size)).trans (b3.mono (Nat.le_trans bel.size b2.size))⟩
end Go.Proofs.Ytkfjnojpgffchaa

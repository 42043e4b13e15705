/- Contracts of slices.Delete of one place, at []int, and of Drop of a table of ints. -/
import Derived.Test.YtkfjnojpgffchaaS
namespace Go.Proofs.Ytkfjnojpgffchaa
open Go.ChangeShapes Go.WideShapes Go.ChangeAt Go.RowKit

theorem del_int (a : Option Addr) (c : Nat) (xs : List Int) (i : Nat) (w : World) (R : Row w 3 a c (ints xs)) (hi : i < xs.length) :
    Calls Try.prog 35 #[.slice a xs.length c, .int .i64 i, .int .i64 (i + 1)] w fun e w' =>
      e = .returned (.slice a (xs.length - 1) c) ∧ Row w' 3 a c (ints (xs.take i ++ xs.drop (i + 1))) ∧ Kept (fun g => a = some ⟨g, 0, none⟩) w w' := by
  rcases R with ⟨_, _, e⟩ | ⟨g, sp, rfl, hc, hm, hl⟩
  · obtain rfl : xs = [] := List.map_eq_nil_iff.1 e
    simp at hi
  · rw [ints_len] at hc
    refine (Any.slices_Delete_int_cells Try.laysNm223 g 0 xs.length c i (i + 1) xs w (Nat.le_refl _) (by omega) hm (by omega) (by omega) ?_ (fun j _ => hl.frozen _)).mono ?_
    · intro j hj
      rw [Nat.zero_add, hl.cell, List.getElem?_append_left (by rw [ints_len]; exact hj)]
      simp [ints, hj]
    · rintro e w' ⟨rfl, q, rfl⟩
      rw [List.take_length, show i + 1 - i = 1 by omega]
      have hlen : (xs.take i ++ xs.drop (i + 1) ++ List.replicate 1 0).length = xs.length := by simp; omega
      have l2 := Lies.setCells ((xs.take i ++ xs.drop (i + 1) ++ List.replicate 1 0).map (Value.int .i64)) 0 _ _ (hl.drewN q) (by rw [List.length_map, hlen]; simp [ints_len])
      refine ⟨rfl, .inr ⟨g, .int .i64 0 :: sp, rfl, ?_, hm, l2.to ?_⟩, ?_⟩
      · rw [ints_len, hc]; simp; omega
      · rw [List.length_map, hlen, Nat.zero_add, List.take_zero, List.nil_append]
        rw [show (ints xs ++ sp).drop xs.length = sp by rw [← ints_len]; exact List.drop_left]
        simp [ints]
      · exact (((Kept.refl (fun k => k = g) w).drewN q).trans (setCells_kept g _ 0 _) (fun _ _ h => h)).mono (fun k _ e => by subst e; rfl)

/-- The keys, or the values, behind a Drop of k. -/
def dropL {V : Type} (ks : List Int) (vs : List V) (k : Int) : List V := if has ks k then vs.take (spot intLt ks k) ++ vs.drop (spot intLt ks k + 1) else vs

/-- What a Drop of k comes to. -/
def Drops (X : Nat → Prop) (b : Nat) (ks vs : List Int) (k : Int) (w : World) (e : Ending) (w' : World) : Prop :=
  e = .returned (.tuple #[.int .i64 (hasV intLt ks vs k 0), .bool (has ks k)]) ∧ Tab 60 3 3 w' (fun g => X g ∨ w.heap.size ≤ g) b (ints (dropL ks ks k)) (ints (dropL ks vs k)) ∧ Kept X w w'

theorem drop_not (X : Nat → Prop) (b : Nat) (ks vs : List Int) (k : Int) (w : World) (h : Tab 60 3 3 w X b (ints ks) (ints vs)) (hb : ks.length < 4611686018427387904) (hu : Up intLt ks) (hh : has ks k = false) :
    Calls Try.prog 11 #[.pointer (some ⟨b, 0, none⟩), .int .i64 k] w (Drops X b ks vs k w) := by
  have S := place_ii' X b ks (ints vs) k w h hb hu
  have D : ∀ q, Drops X b ks vs k w (.returned (.tuple #[.int .i64 0, .bool false])) (w.drewN q) := fun q => by
    refine ⟨by rw [hasV_no hh, hh], ?_, (Kept.refl _ _).drewN q⟩
    unfold dropL
    rw [hh]
    exact (h.drewN q).mono (fun g _ h => .inl h)
  rw [hh] at S
  clear h
  generalize spot intLt ks k = i at *
  go_enter Try.func11, Try.ntmps11
  go_wp2_with (fail)
  refine S.mono ?_
  rintro e w' ⟨rfl, q, rfl⟩
  go_wp2
  refine bodyPost_ret (v := .tuple #[.int .i64 0, .bool false]) (by simp [results, Try.results11, go_sem]) rfl ?_
  exact D q

theorem del_len {xs : List Int} {i : Nat} (hi : i < xs.length) : (ints (xs.take i ++ xs.drop (i + 1))).length = xs.length - 1 := by
  rw [ints_len]; simp; omega

set_option maxHeartbeats 1000000 in
theorem drop_has (X : Nat → Prop) (b : Nat) (ks vs : List Int) (k : Int) (w : World) (h : Tab 60 3 3 w X b (ints ks) (ints vs)) (hb : ks.length < 4611686018427387904) (hu : Up intLt ks) (hl : ks.length = vs.length) (hh : has ks k = true) :
    Calls Try.prog 11 #[.pointer (some ⟨b, 0, none⟩), .int .i64 k] w (Drops X b ks vs k w) := by
  have S := place_ii' X b ks (ints vs) k w h hb hu
  have hi : spot intLt ks k < ks.length := spot_lt intOrder hu hh
  have hiv : spot intLt ks k < vs.length := by omega
  have HE := Lib.hid (hasV_yes (lt := intLt) (vs := vs) (z := 0) hh rfl hiv)
  rw [hh] at S
  obtain ⟨ka, kc, va, vc, p⟩ := h
  obtain ⟨vg, eva, cv⟩ := p.rv.int hiv
  have c0 : w.cell? ⟨b, 0, none⟩ = some (.slice ka ks.length kc) := by rw [← ints_len]; exact p.lb.cell 0
  have c1 : w.cell? ⟨b, 1, none⟩ = some (.slice va vs.length vc) := by have := p.lb.cell 1; rw [ints_len vs] at this; exact this
  have HL := Lib.hid hl
  have HD : Hid (dropL ks ks k = ks.take (spot intLt ks k) ++ ks.drop (spot intLt ks k + 1) ∧ dropL ks vs k = vs.take (spot intLt ks k) ++ vs.drop (spot intLt ks k + 1)) := Lib.hid (by unfold dropL; rw [hh]; exact ⟨rfl, rfl⟩)
  generalize spot intLt ks k = i at *
  subst eva
  clear hl
  go_enter Try.func11, Try.ntmps11
  go_wp2_with (fail)
  refine S.mono ?_
  rintro e w' ⟨rfl, q, rfl⟩
  go_wp2_with (fail)
  have p1 : Parts 60 3 3 (w.drewN q) X b ka kc (some ⟨vg, 0, none⟩) vc (ints ks) (ints vs) := p.all ((Kept.refl _ w).drewN q)
  have k1 : Kept X w (w.drewN q) := (Kept.refl X w).drewN q
  refine (del_int ka kc ks i _ p1.rk hi).mono ?_
  rintro e w2 ⟨rfl, r2, k2⟩
  have p2 := p1.keys r2 k2 (fun g e => .inl e) (n := ks.length - 1) (del_len hi).symm
  have b0 := (p1.lb_keys k2).cell 0
  have b1 : w2.cell? ⟨b, 1, none⟩ = some (.slice (some ⟨vg, 0, none⟩) vs.length vc) := by have := (p1.lb_keys k2).cell 1; rw [ints_len vs] at this; exact this
  have g0 : w2.frozen? ⟨b, 0, none⟩ = false := (p1.lb_keys k2).frozen 0
  have k2' : Kept X w w2 := k1.trans k2 (fun g _ e => (p1.hk g e).1)
  have hbb := p1.hb
  clear c0 c1 cv k1 k2 r2 p1 p S
  go_wp2_with (fail)
  have k3 : Kept X w (w2.setCell ⟨b, 0, none⟩ (.slice ka (ks.length - 1) kc)) := k2'.setCell (fun _ => hbb) _
  have I := del_int _ vc vs i _ p2.rv hiv
  refine I.mono ?_
  clear I b0 b1 g0 k2'
  generalize w2.setCell ⟨b, 0, none⟩ (.slice ka (ks.length - 1) kc) = wb at *
  rintro e w4 ⟨rfl, r4, k4⟩
  have p4 := p2.vals r4 k4 (fun g e => .inl e) (n := vs.length - 1) (del_len hiv).symm
  have b1 := (p2.lb_vals k4).cell 1
  have g1 : w4.frozen? ⟨b, 1, none⟩ = false := (p2.lb_vals k4).frozen 1
  have k5 : Kept X w w4 := k3.trans k4 (fun g hg e => by
    rcases (p2.hv g e).1 with h | h
    · exact h
    · exact absurd hg (by simpa [World.drewN] using h))
  have hsz := k3.size
  clear k4 r4 p2 k3
  go_wp2
  refine bodyPost_ret (v := .tuple #[.int .i64 vs[i], .bool true]) (by simp [results, Try.results11, go_sem]) rfl ?_
  refine ⟨by rw [HE.out, hh], ?_, k5.setCell (fun _ => hbb) _⟩
  rw [HD.out.1, HD.out.2]
  exact ⟨_, _, _, _, p4.mono (fun g hg h => by
    rcases h with (h | h) | h
    · exact .inl h
    · exact .inr (by simpa [World.drewN] using h)
    · exact .inr (by omega))⟩

theorem drop_ii (X : Nat → Prop) (b : Nat) (ks vs : List Int) (k : Int) (w : World) (h : Tab 60 3 3 w X b (ints ks) (ints vs)) (hb : ks.length < 4611686018427387904) (hu : Up intLt ks) (hl : ks.length = vs.length) :
    Calls Try.prog 11 #[.pointer (some ⟨b, 0, none⟩), .int .i64 k] w (Drops X b ks vs k w) := by
  cases hh : has ks k with
  | true => exact drop_has X b ks vs k w h hb hu hl hh
  | false => exact drop_not X b ks vs k w h hb hu hh

/-- A number from 0 to n - 1. -/
def Ranges (n : Nat) (w : World) (e : Ending) (w' : World) : Prop := ∃ r : Nat, r < n ∧ e = .returned (.int .i64 r) ∧ w = w'

theorem within_any (v : Int) (n : Nat) (w : World) (hn : 0 < n) (hm : n ≤ 9223372036854775807) (_h0 : -9223372036854775808 ≤ v) (_h1 : v ≤ 9223372036854775807) :
    Calls Try.prog 9 #[.int .i64 v, .int .i64 n] w (Ranges n w) := by
  have hnz : ¬ (n : Int) = 0 := by omega
  have hn1 : ¬ (n : Int) < 1 := by omega
  have hlo : -(n : Int) < v.tmod n := by have := Int.lt_tmod_of_pos v (show (0 : Int) < n by omega); omega
  have hhi : v.tmod n < (n : Int) := Int.tmod_lt_of_pos v (by omega)
  go_enter Try.func9, Try.ntmps9
  go_wp2
  · go_ret
    exact ⟨(v.tmod n + n).toNat, by omega, by rw [Int.toNat_of_nonneg (by omega)]; rfl, rfl⟩
  · go_ret
    exact ⟨(v.tmod n).toNat, by omega, by rw [Int.toNat_of_nonneg (by omega)]; rfl, rfl⟩
end Go.Proofs.Ytkfjnojpgffchaa

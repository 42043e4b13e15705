/- The walk of the law TableOwn of chapter 2. -/
import Derived.Test.YtkfjnojpgffchaaG
namespace Go.Proofs.Ytkfjnojpgffchaa
open Go.ChangeShapes Go.WideShapes Go.ChangeAt Go.RowKit

/-- A table of ints, at block b, made since w: rising keys, at most m. -/
def Made (w : World) (b : Nat) (ks : List Int) (vs : List Int) (m : Nat) (wr : World) : Prop :=
  Tab 60 3 3 wr (fun g => w.heap.size ≤ g) b (ints ks) (ints vs) ∧ Up intLt ks ∧ ks.length = vs.length ∧ ks.length ≤ m ∧ Below w.heap.size w wr

theorem putV_ints (ks : List Int) (vs : List Int) (k v : Int) : putV intLt ks (ints vs) k (.int .i64 v) = ints (putV intLt ks vs k v) := by
  unfold putV ints
  split <;> simp [List.map_take, List.map_drop]

theorem made_new (w : World) : Made w w.heap.size [] [] 0 (w.alloc (.cells #[.slice none 0 0, .slice none 0 0] 60)) :=
  ⟨(tab_new 60 3 3 w).mono (fun g _ e => by rw [e]; exact Nat.le_refl _), up_nil, rfl, Nat.le_refl _, (Below.refl _ _).alloc (Nat.le_refl _) _⟩

/-- What a Put into such a table comes to. -/
theorem made_put (w : World) (b : Nat) (ks vs : List Int) (m : Nat) (k v : Int) (wr : World) (h : Made w b ks vs m wr) (hm : (m + 1) * 8 ≤ 140737488355328) :
    Calls Try.prog 12 #[.pointer (some ⟨b, 0, none⟩), .int .i64 k, .int .i64 v] wr fun e w' =>
      e = .returned (.tuple #[hasV intLt ks (ints vs) k (.int .i64 0), .bool (has ks k)]) ∧ Made w b (putK intLt ks k) (putV intLt ks vs k v) (m + 1) w' := by
  obtain ⟨t, u, l, hl, bel⟩ := h
  refine (put_ii _ b ks (ints vs) k v wr t (by omega) u (by rw [ints_len]; exact l) (ints_one _)).mono ?_
  rintro e w' ⟨rfl, t', kp⟩
  refine ⟨rfl, ?_, putK_up intOrder u k, putV_len ks vs k v l, by have := putK_len (lt := intLt) ks k; omega, bel.trans (kp.below (fun _ h => h) bel.size)⟩
  rw [putV_ints] at t'
  exact t'.mono (fun g _ h => by
    rcases h with h | h
    · exact h
    · have := bel.size; omega)

theorem Row.set {w : World} {g c : Nat} {zs : List Int} (h : Row w 3 (some ⟨g, 0, none⟩) c (ints zs)) {j : Nat} (hj : j < zs.length) (z : Int) : Row (w.setCell ⟨g, j, none⟩ (.int .i64 z)) 3 (some ⟨g, 0, none⟩) c (ints (zs.set j z)) := by
  rcases h with ⟨e, _⟩ | ⟨g', sp, e, hc, hm, l⟩
  · cases e
  · injection e with e; injection e with e; subst e
    refine .inr ⟨g, sp, rfl, by rw [ints_len, List.length_set, ← ints_len]; exact hc, hm, (l.set j _).to ?_⟩
    rw [List.set_append_left _ _ (by rw [ints_len]; exact hj)]
    simp [ints, List.map_set]
theorem Row.frozen {w : World} {t : TypeId} {g c : Nat} {xs : List Value} (h : Row w t (some ⟨g, 0, none⟩) c xs) (j : Nat) : w.frozen? ⟨g, j, none⟩ = false := by
  rcases h with ⟨e, _⟩ | ⟨g', sp, e, hc, hm, l⟩
  · cases e
  · injection e with e; injection e with e; subst e
    exact l.frozen j
theorem Row.below {w w' : World} {t : TypeId} {a : Option Addr} {c : Nat} {xs : List Value} (h : Row w t a c xs) (k : Below w.heap.size w w') : Row w' t a c xs := h.kept (X := fun _ => False) (Kept.of_below k) (fun _ _ h => h)

theorem below_drewN (B : Nat) (w : World) (q : Nat) : Below B w (w.drewN q) := ⟨rfl, rfl, rfl, Nat.le_refl _, fun _ _ => rfl⟩

/-- Behind Keys and Copy: the table, the row l that may have been turned, the copy of what it was. -/
structure Held (w : World) (b : Nat) (ks vs zs : List Int) (la wa : Option Addr) (lc wc : Nat) (wr : World) : Prop where
  tab : Tab 60 3 3 wr (fun g => w.heap.size ≤ g ∧ la ≠ some ⟨g, 0, none⟩) b (ints ks) (ints vs)
  len : zs.length = ks.length
  row : Row wr 3 la lc (ints zs)
  was : Row wr 3 wa wc (ints ks)
  new : ∀ g, la = some ⟨g, 0, none⟩ → w.heap.size ≤ g ∧ wa ≠ some ⟨g, 0, none⟩
  bel : Below w.heap.size w wr

theorem Held.set {w wr : World} {b : Nat} {ks vs zs : List Int} {g : Nat} {wa : Option Addr} {lc wc : Nat} (h : Held w b ks vs zs (some ⟨g, 0, none⟩) wa lc wc wr) {j : Nat} (hj : j < zs.length) (z : Int) :
    Held w b ks vs (zs.set j z) (some ⟨g, 0, none⟩) wa lc wc (wr.setCell ⟨g, j, none⟩ (.int .i64 z)) := by
  have s : Kept (fun k => k = g) wr (wr.setCell ⟨g, j, none⟩ (.int .i64 z)) := (Kept.refl (fun k => k = g) wr).setCell (p := ⟨g, j, none⟩) (fun _ => rfl) _
  exact ⟨h.tab.kept s (fun k hk e => hk.2 (by rw [e])), by rw [List.length_set]; exact h.len, h.row.set hj z, h.was.kept s (fun k e e' => (h.new g rfl).2 (by rw [← e', e])), h.new,
    h.bel.setCell (h.new g rfl).1 _⟩

set_option maxHeartbeats 2000000 in
theorem own_walk (a : Option Addr) (len cap : Nat) (zs : List Int) (w : World) (hlen : len ≤ 9223372036854775807) (hsz : len * 8 ≤ 140737488355328) (HR : Hid (∀ k, k < len → RowAt w a zs k)) :
    Calls Try.prog 6 #[.slice a len cap] w (True_ w) := by
  go_enter Try.func6, Try.ntmps6
  go_wp2_with (fail)
  refine (new_ii _).mono ?_
  rintro e w1 ⟨rfl, e1⟩
  have M0 : Made w w.heap.size [] [] 0 w1 := e1 ▸ made_new w
  clear e1
  go_wp2_with (fail)
  go_loopw [14] (fun i wr => ∃ (k : Nat) (ks vs : List Int), k ≤ len ∧ i = .int .i64 k ∧ Made w w.heap.size ks vs k wr) (fun i _ => len - (intOf i).toNat)
  case atStart => exact ⟨0, [], [], Nat.zero_le _, rfl, M0⟩
  case round =>
    clear M0
    obtain ⟨k, ks, vs, hk, rfl, M⟩ := hrel
    by_cases hlt : k < len
    · obtain ⟨bk, off, rfl, hc0, hb, _, _⟩ := HR.out k hlt
      have hc := (M.2.2.2.2.cell (p := ⟨bk, off + k, none⟩) hb).trans hc0
      clear hc0
      generalize zs.getD k 0 = n at hc
      have P := made_put w _ ks vs k n 1 _ M (by omega)
      clear M
      go_wp2_with (fail)
      refine P.mono ?_
      clear P
      rintro e w2 ⟨rfl, M2⟩
      go_wp2
      go_roundw
      case rel => exact ⟨k + 1, _, _, by omega, by go_num, M2⟩
      case measure => simp [intOf]; omega
    · obtain ⟨t, -, -, hl, bel⟩ := M
      go_wp2_with (fail)
      refine (keys_ii _ _ ks (ints vs) _ t (by omega)).mono ?_
      rintro e w2 ⟨la, lc, rfl, r2, f2, b2⟩
      rw [ints_len]
      go_wp2_with (fail)
      refine (copy_int la lc ks w2 r2 (by omega)).mono ?_
      rintro e w3 ⟨wa, wc, rfl, r3, f3, b3⟩
      rw [ints_len]
      have H : Held w w.heap.size ks vs ks la wa lc wc w3 := by
        refine ⟨?_, rfl, r2.below b3, r3, fun g e => ⟨by have := f2 g e; have := bel.size; omega, fun e' => by have := f3 g e'; have := r2.lt e; omega⟩, ?_⟩
        · have t1 := t.mono (Y := fun g => w.heap.size ≤ g ∧ la ≠ some ⟨g, 0, none⟩) (fun g hg h => ⟨h, fun e => by have := f2 g e; omega⟩)
          exact (t1.kept (Y := fun _ => False) (Kept.of_below b2) (fun _ _ h => h)).kept (Y := fun _ => False) (Kept.of_below b3) (fun _ _ h => h)
        · exact (bel.trans (b2.mono bel.size)).trans (b3.mono (Nat.le_trans bel.size b2.size))
      clear t r2 f2 b2 r3 f3 b3 bel
      go_wp2_with (fail)
      go_loopw [28] (fun i wr => ∃ (j : Nat) (zs : List Int), j ≤ ks.length ∧ i = .int .i64 j ∧ Held w w.heap.size ks vs zs la wa lc wc wr) (fun i _ => ks.length - (intOf i).toNat)
      case atStart => exact ⟨0, ks, Nat.zero_le _, rfl, H⟩
      case round =>
        clear H
        obtain ⟨j, xs, hj, rfl, H⟩ := hrel
        by_cases hjl : j < ks.length
        · have hjx : j < xs.length := by rw [H.len]; exact hjl
          obtain ⟨g, rfl, hc⟩ := H.row.int hjx
          have fz := H.row.frozen j
          have S := fun z => H.set hjx z
          clear H
          generalize xs[j] = z at hc
          go_wp2
          go_roundw
          case rel => exact ⟨j + 1, _, by omega, by go_num, S _⟩
          case measure => simp [intOf]; omega
        · go_wp2_with (fail)
          refine (keys_ii _ _ ks (ints vs) _ H.tab (by omega)).mono ?_
          rintro e w5 ⟨na, nc, rfl, r5, f5, b5⟩
          rw [ints_len]
          go_wp2_with (fail)
          refine (same_yes na wa nc wc ks w5 r5 (H.was.below b5)).mono ?_
          rintro e w6 ⟨rfl, q, rfl⟩
          go_wp2_with (fail)
          refine (wakes_any _).mono ?_
          rintro e w7 ⟨rfl, b7⟩
          go_wp2
          go_ret
          have s5 : w.heap.size ≤ w5.heap.size := Nat.le_trans H.bel.size b5.size
          exact ⟨rfl, ((H.bel.trans (b5.mono H.bel.size)).trans (below_drewN _ _ q)).trans (b7.mono s5)⟩
end Go.Proofs.Ytkfjnojpgffchaa

/- Contracts of Put of a table, at int and int, and at int and string. -/
import Derived.Test.YtkfjnojpgffchaaD
import Derived.StillTailTactics
namespace Go.Proofs.Ytkfjnojpgffchaa
open Go.ChangeShapes Go.WideShapes Go.ChangeAt Go.RowKit

section
variable {K : Type} [DecidableEq K]
/-- What k has, or z. -/
def hasV {V : Type} (lt : K → K → Bool) (ks : List K) (vs : List V) (k : K) (z : V) : V := if has ks k then vs.getD (spot lt ks k) z else z

/-- What a Put of k, v comes to. -/
def Puts (lt : K → K → Bool) (enc : K → Value) (T tk tv : TypeId) (z : Value) (X : Nat → Prop) (b : Nat) (ks : List K) (vs : List Value) (k : K) (v : Value) (w : World) (e : Ending) (w' : World) : Prop :=
  e = .returned (.tuple #[hasV lt ks vs k z, .bool (has ks k)]) ∧ Tab T tk tv w' (fun g => X g ∨ w.heap.size ≤ g) b ((putK lt ks k).map enc) (putV lt ks vs k v) ∧ Kept X w w'

variable {lt : K → K → Bool} {enc : K → Value} {T tk tv : TypeId} {z : Value} {X : Nat → Prop} {b : Nat} {ka va : Option Addr} {kc vc : Nat} {ks : List K} {vs : List Value} {k : K} {v : Value} {w w2 : World}
theorem Puts.found {i vg : Nat} {sp : List Value} (hh : has ks k = true) (hi : spot lt ks k = i) (hlt : i < vs.length) (p : Parts T tk tv w2 X b ka kc (some ⟨vg, 0, none⟩) (vs.length + sp.length) (ks.map enc) vs)
    (l : Lies w2 vg tv (vs ++ sp)) (kw : Kept X w w2) (hm : vs.length + sp.length ≤ 9223372036854775807) :
    Puts lt enc T tk tv z X b ks vs k v w (.returned (.tuple #[vs[i], .bool true])) (w2.setCell ⟨vg, i, none⟩ v) := by
  have hvg := p.hv vg rfl
  have s : Kept (fun g => g = vg) w2 (w2.setCell ⟨vg, i, none⟩ v) := (Kept.refl (fun g => g = vg) w2).setCell (p := ⟨vg, i, none⟩) (fun _ => rfl) v
  refine ⟨?_, ⟨ka, kc, some ⟨vg, 0, none⟩, vs.length + sp.length, ?_⟩, kw.setCell (fun _ => hvg.1) _⟩
  · unfold hasV
    rw [hh, hi, if_pos rfl, List.getD_eq_getElem?_getD, List.getElem?_eq_getElem hlt]
    rfl
  · unfold putK putV
    rw [hh, hi, if_pos rfl, if_pos rfl]
    refine ⟨?_, p.rk.kept s (fun g e e' => p.apart g e (by rw [e'])), .inr ⟨vg, sp, rfl, by simp, hm, (l.set i v).to (by rw [List.set_append_left _ _ hlt])⟩, .inl p.hb, fun g e => ⟨.inl (p.hk g e).1, (p.hk g e).2⟩, fun g e => ⟨.inl (p.hv g e).1, (p.hv g e).2⟩, p.apart⟩
    rw [List.length_set]
    exact p.lb.kept s (fun e => hvg.2 e.symm)

theorem Puts.added {i : Nat} {w4 : World} (hh : has ks k = false) (hi : spot lt ks k = i) (t : Tab T tk tv w4 (fun g => X g ∨ w.heap.size ≤ g) b ((ks.map enc).take i ++ enc k :: (ks.map enc).drop i) (vs.take i ++ v :: vs.drop i)) (kw : Kept X w w4) :
    Puts lt enc T tk tv z X b ks vs k v w (.returned (.tuple #[z, .bool false])) w4 := by
  refine ⟨?_, ?_, kw⟩
  · unfold hasV
    rw [hh]
    rfl
  · unfold putK putV
    rw [hh, hi]
    simpa [List.map_take, List.map_drop] using t
end

set_option maxHeartbeats 1000000 in
theorem put_has_ii (X : Nat → Prop) (b : Nat) (ks : List Int) (vs : List Value) (k : Int) (v : Int) (w : World) (h : Tab 60 3 3 w X b (ints ks) vs) (hb : ks.length < 4611686018427387904) (hu : Up intLt ks)
    (hl : ks.length = vs.length) (hh : has ks k = true) :
    Calls Try.prog 12 #[.pointer (some ⟨b, 0, none⟩), .int .i64 k, .int .i64 v] w (Puts intLt (Value.int .i64) 60 3 3 (.int .i64 0) X b ks vs k (.int .i64 v) w) := by
  have hi := spot_lt intOrder hu hh
  obtain ⟨ka, kc, va, vc, p⟩ := h
  obtain ⟨vg, sp, rfl, rfl, hm, hlv⟩ : ∃ g sp, va = some ⟨g, 0, none⟩ ∧ vc = vs.length + sp.length ∧ vc ≤ 9223372036854775807 ∧ Lies w g 3 (vs ++ sp) := by
    rcases p.rv with ⟨_, _, e⟩ | h
    · exact absurd hi (by rw [hl, e]; simp)
    · exact h
  have c0 : w.cell? ⟨b, 0, none⟩ = some (.slice ka ks.length kc) := by rw [← ints_len]; exact p.lb.cell 0
  have hiv : spot intLt ks k < vs.length := by omega
  have S := search ka kc ks k w p.rk hb hu
  generalize hsp : spot intLt ks k = i at *
  have HS := Lib.hid hsp
  clear hsp hl
  go_enter Try.func12, Try.ntmps12
  go_wp2_with (fail)
  refine (isNo_int _ _).mono ?_
  rintro e w' ⟨rfl, rfl⟩
  go_wp2_with (fail)
  refine S.mono ?_
  rintro e w' ⟨rfl, q, rfl⟩
  clear S
  go_wp2_with (fail)
  refine wp_region_still_tail 15 (by kernel_rfl) (by kernel_rfl) ?_
  change wpStill _ _ (w.drewN q).drew (fun a' => wpList _ _ _ _ a' (w.drewN q).drew) _ _
  have L1 : Parts 60 3 3 (w.drewN q).drew X b ka kc (some ⟨vg, 0, none⟩) (vs.length + sp.length) (ints ks) vs := p.all ((Kept.refl _ w).drewN q).drew
  have L2 : Lies (w.drewN q).drew vg 3 (vs ++ sp) := hlv
  have L4 : Kept X w (w.drewN q).drew := ((Kept.refl X w).drewN q).drew
  clear c0 p hlv
  generalize (w.drewN q).drew = w2 at *
  have c1 : w2.cell? ⟨b, 1, none⟩ = some (.slice (some ⟨vg, 0, none⟩) vs.length (vs.length + sp.length)) := L1.lb.cell 1
  have cv : w2.cell? ⟨vg, i, none⟩ = some vs[i] := by
    rw [L2.cell, List.getElem?_append_left hiv, List.getElem?_eq_getElem hiv]
  have fv : w2.frozen? ⟨vg, i, none⟩ = false := L2.frozen _
  simp only [List.take_succ_cons, List.take_zero, List.drop_succ_cons, List.drop_zero]
  repeat still_step
  refine wpStill_nil ?_
  go_wp2
  refine bodyPost_ret (v := .tuple #[vs[i], .bool true]) (by simp [results, Try.results12, go_sem]) rfl ?_
  exact Puts.found hh HS.out hiv L1 L2 L4 hm

set_option maxHeartbeats 1000000 in
theorem put_not_ii (X : Nat → Prop) (b : Nat) (ks : List Int) (vs : List Value) (k : Int) (v : Int) (w : World) (h : Tab 60 3 3 w X b (ints ks) vs) (hb : (ks.length + 1) * 8 ≤ 140737488355328) (hu : Up intLt ks)
    (hl : ks.length = vs.length) (h1 : ∀ x ∈ vs, x.oneCell' = true) (hh : has ks k = false) :
    Calls Try.prog 12 #[.pointer (some ⟨b, 0, none⟩), .int .i64 k, .int .i64 v] w (Puts intLt (Value.int .i64) 60 3 3 (.int .i64 0) X b ks vs k (.int .i64 v) w) := by
  have hi := spot_le (lt := intLt) ks k
  obtain ⟨ka, kc, va, vc, p⟩ := h
  have c0 : w.cell? ⟨b, 0, none⟩ = some (.slice ka ks.length kc) := by rw [← ints_len]; exact p.lb.cell 0
  have S := search ka kc ks k w p.rk (by omega) hu
  generalize hsp : spot intLt ks k = i at *
  have HS := Lib.hid hsp
  have HL := Lib.hid hl
  have H1 := Lib.hid h1
  clear hsp hl h1
  go_enter Try.func12, Try.ntmps12
  go_wp2_with (fail)
  refine (isNo_int _ _).mono ?_
  rintro e w' ⟨rfl, rfl⟩
  go_wp2_with (fail)
  refine S.mono ?_
  rintro e w' ⟨rfl, q, rfl⟩
  clear S
  go_wp2_with (fail)
  have p1 : Parts 60 3 3 ((w.drewN q).alloc (.cells [.int .i64 k].toArray 3)) X b ka kc va vc (ints ks) vs := p.all (((Kept.refl _ w).drewN q).alloc _)
  have v1 : Lies ((w.drewN q).alloc (.cells [.int .i64 k].toArray 3)) w.heap.size 3 [.int .i64 k] := Lies.new _ _ _
  have n1 : ka ≠ some ⟨w.heap.size, 0, none⟩ := fun e => by have := p.rk.lt e; omega
  have k1 : Kept X w ((w.drewN q).alloc (.cells [.int .i64 k].toArray 3)) := ((Kept.refl X w).drewN q).alloc _
  have z1 : ((w.drewN q).alloc (.cells [.int .i64 k].toArray 3)).heap.size = w.heap.size + 1 := by simp
  have I := ins_int ka kc (ints ks) i (.int .i64 k) w.heap.size _ p1.rk (by rw [ints_len]; exact hi) v1 n1 (by rw [ints_len]; omega) (ints_one ks) rfl
  rw [ints_len] at I
  refine I.mono ?_
  clear I v1 n1 c0
  generalize (w.drewN q).alloc (.cells [.int .i64 k].toArray 3) = wa at *
  rintro e w2 ⟨ka', kc', rfl, r2, k2, f2⟩
  have m2 : (ints ks).length + 1 = ((ints ks).take i ++ .int .i64 k :: (ints ks).drop i).length := (mid_len (by rw [ints_len]; exact hi)).symm
  have p2 := p1.keys r2 k2 f2 (n := (ints ks).length + 1) m2
  rw [ints_len] at p2
  have b0 : w2.cell? ⟨b, 0, none⟩ = some (.slice ka (ints ks).length kc) := (p1.lb_keys k2).cell 0
  have b1 : w2.cell? ⟨b, 1, none⟩ = some (.slice va vs.length vc) := (p1.lb_keys k2).cell 1
  have g0 : w2.frozen? ⟨b, 0, none⟩ = false := (p1.lb_keys k2).frozen 0
  have k2' : Kept X w w2 := k1.trans k2 (fun g _ e => (p1.hk g e).1)
  have hkk := k2.size
  have hbb := p1.hb
  clear k2 f2 r2 p p1 m2 k1
  rw [ints_len]
  go_wp2_with (fail)
  have q2 : Parts 60 3 3 ((w2.setCell ⟨b, 0, none⟩ (.slice ka' (ks.length + 1) kc')).alloc (.cells [.int .i64 v].toArray 3)) _ b ka' kc' va vc _ vs := p2.all ((Kept.refl _ _).alloc _)
  have v2 : Lies ((w2.setCell ⟨b, 0, none⟩ (.slice ka' (ks.length + 1) kc')).alloc (.cells [.int .i64 v].toArray 3)) w2.heap.size 3 [.int .i64 v] := by
    have := Lies.new (w2.setCell ⟨b, 0, none⟩ (.slice ka' (ks.length + 1) kc')) 3 [.int .i64 v]
    simpa using this
  have n2 : va ≠ some ⟨w2.heap.size, 0, none⟩ := fun e => by have := p2.rv.lt e; simp at this
  have z2 : ((w2.setCell ⟨b, 0, none⟩ (.slice ka' (ks.length + 1) kc')).alloc (.cells [.int .i64 v].toArray 3)).heap.size = w2.heap.size + 1 := by simp
  have k3 : Kept X w ((w2.setCell ⟨b, 0, none⟩ (.slice ka' (ks.length + 1) kc')).alloc (.cells [.int .i64 v].toArray 3)) := (k2'.setCell (fun _ => hbb) _).alloc _
  have I := ins_int va vc vs i (.int .i64 v) w2.heap.size _ q2.rv (by have := HL.out; omega) v2 n2 (by have := HL.out; omega) H1.out rfl
  refine I.mono ?_
  clear I v2 n2 b0 b1 g0 p2
  generalize (w2.setCell ⟨b, 0, none⟩ (.slice ka' (ks.length + 1) kc')).alloc (.cells [.int .i64 v].toArray 3) = wb at *
  rintro e w4 ⟨va', vc', rfl, r4, k4, f4⟩
  have p4 := q2.vals r4 k4 f4 (n := vs.length + 1) (mid_len (by have := HL.out; omega)).symm
  have b1 := (q2.lb_vals k4).cell 1
  have g1 : w4.frozen? ⟨b, 1, none⟩ = false := (q2.lb_vals k4).frozen 1
  have k5 : Kept X w w4 := k3.trans k4 (fun g hg e => by
    rcases (q2.hv g e).1 with h | h
    · exact h
    · omega)
  clear k4 f4 r4 q2 k3 k2'
  go_wp2
  refine bodyPost_ret (v := .tuple #[.int .i64 0, .bool false]) (by simp [results, Try.results12, go_sem]) rfl ?_
  refine Puts.added hh HS.out ?_ (k5.setCell (fun _ => hbb) _)
  exact ⟨_, _, _, _, p4.mono (fun g hg h => by
    rcases h with (h | h) | h
    · exact .inl h
    · exact .inr (by omega)
    · exact .inr (by omega))⟩

theorem put_ii (X : Nat → Prop) (b : Nat) (ks : List Int) (vs : List Value) (k : Int) (v : Int) (w : World) (h : Tab 60 3 3 w X b (ints ks) vs) (hb : (ks.length + 1) * 8 ≤ 140737488355328) (hu : Up intLt ks)
    (hl : ks.length = vs.length) (h1 : ∀ x ∈ vs, x.oneCell' = true) :
    Calls Try.prog 12 #[.pointer (some ⟨b, 0, none⟩), .int .i64 k, .int .i64 v] w (Puts intLt (Value.int .i64) 60 3 3 (.int .i64 0) X b ks vs k (.int .i64 v) w) := by
  cases hh : has ks k with
  | true => exact put_has_ii X b ks vs k v w h (by omega) hu hl hh
  | false => exact put_not_ii X b ks vs k v w h hb hu hl h1 hh

set_option maxHeartbeats 1000000 in
theorem put_has_is (X : Nat → Prop) (b : Nat) (ks : List Int) (vs : List Value) (k : Int) (v : ByteArray) (w : World) (h : Tab 83 3 9 w X b (ints ks) vs) (hb : ks.length < 4611686018427387904) (hu : Up intLt ks)
    (hl : ks.length = vs.length) (hh : has ks k = true) :
    Calls Try.prog 41 #[.pointer (some ⟨b, 0, none⟩), .int .i64 k, .string v] w (Puts intLt (Value.int .i64) 83 3 9 (.string ⟨#[]⟩) X b ks vs k (.string v) w) := by
  have hi := spot_lt intOrder hu hh
  obtain ⟨ka, kc, va, vc, p⟩ := h
  obtain ⟨vg, sp, rfl, rfl, hm, hlv⟩ : ∃ g sp, va = some ⟨g, 0, none⟩ ∧ vc = vs.length + sp.length ∧ vc ≤ 9223372036854775807 ∧ Lies w g 9 (vs ++ sp) := by
    rcases p.rv with ⟨_, _, e⟩ | h
    · exact absurd hi (by rw [hl, e]; simp)
    · exact h
  have c0 : w.cell? ⟨b, 0, none⟩ = some (.slice ka ks.length kc) := by rw [← ints_len]; exact p.lb.cell 0
  have hiv : spot intLt ks k < vs.length := by omega
  have S := search ka kc ks k w p.rk hb hu
  generalize hsp : spot intLt ks k = i at *
  have HS := Lib.hid hsp
  clear hsp hl
  go_enter Try.func41, Try.ntmps41
  go_wp2_with (fail)
  refine (isNo_int _ _).mono ?_
  rintro e w' ⟨rfl, rfl⟩
  go_wp2_with (fail)
  refine S.mono ?_
  rintro e w' ⟨rfl, q, rfl⟩
  clear S
  go_wp2_with (fail)
  refine wp_region_still_tail 15 (by kernel_rfl) (by kernel_rfl) ?_
  change wpStill _ _ (w.drewN q).drew (fun a' => wpList _ _ _ _ a' (w.drewN q).drew) _ _
  have L1 : Parts 83 3 9 (w.drewN q).drew X b ka kc (some ⟨vg, 0, none⟩) (vs.length + sp.length) (ints ks) vs := p.all ((Kept.refl _ w).drewN q).drew
  have L2 : Lies (w.drewN q).drew vg 9 (vs ++ sp) := hlv
  have L4 : Kept X w (w.drewN q).drew := ((Kept.refl X w).drewN q).drew
  clear c0 p hlv
  generalize (w.drewN q).drew = w2 at *
  have c1 : w2.cell? ⟨b, 1, none⟩ = some (.slice (some ⟨vg, 0, none⟩) vs.length (vs.length + sp.length)) := L1.lb.cell 1
  have cv : w2.cell? ⟨vg, i, none⟩ = some vs[i] := by
    rw [L2.cell, List.getElem?_append_left hiv, List.getElem?_eq_getElem hiv]
  have fv : w2.frozen? ⟨vg, i, none⟩ = false := L2.frozen _
  simp only [List.take_succ_cons, List.take_zero, List.drop_succ_cons, List.drop_zero]
  repeat still_step
  refine wpStill_nil ?_
  go_wp2
  refine bodyPost_ret (v := .tuple #[vs[i], .bool true]) (by simp [results, Try.results41, go_sem]) rfl ?_
  exact Puts.found hh HS.out hiv L1 L2 L4 hm

set_option maxHeartbeats 1000000 in
theorem put_not_is (X : Nat → Prop) (b : Nat) (ks : List Int) (vs : List Value) (k : Int) (v : ByteArray) (w : World) (h : Tab 83 3 9 w X b (ints ks) vs) (hb : (ks.length + 1) * 16 ≤ 140737488355328) (hu : Up intLt ks)
    (hl : ks.length = vs.length) (h1 : ∀ x ∈ vs, x.oneCell' = true) (hh : has ks k = false) :
    Calls Try.prog 41 #[.pointer (some ⟨b, 0, none⟩), .int .i64 k, .string v] w (Puts intLt (Value.int .i64) 83 3 9 (.string ⟨#[]⟩) X b ks vs k (.string v) w) := by
  have hi := spot_le (lt := intLt) ks k
  obtain ⟨ka, kc, va, vc, p⟩ := h
  have c0 : w.cell? ⟨b, 0, none⟩ = some (.slice ka ks.length kc) := by rw [← ints_len]; exact p.lb.cell 0
  have S := search ka kc ks k w p.rk (by omega) hu
  generalize hsp : spot intLt ks k = i at *
  have HS := Lib.hid hsp
  have HL := Lib.hid hl
  have H1 := Lib.hid h1
  clear hsp hl h1
  go_enter Try.func41, Try.ntmps41
  go_wp2_with (fail)
  refine (isNo_int _ _).mono ?_
  rintro e w' ⟨rfl, rfl⟩
  go_wp2_with (fail)
  refine S.mono ?_
  rintro e w' ⟨rfl, q, rfl⟩
  clear S
  go_wp2_with (fail)
  have p1 : Parts 83 3 9 ((w.drewN q).alloc (.cells [.int .i64 k].toArray 3)) X b ka kc va vc (ints ks) vs := p.all (((Kept.refl _ w).drewN q).alloc _)
  have v1 : Lies ((w.drewN q).alloc (.cells [.int .i64 k].toArray 3)) w.heap.size 3 [.int .i64 k] := Lies.new _ _ _
  have n1 : ka ≠ some ⟨w.heap.size, 0, none⟩ := fun e => by have := p.rk.lt e; omega
  have k1 : Kept X w ((w.drewN q).alloc (.cells [.int .i64 k].toArray 3)) := ((Kept.refl X w).drewN q).alloc _
  have z1 : ((w.drewN q).alloc (.cells [.int .i64 k].toArray 3)).heap.size = w.heap.size + 1 := by simp
  have I := ins_int ka kc (ints ks) i (.int .i64 k) w.heap.size _ p1.rk (by rw [ints_len]; exact hi) v1 n1 (by rw [ints_len]; omega) (ints_one ks) rfl
  rw [ints_len] at I
  refine I.mono ?_
  clear I v1 n1 c0
  generalize (w.drewN q).alloc (.cells [.int .i64 k].toArray 3) = wa at *
  rintro e w2 ⟨ka', kc', rfl, r2, k2, f2⟩
  have m2 : (ints ks).length + 1 = ((ints ks).take i ++ .int .i64 k :: (ints ks).drop i).length := (mid_len (by rw [ints_len]; exact hi)).symm
  have p2 := p1.keys r2 k2 f2 (n := (ints ks).length + 1) m2
  rw [ints_len] at p2
  have b0 : w2.cell? ⟨b, 0, none⟩ = some (.slice ka (ints ks).length kc) := (p1.lb_keys k2).cell 0
  have b1 : w2.cell? ⟨b, 1, none⟩ = some (.slice va vs.length vc) := (p1.lb_keys k2).cell 1
  have g0 : w2.frozen? ⟨b, 0, none⟩ = false := (p1.lb_keys k2).frozen 0
  have k2' : Kept X w w2 := k1.trans k2 (fun g _ e => (p1.hk g e).1)
  have hkk := k2.size
  have hbb := p1.hb
  clear k2 f2 r2 p p1 m2 k1
  rw [ints_len]
  go_wp2_with (fail)
  have q2 : Parts 83 3 9 ((w2.setCell ⟨b, 0, none⟩ (.slice ka' (ks.length + 1) kc')).alloc (.cells [.string v].toArray 9)) _ b ka' kc' va vc _ vs := p2.all ((Kept.refl _ _).alloc _)
  have v2 : Lies ((w2.setCell ⟨b, 0, none⟩ (.slice ka' (ks.length + 1) kc')).alloc (.cells [.string v].toArray 9)) w2.heap.size 9 [.string v] := by
    have := Lies.new (w2.setCell ⟨b, 0, none⟩ (.slice ka' (ks.length + 1) kc')) 9 [.string v]
    simpa using this
  have n2 : va ≠ some ⟨w2.heap.size, 0, none⟩ := fun e => by have := p2.rv.lt e; simp at this
  have z2 : ((w2.setCell ⟨b, 0, none⟩ (.slice ka' (ks.length + 1) kc')).alloc (.cells [.string v].toArray 9)).heap.size = w2.heap.size + 1 := by simp
  have k3 : Kept X w ((w2.setCell ⟨b, 0, none⟩ (.slice ka' (ks.length + 1) kc')).alloc (.cells [.string v].toArray 9)) := (k2'.setCell (fun _ => hbb) _).alloc _
  have I := ins_str va vc vs i (.string v) w2.heap.size _ q2.rv (by have := HL.out; omega) v2 n2 (by have := HL.out; omega) H1.out rfl
  refine I.mono ?_
  clear I v2 n2 b0 b1 g0 p2
  generalize (w2.setCell ⟨b, 0, none⟩ (.slice ka' (ks.length + 1) kc')).alloc (.cells [.string v].toArray 9) = wb at *
  rintro e w4 ⟨va', vc', rfl, r4, k4, f4⟩
  have p4 := q2.vals r4 k4 f4 (n := vs.length + 1) (mid_len (by have := HL.out; omega)).symm
  have b1 := (q2.lb_vals k4).cell 1
  have g1 : w4.frozen? ⟨b, 1, none⟩ = false := (q2.lb_vals k4).frozen 1
  have k5 : Kept X w w4 := k3.trans k4 (fun g hg e => by
    rcases (q2.hv g e).1 with h | h
    · exact h
    · omega)
  clear k4 f4 r4 q2 k3 k2'
  go_wp2
  refine bodyPost_ret (v := .tuple #[.string ⟨#[]⟩, .bool false]) (by simp [results, Try.results41, go_sem]) rfl ?_
  refine Puts.added hh HS.out ?_ (k5.setCell (fun _ => hbb) _)
  exact ⟨_, _, _, _, p4.mono (fun g hg h => by
    rcases h with (h | h) | h
    · exact .inl h
    · exact .inr (by omega)
    · exact .inr (by omega))⟩

theorem put_is (X : Nat → Prop) (b : Nat) (ks : List Int) (vs : List Value) (k : Int) (v : ByteArray) (w : World) (h : Tab 83 3 9 w X b (ints ks) vs) (hb : (ks.length + 1) * 16 ≤ 140737488355328) (hu : Up intLt ks)
    (hl : ks.length = vs.length) (h1 : ∀ x ∈ vs, x.oneCell' = true) :
    Calls Try.prog 41 #[.pointer (some ⟨b, 0, none⟩), .int .i64 k, .string v] w (Puts intLt (Value.int .i64) 83 3 9 (.string ⟨#[]⟩) X b ks vs k (.string v) w) := by
  cases hh : has ks k with
  | true => exact put_has_is X b ks vs k v w h (by omega) hu hl hh
  | false => exact put_not_is X b ks vs k v w h hb hu hl h1 hh
end Go.Proofs.Ytkfjnojpgffchaa

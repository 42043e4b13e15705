/- Tables of texts with slices of texts: the order of texts, the search, Put. -/
import Derived.Test.YtkfjnojpgffchaaY
import Derived.Sort.Walk0
namespace Go.Proofs.Ytkfjnojpgffchaa
open Go.ChangeShapes Go.WideShapes Go.ChangeAt Go.RowKit

def strLt (a b : ByteArray) : Bool := Op.bytesLess a.toList b.toList
theorem strLt_eq (a b : ByteArray) : strLt a b = decide (a.data.toList < b.data.toList) := by
  unfold strLt
  rw [bytesLess_eq, Lib.toList_data, Lib.toList_data]
theorem bytes_ext {a b : ByteArray} (h : a.data.toList = b.data.toList) : a = b := by
  cases a; cases b
  simp at h
  rw [h]
theorem strOrder : Order strLt where
  irr a := by rw [strLt_eq]; simp [List.lt_irrefl]
  tr a b c h1 h2 := by
    rw [strLt_eq] at *
    simp at *
    exact List.lt_trans h1 h2
  tot a b h1 h2 := by
    rw [strLt_eq] at *
    simp at h1 h2
    exact bytes_ext (List.le_antisymm h2 h1)

def strs (ks : List ByteArray) : List Value := ks.map Value.string
theorem strs_len (ks : List ByteArray) : (strs ks).length = ks.length := List.length_map ..
theorem strs_one (ks : List ByteArray) : ∀ x ∈ strs ks, x.oneCell' = true := fun x hx => by
  obtain ⟨z, _, rfl⟩ := List.mem_map.1 hx
  rfl
theorem up_strs_nil : Up strLt [] := List.Pairwise.nil

theorem isNo_str (k : ByteArray) (w : World) : Calls Try.prog 44 #[.string k] w fun e w' => e = .returned (.bool false) ∧ w = w' := by
  go_enter Try.func44, Try.ntmps44
  go_wp2
  go_ret
  exact ⟨by simp, rfl⟩

theorem search_s (a : Option Addr) (c : Nat) (ks : List ByteArray) (x : ByteArray) (w : World) (R : Row w 9 a c (strs ks)) (hb : ks.length < 4611686018427387904) (h : Up strLt ks) :
    Calls Try.prog 45 #[.slice a ks.length c, .string x] w fun e w' => e = .returned (.tuple #[.int .i64 (spot strLt ks x : Nat), .bool (has ks x)]) ∧ ∃ q, w' = w.drewN q := by
  rcases R with ⟨rfl, rfl, e⟩ | ⟨g, sp, rfl, hc, hm, hl⟩
  · obtain rfl : ks = [] := List.map_eq_nil_iff.1 e
    refine (Any2.slices_BinarySearch_string_empty Try.laysNm226 none 0 x w).mono ?_
    rintro e w' ⟨rfl, rfl⟩
    exact ⟨rfl, 0, rfl⟩
  · have hs := spot_split strOrder ks x h
    have hle := spot_le (lt := strLt) ks x
    have hb2 : Lib.bsGo (fun t => Op.bytesLess (ks.getD t x).toList x.toList) ks.length 0 ks.length = spot strLt ks x := by
      refine Lib.bsGo_spec _ _ (fun t ht => ?_) (fun t ht => ?_) _ _ _ (by omega) (Nat.zero_le _) hle
      · have htl : t < ks.length := by omega
        rw [List.getD_eq_getElem?_getD, List.getElem?_eq_getElem htl]
        exact hs.1 ks[t] (List.mem_of_getElem? (i := t) (by rw [List.getElem?_take, if_pos ht, List.getElem?_eq_getElem htl]))
      · by_cases htl : t < ks.length
        · rw [List.getD_eq_getElem?_getD, List.getElem?_eq_getElem htl]
          exact hs.2 ks[t] (List.mem_of_getElem? (i := t - spot strLt ks x) (by rw [List.getElem?_drop, show spot strLt ks x + (t - spot strLt ks x) = t by omega, List.getElem?_eq_getElem htl]))
        · rw [List.getD_eq_getElem?_getD, List.getElem?_eq_none (by omega)]
          exact strOrder.irr x
    refine (Any2.slices_BinarySearch_string Try.laysNm226 g 0 ks.length c (fun t => ks.getD t x) x w hb ?_).mono ?_
    · intro j hj
      rw [Nat.zero_add, hl.cell, List.getElem?_append_left (by rw [strs_len]; exact hj)]
      simp [strs, hj]
    · rintro e w' ⟨rfl, q, rfl⟩
      refine ⟨?_, q, rfl⟩
      rw [hb2]
      congr 6
      rw [Bool.eq_iff_iff, decide_eq_true_eq, spot_has strOrder h x]
      constructor
      · rintro ⟨h1, h2⟩
        rw [List.getD_eq_getElem?_getD, List.getElem?_eq_getElem h1] at h2
        rw [List.getElem?_eq_getElem h1]
        simpa using h2
      · intro h1
        exact ⟨(List.getElem?_eq_some_iff.1 h1).1, by rw [List.getD_eq_getElem?_getD, h1]; rfl⟩

set_option maxHeartbeats 1000000 in
theorem put_has_ss (X : Nat → Prop) (b : Nat) (ks : List ByteArray) (vs : List Value) (k : ByteArray) (sa : Option Addr) (sn sc : Nat) (w : World) (h : Tab 71 9 36 w X b (strs ks) vs) (hb : ks.length ≤ 1000) (hu : Up strLt ks)
    (hl : ks.length = vs.length) (hh : has ks k = true) :
    Calls Try.prog 17 #[.pointer (some ⟨b, 0, none⟩), .string k, .slice sa sn sc] w (Puts strLt (Value.string) 71 9 36 (.slice none 0 0) X b ks vs k (.slice sa sn sc) w) := by
  have hi := spot_lt strOrder hu hh
  obtain ⟨ka, kc, va, vc, p⟩ := h
  obtain ⟨vg, sp, rfl, rfl, hm, hlv⟩ : ∃ g sp, va = some ⟨g, 0, none⟩ ∧ vc = vs.length + sp.length ∧ vc ≤ 9223372036854775807 ∧ Lies w g 36 (vs ++ sp) := by
    rcases p.rv with ⟨_, _, e⟩ | h
    · exact absurd hi (by rw [hl, e]; simp)
    · exact h
  have c0 : w.cell? ⟨b, 0, none⟩ = some (.slice ka ks.length kc) := by rw [← strs_len]; exact p.lb.cell 0
  have hiv : spot strLt ks k < vs.length := by omega
  have S := search_s ka kc ks k w p.rk (by omega) hu
  generalize hsp : spot strLt ks k = i at *
  have HS := Lib.hid hsp
  clear hsp hl
  go_enter Try.func17, Try.ntmps17
  go_wp2_with (fail)
  refine (isNo_str _ _).mono ?_
  rintro e w' ⟨rfl, rfl⟩
  go_wp2_with (fail)
  refine S.mono ?_
  rintro e w' ⟨rfl, q, rfl⟩
  clear S
  go_wp2_with (fail)
  refine wp_region_still_tail 15 (by kernel_rfl) (by kernel_rfl) ?_
  change wpStill _ _ (w.drewN q).drew (fun a' => wpList _ _ _ _ a' (w.drewN q).drew) _ _
  have L1 : Parts 71 9 36 (w.drewN q).drew X b ka kc (some ⟨vg, 0, none⟩) (vs.length + sp.length) (strs ks) vs := p.all ((Kept.refl _ w).drewN q).drew
  have L2 : Lies (w.drewN q).drew vg 36 (vs ++ sp) := hlv
  have L4 : Kept X w (w.drewN q).drew := ((Kept.refl X w).drewN q).drew
  clear c0 p hlv
  generalize (w.drewN q).drew = w2 at *
  have c1 : w2.cell? ⟨b, 1, none⟩ = some (.slice (some ⟨vg, 0, none⟩) vs.length (vs.length + sp.length)) := L1.lb.cell 1
  have cv : w2.cell? ⟨vg, i, none⟩ = some vs[i] := by
    rw [L2.cell, List.getElem?_append_left hiv, List.getElem?_eq_getElem hiv]
  have fv : w2.frozen? ⟨vg, i, none⟩ = false := L2.frozen _
  simp only [List.take_succ_cons, List.take_zero, List.drop_succ_cons, List.drop_zero]
  repeat still_step
  refine wpStill_nil ?_
  go_wp2
  refine bodyPost_ret (v := .tuple #[vs[i], .bool true]) (by simp [results, Try.results17, go_sem]) rfl ?_
  exact Puts.found hh HS.out hiv L1 L2 L4 hm

set_option maxHeartbeats 1000000 in
theorem put_not_ss (X : Nat → Prop) (b : Nat) (ks : List ByteArray) (vs : List Value) (k : ByteArray) (sa : Option Addr) (sn sc : Nat) (w : World) (h : Tab 71 9 36 w X b (strs ks) vs) (hb : ks.length ≤ 1000) (hu : Up strLt ks)
    (hl : ks.length = vs.length) (h1 : ∀ x ∈ vs, x.oneCell' = true) (hh : has ks k = false) :
    Calls Try.prog 17 #[.pointer (some ⟨b, 0, none⟩), .string k, .slice sa sn sc] w (Puts strLt (Value.string) 71 9 36 (.slice none 0 0) X b ks vs k (.slice sa sn sc) w) := by
  have hi := spot_le (lt := strLt) ks k
  obtain ⟨ka, kc, va, vc, p⟩ := h
  have c0 : w.cell? ⟨b, 0, none⟩ = some (.slice ka ks.length kc) := by rw [← strs_len]; exact p.lb.cell 0
  have S := search_s ka kc ks k w p.rk (by omega) hu
  generalize hsp : spot strLt ks k = i at *
  have HS := Lib.hid hsp
  have HL := Lib.hid hl
  have H1 := Lib.hid h1
  clear hsp hl h1
  go_enter Try.func17, Try.ntmps17
  go_wp2_with (fail)
  refine (isNo_str _ _).mono ?_
  rintro e w' ⟨rfl, rfl⟩
  go_wp2_with (fail)
  refine S.mono ?_
  rintro e w' ⟨rfl, q, rfl⟩
  clear S
  go_wp2_with (fail)
  have p1 : Parts 71 9 36 ((w.drewN q).alloc (.cells [.string k].toArray 9)) X b ka kc va vc (strs ks) vs := p.all (((Kept.refl _ w).drewN q).alloc _)
  have v1 : Lies ((w.drewN q).alloc (.cells [.string k].toArray 9)) w.heap.size 9 [.string k] := Lies.new _ _ _
  have n1 : ka ≠ some ⟨w.heap.size, 0, none⟩ := fun e => by have := p.rk.lt e; omega
  have k1 : Kept X w ((w.drewN q).alloc (.cells [.string k].toArray 9)) := ((Kept.refl X w).drewN q).alloc _
  have z1 : ((w.drewN q).alloc (.cells [.string k].toArray 9)).heap.size = w.heap.size + 1 := by simp
  have I := ins_str ka kc (strs ks) i (.string k) w.heap.size _ p1.rk (by rw [strs_len]; exact hi) v1 n1 (by rw [strs_len]; omega) (strs_one ks) rfl
  rw [strs_len] at I
  refine I.mono ?_
  clear I v1 n1 c0
  generalize (w.drewN q).alloc (.cells [.string k].toArray 9) = wa at *
  rintro e w2 ⟨ka', kc', rfl, r2, k2, f2⟩
  have m2 : (strs ks).length + 1 = ((strs ks).take i ++ .string k :: (strs ks).drop i).length := (mid_len (by rw [strs_len]; exact hi)).symm
  have p2 := p1.keys r2 k2 f2 (n := (strs ks).length + 1) m2
  rw [strs_len] at p2
  have b0 : w2.cell? ⟨b, 0, none⟩ = some (.slice ka (strs ks).length kc) := (p1.lb_keys k2).cell 0
  have b1 : w2.cell? ⟨b, 1, none⟩ = some (.slice va vs.length vc) := (p1.lb_keys k2).cell 1
  have g0 : w2.frozen? ⟨b, 0, none⟩ = false := (p1.lb_keys k2).frozen 0
  have k2' : Kept X w w2 := k1.trans k2 (fun g _ e => (p1.hk g e).1)
  have hkk := k2.size
  have hbb := p1.hb
  clear k2 f2 r2 p p1 m2 k1
  rw [strs_len]
  go_wp2_with (fail)
  have q2 : Parts 71 9 36 ((w2.setCell ⟨b, 0, none⟩ (.slice ka' (ks.length + 1) kc')).alloc (.cells [.slice sa sn sc].toArray 36)) _ b ka' kc' va vc _ vs := p2.all ((Kept.refl _ _).alloc _)
  have v2 : Lies ((w2.setCell ⟨b, 0, none⟩ (.slice ka' (ks.length + 1) kc')).alloc (.cells [.slice sa sn sc].toArray 36)) w2.heap.size 36 [.slice sa sn sc] := by
    have := Lies.new (w2.setCell ⟨b, 0, none⟩ (.slice ka' (ks.length + 1) kc')) 36 [.slice sa sn sc]
    simpa using this
  have n2 : va ≠ some ⟨w2.heap.size, 0, none⟩ := fun e => by have := p2.rv.lt e; simp at this
  have z2 : ((w2.setCell ⟨b, 0, none⟩ (.slice ka' (ks.length + 1) kc')).alloc (.cells [.slice sa sn sc].toArray 36)).heap.size = w2.heap.size + 1 := by simp
  have k3 : Kept X w ((w2.setCell ⟨b, 0, none⟩ (.slice ka' (ks.length + 1) kc')).alloc (.cells [.slice sa sn sc].toArray 36)) := (k2'.setCell (fun _ => hbb) _).alloc _
  have I := ins_ss va vc vs i (.slice sa sn sc) w2.heap.size _ q2.rv (by have := HL.out; omega) v2 n2 (by have := HL.out; omega) H1.out rfl
  refine I.mono ?_
  clear I v2 n2 b0 b1 g0 p2
  generalize (w2.setCell ⟨b, 0, none⟩ (.slice ka' (ks.length + 1) kc')).alloc (.cells [.slice sa sn sc].toArray 36) = wb at *
  rintro e w4 ⟨va', vc', rfl, r4, k4, f4⟩
  have p4 := q2.vals r4 k4 f4 (n := vs.length + 1) (mid_len (by have := HL.out; omega)).symm
  have b1 := (q2.lb_vals k4).cell 1
  have g1 : w4.frozen? ⟨b, 1, none⟩ = false := (q2.lb_vals k4).frozen 1
  have k5 : Kept X w w4 := k3.trans k4 (fun g hg e => by
    rcases (q2.hv g e).1 with h | h
    · exact h
    · omega)
  clear k4 f4 r4 q2 k3 k2'
  go_wp2
  refine bodyPost_ret (v := .tuple #[.slice none 0 0, .bool false]) (by simp [results, Try.results17, go_sem]) rfl ?_
  refine Puts.added hh HS.out ?_ (k5.setCell (fun _ => hbb) _)
  exact ⟨_, _, _, _, p4.mono (fun g hg h => by
    rcases h with (h | h) | h
    · exact .inl h
    · exact .inr (by omega)
    · exact .inr (by omega))⟩

theorem put_ss (X : Nat → Prop) (b : Nat) (ks : List ByteArray) (vs : List Value) (k : ByteArray) (sa : Option Addr) (sn sc : Nat) (w : World) (h : Tab 71 9 36 w X b (strs ks) vs) (hb : ks.length ≤ 1000) (hu : Up strLt ks)
    (hl : ks.length = vs.length) (h1 : ∀ x ∈ vs, x.oneCell' = true) :
    Calls Try.prog 17 #[.pointer (some ⟨b, 0, none⟩), .string k, .slice sa sn sc] w (Puts strLt (Value.string) 71 9 36 (.slice none 0 0) X b ks vs k (.slice sa sn sc) w) := by
  cases hh : has ks k with
  | true => exact put_has_ss X b ks vs k sa sn sc w h hb hu hl hh
  | false => exact put_not_ss X b ks vs k sa sn sc w h hb hu hl h1 hh
end Go.Proofs.Ytkfjnojpgffchaa

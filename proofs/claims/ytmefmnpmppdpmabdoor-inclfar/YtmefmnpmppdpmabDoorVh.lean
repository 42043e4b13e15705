import Derived.Test.YtmefmnpmppdpmabDoorVc
import Derived.Deep.RegionHeld3
import Derived.Deep.AppendLies
/- The program's choices (auto), walked: periods are left. -/

/-! The program's choices (auto): what comes of each choice of the periods. -/
namespace Go.Proofs.YtmefmnpmppdpmabDoor
open Go.ChangeShapes Go.WideShapes Go.ChangeAt Go.RowKit
def rgVe0 : Oper := { dst := some 19, op := Op.move (Operand.tmp 0), type := 48, pos := "auto.go:99", after := #[], guard := none }
def rgVe1 : Oper := { dst := some 20, op := Op.fieldAddr 65 (Operand.tmp 5) 0, type := 0, pos := "auto.go:99", after := #[], guard := none }
def rgVe2 : Oper := { dst := some 21, op := Op.load 3 (Operand.tmp 20), type := 3, pos := "auto.go:99", after := #[{ on := 1, ground := Ground.data }], guard := none }
def rgVe3 : Oper := { dst := some 22, op := Op.fieldAddr 65 (Operand.tmp 5) 1, type := 0, pos := "auto.go:99", after := #[], guard := none }
def rgVe4 : Oper := { dst := some 23, op := Op.load 24 (Operand.tmp 22), type := 24, pos := "auto.go:99", after := #[{ on := 3, ground := Ground.data }], guard := none }
def rgVe5 : Oper := { dst := some 24, op := Op.call { callee := Callee.value (Operand.func 65), args := #[Operand.tmp 23], argTypes := #[24] }, type := 24, pos := "auto.go:99", after := #[{ on := 4, ground := Ground.data }], guard := none }
def rgVe6 : Oper := { dst := some 25, op := Op.build 65 #[(0, Operand.tmp 21), (1, Operand.tmp 24)], type := 65, pos := "auto.go:99", after := #[{ on := 2, ground := Ground.data }, { on := 5, ground := Ground.data }], guard := none }
def rgVe7 : Oper := { dst := some 26, op := Op.buildSlice 48 1 #[(0, Operand.tmp 25)], type := 48, pos := "auto.go:99", after := #[{ on := 6, ground := Ground.data }], guard := none }
def rgVe8 : Oper := { dst := some 27, op := Op.call { callee := Callee.builtin Builtin.append, args := #[Operand.tmp 19, Operand.tmp 26], argTypes := #[48, 48] }, type := 48, pos := "auto.go:99", after := #[{ on := 0, ground := Ground.data }, { on := 7, ground := Ground.data }, { on := 5, ground := Ground.chain }], guard := none }
def rgVe9 : Oper := { dst := some 0, op := Op.assign (Operand.tmp 27), type := 48, pos := "auto.go:99", after := #[{ on := 8, ground := Ground.data }, { on := 8, ground := Ground.chain }, { on := 0, ground := Ground.phase }, { on := 1, ground := Ground.phase }, { on := 2, ground := Ground.phase }, { on := 3, ground := Ground.phase }, { on := 4, ground := Ground.phase }, { on := 5, ground := Ground.phase }, { on := 6, ground := Ground.phase }, { on := 7, ground := Ground.phase }, { on := 8, ground := Ground.phase }], guard := none }

/-- What comes of each choice of the periods beside a carry. -/
def choicesL (j letter : Int) : List (List Int) → List Int → Option (List It)
  | [], c => some (if oddN c = letter then [⟨j, halfL c⟩] else [])
  | p :: r, c => if addOk c p = true then
      match choicesL j letter r (addT c p) with
      | none => none
      | some A => match choicesL j letter r c with
        | none => none
        | some B => some (A ++ B)
    else none
section
variable {j letter : Int}
theorem choices_cons_no {p c : List Int} {r : List (List Int)} (h : addOk c p = false) : choicesL j letter (p :: r) c = none := by
  unfold choicesL; rw [h]; rfl
theorem choices_cons_no1 {p c : List Int} {r : List (List Int)} (h : addOk c p = true) (h1 : choicesL j letter r (addT c p) = none) : choicesL j letter (p :: r) c = none := by
  unfold choicesL; rw [if_pos h, h1]
theorem choices_cons_no2 {p c : List Int} {r : List (List Int)} {A : List It} (h : addOk c p = true) (h1 : choicesL j letter r (addT c p) = some A) (h2 : choicesL j letter r c = none) : choicesL j letter (p :: r) c = none := by
  unfold choicesL; rw [if_pos h, h1, h2]
theorem choices_cons_yes {p c : List Int} {r : List (List Int)} {A B : List It} (h : addOk c p = true) (h1 : choicesL j letter r (addT c p) = some A) (h2 : choicesL j letter r c = some B) : choicesL j letter (p :: r) c = some (A ++ B) := by
  unfold choicesL; rw [if_pos h, h1, h2]
/-- Just what the masks choose. -/
structure Chosen (j letter : Int) (ps : List (List Int)) (c : List Int) (A : List It) : Prop where
  few : A.length ≤ 2 ^ ps.length
  each : ∀ i, i < 2 ^ ps.length → ∃ c', chosenL c ps i = some c'
  mem : ∀ z, z ∈ A ↔ ∃ i c', i < 2 ^ ps.length ∧ chosenL c ps i = some c' ∧ oddN c' = letter ∧ z = ⟨j, halfL c'⟩
theorem chosen_cons_odd (c p : List Int) (r : List (List Int)) (i : Nat) : chosenL c (p :: r) (2 * i + 1) = if addOk c p = true then chosenL (addT c p) r i else none := by
  have e : (2 * i + 1) / 2 = i := by omega
  have e2 : (2 * i + 1) % 2 = 1 := by omega
  rw [chosenL, if_pos e2, e]
theorem chosen_cons_even (c p : List Int) (r : List (List Int)) (i : Nat) : chosenL c (p :: r) (2 * i) = chosenL c r i := by
  have e : (2 * i) / 2 = i := by omega
  have e2 : ¬ (2 * i) % 2 = 1 := by omega
  rw [chosenL, if_neg e2, e]
theorem choices_spec : ∀ (ps : List (List Int)) (c : List Int), (choicesL j letter ps c = none → ∃ i, i < 2 ^ ps.length ∧ chosenL c ps i = none) ∧ ∀ A, choicesL j letter ps c = some A → Chosen j letter ps c A
  | [], c => by
    refine ⟨fun h => by simp [choicesL] at h, fun A h => ?_⟩
    unfold choicesL at h
    injection h with h
    subst h
    refine ⟨?_, fun i _ => ⟨c, rfl⟩, fun z => ?_⟩
    · split <;> simp
    · constructor
      · intro hz
        split at hz
        · next ho =>
          obtain rfl := List.mem_singleton.1 hz
          exact ⟨0, c, by simp, rfl, ho, rfl⟩
        · simp at hz
      · rintro ⟨i, c', _, h1, h2, rfl⟩
        injection h1 with h1
        subst h1
        rw [if_pos h2]
        simp
  | p :: r, c => by
    have e : 2 ^ (p :: r).length = 2 * 2 ^ r.length := by rw [List.length_cons, Nat.pow_succ]; omega
    have hp := Nat.two_pow_pos r.length
    by_cases h : addOk c p = true
    · have i1 := choices_spec r (addT c p)
      have i2 := choices_spec r c
      cases h1 : choicesL j letter r (addT c p) with
      | none =>
        obtain ⟨i, hi, hc⟩ := i1.1 h1
        rw [choices_cons_no1 h h1]
        refine ⟨fun _ => ⟨2 * i + 1, by omega, by rw [chosen_cons_odd, if_pos h, hc]⟩, fun A hA => by cases hA⟩
      | some A =>
        cases h2 : choicesL j letter r c with
        | none =>
          obtain ⟨i, hi, hc⟩ := i2.1 h2
          rw [choices_cons_no2 h h1 h2]
          refine ⟨fun _ => ⟨2 * i, by omega, by rw [chosen_cons_even, hc]⟩, fun A hA => by cases hA⟩
        | some B =>
          rw [choices_cons_yes h h1 h2]
          have a := i1.2 A h1
          have b := i2.2 B h2
          refine ⟨fun hn => (by cases hn), fun C hC => ?_⟩
          injection hC with hC
          subst hC
          have fa := a.few
          have fb := b.few
          refine ⟨by rw [List.length_append]; omega, fun i hi => ?_, fun z => ?_⟩
          · rcases (show i % 2 = 1 ∨ i % 2 = 0 by omega) with h3 | h3
            · obtain ⟨k, rfl⟩ : ∃ k, i = 2 * k + 1 := ⟨i / 2, by omega⟩
              rw [chosen_cons_odd, if_pos h]
              exact a.each k (by omega)
            · obtain ⟨k, rfl⟩ : ∃ k, i = 2 * k := ⟨i / 2, by omega⟩
              rw [chosen_cons_even]
              exact b.each k (by omega)
          · rw [List.mem_append, a.mem, b.mem]
            constructor
            · rintro (⟨i, c', h3, h4, h5, h6⟩ | ⟨i, c', h3, h4, h5, h6⟩)
              · exact ⟨2 * i + 1, c', by omega, by rw [chosen_cons_odd, if_pos h, h4], h5, h6⟩
              · exact ⟨2 * i, c', by omega, by rw [chosen_cons_even, h4], h5, h6⟩
            · rintro ⟨i, c', h3, h4, h5, h6⟩
              rcases (show i % 2 = 1 ∨ i % 2 = 0 by omega) with h7 | h7
              · obtain ⟨k, rfl⟩ : ∃ k, i = 2 * k + 1 := ⟨i / 2, by omega⟩
                rw [chosen_cons_odd, if_pos h] at h4
                exact .inl ⟨k, c', by omega, h4, h5, h6⟩
              · obtain ⟨k, rfl⟩ : ∃ k, i = 2 * k := ⟨i / 2, by omega⟩
                rw [chosen_cons_even] at h4
                exact .inr ⟨k, c', by omega, h4, h5, h6⟩
    · have h : addOk c p = false := by simpa using h
      rw [choices_cons_no h]
      refine ⟨fun _ => ⟨1, by omega, ?_⟩, fun A hA => by cases hA⟩
      have := chosen_cons_odd c p r 0
      rw [h] at this
      exact this
theorem Chosen.good {ps : List (List Int)} {c : List Int} {A : List It} (h : Chosen j letter ps c A) : GoodI A := fun z hz => by
  obtain ⟨_, c', _, _, _, rfl⟩ := (h.mem z).1 hz
  exact half_rightI j c'
theorem digitL_at0 (w : List Int) (t : Nat) : (digitL w (0 : Int).toNat).getD t 0 = w.getD t 0 := by
  have := digit_get w 0 t
  simpa using this
theorem letter_zero {c : List Int} (h : rightL c = true) : letterN c 0 = oddN c := by
  unfold letterN oddN
  rw [if_pos ⟨h, by omega, by omega⟩]
  refine pack_ext (fun t => ?_)
  rw [digitL_at0]
end

/-- Periods, as a call has them: a piece of a row that lies there. -/
def Pers (w : World) (pv : Option Addr) (m pd : Nat) (rest : List (List Int)) : Prop :=
  rest.length = m ∧ m ≤ pd ∧ pd ≤ 9223372036854775807 ∧ (m = 0 ∨ ∃ g k pc ps, pv = some ⟨g, k, none⟩ ∧ pd = pc - k ∧ Bags w (some ⟨g, 0, none⟩) pc ps ∧ k + m = ps.length ∧ rest = ps.drop k)
theorem Pers.of {w : World} {pa : Option Addr} {pc m : Nat} {ps : List (List Int)} (h : Bags w pa pc ps) (hm : ps.length = m) : Pers w pa m pc ps := by
  have hle := h.le
  refine ⟨hm, by omega, by omega, ?_⟩
  by_cases h0 : m = 0
  · exact .inl h0
  · obtain ⟨g, b, d, e, _, _⟩ := h.at (k := 0) (by omega)
    subst e
    exact .inr ⟨g, 0, pc, ps, rfl, by omega, h, by omega, by simp⟩
/-- What choices comes to: the row is written on, or nothing is left of it. -/
def ChI (oa : Option Addr) (L : List It) (o : Option (List It)) (w : World) (e : Ending) (w' : World) : Prop :=
  ∃ (a : Option Addr) (q c : Nat) (b : Bool), e = .returned (.tuple #[.slice a q c, .bool b]) ∧ MK oa w w' ∧ q ≤ c ∧ c ≤ 9223372036854775807 ∧
    (b = false → o = none ∧ a = none ∧ q = 0 ∧ c = 0) ∧ (b = true → ∃ A, o = some A ∧ q = L.length + A.length ∧ Its w' a c (L ++ A) ∧ ∀ g, a = some ⟨g, 0, none⟩ → oa = some ⟨g, 0, none⟩ ∨ w.heap.size ≤ g)
theorem chI_no {oa : Option Addr} {L : List It} {o : Option (List It)} {w w' : World} (h : o = none) (k : MK oa w w') : ChI oa L o w (.returned (.tuple #[.slice none 0 0, .bool false])) w' :=
  ⟨none, 0, 0, false, rfl, k, Nat.le_refl _, Nat.zero_le _, fun _ => ⟨h, rfl, rfl, rfl⟩, fun h => by cases h⟩

set_option maxRecDepth 100000 in
set_option maxHeartbeats 4000000 in
theorem choices_zero (j letter : Int) (oa ca pv : Option Addr) (oc n cc pd q : Nat) (L : List It) (cs : List Int) (w : World) (HI0 : Its w oa oc L) (hq : L.length = q) (HC0 : Bag w ca cc cs) (hr : rightL cs = true) (hn : cs.length = n) (hb : q + 1 ≤ 100000000000) :
    Calls Tryd.prog 55 #[.slice oa q oc, .agg #[.int .i64 j, .slice ca n cc], .slice pv 0 pd, .int .u64 letter] w (ChI oa L (choicesL j letter [] cs) w) := by
  have hlo := HI0.le
  have hlc := HC0.le
  rw [hq] at hlo
  rw [hn] at hlc
  have bb := below_alloc w (.cells #[.int .i64 j, .slice ca n cc] 65)
  have HI := Lib.hid (HI0.below bb)
  have HL := Lib.hid (Lies.new w 65 [.int .i64 j, .slice ca n cc])
  have HCA := Lib.hid (HC0.below bb)
  have HOL : Hid (∀ g, oa = some ⟨g, 0, none⟩ → g < w.heap.size) := Lib.hid (fun g e => HI0.lt e)
  have HBW := Lib.hid bb
  have HLK := Lib.hid hq
  have HN := Lib.hid hn
  have HRT := Lib.hid hr
  have HE0 : Hid (choicesL j letter [] cs = some (if oddN cs = letter then [⟨j, halfL cs⟩] else [])) := Lib.hid rfl
  generalize choicesL j letter [] cs = ch at HE0 ⊢
  clear bb HI0 HC0 hq hn hr
  go_enter Tryd.func55, Tryd.ntmps55
  go_wp2_with (fail)
  generalize w.alloc (.cells #[.int .i64 j, .slice ca n cc] 65) = W at HI HL HCA HBW ⊢
  generalize hg : w.heap.size = gb at HL ⊢
  have HG := Lib.hid hg
  clear hg
  have Z := letter26 ca cc cs 0 W HCA.out (by omega) (by omega)
  rw [HN.out, letter_zero HRT.out] at Z
  have HZ := Lib.hid Z
  clear Z
  generalize hod : oddN cs = od at HZ HE0
  refine HZ.out.mono ?_
  rintro e W2 ⟨rfl, b1⟩
  have HI2 := Lib.hid (HI.out.below b1)
  have HL2 := Lib.hid (HL.out.below b1 HL.out.lt)
  have HCA2 := Lib.hid (HCA.out.below b1)
  have HBW2 := Lib.hid (HBW.out.trans (b1.mono HBW.out.size))
  clear b1 HZ HI HL HCA HBW hod
  by_cases hol : od = letter
  · have HE : Hid (ch = some [⟨j, halfL cs⟩]) := Lib.hid (by rw [HE0.out, if_pos hol])
    have holb : (od == letter) = true := by simp [hol]
    clear HE0
    go_upto_region 3 with (fail)
    generalize W2 = W at *
    have HI := HI2
    have HCA := HCA2
    have HGE := HG.out
    have HOL : Hid (∀ g, oa = some ⟨g, 0, none⟩ → g < gb) := Lib.hid (fun g e => by rw [← HGE]; exact HOL.out g e)
    have bd : MK oa w W.drew ∧ Lies W.drew gb 65 [.int .i64 j, .slice ca n cc] := ⟨MK.then (Kept.of_below HBW2.out) (⟨rfl, rfl, rfl, Nat.le_refl _, fun _ _ => rfl⟩ : Below W.heap.size W W.drew), HL2.out⟩
    clear HI2 HCA2
    refine wp_region_held_drew (S := fun V => MK oa w V ∧ Lies V gb 65 [.int .i64 j, .slice ca n cc]) (by kernel_rfl) bd (fun hHeld => ?_)
    clear hHeld
    refine tkY 0 rgVe0 (v := ?_) rfl bd ?_ ?_
    rotate_left
    · intro w hSw
      simp only [rgVe0]; go_simp
      try with_reducible rfl
    try simp only [rgVe0, Act.put, pA, pB, pC]
    refine tkY 1 rgVe1 (v := ?_) rfl bd ?_ ?_
    rotate_left
    · intro w hSw
      simp only [rgVe1]; go_simp
      try with_reducible rfl
    try simp only [rgVe1, Act.put, pA, pB, pC]
    refine tkY 2 rgVe2 (v := ?_) rfl bd ?_ ?_
    rotate_left
    · intro w hSw
      have k0 := hSw.2.cell 0
      have k1 := hSw.2.cell 1
      simp only [List.getElem?_cons_zero, List.getElem?_cons_succ] at k0 k1
      simp only [rgVe2]; go_simp
      try with_reducible rfl
    try simp only [rgVe2, Act.put, pA, pB, pC]
    refine tkY 3 rgVe3 (v := ?_) rfl bd ?_ ?_
    rotate_left
    · intro w hSw
      simp only [rgVe3]; go_simp
      try with_reducible rfl
    try simp only [rgVe3, Act.put, pA, pB, pC]
    refine tkY 4 rgVe4 (v := ?_) rfl bd ?_ ?_
    rotate_left
    · intro w hSw
      have k0 := hSw.2.cell 0
      have k1 := hSw.2.cell 1
      simp only [List.getElem?_cons_zero, List.getElem?_cons_succ] at k0 k1
      simp only [rgVe4]; go_simp
      try with_reducible rfl
    try simp only [rgVe4, Act.put, pA, pB, pC]
    have HBD := Lib.hid bd
    have b0 : Below W.heap.size W W.drew := ⟨rfl, rfl, rfl, Nat.le_refl _, fun _ _ => rfl⟩
    have HI := Lib.hid (HI.out.below b0)
    have HCA := Lib.hid (HCA.out.below b0)
    clear b0 bd
    generalize W.drew = V0 at HBD HI HCA ⊢
    have Z := half84 ca cc cs V0 HCA.out HRT.out
    rw [HN.out] at Z
    have HZ := Lib.hid Z
    clear Z
    refine wpAnyH_ready (rs := [5]) (by kernel_rfl) (by simp) ?_
    refine AllReadyH.cons (o := rgVe5) rfl (fun K hK => ?_) AllReadyH.nil
    simp only [rgVe5]; go_simp
    refine HZ.out.mono ?_
    rintro e V1 ⟨a2, c2, rfl, r2, f2, b2⟩
    generalize hn0 : (halfL cs).length = n0
    have hl4 := r2.le
    rw [hn0] at hl4
    have HS1 : Hid (MK oa w V1 ∧ Lies V1 gb 65 [.int .i64 j, .slice ca n cc]) := Lib.hid ⟨MK.then HBD.out.1 b2, HBD.out.2.below b2 HBD.out.2.lt⟩
    have HI1 := Lib.hid (HI.out.below b2)
    have bz := below_alloc V1 (.cells #[.int .i64 j, .slice a2 n0 c2] 65)
    have HS2 : Hid (MK oa w (V1.alloc (.cells #[.int .i64 j, .slice a2 n0 c2] 65)) ∧ Lies (V1.alloc (.cells #[.int .i64 j, .slice a2 n0 c2] 65)) gb 65 [.int .i64 j, .slice ca n cc]) := Lib.hid ⟨MK.then HS1.out.1 bz, HS1.out.2.below bz HS1.out.2.lt⟩
    obtain ⟨ls, hls, I⟩ := HI1.out.below bz
    have hln : ls.length = q := by rw [← its_len, hls]; exact HLK.out
    have RR := I.row
    rw [hln] at RR
    have LZ := Lies.new V1 65 [.int .i64 j, .slice a2 n0 c2]
    obtain ⟨v4, w4, hr3, A4⟩ := run_appIt_at 48 48 Tryd.underlying48 oa oc q (iflat ls) _ RR ⟨V1.heap.size, 0, none⟩ 1 1 [.int .i64 j, .slice a2 n0 c2] rfl (fun j y hj => by rw [Addr.add_lit, Nat.zero_add]; exact (LZ.cell j).trans hj) (by intro y hy; simp only [List.mem_cons, List.not_mem_nil, or_false] at hy; rcases hy with rfl | rfl <;> rfl) (by omega)
    have HA4 := Lib.hid A4
    obtain ⟨a4, c4, rfl, I4, _⟩ := its_push (x := ⟨j, halfL cs⟩) hls I (r2.below bz) HLK.out hn0 A4
    obtain ⟨a5, c5, e5, _, k4, f4⟩ := HA4.out
    injection e5 with e5 _ e6
    subst e5 e6
    have HI4 := Lib.hid I4
    have hc4 := I4.le
    rw [List.length_append, HLK.out] at hc4
    have hsz := HS2.out.1.size
    have HK4 : Hid (MK oa w w4) := Lib.hid (HS2.out.1.trans k4 (fun _ _ h => h))
    have HX4 : Hid (Lies w4 gb 65 [.int .i64 j, .slice ca n cc]) := Lib.hid (HS2.out.2.kept k4 (fun e => by
      have := HOL.out gb e
      omega))
    have HF : Hid (ChI oa L (some [⟨j, halfL cs⟩]) w (.returned (.tuple #[.slice a4 (q + 1) c4, .bool true])) w4) := Lib.hid ⟨a4, q + 1, c4, true, rfl, HK4.out, hc4.1, hc4.2, (fun h => nomatch h), fun _ => ⟨_, rfl, by rw [HLK.out]; rfl, HI4.out, fun g e => (f4 g e).imp id (fun h => Nat.le_trans hsz h)⟩⟩
    clear bz RR LZ A4 HA4 I4 r2 f2 b2 I hls hln HZ hn0 HI HI1 HCA k4 f4 hsz
    go_wp2_with (fail)
    refine hK.out _ _ HS1.out (fun hHeld => ?_)
    clear hK K hHeld
    try simp only [rgVe5, Act.put, pA, pB, pC]
    refine tkY 6 rgVe6 (v := ?_) rfl HS1.out ?_ ?_
    rotate_left
    · intro w hSw
      simp only [rgVe6]; go_simp
      try with_reducible rfl
    try simp only [rgVe6, Act.put, pA, pB, pC]
    refine wpAnyH_ready (rs := [7]) (by kernel_rfl) (by simp) ?_
    refine AllReadyH.cons (o := rgVe7) rfl (fun K hK => ?_) AllReadyH.nil
    simp only [rgVe7]; go_simp
    refine hK.out _ _ HS2.out (fun hHeld => ?_)
    clear hK K hHeld
    try simp only [rgVe7, Act.put, pA, pB, pC]
    refine wpAnyH_ready (rs := [8]) (by kernel_rfl) (by simp) ?_
    refine AllReadyH.cons (o := rgVe8) rfl (fun K hK => ?_) AllReadyH.nil
    refine step_append_run _ rfl _ _ _ _ rfl _ _ rfl rfl _ _ hr3 ?_
    clear hr3
    refine hK.out _ _ ⟨HK4.out, HX4.out⟩ (fun hHeld => ?_)
    clear hK K hHeld
    try simp only [rgVe8, Act.put, pA, pB, pC]
    refine tkY 9 rgVe9 (v := ?_) rfl ⟨HK4.out, HX4.out⟩ ?_ ?_
    rotate_left
    · intro w hSw
      simp only [rgVe9]; go_simp
      try with_reducible rfl
    try simp only [rgVe9, Act.put, pA, pB]
    refine wpAnyH_done (by kernel_rfl) ?_ _
    go_wp2
    exact bodyPost_ret (v := .tuple #[.slice a4 (q + 1) c4, .bool true]) (by simp [results, Tryd.results55, go_sem]) rfl (by rw [HE.out]; exact HF.out)
  · have HF : Hid (ChI oa L ch w (.returned (.tuple #[.slice oa q oc, .bool true])) W2) := Lib.hid ⟨oa, q, oc, true, rfl, Kept.of_below HBW2.out, hlo.1, hlo.2, (fun h => nomatch h), fun _ => ⟨[], by rw [HE0.out, if_neg hol], by rw [HLK.out]; rfl, by rw [List.append_nil]; exact HI2.out, fun g e => .inl e⟩⟩
    have holb : (od == letter) = false := by simp [hol]
    go_wp2
    exact bodyPost_ret (v := .tuple #[.slice oa q oc, .bool true]) (by simp [results, Tryd.results55, go_sem]) rfl HF.out
end Go.Proofs.YtmefmnpmppdpmabDoor

/-! The program's choices (auto), walked: periods are left. -/
namespace Go.Proofs.YtmefmnpmppdpmabDoor
open Go.ChangeShapes Go.WideShapes Go.ChangeAt Go.RowKit
def rgVh0 : Oper := { dst := some 30, op := Op.fieldAddr 65 (Operand.tmp 5) 1, type := 0, pos := "auto.go:103", after := #[], guard := none }
def rgVh1 : Oper := { dst := some 31, op := Op.load 24 (Operand.tmp 30), type := 24, pos := "auto.go:103", after := #[{ on := 0, ground := Ground.data }], guard := none }
def rgVh2 : Oper := { dst := some 32, op := Op.move (Operand.tmp 2), type := 26, pos := "auto.go:103", after := #[], guard := none }
def rgVh3 : Oper := { dst := some 33, op := Op.indexAddr 26 (Operand.tmp 32) (Operand.const (Value.int IntKind.i64 0)), type := 0, pos := "auto.go:103", after := #[{ on := 2, ground := Ground.data }], guard := none }
def rgVh4 : Oper := { dst := some 34, op := Op.load 24 (Operand.tmp 33), type := 24, pos := "auto.go:103", after := #[{ on := 3, ground := Ground.data }], guard := none }
def rgVh5 : Oper := { dst := some 35, op := Op.call { callee := Callee.value (Operand.func 37), args := #[Operand.tmp 31, Operand.tmp 34], argTypes := #[24, 24] }, type := 76, pos := "auto.go:103", after := #[{ on := 1, ground := Ground.data }, { on := 4, ground := Ground.data }], guard := none }
def rgVh6 : Oper := { dst := some 29, op := Op.move (Operand.tmp 35), type := 76, pos := "auto.go:103", after := #[{ on := 5, ground := Ground.data }], guard := none }
def rgVh7 : Oper := { dst := some 36, op := Op.extract (Operand.tmp 29) 0, type := 24, pos := "auto.go:103", after := #[{ on := 6, ground := Ground.data }], guard := none }
def rgVh8 : Oper := { dst := some 37, op := Op.extract (Operand.tmp 29) 1, type := 4, pos := "auto.go:103", after := #[{ on := 6, ground := Ground.data }, { on := 9, ground := Ground.gcOnly Departure.lateStores }], guard := none }
def rgVh9 : Oper := { dst := some 10, op := Op.assign (Operand.tmp 36), type := 24, pos := "auto.go:103", after := #[{ on := 7, ground := Ground.data }, { on := 5, ground := Ground.chain }, { on := 0, ground := Ground.phase }, { on := 1, ground := Ground.phase }, { on := 2, ground := Ground.phase }, { on := 3, ground := Ground.phase }, { on := 4, ground := Ground.phase }, { on := 5, ground := Ground.phase }, { on := 6, ground := Ground.phase }, { on := 7, ground := Ground.phase }, { on := 8, ground := Ground.textOnly Departure.lateStores }], guard := none }
def rgVh10 : Oper := { dst := some 9, op := Op.assign (Operand.tmp 37), type := 4, pos := "auto.go:103", after := #[{ on := 8, ground := Ground.data }, { on := 9, ground := Ground.chain }, { on := 0, ground := Ground.phase }, { on := 1, ground := Ground.phase }, { on := 2, ground := Ground.phase }, { on := 3, ground := Ground.phase }, { on := 4, ground := Ground.phase }, { on := 5, ground := Ground.phase }, { on := 6, ground := Ground.phase }, { on := 7, ground := Ground.phase }, { on := 8, ground := Ground.phase }, { on := 9, ground := Ground.phase }], guard := none }
def rgVh11 : Oper := { dst := some 41, op := Op.move (Operand.tmp 0), type := 48, pos := "auto.go:108", after := #[], guard := none }
def rgVh12 : Oper := { dst := some 42, op := Op.fieldAddr 65 (Operand.tmp 5) 0, type := 0, pos := "auto.go:108", after := #[], guard := none }
def rgVh13 : Oper := { dst := some 43, op := Op.load 3 (Operand.tmp 42), type := 3, pos := "auto.go:108", after := #[{ on := 1, ground := Ground.data }], guard := none }
def rgVh14 : Oper := { dst := some 44, op := Op.move (Operand.tmp 10), type := 24, pos := "auto.go:108", after := #[], guard := none }
def rgVh15 : Oper := { dst := some 45, op := Op.build 65 #[(0, Operand.tmp 43), (1, Operand.tmp 44)], type := 65, pos := "auto.go:108", after := #[{ on := 2, ground := Ground.data }, { on := 3, ground := Ground.data }], guard := none }
def rgVh16 : Oper := { dst := some 46, op := Op.move (Operand.tmp 2), type := 26, pos := "auto.go:108", after := #[], guard := none }
def rgVh17 : Oper := { dst := some 47, op := Op.slice 26 (Operand.tmp 46) (some (Operand.const (Value.int IntKind.i64 1))) none none, type := 26, pos := "auto.go:108", after := #[{ on := 5, ground := Ground.data }], guard := none }
def rgVh18 : Oper := { dst := some 48, op := Op.move (Operand.tmp 3), type := 78, pos := "auto.go:108", after := #[], guard := none }
def rgVh19 : Oper := { dst := some 49, op := Op.call { callee := Callee.value (Operand.func 55), args := #[Operand.tmp 41, Operand.tmp 45, Operand.tmp 47, Operand.tmp 48], argTypes := #[48, 65, 26, 78] }, type := 98, pos := "auto.go:108", after := #[{ on := 0, ground := Ground.data }, { on := 4, ground := Ground.data }, { on := 6, ground := Ground.data }, { on := 7, ground := Ground.data }], guard := none }
def rgVh20 : Oper := { dst := some 40, op := Op.move (Operand.tmp 49), type := 98, pos := "auto.go:108", after := #[{ on := 8, ground := Ground.data }], guard := none }
def rgVh21 : Oper := { dst := some 50, op := Op.extract (Operand.tmp 40) 0, type := 48, pos := "auto.go:108", after := #[{ on := 9, ground := Ground.data }], guard := none }
def rgVh22 : Oper := { dst := some 51, op := Op.extract (Operand.tmp 40) 1, type := 4, pos := "auto.go:108", after := #[{ on := 9, ground := Ground.data }, { on := 12, ground := Ground.gcOnly Departure.lateStores }], guard := none }
def rgVh23 : Oper := { dst := some 0, op := Op.assign (Operand.tmp 50), type := 48, pos := "auto.go:108", after := #[{ on := 10, ground := Ground.data }, { on := 8, ground := Ground.chain }, { on := 0, ground := Ground.phase }, { on := 1, ground := Ground.phase }, { on := 2, ground := Ground.phase }, { on := 3, ground := Ground.phase }, { on := 4, ground := Ground.phase }, { on := 5, ground := Ground.phase }, { on := 6, ground := Ground.phase }, { on := 7, ground := Ground.phase }, { on := 8, ground := Ground.phase }, { on := 9, ground := Ground.phase }, { on := 10, ground := Ground.phase }, { on := 11, ground := Ground.textOnly Departure.lateStores }], guard := none }
def rgVh24 : Oper := { dst := some 9, op := Op.assign (Operand.tmp 51), type := 4, pos := "auto.go:108", after := #[{ on := 11, ground := Ground.data }, { on := 12, ground := Ground.chain }, { on := 0, ground := Ground.phase }, { on := 1, ground := Ground.phase }, { on := 2, ground := Ground.phase }, { on := 3, ground := Ground.phase }, { on := 4, ground := Ground.phase }, { on := 5, ground := Ground.phase }, { on := 6, ground := Ground.phase }, { on := 7, ground := Ground.phase }, { on := 8, ground := Ground.phase }, { on := 9, ground := Ground.phase }, { on := 10, ground := Ground.phase }, { on := 11, ground := Ground.phase }, { on := 12, ground := Ground.phase }], guard := none }
def rgVh25 : Oper := { dst := some 54, op := Op.move (Operand.tmp 0), type := 48, pos := "auto.go:111", after := #[], guard := none }
def rgVh26 : Oper := { dst := some 55, op := Op.load 65 (Operand.tmp 5), type := 65, pos := "auto.go:111", after := #[], guard := none }
def rgVh27 : Oper := { dst := some 56, op := Op.move (Operand.tmp 2), type := 26, pos := "auto.go:111", after := #[], guard := none }
def rgVh28 : Oper := { dst := some 57, op := Op.slice 26 (Operand.tmp 56) (some (Operand.const (Value.int IntKind.i64 1))) none none, type := 26, pos := "auto.go:111", after := #[{ on := 2, ground := Ground.data }], guard := none }
def rgVh29 : Oper := { dst := some 58, op := Op.move (Operand.tmp 3), type := 78, pos := "auto.go:111", after := #[], guard := none }
def rgVh30 : Oper := { dst := some 59, op := Op.call { callee := Callee.value (Operand.func 55), args := #[Operand.tmp 54, Operand.tmp 55, Operand.tmp 57, Operand.tmp 58], argTypes := #[48, 65, 26, 78] }, type := 98, pos := "auto.go:111", after := #[{ on := 0, ground := Ground.data }, { on := 1, ground := Ground.data }, { on := 3, ground := Ground.data }, { on := 4, ground := Ground.data }], guard := none }
def rgVh31 : Oper := { dst := some 60, op := Op.extract (Operand.tmp 59) 0, type := 48, pos := "auto.go:111", after := #[{ on := 5, ground := Ground.data }], guard := none }
def rgVh32 : Oper := { dst := some 61, op := Op.extract (Operand.tmp 59) 1, type := 4, pos := "auto.go:111", after := #[{ on := 5, ground := Ground.data }], guard := none }
def rgVh33 : Oper := { dst := some 8, op := Op.assign (Operand.tmp 60), type := 48, pos := "auto.go:111", after := #[{ on := 6, ground := Ground.data }, { on := 5, ground := Ground.chain }, { on := 0, ground := Ground.phase }, { on := 1, ground := Ground.phase }, { on := 2, ground := Ground.phase }, { on := 3, ground := Ground.phase }, { on := 4, ground := Ground.phase }, { on := 5, ground := Ground.phase }, { on := 6, ground := Ground.phase }, { on := 7, ground := Ground.phase }], guard := none }
def rgVh34 : Oper := { dst := some 9, op := Op.assign (Operand.tmp 61), type := 4, pos := "auto.go:111", after := #[{ on := 7, ground := Ground.data }, { on := 8, ground := Ground.chain }, { on := 0, ground := Ground.phase }, { on := 1, ground := Ground.phase }, { on := 2, ground := Ground.phase }, { on := 3, ground := Ground.phase }, { on := 4, ground := Ground.phase }, { on := 5, ground := Ground.phase }, { on := 6, ground := Ground.phase }, { on := 7, ground := Ground.phase }, { on := 8, ground := Ground.phase }], guard := none }

set_option maxRecDepth 100000 in
set_option maxHeartbeats 8000000 in
theorem choices_more (j letter : Int) (m : Nat) (IH : Hid (∀ (rest : List (List Int)) (oa ca pv : Option Addr) (oc n cc pd q : Nat) (L : List It) (cs : List Int) (w : World),
      Pers w pv m pd rest → Its w oa oc L → L.length = q → Bag w ca cc cs → rightL cs = true → cs.length = n → q + 2 ^ m ≤ 100000000000 →
      Calls Tryd.prog 55 #[.slice oa q oc, .agg #[.int .i64 j, .slice ca n cc], .slice pv m pd, .int .u64 letter] w (ChI oa L (choicesL j letter rest cs) w)))
    (rest : List (List Int)) (oa ca pv : Option Addr) (oc n cc pd q : Nat) (L : List It) (cs : List Int) (w : World) (P : Pers w pv (m + 1) pd rest) (HI0 : Its w oa oc L) (hq : L.length = q) (HC0 : Bag w ca cc cs) (hr : rightL cs = true) (hn : cs.length = n) (hb : q + 2 ^ (m + 1) ≤ 100000000000) :
    Calls Tryd.prog 55 #[.slice oa q oc, .agg #[.int .i64 j, .slice ca n cc], .slice pv (m + 1) pd, .int .u64 letter] w (ChI oa L (choicesL j letter rest cs) w) := by
  obtain ⟨hrl, hmp, hpm, hP⟩ := P
  obtain ⟨g, k, pc, ps, rfl, hpc, HPB0, hkm, rfl⟩ := hP.resolve_left (by omega)
  have hk : k < ps.length := by omega
  obtain ⟨g', b, d, e1, c00, B0⟩ := HPB0.at hk
  injection e1 with e1; injection e1 with e1; subst e1
  have hlo := HI0.le
  have hlc := HC0.le
  rw [hq] at hlo
  rw [hn] at hlc
  have bb := below_alloc w (.cells #[.int .i64 j, .slice ca n cc] 65)
  have HI := Lib.hid (HI0.below bb)
  have HL := Lib.hid (Lies.new w 65 [.int .i64 j, .slice ca n cc])
  have HCA := Lib.hid (HC0.below bb)
  have HPB := Lib.hid (HPB0.below bb)
  have HOL : Hid (∀ g, oa = some ⟨g, 0, none⟩ → g < w.heap.size) := Lib.hid (fun g e => HI0.lt e)
  have HBW := Lib.hid bb
  have HLK := Lib.hid hq
  have HN := Lib.hid hn
  have HRT := Lib.hid hr
  have hpw : q + 2 ^ m + 2 ^ m ≤ 100000000000 := by rw [Nat.pow_succ] at hb; omega
  have HPW := Lib.hid hpw
  have hrd : ps.drop k = ps.getD k [] :: ps.drop (k + 1) := by
    rw [List.drop_eq_getElem_cons hk]; simp [List.getD, hk]
  have HDL : Hid ((ps.drop (k + 1)).length = m) := Lib.hid (by rw [List.length_drop]; omega)
  have HCH : Hid (choicesL j letter (ps.drop k) cs = choicesL j letter (ps.getD k [] :: ps.drop (k + 1)) cs) := Lib.hid (by rw [hrd])
  generalize choicesL j letter (ps.drop k) cs = ch at HCH ⊢
  have hpl := B0.le
  have hgl := HPB0.lt rfl
  have ZA0 : Hid (∀ V, Below w.heap.size w V → Calls Tryd.prog 37 #[.slice ca n cc, .slice b (ps.getD k []).length d] V (Makes2 (addS cs (ps.getD k [])) (addOk cs (ps.getD k [])) V)) := Lib.hid (fun V h => by
    have Z := add10 ca b cc d cs (ps.getD k []) V (HC0.below h) (B0.below h)
    rwa [hn] at Z)
  clear hpw hb hrd B0 HC0 HI0 HPB0 hq hn hr hP
  generalize hu : (ps.getD k []).length = u at c00 hpl ZA0
  generalize ps.getD k [] = p at ZA0 HCH
  have HST : Hid (addOk cs p = true → addS cs p = addT cs p ∧ rightL (addT cs p) = true) := Lib.hid (fun h => ⟨by unfold addS; rw [if_pos h], addT_right h⟩)
  generalize hok : addOk cs p = ok at ZA0 HST
  have HOK := Lib.hid hok
  generalize hsum : addS cs p = sum at ZA0 HST
  clear hok hu hsum
  have HPCK := Lib.hid hpc
  have HKM := Lib.hid hkm
  clear hpc hkm
  have i1 : (0 : Int) < (m : Int) + 1 := by omega
  have i4 : (1 : Int) ≤ (m : Int) + 1 := by omega
  have i2 : ¬ ((m : Int) + 1 = 0) := by omega
  have i3 : ((m : Int) + 1 == 0) = false := by simp; omega
  go_enter Tryd.func55, Tryd.ntmps55
  go_upto_region 5 with (fail)
  have c0 : (w.alloc (.cells #[.int .i64 j, .slice ca n cc] 65)).cell? ⟨g, k, none⟩ = some (.slice b u d) := (bb.cell (p := ⟨g, k, none⟩) hgl).trans c00
  clear bb c00
  generalize w.alloc (.cells #[.int .i64 j, .slice ca n cc] 65) = W at HI HL HCA HPB HBW c0 ⊢
  have hsw := HBW.out.size
  have ZA : Hid (∀ V, Below W.heap.size W V → Calls Tryd.prog 37 #[.slice ca n cc, .slice b u d] V (Makes2 sum ok V)) := Lib.hid (fun V h => ZA0.out V (HBW.out.trans (h.mono hsw)))
  generalize hg : w.heap.size = gb at HL hgl hsw ⊢
  have HG := Lib.hid hg
  have HOL : Hid (∀ g, oa = some ⟨g, 0, none⟩ → g < gb) := Lib.hid (fun g e => by rw [← hg]; exact HOL.out g e)
  clear hg ZA0
  have x1 : W.cell? ⟨gb, 1, none⟩ = some (.slice ca n cc) := HL.out.cell 1
  have ltb := HL.out.lt
  have ltg : g < W.heap.size := by omega
  have bd : Below W.heap.size W W.drew := ⟨rfl, rfl, rfl, Nat.le_refl _, fun _ _ => rfl⟩
  refine wp_region_held_drew (S := fun w' => Below W.heap.size W w') (by kernel_rfl) bd (fun hHeld => ?_)
  clear hHeld
  refine tkY 0 rgVh0 (v := ?_) rfl bd ?_ ?_
  rotate_left
  · intro w hSw
    simp only [rgVh0]; go_simp
    try with_reducible rfl
  try simp only [rgVh0, Act.put, pA, pB, pC]
  refine tkY 1 rgVh1 (v := ?_) rfl bd ?_ ?_
  rotate_left
  · intro w hSw
    have f1 := (hSw.cell (p := ⟨gb, 1, none⟩) ltb).trans x1
    have f2 := (hSw.cell (p := ⟨g, k, none⟩) ltg).trans c0
    simp only [rgVh1]; go_simp
    try with_reducible rfl
  try simp only [rgVh1, Act.put, pA, pB, pC]
  refine tkY 2 rgVh2 (v := ?_) rfl bd ?_ ?_
  rotate_left
  · intro w hSw
    simp only [rgVh2]; go_simp
    try with_reducible rfl
  try simp only [rgVh2, Act.put, pA, pB, pC]
  refine tkY 3 rgVh3 (v := ?_) rfl bd ?_ ?_
  rotate_left
  · intro w hSw
    simp only [rgVh3]; go_simp
    try with_reducible rfl
  try simp only [rgVh3, Act.put, pA, pB, pC]
  refine tkY 4 rgVh4 (v := ?_) rfl bd ?_ ?_
  rotate_left
  · intro w hSw
    have f1 := (hSw.cell (p := ⟨gb, 1, none⟩) ltb).trans x1
    have f2 := (hSw.cell (p := ⟨g, k, none⟩) ltg).trans c0
    simp only [rgVh4]; go_simp
    try with_reducible rfl
  try simp only [rgVh4, Act.put, pA, pB, pC]
  refine wpAnyH_ready (rs := [5]) (by kernel_rfl) (by simp) ?_
  refine AllReadyH.cons (o := rgVh5) rfl (fun K hK => ?_) AllReadyH.nil
  simp only [rgVh5]; go_simp
  refine (ZA.out _ bd).mono ?_
  rintro e V1 ⟨a1, c1, rfl, B1, f1, d1⟩
  have b1 : Below W.heap.size W V1 := bd.trans (d1.mono bd.size)
  have hl1 := B1.le
  have HS1 := Lib.hid B1
  generalize hsl : sum.length = sl at hl1 ⊢
  have HSL := Lib.hid hsl
  clear B1 hsl f1
  go_wp2_with (fail)
  refine hK.out _ _ b1 (fun hHeld => ?_)
  clear hK K hHeld
  try simp only [rgVh5, Act.put, pA, pB, pC]
  refine tkY 6 rgVh6 (v := ?_) rfl b1 ?_ ?_
  rotate_left
  · intro w hSw
    simp only [rgVh6]; go_simp
    try with_reducible rfl
  try simp only [rgVh6, Act.put, pA, pB, pC]
  refine tkY 7 rgVh7 (v := ?_) rfl b1 ?_ ?_
  rotate_left
  · intro w hSw
    simp only [rgVh7]; go_simp
    try with_reducible rfl
  try simp only [rgVh7, Act.put, pA, pB, pC]
  refine tkY 8 rgVh8 (v := ?_) rfl b1 ?_ ?_
  rotate_left
  · intro w hSw
    simp only [rgVh8]; go_simp
    try with_reducible rfl
  try simp only [rgVh8, Act.put, pA, pB, pC]
  refine tkY 9 rgVh9 (v := ?_) rfl b1 ?_ ?_
  rotate_left
  · intro w hSw
    simp only [rgVh9]; go_simp
    try with_reducible rfl
  try simp only [rgVh9, Act.put, pA, pB, pC]
  refine tkY 10 rgVh10 (v := ?_) rfl b1 ?_ ?_
  rotate_left
  · intro w hSw
    simp only [rgVh10]; go_simp
    try with_reducible rfl
  try simp only [rgVh10, Act.put, pA, pB, pC]
  refine wpAnyH_done (by kernel_rfl) ?_ _
  by_cases hpd : pd = 1
  · subst hpd
    obtain rfl : m = 0 := by omega
    cases ok with
    | false =>
      have HF : Hid (ChI oa L ch w (.returned (.tuple #[.slice none 0 0, .bool false])) V1) := Lib.hid (chI_no (by rw [HCH.out]; exact choices_cons_no HOK.out) (Kept.of_below (HBW.out.trans (b1.mono HBW.out.size))))
      clear c0 x1 ltb ltg b1 HS1
      go_wp2
      exact bodyPost_ret (v := .tuple #[.slice none 0 0, .bool false]) (by simp [results, Tryd.results55, go_sem]) rfl HF.out
    | true =>
      have hst := HST.out rfl
      have HRT1 : Hid (rightL sum = true) := Lib.hid (by rw [hst.1]; exact hst.2)
      have HTS : Hid (sum = addT cs p) := Lib.hid hst.1
      have HB1 := Lib.hid (HBW.out.trans (b1.mono HBW.out.size))
      have HI1 := Lib.hid (HI.out.below b1)
      have HL1 := Lib.hid (HL.out.below b1 HL.out.lt)
      have HC1 := Lib.hid (HCA.out.below b1)
      have HP1 := Lib.hid (HPB.out.below b1)
      clear hst c0 x1 ltb ltg b1 HI HL HCA HPB HBW d1 HST
      go_upto_region 8 with (fail)
      have b0 : Below V1.heap.size V1 V1.drew := ⟨rfl, rfl, rfl, Nat.le_refl _, fun _ _ => rfl⟩
      have HB2 := Lib.hid (HB1.out.trans (b0.mono HB1.out.size))
      have HI2 := Lib.hid (HI1.out.below b0)
      have HL2 := HL1.out.below b0 HL1.out.lt
      have HC2 := Lib.hid (HC1.out.below b0)
      have HP2 := Lib.hid (HP1.out.below b0)
      have HS2 := Lib.hid (HS1.out.below b0)
      clear b0 HB1 HI1 HL1 HC1 HP1 HS1
      refine wp_region_held_drew (S := fun V => Lies V gb 65 [.int .i64 j, .slice ca n cc]) (by kernel_rfl) HL2 (fun hHeld => ?_)
      clear hHeld
      generalize V1.drew = W at HB2 HI2 HL2 HC2 HP2 HS2 ⊢
      have HAP : Hid (oa = some ⟨gb, 0, none⟩ → False) := Lib.hid (fun e => by
        have := HOL.out gb e
        omega)
      have HLT0 := Lib.hid HL2.lt
      have HPE : Hid (Pers W (some ⟨g, k, none⟩) 0 0 (ps.drop (k + 1))) := Lib.hid ⟨HDL.out, Nat.le_refl _, Nat.zero_le _, .inl rfl⟩
      generalize ho : choicesL j letter (ps.drop (k + 1)) sum = o
      have HO := Lib.hid ho
      clear ho
      have ZI : Hid (Calls Tryd.prog 55 #[.slice oa q oc, .agg #[.int .i64 j, .slice a1 sl c1], .slice (some ⟨g, k, none⟩) 0 0, .int .u64 letter] W (ChI oa L o W)) := Lib.hid (by
        have h := IH.out (ps.drop (k + 1)) oa a1 (some ⟨g, k, none⟩) oc sl c1 0 q L sum W HPE.out HI2.out HLK.out HS2.out HRT1.out HSL.out (by have := HPW.out; have := Nat.two_pow_pos 0; omega)
        rw [HO.out] at h
        exact h)
      refine tkY 0 rgVh11 (v := ?_) rfl HL2 ?_ ?_
      rotate_left
      · intro w hSw
        simp only [rgVh11]; go_simp
        try with_reducible rfl
      try simp only [rgVh11, Act.put, pA, pB, pC]
      refine tkY 1 rgVh12 (v := ?_) rfl HL2 ?_ ?_
      rotate_left
      · intro w hSw
        simp only [rgVh12]; go_simp
        try with_reducible rfl
      try simp only [rgVh12, Act.put, pA, pB, pC]
      refine tkY 2 rgVh13 (v := ?_) rfl HL2 ?_ ?_
      rotate_left
      · intro w hSw
        have k0 := hSw.cell 0
        have k1 := hSw.cell 1
        simp only [List.getElem?_cons_zero, List.getElem?_cons_succ] at k0 k1
        simp only [rgVh13]; go_simp
        try with_reducible rfl
      try simp only [rgVh13, Act.put, pA, pB, pC]
      refine tkY 3 rgVh14 (v := ?_) rfl HL2 ?_ ?_
      rotate_left
      · intro w hSw
        simp only [rgVh14]; go_simp
        try with_reducible rfl
      try simp only [rgVh14, Act.put, pA, pB, pC]
      refine tkY 4 rgVh15 (v := ?_) rfl HL2 ?_ ?_
      rotate_left
      · intro w hSw
        simp only [rgVh15]; go_simp
        try with_reducible rfl
      try simp only [rgVh15, Act.put, pA, pB, pC]
      refine tkY 5 rgVh16 (v := ?_) rfl HL2 ?_ ?_
      rotate_left
      · intro w hSw
        simp only [rgVh16]; go_simp
        try with_reducible rfl
      try simp only [rgVh16, Act.put, pA, pB, pC]
      refine tkY 6 rgVh17 (v := ?_) rfl HL2 ?_ ?_
      rotate_left
      · intro w hSw
        simp only [rgVh17]; go_simp
        try with_reducible rfl
      try simp only [rgVh17, Act.put, pA, pB, pC]
      refine tkY 7 rgVh18 (v := ?_) rfl HL2 ?_ ?_
      rotate_left
      · intro w hSw
        simp only [rgVh18]; go_simp
        try with_reducible rfl
      try simp only [rgVh18, Act.put, pA, pB, pC]
      refine wpAnyH_ready (rs := [8]) (by kernel_rfl) (by simp) ?_
      refine AllReadyH.cons (o := rgVh19) rfl (fun K hK => ?_) AllReadyH.nil
      simp only [rgVh19]; go_simp
      refine ZI.out.mono ?_
      rintro e V2 ⟨a2, q2, c2, b2, rfl, k2, hc2, hd2, hf2, ht2⟩
      have HL2 : Lies V2 gb 65 [.int .i64 j, .slice ca n cc] := HL2.kept k2 (fun e => by
        have := HAP.out e
        omega)
      have HK2 := Lib.hid k2
      have HF2 := Lib.hid hf2
      have HT2 := Lib.hid ht2
      clear k2 hf2 ht2
      go_wp2_with (fail)
      refine hK.out _ _ HL2 (fun hHeld => ?_)
      clear hK K hHeld
      try simp only [rgVh19, Act.put, pA, pB, pC]
      refine tkY 9 rgVh20 (v := ?_) rfl HL2 ?_ ?_
      rotate_left
      · intro w hSw
        simp only [rgVh20]; go_simp
        try with_reducible rfl
      try simp only [rgVh20, Act.put, pA, pB, pC]
      refine tkY 10 rgVh21 (v := ?_) rfl HL2 ?_ ?_
      rotate_left
      · intro w hSw
        simp only [rgVh21]; go_simp
        try with_reducible rfl
      try simp only [rgVh21, Act.put, pA, pB, pC]
      refine tkY 11 rgVh22 (v := ?_) rfl HL2 ?_ ?_
      rotate_left
      · intro w hSw
        simp only [rgVh22]; go_simp
        try with_reducible rfl
      try simp only [rgVh22, Act.put, pA, pB, pC]
      refine tkY 12 rgVh23 (v := ?_) rfl HL2 ?_ ?_
      rotate_left
      · intro w hSw
        simp only [rgVh23]; go_simp
        try with_reducible rfl
      try simp only [rgVh23, Act.put, pA, pB]
      refine tkY 13 rgVh24 (v := ?_) rfl HL2 ?_ ?_
      rotate_left
      · intro w hSw
        simp only [rgVh24]; go_simp
        try with_reducible rfl
      try simp only [rgVh24, Act.put, pA, pB, pC]
      refine wpAnyH_done (by kernel_rfl) ?_ _
      have hs2 := HK2.out.size
      have HK2w : Hid (MK oa w V2) := Lib.hid ((Kept.of_below HB2.out).trans HK2.out (fun _ _ h => h))
      cases b2 with
      | false =>
        have HF : Hid (ChI oa L ch w (.returned (.tuple #[.slice none 0 0, .bool false])) V2) := Lib.hid (chI_no (by rw [HCH.out]; exact choices_cons_no1 HOK.out (by rw [← HTS.out]; exact HO.out.trans (HF2.out rfl).1)) HK2w.out)
        clear HL2 HT2 HF2
        go_wp2
        exact bodyPost_ret (v := .tuple #[.slice none 0 0, .bool false]) (by simp [results, Tryd.results55, go_sem]) rfl HF.out
      | true =>
        obtain ⟨A, hA, hq2, I2, fr2⟩ := HT2.out rfl
        have HA : Hid (choicesL j letter (ps.drop (k + 1)) (addT cs p) = some A) := Lib.hid (by rw [← HTS.out, HO.out]; exact hA)
        have HQ2 : Hid ((L ++ A).length = q2) := Lib.hid (by rw [List.length_append, hq2])
        have HFR : Hid (∀ g, a2 = some ⟨g, 0, none⟩ → oa = some ⟨g, 0, none⟩ ∨ W.heap.size ≤ g) := Lib.hid fr2
        have HI3 := Lib.hid I2
        have HP3 := Lib.hid (bags_put HI2.out HK2.out HP2.out)
        have HC3 := Lib.hid (bag_put HI2.out HK2.out HC2.out)
        have HQB : Hid (q2 + 2 ^ 0 ≤ 100000000000) := Lib.hid (by
          have h1 := ((choices_spec (ps.drop (k + 1)) (addT cs p)).2 A HA.out).few
          rw [HDL.out] at h1
          have h2 := HPW.out
          have h3 := HLK.out
          have h4 := Nat.two_pow_pos 0
          omega)
        have hgw : gb < W.heap.size := HLT0.out
        have HAP : Hid (a2 = some ⟨gb, 0, none⟩ → False) := Lib.hid (fun e => by
          rcases HFR.out gb e with h | h
          · exact HAP.out h
          · omega)
        clear hA hq2 I2 fr2 HT2 HF2 HI2 HC2 HP2 HS2 HPE ZI
        go_upto_region 11 with (fail)
        have b0 : Below V2.heap.size V2 V2.drew := ⟨rfl, rfl, rfl, Nat.le_refl _, fun _ _ => rfl⟩
        have HK3w := Lib.hid (MK.then HK2w.out b0)
        have HK3 := Lib.hid (MK.then HK2.out b0)
        have HI4 := Lib.hid (HI3.out.below b0)
        have HL3 := HL2.below b0 HL2.lt
        have HC4 := Lib.hid (HC3.out.below b0)
        have HP4 := Lib.hid (HP3.out.below b0)
        clear b0 HI3 HC3 HP3 HK2w HK2 hs2
        refine wp_region_held_drew (S := fun V => Lies V gb 65 [.int .i64 j, .slice ca n cc]) (by kernel_rfl) HL3 (fun hHeld => ?_)
        clear hHeld
        generalize V2.drew = X at HI4 HL3 HC4 HP4 HK3w HK3 ⊢
        have hsx := HK3w.out.size
        have hsx2 := HK3.out.size
        have HPE : Hid (Pers X (some ⟨g, k, none⟩) 0 0 (ps.drop (k + 1))) := Lib.hid ⟨HDL.out, Nat.le_refl _, Nat.zero_le _, .inl rfl⟩
        generalize ho2 : choicesL j letter (ps.drop (k + 1)) cs = o2
        have HO2 := Lib.hid ho2
        clear ho2
        have ZI : Hid (Calls Tryd.prog 55 #[.slice a2 q2 c2, .agg #[.int .i64 j, .slice ca n cc], .slice (some ⟨g, k, none⟩) 0 0, .int .u64 letter] X (ChI a2 (L ++ A) o2 X)) := Lib.hid (by
          have h := IH.out (ps.drop (k + 1)) a2 ca (some ⟨g, k, none⟩) c2 n cc 0 q2 (L ++ A) cs X HPE.out HI4.out HQ2.out HC4.out HRT.out HN.out HQB.out
          rw [HO2.out] at h
          exact h)
        refine tkY 0 rgVh25 (v := ?_) rfl HL3 ?_ ?_
        rotate_left
        · intro w hSw
          simp only [rgVh25]; go_simp
          try with_reducible rfl
        try simp only [rgVh25, Act.put, pA, pB, pC]
        refine tkY 1 rgVh26 (v := ?_) rfl HL3 ?_ ?_
        rotate_left
        · intro w hSw
          have k0 := hSw.cell 0
          have k1 := hSw.cell 1
          simp only [List.getElem?_cons_zero, List.getElem?_cons_succ] at k0 k1
          simp only [rgVh26]; go_simp
          try with_reducible rfl
        try simp only [rgVh26, Act.put, pA, pB, pC]
        refine tkY 2 rgVh27 (v := ?_) rfl HL3 ?_ ?_
        rotate_left
        · intro w hSw
          simp only [rgVh27]; go_simp
          try with_reducible rfl
        try simp only [rgVh27, Act.put, pA, pB, pC]
        refine tkY 3 rgVh28 (v := ?_) rfl HL3 ?_ ?_
        rotate_left
        · intro w hSw
          simp only [rgVh28]; go_simp
          try with_reducible rfl
        try simp only [rgVh28, Act.put, pA, pB, pC]
        refine tkY 4 rgVh29 (v := ?_) rfl HL3 ?_ ?_
        rotate_left
        · intro w hSw
          simp only [rgVh29]; go_simp
          try with_reducible rfl
        try simp only [rgVh29, Act.put, pA, pB, pC]
        refine wpAnyH_ready (rs := [5]) (by kernel_rfl) (by simp) ?_
        refine AllReadyH.cons (o := rgVh30) rfl (fun K hK => ?_) AllReadyH.nil
        simp only [rgVh30]; go_simp
        refine ZI.out.mono ?_
        rintro e V4 ⟨a4, q4, c4, b4, rfl, k4, hc4, hd4, hf4, ht4⟩
        have HL4 : Lies V4 gb 65 [.int .i64 j, .slice ca n cc] := HL3.kept k4 (fun e => by
          have := HAP.out e
          omega)
        have HK4 := Lib.hid k4
        have HF4 := Lib.hid hf4
        have HT4 := Lib.hid ht4
        clear k4 hf4 ht4
        go_wp2_with (fail)
        refine hK.out _ _ HL4 (fun hHeld => ?_)
        clear hK K hHeld
        try simp only [rgVh30, Act.put, pA, pB, pC]
        refine tkY 6 rgVh31 (v := ?_) rfl HL4 ?_ ?_
        rotate_left
        · intro w hSw
          simp only [rgVh31]; go_simp
          try with_reducible rfl
        try simp only [rgVh31, Act.put, pA, pB, pC]
        refine tkY 7 rgVh32 (v := ?_) rfl HL4 ?_ ?_
        rotate_left
        · intro w hSw
          simp only [rgVh32]; go_simp
          try with_reducible rfl
        try simp only [rgVh32, Act.put, pA, pB, pC]
        refine tkY 8 rgVh33 (v := ?_) rfl HL4 ?_ ?_
        rotate_left
        · intro w hSw
          simp only [rgVh33]; go_simp
          try with_reducible rfl
        try simp only [rgVh33, Act.put, pA, pB, pC]
        refine tkY 9 rgVh34 (v := ?_) rfl HL4 ?_ ?_
        rotate_left
        · intro w hSw
          simp only [rgVh34]; go_simp
          try with_reducible rfl
        try simp only [rgVh34, Act.put, pA, pB, pC]
        refine wpAnyH_done (by kernel_rfl) ?_ _
        have HF : Hid (ChI oa L ch w (.returned (.tuple #[.slice a4 q4 c4, .bool b4])) V4) := Lib.hid (by
          refine ⟨a4, q4, c4, b4, rfl, HK3w.out.trans HK4.out (fun i hi e => ?_), hc4, hd4, fun h => ?_, fun h => ?_⟩
          · rcases HFR.out i e with h | h
            · exact h
            · have := HB2.out.size
              omega
          · obtain ⟨e1, e2, e3, e4⟩ := HF4.out h
            exact ⟨by rw [HCH.out]; exact choices_cons_no2 HOK.out HA.out (HO2.out.trans e1), e2, e3, e4⟩
          · obtain ⟨B, e1, e2, e3, e4⟩ := HT4.out h
            refine ⟨A ++ B, by rw [HCH.out]; exact choices_cons_yes HOK.out HA.out (HO2.out.trans e1), ?_, ?_, fun i hi => ?_⟩
            · rw [e2, List.length_append, List.length_append]; omega
            · rw [← List.append_assoc]; exact e3
            · rcases e4 i hi with h | h
              · rcases HFR.out i h with h | h
                · exact .inl h
                · have := HB2.out.size
                  exact .inr (by omega)
              · exact .inr (by omega))
        clear HL4 HT4 HF4 HK4
        go_wp2
        exact bodyPost_ret (v := .tuple #[.slice a4 q4 c4, .bool b4]) (by simp [results, Tryd.results55, go_sem]) rfl HF.out
  · have hpd1 : ¬ (pd : Int) = 1 := by omega
    have hpd2 : (1 : Int) ≤ (pd : Int) := by omega
    have hpd3 : 1 < pd := by omega
    cases ok with
    | false =>
      have HF : Hid (ChI oa L ch w (.returned (.tuple #[.slice none 0 0, .bool false])) V1) := Lib.hid (chI_no (by rw [HCH.out]; exact choices_cons_no HOK.out) (Kept.of_below (HBW.out.trans (b1.mono HBW.out.size))))
      clear c0 x1 ltb ltg b1 HS1
      go_wp2
      exact bodyPost_ret (v := .tuple #[.slice none 0 0, .bool false]) (by simp [results, Tryd.results55, go_sem]) rfl HF.out
    | true =>
      have hst := HST.out rfl
      have HRT1 : Hid (rightL sum = true) := Lib.hid (by rw [hst.1]; exact hst.2)
      have HTS : Hid (sum = addT cs p) := Lib.hid hst.1
      have HB1 := Lib.hid (HBW.out.trans (b1.mono HBW.out.size))
      have HI1 := Lib.hid (HI.out.below b1)
      have HL1 := Lib.hid (HL.out.below b1 HL.out.lt)
      have HC1 := Lib.hid (HCA.out.below b1)
      have HP1 := Lib.hid (HPB.out.below b1)
      clear hst c0 x1 ltb ltg b1 HI HL HCA HPB HBW d1 HST
      go_upto_region 8 with (fail)
      have b0 : Below V1.heap.size V1 V1.drew := ⟨rfl, rfl, rfl, Nat.le_refl _, fun _ _ => rfl⟩
      have HB2 := Lib.hid (HB1.out.trans (b0.mono HB1.out.size))
      have HI2 := Lib.hid (HI1.out.below b0)
      have HL2 := HL1.out.below b0 HL1.out.lt
      have HC2 := Lib.hid (HC1.out.below b0)
      have HP2 := Lib.hid (HP1.out.below b0)
      have HS2 := Lib.hid (HS1.out.below b0)
      clear b0 HB1 HI1 HL1 HC1 HP1 HS1
      refine wp_region_held_drew (S := fun V => Lies V gb 65 [.int .i64 j, .slice ca n cc]) (by kernel_rfl) HL2 (fun hHeld => ?_)
      clear hHeld
      generalize V1.drew = W at HB2 HI2 HL2 HC2 HP2 HS2 ⊢
      have HAP : Hid (oa = some ⟨gb, 0, none⟩ → False) := Lib.hid (fun e => by
        have := HOL.out gb e
        omega)
      have HLT0 := Lib.hid HL2.lt
      have HPE : Hid (Pers W (some ⟨g, k + 1, none⟩) m (pd - 1) (ps.drop (k + 1))) := Lib.hid ⟨HDL.out, by omega, by omega, .inr ⟨g, k + 1, pc, ps, rfl, by have := HPCK.out; omega, HP2.out, by have := HKM.out; omega, rfl⟩⟩
      generalize ho : choicesL j letter (ps.drop (k + 1)) sum = o
      have HO := Lib.hid ho
      clear ho
      have ZI : Hid (Calls Tryd.prog 55 #[.slice oa q oc, .agg #[.int .i64 j, .slice a1 sl c1], .slice (some ⟨g, k + 1, none⟩) m (pd - 1), .int .u64 letter] W (ChI oa L o W)) := Lib.hid (by
        have h := IH.out (ps.drop (k + 1)) oa a1 (some ⟨g, k + 1, none⟩) oc sl c1 (pd - 1) q L sum W HPE.out HI2.out HLK.out HS2.out HRT1.out HSL.out (by have := HPW.out; have := Nat.two_pow_pos m; omega)
        rw [HO.out] at h
        exact h)
      refine tkY 0 rgVh11 (v := ?_) rfl HL2 ?_ ?_
      rotate_left
      · intro w hSw
        simp only [rgVh11]; go_simp
        try with_reducible rfl
      try simp only [rgVh11, Act.put, pA, pB, pC]
      refine tkY 1 rgVh12 (v := ?_) rfl HL2 ?_ ?_
      rotate_left
      · intro w hSw
        simp only [rgVh12]; go_simp
        try with_reducible rfl
      try simp only [rgVh12, Act.put, pA, pB, pC]
      refine tkY 2 rgVh13 (v := ?_) rfl HL2 ?_ ?_
      rotate_left
      · intro w hSw
        have k0 := hSw.cell 0
        have k1 := hSw.cell 1
        simp only [List.getElem?_cons_zero, List.getElem?_cons_succ] at k0 k1
        simp only [rgVh13]; go_simp
        try with_reducible rfl
      try simp only [rgVh13, Act.put, pA, pB, pC]
      refine tkY 3 rgVh14 (v := ?_) rfl HL2 ?_ ?_
      rotate_left
      · intro w hSw
        simp only [rgVh14]; go_simp
        try with_reducible rfl
      try simp only [rgVh14, Act.put, pA, pB, pC]
      refine tkY 4 rgVh15 (v := ?_) rfl HL2 ?_ ?_
      rotate_left
      · intro w hSw
        simp only [rgVh15]; go_simp
        try with_reducible rfl
      try simp only [rgVh15, Act.put, pA, pB, pC]
      refine tkY 5 rgVh16 (v := ?_) rfl HL2 ?_ ?_
      rotate_left
      · intro w hSw
        simp only [rgVh16]; go_simp
        try with_reducible rfl
      try simp only [rgVh16, Act.put, pA, pB, pC]
      refine tkY 6 rgVh17 (v := ?_) rfl HL2 ?_ ?_
      rotate_left
      · intro w hSw
        simp only [rgVh17]; go_simp
        try with_reducible rfl
      try simp only [rgVh17, Act.put, pA, pB, pC]
      refine tkY 7 rgVh18 (v := ?_) rfl HL2 ?_ ?_
      rotate_left
      · intro w hSw
        simp only [rgVh18]; go_simp
        try with_reducible rfl
      try simp only [rgVh18, Act.put, pA, pB, pC]
      refine wpAnyH_ready (rs := [8]) (by kernel_rfl) (by simp) ?_
      refine AllReadyH.cons (o := rgVh19) rfl (fun K hK => ?_) AllReadyH.nil
      simp only [rgVh19]; go_simp
      refine ZI.out.mono ?_
      rintro e V2 ⟨a2, q2, c2, b2, rfl, k2, hc2, hd2, hf2, ht2⟩
      have HL2 : Lies V2 gb 65 [.int .i64 j, .slice ca n cc] := HL2.kept k2 (fun e => by
        have := HAP.out e
        omega)
      have HK2 := Lib.hid k2
      have HF2 := Lib.hid hf2
      have HT2 := Lib.hid ht2
      clear k2 hf2 ht2
      go_wp2_with (fail)
      refine hK.out _ _ HL2 (fun hHeld => ?_)
      clear hK K hHeld
      try simp only [rgVh19, Act.put, pA, pB, pC]
      refine tkY 9 rgVh20 (v := ?_) rfl HL2 ?_ ?_
      rotate_left
      · intro w hSw
        simp only [rgVh20]; go_simp
        try with_reducible rfl
      try simp only [rgVh20, Act.put, pA, pB, pC]
      refine tkY 10 rgVh21 (v := ?_) rfl HL2 ?_ ?_
      rotate_left
      · intro w hSw
        simp only [rgVh21]; go_simp
        try with_reducible rfl
      try simp only [rgVh21, Act.put, pA, pB, pC]
      refine tkY 11 rgVh22 (v := ?_) rfl HL2 ?_ ?_
      rotate_left
      · intro w hSw
        simp only [rgVh22]; go_simp
        try with_reducible rfl
      try simp only [rgVh22, Act.put, pA, pB, pC]
      refine tkY 12 rgVh23 (v := ?_) rfl HL2 ?_ ?_
      rotate_left
      · intro w hSw
        simp only [rgVh23]; go_simp
        try with_reducible rfl
      try simp only [rgVh23, Act.put, pA, pB]
      refine tkY 13 rgVh24 (v := ?_) rfl HL2 ?_ ?_
      rotate_left
      · intro w hSw
        simp only [rgVh24]; go_simp
        try with_reducible rfl
      try simp only [rgVh24, Act.put, pA, pB, pC]
      refine wpAnyH_done (by kernel_rfl) ?_ _
      have hs2 := HK2.out.size
      have HK2w : Hid (MK oa w V2) := Lib.hid ((Kept.of_below HB2.out).trans HK2.out (fun _ _ h => h))
      cases b2 with
      | false =>
        have HF : Hid (ChI oa L ch w (.returned (.tuple #[.slice none 0 0, .bool false])) V2) := Lib.hid (chI_no (by rw [HCH.out]; exact choices_cons_no1 HOK.out (by rw [← HTS.out]; exact HO.out.trans (HF2.out rfl).1)) HK2w.out)
        clear HL2 HT2 HF2
        go_wp2
        exact bodyPost_ret (v := .tuple #[.slice none 0 0, .bool false]) (by simp [results, Tryd.results55, go_sem]) rfl HF.out
      | true =>
        obtain ⟨A, hA, hq2, I2, fr2⟩ := HT2.out rfl
        have HA : Hid (choicesL j letter (ps.drop (k + 1)) (addT cs p) = some A) := Lib.hid (by rw [← HTS.out, HO.out]; exact hA)
        have HQ2 : Hid ((L ++ A).length = q2) := Lib.hid (by rw [List.length_append, hq2])
        have HFR : Hid (∀ g, a2 = some ⟨g, 0, none⟩ → oa = some ⟨g, 0, none⟩ ∨ W.heap.size ≤ g) := Lib.hid fr2
        have HI3 := Lib.hid I2
        have HP3 := Lib.hid (bags_put HI2.out HK2.out HP2.out)
        have HC3 := Lib.hid (bag_put HI2.out HK2.out HC2.out)
        have HQB : Hid (q2 + 2 ^ m ≤ 100000000000) := Lib.hid (by
          have h1 := ((choices_spec (ps.drop (k + 1)) (addT cs p)).2 A HA.out).few
          rw [HDL.out] at h1
          have h2 := HPW.out
          have h3 := HLK.out
          have h4 := Nat.two_pow_pos m
          omega)
        have hgw : gb < W.heap.size := HLT0.out
        have HAP : Hid (a2 = some ⟨gb, 0, none⟩ → False) := Lib.hid (fun e => by
          rcases HFR.out gb e with h | h
          · exact HAP.out h
          · omega)
        clear hA hq2 I2 fr2 HT2 HF2 HI2 HC2 HP2 HS2 HPE ZI
        go_upto_region 11 with (fail)
        have b0 : Below V2.heap.size V2 V2.drew := ⟨rfl, rfl, rfl, Nat.le_refl _, fun _ _ => rfl⟩
        have HK3w := Lib.hid (MK.then HK2w.out b0)
        have HK3 := Lib.hid (MK.then HK2.out b0)
        have HI4 := Lib.hid (HI3.out.below b0)
        have HL3 := HL2.below b0 HL2.lt
        have HC4 := Lib.hid (HC3.out.below b0)
        have HP4 := Lib.hid (HP3.out.below b0)
        clear b0 HI3 HC3 HP3 HK2w HK2 hs2
        refine wp_region_held_drew (S := fun V => Lies V gb 65 [.int .i64 j, .slice ca n cc]) (by kernel_rfl) HL3 (fun hHeld => ?_)
        clear hHeld
        generalize V2.drew = X at HI4 HL3 HC4 HP4 HK3w HK3 ⊢
        have hsx := HK3w.out.size
        have hsx2 := HK3.out.size
        have HPE : Hid (Pers X (some ⟨g, k + 1, none⟩) m (pd - 1) (ps.drop (k + 1))) := Lib.hid ⟨HDL.out, by omega, by omega, .inr ⟨g, k + 1, pc, ps, rfl, by have := HPCK.out; omega, HP4.out, by have := HKM.out; omega, rfl⟩⟩
        generalize ho2 : choicesL j letter (ps.drop (k + 1)) cs = o2
        have HO2 := Lib.hid ho2
        clear ho2
        have ZI : Hid (Calls Tryd.prog 55 #[.slice a2 q2 c2, .agg #[.int .i64 j, .slice ca n cc], .slice (some ⟨g, k + 1, none⟩) m (pd - 1), .int .u64 letter] X (ChI a2 (L ++ A) o2 X)) := Lib.hid (by
          have h := IH.out (ps.drop (k + 1)) a2 ca (some ⟨g, k + 1, none⟩) c2 n cc (pd - 1) q2 (L ++ A) cs X HPE.out HI4.out HQ2.out HC4.out HRT.out HN.out HQB.out
          rw [HO2.out] at h
          exact h)
        refine tkY 0 rgVh25 (v := ?_) rfl HL3 ?_ ?_
        rotate_left
        · intro w hSw
          simp only [rgVh25]; go_simp
          try with_reducible rfl
        try simp only [rgVh25, Act.put, pA, pB, pC]
        refine tkY 1 rgVh26 (v := ?_) rfl HL3 ?_ ?_
        rotate_left
        · intro w hSw
          have k0 := hSw.cell 0
          have k1 := hSw.cell 1
          simp only [List.getElem?_cons_zero, List.getElem?_cons_succ] at k0 k1
          simp only [rgVh26]; go_simp
          try with_reducible rfl
        try simp only [rgVh26, Act.put, pA, pB, pC]
        refine tkY 2 rgVh27 (v := ?_) rfl HL3 ?_ ?_
        rotate_left
        · intro w hSw
          simp only [rgVh27]; go_simp
          try with_reducible rfl
        try simp only [rgVh27, Act.put, pA, pB, pC]
        refine tkY 3 rgVh28 (v := ?_) rfl HL3 ?_ ?_
        rotate_left
        · intro w hSw
          simp only [rgVh28]; go_simp
          try with_reducible rfl
        try simp only [rgVh28, Act.put, pA, pB, pC]
        refine tkY 4 rgVh29 (v := ?_) rfl HL3 ?_ ?_
        rotate_left
        · intro w hSw
          simp only [rgVh29]; go_simp
          try with_reducible rfl
        try simp only [rgVh29, Act.put, pA, pB, pC]
        refine wpAnyH_ready (rs := [5]) (by kernel_rfl) (by simp) ?_
        refine AllReadyH.cons (o := rgVh30) rfl (fun K hK => ?_) AllReadyH.nil
        simp only [rgVh30]; go_simp
        refine ZI.out.mono ?_
        rintro e V4 ⟨a4, q4, c4, b4, rfl, k4, hc4, hd4, hf4, ht4⟩
        have HL4 : Lies V4 gb 65 [.int .i64 j, .slice ca n cc] := HL3.kept k4 (fun e => by
          have := HAP.out e
          omega)
        have HK4 := Lib.hid k4
        have HF4 := Lib.hid hf4
        have HT4 := Lib.hid ht4
        clear k4 hf4 ht4
        go_wp2_with (fail)
        refine hK.out _ _ HL4 (fun hHeld => ?_)
        clear hK K hHeld
        try simp only [rgVh30, Act.put, pA, pB, pC]
        refine tkY 6 rgVh31 (v := ?_) rfl HL4 ?_ ?_
        rotate_left
        · intro w hSw
          simp only [rgVh31]; go_simp
          try with_reducible rfl
        try simp only [rgVh31, Act.put, pA, pB, pC]
        refine tkY 7 rgVh32 (v := ?_) rfl HL4 ?_ ?_
        rotate_left
        · intro w hSw
          simp only [rgVh32]; go_simp
          try with_reducible rfl
        try simp only [rgVh32, Act.put, pA, pB, pC]
        refine tkY 8 rgVh33 (v := ?_) rfl HL4 ?_ ?_
        rotate_left
        · intro w hSw
          simp only [rgVh33]; go_simp
          try with_reducible rfl
        try simp only [rgVh33, Act.put, pA, pB, pC]
        refine tkY 9 rgVh34 (v := ?_) rfl HL4 ?_ ?_
        rotate_left
        · intro w hSw
          simp only [rgVh34]; go_simp
          try with_reducible rfl
        try simp only [rgVh34, Act.put, pA, pB, pC]
        refine wpAnyH_done (by kernel_rfl) ?_ _
        have HF : Hid (ChI oa L ch w (.returned (.tuple #[.slice a4 q4 c4, .bool b4])) V4) := Lib.hid (by
          refine ⟨a4, q4, c4, b4, rfl, HK3w.out.trans HK4.out (fun i hi e => ?_), hc4, hd4, fun h => ?_, fun h => ?_⟩
          · rcases HFR.out i e with h | h
            · exact h
            · have := HB2.out.size
              omega
          · obtain ⟨e1, e2, e3, e4⟩ := HF4.out h
            exact ⟨by rw [HCH.out]; exact choices_cons_no2 HOK.out HA.out (HO2.out.trans e1), e2, e3, e4⟩
          · obtain ⟨B, e1, e2, e3, e4⟩ := HT4.out h
            refine ⟨A ++ B, by rw [HCH.out]; exact choices_cons_yes HOK.out HA.out (HO2.out.trans e1), ?_, ?_, fun i hi => ?_⟩
            · rw [e2, List.length_append, List.length_append]; omega
            · rw [← List.append_assoc]; exact e3
            · rcases e4 i hi with h | h
              · rcases HFR.out i h with h | h
                · exact .inl h
                · have := HB2.out.size
                  exact .inr (by omega)
              · exact .inr (by omega))
        clear HL4 HT4 HF4 HK4
        go_wp2
        exact bodyPost_ret (v := .tuple #[.slice a4 q4 c4, .bool b4]) (by simp [results, Tryd.results55, go_sem]) rfl HF.out
/-- What choices comes to, whatever the periods. -/
theorem choices68 (j letter : Int) : ∀ (m : Nat) (rest : List (List Int)) (oa ca pv : Option Addr) (oc n cc pd q : Nat) (L : List It) (cs : List Int) (w : World),
    Pers w pv m pd rest → Its w oa oc L → L.length = q → Bag w ca cc cs → rightL cs = true → cs.length = n → q + 2 ^ m ≤ 100000000000 →
    Calls Tryd.prog 55 #[.slice oa q oc, .agg #[.int .i64 j, .slice ca n cc], .slice pv m pd, .int .u64 letter] w (ChI oa L (choicesL j letter rest cs) w)
  | 0, rest, oa, ca, pv, oc, n, cc, pd, q, L, cs, w, P, HI0, hq, HC0, hr, hn, hb => by
    obtain rfl : rest = [] := List.eq_nil_of_length_eq_zero P.1
    exact choices_zero j letter oa ca pv oc n cc pd q L cs w HI0 hq HC0 hr hn hb
  | m + 1, rest, oa, ca, pv, oc, n, cc, pd, q, L, cs, w, P, HI0, hq, HC0, hr, hn, hb =>
    choices_more j letter m (Lib.hid (choices68 j letter m)) rest oa ca pv oc n cc pd q L cs w P HI0 hq HC0 hr hn hb
end Go.Proofs.YtmefmnpmppdpmabDoor

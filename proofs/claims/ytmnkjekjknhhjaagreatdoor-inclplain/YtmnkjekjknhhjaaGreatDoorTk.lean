/- Plain words: the items of a thin set stay small, so there are not many of them. -/
import Derived.Test.YtmnkjekjknhhjaaGreatDoorNn
import Derived.Test.YtmnkjekjknhhjaaGreatDoorQPd
import Derived.Test.YtmnkjekjknhhjaaGreatDoorDe
import Derived.Test.YtmnkjekjknhhjaaGreatDoorCk
import Derived.Test.YtmnkjekjknhhjaaGreatDoorOc
import Derived.Test.YtmnkjekjknhhjaaGreatDoorTc
import Derived.Test.YtmnkjekjknhhjaaGreatDoorTq

/-! columbaryplay.Semi: a right set of at most six linear sets, none of them too great. -/
namespace Go.Proofs.YtmnkjekjknhhjaaGreatDoor
open Go.ChangeShapes Go.WideShapes Go.ChangeAt Go.RowKit


theorem Lins.cut {w : World} {a : Option Addr} {c : Nat} {s : List Lin} (h : Lins w a c s) {k : Nat} (hk : k ≤ s.length) : Lins w a c (s.take k) := by
  obtain ⟨ls, e, P⟩ := h
  have hl : ls.length = s.length := by rw [← e, lins_len]
  have hk' : (ls.take k).length = k := by rw [List.length_take]; omega
  refine ⟨ls.take k, by rw [← e]; simp [lins, List.map_take], ?_, fun l hl => P.each l (List.mem_of_mem_take hl)⟩
  have := P.row.cut (k := k) (by omega)
  rw [hk']
  rwa [lflat_take] at this
end Go.Proofs.YtmnkjekjknhhjaaGreatDoor

/-! columbaryplay.Semi: a right set of at most six linear sets, of few periods and small numbers. -/
namespace Go.Proofs.YtmnkjekjknhhjaaGreatDoor
open Go.ChangeShapes Go.WideShapes Go.ChangeAt Go.RowKit

/-- A right set of at most six, at most eight periods each, no number above 45. -/
structure Thin (s : List Lin) : Prop where
  rise : RiseS s
  each : ∀ x ∈ s, Slim 45 8 x
  few : s.length ≤ 6
theorem thin_take {K : Nat} (hK : K ≤ 9) {s : List Lin} (h : Wide K s) : Thin (s.take 6) :=
  ⟨⟨fun z hz => h.rise.1 z (List.mem_of_mem_take hz), h.rise.2.sublist (List.take_sublist _ _)⟩, fun x hx => (h.each x (List.mem_of_mem_take hx)).more (by omega) (Nat.le_trans (pc_mono hK) (by decide)), by rw [List.length_take]; omega⟩
theorem thin_nil : Thin [] := ⟨riseS_nil, fun x h => by simp at h, Nat.zero_le _⟩
/-- What Semi comes to. -/
def SemiThin (w : World) (e : Ending) (w' : World) : Prop := ∃ sa sc s, e = .returned (.slice sa (s : List Lin).length sc) ∧ Lins w' sa sc s ∧ Thin s ∧ Below w.heap.size w w'
set_option maxRecDepth 100000 in
set_option maxHeartbeats 2000000 in
theorem semi18w (a : Option Addr) (len cap : Nat) (zs : List Int) (w : World) (K0 : Hid (Came w a len cap zs)) :
    Calls Tryz.prog 9 #[.slice a len cap] w (SemiThin w) := by
  have hK := K0.out
  obtain ⟨hlen, hcap, hz⟩ : len ≤ 9223372036854775807 ∧ len ≤ cap ∧ len ≤ zs.length := ⟨hK.1, hK.2.2.1, hK.2.2.2.1⟩
  clear hK
  go_enter Tryz.func9, Tryz.ntmps9
  go_wp2_with (fail)
  refine (rnew_any 3000 w).mono ?_
  rintro e w1 ⟨rfl, m1, b1, _⟩
  have HK1 := Lib.hid (K0.out.below b1)
  have HM1 := Lib.hid m1
  have HB1 := Lib.hid b1
  clear m1 b1
  have Z := cut9i a len cap zs w1 HK1.out.1 HK1.out.2.1 HK1.out.2.2.1 HK1.out.2.2.2.1 (Lib.hid HK1.out.2.2.2.2)
  have HZ := Lib.hid Z
  clear Z
  go_wp2_with (fail)
  refine HZ.out.mono ?_
  rintro e w2 ⟨a2, c2, rfl, B2, f2, b2⟩
  have hxl : (zs.take (min len 9)).length ≤ 9 := by rw [List.length_take]; omega
  have HR2 : Hid (∀ k, k < (zs.take (min len 9)).length → RowAt w2 a2 (zs.take (min len 9)) k) := Lib.hid (fun k hk => by
    obtain ⟨g, e, hc⟩ := B2.at hk
    have hk2 : k < len := by rw [List.length_take] at hk; omega
    obtain ⟨b, off, _, _, _, h1, h2⟩ := HK1.out.2.2.2.2 k hk2
    have e2 : (zs.take (min len 9)).getD k 0 = zs.getD k 0 := by
      rw [List.length_take] at hk
      rw [List.getD_eq_getElem?_getD, List.getD_eq_getElem?_getD, List.getElem?_take, if_pos (by omega)]
    refine ⟨g, 0, e, by rw [Nat.zero_add]; exact hc, B2.lt e, ?_, ?_⟩ <;> rw [e2] <;> assumption)
  have HB2 := Lib.hid (HB1.out.trans (b2.mono HB1.out.size))
  have HM2 := Lib.hid (HM1.out.below b2)
  have hb2 := B2.le
  clear B2 f2 b2 HZ
  generalize zs.take (min len 9) = xs at HR2 hxl hb2 ⊢
  have Z := Q.pattern_sh a2 xs.length c2 xs w2 (by omega) HR2
  generalize xs.length = xl at Z hxl hb2 ⊢
  have HZ := Lib.hid Z
  clear Z HR2
  go_wp2_with (fail)
  refine HZ.out.mono ?_
  rintro e w3 ⟨a3, c3, ns, rfl, P3, hc, h1, h24, _, _, b3, S3⟩
  obtain ⟨x, hx, W3⟩ := normM_wide (T := 4) (by omega) (by omega) hc S3
  have hK9 : max 1 xl ≤ 9 := by omega
  have HTH : Hid (∃ s q S' o', normM (some (3000, 0, false)) ns 4 = (s, q, some (3000, S', o')) ∧ Thin (s.take 6)) := Lib.hid (by
    have bd := normM_bound (T := 4) (by omega) (by omega) hc h1 h24 (B := 3000) (by omega)
    by_cases hco : costGo ns [] ≤ 3000
    · have e := bd.1 hco
      rw [hx] at e
      exact ⟨_, _, _, _, e, thin_take hK9 W3⟩
    · obtain ⟨S', e⟩ := bd.2 hco
      exact ⟨_, _, _, _, e, thin_nil⟩)
  have HB3 := Lib.hid (HB2.out.trans (b3.mono HB2.out.size))
  have HM3 := Lib.hid (HM2.out.below b3)
  have Z := norm47x 4 (some ⟨w.heap.size, 0, none⟩) a3 c3 ns (some (3000, 0, false)) w3 ⟨w.heap.size, rfl, HM3.out, by omega, by omega, by omega⟩ (Option.some_ne_none _) P3 hc (by omega) (by omega) h1 h24
  obtain ⟨s, q, S', o', hns, TH⟩ := HTH.out
  rw [hns] at Z
  have hp3 := P3.le
  generalize ns.length = nl at Z hp3 h24 ⊢
  have HZ2 := Lib.hid Z
  clear Z P3 hc h1 b3 HZ
  go_wp2_with (fail)
  refine HZ2.out.mono ?_
  rintro e w4 ⟨sa, sc, rfl, L4, _, k4⟩
  have HB4 : Hid (Below w.heap.size w w4) := Lib.hid (HB3.out.trans (k4.below (fun g e => by injection e with e; injection e with e; omega) HB3.out.size))
  have HL4 := Lib.hid L4
  have HG4 := Lib.hid TH
  have hl4 := L4.le
  clear L4 TH hns k4 HZ2 HTH hx W3 S3
  generalize hsl : s.length = sl at hl4 ⊢
  have HSL := Lib.hid hsl
  clear hsl
  by_cases h6 : 6 < sl
  · have HF : Hid (SemiThin w (.returned (.slice sa 6 sc)) w4) := Lib.hid (by
      have e : (s.take 6).length = 6 := by rw [List.length_take, HSL.out]; omega
      exact ⟨sa, sc, s.take 6, by rw [e], HL4.out.cut (by rw [HSL.out]; omega), HG4.out, HB4.out⟩)
    have h6c : 6 ≤ sc := by omega
    have h6i : (6 : Int) < (sl : Int) := by omega
    go_wp2
    go_ret
    exact HF.out
  · have HF : Hid (SemiThin w (.returned (.slice sa sl sc)) w4) := Lib.hid (by
      have e : s.take 6 = s := List.take_of_length_le (by rw [HSL.out]; omega)
      have g := HG4.out
      rw [e] at g
      exact ⟨sa, sc, s, by rw [HSL.out], HL4.out, g, HB4.out⟩)
    have h6i : ¬ (6 : Int) < (sl : Int) := by omega
    go_wp2
    go_ret
    exact HF.out
end Go.Proofs.YtmnkjekjknhhjaaGreatDoor

/-! Plain words: the items of a thin set stay small, so there are not many of them. -/
namespace Go.Proofs.YtmnkjekjknhhjaaGreatDoor
open Go.ChangeShapes Go.WideShapes Go.ChangeAt Go.RowKit

theorem right_ext {a b : List Int} (ha : rightL a = true) (hb : rightL b = true) (h : ∀ t, a.getD t 0 = b.getD t 0) : a = b := by
  refine ext_getD ?_ (fun j _ => h j)
  by_cases h1 : a.length < b.length
  · have h2 := right_last hb (by omega)
    rw [← h, getD_past (by omega)] at h2
    exact absurd rfl h2
  · by_cases h3 : b.length < a.length
    · have h2 := right_last ha (by omega)
      rw [h, getD_past (by omega)] at h2
      exact absurd rfl h2
    · omega
theorem short_of {a : List Int} (ha : rightL a = true) {k : Nat} (h : ∀ t, k ≤ t → a.getD t 0 = 0) : a.length ≤ k := by
  by_cases h1 : k < a.length
  · exact absurd (h _ (by omega)) (right_last ha (by omega))
  · omega
theorem sumAt_le (t : Nat) : ∀ (ps : List (List Int)) (m : Nat), (∀ p ∈ ps, rightL p = true) → 0 ≤ sumAt ps m t ∧ sumAt ps m t ≤ psum ps t
  | [], _, _ => ⟨Int.le_refl _, Int.le_refl _⟩
  | p :: r, m, h => by
    have ih := sumAt_le t r (m / 2) (fun q hq => h q (List.mem_cons_of_mem _ hq))
    have hp := (right_at (h p (by simp)) t).1
    unfold sumAt
    rw [psum_cons]
    split <;> omega
theorem sumAt_zero (t : Nat) : ∀ (ps : List (List Int)) (m : Nat), (∀ p ∈ ps, p.length ≤ t) → sumAt ps m t = 0
  | [], _, _ => rfl
  | p :: r, m, h => by
    have ih := sumAt_zero t r (m / 2) (fun q hq => h q (List.mem_cons_of_mem _ hq))
    have hp := getD_past (l := p) (j := t) (h p (by simp))
    unfold sumAt
    rw [ih, hp]
    simp
/-- An item of a thin set: four tags, no number above 45. -/
structure ItOk (s : List Lin) (x : It) : Prop where
  lo : 0 ≤ x.j
  hi : x.j < (s.length : Int)
  small : Small 45 x.c
  len : x.c.length ≤ 4
theorem lin_mem {s : List Lin} {x : It} (h : ItOk s x) : linAt s x.j.toNat ∈ s := by
  have h1 := h.lo
  have h2 := h.hi
  have hk : x.j.toNat < s.length := by omega
  have e : linAt s x.j.toNat = s[x.j.toNat] := by simp [linAt, List.getD, hk]
  rw [e]
  exact List.getElem_mem hk
/-- Whatever is chosen, what is left of it is an item of the set again. -/
theorem next_ok {s : List Lin} (hs : Thin s) {x : It} (h : ItOk s x) (m : Nat) : ∃ c, chosenL x.c (linAt s x.j.toNat).ps m = some c ∧ ItOk s ⟨x.j, halfL c⟩ := by
  have hS := hs.each _ (lin_mem h)
  have hf := hS.trim.few
  have h8 : (45 : Int) * ((linAt s x.j.toNat).ps.length : Nat) ≤ 360 := by omega
  obtain ⟨c, e, hc⟩ := chosen_small (K := 45) (by omega) (linAt s x.j.toNat).ps 45 x.c m h.small (by omega) hS.pers (by omega)
  have hat := chosen_at _ _ _ _ e
  have hr : ∀ p ∈ (linAt s x.j.toNat).ps, rightL p = true := fun p hp => (hS.pers p hp).right
  have hsm : Small 85 c := ⟨hc.right, hc.len, fun j => by
    have h1 := h.small.top j
    have h2 := sumAt_le j (linAt s x.j.toNat).ps m hr
    have h3 := hS.tot j
    rw [hat j]
    omega⟩
  have hh := half_trim hsm
  refine ⟨c, e, h.lo, h.hi, hh.2.more (by omega), short_of hh.2.right (fun t ht => ?_)⟩
  rw [half_at hsm, hat t, getD_past (by have := h.len; omega), sumAt_zero t _ m (fun p hp => Nat.le_trans (hS.pl p hp) ht)]
  rfl
theorem start_ok {s : List Lin} (hs : Thin s) {k : Nat} (hk : k < s.length) : ItOk s ⟨(k : Int), (linAt s k).base⟩ := by
  have e : linAt s k = s[k] := by simp [linAt, List.getD, hk]
  have hS := hs.each _ (List.getElem_mem hk)
  rw [e]
  exact ⟨by show (0 : Int) ≤ (k : Int); omega, by show (k : Int) < _; omega, hS.trim.base, hS.bl⟩
theorem itGo_ok {s : List Lin} (hs : Thin s) (letter : Int) : ∀ (l : List It) (M : Mr) (O : List It), (∀ x ∈ l, ItOk s x) → RiseI O → (∀ z ∈ O, ItOk s z) → RiseI (itGo s letter l M O).1 ∧ ∀ z ∈ (itGo s letter l M O).1, ItOk s z
  | [], M, O, _, hO, h => ⟨hO, h⟩
  | x :: r, M, O, hl, hO, h => by
    have hx := hl x (by simp)
    have h20 : ¬ 20 < (linAt s x.j.toNat).ps.length := by have := (hs.each _ (lin_mem hx)).trim.few; omega
    obtain ⟨O', e⟩ := maskF_some x (linAt s x.j.toNat).ps letter (fun m => by obtain ⟨c, e, _⟩ := next_ok hs hx m; exact ⟨c, e⟩) (2 ^ (linAt s x.j.toNat).ps.length) 0 O
    have hA := maskF_all x _ letter _ 0 O O' hO e
    have hO' : ∀ z ∈ O', ItOk s z := fun z hz => by
      rcases (hA.2 z).1 hz with h1 | ⟨i, c, _, _, h3, _, h5⟩
      · exact h z h1
      · obtain ⟨c', e', k⟩ := next_ok hs hx i
        rw [h3] at e'
        injection e' with e'
        subst e'
        rw [h5]; exact k
    generalize hp : spendM M ((2 ^ (linAt s x.j.toNat).ps.length : Nat) : Int) = p
    cases hv : p.1 with
    | false =>
      rw [itGo_7 h20 hp hv]
      exact ⟨⟨fun z hz => (by cases hz), List.Pairwise.nil⟩, fun z hz => (by cases hz)⟩
    | true =>
      rw [itGo_0 h20 hp hv e]
      exact itGo_ok hs letter r _ O' (fun z hz => hl z (List.mem_cons_of_mem _ hz)) hA.1 hO'
theorem spendM_free {M : Mr} (h : M = none) (n : Int) : spendM M n = (true, M) := by
  cases M with
  | none => rfl
  | some p => cases h
/-- Without a meter nothing is refused. -/
theorem itGo_free {s : List Lin} (hs : Thin s) (letter : Int) : ∀ (l : List It) (M : Mr) (O : List It), M = none → (∀ x ∈ l, ItOk s x) → (itGo s letter l M O).2 = (0, M)
  | [], M, O, _, _ => rfl
  | x :: r, M, O, hM, hl => by
    have hx := hl x (by simp)
    have h20 : ¬ 20 < (linAt s x.j.toNat).ps.length := by have := (hs.each _ (lin_mem hx)).trim.few; omega
    obtain ⟨O', e⟩ := maskF_some x (linAt s x.j.toNat).ps letter (fun m => by obtain ⟨c, e, _⟩ := next_ok hs hx m; exact ⟨c, e⟩) (2 ^ (linAt s x.j.toNat).ps.length) 0 O
    rw [itGo_0 (p := (true, M)) h20 (spendM_free hM _) rfl e]
    exact itGo_free hs letter r M O' hM (fun z hz => hl z (List.mem_cons_of_mem _ hz))

/-! ### How many there may be -/
theorem pigeon : ∀ (N : Nat) (l : List Nat), l.Nodup → (∀ x ∈ l, x < N) → l.length ≤ N
  | 0, l, _, h => by
    cases l with
    | nil => exact Nat.le_refl _
    | cons x r => exact absurd (h x (by simp)) (Nat.not_lt_zero _)
  | N + 1, l, hd, h => by
    by_cases hN : N ∈ l
    · have ih := pigeon N (l.erase N) (hd.sublist (List.erase_sublist ..)) (fun x hx => by
        have h1 := (List.Nodup.mem_erase_iff hd).1 hx
        have h2 := h x h1.2
        have h3 := h1.1
        omega)
      rw [List.length_erase_of_mem hN] at ih
      omega
    · have ih := pigeon N l hd (fun x hx => by
        have h2 := h x hx
        have h3 : x ≠ N := fun e => hN (e ▸ hx)
        omega)
      omega
theorem digit_inj {a b c d : Nat} (h : a * 46 + c = b * 46 + d) (hc : c < 46) (hd : d < 46) : a = b ∧ c = d := by omega
def codeI (x : It) : Nat := (((x.j.toNat * 46 + (x.c.getD 0 0).toNat) * 46 + (x.c.getD 1 0).toNat) * 46 + (x.c.getD 2 0).toNat) * 46 + (x.c.getD 3 0).toNat
theorem digit_lt {s : List Lin} {x : It} (h : ItOk s x) (t : Nat) : (x.c.getD t 0).toNat < 46 := by
  have := h.small.top t
  omega
theorem code_lt {s : List Lin} (hs : s.length ≤ 6) {x : It} (h : ItOk s x) : codeI x < 26873856 := by
  have h0 := digit_lt h 0
  have h1 := digit_lt h 1
  have h2 := digit_lt h 2
  have h3 := digit_lt h 3
  have hj : x.j.toNat < 6 := by have := h.hi; have := h.lo; omega
  unfold codeI
  omega
theorem code_inj {s : List Lin} {x y : It} (hx : ItOk s x) (hy : ItOk s y) (h : codeI x = codeI y) : x = y := by
  unfold codeI at h
  obtain ⟨h, e3⟩ := digit_inj h (digit_lt hx 3) (digit_lt hy 3)
  obtain ⟨h, e2⟩ := digit_inj h (digit_lt hx 2) (digit_lt hy 2)
  obtain ⟨h, e1⟩ := digit_inj h (digit_lt hx 1) (digit_lt hy 1)
  obtain ⟨h, e0⟩ := digit_inj h (digit_lt hx 0) (digit_lt hy 0)
  have ej : x.j = y.j := by have := hx.lo; have := hy.lo; omega
  have ec : x.c = y.c := by
    refine right_ext hx.small.right hy.small.right (fun t => ?_)
    have p1 := hx.small.pos t
    have p2 := hy.small.pos t
    by_cases ht : 4 ≤ t
    · rw [getD_past (by have := hx.len; omega), getD_past (by have := hy.len; omega)]
    · obtain rfl | rfl | rfl | rfl : t = 0 ∨ t = 1 ∨ t = 2 ∨ t = 3 := by omega
      all_goals omega
  cases x; cases y
  simp only at ej ec
  rw [ej, ec]
theorem rise_few {s : List Lin} (hs : Thin s) {l : List It} (hr : RiseI l) (h : ∀ x ∈ l, ItOk s x) : l.length ≤ 26873856 := by
  have hd : (l.map codeI).Nodup := by
    refine List.pairwise_map.2 (List.Pairwise.imp_of_mem (fun {x y} hx hy hxy e => ?_) hr.2)
    have e2 := code_inj (h x hx) (h y hy) e
    subst e2
    have := cmpI_self (hr.1 x hx)
    omega
  have := pigeon 26873856 (l.map codeI) hd (fun z hz => by
    obtain ⟨x, hx, rfl⟩ := List.mem_map.1 hz
    exact code_lt hs.few (h x hx))
  rwa [List.length_map] at this
theorem cost_few {s : List Lin} (hs : Thin s) : ∀ {l : List It}, (∀ x ∈ l, ItOk s x) → costI s l ≤ l.length * 256
  | [], _ => Nat.le_refl _
  | x :: r, h => by
    have ih := cost_few hs (l := r) (fun z hz => h z (List.mem_cons_of_mem _ hz))
    have h8 := (hs.each _ (lin_mem (h x (by simp)))).trim.few
    have hp : 2 ^ (linAt s x.j.toNat).ps.length ≤ 2 ^ 8 := Nat.pow_le_pow_right (by omega) h8
    rw [costI_cons, List.length_cons]
    have e : (2 : Nat) ^ 8 = 256 := rfl
    omega
theorem cost_bound {s : List Lin} (hs : Thin s) {l : List It} (hr : RiseI l) (h : ∀ x ∈ l, ItOk s x) : costI s l ≤ 100000000000 := by
  have h1 := rise_few hs hr h
  have h2 := cost_few hs h
  omega
end Go.Proofs.YtmnkjekjknhhjaaGreatDoor

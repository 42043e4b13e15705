/- columbaryplay.Semi: a right set of at most six linear sets, none of them too great. -/
import Derived.Test.YtmapohpabepmfaaGreatNn
import Derived.Test.YtmapohpabepmfaaGreatQPd
import Derived.Test.YtmapohpabepmfaaGreatDe
import Derived.Test.YtmapohpabepmfaaGreatCk
namespace Go.Proofs.YtmapohpabepmfaaGreat
open Go.ChangeShapes Go.WideShapes Go.ChangeAt Go.RowKit


/-- A right set of at most six, none too great. -/
def Fine (s : List Lin) : Prop := Good 24 s ∧ s.length ≤ 6
theorem good_take {u : Nat} {s : List Lin} (h : Good u s) (k : Nat) : Good u (s.take k) :=
  ⟨⟨fun z hz => h.rise.1 z (List.mem_of_mem_take hz), h.rise.2.sublist (List.take_sublist _ _)⟩, fun x hx => h.each x (List.mem_of_mem_take hx), Nat.le_trans (by rw [List.length_take]; omega) h.few⟩
theorem Lins.cut {w : World} {a : Option Addr} {c : Nat} {s : List Lin} (h : Lins w a c s) {k : Nat} (hk : k ≤ s.length) : Lins w a c (s.take k) := by
  obtain ⟨ls, e, P⟩ := h
  have hl : ls.length = s.length := by rw [← e, lins_len]
  have hk' : (ls.take k).length = k := by rw [List.length_take]; omega
  refine ⟨ls.take k, by rw [← e]; simp [lins, List.map_take], ?_, fun l hl => P.each l (List.mem_of_mem_take hl)⟩
  have := P.row.cut (k := k) (by omega)
  rw [hk']
  rwa [lflat_take] at this
/-- What Semi comes to. -/
def SemiOut (w : World) (e : Ending) (w' : World) : Prop := ∃ sa sc s, e = .returned (.slice sa (s : List Lin).length sc) ∧ Lins w' sa sc s ∧ Fine s ∧ Below w.heap.size w w'
set_option maxRecDepth 100000 in
set_option maxHeartbeats 2000000 in
theorem semi18 (a : Option Addr) (len cap : Nat) (zs : List Int) (w : World) (K0 : Hid (Came w a len cap zs)) :
    Calls Tryz.prog 18 #[.slice a len cap] w (SemiOut w) := by
  have hK := K0.out
  obtain ⟨hlen, hcap, hz⟩ : len ≤ 9223372036854775807 ∧ len ≤ cap ∧ len ≤ zs.length := ⟨hK.1, hK.2.2.1, hK.2.2.2.1⟩
  clear hK
  go_enter Tryz.func18, Tryz.ntmps18
  go_wp2_with (fail)
  refine (rnew_any 3000 w).mono ?_
  rintro e w1 ⟨rfl, m1, b1, _⟩
  have HK1 := Lib.hid (K0.out.below b1)
  have HM1 := Lib.hid m1
  have HB1 := Lib.hid b1
  clear m1 b1
  have Z := cut9i a len cap zs w1 HK1.out.1 HK1.out.2.1 HK1.out.2.2.1 HK1.out.2.2.2.1 (Lib.hid HK1.out.2.2.2.2)
  have HZ := Lib.hid Z
  clear Z
  go_wp2_with (fail)
  refine HZ.out.mono ?_
  rintro e w2 ⟨a2, c2, rfl, B2, f2, b2⟩
  have hxl : (zs.take (min len 9)).length ≤ 9 := by rw [List.length_take]; omega
  have HR2 : Hid (∀ k, k < (zs.take (min len 9)).length → RowAt w2 a2 (zs.take (min len 9)) k) := Lib.hid (fun k hk => by
    obtain ⟨g, e, hc⟩ := B2.at hk
    have hk2 : k < len := by rw [List.length_take] at hk; omega
    obtain ⟨b, off, _, _, _, h1, h2⟩ := HK1.out.2.2.2.2 k hk2
    have e2 : (zs.take (min len 9)).getD k 0 = zs.getD k 0 := by
      rw [List.length_take] at hk
      rw [List.getD_eq_getElem?_getD, List.getD_eq_getElem?_getD, List.getElem?_take, if_pos (by omega)]
    refine ⟨g, 0, e, by rw [Nat.zero_add]; exact hc, B2.lt e, ?_, ?_⟩ <;> rw [e2] <;> assumption)
  have HB2 := Lib.hid (HB1.out.trans (b2.mono HB1.out.size))
  have HM2 := Lib.hid (HM1.out.below b2)
  have hb2 := B2.le
  clear B2 f2 b2 HZ
  generalize zs.take (min len 9) = xs at HR2 hxl hb2 ⊢
  have Z := Q.pattern_any a2 xs.length c2 xs w2 (by omega) HR2
  generalize xs.length = xl at Z hxl hb2 ⊢
  have HZ := Lib.hid Z
  clear Z HR2
  go_wp2_with (fail)
  refine HZ.out.mono ?_
  rintro e w3 ⟨a3, c3, ns, rfl, P3, hc, h1, h24, _, _, b3⟩
  have HB3 := Lib.hid (HB2.out.trans (b3.mono HB2.out.size))
  have HM3 := Lib.hid (HM2.out.below b3)
  have Z := norm47 (some ⟨w.heap.size, 0, none⟩) a3 c3 ns (some (3000, 0, false)) w3 ⟨w.heap.size, rfl, HM3.out, by omega, by omega, by omega⟩ (Option.some_ne_none _) P3 hc h1 h24
  have hp3 := P3.le
  generalize ns.length = nl at Z hp3 h24 ⊢
  have HZ2 := Lib.hid Z
  clear Z P3 hc h1 b3 HZ
  go_wp2_with (fail)
  refine HZ2.out.mono ?_
  rintro e w4 ⟨sa, sc, s, q, rfl, L4, G4, k4⟩
  have HB4 : Hid (Below w.heap.size w w4) := Lib.hid (HB3.out.trans (k4.below (fun g e => by injection e with e; injection e with e; omega) HB3.out.size))
  have HL4 := Lib.hid L4
  have HG4 := Lib.hid G4
  have hl4 := L4.le
  clear L4 G4 k4 HZ2
  generalize hsl : s.length = sl at hl4 ⊢
  have HSL := Lib.hid hsl
  clear hsl
  by_cases h6 : 6 < sl
  · have HF : Hid (SemiOut w (.returned (.slice sa 6 sc)) w4) := Lib.hid (by
      have e : (s.take 6).length = 6 := by rw [List.length_take, HSL.out]; omega
      exact ⟨sa, sc, s.take 6, by rw [e], HL4.out.cut (by rw [HSL.out]; omega), ⟨good_take HG4.out 6, by omega⟩, HB4.out⟩)
    have h6c : 6 ≤ sc := by omega
    have h6i : (6 : Int) < (sl : Int) := by omega
    go_wp2
    go_ret
    exact HF.out
  · have HF : Hid (SemiOut w (.returned (.slice sa sl sc)) w4) := Lib.hid ⟨sa, sc, s, by rw [HSL.out], HL4.out, ⟨HG4.out, by rw [HSL.out]; omega⟩, HB4.out⟩
    have h6i : ¬ (6 : Int) < (sl : Int) := by omega
    go_wp2
    go_ret
    exact HF.out
end Go.Proofs.YtmapohpabepmfaaGreat

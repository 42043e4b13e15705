/- Stage 7's calls as its laws use them; the example of the document. -/
import Derived.Test.YtmapohpabepmfaaGreatNo
import Derived.Test.YtmapohpabepmfaaGreatMb
namespace Go.Proofs.YtmapohpabepmfaaGreat
open Go.ChangeShapes Go.WideShapes Go.ChangeAt Go.RowKit

/-- A set in new memory. -/
def NewS (w : World) (B : Nat) (a : Option Addr) (c : Nat) (s : List Lin) : Prop := ∃ ls, lins ls = s ∧ Lbs w a c ls ∧ From B a ∧ ∀ l ∈ ls, NewLin w B l
theorem NewS.lins {w : World} {B : Nat} {a : Option Addr} {c : Nat} {s : List Lin} (h : NewS w B a c s) : Lins w a c s := by
  obtain ⟨ls, e, P, _⟩ := h
  exact ⟨ls, e, P⟩
theorem NewS.below {w w' : World} {B : Nat} {a : Option Addr} {c : Nat} {s : List Lin} (h : NewS w B a c s) (b : Below w.heap.size w w') : NewS w' B a c s := by
  obtain ⟨ls, e, P, f, n⟩ := h
  exact ⟨ls, e, P.below b, f, fun l hl => (n l hl).below b⟩
theorem NewS.mono {w : World} {B B' : Nat} {a : Option Addr} {c : Nat} {s : List Lin} (h : NewS w B a c s) (b : B' ≤ B) : NewS w B' a c s := by
  obtain ⟨ls, e, P, f, n⟩ := h
  exact ⟨ls, e, P, f.mono b, fun l hl => (n l hl).mono b⟩
def MakesN (s : List Lin) (n : Nat) (w : World) (e : Ending) (w' : World) : Prop := ∃ a c, e = .returned (.tuple #[.slice a n c, .int .i64 0]) ∧ NewS w' w.heap.size a c s ∧ Below w.heap.size w w'
def MakesU (s : List Lin) (n : Nat) (w : World) (e : Ending) (w' : World) : Prop := ∃ a c, e = .returned (.slice a n c) ∧ NewS w' w.heap.size a c s ∧ Below w.heap.size w w'
theorem trim_ps {m : Int} {k n : Nat} {s : List Lin} (h : TrimS m k n s) (j : Nat) : (linAt s j).ps.length ≤ k := by
  unfold linAt
  rw [List.getD_eq_getElem?_getD]
  by_cases hj : j < s.length
  · rw [List.getElem?_eq_getElem hj]; exact (h.each _ (List.getElem_mem hj)).few
  · rw [List.getElem?_eq_none (by omega)]; exact Nat.zero_le _
theorem trim_app {m m' : Int} {k n n' : Nat} {s t : List Lin} (h : TrimS m k n s) (h' : TrimS m' k n' t) (j : Nat) : (linAt (s ++ t) j).ps.length ≤ k := by
  unfold linAt
  rw [List.getD_eq_getElem?_getD]
  by_cases hj : j < (s ++ t).length
  · rw [List.getElem?_eq_getElem hj]
    rcases List.mem_append.1 (List.getElem_mem hj) with hm | hm
    · exact (h.each _ hm).few
    · exact (h'.each _ hm).few
  · rw [List.getElem?_eq_none (by omega)]; exact Nat.zero_le _
theorem mk_none {w w' : World} (k : MK none w w') : Below w.heap.size w w' := k.below (fun g e => by cases e) (Nat.le_refl _)
theorem rightS_of {s : List Lin} (h : RiseS s) : rightS s = true := rightS_iff.2 h
theorem catM_none {s t : List Lin} (hs : RiseS s) (ht : RiseS t) (hok : catsOk s t = true) : catM none s t = (catS s t, 0, none) := catM_0 (rightS_of hs) (rightS_of ht) rfl rfl hok
/-- Cat without a bound, of what can be put together. -/
theorem catN {m m' : Int} {k k' q q' : Nat} {s t p : List Lin} {n l r : Nat} (hn : s.length = n) (hl : t.length = l) (hr : p.length = r) (hp : catS s t = p) (hs : TrimS m k q s) (ht : TrimS m' k' q' t) (hok : catsOk s t = true) (h1 : q * q' ≤ 100000000000) (h2 : k + k' ≤ 100000000000)
    (W : World) (a b : Option Addr) (c d : Nat) (R : Lins W a c s) (S : Lins W b d t) : Calls Tryz.prog 22 #[.pointer none, .slice a n c, .slice b l d] W (MakesN p r W) := by
  have Z := cat22 none a b c d none s t W rfl R S (Nat.le_trans (Nat.mul_le_mul hs.few ht.few) h1) (fun i j => by have := trim_ps hs i; have := trim_ps ht j; omega)
  rw [catM_none hs.rise ht.rise hok, hp, hn, hl] at Z
  refine Z.mono ?_
  rintro e w' ⟨a3, c3, ls, e1, e2, P, f, nn, _, k⟩
  exact ⟨a3, c3, by rw [← hr]; exact e2, ⟨ls, e1, P, f, nn⟩, mk_none k⟩
theorem unionN {m : Int} {k q q' : Nat} {s t p : List Lin} {n l r : Nat} (hn : s.length = n) (hl : t.length = l) (hr : p.length = r) (hp : unionS s t = p) (hs : TrimS m k q s) (ht : TrimS m k q' t) (h1 : q + q' ≤ 100000000000) (h2 : k ≤ 100000000000)
    (W : World) (a b : Option Addr) (c d : Nat) (R : Lins W a c s) (S : Lins W b d t) : Calls Tryz.prog 14 #[.slice a n c, .slice b l d] W (MakesU p r W) := by
  have Z := union14 a b c d s t W R S (by have := hs.few; have := ht.few; omega) (fun j => Nat.le_trans (trim_app hs ht j) h2)
  rw [hp, hn, hl] at Z
  refine Z.mono ?_
  rintro e w' ⟨a3, c3, ls, e1, e2, A⟩
  exact ⟨a3, c3, by rw [← hr]; exact e2, ⟨ls, e1, A.row, A.own, A.new⟩, A.bel⟩
theorem powN1 {m : Int} {k q : Nat} {s : List Lin} {n : Nat} (hn : s.length = n) (hs : TrimS m k q s) (h1 : q ≤ 100000000000) (h2 : k ≤ 100000000000)
    (W : World) (b : Option Addr) (d : Nat) (S : Lins W b d s) : Calls Tryz.prog 27 #[.pointer none, .slice b n d, .int .i64 1] W (MakesN s n W) := by
  have e1 := catS_one hs.rise
  have hc : catM none oneS s = (s, 0, none) := by rw [catM_none one_rise hs.rise e1.1, e1.2]
  have hf : powFits (1 : Int).toNat none oneS s := ⟨by have := hs.few; simp [oneS]; omega, fun i j => by
    have h3 := trim_ps hs j
    have h4 : (linAt oneS i).ps.length = 0 := by
      unfold linAt oneS
      cases i <;> rfl
    omega, fun _ => trivial⟩
  have Z := pow27 none b d none s 1 W rfl S (by omega) hf
  have hp : powM none s 1 = (s, 0, none) := by
    have := powM_yes (M := none) (s := s) (n := 1) (rightS_of hs.rise) (by omega)
    rw [show ((1 : Nat) : Int) = 1 from rfl] at this
    rw [this]
    show (if (catM none oneS s).2.1 = 0 then powGo 0 (catM none oneS s).2.2 (catM none oneS s).1 s else _) = _
    rw [hc, if_pos rfl]
    rfl
  rw [hp, hn] at Z
  refine Z.mono ?_
  rintro e w' ⟨a3, c3, ls, e1, e2, P, f, nn, _, kk⟩
  exact ⟨a3, c3, by rw [← hn]; exact e2, ⟨ls, e1, P, f, nn⟩, mk_none kk⟩
theorem powN0 {s : List Lin} {n : Nat} (hn : s.length = n) (hs : RiseS s) (W : World) (b : Option Addr) (d : Nat) (S : Lins W b d s) : Calls Tryz.prog 27 #[.pointer none, .slice b n d, .int .i64 0] W (MakesN oneS 1 W) := by
  have Z := pow27 none b d none s 0 W rfl S (by omega) trivial
  have hp : powM none s 0 = (oneS, 0, none) := powM_yes (M := none) (s := s) (n := 0) (rightS_of hs) (by omega)
  rw [hp, hn] at Z
  refine Z.mono ?_
  rintro e w' ⟨a3, c3, ls, e1, e2, P, f, nn, _, kk⟩
  exact ⟨a3, c3, e2, ⟨ls, e1, P, f, nn⟩, mk_none kk⟩
theorem oneN (W : World) : Calls Tryz.prog 30 #[] W (MakesU oneS 1 W) := by
  refine (one_any W).mono ?_
  rintro e w' ⟨a, c, e1, A⟩
  exact ⟨a, c, e1, ⟨_, rfl, A.row, A.own, A.new⟩, A.bel⟩
theorem sameN {s t : List Lin} {n m : Nat} (hn : s.length = n) (hm : t.length = m) (h : s = t) (W : World) (a b : Option Addr) (c d : Nat) (R : Lins W a c s) (S : Lins W b d t) :
    Calls Tryz.prog 13 #[.slice a n c, .slice b m d] W (TellsB true W) := by
  have Z := sameSemi_any a b c d s t W R S
  rw [decide_eq_true h, hn, hm] at Z
  exact Z
theorem rightN {s : List Lin} {n : Nat} (hn : s.length = n) (h : RiseS s) (W : World) (a : Option Addr) (c : Nat) (R : Lins W a c s) : Calls Tryz.prog 11 #[.slice a n c] W (TellsB true W) := by
  have Z := right11 a c s W R
  rw [rightS_of h, hn] at Z
  exact Z
theorem starM_none {s : List Lin} (hs : RiseS s) (hp : pointsS s = true) : starM none s = ([ofLin [] (basesS s)], 0, none) := starM_0 (rightS_of hs) hp rfl rfl
/-- The example: all answer as the document says. -/
theorem wakes17 (w : World) : Calls Tryz.prog 17 #[] w (True_ w) := by
  have Z := star25 none none 0 none [] w rfl (Lins.nil w) (by simp)
  rw [starM_none riseS_nil rfl, show ofLin [] (basesS []) = ⟨[], []⟩ from rfl] at Z
  have HZ := Lib.hid Z
  clear Z
  go_enter Tryz.func17, Tryz.ntmps17
  go_wp2_with (fail)
  refine HZ.out.mono ?_
  rintro e w1 ⟨a1, c1, ls, h1, rfl, P1, _, _, _, k1⟩
  have HL1 : Hid (Lins w1 a1 c1 oneS) := Lib.hid ⟨ls, h1, P1⟩
  have HB1 := Lib.hid (mk_none k1)
  clear h1 P1 k1 HZ
  go_wp2_with (fail)
  refine (oneN w1).mono ?_
  rintro e w2 ⟨a2, c2, rfl, n2, b2⟩
  have HB2 := Lib.hid (HB1.out.trans (b2.mono HB1.out.size))
  have HL2 := Lib.hid n2.lins
  have HL12 := Lib.hid (HL1.out.below b2)
  clear n2 b2
  have HZ := Lib.hid (sameN (s := oneS) (t := oneS) (n := 1) (m := 1) rfl rfl rfl w2 a1 a2 c1 c2 HL12.out HL2.out)
  go_wp2_with (fail)
  refine HZ.out.mono ?_
  rintro e w3 ⟨rfl, b3⟩
  have HB3 := Lib.hid (HB2.out.trans (b3.mono HB2.out.size))
  clear b3 HZ
  go_wp2_with (fail)
  refine (oneN w3).mono ?_
  rintro e w4 ⟨a4, c4, rfl, _, b4⟩
  have HB4 := Lib.hid (HB3.out.trans (b4.mono HB3.out.size))
  clear b4
  go_wp2
  go_ret
  exact ⟨rfl, HB4.out⟩
end Go.Proofs.YtmapohpabepmfaaGreat

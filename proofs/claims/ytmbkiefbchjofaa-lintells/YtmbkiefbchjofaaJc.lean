/- Cut of numbers and of slices of numbers; 'of': a raw linear set. -/
import Derived.Test.YtmbkiefbchjofaaHa
import Derived.Deep.RegionHeld3
namespace Go.Proofs.Ytmbkiefbchjofaa
open Go.ChangeShapes Go.WideShapes Go.ChangeAt Go.RowKit

/-- Cut of a slice that came in. -/
theorem cut14 (a : Option Addr) (len cap : Nat) (zs : List Int) (w : World) (hlen : len ≤ 9223372036854775807) (hn : a = none → len = 0 ∧ cap = 0) (hcap : len ≤ cap) (hz : len ≤ zs.length) (HR : Hid (∀ k, k < len → RowAt w a zs k)) :
    Calls Try.prog 28 #[.slice a len cap, .int .i64 14] w (Makes (zs.take (min len 14)) w) := by
  have hlt : (zs.take (min len 14)).length = min len 14 := by rw [List.length_take]; omega
  have HL := Lib.hid hlt
  clear hlt
  by_cases h0 : len = 0
  · subst h0
    have e : zs.take (min 0 14) = [] := by simp
    rw [e]
    clear HL HR e
    cases a with
    | none =>
      obtain rfl := (hn rfl).2
      have C := copy_any none 0 [] w (Bag.nil w) (by simp)
      go_enter Try.func28, Try.ntmps28
      go_wp2_with (fail)
      refine C.mono ?_
      rintro e w' ⟨a', c', rfl, r, f, bel⟩
      go_wp2
      go_ret
      exact ⟨a', c', rfl, r, f, bel⟩
    | some ad =>
      have C := copy_at ad cap [] w (by simp [ints]) (by simp)
      go_enter Try.func28, Try.ntmps28
      go_wp2_with (fail)
      refine C.mono ?_
      rintro e w' ⟨a', c', rfl, r, f, bel⟩
      go_wp2
      go_ret
      exact ⟨a', c', rfl, r, f, bel⟩
  · obtain ⟨b, off, rfl, _⟩ := HR.out 0 (by omega)
    have C := copy_at ⟨b, off, none⟩ cap (zs.take (min len 14)) w (by
      intro j u hj
      have hj' := (List.getElem?_eq_some_iff.1 hj).1
      rw [ints_len, HL.out] at hj'
      obtain ⟨b', off', e, hc, _⟩ := HR.out j (by omega)
      injection e with e; injection e with e1 e2; subst e1; subst e2
      rw [Addr.add_lit, hc]
      rw [← hj]
      simp [ints, List.getD, show j < zs.length by omega, show j < min len 14 by omega]) (by rw [HL.out]; omega)
    rw [HL.out] at C
    clear HR
    have h1 : min len 14 ≤ cap := by omega
    by_cases h14 : len ≤ 14
    · have e14 : min len 14 = len := by omega
      rw [e14] at C ⊢
      clear e14 HL
      generalize zs.take len = ys at C ⊢
      go_enter Try.func28, Try.ntmps28
      go_wp2_with (fail)
      refine C.mono ?_
      rintro e w' ⟨a', c', rfl, r, f, bel⟩
      go_wp2
      go_ret
      exact ⟨a', c', rfl, r, f, bel⟩
    · have e14 : min len 14 = 14 := by omega
      rw [e14] at C ⊢
      clear e14 HL
      generalize zs.take 14 = ys at C ⊢
      go_enter Try.func28, Try.ntmps28
      go_wp2_with (fail)
      refine C.mono ?_
      rintro e w' ⟨a', c', rfl, r, f, bel⟩
      go_wp2
      go_ret
      exact ⟨a', c', rfl, r, f, bel⟩

/-- A slice of numbers within a slice that came in. -/
structure Rw where
  a : Option Addr
  l : Nat
  c : Nat
  zs : List Int
def Rw.val (r : Rw) : Value := .slice r.a r.l r.c
def rvals (rs : List Rw) : List Value := rs.map Rw.val
theorem rvals_len (rs : List Rw) : (rvals rs).length = rs.length := List.length_map ..
theorem rvals_one (rs : List Rw) : ∀ x ∈ rvals rs, x.oneCell' = true := fun x hx => by
  obtain ⟨r, _, rfl⟩ := List.mem_map.1 hx
  rfl
/-- What is known of a slice of slices that came in. -/
structure CameRows (w : World) (pa : Option Addr) (m pc : Nat) (rs : List Rw) : Prop where
  len : m ≤ 9223372036854775807
  nil : pa = none → m = 0 ∧ pc = 0
  cap : m ≤ pc
  num : rs.length = m
  row : ∀ k u, (rvals rs)[k]? = some u → ∃ b off, pa = some ⟨b, off, none⟩ ∧ w.cell? ⟨b, off + k, none⟩ = some u ∧ b < w.heap.size
  each : ∀ r ∈ rs, Came w r.a r.l r.c r.zs
theorem CameRows.below {w w' : World} {pa : Option Addr} {m pc : Nat} {rs : List Rw} (h : CameRows w pa m pc rs) (b : Below w.heap.size w w') : CameRows w' pa m pc rs :=
  ⟨h.len, h.nil, h.cap, h.num, fun k u hu => by
    obtain ⟨bb, off, e, hc, hb⟩ := h.row k u hu
    exact ⟨bb, off, e, (b.cell (p := ⟨bb, off + k, none⟩) hb).trans hc, Nat.lt_of_lt_of_le hb b.size⟩, fun r hr => (h.each r hr).below b⟩
def MakesRw (vs : List Value) (n : Nat) (w : World) (e : Ending) (w' : World) : Prop :=
  ∃ a c, e = .returned (.slice a n c) ∧ Row w' 22 a c vs ∧ Below w.heap.size w w'
theorem copyR_nil (w : World) : Calls Try.prog 49 #[.slice none 0 0] w (MakesRw [] 0 w) := by
  obtain ⟨v, w', hr, A⟩ := run_app_nil 23 23 22 Try.underlying23 Try.infoInts none 0 0 [] w (Row.nil _ _) rfl
  obtain ⟨bb, -⟩ := A.below (B := w.heap.size) (Nat.le_refl _) (From.none _)
  obtain ⟨a', c', rfl, r, _, _⟩ := A
  have HF : Hid (MakesRw [] 0 w (.returned (.slice a' 0 c')) w') := Lib.hid ⟨a', c', rfl, r, bb⟩
  have hr2 : (Builtin.append_ #[23, 23] 23 #[.slice none 0 0, .slice none 0 0]).run Try.prog w = .ok (.slice a' 0 c') w' := hr
  clear r bb hr
  go_enter Try.func49, Try.ntmps49
  go_wp2_with (at_builtin; refine Lib.wpList_append_run _ rfl _ _ _ _ rfl _ _ rfl rfl _ _ hr2 ?_)
  go_ret
  exact HF.out
theorem copyR_at (ad : Addr) (c n : Nat) (vs : List Value) (w : World) (hn : vs.length = n) (hs : n ≤ 1000) (HC : Hid (∀ j u, vs[j]? = some u → w.cell? (ad.add j) = some u)) (H1 : Hid (∀ u ∈ vs, u.oneCell' = true)) :
    Calls Try.prog 49 #[.slice (some ad) n c] w (MakesRw vs n w) := by
  obtain ⟨v, w', hr, A⟩ := run_app_at 23 23 22 Try.underlying23 Try.infoInts none 0 0 [] w (Row.nil _ _) rfl ad n c vs hn.symm HC.out H1.out (by simp; omega)
  obtain ⟨bb, -⟩ := A.below (B := w.heap.size) (Nat.le_refl _) (From.none _)
  obtain ⟨a', c', rfl, r, _, _⟩ := A
  have e : ([] : List Value).length + vs.length = n := by simp [hn]
  rw [e] at hr
  have HF : Hid (MakesRw vs n w (.returned (.slice a' n c')) w') := Lib.hid ⟨a', c', rfl, r, bb⟩
  clear HC H1 r bb e hn
  go_enter Try.func49, Try.ntmps49
  go_wp2_with (at_builtin; refine Lib.wpList_append_run _ rfl _ _ _ _ rfl _ _ rfl rfl _ _ hr ?_)
  go_ret
  exact HF.out
/-- Cut of a slice of slices that came in. -/
theorem cut6 (pa : Option Addr) (m pc : Nat) (rs : List Rw) (w : World) (h : CameRows w pa m pc rs) :
    Calls Try.prog 29 #[.slice pa m pc, .int .i64 6] w (MakesRw (rvals (rs.take 6)) (min m 6) w) := by
  have hlen := h.len
  have hcap := h.cap
  by_cases h0 : m = 0
  · subst h0
    have e : rs.take 6 = [] := by rw [List.eq_nil_of_length_eq_zero h.num]; rfl
    rw [e]
    have hnil := h.nil
    clear h e
    cases pa with
    | none =>
      obtain rfl := (hnil rfl).2
      have C := copyR_nil w
      clear hnil
      go_enter Try.func29, Try.ntmps29
      go_wp2_with (fail)
      refine C.mono ?_
      rintro e w' ⟨a', c', rfl, r, bel⟩
      go_wp2
      go_ret
      exact ⟨a', c', rfl, r, bel⟩
    | some ad =>
      have C := copyR_at ad pc 0 [] w rfl (by omega) (Lib.hid (by simp)) (Lib.hid (by simp))
      clear hnil
      go_enter Try.func29, Try.ntmps29
      go_wp2_with (fail)
      refine C.mono ?_
      rintro e w' ⟨a', c', rfl, r, bel⟩
      go_wp2
      go_ret
      exact ⟨a', c', rfl, r, bel⟩
  · have hl := rvals_len rs
    rw [h.num] at hl
    obtain ⟨b, off, rfl, -⟩ := h.row 0 ((rvals rs)[0]'(by omega)) (List.getElem?_eq_getElem (by omega))
    have ht : rvals (rs.take 6) = (rvals rs).take 6 := by simp [rvals, List.map_take]
    have C := copyR_at ⟨b, off, none⟩ pc (min m 6) (rvals (rs.take 6)) w (by rw [ht, List.length_take, hl]; omega) (by omega) (Lib.hid (fun j u hj => by
      rw [ht] at hj
      by_cases hj6 : j < 6
      · rw [List.getElem?_take_of_lt hj6] at hj
        obtain ⟨b', off', e, hc, _⟩ := h.row j u hj
        injection e with e; injection e with e1 e2; subst e1; subst e2
        rw [Addr.add_lit]; exact hc
      · rw [List.getElem?_eq_none (by simp; omega)] at hj; cases hj)) (Lib.hid (rvals_one _))
    have HC := Lib.hid C
    clear C h ht hl
    generalize rvals (rs.take 6) = vs at HC
    have h1 : min m 6 ≤ pc := by omega
    by_cases h6 : m ≤ 6
    · have e6 : min m 6 = m := by omega
      rw [e6] at HC ⊢
      clear e6 h1
      go_enter Try.func29, Try.ntmps29
      go_wp2_with (fail)
      refine HC.out.mono ?_
      rintro e w' ⟨a', c', rfl, r, bel⟩
      go_wp2
      go_ret
      exact ⟨a', c', rfl, r, bel⟩
    · have e6 : min m 6 = 6 := by omega
      rw [e6] at HC ⊢
      clear e6 h1
      go_enter Try.func29, Try.ntmps29
      go_wp2_with (fail)
      refine HC.out.mono ?_
      rintro e w' ⟨a', c', rfl, r, bel⟩
      go_wp2
      go_ret
      exact ⟨a', c', rfl, r, bel⟩

theorem OfP.app2 {w W : World} {g4 : Nat} {a pa : Option Addr} {c n pc m : Nat} {nb : List Int} {ps : List Bg} (h : OfP w g4 a c n nb pa pc m ps W) {b : Option Addr} {d l : Nat} {ys : List Int} (R : Bag W b d ys) (hl : ys.length = l) (f : From w.heap.size b) (hs : m ≤ 1000) :
    ∃ a2 c2 w2, (Builtin.append_ #[27, 27] 27 #[.slice pa m pc, .slice (some ⟨W.heap.size, 0, none⟩) 1 1]).run Try.prog (W.alloc (.cells #[.slice b l d] 26)) = .ok (.slice a2 (m + 1) c2) w2 ∧
      Lies w2 g4 29 [.slice a n c, .slice pa m pc] ∧ OfP w g4 a c n nb a2 c2 (m + 1) (ps ++ [⟨b, d, ys⟩]) (w2.setCell ⟨g4, 1, none⟩ (.slice a2 (m + 1) c2)) ∧
      (∀ g cs, Lies W g 29 cs → g ≠ g4 → Lies (w2.setCell ⟨g4, 1, none⟩ (.slice a2 (m + 1) c2)) g 29 cs) ∧
      ∀ ra rc vs, Row W 22 ra rc vs → Row (w2.setCell ⟨g4, 1, none⟩ (.slice a2 (m + 1) c2)) 22 ra rc vs := by
  obtain ⟨a2, c2, w2, hr, q2, k2, f2⟩ := app1 pa pc m ps W h.row h.num b d l ys R hl hs
  obtain ⟨f3, b3⟩ := f2 w.heap.size h.bel.size h.op
  have l2 := h.l4.kept k2 (h.l4.apartRow h.row.row)
  refine ⟨a2, c2, w2, hr, l2, OfP.put (h.bel.trans b3) l2 (h.base.kept k2 (fun _ e => h.base.apart h.row.row e)) q2 h.len (by simp [h.num]) h.h4 h.oa f3 ?_, fun g cs l hne => ?_, fun ra rc vs r => ?_⟩
  · intro p hp
    rcases List.mem_append.1 hp with hp | hp
    · exact h.each p hp
    · rw [List.mem_singleton.1 hp]; exact f
  · exact (l.kept k2 (l.apartRow h.row.row)).far hne _
  · have r1 : Row w2 22 ra rc vs := r.kept k2 (fun g e e2 => by
      rcases r with ⟨h1, _⟩ | ⟨g1, sp, h1, _, _, l1⟩
      · rw [h1] at e; cases e
      · rw [h1] at e; injection e with e; injection e with e; subst e
        rcases h.row.row with ⟨h3, _⟩ | ⟨g2, sp2, h3, _, _, l3⟩
        · rw [h3] at e2; cases e2
        · rw [h3] at e2; injection e2 with e2; injection e2 with e2; subst e2
          exact l1.other l3 (by decide) rfl)
    refine r1.kept (kept_set w2 g4 1 _) (fun g e e2 => ?_)
    subst e2
    rcases r1 with ⟨h1, _⟩ | ⟨g1, sp, h1, _, _, l1⟩
    · rw [h1] at e; cases e
    · rw [h1] at e; injection e with e; injection e with e; subst e
      exact l1.other l2 (by decide) rfl

/-- What 'of' makes of a raw one. -/
def rawLin (l : Nat) (zs : List Int) (rs : List Rw) : Lin := ⟨zs.take (min l 14), (rs.take 6).map (fun r => r.zs.take (min r.l 14))⟩
structure Short (x : Lin) : Prop where
  base : x.base.length ≤ 14
  each : ∀ j, (x.ps.getD j []).length ≤ 14
  few : x.ps.length ≤ 6
theorem raw_short (l : Nat) (zs : List Int) (rs : List Rw) : Short (rawLin l zs rs) := by
  refine ⟨?_, fun j => ?_, ?_⟩
  · simp only [rawLin, List.length_take]; omega
  · by_cases hj : j < (rawLin l zs rs).ps.length
    · have hm : (rawLin l zs rs).ps.getD j [] ∈ (rawLin l zs rs).ps := by simp [List.getD, hj]
      obtain ⟨r, _, e⟩ := List.mem_map.1 hm
      rw [← e, List.length_take]; omega
    · simp [List.getD, hj]
  · simp only [rawLin, List.length_map, List.length_take]; omega

set_option maxRecDepth 100000 in
set_option maxHeartbeats 8000000 in
theorem of_any (a pa : Option Addr) (l0 c m pc : Nat) (zs : List Int) (rs : List Rw) (w : World) (h : Came w a l0 c zs) (hr : CameRows w pa m pc rs) :
    Calls Try.prog 8 #[.agg #[.slice a l0 c, .slice pa m pc]] w (MakesLin1 (rawLin l0 zs rs) w) := by
  have hlen := h.1
  have hlen' := hr.len
  have bA : Below w.heap.size w ((w.alloc (.cells #[.slice a l0 c, .slice pa m pc] 25)).alloc (.cells #[.slice none 0 0, .slice none 0 0] 29)) := ((Below.refl _ _).alloc (Nat.le_refl _) _).alloc (by simp) _
  have l2 : Lies ((w.alloc (.cells #[.slice a l0 c, .slice pa m pc] 25)).alloc (.cells #[.slice none 0 0, .slice none 0 0] 29)) (w.heap.size + 1) 29 [.slice none 0 0, .slice none 0 0] := by
    have := Lies.new (w.alloc (.cells #[.slice a l0 c, .slice pa m pc] 25)) 29 [.slice none 0 0, .slice none 0 0]
    simpa using this
  have l1 : Lies ((w.alloc (.cells #[.slice a l0 c, .slice pa m pc] 25)).alloc (.cells #[.slice none 0 0, .slice none 0 0] 29)) w.heap.size 25 [.slice a l0 c, .slice pa m pc] := (Lies.new w 25 [.slice a l0 c, .slice pa m pc]).alloc _
  have HL1 := Lib.hid l1
  have HL2 := Lib.hid l2
  have HBA := Lib.hid bA
  have HCA := Lib.hid h
  have HCR := Lib.hid hr
  have Z := cut14 a l0 c zs _ h.1 h.2.1 h.2.2.1 h.2.2.2.1 (Lib.hid (h.below bA).2.2.2.2)
  have HZ := Lib.hid Z
  have k0 := l1.cell 0
  simp only [List.getElem?_cons_zero] at k0
  obtain ⟨nb, hnb⟩ : ∃ nb, nb = zs.take (min l0 14) := ⟨_, rfl⟩
  have HNB := Lib.hid hnb
  rw [← hnb] at HZ
  clear h hr bA l1 l2 Z hnb
  go_enter Try.func8, Try.ntmps8
  go_wp2_with (fail)
  generalize ((w.alloc (.cells #[.slice a l0 c, .slice pa m pc] 25)).alloc (.cells #[.slice none 0 0, .slice none 0 0] 29)) = W0 at HL1 HL2 HBA HZ k0 ⊢
  generalize hg1 : w.heap.size = g1 at HL1 HL2 k0 ⊢
  have hg1' : w.heap.size ≤ g1 := by omega
  clear hg1
  refine HZ.out.mono ?_
  rintro e w3 ⟨a1, c1, rfl, r1, f1, b1⟩
  generalize hn0 : nb.length = n0
  have b3 := below_alloc w3 (.cells #[.slice a1 n0 c1, .slice none 0 0] 29)
  have b13 := b1.trans (b3.mono b1.size)
  have lt2 : g1 + 1 < w3.heap.size := (HL2.out.below b1 HL2.out.lt).lt
  have HS : Hid (CpS w (g1 + 1) w3.heap.size a1 c1 n0 nb none 0 0 [] (w3.alloc (.cells #[.slice a1 n0 c1, .slice none 0 0] 29))) := Lib.hid
    ⟨⟨HBA.out.trans (b13.mono HBA.out.size), Lies.new w3 _ _, r1.below b3, Bgs.nil _, hn0, rfl, Nat.le_trans HBA.out.size b1.size, From.mono (fun g e => f1 g e) HBA.out.size, From.none _, fun p hp => by simp at hp⟩,
      (HL2.out.below b1 HL2.out.lt).alloc _, by omega, by omega⟩
  have k1 := (HL1.out.below b13 HL1.out.lt).cell 1
  simp only [List.getElem?_cons_zero, List.getElem?_cons_succ] at k1
  have HZ2 := Lib.hid (cut6 pa m pc rs _ (HCR.out.below HS.out.p.bel))
  clear HZ k0 r1 f1 b1 b3 b13 hn0
  go_wp2_with (fail)
  generalize w3.alloc (.cells #[.slice a1 n0 c1, .slice none 0 0] 29) = W3 at HS k1 HZ2 ⊢
  generalize w3.heap.size = g3 at HS lt2 ⊢
  generalize g1 + 1 = g2 at HS lt2 ⊢
  refine HZ2.out.mono ?_
  rintro e w4 ⟨ra, rc, rfl, rr, b4⟩
  have HS := Lib.hid (HS.out.below b4)
  have HRW := Lib.hid rr
  have hrl := rr.le
  have HNV : Hid ((rvals (rs.take 6)).length = min m 6) := Lib.hid (by rw [rvals_len, List.length_take, HCR.out.num]; omega)
  rw [HNV.out] at hrl
  have h6 : min m 6 ≤ 6 := by omega
  clear HZ2 k1 rr b4
  generalize hm6 : min m 6 = m6 at HNV h6 hrl ⊢
  clear hm6
  go_wp2
  go_loopw [14] (fun i wr => ∃ (k : Nat) (qa : Option Addr) (qc : Nat) (qs : List Bg), k ≤ m6 ∧ i = .int .i64 k ∧ Hid (CpS w g2 g3 a1 c1 n0 nb qa qc k qs wr) ∧ Hid (words qs = (rawLin l0 zs rs).ps.take k) ∧ Hid (Row wr 22 ra rc (rvals (rs.take 6)))) (fun i _ => m6 - (intOf i).toNat)
  case atStart => exact ⟨0, none, 0, [], by omega, rfl, HS, Lib.hid (by simp [words]), HRW⟩
  case round =>
    clear HS HRW
    obtain ⟨k, qa, qc, qs, hk, rfl, HT, HW, HRW⟩ := hrel
    by_cases hlt : k < m6
    · have hk0 : k < (rs.take 6).length := by have := HNV.out; rw [rvals_len] at this; omega
      obtain ⟨gr, era, hcr⟩ := HRW.out.there (i := k) (by rw [HNV.out]; exact hlt)
      obtain ⟨r, hrk⟩ : ∃ r, r = (rs.take 6)[k] := ⟨_, rfl⟩
      have hmr : r ∈ rs := by rw [hrk]; exact List.mem_of_mem_take (List.getElem_mem hk0)
      have ev : (rvals (rs.take 6))[k]'(by rw [HNV.out]; exact hlt) = .slice r.a r.l r.c := by rw [hrk]; simp [rvals, Rw.val]
      rw [ev] at hcr
      have HCM0 := Lib.hid (HCR.out.each r hmr)
      have HCM := Lib.hid (HCM0.out.below HT.out.p.bel)
      have hwk : (rawLin l0 zs rs).ps.take (k + 1) = (rawLin l0 zs rs).ps.take k ++ [r.zs.take (min r.l 14)] := by
        have hk1 : k < (rawLin l0 zs rs).ps.length := by simpa [rawLin] using hk0
        rw [List.take_succ_eq_append_getElem hk1, hrk]
        simp [rawLin]
      obtain ⟨br, lr, cr, zr⟩ := r
      simp only at hcr hwk HCM HCM0
      generalize hys : zr.take (min lr 14) = ys at hwk
      have HZ : Hid (∀ V, Came V br lr cr zr → Below w.heap.size w V → Calls Try.prog 28 #[.slice br lr cr, .int .i64 14] V (Makes ys V)) := Lib.hid (fun V hc _ => by
        have := cut14 br lr cr zr V hc.1 hc.2.1 hc.2.2.1 hc.2.2.2.1 (Lib.hid hc.2.2.2.2)
        rwa [hys] at this)
      obtain ⟨u, hu⟩ : ∃ u, ys.length = u := ⟨_, rfl⟩
      have HU := Lib.hid hu
      have HW3 : ∀ a2 c2, Hid (words (qs ++ [⟨a2, c2, ys⟩]) = (rawLin l0 zs rs).ps.take (k + 1)) := fun a2 c2 => Lib.hid (by
        rw [hwk, ← HW.out]; simp [words])
      have bd : Below wr.heap.size wr wr.drew := ⟨rfl, rfl, rfl, Nat.le_refl _, fun _ _ => rfl⟩
      have hlr := HCM.out.1
      have hcr2 := HCM.out.2.2.1
      clear hrk hmr ev hwk hys hu hk0 HCM0
      subst era
      go_wp2_with (fail)
      refine wp_region_held_drew (S := fun _ => True) (by kernel_rfl) trivial (fun hHeld => ?_)
      clear hHeld
      refine wpAnyH_take (i := 0) (oi := { dst := some 18, op := Op.fieldAddr 29 (Operand.tmp 3) 1, type := 0, pos := "law.go:26", after := #[], guard := none }) (v := ?_) rfl (by kernel_rfl) (by kernel_rfl) (by kernel_rfl) (fun _ _ _ h => h) (Or.inl ⟨by rfl, ?_⟩) trivial ?_
      rotate_left
      · intro w hSw
        go_simp
        try with_reducible rfl
      try simp only [Act.put, List.setIfInBounds_toArray, List.set_cons_zero, List.set_cons_succ]
      refine wpAnyH_take (i := 2) (oi := { dst := some 20, op := Op.move (Operand.tmp 5), type := 22, pos := "law.go:26", after := #[], guard := none }) (v := ?_) rfl (by kernel_rfl) (by kernel_rfl) (by kernel_rfl) (fun _ _ _ h => h) (Or.inl ⟨by rfl, ?_⟩) trivial ?_
      rotate_left
      · intro w hSw
        go_simp
        try with_reducible rfl
      try simp only [Act.put, List.setIfInBounds_toArray, List.set_cons_zero, List.set_cons_succ]
      have HB0 : Hid (Below w.heap.size w wr.drew) := Lib.hid (HT.out.p.bel.trans (bd.mono HT.out.p.bel.size))
      have HT := Lib.hid (HT.out.below bd)
      have HRW := Lib.hid (HRW.out.below bd)
      have HCM := Lib.hid (HCM.out.below bd)
      clear bd
      generalize wr.drew = V0 at HB0 HT HRW HCM ⊢
      refine wpAnyH_ready (rs := [1, 3]) (by kernel_rfl) (by simp) ?_
      refine AllReadyH.cons (o := { dst := some 19, op := Op.load 27 (Operand.tmp 18), type := 27, pos := "law.go:26", after := #[{ on := 0, ground := Ground.data }], guard := none }) rfl (fun K hK => ?_) ?_
      · have q1 : V0.cell? ⟨g3, 1, none⟩ = some (.slice qa k qc) := HT.out.p.l4.cell 1
        go_simp
        clear q1
        refine hK.out _ _ trivial (fun hHeld => ?_)
        clear hK K hHeld
        try simp only [Act.put, List.setIfInBounds_toArray, List.set_cons_zero, List.set_cons_succ]
        refine wpAnyH_ready (rs := [3]) (by kernel_rfl) (by simp) ?_
        refine AllReadyH.cons (o := { dst := some 21, op := Op.call { callee := Callee.value (Operand.func 28), args := #[Operand.tmp 20, Operand.const (Value.int IntKind.i64 14)], argTypes := #[22, 3] }, type := 22, pos := "law.go:26", after := #[{ on := 2, ground := Ground.data }], guard := none }) rfl (fun K hK => ?_) AllReadyH.nil
        go_simp
        refine (HZ.out V0 HCM.out HB0.out).mono ?_
        rintro e V1 ⟨a2, c2, rfl, r2, f2, b2⟩
        rw [HU.out]
        have HT := Lib.hid (HT.out.below b2)
        have HRW := Lib.hid (HRW.out.below b2)
        have HR2 := Lib.hid r2
        have HF2 : Hid (From w.heap.size a2) := Lib.hid (From.mono (fun g e => f2 g e) HB0.out.size)
        clear r2 f2 b2
        go_wp2_with (fail)
        refine hK.out _ _ trivial (fun hHeld => ?_)
        clear hK K hHeld
        try simp only [Act.put, List.setIfInBounds_toArray, List.set_cons_zero, List.set_cons_succ]
        refine wpAnyH_ready (rs := [4]) (by kernel_rfl) (by simp) ?_
        refine AllReadyH.cons (o := { dst := some 22, op := Op.buildSlice 27 1 #[(0, Operand.tmp 21)], type := 27, pos := "law.go:26", after := #[{ on := 3, ground := Ground.data }], guard := none }) rfl (fun K hK => ?_) AllReadyH.nil
        go_simp
        refine hK.out _ _ trivial (fun hHeld => ?_)
        clear hK K hHeld
        try simp only [Act.put, List.setIfInBounds_toArray, List.set_cons_zero, List.set_cons_succ]
        refine wpAnyH_ready (rs := [5]) (by kernel_rfl) (by simp) ?_
        refine AllReadyH.cons (o := { dst := some 23, op := Op.call { callee := Callee.builtin Builtin.append, args := #[Operand.tmp 19, Operand.tmp 22], argTypes := #[27, 27] }, type := 27, pos := "law.go:26", after := #[{ on := 1, ground := Ground.data }, { on := 4, ground := Ground.data }, { on := 3, ground := Ground.chain }], guard := none }) rfl (fun K hK => ?_) AllReadyH.nil
        obtain ⟨a3, c3, w3, hr3, l3, T3, o3, o4⟩ := HT.out.p.app2 HR2.out HU.out HF2.out (by omega)
        have HRW3 := Lib.hid (o4 _ _ _ HRW.out)
        have HT3 : Hid (CpS w g2 g3 a1 c1 n0 nb a3 c3 (k + 1) (qs ++ [⟨a2, c2, ys⟩]) (w3.setCell ⟨g3, 1, none⟩ (.slice a3 (k + 1) c3))) := Lib.hid ⟨T3, o3 g2 _ HT.out.l2 HT.out.ne, HT.out.ne, HT.out.h2⟩
        have d3 := l3.cell 1
        simp only [List.getElem?_cons_zero, List.getElem?_cons_succ] at d3
        have z3 := l3.frozen 1
        clear l3 T3 o3 o4
        refine step_append_run _ rfl _ _ _ _ rfl _ _ rfl rfl _ _ hr3 ?_
        clear hr3
        refine hK.out _ _ trivial (fun hHeld => ?_)
        clear hK K hHeld
        try simp only [Act.put, List.setIfInBounds_toArray, List.set_cons_zero, List.set_cons_succ]
        refine wpAnyH_take (i := 6) (oi := { dst := some 24, op := Op.fieldAddr 29 (Operand.tmp 3) 1, type := 0, pos := "law.go:26", after := #[{ on := 0, ground := Ground.phase }, { on := 1, ground := Ground.phase }, { on := 2, ground := Ground.phase }, { on := 3, ground := Ground.phase }, { on := 4, ground := Ground.phase }, { on := 5, ground := Ground.phase }], guard := none }) (v := ?_) rfl (by kernel_rfl) (by kernel_rfl) (by kernel_rfl) (fun _ _ _ h => h) (Or.inl ⟨by rfl, ?_⟩) trivial ?_
        rotate_left
        · intro w hSw
          go_simp
          try with_reducible rfl
        try simp only [Act.put, List.setIfInBounds_toArray, List.set_cons_zero, List.set_cons_succ]
        refine wpAnyH_ready (rs := [7]) (by kernel_rfl) (by simp) ?_
        refine AllReadyH.cons (o := { dst := none, op := Op.store 27 (Operand.tmp 24) (Operand.tmp 23), type := 0, pos := "law.go:26", after := #[{ on := 6, ground := Ground.data }, { on := 5, ground := Ground.data }, { on := 5, ground := Ground.chain }, { on := 0, ground := Ground.phase }, { on := 1, ground := Ground.phase }, { on := 2, ground := Ground.phase }, { on := 3, ground := Ground.phase }, { on := 4, ground := Ground.phase }, { on := 5, ground := Ground.phase }], guard := none }) rfl (fun K hK => ?_) AllReadyH.nil
        go_simp
        refine hK.out _ _ trivial (fun hHeld => ?_)
        clear hK K hHeld
        try simp only [Act.put, List.setIfInBounds_toArray, List.set_cons_zero, List.set_cons_succ]
        refine wpAnyH_done (by kernel_rfl) ?_ _
        go_wp2
        go_roundw
        case rel => exact ⟨k + 1, a3, c3, _, by omega, by go_num, HT3, HW3 a2 c2, HRW3⟩
        case measure => simp [intOf]; omega
      refine AllReadyH.cons (o := { dst := some 21, op := Op.call { callee := Callee.value (Operand.func 28), args := #[Operand.tmp 20, Operand.const (Value.int IntKind.i64 14)], argTypes := #[22, 3] }, type := 22, pos := "law.go:26", after := #[{ on := 2, ground := Ground.data }], guard := none }) rfl (fun K hK => ?_) AllReadyH.nil
      go_simp
      refine (HZ.out V0 HCM.out HB0.out).mono ?_
      rintro e V1 ⟨a2, c2, rfl, r2, f2, b2⟩
      rw [HU.out]
      have HT := Lib.hid (HT.out.below b2)
      have HRW := Lib.hid (HRW.out.below b2)
      have HR2 := Lib.hid r2
      have HF2 : Hid (From w.heap.size a2) := Lib.hid (From.mono (fun g e => f2 g e) HB0.out.size)
      clear r2 f2 b2
      go_wp2_with (fail)
      refine hK.out _ _ trivial (fun hHeld => ?_)
      clear hK K hHeld
      try simp only [Act.put, List.setIfInBounds_toArray, List.set_cons_zero, List.set_cons_succ]
      refine wpAnyH_ready (rs := [1, 4]) (by kernel_rfl) (by simp) ?_
      refine AllReadyH.cons (o := { dst := some 19, op := Op.load 27 (Operand.tmp 18), type := 27, pos := "law.go:26", after := #[{ on := 0, ground := Ground.data }], guard := none }) rfl (fun K hK => ?_) ?_
      · have q1 : V1.cell? ⟨g3, 1, none⟩ = some (.slice qa k qc) := HT.out.p.l4.cell 1
        go_simp
        clear q1
        refine hK.out _ _ trivial (fun hHeld => ?_)
        clear hK K hHeld
        try simp only [Act.put, List.setIfInBounds_toArray, List.set_cons_zero, List.set_cons_succ]
        refine wpAnyH_ready (rs := [4]) (by kernel_rfl) (by simp) ?_
        refine AllReadyH.cons (o := { dst := some 22, op := Op.buildSlice 27 1 #[(0, Operand.tmp 21)], type := 27, pos := "law.go:26", after := #[{ on := 3, ground := Ground.data }], guard := none }) rfl (fun K hK => ?_) AllReadyH.nil
        go_simp
        refine hK.out _ _ trivial (fun hHeld => ?_)
        clear hK K hHeld
        try simp only [Act.put, List.setIfInBounds_toArray, List.set_cons_zero, List.set_cons_succ]
        refine wpAnyH_ready (rs := [5]) (by kernel_rfl) (by simp) ?_
        refine AllReadyH.cons (o := { dst := some 23, op := Op.call { callee := Callee.builtin Builtin.append, args := #[Operand.tmp 19, Operand.tmp 22], argTypes := #[27, 27] }, type := 27, pos := "law.go:26", after := #[{ on := 1, ground := Ground.data }, { on := 4, ground := Ground.data }, { on := 3, ground := Ground.chain }], guard := none }) rfl (fun K hK => ?_) AllReadyH.nil
        obtain ⟨a3, c3, w3, hr3, l3, T3, o3, o4⟩ := HT.out.p.app2 HR2.out HU.out HF2.out (by omega)
        have HRW3 := Lib.hid (o4 _ _ _ HRW.out)
        have HT3 : Hid (CpS w g2 g3 a1 c1 n0 nb a3 c3 (k + 1) (qs ++ [⟨a2, c2, ys⟩]) (w3.setCell ⟨g3, 1, none⟩ (.slice a3 (k + 1) c3))) := Lib.hid ⟨T3, o3 g2 _ HT.out.l2 HT.out.ne, HT.out.ne, HT.out.h2⟩
        have d3 := l3.cell 1
        simp only [List.getElem?_cons_zero, List.getElem?_cons_succ] at d3
        have z3 := l3.frozen 1
        clear l3 T3 o3 o4
        refine step_append_run _ rfl _ _ _ _ rfl _ _ rfl rfl _ _ hr3 ?_
        clear hr3
        refine hK.out _ _ trivial (fun hHeld => ?_)
        clear hK K hHeld
        try simp only [Act.put, List.setIfInBounds_toArray, List.set_cons_zero, List.set_cons_succ]
        refine wpAnyH_take (i := 6) (oi := { dst := some 24, op := Op.fieldAddr 29 (Operand.tmp 3) 1, type := 0, pos := "law.go:26", after := #[{ on := 0, ground := Ground.phase }, { on := 1, ground := Ground.phase }, { on := 2, ground := Ground.phase }, { on := 3, ground := Ground.phase }, { on := 4, ground := Ground.phase }, { on := 5, ground := Ground.phase }], guard := none }) (v := ?_) rfl (by kernel_rfl) (by kernel_rfl) (by kernel_rfl) (fun _ _ _ h => h) (Or.inl ⟨by rfl, ?_⟩) trivial ?_
        rotate_left
        · intro w hSw
          go_simp
          try with_reducible rfl
        try simp only [Act.put, List.setIfInBounds_toArray, List.set_cons_zero, List.set_cons_succ]
        refine wpAnyH_ready (rs := [7]) (by kernel_rfl) (by simp) ?_
        refine AllReadyH.cons (o := { dst := none, op := Op.store 27 (Operand.tmp 24) (Operand.tmp 23), type := 0, pos := "law.go:26", after := #[{ on := 6, ground := Ground.data }, { on := 5, ground := Ground.data }, { on := 5, ground := Ground.chain }, { on := 0, ground := Ground.phase }, { on := 1, ground := Ground.phase }, { on := 2, ground := Ground.phase }, { on := 3, ground := Ground.phase }, { on := 4, ground := Ground.phase }, { on := 5, ground := Ground.phase }], guard := none }) rfl (fun K hK => ?_) AllReadyH.nil
        go_simp
        refine hK.out _ _ trivial (fun hHeld => ?_)
        clear hK K hHeld
        try simp only [Act.put, List.setIfInBounds_toArray, List.set_cons_zero, List.set_cons_succ]
        refine wpAnyH_done (by kernel_rfl) ?_ _
        go_wp2
        go_roundw
        case rel => exact ⟨k + 1, a3, c3, _, by omega, by go_num, HT3, HW3 a2 c2, HRW3⟩
        case measure => simp [intOf]; omega
      refine AllReadyH.cons (o := { dst := some 22, op := Op.buildSlice 27 1 #[(0, Operand.tmp 21)], type := 27, pos := "law.go:26", after := #[{ on := 3, ground := Ground.data }], guard := none }) rfl (fun K hK => ?_) AllReadyH.nil
      go_simp
      refine hK.out _ _ trivial (fun hHeld => ?_)
      clear hK K hHeld
      try simp only [Act.put, List.setIfInBounds_toArray, List.set_cons_zero, List.set_cons_succ]
      refine wpAnyH_ready (rs := [1]) (by kernel_rfl) (by simp) ?_
      refine AllReadyH.cons (o := { dst := some 19, op := Op.load 27 (Operand.tmp 18), type := 27, pos := "law.go:26", after := #[{ on := 0, ground := Ground.data }], guard := none }) rfl (fun K hK => ?_) AllReadyH.nil
      have q1 : (V1.alloc (.cells #[.slice a2 u c2] 26)).cell? ⟨g3, 1, none⟩ = some (.slice qa k qc) := (HT.out.p.l4.alloc (.cells #[.slice a2 u c2] 26)).cell 1
      go_simp
      clear q1
      refine hK.out _ _ trivial (fun hHeld => ?_)
      clear hK K hHeld
      try simp only [Act.put, List.setIfInBounds_toArray, List.set_cons_zero, List.set_cons_succ]
      refine wpAnyH_ready (rs := [5]) (by kernel_rfl) (by simp) ?_
      refine AllReadyH.cons (o := { dst := some 23, op := Op.call { callee := Callee.builtin Builtin.append, args := #[Operand.tmp 19, Operand.tmp 22], argTypes := #[27, 27] }, type := 27, pos := "law.go:26", after := #[{ on := 1, ground := Ground.data }, { on := 4, ground := Ground.data }, { on := 3, ground := Ground.chain }], guard := none }) rfl (fun K hK => ?_) AllReadyH.nil
      obtain ⟨a3, c3, w3, hr3, l3, T3, o3, o4⟩ := HT.out.p.app2 HR2.out HU.out HF2.out (by omega)
      have HRW3 := Lib.hid (o4 _ _ _ HRW.out)
      have HT3 : Hid (CpS w g2 g3 a1 c1 n0 nb a3 c3 (k + 1) (qs ++ [⟨a2, c2, ys⟩]) (w3.setCell ⟨g3, 1, none⟩ (.slice a3 (k + 1) c3))) := Lib.hid ⟨T3, o3 g2 _ HT.out.l2 HT.out.ne, HT.out.ne, HT.out.h2⟩
      have d3 := l3.cell 1
      simp only [List.getElem?_cons_zero, List.getElem?_cons_succ] at d3
      have z3 := l3.frozen 1
      clear l3 T3 o3 o4
      refine step_append_run _ rfl _ _ _ _ rfl _ _ rfl rfl _ _ hr3 ?_
      clear hr3
      refine hK.out _ _ trivial (fun hHeld => ?_)
      clear hK K hHeld
      try simp only [Act.put, List.setIfInBounds_toArray, List.set_cons_zero, List.set_cons_succ]
      refine wpAnyH_take (i := 6) (oi := { dst := some 24, op := Op.fieldAddr 29 (Operand.tmp 3) 1, type := 0, pos := "law.go:26", after := #[{ on := 0, ground := Ground.phase }, { on := 1, ground := Ground.phase }, { on := 2, ground := Ground.phase }, { on := 3, ground := Ground.phase }, { on := 4, ground := Ground.phase }, { on := 5, ground := Ground.phase }], guard := none }) (v := ?_) rfl (by kernel_rfl) (by kernel_rfl) (by kernel_rfl) (fun _ _ _ h => h) (Or.inl ⟨by rfl, ?_⟩) trivial ?_
      rotate_left
      · intro w hSw
        go_simp
        try with_reducible rfl
      try simp only [Act.put, List.setIfInBounds_toArray, List.set_cons_zero, List.set_cons_succ]
      refine wpAnyH_ready (rs := [7]) (by kernel_rfl) (by simp) ?_
      refine AllReadyH.cons (o := { dst := none, op := Op.store 27 (Operand.tmp 24) (Operand.tmp 23), type := 0, pos := "law.go:26", after := #[{ on := 6, ground := Ground.data }, { on := 5, ground := Ground.data }, { on := 5, ground := Ground.chain }, { on := 0, ground := Ground.phase }, { on := 1, ground := Ground.phase }, { on := 2, ground := Ground.phase }, { on := 3, ground := Ground.phase }, { on := 4, ground := Ground.phase }, { on := 5, ground := Ground.phase }], guard := none }) rfl (fun K hK => ?_) AllReadyH.nil
      go_simp
      refine hK.out _ _ trivial (fun hHeld => ?_)
      clear hK K hHeld
      try simp only [Act.put, List.setIfInBounds_toArray, List.set_cons_zero, List.set_cons_succ]
      refine wpAnyH_done (by kernel_rfl) ?_ _
      go_wp2
      go_roundw
      case rel => exact ⟨k + 1, a3, c3, _, by omega, by go_num, HT3, HW3 a2 c2, HRW3⟩
      case measure => simp [intOf]; omega
    · obtain rfl : m6 = k := by omega
      have hx : rawLin l0 zs rs = ⟨nb, words qs⟩ := by
        have h1 := HW.out
        rw [List.take_of_length_le (by have := HNV.out; rw [rvals_len] at this; simp only [rawLin, List.length_map]; omega)] at h1
        rw [h1, HNB.out]; rfl
      obtain ⟨e0, e1, eF⟩ := HT.out.full hx
      have HE0 := Lib.hid e0
      have HE1 := Lib.hid e1
      have HF := Lib.hid eF
      have d0 := HT.out.p.l4.cell 0
      have d1 := HT.out.p.l4.cell 1
      have y0 := HT.out.l2.cell 0
      have y1 := HT.out.l2.cell 1
      simp only [List.getElem?_cons_zero, List.getElem?_cons_succ] at d0 d1 y0 y1
      have z0 := HT.out.l2.frozen 0
      have z1 := HT.out.l2.frozen 1
      clear hx e0 e1 eF
      go_wp2
      generalize (wr.setCell ⟨g2, 0, none⟩ (.slice a1 n0 c1)).setCell ⟨g2, 1, none⟩ (.slice qa m6 qc) = WF at HE0 HE1 HF ⊢
      have e0 := HE0.out
      have e1 := HE1.out
      exact bodyPost_ret (v := .agg #[.slice a1 n0 c1, .slice qa m6 qc]) (by simp [results, Try.results8, go_sem, e0, e1]) rfl HF.out
end Go.Proofs.Ytmbkiefbchjofaa

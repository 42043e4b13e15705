import Derived.Test.YtmefmnpmppdpmabDoorCd
import Derived.Test.YtmefmnpmppdpmabDoorTe
import Derived.Deep.RegionHeld3
import Derived.Test.YtmefmnpmppdpmabDoorZl
/- Sorting rows of items, however long, by auto.order. -/

/-! The program's comparing of items: auto.order, and the function of auto.ordered. -/
namespace Go.Proofs.YtmefmnpmppdpmabDoor
open Go.ChangeShapes Go.WideShapes Go.ChangeAt Go.RowKit

namespace Z
set_option maxRecDepth 100000 in
set_option maxHeartbeats 2000000 in
/-- What auto.order tells of two right items. -/
theorem order_any (a b : Option Addr) (c d : Nat) (x y : It) (w : World) (R : Bag w a c x.c) (S : Bag w b d y.c) (hx : rightIt x = true) (hy : rightIt y = true) :
    Calls Tryd.prog 54 #[.agg #[.int .i64 x.j, .slice a x.c.length c], .agg #[.int .i64 y.j, .slice b y.c.length d]] w (Tells (cmpI x y) w) := by
  have HB1 : Hid (Below w.heap.size w (w.alloc (.cells #[.int .i64 x.j, .slice a x.c.length c] 65))) := Lib.hid ((Below.refl _ _).alloc (Nat.le_refl _) _)
  have HX0 := Lies.new w 65 [.int .i64 x.j, .slice a x.c.length c]
  have HB0 : Hid (Below w.heap.size w ((w.alloc (.cells #[.int .i64 x.j, .slice a x.c.length c] 65)).alloc (.cells #[.int .i64 y.j, .slice b y.c.length d] 65))) := Lib.hid (HB1.out.alloc HB1.out.size _)
  have HX : Hid (Lies ((w.alloc (.cells #[.int .i64 x.j, .slice a x.c.length c] 65)).alloc (.cells #[.int .i64 y.j, .slice b y.c.length d] 65)) w.heap.size 65 [.int .i64 x.j, .slice a x.c.length c]) := Lib.hid (HX0.alloc _)
  have HY : Hid (Lies ((w.alloc (.cells #[.int .i64 x.j, .slice a x.c.length c] 65)).alloc (.cells #[.int .i64 y.j, .slice b y.c.length d] 65)) (w.heap.size + 1) 65 [.int .i64 y.j, .slice b y.c.length d]) := Lib.hid (by
    have := Lies.new (w.alloc (.cells #[.int .i64 x.j, .slice a x.c.length c] 65)) 65 [.int .i64 y.j, .slice b y.c.length d]
    simpa using this)
  have HZ : Hid (∀ V, Go.RowKit.Below w.heap.size w V → Calls Tryd.prog 18 #[.slice a x.c.length c, .slice b y.c.length d] V (Tells (cmpL x.c y.c) V)) := Lib.hid (fun V h => cmp21 a b c d x.c y.c V (R.below h) (S.below h))
  have HE : Hid (cmpI x y = orI (sgn x.j y.j) (cmpL x.c y.c)) := Lib.hid (cmpI_yes hx hy)
  clear R S HX0 HB1 hx hy
  generalize x.c.length = n at *
  generalize y.c.length = m at *
  generalize x.j = j1 at *
  generalize y.j = j2 at *
  generalize cmpL x.c y.c = z at *
  generalize cmpI x y = r at *
  generalize hs : sgn j1 j2 = s at HE
  have HS := Lib.hid hs
  clear hs
  go_enter Tryd.func54, Tryd.ntmps54
  go_wp2_with (fail)
  generalize (w.alloc (.cells #[.int .i64 j1, .slice a n c] 65)).alloc (.cells #[.int .i64 j2, .slice b m d] 65) = W at HB0 HX HY ⊢
  generalize hg : w.heap.size = gb at HX HY ⊢
  have HG := Lib.hid hg
  clear hg
  have p0 : W.cell? ⟨gb, 0, none⟩ = some (.int .i64 j1) := HX.out.cell 0
  have p1 : W.cell? ⟨gb, 1, none⟩ = some (.slice a n c) := HX.out.cell 1
  have q0 : W.cell? ⟨gb + 1, 0, none⟩ = some (.int .i64 j2) := HY.out.cell 0
  have q1 : W.cell? ⟨gb + 1, 1, none⟩ = some (.slice b m d) := HY.out.cell 1
  have hgW : gb + 1 < W.heap.size := HY.out.lt
  have hgX : gb < W.heap.size := HX.out.lt
  have Z1 := Lib.hid (HZ.out W.drew (HB0.out.toBelow.drew))
  clear HZ HX HY
  go_region_held3 (fun w' => w'.cell? ⟨gb, 0, none⟩ = some (.int .i64 j1) ∧ w'.cell? ⟨gb + 1, 0, none⟩ = some (.int .i64 j2) ∧ w'.cell? ⟨gb, 1, none⟩ = some (.slice a n c) ∧ w'.cell? ⟨gb + 1, 1, none⟩ = some (.slice b m d))
    (first | (exact ⟨p0, q0, p1, q1⟩) | (exact ⟨p03, q03, p13, q13⟩) | go_keep)
    (first
      | (go_at_call 20; refine (or33 (some ⟨w3.heap.size, 0, none⟩) 2 s z _ (bag_new2 w3 s z)).mono ?_; rintro e w' ⟨rfl, rfl⟩)
      | (go_at_call 18; refine Z1.out.mono ?_; rintro e w3 ⟨rfl, b3⟩; (replace b3 : Below W.heap.size W w3 := undrew b3); (have p03 := (b3.cell (p := ⟨gb, 0, none⟩) hgX).trans p0); (have q03 := (b3.cell (p := ⟨gb + 1, 0, none⟩) hgW).trans q0); (have p13 := (b3.cell (p := ⟨gb, 1, none⟩) hgX).trans p1); (have q13 := (b3.cell (p := ⟨gb + 1, 1, none⟩) hgW).trans q1))
      | (go_at_call 21; refine (cmp_int _ _ _).mono ?_; rintro e w' ⟨rfl, rfl⟩; rw [HS.out]))
  go_wp2
  go_ret
  exact ⟨by rw [HE.out]; try rfl, HB0.out.trans ((b3.alloc (by exact b3.size) _).mono (by exact HB0.out.size))⟩
end Z
/-- What the function of auto.ordered tells of two right items. -/
theorem alikeI_any (a b : Option Addr) (c d : Nat) (x y : It) (w : World) (R : Bag w a c x.c) (S : Bag w b d y.c) (hx : rightIt x = true) (hy : rightIt y = true) :
    Calls Tryd.prog 58 #[.agg #[.int .i64 x.j, .slice a x.c.length c], .agg #[.int .i64 y.j, .slice b y.c.length d]] w (TellsB (decide (x = y)) w) := by
  have b1 := below_alloc w (.cells #[.int .i64 x.j, .slice a x.c.length c] 65)
  have b2 := below_alloc (w.alloc (.cells #[.int .i64 x.j, .slice a x.c.length c] 65)) (.cells #[.int .i64 y.j, .slice b y.c.length d] 65)
  have bb := b1.trans (b2.mono b1.size)
  have HB := Lib.hid bb
  have HZ := Lib.hid (Z.order_any a b c d x y _ (R.below bb) (S.below bb) hx hy)
  have HE := Lib.hid (cmpI_zero hx hy)
  clear R S b1 b2 bb hx hy
  generalize x.c.length = n at *
  generalize y.c.length = m at *
  generalize x.j = j1 at *
  generalize y.j = j2 at *
  generalize cmpI x y = z at *
  go_enter Tryd.func58, Tryd.ntmps58
  go_wp2_with (fail)
  refine HZ.out.mono ?_
  rintro e w3 ⟨rfl, b3⟩
  have HB3 := Lib.hid (HB.out.trans (b3.toBelow.mono HB.out.size))
  clear HZ b3
  by_cases h0 : z = 0
  · have h0b : (z == 0) = true := by simp [h0]
    have E : Hid (decide (x = y) = true) := Lib.hid (by simpa using HE.out.1 h0)
    go_wp2
    go_ret
    exact ⟨by rw [E.out]; try rfl, HB3.out⟩
  · have h0b : (z == 0) = false := by simp [h0]
    have E : Hid (decide (x = y) = false) := Lib.hid (by simpa using fun h => h0 (HE.out.2 h))
    go_wp2
    go_ret
    exact ⟨by rw [E.out]; try rfl, HB3.out⟩
end Go.Proofs.YtmefmnpmppdpmabDoor

/-! Sorting rows of items, however long, by auto.order. -/
namespace Go.Proofs.YtmefmnpmppdpmabDoor
open Go.ChangeShapes Go.WideShapes Go.ChangeAt Go.RowKit

theorem cmpI_le_trans {x y z : It} (hx : rightIt x = true) (hy : rightIt y = true) (hz : rightIt z = true) (h1 : cmpI x y ≤ 0) (h2 : cmpI y z ≤ 0) : cmpI x z ≤ 0 := by
  by_cases e1 : cmpI x y = 0
  · obtain rfl := (cmpI_zero hx hy).1 e1
    exact h2
  · by_cases e2 : cmpI y z = 0
    · obtain rfl := (cmpI_zero hy hz).1 e2
      exact h1
    · exact Int.le_of_lt (cmpI_lt_trans hx hy hz (by omega) (by omega))
theorem RowI.apart {w : World} {a b : Option Addr} {c n d : Nat} {xs : List Value} {ys : List Int} (r : RowI w a c n xs) (h : Bag w b d ys) {g : Nat} (e : b = some ⟨g, 0, none⟩) : a ≠ some ⟨g, 0, none⟩ := by
  intro e2
  rcases r.2 with ⟨h3, _⟩ | ⟨g', sp, h3, _, _, _, l⟩
  · rw [h3] at e2; cases e2
  · rw [h3] at e2; injection e2 with e2; injection e2 with e2; subst e2
    rcases h with ⟨h4, _⟩ | ⟨g2, sp2, h4, _, _, l2⟩
    · rw [h4] at e; cases e
    · rw [h4] at e; injection e with e; injection e with e; subst e
      exact l.other l2 (by decide) rfl
theorem keptBagI {w w' : World} {a : Option Addr} {c n : Nat} {xs : List Value} (r : RowI w a c n xs) (k : Kept (fun g => a = some ⟨g, 0, none⟩) w w') {b : Option Addr} {d : Nat} {ys : List Int} (h : Bag w b d ys) : Bag w' b d ys :=
  h.kept k (fun _ e => r.apart h e)

/-- An item in memory that is right. -/
structure Rit (w : World) where
  l : Ib
  mem : Bag w l.a l.c l.x.c
  right : rightIt l.x = true
instance (w : World) : Inhabited (Rit w) := ⟨⟨⟨none, 0, ⟨0, []⟩⟩, Bag.nil w, right_empty⟩⟩
def ritEnc (w : World) (p : Rit w) : List Value := p.l.cells
def ritCmp (w : World) (p q : Rit w) : Int := cmpI p.l.x q.l.x
theorem rit_lt {w : World} {x y : Rit w} : ltOf (ritCmp w) x y = true ↔ cmpI x.l.x y.l.x < 0 := by
  unfold ltOf ritCmp
  exact decide_eq_true_iff
theorem rit_nlt {w : World} {x y : Rit w} : ltOf (ritCmp w) x y = false ↔ ¬ cmpI x.l.x y.l.x < 0 := by
  unfold ltOf ritCmp
  exact decide_eq_false_iff_not
theorem rit_swo (w : World) : Sort.SWO (ltOf (ritCmp w)) where
  irrefl x := rit_nlt.2 (by rw [cmpI_self x.right]; omega)
  trans x y z h1 h2 := rit_lt.2 (cmpI_lt_trans x.right y.right z.right (rit_lt.1 h1) (rit_lt.1 h2))
  ntrans x y z h1 h2 := by
    have h1 := rit_nlt.1 h1
    have h2 := rit_nlt.1 h2
    have a := cmpI_neg x.right y.right
    have b := cmpI_neg y.right z.right
    have c := cmpI_neg x.right z.right
    have := cmpI_le_trans z.right y.right x.right (by omega) (by omega)
    exact rit_nlt.2 (by omega)
def rits (w : World) (ls : List Ib) (h : ∀ l ∈ ls, Bag w l.a l.c l.x.c ∧ rightIt l.x = true) : List (Rit w) := ls.pmap (fun l h => ⟨l, h.1, h.2⟩) h
theorem rits_map (w : World) (ls : List Ib) (h : ∀ l ∈ ls, Bag w l.a l.c l.x.c ∧ rightIt l.x = true) : (rits w ls h).map Rit.l = ls := by
  unfold rits
  rw [List.map_pmap]
  simp
theorem flatK_iflat (w : World) (d : Array (Rit w)) : (Sort.flatK (ritEnc w) 2 d).toList.map id = iflat (d.toList.map Rit.l) := by
  rw [List.map_id]
  apply List.ext_getElem?
  intro t
  have hl : (iflat (d.toList.map Rit.l)).length = d.size * 2 := by rw [iflat_len]; simp
  by_cases ht : t < d.size * 2
  · have hk : t / 2 < d.size := by omega
    have hk' : t / 2 < (d.toList.map Rit.l).length := by simpa using hk
    have h1 := iflat_get (d.toList.map Rit.l) (t / 2) hk' (t % 2) (by omega)
    rw [show t / 2 * 2 + t % 2 = t by omega] at h1
    rw [h1]
    have hs : t < (Sort.flatK (ritEnc w) 2 d).size := by rw [Sort.size_flatK]; exact ht
    have h2 := Sort.get_flatK (ritEnc w) 2 d t ht
    rw [getElem!_pos _ t hs, getElem!_pos d (t / 2) hk] at h2
    rw [Array.getElem?_toList, Array.getElem?_eq_getElem hs, h2]
    simp only [List.getElem_map, Array.getElem_toList]
    show some ((Ib.cells _)[t % 2]!) = _
    have h3 : t % 2 = 0 ∨ t % 2 = 1 := by omega
    rcases h3 with h3 | h3 <;> rw [h3] <;> rfl
  · rw [List.getElem?_eq_none (by rw [Array.length_toList, Sort.size_flatK]; omega), List.getElem?_eq_none (by omega)]
/-- What a sort of linear sets comes to: they stand in order. -/
def SortedI (a : Option Addr) (c : Nat) (ls : List Ib) (w : World) (e : Ending) (w' : World) : Prop :=
  ∃ l, e = .returned (.tuple #[]) ∧ l.Perm ls ∧ Ibs w' a c l ∧ Kept (fun g => a = some ⟨g, 0, none⟩) w w' ∧ ∀ i j (_ : i < j) (hj : j < l.length), cmpI (l[i]).x (l[j]).x ≤ 0
theorem pdqI_some (g c n : Nat) (ls : List Ib) (w : World) (P : Ibs w (some ⟨g, 0, none⟩) c ls) (hn : ls.length = n) (hs : n ≤ 1000000000000) (r : ∀ l ∈ ls, rightIt l.x = true) :
    Calls Tryd.prog 66 #[.slice (some ⟨g, 0, none⟩) n c, .int .i64 (0 : Nat), .int .i64 n, .int .i64 (Lib.bitLen n : Nat), .func (.func 54) #[] #[]] w (SortedI (some ⟨g, 0, none⟩) c ls w) := by
  have hall : ∀ l ∈ ls, Bag w l.a l.c l.x.c ∧ rightIt l.x = true := fun p hp => ⟨P.each p hp, r p hp⟩
  have hrow := P.row
  obtain ⟨g', sp, eg, hc, hcl, hcm, l⟩ : ∃ g' sp, (some ⟨g, 0, none⟩ : Option Addr) = some ⟨g', 0, none⟩ ∧ c * 2 = (iflat ls).length + sp.length ∧ ls.length ≤ c ∧ c ≤ 9223372036854775807 ∧ Lies w g' 65 (iflat ls ++ sp) := by
    obtain ⟨_, h⟩ := hrow
    rcases h with ⟨h, _⟩ | h
    · cases h
    · exact h
  injection eg with eg
  injection eg with eg
  subst eg
  have em := rits_map w ls hall
  have ee : (Sort.flatK (ritEnc w) 2 (rits w ls hall).toArray).toList.map id = iflat ls := by
    rw [flatK_iflat, show (rits w ls hall).toArray.toList = rits w ls hall from rfl, em]
  have hlen : (rits w ls hall).length = n := by
    have := congrArg List.length em
    rw [List.length_map] at this
    omega
  have hcmp : CmpLays Tryd.prog 54 #[] (ritEnc w) 2 (ritCmp w) g 0 (rits w ls hall).toArray.size w := by
    intro m os dk hsz x y
    have K : Kept (fun b => (some ⟨g, 0, none⟩ : Option Addr) = some ⟨b, 0, none⟩) w (sortWorldK (ritEnc w) 2 w g 0 m dk os) := kept_sort id w g 0 m (Sort.flatK (ritEnc w) 2 dk) os
    have X := keptBagI P.row K x.mem
    have Y := keptBagI P.row K y.mem
    exact (Z.order_any x.l.a y.l.a x.l.c y.l.c x.l.x y.l.x _ X Y x.right y.right).mono fun e w' ⟨he, hb⟩ => ⟨he, grew hb⟩
  have es : (rits w ls hall).toArray.size = n := by simp [hlen]
  have hlim : Lib.bitLen n < 4611686018427387904 := Nat.lt_of_le_of_lt (Lib.bitLen_le n 62 (by omega) (by omega)) (by omega)
  have H := AnyQ.pdqsortCmpFunc_all Tryd.pdqItem 2 Tryd.isAgg65 Tryd.sizeOf65 (ritEnc w) (ritCmp w) 54 #[] (rit_swo w) g 0 c (rits w ls hall).toArray w
    (enters_of Tryd.func54 (by kernel_rfl) rfl) hcmp ⟨fun _ => rfl, fun x v hv => by
      simp only [ritEnc, Ib.cells, List.mem_cons, List.not_mem_nil, or_false] at hv
      rcases hv with rfl | rfl <;> rfl, holds_row (sp := sp) id _ (by rw [ee]; exact l), l.lt⟩ (n + 1) 0 n (Lib.bitLen n) (rits w ls hall).toArray w (by omega) rfl (SWK.start (holds_row (sp := sp) id _ (by rw [ee]; exact l))) (Nat.zero_le _) (by rw [es]; exact Nat.le_refl _) (by rw [es]; omega) hlim (Or.inl rfl)
  change Calls Tryd.prog 66 _ _ _ at H
  rw [es] at H
  have hso := Sort.pdq_sorts (ltOf (ritCmp w)) (rit_swo w) (rits w ls hall).toArray 0 n (Lib.bitLen n) true true (Nat.zero_le _) (by rw [es]; exact Nat.le_refl _) (Or.inl rfl)
  refine H.mono ?_
  rintro e w' ⟨he, q, os, rfl⟩
  obtain ⟨hp, hsd⟩ := hso
  generalize Sort.pdq (ltOf (ritCmp w)) (rits w ls hall).toArray 0 n (Lib.bitLen n) true true = d' at hp hsd ⊢
  rw [← es] at hp
  have hp2 := perm_all hp
  have hpl : (d'.toList.map Rit.l).Perm ls := by
    have := hp2.map Rit.l
    rwa [show (rits w ls hall).toArray.toList = rits w ls hall from rfl, em] at this
  have hds : d'.size = n := by rw [hp.1, es]
  have K : Kept (fun b => (some ⟨g, 0, none⟩ : Option Addr) = some ⟨b, 0, none⟩) w (sortWorldK (ritEnc w) 2 w g 0 q d' os) := kept_sort id w g 0 q (Sort.flatK (ritEnc w) 2 d') os
  refine ⟨d'.toList.map Rit.l, he, hpl, ⟨⟨iflat_len _, .inr ⟨g, sp, rfl, ?_, ?_, hcm, ?_⟩⟩, ?_⟩, K, ?_⟩
  · rw [hc, iflat_len, iflat_len, hpl.length_eq]
  · rw [hpl.length_eq]; exact hcl
  · have := lies_sort id l q (Sort.flatK (ritEnc w) 2 d') os (by rw [iflat_len, Sort.size_flatK, hn, hds])
    rwa [flatK_iflat] at this
  · intro p hp'
    obtain ⟨x, _, rfl⟩ := List.mem_map.1 hp'
    exact keptBagI P.row K x.mem
  · intro i j hij hj
    have hj' : j < d'.size := by simpa using hj
    have := rit_nlt.1 (hsd i j (Nat.zero_le _) hij (by omega))
    simp only [List.getElem_map, Array.getElem_toList]
    rw [getElem!_pos d' i (by omega), getElem!_pos d' j (by omega)] at this
    have hneg := cmpI_neg d'[i].right d'[j].right
    omega
theorem sortI_some (g c n : Nat) (ls : List Ib) (w : World) (P : Ibs w (some ⟨g, 0, none⟩) c ls) (hn : ls.length = n) (hs : n ≤ 1000000000000) (r : ∀ l ∈ ls, rightIt l.x = true) :
    Calls Tryd.prog 56 #[.slice (some ⟨g, 0, none⟩) n c, .func (.func 54) #[] #[]] w (SortedI (some ⟨g, 0, none⟩) c ls w) := by
  have hle := P.row.le
  rw [hn] at hle
  have H := pdqI_some g c n ls w P hn hs r
  have hl : Calls Tryd.prog 48 #[.int .u64 (n : Int)] w fun e w' => e = .returned (.int .i64 (Lib.bitLen n : Nat)) ∧ w = w' := by
    have h := Any.bits_Len Tryd.lays125 (n : Int) w (by omega) (by omega)
    rw [Int.toNat_natCast] at h
    exact h.mono fun _ _ ⟨a, b⟩ => ⟨a, b.symm⟩
  generalize Lib.bitLen n = b at H hl
  have wr : IntKind.u64.wrap (n : Int) = n := by simp [IntKind.wrap, IntKind.bits, IntKind.signed]; omega
  have HZ := Lib.hid H
  have HL := Lib.hid hl
  clear H hl P hn r
  go_enter Tryd.func56, Tryd.ntmps56
  go_wp2_with (fail)
  refine HL.out.mono ?_
  rintro e w' ⟨rfl, rfl⟩
  go_wp2_with (fail)
  refine HZ.out.mono ?_
  rintro e w' ⟨l, rfl, h⟩
  have HF := Lib.hid (show SortedI (some ⟨g, 0, none⟩) c ls w (.returned (.tuple #[])) w' from ⟨l, rfl, h⟩)
  clear h
  go_wp2
  exact bodyPost_ret (v := .tuple #[]) (by simp [results, Tryd.results56, go_sem]) rfl HF.out
set_option maxRecDepth 100000 in
theorem insertion_nilI (w : World) :
    Calls Tryd.prog 69 #[.slice none 0 0, .int .i64 0, .int .i64 0, .func (.func 54) #[] #[]] w (Done w) := by
  have HF := Lib.hid (show Done w (.returned (.tuple #[])) w from ⟨rfl, rfl⟩)
  go_enter Tryd.func69, Tryd.ntmps69
  go_wp2
  go_loop [8] (fun i => i = .int .i64 1) (fun _ => 0)
  case atStart => rfl
  case round =>
    obtain rfl := hrel
    go_wp2
    exact bodyPost_ret (v := .tuple #[]) (by simp [results, Tryd.results69, go_sem]) rfl HF.out
set_option maxRecDepth 100000 in
theorem pdq_nilI (v : Int) (w : World) :
    Calls Tryd.prog 66 #[.slice none 0 0, .int .i64 0, .int .i64 0, .int .i64 v, .func (.func 54) #[] #[]] w (Done w) := by
  have HF := Lib.hid (show Done w (.returned (.tuple #[])) w from ⟨rfl, rfl⟩)
  go_enter Tryd.func66, Tryd.ntmps66
  go_wp2
  go_loop [1, 2] (fun i j => i = .int .i64 0 ∧ j = .int .i64 0) (fun _ _ => 0)
  case atStart => exact ⟨rfl, rfl⟩
  case round =>
    obtain ⟨rfl, rfl⟩ := hrel
    go_wp2_with (fail)
    refine (insertion_nilI _).mono ?_
    rintro e w' ⟨rfl, rfl⟩
    go_wp2
    exact bodyPost_ret (v := .tuple #[]) (by simp [results, Tryd.results66, go_sem]) rfl HF.out
set_option maxRecDepth 100000 in
theorem sort_nilI (w : World) : Calls Tryd.prog 56 #[.slice none 0 0, .func (.func 54) #[] #[]] w (Done w) := by
  have HF := Lib.hid (show Done w (.returned (.tuple #[])) w from ⟨rfl, rfl⟩)
  go_enter Tryd.func56, Tryd.ntmps56
  go_wp2_with (fail)
  refine (len_any _).mono ?_
  rintro e w' ⟨v, rfl, rfl⟩
  go_wp2_with (fail)
  refine (pdq_nilI v _).mono ?_
  rintro e w' ⟨rfl, rfl⟩
  go_wp2
  exact bodyPost_ret (v := .tuple #[]) (by simp [results, Tryd.results56, go_sem]) rfl HF.out
theorem sortI_any (a : Option Addr) (c n : Nat) (ls : List Ib) (w : World) (P : Ibs w a c ls) (hn : ls.length = n) (hs : n ≤ 1000000000000) (r : ∀ l ∈ ls, rightIt l.x = true) :
    Calls Tryd.prog 56 #[.slice a n c, .func (.func 54) #[] #[]] w (SortedI a c ls w) := by
  rcases P.row with ⟨_, ⟨rfl, rfl, h⟩ | ⟨g, _, rfl, _⟩⟩
  · obtain rfl : ls = [] := List.eq_nil_of_length_eq_zero h
    subst hn
    exact (sort_nilI w).mono fun e w' ⟨he, hw⟩ => by subst hw; exact ⟨[], he, .refl _, P, Kept.refl _ _, fun i j _ h => by simp at h⟩
  · exact sortI_some g c n ls w P hn hs r
end Go.Proofs.YtmefmnpmppdpmabDoor

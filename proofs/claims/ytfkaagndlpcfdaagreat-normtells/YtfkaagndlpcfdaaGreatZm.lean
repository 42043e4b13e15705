/- Sorting rows of linear sets, however long, by lin.Compare. -/
import Derived.Test.YtfkaagndlpcfdaaGreatZl
import Derived.Test.YtfkaagndlpcfdaaGreatMd
import Derived.Test.YtfkaagndlpcfdaaGreatSorz
namespace Go.Proofs.YtfkaagndlpcfdaaGreat
open Go.ChangeShapes Go.WideShapes Go.ChangeAt Go.RowKit

/-- A linear set in memory that is right. -/
structure Rl (w : World) where
  l : Lb
  mem : Bag w l.a l.c l.x.base ∧ Bags w l.pa l.pc l.x.ps
  right : rightLin l.x = true
instance (w : World) : Inhabited (Rl w) := ⟨⟨⟨none, 0, none, 0, ⟨[], []⟩⟩, ⟨Bag.nil w, Bags.nil w⟩, right_empty⟩⟩
def rlEnc (w : World) (p : Rl w) : List Value := p.l.cells
def rlCmp (w : World) (p q : Rl w) : Int := cmpLin p.l.x q.l.x
theorem rl_lt {w : World} {x y : Rl w} : ltOf (rlCmp w) x y = true ↔ cmpLin x.l.x y.l.x < 0 := by
  unfold ltOf rlCmp
  exact decide_eq_true_iff
theorem rl_nlt {w : World} {x y : Rl w} : ltOf (rlCmp w) x y = false ↔ ¬ cmpLin x.l.x y.l.x < 0 := by
  unfold ltOf rlCmp
  exact decide_eq_false_iff_not
theorem rl_swo (w : World) : Sort.SWO (ltOf (rlCmp w)) where
  irrefl x := rl_nlt.2 (by rw [cmpLin_self x.right]; omega)
  trans x y z h1 h2 := rl_lt.2 (cmpLin_lt_trans x.right y.right z.right (rl_lt.1 h1) (rl_lt.1 h2))
  ntrans x y z h1 h2 := by
    have h1 := rl_nlt.1 h1
    have h2 := rl_nlt.1 h2
    have a := cmpLin_neg x.right y.right
    have b := cmpLin_neg y.right z.right
    have c := cmpLin_neg x.right z.right
    have := cmpLin_trans z.right y.right x.right (by omega) (by omega)
    exact rl_nlt.2 (by omega)
def rls (w : World) (ls : List Lb) (h : ∀ l ∈ ls, (Bag w l.a l.c l.x.base ∧ Bags w l.pa l.pc l.x.ps) ∧ rightLin l.x = true) : List (Rl w) := ls.pmap (fun l h => ⟨l, h.1, h.2⟩) h
theorem rls_map (w : World) (ls : List Lb) (h : ∀ l ∈ ls, (Bag w l.a l.c l.x.base ∧ Bags w l.pa l.pc l.x.ps) ∧ rightLin l.x = true) : (rls w ls h).map Rl.l = ls := by
  unfold rls
  rw [List.map_pmap]
  simp
theorem flatK_lflat (w : World) (d : Array (Rl w)) : (Sort.flatK (rlEnc w) 2 d).toList.map id = lflat (d.toList.map Rl.l) := by
  rw [List.map_id]
  apply List.ext_getElem?
  intro t
  have hl : (lflat (d.toList.map Rl.l)).length = d.size * 2 := by rw [lflat_len]; simp
  by_cases ht : t < d.size * 2
  · have hk : t / 2 < d.size := by omega
    have hk' : t / 2 < (d.toList.map Rl.l).length := by simpa using hk
    have h1 := lflat_get (d.toList.map Rl.l) (t / 2) hk' (t % 2) (by omega)
    rw [show t / 2 * 2 + t % 2 = t by omega] at h1
    rw [h1]
    have hs : t < (Sort.flatK (rlEnc w) 2 d).size := by rw [Sort.size_flatK]; exact ht
    have h2 := Sort.get_flatK (rlEnc w) 2 d t ht
    rw [getElem!_pos _ t hs, getElem!_pos d (t / 2) hk] at h2
    rw [Array.getElem?_toList, Array.getElem?_eq_getElem hs, h2]
    simp only [List.getElem_map, Array.getElem_toList]
    show some ((Lb.cells _)[t % 2]!) = _
    have h3 : t % 2 = 0 ∨ t % 2 = 1 := by omega
    rcases h3 with h3 | h3 <;> rw [h3] <;> rfl
  · rw [List.getElem?_eq_none (by rw [Array.length_toList, Sort.size_flatK]; omega), List.getElem?_eq_none (by omega)]
theorem lins_perm {a b : List Lb} (h : a.Perm b) : (lins a).Perm (lins b) := h.map _
/-- What a sort of linear sets comes to: they stand in order. -/
def SortedS (a : Option Addr) (c : Nat) (ls : List Lb) (w : World) (e : Ending) (w' : World) : Prop :=
  ∃ l, e = .returned (.tuple #[]) ∧ l.Perm ls ∧ Lbs w' a c l ∧ Kept (fun g => a = some ⟨g, 0, none⟩) w w' ∧ ∀ i j (_ : i < j) (hj : j < l.length), cmpLin (l[i]).x (l[j]).x ≤ 0
theorem pdqS_some (g c n : Nat) (ls : List Lb) (w : World) (P : Lbs w (some ⟨g, 0, none⟩) c ls) (hn : ls.length = n) (hs : n ≤ 1000000000000) (r : ∀ l ∈ ls, rightLin l.x = true) :
    Calls Tryz.prog 82 #[.slice (some ⟨g, 0, none⟩) n c, .int .i64 (0 : Nat), .int .i64 n, .int .i64 (Lib.bitLen n : Nat), .func (.func 59) #[] #[]] w (SortedS (some ⟨g, 0, none⟩) c ls w) := by
  have hall : ∀ l ∈ ls, (Bag w l.a l.c l.x.base ∧ Bags w l.pa l.pc l.x.ps) ∧ rightLin l.x = true := fun p hp => ⟨P.each p hp, r p hp⟩
  have hrow := P.row
  obtain ⟨g', sp, eg, hc, hcl, hcm, l⟩ : ∃ g' sp, (some ⟨g, 0, none⟩ : Option Addr) = some ⟨g', 0, none⟩ ∧ c * 2 = (lflat ls).length + sp.length ∧ ls.length ≤ c ∧ c ≤ 9223372036854775807 ∧ Lies w g' 60 (lflat ls ++ sp) := by
    obtain ⟨_, h⟩ := hrow
    rcases h with ⟨h, _⟩ | h
    · cases h
    · exact h
  injection eg with eg
  injection eg with eg
  subst eg
  have em := rls_map w ls hall
  have ee : (Sort.flatK (rlEnc w) 2 (rls w ls hall).toArray).toList.map id = lflat ls := by
    rw [flatK_lflat, show (rls w ls hall).toArray.toList = rls w ls hall from rfl, em]
  have hlen : (rls w ls hall).length = n := by
    have := congrArg List.length em
    rw [List.length_map] at this
    omega
  have hcmp : CmpLays Tryz.prog 59 #[] (rlEnc w) 2 (rlCmp w) g 0 (rls w ls hall).toArray.size w := by
    intro m os dk hsz x y
    have K : Kept (fun b => (some ⟨g, 0, none⟩ : Option Addr) = some ⟨b, 0, none⟩) w (sortWorldK (rlEnc w) 2 w g 0 m dk os) := kept_sort id w g 0 m (Sort.flatK (rlEnc w) 2 dk) os
    have X := keptBag P.row K x.mem
    have Y := keptBag P.row K y.mem
    exact (Z.compare18 x.l.a x.l.pa y.l.a y.l.pa x.l.c x.l.pc y.l.c y.l.pc x.l.x y.l.x _ X.1 X.2 Y.1 Y.2).mono fun e w' ⟨he, hb⟩ => ⟨he, grew hb⟩
  have es : (rls w ls hall).toArray.size = n := by simp [hlen]
  have hlim : Lib.bitLen n < 4611686018427387904 := Nat.lt_of_le_of_lt (Lib.bitLen_le n 62 (by omega) (by omega)) (by omega)
  have H := AnyQ.pdqsortCmpFunc_all Tryz.pdqLin 2 Tryz.isAgg60 Tryz.sizeOf60 (rlEnc w) (rlCmp w) 59 #[] (rl_swo w) g 0 c (rls w ls hall).toArray w
    (enters_of Tryz.func59 (by kernel_rfl) rfl) hcmp ⟨fun _ => rfl, fun x v hv => by
      simp only [rlEnc, Lb.cells, List.mem_cons, List.not_mem_nil, or_false] at hv
      rcases hv with rfl | rfl <;> rfl, holds_row (sp := sp) id _ (by rw [ee]; exact l), l.lt⟩ (n + 1) 0 n (Lib.bitLen n) (rls w ls hall).toArray w (by omega) rfl (SWK.start (holds_row (sp := sp) id _ (by rw [ee]; exact l))) (Nat.zero_le _) (by rw [es]; exact Nat.le_refl _) (by rw [es]; omega) hlim (Or.inl rfl)
  change Calls Tryz.prog 82 _ _ _ at H
  rw [es] at H
  have hso := Sort.pdq_sorts (ltOf (rlCmp w)) (rl_swo w) (rls w ls hall).toArray 0 n (Lib.bitLen n) true true (Nat.zero_le _) (by rw [es]; exact Nat.le_refl _) (Or.inl rfl)
  refine H.mono ?_
  rintro e w' ⟨he, q, os, rfl⟩
  obtain ⟨hp, hsd⟩ := hso
  generalize Sort.pdq (ltOf (rlCmp w)) (rls w ls hall).toArray 0 n (Lib.bitLen n) true true = d' at hp hsd ⊢
  rw [← es] at hp
  have hp2 := perm_all hp
  have hpl : (d'.toList.map Rl.l).Perm ls := by
    have := hp2.map Rl.l
    rwa [show (rls w ls hall).toArray.toList = rls w ls hall from rfl, em] at this
  have hds : d'.size = n := by rw [hp.1, es]
  have K : Kept (fun b => (some ⟨g, 0, none⟩ : Option Addr) = some ⟨b, 0, none⟩) w (sortWorldK (rlEnc w) 2 w g 0 q d' os) := kept_sort id w g 0 q (Sort.flatK (rlEnc w) 2 d') os
  refine ⟨d'.toList.map Rl.l, he, hpl, ⟨⟨lflat_len _, .inr ⟨g, sp, rfl, ?_, ?_, hcm, ?_⟩⟩, ?_⟩, K, ?_⟩
  · rw [hc, lflat_len, lflat_len, hpl.length_eq]
  · rw [hpl.length_eq]; exact hcl
  · have := lies_sort id l q (Sort.flatK (rlEnc w) 2 d') os (by rw [lflat_len, Sort.size_flatK, hn, hds])
    rwa [flatK_lflat] at this
  · intro p hp'
    obtain ⟨x, _, rfl⟩ := List.mem_map.1 hp'
    exact keptBag P.row K x.mem
  · intro i j hij hj
    have hj' : j < d'.size := by simpa using hj
    have := rl_nlt.1 (hsd i j (Nat.zero_le _) hij (by omega))
    simp only [List.getElem_map, Array.getElem_toList]
    rw [getElem!_pos d' i (by omega), getElem!_pos d' j (by omega)] at this
    have hneg := cmpLin_neg d'[i].right d'[j].right
    omega
theorem sortS_some (g c n : Nat) (ls : List Lb) (w : World) (P : Lbs w (some ⟨g, 0, none⟩) c ls) (hn : ls.length = n) (hs : n ≤ 1000000000000) (r : ∀ l ∈ ls, rightLin l.x = true) :
    Calls Tryz.prog 64 #[.slice (some ⟨g, 0, none⟩) n c, .func (.func 59) #[] #[]] w (SortedS (some ⟨g, 0, none⟩) c ls w) := by
  have hle := P.row.le
  rw [hn] at hle
  have H := pdqS_some g c n ls w P hn hs r
  have hl : Calls Tryz.prog 83 #[.int .u64 (n : Int)] w fun e w' => e = .returned (.int .i64 (Lib.bitLen n : Nat)) ∧ w = w' := by
    have h := Any.bits_Len Tryz.lays125 (n : Int) w (by omega) (by omega)
    rw [Int.toNat_natCast] at h
    exact h.mono fun _ _ ⟨a, b⟩ => ⟨a, b.symm⟩
  generalize Lib.bitLen n = b at H hl
  have wr : IntKind.u64.wrap (n : Int) = n := by simp [IntKind.wrap, IntKind.bits, IntKind.signed]; omega
  have HZ := Lib.hid H
  have HL := Lib.hid hl
  clear H hl P hn r
  go_enter Tryz.func64, Tryz.ntmps64
  go_wp2_with (fail)
  refine HL.out.mono ?_
  rintro e w' ⟨rfl, rfl⟩
  go_wp2_with (fail)
  refine HZ.out.mono ?_
  rintro e w' ⟨l, rfl, h⟩
  have HF := Lib.hid (show SortedS (some ⟨g, 0, none⟩) c ls w (.returned (.tuple #[])) w' from ⟨l, rfl, h⟩)
  clear h
  go_wp2
  exact bodyPost_ret (v := .tuple #[]) (by simp [results, Tryz.results64, go_sem]) rfl HF.out
set_option maxRecDepth 100000 in
theorem insertion_nilS (w : World) :
    Calls Tryz.prog 92 #[.slice none 0 0, .int .i64 0, .int .i64 0, .func (.func 59) #[] #[]] w (Done w) := by
  have HF := Lib.hid (show Done w (.returned (.tuple #[])) w from ⟨rfl, rfl⟩)
  go_enter Tryz.func92, Tryz.ntmps92
  go_wp2
  go_loop [8] (fun i => i = .int .i64 1) (fun _ => 0)
  case atStart => rfl
  case round =>
    obtain rfl := hrel
    go_wp2
    exact bodyPost_ret (v := .tuple #[]) (by simp [results, Tryz.results92, go_sem]) rfl HF.out
set_option maxRecDepth 100000 in
theorem pdq_nilS (v : Int) (w : World) :
    Calls Tryz.prog 82 #[.slice none 0 0, .int .i64 0, .int .i64 0, .int .i64 v, .func (.func 59) #[] #[]] w (Done w) := by
  have HF := Lib.hid (show Done w (.returned (.tuple #[])) w from ⟨rfl, rfl⟩)
  go_enter Tryz.func82, Tryz.ntmps82
  go_wp2
  go_loop [1, 2] (fun i j => i = .int .i64 0 ∧ j = .int .i64 0) (fun _ _ => 0)
  case atStart => exact ⟨rfl, rfl⟩
  case round =>
    obtain ⟨rfl, rfl⟩ := hrel
    go_wp2_with (fail)
    refine (insertion_nilS _).mono ?_
    rintro e w' ⟨rfl, rfl⟩
    go_wp2
    exact bodyPost_ret (v := .tuple #[]) (by simp [results, Tryz.results82, go_sem]) rfl HF.out
set_option maxRecDepth 100000 in
theorem sort_nilS (w : World) : Calls Tryz.prog 64 #[.slice none 0 0, .func (.func 59) #[] #[]] w (Done w) := by
  have HF := Lib.hid (show Done w (.returned (.tuple #[])) w from ⟨rfl, rfl⟩)
  go_enter Tryz.func64, Tryz.ntmps64
  go_wp2_with (fail)
  refine (len_any _).mono ?_
  rintro e w' ⟨v, rfl, rfl⟩
  go_wp2_with (fail)
  refine (pdq_nilS v _).mono ?_
  rintro e w' ⟨rfl, rfl⟩
  go_wp2
  exact bodyPost_ret (v := .tuple #[]) (by simp [results, Tryz.results64, go_sem]) rfl HF.out
theorem sortS_any (a : Option Addr) (c n : Nat) (ls : List Lb) (w : World) (P : Lbs w a c ls) (hn : ls.length = n) (hs : n ≤ 1000000000000) (r : ∀ l ∈ ls, rightLin l.x = true) :
    Calls Tryz.prog 64 #[.slice a n c, .func (.func 59) #[] #[]] w (SortedS a c ls w) := by
  rcases P.row with ⟨_, ⟨rfl, rfl, h⟩ | ⟨g, _, rfl, _⟩⟩
  · obtain rfl : ls = [] := List.eq_nil_of_length_eq_zero h
    subst hn
    exact (sort_nilS w).mono fun e w' ⟨he, hw⟩ => by subst hw; exact ⟨[], he, .refl _, P, Kept.refl _ _, fun i j _ h => by simp at h⟩
  · exact sortS_some g c n ls w P hn hs r
end Go.Proofs.YtfkaagndlpcfdaaGreat

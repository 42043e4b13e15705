import Derived.Test.YtmefmnpmppdpmabDoorShB
import Derived.Test.YtmefmnpmppdpmabDoorXa
import Derived.Test.YtmefmnpmppdpmabDoorWb
import Derived.Lib.AppendIntMem
import Derived.Lib.UnsafeStr
import Derived.Laws.AppendOwn
import Derived.Lib.OwnKind
/- The program's digits, half, longer, appendWord. -/
namespace Go.Proofs.YtmefmnpmppdpmabDoor
open Go.ChangeShapes Go.WideShapes Go.ChangeAt Go.RowKit

set_option maxRecDepth 100000 in
set_option maxHeartbeats 2000000 in
theorem halfI (a : Option Addr) (c : Nat) (xs : List Int) (w : World) (R : Bag w a c xs) (hx : rightL xs = true) :
    Calls Tryd.prog 41 #[.slice a xs.length c] w (Makes (halfL xs) w) := by
  have hl12 := (right_iff.1 hx).1
  have hle := R.le
  have HLT : Hid (∀ g, a = some ⟨g, 0, none⟩ → g < w.heap.size) := Lib.hid (fun g e => R.lt e)
  have HHT := Lib.hid (half_tab (xs := xs) rfl)
  have HNL : Hid (halfL xs = normL (halfT xs)) := Lib.hid rfl
  generalize hn : xs.length = n at hle hl12 HHT ⊢
  have HN := Lib.hid hn
  have HR := Lib.hid R
  have HRT := Lib.hid hx
  have HTL : Hid ((halfT xs).length = n) := Lib.hid ((half_len xs).trans hn)
  clear R hn hx
  go_enter Tryd.func41, Tryd.ntmps41
  go_wp2_with (at_make; refine wpList_make_bag _ rfl _ _ rfl _ _ n rfl rfl (by omega) (by omega) (by omega) ?_)
  intro w1 r1 b1
  have HR1 := Lib.hid (HR.out.below b1)
  have HO : Hid (Bag w1 (some ⟨w.heap.size, 0, none⟩) n (tab n (fun j => if j < 0 then xs.getD j 0 / 2 else 0))) := Lib.hid (by simpa using r1)
  have HB := Lib.hid b1
  clear r1 b1 HR
  generalize hgw : w.heap.size = gw at HO HLT ⊢
  have HGW := Lib.hid hgw
  clear hgw
  go_wp2
  go_loopw [11] (fun i wr => ∃ k : Nat, k ≤ n ∧ i = .int .i64 k ∧ Hid (Bag wr (some ⟨gw, 0, none⟩) n (tab n (fun j => if j < k then xs.getD j 0 / 2 else 0))) ∧ Hid (Bag wr a c xs) ∧ Hid (Below w.heap.size w wr)) (fun i _ => n - (intOf i).toNat)
  case atStart => exact ⟨0, Nat.zero_le _, rfl, HO, HR1, HB⟩
  case round =>
    clear HO HR1 HB
    obtain ⟨k, hk, rfl, HO, HR1, HB⟩ := hrel
    by_cases hlt : k < n
    · have hk' : k < xs.length := by rw [HN.out]; exact hlt
      obtain ⟨g, e1, hc⟩ := HR1.out.at hk'
      have hga := HLT.out g e1
      subst e1
      have hb := right_at HRT.out k
      obtain ⟨g0, e0, hc0⟩ := HO.out.at (k := k) (by rw [tab_len]; exact hlt)
      injection e0 with e0; injection e0 with e0
      subst e0
      have hfz := HO.out.frozen k
      have O2 := HO.out.set (j := k) (by rw [tab_len]; exact hlt) (xs.getD k 0 / 2)
      have e2 : (tab n (fun j => if j < k then xs.getD j 0 / 2 else 0)).set k (xs.getD k 0 / 2) = tab n (fun j => if j < k + 1 then xs.getD j 0 / 2 else 0) := by
        rw [tab_set]
        refine tab_congr (fun j hj => ?_)
        by_cases hjk : j = k
        · subst hjk; simp
        · by_cases hj2 : j < k
          · rw [if_neg hjk, if_pos hj2, if_pos (by omega)]
          · rw [if_neg hjk, if_neg hj2, if_neg (by omega)]
      rw [e2] at O2
      have kx : Kept (fun i => i = gw) wr (wr.setCell ⟨gw, k, none⟩ (.int .i64 (xs.getD k 0 / 2))) := (Kept.refl (fun i => i = gw) wr).setCell (p := ⟨gw, k, none⟩) (fun _ => rfl) _
      have HO2 := Lib.hid O2
      have HR2 := Lib.hid (HR1.out.kept kx (fun g' e e2 => by injection e with e; injection e with e; omega))
      have HB2 : Hid (Below w.heap.size w (wr.setCell ⟨gw, k, none⟩ (.int .i64 (xs.getD k 0 / 2)))) := Lib.hid (HB.out.setCell (p := ⟨gw, k, none⟩) (by have := HGW.out; show w.heap.size ≤ gw; omega) _)
      generalize xs.getD k 0 = v at hc hb HO2 HR2 HB2
      clear hk' O2 kx e2 HO HR1 HB
      have i1 : (0 : Int) ≤ (k : Int) := by omega
      have i2 : (k : Int) < (n : Int) := by omega
      have hq : v.tdiv 2 = v / 2 := Int.tdiv_eq_ediv_of_nonneg hb.1
      go_wp2
      go_roundw
      case rel => exact ⟨k + 1, by omega, by go_num, HO2, HR2, HB2⟩
      case measure => simp [intOf]; omega
    · obtain rfl : k = n := by omega
      have O2 := HO.out
      rw [HHT.out] at O2
      have Z := norm19 (some ⟨gw, 0, none⟩) k (halfT xs) wr O2 (by rw [HTL.out]; omega)
      rw [HTL.out, ← HNL.out] at Z
      have HZ := Lib.hid Z
      clear Z O2 HO
      go_wp2_with (fail)
      refine HZ.out.mono ?_
      rintro e w3 ⟨a3, c3, rfl, B3, f3, b3⟩
      have hs := HB.out.size
      have HF : Hid (Makes (halfL xs) w (.returned (.slice a3 (halfL xs).length c3)) w3) := Lib.hid ⟨a3, c3, rfl, B3, fun g e => Nat.le_trans hs (f3 g e), HB.out.trans (b3.mono hs)⟩
      have hl3 := B3.le
      generalize (halfL xs).length = hl at HF hl3 ⊢
      clear B3 f3 b3 HZ
      go_wp2
      go_ret
      exact HF.out

/-! ### longer -/
/-- The letter's tags, each 2 to the power of n. -/
def moreL (m n : Nat) : List Int := tab (Lib.bitLen m) (fun t => ((m / 2 ^ t % 2 : Nat) : Int) * 2 ^ n)
theorem bit_one (m k n : Nat) (hm : m < 18446744073709551616) (hn : n ≤ 59) : wrap64 (wrap64 (bits .and .u64 ((m : Int) / 2 ^ k) 1) * 2 ^ n) = ((m / 2 ^ k % 2 : Nat) : Int) * 2 ^ n := by
  have ew : ∀ z, wrap64 z = IntKind.i64.wrap z := fun z => by unfold wrap64; rw [IntKind.wrap_i64]
  rw [ew, ew]
  have e0 : (m : Int) / 2 ^ k = ((m / 2 ^ k : Nat) : Int) := by rw [Int.natCast_ediv]; simp
  have hle : m / 2 ^ k ≤ m := Nat.div_le_self _ _
  have e1 : bits .and .u64 ((m / 2 ^ k : Nat) : Int) 1 = ((m / 2 ^ k % 2 : Nat) : Int) := by
    have := bits_and_u64_nat (m / 2 ^ k) 1 (by omega) (by omega)
    rw [Nat.and_one_is_mod] at this
    exact this
  have hp := pow59 hn
  rw [e0, e1]
  have h2 : m / 2 ^ k % 2 < 2 := Nat.mod_lt _ (by omega)
  generalize m / 2 ^ k % 2 = b at h2 ⊢
  have e2 : IntKind.i64.wrap ((b : Nat) : Int) = (b : Int) := by rw [IntKind.wrap_i64]; omega
  rw [e2]
  have h3 : (0 : Int) ≤ (b : Int) * 2 ^ n ∧ (b : Int) * 2 ^ n ≤ 576460752303423488 := by
    have : b = 0 ∨ b = 1 := by omega
    rcases this with rfl | rfl
    · simp
    · simp only [Int.natCast_one, Int.one_mul]; omega
  rw [IntKind.wrap_i64]
  omega
theorem more_at {m n : Nat} (hm : m < 2 ^ 12) (t : Nat) : (moreL m n).getD t 0 = ((m / 2 ^ t % 2 : Nat) : Int) * 2 ^ n := by
  have h64 : m < 2 ^ 64 := Nat.lt_of_lt_of_le hm (Nat.pow_le_pow_right (by omega) (by omega))
  by_cases ht : t < Lib.bitLen m
  · exact tab_at ht
  · unfold moreL
    rw [tab_past (by omega)]
    have h1 := (bitLen_low 64 m h64).1
    have h2 : m / 2 ^ t = 0 := by
      have h3 : m < 2 ^ Lib.bitLen m := by
        rcases Nat.lt_or_ge m (2 ^ Lib.bitLen m) with h | h
        · exact h
        · have := Nat.div_pos h (Nat.two_pow_pos _)
          exact absurd h1 (by unfold Lib.bitLen at this; omega)
      exact Nat.div_eq_of_lt (Nat.lt_of_lt_of_le h3 (Nat.pow_le_pow_right (by omega) (by omega)))
    rw [h2]
    simp
theorem more_right {m n : Nat} (hm : m < 2 ^ 12) (hn : n ≤ 59) : rightL (moreL m n) = true := by
  have hp := pow59 hn
  have h12 : Lib.bitLen m ≤ 12 := Lib.bitLen_le m 12 (by omega) hm
  have h64 : m < 2 ^ 64 := Nat.lt_of_lt_of_le hm (Nat.pow_le_pow_right (by omega) (by omega))
  have hlen : (moreL m n).length = Lib.bitLen m := tab_len _ _
  refine right_iff.2 ⟨by rw [hlen]; exact h12, fun v hv => ?_, ?_⟩
  · obtain ⟨t, ht, rfl⟩ := List.getElem_of_mem hv
    rw [← getD_at ht, more_at hm]
    have h2 : m / 2 ^ t % 2 < 2 := Nat.mod_lt _ (by omega)
    have : m / 2 ^ t % 2 = 0 ∨ m / 2 ^ t % 2 = 1 := by omega
    rcases this with e | e <;> rw [e]
    · simp
    · simp only [Int.natCast_one, Int.one_mul]; omega
  · by_cases h0 : Lib.bitLen m = 0
    · left
      exact List.eq_nil_of_length_eq_zero (by rw [hlen]; exact h0)
    · right
      rw [hlen, more_at hm]
      obtain ⟨h1, h2⟩ := bitLen_low 64 m h64
      have h3 := h2 (by unfold Lib.bitLen at h0; omega)
      have h4 : m / 2 ^ (Lib.bitLenAux 64 m - 1) / 2 = 0 := by
        rw [Nat.div_div_eq_div_mul, ← Nat.pow_succ, Nat.succ_eq_add_one, Nat.sub_add_cancel (by unfold Lib.bitLen at h0; omega)]
        exact h1
      have h5 : m / 2 ^ (Lib.bitLen m - 1) % 2 = 1 := by unfold Lib.bitLen; omega
      rw [h5]
      simp only [Int.natCast_one, Int.one_mul]
      omega
/-- A word with the letter's tags put to it. -/
theorem longer_word {w c : List Int} {n m : Nat} (hn : n ≤ 59) (hw : rightL w = true) (hlow : ∀ t, w.getD t 0 < 2 ^ n) (hc : c.length ≤ 12) (hm : oddN c = (m : Int)) :
    m < 2 ^ 12 ∧ addOk w (moreL m n) = true ∧ addS w (moreL m n) = wordStep w (oddN c) n := by
  have hm12 : m < 2 ^ 12 := by
    have h1 := pack_bound c
    have h2 : (2 : Nat) ^ c.length ≤ 2 ^ 12 := Nat.pow_le_pow_right (by omega) hc
    have e : (2 : Int) ^ c.length = ((2 ^ c.length : Nat) : Int) := by simp
    have h3 : oddN c = packN c := rfl
    omega
  have hp := pow59 hn
  have hM := more_right hm12 hn
  have hbit : ∀ t, m / 2 ^ t % 2 = 0 ∨ m / 2 ^ t % 2 = 1 := fun t => by
    have : m / 2 ^ t % 2 < 2 := Nat.mod_lt _ (by omega)
    omega
  have hok : addOk w (moreL m n) = true := (addOk_at hw hM).2 (fun t => by
    rw [more_at hm12]
    have h1 := hlow t
    rcases hbit t with e | e <;> rw [e]
    · rw [show ((0 : Nat) : Int) = 0 from rfl, Int.zero_mul]; omega
    · simp only [Int.natCast_one, Int.one_mul]; omega)
  refine ⟨hm12, hok, ?_⟩
  obtain ⟨r1, r2⟩ := word_step hn hw hlow hc
  unfold addS
  rw [if_pos hok]
  refine right_ext (add_right hok) r1 (fun t => ?_)
  rw [r2, add_at, more_at hm12]
  have h1 := pack_digit c t
  have h3 : packN c = (m : Int) := hm
  rw [h3] at h1
  have h4 : ((m / 2 ^ t % 2 : Nat) : Int) = c.getD t 0 % 2 := by
    rw [← h1, Int.natCast_emod, Int.natCast_ediv]
    simp
  rw [h4]
set_option maxRecDepth 100000 in
set_option maxHeartbeats 2000000 in
theorem longer160 (a : Option Addr) (c : Nat) (xs : List Int) (m n : Nat) (w : World) (R : Bag w a c xs) (hm : m < 2 ^ 12) (hn : n ≤ 59) (hok : addOk xs (moreL m n) = true) :
    Calls Tryd.prog 42 #[.slice a xs.length c, .int .u64 (m : Nat), .int .i64 (n : Nat)] w (Makes (addS xs (moreL m n)) w) := by
  have hle := R.le
  have HR := Lib.hid R
  have HOK := Lib.hid hok
  have hm12 : Lib.bitLen m ≤ 12 := Lib.bitLen_le m 12 (by omega) hm
  have e12 : (2 : Nat) ^ 12 = 4096 := by decide
  have HMT : Hid (moreL m n = tab (Lib.bitLen m) (fun t => ((m / 2 ^ t % 2 : Nat) : Int) * 2 ^ n)) := Lib.hid rfl
  have HMA := Lib.hid (fun t => more_at (n := n) hm t)
  have HB1 := Lib.hid (fun k => bit_one m k n (by omega) hn)
  have Z := (Tryd.bits_Len (m : Int) w (by omega) (by omega)).mono (fun e w' h => (⟨h.1, h.2.symm⟩ : e = _ ∧ w = w'))
  rw [Int.toNat_natCast] at Z
  have HZ := Lib.hid Z
  generalize Lib.bitLen m = L at hm12 HMT HZ
  generalize hl : xs.length = l at hle ⊢
  have HL := Lib.hid hl
  clear Z hok R hl
  go_enter Tryd.func42, Tryd.ntmps42
  go_wp2_with (fail)
  refine HZ.out.mono ?_
  clear HZ
  rintro e _ ⟨rfl, rfl⟩
  go_wp2_with (at_make; refine wpList_make_bag _ rfl _ _ rfl _ _ L rfl rfl (by omega) (by omega) (by omega) ?_)
  intro w1 r1 b1
  have HR1 := Lib.hid (HR.out.below b1)
  have HO : Hid (Bag w1 (some ⟨w.heap.size, 0, none⟩) L (tab L (fun j => if j < 0 then ((m / 2 ^ j % 2 : Nat) : Int) * 2 ^ n else 0))) := Lib.hid (by simpa using r1)
  have HB := Lib.hid b1
  have HLT : Hid (∀ g, a = some ⟨g, 0, none⟩ → g < w.heap.size) := Lib.hid (fun g e => HR.out.lt e)
  clear r1 b1 HR
  generalize hgw : w.heap.size = gw at HO HLT ⊢
  have HGW := Lib.hid hgw
  clear hgw
  go_wp2
  go_loopw [16] (fun i wr => ∃ k : Nat, k ≤ L ∧ i = .int .i64 k ∧ Hid (Bag wr (some ⟨gw, 0, none⟩) L (tab L (fun j => if j < k then ((m / 2 ^ j % 2 : Nat) : Int) * 2 ^ n else 0))) ∧ Hid (Bag wr a c xs) ∧ Hid (Below w.heap.size w wr)) (fun i _ => L - (intOf i).toNat)
  case atStart => exact ⟨0, Nat.zero_le _, rfl, HO, HR1, HB⟩
  case round =>
    clear HO HR1 HB
    obtain ⟨k, hk, rfl, HO, HR1, HB⟩ := hrel
    by_cases hlt : k < L
    · obtain ⟨g0, e0, hc0⟩ := HO.out.at (k := k) (by rw [tab_len]; exact hlt)
      injection e0 with e0; injection e0 with e0
      subst e0
      have hfz := HO.out.frozen k
      have O2 := HO.out.set (j := k) (by rw [tab_len]; exact hlt) (((m / 2 ^ k % 2 : Nat) : Int) * 2 ^ n)
      have e2 : (tab L (fun j => if j < k then ((m / 2 ^ j % 2 : Nat) : Int) * 2 ^ n else 0)).set k (((m / 2 ^ k % 2 : Nat) : Int) * 2 ^ n) = tab L (fun j => if j < k + 1 then ((m / 2 ^ j % 2 : Nat) : Int) * 2 ^ n else 0) := by
        rw [tab_set]
        refine tab_congr (fun j hj => ?_)
        by_cases hjk : j = k
        · subst hjk; simp
        · by_cases hj2 : j < k
          · rw [if_neg hjk, if_pos hj2, if_pos (by omega)]
          · rw [if_neg hjk, if_neg hj2, if_neg (by omega)]
      rw [e2] at O2
      have hbit := HB1.out k
      generalize ((m / 2 ^ k % 2 : Nat) : Int) * 2 ^ n = v at O2 hbit
      have kx : Kept (fun i => i = gw) wr (wr.setCell ⟨gw, k, none⟩ (.int .i64 v)) := (Kept.refl (fun i => i = gw) wr).setCell (p := ⟨gw, k, none⟩) (fun _ => rfl) _
      have HO2 := Lib.hid O2
      have HR2 := Lib.hid (HR1.out.kept kx (fun g' e e2 => by have := HLT.out g' e; omega))
      have HB2 : Hid (Below w.heap.size w (wr.setCell ⟨gw, k, none⟩ (.int .i64 v))) := Lib.hid (HB.out.setCell (p := ⟨gw, k, none⟩) (by have := HGW.out; show w.heap.size ≤ gw; omega) _)
      have HBT := Lib.hid hbit
      clear O2 kx e2 HO HR1 HB hbit
      have i1 : (0 : Int) ≤ (k : Int) := by omega
      have i2 : (k : Int) < (L : Int) := by omega
      go_wp2
      rw [HBT.out]
      go_roundw
      case rel => exact ⟨k + 1, by omega, by go_num, HO2, HR2, HB2⟩
      case measure => simp [intOf]; omega
    · obtain rfl : k = L := by omega
      have O2 := HO.out
      have e3 : tab k (fun j => if j < k then ((m / 2 ^ j % 2 : Nat) : Int) * 2 ^ n else 0) = moreL m n := by
        rw [HMT.out]
        exact tab_congr (fun j hj => by rw [if_pos hj])
      have hml : (moreL m n).length = k := by rw [HMT.out, tab_len]
      rw [e3] at O2
      have Z := add10 a (some ⟨gw, 0, none⟩) c k xs (moreL m n) wr HR1.out O2
      rw [HL.out, hml, HOK.out] at Z
      have HZ := Lib.hid Z
      clear Z O2 HO
      go_wp2_with (fail)
      refine HZ.out.mono ?_
      rintro e w3 ⟨a3, c3, rfl, B3, f3, b3⟩
      have hs := HB.out.size
      have HF : Hid (Makes (addS xs (moreL m n)) w (.returned (.slice a3 (addS xs (moreL m n)).length c3)) w3) := Lib.hid ⟨a3, c3, rfl, B3, fun g e => Nat.le_trans hs (f3 g e), HB.out.trans (b3.mono hs)⟩
      have hl3 := B3.le
      generalize (addS xs (moreL m n)).length = hl at HF hl3 ⊢
      clear B3 f3 b3 HZ
      go_wp2
      go_ret
      exact HF.out

/-! ### appendWord -/
/-- A value that is a slice of these bytes, its own from block B on. -/
def OwnU (w : World) (B : Nat) (v : Value) (l : List UInt8) : Prop := w.ownsRow B 5 1 v l.length (Lib.byteCells l)
theorem ownU_nil (w : World) (B : Nat) : OwnU w B (.slice none 0 0) [] := ⟨rfl, .inl ⟨rfl, rfl⟩⟩
theorem Tryd.info5o : (Tryd.prog.info? 5).map (fun i => (i.zero, i.size, i.bytes)) = some (some (.int .u8 0), 1, 1) := by kernel_rfl
theorem bytes_app (l k : List UInt8) : Lib.byteCells (l ++ k) = Lib.byteCells l ++ Lib.byteCells k := List.map_append ..
theorem wordB_take {ws : List Int} {k : Nat} (hk : k < ws.length) : wordB (ws.take (k + 1)) = wordB (ws.take k) ++ (Lib.itoa (ws.getD k 0) ++ [32]) := by
  unfold wordB
  rw [List.take_add_one, List.getElem?_eq_getElem hk, List.flatMap_append, getD_at hk]
  simp [numB]
theorem OwnU.num {w' : World} {B : Nat} {v' : Value} {l k : List UInt8} (h : w'.ownsRow B 5 1 v' (l.length + k.length) (Lib.byteCells l ++ Lib.byteCells k)) : OwnU w' B v' (l ++ k) := by
  unfold OwnU
  rw [bytes_app, List.length_append]
  exact h
theorem Lies.others {w w' : World} {g : Nat} {t : TypeId} {cs : List Value} (l : Lies w g t cs) (ht : t ≠ 5) (k : Lib.OthersKept 5 none w w') : Lies w' g t cs := k g _ l (by simp) (fun c fz e => by injection e with _ e; exact ht e)
theorem below_drew {B : Nat} {w w' : World} (h : Below B w w') : Below B w w'.drew := ⟨h.os, h.tape, h.output, h.size, h.block⟩
theorem kept_from {B : Nat} {w w' : World} (h : Below B w w') : Kept (fun g => B ≤ g) w w' := ⟨h.os, h.tape, h.output, h.size, fun i _ hx => h.block i (by omega)⟩
set_option maxRecDepth 100000 in
/-- One byte put behind. -/
theorem OwnU.push {w w' : World} {B : Nat} {v v' : Value} {l : List UInt8} {x : UInt8} (hB : B ≤ w.heap.size) (h : OwnU w B v l) {cs : Array Value} (k : w'.ownsRow B 5 1 v' (l.length + 1) (Lib.byteCells l ++ [.int .u8 (x.toNat : Int)])) (hg : (w.alloc (.cells cs 5)).grownBy w' v.ownBlock) : OwnU w' B v' (l ++ [x]) ∧ Below B w w' ∧ Lib.OthersKept 5 none w w' := by
  refine ⟨?_, ((Below.refl B w).alloc hB _).grown hg (by simp; omega) (fun k hk => (World.ownsRow.lt h k hk).1), ((Lib.OthersKept.refl 5 none w).alloc _).grown hg (Lib.ownsRow_kind (World.ownsRow.alloc h _))⟩
  unfold OwnU
  rw [bytes_app, List.length_append]
  exact k
set_option maxRecDepth 100000 in
set_option maxHeartbeats 2000000 in
theorem appendWord136 (B : Nat) (v0 : Value) (l : List UInt8) (a : Option Addr) (c : Nat) (ws : List Int) (w : World) (HO0 : OwnU w B v0 l) (hB : B ≤ w.heap.size) (R : Bag w a c ws) (hr : rightL ws = true) (hab : ∀ g, a = some ⟨g, 0, none⟩ → g < B) (hlim : l.length ≤ 100000000000) (htab : Lib.TabBelow Tryd.prog B w "internal/strconv.uint64pow10" .u64 Lib.pow10Tab) :
    Calls Tryd.prog 31 #[v0, .slice a ws.length c] w (fun e w' => ∃ v', e = .returned v' ∧ OwnU w' B v' (l ++ wordB ws) ∧ Below B w w' ∧ Lib.OthersKept 5 none w w') := by
  have hle := R.le
  have hl12 := (right_iff.1 hr).1
  have HR := Lib.hid R
  have HRT := Lib.hid hr
  have HAB := Lib.hid hab
  have HTB := Lib.hid htab
  have HBS := Lib.hid hB
  have HO : Hid (OwnU w B v0 (l ++ wordB (ws.take 0))) := Lib.hid (by simpa [wordB] using HO0)
  have HTK : Hid (ws.take ws.length = ws) := Lib.hid List.take_length
  have HLW : Hid (∀ k, (l ++ wordB (ws.take k)).length ≤ 100000000264) := Lib.hid (fun k => by
    have h1 := wordB_len (c := ws.take k) (fun n hn => right_i64 hr n (List.mem_of_mem_take hn))
    have h2 : (ws.take k).length ≤ ws.length := by rw [List.length_take]; omega
    rw [List.length_append]
    omega)
  have HBB : Hid (Below B w w ∧ Lib.OthersKept 5 none w w) := Lib.hid ⟨Below.refl B w, Lib.OthersKept.refl 5 none w⟩
  generalize hn : ws.length = n at hle hl12 HTK ⊢
  have HN := Lib.hid hn
  clear R hr hab htab hB HO0 hn
  go_enter Tryd.func31, Tryd.ntmps31
  go_wp2
  go_loopw [0, 9] (fun v i wr => ∃ k : Nat, k ≤ n ∧ i = .int .i64 k ∧ Hid (OwnU wr B v (l ++ wordB (ws.take k))) ∧ Hid (Below B w wr ∧ Lib.OthersKept 5 none w wr)) (fun _ i _ => n - (intOf i).toNat)
  case atStart => exact ⟨0, Nat.zero_le _, rfl, HO, HBB⟩
  case round =>
    clear HO HBB
    obtain ⟨k, hk, rfl, HO, HB⟩ := hrel
    by_cases hlt : k < n
    · have hk' : k < ws.length := by rw [HN.out]; exact hlt
      have HRW := HR.out.kept (kept_from HB.out.1) (fun g e => by have := HAB.out g e; omega)
      obtain ⟨g, rfl, hc⟩ := HRW.at hk'
      have hb := right_at HRT.out k
      have HWT := Lib.hid (wordB_take hk')
      have hlw := HLW.out k
      have hlw2 := HLW.out (k + 1)
      have hbr : B ≤ wr.heap.size := Nat.le_trans HBS.out HB.out.1.size
      generalize hw1 : wordB (ws.take (k + 1)) = wk1 at HWT hlw2
      have HE1 := Lib.hid hw1
      clear hw1
      generalize wordB (ws.take k) = wk at HO HWT hlw
      generalize ws.getD k 0 = x at hc hb HWT
      have Z := Tryd.strconv_AppendInt_10 B (l ++ wk).length x (by omega) (by omega) _ (Lib.byteCells (l ++ wk)) wr HO.out hbr (by omega) (HTB.out.on HB.out.1)
      have HZ := Lib.hid Z
      have i1 : (0 : Int) ≤ (k : Int) := by omega
      have i2 : (k : Int) < (n : Int) := by omega
      have HBR := Lib.hid hbr
      clear Z HRW hk' hb hbr
      go_wp2_with (fail)
      refine HZ.out.mono ?_
      clear HZ
      rintro e w2 ⟨v2, rfl, o2, b2, k2⟩
      have HO2 := Lib.hid (OwnU.num o2)
      have HB2 := Lib.hid (And.intro (HB.out.1.trans b2) (HB.out.2.trans k2))
      have hb2 : B ≤ w2.heap.size := Nat.le_trans HBR.out b2.size
      have hl2 : (l ++ wk ++ Lib.itoa x).length ≤ 100000000300 := by
        rw [HWT.out] at hlw2
        simp only [List.length_append, List.length_singleton] at hlw2 ⊢
        omega
      have HLL : Hid (l ++ wk1 = l ++ wk ++ Lib.itoa x ++ [32]) := Lib.hid (by rw [HWT.out]; simp)
      generalize l ++ wk ++ Lib.itoa x = L at HO2 hl2 HLL
      obtain ⟨i0, hi0, hz0, hs0, hy0⟩ := info_parts Tryd.info5o
      clear o2 b2 k2
      go_wp2_with (at_builtin; refine wpList_append_own _ rfl _ _ 69 rfl B 5 i0 (.int .u8 0) 1 1 Tryd.underlying69 hi0 hz0 hs0 hy0 rfl (by decide) _ _ _ rfl (World.ownsRow.alloc HO2.out _) ⟨w2.heap.size, 0, none⟩ 1 1 [Value.int .u8 32] rfl rfl (by intro j u' hj; match j, hj with | 0, hj => simp at hj; subst hj; simp [Addr.add]) (by intro u' hu'; simp at hu'; subst hu'; rfl) (by unfold maxLen; omega) (by omega) (by simp; omega) ?_)
      intro v3 w3 o3 g3 _
      obtain ⟨O3, b3, k3⟩ := OwnU.push (x := 32) hb2 HO2.out o3 g3
      have HO3 : Hid (OwnU w3 B v3 (l ++ wordB (ws.take (k + 1)))) := Lib.hid (by rw [HE1.out, HLL.out]; exact O3)
      have HB3 := Lib.hid (And.intro (HB2.out.1.trans b3) (HB2.out.2.trans k3))
      clear o3 g3 O3 b3 k3 HO2 HB2 hl2 hlw hlw2
      go_wp2
      go_roundw
      case rel => exact ⟨k + 1, by omega, by go_num, HO3, HB3⟩
      case measure => simp [intOf]; omega
    · obtain rfl : k = n := by omega
      rw [HTK.out] at HO
      go_wp2
      go_ret
      exact ⟨_, rfl, HO.out, HB.out.1, HB.out.2⟩
end Go.Proofs.YtmefmnpmppdpmabDoor

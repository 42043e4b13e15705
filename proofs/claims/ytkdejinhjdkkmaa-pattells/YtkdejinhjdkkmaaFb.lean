/- Contract of the reference reader's named: where a name stands among the names; the condition: the reader lies there. -/
import Derived.Test.YtkdejinhjdkkmaaFa
import Derived.StillTailTactics
import Derived.Deep.RegionHeld3
namespace Go.Proofs.Ytkdejinhjdkkmaa
open Go.ChangeShapes Go.WideShapes Go.ChangeAt Go.RowKit Go.Maps

theorem posF_on {x : Txt} {nm : List Txt} {k : Nat} (h : k < nm.length) (hne : ¬ nm[k] = x) : posF x (nm.drop k) k = posF x (nm.drop (k + 1)) (k + 1) := by
  rw [List.drop_eq_getElem_cons h]; simp [posF, hne]
theorem posF_at {x : Txt} {nm : List Txt} {k : Nat} (h : k < nm.length) (he : nm[k] = x) : posF x (nm.drop k) k = some k := by
  rw [List.drop_eq_getElem_cons h]; simp [posF, he]
def namedV (p : Option Nat) : Value := .tuple #[.int .i64 ((p.getD 0 : Nat) : Int), .bool p.isSome]
set_option maxRecDepth 100000 in
set_option maxHeartbeats 1000000 in
theorem named_any (E : EnvF) (ok : E.Ok) (w : World) (i d b : Nat) (ns : List Nd) (pa : Option Addr) (pc : Nat) (R : RfSt E w i d b ns pa pc) (x : Txt) :
    Calls Try.prog 81 #[.pointer (some ⟨E.g, 0, none⟩), .string (str x)] w (Reads (namedV (posF x E.nm 0)) w) := by
  have HS := Lib.hid (R.strs ok)
  have r2 := R.c2
  have r3 := R.c3
  have hl := ok.nml
  clear R ok
  generalize E.sa = sa at HS r2
  obtain ⟨n, hn⟩ : ∃ n, n = E.nm.length := ⟨_, rfl⟩
  rw [← hn] at r2 hl
  have HN := Lib.hid hn
  clear hn
  obtain ⟨p, hp⟩ : ∃ p, p = posF x E.nm 0 := ⟨_, rfl⟩
  rw [← hp]
  have HP : Hid (p = posF x (E.nm.drop 0) 0) := Lib.hid hp
  clear hp
  go_enter Try.func81, Try.ntmps81
  go_wp2_with (fail)
  go_loop [4, 5, 6, 7, 13] (fun _ _ _ _ i => ∃ k : Nat, k ≤ n ∧ i = .int .i64 k ∧ Hid (p = posF x (E.nm.drop k) k)) (fun _ _ _ _ i => n - (intOf i).toNat)
  case atStart => exact ⟨0, Nat.zero_le _, rfl, HP⟩
  case round =>
    clear HP
    obtain ⟨k, hk, rfl, HP⟩ := hrel
    by_cases hlt : k < n
    · have hkn : k < E.nm.length := by have := HN.out; omega
      obtain ⟨g, ha, hc, -⟩ := HS.out.there hkn
      subst ha
      by_cases he : E.nm[k] = x
      · have hq : ((str E.nm[k]).toList == (str x).toList) = true := by rw [str_eq, str_data]; simpa using he
        have HP2 : Hid (p = some k) := Lib.hid (by rw [HP.out]; exact posF_at hkn he)
        generalize str E.nm[k] = sy at hc hq
        generalize str x = sx at hq ⊢
        clear HP he
        go_wp2
        go_ret2
        exact ⟨by rw [HP2.out]; rfl, 0, rfl⟩
      · have hq : ((str E.nm[k]).toList == (str x).toList) = false := by rw [str_eq, str_data]; simpa using he
        have HP2 : Hid (p = posF x (E.nm.drop (k + 1)) (k + 1)) := Lib.hid (by rw [HP.out]; exact posF_on hkn he)
        generalize str E.nm[k] = sy at hc hq
        generalize str x = sx at hq ⊢
        clear HP he
        go_wp2
        go_round
        case rel => exact ⟨k + 1, by omega, by go_num, HP2⟩
        case measure => simp [intOf]; omega
    · have HP2 : Hid (p = none) := Lib.hid (by rw [HP.out, List.drop_eq_nil_of_le (by have := HN.out; omega)]; rfl)
      clear HP
      go_wp2_with (fail)
      go_quiet (fail)
      go_wp2
      go_ret2
      exact ⟨by rw [HP2.out]; rfl, _, rfl⟩
end Go.Proofs.Ytkdejinhjdkkmaa

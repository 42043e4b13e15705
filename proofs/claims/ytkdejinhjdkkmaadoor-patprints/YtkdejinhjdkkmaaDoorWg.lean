/- Contracts of the reference's wrapped and Digits; the condition: what is wrapped is no longer than a text may be, the number has at most nine digits. -/
import Derived.Test.YtkdejinhjdkkmaaDoorNp
import Derived.Test.YtkdejinhjdkkmaaDoorF
import Derived.Laws.IdiomStrings
namespace Go.Proofs.YtkdejinhjdkkmaaDoor
open Go.ChangeShapes Go.WideShapes Go.ChangeAt Go.RowKit

theorem str_app (a b : Txt) : str a ++ str b = str (a ++ b) := by
  apply ByteArray.ext
  apply Array.toList_inj.1
  rw [ByteArray.data_append]
  simp [str]
theorem wrapped_any (t : Txt) (b : Bool) (w : World) (hl : t.length ≤ 140737488355328) : Calls Tryd.prog 51 #[.string (str t), .bool b] w fun e w' => e = .returned (.string (str (wrapT b t))) ∧ w' = w := by
  have hsz := str_size t
  have e1 : str [40] = ⟨#[40]⟩ := rfl
  have e2 : str [41] = ⟨#[41]⟩ := rfl
  have HE : Hid (⟨#[40]⟩ ++ str t ++ ⟨#[41]⟩ = str (wrapT true t)) := Lib.hid (by rw [← e1, ← e2, str_app, str_app]; rfl)
  have HF : Hid (str t = str (wrapT false t)) := Lib.hid rfl
  clear e1 e2
  generalize str t = s at *
  rw [← hsz] at hl
  clear hsz
  cases b with
  | true =>
    go_enter Tryd.func51, Tryd.ntmps51
    go_wp2
    go_ret
    exact ⟨by rw [← HE.out]; rfl, rfl⟩
  | false =>
    go_enter Tryd.func51, Tryd.ntmps51
    go_wp2
    go_ret
    exact ⟨by rw [← HF.out]; rfl, rfl⟩
/-- What the loop of Digits keeps: the digits of what is left, and those that were made. -/
def DigSt (N m : Nat) (l : Txt) : Prop := (0 < m ∧ Lib.decDigits N = Lib.decDigits m ++ l) ∨ (m = 0 ∧ Lib.decDigits N = l ∧ l ≠ [])
theorem dig_on {N m : Nat} {l : Txt} (h : DigSt N m l) (hm : 0 < m) : DigSt N (m / 10) (UInt8.ofNat (48 + m % 10) :: l) := by
  rcases h with ⟨_, h⟩ | ⟨h, _⟩
  · by_cases h10 : m < 10
    · have em : Lib.decDigits m = [UInt8.ofNat (48 + m)] := by rw [Lib.decDigits, dif_pos h10]
      rw [em] at h
      have e : m % 10 = m := by omega
      exact .inr ⟨by omega, by rw [h, e]; rfl, by simp⟩
    · have em : Lib.decDigits m = Lib.decDigits (m / 10) ++ [UInt8.ofNat (48 + m % 10)] := by rw [Lib.decDigits, dif_neg h10]
      rw [em] at h
      exact .inl ⟨by omega, by rw [h]; simp⟩
  · omega
set_option maxHeartbeats 2000000 in
set_option maxRecDepth 100000 in
theorem digits_any (N : Nat) (h1 : 1 ≤ N) (h2 : N ≤ 999999999) (w : World) : Calls Tryd.prog 50 #[.int .i64 (N : Nat)] w fun e w' => e = .returned (.string (str (Lib.decDigits N))) ∧ Below w.heap.size w w' := by
  have hdl : (Lib.decDigits N).length ≤ 9 := dec_len N 8 (by omega)
  have H0 : Hid (DigSt N N []) := Lib.hid (.inl ⟨by omega, by simp⟩)
  obtain ⟨D, hD⟩ : ∃ D, D = Lib.decDigits N := ⟨_, rfl⟩
  have HD := Lib.hid hD
  rw [← hD] at hdl ⊢
  clear hD
  go_enter Tryd.func50, Tryd.ntmps50
  go_wp2
  go_loopw [0, 3] (fun a s wr => ∃ (m : Nat) (l : Txt), m ≤ N ∧ a = .int .i64 (m : Nat) ∧ s = .string (str l) ∧ Hid (DigSt N m l) ∧ Hid (Below w.heap.size w wr)) (fun a _ _ => (intOf a).toNat)
  case atStart => exact ⟨N, [], Nat.le_refl _, rfl, rfl, H0, Lib.hid (Below.refl _ _)⟩
  case round =>
    clear H0
    obtain ⟨m, l, hm, rfl, rfl, HS, HB⟩ := hrel
    by_cases h0 : 0 < m
    · have h0' : (0 : Int) < (m : Int) := by omega
      have hlen : l.length ≤ 9 := by
        rcases HS.out with ⟨_, h⟩ | ⟨h, _⟩
        · have := congrArg List.length h; rw [← HD.out, List.length_append] at this; omega
        · omega
      obtain ⟨c, hc⟩ : ∃ c : UInt8, c = UInt8.ofNat (48 + m % 10) := ⟨_, rfl⟩
      have hct : (c.toNat : Int) = 48 + (m : Int) % 10 := by rw [hc, UInt8.toNat_ofNat']; omega
      have HS2 : Hid (DigSt N (m / 10) (c :: l)) := Lib.hid (by rw [hc]; exact dig_on HS.out h0)
      have hconv := run_convert_bytes_back (P := Tryd.prog) (wr.alloc (.cells #[.int .u8 (c.toNat : Int)] 5)) 51 9 5 ⟨wr.heap.size, 0, none⟩ 1 [c] Tryd.underlying51 Tryd.underlying5 Tryd.underlying9 (fun j hj => by
        match j, hj with
        | 0, _ => simp [Addr.add])
      rw [show [c].length = 1 from rfl] at hconv
      have HE : Hid (str [c] ++ str l = str (c :: l)) := Lib.hid (str_app [c] l)
      have hsz : (str l).size = l.length := str_size l
      have HB2 : Hid (Below w.heap.size w (wr.alloc (.cells #[.int .u8 (c.toNat : Int)] 5))) := Lib.hid (HB.out.alloc HB.out.size _)
      generalize str l = sl at *
      rw [hct] at hconv HB2
      clear hc hct HS
      go_wp2
      go_roundw
      case rel => exact ⟨m / 10, c :: l, by omega, by go_num, by rw [← HE.out]; rfl, HS2, HB2⟩
      case measure => simp [intOf]; omega
    · obtain rfl : m = 0 := by omega
      obtain ⟨hN, hne⟩ : Lib.decDigits N = l ∧ l ≠ [] := by
        rcases HS.out with ⟨h, _⟩ | ⟨_, h⟩
        · omega
        · exact h
      have HL : Hid (D = l) := Lib.hid (by rw [HD.out, hN])
      have hsz : (str l).size = l.length := str_size l
      have htl : (str l).toList = l := by rw [ByteArray.toList_eq]; rfl
      have hq1 : ¬ (str l).toList = [] := by rw [htl]; exact hne
      have hq2 : (!(str l).toList.isEmpty) = true := by rw [htl]; simpa using hne
      have hq3 : (str l).toList.isEmpty = false := by rw [htl]; simpa using hne
      have hq4 : ((str l).toList == []) = false := by rw [htl]; simpa using hne
      have HF : Hid (str l = str D) := Lib.hid (by rw [HL.out])
      clear HS hN hne htl
      generalize str l = sl at *
      go_wp2
      go_ret
      exact ⟨by rw [← HF.out]; rfl, HB.out⟩
end Go.Proofs.YtkdejinhjdkkmaaDoor

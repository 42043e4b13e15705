/- The reference's Norm where it refuses. -/
import Derived.Test.YtfkaagndlpcfdaaGreatNx
namespace Go.Proofs.YtfkaagndlpcfdaaGreat
open Go.ChangeShapes Go.WideShapes Go.ChangeAt Go.RowKit

set_option maxRecDepth 100000 in
theorem norm47_far (T : Int) (mp a : Option Addr) (c : Nat) (ns : List Q.Nd) (M : Mr) (w : World) (h0 : MrAt w 41 mp M) (hT : T < 0 ∨ 12 < T) :
    Calls Tryz.prog 9 #[.pointer mp, .slice a ns.length c, .int .i64 T] w (NormX 41 mp (normM M ns T) w) := by
  have HO : Hid (NormX 41 mp (normM M ns T) w (.returned (.tuple #[.slice none 0 0, .int .i64 1])) w) := Lib.hid (normX_none (normM_no (by omega)) h0 (MK.refl _ _))
  generalize normM M ns T = r at HO ⊢
  generalize ns.length = n
  clear h0
  rcases hT with hT | hT
  · go_enter Tryz.func9, Tryz.ntmps9
    go_wp2
    exact bodyPost_ret (v := .tuple #[.slice none 0 0, .int .i64 1]) (by simp [results, Tryz.results9, go_sem]) rfl HO.out
  · have hT2 : ¬ T < 0 := by omega
    go_enter Tryz.func9, Tryz.ntmps9
    go_wp2
    exact bodyPost_ret (v := .tuple #[.slice none 0 0, .int .i64 1]) (by simp [results, Tryz.results9, go_sem]) rfl HO.out

set_option maxRecDepth 100000 in
theorem norm47_bad (T : Int) (mp a : Option Addr) (c : Nat) (ns : List Q.Nd) (M : Mr) (w : World) (h0 : MrAt w 41 mp M) (P : Q.Nds w a c ns) (hc : Q.chkB ns T = false) (h24 : ns.length ≤ 1000000) (hT0 : 0 ≤ T) (hT1 : T ≤ 12) :
    Calls Tryz.prog 9 #[.pointer mp, .slice a ns.length c, .int .i64 T] w (NormX 41 mp (normM M ns T) w) := by
  have hle := P.le
  have Z := Q.checkPat_any ns T a c w P.at (by omega)
  unfold Q.chkOut at Z
  rw [hc] at Z
  have HR : Hid (normM M ns T = ([], 1, M)) := Lib.hid (normM_no (fun h => by rw [hc] at h; exact absurd h.2.2 Bool.false_ne_true))
  generalize normM M ns T = r at HR ⊢
  have hT2 : ¬ T < 0 := by omega
  have hT3 : ¬ 12 < T := by omega
  generalize ns.length = n at hle Z ⊢
  have HZ := Lib.hid Z
  have HM := Lib.hid h0
  clear P hc h0 Z h24
  go_enter Tryz.func9, Tryz.ntmps9
  go_wp2_with (fail)
  refine HZ.out.mono ?_
  rintro e w1 ⟨rfl, b1⟩
  have HO : Hid (NormX 41 mp r w (.returned (.tuple #[.slice none 0 0, .int .i64 1])) w1) := Lib.hid (normX_none HR.out (HM.out.below b1) ((MK.refl _ _).then b1))
  clear HR b1 HZ HM
  go_wp2
  exact bodyPost_ret (v := .tuple #[.slice none 0 0, .int .i64 1]) (by simp [results, Tryz.results9, go_sem]) rfl HO.out

end Go.Proofs.YtfkaagndlpcfdaaGreat

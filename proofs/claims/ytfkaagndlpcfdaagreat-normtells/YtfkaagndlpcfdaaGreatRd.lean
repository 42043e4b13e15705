/- Of as the laws use it; rows of nodes: copied, appended, named; the example of chapter 8. -/
import Derived.Test.YtfkaagndlpcfdaaGreatRc
import Derived.Test.YtfkaagndlpcfdaaGreatOe
import Derived.Test.YtfkaagndlpcfdaaGreatMb
namespace Go.Proofs.YtfkaagndlpcfdaaGreat
open Go.ChangeShapes Go.WideShapes Go.ChangeAt Go.RowKit

/-- A set, and an error's number, in new memory. -/
def MakesQ (x : List Lin) (n : Nat) (q : Int) (w : World) (e : Ending) (w' : World) : Prop := ∃ a c, e = .returned (.tuple #[.slice a n c, .int .i64 q]) ∧ Lins w' a c x ∧ Below w.heap.size w w'
theorem mk_below0 {w w' : World} (k : MK none w w') : Below w.heap.size w w' := k.below (fun g e => by cases e) (Nat.le_refl _)
/-- Of without a bound. -/
theorem ofN {ns : List Q.Nd} {T q : Int} {x : List Lin} {n l : Nat} (hx : normM (none : Mr) ns T = (x, q, none)) (hn : ns.length = n) (hl : x.length = l) (hm : n ≤ 1000000) (W : World) (a : Option Addr) (c : Nat) (P : Q.Nds W a c ns) :
    Calls Tryz.prog 8 #[.pointer none, .slice a n c, .int .i64 T] W (MakesQ x l q W) := by
  have Z := of_any T none a c ns (none : Mr) W rfl P (by omega)
  rw [hx, hn] at Z
  refine Z.mono ?_
  rintro e w' ⟨b, d, rfl, L, _, k⟩
  exact ⟨b, d, by rw [← hl], L, mk_below0 k⟩
theorem nds_new {W : World} {g : Nat} {ns : List Q.Nd} {n : Nat} (l : Lies W g 46 (Q.flatN ns)) (hn : ns.length = n) (hm : n ≤ 1000000) : Q.Nds W (some ⟨g, 0, none⟩) n ns := by
  subst hn
  exact .inr ⟨g, [], rfl, by simp, Nat.le_refl _, by omega, by rw [List.append_nil]; exact l⟩
theorem no_words {T : Int} (h0 : 0 ≤ T) (hT : T ≤ 12) (nm : ByteArray) (M : Mr) (hM : M = none) : normM M [⟨1, 0, 0, 0, nm⟩] T = ([], 0, none) := by
  subst hM
  have hl : Q.chkL T 0 ([] ++ [⟨1, 0, 0, 0, nm⟩]) [] = some [(((0 : Nat) : Int), false)] := by
    rw [Q.chkL_snoc]
    exact (Q.step_leaf (tags := T) (k := 0) (y := ⟨1, 0, 0, 0, nm⟩) [] rfl (show ¬ (1 : Int) = 6 by decide)).1 (by simp [Q.rightB])
  have hc : Q.chkB [⟨1, 0, 0, 0, nm⟩] T = true := chkB_of (by simp) hl
  have g : normGo ([] ++ [⟨1, 0, 0, 0, nm⟩]) none [] = ([] ++ [[]], 0, none) := normGo_snoc rfl (node1 none [] 0 0 0)
  exact normM_ok ⟨by omega, by omega, hc⟩ g
theorem one_words {T : Int} (h0 : 0 ≤ T) (hT : T ≤ 12) (nm : ByteArray) (M : Mr) (hM : M = none) : normM M [⟨2, 0, 0, 0, nm⟩] T = (oneS, 0, none) := by
  subst hM
  have hl : Q.chkL T 0 ([] ++ [⟨2, 0, 0, 0, nm⟩]) [] = some [(((0 : Nat) : Int), false)] := by
    rw [Q.chkL_snoc]
    exact (Q.step_leaf (tags := T) (k := 0) (y := ⟨2, 0, 0, 0, nm⟩) [] rfl (show ¬ (2 : Int) = 6 by decide)).1 (by simp [Q.rightB])
  have hc : Q.chkB [⟨2, 0, 0, 0, nm⟩] T = true := chkB_of (by simp) hl
  have g : normGo ([] ++ [⟨2, 0, 0, 0, nm⟩]) none [] = ([] ++ [oneS], 0, none) := normGo_snoc rfl (node2 none [] 0 0 0)
  exact normM_ok ⟨by omega, by omega, hc⟩ g
theorem tag_words {T t n : Int} {nm : ByteArray} (h0 : 0 ≤ t) (h1 : t < T) (hT : T ≤ 12) (h2 : 1 ≤ n) (h3 : n ≤ 999999999) (M : Mr) (hM : M = none) : normM M [⟨3, n, 0, t, nm⟩] T = ([⟨oneL t n, []⟩], 0, none) := by
  subst hM
  have hl : Q.chkL T 0 ([] ++ [⟨3, n, 0, t, nm⟩]) [] = some [(((0 : Nat) : Int), false)] := by
    rw [Q.chkL_snoc]
    show Q.chkStep T 0 ⟨3, n, 0, t, nm⟩ [] = _
    rw [tag_step 0 [] h0 h1 h2 h3]; rfl
  have hc : Q.chkB [⟨3, n, 0, t, nm⟩] T = true := chkB_of (by simp) hl
  have g : normGo ([] ++ [⟨3, n, 0, t, nm⟩]) none [] = ([] ++ [[⟨oneL t n, []⟩]], 0, none) := normGo_snoc rfl (node3 none [] n 0 t)
  exact normM_ok ⟨by omega, by omega, hc⟩ g

/-- The example: both answer as the document says. -/
theorem wakes10 (w : World) : Calls Tryz.prog 13 #[] w (True_ w) := by
  have b1 := below_alloc w (.cells #[.int .i64 1, .int .i64 0, .int .i64 0, .int .i64 0, .string Q.emp] 46)
  have P1 := nds_new (ns := [⟨1, 0, 0, 0, Q.emp⟩]) (n := 1) (Lies.new w 46 [.int .i64 1, .int .i64 0, .int .i64 0, .int .i64 0, .string Q.emp]) rfl (by omega)
  have HZ := Lib.hid (ofN (n := 1) (l := 0) (no_words (T := 0) (by omega) (by omega) Q.emp none rfl) rfl rfl (by omega) _ _ _ P1)
  have HB := Lib.hid b1
  clear b1 P1
  go_enter Tryz.func13, Tryz.ntmps13
  go_wp2_with (fail)
  refine HZ.out.mono ?_
  rintro e w1 ⟨a1, c1, rfl, L1, b2⟩
  have HB1 := Lib.hid (HB.out.trans (b2.mono HB.out.size))
  clear L1 b2 HZ HB
  have b3 := below_alloc w1 (.cells #[.int .i64 3, .int .i64 1, .int .i64 0, .int .i64 0, .string Q.emp] 46)
  have P3 := nds_new (ns := [⟨3, 1, 0, 0, Q.emp⟩]) (n := 1) (Lies.new w1 46 [.int .i64 3, .int .i64 1, .int .i64 0, .int .i64 0, .string Q.emp]) rfl (by omega)
  have HZ := Lib.hid (ofN (n := 1) (l := 1) (tag_words (T := 1) (t := 0) (n := 1) (nm := Q.emp) (by omega) (by omega) (by omega) (by omega) (by omega) none rfl) rfl rfl (by omega) _ _ _ P3)
  have HB3 := Lib.hid (HB1.out.trans (b3.mono HB1.out.size))
  clear b3 P3 HB1
  go_wp2_with (fail)
  refine HZ.out.mono ?_
  rintro e w4 ⟨a4, c4, rfl, L4, b4⟩
  have HB4 := Lib.hid (HB3.out.trans (b4.mono HB3.out.size))
  clear L4 b4 HZ HB3
  go_wp2
  go_ret
  exact ⟨rfl, HB4.out⟩
end Go.Proofs.YtfkaagndlpcfdaaGreat

/- The law NormTells: its walk. -/
import Derived.Test.YtfkaagndlpcfdaaGreatRf
import Derived.Test.YtfkaagndlpcfdaaGreatQPd
import Derived.Test.YtfkaagndlpcfdaaGreatNy
import Derived.Deep.CutBlock
import Derived.Deep.DeepCutAuto
import Derived.Deep.CutRange
import Derived.Deep.RegionHeld3
namespace Go.Proofs.YtfkaagndlpcfdaaGreat
open Go.ChangeShapes Go.WideShapes Go.ChangeAt Go.RowKit

theorem spendM_form {B S : Int} {o : Bool} {n : Int} (h0 : 0 ≤ S) (h1 : S ≤ B) : ∃ S' o', (spendM (some (B, S, o)) n).2 = some (B, S', o') ∧ 0 ≤ S' ∧ S' ≤ B :=
  ⟨_, _, rfl, (next_bd h0 h1).1, (next_bd h0 h1).2⟩
theorem catM_form {B S : Int} {o : Bool} (s t : List Lin) (h0 : 0 ≤ S) (h1 : S ≤ B) : ∃ c q S' o', catM (some (B, S, o)) s t = (c, q, some (B, S', o')) ∧ 0 ≤ S' ∧ S' ≤ B := by
  obtain ⟨S', o', e, g0, g1⟩ := spendM_form (o := o) (n := ((s.length * t.length : Nat) : Int)) h0 h1
  unfold catM
  rw [e]
  split
  · split
    · split
      · exact ⟨_, _, S', o', rfl, g0, g1⟩
      · exact ⟨_, _, S', o', rfl, g0, g1⟩
    · exact ⟨_, _, S', o', rfl, g0, g1⟩
  · exact ⟨_, _, S, o, rfl, h0, h1⟩
theorem starM_form {B S : Int} {o : Bool} (s : List Lin) (h0 : 0 ≤ S) (h1 : S ≤ B) : ∃ c q S' o', starM (some (B, S, o)) s = (c, q, some (B, S', o')) ∧ 0 ≤ S' ∧ S' ≤ B := by
  obtain ⟨S', o', e, g0, g1⟩ := spendM_form (o := o) (n := ((s.length : Nat) : Int)) h0 h1
  unfold starM
  rw [e]
  split
  · split
    · exact ⟨_, _, S', o', rfl, g0, g1⟩
    · exact ⟨_, _, S', o', rfl, g0, g1⟩
  · exact ⟨_, _, S, o, rfl, h0, h1⟩
theorem mt_r : MT 41 := ⟨by decide, by decide, by decide⟩
theorem MrAt.mk {w w' : World} {T T' : TypeId} {mp rp : Option Addr} {M R : Mr} (h : MrAt w T mp M) (hne : T' ≠ T) (k : MK mp w w') (h' : MrAt w T' rp R) : MrAt w' T' rp R := by
  cases R with
  | none => exact h'
  | some p =>
    obtain ⟨B, S, o⟩ := p
    obtain ⟨g, e, a, r⟩ := h'
    refine ⟨g, e, Lies.kept a k (fun e2 => ?_), r⟩
    rcases h.form with h3 | ⟨b, h3, cs, l⟩
    · rw [h3] at e2; cases e2
    · rw [h3] at e2; injection e2 with e2; injection e2 with e2; subst e2
      exact Lies.other a l hne rfl
theorem nodeM_form {B S : Int} {o : Bool} (es : List (List Lin)) (kd na nb nn : Int) (h0 : 0 ≤ S) (h1 : S ≤ B) : ∃ c q S' o', nodeM (some (B, S, o)) es kd na nb nn = (c, q, some (B, S', o')) ∧ 0 ≤ S' ∧ S' ≤ B := by
  unfold nodeM
  split
  · exact ⟨_, _, S, o, rfl, h0, h1⟩
  split
  · exact ⟨_, _, S, o, rfl, h0, h1⟩
  split
  · exact ⟨_, _, S, o, rfl, h0, h1⟩
  split
  · exact catM_form _ _ h0 h1
  split
  · exact starM_form _ h0 h1
  · exact ⟨_, _, S, o, rfl, h0, h1⟩
theorem normGo_form {B : Int} : ∀ (ns : List Q.Nd) (S : Int) (o : Bool) (es : List (List Lin)), 0 ≤ S → S ≤ B → ∃ l q S' o', normGo ns (some (B, S, o)) es = (l, q, some (B, S', o')) ∧ 0 ≤ S' ∧ S' ≤ B
  | [], S, o, es, h0, h1 => ⟨es, 0, S, o, rfl, h0, h1⟩
  | x :: r, S, o, es, h0, h1 => by
    obtain ⟨S1, o1, e1, g0, g1⟩ := spendM_form (o := o) (n := 1) h0 h1
    obtain ⟨c, q, S2, o2, e2, k0, k1⟩ := nodeM_form (o := o1) es x.kind x.a x.b x.n g0 g1
    rw [normGo_cons x r (some (B, S, o)) es, e1, e2]
    dsimp only
    split
    · split
      · exact normGo_form r S2 o2 _ k0 k1
      · exact ⟨_, _, S2, o2, rfl, k0, k1⟩
    · exact ⟨_, _, S1, o1, rfl, g0, g1⟩
theorem normM_form {B S : Int} {o : Bool} (ns : List Q.Nd) (T : Int) (h0 : 0 ≤ S) (h1 : S ≤ B) : ∃ x q S' o', normM (some (B, S, o)) ns T = (x, q, some (B, S', o')) ∧ 0 ≤ S' ∧ S' ≤ B := by
  obtain ⟨l, q, S', o', e, g0, g1⟩ := normGo_form ns S o [] h0 h1
  unfold normM
  rw [e]
  split
  · split
    · exact ⟨_, _, S', o', rfl, g0, g1⟩
    · exact ⟨_, _, S', o', rfl, g0, g1⟩
  · exact ⟨_, _, S, o, rfl, h0, h1⟩
theorem at_some {w : World} {T : TypeId} {g : Nat} {B S : Int} {o : Bool} (h : MrAt w T (some ⟨g, 0, none⟩) (some (B, S, o))) : At w T g B S o := by
  obtain ⟨b, e, a, _⟩ := h
  injection e with e; injection e with e; subst e
  exact a
/-- Tells a value, makes new memory at most. -/
def TellsV (v : Value) (w : World) (e : Ending) (w' : World) : Prop := e = .returned v ∧ Below w.heap.size w w'
theorem spentV {g : Nat} {B S : Int} {o : Bool} {w : World} (h : MrAt w 50 (some ⟨g, 0, none⟩) (some (B, S, o))) : Calls Tryz.prog 11 #[.pointer (some ⟨g, 0, none⟩)] w (TellsV (.int .i64 S) w) :=
  (spent_any g B S o w (at_some h)).mono fun e w' ⟨h1, h2⟩ => by subst h2; exact ⟨h1, Below.refl _ _⟩
theorem outV {g : Nat} {B S : Int} {o : Bool} {w : World} (h : MrAt w 50 (some ⟨g, 0, none⟩) (some (B, S, o))) : Calls Tryz.prog 12 #[.pointer (some ⟨g, 0, none⟩)] w (TellsV (.bool o) w) :=
  (out_any g B S o w (at_some h)).mono fun e w' ⟨h1, h2⟩ => by subst h2; exact ⟨h1, Below.refl _ _⟩
/-- The reference's Norm, of any nodes and any number of tags. -/
theorem rnorm_any (T : Int) (mp a : Option Addr) (c : Nat) (ns : List Q.Nd) (M : Mr) (w : World) (h0 : MrAt w 41 mp M) (hM : M ≠ none) (P : Q.Nds w a c ns) (hm : ns.length ≤ 1000000) :
    Calls Tryz.prog 9 #[.pointer mp, .slice a ns.length c, .int .i64 T] w (NormX 41 mp (normM M ns T) w) := by
  by_cases hT : 0 ≤ T ∧ T ≤ 12
  · cases hc : Q.chkB ns T with
    | false => exact norm47_bad T mp a c ns M w h0 P hc hm hT.1 hT.2
    | true =>
      obtain ⟨h1, h24, _⟩ := chk_one hc
      exact norm47x T mp a c ns M w h0 hM P hc hT.1 hT.2 h1 h24
  · exact norm47_far T mp a c ns M w h0 (by omega)

set_option maxRecDepth 100000 in
set_option maxHeartbeats 8000000 in
theorem tells_walk8 (a0 : Option Addr) (l0 c0 : Nat) (z0 : List Int) (n1 n2 : Int) (w : World) (h0 : Hid (Came w a0 l0 c0 z0)) (hn1 : -9223372036854775808 ≤ n1 ∧ n1 ≤ 9223372036854775807) :
    Calls Tryz.prog 3 #[.slice a0 l0 c0, .int .i64 n1, .int .i64 n2] w (True_ w) := by
  go_enter Tryz.func3, Tryz.ntmps3
  have HZ := Lib.hid (Q.pattern_any a0 l0 c0 z0 w h0.out.1 (Lib.hid h0.out.2.2.2.2))
  go_wp2_with (fail)
  refine HZ.out.mono ?_
  rintro e W1 ⟨pa, pc, ns, rfl, P1, hc, h1, h24, _, _, b1⟩
  have HB := Lib.hid b1
  have HP := Lib.hid P1
  have hle1 := P1.le
  clear hc P1 b1 HZ h0
  generalize hn : ns.length = n at hle1 h1 h24 ⊢
  have HN := Lib.hid hn
  clear hn
  go_wp2_with (fail)
  refine (within_any n1 500 _ (by omega) (by omega) hn1.1 hn1.2).mono ?_
  rintro e _ ⟨B, hB0, hB1, rfl, rfl⟩
  go_upto_if 20 with (fail)
  go_cut [2] from 18 to 20 (fun v wx => ∃ T : Int, v = .int .i64 T ∧ W1 = wx)
  case first =>
    by_cases ho : n2.tmod 3 = 0
    · have hmb : (n2.tmod 3 != 0) = false := by simp [ho]
      go_wp2
      go_meet
      exact ⟨n2, rfl, rfl⟩
    · have hmb : (n2.tmod 3 != 0) = true := by simp [ho]
      go_wp2
      go_meet
      exact ⟨4, rfl, rfl⟩
  case rest =>
    obtain ⟨T, rfl, rfl⟩ := hcut
    clear hn1
    go_wp2_with (fail)
    refine (new_any B W1).mono ?_
    rintro e W2 ⟨rfl, m2, b2, _⟩
    go_wp2_with (fail)
    refine (rnew_any B W2).mono ?_
    rintro e W3 ⟨rfl, m3, b3, _⟩
    have hmax : max B 0 = B := by omega
    rw [hmax] at m2 m3
    have HM : Hid (MrAt W3 50 (some ⟨W1.heap.size, 0, none⟩) (some (B, 0, false))) := Lib.hid ⟨_, rfl, m2.below b3, by omega, by omega, by omega⟩
    have HR : Hid (MrAt W3 41 (some ⟨W2.heap.size, 0, none⟩) (some (B, 0, false))) := Lib.hid ⟨_, rfl, m3, by omega, by omega, by omega⟩
    have hgm : w.heap.size ≤ W1.heap.size := HB.out.size
    have hgr : w.heap.size ≤ W2.heap.size := Nat.le_trans HB.out.size b2.size
    have HB := Lib.hid (HB.out.trans ((b2.trans (b3.mono b2.size)).mono HB.out.size))
    have HP := Lib.hid ((HP.out.below b2).below b3)
    clear m2 m3 b2 b3 hmax
    generalize W1.heap.size = gm at HM hgm ⊢
    generalize W2.heap.size = gr at HR hgr ⊢
    obtain ⟨x, q, S, o, hf, hS0, hS1⟩ := normM_form (B := B) (S := 0) (o := false) ns T (by omega) hB0
    have HF := Lib.hid hf
    clear hf
    generalize hxl : x.length = L
    have HXL := Lib.hid hxl
    clear hxl
    have Z := of_any T (some ⟨gm, 0, none⟩) pa pc ns _ W3 HM.out HP.out (by rw [HN.out]; omega)
    rw [HF.out, HN.out] at Z
    have HZ := Lib.hid Z
    clear Z
    go_wp2_with (fail)
    refine HZ.out.mono ?_
    rintro e W4 ⟨As, Cs, rfl, Ls, m4, k4⟩
    dsimp only at Ls m4 ⊢
    have hls := Ls.le
    rw [HXL.out] at hls
    rw [HXL.out]
    have HXs := Lib.hid Ls
    have HP := Lib.hid (nds_mk HM.out (by decide) k4 HP.out)
    have HR := Lib.hid (HM.out.mk (by decide) k4 HR.out)
    have HM := Lib.hid m4
    have HB := Lib.hid (HB.out.trans (k4.below (fun g e => by injection e with e; injection e with e; omega) HB.out.size))
    clear Ls m4 k4 HZ
    have Z := rnorm_any T (some ⟨gr, 0, none⟩) pa pc ns _ W4 HR.out (fun h => nomatch h) HP.out (by rw [HN.out]; omega)
    rw [HF.out, HN.out] at Z
    have HZ := Lib.hid Z
    clear Z
    go_wp2_with (fail)
    refine HZ.out.mono ?_
    rintro e W5 ⟨At, Ct, rfl, Lt, m5, k5⟩
    dsimp only at Lt m5 ⊢
    have hlt := Lt.le
    rw [HXL.out] at hlt
    rw [HXL.out]
    have HXt := Lib.hid Lt
    have HXs := Lib.hid (Lins.mk HR.out mt_r k5 HXs.out)
    have HM := Lib.hid (HR.out.mk (by decide) k5 HM.out)
    have HR := Lib.hid m5
    have HB := Lib.hid (HB.out.trans (k5.below (fun g e => by injection e with e; injection e with e; omega) HB.out.size))
    clear Lt m5 k5 HZ HP
    have ZS : Hid (∀ V, Below W5.heap.size W5 V → Calls Tryz.prog 10 #[.slice As L Cs, .slice At L Ct] V (TellsB true V)) := Lib.hid (fun V h => sameP HXL.out HXL.out rfl V As At Cs Ct (HXs.out.below h) (HXt.out.below h))
    have ZU : Hid (∀ V, Below W5.heap.size W5 V → Calls Tryz.prog 11 #[.pointer (some ⟨gm, 0, none⟩)] V (TellsV (.int .i64 S) V)) := Lib.hid (fun V h => spentV (HM.out.below h))
    have ZO : Hid (∀ V, Below W5.heap.size W5 V → Calls Tryz.prog 12 #[.pointer (some ⟨gm, 0, none⟩)] V (TellsV (.bool o) V)) := Lib.hid (fun V h => outV (HM.out.below h))
    have eu := (at_some HR.out).c1
    have eo := (at_some HR.out).c2
    have ltr := Lies.lt (at_some HR.out)
    have bd : Below W5.heap.size W5 W5.drew := ⟨rfl, rfl, rfl, Nat.le_refl _, fun _ _ => rfl⟩
    go_wp2_with (fail)
    refine wp_region_held_drew (S := fun w' => Below W5.heap.size W5 w') (by kernel_rfl) bd (fun hHeld => ?_)
    refine wpAnyH_take (i := 0) (oi := { dst := some 41, op := Op.move (Operand.tmp 10), type := 32, pos := "law.go:34", after := #[], guard := none }) (v := ?_) rfl (by kernel_rfl) (by kernel_rfl) (by kernel_rfl) (fun _ _ _ h => h) (Or.inl ⟨by rfl, ?_⟩) (by assumption) ?_
    rotate_left
    · intro w hSw
      go_simp
      try with_reducible rfl
    try simp only [Act.put, List.setIfInBounds_toArray, List.set_cons_zero, List.set_cons_succ]
    refine wpAnyH_take (i := 1) (oi := { dst := some 42, op := Op.move (Operand.tmp 12), type := 32, pos := "law.go:34", after := #[], guard := none }) (v := ?_) rfl (by kernel_rfl) (by kernel_rfl) (by kernel_rfl) (fun _ _ _ h => h) (Or.inl ⟨by rfl, ?_⟩) (by assumption) ?_
    rotate_left
    · intro w hSw
      go_simp
      try with_reducible rfl
    try simp only [Act.put, List.setIfInBounds_toArray, List.set_cons_zero, List.set_cons_succ]
    refine wpAnyH_ready (rs := [2]) (by kernel_rfl) (by simp) ?_
    refine AllReadyH.cons (o := { dst := some 43, op := Op.call { callee := Callee.value (Operand.func 10), args := #[Operand.tmp 41, Operand.tmp 42], argTypes := #[32, 32] }, type := 4, pos := "law.go:34", after := #[{ on := 0, ground := Ground.data }, { on := 1, ground := Ground.data }], guard := none }) rfl (fun K hK => ?_) AllReadyH.nil
    go_simp
    refine (ZS.out _ bd).mono ?_
    rintro e V5 ⟨rfl, d5⟩
    have b5 : Below W5.heap.size W5 V5 := bd.trans (d5.mono bd.size)
    go_wp2_with (fail)
    refine hK.out _ _ b5 (fun hHeld => ?_)
    clear hK K
    try simp only [Act.put, List.setIfInBounds_toArray, List.set_cons_zero, List.set_cons_succ]
    refine wpAnyH_take (i := 3) (oi := { dst := some 44, op := Op.move (Operand.tmp 43), type := 4, pos := "law.go:34", after := #[{ on := 2, ground := Ground.data }, { on := 2, ground := Ground.chain }], guard := none }) (v := ?_) rfl (by kernel_rfl) (by kernel_rfl) (by kernel_rfl) (fun _ _ _ h => h) (Or.inl ⟨by rfl, ?_⟩) (by assumption) ?_
    rotate_left
    · intro w hSw
      go_simp
      try with_reducible rfl
    try simp only [Act.put, List.setIfInBounds_toArray, List.set_cons_zero, List.set_cons_succ]
    refine wpAnyH_take (i := 4) (oi := { dst := some 45, op := Op.move (Operand.tmp 11), type := 33, pos := "law.go:34", after := #[{ on := 3, ground := Ground.guard }], guard := some (3, true) }) (v := ?_) rfl (by kernel_rfl) (by kernel_rfl) (by kernel_rfl) (fun _ _ _ h => h) (Or.inl ⟨by rfl, ?_⟩) (by assumption) ?_
    rotate_left
    · intro w hSw
      go_simp
      try with_reducible rfl
    try simp only [Act.put, List.setIfInBounds_toArray, List.set_cons_zero, List.set_cons_succ]
    refine wpAnyH_take (i := 5) (oi := { dst := some 46, op := Op.move (Operand.tmp 13), type := 3, pos := "law.go:34", after := #[{ on := 3, ground := Ground.guard }], guard := some (3, true) }) (v := ?_) rfl (by kernel_rfl) (by kernel_rfl) (by kernel_rfl) (fun _ _ _ h => h) (Or.inl ⟨by rfl, ?_⟩) (by assumption) ?_
    rotate_left
    · intro w hSw
      go_simp
      try with_reducible rfl
    try simp only [Act.put, List.setIfInBounds_toArray, List.set_cons_zero, List.set_cons_succ]
    refine wpAnyH_take (i := 6) (oi := { dst := some 47, op := Op.binOp BinOp.eql 3 (Operand.tmp 45) (Operand.tmp 46) 3, type := 4, pos := "law.go:34", after := #[{ on := 4, ground := Ground.data }, { on := 5, ground := Ground.data }, { on := 3, ground := Ground.guard }], guard := some (3, true) }) (v := ?_) rfl (by kernel_rfl) (by kernel_rfl) (by kernel_rfl) (fun _ _ _ h => h) (Or.inl ⟨by rfl, ?_⟩) (by assumption) ?_
    rotate_left
    · intro w hSw
      go_simp
      try with_reducible rfl
    try simp only [Act.put, List.setIfInBounds_toArray, List.set_cons_zero, List.set_cons_succ]
    refine wpAnyH_take (i := 7) (oi := { dst := some 48, op := Op.pick (Operand.tmp 44) (Operand.tmp 47) (Operand.const (Value.bool false)), type := 4, pos := "law.go:34", after := #[{ on := 3, ground := Ground.data }, { on := 6, ground := Ground.data }], guard := none }) (v := ?_) rfl (by kernel_rfl) (by kernel_rfl) (by kernel_rfl) (fun _ _ _ h => h) (Or.inl ⟨by rfl, ?_⟩) (by assumption) ?_
    rotate_left
    · intro w hSw
      go_simp
      try with_reducible rfl
    try simp only [Act.put, List.setIfInBounds_toArray, List.set_cons_zero, List.set_cons_succ]
    refine wpAnyH_take (i := 8) (oi := { dst := some 49, op := Op.move (Operand.tmp 48), type := 4, pos := "law.go:34", after := #[{ on := 7, ground := Ground.data }, { on := 3, ground := Ground.chain }], guard := none }) (v := ?_) rfl (by kernel_rfl) (by kernel_rfl) (by kernel_rfl) (fun _ _ _ h => h) (Or.inl ⟨by rfl, ?_⟩) (by assumption) ?_
    rotate_left
    · intro w hSw
      go_simp
      try with_reducible rfl
    try simp only [Act.put, List.setIfInBounds_toArray, List.set_cons_zero, List.set_cons_succ]
    refine wpAnyH_take (i := 9) (oi := { dst := some 50, op := Op.move (Operand.tmp 8), type := 27, pos := "law.go:34", after := #[{ on := 8, ground := Ground.guard }], guard := some (8, true) }) (v := ?_) rfl (by kernel_rfl) (by kernel_rfl) (by kernel_rfl) (fun _ _ _ h => h) (Or.inl ⟨by rfl, ?_⟩) (by assumption) ?_
    rotate_left
    · intro w hSw
      go_simp
      try with_reducible rfl
    try simp only [Act.put, List.setIfInBounds_toArray, List.set_cons_zero, List.set_cons_succ]
    refine wpAnyH_take (i := 11) (oi := { dst := some 52, op := Op.move (Operand.tmp 9), type := 29, pos := "law.go:34", after := #[{ on := 8, ground := Ground.guard }], guard := some (8, true) }) (v := ?_) rfl (by kernel_rfl) (by kernel_rfl) (by kernel_rfl) (fun _ _ _ h => h) (Or.inl ⟨by rfl, ?_⟩) (by assumption) ?_
    rotate_left
    · intro w hSw
      go_simp
      try with_reducible rfl
    try simp only [Act.put, List.setIfInBounds_toArray, List.set_cons_zero, List.set_cons_succ]
    refine wpAnyH_take (i := 12) (oi := { dst := some 53, op := Op.nilCheck (Operand.tmp 52), type := 0, pos := "law.go:34", after := #[{ on := 11, ground := Ground.data }, { on := 8, ground := Ground.guard }], guard := some (8, true) }) (v := ?_) rfl (by kernel_rfl) (by kernel_rfl) (by kernel_rfl) (fun _ _ _ h => h) (Or.inl ⟨by rfl, ?_⟩) (by assumption) ?_
    rotate_left
    · intro w hSw
      go_simp
      try with_reducible rfl
    try simp only [Act.put, List.setIfInBounds_toArray, List.set_cons_zero, List.set_cons_succ]
    refine wpAnyH_take (i := 13) (oi := { dst := some 54, op := Op.fieldAddr 41 (Operand.tmp 53) 1, type := 0, pos := "law.go:34", after := #[{ on := 12, ground := Ground.data }, { on := 8, ground := Ground.guard }], guard := some (8, true) }) (v := ?_) rfl (by kernel_rfl) (by kernel_rfl) (by kernel_rfl) (fun _ _ _ h => h) (Or.inl ⟨by rfl, ?_⟩) (by assumption) ?_
    rotate_left
    · intro w hSw
      go_simp
      try with_reducible rfl
    try simp only [Act.put, List.setIfInBounds_toArray, List.set_cons_zero, List.set_cons_succ]
    refine wpAnyH_take (i := 14) (oi := { dst := some 55, op := Op.load 3 (Operand.tmp 54), type := 3, pos := "law.go:34", after := #[{ on := 13, ground := Ground.data }, { on := 8, ground := Ground.guard }], guard := some (8, true) }) (v := ?_) rfl (by kernel_rfl) (by kernel_rfl) (by kernel_rfl) (fun _ _ _ h => h) (Or.inl ⟨by rfl, ?_⟩) (by assumption) ?_
    rotate_left
    · intro w hSw
      have fu := (hSw.cell (p := ⟨gr, 1, none⟩) ltr).trans eu
      have fo := (hSw.cell (p := ⟨gr, 2, none⟩) ltr).trans eo
      go_simp
      try with_reducible rfl
    try simp only [Act.put, List.setIfInBounds_toArray, List.set_cons_zero, List.set_cons_succ]
    refine wpAnyH_ready (rs := [10]) (by kernel_rfl) (by simp) ?_
    refine AllReadyH.cons (o := { dst := some 51, op := Op.call { callee := Callee.value (Operand.func 11), args := #[Operand.tmp 50], argTypes := #[27] }, type := 3, pos := "law.go:34", after := #[{ on := 9, ground := Ground.data }, { on := 8, ground := Ground.chain }, { on := 8, ground := Ground.guard }], guard := some (8, true) }) rfl (fun K hK => ?_) AllReadyH.nil
    go_simp
    refine (ZU.out _ b5).mono ?_
    rintro e V6 ⟨rfl, d6⟩
    have b6 : Below W5.heap.size W5 V6 := b5.trans (d6.mono b5.size)
    go_wp2_with (fail)
    refine hK.out _ _ b6 (fun hHeld => ?_)
    clear hK K
    try simp only [Act.put, List.setIfInBounds_toArray, List.set_cons_zero, List.set_cons_succ]
    refine wpAnyH_take (i := 15) (oi := { dst := some 56, op := Op.binOp BinOp.eql 3 (Operand.tmp 51) (Operand.tmp 55) 3, type := 4, pos := "law.go:34", after := #[{ on := 10, ground := Ground.data }, { on := 14, ground := Ground.data }, { on := 8, ground := Ground.guard }], guard := some (8, true) }) (v := ?_) rfl (by kernel_rfl) (by kernel_rfl) (by kernel_rfl) (fun _ _ _ h => h) (Or.inl ⟨by rfl, ?_⟩) (by assumption) ?_
    rotate_left
    · intro w hSw
      go_simp
      try with_reducible rfl
    try simp only [Act.put, List.setIfInBounds_toArray, List.set_cons_zero, List.set_cons_succ]
    refine wpAnyH_take (i := 16) (oi := { dst := some 57, op := Op.pick (Operand.tmp 49) (Operand.tmp 56) (Operand.const (Value.bool false)), type := 4, pos := "law.go:34", after := #[{ on := 8, ground := Ground.data }, { on := 15, ground := Ground.data }], guard := none }) (v := ?_) rfl (by kernel_rfl) (by kernel_rfl) (by kernel_rfl) (fun _ _ _ h => h) (Or.inl ⟨by rfl, ?_⟩) (by assumption) ?_
    rotate_left
    · intro w hSw
      go_simp
      try with_reducible rfl
    try simp only [Act.put, List.setIfInBounds_toArray, List.set_cons_zero, List.set_cons_succ]
    refine wpAnyH_take (i := 17) (oi := { dst := some 58, op := Op.move (Operand.tmp 57), type := 4, pos := "law.go:34", after := #[{ on := 16, ground := Ground.data }, { on := 10, ground := Ground.chain }], guard := none }) (v := ?_) rfl (by kernel_rfl) (by kernel_rfl) (by kernel_rfl) (fun _ _ _ h => h) (Or.inl ⟨by rfl, ?_⟩) (by assumption) ?_
    rotate_left
    · intro w hSw
      go_simp
      try with_reducible rfl
    try simp only [Act.put, List.setIfInBounds_toArray, List.set_cons_zero, List.set_cons_succ]
    refine wpAnyH_take (i := 18) (oi := { dst := some 59, op := Op.move (Operand.tmp 8), type := 27, pos := "law.go:34", after := #[{ on := 17, ground := Ground.guard }], guard := some (17, true) }) (v := ?_) rfl (by kernel_rfl) (by kernel_rfl) (by kernel_rfl) (fun _ _ _ h => h) (Or.inl ⟨by rfl, ?_⟩) (by assumption) ?_
    rotate_left
    · intro w hSw
      go_simp
      try with_reducible rfl
    try simp only [Act.put, List.setIfInBounds_toArray, List.set_cons_zero, List.set_cons_succ]
    refine wpAnyH_take (i := 20) (oi := { dst := some 61, op := Op.move (Operand.tmp 9), type := 29, pos := "law.go:34", after := #[{ on := 17, ground := Ground.guard }], guard := some (17, true) }) (v := ?_) rfl (by kernel_rfl) (by kernel_rfl) (by kernel_rfl) (fun _ _ _ h => h) (Or.inl ⟨by rfl, ?_⟩) (by assumption) ?_
    rotate_left
    · intro w hSw
      go_simp
      try with_reducible rfl
    try simp only [Act.put, List.setIfInBounds_toArray, List.set_cons_zero, List.set_cons_succ]
    refine wpAnyH_take (i := 21) (oi := { dst := some 62, op := Op.nilCheck (Operand.tmp 61), type := 0, pos := "law.go:34", after := #[{ on := 20, ground := Ground.data }, { on := 17, ground := Ground.guard }], guard := some (17, true) }) (v := ?_) rfl (by kernel_rfl) (by kernel_rfl) (by kernel_rfl) (fun _ _ _ h => h) (Or.inl ⟨by rfl, ?_⟩) (by assumption) ?_
    rotate_left
    · intro w hSw
      go_simp
      try with_reducible rfl
    try simp only [Act.put, List.setIfInBounds_toArray, List.set_cons_zero, List.set_cons_succ]
    refine wpAnyH_take (i := 22) (oi := { dst := some 63, op := Op.fieldAddr 41 (Operand.tmp 62) 2, type := 0, pos := "law.go:34", after := #[{ on := 21, ground := Ground.data }, { on := 17, ground := Ground.guard }], guard := some (17, true) }) (v := ?_) rfl (by kernel_rfl) (by kernel_rfl) (by kernel_rfl) (fun _ _ _ h => h) (Or.inl ⟨by rfl, ?_⟩) (by assumption) ?_
    rotate_left
    · intro w hSw
      go_simp
      try with_reducible rfl
    try simp only [Act.put, List.setIfInBounds_toArray, List.set_cons_zero, List.set_cons_succ]
    refine wpAnyH_take (i := 23) (oi := { dst := some 64, op := Op.load 4 (Operand.tmp 63), type := 4, pos := "law.go:34", after := #[{ on := 22, ground := Ground.data }, { on := 17, ground := Ground.guard }], guard := some (17, true) }) (v := ?_) rfl (by kernel_rfl) (by kernel_rfl) (by kernel_rfl) (fun _ _ _ h => h) (Or.inl ⟨by rfl, ?_⟩) (by assumption) ?_
    rotate_left
    · intro w hSw
      have fu := (hSw.cell (p := ⟨gr, 1, none⟩) ltr).trans eu
      have fo := (hSw.cell (p := ⟨gr, 2, none⟩) ltr).trans eo
      go_simp
      try with_reducible rfl
    try simp only [Act.put, List.setIfInBounds_toArray, List.set_cons_zero, List.set_cons_succ]
    refine wpAnyH_ready (rs := [19]) (by kernel_rfl) (by simp) ?_
    refine AllReadyH.cons (o := { dst := some 60, op := Op.call { callee := Callee.value (Operand.func 12), args := #[Operand.tmp 59], argTypes := #[27] }, type := 4, pos := "law.go:34", after := #[{ on := 18, ground := Ground.data }, { on := 17, ground := Ground.chain }, { on := 17, ground := Ground.guard }], guard := some (17, true) }) rfl (fun K hK => ?_) AllReadyH.nil
    go_simp
    refine (ZO.out _ b6).mono ?_
    rintro e V7 ⟨rfl, d7⟩
    have b7 : Below W5.heap.size W5 V7 := b6.trans (d7.mono b6.size)
    go_wp2_with (fail)
    refine hK.out _ _ b7 (fun hHeld => ?_)
    clear hK K
    try simp only [Act.put, List.setIfInBounds_toArray, List.set_cons_zero, List.set_cons_succ]
    refine wpAnyH_take (i := 24) (oi := { dst := some 65, op := Op.binOp BinOp.eql 4 (Operand.tmp 60) (Operand.tmp 64) 4, type := 4, pos := "law.go:34", after := #[{ on := 19, ground := Ground.data }, { on := 23, ground := Ground.data }, { on := 17, ground := Ground.guard }], guard := some (17, true) }) (v := ?_) rfl (by kernel_rfl) (by kernel_rfl) (by kernel_rfl) (fun _ _ _ h => h) (Or.inl ⟨by rfl, ?_⟩) (by assumption) ?_
    rotate_left
    · intro w hSw
      go_simp
      try with_reducible rfl
    try simp only [Act.put, List.setIfInBounds_toArray, List.set_cons_zero, List.set_cons_succ]
    refine wpAnyH_take (i := 25) (oi := { dst := some 66, op := Op.pick (Operand.tmp 58) (Operand.tmp 65) (Operand.const (Value.bool false)), type := 4, pos := "law.go:34", after := #[{ on := 17, ground := Ground.data }, { on := 24, ground := Ground.data }], guard := none }) (v := ?_) rfl (by kernel_rfl) (by kernel_rfl) (by kernel_rfl) (fun _ _ _ h => h) (Or.inl ⟨by rfl, ?_⟩) (by assumption) ?_
    rotate_left
    · intro w hSw
      go_simp
      try with_reducible rfl
    try simp only [Act.put, List.setIfInBounds_toArray, List.set_cons_zero, List.set_cons_succ]
    refine wpAnyH_take (i := 26) (oi := { dst := some 67, op := Op.move (Operand.tmp 66), type := 4, pos := "law.go:34", after := #[{ on := 25, ground := Ground.data }, { on := 19, ground := Ground.chain }], guard := none }) (v := ?_) rfl (by kernel_rfl) (by kernel_rfl) (by kernel_rfl) (fun _ _ _ h => h) (Or.inl ⟨by rfl, ?_⟩) (by assumption) ?_
    rotate_left
    · intro w hSw
      go_simp
      try with_reducible rfl
    try simp only [Act.put, List.setIfInBounds_toArray, List.set_cons_zero, List.set_cons_succ]
    refine wpAnyH_ready (rs := [27]) (by kernel_rfl) (by simp) ?_
    refine AllReadyH.cons (o := { dst := some 68, op := Op.call { callee := Callee.value (Operand.func 13), args := #[], argTypes := #[] }, type := 4, pos := "law.go:34", after := #[{ on := 26, ground := Ground.chain }, { on := 26, ground := Ground.guard }], guard := some (26, true) }) rfl (fun K hK => ?_) AllReadyH.nil
    go_simp
    refine (wakes10 _).mono ?_
    rintro e V8 ⟨rfl, d8⟩
    have b8 : Below W5.heap.size W5 V8 := b7.trans (d8.mono b7.size)
    go_wp2_with (fail)
    refine hK.out _ _ b8 (fun hHeld => ?_)
    clear hK K
    try simp only [Act.put, List.setIfInBounds_toArray, List.set_cons_zero, List.set_cons_succ]
    refine wpAnyH_take (i := 28) (oi := { dst := some 69, op := Op.pick (Operand.tmp 67) (Operand.tmp 68) (Operand.const (Value.bool false)), type := 4, pos := "law.go:34", after := #[{ on := 26, ground := Ground.data }, { on := 27, ground := Ground.data }], guard := none }) (v := ?_) rfl (by kernel_rfl) (by kernel_rfl) (by kernel_rfl) (fun _ _ _ h => h) (Or.inl ⟨by rfl, ?_⟩) (by assumption) ?_
    rotate_left
    · intro w hSw
      go_simp
      try with_reducible rfl
    try simp only [Act.put, List.setIfInBounds_toArray, List.set_cons_zero, List.set_cons_succ]
    refine wpAnyH_take (i := 29) (oi := { dst := some 6, op := Op.assign (Operand.tmp 69), type := 4, pos := "law.go:34", after := #[{ on := 28, ground := Ground.data }, { on := 27, ground := Ground.chain }, { on := 0, ground := Ground.phase }, { on := 1, ground := Ground.phase }, { on := 2, ground := Ground.phase }, { on := 3, ground := Ground.phase }, { on := 4, ground := Ground.phase }, { on := 5, ground := Ground.phase }, { on := 6, ground := Ground.phase }, { on := 7, ground := Ground.phase }, { on := 8, ground := Ground.phase }, { on := 9, ground := Ground.phase }, { on := 10, ground := Ground.phase }, { on := 11, ground := Ground.phase }, { on := 12, ground := Ground.phase }, { on := 13, ground := Ground.phase }, { on := 14, ground := Ground.phase }, { on := 15, ground := Ground.phase }, { on := 16, ground := Ground.phase }, { on := 17, ground := Ground.phase }, { on := 18, ground := Ground.phase }, { on := 19, ground := Ground.phase }, { on := 20, ground := Ground.phase }, { on := 21, ground := Ground.phase }, { on := 22, ground := Ground.phase }, { on := 23, ground := Ground.phase }, { on := 24, ground := Ground.phase }, { on := 25, ground := Ground.phase }, { on := 26, ground := Ground.phase }, { on := 27, ground := Ground.phase }, { on := 28, ground := Ground.phase }], guard := none }) (v := ?_) rfl (by kernel_rfl) (by kernel_rfl) (by kernel_rfl) (fun _ _ _ h => h) (Or.inl ⟨by rfl, ?_⟩) (by assumption) ?_
    rotate_left
    · intro w hSw
      go_simp
      try with_reducible rfl
    try simp only [Act.put, List.setIfInBounds_toArray, List.set_cons_zero, List.set_cons_succ]
    refine wpAnyH_done (by kernel_rfl) ?_ _
    have HB := Lib.hid (HB.out.trans ((b8).mono HB.out.size))
    clear eu eo ltr bd ZS ZU ZO
    go_wp2
    go_ret
    exact ⟨rfl, HB.out⟩
end Go.Proofs.YtfkaagndlpcfdaaGreat

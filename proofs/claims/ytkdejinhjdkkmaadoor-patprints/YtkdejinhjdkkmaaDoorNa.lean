/- Contract of the law's nodes: some nodes, in memory of their own; the condition: what came in lies there. -/
import Derived.Test.YtkdejinhjdkkmaaDoorRw
import Derived.Test.YtkdejinhjdkkmaaDoorPc
namespace Go.Proofs.YtkdejinhjdkkmaaDoor
open Go.ChangeShapes Go.WideShapes Go.ChangeAt Go.RowKit

/-- What a call that makes some nodes comes to. -/
def MakesNds (w : World) (e : Ending) (w' : World) : Prop := ∃ a c ns, e = .returned (.slice a ns.length c) ∧ Nds w' a c ns ∧ ns.length ≤ 30 ∧ (∀ g, a = some ⟨g, 0, none⟩ → w.heap.size ≤ g) ∧ Below w.heap.size w w'
theorem flatN_set : ∀ (ns : List Nd) (k : Nat) (y : Nd) (f : Nat) (v : Value) (hk : k < ns.length), f < 5 → ndCells y = (ndCells ns[k]).set f v → (flatN ns).set (k * 5 + f) v = flatN (ns.set k y)
  | [], k, _, _, _, hk, _, _ => by simp at hk
  | x :: r, 0, y, f, v, _, hf, h => by
    simp only [List.getElem_cons_zero] at h
    rw [flatN_cons, List.set_cons_zero, flatN_cons, h, List.set_append_left _ _ (by simp [ndCells]; omega)]
    simp
  | x :: r, k + 1, y, f, v, hk, hf, h => by
    simp only [List.getElem_cons_succ] at h
    rw [flatN_cons, List.set_cons_succ, flatN_cons, ← flatN_set r k y f v (by simpa using hk) hf h, List.set_append_right _ _ (by simp [ndCells]; omega)]
    congr 2
    simp [ndCells]; omega
theorem Nds.put {w : World} {g : Nat} {c : Nat} {ns : List Nd} (h : Nds w (some ⟨g, 0, none⟩) c ns) {k : Nat} (hk : k < ns.length) (y : Nd) (f : Nat) (v : Value) (hf : f < 5) (hy : ndCells y = (ndCells ns[k]).set f v) : Nds (w.setCell ⟨g, k * 5 + f, none⟩ v) (some ⟨g, 0, none⟩) c (ns.set k y) := by
  rcases h with ⟨e, _⟩ | ⟨g', sp, e, h1, h2, h3, l⟩
  · cases e
  · injection e with e; injection e with e; subst e
    refine .inr ⟨g, sp, rfl, by rw [List.length_set]; exact h1, by rw [List.length_set]; exact h2, h3, (l.set (k * 5 + f) v).to ?_⟩
    rw [List.set_append_left _ _ (by rw [flatN_len]; omega), flatN_set ns k y f v hk hf hy]
theorem Nds.cut {w : World} {a : Option Addr} {c : Nat} {ts : List Nd} (h : Nds w a c ts) {k : Nat} (hk : k ≤ ts.length) : Nds w a c (ts.take k) := by
  rcases h with ⟨e1, e2, rfl⟩ | ⟨g, sp, e, h1, h2, h3, l⟩
  · exact .inl ⟨e1, e2, by simp⟩
  · refine .inr ⟨g, flatN (ts.drop k) ++ sp, e, ?_, ?_, h3, l.to ?_⟩
    · rw [List.length_append, flatN_len, List.length_take, List.length_drop, h1, Nat.min_eq_left hk]; omega
    · rw [List.length_take]; omega
    · rw [← List.append_assoc, ← flatN_append, List.take_append_drop]
theorem nds_rws {w : World} {a b : Option Addr} {c d : Nat} {xs ys : List Nd} (i : Nds w a c xs) (j : Rws w b d ys) (g : Nat) (e : a = some ⟨g, 0, none⟩) : ¬ b = some ⟨g, 0, none⟩ := by
  rintro rfl
  rcases j with ⟨h, _⟩ | ⟨g', sp, h, _, _, _, l⟩
  · cases h
  · injection h with h; injection h with h; subst h
    exact nds_apart l i (by decide) e
set_option maxRecDepth 100000 in
set_option maxHeartbeats 16000000 in
theorem nodes_raw (ra : Option Addr) (rc : Nat) (rs : List Nd) (la : Option Addr) (len cap : Nat) (how : Int) (w : World) (hn : ra = none → rs = [] ∧ rc = 0) (h : NodesAt w ra rs) (hlc : rs.length ≤ rc) (hc : rc ≤ 9223372036854775807) (h3 : how.tmod 3 = 0) :
    Calls Tryd.prog 12 #[.slice ra rs.length rc, .slice la len cap, .int .i64 how] w (MakesNds w) := by
  have CC := Lib.hid (cutRaw_any ra rc rs w hn h hlc hc)
  have ht : (rs.take 30).length ≤ 30 := by rw [List.length_take]; omega
  generalize rs.take 30 = ts at CC ht
  clear h hn
  go_enter Tryd.func12, Tryd.ntmps12
  go_wp2_with (fail)
  refine CC.out.mono ?_
  rintro e w1 ⟨ta, tc, rfl, T1, b1⟩
  have HT := Lib.hid T1
  have HB := Lib.hid b1
  clear T1 b1 CC
  obtain ⟨n, hnn⟩ : ∃ n, n = ts.length := ⟨_, rfl⟩
  rw [← hnn] at ht ⊢
  have HN := Lib.hid hnn
  clear hnn
  go_wp2_with (fail)
  go_loopw [7, 9, 17] (fun p _ i wr => ∃ (k : Nat) (ns : List Nd) (pa : Option Addr) (pc : Nat), k ≤ n ∧ i = .int .i64 k ∧ p = .slice pa ns.length pc ∧ ns.length = k ∧ Hid (Nds wr pa pc ns) ∧ Hid (∀ g, pa = some ⟨g, 0, none⟩ → w.heap.size ≤ g) ∧ Hid (Below w.heap.size w wr) ∧ Hid (Rws wr ta tc ts)) (fun _ _ i _ => n - (intOf i).toNat)
  case atStart => exact ⟨0, [], none, 0, Nat.zero_le _, rfl, rfl, rfl, Lib.hid (Nds.nil _), Lib.hid (fun _ e => nomatch e), HB, HT⟩
  case round =>
    clear HB HT
    obtain ⟨k, ns, pa, pc, hk, rfl, rfl, hl, HND, HOW, HB, HT⟩ := hrel
    by_cases hlt : k < n
    · have hkn : k < ts.length := by have := HN.out; omega
      obtain ⟨b, hta, p⟩ := HT.out.there hkn
      subst hta
      have c0 := p.c0
      have c1 := p.c1
      have c2 := p.c2
      have c3 := p.c3
      have c4 := p.c4
      generalize ts[k] = y at c0 c1 c2 c3 c4
      clear p
      obtain ⟨m, hm⟩ : ∃ m, m = ns.length := ⟨_, rfl⟩
      rw [← hm] at hl ⊢
      have HM := Lib.hid hm
      clear hm
      subst hl
      go_wp2_with (at_builtin; refine wpList_appN _ rfl _ _ rfl pa pc m _ rfl rfl ns y (Nds.alloc (Nds.alloc HND.out _) _) (Lies.newAt _ 45 (ndCells y) (by simp)) (by have := HM.out; omega) HM.out ?_; intro a' c' w5 T5 K5 O5; (have HT5 := Lib.hid T5); (have HK5 := Lib.hid K5); (have HO5 := Lib.hid O5); clear T5 K5 O5)
      go_roundw
      case rel =>
        refine ⟨m + 1, ns ++ [y], a', c', by omega, by go_num, by rw [List.length_append, ← HM.out]; rfl, by rw [List.length_append, ← HM.out]; rfl, HT5, Lib.hid (fun g e => ?_), Lib.hid (kept_below ((HB.out.alloc HB.out.size _).alloc (by have := HB.out.size; simp; omega) _) HK5.out HOW.out), Lib.hid (Rws.kept (Rws.kept (X := fun _ => False) HT.out (((Kept.refl _ wr).alloc _).alloc _) (fun _ _ h => h)) HK5.out (fun g e e2 => nds_rws HND.out HT.out g e2 e))⟩
        rcases HO5.out g e with h' | h'
        · exact HOW.out g h'
        · have := HB.out.size
          simp at h'
          omega
      case measure => simp [intOf]; omega
    · go_wp2
      go_ret
      exact ⟨pa, pc, ns, rfl, HND.out, by omega, HOW.out, HB.out⟩
end Go.Proofs.YtkdejinhjdkkmaaDoor

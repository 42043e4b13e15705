/- The slices that the law LinMade makes. -/
import Derived.Test.YtmbkiefbchjofaaGa
namespace Go.Proofs.Ytmbkiefbchjofaa
open Go.ChangeShapes Go.WideShapes Go.ChangeAt Go.RowKit

/-- A slice of bags, all of it in memory that was made since W1. -/
structure LpSt (W1 : World) (pa : Option Addr) (pc m : Nat) (ps : List Bg) (W : World) : Prop where
  bel : Below W1.heap.size W1 W
  row : Bgs W pa pc ps
  num : ps.length = m
  own : From W1.heap.size pa
theorem LpSt.start (W : World) : LpSt W none 0 0 [] W := ⟨Below.refl _ _, Bgs.nil _, rfl, From.none _⟩
theorem LpSt.step {W1 W w2 : World} {pa a2 : Option Addr} {pc m c2 n : Nat} {ps : List Bg} {xs : List Int} (h : LpSt W1 pa pc m ps W) (b2 : Below W.heap.size W w2) (r2 : Bag w2 a2 c2 xs) (f2 : From W.heap.size a2) (hl : xs.length = n) (hn : n ≤ 900) (hm : m ≤ 1000) (ty : TypeId) :
    ∃ a3 c3 w3 a4 c4 w4, (Builtin.append_ #[22, 22] ty #[.slice a2 n c2, .slice (some ⟨w2.heap.size, 0, none⟩) 2 2]).run Try.prog (w2.alloc (.cells #[.int .i64 0, .int .i64 0] 3)) = .ok (.slice a3 (n + 2) c3) w3 ∧
      (Builtin.append_ #[27, 27] 27 #[.slice pa m pc, .slice (some ⟨w3.heap.size, 0, none⟩) 1 1]).run Try.prog (w3.alloc (.cells #[.slice a3 (n + 2) c3] 26)) = .ok (.slice a4 (m + 1) c4) w4 ∧
      LpSt W1 a4 c4 (m + 1) (ps ++ [⟨a3, c3, xs ++ [0, 0]⟩]) w4 := by
  obtain ⟨a3, c3, w3, hr3, r3, f3, b3⟩ := appz ty a2 c2 n xs w2 r2 hl (by omega) [0, 0] 2 rfl (by omega) W.heap.size b2.size f2
  have b4 := b2.trans b3
  obtain ⟨a4, c4, w4, hr4, q4, k4, f4⟩ := app1 pa pc m ps w3 (h.row.below b4) h.num a3 c3 (n + 2) (xs ++ [0, 0]) r3 (by simp [hl]) hm
  obtain ⟨f5, b5⟩ := f4 W1.heap.size (Nat.le_trans h.bel.size b4.size) h.own
  exact ⟨a3, c3, w3, a4, c4, w4, hr3, hr4, (h.bel.trans (b4.mono h.bel.size)).trans b5, q4, by simp [h.num], f5⟩
theorem Bgs.at' {w : World} {a : Option Addr} {c : Nat} {ps : List Bg} (h : Bgs w a c ps) {k : Nat} (hk : k < ps.length) : ∃ g ak nk ck xk, a = some ⟨g, 0, none⟩ ∧ w.cell? ⟨g, k, none⟩ = some (.slice ak nk ck) ∧ ps[k]? = some ⟨ak, ck, xk⟩ ∧ xk.length = nk := by
  obtain ⟨g, e, hc, _⟩ := h.at hk
  exact ⟨g, (ps[k]).a, (ps[k]).xs.length, (ps[k]).c, (ps[k]).xs, e, hc, by simp [List.getElem?_eq_getElem hk], rfl⟩
theorem Bgs.cells {w V : World} {g c : Nat} {ps : List Bg} (h : Bgs w (some ⟨g, 0, none⟩) c ps) (b : Below w.heap.size w V) (k : Nat) (j : Nat) (u : Value) (hj : ((vals ps).drop k)[j]? = some u) : V.cell? ((⟨g, k, none⟩ : Addr).add j) = some u := by
  have r := h.row.below b
  rcases r with ⟨e, _⟩ | ⟨g', sp, e, _, _, l⟩
  · cases e
  · injection e with e; injection e with e; subst e
    rw [Addr.add_lit]
    rw [List.getElem?_drop] at hj
    have := one_cell l hj
    simpa using this
theorem Bgs.cells0 {w V : World} {g c : Nat} {ps : List Bg} (h : Bgs w (some ⟨g, 0, none⟩) c ps) (b : Below w.heap.size w V) (k : Nat) (j : Nat) (u : Value) (hj : ((vals ps).take k)[j]? = some u) : V.cell? ((⟨g, 0, none⟩ : Addr).add j) = some u := by
  refine h.cells b 0 j u ?_
  rw [List.drop_zero]
  by_cases hk : j < k
  · rwa [List.getElem?_take_of_lt hk] at hj
  · rw [List.getElem?_eq_none (by simp; omega)] at hj; cases hj
theorem reg_copy {W1 W : World} {g pc m k : Nat} {ps : List Bg} (h : LpSt W1 (some ⟨g, 0, none⟩) pc m ps W) (hk : k < m) (hm : m ≤ 1000) (V : World) (b : Below W.heap.size W V) :
    Calls Try.prog 24 #[.slice (some ⟨g, k, none⟩) (m - k) (pc - k)] V (MakesRow ((vals ps).drop k) (m - k) V) :=
  copyB ⟨g, k, none⟩ (pc - k) (m - k) ((vals ps).drop k) V (by rw [List.length_drop, vals_len, h.num]) (by omega) (Lib.hid (fun j u hj => h.row.cells b k j u hj)) (Lib.hid (fun u hu => vals_one ps u (List.mem_of_mem_drop hu)))
theorem reg_app {W1 W : World} {g pc m k : Nat} {ps : List Bg} (h : LpSt W1 (some ⟨g, 0, none⟩) pc m ps W) (hk : k < m) (hm : m ≤ 1000) (V : World) (a : Option Addr) (c : Nat) (Z : Option Nat) (T : Option (Nat × List Value)) (r : RegSt W V (some (a, c, (vals ps).drop k)) Z T) :
    ∃ a' c' V', (Builtin.append_ #[27, 27] 27 #[.slice a (m - k) c, .slice (some ⟨g, 0, none⟩) k pc]).run Try.prog V = .ok (.slice a' m c') V' ∧ RegSt W V' (some (a', c', (vals ps).drop k ++ (vals ps).take k)) Z T := by
  have hl : (vals ps).length = m := (vals_len ps).trans h.num
  obtain ⟨v, V', hr, A⟩ := run_app_at 27 27 26 Try.underlying27 Try.infoBag a c (m - k) ((vals ps).drop k) V (r.row _ _ _ rfl).1 (by rw [List.length_drop, hl]) ⟨g, 0, none⟩ k pc ((vals ps).take k) (by rw [List.length_take, hl]; omega) (fun j u hj => h.row.cells0 r.bel k j u hj) (fun u hu => vals_one ps u (List.mem_of_mem_take hu)) (by rw [List.length_drop, List.length_take, hl]; omega)
  obtain ⟨a', c', rfl, R⟩ := r.apped A
  have e : ((vals ps).drop k).length + ((vals ps).take k).length = m := by rw [List.length_drop, List.length_take, hl]; omega
  rw [e] at hr
  exact ⟨a', c', V', hr, R⟩
theorem reg_end {W1 W : World} {g pc m k : Nat} {ps : List Bg} (h : LpSt W1 (some ⟨g, 0, none⟩) pc m ps W) (hk : k < m) (hm : m ≤ 1000) {ak : Option Addr} {nk ck : Nat} {xk : List Int} (hp : ps[k]? = some ⟨ak, ck, xk⟩) (hx : xk.length = nk) (V : World) (a : Option Addr) (c gz gt : Nat) (r : RegSt W V (some (a, c, (vals ps).drop k ++ (vals ps).take k)) (some gz) (some (gt, [.slice ak nk ck, .slice none 0 0, .slice (some ⟨gz, 0, none⟩) 1 1]))) :
    ∃ a' c' V' ps', (Builtin.append_ #[27, 27] 27 #[.slice a m c, .slice (some ⟨gt, 0, none⟩) 3 3]).run Try.prog V = .ok (.slice a' (m + 3) c') V' ∧ LpSt W1 a' c' (m + 3) ps' V' ∧ words ps' = ((words ps).drop k ++ (words ps).take k) ++ [(words ps).getD k [], [], [0]] := by
  have hl : (vals ps).length = m := (vals_len ps).trans h.num
  have e0 : ((vals ps).drop k ++ (vals ps).take k).length = m := by rw [List.length_append, List.length_drop, List.length_take, hl]; omega
  have rt := r.t _ _ rfl
  obtain ⟨v, V', hr, A⟩ := run_app 27 27 26 Try.underlying27 Try.infoBag a c m ((vals ps).drop k ++ (vals ps).take k) V (r.row _ _ _ rfl).1 e0.symm (some ⟨gt, 0, none⟩) 3 3 _ rt rfl (by simp [Value.oneCell']) (by rw [e0]; simp; omega)
  obtain ⟨a', c', rfl, R⟩ := r.apped A
  rw [e0] at hr
  refine ⟨a', c', V', (ps.drop k ++ ps.take k) ++ [⟨ak, ck, xk⟩, ⟨none, 0, []⟩, ⟨some ⟨gz, 0, none⟩, 1, [0]⟩], hr, ⟨h.bel.trans (R.bel.mono h.bel.size), ⟨?_, ?_⟩, ?_, ?_⟩, ?_⟩
  · have := (R.row _ _ _ rfl).1
    subst hx
    simpa [vals, Bg.val] using this
  · have old : ∀ p ∈ ps, Bag V' p.a p.c p.xs := fun p hp => (h.row.each p hp).below R.bel
    intro p hp
    simp only [List.mem_append, List.mem_cons, List.not_mem_nil, or_false] at hp
    rcases hp with (hp | hp) | rfl | rfl | rfl
    · exact old p (List.mem_of_mem_drop hp)
    · exact old p (List.mem_of_mem_take hp)
    · exact old _ (List.mem_of_getElem? (by assumption))
    · exact Bag.nil _
    · exact row_lies (R.z _ rfl) (by simp)
  · have := h.num
    simp; omega
  · exact (R.row _ _ _ rfl).2.mono h.bel.size
  · have : (words ps).getD k [] = xk := by simp [words, List.getD, hp]
    rw [this]
    simp [words]
end Go.Proofs.Ytmbkiefbchjofaa

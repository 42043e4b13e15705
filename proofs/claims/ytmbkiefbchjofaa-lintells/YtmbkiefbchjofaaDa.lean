/- The reference's put: a word into rising ones, once. -/
import Derived.Test.YtmbkiefbchjofaaCb
namespace Go.Proofs.Ytmbkiefbchjofaa
open Go.ChangeShapes Go.WideShapes Go.ChangeAt Go.RowKit

/-- How many stand ahead of b. -/
def spot (b : List Int) : List (List Int) → Nat
  | [] => 0
  | x :: r => if cmpL x b < 0 then spot b r + 1 else 0
theorem spot_le (b : List Int) : ∀ l, spot b l ≤ l.length
  | [] => by simp [spot]
  | x :: r => by
    have := spot_le b r
    unfold spot
    split <;> simp <;> omega
theorem spot_of {b : List Int} : ∀ {l : List (List Int)} {k : Nat}, k ≤ l.length → (∀ j, j < k → cmpL (l.getD j []) b < 0) → (k < l.length → ¬ cmpL (l.getD k []) b < 0) → spot b l = k
  | [], k, hk, _, _ => by simp at hk; simp [spot, hk]
  | x :: r, k, hk, h1, h2 => by
    unfold spot
    cases k with
    | zero => rw [if_neg (by simpa using h2 (by simp))]
    | succ k =>
      rw [if_pos (by simpa using h1 0 (by omega)), spot_of (l := r) (k := k) (by simpa using hk) (fun j hj => by simpa using h1 (j + 1) (by omega)) (fun h => by simpa using h2 (by simpa using h))]
theorem put_same {b : List Int} : ∀ {l : List (List Int)}, spot b l < l.length → cmpL (l.getD (spot b l) []) b = 0 → putL b l = l
  | [], h, _ => by simp at h
  | x :: r, h, e => by
    unfold spot at h e
    unfold putL
    split at h
    · next hx =>
      rw [if_pos hx]
      rw [if_pos hx] at e
      rw [put_same (l := r) (by simpa using h) (by simpa using e)]
    · next hx =>
      rw [if_neg hx] at e
      rw [if_neg hx, if_pos (by simpa using e)]
theorem put_new {b : List Int} : ∀ {l : List (List Int)}, (spot b l < l.length → cmpL (l.getD (spot b l) []) b ≠ 0) → putL b l = l.take (spot b l) ++ [b] ++ l.drop (spot b l)
  | [], _ => by simp [putL, spot]
  | x :: r, h => by
    unfold spot at h ⊢
    unfold putL
    split
    · next hx =>
      rw [if_pos hx] at h
      rw [put_new (l := r) (fun hl => by simpa using h (by simpa using hl))]
      simp
    · next hx =>
      rw [if_neg hx] at h
      have := h (by simp)
      rw [if_neg (by simpa using this)]
      simp

/-- What a call that makes a slice of bags of the words xss comes to. -/
def MakesBs (xss : List (List Int)) (w : World) (e : Ending) (w' : World) : Prop :=
  ∃ a c, e = .returned (.slice a xss.length c) ∧ Bags w' a c xss ∧ Below w.heap.size w w'

theorem Row.take {w : World} {t : TypeId} {a : Option Addr} {c : Nat} {xs : List Value} (h : Row w t a c xs) (k : Nat) : Row w t a c (xs.take k) := by
  rcases h with ⟨e1, e2, rfl⟩ | ⟨g, sp, e, hc, hm, l⟩
  · exact .inl ⟨e1, e2, by simp⟩
  · refine .inr ⟨g, xs.drop k ++ sp, e, ?_, hm, l.to ?_⟩
    · rw [List.length_append, List.length_take, List.length_drop, hc]; omega
    · rw [← List.append_assoc, List.take_append_drop]
theorem Appends.below {e : TypeId} {a : Option Addr} {xs ys : List Value} {w w' : World} {v : Value} (h : Appends e a xs ys w v w') {B : Nat} (hB : B ≤ w.heap.size) (hf : From B a) : Below B w w' ∧ ∀ a' n c', v = .slice a' n c' → From B a' := by
  obtain ⟨a', c', rfl, r, k, f⟩ := h
  refine ⟨k.below (fun g e => hf g e) hB, fun a2 n c2 e g h => ?_⟩
  injection e with e
  subst e
  rcases f g h with h | h
  · exact hf g h
  · omega
theorem Row.new1 (w : World) (t : TypeId) (v : Value) : Row (w.alloc (.cells #[v] t)) t (some ⟨w.heap.size, 0, none⟩) 1 [v] :=
  .inr ⟨_, [], rfl, rfl, by omega, Lies.new w t [v]⟩

/-- The places of a slice from k on. -/
def Tail (a : Option Addr) (m k : Nat) (src : Option Addr) (d : Nat) : Prop :=
  (a = none ∧ m = k ∧ src = none ∧ d = 0) ∨ ∃ g ad, a = some ⟨g, 0, none⟩ ∧ src = some ad ∧ (k < m → ad = ⟨g, k, none⟩)

theorem put_runs (a a' : Option Addr) (c c' k d : Nat) (src : Option Addr) (xss : List (List Int)) (ys : List Int) (w W : World) (HB : Below w.heap.size w W) (P : Bags W a c xss) (R : Bag W a' c' ys) (hx : xss.length ≤ 1000) (hy : ys.length ≤ 1000) (hk : k ≤ xss.length)
    (T : Tail a xss.length k src d) (hp : putL ys xss = xss.take k ++ [ys] ++ xss.drop k) :
    ∃ a1 c1 w1 ab cb w2 a2 c2 w4 v5 w5,
      (Builtin.append_ #[27, 27] 27 #[.slice none 0 0, .slice a k c]).run Try.prog W = .ok (.slice a1 k c1) w1 ∧
      (Builtin.append_ #[26, 26] 26 #[.slice none 0 0, .slice a' ys.length c']).run Try.prog w1 = .ok (.slice ab ys.length cb) w2 ∧
      (Builtin.append_ #[27, 27] 27 #[.slice a1 k c1, .slice (some ⟨w2.heap.size, 0, none⟩) 1 1]).run Try.prog (w2.alloc (.cells #[.slice ab ys.length cb] 26)) = .ok (.slice a2 (k + 1) c2) w4 ∧
      (Builtin.append_ #[27, 27] 27 #[.slice a2 (k + 1) c2, .slice src (xss.length - k) d]).run Try.prog w4 = .ok v5 w5 ∧
      MakesBs (putL ys xss) w (.returned v5) w5 := by
  obtain ⟨ps, rfl, P⟩ := P
  rw [words_len] at hk hx T ⊢
  have hk1 : (vals (ps.take k)).length = k := by rw [vals_len, List.length_take]; omega
  have hk2 : (vals (ps.drop k)).length = ps.length - k := by rw [vals_len, List.length_drop]
  have rt : Row W 26 a c (vals (ps.take k)) := by
    have := P.row.take k
    unfold vals at this ⊢
    rwa [← List.map_take] at this
  obtain ⟨v1, w1, hr1, A1⟩ := run_app 27 27 26 Try.underlying27 Try.infoBag none 0 0 [] W (Row.nil _ _) rfl a c k (vals (ps.take k)) rt hk1.symm (vals_one _) (by rw [hk1]; simp; omega)
  obtain ⟨b1, f1⟩ := A1.below (Nat.le_refl _) (From.none _)
  obtain ⟨a1, c1, rfl, r1, k1, _⟩ := A1
  have f1 := f1 _ _ _ rfl
  simp only [List.length_nil, Nat.zero_add, List.nil_append] at hr1 r1
  rw [hk1] at hr1
  obtain ⟨vb, w2, hr2, ab, cb, eb, rb, fb, b2⟩ := run_copy 26 26 Try.underlying26 a' c' ys w1 (R.below b1) (by omega)
  injection eb with eb
  subst eb
  have b3 : Below w2.heap.size w2 (w2.alloc (.cells #[.slice ab ys.length cb] 26)) := below_alloc _ _
  obtain ⟨v2, w4, hr3, A2⟩ := run_app 27 27 26 Try.underlying27 Try.infoBag a1 c1 k (vals (ps.take k)) (w2.alloc (.cells #[.slice ab ys.length cb] 26)) ((r1.below b2).below b3) hk1.symm
    (some ⟨w2.heap.size, 0, none⟩) 1 1 [.slice ab ys.length cb] (Row.new1 _ _ _) rfl (by simp [Value.oneCell']) (by rw [hk1]; simp; omega)
  have bW : Below w.heap.size w (w2.alloc (.cells #[.slice ab ys.length cb] 26)) := ((HB.trans (b1.mono HB.size)).trans (b2.mono (Nat.le_trans HB.size b1.size))).trans (b3.mono (Nat.le_trans HB.size (Nat.le_trans b1.size b2.size)))
  obtain ⟨b4, f2⟩ := A2.below bW.size (f1.mono HB.size)
  obtain ⟨a2, c2, rfl, r2, k2, _⟩ := A2
  have f2 := f2 _ _ _ rfl
  have hl2 : (vals (ps.take k)).length + [Value.slice ab ys.length cb].length = k + 1 := by rw [hk1]; rfl
  rw [hl2] at hr3
  have bW4 := bW.trans b4
  have hb2 : Bag w4 ab cb ys := by
    have h0 : Bag (w2.alloc (.cells #[.slice ab ys.length cb] 26)) ab cb ys := rb.below b3
    exact h0.kept k2 (fun g e => h0.apart ((r1.below b2).below b3) e)
  have R4 : ∃ v5 w5, (Builtin.append_ #[27, 27] 27 #[.slice a2 (k + 1) c2, .slice src (ps.length - k) d]).run Try.prog w4 = .ok v5 w5 ∧ Appends 26 a2 (vals (ps.take k) ++ [.slice ab ys.length cb]) (vals (ps.drop k)) w4 v5 w5 := by
    have hl : k + 1 = (vals (ps.take k) ++ [Value.slice ab ys.length cb]).length := by rw [List.length_append, hk1]; rfl
    rcases T with ⟨ha, hm, rfl, rfl⟩ | ⟨g, ad, ha, rfl, had⟩
    · have e0 : vals (ps.drop k) = [] := by rw [← hm]; simp [vals]
      rw [e0, hm, Nat.sub_self]
      exact run_app_nil 27 27 26 Try.underlying27 Try.infoBag a2 c2 (k + 1) _ w4 r2 hl
    · refine run_app_at 27 27 26 Try.underlying27 Try.infoBag a2 c2 (k + 1) _ w4 r2 hl ad (ps.length - k) d (vals (ps.drop k)) hk2.symm ?_ (vals_one _) (by rw [← hl, hk2]; omega)
      intro j u hj
      have hj' := (List.getElem?_eq_some_iff.1 hj).1
      rw [hk2] at hj'
      rw [had (by omega), Addr.add_lit]
      have hW : W.cell? ⟨g, k + j, none⟩ = some u := by
        obtain ⟨g', e', hc'⟩ := P.row.there (i := k + j) (by rw [vals_len]; omega)
        rw [ha] at e'
        injection e' with e'
        injection e' with e'
        subst e'
        rw [hc', ← hj]
        unfold vals
        rw [List.map_drop, List.getElem?_drop, List.getElem?_eq_getElem]
      have bb : Below W.heap.size W w4 := ((b1.trans (b2.mono b1.size)).trans (b3.mono (Nat.le_trans b1.size b2.size))).trans (k2.below (fun g e => f1 g e) (Nat.le_trans b1.size (Nat.le_trans b2.size b3.size)))
      exact (bb.cell (p := ⟨g, k + j, none⟩) (P.row.lt ha)).trans hW
  obtain ⟨v5, w5, hr4, A3⟩ := R4
  obtain ⟨b5, f3⟩ := A3.below bW4.size f2
  obtain ⟨a3, c3, rfl, r3, k3, _⟩ := A3
  refine ⟨a1, c1, w1, ab, cb, w2, a2, c2, w4, _, w5, hr1, hr2, hr3, hr4, a3, c3, ?_, ?_, bW4.trans b5⟩
  · rw [hp]
    simp only [List.length_append, hk1, hk2, List.length_take, List.length_drop, words_len, List.length_cons, List.length_nil]
    rw [Nat.min_eq_left hk]
  · refine ⟨ps.take k ++ [⟨ab, cb, ys⟩] ++ ps.drop k, ?_, ?_, ?_⟩
    · rw [hp]; simp [words, List.map_take, List.map_drop]
    · have : vals (ps.take k ++ [⟨ab, cb, ys⟩] ++ ps.drop k) = vals (ps.take k) ++ [.slice ab ys.length cb] ++ vals (ps.drop k) := by simp [vals, Bg.val]
      rw [this]
      exact r3
    · have old : ∀ p ∈ ps, Bag w5 p.a p.c p.xs := fun p hp => by
        have bb : Below W.heap.size W w4 := ((b1.trans (b2.mono b1.size)).trans (b3.mono (Nat.le_trans b1.size b2.size))).trans (k2.below (fun g e => f1 g e) (Nat.le_trans b1.size (Nat.le_trans b2.size b3.size)))
        have h4 := (P.each p hp).below bb
        exact h4.kept k3 (fun g e => h4.apart r2 e)
      intro p hp
      rw [List.mem_append, List.mem_append] at hp
      rcases hp with (hp | hp) | hp
      · exact old p (List.mem_of_mem_take hp)
      · obtain rfl := List.mem_singleton.1 hp
        exact hb2.kept k3 (fun g e => hb2.apart r2 e)
      · exact old p (List.mem_of_mem_drop hp)
end Go.Proofs.Ytmbkiefbchjofaa

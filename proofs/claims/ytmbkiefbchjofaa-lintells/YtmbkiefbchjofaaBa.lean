/- Slices of bags in memory; append to them; each bag by its address, its capacity and its numbers. -/
import Derived.Test.YtmbkiefbchjofaaK
import Derived.Test.YtmbkiefbchjofaaLL
namespace Go.Proofs.Ytmbkiefbchjofaa
open Go.ChangeShapes Go.WideShapes Go.ChangeAt Go.RowKit

/-- A bag in memory. -/
structure Bg where
  a : Option Addr
  c : Nat
  xs : List Int
def Bg.val (p : Bg) : Value := .slice p.a p.xs.length p.c
/-- The cells of a slice of bags. -/
def vals (ps : List Bg) : List Value := ps.map Bg.val
/-- What they say. -/
def words (ps : List Bg) : List (List Int) := ps.map Bg.xs
theorem vals_len (ps : List Bg) : (vals ps).length = ps.length := List.length_map ..
theorem words_len (ps : List Bg) : (words ps).length = ps.length := List.length_map ..
theorem words_get {ps : List Bg} {k : Nat} (hk : k < ps.length) : (words ps).getD k [] = (ps[k]).xs := by simp [words, List.getD, hk]
theorem vals_one (ps : List Bg) : ∀ x ∈ vals ps, x.oneCell' = true := fun x hx => by
  obtain ⟨z, _, rfl⟩ := List.mem_map.1 hx
  rfl
/-- A slice of bags, at the head of a block of its own, or nil; each bag so, too. -/
structure Bgs (w : World) (a : Option Addr) (c : Nat) (ps : List Bg) : Prop where
  row : Row w 26 a c (vals ps)
  each : ∀ p ∈ ps, Bag w p.a p.c p.xs
def Bags (w : World) (a : Option Addr) (c : Nat) (xss : List (List Int)) : Prop := ∃ ps, words ps = xss ∧ Bgs w a c ps
/-- The address is none, or at the head of a block from B on. -/
def From (B : Nat) (a : Option Addr) : Prop := ∀ g, a = some ⟨g, 0, none⟩ → B ≤ g
theorem From.none (B : Nat) : From B none := fun _ e => nomatch e
theorem From.mono {B B' : Nat} {a : Option Addr} (h : From B a) (hb : B' ≤ B) : From B' a := fun g e => Nat.le_trans hb (h g e)
section
variable {w w' : World} {a : Option Addr} {c : Nat} {ps : List Bg} {xss : List (List Int)}
theorem Bgs.nil (w : World) : Bgs w none 0 [] := ⟨Row.nil w _, fun p h => by simp at h⟩
theorem Bgs.below (h : Bgs w a c ps) (k : Below w.heap.size w w') : Bgs w' a c ps := ⟨h.row.below k, fun p hp => (h.each p hp).below k⟩
theorem Bgs.le (h : Bgs w a c ps) : ps.length ≤ c ∧ c ≤ 9223372036854775807 := by
  have := h.row.le
  rwa [vals_len] at this
theorem Bgs.at (h : Bgs w a c ps) {k : Nat} (hk : k < ps.length) : ∃ g, a = some ⟨g, 0, none⟩ ∧ w.cell? ⟨g, k, none⟩ = some (ps[k]).val ∧ Bag w (ps[k]).a (ps[k]).c (ps[k]).xs := by
  obtain ⟨g, e, hc⟩ := h.row.there (i := k) (by rw [vals_len]; exact hk)
  exact ⟨g, e, hc.trans (by simp [vals]), h.each _ (List.getElem_mem hk)⟩
theorem Bags.nil (w : World) : Bags w none 0 [] := ⟨[], rfl, Bgs.nil w⟩
theorem Bags.below (h : Bags w a c xss) (k : Below w.heap.size w w') : Bags w' a c xss := by
  obtain ⟨ps, hl, h⟩ := h
  exact ⟨ps, hl, h.below k⟩
theorem Bags.drewN (h : Bags w a c xss) (n : Nat) : Bags (w.drewN n) a c xss := h.below (below_drewN _ _ _)
theorem Bags.at (h : Bags w a c xss) {k : Nat} (hk : k < xss.length) : ∃ g b d, a = some ⟨g, 0, none⟩ ∧ w.cell? ⟨g, k, none⟩ = some (.slice b (xss.getD k []).length d) ∧ Bag w b d (xss.getD k []) := by
  obtain ⟨ps, rfl, h⟩ := h
  have hk' : k < ps.length := by rwa [words_len] at hk
  obtain ⟨g, e, hc, hb⟩ := h.at hk'
  rw [words_get hk']
  exact ⟨g, _, _, e, hc, hb⟩
theorem Bags.le (h : Bags w a c xss) : xss.length ≤ c ∧ c ≤ 9223372036854775807 := by
  obtain ⟨ps, rfl, h⟩ := h
  have := h.le
  rwa [words_len]
theorem Bags.lt (h : Bags w a c xss) {g : Nat} (e : a = some ⟨g, 0, none⟩) : g < w.heap.size := by
  obtain ⟨ps, rfl, h⟩ := h
  exact h.row.lt e
/-- A bag's block is no block of a slice of bags. -/
theorem Bag.apart {b : Option Addr} {d : Nat} {xs : List Int} (h : Bag w b d xs) {vs : List Value} (r : Row w 26 a c vs) {g : Nat} (e : b = some ⟨g, 0, none⟩) : a ≠ some ⟨g, 0, none⟩ := by
  rintro rfl
  subst e
  rcases h with ⟨h, _⟩ | ⟨g1, sp, h, _, _, l⟩
  · cases h
  · rcases r with ⟨h', _⟩ | ⟨g2, sp', h', _, _, l'⟩
    · cases h'
    · injection h with h; injection h with h
      injection h' with h'; injection h' with h'
      subst h; subst h'
      exact l.other l' (by decide) rfl
/-- All of them stand where only the row's own block has turned. -/
theorem Bgs.keptEach (h : Bgs w a c ps) (k : Kept (fun g => a = some ⟨g, 0, none⟩) w w') : ∀ p ∈ ps, Bag w' p.a p.c p.xs :=
  fun p hp => (h.each p hp).kept k (fun _ e => (h.each p hp).apart h.row e)
theorem Row.form (h : Row w 26 a c (vals ps)) : a = none ∨ ∃ g, a = some ⟨g, 0, none⟩ := by
  rcases h with ⟨e1, _⟩ | ⟨g', sp, e, _⟩
  · exact .inl e1
  · exact .inr ⟨g', e⟩
end
theorem Row.own {w : World} {t : TypeId} {a : Option Addr} {c : Nat} {xs : List Value} (h : Row w t a c xs) : w.ownsRow 0 t 1 (.slice a xs.length c) xs.length xs := by
  refine ⟨by rw [Nat.mul_one], ?_⟩
  rcases h with ⟨rfl, rfl, rfl⟩ | ⟨g, sp, rfl, hc, hm, l⟩
  · exact .inl ⟨rfl, rfl⟩
  · refine .inr ⟨g, c, _, rfl, Nat.zero_le _, l, by omega, by unfold maxLen; omega, ?_, ?_⟩
    · simp; omega
    · simp
theorem Try.infoBag : (Try.prog.info? 26).map (fun i => (i.zero, i.size, i.bytes)) = some (some (.slice none 0 0), 1, 24) := by kernel_rfl
theorem Try.infoInts : (Try.prog.info? 22).map (fun i => (i.zero, i.size, i.bytes)) = some (some (.slice none 0 0), 1, 24) := by kernel_rfl

theorem ownBlock_slice (a : Option Addr) (n c : Nat) (g : Nat) : (Value.slice a n c).ownBlock = some g ↔ ∃ x, a = some x ∧ x.block = g := by
  cases a <;> simp [Value.ownBlock]
/-- What append of the cells ys to the row a comes to. -/
def Appends (e : TypeId) (a : Option Addr) (xs ys : List Value) (w : World) (v : Value) (w' : World) : Prop :=
  ∃ a' c', v = .slice a' (xs.length + ys.length) c' ∧ Row w' e a' c' (xs ++ ys) ∧ Kept (fun g => a = some ⟨g, 0, none⟩) w w' ∧ ∀ g, a' = some ⟨g, 0, none⟩ → a = some ⟨g, 0, none⟩ ∨ w.heap.size ≤ g

theorem run_app_at (t ty e : TypeId) (hu : Try.prog.underlying t = some (.slice e)) (hinfo : (Try.prog.info? e).map (fun i => (i.zero, i.size, i.bytes)) = some (some (.slice none 0 0), 1, 24))
    (a : Option Addr) (c n : Nat) (xs : List Value) (w : World) (R : Row w e a c xs) (hn : n = xs.length) (ad : Addr) (m d : Nat) (ys : List Value) (hm : m = ys.length) (hc : ∀ j u, ys[j]? = some u → w.cell? (ad.add j) = some u) (h1 : ∀ u ∈ ys, u.oneCell' = true) (hb : xs.length + ys.length ≤ 100000) :
    ∃ v w', (Builtin.append_ #[t, t] ty #[.slice a n c, .slice (some ad) m d]).run Try.prog w = .ok v w' ∧ Appends e a xs ys w v w' := by
  subst hn
  subst hm
  obtain ⟨i, hi, hz, hsz, hby⟩ := info_parts hinfo
  have hform : a = none ∨ ∃ g, a = some ⟨g, 0, none⟩ := by
    rcases R with ⟨e, _⟩ | ⟨g, _, e, _⟩
    · exact .inl e
    · exact .inr ⟨g, e⟩
  obtain ⟨v', w', hr, h2, h3, _, h5⟩ := run_append_own_at (P := Try.prog) w 0 t ty e i _ 1 24 hu hi hz hsz hby (by simp [Value.cells]) (by omega) _ xs.length xs R.own
    ad ys.length d ys (by rw [Nat.mul_one]) hc h1 (by unfold maxLen; omega) (by omega) (Nat.zero_le _)
  obtain ⟨a', c', rfl, r', _⟩ := own_row h2
  rw [List.length_append] at hr h5
  refine ⟨_, w', hr, a', c', rfl, r', ?_, fun g e => ?_⟩
  · refine ⟨h3.os, h3.tape, h3.output, h3.size, fun g hg hx => h3.block g hg (fun e => ?_)⟩
    obtain ⟨x, rfl, hx'⟩ := (ownBlock_slice a _ _ g).1 e.symm
    rcases hform with h | ⟨g', h⟩
    · cases h
    · injection h with h; subst h; subst hx'; exact hx rfl
  · subst e
    rcases h5 with h5 | h5
    · obtain ⟨x, rfl, hx⟩ := (ownBlock_slice a xs.length c g).1 (by rw [← h5]; rfl)
      rcases hform with h | ⟨g', h⟩
      · cases h
      · injection h with h; subst h; subst hx; exact .inl rfl
    · have : g = w.heap.size := by simpa [Value.ownBlock] using h5
      exact .inr (by omega)
theorem run_app_nil (t ty e : TypeId) (hu : Try.prog.underlying t = some (.slice e)) (hinfo : (Try.prog.info? e).map (fun i => (i.zero, i.size, i.bytes)) = some (some (.slice none 0 0), 1, 24))
    (a : Option Addr) (c n : Nat) (xs : List Value) (w : World) (R : Row w e a c xs) (hn : n = xs.length) :
    ∃ v w', (Builtin.append_ #[t, t] ty #[.slice a n c, .slice none 0 0]).run Try.prog w = .ok v w' ∧ Appends e a xs [] w v w' := by
  subst hn
  obtain ⟨i, hi, hz, hsz, hby⟩ := info_parts hinfo
  refine ⟨_, _, run_append_owned_none (w := w) 0 t ty e i 1 hu hi _ xs.length xs (by have := R.own; exact this), a, c, by simp, by simpa using R, Kept.refl _ _, fun g e => .inl e⟩
/-- append of a row to a row. -/
theorem run_app (t ty e : TypeId) (hu : Try.prog.underlying t = some (.slice e)) (hinfo : (Try.prog.info? e).map (fun i => (i.zero, i.size, i.bytes)) = some (some (.slice none 0 0), 1, 24))
    (a : Option Addr) (c n : Nat) (xs : List Value) (w : World) (R : Row w e a c xs) (hn : n = xs.length) (b : Option Addr) (d m : Nat) (ys : List Value) (R' : Row w e b d ys) (hm : m = ys.length) (h1 : ∀ u ∈ ys, u.oneCell' = true) (hb : xs.length + ys.length ≤ 100000) :
    ∃ v w', (Builtin.append_ #[t, t] ty #[.slice a n c, .slice b m d]).run Try.prog w = .ok v w' ∧ Appends e a xs ys w v w' := by
  rcases R' with ⟨rfl, rfl, rfl⟩ | ⟨g, sp, rfl, hc, hmx, hl⟩
  · subst hm
    exact run_app_nil t ty e hu hinfo a c n xs w R hn
  · exact run_app_at t ty e hu hinfo a c n xs w R hn _ m d ys hm (fun j u hj => by rw [Addr.add_lit]; exact one_cell hl hj) h1 hb
end Go.Proofs.Ytmbkiefbchjofaa

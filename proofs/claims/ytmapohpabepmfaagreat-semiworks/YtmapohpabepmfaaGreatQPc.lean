/- What columbaryplay.Pattern makes, in plain words, step by step, and its at; no condition. -/
import Derived.Test.YtmapohpabepmfaaGreatQPb
namespace Go.Proofs.YtmapohpabepmfaaGreat.Q
open Go.ChangeShapes Go.WideShapes Go.ChangeAt Go.RowKit

/-- Nodes that are a row of parts so far; of each part whether there is a star in it. -/
structure PG (ns : List Nd) (fl : List Pr) (sl : List Bool) : Prop where
  chk : chkL 4 0 ns [] = some fl
  sln : sl.length = ns.length
  tie : ∀ e ∈ fl, ∃ j : Nat, e.1 = (j : Int) ∧ j < ns.length ∧ sl.getD j false = e.2
  nam : ∀ x ∈ ns, x.name = emp
  few : ns.length + fl.length ≤ 24
  non : fl = [] → ns = []
theorem PG.nil : PG [] [] [] := ⟨rfl, rfl, (fun e h => by cases h), (fun x h => by cases h), by simp, fun _ => rfl⟩
theorem getD_app_lt (l : List Bool) (b : Bool) (j : Nat) (h : j < l.length) : (l ++ [b]).getD j false = l.getD j false := by
  simp only [List.getD_eq_getElem?_getD]
  rw [List.getElem?_append_left h]
theorem getD_app_eq (l : List Bool) (b : Bool) : (l ++ [b]).getD l.length false = b := by simp [List.getD_eq_getElem?_getD]
theorem PG.add {ns : List Nd} {fl F : List Pr} {sl : List Bool} (h : PG ns fl sl) (x : Nd) (b : Bool) (hF : ∀ e ∈ F, e ∈ fl) (hc : chkL 4 0 (ns ++ [x]) [] = some (F ++ [((ns.length : Int), b)])) (hx : x.name = emp) (hl : ns.length + F.length + 2 ≤ 24) :
    PG (ns ++ [x]) (F ++ [((ns.length : Int), b)]) (sl ++ [b]) := by
  refine ⟨hc, by simp [h.sln], ?_, ?_, by simp; omega, fun e => by simp at e⟩
  · intro e he
    rw [List.mem_append] at he
    rcases he with he | he
    · obtain ⟨j, e1, e2, e3⟩ := h.tie e (hF e he)
      exact ⟨j, e1, by simp; omega, by rw [getD_app_lt _ _ _ (by rw [h.sln]; exact e2)]; exact e3⟩
    · simp only [List.mem_singleton] at he
      subst he
      exact ⟨ns.length, rfl, by simp, by rw [← h.sln]; exact getD_app_eq sl b⟩
  · intro y hy
    rw [List.mem_append] at hy
    rcases hy with hy | hy
    · exact h.nam y hy
    · simp only [List.mem_singleton] at hy; subst hy; exact hx
theorem len_sub (ns : List Nd) (x : Nd) : ((ns ++ [x]).length : Int) - 1 = (ns.length : Int) := by simp
theorem PG.leaf {ns : List Nd} {fl : List Pr} {sl : List Bool} (h : PG ns fl sl) (x : Nd) (hp : partsK x.kind = 0) (hk : ¬ x.kind = 6) (hr : rightB x 4 [] = true) (hx : x.name = emp) (hl : ns.length + fl.length + 2 ≤ 24) :
    PG (ns ++ [x]) (fl ++ [((ns.length : Int), false)]) (sl ++ [false]) := h.add x false (fun _ h => h) (by have := chk_leaf h.chk x hp hk hr; rw [len_sub] at this; exact this) hx hl
theorem PG.two {ns : List Nd} {F : List Pr} {p q : Pr} {sl : List Bool} (h : PG ns (F ++ [p, q]) sl) (kind : Int) (hk : kind = 4 ∨ kind = 5) : PG (ns ++ [nTwo kind p.1 q.1]) (F ++ [((ns.length : Int), p.2 || q.2)]) (sl ++ [p.2 || q.2]) :=
  h.add _ _ (fun e he => by simp [he]) (by have := chk_two (p := p) (q := q) (fl := F) (ns := ns) (tags := 4) (by rw [h.chk]; simp) kind hk; rw [len_sub] at this; exact this) rfl (by have := h.few; simp at this; omega)
theorem PG.star {ns : List Nd} {F : List Pr} {p : Int} {sl : List Bool} (h : PG ns (F ++ [(p, false)]) sl) (hl : ns.length + F.length + 2 ≤ 24) : PG (ns ++ [nStar p]) (F ++ [((ns.length : Int), true)]) (sl ++ [true]) :=
  h.add _ _ (fun e he => by simp [he]) (by have := chk_star (p := p) (fl := F) (ns := ns) (tags := 4) h.chk; rw [len_sub] at this; exact this) rfl hl
/-- Where Pattern stands. -/
def PL (B : Nat) (w0 w : World) (gp go gs : Nat) (ns : List Nd) (fl : List Pr) (sl : List Bool) : Prop := PMem B w0 w gp go gs ns (fl.map (·.1)) sl ∧ PG ns fl sl
/-- What Pattern comes to. -/
def MakesPat (w : World) (e : Ending) (w' : World) : Prop :=
  ∃ a c ns, e = .returned (.slice a ns.length c) ∧ Nds w' a c ns ∧ chkB ns 4 = true ∧ 1 ≤ ns.length ∧ ns.length ≤ 24 ∧ (∀ x ∈ ns, x.name = emp) ∧ (∀ g, a = some ⟨g, 0, none⟩ → w.heap.size ≤ g) ∧ Below w.heap.size w w'
def atZ (zs : List Int) (len : Nat) (i : Nat) : Int := if i < len then zs.getD i 0 else 0
theorem at_in (a : Option Addr) (len cap : Nat) (zs : List Int) (i : Nat) (w : World) (HR : Hid (∀ k, k < len → RowAt w a zs k)) :
    Calls Tryz.prog 59 #[.slice a len cap, .int .i64 (i : Nat)] w fun e w' => e = .returned (.int .i64 (atZ zs len i)) ∧ w = w' := by
  by_cases h : i < len
  · obtain ⟨b, off, rfl, hc, -, -, -⟩ := HR.out i h
    have HE : Hid (atZ zs len i = zs.getD i 0) := Lib.hid (if_pos h)
    generalize zs.getD i 0 = z at hc HE
    have h1 : ¬ ((len : Int) ≤ (i : Int)) := by omega
    go_enter Tryz.func59, Tryz.ntmps59
    go_wp2
    go_ret
    exact ⟨ret_int HE.out.symm, rfl⟩
  · have HE : Hid (atZ zs len i = 0) := Lib.hid (if_neg h)
    have h1 : (len : Int) ≤ (i : Int) := by omega
    go_enter Tryz.func59, Tryz.ntmps59
    go_wp2
    go_ret
    exact ⟨ret_int HE.out.symm, rfl⟩
theorem atZ_bound (a : Option Addr) (len : Nat) (zs : List Int) (i : Nat) (w : World) (HR : Hid (∀ k, k < len → RowAt w a zs k)) : -9223372036854775808 ≤ atZ zs len i ∧ atZ zs len i ≤ 9223372036854775807 := by
  unfold atZ
  by_cases h : i < len
  · rw [if_pos h]
    obtain ⟨b, off, rfl, hc, -, h1, h2⟩ := HR.out i h
    exact ⟨h1, h2⟩
  · rw [if_neg h]; omega
end Go.Proofs.YtmapohpabepmfaaGreat.Q

import Derived.Test.YtmnkjekjknhhjaaGreatDoorL
import Derived.Test.YtmnkjekjknhhjaaGreatDoorA
namespace Go.Proofs.YtmnkjekjknhhjaaGreatDoor
open Go.ChangeShapes Go.WideShapes Go.ChangeAt Go.RowKit
def At (w:World) (T:TypeId) (b:Nat) (B S:Int) (o:Bool):Prop:=Lies w b T [.int .i64 B,.int .i64 S,.bool o]
section
variable {w w':World} {T:TypeId} {b:Nat} {B S:Int} {o:Bool}
theorem At.c0 (a:At w T b B S o):w.cell? ⟨b,0,none⟩=some (.int .i64 B):=Lies.cell a 0
theorem At.c1 (a:At w T b B S o):w.cell? ⟨b,1,none⟩=some (.int .i64 S):=Lies.cell a 1
theorem At.c2 (a:At w T b B S o):w.cell? ⟨b,2,none⟩=some (.bool o):=Lies.cell a 2
theorem At.f1 (a:At w T b B S o):w.frozen? ⟨b,1,none⟩=false:=Lies.frozen a 1
theorem At.f2 (a:At w T b B S o):w.frozen? ⟨b,2,none⟩=false:=Lies.frozen a 2
theorem At.set1 (a:At w T b B S o) (S':Int):At (w.setCell ⟨b,1,none⟩ (.int .i64 S')) T b B S' o:=Lies.set a 1 _
theorem At.set2 (a:At w T b B S o) (o':Bool):At (w.setCell ⟨b,2,none⟩ (.bool o')) T b B S o':=Lies.set a 2 _
theorem At.drewN (a:At w T b B S o) (n:Nat):At (w.drewN n) T b B S o:=a
theorem At.below (a:At w T b B S o) (k:Below w.heap.size w w'):At w' T b B S o:=Lies.below a k a.lt
end
structure Only (b:Nat) (w w':World):Prop where
 os:w'.os=w.os
 tape:w'.tape=w.tape
 output:w'.output=w.output
 size:w'.heap.size=w.heap.size
 block:∀ k,k≠b→w'.heap[k]? = w.heap[k]?
theorem Only.drewN (b:Nat) (w:World) (n:Nat):Only b w (w.drewN n):=⟨rfl,rfl,rfl,rfl,fun _ _=>rfl⟩
theorem Only.setCell {b off:Nat} {w w1:World} (h:Only b w w1) (v:Value):Only b w (w1.setCell ⟨b,off,none⟩ v):=
 ⟨h.os,h.tape,h.output,by simp [h.size],fun k hk=>(Below.heap_setCell _ _ _ _ hk).trans (h.block k hk)⟩
theorem Only.kept {b:Nat} {w w':World} (h:Only b w w'):Kept (fun g=>b=g) w w':=
 ⟨h.os,h.tape,h.output,by rw [h.size];exact Nat.le_refl _,fun k _ hx=>h.block k (fun e=>hx e.symm)⟩
def zh7 (B S n:Int) (o:Bool):Bool:=!o && decide (n≤B-S)
def next (B S n:Int) (o:Bool):Int:=if zh7 B S n o then S+max n 0 else S
def zdE (T:TypeId) (b:Nat) (B S n:Int) (o:Bool) (w:World) (e:Ending) (w':World):Prop:=
 e=.returned (.bool (zh7 B S n o))∧At w' T b B (next B S n o) (!zh7 B S n o)∧Only b w w'
theorem zpD {B S n:Int} (h:n≤B-S):zh7 B S n false=true∧next B S n false=S+max n 0:=by
 have e:zh7 B S n false=true:=by unfold zh7;simpa using h
 exact ⟨e,by unfold next;rw [e];rfl⟩
theorem zsq {B S n:Int} (h:¬n≤B-S):zh7 B S n false=false∧next B S n false=S:=by
 have e:zh7 B S n false=false:=by unfold zh7;simpa using h
 exact ⟨e,by unfold next;rw [e];rfl⟩
theorem zsR {B S n:Int} {o:Bool} (h0:0≤S) (h1:S≤B):0≤next B S n o∧next B S n o≤B:=by
 unfold next
 split
 ·rename_i h
  have:n≤B-S:=by unfold zh7 at h;simp at h;exact h.2
  omega
 ·omega
theorem zpE (b:Nat) (B S n:Int) (w:World) (a:At w 72 b B S true) :
  Calls Tryz.prog 59 #[.pointer (some ⟨b,0,none⟩),.int .i64 n] w (zdE 72 b B S n true w):=by
 have c0:=a.c0
 have c1:=a.c1
 have c2:=a.c2
 have f1:=a.f1
 have f2:=a.f2
 by_cases hn:n<0
 all_goals
  go_enter Tryz.func59,Tryz.ntmps59
  go_wp2
  go_quiet (fail)
  go_wp2
  go_ret
  exact ⟨rfl,At.set2 (a.drewN _) true,(Only.drewN _ _ _).setCell _⟩
theorem zrw (b:Nat) (B S n:Int) (w:World) (a:At w 72 b B S false) (h0:0≤S) (h1:S≤B) (h2:B≤9223372036854775807) (h:B-S<n) :
  Calls Tryz.prog 59 #[.pointer (some ⟨b,0,none⟩),.int .i64 n] w (zdE 72 b B S n false w):=by
 have E:=zsq (B:=B) (S:=S) (n:=n) (by omega)
 unfold zdE
 rw [E.1,E.2]
 clear E
 have c0:=a.c0
 have c1:=a.c1
 have c2:=a.c2
 have f1:=a.f1
 have f2:=a.f2
 have hn:0≤n:=by omega
 have d:decide (B-S<n)=true:=by simpa using h
 go_enter Tryz.func59,Tryz.ntmps59
 go_wp2
 go_quiet (fail)
 go_wp2
 go_ret
 exact ⟨rfl,At.set2 (a.drewN _) true,(Only.drewN _ _ _).setCell _⟩
theorem zpF (b:Nat) (B S n:Int) (w:World) (a:At w 72 b B S false) (h0:0≤S) (h1:S≤B) (h2:B≤9223372036854775807) (h:n≤B-S) :
  Calls Tryz.prog 59 #[.pointer (some ⟨b,0,none⟩),.int .i64 n] w (zdE 72 b B S n false w):=by
 have E:=zpD (B:=B) (S:=S) (n:=n) h
 unfold zdE
 rw [E.1,E.2]
 clear E
 have c0:=a.c0
 have c1:=a.c1
 have c2:=a.c2
 have f1:=a.f1
 have f2:=a.f2
 by_cases hn:n<0
 ·have d:decide (B-S<0)=false:=by simp;omega
  rw [show S+max n 0=S by omega]
  go_enter Tryz.func59,Tryz.ntmps59
  go_wp2
  go_quiet (fail)
  go_wp2
  go_ret
  exact ⟨rfl,At.set1 (a.drewN _) _,(Only.drewN _ _ _).setCell _⟩
 ·have d:decide (B-S<n)=false:=by simp;omega
  rw [show S+max n 0=S+n by omega]
  go_enter Tryz.func59,Tryz.ntmps59
  go_wp2
  go_quiet (fail)
  go_wp2
  go_ret
  exact ⟨rfl,At.set1 (a.drewN _) _,(Only.drewN _ _ _).setCell _⟩
theorem zoo (b:Nat) (B S n:Int) (w:World) (a:At w 41 b B S true) :
  Calls Tryz.prog 63 #[.pointer (some ⟨b,0,none⟩),.int .i64 n] w (zdE 41 b B S n true w):=by
 have c0:=a.c0
 have c1:=a.c1
 have c2:=a.c2
 have f1:=a.f1
 have f2:=a.f2
 by_cases hn:n<0
 all_goals
  go_enter Tryz.func63,Tryz.ntmps63
  go_wp2
  go_quiet (fail)
  go_wp2
  go_ret
  exact ⟨rfl,At.set2 (a.drewN _) true,(Only.drewN _ _ _).setCell _⟩
theorem zpG (b:Nat) (B S n:Int) (w:World) (a:At w 41 b B S false) (h0:0≤S) (h1:S≤B) (h2:B≤9223372036854775807) (h:B-S<n) :
  Calls Tryz.prog 63 #[.pointer (some ⟨b,0,none⟩),.int .i64 n] w (zdE 41 b B S n false w):=by
 have E:=zsq (B:=B) (S:=S) (n:=n) (by omega)
 unfold zdE
 rw [E.1,E.2]
 clear E
 have c0:=a.c0
 have c1:=a.c1
 have c2:=a.c2
 have f1:=a.f1
 have f2:=a.f2
 have hn:0≤n:=by omega
 have d:decide (B-S<n)=true:=by simpa using h
 go_enter Tryz.func63,Tryz.ntmps63
 go_wp2
 go_quiet (fail)
 go_wp2
 go_ret
 exact ⟨rfl,At.set2 (a.drewN _) true,(Only.drewN _ _ _).setCell _⟩
theorem zop (b:Nat) (B S n:Int) (w:World) (a:At w 41 b B S false) (h0:0≤S) (h1:S≤B) (h2:B≤9223372036854775807) (h:n≤B-S) :
  Calls Tryz.prog 63 #[.pointer (some ⟨b,0,none⟩),.int .i64 n] w (zdE 41 b B S n false w):=by
 have E:=zpD (B:=B) (S:=S) (n:=n) h
 unfold zdE
 rw [E.1,E.2]
 clear E
 have c0:=a.c0
 have c1:=a.c1
 have c2:=a.c2
 have f1:=a.f1
 have f2:=a.f2
 by_cases hn:n<0
 ·have d:decide (B-S<0)=false:=by simp;omega
  rw [show S+max n 0=S by omega]
  go_enter Tryz.func63,Tryz.ntmps63
  go_wp2
  go_quiet (fail)
  go_wp2
  go_ret
  exact ⟨rfl,At.set1 (a.drewN _) _,(Only.drewN _ _ _).setCell _⟩
 ·have d:decide (B-S<n)=false:=by simp;omega
  rw [show S+max n 0=S+n by omega]
  go_enter Tryz.func63,Tryz.ntmps63
  go_wp2
  go_quiet (fail)
  go_wp2
  go_ret
  exact ⟨rfl,At.set1 (a.drewN _) _,(Only.drewN _ _ _).setCell _⟩
theorem zpH (b:Nat) (B S n:Int) (o:Bool) (w:World) (a:At w 72 b B S o) (h0:0≤S) (h1:S≤B) (h2:B≤9223372036854775807) :
  Calls Tryz.prog 59 #[.pointer (some ⟨b,0,none⟩),.int .i64 n] w (zdE 72 b B S n o w):=by
 cases o with
 | true=>exact zpE b B S n w a
 | false=>
  by_cases h:n≤B-S
  ·exact zpF b B S n w a h0 h1 h2 h
  ·exact zrw b B S n w a h0 h1 h2 (by omega)
theorem zoq (b:Nat) (B S n:Int) (o:Bool) (w:World) (a:At w 41 b B S o) (h0:0≤S) (h1:S≤B) (h2:B≤9223372036854775807) :
  Calls Tryz.prog 63 #[.pointer (some ⟨b,0,none⟩),.int .i64 n] w (zdE 41 b B S n o w):=by
 cases o with
 | true=>exact zoo b B S n w a
 | false=>
  by_cases h:n≤B-S
  ·exact zop b B S n w a h0 h1 h2 h
  ·exact zpG b B S n w a h0 h1 h2 (by omega)
theorem zpI (n:Int) (w:World):Calls Tryz.prog 59 #[.pointer none,.int .i64 n] w fun e w'=>e=.returned (.bool true)∧w=w':=by
 go_enter Tryz.func59,Tryz.ntmps59
 go_wp2
 go_ret
 exact ⟨rfl,rfl⟩
theorem zpJ (b:Nat) (B S:Int) (o:Bool) (w:World) (a:At w 72 b B S o):Calls Tryz.prog 17 #[.pointer (some ⟨b,0,none⟩)] w fun e w'=>e=.returned (.int .i64 S)∧w=w':=by
 have c0:=a.c0
 have c1:=a.c1
 have c2:=a.c2
 have f1:=a.f1
 have f2:=a.f2
 go_enter Tryz.func17,Tryz.ntmps17
 go_wp2
 go_ret
 exact ⟨rfl,rfl⟩
theorem zsS (b:Nat) (B S:Int) (o:Bool) (w:World) (a:At w 72 b B S o):Calls Tryz.prog 23 #[.pointer (some ⟨b,0,none⟩)] w fun e w'=>e=.returned (.bool o)∧w=w':=by
 have c0:=a.c0
 have c1:=a.c1
 have c2:=a.c2
 have f1:=a.f1
 have f2:=a.f2
 go_enter Tryz.func23,Tryz.ntmps23
 go_wp2
 go_ret
 exact ⟨rfl,rfl⟩
def zt9 (T:TypeId) (B:Int) (w:World) (e:Ending) (w':World):Prop:=
 e=.returned (.pointer (some ⟨w.heap.size,0,none⟩))∧At w' T w.heap.size (max B 0) 0 false∧Below w.heap.size w w'∧w'.heap.size=w.heap.size+1
theorem znw (w:World) (B:Int) (t:TypeId):At (w.alloc (.cells #[.int .i64 B,.int .i64 0,.bool false] t)) t w.heap.size B 0 false:=Lies.new w t [.int .i64 B,.int .i64 0,.bool false]
theorem zsT (B:Int) (w:World):Calls Tryz.prog 11 #[.int .i64 B] w (zt9 72 B w):=by
 by_cases h:B<0
 ·unfold zt9
  rw [show max B 0=0 by omega]
  go_enter Tryz.func11,Tryz.ntmps11
  go_wp2
  go_ret
  exact ⟨rfl,znw _ _ _,(Below.refl _ _).alloc (Nat.le_refl _) _,by simp⟩
 ·unfold zt9
  rw [show max B 0=B by omega]
  go_enter Tryz.func11,Tryz.ntmps11
  go_wp2
  go_ret
  exact ⟨rfl,znw _ _ _,(Below.refl _ _).alloc (Nat.le_refl _) _,by simp⟩
theorem znx (B:Int) (w:World):Calls Tryz.prog 12 #[.int .i64 B] w (zt9 41 B w):=by
 by_cases h:B<0
 ·unfold zt9
  rw [show max B 0=0 by omega]
  go_enter Tryz.func12,Tryz.ntmps12
  go_wp2
  go_ret
  exact ⟨rfl,znw _ _ _,(Below.refl _ _).alloc (Nat.le_refl _) _,by simp⟩
 ·unfold zt9
  rw [show max B 0=B by omega]
  go_enter Tryz.func12,Tryz.ntmps12
  go_wp2
  go_ret
  exact ⟨rfl,znw _ _ _,(Below.refl _ _).alloc (Nat.le_refl _) _,by simp⟩
end Go.Proofs.YtmnkjekjknhhjaaGreatDoor

import Derived.Test.YtmnkjekjknhhjaaGreatDoorDe
import Derived.Test.YtmnkjekjknhhjaaGreatDoorCd
import Derived.Test.YtmnkjekjknhhjaaGreatDoorEg
namespace Go.Proofs.YtmnkjekjknhhjaaGreatDoor
open Go.ChangeShapes Go.WideShapes Go.ChangeAt Go.RowKit
set_option maxRecDepth 100000 in
theorem zhT {w:World} {a:Option Addr} {len cap:Nat} {zs:List Int}
  (h:(a=none∧len=0∧cap=0∧zs=[])∨
   ∃ x,a=some x∧len≤cap∧cap≤maxLen∧zs.length=cap∧(∀ i,i<zs.length→w.cell? (x.add i)=some (.int .i64 (zs.getD i 0)))∧∀ n∈zs,(Lit.int .i64 n).wf=true) :
  Came w a len cap zs:=by
 obtain ⟨h1,h2⟩:=zq7 h
 rcases h with ⟨rfl,rfl,rfl,rfl⟩ | ⟨x,rfl,hl,hm,hz,_,_⟩
 ·exact ⟨h1,fun _=>⟨rfl,rfl⟩,Nat.le_refl _,Nat.le_refl _,h2⟩
 ·exact ⟨h1,(fun e=>nomatch e),hl,by omega,h2⟩
end Go.Proofs.YtmnkjekjknhhjaaGreatDoor
namespace Go.Proofs.YtmnkjekjknhhjaaGreatDoor
open Go.ChangeShapes Go.WideShapes Go.ChangeAt Go.RowKit
end Go.Proofs.YtmnkjekjknhhjaaGreatDoor

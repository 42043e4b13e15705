import Derived.Test.YtmnkjekjknhhjaaGreatDoorC
namespace Go.Proofs.YtmnkjekjknhhjaaGreatDoor
open Go.ChangeShapes Go.WideShapes Go.ChangeAt Go.RowKit
set_option maxRecDepth 100000 in
theorem zuO (a:Option Addr) (len cap:Nat) (zs:List Int) (w:World) (hlen:len≤9223372036854775807) (hn:a=none→len=0∧cap=0) (hcap:len≤cap) (hz:len≤zs.length) (HR:Hid (∀ k,k<len→RowAt w a zs k)) :
  Calls Tryz.prog 14 #[.slice a len cap,.int .i64 5] w (zc4 (zs.take (min len 5)) w):=by
 have hlt:(zs.take (min len 5)).length=min len 5:=by rw [List.length_take];omega
 have HL:=dq hlt
 clear hlt
 by_cases h0:len=0
 ·subst h0
  have e:zs.take (min 0 5)=[]:=by simp
  rw [e]
  clear HL HR e
  cases a with
  | none=>
   obtain rfl:=(hn rfl).2
   have C:=zm5 none 0 [] w (Bag.nil w) (by simp)
   go_enter Tryz.func14,Tryz.ntmps14
   go_wp2_with (fail)
   refine C.mono ?_
   rintro e w' ⟨a',c',rfl,r,f,bel⟩
   go_wp2
   go_ret
   exact ⟨a',c',rfl,r,f,bel⟩
  | some ad=>
   have C:=zjY ad cap [] w (by simp [zhx]) (by simp)
   go_enter Tryz.func14,Tryz.ntmps14
   go_wp2_with (fail)
   refine C.mono ?_
   rintro e w' ⟨a',c',rfl,r,f,bel⟩
   go_wp2
   go_ret
   exact ⟨a',c',rfl,r,f,bel⟩
 ·obtain ⟨b,off,rfl,_⟩:=HR.out 0 (by omega)
  have C:=zjY ⟨b,off,none⟩ cap (zs.take (min len 5)) w (by
   intro j u hj
   have hj':=(List.getElem?_eq_some_iff.1 hj).1
   rw [zaP,HL.out] at hj'
   obtain ⟨b',off',e,hc,_⟩:=HR.out j (by omega)
   injection e with e;injection e with e1 e2;subst e1;subst e2
   rw [Addr.add_lit,hc]
   rw [←hj]
   simp [zhx,List.getD,show j<zs.length by omega,show j<min len 5 by omega]) (by rw [HL.out];omega)
  rw [HL.out] at C
  clear HR
  have h1:min len 5≤cap:=by omega
  by_cases h5:len≤5
  ·have e5:min len 5=len:=by omega
   rw [e5] at C ⊢
   clear e5 HL
   generalize zs.take len=ys at C ⊢
   go_enter Tryz.func14,Tryz.ntmps14
   go_wp2_with (fail)
   refine C.mono ?_
   rintro e w' ⟨a',c',rfl,r,f,bel⟩
   go_wp2
   go_ret
   exact ⟨a',c',rfl,r,f,bel⟩
  ·have e5:min len 5=5:=by omega
   rw [e5] at C ⊢
   clear e5 HL
   generalize zs.take 5=ys at C ⊢
   go_enter Tryz.func14,Tryz.ntmps14
   go_wp2_with (fail)
   refine C.mono ?_
   rintro e w' ⟨a',c',rfl,r,f,bel⟩
   go_wp2
   go_ret
   exact ⟨a',c',rfl,r,f,bel⟩
end Go.Proofs.YtmnkjekjknhhjaaGreatDoor

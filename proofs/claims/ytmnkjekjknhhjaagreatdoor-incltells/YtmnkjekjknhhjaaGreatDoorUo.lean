import Derived.Test.YtmnkjekjknhhjaaGreatDoorTm
import Derived.WalkSmall
namespace Go.Proofs.YtmnkjekjknhhjaaGreatDoor
open Go.ChangeShapes Go.WideShapes Go.ChangeAt Go.RowKit
end Go.Proofs.YtmnkjekjknhhjaaGreatDoor
namespace Go.Proofs.YtmnkjekjknhhjaaGreatDoor
open Go.ChangeShapes Go.WideShapes Go.ChangeAt Go.RowKit
def zeB (T:TypeId) (mp:Option Addr) (r:List It×Int×Mr) (w:World) (e:Ending) (w':World):Prop:=
 ∃ a c,e=.returned (.tuple #[.slice a r.1.length c,.int .i64 r.2.1])∧Its w' a c r.1∧From w.heap.size a∧MrAt w' T mp r.2.2∧MK mp w w'
theorem zdU {s:List Lin} (hs:Thin s):startL s=zcR s s.length:=by
 unfold startL zcR
 rw [if_pos (zan.2 hs.rise)]
theorem zmO {s:List Lin} (hs:Thin s):zaq s (startL s)=true:=by
 rw [zdU hs]
 have hok:=zir hs (Nat.le_refl s.length)
 unfold zaq
 rw [Bool.and_eq_true,Bool.and_eq_true]
 refine ⟨⟨zan.2 hs.rise,?_⟩,zdS.2 ⟨fun x hx=>(hok x hx).small.right,?_⟩⟩
 ·rw [List.all_eq_true]
  intro x hx
  rw [Bool.and_eq_true,decide_eq_true_eq,decide_eq_true_eq]
  exact ⟨(hok x hx).lo,(hok x hx).hi⟩
 ·unfold zcR at hok ⊢
  refine List.pairwise_map.2 (List.Pairwise.imp_of_mem (fun {i j} hi hj hij=>?_) List.pairwise_lt_range)
  exact (zii (hok _ (List.mem_map.2 ⟨i,hi,rfl⟩)).small.right (hok _ (List.mem_map.2 ⟨j,hj,rfl⟩)).small.right).2 (.inl (by show (i:Int)<(j:Int);omega))
theorem zoK {s:List Lin} {k:Nat} (hk:k<s.length):zab s k∈s:=by
 have e:zab s k=s[k]:=by simp [zab,List.getD,hk]
 rw [e]
 exact List.getElem_mem hk
end Go.Proofs.YtmnkjekjknhhjaaGreatDoor

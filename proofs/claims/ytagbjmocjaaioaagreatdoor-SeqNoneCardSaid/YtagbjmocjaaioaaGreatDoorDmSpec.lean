/- Trees of elements as plain lists: what package dom makes of nodes (chapter 9). -/
import Derived.Test.YtagbjmocjaaioaaGreatDoorDcLow
namespace Go.Proofs.YtagbjmocjaaioaaGreatDoor.Dm
open Go
structure Nd where
 parent:Int
 tag:ByteArray
 id:ByteArray
 cls:List ByteArray
 ats:List (ByteArray × ByteArray)
def lowS (s:ByteArray):ByteArray:=⟨(Lw.low s.data.toList).toArray⟩
def lowA (a:ByteArray × ByteArray):ByteArray × ByteArray:=(lowS a.1,a.2)
def lowN (n:Nd):Nd:=⟨n.parent,lowS n.tag,n.id,n.cls,n.ats.map lowA⟩
theorem lowS_size (s:ByteArray):(lowS s).size = s.size:=by
 show ((Lw.low s.data.toList).toArray).size = s.data.size
 rw [List.size_toArray,Lw.low_length,Array.length_toList]
structure El where
 nd:Nd
 depth:Nat
 place:Nat
 ch:List Nat
def zeroNd:Nd:=⟨0,⟨#[]⟩,⟨#[]⟩,[],[]⟩
def zeroEl:El:=⟨zeroNd,0,0,[]⟩
def growV (es:List El) (p:Nat) (q:El) (c:Nat):List El:=es.set p { q with ch:=q.ch ++ [c] }
def addV (es:List El) (n:Nd):Except Int (List El):=
 if es.length = 0 then (if n.parent = -1 then .ok [⟨lowN n,0,1,[]⟩] else .error 10)
 else if 0 ≤ n.parent ∧ n.parent < es.length then
  (if (es.getD n.parent.toNat zeroEl).depth = 256 then .error 11
  else .ok (growV es n.parent.toNat (es.getD n.parent.toNat zeroEl) es.length ++ [⟨lowN n,(es.getD n.parent.toNat zeroEl).depth + 1,(es.getD n.parent.toNat zeroEl).ch.length + 1,[]⟩]))
 else .error 10
def newF:List El → List Nd → Except Int (List El)
 | es,[] => .ok es
 | es,n :: l => match addV es n with
  | .ok es' => newF es' l
  | .error x => .error x
def newV (l:List Nd):Except Int (List El):=if 4096 < l.length then .error 3 else newF [] l
/-! ### what trees keep -/
theorem growV_length (es:List El) (p:Nat) (q:El) (c:Nat):(growV es p q c).length = es.length:=by simp [growV]
theorem addV_length {es es':List El} {n:Nd} (h:addV es n = .ok es'):es'.length = es.length + 1:=by
 unfold addV at h
 split at h
 ·rename_i h0
  split at h
  ·cases h;simp [h0]
  ·cases h
 ·split at h
  ·split at h
   ·cases h
   ·cases h;simp [growV_length]
  ·cases h
theorem newF_length:∀ (l:List Nd) (es es':List El),newF es l = .ok es' → es'.length = es.length + l.length
 | [],es,es',h => by cases h;rfl
 | n :: l,es,es',h => by
  unfold newF at h
  cases ha:addV es n with
  | error x => rw [ha] at h;cases h
  | ok e2 =>
   rw [ha] at h
   have h1:=newF_length l e2 es' h
   have h2:=addV_length ha
   rw [h1,h2,List.length_cons]
   omega
end Go.Proofs.YtagbjmocjaaioaaGreatDoor.Dm

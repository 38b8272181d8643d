/- Selectors as trees, in plain words. -/
import Derived.Test.YtiaomdlfccpcmaaProg
namespace Go.Proofs.Ytiaomdlfccpcmaa.Tre
open Go

structure At where
  name : ByteArray
  op : Int
  text : ByteArray
mutual
inductive Ps where
  | mk (kind a b : Int) (list : List (List (Int × Cp)))
inductive Cp where
  | mk (tag : ByteArray) (ids classes : List ByteArray) (attrs : List At) (pss : List Ps)
end
abbrev Pt := Int × Cp
abbrev Sel := List Pt
def Ps.kind : Ps → Int | .mk k _ _ _ => k
def Ps.a : Ps → Int | .mk _ a _ _ => a
def Ps.b : Ps → Int | .mk _ _ b _ => b
def Ps.list : Ps → List Sel | .mk _ _ _ l => l
def Cp.tag : Cp → ByteArray | .mk t _ _ _ _ => t
def Cp.ids : Cp → List ByteArray | .mk _ i _ _ _ => i
def Cp.classes : Cp → List ByteArray | .mk _ _ k _ _ => k
def Cp.attrs : Cp → List At | .mk _ _ _ a _ => a
def Cp.pss : Cp → List Ps | .mk _ _ _ _ p => p
def Cp.addId : Cp → ByteArray → Cp | .mk t i k a p, x => .mk t (i ++ [x]) k a p
def Cp.addClass : Cp → ByteArray → Cp | .mk t i k a p, x => .mk t i (k ++ [x]) a p
def Cp.addAttr : Cp → At → Cp | .mk t i k a p, x => .mk t i k (a ++ [x]) p
def Cp.addPs : Cp → Ps → Cp | .mk t i k a p, x => .mk t i k a (p ++ [x])

end Go.Proofs.Ytiaomdlfccpcmaa.Tre

/- Matching in plain words: selectors as trees, and of which elements of a tree they are (chapter 10). -/
import Derived.Test.YtagbjmocjaaioaaGreatDoorDmTell
import Derived.Test.YtagbjmocjaaioaaGreatDoorTre
namespace Go.Proofs.YtagbjmocjaaioaaGreatDoor.Mt
open Go.Proofs.YtagbjmocjaaioaaGreatDoor.Tre
open Go Dm
def zeroCp:Cp:=.mk ⟨#[]⟩ [] [] [] []
def partAt (s:Sel) (k:Nat):Pt:=s.getD k (0,zeroCp)
theorem partAt_eq {s:Sel} {k:Nat} {p:Pt} (h:s[k]? = some p):partAt s k = p:=by simp [partAt,List.getD,h]
/-! ### names -/
def bts (s:ByteArray):List UInt8:=s.data.toList
def white (c:UInt8):Bool:=c == 9 || c == 10 || c == 12 || c == 13 || c == 32
def wordsV:List UInt8 → List UInt8 → List (List UInt8)
 | acc,[] => if acc = [] then [] else [acc]
 | acc,c :: l => if white c then (if acc = [] then wordsV [] l else acc :: wordsV [] l) else wordsV (acc ++ [c]) l
def dashV (s t:List UInt8):Bool:=decide (s = t) || (t ++ [45]).isPrefixOf s
def infixV (t:List UInt8):List UInt8 → Bool
 | [] => t.isPrefixOf []
 | c :: l => t.isPrefixOf (c :: l) || infixV t l
def textV (s:ByteArray) (a:At):Bool:=
 if a.op = 0 then true else if a.op = 1 then decide (s = a.text)
 else if a.op = 2 then (wordsV [] (bts s)).contains (bts a.text)
 else if a.op = 3 then dashV (bts s) (bts a.text)
 else if a.op = 4 then decide (bts a.text ≠ []) && (bts a.text).isPrefixOf (bts s)
 else if a.op = 5 then decide (bts a.text ≠ []) && (bts a.text).isSuffixOf (bts s)
 else if a.op = 6 then decide (bts a.text ≠ []) && infixV (bts a.text) (bts s)
 else false
def attrV (n:Nd) (a:At):Bool:=match n.ats.find? (fun p => decide (p.1 = a.name)) with
 | some p => textV p.2 a
 | none => false
def namedV (n:Nd) (c:Cp):Bool:=
 ((decide (c.tag = ⟨#[]⟩) || decide (c.tag = n.tag)) && c.ids.all (fun i => decide (i ≠ ⟨#[]⟩) && decide (i = n.id))) && c.classes.all (fun k => n.cls.any (fun s => decide (s = k))) && c.attrs.all (attrV n)
/-! ### places -/
def inRowV (p a b:Int):Bool:=if 0 < a then decide (b ≤ p ∧ (p - b) % a = 0) else if a < 0 then decide (p ≤ b ∧ (b - p) % (-a) = 0) else decide (p = b)
def lastV (es:List El) (e:Int):Bool:=decide (parentV es e = -1) || decide (placeV es e = (childrenV es (parentV es e)).length)
def firstV (es:List El) (e:Int):Bool:=decide (placeV es e = 1)
def placedV (es:List El) (e:Int) (p:Ps):Bool:=
 if p.kind = 1 then decide (parentV es e = -1) else if p.kind = 2 then firstV es e else if p.kind = 3 then lastV es e
 else if p.kind = 4 then firstV es e && lastV es e else if p.kind = 5 then decide ((childrenV es e).length = 0)
 else if p.kind = 6 then inRowV (placeV es e) p.a p.b else false
/-! ### compounds and selectors, given what lists are -/
abbrev Any:=List Sel → Nat → Bool
def pseudoV (Q:Any) (es:List El) (p:Ps) (e:Nat):Bool:=if p.kind = 7 then !(Q p.list e) else if p.kind = 8 then Q p.list e else placedV es e p
def compV (Q:Any) (es:List El) (c:Cp) (e:Nat):Bool:=namedV (nodeV es e) c && c.pss.all (fun p => pseudoV Q es p e)
def nextV (es:List El) (comb:Int) (x:Int):Int:=if comb = 1 ∨ comb = 2 then parentV es x else if comb = 3 ∨ comb = 4 then beforeV es x else -1
def farV (comb:Int):Bool:=decide (comb = 1 ∨ comb = 4)
def chain (es:List El) (comb:Int):Nat → Int → List Nat
 | 0,_ => []
 | f + 1,x => if nextV es comb x = -1 then [] else (nextV es comb x).toNat :: (if farV comb then chain es comb f (nextV es comb x) else [])
def aheadV (es:List El) (comb:Int) (e:Nat):List Nat:=chain es comb (e + 1) e
def uptoV (Q:Any) (es:List El) (s:Sel):Nat → Nat → Bool
 | 0,e => compV Q es (partAt s 0).2 e
 | k + 1,e => compV Q es (partAt s (k + 1)).2 e && (aheadV es (partAt s (k + 1)).1 e).any (uptoV Q es s k)
def selV (Q:Any) (es:List El) (s:Sel) (e:Nat):Bool:=decide (0 < s.length) && uptoV Q es s (s.length - 1) e
def anyV (es:List El):Nat → Any
 | 0,_,_ => false
 | d + 1,l,e => l.any (fun s => selV (anyV es d) es s e)
/-! ### bounds -/
def listed (p:Ps):Bool:=decide (p.kind = 7) || decide (p.kind = 8)
def listsV (s:Sel):List (List Sel):=s.flatMap (fun p => (p.2.pss.filter listed).map Ps.list)
def fitsV:Nat → Sel → Bool
 | 0,s => decide (s.length ≤ 50) && (listsV s).all (fun _ => false)
 | d + 1,s => decide (s.length ≤ 50) && (listsV s).all (fun l => l.all (fitsV d))
def selectorV (es:List El) (e:Int) (s:Sel):Bool:=decide (0 ≤ e ∧ e < es.length) && (fitsV 8 s && selV (anyV es 8) es s e.toNat)
end Go.Proofs.YtagbjmocjaaioaaGreatDoor.Mt

/- A law of the walk: append(dst, src...) onto a row that the call owns, from whatever slice, nil too. -/
import Derived.Test.YtcmmdojlhfmddaaGreatEnc
import Derived.OwnWalk
namespace Go.Proofs.YtcmmdojlhfmddaaGreat
open Go Go.RowKit
theorem wpList_append_src {P:Program} (w:World) {ops:Array Oper} {rest:List Oper} {o:Oper} {a:Act} {Q:Exit → Act → World → Prop}
  (hg:o.guard = none) (s x:Operand) (t:TypeId) (hop:o.op = Op.call { callee:=Callee.builtin Builtin.append,args:=#[s,x],argTypes:=#[t,t] })
  (base:Nat) (e:TypeId) (i:TypeInfo) (z:Value) (size bytes:Nat) (h1:P.underlying t = some (.slice e)) (h2:P.info? e = some i) (h3:i.zero = some z) (h4:i.size = size) (h5:i.bytes = bytes) (h6:z.cells.size = size) (h7:0 < size)
  (v:Value) (k:Nat) (xs:List Value) (hs:a.eval s = v) (hown:w.ownsRow base e size v k xs) (xv:Value) (m:Nat) (news:List Value) (hx:a.eval x = xv) (hn:news.length = m * size)
  (hsrc:(xv = .slice none 0 0 ∧ m = 0) ∨ ∃ ad c,xv = .slice (some ad) m c ∧ ∀ j u,news[j]? = some u → w.cell? (ad.add j) = some u)
  (h1c:∀ u ∈ news,u.oneCell' = true) (b1:k + m ≤ maxLen) (b2:(k + m) * bytes ≤ 140737488355328) (b3:base ≤ w.heap.size)
  (hK:∀ v' w',w'.ownsRow base e size v' (k + m) (xs ++ news) → w.grownBy w' v.ownBlock → wpList P ops Q rest (a.put o.dst v') w') :
  wpList P ops Q (o :: rest) a w:=by
 rcases hsrc with ⟨rfl,rfl⟩ | ⟨ad,c,rfl,hc⟩
 ·have hnews:news = []:=List.eq_nil_of_length_eq_zero (by simpa using hn)
  subst hnews
  refine wpList_plain hg fun K hK' => ?_
  have hrun:=run_append_owned_none (P:=P) w base t o.type e i size h1 h2 _ k xs hown
  unfold Oper.wp
  simp [execOp,hop,resolve,invoke,builtin,hs,hx,hrun,Result.andThen]
  exact hK' _ _ (by simpa using hK v w (by simpa using hown) (World.grownBy.refl _ _))
 ·exact wpList_append_own w hg s x t hop base e i z size bytes h1 h2 h3 h4 h5 h6 h7 v k xs hs hown ad m c news hx hn hc h1c b1 b2 b3 (fun v' w' a1 a2 _ => hK v' w' a1 a2)
theorem addr_add (bk off j:Nat):(⟨bk,off,none⟩:Addr).add j = ⟨bk,off + j,none⟩:=by
 cases j with
 | zero => rfl
 | succ j => simp [Addr.add]
end Go.Proofs.YtcmmdojlhfmddaaGreat

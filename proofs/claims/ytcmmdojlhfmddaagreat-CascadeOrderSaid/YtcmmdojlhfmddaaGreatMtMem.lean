/- Matching in plain words: selectors as trees, and of which elements of a tree they are (chapter 10). -/
import Derived.Test.YtcmmdojlhfmddaaGreatDmTell
import Derived.Test.YtcmmdojlhfmddaaGreatTre
namespace Go.Proofs.YtcmmdojlhfmddaaGreat.Mt
open Go.Proofs.YtcmmdojlhfmddaaGreat.Tre
open Go Dm
def zeroCp:Cp:=.mk ⟨#[]⟩ [] [] [] []
def partAt (s:Sel) (k:Nat):Pt:=s.getD k (0,zeroCp)
theorem partAt_eq {s:Sel} {k:Nat} {p:Pt} (h:s[k]? = some p):partAt s k = p:=by simp [partAt,List.getD,h]
/-! ### names -/
def bts (s:ByteArray):List UInt8:=s.data.toList
def white (c:UInt8):Bool:=c == 9 || c == 10 || c == 12 || c == 13 || c == 32
def wordsV:List UInt8 → List UInt8 → List (List UInt8)
 | acc,[] => if acc = [] then [] else [acc]
 | acc,c :: l => if white c then (if acc = [] then wordsV [] l else acc :: wordsV [] l) else wordsV (acc ++ [c]) l
def dashV (s t:List UInt8):Bool:=decide (s = t) || (t ++ [45]).isPrefixOf s
def infixV (t:List UInt8):List UInt8 → Bool
 | [] => t.isPrefixOf []
 | c :: l => t.isPrefixOf (c :: l) || infixV t l
def textV (s:ByteArray) (a:At):Bool:=
 if a.op = 0 then true else if a.op = 1 then decide (s = a.text)
 else if a.op = 2 then (wordsV [] (bts s)).contains (bts a.text)
 else if a.op = 3 then dashV (bts s) (bts a.text)
 else if a.op = 4 then decide (bts a.text ≠ []) && (bts a.text).isPrefixOf (bts s)
 else if a.op = 5 then decide (bts a.text ≠ []) && (bts a.text).isSuffixOf (bts s)
 else if a.op = 6 then decide (bts a.text ≠ []) && infixV (bts a.text) (bts s)
 else false
def attrV (n:Nd) (a:At):Bool:=match n.ats.find? (fun p => decide (p.1 = a.name)) with
 | some p => textV p.2 a
 | none => false
def namedV (n:Nd) (c:Cp):Bool:=
 ((decide (c.tag = ⟨#[]⟩) || decide (c.tag = n.tag)) && c.ids.all (fun i => decide (i ≠ ⟨#[]⟩) && decide (i = n.id))) && c.classes.all (fun k => n.cls.any (fun s => decide (s = k))) && c.attrs.all (attrV n)
/-! ### places -/
def inRowV (p a b:Int):Bool:=if 0 < a then decide (b ≤ p ∧ (p - b) % a = 0) else if a < 0 then decide (p ≤ b ∧ (b - p) % (-a) = 0) else decide (p = b)
def lastV (es:List El) (e:Int):Bool:=decide (parentV es e = -1) || decide (placeV es e = (childrenV es (parentV es e)).length)
def firstV (es:List El) (e:Int):Bool:=decide (placeV es e = 1)
def placedV (es:List El) (e:Int) (p:Ps):Bool:=
 if p.kind = 1 then decide (parentV es e = -1) else if p.kind = 2 then firstV es e else if p.kind = 3 then lastV es e
 else if p.kind = 4 then firstV es e && lastV es e else if p.kind = 5 then decide ((childrenV es e).length = 0)
 else if p.kind = 6 then inRowV (placeV es e) p.a p.b else false
/-! ### compounds and selectors, given what lists are -/
abbrev Any:=List Sel → Nat → Bool
def pseudoV (Q:Any) (es:List El) (p:Ps) (e:Nat):Bool:=if p.kind = 7 then !(Q p.list e) else if p.kind = 8 then Q p.list e else placedV es e p
def compV (Q:Any) (es:List El) (c:Cp) (e:Nat):Bool:=namedV (nodeV es e) c && c.pss.all (fun p => pseudoV Q es p e)
def nextV (es:List El) (comb:Int) (x:Int):Int:=if comb = 1 ∨ comb = 2 then parentV es x else if comb = 3 ∨ comb = 4 then beforeV es x else -1
def farV (comb:Int):Bool:=decide (comb = 1 ∨ comb = 4)
def chain (es:List El) (comb:Int):Nat → Int → List Nat
 | 0,_ => []
 | f + 1,x => if nextV es comb x = -1 then [] else (nextV es comb x).toNat :: (if farV comb then chain es comb f (nextV es comb x) else [])
def aheadV (es:List El) (comb:Int) (e:Nat):List Nat:=chain es comb (e + 1) e
def uptoV (Q:Any) (es:List El) (s:Sel):Nat → Nat → Bool
 | 0,e => compV Q es (partAt s 0).2 e
 | k + 1,e => compV Q es (partAt s (k + 1)).2 e && (aheadV es (partAt s (k + 1)).1 e).any (uptoV Q es s k)
def selV (Q:Any) (es:List El) (s:Sel) (e:Nat):Bool:=decide (0 < s.length) && uptoV Q es s (s.length - 1) e
def anyV (es:List El):Nat → Any
 | 0,_,_ => false
 | d + 1,l,e => l.any (fun s => selV (anyV es d) es s e)
/-! ### bounds -/
def listed (p:Ps):Bool:=decide (p.kind = 7) || decide (p.kind = 8)
def listsV (s:Sel):List (List Sel):=s.flatMap (fun p => (p.2.pss.filter listed).map Ps.list)
def fitsV:Nat → Sel → Bool
 | 0,s => decide (s.length ≤ 50) && (listsV s).all (fun _ => false)
 | d + 1,s => decide (s.length ≤ 50) && (listsV s).all (fun l => l.all (fitsV d))
def selectorV (es:List El) (e:Int) (s:Sel):Bool:=decide (0 ≤ e ∧ e < es.length) && (fitsV 8 s && selV (anyV es 8) es s e.toNat)
end Go.Proofs.YtcmmdojlhfmddaaGreat.Mt

/- Selectors in memory. -/
namespace Go.Proofs.YtcmmdojlhfmddaaGreat.Mt
open Go.Proofs.YtcmmdojlhfmddaaGreat.Tre
open Go Go.RowKit Dm
/-! ### rows of things -/
def RowT {α:Type} (sz:Nat) (T:List Value → α → Prop) (n:Nat) (W:World) (v:Value) (l:List α):Prop:=
 (l = [] ∧ ∃ p c,v = .slice p 0 c) ∨ ∃ b off cap,v = .slice (some ⟨b,off,none⟩) l.length cap ∧ l.length ≤ cap ∧ cap ≤ maxLen ∧ b < n ∧
  ∀ j x,l[j]? = some x → ∃ c,c.length = sz ∧ T c x ∧ ∀ i u,c[i]? = some u → W.cell? ⟨b,off + j * sz + i,none⟩ = some u
theorem RowT.below {α:Type} {sz:Nat} {T T':List Value → α → Prop} {n:Nat} {X Y:World} {v:Value} {l:List α} (h:RowT sz T n X v l) (hb:Below n X Y) (hT:∀ c x,T c x → T' c x):RowT sz T' n Y v l:=by
 rcases h with h | ⟨b,off,cap,rfl,h1,h2,h3,h4⟩
 ·exact .inl h
 ·refine .inr ⟨b,off,cap,rfl,h1,h2,h3,fun j x hx => ?_⟩
  obtain ⟨c,hc,ht,hcell⟩:=h4 j x hx
  exact ⟨c,hc,hT _ _ ht,fun i u hu => (hb.cell (p:=⟨b,_,none⟩) h3).trans (hcell i u hu)⟩
theorem RowT.mono {α:Type} {sz:Nat} {T T':List Value → α → Prop} {n m:Nat} {X:World} {v:Value} {l:List α} (h:RowT sz T n X v l) (hn:n ≤ m) (hT:∀ c x,T c x → T' c x):RowT sz T' m X v l:=by
 rcases h with h | ⟨b,off,cap,rfl,h1,h2,h3,h4⟩
 ·exact .inl h
 ·refine .inr ⟨b,off,cap,rfl,h1,h2,by omega,fun j x hx => ?_⟩
  obtain ⟨c,hc,ht,hcell⟩:=h4 j x hx
  exact ⟨c,hc,hT _ _ ht,hcell⟩
theorem RowT.len {α:Type} {sz:Nat} {T:List Value → α → Prop} {n:Nat} {X:World} {v:Value} {l:List α} (h:RowT sz T n X v l):∃ p cap,v = .slice p l.length cap:=by
 rcases h with ⟨rfl,p,c,rfl⟩ | ⟨b,off,cap,rfl,_⟩
 ·exact ⟨p,c,rfl⟩
 ·exact ⟨_,_,rfl⟩
theorem RowT.short {α:Type} {sz:Nat} {T:List Value → α → Prop} {n:Nat} {X:World} {v:Value} {l:List α} (h:RowT sz T n X v l):l.length ≤ maxLen:=by
 rcases h with ⟨rfl,_⟩ | ⟨b,off,cap,_,h1,h2,_⟩
 ·exact Nat.zero_le _
 ·omega
theorem RowT.get {α:Type} {sz:Nat} {T:List Value → α → Prop} {n:Nat} {X:World} {p:Option Addr} {m cap:Nat} {l:List α} (h:RowT sz T n X (.slice p m cap) l) {k:Nat} {x:α} (hk:l[k]? = some x) :
  ∃ b off c,p = some ⟨b,off,none⟩ ∧ b < n ∧ l.length ≤ cap ∧ cap ≤ maxLen ∧ c.length = sz ∧ T c x ∧ ∀ i u,c[i]? = some u → X.cell? ⟨b,off + k * sz + i,none⟩ = some u:=by
 rcases h with ⟨rfl,_⟩ | ⟨b,off,c,e,h1,h2,hb,h⟩
 ·simp at hk
 ·cases e
  obtain ⟨c',hc,ht,hcell⟩:=h k x hk
  exact ⟨b,off,c',rfl,hb,h1,h2,hc,ht,hcell⟩
def SlR {α:Type} (sz:Nat) (f:α → List Value) (n:Nat) (W:World) (v:Value) (l:List α):Prop:=
 (l = [] ∧ ∃ p c,v = .slice p 0 c) ∨ ∃ bk off cap,v = .slice (some ⟨bk,off,none⟩) l.length cap ∧ l.length ≤ cap ∧ cap ≤ maxLen ∧ bk < n ∧ ∀ j x,l[j]? = some x → ∀ i u,(f x)[i]? = some u → W.cell? ⟨bk,off + j * sz + i,none⟩ = some u
theorem SlR.below {α:Type} {sz:Nat} {f:α → List Value} {n:Nat} {X Y:World} {v:Value} {l:List α} (h:SlR sz f n X v l) (hb:Below n X Y):SlR sz f n Y v l:=by
 rcases h with h | ⟨bk,off,cap,rfl,h1,h2,hbk,h⟩
 ·exact .inl h
 ·exact .inr ⟨bk,off,cap,rfl,h1,h2,hbk,fun j t hj i u hu => (hb.cell (p:=⟨bk,_,none⟩) hbk).trans (h j t hj i u hu)⟩
theorem SlR.mono {α:Type} {sz:Nat} {f:α → List Value} {n m:Nat} {X:World} {v:Value} {l:List α} (h:SlR sz f n X v l) (hn:n ≤ m):SlR sz f m X v l:=by
 rcases h with h | ⟨bk,off,cap,rfl,h1,h2,hbk,h⟩
 ·exact .inl h
 ·exact .inr ⟨bk,off,cap,rfl,h1,h2,by omega,h⟩
theorem SlR.len {α:Type} {sz:Nat} {f:α → List Value} {n:Nat} {X:World} {v:Value} {l:List α} (h:SlR sz f n X v l):∃ p cap,v = .slice p l.length cap:=by
 rcases h with ⟨rfl,p,c,rfl⟩ | ⟨bk,off,cap,rfl,_⟩
 ·exact ⟨_,_,rfl⟩
 ·exact ⟨_,_,rfl⟩
theorem SlR.short {α:Type} {sz:Nat} {f:α → List Value} {n:Nat} {X:World} {v:Value} {l:List α} (h:SlR sz f n X v l):l.length ≤ 9223372036854775807:=by
 rcases h with ⟨rfl,_⟩ | ⟨bk,off,cap,_,h1,h2,_⟩
 ·simp
 ·unfold maxLen at h2
  omega
theorem SlR.get {α:Type} {sz:Nat} {f:α → List Value} {n:Nat} {X:World} {p:Option Addr} {m cap:Nat} {l:List α} (h:SlR sz f n X (.slice p m cap) l) {k:Nat} {t:α} (hk:l[k]? = some t):∃ bk off,p = some ⟨bk,off,none⟩ ∧ bk < n ∧ l.length ≤ cap ∧ cap ≤ maxLen ∧ ∀ i u,(f t)[i]? = some u → X.cell? ⟨bk,off + k * sz + i,none⟩ = some u:=by
 rcases h with ⟨rfl,_⟩ | ⟨bk,off,c,e,h1,h2,hb,h⟩
 ·simp at hk
 ·cases e
  exact ⟨bk,off,rfl,hb,h1,h2,h k t hk⟩
abbrev StrsR (n:Nat) (W:World) (v:Value) (l:List ByteArray):Prop:=SlR 1 stCells n W v l
/-! ### selectors -/
def i64 (x:Int):Prop:=-9223372036854775808 ≤ x ∧ x ≤ 9223372036854775807
def atCells (a:At):List Value:=[.string a.name,.int .i64 a.op,.string a.text]
abbrev AttrsAt (n:Nat) (W:World) (v:Value) (l:List At):Prop:=SlR 3 atCells n W v l
def psCells (p:Ps) (x:Value):List Value:=[.int .i64 p.kind,.int .i64 p.a,.int .i64 p.b,x]
def PsT (Q:Value → List Sel → Prop) (c:List Value) (p:Ps):Prop:=∃ x,c = psCells p x ∧ Q x p.list ∧ i64 p.kind ∧ i64 p.a ∧ i64 p.b ∧ p.list.length ≤ 8796093022208
def AtOk (_:At):Prop:=True
def CpT (Q:Value → List Sel → Prop) (n:Nat) (W:World) (c:List Value) (q:Cp):Prop:=
 ∃ i k a p,c = [.string q.tag,i,k,a,p] ∧ StrsR n W i q.ids ∧ StrsR n W k q.classes ∧ AttrsAt n W a q.attrs ∧ RowT 4 (PsT Q) n W p q.pss ∧
  q.pss.length ≤ 1099511627776 ∧ ∀ x ∈ q.attrs,AtOk x
def PtT (Q:Value → List Sel → Prop) (n:Nat) (W:World) (c:List Value) (q:Pt):Prop:=∃ c',c = .int .i64 q.1 :: c' ∧ CpT Q n W c' q.2 ∧ i64 q.1
def PtsT (Q:Value → List Sel → Prop) (n:Nat) (W:World) (v:Value) (s:Sel):Prop:=RowT 6 (PtT Q n W) n W v s
def SelsAt:Nat → Nat → World → Value → List Sel → Prop
 | 0,_,_,v,l => l = [] ∧ ∃ p c,v = .slice p 0 c
 | d + 1,n,W,v,l => RowT 1 (fun c s => ∃ x,c = [x] ∧ PtsT (SelsAt d n W) n W x s) n W v l
abbrev PartsAt (d n:Nat) (W:World) (v:Value) (s:Sel):Prop:=PtsT (SelsAt d n W) n W v s
theorem CpT.below {Q Q':Value → List Sel → Prop} {n:Nat} {X Y:World} {c:List Value} {q:Cp} (h:CpT Q n X c q) (hb:Below n X Y) (hQ:∀ x l,Q x l → Q' x l):CpT Q' n Y c q:=by
 obtain ⟨i,k,a,p,h0,h1,h2,h3,h4,h5,h6⟩:=h
 exact ⟨i,k,a,p,h0,h1.below hb,h2.below hb,h3.below hb,h4.below hb (fun _ _ ⟨x,e,hx,r⟩ => ⟨x,e,hQ _ _ hx,r⟩),h5,h6⟩
theorem CpT.mono {Q Q':Value → List Sel → Prop} {n m:Nat} {X:World} {c:List Value} {q:Cp} (h:CpT Q n X c q) (hn:n ≤ m) (hQ:∀ x l,Q x l → Q' x l):CpT Q' m X c q:=by
 obtain ⟨i,k,a,p,h0,h1,h2,h3,h4,h5,h6⟩:=h
 exact ⟨i,k,a,p,h0,h1.mono hn,h2.mono hn,h3.mono hn,h4.mono hn (fun _ _ ⟨x,e,hx,r⟩ => ⟨x,e,hQ _ _ hx,r⟩),h5,h6⟩
theorem PtsT.below {Q Q':Value → List Sel → Prop} {n:Nat} {X Y:World} {v:Value} {s:Sel} (h:PtsT Q n X v s) (hb:Below n X Y) (hQ:∀ x l,Q x l → Q' x l):PtsT Q' n Y v s:=
 RowT.below h hb (fun _ _ ⟨c',e,hc,r⟩ => ⟨c',e,hc.below hb hQ,r⟩)
theorem PtsT.mono {Q Q':Value → List Sel → Prop} {n m:Nat} {X:World} {v:Value} {s:Sel} (h:PtsT Q n X v s) (hn:n ≤ m) (hQ:∀ x l,Q x l → Q' x l):PtsT Q' m X v s:=
 RowT.mono h hn (fun _ _ ⟨c',e,hc,r⟩ => ⟨c',e,hc.mono hn hQ,r⟩)
theorem SelsAt.below:∀ (d:Nat) {n:Nat} {X Y:World} {v:Value} {l:List Sel},SelsAt d n X v l → Below n X Y → SelsAt d n Y v l
 | 0,_,_,_,_,_,h,_ => h
 | d + 1,_,_,_,_,_,h,hb => RowT.below h hb (fun _ _ ⟨x,e,hx⟩ => ⟨x,e,hx.below hb (fun _ _ hq => SelsAt.below d hq hb)⟩)
theorem SelsAt.mono:∀ (d:Nat) {n m:Nat} {X:World} {v:Value} {l:List Sel},SelsAt d n X v l → n ≤ m → SelsAt d m X v l
 | 0,_,_,_,_,_,h,_ => h
 | d + 1,_,_,_,_,_,h,hn => RowT.mono h hn (fun _ _ ⟨x,e,hx⟩ => ⟨x,e,hx.mono hn (fun _ _ hq => SelsAt.mono d hq hn)⟩)
theorem PartsAt.below {d n:Nat} {X Y:World} {v:Value} {s:Sel} (h:PartsAt d n X v s) (hb:Below n X Y):PartsAt d n Y v s:=PtsT.below h hb (fun _ _ hq => hq.below d hb)
theorem PartsAt.mono {d n m:Nat} {X:World} {v:Value} {s:Sel} (h:PartsAt d n X v s) (hn:n ≤ m):PartsAt d m X v s:=PtsT.mono h hn (fun _ _ hq => hq.mono d hn)
theorem PartsAt.next {d:Nat} {X Y:World} {v:Value} {s:Sel} (h:PartsAt d X.heap.size X v s) (hb:Below X.heap.size X Y):PartsAt d Y.heap.size Y v s:=(h.below hb).mono hb.size
theorem SelsAt.len {d n:Nat} {X:World} {v:Value} {l:List Sel} (h:SelsAt d n X v l):∃ p cap,v = .slice p l.length cap:=by
 cases d with
 | zero => obtain ⟨rfl,p,c,rfl⟩:=h;exact ⟨p,c,rfl⟩
 | succ d => exact RowT.len h
theorem SelsAt.short {d n:Nat} {X:World} {v:Value} {l:List Sel} (h:SelsAt d n X v l):l.length ≤ maxLen:=by
 cases d with
 | zero => obtain ⟨rfl,_⟩:=h;exact Nat.zero_le _
 | succ d => exact RowT.short h
theorem SelsAt.get {d n:Nat} {X:World} {p:Option Addr} {m cap:Nat} {l:List Sel} (h:SelsAt d n X (.slice p m cap) l) {k:Nat} {s:Sel} (hk:l[k]? = some s) :
  ∃ d',d = d' + 1 ∧ ∃ b off x,p = some ⟨b,off,none⟩ ∧ b < n ∧ l.length ≤ cap ∧ cap ≤ maxLen ∧ PartsAt d' n X x s ∧ X.cell? ⟨b,off + k,none⟩ = some x:=by
 cases d with
 | zero => obtain ⟨rfl,_⟩:=h;simp at hk
 | succ d =>
  obtain ⟨b,off,c,e,hb,h1,h2,_,⟨x,rfl,hx⟩,hc⟩:=RowT.get h hk
  exact ⟨d,rfl,b,off,x,e,hb,h1,h2,hx,by simpa using hc 0 x rfl⟩
theorem PartsAt.get {d n:Nat} {X:World} {p:Option Addr} {m cap:Nat} {s:Sel} (h:PartsAt d n X (.slice p m cap) s) {k:Nat} {q:Pt} (hk:s[k]? = some q) :
  ∃ b off i c a ps,p = some ⟨b,off,none⟩ ∧ b < n ∧ s.length ≤ cap ∧ cap ≤ maxLen ∧ i64 q.1 ∧
   (X.cell? ⟨b,off + k * 6,none⟩ = some (.int .i64 q.1) ∧ X.cell? ⟨b,off + k * 6 + 1,none⟩ = some (.string q.2.tag) ∧ X.cell? ⟨b,off + k * 6 + 2,none⟩ = some i ∧ X.cell? ⟨b,off + k * 6 + 3,none⟩ = some c ∧ X.cell? ⟨b,off + k * 6 + 4,none⟩ = some a ∧ X.cell? ⟨b,off + k * 6 + 5,none⟩ = some ps) ∧
   StrsR n X i q.2.ids ∧ StrsR n X c q.2.classes ∧ AttrsAt n X a q.2.attrs ∧ RowT 4 (PsT (SelsAt d n X)) n X ps q.2.pss ∧ q.2.pss.length ≤ 1099511627776 ∧ ∀ x ∈ q.2.attrs,AtOk x:=by
 obtain ⟨b,off,c,e,hb,h1,h2,_,⟨c',rfl,⟨i,k',a,ps,rfl,g1,g2,g3,g4,g5,g6⟩,hq⟩,hc⟩:=RowT.get h hk
 exact ⟨b,off,i,k',a,ps,e,hb,h1,h2,hq,⟨hc 0 _ rfl,hc 1 _ rfl,hc 2 _ rfl,hc 3 _ rfl,hc 4 _ rfl,hc 5 _ rfl⟩,g1,g2,g3,g4,g5,g6⟩
theorem pss_get {Q:Value → List Sel → Prop} {n:Nat} {X:World} {p:Option Addr} {m cap:Nat} {l:List Ps} (h:RowT 4 (PsT Q) n X (.slice p m cap) l) {k:Nat} {q:Ps} (hk:l[k]? = some q) :
  ∃ b off x,p = some ⟨b,off,none⟩ ∧ b < n ∧ l.length ≤ cap ∧ cap ≤ maxLen ∧ (i64 q.kind ∧ i64 q.a ∧ i64 q.b ∧ q.list.length ≤ 8796093022208) ∧ Q x q.list ∧
   (X.cell? ⟨b,off + k * 4,none⟩ = some (.int .i64 q.kind) ∧ X.cell? ⟨b,off + k * 4 + 1,none⟩ = some (.int .i64 q.a) ∧ X.cell? ⟨b,off + k * 4 + 2,none⟩ = some (.int .i64 q.b) ∧ X.cell? ⟨b,off + k * 4 + 3,none⟩ = some x):=by
 obtain ⟨b,off,c,e,hb,h1,h2,_,⟨x,rfl,hQ,hi⟩,hc⟩:=RowT.get h hk
 exact ⟨b,off,x,e,hb,h1,h2,hi,hQ,hc 0 _ rfl,hc 1 _ rfl,hc 2 _ rfl,hc 3 _ rfl⟩
theorem blk3 {W:World} {B:Nat} {t:TypeId} {a b c:Value} (h:Blk W B t [a,b,c]):(W.cell? ⟨B,0,none⟩ = some a ∧ W.cell? ⟨B,1,none⟩ = some b ∧ W.cell? ⟨B,2,none⟩ = some c) ∧ W.frozen? ⟨B,0,none⟩ = false ∧ W.frozen? ⟨B,1,none⟩ = false ∧ W.frozen? ⟨B,2,none⟩ = false:=by
 simp [World.cell?,World.frozen?,show W.heap[B]? = _ from h]
theorem blk4 {W:World} {B:Nat} {t:TypeId} {a b c d:Value} (h:Blk W B t [a,b,c,d]):(W.cell? ⟨B,0,none⟩ = some a ∧ W.cell? ⟨B,1,none⟩ = some b ∧ W.cell? ⟨B,2,none⟩ = some c ∧ W.cell? ⟨B,3,none⟩ = some d) ∧ W.frozen? ⟨B,0,none⟩ = false ∧ W.frozen? ⟨B,1,none⟩ = false ∧ W.frozen? ⟨B,2,none⟩ = false ∧ W.frozen? ⟨B,3,none⟩ = false:=by
 simp [World.cell?,World.frozen?,show W.heap[B]? = _ from h]
end Go.Proofs.YtcmmdojlhfmddaaGreat.Mt

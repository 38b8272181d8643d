/- Things and rules of tokens, in plain words over lists (chapter 5): no program in this text. A list ks holds the tokens' kinds. -/
import Derived.Test.YtcmmdojlhfmddaaGreatSame
import Derived.WalkKit
import Derived.WalkSmall
import Derived.Laws.OwnMore
namespace Go.Proofs.YtcmmdojlhfmddaaGreat
def clos (k:Int):Int:=if k = 14 then 15 else if k = 16 ∨ k = 20 then 17 else if k = 18 then 19 else 0
def opn (st:List Int) (k:Int):List Int:=if 0 < clos k then clos k :: st else if st.head? = some k then st.tail else st
def run:List Int → List Int → Nat
 | _,[] => 0
 | st,k :: r => if opn st k = [] then 1 else 1 + run (opn st k) r
def opns (st:List Int) (ks:List Int):List Int:=ks.foldl opn st
theorem clos_cases (k:Int):(k = 14 ∧ clos k = 15) ∨ ((k = 16 ∨ k = 20) ∧ clos k = 17) ∨ (k = 18 ∧ clos k = 19) ∨ (k ≠ 14 ∧ k ≠ 16 ∧ k ≠ 20 ∧ k ≠ 18 ∧ clos k = 0):=by
 unfold clos
 by_cases h1:k = 14
 ·exact .inl ⟨h1,if_pos h1⟩
 ·by_cases h2:k = 16 ∨ k = 20
  ·exact .inr (.inl ⟨h2,by rw [if_neg h1,if_pos h2]⟩)
  ·by_cases h3:k = 18
   ·exact .inr (.inr (.inl ⟨h3,by rw [if_neg h1,if_neg h2,if_pos h3]⟩))
   ·exact .inr (.inr (.inr ⟨h1,fun e => h2 (.inl e),fun e => h2 (.inr e),h3,by rw [if_neg h1,if_neg h2,if_neg h3]⟩))
theorem run_le:∀ (st ks:List Int),run st ks ≤ ks.length
 | _,[] => Nat.le_refl _
 | st,k :: r => by
  have:=run_le (opn st k) r
  unfold run
  rw [List.length_cons]
  split <;> omega
theorem run_pos (st:List Int) (k:Int) (r:List Int):0 < run st (k :: r):=by
 unfold run
 split <;> omega
theorem run_cons_nil {st:List Int} {k:Int} (r:List Int) (h:opn st k = []):run st (k :: r) = 1:=by rw [run,if_pos h]
theorem run_cons_more {st:List Int} {k:Int} (r:List Int) (h:opn st k ≠ []):run st (k :: r) = 1 + run (opn st k) r:=by rw [run,if_neg h]
theorem opn_open {st:List Int} {k:Int} (h:0 < clos k):opn st k = clos k :: st:=if_pos h
theorem opn_shut {st:List Int} {k:Int} (h:clos k = 0):opn st k = if st.head? = some k then st.tail else st:=by
 unfold opn
 rw [if_neg (by omega)]
theorem clos_nonneg (k:Int):0 ≤ clos k:=by rcases clos_cases k with h | h | h | h <;> omega
theorem opn_nil {k:Int} (h:clos k = 0):opn [] k = []:=by rw [opn_shut h];simp
def uptoF (p:Int → Bool):Nat → List Int → Nat
 | 0,_ => 0
 | _ + 1,[] => 0
 | f + 1,k :: r => if p k then 0 else run [] (k :: r) + uptoF p f ((k :: r).drop (run [] (k :: r)))
def upto (p:Int → Bool) (ks:List Int):Nat:=uptoF p ks.length ks
theorem uptoF_more (p:Int → Bool):∀ (f g:Nat) (l:List Int),l.length ≤ f → l.length ≤ g → uptoF p f l = uptoF p g l
 | 0,0,_,_,_ => rfl
 | 0,g + 1,l,hf,_ => by
  have:l = []:=List.length_eq_zero_iff.1 (by omega)
  subst this
  rfl
 | f + 1,0,l,_,hg => by
  have:l = []:=List.length_eq_zero_iff.1 (by omega)
  subst this
  rfl
 | f + 1,g + 1,[],_,_ => rfl
 | f + 1,g + 1,k :: r,hf,hg => by
  have hp:=run_pos [] k r
  have hd:((k :: r).drop (run [] (k :: r))).length ≤ r.length:=by rw [List.length_drop,List.length_cons];omega
  rw [List.length_cons] at hf hg
  simp only [uptoF,uptoF_more p f g _ (Nat.le_trans hd (by omega)) (Nat.le_trans hd (by omega))]
theorem upto_nil (p:Int → Bool):upto p [] = 0:=rfl
theorem upto_cons (p:Int → Bool) (k:Int) (r:List Int):upto p (k :: r) = if p k then 0 else run [] (k :: r) + upto p ((k :: r).drop (run [] (k :: r))):=by
 have hp:=run_pos [] k r
 have hd:((k :: r).drop (run [] (k :: r))).length ≤ r.length:=by rw [List.length_drop,List.length_cons];omega
 unfold upto
 rw [List.length_cons,uptoF,uptoF_more p r.length _ _ hd (Nat.le_refl _)]
theorem upto_le (p:Int → Bool):∀ (n:Nat) (ks:List Int),ks.length ≤ n → upto p ks ≤ ks.length
 | _,[],_ => Nat.le_refl _
 | 0,k :: r,h => by simp at h
 | n + 1,k :: r,h => by
  have hp:=run_pos [] k r
  have hl:=run_le [] (k :: r)
  have hd:((k :: r).drop (run [] (k :: r))).length = (k :: r).length - run [] (k :: r):=List.length_drop
  have ih:=upto_le p n ((k :: r).drop (run [] (k :: r))) (by rw [List.length_cons] at h hd;omega)
  rw [upto_cons]
  split
  ·exact Nat.zero_le _
  ·omega
/-! ### the bottom of what is open -/
theorem opn_bottom {st:List Int} {c k:Int} (h:st ≠ [] ∨ k ≠ c ∨ 0 < clos k):opn (st ++ [c]) k = opn st k ++ [c]:=by
 rcases (show 0 < clos k ∨ clos k = 0 by have:=clos_nonneg k;omega) with h1 | h1
 ·rw [opn_open h1,opn_open h1]
  rfl
 ·rw [opn_shut h1,opn_shut h1]
  cases st with
  | nil =>
   have hk:k ≠ c:=by
    rcases h with h | h | h
    ·exact absurd rfl h
    ·exact h
    ·omega
   simp [Ne.symm hk]
  | cons a s =>
   by_cases e:a = k
   ·rw [if_pos (by simp [e]),if_pos (by simp [e])]
    rfl
   ·rw [if_neg (by simp [e]),if_neg (by simp [e])]
theorem run_bottom:∀ (ks st:List Int) (c:Int),(st ≠ [] ∨ ∀ k,ks.head? = some k → k ≠ c ∨ 0 < clos k) → run (st ++ [c]) ks = run st ks + run [c] (ks.drop (run st ks))
 | [],st,c,_ => rfl
 | k :: r,st,c,h => by
  have hb:opn (st ++ [c]) k = opn st k ++ [c]:=by
   apply opn_bottom
   rcases h with h | h
   ·exact .inl h
   ·exact .inr (h k rfl)
  have hne:opn (st ++ [c]) k ≠ []:=by rw [hb];simp
  rw [run_cons_more r hne,hb]
  by_cases h0:opn st k = []
  ·rw [run_cons_nil r h0,h0]
   rfl
  ·rw [run_cons_more r h0,run_bottom r (opn st k) c (.inl h0),Nat.add_comm 1 (run (opn st k) r),List.drop_succ_cons]
   omega
theorem opns_bottom:∀ (ks st:List Int) (c:Int),(st ≠ [] ∨ ∀ k,ks.head? = some k → k ≠ c ∨ 0 < clos k) → opns (st ++ [c]) (ks.take (run st ks)) = opns st (ks.take (run st ks)) ++ [c]
 | [],st,c,_ => rfl
 | k :: r,st,c,h => by
  have hb:opn (st ++ [c]) k = opn st k ++ [c]:=by
   apply opn_bottom
   rcases h with h | h
   ·exact .inl h
   ·exact .inr (h k rfl)
  by_cases h0:opn st k = []
  ·rw [run_cons_nil r h0]
   show opn (st ++ [c]) k = opn st k ++ [c]
   exact hb
  ·rw [run_cons_more r h0,Nat.add_comm 1]
   show opns (opn (st ++ [c]) k) (r.take _) = opns (opn st k) (r.take _) ++ [c]
   rw [hb]
   exact opns_bottom r (opn st k) c (.inl h0)
theorem opns_run:∀ (ks st:List Int),opns st (ks.take (run st ks)) = [] ∨ run st ks = ks.length
 | [],_ => .inr rfl
 | k :: r,st => by
  by_cases h0:opn st k = []
  ·rw [run_cons_nil r h0]
   exact .inl h0
  ·rw [run_cons_more r h0,Nat.add_comm 1,List.length_cons]
   rcases opns_run r (opn st k) with h | h
   ·exact .inl h
   ·exact .inr (by omega)
theorem opns_append (st a b:List Int):opns st (a ++ b) = opns (opns st a) b:=List.foldl_append
/-! ### a block's end -/
def is15 (k:Int):Bool:=k == 15
theorem block_run:∀ (n:Nat) (b:List Int),b.length ≤ n →
  (upto is15 b < b.length ∧ run [15] b = upto is15 b + 1 ∧ opns [15] (b.take (run [15] b)) = []) ∨ (upto is15 b = b.length ∧ run [15] b = b.length ∧ opns [15] b ≠ [])
 | _,[],_ => .inr ⟨rfl,rfl,by decide⟩
 | 0,k :: r,h => by simp at h
 | n + 1,k :: r,h => by
  by_cases hk:k = 15
  ·subst hk
   have h1:opn [15] 15 = []:=by decide
   refine .inl ⟨?_,?_,?_⟩
   ·rw [upto_cons]
    simp [is15]
   ·rw [upto_cons,run_cons_nil r h1]
    simp [is15]
   ·rw [run_cons_nil r h1]
    exact h1
  ·have hp:=run_pos [] k r
   have hl:=run_le [] (k :: r)
   have hd:((k :: r).drop (run [] (k :: r))).length = (k :: r).length - run [] (k :: r):=List.length_drop
   have hh:∀ j,(k :: r).head? = some j → j ≠ 15 ∨ 0 < clos j:=fun j e => by
    obtain rfl:k = j:=by simpa using e
    exact .inl hk
   have hr:run [15] (k :: r) = run [] (k :: r) + run [15] ((k :: r).drop (run [] (k :: r))):=run_bottom (k :: r) [] 15 (.inr hh)
   have ho:opns [15] ((k :: r).take (run [] (k :: r))) = opns [] ((k :: r).take (run [] (k :: r))) ++ [15]:=opns_bottom (k :: r) [] 15 (.inr hh)
   have hu:upto is15 (k :: r) = run [] (k :: r) + upto is15 ((k :: r).drop (run [] (k :: r))):=by
    rw [upto_cons,if_neg (by simpa [is15] using hk)]
   have ih:=block_run n ((k :: r).drop (run [] (k :: r))) (by rw [List.length_cons] at h hd;omega)
   rcases opns_run (k :: r) [] with hc | hc
   ·rw [hc,List.nil_append] at ho
    have hs:∀ m,opns [15] ((k :: r).take (run [] (k :: r) + m)) = opns [15] (((k :: r).drop (run [] (k :: r))).take m):=fun m => by
     rw [List.take_add,opns_append,ho]
    rw [hu,hr]
    rcases ih with ⟨i1,i2,i3⟩ | ⟨i1,i2,i3⟩
    ·refine .inl ⟨by omega,by omega,?_⟩
     rw [hs]
     exact i3
    ·refine .inr ⟨by omega,by omega,?_⟩
     have:=hs ((k :: r).drop (run [] (k :: r))).length
     rw [List.take_of_length_le (Nat.le_refl _),List.take_of_length_le (by omega)] at this
     rw [this]
     exact i3
   ·have hdn:(k :: r).drop (run [] (k :: r)) = []:=List.drop_eq_nil_iff.2 (by omega)
    rw [hu,hr,hdn]
    refine .inr ⟨by rw [upto_nil];omega,by show _ + 0 = _;omega,?_⟩
    rw [hc,List.take_of_length_le (Nat.le_refl _)] at ho
    rw [ho]
    simp
end Go.Proofs.YtcmmdojlhfmddaaGreat

/- Slices of tokens in memory, whatever their texts; what is open, as a list that the call owns. -/
namespace Go.Proofs.YtcmmdojlhfmddaaGreat
open Go Go.RowKit Go.Shelf
structure Bt where
 kind:Int
 text:ByteArray
 n:Int
 whole:Bool
 c:Int
deriving DecidableEq
def btCells (t:Bt):List Value:=[.int .i64 t.kind,.string t.text,.int .i64 t.n,.bool t.whole,.int .i64 t.c]
def btsCells (l:List Bt):List Value:=l.flatMap btCells
def kds (l:List Bt):List Int:=l.map Bt.kind
theorem kds_length (l:List Bt):(kds l).length = l.length:=List.length_map _
theorem kds_drop (l:List Bt) (n:Nat):kds (l.drop n) = (kds l).drop n:=List.map_drop
theorem kds_cons (t:Bt) (l:List Bt):kds (t :: l) = t.kind :: kds l:=rfl
def BtAt (W:World) (bk o:Nat) (t:Bt):Prop:=
 W.cell? ⟨bk,o,none⟩ = some (.int .i64 t.kind) ∧ W.cell? ⟨bk,o + 1,none⟩ = some (.string t.text) ∧ W.cell? ⟨bk,o + 2,none⟩ = some (.int .i64 t.n) ∧ W.cell? ⟨bk,o + 3,none⟩ = some (.bool t.whole) ∧ W.cell? ⟨bk,o + 4,none⟩ = some (.int .i64 t.c)
def BtsAt (n₀:Nat) (W:World) (v:Value) (ts:List Bt):Prop:=
 (ts = [] ∧ (v = .slice none 0 0 ∨ ∃ x cap,v = .slice (some x) 0 cap ∧ cap ≤ maxLen)) ∨ ∃ bk off cap,v = .slice (some ⟨bk,off,none⟩) ts.length cap ∧ ts.length ≤ cap ∧ cap ≤ maxLen ∧ bk < n₀ ∧ ∀ j t,ts[j]? = some t → BtAt W bk (off + j * 5) t
theorem BtAt.below {n₀:Nat} {X Y:World} {bk o:Nat} {t:Bt} (h:BtAt X bk o t) (hb:Below n₀ X Y) (hbk:bk < n₀):BtAt Y bk o t:=by
 obtain ⟨h0,h1,h2,h3,h4⟩:=h
 exact ⟨(hb.cell (p:=⟨bk,_,none⟩) hbk).trans h0,(hb.cell (p:=⟨bk,_,none⟩) hbk).trans h1,(hb.cell (p:=⟨bk,_,none⟩) hbk).trans h2,(hb.cell (p:=⟨bk,_,none⟩) hbk).trans h3,(hb.cell (p:=⟨bk,_,none⟩) hbk).trans h4⟩
theorem BtsAt.below {n₀:Nat} {X Y:World} {v:Value} {l:List Bt} (h:BtsAt n₀ X v l) (hb:Below n₀ X Y):BtsAt n₀ Y v l:=by
 rcases h with h | ⟨bk,off,cap,rfl,h1,h2,hbk,h⟩
 ·exact .inl h
 ·exact .inr ⟨bk,off,cap,rfl,h1,h2,hbk,fun j t hj => (h j t hj).below hb hbk⟩
theorem BtsAt.mono {n₀ n₁:Nat} {X:World} {v:Value} {l:List Bt} (h:BtsAt n₀ X v l) (hn:n₀ ≤ n₁):BtsAt n₁ X v l:=by
 rcases h with h | ⟨bk,off,cap,rfl,h1,h2,hbk,h⟩
 ·exact .inl h
 ·exact .inr ⟨bk,off,cap,rfl,h1,h2,by omega,h⟩
theorem BtsAt.next {X Y:World} {v:Value} {l:List Bt} (h:BtsAt X.heap.size X v l) (hb:Below X.heap.size X Y):BtsAt Y.heap.size Y v l:=(h.below hb).mono hb.size
theorem BtsAt.len {n₀:Nat} {X:World} {v:Value} {l:List Bt} (h:BtsAt n₀ X v l):∃ p cap,v = .slice p l.length cap:=by
 rcases h with ⟨rfl,rfl | ⟨x,cap,rfl,_⟩⟩ | ⟨bk,off,cap,rfl,_⟩
 ·exact ⟨_,_,rfl⟩
 ·exact ⟨_,_,rfl⟩
 ·exact ⟨_,_,rfl⟩
theorem BtsAt.short {n₀:Nat} {X:World} {v:Value} {l:List Bt} (h:BtsAt n₀ X v l):l.length ≤ 9223372036854775807:=by
 rcases h with ⟨rfl,_⟩ | ⟨bk,off,cap,_,h1,h2,_⟩
 ·simp
 ·unfold maxLen at h2
  omega
theorem BtsAt.get {n₀:Nat} {X:World} {p:Option Addr} {n cap:Nat} {l:List Bt} (h:BtsAt n₀ X (.slice p n cap) l) {k:Nat} {t:Bt} (hk:l[k]? = some t):∃ bk off,p = some ⟨bk,off,none⟩ ∧ bk < n₀ ∧ l.length ≤ cap ∧ cap ≤ maxLen ∧ BtAt X bk (off + k * 5) t:=by
 rcases h with ⟨rfl,_⟩ | ⟨bk,off,c,e,h1,h2,hb,h⟩
 ·simp at hk
 ·cases e
  exact ⟨bk,off,rfl,hb,h1,h2,h k t hk⟩
theorem BtsAt.part {n₀:Nat} {X:World} {bk off n cap:Nat} {l:List Bt} (h:BtsAt n₀ X (.slice (some ⟨bk,off,none⟩) n cap) l) {i j:Nat} (hij:i ≤ j) (hj:j ≤ l.length) (hc:cap ≤ maxLen) (hi:l ≠ []):BtsAt n₀ X (.slice (some ⟨bk,off + i * 5,none⟩) (j - i) (cap - i)) ((l.drop i).take (j - i)):=by
 rcases h with ⟨rfl,_⟩ | ⟨bk',off',c,e,h1,h2,hb,h⟩
 ·exact absurd rfl hi
 ·cases e
  have hl:((l.drop i).take (j - i)).length = j - i:=by rw [List.length_take,List.length_drop];omega
  refine .inr ⟨bk,off + i * 5,cap - i,by rw [hl],by rw [hl];omega,by omega,hb,fun k t hk => ?_⟩
  rw [List.getElem?_take] at hk
  split at hk
  ·rw [List.getElem?_drop] at hk
   have:=h (i + k) t hk
   rw [show off + (i + k) * 5 = off + i * 5 + k * 5 by omega] at this
   exact this
  ·cases hk
theorem btsCells_length:∀ l:List Bt,(btsCells l).length = l.length * 5
 | [] => rfl
 | t :: l => by
  have:=btsCells_length l
  unfold btsCells at this ⊢
  rw [List.flatMap_cons,List.length_append,this,List.length_cons]
  show 5 + _ = _
  omega
theorem btsCells_at:∀ (l:List Bt) (j:Nat) (t:Bt),l[j]? = some t → ∀ i,i < 5 → (btsCells l)[j * 5 + i]? = (btCells t)[i]?
 | [],j,t,h => by simp at h
 | x :: l,0,t,h => by
  intro i hi
  obtain rfl:x = t:=by simpa using h
  unfold btsCells
  rw [List.flatMap_cons,Nat.zero_mul,Nat.zero_add,List.getElem?_append_left (by show i < 5;exact hi)]
 | x :: l,j + 1,t,h => by
  intro i hi
  have ih:=btsCells_at l j t (by simpa using h) i hi
  unfold btsCells at ih ⊢
  rw [List.flatMap_cons,List.getElem?_append_right (by show 5 ≤ _;omega),← ih]
  congr 1
  show (j + 1) * 5 + i - 5 = _
  omega
theorem btsCells_one (l:List Bt):∀ u ∈ btsCells l,u.oneCell' = true:=fun u hu => by
 unfold btsCells at hu
 obtain ⟨t,_,ht⟩:=List.mem_flatMap.1 hu
 simp [btCells] at ht
 rcases ht with rfl | rfl | rfl | rfl | rfl <;> rfl
theorem BtsAt.of_owns {X:World} {b:Nat} {v:Value} {l:List Bt} {m:Nat} (h:X.ownsRow b 85 5 v m (btsCells l)) (hm:m = l.length):BtsAt X.heap.size X v l:=by
 subst hm
 rcases h.2 with ⟨hv,hm⟩ | ⟨g,cap,cur,hv,hg,hb,h1,h2,h3,h4⟩
 ·exact .inl ⟨List.length_eq_zero_iff.1 hm,.inl hv⟩
 ·refine .inr ⟨g,0,cap,hv,h1,h2,(Array.getElem?_eq_some_iff.1 hb).1,fun j t hj => ?_⟩
  have hlt:j < l.length:=(List.getElem?_eq_some_iff.1 hj).1
  have key:∀ i,i < 5 → X.cell? ⟨g,0 + j * 5 + i,none⟩ = (btCells t)[i]?:=fun i hi => by
   rw [cell_of_block hb,Nat.zero_add,← btsCells_at l j t hj i hi,← h4,List.getElem?_take_of_lt (by omega)]
   simp
  exact ⟨key 0 (by omega),key 1 (by omega),key 2 (by omega),key 3 (by omega),key 4 (by omega)⟩
/-! ### what is open, in memory: the innermost last -/
def Stk (b:Nat) (W:World) (v:Value) (st:List Int):Prop:=W.ownsRow b 3 1 v st.length (st.reverse.map (Value.int .i64))
theorem Stk.none (b:Nat) (W:World):Stk b W (.slice none 0 0) []:=World.ownsRow_nil _ _ _ _
theorem Stk.form {b:Nat} {W:World} {v:Value} {st:List Int} (h:Stk b W v st):∃ p cap,v = .slice p st.length cap:=by
 rcases h.2 with ⟨rfl,h0⟩ | ⟨g,cap,cur,rfl,_⟩
 ·exact ⟨Option.none,0,by rw [h0]⟩
 ·exact ⟨_,_,rfl⟩
theorem Stk.top {b:Nat} {W:World} {v:Value} {c:Int} {s:List Int} (h:Stk b W v (c :: s)) :
  ∃ g cap,v = .slice (some ⟨g,0,Option.none⟩) (s.length + 1) cap ∧ s.length + 1 ≤ cap ∧ cap ≤ maxLen ∧ W.cell? ⟨g,s.length,Option.none⟩ = some (.int .i64 c) ∧ Stk b W (.slice (some ⟨g,0,Option.none⟩) s.length cap) s:=by
 unfold Stk at h
 rw [List.length_cons,List.reverse_cons,List.map_append] at h
 rcases h.2 with ⟨rfl,h0⟩ | ⟨g,cap,cur,rfl,hg,hb,h1,h2,h3,h4⟩
 ·omega
 ·refine ⟨g,cap,rfl,h1,h2,?_,ownsRow_pop (by simp) h⟩
  have:=h.cellAt s.length (by omega)
  rw [this,List.getElem?_append_right (by simp)]
  simp
end Go.Proofs.YtcmmdojlhfmddaaGreat

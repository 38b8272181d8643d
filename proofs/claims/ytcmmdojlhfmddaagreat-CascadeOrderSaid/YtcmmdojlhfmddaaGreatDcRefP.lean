/- The declarations of tokens, in plain words over lists (chapter 6): no program in this text. -/
import Derived.Test.YtcmmdojlhfmddaaGreatRsMem
import Derived.Test.YtcmmdojlhfmddaaGreatRsSkip
import Derived.Test.YtcmmdojlhfmddaaGreatSeqZ
import Derived.Test.YtcmmdojlhfmddaaGreatSame
import Derived.Test.YtcmmdojlhfmddaaGreatAppSrc
import Derived.Test.YtcmmdojlhfmddaaGreatDcLow
import Derived.Test.YtcmmdojlhfmddaaGreatRsRefA
import Derived.OwnWalk
import Derived.Deep.CutBlock
import Derived.Deep.DeepCutAuto
import Derived.Deep.RegionWith
import Derived.RangeFuncBox
import Derived.Shelf.RegionOpen
import Derived.Laws.Rows
import Derived.Deep.RegionHeld
import Derived.Deep.AppendLies
import Derived.Deep.RegionLaw
namespace Go.Proofs.YtcmmdojlhfmddaaGreat.Dc
/-! ### white at the ends -/
def isW (t:Bt):Bool:=t.kind == 9
def dropW (l:List Bt):List Bt:=l.dropWhile isW
def endW (l:List Bt):List Bt:=(l.reverse.dropWhile isW).reverse
theorem dropW_yes {t:Bt} {l:List Bt} (h:t.kind = 9):dropW (t :: l) = dropW l:=by
 unfold dropW
 rw [List.dropWhile_cons,if_pos (by simp [isW,h])]
theorem dropW_no {t:Bt} {l:List Bt} (h:t.kind ≠ 9):dropW (t :: l) = t :: l:=by
 unfold dropW
 rw [List.dropWhile_cons,if_neg (by simp [isW,h])]
theorem endW_yes {t:Bt} {l:List Bt} (h:t.kind = 9):endW (l ++ [t]) = endW l:=by
 unfold endW
 rw [List.reverse_append,List.reverse_singleton,List.singleton_append,List.dropWhile_cons,if_pos (by simp [isW,h])]
theorem endW_no {t:Bt} {l:List Bt} (h:t.kind ≠ 9):endW (l ++ [t]) = l ++ [t]:=by
 unfold endW
 rw [List.reverse_append,List.reverse_singleton,List.singleton_append,List.dropWhile_cons,if_neg (by simp [isW,h]),List.reverse_cons,List.reverse_reverse]
theorem dropW_len (l:List Bt):(dropW l).length ≤ l.length:=(List.dropWhile_sublist _).length_le
theorem endW_len (l:List Bt):(endW l).length ≤ l.length:=by
 unfold endW
 rw [List.length_reverse]
 have:=(List.dropWhile_sublist isW (l:=l.reverse)).length_le
 rwa [List.length_reverse] at this
theorem dropW_mem {l:List Bt} {t:Bt} (h:t ∈ dropW l):t ∈ l:=(List.dropWhile_sublist _).mem h
theorem endW_mem {l:List Bt} {t:Bt} (h:t ∈ endW l):t ∈ l:=by
 unfold endW at h
 rw [List.mem_reverse] at h
 exact List.mem_reverse.1 ((List.dropWhile_sublist _).mem h)
theorem split_last {l:List Bt} (h:l ≠ []):∃ a t,l = a ++ [t]:=⟨l.dropLast,l.getLast h,(List.dropLast_concat_getLast h).symm⟩
theorem endW_endW (l:List Bt):endW (endW l) = endW l:=by
 by_cases h:endW l = []
 ·rw [h]
  rfl
 ·obtain ⟨a,t,e⟩:=split_last h
  rw [e]
  apply endW_no
  intro h9
  unfold endW at e
  have e2:l.reverse.dropWhile isW = t :: a.reverse:=by
   have:=congrArg List.reverse e
   simpa using this
  have:=List.head?_dropWhile_not isW l.reverse
  rw [e2] at this
  simp [isW,h9] at this
theorem endW_prefix (l:List Bt):∃ m,endW l = l.take m:=by
 unfold endW
 obtain ⟨p,hp⟩:=List.dropWhile_suffix isW (l:=l.reverse)
 generalize l.reverse.dropWhile isW = d at *
 have:l = d.reverse ++ p.reverse:=by rw [← List.reverse_append,hp,List.reverse_reverse]
 exact ⟨d.length,by rw [this,List.take_append_of_le_length (by simp),List.take_of_length_le (by simp)]⟩
theorem dropW_take {l:List Bt} (h:dropW l = l) (m:Nat):dropW (l.take m) = l.take m:=by
 cases l with
 | nil => simp [dropW]
 | cons t r =>
  cases m with
  | zero => rfl
  | succ m =>
   rw [List.take_succ_cons]
   apply dropW_no
   intro h9
   rw [dropW_yes h9] at h
   have:=dropW_len r
   rw [h] at this
   simp at this
   omega
theorem dropW_endW {l:List Bt} (h:dropW l = l):dropW (endW l) = endW l:=by
 obtain ⟨m,e⟩:=endW_prefix l
 rw [e]
 exact dropW_take h m
theorem dropW_dropW (l:List Bt):dropW (dropW l) = dropW l:=by
 induction l with
 | nil => rfl
 | cons t r ih =>
  by_cases h:t.kind = 9
  ·rw [dropW_yes h,ih]
  ·rw [dropW_no h,dropW_no h]
/-! ### lowered texts -/
def lowC (c:UInt8):UInt8:=if 65 ≤ c.toNat ∧ c.toNat ≤ 90 then UInt8.ofNat (c.toNat + 32) else c
def lowT (s:ByteArray):ByteArray:=⟨(s.data.toList.map lowC).toArray⟩
def importantT:ByteArray:=⟨#[105,109,112,111,114,116,97,110,116]⟩
/-! ### a declaration -/
structure Dc where
 name:ByteArray
 value:List Bt
 imp:Bool
deriving DecidableEq
def lastT (l:List Bt):Option (List Bt × Bt):=(endW l).getLast?.map fun t => ((endW l).dropLast,t)
def isMarkWord (t:Bt):Bool:=t.kind == 1 && decide (lowT t.text = importantT)
def isMarkSign (t:Bt):Bool:=t.kind == 10 && t.c == 33
def unmark (v:List Bt):List Bt × Bool:=
 match lastT v with
 | none => (v,false)
 | some (a,w) => if isMarkWord w then
   match lastT a with
   | none => (v,false)
   | some (b,s) => if isMarkSign s then (endW b,true) else (v,false)
  else (v,false)
def declOf:List Bt → Option Dc
 | [] => none
 | t :: r => if t.kind = 1 then
   match dropW r with
   | [] => none
   | c :: v => if c.kind = 11 then some ⟨lowT t.text,(unmark (endW (dropW v))).1,(unmark (endW (dropW v))).2⟩ else none
  else none
theorem lastT_nil {l:List Bt} (h:endW l = []):lastT l = none:=by simp [lastT,h]
theorem lastT_some {l a:List Bt} {t:Bt} (h:endW l = a ++ [t]):lastT l = some (a,t):=by simp [lastT,h]
/-! ### all -/
def isSemi (k:Int):Bool:=[12].contains k
def isEnd (k:Int):Bool:=[12,14].contains k
def declsF:Nat → List Bt → List Dc
 | 0,_ => []
 | _ + 1,[] => []
 | f + 1,t :: r =>
  if t.kind = 9 ∨ t.kind = 12 then declsF f r
  else if t.kind = 2 then declsF f (r.drop (upto isEnd (kds r) + run [] ((kds r).drop (upto isEnd (kds r)))))
  else (declOf ((t :: r).take (upto isSemi (kds (t :: r))))).toList ++ declsF f ((t :: r).drop (upto isSemi (kds (t :: r))))
def decls (ts:List Bt):List Dc:=declsF ts.length ts
theorem isSemi_no {k:Int} (h:k ≠ 12):isSemi k = false:=by simp [isSemi,h]
theorem isSemi_yes:isSemi 12 = true:=by decide
theorem upto_semi_pos {t:Bt} {r:List Bt} (h:t.kind ≠ 12):0 < upto isSemi (kds (t :: r)):=by
 rw [kds_cons,upto_cons,isSemi_no h,if_neg (by decide)]
 have:=run_pos [] t.kind (kds r)
 omega
theorem declsF_more:∀ (f g:Nat) (l:List Bt),l.length ≤ f → l.length ≤ g → declsF f l = declsF g l
 | 0,0,_,_,_ => rfl
 | 0,g + 1,l,hf,_ => by
  have:l = []:=List.length_eq_zero_iff.1 (by omega)
  subst this
  rfl
 | f + 1,0,l,_,hg => by
  have:l = []:=List.length_eq_zero_iff.1 (by omega)
  subst this
  rfl
 | f + 1,g + 1,[],_,_ => rfl
 | f + 1,g + 1,t :: r,hf,hg => by
  rw [List.length_cons] at hf hg
  have h1:=declsF_more f g r (by omega) (by omega)
  have h2:=declsF_more f g (r.drop (upto isEnd (kds r) + run [] ((kds r).drop (upto isEnd (kds r))))) (by rw [List.length_drop];omega) (by rw [List.length_drop];omega)
  simp only [declsF,h1,h2]
  split
  ·rfl
  ·rename_i h
   split
   ·rfl
   ·have hp:=upto_semi_pos (r:=r) (t:=t) (by omega)
    rw [declsF_more f g ((t :: r).drop (upto isSemi (kds (t :: r)))) (by rw [List.length_drop,List.length_cons];omega) (by rw [List.length_drop,List.length_cons];omega)]
theorem decls_nil:decls [] = []:=rfl
theorem decls_pass {t:Bt} {r:List Bt} (h:t.kind = 9 ∨ t.kind = 12):decls (t :: r) = decls r:=by
 unfold decls
 rw [List.length_cons,declsF,if_pos h]
theorem decls_at {t:Bt} {r:List Bt} (h:t.kind = 2):decls (t :: r) = decls (r.drop (upto isEnd (kds r) + run [] ((kds r).drop (upto isEnd (kds r))))):=by
 unfold decls
 rw [List.length_cons,declsF,if_neg (by omega),if_pos h]
 exact declsF_more _ _ _ (by rw [List.length_drop];omega) (Nat.le_refl _)
theorem decls_one {t:Bt} {r:List Bt} (h9:t.kind ≠ 9) (h12:t.kind ≠ 12) (h2:t.kind ≠ 2) :
  decls (t :: r) = (declOf ((t :: r).take (upto isSemi (kds (t :: r))))).toList ++ decls ((t :: r).drop (upto isSemi (kds (t :: r)))):=by
 have hp:=upto_semi_pos (r:=r) h12
 unfold decls
 rw [List.length_cons,declsF,if_neg (by omega),if_neg h2]
 congr 1
 exact declsF_more _ _ _ (by rw [List.length_drop,List.length_cons];omega) (Nat.le_refl _)
end Go.Proofs.YtcmmdojlhfmddaaGreat.Dc

/- decl.afterWhite, decl.beforeWhite and the document's own trim, at every slice of tokens. -/
set_option maxRecDepth 100000
namespace Go.Proofs.YtcmmdojlhfmddaaGreat.Dc
open Go Go.RowKit Go.Shelf
def lenOf:Value → Nat
 | .slice _ n _ => n
 | _ => 0
end Go.Proofs.YtcmmdojlhfmddaaGreat.Dc
namespace Go.Proofs.YtcmmdojlhfmddaaGreat
open Go Go.RowKit Go.Shelf
theorem BtsAt.first {n₀:Nat} {X:World} {v:Value} {t:Bt} {r:List Bt} (h:BtsAt n₀ X v (t :: r)) :
  ∃ bk off cap,v = .slice (some ⟨bk,off,none⟩) (r.length + 1) cap ∧ r.length + 1 ≤ cap ∧ cap ≤ maxLen ∧ bk < n₀ ∧ BtAt X bk off t ∧ BtsAt n₀ X (.slice (if cap = 1 then some ⟨bk,off,none⟩ else some ⟨bk,off + 5,none⟩) r.length (cap - 1)) r:=by
 rcases h with ⟨h,_⟩ | ⟨bk,off,cap,rfl,h1,h2,hb,h⟩
 ·cases h
 ·refine ⟨bk,off,cap,rfl,h1,h2,hb,by simpa using h 0 t rfl,?_⟩
  rw [List.length_cons] at h1
  by_cases hc:cap = 1
  ·have hr:r = []:=List.length_eq_zero_iff.1 (by omega)
   subst hr
   rw [if_pos hc]
   exact .inl ⟨rfl,.inr ⟨_,_,rfl,by omega⟩⟩
  ·rw [if_neg hc]
   refine .inr ⟨bk,off + 5,cap - 1,rfl,by omega,by omega,hb,fun j u hj => ?_⟩
   have:=h (j + 1) u (by simpa using hj)
   rwa [show off + (j + 1) * 5 = off + 5 + j * 5 by omega] at this
theorem BtsAt.last {n₀:Nat} {X:World} {v:Value} {t:Bt} {r:List Bt} (h:BtsAt n₀ X v (r ++ [t])) :
  ∃ bk off cap,v = .slice (some ⟨bk,off,none⟩) (r.length + 1) cap ∧ r.length + 1 ≤ cap ∧ cap ≤ maxLen ∧ bk < n₀ ∧ BtAt X bk (off + r.length * 5) t ∧ BtsAt n₀ X (.slice (some ⟨bk,off,none⟩) r.length cap) r:=by
 rcases h with ⟨h,_⟩ | ⟨bk,off,cap,rfl,h1,h2,hb,h⟩
 ·simp at h
 ·rw [List.length_append,List.length_singleton] at h1 ⊢
  refine ⟨bk,off,cap,rfl,h1,h2,hb,h r.length t (by simp),?_⟩
  refine .inr ⟨bk,off,cap,rfl,by omega,h2,hb,fun j u hj => ?_⟩
  exact h j u (by rw [List.getElem?_append_left (List.getElem?_eq_some_iff.1 hj).1];exact hj)
theorem BtsAt.empty {n₀:Nat} {X:World} {v:Value} (h:BtsAt n₀ X v []):∃ p cap,v = .slice p 0 cap:=by
 obtain ⟨p,cap,rfl⟩:=h.len
 exact ⟨p,cap,rfl⟩
end Go.Proofs.YtcmmdojlhfmddaaGreat
namespace Go.Proofs.YtcmmdojlhfmddaaGreat.Dc
open Go Go.RowKit Go.Shelf
set_option maxHeartbeats 2000000 in
theorem trim_any (v:Value) (l:List Bt) (w:World) (n₀:Nat) (hv:BtsAt n₀ w v l) :
  Calls Tryz.prog 71 #[v] w fun e w' => ∃ v',e = .returned v' ∧ BtsAt n₀ w v' (endW (dropW l)) ∧ w' = w:=by
 obtain ⟨A,hA⟩:∃ A,dropW l = A:=⟨_,rfl⟩
 obtain ⟨B,hB⟩:∃ B,endW A = B:=⟨_,rfl⟩
 rw [hA,hB]
 go_enter Tryz.func71,Tryz.ntmps71
 go_upto_block 0 with fail
 go_cut [0] (fun x wx => BtsAt n₀ w x A ∧ w = wx)
 case first =>
  clear hB
  go_wp2_with fail
  go_loopw [0] (fun x wr => ∃ (l':List Bt) (v':Value),v' = x ∧ BtsAt n₀ w v' l' ∧ dropW l' = A ∧ wr = w) (fun x _ => lenOf x)
  case atStart => exact ⟨l,_,rfl,hv,hA,rfl⟩
  case round =>
   clear hA hv
   obtain ⟨l',v',rfl,hv,hA,rfl⟩:=hrel
   cases l' with
   | nil =>
    obtain rfl:[] = A:=hA
    have hv2:=hv
    obtain ⟨p,cap,rfl⟩:=hv.empty
    clear hv
    go_wp2
    go_meet
    exact ⟨hv2,rfl⟩
   | cons t r =>
    obtain ⟨bk,off,cap,rfl,h1,h2,hb,⟨hc,_⟩,hr⟩:=hv.first
    have hpos:(0:Int) < (r.length:Int) + 1:=by omega
    have hcp:(1:Int) ≤ (cap:Int):=by omega
    have hr1:(1:Int) ≤ (r.length:Int) + 1:=by omega
    unfold maxLen at h2
    have hr2:((r.length + 1:Nat):Int) ≤ (cap:Int):=by omega
    by_cases h9:t.kind = 9
    ·rw [h9] at hc
     have HA:Hid (dropW r = A):=by show _ = _;rw [← hA,dropW_yes h9]
     clear hA hv h9
     by_cases hc1:cap = 1
     ·subst hc1
      obtain rfl:r = []:=List.length_eq_zero_iff.1 (by omega)
      rw [if_pos rfl] at hr
      go_wp2
      first
       | exact ⟨⟨[],_,rfl,hr,HA,by first | rfl | trivial⟩,by simp [lenOf]⟩
       | (refine ⟨?_,by simp [lenOf]⟩;(repeat apply Exists.intro);exact ⟨⟨[],_,rfl,hr,HA,by first | rfl | trivial⟩,rfl⟩)
     ·rw [if_neg hc1] at hr
      go_wp2
      first
       | exact ⟨⟨r,_,rfl,hr,HA,by first | rfl | trivial⟩,by simp [lenOf]⟩
       | (refine ⟨?_,by simp [lenOf]⟩;(repeat apply Exists.intro);exact ⟨⟨r,_,rfl,hr,HA,by first | rfl | trivial⟩,rfl⟩)
    ·obtain rfl:t :: r = A:=by rw [← hA,dropW_no h9]
     have h9':(t.kind == 9) = false:=by simpa using h9
     clear hA hr
     generalize t.kind = k at hc h9'
     clear h9
     go_wp2
     go_meet
     exact ⟨hv,rfl⟩
 case rest =>
  obtain ⟨hvA,rfl⟩:=hcut
  clear hv hA
  go_wp2_with fail
  rename_i x
  go_loopw [0] (fun x wr => ∃ (l':List Bt) (v':Value),v' = x ∧ BtsAt n₀ w v' l' ∧ endW l' = B ∧ wr = w) (fun x _ => lenOf x)
  case atStart => exact ⟨A,_,rfl,hvA,hB,rfl⟩
  case round =>
   clear hB hvA
   obtain ⟨l',v',rfl,hv,hA,rfl⟩:=hrel
   by_cases hl:l' = []
   ·subst hl
    obtain rfl:[] = B:=hA
    have hv2:=hv
    obtain ⟨p,cap,rfl⟩:=hv.empty
    clear hv
    go_wp2
    go_ret
    exact ⟨_,rfl,hv2,rfl⟩
   ·obtain ⟨r,t,rfl⟩:=split_last hl
    obtain ⟨bk,off,cap,rfl,h1,h2,hb,⟨hc,_⟩,hr⟩:=hv.last
    clear hl
    unfold maxLen at h2
    have hpos:(0:Int) < (r.length:Int) + 1:=by omega
    have hsub:IntKind.i64.wrap ((r.length:Int) + 1 - 1) = (r.length:Int):=by rw [IntKind.wrap_i64];omega
    have hr1:(r.length:Int) ≤ (cap:Int):=by omega
    have hr2:¬ cap = 0:=by omega
    by_cases h9:t.kind = 9
    ·rw [h9] at hc
     have HA:Hid (endW r = B):=by show _ = _;rw [← hA,endW_yes h9]
     clear hA hv h9
     go_wp2
     exact ⟨⟨r,_,rfl,hr,HA,by first | rfl | trivial⟩,by simp [lenOf]⟩
    ·obtain rfl:r ++ [t] = B:=by rw [← hA,endW_no h9]
     have h9':(t.kind == 9) = false:=by simpa using h9
     clear hA hr
     generalize t.kind = k at hc h9'
     clear h9
     go_wp2
     go_ret
     exact ⟨_,rfl,hv,rfl⟩
end Go.Proofs.YtcmmdojlhfmddaaGreat.Dc

/- decl.things as an iterator, decl.upTo at every place of a slice of tokens that is not too long. -/
namespace Go.Proofs.YtcmmdojlhfmddaaGreat.Dc
open Go Go.RowKit Go.Shelf
attribute [local go_sem] Oper.semAt_some
/-! ### where things begin -/
theorem run_drop_pos {ks:List Int} {i:Nat} (h:i < ks.length):0 < run [] (ks.drop i):=by
 rw [List.drop_eq_getElem_cons h]
 exact run_pos _ _ _
theorem run_drop_le (ks:List Int) (i:Nat):run [] (ks.drop i) ≤ ks.length - i:=by
 have:=run_le [] (ks.drop i)
 rwa [List.length_drop] at this
/-! ### the iterator -/
theorem grown_of_below' {w w':World} (h:Below w.heap.size w w') (row:Option Nat):w.grownBy w' row:=⟨h.os,h.tape,h.output,h.size,fun i hi _ => h.block i hi⟩
/-! ### is a kind among those that are looked for? -/
end Go.Proofs.YtcmmdojlhfmddaaGreat.Dc

/- Slices of declarations in memory; decl.copied. -/
namespace Go.Proofs.YtcmmdojlhfmddaaGreat.Dc
open Go Go.RowKit Go.Shelf
theorem infoTk6:(Tryz.prog.info? 85).map (fun i => (i.zero,i.size,i.bytes)) = some (some (.agg #[.int .i64 0,.string ⟨#[]⟩,.int .i64 0,.bool false,.int .i64 0]),5,48):=by kernel_rfl
theorem infoDecl:(Tryz.prog.info? 107).map (fun i => (i.zero,i.size,i.bytes)) = some (some (.agg #[.string ⟨#[]⟩,.slice none 0 0,.bool false]),3,48):=by kernel_rfl
theorem infoDeclS:(Tryz.prog.info? 107).map (·.size) = some 3:=by kernel_rfl
theorem btsCells_cell {ts:List Bt} {j:Nat} {u:Value} (h:(btsCells ts)[j]? = some u):∃ t,ts[j / 5]? = some t ∧ (btCells t)[j % 5]? = some u:=by
 have hlt:j < (btsCells ts).length:=(List.getElem?_eq_some_iff.1 h).1
 rw [btsCells_length] at hlt
 have hq:j / 5 < ts.length:=by omega
 refine ⟨ts[j / 5],List.getElem?_eq_getElem hq,?_⟩
 rw [← btsCells_at ts (j / 5) _ (List.getElem?_eq_getElem hq) (j % 5) (by omega),show j / 5 * 5 + j % 5 = j by omega]
 exact h
theorem btAt_cells {W:World} {bk o:Nat} {t:Bt} (h:BtAt W bk o t) {i:Nat} {u:Value} (hi:(btCells t)[i]? = some u):W.cell? ⟨bk,o + i,none⟩ = some u:=by
 obtain ⟨h0,h1,h2,h3,h4⟩:=h
 have:i = 0 ∨ i = 1 ∨ i = 2 ∨ i = 3 ∨ i = 4:=by
  have:=(List.getElem?_eq_some_iff.1 hi).1
  simp [btCells] at this
  omega
 rcases this with rfl | rfl | rfl | rfl | rfl <;> (simp [btCells] at hi;subst hi;assumption)
theorem btsSrc {n₀:Nat} {X:World} {v:Value} {ts:List Bt} (h:BtsAt n₀ X v ts) :
  (v = .slice none 0 0 ∧ ts.length = 0) ∨ ∃ ad c,v = .slice (some ad) ts.length c ∧ ∀ j u,(btsCells ts)[j]? = some u → X.cell? (ad.add j) = some u:=by
 rcases h with ⟨rfl,rfl | ⟨x,cap,rfl,_⟩⟩ | ⟨bk,off,cap,rfl,_,_,_,hc⟩
 ·exact .inl ⟨rfl,rfl⟩
 ·exact .inr ⟨x,cap,rfl,fun j u hj => by simp [btsCells] at hj⟩
 ·refine .inr ⟨_,cap,rfl,fun j u hj => ?_⟩
  obtain ⟨t,ht,hi⟩:=btsCells_cell hj
  have:=btAt_cells (hc _ t ht) hi
  rw [addr_add,show off + j = off + j / 5 * 5 + j % 5 by omega]
  exact this
theorem below_next {w W W':World} (h:Below w.heap.size w W) (hb:Below W.heap.size W W'):Below w.heap.size w W':=h.trans (hb.mono h.size)
theorem form_of {X:World} {b:Nat} {e:TypeId} {size:Nat} {v:Value} {m:Nat} {xs:List Value} (h:X.ownsRow b e size v m xs):∃ q c,v = .slice q m c:=by
 rcases h.2 with ⟨rfl,h0⟩ | ⟨g,cap,cur,rfl,_⟩
 ·exact ⟨none,0,by rw [h0]⟩
 ·exact ⟨_,_,rfl⟩
theorem upto_le' (p:Int → Bool) (ts:List Bt):upto p (kds ts) ≤ ts.length:=by
 have:=upto_le p _ (kds ts) (Nat.le_refl _)
 rwa [kds_length] at this
/-! ### a declaration, or a token, in a block of its own -/
def Blk (W:World) (B:Nat) (t:TypeId) (cs:List Value):Prop:=W.heap[B]? = some (.cells cs.toArray t (0,0))
theorem Blk.lt {W:World} {B:Nat} {t:TypeId} {cs:List Value} (h:Blk W B t cs):B < W.heap.size:=(Array.getElem?_eq_some_iff.1 h).1
theorem Blk.kept {W W':World} {row:Option Nat} {B:Nat} {t:TypeId} {cs:List Value} (h:Blk W B t cs) (hg:W.grownBy W' row) (hne:some B ≠ row):Blk W' B t cs:=(hg.block B h.lt hne).trans h
theorem Blk.below {W W':World} {n:Nat} {B:Nat} {t:TypeId} {cs:List Value} (h:Blk W B t cs) (hb:Below n W W') (hn:B < n):Blk W' B t cs:=(hb.block B hn).trans h
theorem Blk.new (w:World) (t:TypeId) (cs:List Value):Blk (w.alloc (.cells cs.toArray t)) w.heap.size t cs:=heap_alloc_new w _
theorem blk3 {W:World} {B:Nat} {t:TypeId} {a b c:Value} (h:Blk W B t [a,b,c]):(W.cell? ⟨B,0,none⟩ = some a ∧ W.cell? ⟨B,1,none⟩ = some b ∧ W.cell? ⟨B,2,none⟩ = some c) ∧ W.frozen? ⟨B,0,none⟩ = false ∧ W.frozen? ⟨B,1,none⟩ = false ∧ W.frozen? ⟨B,2,none⟩ = false:=by
 simp [World.cell?,World.frozen?,show W.heap[B]? = _ from h]
def set3 (W:World) (B:Nat) (a b c:Value):World:=((W.setCell ⟨B,0,none⟩ a).setCell ⟨B,1,none⟩ b).setCell ⟨B,2,none⟩ c
theorem blk_set3 {W:World} {B:Nat} {t:TypeId} {a b c:Value} (h:Blk W B t [a,b,c]) (a' b' c':Value):Blk (set3 W B a' b' c') B t [a',b',c']:=by
 unfold Blk at h ⊢
 simp [set3,World.setCell,Array.getElem?_modify,h]
def set5 (W:World) (B:Nat) (a b c d e:Value):World:=((((W.setCell ⟨B,0,none⟩ a).setCell ⟨B,1,none⟩ b).setCell ⟨B,2,none⟩ c).setCell ⟨B,3,none⟩ d).setCell ⟨B,4,none⟩ e
theorem grown_set (W:World) (b i:Nat) (v:Value):W.grownBy (W.setCell ⟨b,i,none⟩ v) (some b):=
 ⟨rfl,rfl,rfl,by simp [World.setCell],fun i _ hne => Below.heap_setCell _ _ _ _ (fun e => hne (by rw [e]))⟩
theorem grown_set3 (W:World) (B:Nat) (a b c:Value):W.grownBy (set3 W B a b c) (some B):=((grown_set _ _ _ _).trans (grown_set _ _ _ _)).trans (grown_set _ _ _ _)
theorem below_grew {n:Nat} {w X Y:World} {B:Nat} (h:Below n w X) (hg:X.grownBy Y (some B)) (hn:n ≤ X.heap.size) (hB:n ≤ B):Below n w Y:=h.grown hg hn (fun r e => by cases e;exact hB)
theorem load_decl {w:World} {g:Nat} {a b c:Value} (h:Blk w g 107 [a,b,c]):(loadVar 107 ⟨g,0,none⟩).run Tryz.prog w = .ok (.agg #[a,b,c]) w:=
 run_loadVar_row w g _ 107 #[a,b,c] (0,0) _ h Tryz.underlying107 rfl infoDeclS
theorem results_struct_tmp {fn:Func} {p q:Tmp} {ty:TypeId} (h:fn.results = #[.cell p ty,.tmp q]) (tmps:Array Value) (w:World) (g:Nat) (x:Value)
  (hp:tmps.getD p undef = .pointer (some ⟨g,0,none⟩)) (hl:(loadVar ty ⟨g,0,none⟩).run Tryz.prog w = .ok x w) :
  (results fn tmps).run Tryz.prog w = .ok (.tuple #[x,tmps.getD q undef]) w:=by
 have hp':tmps[p]?.getD undef = .pointer (some ⟨g,0,none⟩):=by simpa using hp
 simp [results,h,hp',asAddr,hl]
/-! ### declarations -/
def dcCells (q:Dc × Value):List Value:=[.string q.1.name,q.2,.bool q.1.imp]
structure DcsAt (b:Nat) (W:World) (v:Value) (qs:List (Dc × Value)):Prop where
 row:W.ownsRow b 107 3 v qs.length (qs.flatMap dcCells)
 each:∀ q ∈ qs,W.ownsRow b 85 5 q.2 q.1.value.length (btsCells q.1.value)
theorem DcsAt.nil (b:Nat) (W:World):DcsAt b W (.slice none 0 0) []:=⟨World.ownsRow_nil _ _ _ _,fun _ h => by cases h⟩
theorem rows_apart {W:World} {b b':Nat} {e e':TypeId} (hne:e ≠ e') {s s':Nat} {v v':Value} {n n':Nat} {xs xs':List Value} (h:W.ownsRow b e s v n xs) (h':W.ownsRow b' e' s' v' n' xs'):v.ownBlock = none ∨ v.ownBlock ≠ v'.ownBlock:=by
 rcases h.2 with ⟨rfl,_⟩ | ⟨g,cap,cur,rfl,_,hb,_⟩
 ·exact .inl rfl
 ·right
  rcases h'.2 with ⟨rfl,_⟩ | ⟨g',cap',cur',rfl,_,hb',_⟩
  ·simp [Value.ownBlock]
  ·intro e2
   simp [Value.ownBlock] at e2
   subst e2
   rw [hb] at hb'
   injection hb' with hb'
   injection hb' with _ h2
   exact hne h2
theorem no_block (x:Value):x.ownBlock = none ∨ x.ownBlock ≠ none:=by
 cases x.ownBlock with
 | none => exact .inl rfl
 | some j => exact .inr (by simp)
theorem DcsAt.kept {b:Nat} {W W':World} {v:Value} {qs:List (Dc × Value)} (h:DcsAt b W v qs) (g:W.grownBy W' none):DcsAt b W' v qs:=
 ⟨h.row.kept g (no_block _),fun q hq => (h.each q hq).kept g (no_block _)⟩
theorem DcsAt.push {b:Nat} {W W':World} {v v':Value} {qs:List (Dc × Value)} {o:Obj} {q:Dc × Value} (h:DcsAt b W v qs)
  (h1:W.ownsRow b 85 5 q.2 q.1.value.length (btsCells q.1.value))
  (hg:(W.alloc o).grownBy W' v.ownBlock) (hr:W'.ownsRow b 107 3 v' (qs.length + 1) (qs.flatMap dcCells ++ dcCells q)):DcsAt b W' v' (qs ++ [q]):=by
 have keep:∀ {x:Value} {n:Nat} {xs:List Value},W.ownsRow b 85 5 x n xs → W'.ownsRow b 85 5 x n xs:=fun hx =>
  (hx.alloc o).kept hg (rows_apart (e:=85) (e':=107) (by decide) (hx.alloc o) (h.row.alloc o))
 refine ⟨?_,fun p hp => ?_⟩
 ·rw [List.length_append,List.flatMap_append]
  simpa using hr
 ·rcases List.mem_append.1 hp with hp | hp
  ·exact keep (h.each p hp)
  ·obtain rfl:p = q:=by simpa using hp
   exact keep h1
end Go.Proofs.YtcmmdojlhfmddaaGreat.Dc

/- decl.partLast and decl.withoutMark, at every slice of tokens. -/
namespace Go.Proofs.YtcmmdojlhfmddaaGreat.Dc
open Go Go.RowKit Go.Shelf
theorem str_ne {z:ByteArray} (h:z ≠ importantT):(z.toList == [105,109,112,111,114,116,97,110,116]) = false:=by
 rw [ByteArray.toList_eq,beq_eq_false_iff_ne]
 intro e
 exact h (ByteArray.ext (Array.toList_inj.1 e))
theorem refLower_any (s:ByteArray) (w:World) (hs:s.size ≤ maxLen):Calls Tryz.prog 67 #[.string s] w fun e w' => e = .returned (.string (lowT s)) ∧ Below w.heap.size w w':=Lw.refLower_any s w hs
end Go.Proofs.YtcmmdojlhfmddaaGreat.Dc

/- decl.declaration, at every slice of tokens. -/
namespace Go.Proofs.YtcmmdojlhfmddaaGreat.Dc
open Go Go.RowKit Go.Shelf
def OneDecl (n:Nat) (l:List Bt) (e:Ending) (w':World):Prop:=
 (declOf l = none ∧ e = .returned (.tuple #[.agg #[.string ⟨#[]⟩,.slice none 0 0,.bool false],.bool false])) ∨ ∃ d x,declOf l = some d ∧ e = .returned (.tuple #[.agg #[.string d.name,x,.bool d.imp],.bool true]) ∧ w'.ownsRow n 85 5 x d.value.length (btsCells d.value)
end Go.Proofs.YtcmmdojlhfmddaaGreat.Dc

/- The document's own decl (one declaration), at every slice of tokens. -/
set_option maxRecDepth 100000
namespace Go.Proofs.YtcmmdojlhfmddaaGreat.Dc
open Go Go.RowKit Go.Shelf
theorem trim_pre {V a:List Bt} {t:Bt} (h:dropW V = V) (e:V = a ++ [t]):endW (dropW a) = endW a:=by
 have:a = V.take a.length:=by rw [e,List.take_append_of_le_length (Nat.le_refl _),List.take_of_length_le (Nat.le_refl _)]
 rw [this,dropW_take h]
theorem dropW_pre {V a:List Bt} {t:Bt} (h:dropW V = V) (e:V = a ++ [t]):dropW a = a:=by
 have:a = V.take a.length:=by rw [e,List.take_append_of_le_length (Nat.le_refl _),List.take_of_length_le (Nat.le_refl _)]
 rw [this,dropW_take h]
set_option maxHeartbeats 8000000 in
theorem refDecl_any (v:Value) (l:List Bt) (w:World) (hv:BtsAt w.heap.size w v l) (ht:∀ t ∈ l,t.text.size ≤ maxLen) (hl:l.length ≤ 1000000) (h0:l ≠ []) :
  Calls Tryz.prog 44 #[v] w fun e w' => OneDecl w.heap.size l e w' ∧ Below w.heap.size w w':=by
 obtain ⟨j0,ji,jz0,jz1,jz2⟩:=info_parts infoTk6
 cases l with
 | nil => exact absurd rfl h0
 | cons t r =>
 obtain ⟨bk,off,cap,rfl,h1,h2,hb,hc,hr⟩:=hv.first
 obtain ⟨x0,x1,_⟩:=hc
 unfold maxLen at h2
 have hz:(0:Int) < (r.length:Int) + 1:=by omega
 have hr1:(1:Int) ≤ (r.length:Int) + 1:=by omega
 have hr2:((r.length + 1:Nat):Int) ≤ (cap:Int):=by omega
 have hcp:(1:Int) ≤ (cap:Int):=by omega
 have b0:Below w.heap.size w (w.alloc (.cells #[.string ⟨#[]⟩,.slice none 0 0,.bool false] 107)):=(Below.refl _ w).alloc (Nat.le_refl _) _
 have k0:=Blk.new w 107 [.string ⟨#[]⟩,.slice none 0 0,.bool false]
 have hs0:(w.alloc (.cells #[.string ⟨#[]⟩,.slice none 0 0,.bool false] 107)).heap.size = w.heap.size + 1:=World.size_alloc _ _
 replace x0:=(b0.cell (p:=⟨bk,off,none⟩) hb).trans x0
 replace x1:=(b0.cell (p:=⟨bk,off + 1,none⟩) hb).trans x1
 go_enter Tryz.func44,Tryz.ntmps44
 go_upto_region 1 with fail
 obtain ⟨⟨c0,c1,c2⟩,f0,f1,f2⟩:=blk3 k0
 replace k0:Blk (w.alloc (.cells #[.string ⟨#[]⟩,.slice none 0 0,.bool false] 107)) w.heap.size _ _:=k0
 generalize w.alloc (.cells #[.string ⟨#[]⟩,.slice none 0 0,.bool false] 107) = W at *
 have bz:=below_grew b0 (grown_set3 W w.heap.size (.string ⟨#[]⟩) (.slice none 0 0) (.bool false)) (by omega) (Nat.le_refl _)
 by_cases hk:t.kind = 1
 ·rw [hk] at x0
  have hlow:=refLower_any t.text W (ht t (List.mem_cons_self ..))
  obtain ⟨LT,hLT⟩:∃ LT,lowT t.text = LT:=⟨_,rfl⟩
  rw [hLT] at hlow
  obtain ⟨pp,hpp⟩:∃ pp:Option Addr,(if cap = 1 then some (⟨bk,off,none⟩:Addr) else some ⟨bk,off + 5,none⟩) = pp:=⟨_,rfl⟩
  rw [hpp] at hr
  obtain ⟨R,hR⟩:∃ R,dropW r = R:=⟨_,rfl⟩
  go_wp2_with fail
  refine hlow.mono ?_
  clear hlow
  rintro e w1 ⟨rfl,b1⟩
  have b01:=below_next b0 b1
  have hs01:=b1.size
  have b2:Below w1.heap.size w1 (w1.alloc (.cells #[.string LT,.slice none 0 0,.bool false] 107)):=(Below.refl _ w1).alloc (Nat.le_refl _) _
  have k2:=Blk.new w1 107 [.string LT,.slice none 0 0,.bool false]
  have hs2:(w1.alloc (.cells #[.string LT,.slice none 0 0,.bool false] 107)).heap.size = w1.heap.size + 1:=World.size_alloc _ _
  have kk0:=(k0.below b1 k0.lt).below b2 (by have:=k0.lt;omega)
  have b02:=below_next b01 b2
  have hr2':=hr.below b02
  clear x0 x1 c0 c1 c2 f0 f1 f2 hr
  go_upto_block 0 with fail
  replace k2:Blk (w1.alloc (.cells #[.string LT,.slice none 0 0,.bool false] 107)) w1.heap.size _ _:=k2
  generalize w1.alloc (.cells #[.string LT,.slice none 0 0,.bool false] 107) = W2 at *
  have hs0w:=k0.lt
  go_cut [0] (fun x wx => BtsAt w.heap.size W2 x R ∧ W2 = wx)
  case first =>
   go_wp2_with fail
   go_loopw [0] (fun x wr => ∃ (l':List Bt) (v':Value),v' = x ∧ BtsAt w.heap.size W2 v' l' ∧ dropW l' = R ∧ wr = W2) (fun x _ => lenOf x)
   case atStart => exact ⟨r,_,rfl,hr2',hR,rfl⟩
   case round =>
    obtain ⟨l',v',rfl,hv',hA,rfl⟩:=hrel
    clear hR hr2' hv hpp
    cases l' with
    | nil =>
     obtain rfl:[] = R:=hA
     have hv2:=hv'
     obtain ⟨p,cap,rfl⟩:=hv'.empty
     clear hv'
     go_wp2
     go_meet
     exact ⟨hv2,rfl⟩
    | cons t2 r2 =>
     obtain ⟨bk2,off2,cap2,rfl,g1,g2,gb,⟨gc,_⟩,gr⟩:=hv'.first
     have hpos:(0:Int) < (r2.length:Int) + 1:=by omega
     have hcp2:(1:Int) ≤ (cap2:Int):=by omega
     have hr12:(1:Int) ≤ (r2.length:Int) + 1:=by omega
     unfold maxLen at g2
     have hr22:((r2.length + 1:Nat):Int) ≤ (cap2:Int):=by omega
     by_cases h9:t2.kind = 9
     ·rw [h9] at gc
      have HA:Hid (dropW r2 = R):=by show _ = _;rw [← hA,dropW_yes h9]
      clear hA hv' h9
      by_cases hc1:cap2 = 1
      ·subst hc1
       obtain rfl:r2 = []:=List.length_eq_zero_iff.1 (by omega)
       rw [if_pos rfl] at gr
       go_wp2
       first
        | exact ⟨⟨[],_,rfl,gr,HA,by first | rfl | trivial⟩,by simp [lenOf]⟩
        | (refine ⟨?_,by simp [lenOf]⟩;(repeat apply Exists.intro);exact ⟨⟨[],_,rfl,gr,HA,by first | rfl | trivial⟩,rfl⟩)
      ·rw [if_neg hc1] at gr
       go_wp2
       first
        | exact ⟨⟨r2,_,rfl,gr,HA,by first | rfl | trivial⟩,by simp [lenOf]⟩
        | (refine ⟨?_,by simp [lenOf]⟩;(repeat apply Exists.intro);exact ⟨⟨r2,_,rfl,gr,HA,by first | rfl | trivial⟩,rfl⟩)
     ·obtain rfl:t2 :: r2 = R:=by rw [← hA,dropW_no h9]
      have h9':(t2.kind == 9) = false:=by simpa using h9
      clear hA gr
      generalize t2.kind = k at gc h9'
      clear h9
      go_wp2
      go_meet
      exact ⟨hv',rfl⟩
  case rest =>
   obtain ⟨hv1,rfl⟩:=hcut
   clear hr2' hpp
   cases R with
   | nil =>
    obtain ⟨p1,cap1,rfl⟩:=hv1.empty
    have hd:declOf (t :: r) = none:=by simp [declOf,hk,hR]
    have bz2:=below_grew b02 (grown_set3 W2 w.heap.size (.string ⟨#[]⟩) (.slice none 0 0) (.bool false)) (by omega) (Nat.le_refl _)
    obtain ⟨⟨c0,c1,c2⟩,f0,f1,f2⟩:=blk3 kk0
    clear hv1 hR hv
    go_wp2
    refine bodyPost_ret (results_struct_tmp rfl _ _ w.heap.size _ rfl (load_decl (blk_set3 kk0 _ _ _))) rfl ?_
    exact ⟨.inl ⟨hd,rfl⟩,bz2⟩
   | cons c vv =>
    obtain ⟨bk1,off1,cap1,rfl,g1,g2,gb,⟨y0,_⟩,hvv⟩:=hv1.first
    unfold maxLen at g2
    have hz1:¬ (vv.length:Int) + 1 = 0:=by omega
    have hz1':((vv.length:Int) + 1 == 0) = false:=by simpa using hz1
    have hq1:(1:Int) ≤ (vv.length:Int) + 1:=by omega
    have hq2:((vv.length + 1:Nat):Int) ≤ (cap1:Int):=by omega
    have hq3:(1:Int) ≤ (cap1:Int):=by omega
    by_cases h11:c.kind = 11
    ·have hd:declOf (t :: r) = some ⟨LT,(unmark (endW (dropW vv))).1,(unmark (endW (dropW vv))).2⟩:=by simp [declOf,hk,hR,h11,hLT]
     rw [h11] at y0
     obtain ⟨pq,hpq⟩:∃ pq:Option Addr,(if cap1 = 1 then some (⟨bk1,off1,none⟩:Addr) else some ⟨bk1,off1 + 5,none⟩) = pq:=⟨_,rfl⟩
     rw [hpq] at hvv
     have h4:=trim_any _ vv W2 _ hvv
     have hsub:∀ u ∈ vv,u ∈ t :: r:=fun u hu => List.mem_cons_of_mem _ (dropW_mem (by rw [hR];exact List.mem_cons_of_mem _ hu))
     have hvl:vv.length ≤ 1000000:=by
      have:=dropW_len r
      rw [hR] at this
      simp only [List.length_cons] at this hl
      omega
     have hM1:∀ u ∈ endW (dropW vv),u.text.size ≤ maxLen:=fun u hu => ht u (hsub u (dropW_mem (endW_mem hu)))
     have hVl:(endW (dropW vv)).length ≤ 1000000:=Nat.le_trans (endW_len _) (Nat.le_trans (dropW_len _) hvl)
     have hVd:dropW (endW (dropW vv)) = endW (dropW vv):=dropW_endW (dropW_dropW vv)
     have hVe:endW (endW (dropW vv)) = endW (dropW vv):=endW_endW _
     generalize endW (dropW vv) = V at *
     clear hv1 hR hv
     go_wp2_with fail
     refine h4.mono ?_
     clear h4
     rintro e w3 ⟨v3,rfl,hv3,rfl⟩
     clear hpq hvv y0
     by_cases hV:V = []
     ·subst hV
      rw [show unmark [] = ([],false) from rfl] at hd
      have hv3':=hv3
      obtain ⟨p3,cap3,rfl⟩:=hv3.empty
      have hsrcE:=btsSrc hv3'
      have hlE:([]:List Bt).length ≤ 1000000:=by simp
      have hszE:=b02.size
      have k2E:=k2
      have k0E:=kk0
      have bwE:=b02
      have hltE:=k2E.lt
      obtain ⟨⟨c0,c1,c2⟩,f0,f1,f2⟩:=blk3 k2E
      go_upto_region 18 with (at_builtin;refine wpList_append_src _ rfl _ _ 53 rfl (w3).heap.size 85 j0 (.agg #[.int .i64 0,.string ⟨#[]⟩,.int .i64 0,.bool false,.int .i64 0]) 5 48 Tryz.underlying53 ji jz0 jz1 jz2 rfl (by decide) _ 0 [] rfl (World.ownsRow_nil _ _ _ _) _ ([]:List Bt).length (btsCells ([]:List Bt)) rfl (btsCells_length ([]:List Bt)) hsrcE (btsCells_one ([]:List Bt)) (by unfold maxLen;omega) (by omega) (Nat.le_refl _) ?_;intro v9 w9 hown9 hgrow9;rw [Nat.zero_add,List.nil_append] at hown9;obtain ⟨q9,c9,rfl⟩:=form_of hown9;replace k2E:=k2E.kept hgrow9 (show some _ ≠ none by simp);replace k0E:=k0E.kept hgrow9 (show some _ ≠ none by simp);clear c0 c1 c2 f0 f1 f2;obtain ⟨⟨c0,c1,c2⟩,f0,f1,f2⟩:=blk3 k2E)
      have b9:Below (w3).heap.size (w3) w9:=(Below.refl _ _).grown hgrow9 (Nat.le_refl _) (fun r e => by cases e)
      have g9:=grown_set w9 w1.heap.size 1 (.slice q9 ([]:List Bt).length c9)
      have k2F:Blk (w9.setCell ⟨w1.heap.size,1,none⟩ (.slice q9 ([]:List Bt).length c9)) w1.heap.size 107 [.string LT,.slice q9 ([]:List Bt).length c9,.bool false]:=by
       unfold Blk at k2E ⊢
       simp [World.setCell,Array.getElem?_modify,k2E]
      have k0F:=k0E.kept g9 (by simp;omega)
      have rF:=hown9.kept g9 (by
       cases hq9:(Value.slice q9 ([]:List Bt).length c9).ownBlock with
       | none => exact .inl rfl
       | some j =>
        have:=(World.ownsRow.lt hown9 j hq9).1
        exact .inr (by simp;omega))
      have bF:Below w.heap.size w (w9.setCell ⟨w1.heap.size,1,none⟩ (.slice q9 ([]:List Bt).length c9)):=below_grew (below_next bwE b9) g9 (by have:=b9.size;omega) (by omega)
      have hF:w1.heap.size < (w9.setCell ⟨w1.heap.size,1,none⟩ (.slice q9 ([]:List Bt).length c9)).heap.size:=k2F.lt
      clear c0 c1 c2 f0 f1 f2 hsrcE hown9 hgrow9 b9 g9 k0E k2E
      generalize w9.setCell ⟨w1.heap.size,1,none⟩ (.slice q9 ([]:List Bt).length c9) = Z at *
      obtain ⟨⟨c0,c1,c2⟩,f0,f1,f2⟩:=blk3 k2F
      obtain ⟨⟨d0,d1,d2⟩,e0,e1,e2⟩:=blk3 k0F
      go_wp2
      refine bodyPost_ret (results_struct_tmp rfl _ _ w.heap.size _ rfl (load_decl (blk_set3 k0F _ _ _))) rfl ?_
      refine ⟨.inr ⟨_,_,hd,rfl,(owns_base rF hszE).kept (grown_set3 _ _ _ _ _) ?_⟩,below_grew bF (grown_set3 _ _ _ _ _) (by omega) (Nat.le_refl _)⟩
      cases hq9:(Value.slice q9 ([]:List Bt).length c9).ownBlock with
      | none => exact .inl rfl
      | some j =>
       have:=(World.ownsRow.lt rF j hq9).1
       exact .inr (by simp;omega)
     ·obtain ⟨a,u,rfl⟩:=split_last hV
      have hlast:lastT (a ++ [u]) = some (a,u):=lastT_some hVe
      obtain ⟨bk3,off3,cap3,rfl,i1,i2,ib,⟨z0,z1,_⟩,hra⟩:=hv3.last
      unfold maxLen at i2
      have hpos:(0:Int) < (a.length:Int) + 1:=by omega
      have hsb:IntKind.i64.wrap ((a.length:Int) + 1 - 1) = (a.length:Int):=by rw [IntKind.wrap_i64];omega
      have hsb2:IntKind.i64.wrap (a.length:Int) = (a.length:Int):=by rw [IntKind.wrap_i64];omega
      have hlt3:(a.length:Int) < (a.length:Int) + 1:=by omega
      have hac:(a.length:Int) ≤ (cap3:Int):=by omega
      have hc30:¬ cap3 = 0:=by omega
      have hul:(a ++ [u]).length = a.length + 1:=by simp
      by_cases hu1:u.kind = 1
      ·rw [hu1] at z0
       have hlowu:=fun X => refLower_any u.text X (hM1 u (by simp))
       by_cases hui:lowT u.text = importantT
       ·have hMW:isMarkWord u = true:=by simp [isMarkWord,hu1,hui]
        rw [hui] at hlowu
        have h5:=fun X (h:BtsAt w.heap.size X (.slice (some ⟨bk3,off3,none⟩) a.length cap3) a) => trim_any _ a X w.heap.size h
        rw [trim_pre hVd rfl] at h5
        unfold importantT at hlowu
        clear hV
        go_wp2_with fail
        refine (hlowu _).mono ?_
        clear hlowu
        rintro e w4 ⟨rfl,b4⟩
        have bw4:=below_next b02 b4
        have hra4:=hra.below (b4.mono (by omega))
        have hv34:=hv3.below (b4.mono (by omega))
        have k24:=k2.below b4 (by omega)
        have k04:=kk0.below b4 (by omega)
        go_wp2_with fail
        refine (h5 _ hra4).mono ?_
        clear h5
        rintro e w5 ⟨v5,rfl,hv5,rfl⟩
        by_cases hw:endW a = []
        ·rw [show unmark (a ++ [u]) = (a ++ [u],false) by simp [unmark,hlast,hMW,lastT_nil hw]] at hd
         rw [hw] at hv5
         obtain ⟨p5,cap5,rfl⟩:=hv5.empty
         generalize a ++ [u] = U at hd hv34 hVl
         clear hul
         have hsrcE:=btsSrc hv34
         have hlE:U.length ≤ 1000000:=by assumption
         have hszE:=bw4.size
         have k2E:=k24
         have k0E:=k04
         have bwE:=bw4
         have hltE:=k2E.lt
         obtain ⟨⟨c0,c1,c2⟩,f0,f1,f2⟩:=blk3 k2E
         go_upto_region 18 with (at_builtin;refine wpList_append_src _ rfl _ _ 53 rfl (w5).heap.size 85 j0 (.agg #[.int .i64 0,.string ⟨#[]⟩,.int .i64 0,.bool false,.int .i64 0]) 5 48 Tryz.underlying53 ji jz0 jz1 jz2 rfl (by decide) _ 0 [] rfl (World.ownsRow_nil _ _ _ _) _ U.length (btsCells U) rfl (btsCells_length U) hsrcE (btsCells_one U) (by unfold maxLen;omega) (by omega) (Nat.le_refl _) ?_;intro v9 w9 hown9 hgrow9;rw [Nat.zero_add,List.nil_append] at hown9;obtain ⟨q9,c9,rfl⟩:=form_of hown9;replace k2E:=k2E.kept hgrow9 (show some _ ≠ none by simp);replace k0E:=k0E.kept hgrow9 (show some _ ≠ none by simp);clear c0 c1 c2 f0 f1 f2;obtain ⟨⟨c0,c1,c2⟩,f0,f1,f2⟩:=blk3 k2E)
         have b9:Below (w5).heap.size (w5) w9:=(Below.refl _ _).grown hgrow9 (Nat.le_refl _) (fun r e => by cases e)
         have g9:=grown_set w9 w1.heap.size 1 (.slice q9 U.length c9)
         have k2F:Blk (w9.setCell ⟨w1.heap.size,1,none⟩ (.slice q9 U.length c9)) w1.heap.size 107 [.string LT,.slice q9 U.length c9,.bool false]:=by
          unfold Blk at k2E ⊢
          simp [World.setCell,Array.getElem?_modify,k2E]
         have k0F:=k0E.kept g9 (by simp;omega)
         have rF:=hown9.kept g9 (by
          cases hq9:(Value.slice q9 U.length c9).ownBlock with
          | none => exact .inl rfl
          | some j =>
           have:=(World.ownsRow.lt hown9 j hq9).1
           exact .inr (by simp;omega))
         have bF:Below w.heap.size w (w9.setCell ⟨w1.heap.size,1,none⟩ (.slice q9 U.length c9)):=below_grew (below_next bwE b9) g9 (by have:=b9.size;omega) (by omega)
         have hF:w1.heap.size < (w9.setCell ⟨w1.heap.size,1,none⟩ (.slice q9 U.length c9)).heap.size:=k2F.lt
         clear c0 c1 c2 f0 f1 f2 hsrcE hown9 hgrow9 b9 g9 k0E k2E
         generalize w9.setCell ⟨w1.heap.size,1,none⟩ (.slice q9 U.length c9) = Z at *
         obtain ⟨⟨c0,c1,c2⟩,f0,f1,f2⟩:=blk3 k2F
         obtain ⟨⟨d0,d1,d2⟩,e0,e1,e2⟩:=blk3 k0F
         go_wp2
         refine bodyPost_ret (results_struct_tmp rfl _ _ w.heap.size _ rfl (load_decl (blk_set3 k0F _ _ _))) rfl ?_
         refine ⟨.inr ⟨_,_,hd,rfl,(owns_base rF hszE).kept (grown_set3 _ _ _ _ _) ?_⟩,below_grew bF (grown_set3 _ _ _ _ _) (by omega) (Nat.le_refl _)⟩
         cases hq9:(Value.slice q9 U.length c9).ownBlock with
         | none => exact .inl rfl
         | some j =>
          have:=(World.ownsRow.lt rF j hq9).1
          exact .inr (by simp;omega)
        ·obtain ⟨a2,u2,hw2⟩:=split_last hw
         have hlast2:=lastT_some hw2
         have htr:endW (dropW a2) = endW a2:=trim_pre (V:=endW a) (t:=u2) (dropW_endW (dropW_pre hVd rfl)) hw2
         rw [hw2] at hv5
         obtain ⟨bk5,off5,cap5,rfl,l1,l2,lb,⟨s0,_,_,_,s4⟩,hra2⟩:=hv5.last
         unfold maxLen at l2
         have hpos5:(0:Int) < (a2.length:Int) + 1:=by omega
         have hsb5:IntKind.i64.wrap ((a2.length:Int) + 1 - 1) = (a2.length:Int):=by rw [IntKind.wrap_i64];omega
         have hsb25:IntKind.i64.wrap (a2.length:Int) = (a2.length:Int):=by rw [IntKind.wrap_i64];omega
         have hlt35:(a2.length:Int) < (a2.length:Int) + 1:=by omega
         have hac5:(a2.length:Int) ≤ (cap5:Int):=by omega
         have hc50:¬ cap5 = 0:=by omega
         by_cases h10:u2.kind = 10
         ·rw [h10] at s0
          by_cases h33:u2.c = 33
          ·rw [h33] at s4
           rw [show unmark (a ++ [u]) = (endW a2,true) by simp [unmark,hlast,hMW,hlast2,isMarkSign,h10,h33]] at hd
           have hEl:(endW a2).length ≤ 1000000:=by
            have e1:=endW_len a2
            have e2:=endW_len a
            rw [hw2] at e2
            simp at e2 hVl
            omega
           have h6:=fun X (h:BtsAt w.heap.size X (.slice (some ⟨bk5,off5,none⟩) a2.length cap5) a2) => trim_any _ a2 X w.heap.size h
           rw [htr] at h6
           generalize endW a2 = V6 at *
           obtain ⟨⟨c0,c1,c2⟩,f0,f1,f2⟩:=blk3 k24
           have g6:=grown_set w5 w1.heap.size 2 (.bool true)
           have k26:Blk (w5.setCell ⟨w1.heap.size,2,none⟩ (.bool true)) w1.heap.size 107 [.string LT,.slice none 0 0,.bool true]:=by
            unfold Blk at k24 ⊢
            simp [World.setCell,Array.getElem?_modify,k24]
           have k06:=k04.kept g6 (by simp;omega)
           have b56:Below w.heap.size w5 (w5.setCell ⟨w1.heap.size,2,none⟩ (.bool true)):=below_grew (Below.refl _ _) g6 (by have:=b4.size;omega) (by omega)
           have b6:Below w.heap.size w (w5.setCell ⟨w1.heap.size,2,none⟩ (.bool true)):=below_grew bw4 g6 (by have:=b4.size;omega) (by omega)
           have hra26:=hra2.below b56
           go_upto_region 16 with fail
           clear c0 c1 c2 f0 f1 f2 k24 k04 g6
           generalize w5.setCell ⟨w1.heap.size,2,none⟩ (.bool true) = W6 at *
           go_wp2_with fail
           refine (h6 _ hra26).mono ?_
           clear h6
           rintro e w7 ⟨v7,rfl,hv7,rfl⟩
           have hsrcE:=btsSrc hv7
           have hlE:V6.length ≤ 1000000:=by assumption
           have hszE:=b6.size
           have k2E:=k26
           have k0E:=k06
           have bwE:=b6
           have hltE:=k2E.lt
           obtain ⟨⟨c0,c1,c2⟩,f0,f1,f2⟩:=blk3 k2E
           go_upto_region 18 with (at_builtin;refine wpList_append_src _ rfl _ _ 53 rfl (w7).heap.size 85 j0 (.agg #[.int .i64 0,.string ⟨#[]⟩,.int .i64 0,.bool false,.int .i64 0]) 5 48 Tryz.underlying53 ji jz0 jz1 jz2 rfl (by decide) _ 0 [] rfl (World.ownsRow_nil _ _ _ _) _ V6.length (btsCells V6) rfl (btsCells_length V6) hsrcE (btsCells_one V6) (by unfold maxLen;omega) (by omega) (Nat.le_refl _) ?_;intro v9 w9 hown9 hgrow9;rw [Nat.zero_add,List.nil_append] at hown9;obtain ⟨q9,c9,rfl⟩:=form_of hown9;replace k2E:=k2E.kept hgrow9 (show some _ ≠ none by simp);replace k0E:=k0E.kept hgrow9 (show some _ ≠ none by simp);clear c0 c1 c2 f0 f1 f2;obtain ⟨⟨c0,c1,c2⟩,f0,f1,f2⟩:=blk3 k2E)
           have b9:Below (w7).heap.size (w7) w9:=(Below.refl _ _).grown hgrow9 (Nat.le_refl _) (fun r e => by cases e)
           have g9:=grown_set w9 w1.heap.size 1 (.slice q9 V6.length c9)
           have k2F:Blk (w9.setCell ⟨w1.heap.size,1,none⟩ (.slice q9 V6.length c9)) w1.heap.size 107 [.string LT,.slice q9 V6.length c9,.bool true]:=by
            unfold Blk at k2E ⊢
            simp [World.setCell,Array.getElem?_modify,k2E]
           have k0F:=k0E.kept g9 (by simp;omega)
           have rF:=hown9.kept g9 (by
            cases hq9:(Value.slice q9 V6.length c9).ownBlock with
            | none => exact .inl rfl
            | some j =>
             have:=(World.ownsRow.lt hown9 j hq9).1
             exact .inr (by simp;omega))
           have bF:Below w.heap.size w (w9.setCell ⟨w1.heap.size,1,none⟩ (.slice q9 V6.length c9)):=below_grew (below_next bwE b9) g9 (by have:=b9.size;omega) (by omega)
           have hF:w1.heap.size < (w9.setCell ⟨w1.heap.size,1,none⟩ (.slice q9 V6.length c9)).heap.size:=k2F.lt
           clear c0 c1 c2 f0 f1 f2 hsrcE hown9 hgrow9 b9 g9 k0E k2E
           generalize w9.setCell ⟨w1.heap.size,1,none⟩ (.slice q9 V6.length c9) = Z at *
           obtain ⟨⟨c0,c1,c2⟩,f0,f1,f2⟩:=blk3 k2F
           obtain ⟨⟨d0,d1,d2⟩,e0,e1,e2⟩:=blk3 k0F
           go_wp2
           refine bodyPost_ret (results_struct_tmp rfl _ _ w.heap.size _ rfl (load_decl (blk_set3 k0F _ _ _))) rfl ?_
           refine ⟨.inr ⟨_,_,hd,rfl,(owns_base rF hszE).kept (grown_set3 _ _ _ _ _) ?_⟩,below_grew bF (grown_set3 _ _ _ _ _) (by omega) (Nat.le_refl _)⟩
           cases hq9:(Value.slice q9 V6.length c9).ownBlock with
           | none => exact .inl rfl
           | some j =>
            have:=(World.ownsRow.lt rF j hq9).1
            exact .inr (by simp;omega)
          ·rw [show unmark (a ++ [u]) = (a ++ [u],false) by simp [unmark,hlast,hMW,hlast2,isMarkSign,h33]] at hd
           have h33':(u2.c == 33) = false:=by simpa using h33
           generalize a ++ [u] = U at hd hv34 hVl
           clear hul
           have hsrcE:=btsSrc hv34
           have hlE:U.length ≤ 1000000:=by assumption
           have hszE:=bw4.size
           have k2E:=k24
           have k0E:=k04
           have bwE:=bw4
           have hltE:=k2E.lt
           obtain ⟨⟨c0,c1,c2⟩,f0,f1,f2⟩:=blk3 k2E
           go_upto_region 18 with (at_builtin;refine wpList_append_src _ rfl _ _ 53 rfl (w5).heap.size 85 j0 (.agg #[.int .i64 0,.string ⟨#[]⟩,.int .i64 0,.bool false,.int .i64 0]) 5 48 Tryz.underlying53 ji jz0 jz1 jz2 rfl (by decide) _ 0 [] rfl (World.ownsRow_nil _ _ _ _) _ U.length (btsCells U) rfl (btsCells_length U) hsrcE (btsCells_one U) (by unfold maxLen;omega) (by omega) (Nat.le_refl _) ?_;intro v9 w9 hown9 hgrow9;rw [Nat.zero_add,List.nil_append] at hown9;obtain ⟨q9,c9,rfl⟩:=form_of hown9;replace k2E:=k2E.kept hgrow9 (show some _ ≠ none by simp);replace k0E:=k0E.kept hgrow9 (show some _ ≠ none by simp);clear c0 c1 c2 f0 f1 f2;obtain ⟨⟨c0,c1,c2⟩,f0,f1,f2⟩:=blk3 k2E)
           have b9:Below (w5).heap.size (w5) w9:=(Below.refl _ _).grown hgrow9 (Nat.le_refl _) (fun r e => by cases e)
           have g9:=grown_set w9 w1.heap.size 1 (.slice q9 U.length c9)
           have k2F:Blk (w9.setCell ⟨w1.heap.size,1,none⟩ (.slice q9 U.length c9)) w1.heap.size 107 [.string LT,.slice q9 U.length c9,.bool false]:=by
            unfold Blk at k2E ⊢
            simp [World.setCell,Array.getElem?_modify,k2E]
           have k0F:=k0E.kept g9 (by simp;omega)
           have rF:=hown9.kept g9 (by
            cases hq9:(Value.slice q9 U.length c9).ownBlock with
            | none => exact .inl rfl
            | some j =>
             have:=(World.ownsRow.lt hown9 j hq9).1
             exact .inr (by simp;omega))
           have bF:Below w.heap.size w (w9.setCell ⟨w1.heap.size,1,none⟩ (.slice q9 U.length c9)):=below_grew (below_next bwE b9) g9 (by have:=b9.size;omega) (by omega)
           have hF:w1.heap.size < (w9.setCell ⟨w1.heap.size,1,none⟩ (.slice q9 U.length c9)).heap.size:=k2F.lt
           clear c0 c1 c2 f0 f1 f2 hsrcE hown9 hgrow9 b9 g9 k0E k2E
           generalize w9.setCell ⟨w1.heap.size,1,none⟩ (.slice q9 U.length c9) = Z at *
           obtain ⟨⟨c0,c1,c2⟩,f0,f1,f2⟩:=blk3 k2F
           obtain ⟨⟨d0,d1,d2⟩,e0,e1,e2⟩:=blk3 k0F
           go_wp2
           refine bodyPost_ret (results_struct_tmp rfl _ _ w.heap.size _ rfl (load_decl (blk_set3 k0F _ _ _))) rfl ?_
           refine ⟨.inr ⟨_,_,hd,rfl,(owns_base rF hszE).kept (grown_set3 _ _ _ _ _) ?_⟩,below_grew bF (grown_set3 _ _ _ _ _) (by omega) (Nat.le_refl _)⟩
           cases hq9:(Value.slice q9 U.length c9).ownBlock with
           | none => exact .inl rfl
           | some j =>
            have:=(World.ownsRow.lt rF j hq9).1
            exact .inr (by simp;omega)
         ·rw [show unmark (a ++ [u]) = (a ++ [u],false) by simp [unmark,hlast,hMW,hlast2,isMarkSign,h10]] at hd
          have h10':(u2.kind == 10) = false:=by simpa using h10
          generalize a ++ [u] = U at hd hv34 hVl
          clear hul
          have hsrcE:=btsSrc hv34
          have hlE:U.length ≤ 1000000:=by assumption
          have hszE:=bw4.size
          have k2E:=k24
          have k0E:=k04
          have bwE:=bw4
          have hltE:=k2E.lt
          obtain ⟨⟨c0,c1,c2⟩,f0,f1,f2⟩:=blk3 k2E
          go_upto_region 18 with (at_builtin;refine wpList_append_src _ rfl _ _ 53 rfl (w5).heap.size 85 j0 (.agg #[.int .i64 0,.string ⟨#[]⟩,.int .i64 0,.bool false,.int .i64 0]) 5 48 Tryz.underlying53 ji jz0 jz1 jz2 rfl (by decide) _ 0 [] rfl (World.ownsRow_nil _ _ _ _) _ U.length (btsCells U) rfl (btsCells_length U) hsrcE (btsCells_one U) (by unfold maxLen;omega) (by omega) (Nat.le_refl _) ?_;intro v9 w9 hown9 hgrow9;rw [Nat.zero_add,List.nil_append] at hown9;obtain ⟨q9,c9,rfl⟩:=form_of hown9;replace k2E:=k2E.kept hgrow9 (show some _ ≠ none by simp);replace k0E:=k0E.kept hgrow9 (show some _ ≠ none by simp);clear c0 c1 c2 f0 f1 f2;obtain ⟨⟨c0,c1,c2⟩,f0,f1,f2⟩:=blk3 k2E)
          have b9:Below (w5).heap.size (w5) w9:=(Below.refl _ _).grown hgrow9 (Nat.le_refl _) (fun r e => by cases e)
          have g9:=grown_set w9 w1.heap.size 1 (.slice q9 U.length c9)
          have k2F:Blk (w9.setCell ⟨w1.heap.size,1,none⟩ (.slice q9 U.length c9)) w1.heap.size 107 [.string LT,.slice q9 U.length c9,.bool false]:=by
           unfold Blk at k2E ⊢
           simp [World.setCell,Array.getElem?_modify,k2E]
          have k0F:=k0E.kept g9 (by simp;omega)
          have rF:=hown9.kept g9 (by
           cases hq9:(Value.slice q9 U.length c9).ownBlock with
           | none => exact .inl rfl
           | some j =>
            have:=(World.ownsRow.lt hown9 j hq9).1
            exact .inr (by simp;omega))
          have bF:Below w.heap.size w (w9.setCell ⟨w1.heap.size,1,none⟩ (.slice q9 U.length c9)):=below_grew (below_next bwE b9) g9 (by have:=b9.size;omega) (by omega)
          have hF:w1.heap.size < (w9.setCell ⟨w1.heap.size,1,none⟩ (.slice q9 U.length c9)).heap.size:=k2F.lt
          clear c0 c1 c2 f0 f1 f2 hsrcE hown9 hgrow9 b9 g9 k0E k2E
          generalize w9.setCell ⟨w1.heap.size,1,none⟩ (.slice q9 U.length c9) = Z at *
          obtain ⟨⟨c0,c1,c2⟩,f0,f1,f2⟩:=blk3 k2F
          obtain ⟨⟨d0,d1,d2⟩,e0,e1,e2⟩:=blk3 k0F
          go_wp2
          refine bodyPost_ret (results_struct_tmp rfl _ _ w.heap.size _ rfl (load_decl (blk_set3 k0F _ _ _))) rfl ?_
          refine ⟨.inr ⟨_,_,hd,rfl,(owns_base rF hszE).kept (grown_set3 _ _ _ _ _) ?_⟩,below_grew bF (grown_set3 _ _ _ _ _) (by omega) (Nat.le_refl _)⟩
          cases hq9:(Value.slice q9 U.length c9).ownBlock with
          | none => exact .inl rfl
          | some j =>
           have:=(World.ownsRow.lt rF j hq9).1
           exact .inr (by simp;omega)
       ·rw [show unmark (a ++ [u]) = (a ++ [u],false) by simp [unmark,hlast,isMarkWord,hui]] at hd
        have hui':=str_ne hui
        generalize lowT u.text = z at *
        go_wp2_with fail
        refine (hlowu _).mono ?_
        clear hlowu
        rintro e w4 ⟨rfl,b4⟩
        have bw4:=below_next b02 b4
        have hv34:=hv3.below (b4.mono (by omega))
        have k24:=k2.below b4 (by omega)
        have k04:=kk0.below b4 (by omega)
        generalize a ++ [u] = U at hd hv34 hVl
        clear hul
        have hsrcE:=btsSrc hv34
        have hlE:U.length ≤ 1000000:=by assumption
        have hszE:=bw4.size
        have k2E:=k24
        have k0E:=k04
        have bwE:=bw4
        have hltE:=k2E.lt
        obtain ⟨⟨c0,c1,c2⟩,f0,f1,f2⟩:=blk3 k2E
        go_upto_region 18 with (at_builtin;refine wpList_append_src _ rfl _ _ 53 rfl (w4).heap.size 85 j0 (.agg #[.int .i64 0,.string ⟨#[]⟩,.int .i64 0,.bool false,.int .i64 0]) 5 48 Tryz.underlying53 ji jz0 jz1 jz2 rfl (by decide) _ 0 [] rfl (World.ownsRow_nil _ _ _ _) _ U.length (btsCells U) rfl (btsCells_length U) hsrcE (btsCells_one U) (by unfold maxLen;omega) (by omega) (Nat.le_refl _) ?_;intro v9 w9 hown9 hgrow9;rw [Nat.zero_add,List.nil_append] at hown9;obtain ⟨q9,c9,rfl⟩:=form_of hown9;replace k2E:=k2E.kept hgrow9 (show some _ ≠ none by simp);replace k0E:=k0E.kept hgrow9 (show some _ ≠ none by simp);clear c0 c1 c2 f0 f1 f2;obtain ⟨⟨c0,c1,c2⟩,f0,f1,f2⟩:=blk3 k2E)
        have b9:Below (w4).heap.size (w4) w9:=(Below.refl _ _).grown hgrow9 (Nat.le_refl _) (fun r e => by cases e)
        have g9:=grown_set w9 w1.heap.size 1 (.slice q9 U.length c9)
        have k2F:Blk (w9.setCell ⟨w1.heap.size,1,none⟩ (.slice q9 U.length c9)) w1.heap.size 107 [.string LT,.slice q9 U.length c9,.bool false]:=by
         unfold Blk at k2E ⊢
         simp [World.setCell,Array.getElem?_modify,k2E]
        have k0F:=k0E.kept g9 (by simp;omega)
        have rF:=hown9.kept g9 (by
         cases hq9:(Value.slice q9 U.length c9).ownBlock with
         | none => exact .inl rfl
         | some j =>
          have:=(World.ownsRow.lt hown9 j hq9).1
          exact .inr (by simp;omega))
        have bF:Below w.heap.size w (w9.setCell ⟨w1.heap.size,1,none⟩ (.slice q9 U.length c9)):=below_grew (below_next bwE b9) g9 (by have:=b9.size;omega) (by omega)
        have hF:w1.heap.size < (w9.setCell ⟨w1.heap.size,1,none⟩ (.slice q9 U.length c9)).heap.size:=k2F.lt
        clear c0 c1 c2 f0 f1 f2 hsrcE hown9 hgrow9 b9 g9 k0E k2E
        generalize w9.setCell ⟨w1.heap.size,1,none⟩ (.slice q9 U.length c9) = Z at *
        obtain ⟨⟨c0,c1,c2⟩,f0,f1,f2⟩:=blk3 k2F
        obtain ⟨⟨d0,d1,d2⟩,e0,e1,e2⟩:=blk3 k0F
        go_wp2
        refine bodyPost_ret (results_struct_tmp rfl _ _ w.heap.size _ rfl (load_decl (blk_set3 k0F _ _ _))) rfl ?_
        refine ⟨.inr ⟨_,_,hd,rfl,(owns_base rF hszE).kept (grown_set3 _ _ _ _ _) ?_⟩,below_grew bF (grown_set3 _ _ _ _ _) (by omega) (Nat.le_refl _)⟩
        cases hq9:(Value.slice q9 U.length c9).ownBlock with
        | none => exact .inl rfl
        | some j =>
         have:=(World.ownsRow.lt rF j hq9).1
         exact .inr (by simp;omega)
      ·rw [show unmark (a ++ [u]) = (a ++ [u],false) by simp [unmark,hlast,isMarkWord,hu1]] at hd
       have hu1':(u.kind == 1) = false:=by simpa using hu1
       generalize a ++ [u] = U at hd hv3 hVl
       clear hul
       have hsrcE:=btsSrc hv3
       have hlE:U.length ≤ 1000000:=by assumption
       have hszE:=b02.size
       have k2E:=k2
       have k0E:=kk0
       have bwE:=b02
       have hltE:=k2E.lt
       obtain ⟨⟨c0,c1,c2⟩,f0,f1,f2⟩:=blk3 k2E
       go_upto_region 18 with (at_builtin;refine wpList_append_src _ rfl _ _ 53 rfl (w3).heap.size 85 j0 (.agg #[.int .i64 0,.string ⟨#[]⟩,.int .i64 0,.bool false,.int .i64 0]) 5 48 Tryz.underlying53 ji jz0 jz1 jz2 rfl (by decide) _ 0 [] rfl (World.ownsRow_nil _ _ _ _) _ U.length (btsCells U) rfl (btsCells_length U) hsrcE (btsCells_one U) (by unfold maxLen;omega) (by omega) (Nat.le_refl _) ?_;intro v9 w9 hown9 hgrow9;rw [Nat.zero_add,List.nil_append] at hown9;obtain ⟨q9,c9,rfl⟩:=form_of hown9;replace k2E:=k2E.kept hgrow9 (show some _ ≠ none by simp);replace k0E:=k0E.kept hgrow9 (show some _ ≠ none by simp);clear c0 c1 c2 f0 f1 f2;obtain ⟨⟨c0,c1,c2⟩,f0,f1,f2⟩:=blk3 k2E)
       have b9:Below (w3).heap.size (w3) w9:=(Below.refl _ _).grown hgrow9 (Nat.le_refl _) (fun r e => by cases e)
       have g9:=grown_set w9 w1.heap.size 1 (.slice q9 U.length c9)
       have k2F:Blk (w9.setCell ⟨w1.heap.size,1,none⟩ (.slice q9 U.length c9)) w1.heap.size 107 [.string LT,.slice q9 U.length c9,.bool false]:=by
        unfold Blk at k2E ⊢
        simp [World.setCell,Array.getElem?_modify,k2E]
       have k0F:=k0E.kept g9 (by simp;omega)
       have rF:=hown9.kept g9 (by
        cases hq9:(Value.slice q9 U.length c9).ownBlock with
        | none => exact .inl rfl
        | some j =>
         have:=(World.ownsRow.lt hown9 j hq9).1
         exact .inr (by simp;omega))
       have bF:Below w.heap.size w (w9.setCell ⟨w1.heap.size,1,none⟩ (.slice q9 U.length c9)):=below_grew (below_next bwE b9) g9 (by have:=b9.size;omega) (by omega)
       have hF:w1.heap.size < (w9.setCell ⟨w1.heap.size,1,none⟩ (.slice q9 U.length c9)).heap.size:=k2F.lt
       clear c0 c1 c2 f0 f1 f2 hsrcE hown9 hgrow9 b9 g9 k0E k2E
       generalize w9.setCell ⟨w1.heap.size,1,none⟩ (.slice q9 U.length c9) = Z at *
       obtain ⟨⟨c0,c1,c2⟩,f0,f1,f2⟩:=blk3 k2F
       obtain ⟨⟨d0,d1,d2⟩,e0,e1,e2⟩:=blk3 k0F
       go_wp2
       refine bodyPost_ret (results_struct_tmp rfl _ _ w.heap.size _ rfl (load_decl (blk_set3 k0F _ _ _))) rfl ?_
       refine ⟨.inr ⟨_,_,hd,rfl,(owns_base rF hszE).kept (grown_set3 _ _ _ _ _) ?_⟩,below_grew bF (grown_set3 _ _ _ _ _) (by omega) (Nat.le_refl _)⟩
       cases hq9:(Value.slice q9 U.length c9).ownBlock with
       | none => exact .inl rfl
       | some j =>
        have:=(World.ownsRow.lt rF j hq9).1
        exact .inr (by simp;omega)
    ·have hd:declOf (t :: r) = none:=by simp [declOf,hk,hR,h11]
     have h11':(c.kind != 11) = true:=by simpa using h11
     have bz2:=below_grew b02 (grown_set3 W2 w.heap.size (.string ⟨#[]⟩) (.slice none 0 0) (.bool false)) (by omega) (Nat.le_refl _)
     obtain ⟨⟨c0,c1,c2⟩,f0,f1,f2⟩:=blk3 kk0
     clear hv1 hR hv hvv
     generalize c.kind = ck at *
     go_wp2
     refine bodyPost_ret (results_struct_tmp rfl _ _ w.heap.size _ rfl (load_decl (blk_set3 kk0 _ _ _))) rfl ?_
     exact ⟨.inl ⟨hd,rfl⟩,bz2⟩
 ·have hd:declOf (t :: r) = none:=by simp [declOf,hk]
  have hk':(t.kind != 1) = true:=by simpa using hk
  clear hr hv
  generalize t.kind = ck at *
  go_wp2
  refine bodyPost_ret (results_struct_tmp rfl _ _ w.heap.size _ rfl (load_decl (blk_set3 k0 _ _ _))) rfl ?_
  exact ⟨.inl ⟨hd,rfl⟩,bz⟩
end Go.Proofs.YtcmmdojlhfmddaaGreat.Dc

/- decl.Parse at every slice of tokens that is not too long. -/
namespace Go.Proofs.YtcmmdojlhfmddaaGreat.Dc
open Go Go.RowKit Go.Shelf
theorem upto_two {r:List Int}:upto isEnd (2 :: r) = 1 + upto isEnd r:=by
 have e:run [] (2 :: r) = 1:=run_cons_nil r (by decide)
 rw [upto_cons,if_neg (by decide),e]
 rfl
theorem at_next {ts:List Bt} {k:Nat} (h:k < ts.length) (h2:ts[k].kind = 2) :
  upto isEnd ((kds ts).drop k) = 1 + upto isEnd ((kds ts).drop (k + 1)) ∧ decls (ts.drop k) = decls (ts.drop (k + 1 + upto isEnd ((kds ts).drop (k + 1)) + run [] ((kds ts).drop (k + 1 + upto isEnd ((kds ts).drop (k + 1)))))):=by
 constructor
 ·rw [kds_at h,h2,upto_two]
 ·rw [List.drop_eq_getElem_cons h,decls_at h2,List.drop_drop,kds_drop,List.drop_drop]
  simp only [Nat.add_assoc]
theorem one_next {ts:List Bt} {k:Nat} (h:k < ts.length) (h9:ts[k].kind ≠ 9) (h12:ts[k].kind ≠ 12) (h2:ts[k].kind ≠ 2) :
  0 < upto isSemi ((kds ts).drop k) ∧ k + upto isSemi ((kds ts).drop k) ≤ ts.length ∧ decls (ts.drop k) = (declOf ((ts.drop k).take (upto isSemi ((kds ts).drop k)))).toList ++ decls (ts.drop (k + upto isSemi ((kds ts).drop k))):=by
 have hl:=upto_le' isSemi (ts.drop k)
 rw [List.length_drop,kds_drop] at hl
 have hp:=upto_semi_pos (t:=ts[k]) (r:=ts.drop (k + 1)) h12
 have ho:=decls_one (t:=ts[k]) (r:=ts.drop (k + 1)) h9 h12 h2
 rw [← List.drop_eq_getElem_cons h,kds_drop] at hp ho
 rw [List.drop_drop] at ho
 exact ⟨hp,by omega,ho⟩
theorem mem_part {ts:List Bt} {k m:Nat} {t:Bt} (h:t ∈ (ts.drop k).take m):t ∈ ts:=List.mem_of_mem_drop (List.mem_of_mem_take h)
end Go.Proofs.YtcmmdojlhfmddaaGreat.Dc

/- The document's own 'at' and Decls, at every slice of tokens that is not too long: the same declarations. -/
set_option maxRecDepth 100000
namespace Go.Proofs.YtcmmdojlhfmddaaGreat.Dc
open Go Go.RowKit Go.Shelf
theorem isEnd_12:isEnd 12 = true:=by decide
theorem isEnd_14:isEnd 14 = true:=by decide
theorem isEnd_no {k:Int} (h1:k ≠ 12) (h2:k ≠ 14):isEnd k = false:=by simp [isEnd,h1,h2]
theorem upto_at {p:Int → Bool} {ts:List Bt} {k:Nat} (h:k < ts.length):upto p ((kds ts).drop k) = if p ts[k].kind then 0 else run [] ((kds ts).drop k) + upto p ((kds ts).drop (k + run [] ((kds ts).drop k))):=by
 conv => lhs;rw [kds_at h,upto_cons,← kds_at h,List.drop_drop]
set_option maxHeartbeats 2000000 in
theorem refAt_any (v:Value) (ts:List Bt) (i:Nat) (w:World) (hv:BtsAt w.heap.size w v ts) (hi:i < ts.length) (hl:ts.length ≤ 1000000) :
  Calls Tryz.prog 39 #[v,.int .i64 i] w fun e w' => e = .returned (.int .i64 ((i + 1 + upto isEnd ((kds ts).drop (i + 1)) + run [] ((kds ts).drop (i + 1 + upto isEnd ((kds ts).drop (i + 1)))):Nat):Int)) ∧ Below w.heap.size w w':=by
 obtain ⟨p,cap,rfl⟩:=hv.len
 obtain ⟨J,hJ⟩:∃ J:Nat,i + 1 + upto isEnd ((kds ts).drop (i + 1)) = J:=⟨_,rfl⟩
 rw [hJ]
 obtain ⟨Z,hZ⟩:∃ Z:Nat,J + run [] ((kds ts).drop J) = Z:=⟨_,rfl⟩
 rw [hZ]
 go_enter Tryz.func39,Tryz.ntmps39
 go_wp2
 go_loopw [1,5] (fun x _ wr => ∃ k:Nat,x = .int .i64 k ∧ k ≤ ts.length ∧ k + upto isEnd ((kds ts).drop k) = J ∧ Below w.heap.size w wr) (fun x _ _ => ts.length - (intOf x).toNat)
 case atStart => exact ⟨i + 1,by go_num,by omega,hJ,Below.refl _ _⟩
 case round =>
  obtain ⟨k,rfl,hk,hR,hb⟩:=hrel
  clear hJ
  by_cases hlt:k < ts.length
  ·have hki:(k:Int) < (ts.length:Int):=by omega
   obtain ⟨bk,off,rfl,hbk,_,_,hc,_⟩:=(hv.below hb).get (List.getElem?_eq_getElem hlt)
   have hsk:=refSkip_in (.slice (some ⟨bk,off,none⟩) ts.length cap) ts k wr ((hv.below hb).mono hb.size) hlt hl
   have hrl:=run_drop_le (kds ts) k
   have hrp:=run_drop_pos (ks:=kds ts) (i:=k) (by rw [kds_length];exact hlt)
   rw [kds_length] at hrl
   rw [upto_at hlt] at hR
   by_cases h12:ts[k].kind = 12
   ·rw [h12,isEnd_12,if_pos rfl,Nat.add_zero] at hR
    subst hR
    have e:run [] ((kds ts).drop k) = 1:=by rw [kds_at hlt,h12];exact run_cons_nil _ (by decide)
    rw [h12] at hc
    obtain rfl:k + 1 = Z:=by rw [← hZ,e]
    clear hsk e h12 hZ
    go_wp2
    go_ret
    exact ⟨by first | rfl | (rw [Int.natCast_add];rfl),hb⟩
   ·have h12':(ts[k].kind == 12) = false:=by simpa using h12
    by_cases h14:ts[k].kind = 14
    ·rw [h14,isEnd_14,if_pos rfl,Nat.add_zero] at hR
     subst hR
     rw [h14] at hc
     clear h12 h12' h14
     rw [hZ] at hsk
     clear hZ
     go_wp2_with fail
     refine hsk.mono ?_
     rintro e w2 ⟨rfl,b2⟩
     go_wp2
     go_ret
     exact ⟨rfl,hb.trans (b2.mono hb.size)⟩
    ·have h14':(ts[k].kind == 14) = false:=by simpa using h14
     have HR:Hid (k + run [] ((kds ts).drop k) + upto isEnd ((kds ts).drop (k + run [] ((kds ts).drop k))) = J):=by
      show _ = _
      rw [isEnd_no h12 h14,if_neg (by decide)] at hR
      omega
     clear hR
     generalize ts[k].kind = x at *
     generalize run [] ((kds ts).drop k) = m at *
     go_wp2_with fail
     refine hsk.mono ?_
     rintro e w2 ⟨rfl,b2⟩
     go_wp2
     exact ⟨⟨k + m,rfl,by omega,HR,hb.trans (b2.mono hb.size)⟩,by simp [intOf];omega⟩
  ·have hki:¬ (k:Int) < (ts.length:Int):=by omega
   have e0:(kds ts).drop k = []:=List.drop_eq_nil_iff.2 (by rw [kds_length];omega)
   rw [e0,upto_nil,Nat.add_zero] at hR
   subst hR
   obtain rfl:k = Z:=by rw [← hZ,e0];rfl
   clear e0 hZ
   go_wp2
   go_ret
   exact ⟨rfl,hb⟩
set_option maxHeartbeats 8000000 in
theorem refDecls_any (v:Value) (ts:List Bt) (w:World) (hv:BtsAt w.heap.size w v ts) (ht:∀ t ∈ ts,t.text.size ≤ maxLen) (hl:ts.length ≤ 100000) :
  Calls Tryz.prog 18 #[v] w fun e w' => ∃ v',e = .returned v' ∧ (∃ qs,qs.map Prod.fst = decls ts ∧ DcsAt w.heap.size w' v' qs) ∧ Below w.heap.size w w':=by
 obtain ⟨i0,hi,hz0,hz1,hz2⟩:=info_parts infoDecl
 obtain ⟨p,cap,rfl⟩:=hv.len
 obtain ⟨A,hA⟩:∃ A,decls ts = A:=⟨_,rfl⟩
 rw [hA]
 go_enter Tryz.func18,Tryz.ntmps18
 go_wp2
 go_loopw [3,4] (fun o x wr => ∃ (k:Nat) (qs:List (Dc × Value)) (v':Value),v' = o ∧ x = .int .i64 k ∧ k ≤ ts.length ∧ qs.length ≤ k ∧ DcsAt w.heap.size wr v' qs ∧ qs.map Prod.fst ++ decls (ts.drop k) = A ∧ Below w.heap.size w wr) (fun _ x _ => ts.length - (intOf x).toNat)
 case atStart => exact ⟨0,[],_,rfl,rfl,by omega,by simp,DcsAt.nil _ _,by simpa using hA,Below.refl _ _⟩
 case round =>
  clear hA
  obtain ⟨k,qs,v',rfl,rfl,hk,hql,hR,hA,hb⟩:=hrel
  by_cases hlt:k < ts.length
  ·have hki:(k:Int) < (ts.length:Int):=by omega
   have hd:ts.drop k = ts[k] :: ts.drop (k + 1):=List.drop_eq_getElem_cons hlt
   obtain ⟨bk,off,rfl,hbk,hcap,hcm,hc,_⟩:=(hv.below hb).get (List.getElem?_eq_getElem hlt)
   have hvb:=(hv.below hb).mono hb.size
   have hn:=hb.size
   unfold maxLen at hcm
   by_cases h9:ts[k].kind = 9
   ·have HA:Hid (qs.map Prod.fst ++ decls (ts.drop (k + 1)) = A):=by
     show _ = _
     rw [← hA,hd,decls_pass (.inl h9)]
    rw [h9] at hc
    clear hA hd h9 hvb
    go_wp2
    exact ⟨⟨k + 1,qs,_,rfl,by go_num,by omega,by omega,hR,HA,hb⟩,by simp [intOf];omega⟩
   ·have h9':(ts[k].kind == 9) = false:=by simpa using h9
    by_cases h12:ts[k].kind = 12
    ·have HA:Hid (qs.map Prod.fst ++ decls (ts.drop (k + 1)) = A):=by
      show _ = _
      rw [← hA,hd,decls_pass (.inr h12)]
     rw [h12] at hc
     clear hA hd h9 h9' h12 hvb
     go_wp2
     exact ⟨⟨k + 1,qs,_,rfl,by go_num,by omega,by omega,hR,HA,hb⟩,by simp [intOf];omega⟩
    ·have h12':(ts[k].kind == 12) = false:=by simpa using h12
     by_cases h2:ts[k].kind = 2
     ·obtain ⟨hu,hD⟩:=at_next hlt h2
      have hat:=refAt_any (.slice (some ⟨bk,off,none⟩) ts.length cap) ts k wr hvb hlt (by omega)
      have hle:=upto_le' isEnd (ts.drop (k + 1))
      rw [List.length_drop,kds_drop] at hle
      have hrl:=run_le [] ((kds ts).drop (k + 1 + upto isEnd ((kds ts).drop (k + 1))))
      rw [List.length_drop,kds_length] at hrl
      have HA:Hid (qs.map Prod.fst ++ decls (ts.drop (k + 1 + upto isEnd ((kds ts).drop (k + 1)) + run [] ((kds ts).drop (k + 1 + upto isEnd ((kds ts).drop (k + 1)))))) = A):=by
       show _ = _
       rw [← hA,hD]
      generalize upto isEnd ((kds ts).drop (k + 1)) = m at *
      generalize run [] ((kds ts).drop (k + 1 + m)) = q at *
      rw [h2] at hc
      clear hA hd h2 h9 h12 h9' h12' hu hD
      go_wp2_with fail
      refine hat.mono ?_
      clear hat
      rintro e w2 ⟨rfl,hb2⟩
      go_wp2
      exact ⟨⟨k + 1 + m + q,qs,_,rfl,rfl,by omega,by omega,hR.kept (grown_of_below' hb2 none),HA,below_next hb hb2⟩,by simp [intOf];omega⟩
     ·obtain ⟨hm0,hml,hD⟩:=one_next hlt h9 h12 h2
      have h2':(ts[k].kind == 2) = false:=by simpa using h2
      rw [hD] at hA
      have hmU:k + upto isSemi ((kds ts).drop k) = k + upto isSemi ((kds ts).drop k):=rfl
      generalize hMM:upto isSemi ((kds ts).drop k) = m at hA hm0 hml
      rw [hMM] at hmU
      generalize hE:k + m = E at *
      obtain ⟨l1,hl1⟩:∃ l1,(ts.drop k).take (E - k) = l1:=⟨_,rfl⟩
      have hmE:m = E - k:=by omega
      rw [hmE,hl1] at hA
      have hn1:l1.length = E - k:=by rw [← hl1,List.length_take,List.length_drop];omega
      have hne:l1 ≠ []:=fun e => by rw [e] at hn1;simp at hn1;omega
      have hts:∀ t ∈ l1,t.text.size ≤ maxLen:=fun t h => ht t (mem_part (by rw [hl1];exact h))
      have p1:∀ W,Below w.heap.size w W → BtsAt W.heap.size W (.slice (some ⟨bk,off + k * 5,none⟩) (E - k) (cap - k)) l1:=fun W hW => hl1 ▸ ((hv.below hW).mono hW.size).part (by omega) (by omega) (by unfold maxLen;omega) (fun e => by rw [e] at hlt;simp at hlt)
      have h_a:(k:Int) ≤ (E:Int):=by omega
      have h_b:(E:Int) ≤ (cap:Int):=by omega
      have hck:¬ cap = k:=by omega
      have hEU:Hid (k + upto isSemi ((kds ts).drop k) = E):=by show _ = _;rw [hMM,hE]
      clear hMM hmU
      generalize ts[k].kind = kx at *
      clear hd hD h9 h12 h2
      go_upto_block 2 with fail
      go_cut [4] (fun x wx => x = .int .i64 (E:Int) ∧ Below wr.heap.size wr wx)
      case first =>
       clear p1 hts hne hn1 hl1 hA
       go_wp2_with fail
       go_loopw [4] (fun x wx => ∃ q:Nat,x = .int .i64 q ∧ q ≤ ts.length ∧ q + upto isSemi ((kds ts).drop q) = E ∧ Below wr.heap.size wr wx) (fun x _ => ts.length - (intOf x).toNat)
       case atStart => exact ⟨k,rfl,hk,hEU,Below.refl _ _⟩
       case round =>
        rename World => X
        obtain ⟨q,rfl,hq,hqm,hbX⟩:=hrel
        clear hEU
        have hbw:=below_next hb hbX
        by_cases hqq:q < ts.length
        ·have hqi:(q:Int) < (ts.length:Int):=by omega
         obtain ⟨_,_,ep,_,_,_,hcq,_⟩:=(hv.below hbw).get (List.getElem?_eq_getElem hqq)
         cases ep
         rw [upto_at hqq] at hqm
         by_cases hx:ts[q].kind = 12
         ·rw [hx,isSemi_yes,if_pos rfl,Nat.add_zero] at hqm
          subst hqm
          rw [hx] at hcq
          clear hx
          go_wp2
          go_meet
          exact ⟨rfl,hbX⟩
         ·have hx':(ts[q].kind != 12) = true:=by simpa using hx
          rw [isSemi_no hx,if_neg (by decide)] at hqm
          have HQ:Hid (q + run [] ((kds ts).drop q) + upto isSemi ((kds ts).drop (q + run [] ((kds ts).drop q))) = E):=by show _ = _;omega
          have hsk:=refSkip_in (.slice (some ⟨bk,off,none⟩) ts.length cap) ts q X ((hv.below hbw).mono hbw.size) hqq (by omega)
          have hrl:=run_drop_le (kds ts) q
          have hrp:=run_drop_pos (ks:=kds ts) (i:=q) (by rw [kds_length];exact hqq)
          rw [kds_length] at hrl
          clear hqm
          generalize ts[q].kind = y at *
          generalize run [] ((kds ts).drop q) = z at *
          go_wp2_with fail
          refine hsk.mono ?_
          clear hsk
          rintro e X2 ⟨rfl,hb2⟩
          go_wp2
          first
           | exact ⟨⟨q + z,rfl,by omega,HQ,below_next hbX hb2⟩,by simp [intOf];omega⟩
           | (refine ⟨?_,by simp [intOf];omega⟩;(repeat apply Exists.intro);exact ⟨⟨q + z,rfl,by omega,HQ,below_next hbX hb2⟩,rfl⟩)
        ·have hqi:¬ (q:Int) < (ts.length:Int):=by omega
         have e0:(kds ts).drop q = []:=List.drop_eq_nil_iff.2 (by rw [kds_length];omega)
         rw [e0,upto_nil,Nat.add_zero] at hqm
         subst hqm
         clear e0
         go_wp2
         go_meet
         exact ⟨rfl,hbX⟩
      case rest =>
       obtain ⟨rfl,hb3⟩:=hcut
       rename World => w2
       have hbw:Below w.heap.size w w2:=below_next hb hb3
       have h3:=refDecl_any _ l1 w2 (p1 _ hbw) hts (by omega) hne
       clear hl1 hts hne hn1 p1 hEU hc
       go_wp2_with fail
       refine h3.mono ?_
       clear h3
       rintro e w3 ⟨hone,hb4⟩
       have hbr3:=below_next hb3 hb4
       have hbw3:=below_next hbw hb4
       rcases hone with ⟨hdn,rfl⟩ | ⟨d,x,hds,rfl,rx⟩
       ·have HA:Hid (qs.map Prod.fst ++ decls (ts.drop E) = A):=by
         show _ = _
         rw [← hA,hdn]
         rfl
        have hb5:Below w3.heap.size w3 (w3.alloc (.cells #[.string ⟨#[]⟩,.slice none 0 0,.bool false] 107)):=(Below.refl _ w3).alloc (Nat.le_refl _) _
        have hR5:=hR.kept (grown_of_below' (below_next hbr3 hb5) none)
        have hbw5:=below_next hbw3 hb5
        clear hA hdn
        go_wp2
        exact ⟨⟨E,qs,_,rfl,rfl,by omega,by omega,hR5,HA,hbw5⟩,by simp [intOf];omega⟩
       ·have HA:Hid ((qs ++ [(d,x)]).map Prod.fst ++ decls (ts.drop E) = A):=by
         show _ = _
         rw [← hA,hds]
         simp
        obtain ⟨q3,c3,rfl⟩:=form_of rx
        obtain ⟨dn,dv,di⟩:=d
        simp only at rx HA ⊢
        have hb5:Below w3.heap.size w3 (w3.alloc (.cells #[.string dn,.slice q3 dv.length c3,.bool di] 107)):=(Below.refl _ w3).alloc (Nat.le_refl _) _
        have hR5:=hR.kept (grown_of_below' (below_next hbr3 hb5) none)
        have hbw5:=below_next hbw3 hb5
        have rx5:=(owns_base rx hbw.size).kept (grown_of_below' hb5 none) (no_block _)
        have hs5:=hbw5.size
        have HC:=cells_new (w3.alloc (.cells #[.string dn,.slice q3 dv.length c3,.bool di] 107)) [.string dn,.slice q3 dv.length c3,.bool di] 107
        rw [World.size_alloc] at HC
        clear hA hds
        go_wp2_with (at_builtin;refine wpList_append_own _ rfl _ _ 69 rfl w.heap.size 107 i0 (.agg #[.string ⟨#[]⟩,.slice none 0 0,.bool false]) 3 48 Tryz.underlying69 hi hz0 hz1 hz2 rfl (by decide) _ _ _ rfl (hR5.row.alloc _) _ 1 1 [.string dn,.slice q3 dv.length c3,.bool di] rfl rfl HC (fun u hu => by simp at hu;rcases hu with rfl | rfl | rfl <;> rfl) (by unfold maxLen;omega) (by omega) (by rw [World.size_alloc];omega) ?_;intro v7 w7 hown7 hgrow7 hnil7)
        have hR7:=hR5.push (q:=(⟨dn,dv,di⟩,.slice q3 dv.length c3)) rx5 hgrow7 hown7
        have hB7:=(hbw5.alloc hs5 _).grown hgrow7 (by rw [World.size_alloc];omega) (fun j e => (hR5.row.lt j e).1)
        go_wp2
        exact ⟨⟨E,qs ++ [((⟨dn,dv,di⟩:Dc),Value.slice q3 dv.length c3)],_,rfl,rfl,by omega,by simp;omega,hR7,HA,hB7⟩,by simp [intOf];omega⟩
  ·have hki:¬ (k:Int) < (ts.length:Int):=by omega
   obtain rfl:qs.map Prod.fst = A:=by
    rw [List.drop_eq_nil_iff.2 (by omega),decls_nil,List.append_nil] at hA
    exact hA
   clear hA
   go_wp2
   go_ret
   exact ⟨_,rfl,⟨qs,rfl,hR⟩,hb⟩
end Go.Proofs.YtcmmdojlhfmddaaGreat.Dc

/- The document's own matching (tapestrierref9): the words of a text. -/
import Derived.Test.YtnemagmakgiheaaGreatRfMini
import Derived.Test.YtnemagmakgiheaaGreatRgn
import Derived.Test.YtnemagmakgiheaaGreatRfGa
import Derived.Shelf.RegionOpen
set_option maxRecDepth 100000
namespace Go.Proofs.YtnemagmakgiheaaGreat.Rf
open Go Go.RowKit Go.Shelf Sl Wg Bk
/-! ### plain facts -/
def wordsV:List UInt8 → List UInt8 → List (List UInt8)
 | acc,[] => if acc = [] then [] else [acc]
 | acc,c :: l => if white c then (if acc = [] then wordsV [] l else acc :: wordsV [] l) else wordsV (acc ++ [c]) l
def mid (l:List UInt8) (f k:Nat):List UInt8:=(l.drop f).take (k - f)
theorem mid_nil {l:List UInt8} {f k:Nat} (hk:k ≤ l.length):mid l f k = [] ↔ k ≤ f:=by
 unfold mid
 rw [← List.length_eq_zero_iff,List.length_take,List.length_drop]
 omega
theorem mid_more {l:List UInt8} {f k:Nat} (hf:f ≤ k) (hk:k < l.length):mid l f k ++ [l[k]] = mid l f (k + 1):=by
 unfold mid
 rw [show k + 1 - f = (k - f) + 1 by omega,List.take_succ_eq_append_getElem (by rw [List.length_drop];omega),List.getElem_drop]
 congr 2
 congr 1
 omega
theorem words_go {l:List UInt8} {f k:Nat} (hf:f ≤ k) (hk:k < l.length) (hw:white l[k] = false):wordsV (mid l f k) (l.drop k) = wordsV (mid l f (k + 1)) (l.drop (k + 1)):=by
 rw [List.drop_eq_getElem_cons hk,wordsV,hw,← mid_more hf hk]
 rfl
theorem words_cut {l:List UInt8} {f k:Nat} (hk:k < l.length) (hw:white l[k] = true):wordsV (mid l f k) (l.drop k) = (if f < k then [mid l f k] else []) ++ wordsV (mid l (k + 1) (k + 1)) (l.drop (k + 1)):=by
 have h0:mid l (k + 1) (k + 1) = []:=(mid_nil (by omega)).2 (Nat.le_refl _)
 rw [List.drop_eq_getElem_cons hk,wordsV,hw,h0]
 by_cases h:f < k
 ·rw [if_pos rfl,if_pos h,if_neg (fun e => by have:=(mid_nil (by omega)).1 e;omega)]
  rfl
 ·rw [if_pos rfl,if_neg h,if_pos ((mid_nil (by omega)).2 (by omega))]
  rfl
theorem words_end {l:List UInt8} {f k:Nat} (hk:k = l.length):wordsV (mid l f k) (l.drop k) = (if f < k then [mid l f k] else []):=by
 rw [List.drop_of_length_le (by omega),wordsV]
 by_cases h:f < k
 ·rw [if_pos h,if_neg (fun e => by have:=(mid_nil (by omega)).1 e;omega)]
 ·rw [if_neg h,if_pos ((mid_nil (by omega)).2 (by omega))]
theorem words_mem:∀ (l acc:List UInt8),(∀ c ∈ acc,white c = false) → ∀ t ∈ wordsV acc l,t ≠ [] ∧ ∀ c ∈ t,white c = false
 | [],acc,h,t,ht => by
  rw [wordsV] at ht
  split at ht
  ·cases ht
  ·rename_i e
   rw [List.mem_singleton] at ht
   rw [ht]
   exact ⟨e,h⟩
 | c :: l,acc,h,t,ht => by
  rw [wordsV] at ht
  split at ht
  ·split at ht
   ·exact words_mem l [] (fun _ h => by cases h) t ht
   ·rename_i e
    rcases List.mem_cons.1 ht with rfl | ht
    ·exact ⟨e,h⟩
    ·exact words_mem l [] (fun _ h => by cases h) t ht
  ·rename_i e
   refine words_mem l (acc ++ [c]) (fun x hx => ?_) t ht
   rcases List.mem_append.1 hx with hx | hx
   ·exact h x hx
   ·rw [List.mem_singleton] at hx
    rw [hx]
    exact Bool.eq_false_iff.2 e
theorem words_none:∀ (l acc:List UInt8),(∀ c ∈ l,white c = false) → wordsV acc l = if acc ++ l = [] then [] else [acc ++ l]
 | [],acc,_ => by rw [wordsV,List.append_nil]
 | c :: l,acc,h => by
  rw [wordsV,h c (List.mem_cons_self ..),words_none l (acc ++ [c]) (fun x hx => h x (List.mem_cons_of_mem _ hx)),List.append_assoc]
  rfl
theorem words_self {s t:List UInt8} (h:t ∈ wordsV [] s):wordsV [] t = [t]:=by
 obtain ⟨h1,h2⟩:=words_mem s [] (fun _ h => by cases h) t h
 rw [words_none t [] h2,List.nil_append,if_neg h1]
def At (s:ByteArray) (f k:Nat) (F:List ByteArray):Prop:=
 wordsV [] (bts s) = F.map bts ++ if k ≤ s.size then wordsV (mid (bts s) f k) ((bts s).drop k) else []
theorem At.start (s:ByteArray):At s 0 0 []:=by
 unfold At
 rw [if_pos (Nat.zero_le _)]
 rfl
theorem At.go {s:ByteArray} {f k:Nat} {F:List ByteArray} (h:At s f k F) (hf:f ≤ k) (hk:k < s.size) (hw:white s[k] = false):At s f (k + 1) F:=by
 unfold At at h ⊢
 rw [if_pos (by omega),words_go (l:=bts s) hf (by rw [bts_len];exact hk) hw] at h
 rw [if_pos (by omega)]
 exact h
theorem At.cut {s:ByteArray} {f k:Nat} {F:List ByteArray} (h:At s f k F) (hk:k ≤ s.size) (hw:∀ h:k < s.size,white s[k] = true):At s (k + 1) (k + 1) (F ++ if f < k then [s.extract f k] else []):=by
 unfold At at h ⊢
 have e:bts (s.extract f k) = mid (bts s) f k:=ex_list s f k
 rw [if_pos hk] at h
 rw [h,List.map_append,List.append_assoc]
 congr 1
 by_cases hlt:k < s.size
 ·rw [words_cut (l:=bts s) (by rw [bts_len];exact hlt) (hw hlt),if_pos (show k + 1 ≤ s.size by omega)]
  congr 1
  split
  ·rw [List.map_singleton,e]
  ·rfl
 ·rw [words_end (l:=bts s) (by rw [bts_len];omega),if_neg (show ¬ k + 1 ≤ s.size by omega),List.append_nil]
  split
  ·rw [List.map_singleton,e]
  ·rfl
theorem At.done {s:ByteArray} {f k:Nat} {F:List ByteArray} (h:At s f k F) (hk:s.size < k):F.map bts = wordsV [] (bts s):=by
 unfold At at h
 rw [if_neg (by omega),List.append_nil] at h
 exact h.symm
set_option maxHeartbeats 4000000 in
theorem words_any (s:ByteArray) (hs:s.size ≤ 1099511627776) (w:World) :
  Calls Tryz.prog 149 #[.string s] w fun e w' => ∃ (x:Value) (F:List ByteArray),e = .returned x ∧ w'.ownsRow w.heap.size 9 1 x F.length (F.map Value.string) ∧ F.map bts = wordsV [] (bts s) ∧ Below w.heap.size w w':=by
 obtain ⟨j0,hj,hy0,hy1,hy2⟩:=info_of infoS
 go_enter Tryz.func149,Tryz.ntmps149
 go_wp2
 go_loopw [3,4,5] (fun x3 x4 x5 wr => ∃ (k f:Nat) (F:List ByteArray),x5 = .int .i64 k ∧ x4 = .int .i64 f ∧ k ≤ s.size + 1 ∧ f ≤ k ∧ F.length ≤ k ∧ wr.ownsRow w.heap.size 9 1 x3 F.length (F.map Value.string) ∧ Hid (At s f k F) ∧ Below w.heap.size w wr) (fun _ _ x5 _ => s.size + 1 - (intOf x5).toNat)
 case atStart => exact ⟨0,0,[],rfl,rfl,Nat.zero_le _,Nat.le_refl _,Nat.le_refl _,World.ownsRow_nil _ _ _ _,At.start s,Below.refl _ _⟩
 case round =>
  obtain ⟨k,f,F,rfl,rfl,hk,hf,hFl,hr,HA,hb⟩:=hrel
  obtain ⟨q3,c3,rfl⟩:=owns_form hr
  have hbs:=hb.size
  by_cases hlt:k < s.size
  ·have hki:(k:Int) < (s.size:Int):=by omega
   have hB:=blank_any ((s[k].toNat:Nat):Int) wr
   rw [white_int] at hB
   cases ew:white s[k] with
   | false =>
    rw [ew] at hB
    have HA1:Hid (At s f (k + 1) F):=HA.out.go hf hlt ew
    clear ew HA
    go_wp2_with fail
    refine hB.mono ?_
    clear hB
    rintro x w' ⟨rfl,hww⟩
    obtain rfl:wr = w':=hww.symm
    go_wp2
    go_roundw
    case rel => exact ⟨k + 1,f,F,by go_num,rfl,by omega,by omega,by omega,hr,HA1,hb⟩
    case measure => simp [intOf];omega
   | true =>
    rw [ew] at hB
    have HA1:Hid (At s (k + 1) (k + 1) (F ++ if f < k then [s.extract f k] else [])):=HA.out.cut (by omega) (fun _ => ew)
    clear ew HA
    by_cases hfk:f < k
    ·have hfi:(f:Int) < (k:Int):=by omega
     rw [if_pos hfk] at HA1
     obtain ⟨NF,hNF⟩:∃ NF,F.length = NF:=⟨_,rfl⟩
     have HNF:Hid (F.length = NF):=hNF
     rw [hNF] at hr hFl ⊢
     clear hNF
     go_wp2_with fail
     refine hB.mono ?_
     clear hB
     rintro x w' ⟨rfl,hww⟩
     obtain rfl:wr = w':=hww.symm
     go_wp2_with (at_builtin;refine wpList_append_own_at _ rfl _ _ 42 rfl w.heap.size 9 j0 (.string ⟨#[]⟩) 1 16 Tryz.underlying42 hj hy0 hy1 hy2 rfl (by decide) (.slice q3 NF c3) NF _ rfl (hr.alloc _) ⟨wr.heap.size,0,none⟩ 1 1 [.string (s.extract f k)] rfl rfl (cell_one_new _ _ _) (by simp [Value.oneCell']) (by unfold maxLen;omega) (by omega) (by simp;omega) ?_;intro v' w3 hown3 hgrow3 _hnil3 _hat3)
     go_roundw
     case rel =>
      have ha:=(Below.refl wr.heap.size wr).alloc (Nat.le_refl _) (.cells #[.string (s.extract f k)] 9)
      refine ⟨k + 1,k + 1,F ++ [s.extract f k],by go_num,by go_num,by omega,by omega,by rw [List.length_append,HNF.out];simp;omega,?_,HA1,((below_next hb ha).grown hgrow3 (by simp;omega) (fun r e => (owns_lt hr e).1))⟩
      rw [List.map_append,List.length_append,List.length_singleton,HNF.out]
      exact hown3
     case measure => simp [intOf];omega
    ·have hfi:¬ (f:Int) < (k:Int):=by omega
     rw [if_neg hfk,List.append_nil] at HA1
     go_wp2_with fail
     refine hB.mono ?_
     clear hB
     rintro x w' ⟨rfl,hww⟩
     obtain rfl:wr = w':=hww.symm
     go_wp2
     go_roundw
     case rel => exact ⟨k + 1,k + 1,F,by go_num,by go_num,by omega,by omega,by omega,hr,HA1,hb⟩
     case measure => simp [intOf];omega
  ·by_cases heq:k = s.size
   ·have HA1:Hid (At s (k + 1) (k + 1) (F ++ if f < k then [s.extract f k] else [])):=HA.out.cut (by omega) (fun h => by omega)
    clear HA hlt
    subst heq
    by_cases hfk:f < s.size
    ·have hfi:(f:Int) < (s.size:Int):=by omega
     rw [if_pos hfk] at HA1
     obtain ⟨NF,hNF⟩:∃ NF,F.length = NF:=⟨_,rfl⟩
     have HNF:Hid (F.length = NF):=hNF
     rw [hNF] at hr hFl ⊢
     clear hNF
     go_wp2_with (at_builtin;refine wpList_append_own_at _ rfl _ _ 42 rfl w.heap.size 9 j0 (.string ⟨#[]⟩) 1 16 Tryz.underlying42 hj hy0 hy1 hy2 rfl (by decide) (.slice q3 NF c3) NF _ rfl (hr.alloc _) ⟨wr.heap.size,0,none⟩ 1 1 [.string (s.extract f s.size)] rfl rfl (cell_one_new _ _ _) (by simp [Value.oneCell']) (by unfold maxLen;omega) (by omega) (by simp;omega) ?_;intro v' w3 hown3 hgrow3 _hnil3 _hat3)
     go_roundw
     case rel =>
      have ha:=(Below.refl wr.heap.size wr).alloc (Nat.le_refl _) (.cells #[.string (s.extract f s.size)] 9)
      refine ⟨s.size + 1,s.size + 1,F ++ [s.extract f s.size],by go_num,by go_num,by omega,by omega,by rw [List.length_append,HNF.out];simp;omega,?_,HA1,((below_next hb ha).grown hgrow3 (by simp;omega) (fun r e => (owns_lt hr e).1))⟩
      rw [List.map_append,List.length_append,List.length_singleton,HNF.out]
      exact hown3
     case measure => simp [intOf]
    ·have hfi:¬ (f:Int) < (s.size:Int):=by omega
     rw [if_neg hfk,List.append_nil] at HA1
     go_wp2
     go_roundw
     case rel => exact ⟨s.size + 1,s.size + 1,F,by go_num,by go_num,by omega,by omega,by omega,hr,HA1,hb⟩
     case measure => simp [intOf]
   ·have hki:¬ (k:Int) ≤ (s.size:Int):=by omega
    have HD:=HA.out.done (by omega)
    clear HA
    go_wp2
    go_ret
    exact ⟨_,rfl,F,hr,HD,hb⟩
end Go.Proofs.YtnemagmakgiheaaGreat.Rf
/- The document's own matching (tapestrierref9): attributes. -/
namespace Go.Proofs.YtnemagmakgiheaaGreat.Rf
open Go Go.RowKit Go.Shelf Sl Wg Bk
def PairC (c:List Value) (p:ByteArray × ByteArray):Prop:=c = [.string p.1,.string p.2]
def dashV (s t:List UInt8):Bool:=decide (s = t) || (t ++ [45]).isPrefixOf s
def textV (s:ByteArray) (op:Int) (t:ByteArray):Bool:=
 if op = 0 then true else if op = 1 then decide (s = t)
 else if op = 2 then (wordsV [] (bts s)).contains (bts t)
 else if op = 3 then dashV (bts s) (bts t)
 else if op = 4 then decide (bts t ≠ []) && (bts t).isPrefixOf (bts s)
 else if op = 5 then decide (bts t ≠ []) && (bts t).isSuffixOf (bts s)
 else if op = 6 then decide (bts t ≠ []) && infixV (bts t) (bts s)
 else false
def attrV (l:List (ByteArray × ByteArray)) (nm:ByteArray) (op:Int) (t:ByteArray):Bool:=match l.find? (fun p => decide (p.1 = nm)) with
 | some p => textV p.2 op t
 | none => false
theorem beq_dec (a b:ByteArray):(a.toList == b.toList) = decide (a = b):=by
 by_cases h:a = b
 ·rw [decide_eq_true h,h];simp
 ·rw [decide_eq_false h,beq_false h]
theorem bts_inj {a b:ByteArray}:bts a = bts b ↔ a = b:=by
 constructor
 ·intro h
  cases a with
  | mk x =>
   cases b with
   | mk y => simp only [ByteArray.mk.injEq];exact Array.toList_inj.1 h
 ·intro h;rw [h]
theorem bts_nil {a:ByteArray}:bts a = [] ↔ a = ⟨#[]⟩:=by
 rw [show ([]:List UInt8) = bts ⟨#[]⟩ from rfl]
 exact bts_inj
theorem row_of_owns {b:Nat} {W:World} {v:Value} {F:List ByteArray} (h:W.ownsRow b 9 1 v F.length (F.map Value.string)):RowT 1 StrC W.heap.size W v F:=by
 rcases h.2 with ⟨rfl,h0⟩ | ⟨g,cap,cur,rfl,hb,hg,h1,h2,h3,h4⟩
 ·have:F = []:=List.eq_nil_of_length_eq_zero h0
  subst this
  exact .inl ⟨rfl,_,_,rfl⟩
 ·refine .inr ⟨g,0,cap,rfl,h1,h2,(Array.getElem?_eq_some_iff.1 hg).1,fun j x hx => ⟨[.string x],rfl,rfl,fun i u hu => ?_⟩⟩
  rw [Nat.mul_one] at h4
  have hj:j < F.length:=(List.getElem?_eq_some_iff.1 hx).1
  have h5:(cur.toList.take F.length)[j]? = some (.string x):=by rw [h4,List.getElem?_map,hx];rfl
  rw [List.getElem?_take_of_lt hj,Array.getElem?_toList] at h5
  cases i with
  | zero =>
   simp at hu;subst hu
   simp [World.cell?,hg,h5]
  | succ i => simp at hu
theorem has_words {s t:ByteArray} {F:List ByteArray} (h:F.map bts = wordsV [] (bts s)):mB t F = (wordsV [] (bts s)).contains (bts t):=by
 rw [Bool.eq_iff_iff,mB_iff,List.contains_iff_mem,← h,List.mem_map]
 constructor
 ·exact fun h => ⟨t,h,rfl⟩
 ·rintro ⟨x,hx,e⟩
  rw [← bts_inj.1 e];exact hx
theorem word_no {s t:ByteArray} {F:List ByteArray} (h:F.map bts = wordsV [] (bts t)) (hF:F ≠ [t]):(wordsV [] (bts s)).contains (bts t) = false:=by
 cases hc:(wordsV [] (bts s)).contains (bts t) with
 | false => rfl
 | true =>
  exfalso
  have h1:=words_self (List.contains_iff_mem.1 hc)
  rw [h1] at h
  apply hF
  match F,h with
  | [],h => simp at h
  | _ :: _ :: _,h => simp at h
  | [x],h =>
   simp only [List.map_cons,List.map_nil,List.cons.injEq,and_true] at h
   rw [bts_inj.1 h]
set_option maxHeartbeats 4000000 in
theorem attr_any (par:Int) (tg id:ByteArray) (cv av:Value) (pc:Option Addr) (mc cc:Nat) (hcv:cv = .slice pc mc cc) (l:List (ByteArray × ByteArray)) (nm:ByteArray) (op:Int) (t:ByteArray) (w:World)
  (hv:RowT 2 PairC w.heap.size w av l) (hs:∀ p ∈ l,p.2.size ≤ 1099511627776) (ht:t.size ≤ 1099511627776) :
  Calls Tryz.prog 128 #[.agg #[.int .i64 par,.string tg,.string id,cv,av],.agg #[.string nm,.int .i64 op,.string t]] w fun e w' => e = .returned (.bool (attrV l nm op t)) ∧ Below w.heap.size w w':=by
 subst hcv
 obtain ⟨q,cap,rfl⟩:=RowT.len hv
 obtain ⟨w1,hw1⟩:∃ w1,w.alloc (.cells #[.int .i64 par,.string tg,.string id,.slice pc mc cc,.slice q l.length cap] 77) = w1:=⟨_,rfl⟩
 have b1:Below w.heap.size w w1:=by rw [← hw1];exact (Below.refl _ _).alloc (Nat.le_refl _) _
 have k1:Blk w1 w.heap.size 77 [.int .i64 par,.string tg,.string id,.slice pc mc cc,.slice q l.length cap]:=by rw [← hw1];exact Blk.new w 77 _
 have s1:w1.heap.size = w.heap.size + 1:=by rw [← hw1];exact World.size_alloc _ _
 obtain ⟨w2,hw2⟩:∃ w2,w1.alloc (.cells #[.string nm,.int .i64 op,.string t] 154) = w2:=⟨_,rfl⟩
 have b2:Below w1.heap.size w1 w2:=by rw [← hw2];exact (Below.refl _ _).alloc (Nat.le_refl _) _
 have k2:Blk w2 (w.heap.size + 1) 154 [.string nm,.int .i64 op,.string t]:=by rw [← hw2,← s1];exact Blk.new w1 154 _
 have B2:=below_next b1 b2
 have KN:Hid (Blk w2 w.heap.size 77 [.int .i64 par,.string tg,.string id,.slice pc mc cc,.slice q l.length cap]):=k1.below b2 k1.lt
 have KA:Hid (Blk w2 (w.heap.size + 1) 154 [.string nm,.int .i64 op,.string t]):=k2
 have HV:Hid (RowT 2 PairC w.heap.size w2 (.slice q l.length cap) l):=hv.below B2 (fun _ _ h => h)
 have hsz:w.heap.size + 2 ≤ w2.heap.size:=by have:=b2.size;have:=k2.lt;omega
 have HSZ:Hid (∀ p ∈ l,p.2.size ≤ 1099511627776):=hs
 obtain ⟨V,hV⟩:∃ V,attrV l nm op t = V:=⟨_,rfl⟩
 rw [hV]
 have HVV:Hid (attrV l nm op t = V):=hV
 clear hv hV k1 k2 b1 b2 hs
 go_enter Tryz.func128,Tryz.ntmps128
 go_wp2
 clear hw1 hw2 s1
 go_loopw [5] (fun y wr => ∃ k:Nat,y = .int .i64 k ∧ k ≤ l.length ∧ Hid ((l.take k).find? (fun p => decide (p.1 = nm)) = none) ∧ Below w2.heap.size w2 wr) (fun y _ => l.length - (intOf y).toNat)
 case atStart => exact ⟨0,rfl,Nat.zero_le _,by rfl,Below.refl _ _⟩
 case round =>
  obtain ⟨k,rfl,hk,HN,hb⟩:=hrel
  have n4:=(blk5 (KN.out.below hb KN.out.lt)).1.2.2.2.2
  obtain ⟨⟨a0,a1,a2⟩,_⟩:=blk3 (KA.out.below hb KA.out.lt)
  by_cases hlt:k < l.length
  ·have hki:(k:Int) < (l.length:Int):=by omega
   obtain ⟨p,hp⟩:∃ p,l[k]? = some p:=⟨_,List.getElem?_eq_getElem hlt⟩
   obtain ⟨b,off,cs,hq,hbn,hc1,hc2,_,hT,hcell⟩:=RowT.get HV.out hp
   subst hq
   cases hT
   unfold maxLen at hc2
   have y0:wr.cell? ⟨b,off + k * 2,none⟩ = some (.string p.1):=(hb.cell (p:=⟨b,off + k * 2,none⟩) (by show b < _;omega)).trans (by have:=hcell 0 _ rfl;simpa using this)
   have y1:wr.cell? ⟨b,off + k * 2 + 1,none⟩ = some (.string p.2):=(hb.cell (p:=⟨b,off + k * 2 + 1,none⟩) (by show b < _;omega)).trans (by have:=hcell 1 _ rfl;simpa using this)
   have hk1:(k:Int) + 1 ≤ 9223372036854775807:=by omega
   have HP:Hid (l[k]? = some p):=hp
   have q0:Below wr.heap.size wr wr.drew:=below_drew (Below.refl _ _)
   have hb0:=below_next hb q0
   have HeldS:wr.drew.cell? ⟨w.heap.size,4,none⟩ = some (.slice (some ⟨b,off,none⟩) l.length cap) ∧ wr.drew.cell? ⟨b,off + k * 2,none⟩ = some (.string p.1) ∧ wr.drew.cell? ⟨w.heap.size + 1,0,none⟩ = some (.string nm):=⟨n4,y0,a0⟩
   have m4:wr.drew.cell? ⟨w.heap.size,4,none⟩ = some (.slice (some ⟨b,off,none⟩) l.length cap):=n4
   have z1:wr.drew.cell? ⟨b,off + k * 2 + 1,none⟩ = some (.string p.2):=y1
   have e1:wr.drew.cell? ⟨w.heap.size + 1,1,none⟩ = some (.int .i64 op):=a1
   have e2:wr.drew.cell? ⟨w.heap.size + 1,2,none⟩ = some (.string t):=a2
   clear hcell hp
   go_upto_region 4 with fail
   refine Rg.wpD_begin [0,1,2,3,4,5,6,7] (fun X => X.cell? ⟨w.heap.size,4,none⟩ = some (.slice (some ⟨b,off,none⟩) l.length cap) ∧ X.cell? ⟨b,off + k * 2,none⟩ = some (.string p.1) ∧ X.cell? ⟨w.heap.size + 1,0,none⟩ = some (.string nm)) (by kernel_rfl) ?_
   refine Rg.ld 0 HeldS ?_
   simp only [Act.put,Rg.sA,Rg.sB,Rg.sC]
   refine Rg.ld 1 HeldS ?_
   simp only [Act.put,Rg.sA,Rg.sB,Rg.sC]
   refine Rg.ld 2 HeldS ?_
   simp only [Act.put,Rg.sA,Rg.sB,Rg.sC]
   refine Rg.ld 3 HeldS ?_
   simp only [Act.put,Rg.sA,Rg.sB,Rg.sC]
   refine Rg.ld 4 HeldS ?_
   simp only [Act.put,Rg.sA,Rg.sB,Rg.sC]
   refine Rg.ld 5 HeldS ?_
   simp only [Act.put,Rg.sA,Rg.sB,Rg.sC]
   refine Rg.ld 6 HeldS ?_
   simp only [Act.put,Rg.sA,Rg.sB,Rg.sC]
   refine Rg.ld 7 HeldS ?_
   simp only [Act.put,Rg.sA,Rg.sB,Rg.sC]
   refine Rg.pu 8 ?_
   simp only [Act.put,Rg.sA,Rg.sB,Rg.sC]
   refine Rg.wpD_done (by kernel_rfl) ?_
   clear HeldS n4 a0 a1 a2 y0 y1
   have hbq:=beq_dec p.1 nm
   generalize wr.drew = X at *
   by_cases hpn:p.1 = nm
   ·rw [decide_eq_true hpn] at hbq
    rw [hbq]
    clear hbq
    unfold Exit.then
    have HVp:Hid (V = textV p.2 op t):=by
     show _ = _
     rw [← HVV.out]
     unfold attrV
     have:l.find? (fun p => decide (p.1 = nm)) = some p:=by
      have e:l = l.take k ++ p :: l.drop (k + 1):=by
       obtain ⟨hk',rfl⟩:=List.getElem?_eq_some_iff.1 HP.out
       rw [← List.drop_eq_getElem_cons hk',List.take_append_drop]
      rw [e,List.find?_append,show (l.take k).find? _ = none from HN.out,List.find?_cons,decide_eq_true hpn]
      rfl
     rw [this]
    have BW:=B2.trans (hb0.mono B2.size)
    have hps:p.2.size ≤ 1099511627776:=HSZ.out p (List.mem_of_getElem? HP.out)
    clear HVV HN hpn hb q0 hb0 B2
    by_cases o0:op = 0
    ·obtain rfl:V = true:=by rw [HVp.out,o0];rfl
     subst o0
     clear HVp
     go_wp2
     go_ret
     exact ⟨rfl,BW⟩
    by_cases o1:op = 1
    ·obtain rfl:V = (p.2.toList == t.toList):=by rw [HVp.out,o1,beq_dec];rfl
     subst o1
     clear HVp
     go_wp2
     go_ret
     exact ⟨rfl,BW⟩
    by_cases h2:op = 2
    ·have HD:Hid (V = (wordsV [] (bts p.2)).contains (bts t)):=by show _ = _;rw [HVp.out,h2];rfl
     subst h2
     clear HVp
     have hW:=words_any t ht X
     have hA:w.heap.size + 1 < X.heap.size:=by
      have:=World.block_lt_of_cell? X ⟨w.heap.size + 1,2,none⟩ e2
      exact this
     go_wp2_with fail
     go_at_call 149
     refine Calls.mono hW ?_
     clear hW
     rintro x w4 ⟨v4,F,rfl,hr4,hF,b4⟩
     have e4:w4.cell? ⟨w.heap.size + 1,2,none⟩ = some (.string t):=(b4.cell (p:=⟨w.heap.size + 1,2,none⟩) hA).trans e2
     have hR4:=row_of_owns hr4
     obtain ⟨q4,c4,rfl⟩:=RowT.len hR4
     have BW4:=below_next BW b4
     have HF:Hid (F.map bts = wordsV [] (bts t)):=hF
     clear e1 e2 z1 m4 hF hr4 hA b4
     by_cases hF1:F.length = 1
     ·obtain ⟨f,rfl⟩:∃ f,F = [f]:=List.length_eq_one_iff.1 hF1
      obtain ⟨b4,o4,cs,hq,hbn4,hc4,hd4,_,hT,hcell⟩:=RowT.get hR4 (show [f][0]? = some f from rfl)
      subst hq
      cases hT
      have y4:=hcell 0 _ rfl
      simp only [Nat.mul_one,Nat.add_zero] at y4
      rw [show [f].length = 1 from rfl] at hc4 ⊢
      unfold maxLen at hd4
      clear hcell hF1 hR4
      by_cases hft:f = t
      ·have hfb:=beq_dec f t
       rw [decide_eq_true hft] at hfb
       have HW2:Hid (∀ Y,Calls Tryz.prog 149 #[.string p.2] Y fun e w' => ∃ (x:Value) (F:List ByteArray),e = .returned x ∧ w'.ownsRow Y.heap.size 9 1 x F.length (F.map Value.string) ∧ F.map bts = wordsV [] (bts p.2) ∧ Below Y.heap.size Y w'):=fun Y => words_any p.2 hps Y
       have hA4:w.heap.size + 1 < w4.heap.size:=World.block_lt_of_cell? w4 ⟨w.heap.size + 1,2,none⟩ e4
       have HSt:Hid (∀ Y,Below w4.heap.size w4 Y → Y.cell? ⟨w.heap.size + 1,2,none⟩ = some (.string t) ∧ Y.cell? ⟨b4,o4,none⟩ = some (.string f)):=fun Y hY => ⟨(hY.cell (p:=⟨w.heap.size + 1,2,none⟩) hA4).trans e4,(hY.cell (p:=⟨b4,o4,none⟩) hbn4).trans y4⟩
       clear hft HF
       go_upto_region 13 with fail
       refine Rg.wpD_begin [0,1,2,3,4,5,6,7,8,9,10,11,12,13,14,15] (fun Y => Y.cell? ⟨w.heap.size + 1,2,none⟩ = some (.string t) ∧ Y.cell? ⟨b4,o4,none⟩ = some (.string f)) (by kernel_rfl) ?_
       have q0:Below w4.heap.size w4 w4.drew:=below_drew (Below.refl _ _)
       have HeldS:=HSt.out _ q0
       refine Rg.ld 0 HeldS ?_
       simp only [Act.put,Rg.sA,Rg.sB,Rg.sC]
       refine Rg.ld 1 HeldS ?_
       simp only [Act.put,Rg.sA,Rg.sB,Rg.sC]
       refine Rg.ld 2 HeldS ?_
       simp only [Act.put,Rg.sA,Rg.sB,Rg.sC]
       refine Rg.ld 3 HeldS ?_
       simp only [Act.put,Rg.sA,Rg.sB,Rg.sC]
       refine Rg.ld 4 HeldS ?_
       simp only [Act.put,Rg.sA,Rg.sB,Rg.sC]
       refine Rg.ld 5 HeldS ?_
       simp only [Act.put,Rg.sA,Rg.sB,Rg.sC]
       refine Rg.ld 6 HeldS ?_
       simp only [Act.put,Rg.sA,Rg.sB,Rg.sC]
       refine Rg.ld 7 HeldS ?_
       simp only [Act.put,Rg.sA,Rg.sB,Rg.sC]
       refine Rg.ld 8 HeldS ?_
       simp only [Act.put,Rg.sA,Rg.sB,Rg.sC]
       refine Rg.ld 9 HeldS ?_
       simp only [Act.put,Rg.sA,Rg.sB,Rg.sC]
       refine Rg.ld 10 HeldS ?_
       simp only [Act.put,Rg.sA,Rg.sB,Rg.sC]
       refine Rg.ld 11 HeldS ?_
       simp only [Act.put,Rg.sA,Rg.sB,Rg.sC]
       refine Rg.ld 12 HeldS ?_
       simp only [Act.put,Rg.sA,Rg.sB,Rg.sC]
       refine Rg.ld 14 HeldS ?_
       simp only [Act.put,Rg.sA,Rg.sB,Rg.sC]
       refine Rg.ld 15 HeldS ?_
       simp only [Act.put,Rg.sA,Rg.sB,Rg.sC]
       refine Rg.dd 13 fun K hK => ?_
       go_simp
       go_at_call 149
       refine Calls.mono (HW2.out _) ?_
       rintro e w5 ⟨v5,G,rfl,hr5,hG,b5⟩
       have q5:=below_next q0 b5
       refine hK _ _ (fun _ => HSt.out _ q5) ?_
       clear hK K HeldS
       have hha:=has_any v5 G t w5 (row_of_owns hr5)
       rw [has_words hG,← HD.out] at hha
       refine Rg.dd 16 fun K hK => ?_
       go_simp
       go_at_call 127
       refine Calls.mono hha ?_
       clear hha
       rintro e w6 ⟨rfl,hww⟩
       obtain rfl:=hww
       refine hK _ _ (fun h => absurd h (by decide)) ?_
       clear hK K
       refine Rg.pu 17 ?_
       simp only [Act.put,Rg.sA,Rg.sB,Rg.sC]
       refine Rg.pu 18 ?_
       simp only [Act.put,Rg.sA,Rg.sB,Rg.sC]
       refine Rg.wpD_done (by kernel_rfl) ?_
       have BW6:=below_next BW4 q5
       clear hr5 hG b5 q5 q0 HSt HW2 HD
       go_wp2
       go_ret
       exact ⟨rfl,BW6⟩
      ·obtain rfl:V = false:=by rw [HD.out,word_no HF.out (fun h => hft (by simpa using h))]
       have hfb:=beq_dec f t
       rw [decide_eq_false hft] at hfb
       clear hft HF HD
       go_upto_region 13 with fail
       go_quiet (fail)
       go_wp2
       go_ret
       exact ⟨rfl,below_drewN' BW4 _⟩
     ·obtain rfl:V = false:=by rw [HD.out,word_no HF.out (fun h => hF1 (by rw [h];rfl))]
      have hFi:((F.length:Int) == 1) = false:=by
       rw [beq_eq_false_iff_ne]
       omega
      clear hF1 hR4 HF HD
      go_upto_region 13 with fail
      go_quiet (fail)
      go_wp2
      go_ret
      exact ⟨rfl,below_drewN' BW4 _⟩
    by_cases o3:op = 3
    ·have HD:Hid (V = dashV (bts p.2) (bts t)):=by show _ = _;rw [HVp.out,o3];rfl
     subst o3
     clear HVp
     by_cases he:p.2 = t
     ·obtain rfl:V = true:=by rw [HD.out,he];unfold dashV;simp
      have hee:=beq_dec p.2 t
      rw [decide_eq_true he] at hee
      clear he HD
      go_wp2
      go_ret
      exact ⟨rfl,BW⟩
     ·obtain rfl:V = (bts (t ++ ⟨#[45]⟩)).isPrefixOf (bts p.2):=by
       rw [HD.out];unfold dashV;rw [decide_eq_false (fun h => he (bts_inj.1 h)),Bool.false_or]
       congr 1
      have hee:=beq_dec p.2 t
      rw [decide_eq_false he] at hee
      clear he HD
      have hc:=begins_any p.2 (t ++ ⟨#[45]⟩) X
      go_wp2_with fail
      refine hc.mono ?_
      clear hc
      rintro x w' ⟨rfl,hww⟩
      obtain rfl:X = w':=hww.symm
      go_wp2
      go_ret
      exact ⟨rfl,BW⟩
    by_cases o4:op = 4
    ·have HD:Hid (V = (decide (bts t ≠ []) && (bts t).isPrefixOf (bts p.2))):=by show _ = _;rw [HVp.out,o4];rfl
     subst o4
     clear HVp
     by_cases he:t = ⟨#[]⟩
     ·obtain rfl:V = false:=by rw [HD.out,decide_eq_false (fun h => h (bts_nil.2 he)),Bool.false_and]
      subst he
      clear HD
      go_wp2
      go_ret
      exact ⟨rfl,BW⟩
     ·obtain rfl:V = (bts t).isPrefixOf (bts p.2):=by rw [HD.out,decide_eq_true (show bts t ≠ [] from fun h => he (bts_nil.1 h)),Bool.true_and]
      have hem:t.toList.isEmpty = false:=by rw [eqlEmpty];exact decide_eq_false he
      have hen:=bytes_ne he
      clear he HD
      have hc:=begins_any p.2 t X
      go_wp2_with fail
      refine hc.mono ?_
      clear hc
      rintro x w' ⟨rfl,hww⟩
      obtain rfl:X = w':=hww.symm
      go_wp2
      go_ret
      exact ⟨rfl,BW⟩
    by_cases o5:op = 5
    ·have HD:Hid (V = (decide (bts t ≠ []) && (bts t).isSuffixOf (bts p.2))):=by show _ = _;rw [HVp.out,o5];rfl
     subst o5
     clear HVp
     by_cases he:t = ⟨#[]⟩
     ·obtain rfl:V = false:=by rw [HD.out,decide_eq_false (fun h => h (bts_nil.2 he)),Bool.false_and]
      subst he
      clear HD
      go_wp2
      go_ret
      exact ⟨rfl,BW⟩
     ·obtain rfl:V = (bts t).isSuffixOf (bts p.2):=by rw [HD.out,decide_eq_true (show bts t ≠ [] from fun h => he (bts_nil.1 h)),Bool.true_and]
      have hem:t.toList.isEmpty = false:=by rw [eqlEmpty];exact decide_eq_false he
      have hen:=bytes_ne he
      clear he HD
      have hc:=ends_any p.2 t (by omega) X
      go_wp2_with fail
      refine hc.mono ?_
      clear hc
      rintro x w' ⟨rfl,hww⟩
      obtain rfl:X = w':=hww.symm
      go_wp2
      go_ret
      exact ⟨rfl,BW⟩
    by_cases o6:op = 6
    ·have HD:Hid (V = (decide (bts t ≠ []) && infixV (bts t) (bts p.2))):=by show _ = _;rw [HVp.out,o6];rfl
     subst o6
     clear HVp
     by_cases he:t = ⟨#[]⟩
     ·obtain rfl:V = false:=by rw [HD.out,decide_eq_false (fun h => h (bts_nil.2 he)),Bool.false_and]
      subst he
      clear HD
      go_wp2
      go_ret
      exact ⟨rfl,BW⟩
     ·obtain rfl:V = infixV (bts t) (bts p.2):=by rw [HD.out,decide_eq_true (show bts t ≠ [] from fun h => he (bts_nil.1 h)),Bool.true_and]
      have hem:t.toList.isEmpty = false:=by rw [eqlEmpty];exact decide_eq_false he
      have hen:=bytes_ne he
      clear he HD
      have hc:=in_any p.2 t (by omega) (by omega) X
      go_wp2_with fail
      refine hc.mono ?_
      clear hc
      rintro x w' ⟨rfl,hww⟩
      obtain rfl:X = w':=hww.symm
      go_wp2
      go_ret
      exact ⟨rfl,BW⟩
    obtain rfl:V = false:=by rw [HVp.out];unfold textV;rw [if_neg o0,if_neg o1,if_neg h2,if_neg o3,if_neg o4,if_neg o5,if_neg o6]
    clear HVp
    have p0:(op == 0) = false:=by simpa using o0
    have p1:(op == 1) = false:=by simpa using o1
    have p2:(op == 2) = false:=by simpa using h2
    have p3:(op == 3) = false:=by simpa using o3
    have p4:(op == 4) = false:=by simpa using o4
    have p5:(op == 5) = false:=by simpa using o5
    have p6:(op == 6) = false:=by simpa using o6
    clear o0 o1 h2 o3 o4 o5 o6
    go_wp2
    go_ret
    exact ⟨rfl,BW⟩
   ·rw [decide_eq_false hpn] at hbq
    rw [hbq]
    clear hbq
    unfold Exit.then
    have HN1:Hid ((l.take (k + 1)).find? (fun p => decide (p.1 = nm)) = none):=by
     show _ = _
     rw [List.take_add_one,show l[k]? = some p from HP.out,List.find?_append,show (l.take k).find? _ = none from HN.out]
     simp [hpn]
    clear HN hpn
    go_wp2
    go_roundw
    case rel => exact ⟨k + 1,by go_num,by omega,HN1,hb0⟩
    case measure => simp [intOf];omega
  ·have hki:¬ (k:Int) < (l.length:Int):=by omega
   obtain rfl:V = false:=by
    rw [← HVV.out]
    have h:=HN.out
    rw [List.take_of_length_le (by omega)] at h
    unfold attrV
    rw [h]
   have BW:=B2.trans (hb.mono B2.size)
   clear HN HVV
   go_wp2
   go_ret
   exact ⟨rfl,BW⟩
end Go.Proofs.YtnemagmakgiheaaGreat.Rf

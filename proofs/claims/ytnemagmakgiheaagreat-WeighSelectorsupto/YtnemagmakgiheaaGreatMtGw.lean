/- The fields of a text, by runes, are its words, by bytes: plain facts. -/
import Derived.Test.YtnemagmakgiheaaGreatMtGx
import Derived.Test.YtnemagmakgiheaaGreatRfGa
import Derived.Test.YtnemagmakgiheaaGreatMtGg
import Derived.Test.YtnemagmakgiheaaGreatShelf
import Derived.Test.YtnemagmakgiheaaGreatRgn
import Derived.Lib.FieldsP
import Derived.Lib.DecodeN
set_option maxRecDepth 100000
namespace Go.Proofs.YtnemagmakgiheaaGreat.Mt
open Go.Proofs.YtnemagmakgiheaaGreat.Tre
open Go
def whiteR (r:Nat):Bool:=r == 9 || r == 10 || r == 12 || r == 13 || r == 32
theorem whiteR_byte (c:UInt8):whiteR c.toNat = white c:=by
  unfold whiteR white
  have h:∀ k:Nat,k < 256 → (c.toNat == k) = (c == UInt8.ofNat k):=fun k hk => by
    rw [Bool.eq_iff_iff,beq_iff_eq,beq_iff_eq]
    constructor
    · intro e
      rw [← e]
      exact (UInt8.ofNat_toNat).symm
    · intro e
      rw [e]
      simp
      omega
  rw [h 9 (by omega),h 10 (by omega),h 12 (by omega),h 13 (by omega),h 32 (by omega)]
  rfl
theorem whiteR_high {r:Nat} (h:128 ≤ r):whiteR r = false:=by
  unfold whiteR
  simp
  omega
theorem white_high {c:UInt8} (h:128 ≤ c.toNat):white c = false:=by rw [← whiteR_byte];exact whiteR_high h
theorem words_over:∀ (l1 l2 acc:List UInt8),(∀ c ∈ l1,white c = false) → wordsV acc (l1 ++ l2) = wordsV (acc ++ l1) l2
  | [],l2,acc,_ => by simp
  | c :: l1,l2,acc,h => by
    rw [List.cons_append,wordsV,h c (List.mem_cons_self ..),words_over l1 l2 (acc ++ [c]) (fun x hx => h x (List.mem_cons_of_mem _ hx)),List.append_assoc]
    rfl
def mid (l:List UInt8) (f k:Nat):List UInt8:=(l.drop f).take (k - f)
theorem mid_ne {l:List UInt8} {f k:Nat} (hf:f < k) (hk:k ≤ l.length):mid l f k ≠ []:=by
  unfold mid
  intro h
  have:=congrArg List.length h
  rw [List.length_take,List.length_drop] at this
  simp at this
  omega
theorem mid_grow (l:List UInt8) (a pos k:Nat) (h:a ≤ pos):mid l a pos ++ (l.drop pos).take k = mid l a (pos + k):=by
  unfold mid
  have e:l.drop pos = (l.drop a).drop (pos - a):=by rw [List.drop_drop];congr 1;omega
  rw [e,show pos + k - a = (pos - a) + k by omega,List.take_add]
def openP (l:List UInt8) (st:Option Nat) (pos:Nat):List UInt8:=match st with | some a => mid l a pos | none => []
theorem decN {n b0 b1 b2 b3:Nat} (h:128 ≤ b0):128 ≤ (Lib.decodeN n b0 b1 b2 b3).1 ∧ (((Lib.decodeN n b0 b1 b2 b3).2 = 1) ∨ ((Lib.decodeN n b0 b1 b2 b3).2 = 2 ∧ 2 ≤ n ∧ 128 ≤ b1) ∨ ((Lib.decodeN n b0 b1 b2 b3).2 = 3 ∧ 3 ≤ n ∧ 128 ≤ b1 ∧ 128 ≤ b2) ∨ ((Lib.decodeN n b0 b1 b2 b3).2 = 4 ∧ 4 ≤ n ∧ 128 ≤ b1 ∧ 128 ≤ b2 ∧ 128 ≤ b3)):=by
  obtain ⟨D,hD⟩:∃ D,D = Lib.decodeN n b0 b1 b2 b3:=⟨_,rfl⟩
  rw [← hD]
  unfold Lib.decodeN at hD
  rw [if_neg (by omega)] at hD
  split at hD
  · split at hD
    · subst hD
      exact ⟨by show 128 ≤ b0 % 32 * 64 + b1 % 64;omega,.inr (.inl ⟨rfl,by omega,by omega⟩)⟩
    · subst hD
      exact ⟨by decide,.inl rfl⟩
  · split at hD
    · split at hD
      · subst hD
        exact ⟨by show 128 ≤ b0 % 16 * 4096 + b1 % 64 * 64 + b2 % 64;omega,.inr (.inr (.inl ⟨rfl,by omega,by omega,by omega⟩))⟩
      · subst hD
        exact ⟨by decide,.inl rfl⟩
    · split at hD
      · split at hD
        · subst hD
          exact ⟨by show 128 ≤ b0 % 8 * 262144 + b1 % 64 * 4096 + b2 % 64 * 64 + b3 % 64;omega,.inr (.inr (.inr ⟨rfl,by omega,by omega,by omega,by omega⟩))⟩
        · subst hD
          exact ⟨by decide,.inl rfl⟩
      · subst hD
        exact ⟨by decide,.inl rfl⟩
theorem get_bts (s:ByteArray) {i:Nat} (hi:i < s.size):s.get! i = (bts s)[i]'(by unfold bts;rw [Array.length_toList];exact hi):=by
  unfold bts ByteArray.get!
  rw [Array.getElem_toList]
  exact getElem!_pos s.data i hi
theorem dec_high (s:ByteArray) {pos:Nat} (hp:pos < s.size) (h:128 ≤ (s.get! pos).toNat) :
    128 ≤ (Utf8.decode s pos).1 ∧ 1 ≤ (Utf8.decode s pos).2 ∧ pos + (Utf8.decode s pos).2 ≤ s.size ∧ ∀ c ∈ ((bts s).drop pos).take (Utf8.decode s pos).2,white c = false:=by
  have hl:(bts s).length = s.size:=by unfold bts;rw [Array.length_toList];rfl
  obtain ⟨h1,h2⟩:=decN (n:=s.size - pos) (b1:=(s.get! (pos + 1)).toNat) (b2:=(s.get! (pos + 2)).toNat) (b3:=(s.get! (pos + 3)).toNat) h
  rw [← Lib.decode_at] at h1 h2
  generalize Utf8.decode s pos = D at *
  have key:∀ k,(∀ j,j < k → pos + j < s.size ∧ 128 ≤ (s.get! (pos + j)).toNat) → ∀ c ∈ ((bts s).drop pos).take k,white c = false:=fun k hk c hc => by
    obtain ⟨j,hj,rfl⟩:=List.getElem_of_mem hc
    rw [List.length_take,List.length_drop] at hj
    obtain ⟨a1,a2⟩:=hk j (by omega)
    rw [List.getElem_take,List.getElem_drop]
    rw [get_bts s a1] at a2
    exact white_high a2
  refine ⟨h1,by omega,by omega,key _ (fun j hj => ?_)⟩
  rcases h2 with e | ⟨e,g0,g1⟩ | ⟨e,g0,g1,g2⟩ | ⟨e,g0,g1,g2,g3⟩ <;> rw [e] at hj
  · obtain rfl:j = 0:=by omega
    exact ⟨by omega,h⟩
  · match j,hj with
    | 0,_ => exact ⟨by omega,h⟩
    | 1,_ => exact ⟨by omega,g1⟩
  · match j,hj with
    | 0,_ => exact ⟨by omega,h⟩
    | 1,_ => exact ⟨by omega,g1⟩
    | 2,_ => exact ⟨by omega,g2⟩
  · match j,hj with
    | 0,_ => exact ⟨by omega,h⟩
    | 1,_ => exact ⟨by omega,g1⟩
    | 2,_ => exact ⟨by omega,g2⟩
    | 3,_ => exact ⟨by omega,g3⟩
theorem dec_low (s:ByteArray) {pos:Nat} (h:(s.get! pos).toNat < 128):Utf8.decode s pos = ((s.get! pos).toNat,1):=by
  rw [Lib.decode_at]
  unfold Lib.decodeN
  rw [if_pos h]
theorem spans_step (p:Nat → Bool) (s:ByteArray) (f pos:Nat) (st:Option Nat) (acc:List (Nat × Nat)) (h:pos < s.size):Lib.spansFromP p s (f + 1) pos st acc =
    (if p (Utf8.decode s pos).1 then
        (match st with
         | some a => Lib.spansFromP p s f (pos + (Utf8.decode s pos).2) none (acc ++ [(a,pos)])
         | none => Lib.spansFromP p s f (pos + (Utf8.decode s pos).2) none acc)
       else
        (match st with
         | some a => Lib.spansFromP p s f (pos + (Utf8.decode s pos).2) (some a) acc
         | none => Lib.spansFromP p s f (pos + (Utf8.decode s pos).2) (some pos) acc)):=by
  cases st <;> simp only [Lib.spansFromP,h,if_true]
theorem spans_words (s:ByteArray):∀ (f pos:Nat) (st:Option Nat) (acc:List (Nat × Nat)),s.size ≤ pos + f → pos ≤ s.size → (∀ a,st = some a → a < pos) →
    acc.map (fun p => mid (bts s) p.1 p.2) ++ wordsV (openP (bts s) st pos) ((bts s).drop pos) = (Lib.closeSpans s (Lib.spansFromP whiteR s f pos st acc)).map (fun p => mid (bts s) p.1 p.2):=by
  have hl:(bts s).length = s.size:=by unfold bts;rw [Array.length_toList];rfl
  have fin:∀ (st:Option Nat) (acc:List (Nat × Nat)),(∀ a,st = some a → a < s.size) → acc.map (fun p => mid (bts s) p.1 p.2) ++ wordsV (openP (bts s) st s.size) ((bts s).drop s.size) = (Lib.closeSpans s (acc,st)).map (fun p => mid (bts s) p.1 p.2):=fun st acc hst => by
    rw [List.drop_eq_nil_of_le (by omega),wordsV]
    cases st with
    | none => simp [Lib.closeSpans,openP]
    | some a =>
      have:=mid_ne (l:=bts s) (hst a rfl) (by omega)
      simp [Lib.closeSpans,openP,this]
  intro f
  induction f with
  | zero =>
    intro pos st acc h hp hst
    obtain rfl:pos = s.size:=by omega
    exact fin st acc hst
  | succ f ih =>
    intro pos st acc h hp hst
    by_cases hlt:pos < s.size
    · have hd:(bts s).drop pos = (bts s)[pos]'(by omega) :: (bts s).drop (pos + 1):=List.drop_eq_getElem_cons (by omega)
      have hg:=get_bts s hlt
      by_cases hb:(s.get! pos).toNat < 128
      · have hdec:=dec_low s hb
        rw [spans_step _ _ _ _ _ _ hlt,hdec]
        simp only
        rw [hg,whiteR_byte]
        cases hw:white ((bts s)[pos]'(by omega)) with
        | true =>
          simp only [if_true]
          cases st with
          | none =>
            rw [← ih (pos + 1) none acc (by omega) (by omega) (fun a h => by cases h),hd,wordsV,hw]
            rfl
          | some a =>
            have hne:=mid_ne (l:=bts s) (hst a rfl) (by omega)
            rw [← ih (pos + 1) none (acc ++ [(a,pos)]) (by omega) (by omega) (fun a h => by cases h),hd,wordsV,hw]
            show _ ++ (if mid (bts s) a pos = [] then _ else mid (bts s) a pos :: _) = _
            rw [if_neg hne,List.map_append,List.append_assoc]
            rfl
        | false =>
          have hgrow:∀ a,a ≤ pos → mid (bts s) a pos ++ [(bts s)[pos]'(by omega)] = mid (bts s) a (pos + 1):=fun a ha => by
            rw [← mid_grow (bts s) a pos 1 ha,hd]
            rfl
          simp only [Bool.false_eq_true,if_false]
          cases st with
          | none =>
            rw [← ih (pos + 1) (some pos) acc (by omega) (by omega) (fun a h => by cases h;omega),hd,wordsV,hw]
            show _ ++ wordsV ([] ++ [_]) _ = _ ++ wordsV (mid (bts s) pos (pos + 1)) _
            rw [← hgrow pos (Nat.le_refl _)]
            unfold mid
            simp
          | some a =>
            rw [← ih (pos + 1) (some a) acc (by omega) (by omega) (fun b h => by cases h;have:=hst a rfl;omega),hd,wordsV,hw]
            show _ ++ wordsV (mid (bts s) a pos ++ [_]) _ = _ ++ wordsV (mid (bts s) a (pos + 1)) _
            rw [hgrow a (Nat.le_of_lt (hst a rfl))]
      · obtain ⟨h1,h2,h3,h4⟩:=dec_high s hlt (by omega)
        rw [spans_step _ _ _ _ _ _ hlt,whiteR_high h1]
        simp only [Bool.false_eq_true,if_false]
        have hsp:(bts s).drop pos = ((bts s).drop pos).take (Utf8.decode s pos).2 ++ (bts s).drop (pos + (Utf8.decode s pos).2):=by
          rw [← List.drop_drop,List.take_append_drop]
        cases st with
        | none =>
          rw [← ih _ (some pos) acc (by omega) h3 (fun a h => by cases h;omega),hsp,words_over _ _ _ h4]
          show _ ++ wordsV ([] ++ _) _ = _ ++ wordsV (mid (bts s) pos (pos + _)) _
          rw [← mid_grow (bts s) pos pos _ (Nat.le_refl _)]
          unfold mid
          simp
        | some a =>
          rw [← ih _ (some a) acc (by omega) h3 (fun b h => by cases h;have:=hst a rfl;omega),hsp,words_over _ _ _ h4]
          show _ ++ wordsV (mid (bts s) a pos ++ _) _ = _ ++ wordsV (mid (bts s) a (pos + _)) _
          rw [mid_grow (bts s) a pos _ (Nat.le_of_lt (hst a rfl))]
    · obtain rfl:pos = s.size:=by omega
      rw [Lib.spansFromP_end _ _ _ _ _ _ hlt]
      exact fin st acc hst
theorem fields_words (s:ByteArray):(Lib.goFieldsP whiteR s).map bts = wordsV [] (bts s):=by
  have h:=spans_words s s.size 0 none [] (by omega) (Nat.zero_le _) (fun a h => by cases h)
  unfold Lib.goFieldsP Lib.spansOfP
  rw [List.map_map]
  have e:(bts ∘ fun x:Nat × Nat => s.extract x.1 x.2) = fun p => mid (bts s) p.1 p.2:=by
    funext p
    exact Rf.ex_list s p.1 p.2
  rw [e,← h]
  rfl
end Go.Proofs.YtnemagmakgiheaaGreat.Mt
/- package match: conditions of attributes. -/
namespace Go.Proofs.YtnemagmakgiheaaGreat.Mt
open Go.Proofs.YtnemagmakgiheaaGreat.Tre
open Go Go.RowKit Go.Shelf Dm
/-! ### plain facts -/
theorem btsInj {a b:ByteArray}:bts a = bts b ↔ a = b:=⟨fun h => ByteArray.ext (Array.toList_inj.1 h),fun h => by rw [h]⟩
theorem btsNil {a:ByteArray}:bts a = [] ↔ a = ⟨#[]⟩:=by
  rw [show ([]:List UInt8) = bts ⟨#[]⟩ from rfl]
  exact btsInj
theorem beqDec (a b:ByteArray):(a.toList == b.toList) = decide (a = b):=by
  by_cases h:a = b
  · rw [decide_eq_true h,h];simp
  · rw [decide_eq_false h,beq_false h]
theorem emptyNo {a:ByteArray} (h:a ≠ ⟨#[]⟩):a.toList.isEmpty = false:=by
  have:=eqlEmpty a
  rw [decide_eq_false h] at this
  cases e:a.toList with
  | nil => rw [e] at this;cases this
  | cons _ _ => rfl
theorem contains_infix (t:List UInt8) (ht:t ≠ []):∀ s:List UInt8,Lib.contains s t = infixV t s
  | [] => by
    unfold Lib.contains Lib.index infixV
    cases t with
    | nil => exact absurd rfl ht
    | cons c l => rfl
  | c :: l => by
    have ih:=contains_infix t ht l
    unfold Lib.contains Lib.index infixV
    cases hp:t.isPrefixOf (c :: l) with
    | true => rfl
    | false =>
      rw [Bool.false_or,← ih]
      unfold Lib.contains
      have hg:=Lib.index_ge l t
      by_cases h:Lib.index l t = -1
      · rw [h];rfl
      · have hb:(Lib.index l t == -1) = false:=by rw [beq_eq_false_iff_ne];exact h
        rw [if_neg (by decide),hb]
        simp only [Bool.false_eq_true,if_false]
        rw [decide_eq_decide]
        omega
theorem dash_no {s t:List UInt8} (h:Lib.hasPrefix s t = false):dashV s t = false:=by
  unfold dashV Lib.hasPrefix at *
  rw [Bool.or_eq_false_iff]
  constructor
  · rw [decide_eq_false_iff_not]
    rintro rfl
    rw [Bool.eq_false_iff] at h
    exact h (List.isPrefixOf_iff_prefix.2 (List.prefix_refl _))
  · rw [Bool.eq_false_iff] at h ⊢
    intro hp
    exact h (List.isPrefixOf_iff_prefix.2 ((List.prefix_append t [45]).trans (List.isPrefixOf_iff_prefix.1 hp)))
theorem dash_nil {s t:List UInt8} (h:Lib.hasPrefix s t = true) (hr:Lib.trimPrefix s t = []):dashV s t = true:=by
  unfold Lib.trimPrefix at hr
  rw [if_pos h] at hr
  obtain ⟨r,rfl⟩:=List.isPrefixOf_iff_prefix.1 h
  rw [List.drop_left] at hr
  subst hr
  unfold dashV
  simp
theorem dash_cons {s t l:List UInt8} {c:UInt8} (h:Lib.hasPrefix s t = true) (hr:Lib.trimPrefix s t = c :: l):dashV s t = (c == 45):=by
  unfold Lib.trimPrefix at hr
  rw [if_pos h] at hr
  obtain ⟨r,rfl⟩:=List.isPrefixOf_iff_prefix.1 h
  rw [List.drop_left] at hr
  subst hr
  unfold dashV
  rw [decide_eq_false (by intro e;have:=congrArg List.length e;simp at this),Bool.false_or,Bool.eq_iff_iff,List.isPrefixOf_iff_prefix,List.prefix_append_right_inj,beq_iff_eq]
  constructor
  · rintro ⟨x,hx⟩
    simp at hx
    exact hx.1.symm
  · rintro rfl
    exact ⟨l,rfl⟩
theorem contains_words {F:List ByteArray} {s t:ByteArray} (h:F.map bts = wordsV [] (bts s)):F.any (fun x => decide (x = t)) = (wordsV [] (bts s)).contains (bts t):=by
  rw [← h,Bool.eq_iff_iff,List.any_eq_true,List.contains_iff_mem,List.mem_map]
  constructor
  · rintro ⟨x,hx,e⟩
    exact ⟨x,hx,by rw [of_decide_eq_true e]⟩
  · rintro ⟨x,hx,e⟩
    exact ⟨x,hx,decide_eq_true (btsInj.1 e)⟩
theorem strs_owns {b:Nat} {W:World} {v:Value} {F:List ByteArray} (h:W.ownsRow b 9 1 v F.length (F.map Value.string)):StrsAt W.heap.size W v F:=SlAt.of_owns (f:=stCells) (e:=9) (b:=b) (fun _ => rfl) (by rw [flat_st];exact h)
theorem byte45 (c:UInt8):((c.toNat:Int) == 45) = (c == 45):=by
  rw [Bool.eq_iff_iff,beq_iff_eq,beq_iff_eq]
  constructor
  · intro h
    exact UInt8.toNat_inj.1 (show c.toNat = (45:UInt8).toNat from by show c.toNat = 45;omega)
  · rintro rfl
    rfl
/-! ### white -/
set_option maxHeartbeats 2000000 in
theorem white_any (x:Nat) (w:World):Calls Tryz.prog 179 #[.int .i32 x] w fun e w' => e = .returned (.bool (whiteR x)) ∧ w' = w:=by
  by_cases h9:x = 9
  · subst h9
    go_enter Tryz.func179,Tryz.ntmps179
    go_wp2
    go_ret
    exact ⟨rfl,rfl⟩
  by_cases h10:x = 10
  · subst h10
    go_enter Tryz.func179,Tryz.ntmps179
    go_wp2
    go_ret
    exact ⟨rfl,rfl⟩
  by_cases h12:x = 12
  · subst h12
    go_enter Tryz.func179,Tryz.ntmps179
    go_wp2
    go_ret
    exact ⟨rfl,rfl⟩
  by_cases h13:x = 13
  · subst h13
    go_enter Tryz.func179,Tryz.ntmps179
    go_wp2
    go_ret
    exact ⟨rfl,rfl⟩
  by_cases h32:x = 32
  · subst h32
    go_enter Tryz.func179,Tryz.ntmps179
    go_wp2
    go_ret
    exact ⟨rfl,rfl⟩
  have FIN:whiteR x = false:=by unfold whiteR;simp [h9,h10,h12,h13,h32]
  rw [FIN]
  have p9:((x:Int) == 9) = false:=by rw [beq_eq_false_iff_ne];omega
  have p10:((x:Int) == 10) = false:=by rw [beq_eq_false_iff_ne];omega
  have p12:((x:Int) == 12) = false:=by rw [beq_eq_false_iff_ne];omega
  have p13:((x:Int) == 13) = false:=by rw [beq_eq_false_iff_ne];omega
  have p32:((x:Int) == 32) = false:=by rw [beq_eq_false_iff_ne];omega
  clear h9 h10 h12 h13 h32 FIN
  go_enter Tryz.func179,Tryz.ntmps179
  go_wp2
  go_ret
  exact ⟨rfl,rfl⟩
theorem white_pred (w:World):PredAtRunes Tryz.prog 179 #[] whiteR w:=fun W x _ _ => (white_any x W).mono (fun _ _ h => ⟨h.1,0,by rw [h.2];rfl⟩)
def ML (W:World):Prop:=∃ m:Int,W.cell? ⟨0,0,none⟩ = some (.int .i64 m)
theorem ML.next {W X:World} (h:ML W) (hb:Below W.heap.size W X):ML X:=by
  obtain ⟨m,hm⟩:=h
  exact ⟨m,(hb.cell (p:=⟨0,0,none⟩) (World.block_lt_of_cell? W ⟨0,0,none⟩ hm)).trans hm⟩
/-! ### isText -/
set_option maxHeartbeats 8000000 in
theorem isText_any (s nm:ByteArray) (op:Int) (t:ByteArray) (w:World) (hs:s.size < 4294967281) (hM:ML w) :
    Calls Tryz.prog 164 #[.string s,.agg #[.string nm,.int .i64 op,.string t]] w fun r w' => r = .returned (.bool (textV s (.mk nm op t))) ∧ Below w.heap.size w w':=by
  obtain ⟨w1,hw1⟩:∃ w1,w.alloc (.cells #[.string nm,.int .i64 op,.string t] 154) = w1:=⟨_,rfl⟩
  have BW:Below w.heap.size w w1:=by rw [← hw1];exact (Below.refl _ _).alloc (Nat.le_refl _) _
  have k1:Blk w1 w.heap.size 154 [.string nm,.int .i64 op,.string t]:=by rw [← hw1];exact Blk.new w 154 _
  obtain ⟨⟨a0,a1,a2⟩,_⟩:=blk3 k1
  obtain ⟨m,hm⟩:=hM.next BW
  obtain ⟨V,hV⟩:∃ V,textV s (.mk nm op t) = V:=⟨_,rfl⟩
  rw [hV]
  have HVp:Hid (V = textV s (.mk nm op t)):=hV.symm
  have KA:Hid (Blk w1 w.heap.size 154 [.string nm,.int .i64 op,.string t]):=k1
  clear hV k1 a0 hM
  by_cases o0:op = 0
  · obtain rfl:V = true:=by rw [HVp.out,o0];rfl
    subst o0
    clear HVp hm
    go_enter Tryz.func164,Tryz.ntmps164
    go_wp2
    go_ret
    exact ⟨rfl,BW⟩
  by_cases o1:op = 1
  · obtain rfl:V = (s.toList == t.toList):=by rw [HVp.out,o1,beqDec];rfl
    subst o1
    clear HVp hm
    go_enter Tryz.func164,Tryz.ntmps164
    go_wp2
    go_ret
    exact ⟨rfl,BW⟩
  by_cases o2:op = 2
  · have HD:Hid (V = (wordsV [] (bts s)).contains (bts t)):=by show _ = _;rw [HVp.out,o2];rfl
    subst o2
    clear HVp hm
    have HSt:Hid (∀ Y,Below w1.heap.size w1 Y → Y.cell? ⟨w.heap.size,2,none⟩ = some (.string t)):=fun Y hY => (blk3 (KA.out.next hY)).1.2.2
    have q0:Below w1.heap.size w1 w1.drew:=below_drew (Below.refl _ _)
    have hF:=Tryz.strings_FieldsFunc_runes 179 #[] (fun _ _ => rfl) whiteR s w1.drew (by omega) (white_pred _)
    have hfw:=fields_words s
    generalize Lib.goFieldsP whiteR s = F at hF hfw
    have HW:Hid (F.any (fun x => decide (x = t)) = V):=by show _ = _;rw [HD.out,contains_words hfw]
    clear HD hfw
    go_enter Tryz.func164,Tryz.ntmps164
    go_upto_region 7 with fail
    clear a1 a2 hw1
    refine Rg.wpD_begin [0,1,2,3] (fun Y => Y.cell? ⟨w.heap.size,2,none⟩ = some (.string t)) (by kernel_rfl) ?_
    have HeldS:=HSt.out _ q0
    refine Rg.ld 0 HeldS ?_
    simp only [Act.put,Rg.sA,Rg.sB,Rg.sC]
    refine Rg.ld 2 HeldS ?_
    simp only [Act.put,Rg.sA,Rg.sB,Rg.sC]
    refine Rg.ld 3 HeldS ?_
    simp only [Act.put,Rg.sA,Rg.sB,Rg.sC]
    refine Rg.dd 1 fun K hK => ?_
    go_simp
    go_at_call 178
    refine Calls.mono hF ?_
    clear hF
    rintro e w5 ⟨A,rfl,hA,hr5,b5⟩
    have q5:=below_next q0 b5
    refine hK _ _ (fun _ => HSt.out _ q5) ?_
    clear hK K HeldS
    have hha:=containsStr_any _ F t w5 (strs_owns hr5)
    rw [show F.any _ = V from HW.out] at hha
    refine Rg.dd 4 fun K hK => ?_
    go_simp
    go_at_call 141
    refine Calls.mono hha ?_
    clear hha
    rintro e w6 ⟨rfl,hww⟩
    obtain rfl:=hww
    refine hK _ _ (fun h => absurd h (by decide)) ?_
    clear hK K
    refine Rg.pu 5 ?_
    simp only [Act.put,Rg.sA,Rg.sB,Rg.sC]
    refine Rg.wpD_done (by kernel_rfl) ?_
    have BW6:=below_next BW q5
    clear hr5 b5 q5 q0 HSt
    go_wp2
    go_ret
    exact ⟨rfl,BW6⟩
  by_cases o3:op = 3
  · have HD:Hid (V = dashV (bts s) (bts t)):=by show _ = _;rw [HVp.out,o3];rfl
    subst o3
    clear HVp hm
    have hc:=Tryz.strings_CutPrefix s t w1
    cases hp:Lib.hasPrefix s.data.toList t.data.toList with
    | false =>
      obtain rfl:V = false:=by rw [HD.out];exact dash_no hp
      rw [hp] at hc
      clear HD hp
      go_enter Tryz.func164,Tryz.ntmps164
      go_wp2_with fail
      refine hc.mono ?_
      clear hc
      rintro x w' ⟨rfl,hww⟩
      obtain rfl:w1 = w':=hww.symm
      go_wp2
      go_ret
      exact ⟨rfl,BW⟩
    | true =>
      rw [hp] at hc
      cases hr:Lib.trimPrefix s.data.toList t.data.toList with
      | nil =>
        obtain rfl:V = true:=by rw [HD.out];exact dash_nil hp hr
        rw [hr] at hc
        clear HD hp hr
        go_enter Tryz.func164,Tryz.ntmps164
        go_wp2_with fail
        refine hc.mono ?_
        clear hc
        rintro x w' ⟨rfl,hww⟩
        obtain rfl:w1 = w':=hww.symm
        go_wp2
        go_ret
        exact ⟨rfl,BW⟩
      | cons c l =>
        have HC:Hid (V = (c == 45)):=by show _ = _;rw [HD.out];exact dash_cons hp hr
        rw [hr] at hc
        obtain ⟨R,hR⟩:∃ R:ByteArray,R = ⟨(c :: l).toArray⟩:=⟨_,rfl⟩
        rw [← hR] at hc
        have r0:R ≠ ⟨#[]⟩:=by rw [hR];intro e;have:=congrArg (fun x:ByteArray => x.data.toList) e;simp at this
        have r1:=emptyNo r0
        have r2:(R.toList == []) = false:=by rw [eqlEmpty];exact decide_eq_false r0
        have r3:0 < R.size:=by rw [hR];show 0 < (c :: l).toArray.size;simp
        have r4:R[0]'r3 = c:=by subst hR;rfl
        clear HD hp hr hR r0
        go_enter Tryz.func164,Tryz.ntmps164
        go_wp2_with fail
        refine hc.mono ?_
        clear hc
        rintro x w' ⟨rfl,hww⟩
        obtain rfl:w1 = w':=hww.symm
        go_wp2
        go_ret
        exact ⟨by rw [HC.out,← byte45,← r4];rfl,BW⟩
  by_cases o4:op = 4
  · have HD:Hid (V = (decide (bts t ≠ []) && (bts t).isPrefixOf (bts s))):=by show _ = _;rw [HVp.out,o4];rfl
    subst o4
    clear HVp hm
    by_cases he:t = ⟨#[]⟩
    · obtain rfl:V = false:=by rw [HD.out,decide_eq_false (fun h => h (btsNil.2 he)),Bool.false_and]
      subst he
      clear HD
      go_enter Tryz.func164,Tryz.ntmps164
      go_wp2
      go_ret
      exact ⟨rfl,BW⟩
    · obtain rfl:V = (bts t).isPrefixOf (bts s):=by rw [HD.out,decide_eq_true (show bts t ≠ [] from fun h => he (btsNil.1 h)),Bool.true_and]
      have hem:=emptyNo he
      have hen:(t.toList == []) = false:=by rw [eqlEmpty];exact decide_eq_false he
      clear he HD
      have hc:=Tryz.strings_HasPrefix s t w1
      go_enter Tryz.func164,Tryz.ntmps164
      go_wp2_with fail
      refine hc.mono ?_
      clear hc
      rintro x w' ⟨rfl,hww⟩
      obtain rfl:w1 = w':=hww.symm
      go_wp2
      go_ret
      exact ⟨rfl,BW⟩
  by_cases o5:op = 5
  · have HD:Hid (V = (decide (bts t ≠ []) && (bts t).isSuffixOf (bts s))):=by show _ = _;rw [HVp.out,o5];rfl
    subst o5
    clear HVp hm
    by_cases he:t = ⟨#[]⟩
    · obtain rfl:V = false:=by rw [HD.out,decide_eq_false (fun h => h (btsNil.2 he)),Bool.false_and]
      subst he
      clear HD
      go_enter Tryz.func164,Tryz.ntmps164
      go_wp2
      go_ret
      exact ⟨rfl,BW⟩
    · obtain rfl:V = (bts t).isSuffixOf (bts s):=by rw [HD.out,decide_eq_true (show bts t ≠ [] from fun h => he (btsNil.1 h)),Bool.true_and]
      have hem:=emptyNo he
      have hen:(t.toList == []) = false:=by rw [eqlEmpty];exact decide_eq_false he
      clear he HD
      have hc:=Tryz.strings_HasSuffix s t w1 (by omega)
      go_enter Tryz.func164,Tryz.ntmps164
      go_wp2_with fail
      refine hc.mono ?_
      clear hc
      rintro x w' ⟨rfl,hww⟩
      obtain rfl:w1 = w':=hww.symm
      go_wp2
      go_ret
      exact ⟨rfl,BW⟩
  by_cases o6:op = 6
  · have HD:Hid (V = (decide (bts t ≠ []) && infixV (bts t) (bts s))):=by show _ = _;rw [HVp.out,o6];rfl
    subst o6
    clear HVp
    by_cases he:t = ⟨#[]⟩
    · obtain rfl:V = false:=by rw [HD.out,decide_eq_false (fun h => h (btsNil.2 he)),Bool.false_and]
      subst he
      clear HD hm
      go_enter Tryz.func164,Tryz.ntmps164
      go_wp2
      go_ret
      exact ⟨rfl,BW⟩
    · obtain rfl:V = Lib.contains s.data.toList t.data.toList:=by
        rw [HD.out,decide_eq_true (show bts t ≠ [] from fun h => he (btsNil.1 h)),Bool.true_and]
        exact (contains_infix (bts t) (fun h => he (btsNil.1 h)) (bts s)).symm
      have hem:=emptyNo he
      have hen:(t.toList == []) = false:=by rw [eqlEmpty];exact decide_eq_false he
      have hc:=Tryz.strings_Contains s t m w1 hs hm
      clear he HD hm
      go_enter Tryz.func164,Tryz.ntmps164
      go_wp2_with fail
      refine hc.mono ?_
      clear hc
      rintro x w' ⟨rfl,hww⟩
      obtain rfl:w1 = w':=hww.symm
      go_wp2
      go_ret
      exact ⟨rfl,BW⟩
  obtain rfl:V = false:=by
    rw [HVp.out]
    unfold textV
    simp only
    rw [if_neg o0,if_neg o1,if_neg o2,if_neg o3,if_neg o4,if_neg o5,if_neg o6]
  have p0:(op == 0) = false:=by simpa using o0
  have p1:(op == 1) = false:=by simpa using o1
  have p2:(op == 2) = false:=by simpa using o2
  have p3:(op == 3) = false:=by simpa using o3
  have p4:(op == 4) = false:=by simpa using o4
  have p5:(op == 5) = false:=by simpa using o5
  have p6:(op == 6) = false:=by simpa using o6
  clear HVp hm o0 o1 o2 o3 o4 o5 o6
  go_enter Tryz.func164,Tryz.ntmps164
  go_wp2
  go_ret
  exact ⟨rfl,BW⟩
/-! ### hasAttr -/
def ShortN (n:Nd):Prop:=∀ p ∈ n.ats,p.2.size < 4294967281
set_option maxHeartbeats 4000000 in
theorem hasAttr_any (n:Nd) (cv av:Value) (W:World) (hM:ML W) (hs:ShortN n) (hcv:StrsAt W.heap.size W cv n.cls) (hav:PairsAt W.heap.size W av n.ats) (a:At) :
    Calls Tryz.prog 142 #[ndVal n cv av,.agg #[.string a.name,.int .i64 a.op,.string a.text]] W fun r W' => r = .returned (.bool (attrV n a)) ∧ Below W.heap.size W W':=by
  obtain ⟨pn,cn,rfl⟩:=hcv.len
  obtain ⟨pa,ca,rfl⟩:=hav.len
  obtain ⟨w2,hw2⟩:∃ w2,(W.alloc (.cells #[.int .i64 n.parent,.string n.tag,.string n.id,.slice pn n.cls.length cn,.slice pa n.ats.length ca] 77)).alloc (.cells #[.string a.name,.int .i64 a.op,.string a.text] 154) = w2:=⟨_,rfl⟩
  have b2:Below W.heap.size W w2:=by rw [← hw2];exact ((Below.refl _ W).alloc (Nat.le_refl _) _).alloc (by simp) _
  have kn:Blk w2 W.heap.size 77 [.int .i64 n.parent,.string n.tag,.string n.id,.slice pn n.cls.length cn,.slice pa n.ats.length ca]:=by
    rw [← hw2]
    exact (Blk.new W 77 _).next ((Below.refl _ _).alloc (Nat.le_refl _) _)
  have kc:Blk w2 (W.heap.size + 1) 154 (atCells a):=by
    rw [← hw2]
    have:=Blk.new (W.alloc (.cells #[.int .i64 n.parent,.string n.tag,.string n.id,.slice pn n.cls.length cn,.slice pa n.ats.length ca] 77)) 154 (atCells a)
    rwa [World.size_alloc] at this
  obtain ⟨⟨n0,n1,n2,n3,n4⟩,_⟩:=blk5 kn
  have hi:=indexPair_any (.slice pa n.ats.length ca) n.ats a w2 (hav.next b2) (W.heap.size + 1) kc
  obtain ⟨V,hV⟩:∃ V,attrV n a = V:=⟨_,rfl⟩
  rw [hV]
  have HVV:Hid (attrV n a = V):=hV
  have KN:Hid (Blk w2 W.heap.size 77 [.int .i64 n.parent,.string n.tag,.string n.id,.slice pn n.cls.length cn,.slice pa n.ats.length ca]):=kn
  have KC:Hid (Blk w2 (W.heap.size + 1) 154 (atCells a)):=kc
  have HAV:Hid (PairsAt W.heap.size W (.slice pa n.ats.length ca) n.ats):=hav
  have HM:Hid (ML W):=hM
  have HSN:Hid (ShortN n):=hs
  unfold ndVal
  clear hV kn kc hav hcv hM hs n0 n1 n2 n3
  go_enter Tryz.func142,Tryz.ntmps142
  go_wp2_with fail
  refine hi.mono ?_
  clear hi n4 hw2
  rintro r X ⟨hk,bX⟩
  have bWX:=below_next b2 bX
  obtain ⟨⟨n0,n1,n2,n3,n4⟩,_⟩:=blk5 (KN.out.next bX)
  rcases hk with ⟨i,p,rfl,hp,hf⟩ | ⟨rfl,hf⟩
  · have hVt:textV p.2 a = V:=by rw [← show attrV n a = V from HVV.out];unfold attrV;rw [hf]
    have hlt:i < n.ats.length:=(List.getElem?_eq_some_iff.1 hp).1
    have hii:(i:Int) < (n.ats.length:Int):=by omega
    have hi0:(0:Int) ≤ (i:Int):=by omega
    obtain ⟨bk,off,rfl,hbk,hcap,hmx,hcell⟩:=(HAV.out.below bWX).get hp
    have hbkX:bk < X.heap.size:=Nat.lt_of_lt_of_le hbk bWX.size
    have a1:=hcell 1 _ rfl
    unfold maxLen at hmx
    obtain ⟨⟨m0,m1,m2⟩,_⟩:=blk3 (KC.out.next bX)
    have q0:Below X.heap.size X X.drew:=below_drew (Below.refl _ _)
    have hT:=isText_any p.2 a.name a.op a.text X.drew (HSN.out p (List.mem_of_getElem? hp)) (HM.out.next (below_next bWX q0))
    rw [show At.mk a.name a.op a.text = a by cases a;rfl,hVt] at hT
    have bWq:=below_next bWX q0
    have HeldS:X.drew.cell? ⟨W.heap.size,4,none⟩ = some (.slice (some ⟨bk,off,none⟩) n.ats.length ca) ∧ X.drew.cell? ⟨bk,off + i * 2 + 1,none⟩ = some (.string p.2) ∧ X.drew.cell? ⟨W.heap.size + 1,0,none⟩ = some (.string a.name) ∧ X.drew.cell? ⟨W.heap.size + 1,1,none⟩ = some (.int .i64 a.op) ∧ X.drew.cell? ⟨W.heap.size + 1,2,none⟩ = some (.string a.text):=⟨n4,a1,m0,m1,m2⟩
    clear hcell hf hp hVt HVV n0 n1 n2 n3 n4 m0 m1 m2 a1
    go_upto_region 2 with fail
    refine Rg.wpD_begin [3,4,5,6,7,8,9] (fun Y => Y.cell? ⟨W.heap.size,4,none⟩ = some (.slice (some ⟨bk,off,none⟩) n.ats.length ca) ∧ Y.cell? ⟨bk,off + i * 2 + 1,none⟩ = some (.string p.2) ∧ Y.cell? ⟨W.heap.size + 1,0,none⟩ = some (.string a.name) ∧ Y.cell? ⟨W.heap.size + 1,1,none⟩ = some (.int .i64 a.op) ∧ Y.cell? ⟨W.heap.size + 1,2,none⟩ = some (.string a.text)) (by kernel_rfl) ?_
    refine Rg.pu 0 ?_
    simp only [Act.put,Rg.sA,Rg.sB,Rg.sC]
    refine Rg.pu 1 ?_
    simp only [Act.put,Rg.sA,Rg.sB,Rg.sC]
    refine Rg.pu 2 ?_
    simp only [Act.put,Rg.sA,Rg.sB,Rg.sC]
    refine Rg.ld 3 HeldS ?_
    simp only [Act.put,Rg.sA,Rg.sB,Rg.sC]
    refine Rg.ld 4 HeldS ?_
    simp only [Act.put,Rg.sA,Rg.sB,Rg.sC]
    refine Rg.ld 5 HeldS ?_
    simp only [Act.put,Rg.sA,Rg.sB,Rg.sC]
    refine Rg.ld 6 HeldS ?_
    simp only [Act.put,Rg.sA,Rg.sB,Rg.sC]
    refine Rg.ld 7 HeldS ?_
    simp only [Act.put,Rg.sA,Rg.sB,Rg.sC]
    refine Rg.ld 8 HeldS ?_
    simp only [Act.put,Rg.sA,Rg.sB,Rg.sC]
    refine Rg.ld 9 HeldS ?_
    simp only [Act.put,Rg.sA,Rg.sB,Rg.sC]
    refine Rg.dd 10 fun K hK => ?_
    go_simp
    go_at_call 164
    refine Calls.mono hT ?_
    clear hT
    rintro r Y ⟨rfl,bY⟩
    refine hK _ _ (fun h => absurd h (by decide)) ?_
    clear hK K HeldS
    refine Rg.pu 11 ?_
    simp only [Act.put,Rg.sA,Rg.sB,Rg.sC]
    refine Rg.pu 12 ?_
    simp only [Act.put,Rg.sA,Rg.sB,Rg.sC]
    refine Rg.wpD_done (by kernel_rfl) ?_
    have FIN:=below_next bWq bY
    go_wp2
    go_ret
    exact ⟨rfl,FIN⟩
  · obtain rfl:V = false:=by rw [← show attrV n a = V from HVV.out];unfold attrV;rw [hf]
    clear hf HVV
    go_upto_region 2 with fail
    go_quiet (fail)
    go_wp2
    go_ret
    exact ⟨rfl,below_drewN' bWX _⟩
theorem attrs_ok {w:World} {es:List El} (hM:ML w) (hs:∀ e ∈ es,ShortN e.nd):∀ a,AtOk a → AttrK w es a:=fun a _ n cv av W hq hb _ h1 h2 => by
  obtain ⟨q,hq,rfl⟩:=hq
  exact hasAttr_any q.nd cv av W (hM.next hb) (hs q hq) h1 h2 a
end Go.Proofs.YtnemagmakgiheaaGreat.Mt

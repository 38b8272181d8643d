/- The document's own matching (tapestrierref9): texts (blank, begins, ends, in). -/
import Derived.Test.YtagbjmocjaaioaaGreatDoorProg
import Derived.Test.YtagbjmocjaaioaaGreatDoorMtSpec
import Derived.WalkKit
import Derived.Below
import Derived.Deep.QuietTactic
import Derived.BigQuiet
import Derived.Lib.FieldsP
import Derived.Lib.DecodeN
namespace Go.Proofs.YtagbjmocjaaioaaGreatDoor.Rf
open Go Go.RowKit
/-! ### plain facts -/
def bts (s:ByteArray):List UInt8:=s.data.toList
def infixV (t:List UInt8):List UInt8 → Bool
 | [] => t.isPrefixOf []
 | c :: l => t.isPrefixOf (c :: l) || infixV t l
theorem ex_list (s:ByteArray) (a b:Nat):(s.extract a b).data.toList = ((bts s).drop a).take (b - a):=by
 unfold bts
 rw [ByteArray.data_extract,Array.toList_extract,List.extract_eq_take_drop]
def white (c:UInt8):Bool:=c == 9 || c == 10 || c == 12 || c == 13 || c == 32
end Go.Proofs.YtagbjmocjaaioaaGreatDoor.Rf

/- The fields of a text, by runes, are its words, by bytes: plain facts. -/
namespace Go.Proofs.YtagbjmocjaaioaaGreatDoor.Mt
open Go.Proofs.YtagbjmocjaaioaaGreatDoor.Tre
open Go
def whiteR (r:Nat):Bool:=r == 9 || r == 10 || r == 12 || r == 13 || r == 32
theorem whiteR_byte (c:UInt8):whiteR c.toNat = white c:=by
 unfold whiteR white
 have h:∀ k:Nat,k < 256 → (c.toNat == k) = (c == UInt8.ofNat k):=fun k hk => by
  rw [Bool.eq_iff_iff,beq_iff_eq,beq_iff_eq]
  constructor
  ·intro e
   rw [← e]
   exact (UInt8.ofNat_toNat).symm
  ·intro e
   rw [e]
   simp
   omega
 rw [h 9 (by omega),h 10 (by omega),h 12 (by omega),h 13 (by omega),h 32 (by omega)]
 rfl
theorem whiteR_high {r:Nat} (h:128 ≤ r):whiteR r = false:=by
 unfold whiteR
 simp
 omega
theorem white_high {c:UInt8} (h:128 ≤ c.toNat):white c = false:=by rw [← whiteR_byte];exact whiteR_high h
theorem words_over:∀ (l1 l2 acc:List UInt8),(∀ c ∈ l1,white c = false) → wordsV acc (l1 ++ l2) = wordsV (acc ++ l1) l2
 | [],l2,acc,_ => by simp
 | c :: l1,l2,acc,h => by
  rw [List.cons_append,wordsV,h c (List.mem_cons_self ..),words_over l1 l2 (acc ++ [c]) (fun x hx => h x (List.mem_cons_of_mem _ hx)),List.append_assoc]
  rfl
def mid (l:List UInt8) (f k:Nat):List UInt8:=(l.drop f).take (k - f)
theorem mid_ne {l:List UInt8} {f k:Nat} (hf:f < k) (hk:k ≤ l.length):mid l f k ≠ []:=by
 unfold mid
 intro h
 have:=congrArg List.length h
 rw [List.length_take,List.length_drop] at this
 simp at this
 omega
theorem mid_grow (l:List UInt8) (a pos k:Nat) (h:a ≤ pos):mid l a pos ++ (l.drop pos).take k = mid l a (pos + k):=by
 unfold mid
 have e:l.drop pos = (l.drop a).drop (pos - a):=by rw [List.drop_drop];congr 1;omega
 rw [e,show pos + k - a = (pos - a) + k by omega,List.take_add]
def openP (l:List UInt8) (st:Option Nat) (pos:Nat):List UInt8:=match st with | some a => mid l a pos | none => []
theorem decN {n b0 b1 b2 b3:Nat} (h:128 ≤ b0):128 ≤ (Lib.decodeN n b0 b1 b2 b3).1 ∧ (((Lib.decodeN n b0 b1 b2 b3).2 = 1) ∨ ((Lib.decodeN n b0 b1 b2 b3).2 = 2 ∧ 2 ≤ n ∧ 128 ≤ b1) ∨ ((Lib.decodeN n b0 b1 b2 b3).2 = 3 ∧ 3 ≤ n ∧ 128 ≤ b1 ∧ 128 ≤ b2) ∨ ((Lib.decodeN n b0 b1 b2 b3).2 = 4 ∧ 4 ≤ n ∧ 128 ≤ b1 ∧ 128 ≤ b2 ∧ 128 ≤ b3)):=by
 obtain ⟨D,hD⟩:∃ D,D = Lib.decodeN n b0 b1 b2 b3:=⟨_,rfl⟩
 rw [← hD]
 unfold Lib.decodeN at hD
 rw [if_neg (by omega)] at hD
 split at hD
 ·split at hD
  ·subst hD
   exact ⟨by show 128 ≤ b0 % 32 * 64 + b1 % 64;omega,.inr (.inl ⟨rfl,by omega,by omega⟩)⟩
  ·subst hD
   exact ⟨by decide,.inl rfl⟩
 ·split at hD
  ·split at hD
   ·subst hD
    exact ⟨by show 128 ≤ b0 % 16 * 4096 + b1 % 64 * 64 + b2 % 64;omega,.inr (.inr (.inl ⟨rfl,by omega,by omega,by omega⟩))⟩
   ·subst hD
    exact ⟨by decide,.inl rfl⟩
  ·split at hD
   ·split at hD
    ·subst hD
     exact ⟨by show 128 ≤ b0 % 8 * 262144 + b1 % 64 * 4096 + b2 % 64 * 64 + b3 % 64;omega,.inr (.inr (.inr ⟨rfl,by omega,by omega,by omega,by omega⟩))⟩
    ·subst hD
     exact ⟨by decide,.inl rfl⟩
   ·subst hD
    exact ⟨by decide,.inl rfl⟩
theorem get_bts (s:ByteArray) {i:Nat} (hi:i < s.size):s.get! i = (bts s)[i]'(by unfold bts;rw [Array.length_toList];exact hi):=by
 unfold bts ByteArray.get!
 rw [Array.getElem_toList]
 exact getElem!_pos s.data i hi
theorem dec_high (s:ByteArray) {pos:Nat} (hp:pos < s.size) (h:128 ≤ (s.get! pos).toNat) :
  128 ≤ (Utf8.decode s pos).1 ∧ 1 ≤ (Utf8.decode s pos).2 ∧ pos + (Utf8.decode s pos).2 ≤ s.size ∧ ∀ c ∈ ((bts s).drop pos).take (Utf8.decode s pos).2,white c = false:=by
 have hl:(bts s).length = s.size:=by unfold bts;rw [Array.length_toList];rfl
 obtain ⟨h1,h2⟩:=decN (n:=s.size - pos) (b1:=(s.get! (pos + 1)).toNat) (b2:=(s.get! (pos + 2)).toNat) (b3:=(s.get! (pos + 3)).toNat) h
 rw [← Lib.decode_at] at h1 h2
 generalize Utf8.decode s pos = D at *
 have key:∀ k,(∀ j,j < k → pos + j < s.size ∧ 128 ≤ (s.get! (pos + j)).toNat) → ∀ c ∈ ((bts s).drop pos).take k,white c = false:=fun k hk c hc => by
  obtain ⟨j,hj,rfl⟩:=List.getElem_of_mem hc
  rw [List.length_take,List.length_drop] at hj
  obtain ⟨a1,a2⟩:=hk j (by omega)
  rw [List.getElem_take,List.getElem_drop]
  rw [get_bts s a1] at a2
  exact white_high a2
 refine ⟨h1,by omega,by omega,key _ (fun j hj => ?_)⟩
 rcases h2 with e | ⟨e,g0,g1⟩ | ⟨e,g0,g1,g2⟩ | ⟨e,g0,g1,g2,g3⟩ <;> rw [e] at hj
 ·obtain rfl:j = 0:=by omega
  exact ⟨by omega,h⟩
 ·match j,hj with
  | 0,_ => exact ⟨by omega,h⟩
  | 1,_ => exact ⟨by omega,g1⟩
 ·match j,hj with
  | 0,_ => exact ⟨by omega,h⟩
  | 1,_ => exact ⟨by omega,g1⟩
  | 2,_ => exact ⟨by omega,g2⟩
 ·match j,hj with
  | 0,_ => exact ⟨by omega,h⟩
  | 1,_ => exact ⟨by omega,g1⟩
  | 2,_ => exact ⟨by omega,g2⟩
  | 3,_ => exact ⟨by omega,g3⟩
theorem dec_low (s:ByteArray) {pos:Nat} (h:(s.get! pos).toNat < 128):Utf8.decode s pos = ((s.get! pos).toNat,1):=by
 rw [Lib.decode_at]
 unfold Lib.decodeN
 rw [if_pos h]
theorem spans_step (p:Nat → Bool) (s:ByteArray) (f pos:Nat) (st:Option Nat) (acc:List (Nat × Nat)) (h:pos < s.size):Lib.spansFromP p s (f + 1) pos st acc =
  (if p (Utf8.decode s pos).1 then
    (match st with
     | some a => Lib.spansFromP p s f (pos + (Utf8.decode s pos).2) none (acc ++ [(a,pos)])
     | none => Lib.spansFromP p s f (pos + (Utf8.decode s pos).2) none acc)
    else
    (match st with
     | some a => Lib.spansFromP p s f (pos + (Utf8.decode s pos).2) (some a) acc
     | none => Lib.spansFromP p s f (pos + (Utf8.decode s pos).2) (some pos) acc)):=by
 cases st <;> simp only [Lib.spansFromP,h,if_true]
theorem spans_words (s:ByteArray):∀ (f pos:Nat) (st:Option Nat) (acc:List (Nat × Nat)),s.size ≤ pos + f → pos ≤ s.size → (∀ a,st = some a → a < pos) →
  acc.map (fun p => mid (bts s) p.1 p.2) ++ wordsV (openP (bts s) st pos) ((bts s).drop pos) = (Lib.closeSpans s (Lib.spansFromP whiteR s f pos st acc)).map (fun p => mid (bts s) p.1 p.2):=by
 have hl:(bts s).length = s.size:=by unfold bts;rw [Array.length_toList];rfl
 have fin:∀ (st:Option Nat) (acc:List (Nat × Nat)),(∀ a,st = some a → a < s.size) → acc.map (fun p => mid (bts s) p.1 p.2) ++ wordsV (openP (bts s) st s.size) ((bts s).drop s.size) = (Lib.closeSpans s (acc,st)).map (fun p => mid (bts s) p.1 p.2):=fun st acc hst => by
  rw [List.drop_eq_nil_of_le (by omega),wordsV]
  cases st with
  | none => simp [Lib.closeSpans,openP]
  | some a =>
   have:=mid_ne (l:=bts s) (hst a rfl) (by omega)
   simp [Lib.closeSpans,openP,this]
 intro f
 induction f with
 | zero =>
  intro pos st acc h hp hst
  obtain rfl:pos = s.size:=by omega
  exact fin st acc hst
 | succ f ih =>
  intro pos st acc h hp hst
  by_cases hlt:pos < s.size
  ·have hd:(bts s).drop pos = (bts s)[pos]'(by omega) :: (bts s).drop (pos + 1):=List.drop_eq_getElem_cons (by omega)
   have hg:=get_bts s hlt
   by_cases hb:(s.get! pos).toNat < 128
   ·have hdec:=dec_low s hb
    rw [spans_step _ _ _ _ _ _ hlt,hdec]
    simp only
    rw [hg,whiteR_byte]
    cases hw:white ((bts s)[pos]'(by omega)) with
    | true =>
     simp only [if_true]
     cases st with
     | none =>
      rw [← ih (pos + 1) none acc (by omega) (by omega) (fun a h => by cases h),hd,wordsV,hw]
      rfl
     | some a =>
      have hne:=mid_ne (l:=bts s) (hst a rfl) (by omega)
      rw [← ih (pos + 1) none (acc ++ [(a,pos)]) (by omega) (by omega) (fun a h => by cases h),hd,wordsV,hw]
      show _ ++ (if mid (bts s) a pos = [] then _ else mid (bts s) a pos :: _) = _
      rw [if_neg hne,List.map_append,List.append_assoc]
      rfl
    | false =>
     have hgrow:∀ a,a ≤ pos → mid (bts s) a pos ++ [(bts s)[pos]'(by omega)] = mid (bts s) a (pos + 1):=fun a ha => by
      rw [← mid_grow (bts s) a pos 1 ha,hd]
      rfl
     simp only [Bool.false_eq_true,if_false]
     cases st with
     | none =>
      rw [← ih (pos + 1) (some pos) acc (by omega) (by omega) (fun a h => by cases h;omega),hd,wordsV,hw]
      show _ ++ wordsV ([] ++ [_]) _ = _ ++ wordsV (mid (bts s) pos (pos + 1)) _
      rw [← hgrow pos (Nat.le_refl _)]
      unfold mid
      simp
     | some a =>
      rw [← ih (pos + 1) (some a) acc (by omega) (by omega) (fun b h => by cases h;have:=hst a rfl;omega),hd,wordsV,hw]
      show _ ++ wordsV (mid (bts s) a pos ++ [_]) _ = _ ++ wordsV (mid (bts s) a (pos + 1)) _
      rw [hgrow a (Nat.le_of_lt (hst a rfl))]
   ·obtain ⟨h1,h2,h3,h4⟩:=dec_high s hlt (by omega)
    rw [spans_step _ _ _ _ _ _ hlt,whiteR_high h1]
    simp only [Bool.false_eq_true,if_false]
    have hsp:(bts s).drop pos = ((bts s).drop pos).take (Utf8.decode s pos).2 ++ (bts s).drop (pos + (Utf8.decode s pos).2):=by
     rw [← List.drop_drop,List.take_append_drop]
    cases st with
    | none =>
     rw [← ih _ (some pos) acc (by omega) h3 (fun a h => by cases h;omega),hsp,words_over _ _ _ h4]
     show _ ++ wordsV ([] ++ _) _ = _ ++ wordsV (mid (bts s) pos (pos + _)) _
     rw [← mid_grow (bts s) pos pos _ (Nat.le_refl _)]
     unfold mid
     simp
    | some a =>
     rw [← ih _ (some a) acc (by omega) h3 (fun b h => by cases h;have:=hst a rfl;omega),hsp,words_over _ _ _ h4]
     show _ ++ wordsV (mid (bts s) a pos ++ _) _ = _ ++ wordsV (mid (bts s) a (pos + _)) _
     rw [mid_grow (bts s) a pos _ (Nat.le_of_lt (hst a rfl))]
  ·obtain rfl:pos = s.size:=by omega
   rw [Lib.spansFromP_end _ _ _ _ _ _ hlt]
   exact fin st acc hst
theorem fields_words (s:ByteArray):(Lib.goFieldsP whiteR s).map bts = wordsV [] (bts s):=by
 have h:=spans_words s s.size 0 none [] (by omega) (Nat.zero_le _) (fun a h => by cases h)
 unfold Lib.goFieldsP Lib.spansOfP
 rw [List.map_map]
 have e:(bts ∘ fun x:Nat × Nat => s.extract x.1 x.2) = fun p => mid (bts s) p.1 p.2:=by
  funext p
  exact Rf.ex_list s p.1 p.2
 rw [e,← h]
 rfl
end Go.Proofs.YtagbjmocjaaioaaGreatDoor.Mt

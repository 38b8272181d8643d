/- The document's own matching (tapestrierref9): places in a row of numbers (nth, far). -/
import Derived.Test.YtnemagmakgiheaaGreatProg
import Derived.Test.YtnemagmakgiheaaGreatDmGe
import Derived.Test.YtnemagmakgiheaaGreatMtGx
import Derived.WalkKit
import Derived.Below
import Derived.Deep.QuietTactic
import Derived.BigQuiet
set_option maxRecDepth 100000
namespace Go.Proofs.YtnemagmakgiheaaGreat.Rf
open Go Go.RowKit
def i64 (x:Int):Prop:=-9223372036854775808 ≤ x ∧ x ≤ 9223372036854775807
def rowV (p a b:Int):Bool:=if 0 < a then decide (b ≤ p ∧ (p - b) % a = 0) else if a < 0 then decide (p ≤ b ∧ (b - p) % (-a) = 0) else decide (p = b)
theorem wrapU (x:Int):IntKind.u64.wrap x = x % 18446744073709551616:=by simp [IntKind.wrap,IntKind.bits,IntKind.signed]
theorem wrapU_sub {p b:Int} (hp:i64 p) (hb:i64 b) (h:b ≤ p):IntKind.u64.wrap (IntKind.u64.wrap p - IntKind.u64.wrap b) = p - b:=by
 unfold i64 at hp hb
 rw [wrapU,wrapU,wrapU]
 omega
theorem wrapU_neg {a:Int} (ha:i64 a) (h:a < 0):IntKind.u64.wrap (-IntKind.u64.wrap a) = -a:=by
 unfold i64 at ha
 rw [wrapU,wrapU]
 omega
set_option maxHeartbeats 2000000 in
theorem far_any (p a b:Int) (hp:i64 p) (ha:i64 a) (hb:i64 b) (h0:a ≠ 0) (w:World) :
  Calls Tryz.prog 177 #[.int .i64 p,.int .i64 a,.int .i64 b] w fun e w' => e = .returned (.bool (rowV p a b)) ∧ w' = w:=by
 have hs1:=fun h => wrapU_sub (p:=p) (b:=b) hp hb h
 have hs2:=fun h => wrapU_sub (p:=b) (b:=p) hb hp h
 have hn:=fun h => wrapU_neg (a:=a) ha h
 unfold i64 at hp ha hb
 by_cases he:b = p
 ·subst he
  have hV:rowV b a b = true:=by
   unfold rowV
   split
   ·simp
   ·split
    ·simp
    ·simp
  rw [hV]
  clear hs1 hs2 hn hV
  go_enter Tryz.func177,Tryz.ntmps177
  go_wp2
  go_ret
  exact ⟨rfl,rfl⟩
 ·have hne:(b == p) = false:=by simpa using he
  unfold rowV
  by_cases h1:0 < a
  ·rw [if_pos h1]
   have h2:¬ (a < 0):=by omega
   by_cases h3:b < p
   ·have hs:=hs1 (by omega)
    have hV:decide (b ≤ p ∧ (p - b) % a = 0) = ((p - b) % a == 0):=by
     rw [Bool.eq_iff_iff]
     have:b ≤ p:=by omega
     simp [this]
    rw [hV]
    clear hs1 hs2 hn hV
    have hw:IntKind.u64.wrap a = a:=by rw [wrapU];omega
    go_enter Tryz.func177,Tryz.ntmps177
    go_wp2
    go_ret
    exact ⟨rfl,rfl⟩
   ·rw [decide_eq_false (fun h => by omega)]
    clear hs1 hs2 hn
    go_enter Tryz.func177,Tryz.ntmps177
    go_wp2
    go_ret
    exact ⟨rfl,rfl⟩
  ·rw [if_neg h1]
   have h2:a < 0:=by omega
   rw [if_pos h2]
   by_cases h3:b < p
   ·rw [decide_eq_false (fun h => by omega)]
    clear hs1 hs2 hn
    go_enter Tryz.func177,Tryz.ntmps177
    go_wp2
    go_ret
    exact ⟨rfl,rfl⟩
   ·have hs:=hs2 (by omega)
    have hm:=hn h2
    have hm0:¬ (-a = 0):=by omega
    obtain ⟨m,hm2⟩:∃ m,-a = m:=⟨_,rfl⟩
    rw [hm2] at hm hm0
    have hV:decide (p ≤ b ∧ (b - p) % -a = 0) = ((b - p) % m == 0):=by
     have:p ≤ b:=by omega
     rw [hm2,Bool.eq_iff_iff]
     simp [this]
    rw [hV]
    clear hs1 hs2 hn hV hm2
    go_enter Tryz.func177,Tryz.ntmps177
    go_wp2
    go_ret
    exact ⟨rfl,rfl⟩
theorem row_near {p a b:Int} (h0:a ≠ 0):(Int.tmod (p - b) a = 0 ∧ 0 ≤ Int.tdiv (p - b) a) ↔ rowV p a b = true:=by
 unfold rowV
 have hd:Int.tmod (p - b) a = 0 ↔ a ∣ (p - b):=(Int.dvd_iff_tmod_eq_zero).symm
 rw [hd]
 constructor
 ·rintro ⟨⟨k,hk⟩,h⟩
  rw [hk,Int.mul_tdiv_cancel_left _ h0] at h
  split
  ·rename_i h1
   refine decide_eq_true ⟨?_,by rw [hk];exact Int.mul_emod_right _ _⟩
   have:=Int.mul_nonneg (Int.le_of_lt h1) h
   omega
  ·rename_i h1
   have h2:a < 0:=by omega
   rw [if_pos h2]
   have e:b - p = (-a) * k:=by rw [Int.neg_mul];omega
   refine decide_eq_true ⟨?_,by rw [e];exact Int.mul_emod_right _ _⟩
   have:=Int.mul_nonneg (show 0 ≤ -a by omega) h
   omega
 ·split
  ·rename_i h1
   intro h
   obtain ⟨h2,h3⟩:=of_decide_eq_true h
   exact ⟨Int.dvd_of_emod_eq_zero h3,Int.tdiv_nonneg (by omega) (by omega)⟩
  ·rename_i h1
   have h2:a < 0:=by omega
   rw [if_pos h2]
   intro h
   obtain ⟨h2,h3⟩:=of_decide_eq_true h
   have h4:-a ∣ b - p:=Int.dvd_of_emod_eq_zero h3
   obtain ⟨k,hk⟩:=h4
   have e:p - b = a * k:=by rw [Int.neg_mul] at hk;omega
   refine ⟨⟨k,e⟩,?_⟩
   rw [show p - b = -(b - p) by omega,show a = -(-a) by omega,Int.neg_tdiv_neg]
   exact Int.tdiv_nonneg (by omega) (by omega)
set_option maxHeartbeats 2000000 in
theorem nth_any (p a b:Int) (hp:0 ≤ p ∧ p ≤ 4294967296) (ha:i64 a) (hb:i64 b) (w:World) :
  Calls Tryz.prog 156 #[.int .i64 p,.int .i64 a,.int .i64 b] w fun e w' => e = .returned (.bool (rowV p a b)) ∧ w' = w:=by
 by_cases h0:a = 0
 ·subst h0
  have hV:rowV p 0 b = (p == b):=by
   unfold rowV
   rw [if_neg (by omega),if_neg (by omega),Bool.eq_iff_iff]
   simp
  rw [hV]
  go_enter Tryz.func156,Tryz.ntmps156
  go_wp2
  go_ret
  exact ⟨rfl,rfl⟩
 ·have hF:=far_any p a b (by unfold i64;omega) ha hb h0 w
  have hN:=row_near (p:=p) (b:=b) h0
  generalize rowV p a b = V at hF hN ⊢
  unfold i64 at ha hb
  have hne:(a == 0) = false:=by simpa using h0
  by_cases h1:1099511627776 < b
  ·clear hN
   go_enter Tryz.func156,Tryz.ntmps156
   go_wp2_with fail
   refine hF.mono ?_
   clear hF
   rintro x w' ⟨rfl,rfl⟩
   go_wp2
   go_ret
   exact ⟨rfl,rfl⟩
  ·by_cases h2:b < -1099511627776
   ·clear hN
    go_enter Tryz.func156,Tryz.ntmps156
    go_wp2_with fail
    refine hF.mono ?_
    clear hF
    rintro x w' ⟨rfl,rfl⟩
    go_wp2
    go_ret
    exact ⟨rfl,rfl⟩
   ·by_cases h3:1099511627776 < a
    ·clear hN
     go_enter Tryz.func156,Tryz.ntmps156
     go_wp2_with fail
     refine hF.mono ?_
     clear hF
     rintro x w' ⟨rfl,rfl⟩
     go_wp2
     go_ret
     exact ⟨rfl,rfl⟩
    ·by_cases h4:a < -1099511627776
     ·clear hN
      go_enter Tryz.func156,Tryz.ntmps156
      go_wp2_with fail
      refine hF.mono ?_
      clear hF
      rintro x w' ⟨rfl,rfl⟩
      go_wp2
      go_ret
      exact ⟨rfl,rfl⟩
     ·clear hF
      have hQ:-9223372036854775808 ≤ (p - b).tdiv a ∧ (p - b).tdiv a ≤ 9223372036854775807:=by
       have:=Int.natAbs_tdiv_le_natAbs (p - b) a
       omega
      by_cases hm:(p - b).tmod a = 0
      ·have hV:V = decide (0 ≤ (p - b).tdiv a):=by
        rw [Bool.eq_iff_iff,← hN]
        simp [hm]
       rw [hV]
       clear hN hV
       go_enter Tryz.func156,Tryz.ntmps156
       go_wp2
       go_ret
       exact ⟨rfl,rfl⟩
      ·have hV:V = false:=by
        rw [Bool.eq_false_iff]
        exact fun h => hm (hN.2 h).1
       rw [hV]
       clear hN hV
       go_enter Tryz.func156,Tryz.ntmps156
       go_wp2
       go_ret
       exact ⟨rfl,rfl⟩
end Go.Proofs.YtnemagmakgiheaaGreat.Rf
/- The document's own matching (tapestrierref9): texts (blank, begins, ends, in). -/
namespace Go.Proofs.YtnemagmakgiheaaGreat.Rf
open Go Go.RowKit
/-! ### plain facts -/
def bts (s:ByteArray):List UInt8:=s.data.toList
theorem bts_len (s:ByteArray):(bts s).length = s.size:=by
 show s.data.toList.length = s.data.size
 exact Array.length_toList
def infixV (t:List UInt8):List UInt8 → Bool
 | [] => t.isPrefixOf []
 | c :: l => t.isPrefixOf (c :: l) || infixV t l
theorem infix_step (t l:List UInt8):infixV t l = (t.isPrefixOf l || infixV t (l.drop 1)):=by
 cases l with
 | nil => unfold infixV;simp
 | cons c l => rfl
theorem infix_short (t:List UInt8):∀ l:List UInt8,l.length < t.length → infixV t l = false
 | [],h => by
  unfold infixV
  rw [Bool.eq_false_iff]
  intro e
  have:=(List.isPrefixOf_iff_prefix.1 e).length_le
  omega
 | c :: l,h => by
  unfold infixV
  rw [infix_short t l (by simp only [List.length_cons] at h;omega),Bool.or_false,Bool.eq_false_iff]
  intro e
  have:=(List.isPrefixOf_iff_prefix.1 e).length_le
  omega
theorem ex_list (s:ByteArray) (a b:Nat):(s.extract a b).data.toList = ((bts s).drop a).take (b - a):=by
 unfold bts
 rw [ByteArray.data_extract,Array.toList_extract,List.extract_eq_take_drop]
theorem piece (s x:ByteArray) (i:Nat):((s.extract i (i + x.size)).toList == x.toList) = (bts x).isPrefixOf ((bts s).drop i):=by
 rw [ByteArray.toList_eq,ByteArray.toList_eq,ex_list,Nat.add_sub_cancel_left,Bool.eq_iff_iff,beq_iff_eq,List.isPrefixOf_iff_prefix,List.prefix_iff_eq_take,bts_len]
 exact ⟨fun h => h.symm,fun h => h.symm⟩
theorem piece0 (s x:ByteArray):((s.extract 0 x.size).toList == x.toList) = (bts x).isPrefixOf (bts s):=by
 have:=piece s x 0
 rw [Nat.zero_add] at this
 exact this
theorem pieceE (s x:ByteArray):((s.extract (s.size - x.size) s.size).toList == x.toList) = (bts x).isSuffixOf (bts s):=by
 rw [ByteArray.toList_eq,ByteArray.toList_eq,ex_list,Bool.eq_iff_iff,beq_iff_eq,List.isSuffixOf_iff_suffix,List.suffix_iff_eq_drop,bts_len,bts_len,List.take_of_length_le (by rw [List.length_drop,bts_len];omega)]
 exact ⟨fun h => h.symm,fun h => h.symm⟩
set_option maxHeartbeats 2000000 in
theorem begins_any (s x:ByteArray) (w:World) :
  Calls Tryz.prog 150 #[.string s,.string x] w fun e w' => e = .returned (.bool ((bts x).isPrefixOf (bts s))) ∧ w' = w:=by
 by_cases h:x.size ≤ s.size
 ·rw [← piece0]
  go_enter Tryz.func150,Tryz.ntmps150
  go_wp2
  go_ret
  exact ⟨rfl,rfl⟩
 ·have hV:(bts x).isPrefixOf (bts s) = false:=by
   rw [Bool.eq_false_iff]
   intro e
   have:=(List.isPrefixOf_iff_prefix.1 e).length_le
   rw [bts_len,bts_len] at this
   omega
  rw [hV]
  clear hV
  go_enter Tryz.func150,Tryz.ntmps150
  go_wp2
  go_ret
  exact ⟨rfl,rfl⟩
set_option maxHeartbeats 2000000 in
theorem ends_any (s x:ByteArray) (hs:s.size < 9223372036854775808) (w:World) :
  Calls Tryz.prog 151 #[.string s,.string x] w fun e w' => e = .returned (.bool ((bts x).isSuffixOf (bts s))) ∧ w' = w:=by
 by_cases h:x.size ≤ s.size
 ·rw [← pieceE s x]
  go_enter Tryz.func151,Tryz.ntmps151
  go_wp2
  go_ret
  exact ⟨rfl,rfl⟩
 ·have hV:(bts x).isSuffixOf (bts s) = false:=by
   rw [Bool.eq_false_iff]
   intro e
   have:=(List.isSuffixOf_iff_suffix.1 e).length_le
   rw [bts_len,bts_len] at this
   omega
  rw [hV]
  clear hV
  go_enter Tryz.func151,Tryz.ntmps151
  go_wp2
  go_ret
  exact ⟨rfl,rfl⟩
set_option maxHeartbeats 2000000 in
theorem in_any (s x:ByteArray) (hs:s.size < 4611686018427387904) (hx:x.size < 4611686018427387904) (w:World) :
  Calls Tryz.prog 152 #[.string s,.string x] w fun e w' => e = .returned (.bool (infixV (bts x) (bts s))) ∧ w' = w:=by
 obtain ⟨V,hV⟩:∃ V,infixV (bts x) (bts s) = V:=⟨_,rfl⟩
 rw [hV]
 have HVV:Hid (infixV (bts x) ((bts s).drop 0) = V):=hV
 clear hV
 go_enter Tryz.func152,Tryz.ntmps152
 go_wp2
 go_loopw [5] (fun y wr => ∃ k:Nat,y = .int .i64 k ∧ k ≤ s.size ∧ Hid (infixV (bts x) ((bts s).drop k) = V) ∧ wr = w) (fun y _ => s.size + 1 - (intOf y).toNat)
 case atStart => exact ⟨0,rfl,Nat.zero_le _,HVV,rfl⟩
 case round =>
  clear HVV
  obtain ⟨k,rfl,hk,HN,rfl⟩:=hrel
  by_cases hlt:k + x.size ≤ s.size
  ·have hki:(k:Int) + (x.size:Int) ≤ (s.size:Int):=by omega
   have hP:=piece s x k
   obtain ⟨m,hm⟩:∃ m:Nat,k + x.size = m:=⟨_,rfl⟩
   have hmi:(k:Int) + (x.size:Int) = (m:Int):=by omega
   have hkm:k ≤ m:=by omega
   have hms:m ≤ s.size:=by omega
   rw [hm] at hP
   have hk1:(k:Int) + 1 ≤ 9223372036854775807:=by omega
   cases e:(bts x).isPrefixOf ((bts s).drop k) with
   | true =>
    rw [e] at hP
    have hVt:true = V:=by rw [← HN.out,infix_step,e];rfl
    subst hVt
    clear HN e
    go_wp2
    go_ret
    exact ⟨rfl,rfl⟩
   | false =>
    rw [e] at hP
    have HN1:Hid (infixV (bts x) ((bts s).drop (k + 1)) = V):=by
     show _ = _
     rw [← HN.out,infix_step _ ((bts s).drop k),e,Bool.false_or,List.drop_drop]
    have hx0:x.size ≠ 0:=by
     intro h
     have:bts x = []:=List.eq_nil_of_length_eq_zero (by rw [bts_len];exact h)
     rw [this] at e
     simp at e
    clear HN e
    go_wp2
    go_roundw
    case rel => exact ⟨k + 1,by go_num,by omega,HN1,trivial⟩
    case measure => simp [intOf];omega
  ·have hki:¬ ((k:Int) + (x.size:Int) ≤ (s.size:Int)):=by omega
   have hVf:false = V:=by
    rw [← HN.out,infix_short]
    rw [List.length_drop,bts_len,bts_len]
    omega
   subst hVf
   clear HN
   go_wp2
   go_ret
   exact ⟨rfl,rfl⟩
def white (c:UInt8):Bool:=c == 9 || c == 10 || c == 12 || c == 13 || c == 32
def whiteI (c:Int):Bool:=c == 9 || c == 10 || c == 12 || c == 13 || c == 32
theorem white_int (c:UInt8):whiteI ((c.toNat:Nat):Int) = white c:=by
 have h:∀ n:Nat,n < 256 → (((c.toNat:Nat):Int) == (n:Int)) = (c == UInt8.ofNat n):=by
  intro n hn
  rw [Bool.eq_iff_iff,beq_iff_eq,beq_iff_eq]
  constructor
  ·intro h
   apply UInt8.toNat_inj.1
   rw [UInt8.toNat_ofNat']
   omega
  ·rintro rfl
   rw [UInt8.toNat_ofNat']
   omega
 show (_ == ((9:Nat):Int) || _ == ((10:Nat):Int) || _ == ((12:Nat):Int) || _ == ((13:Nat):Int) || _ == ((32:Nat):Int)) = _
 rw [h 9 (by omega),h 10 (by omega),h 12 (by omega),h 13 (by omega),h 32 (by omega)]
 rfl
set_option maxHeartbeats 2000000 in
theorem blank_any (c:Int) (w:World) :
  Calls Tryz.prog 176 #[.int .u8 c] w fun e w' => e = .returned (.bool (whiteI c)) ∧ w' = w:=by
 unfold whiteI
 by_cases h1:c = 9
 ·subst h1
  go_enter Tryz.func176,Tryz.ntmps176
  go_wp2
  go_ret
  exact ⟨rfl,rfl⟩
 ·by_cases h2:c = 10
  ·subst h2
   go_enter Tryz.func176,Tryz.ntmps176
   go_wp2
   go_ret
   exact ⟨rfl,rfl⟩
  ·by_cases h3:c = 12
   ·subst h3
    go_enter Tryz.func176,Tryz.ntmps176
    go_wp2
    go_ret
    exact ⟨rfl,rfl⟩
   ·by_cases h4:c = 13
    ·subst h4
     go_enter Tryz.func176,Tryz.ntmps176
     go_wp2
     go_ret
     exact ⟨rfl,rfl⟩
    ·have e1:(c == 9) = false:=by simpa using h1
     have e2:(c == 10) = false:=by simpa using h2
     have e3:(c == 12) = false:=by simpa using h3
     have e4:(c == 13) = false:=by simpa using h4
     rw [e1,e2,e3,e4,Bool.false_or,Bool.false_or,Bool.false_or,Bool.false_or]
     go_enter Tryz.func176,Tryz.ntmps176
     go_wp2
     go_ret
     exact ⟨rfl,rfl⟩
end Go.Proofs.YtnemagmakgiheaaGreat.Rf
/- The document's own tree, as matching reads it; last. -/
namespace Go.Proofs.YtnemagmakgiheaaGreat.Rf
open Go Go.RowKit Dm
structure TE where
 b:Nat
 tb:Nat
 nv:Value
 dv:Value
 ns:List Nv
 ds:List Int
 es:List El
structure TE.At (T:TE) (W:World):Prop where
 tr:RTr T.b W T.tb T.nv T.dv T.ns T.ds
 tells:Tells T.es T.ns T.ds
 ok:TreeOk T.es
 len:T.es.length ≤ 4096
 small:∀ n ∈ T.ns,∀ p ∈ n.nd.ats,p.2.size ≤ 1099511627776
theorem TE.At.next {T:TE} {W X:World} (h:T.At W) (hb:Below W.heap.size W X):T.At X:=⟨h.tr.next hb,h.tells,h.ok,h.len,h.small⟩
abbrev TE.p (T:TE):Value:=.pointer (some ⟨T.tb,0,none⟩)
theorem is_any (T:TE) (e:Int) (w:World) (hT:T.At w):Calls Tryz.prog 74 #[T.p,.int .i64 e] w fun x w' => x = .returned (.bool (decide (0 ≤ e ∧ e < (T.es.length:Int)))) ∧ w' = w:=by
 have h:=refIs_any T.b T.tb T.nv T.dv T.ns T.ds e w hT.tr
 rw [hT.tells.len.1] at h
 exact h
theorem parent_any (T:TE) (e:Int) (w:World) (hT:T.At w):Calls Tryz.prog 130 #[T.p,.int .i64 e] w fun x w' => x = .returned (.int .i64 (parentV T.es e)) ∧ w' = w:=refParent_any T.b T.tb T.nv T.dv T.ns T.ds T.es e w hT.tr hT.tells
theorem before_any (T:TE) (e:Int) (w:World) (hT:T.At w):Calls Tryz.prog 131 #[T.p,.int .i64 e] w fun x w' => x = .returned (.int .i64 (beforeV T.es e)) ∧ ∃ n,w' = w.drewN n:=refBefore_any T.b T.tb T.nv T.dv T.ns T.ds T.es e w hT.tr hT.tells hT.ok hT.len
theorem place_any (T:TE) (e:Int) (w:World) (hT:T.At w):Calls Tryz.prog 153 #[T.p,.int .i64 e] w fun x w' => x = .returned (.int .i64 (placeV T.es e)) ∧ ∃ n,w' = w.drewN n:=refPlace_any T.b T.tb T.nv T.dv T.ns T.ds T.es e w hT.tr hT.tells hT.ok hT.len
theorem children_any (T:TE) (e:Int) (w:World) (hT:T.At w):Calls Tryz.prog 155 #[T.p,.int .i64 e] w fun x w' => ∃ v',x = .returned v' ∧ IntRow w.heap.size w' v' (chI (childrenV T.es e)) ∧ Below w.heap.size w w':=refChildren_any T.b T.tb T.nv T.dv T.ns T.ds T.es e w hT.tr hT.tells hT.ok hT.len
theorem below_drawn (w:World) (n:Nat):Below w.heap.size w (w.drewN n):=⟨rfl,rfl,rfl,Nat.le_refl _,fun _ _ => rfl⟩
set_option maxHeartbeats 2000000 in
theorem last_any (T:TE) (k:Nat) (w:World) (hT:T.At w) (hk:k < T.es.length) :
  Calls Tryz.prog 154 #[T.p,.int .i64 k] w fun x w' => x = .returned (.bool (Mt.lastV T.es k)) ∧ ∃ n,w' = w.drewN n:=by
 obtain ⟨V,hV⟩:∃ V,Mt.lastV T.es k = V:=⟨_,rfl⟩
 rw [hV]
 unfold Mt.lastV at hV
 have hlen:=hT.len
 have hnl:=hT.tells.len.1
 by_cases hk0:k = 0
 ·subst hk0
  obtain rfl:true = V:=by rw [← hV,par_root hT.ok hk];rfl
  obtain ⟨⟨c0,_⟩,_⟩:=blk2 hT.tr.blk
  clear hV hT hnl
  go_enter Tryz.func154,Tryz.ntmps154
  go_wp2
  go_loopw [5] (fun y wr => y = .int .i64 1 ∧ wr = w) (fun _ _ => 0)
  case atStart => exact ⟨by go_num,rfl⟩
  case round =>
   obtain ⟨rfl,rfl⟩:=hrel
   go_wp2
   go_ret
   exact ⟨rfl,0,rfl⟩
 ·obtain ⟨p,hp,hpk⟩:=par_lt hT.ok hk (by omega)
  obtain ⟨qp,hqp⟩:∃ q,T.es[p]? = some q:=⟨_,List.getElem?_eq_getElem (by omega)⟩
  have hch:childrenV T.es (p:Int) = kidsTo T.es p T.es.length:=by rw [children_at hqp,kids_all hT.ok hqp]
  have hpl:=place_kids hT.ok hk hp
  rw [hp,hch,hpl,decide_eq_false (by omega),Bool.false_or] at hV
  have hk1:(kidsTo T.es p (k + 1)).length = (kidsTo T.es p k).length + 1:=by rw [kids_next,if_pos hp];simp
  have HV:Hid (V = decide ((kidsTo T.es p (k + 1)).length = (kidsTo T.es p T.es.length).length)):=by
   show _ = _
   rw [← hV,hk1]
   congr 1
   rw [eq_iff_iff]
   omega
  have HSP:Hid (∀ i,k < i → i < T.es.length → kidsTo T.es p i = kidsTo T.es p (k + 1) → parentV T.es (i:Int) = (p:Int) → V = false):=fun i _ h2 h3 h4 => by
   obtain ⟨r,hr⟩:=kids_split h4 T.es.length h2
   rw [HV.out,hr,h3]
   exact decide_eq_false (by simp)
  have HT:Hid (T.At w):=hT
  obtain ⟨nk,hnk⟩:∃ n,T.ns[k]? = some n:=⟨_,List.getElem?_eq_getElem (by omega)⟩
  obtain ⟨qk,hqk,hqnk,_⟩:=hT.tells.at hnk
  have hpark:nk.nd.parent = (p:Int):=by rw [← hqnk,← par_at hqk];exact hp
  have hkd:decide ((0:Int) < (k:Int)) = true:=by simp;omega
  have hkd2:decide (0 < k) = true:=by simp;omega
  obtain ⟨L,hL⟩:∃ L,T.es.length = L:=⟨_,rfl⟩
  have HL:Hid (T.es.length = L):=hL
  rw [hL] at hlen hk hnl HV HSP
  clear hV hT hch hpl hqp hL hk1
  go_enter Tryz.func154,Tryz.ntmps154
  go_wp2
  go_loopw [5] (fun y wr => ∃ i:Nat,y = .int .i64 i ∧ k < i ∧ i ≤ L ∧ Hid (kidsTo T.es p i = kidsTo T.es p (k + 1)) ∧ ∃ n,wr = w.drewN n) (fun y _ => L - (intOf y).toNat)
  case atStart => exact ⟨k + 1,by go_num,by omega,by omega,rfl,0,rfl⟩
  case round =>
   obtain ⟨i,rfl,hki,hiL,HK,m,rfl⟩:=hrel
   have hTr:=HT.out.tr
   obtain ⟨⟨c0,_⟩,_⟩:=blk2 hTr.blk
   by_cases hlt:i < L
   ·have hii:(i:Int) < (L:Int):=by omega
    have hid:decide ((i:Int) < (L:Int)) = true:=by simp;omega
    have hid2:decide (i < L) = true:=by simp;omega
    obtain ⟨ni,hni⟩:∃ n,T.ns[i]? = some n:=⟨_,List.getElem?_eq_getElem (by omega)⟩
    obtain ⟨qi,hqi,hqn,_⟩:=HT.out.tells.at hni
    have hpar:parentV T.es (i:Int) = ni.nd.parent:=by rw [par_at hqi,hqn]
    have hnx:=kids_next T.es p i
    rw [hpar,HK.out] at hnx
    obtain ⟨g,c,hg,hr1,hr2,x0,_⟩:=hTr.get hni
    rw [hg] at c0
    obtain ⟨g',c',hgc,_,_,y0,_⟩:=hTr.get hnk
    rw [hg] at hgc
    cases hgc
    rw [hpark] at y0
    unfold maxLen at hr2
    rw [hnl] at c0 hr1
    have hkl:(k:Int) < (L:Int):=by omega
    have hi1:(i:Int) + 1 ≤ 9223372036854775807:=by omega
    by_cases hpe:ni.nd.parent = (p:Int)
    ·obtain rfl:V = false:=HSP.out i hki hlt HK.out (hpar.trans hpe)
     rw [hpe] at x0
     clear hTr hni hqi hqn hpar hnx hpe hnk hqk hqnk hpark HSP HV HK hg hlt hki hiL hlen hk hnl hp hpk hk0 hr1
     go_wp2
     go_quiet (fail)
     go_wp2
     go_ret
     exact ⟨rfl,_,by first | rfl | (simp;rfl)⟩
    ·rw [if_neg hpe,List.append_nil] at hnx
     have HNX:Hid (_ = _):=hnx
     have hne:(ni.nd.parent == (p:Int)) = false:=by simpa using hpe
     generalize ni.nd.parent = pn at *
     have HB:Hid (k < i + 1 ∧ i + 1 ≤ L):=⟨by omega,by omega⟩
     clear hTr hni hqi hqn hpar hnx hnk hqk hqnk hpark hg HK hlt hki hiL hlen hk hnl hp hpk hk0 hr1 hpe
     go_wp2
     go_quiet (fail)
     go_wp2
     exact ⟨⟨i + 1,by go_num,HB.out.1,HB.out.2,HNX.out,_,by first | rfl | (simp;rfl)⟩,by have:=HB.out;simp [intOf];omega⟩
   ·have hii:decide ((i:Int) < (L:Int)) = false:=by simp;omega
    have hii2:decide (i < L) = false:=by simp;omega
    obtain ⟨⟨pn,cn,hnv⟩,_⟩:=hTr.form
    rw [hnv,hnl] at c0
    obtain rfl:V = true:=by
     have h1:=HK.out
     rw [show i = L by omega] at h1
     rw [HV.out,h1]
     exact decide_eq_true rfl
    clear hTr HSP HV HK hnv
    go_wp2
    go_ret
    exact ⟨rfl,m,rfl⟩
end Go.Proofs.YtnemagmakgiheaaGreat.Rf

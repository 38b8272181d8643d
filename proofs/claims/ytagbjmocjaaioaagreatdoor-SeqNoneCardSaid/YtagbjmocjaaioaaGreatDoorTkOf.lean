/- Plain facts: the code points of bytes in parts, plain bytes, and what is prepared, for the tokens' laws. -/
import Derived.Test.YtagbjmocjaaioaaGreatDoorAlive
import Derived.Test.YtagbjmocjaaioaaGreatDoorTkName
import Derived.Test.YtagbjmocjaaioaaGreatDoorNmDig
import Derived.Test.YtagbjmocjaaioaaGreatDoorShelf
import Derived.Test.YtagbjmocjaaioaaGreatDoorEnc
import Derived.Test.YtagbjmocjaaioaaGreatDoorSeqY
import Derived.Lib.AppendIntMem
import Derived.Lib.SmallJoins
import Derived.Lib.SlBytesConst
import Derived.Lib.ConvBytes
namespace Go.Proofs.YtagbjmocjaaioaaGreatDoor
open Go.Lib (decodeN)
/-! ### ahead of a plain byte -/
/-! ### prepared -/
/-! ### no comment -/
def noBytes (l:List UInt8):Prop:=∀ j u v,l[j]? = some u → l[j + 1]? = some v → ¬ (u.toNat = 47 ∧ v.toNat = 42)
theorem noBytes.drop {l:List UInt8} (h:noBytes l) (n:Nat):noBytes (l.drop n):=by
 intro j u v h1 h2
 rw [List.getElem?_drop] at h1 h2
 exact h (n + j) u v h1 h2
end Go.Proofs.YtagbjmocjaaioaaGreatDoor

/- num.Of at every string: cutSign, strings.Cut at a point, isNumber; what the world must hold. -/
set_option maxRecDepth 100000
namespace Go.Proofs.YtagbjmocjaaioaaGreatDoor.Nm
open Go Go.RowKit Go.Shelf
def PowAt (_n₀:Nat) (_w:World):Prop:=True
theorem PowAt.on {n₀:Nat} {w w':World} (h:PowAt n₀ w) (_hb:Below n₀ w w'):PowAt n₀ w':=h
theorem PowAt.mono {n₀ n₁:Nat} {w:World} (h:PowAt n₀ w) (_hn:n₀ ≤ n₁):PowAt n₁ w:=h
def Tabs (n₀:Nat) (w:World):Prop:=6 < n₀ ∧ (∃ m,w.cell? ⟨6,0,none⟩ = some (.int .i64 m)) ∧ PowAt n₀ w
theorem Tabs.below {n₀:Nat} {w w':World} (h:Tabs n₀ w) (hb:Below n₀ w w'):Tabs n₀ w':=
 ⟨h.1,h.2.1.elim fun m hm => ⟨m,(hb.cell (p:=⟨6,0,none⟩) h.1).trans hm⟩,h.2.2.on hb⟩
theorem Tabs.mono {n₀ n₁:Nat} {w:World} (h:Tabs n₀ w) (hn:n₀ ≤ n₁):Tabs n₁ w:=⟨by have:=h.1;omega,h.2.1,h.2.2.mono hn⟩
theorem below_drewN (w:World) (n:Nat):Below w.heap.size w (w.drewN n):=⟨rfl,rfl,rfl,Nat.le_refl _,fun _ _ => rfl⟩
def below (l:List UInt8):Bool:=l.head? == some 45
def lessOne (c:UInt8) (l:List UInt8):List UInt8:=if l.head? == some c then l.tail else l
def bare (l:List UInt8):List UInt8:=if below l then l.tail else lessOne 43 l
def numA (l:List UInt8):List UInt8:=(bare l).takeWhile (· != 46)
def numB (l:List UInt8):List UInt8:=((bare l).dropWhile (· != 46)).tail
def numP (l:List UInt8):Bool:=(bare l).any (· == 46)
def isNum (a b:List UInt8) (p:Bool):Bool:=allDig a && allDig b && (if p then !b.isEmpty else !a.isEmpty)
def numV (l:List UInt8):Int:=grown (grown 0 (numA l)) (thou (numB l))
def numOk (l:List UInt8):Bool:=isNum (numA l) (numB l) (numP l)
def numN (l:List UInt8):Int:=if numOk l then (if below l then -numV l else numV l) else 0
theorem pre_one (c:UInt8) (l:List UInt8):Lib.hasPrefix l [c] = (l.head? == some c):=by
 cases l with
 | nil => rfl
 | cons b l => simp [Lib.hasPrefix,List.isPrefixOf,Bool.beq_comm]
theorem trim_one (c:UInt8) (l:List UInt8):Lib.trimPrefix l [c] = lessOne c l:=by
 unfold Lib.trimPrefix lessOne
 rw [pre_one]
 cases l <;> rfl
theorem cut_one (c:UInt8):∀ l:List UInt8,Lib.cut l [c] = (l.takeWhile (· != c),(l.dropWhile (· != c)).tail,l.any (· == c))
 | [] => rfl
 | b :: l => by
  have ih:=cut_one c l
  unfold Lib.cut at ih ⊢
  rw [Lib.index_one] at ih ⊢
  have hge:=Lib.index_ge l [c]
  rw [Lib.index_one] at hge
  unfold Lib.indexByte
  by_cases h:b = c
  ·subst h
   simp
  ·have h1:(b == c) = false:=by simp [h]
   have h2:(b != c) = true:=by simp [h]
   by_cases h3:Lib.indexByte l c = -1
   ·rw [h3] at ih ⊢
    simp only [h1,h2,List.takeWhile_cons,List.dropWhile_cons,List.any_cons] at ih ⊢
    simp at ih ⊢
    obtain ⟨i1,i2,i3⟩:=ih
    exact ⟨i1,i2,i3⟩
   ·rw [if_pos (by omega)] at ih
    have h4:(Lib.indexByte l c == -1) = false:=by simp [h3]
    simp only [h1,h4,h2,List.takeWhile_cons,List.dropWhile_cons,List.any_cons]
    have e:(Lib.indexByte l c + 1).toNat = (Lib.indexByte l c).toNat + 1:=by omega
    simp only [Bool.false_eq_true,if_false,if_true,Bool.false_or]
    rw [if_pos (by omega),e]
    simp at ih ⊢
    exact ih
theorem cutPre_any (s:ByteArray) (c:UInt8) (w:World) :
  Calls Tryz.prog 325 #[.string s,.string ⟨#[c]⟩] w fun e w' => ∃ r:ByteArray,e = .returned (.tuple #[.string r,.bool (s.data.toList.head? == some c)]) ∧ r.data.toList = lessOne c s.data.toList ∧ w' = w:=by
 refine (Tryz.strings_CutPrefix s ⟨#[c]⟩ w).mono ?_
 rintro e w' ⟨rfl,rfl⟩
 exact ⟨_,by rw [show (⟨#[c]⟩:ByteArray).data.toList = [c] from rfl,pre_one],by rw [trim_one],rfl⟩
theorem trimPre_any (s:ByteArray) (c:UInt8) (w:World) :
  Calls Tryz.prog 326 #[.string s,.string ⟨#[c]⟩] w fun e w' => ∃ r:ByteArray,e = .returned (.string r) ∧ r.data.toList = lessOne c s.data.toList ∧ w' = w:=by
 refine (Tryz.strings_TrimPrefix s ⟨#[c]⟩ w).mono ?_
 rintro e w' ⟨rfl,rfl⟩
 exact ⟨_,rfl,by rw [show (⟨#[c]⟩:ByteArray).data.toList = [c] from rfl,trim_one],rfl⟩
theorem cutDot_any (s:ByteArray) (w:World) (hs:s.size < 4294967281) (hT:Tabs w.heap.size w) :
  Calls Tryz.prog 294 #[.string s,.string ⟨#[46]⟩] w fun e w' => ∃ a b:ByteArray,e = .returned (.tuple #[.string a,.string b,.bool (s.data.toList.any (· == 46))]) ∧ a.data.toList = s.data.toList.takeWhile (· != 46) ∧ b.data.toList = (s.data.toList.dropWhile (· != 46)).tail ∧ Below w.heap.size w w':=by
 obtain ⟨m,hm⟩:=hT.2.1
 refine (Tryz.strings_Cut s ⟨#[46]⟩ m w hs hm).mono ?_
 rintro e w' ⟨rfl,n,rfl⟩
 rw [show (⟨#[46]⟩:ByteArray).data.toList = [46] from rfl,cut_one]
 exact ⟨_,_,rfl,rfl,rfl,below_drewN w n⟩
theorem cutSign_any (s:ByteArray) (w:World) :
  Calls Tryz.prog 293 #[.string s] w fun e w' => ∃ r:ByteArray,e = .returned (.tuple #[.bool (below s.data.toList),.string r]) ∧ r.data.toList = bare s.data.toList ∧ w' = w:=by
 have h1:=cutPre_any s 45
 have h2:=trimPre_any s 43
 unfold bare
 by_cases h:below s.data.toList = true
 ·have h':(s.data.toList.head? == some 45) = true:=h
  rw [h]
  simp only [h',if_true] at h1 ⊢
  have e1:lessOne 45 s.data.toList = s.data.toList.tail:=by unfold lessOne;rw [if_pos h']
  go_enter Tryz.func293,Tryz.ntmps293
  go_wp2_with fail
  refine (h1 _).mono ?_
  rintro e w' ⟨r,rfl,hr,rfl⟩
  go_wp2
  go_ret2
  exact ⟨r,rfl,hr.trans e1,rfl⟩
 ·have h:=Bool.eq_false_iff.2 h
  have h':(s.data.toList.head? == some 45) = false:=h
  rw [h]
  simp only [h',Bool.false_eq_true,if_false] at h1 ⊢
  go_enter Tryz.func293,Tryz.ntmps293
  go_wp2_with fail
  refine (h1 _).mono ?_
  rintro e w' ⟨r,rfl,hr,rfl⟩
  go_wp2_with fail
  refine (h2 _).mono ?_
  rintro e w' ⟨r',rfl,hr',rfl⟩
  go_wp2
  go_ret2
  exact ⟨r',rfl,hr',rfl⟩
theorem empty_list (a:ByteArray):a.toList.isEmpty = a.data.toList.isEmpty:=by rw [Lib.toList_data]
theorem isNumber_any (a b:ByteArray) (p:Bool) (w:World) (ha:a.size ≤ 281474976710656) (hb:b.size ≤ 281474976710656) :
  Calls Tryz.prog 295 #[.string a,.string b,.bool p] w fun e w' => e = .returned (.bool (isNum a.data.toList b.data.toList p)) ∧ w' = w:=by
 have h1:=fun w => allDigits_any a w ha
 have h2:=fun w => allDigits_any b w hb
 cases e1:allDig a.data.toList with
 | false =>
  have hv:isNum a.data.toList b.data.toList p = false:=by simp [isNum,e1]
  rw [e1] at h1
  rw [hv]
  go_enter Tryz.func295,Tryz.ntmps295
  go_wp2_with fail
  refine (h1 _).mono ?_
  rintro e w' ⟨rfl,rfl⟩
  go_wp2
  go_ret
  exact ⟨rfl,rfl⟩
 | true =>
  rw [e1] at h1
  cases e2:allDig b.data.toList with
  | false =>
   have hv:isNum a.data.toList b.data.toList p = false:=by simp [isNum,e2]
   rw [e2] at h2
   rw [hv]
   go_enter Tryz.func295,Tryz.ntmps295
   go_wp2_with fail
   refine (h1 _).mono ?_
   rintro e w' ⟨rfl,rfl⟩
   go_wp2_with fail
   refine (h2 _).mono ?_
   rintro e w' ⟨rfl,rfl⟩
   go_wp2
   go_ret
   exact ⟨rfl,rfl⟩
  | true =>
   rw [e2] at h2
   have hv:isNum a.data.toList b.data.toList p = (if p then !b.data.toList.isEmpty else !a.data.toList.isEmpty):=by simp [isNum,e1,e2]
   rw [hv]
   cases p with
   | true =>
    simp only [if_true]
    go_enter Tryz.func295,Tryz.ntmps295
    go_wp2_with fail
    refine (h1 _).mono ?_
    rintro e w' ⟨rfl,rfl⟩
    go_wp2_with fail
    refine (h2 _).mono ?_
    rintro e w' ⟨rfl,rfl⟩
    go_wp2
    go_ret
    rw [← empty_list b]
    exact ⟨rfl,rfl⟩
   | false =>
    simp only [Bool.false_eq_true,if_false]
    go_enter Tryz.func295,Tryz.ntmps295
    go_wp2_with fail
    refine (h1 _).mono ?_
    rintro e w' ⟨rfl,rfl⟩
    go_wp2_with fail
    refine (h2 _).mono ?_
    rintro e w' ⟨rfl,rfl⟩
    go_wp2
    go_ret
    rw [← empty_list a]
    exact ⟨rfl,rfl⟩
theorem lessOne_le (c:UInt8) (l:List UInt8):(lessOne c l).length ≤ l.length:=by
 unfold lessOne
 split
 ·simp
 ·exact Nat.le_refl _
theorem tail_le (t:List UInt8):((t.dropWhile (· != 46)).tail).length ≤ t.length:=by
 have:=(List.dropWhile_sublist (l:=t) (· != 46)).length_le
 rw [List.length_tail]
 omega
theorem bare_le (l:List UInt8):(bare l).length ≤ l.length:=by
 unfold bare
 split
 ·simp
 ·exact lessOne_le 43 l
theorem grown_bounds:∀ (l:List UInt8) (n:Int),0 ≤ n → n ≤ 2147483647 → allDig l = true → 0 ≤ grown n l ∧ grown n l ≤ 2147483647
 | [],n,h0,h1,_ => ⟨h0,h1⟩
 | c :: l,n,h0,h1,hd => by
  have hd':dig c = true ∧ allDig l = true:=by simpa [allDig] using hd
  exact grown_bounds l (grow1 n c) (grow1_ge h0 (dig_iff.1 hd'.1).1) (grow1_le n c) hd'.2
theorem thou_dig {l:List UInt8} (h:allDig l = true):allDig (thou l) = true:=by
 unfold thou allDig at *
 rw [List.all_append,Bool.and_eq_true]
 refine ⟨List.all_eq_true.2 fun c hc => List.all_eq_true.1 h c (List.mem_of_mem_take hc),List.all_eq_true.2 fun c hc => ?_⟩
 have:=List.mem_of_mem_drop hc
 simp at this
 subst this
 decide
theorem thou_len (l:List UInt8):(thou l).length = 3:=by
 unfold thou
 rw [List.length_append,List.length_take,List.length_drop]
 simp
 omega
set_option maxHeartbeats 1000000 in
theorem of_any (s:ByteArray) (w:World) (hs:s.size ≤ 4000000) (hT:Tabs w.heap.size w) :
  Calls Tryz.prog 267 #[.string s] w fun e w' => e = .returned (.tuple #[.int .i64 (numN s.data.toList),.bool (numOk s.data.toList)]) ∧ Below w.heap.size w w':=by
 have h1:=cutSign_any s w
 have hl:=len_list s
 have hlen:=bare_le s.data.toList
 cases hok:numOk s.data.toList with
 | false =>
  have hn:numN s.data.toList = 0:=by simp [numN,hok]
  rw [hn]
  unfold numOk numA numB numP at hok
  generalize below s.data.toList = bel at *
  generalize bare s.data.toList = t at *
  go_enter Tryz.func267,Tryz.ntmps267
  go_wp2_with fail
  refine h1.mono ?_
  rintro e w' ⟨r,rfl,hr,rfl⟩
  have hrs:r.size ≤ s.size:=by rw [← len_list,hr];omega
  have h2:=cutDot_any r w' (by omega) hT
  rw [hr] at h2
  generalize (t.any fun x => x == 46) = p at *
  go_wp2_with fail
  refine h2.mono ?_
  rintro e w1 ⟨a,b,rfl,ha,hb,b1⟩
  have hla:a.size ≤ r.size:=by rw [← len_list,ha,← len_list r,hr];exact (List.takeWhile_sublist _).length_le
  have hlb:b.size ≤ r.size:=by rw [← len_list,hb,← len_list r,hr];exact tail_le t
  have h3:=fun w => isNumber_any a b p w (by omega) (by omega)
  rw [← ha,← hb] at hok
  rw [hok] at h3
  clear h1 h2 ha hb hr
  go_wp2_with fail
  refine (h3 _).mono ?_
  rintro e w' ⟨rfl,rfl⟩
  go_wp2
  go_ret2
  exact ⟨rfl,b1⟩
 | true =>
  have hn:numN s.data.toList = if below s.data.toList then -numV s.data.toList else numV s.data.toList:=by simp [numN,hok]
  generalize numN s.data.toList = v at *
  generalize hz:numV s.data.toList = z at *
  unfold numOk numA numB numP at hok
  unfold numV numA numB at hz
  generalize below s.data.toList = bel at *
  generalize bare s.data.toList = t at *
  go_enter Tryz.func267,Tryz.ntmps267
  go_wp2_with fail
  refine h1.mono ?_
  rintro e w' ⟨r,rfl,hr,rfl⟩
  have hrs:r.size ≤ s.size:=by rw [← len_list,hr];omega
  have h2:=cutDot_any r w' (by omega) hT
  rw [hr] at h2
  generalize (t.any fun x => x == 46) = p at *
  go_wp2_with fail
  refine h2.mono ?_
  rintro e w1 ⟨a,b,rfl,ha,hb,b1⟩
  have hla:a.size ≤ r.size:=by rw [← len_list,ha,← len_list r,hr];exact (List.takeWhile_sublist _).length_le
  have hlb:b.size ≤ r.size:=by rw [← len_list,hb,← len_list r,hr];exact tail_le t
  have h3:=fun w => isNumber_any a b p w (by omega) (by omega)
  rw [← ha,← hb] at hok hz
  rw [hok] at h3
  have hda:allDig a.data.toList = true:=by simp [isNum] at hok;exact hok.1.1
  have hdb:allDig b.data.toList = true:=by simp [isNum] at hok;exact hok.1.2
  have h4:=fun w => grown_any 0 a w (by omega) (by omega) (by omega) hda
  obtain ⟨g0,g1⟩:=grown_bounds _ 0 (by omega) (by omega) hda
  have h5:=fun w => thousandths_any b w (by omega)
  obtain ⟨g2,g3⟩:=grown_bounds _ _ g0 g1 (thou_dig hdb)
  have h6:=fun (r:ByteArray) (hr:r.data.toList = thou b.data.toList) w => grown_any (grown 0 a.data.toList) r w (by rw [← len_list,hr,thou_len];omega) g0 g1 (by rw [hr];exact thou_dig hdb)
  rw [hz] at g2 g3
  clear h1 h2 ha hb hr hok
  go_wp2_with fail
  refine (h3 _).mono ?_
  rintro e w' ⟨rfl,rfl⟩
  go_wp2_with fail
  refine (h4 _).mono ?_
  rintro e w' ⟨rfl,rfl⟩
  go_wp2_with fail
  refine (h5 _).mono ?_
  rintro e w2 ⟨r3,rfl,hr3,b2⟩
  have h7:=h6 r3 hr3
  rw [hr3,hz] at h7
  go_wp2_with fail
  refine (h7 _).mono ?_
  rintro e w' ⟨rfl,rfl⟩
  cases bel with
  | true =>
   simp only [if_true] at hn
   subst hn
   go_wp2
   go_ret2
   exact ⟨rfl,b1.trans (b2.mono b1.size)⟩
  | false =>
   simp only [Bool.false_eq_true,if_false] at hn
   subst hn
   go_wp2
   go_ret2
   exact ⟨rfl,b1.trans (b2.mono b1.size)⟩
end Go.Proofs.YtagbjmocjaaioaaGreatDoor.Nm

/- package tok: the signs' own tokens (kindOf), over the table that its text lays. -/
set_option maxRecDepth 100000
namespace Go.Proofs.YtagbjmocjaaioaaGreatDoor
open Go Go.RowKit
def signPts:List Int:=[58,59,44,123,125,40,41,91,93]
def signRow:Array Value:=#[.int .i64 58,.int .i64 11,.int .i64 59,.int .i64 12,.int .i64 44,.int .i64 13,.int .i64 123,.int .i64 14,.int .i64 125,.int .i64 15,.int .i64 40,.int .i64 16,.int .i64 41,.int .i64 17,.int .i64 91,.int .i64 18,.int .i64 93,.int .i64 19]
def SignsAt (n₀:Nat) (W:World):Prop:=4 < n₀ ∧ ∃ t fr,W.heap[(4:Nat)]? = some (.cells signRow t fr)
theorem SignsAt.below {n₀:Nat} {X Y:World} (h:SignsAt n₀ X) (hb:Below n₀ X Y):SignsAt n₀ Y:=⟨h.1,h.2.elim fun t h2 => h2.elim fun fr h3 => ⟨t,fr,(hb.block _ h.1).trans h3⟩⟩
theorem SignsAt.mono {n₀ n₁:Nat} {X:World} (h:SignsAt n₀ X) (hn:n₀ ≤ n₁):SignsAt n₁ X:=⟨Nat.lt_of_lt_of_le h.1 hn,h.2⟩
theorem infoSigns:(Tryz.prog.info? 293).map (·.size) = some 18:=by kernel_rfl
theorem all_next {p q:Int} {k:Nat} (h:(signPts.take k).all (· != p) = true) (hk:signPts[k]? = some q) (hq:q ≠ p):(signPts.take (k + 1)).all (· != p) = true:=by
 rw [List.take_add_one,hk,List.all_append,h]
 simpa using hq
theorem sign_none {p:Int} (h:(signPts.take 9).all (· != p) = true):sign p = 0:=by
 have h':(58:Int) ≠ p ∧ (59:Int) ≠ p ∧ (44:Int) ≠ p ∧ (123:Int) ≠ p ∧ (125:Int) ≠ p ∧ (40:Int) ≠ p ∧ (41:Int) ≠ p ∧ (91:Int) ≠ p ∧ (93:Int) ≠ p:=by simpa [signPts] using h
 unfold sign
 repeat' split
 all_goals omega
theorem sign_at0 (w:World):(Instr.index 293 (.agg signRow) (.int .i64 0)).run Tryz.prog w = .ok (.agg #[.int .i64 58,.int .i64 11]) w:=by kernel_rfl
theorem sign_at1 (w:World):(Instr.index 293 (.agg signRow) (.int .i64 1)).run Tryz.prog w = .ok (.agg #[.int .i64 59,.int .i64 12]) w:=by kernel_rfl
theorem sign_at2 (w:World):(Instr.index 293 (.agg signRow) (.int .i64 2)).run Tryz.prog w = .ok (.agg #[.int .i64 44,.int .i64 13]) w:=by kernel_rfl
theorem sign_at3 (w:World):(Instr.index 293 (.agg signRow) (.int .i64 3)).run Tryz.prog w = .ok (.agg #[.int .i64 123,.int .i64 14]) w:=by kernel_rfl
theorem sign_at4 (w:World):(Instr.index 293 (.agg signRow) (.int .i64 4)).run Tryz.prog w = .ok (.agg #[.int .i64 125,.int .i64 15]) w:=by kernel_rfl
theorem sign_at5 (w:World):(Instr.index 293 (.agg signRow) (.int .i64 5)).run Tryz.prog w = .ok (.agg #[.int .i64 40,.int .i64 16]) w:=by kernel_rfl
theorem sign_at6 (w:World):(Instr.index 293 (.agg signRow) (.int .i64 6)).run Tryz.prog w = .ok (.agg #[.int .i64 41,.int .i64 17]) w:=by kernel_rfl
theorem sign_at7 (w:World):(Instr.index 293 (.agg signRow) (.int .i64 7)).run Tryz.prog w = .ok (.agg #[.int .i64 91,.int .i64 18]) w:=by kernel_rfl
theorem sign_at8 (w:World):(Instr.index 293 (.agg signRow) (.int .i64 8)).run Tryz.prog w = .ok (.agg #[.int .i64 93,.int .i64 19]) w:=by kernel_rfl
set_option maxHeartbeats 4000000 in
theorem kindOf_any (p:Int) (w:World) (hS:SignsAt w.heap.size w) :
  Calls Tryz.prog 234 #[.int .i64 p] w fun e w' => e = .returned (.tuple #[.int .i64 (sign p),.bool (decide (0 < sign p))]) ∧ Below w.heap.size w w':=by
 obtain ⟨hlt,t0,fr0,hrow⟩:=hS
 go_enter Tryz.func234,Tryz.ntmps234
 go_upto_region 1 with fail
 refine wp_region_lit ?_
 refine wpList_load_row rfl 293 _ rfl 4 rfl t0 signRow fr0 _ hrow Tryz.underlying293 rfl infoSigns ?_
 clear hrow
 have i0:=sign_at0
 have i1:=sign_at1
 have i2:=sign_at2
 have i3:=sign_at3
 have i4:=sign_at4
 have i5:=sign_at5
 have i6:=sign_at6
 have i7:=sign_at7
 have i8:=sign_at8
 generalize Value.agg signRow = row at *
 go_wp2
 go_loopw [7] (fun i wr => ∃ k:Nat,i = .int .i64 k ∧ k ≤ 9 ∧ (signPts.take k).all (· != p) = true ∧ Below w.heap.size w wr) (fun i _ => 9 - (intOf i).toNat)
 case atStart => exact ⟨0,rfl,by omega,rfl,Below.refl _ _⟩
 case round =>
  obtain ⟨k,rfl,hk,ha,hb⟩:=hrel
  have hsz:=hb.size
  obtain rfl | rfl | rfl | rfl | rfl | rfl | rfl | rfl | rfl | rfl:k = 0 ∨ k = 1 ∨ k = 2 ∨ k = 3 ∨ k = 4 ∨ k = 5 ∨ k = 6 ∨ k = 7 ∨ k = 8 ∨ k = 9:=by omega
  ·by_cases hp:p = 58
   ·subst hp
    go_wp2
    go_ret2
    exact ⟨rfl,hb.alloc hb.size _⟩
   ·have hp':((58:Int) == p) = false:=by simp;omega
    go_wp2
    exact ⟨⟨1,rfl,by omega,all_next ha rfl (fun e => hp e.symm),hb.alloc hb.size _⟩,by simp [intOf]⟩
  ·by_cases hp:p = 59
   ·subst hp
    go_wp2
    go_ret2
    exact ⟨rfl,hb.alloc hb.size _⟩
   ·have hp':((59:Int) == p) = false:=by simp;omega
    go_wp2
    exact ⟨⟨2,rfl,by omega,all_next ha rfl (fun e => hp e.symm),hb.alloc hb.size _⟩,by simp [intOf]⟩
  ·by_cases hp:p = 44
   ·subst hp
    go_wp2
    go_ret2
    exact ⟨rfl,hb.alloc hb.size _⟩
   ·have hp':((44:Int) == p) = false:=by simp;omega
    go_wp2
    exact ⟨⟨3,rfl,by omega,all_next ha rfl (fun e => hp e.symm),hb.alloc hb.size _⟩,by simp [intOf]⟩
  ·by_cases hp:p = 123
   ·subst hp
    go_wp2
    go_ret2
    exact ⟨rfl,hb.alloc hb.size _⟩
   ·have hp':((123:Int) == p) = false:=by simp;omega
    go_wp2
    exact ⟨⟨4,rfl,by omega,all_next ha rfl (fun e => hp e.symm),hb.alloc hb.size _⟩,by simp [intOf]⟩
  ·by_cases hp:p = 125
   ·subst hp
    go_wp2
    go_ret2
    exact ⟨rfl,hb.alloc hb.size _⟩
   ·have hp':((125:Int) == p) = false:=by simp;omega
    go_wp2
    exact ⟨⟨5,rfl,by omega,all_next ha rfl (fun e => hp e.symm),hb.alloc hb.size _⟩,by simp [intOf]⟩
  ·by_cases hp:p = 40
   ·subst hp
    go_wp2
    go_ret2
    exact ⟨rfl,hb.alloc hb.size _⟩
   ·have hp':((40:Int) == p) = false:=by simp;omega
    go_wp2
    exact ⟨⟨6,rfl,by omega,all_next ha rfl (fun e => hp e.symm),hb.alloc hb.size _⟩,by simp [intOf]⟩
  ·by_cases hp:p = 41
   ·subst hp
    go_wp2
    go_ret2
    exact ⟨rfl,hb.alloc hb.size _⟩
   ·have hp':((41:Int) == p) = false:=by simp;omega
    go_wp2
    exact ⟨⟨7,rfl,by omega,all_next ha rfl (fun e => hp e.symm),hb.alloc hb.size _⟩,by simp [intOf]⟩
  ·by_cases hp:p = 91
   ·subst hp
    go_wp2
    go_ret2
    exact ⟨rfl,hb.alloc hb.size _⟩
   ·have hp':((91:Int) == p) = false:=by simp;omega
    go_wp2
    exact ⟨⟨8,rfl,by omega,all_next ha rfl (fun e => hp e.symm),hb.alloc hb.size _⟩,by simp [intOf]⟩
  ·by_cases hp:p = 93
   ·subst hp
    go_wp2
    go_ret2
    exact ⟨rfl,hb.alloc hb.size _⟩
   ·have hp':((93:Int) == p) = false:=by simp;omega
    go_wp2
    exact ⟨⟨9,rfl,by omega,all_next ha rfl (fun e => hp e.symm),hb.alloc hb.size _⟩,by simp [intOf]⟩
  ·have hs:=sign_none ha
   go_wp2
   go_ret2
   rw [hs]
   exact ⟨rfl,hb⟩
end Go.Proofs.YtagbjmocjaaioaaGreatDoor

/- Plain facts: what was encoded is decoded as it was; bytes of which the first part ends with one below 128 are read in parts as they are whole; what is prepared has no other line ends and comes back. -/
namespace Go.Proofs.YtagbjmocjaaioaaGreatDoor
open Go Go.RowKit
open Go.Lib (decodeN)
/-! ### In parts -/
/-! ### What is prepared -/
theorem decodeN_right (n b0 b1 b2 b3:Nat):(decodeN n b0 b1 b2 b3).1 ≤ 1114111 ∧ ((decodeN n b0 b1 b2 b3).1 < 55296 ∨ 57343 < (decodeN n b0 b1 b2 b3).1):=by
 unfold decodeN
 repeat' split
 all_goals (simp only;omega)
theorem dec_right {l:List UInt8} (h:l ≠ []):rightB (dec l).1 = true:=by
 rw [dec_eq h]
 have:=decodeN_right l.length (l[0]?.getD 0).toNat (l[1]?.getD 0).toNat (l[2]?.getD 0).toNat (l[3]?.getD 0).toNat
 exact rightB_true (by omega)
theorem ipts_right_aux:∀ (f:Nat) (l:List UInt8),l.length ≤ f → ∀ p ∈ ipts l,rightB p = true
 | 0,l,h => by
  obtain rfl:l = []:=List.length_eq_zero_iff.1 (by omega)
  simp [ipts]
 | f + 1,l,h => by
  by_cases e:l = []
  ·simp [e,ipts]
  ·have hb:=dec_bounds e
   rw [ipts_cons e]
   intro p hp
   rcases List.mem_cons.1 hp with rfl | hp
   ·exact dec_right e
   ·exact ipts_right_aux f (l.drop (dec l).2) (by simp;omega) p hp
theorem ipts_right (l:List UInt8):∀ p ∈ ipts l,rightB p = true:=ipts_right_aux _ l (Nat.le_refl _)
def Clean (p:Int):Prop:=p ≠ 13 ∧ p ≠ 12 ∧ 0 < p ∧ rightB p = true
theorem repl_clean {p:Int} (h:rightB p = true):Clean (repl p):=by
 have hr:=rightB_iff.1 h
 unfold repl
 split
 ·exact ⟨by omega,by omega,by omega,by decide⟩
 ·split
  ·exact ⟨by omega,by omega,by omega,by decide⟩
  ·exact ⟨by omega,by omega,by omega,h⟩
theorem prepFrom_clean:∀ (l:List Int) (c:Bool),(∀ p ∈ l,rightB p = true) → ∀ p ∈ prepFrom c l,Clean p
 | [],_,_ => by simp [prepFrom]
 | q :: t,c,h => by
  have ih:=prepFrom_clean t (q == 13) (fun p hp => h p (List.mem_cons_of_mem _ hp))
  intro p hp
  simp only [prepFrom] at hp
  split at hp
  ·exact ih p hp
  ·rcases List.mem_cons.1 hp with rfl | hp
   ·exact repl_clean (h q (List.mem_cons_self ..))
   ·exact ih p hp
theorem prepared_clean (bs:List UInt8):∀ p ∈ prep (ipts bs),Clean p:=prepFrom_clean _ _ (ipts_right bs)
theorem map_fixC_same (l:List Int) (h:∀ p ∈ l,rightB p = true):l.map fixC = l:=by
 conv => rhs;rw [← List.map_id l]
 exact List.map_congr_left (fun p hp => fixC_yes (h p hp))
end Go.Proofs.YtagbjmocjaaioaaGreatDoor

/- package tok's reader: strings. -/
set_option maxRecDepth 100000
namespace Go.Proofs.YtagbjmocjaaioaaGreatDoor
open Go Go.RowKit Go.Shelf
def tkV (t:Tk):Value:=.agg #[.int .i64 t.kind,.string (txtOf t.text),.int .i64 t.n,.bool t.whole,.int .i64 t.c]
def strTk (o:Option (List Int)):Tk:=match o with
 | some t => ⟨4,t,0,false,0⟩
 | none => ⟨5,[],0,false,0⟩
theorem At.mem {W:World} {n₀ R:Nat} {raw l:List Int} (h:At n₀ W R raw l) {c:Int} (hc:c ∈ l):0 ≤ c:=by
 obtain ⟨v,a,hr,rfl⟩:=h
 obtain ⟨x,_,rfl⟩:=List.mem_map.1 (List.mem_of_mem_drop hc)
 exact (fixC_right x).1
theorem escAt_cons (c d:Int) (r:List Int):escAt (c :: d :: r) = (c == 92 && decide (0 ≤ d) && d != 10):=by
 unfold escAt
 rw [see_zero,see_succ,see_zero]
set_option maxHeartbeats 4000000 in
theorem quoted_any {w:World} {n₀ R:Nat} {raw r:List Int} {q:Int} (h:At n₀ w R raw (q :: r)) (hq:q = 34 ∨ q = 39) :
  Calls Tryz.prog 188 #[.pointer (some ⟨R,0,none⟩)] w fun e w' => e = .returned (tkV (strTk (str q r).1)) ∧ At n₀ w' R raw (str q r).2 ∧ w.grownBy w' (some R):=by
 obtain ⟨i0,hi,hz0,hz1,hz2⟩:=info_parts infoInt'
 have hR:=h.lt
 have hlen:=h.len
 rw [List.length_cons] at hlen
 have t0:=Five.new w (.int .i64 0) (.string ⟨#[]⟩) (.int .i64 0) (.bool false) (.int .i64 0)
 have g0:w.grownBy (w.alloc (.cells #[.int .i64 0,.string ⟨#[]⟩,.int .i64 0,.bool false,.int .i64 0] 108)) none:=World.grownBy_alloc _ _ _
 have h0:=take_any (h.kept g0)
 clear h
 go_enter Tryz.func188,Tryz.ntmps188
 go_wp2_with fail
 refine h0.mono ?_
 clear h0
 rintro e w1 ⟨rfl,k1,g1⟩
 replace t0:=t0.kept g1 (by simp;omega)
 replace g1:=(grown_but g0 (some R)).trans g1
 have hw1:w.heap.size + 1 ≤ w1.heap.size:=t0.lt
 clear g0
 go_wp2
 go_loopw [4] (fun o wr => ∃ t l':List Int,wr.ownsRow (w.heap.size + 1) 3 1 o t.length (t.map (Value.int .i64)) ∧ At n₀ wr R raw l' ∧ str q r = ((str q l').1.map (t ++ ·),(str q l').2) ∧ t.length + l'.length ≤ r.length ∧ w.grownBy wr (some R) ∧ w.heap.size + 1 ≤ wr.heap.size ∧ Five wr w.heap.size (.int .i64 0) (.string ⟨#[]⟩) (.int .i64 0) (.bool false) (.int .i64 0)) (fun _ wr => lenOf raw wr R)
 case atStart => exact ⟨[],r,World.ownsRow_nil _ _ _ _,k1,by simp,by simp,g1,hw1,t0⟩
 case round =>
  clear k1 g1 hw1 t0
  obtain ⟨t,l',hown,h',e',hl',g',hw',t'⟩:=hrel
  have hm:=h'.lenOf
  have h1:=ahead_any 0 (by omega) h'
  have h2:=fun w1 (g:wr.grownBy w1 none) => ahead_any 0 (by omega) (h'.kept g)
  have h3:∀ w1 (g:wr.grownBy w1 none),Calls Tryz.prog 190 #[.pointer (some ⟨R,0,none⟩),.int .i64 0] w1 fun e w' => e = .returned (.bool (escAt l')) ∧ w1.grownBy w' none:=fun w1 g => escapes_any 0 (by omega) (h'.kept g)
  cases l' with
  | nil =>
   have HE:Hid (str q r = (some t,[])):=by show _ = _;rw [e',str_nil];simp
   rw [see_nil] at h1
   simp only [see_nil] at h2
   have hq1:((-1:Int) == q) = false:=by simp;omega
   clear e' h3
   go_wp2_with fail
   refine h1.mono ?_
   rintro e w1 ⟨rfl,g1⟩
   go_wp2_with fail
   refine (h2 _ g1).mono ?_
   rintro e w2 ⟨rfl,g2⟩
   have g12:=g1.trans g2
   go_wp2_with fail
   refine (h2 _ g12).mono ?_
   rintro e w3 ⟨rfl,g3⟩
   have g13:=g12.trans g3
   have hown3:=owns_far hown (grown_but g13 (some R)) (by omega)
   have h4:=encoded_any _ t w3 (IntsAt.of_owns hown3 rfl) (by omega)
   go_wp2_with fail
   refine h4.mono ?_
   clear h4
   rintro e w4 ⟨rfl,b4⟩
   have g14:=g13.trans (grown_of_below b4 none)
   have t4:=t'.kept g14 (by simp)
   obtain ⟨c0,c1,c2,c3,c4⟩:=t4.cells
   obtain ⟨f0,f1,f2,f3,f4⟩:=t4.free
   go_wp2
   refine bodyPost_ret ((t4.set _ _ _ _ _).ret rfl _ rfl) rfl ?_
   rw [show str q r = _ from HE]
   exact ⟨rfl,(h'.kept g14).kept_other (grown_setAll _ _ _ _ _ _ _) hR,grown_out (g'.trans (grown_but g14 _)) (Nat.le_refl _) (grown_setAll _ _ _ _ _ _ _)⟩
  | cons c r' =>
   rw [see_zero] at h1
   simp only [see_zero] at h2
   have hc0:0 ≤ c:=h'.mem (List.mem_cons_self ..)
   rw [List.length_cons] at hl'
   by_cases hcq:c = q
   ·subst hcq
    have HE:Hid (str c r = (some t,r')):=by show _ = _;rw [e',str_cons,if_pos rfl];simp
    clear e' h3
    go_wp2_with fail
    refine h1.mono ?_
    rintro e w1 ⟨rfl,g1⟩
    go_wp2_with fail
    refine (h2 _ g1).mono ?_
    rintro e w2 ⟨rfl,g2⟩
    have g12:=g1.trans g2
    obtain ⟨a,c1,f1,ha,_,⟨k3,_⟩,_⟩:=(h'.kept g12).open' (by simp)
    replace k3:At n₀ _ R raw r':=k3
    have g3:=grown_set1 w2 R (.int .i64 ((a:Int) + 1))
    have g13:=(grown_but g12 (some R)).trans g3
    have hown3:=owns_far hown g13 (by omega)
    have h4:=encoded_any _ t _ (IntsAt.of_owns hown3 rfl) (by omega)
    have t3:=t'.kept g13 (by simp;omega)
    go_wp2_with fail
    generalize w2.setCell ⟨R,1,none⟩ (.int .i64 ((a:Int) + 1)) = w3 at *
    clear c1 f1
    refine h4.mono ?_
    clear h4
    rintro e w4 ⟨rfl,b4⟩
    have g4:=grown_of_below b4 none
    have t4:=t3.kept g4 (by simp)
    obtain ⟨c0,c1,c2,c3,c4⟩:=t4.cells
    obtain ⟨f0,f1,f2,f3,f4⟩:=t4.free
    go_wp2
    refine bodyPost_ret ((t4.set _ _ _ _ _).ret rfl _ rfl) rfl ?_
    rw [show str c r = _ from HE]
    exact ⟨rfl,(k3.kept g4).kept_other (grown_setAll _ _ _ _ _ _ _) hR,grown_out ((g'.trans g13).trans (grown_but g4 _)) (Nat.le_refl _) (grown_setAll _ _ _ _ _ _ _)⟩
   ·have hcq':(c == q) = false:=by simpa using hcq
    have hc1:(c == -1) = false:=by simp;omega
    have hn1:(c != q) = true:=by simpa using hcq
    have hn2:(c != -1) = true:=by simp;omega
    by_cases h10:c = 10
    ·subst h10
     have HE:Hid (str q r = (none,10 :: r')):=by show _ = _;rw [e',str_cons,if_neg hcq,if_pos rfl];rfl
     clear e' h3 hcq hn2
     go_wp2_with fail
     refine h1.mono ?_
     rintro e w1 ⟨rfl,g1⟩
     go_wp2_with fail
     refine (h2 _ g1).mono ?_
     rintro e w2 ⟨rfl,g2⟩
     have g12:=g1.trans g2
     go_wp2_with fail
     refine (h2 _ g12).mono ?_
     rintro e w3 ⟨rfl,g3⟩
     have g13:=g12.trans g3
     have t3:=t'.kept g13 (by simp)
     obtain ⟨c0,c1,c2,c3,c4⟩:=t3.cells
     obtain ⟨f0,f1,f2,f3,f4⟩:=t3.free
     go_wp2
     refine bodyPost_ret ((t3.set _ _ _ _ _).ret rfl _ rfl) rfl ?_
     rw [show str q r = _ from HE]
     exact ⟨rfl,(h'.kept g13).kept_other (grown_setAll _ _ _ _ _ _ _) hR,grown_out (g'.trans (grown_but g13 _)) (Nat.le_refl _) (grown_setAll _ _ _ _ _ _ _)⟩
    ·have h10':(c == 10) = false:=by simpa using h10
     cases he:escAt (c :: r') with
     | true =>
      obtain ⟨c',r'',e1,hr⟩:=escAt_parts he
      obtain ⟨rfl,rfl⟩:=List.cons.inj e1
      obtain ⟨d,r3,rfl⟩:=List.exists_cons_of_ne_nil hr
      have h92:c = 92 ∧ 0 ≤ d ∧ d ≠ 10:=by
       rw [escAt_cons] at he
       simpa [and_assoc] using he
      have hsl:=escd_len c (d :: r3)
      have hdr:(d :: r3).length = r3.length + 1:=rfl
      have e2:str q r = ((str q (escd (c :: d :: r3)).2).1.map ((t ++ [(escd (c :: d :: r3)).1]) ++ ·),(str q (escd (c :: d :: r3)).2).2):=by
       rw [e',str_cons,if_neg hcq,if_neg h10,if_pos h92.1,if_neg (by simp),if_neg (by rw [see_zero];exact h92.2.2)]
       simp [Option.map_map,Function.comp_def]
      rw [he] at h3
      have h4:=fun w1 (g:wr.grownBy w1 none) => escape_any (h'.kept g) hr
      generalize (escd (c :: d :: r3)).1 = y at *
      generalize (escd (c :: d :: r3)).2 = r2 at *
      clear e' he h92 e1
      go_wp2_with fail
      refine h1.mono ?_
      rintro e w1 ⟨rfl,g1⟩
      go_wp2_with fail
      refine (h2 _ g1).mono ?_
      rintro e w2 ⟨rfl,g2⟩
      have g12:=g1.trans g2
      go_wp2_with fail
      refine (h2 _ g12).mono ?_
      rintro e w3 ⟨rfl,g3⟩
      have g13:=g12.trans g3
      go_wp2_with fail
      refine (h3 _ g13).mono ?_
      rintro e w4 ⟨rfl,g4⟩
      have g14:=g13.trans g4
      go_wp2_with fail
      refine (h4 _ g14).mono ?_
      clear h4
      rintro e w5 ⟨rfl,k5,g5⟩
      have g15:=(grown_but g14 (some R)).trans g5
      have hown2:=owns_far hown g15 (by omega)
      have t5:=t'.kept g15 (by simp;omega)
      have hs2:=g15.size
      clear hown
      go_wp2_with (at_builtin;refine wpList_append_own _ rfl _ _ 58 rfl (w.heap.size + 1) 3 i0 (.int .i64 0) 1 8 Tryz.underlying58 hi hz0 hz1 hz2 rfl (by decide) _ _ _ rfl (hown2.alloc _) ⟨w5.heap.size,0,none⟩ 1 1 [.int .i64 y] rfl rfl (cells_new _ [.int .i64 y] _) (fun x hx => by simp at hx;subst hx;rfl) (by unfold maxLen;omega) (by omega) (by simp;omega) ?_;intro v' w6 hown6 hgrow6 hnil6)
      have far:∀ j,(_:Value).ownBlock = some j → w.heap.size < j:=fun j e => by have:=(hown2.lt j e).1;omega
      have k6:=(k5.kept (World.grownBy_alloc w5 _ none)).kept_far hgrow6 (fun j e => by have:=far j e;omega)
      have t6:=(t5.kept (World.grownBy_alloc w5 _ none) (by simp)).kept hgrow6 (fun e => by have:=far _ e.symm;omega)
      have hm6:=k6.lenOf
      have g16:=((g'.trans g15).trans (World.grownBy_alloc w5 _ _)).andThen hgrow6 (fun j e => .inl (Nat.le_of_lt (far j e)))
      refine ⟨⟨t ++ [y],r2,by simpa using hown6,k6,e2,by simp only [List.length_append,List.length_cons,List.length_nil];omega,g16,t6.lt,t6⟩,by rw [hm,hm6];simp only [List.length_cons];omega⟩
     | false =>
      rw [he] at h3
      by_cases h92:c = 92
      ·subst h92
       have hr0:see r' 0 = -1 ∧ r' = [] ∨ see r' 0 = 10 ∧ r' ≠ []:=by
        cases r' with
        | nil => exact .inl ⟨rfl,rfl⟩
        | cons d r3 =>
         rw [escAt_cons] at he
         have hd0:0 ≤ d:=h'.mem (List.mem_cons_of_mem _ (List.mem_cons_self ..))
         refine .inr ⟨?_,by simp⟩
         rw [see_zero]
         simpa [hd0] using he
       have e2:str q r = ((str q (if see r' 0 = 10 then r'.tail else r')).1.map (t ++ ·),(str q (if see r' 0 = 10 then r'.tail else r')).2):=by
        rw [e',str_cons,if_neg hcq,if_neg h10,if_pos rfl]
        rcases hr0 with ⟨x1,rfl⟩ | ⟨x1,x2⟩
        ·rfl
        ·rw [if_neg x2,if_pos x1,if_pos x1]
       have hsl:(if see r' 0 = 10 then r'.tail else r').length ≤ r'.length:=by
        split
        ·exact tail_le_len r'
        ·exact Nat.le_refl _
       have h4:=fun w1 (g:wr.grownBy w1 none) => passLineEnd_any (h'.kept g)
       generalize (if see r' 0 = 10 then r'.tail else r') = r2 at *
       clear e' he hcq h10 hr0
       go_wp2_with fail
       refine h1.mono ?_
       rintro e w1 ⟨rfl,g1⟩
       go_wp2_with fail
       refine (h2 _ g1).mono ?_
       rintro e w2 ⟨rfl,g2⟩
       have g12:=g1.trans g2
       go_wp2_with fail
       refine (h2 _ g12).mono ?_
       rintro e w3 ⟨rfl,g3⟩
       have g13:=g12.trans g3
       go_wp2_with fail
       refine (h3 _ g13).mono ?_
       rintro e w4 ⟨rfl,g4⟩
       have g14:=g13.trans g4
       go_wp2_with fail
       refine (h2 _ g14).mono ?_
       rintro e w5 ⟨rfl,g5⟩
       have g15:=g14.trans g5
       go_wp2_with fail
       refine (h4 _ g15).mono ?_
       clear h4
       rintro e w6 ⟨rfl,k6,g6⟩
       have g16:=(grown_but g15 (some R)).trans g6
       have hown2:=owns_far hown g16 (by omega)
       have t6:=t'.kept g16 (by simp;omega)
       have hm6:=k6.lenOf
       go_wp2
       refine ⟨⟨t,r2,hown2,k6,e2,by omega,g'.trans g16,t6.lt,t6⟩,by rw [hm,hm6];simp;omega⟩
      ·have h92':(c == 92) = false:=by simpa using h92
       have e2:str q r = ((str q r').1.map ((t ++ [c]) ++ ·),(str q r').2):=by
        rw [e',str_cons,if_neg hcq,if_neg h10,if_neg h92]
        simp [Option.map_map,Function.comp_def]
       have h4:=fun w1 (g:wr.grownBy w1 none) => take_any (h'.kept g)
       clear e' he
       go_wp2_with fail
       refine h1.mono ?_
       rintro e w1 ⟨rfl,g1⟩
       go_wp2_with fail
       refine (h2 _ g1).mono ?_
       rintro e w2 ⟨rfl,g2⟩
       have g12:=g1.trans g2
       go_wp2_with fail
       refine (h2 _ g12).mono ?_
       rintro e w3 ⟨rfl,g3⟩
       have g13:=g12.trans g3
       go_wp2_with fail
       refine (h3 _ g13).mono ?_
       rintro e w4 ⟨rfl,g4⟩
       have g14:=g13.trans g4
       go_wp2_with fail
       refine (h2 _ g14).mono ?_
       rintro e w5 ⟨rfl,g5⟩
       have g15:=g14.trans g5
       go_wp2_with fail
       refine (h4 _ g15).mono ?_
       clear h4
       rintro e w6 ⟨rfl,k6,g6⟩
       have g16:=(grown_but g15 (some R)).trans g6
       have hown2:=owns_far hown g16 (by omega)
       have t6:=t'.kept g16 (by simp;omega)
       have hs2:=g16.size
       clear hown
       go_wp2_with (at_builtin;refine wpList_append_own _ rfl _ _ 58 rfl (w.heap.size + 1) 3 i0 (.int .i64 0) 1 8 Tryz.underlying58 hi hz0 hz1 hz2 rfl (by decide) _ _ _ rfl (hown2.alloc _) ⟨w6.heap.size,0,none⟩ 1 1 [.int .i64 c] rfl rfl (cells_new _ [.int .i64 c] _) (fun x hx => by simp at hx;subst hx;rfl) (by unfold maxLen;omega) (by omega) (by simp;omega) ?_;intro v' w7 hown7 hgrow7 hnil7)
       have far:∀ j,(_:Value).ownBlock = some j → w.heap.size < j:=fun j e => by have:=(hown2.lt j e).1;omega
       have k7:=(k6.kept (World.grownBy_alloc w6 _ none)).kept_far hgrow7 (fun j e => by have:=far j e;omega)
       have t7:=(t6.kept (World.grownBy_alloc w6 _ none) (by simp)).kept hgrow7 (fun e => by have:=far _ e.symm;omega)
       have hm7:=k7.lenOf
       have g17:=((g'.trans g16).trans (World.grownBy_alloc w6 _ _)).andThen hgrow7 (fun j e => .inl (Nat.le_of_lt (far j e)))
       refine ⟨⟨t ++ [c],r',by simpa using hown7,k7,e2,by simp;omega,g17,t7.lt,t7⟩,by rw [hm,hm7];simp⟩
end Go.Proofs.YtagbjmocjaaioaaGreatDoor

/- package tok's reader: numbers. -/
set_option maxRecDepth 100000
namespace Go.Proofs.YtagbjmocjaaioaaGreatDoor
open Go Go.RowKit Go.Shelf
def nvOf (t:List Int):Int:=Nm.numN (encs t)
theorem numText_eq (l:List Int):l = (numText l).1 ++ (numText l).2.1:=by
 have hu:l = sgn l ++ unsign l:=by
  unfold sgn unsign
  cases l with
  | nil => rfl
  | cons c r =>
   rw [see_zero]
   split <;> rfl
 have hd:=List.takeWhile_append_dropWhile (p:=isDigit) (l:=unsign l)
 unfold numText
 simp only
 split
 ·rename_i hp
  have hne:=pointed_ne hp
  have h46:(unsign l).dropWhile isDigit = 46 :: ((unsign l).dropWhile isDigit).tail:=by
   unfold pointed at hp
   cases e:(unsign l).dropWhile isDigit with
   | nil => exact absurd e hne
   | cons c r =>
    rw [e,see_zero] at hp
    have:c = 46:=by
     have:=(Bool.and_eq_true _ _ ▸ hp).1
     simpa using this
    rw [this]
    rfl
  have hd2:=List.takeWhile_append_dropWhile (p:=isDigit) (l:=((unsign l).dropWhile isDigit).tail)
  show l = sgn l ++ (unsign l).takeWhile isDigit ++ 46 :: ((unsign l).dropWhile isDigit).tail.takeWhile isDigit ++ ((unsign l).dropWhile isDigit).tail.dropWhile isDigit
  rw [List.append_assoc,List.cons_append,hd2,← h46,List.append_assoc,hd]
  exact hu
 ·show l = sgn l ++ (unsign l).takeWhile isDigit ++ (unsign l).dropWhile isDigit
  rw [List.append_assoc,hd]
  exact hu
theorem IntsAt.part {n₀:Nat} {W:World} {p:Option Addr} {cap:Nat} {raw:List Int} (h:IntsAt n₀ W (.slice p raw.length cap) raw) {a b:Nat} (hab:a < b) (hb:b ≤ raw.length) :
  ∃ bk off,p = some ⟨bk,off,none⟩ ∧ raw.length ≤ cap ∧ cap ≤ maxLen ∧ IntsAt n₀ W (.slice (some ⟨bk,off + a,none⟩) (b - a) (cap - a)) ((raw.drop a).take (b - a)):=by
 rcases h with ⟨rfl,_⟩ | ⟨bk,off,c,e,h1,h2,h3,h4⟩
 ·simp at hb;omega
 ·cases e
  refine ⟨bk,off,rfl,h1,h2,.inr ⟨bk,off + a,cap - a,?_,?_,by omega,h3,fun j u hj => ?_⟩⟩
  ·congr 1
   rw [List.length_take,List.length_drop]
   omega
  ·rw [List.length_take,List.length_drop]
   omega
  ·rw [List.getElem?_take] at hj
   split at hj
   ·rw [List.getElem?_drop] at hj
    rw [Nat.add_assoc]
    exact h4 _ u hj
   ·cases hj
theorem numText_lt {l:List Int} (hb:begNum l = true):(numText l).2.1.length < l.length:=by
 cases l with
 | nil => exact absurd hb (by decide)
 | cons c r =>
  have:=numText_len hb
  rw [List.length_cons]
  omega
theorem part_of {raw l l5 t:List Int} {a0 a1:Nat} (e0:l = (raw.map fixC).drop a0) (e1:l5 = (raw.map fixC).drop a1) (E:l = t ++ l5) (h0:a0 ≤ raw.length) (h1:a1 ≤ raw.length) (hlt:l5.length < l.length) :
  a0 < a1 ∧ ((raw.drop a0).take (a1 - a0)).map fixC = t:=by
 have n0:=congrArg List.length e0
 have n1:=congrArg List.length e1
 have nE:=congrArg List.length E
 rw [List.length_drop,List.length_map] at n0 n1
 rw [List.length_append] at nE
 refine ⟨by omega,?_⟩
 rw [List.map_take,List.map_drop,← e0,E,show a1 - a0 = t.length by omega]
 simp
set_option maxHeartbeats 4000000 in
theorem amount_any {w:World} {n₀ R:Nat} {raw l:List Int} (h:At n₀ w R raw l) (hb:begNum l = true) (hT:Nm.Tabs R w) :
  Calls Tryz.prog 232 #[.pointer (some ⟨R,0,none⟩)] w fun e w' => e = .returned (.tuple #[.int .i64 (nvOf (numText l).1),.bool (numText l).2.2]) ∧ At n₀ w' R raw (numText l).2.1 ∧ w.grownBy w' (some R):=by
 have hR:=h.lt
 have hlen:=h.len
 have hp:=h
 obtain ⟨v0,a0,hr0,e0⟩:=h
 have c1:=hr0.pair.c1
 have h1:=ahead_any 0 (by omega) hp
 have hs:=isSign_any (see l 0)
 have hu:Hid (unsign l = if (see l 0 == 43 || see l 0 == 45) = true then l.tail else l):=rfl
 have hne:(see l 0 == 43 || see l 0 == 45) = true → l ≠ []:=fun e e2 => by rw [e2] at e;exact absurd e (by decide)
 have E:=numText_eq l
 have HN:Hid (numText l = if pointed ((unsign l).dropWhile isDigit) = true then (sgn l ++ (unsign l).takeWhile isDigit ++ 46 :: ((unsign l).dropWhile isDigit).tail.takeWhile isDigit,((unsign l).dropWhile isDigit).tail.dropWhile isDigit,false) else (sgn l ++ (unsign l).takeWhile isDigit,(unsign l).dropWhile isDigit,true)):=rfl
 generalize (see l 0 == 43 || see l 0 == 45) = s at *
 generalize see l 0 = c at *
 go_enter Tryz.func232,Tryz.ntmps232
 go_wp2_with fail
 refine h1.mono ?_
 clear h1
 rintro e w1 ⟨rfl,g1⟩
 go_wp2_with fail
 refine (hs _).mono ?_
 clear hs
 rintro e w' ⟨rfl,rfl⟩
 have k1:=hp.kept g1
 go_upto_if 11 with fail
 go_cut [] (fun wx => At n₀ wx R raw (unsign l) ∧ w.grownBy wx (some R))
 case first =>
  cases s with
  | true =>
   have hu':Hid (unsign l = l.tail):=hu
   clear hu
   obtain ⟨a,d1,f1,ha,_,⟨k2,_⟩,_⟩:=k1.open' (hne rfl)
   go_wp2
   go_meet
   rw [show unsign l = _ from hu']
   exact ⟨k2,(grown_but g1 _).trans (grown_set1 _ _ _)⟩
  | false =>
   have hu':Hid (unsign l = l):=hu
   clear hu
   go_wp2
   go_meet
   rw [show unsign l = _ from hu']
   exact ⟨k1,grown_but g1 _⟩
 case rest =>
  obtain ⟨k2,g2⟩:=hcut
  clear g1 k1 hp
  generalize unsign l = l2 at *
  have h2:=passDigits_any k2
  go_wp2_with fail
  refine h2.mono ?_
  clear h2 k2
  rintro e w3 ⟨rfl,k3,g3⟩
  have g13:=g2.trans g3
  have h3:Calls Tryz.prog 231 #[.pointer (some ⟨R,0,none⟩),.int .i64 0] w3 fun e w' => e = .returned (.bool (pointed (l2.dropWhile isDigit))) ∧ w3.grownBy w' none:=fractionBegins_any 0 (by omega) k3
  generalize l2.dropWhile isDigit = l3 at *
  go_wp2_with fail
  refine h3.mono ?_
  clear h3
  rintro e w4 ⟨rfl,g4⟩
  have k4:=k3.kept g4
  have g14:=g13.trans (grown_but g4 _)
  clear k3 g13 g4 g3
  clear hu
  go_upto_if 25 with fail
  go_cut [3] (fun s3 wx => s3 = .bool (!pointed l3) ∧ At n₀ wx R raw (if pointed l3 then l3.tail.dropWhile isDigit else l3) ∧ w.grownBy wx (some R))
  case first =>
   cases hp3:pointed l3 with
   | true =>
    obtain ⟨a,d1,f1,ha,_,⟨k5,_⟩,_⟩:=k4.open' (pointed_ne hp3)
    have g15:=g14.trans (grown_set1 w4 R (.int .i64 ((a:Int) + 1)))
    have h5:=passDigits_any k5
    go_wp2_with fail
    refine h5.mono ?_
    rintro e w6 ⟨rfl,k6,g6⟩
    go_wp2
    go_meet
    exact ⟨by rw [hp3];rfl,by rw [hp3];exact k6,g15.trans g6⟩
   | false =>
    go_wp2
    go_meet
    exact ⟨by rw [hp3],by rw [hp3];exact k4,g14⟩
  case rest =>
   obtain ⟨rfl,k5,g5⟩:=hcut
   clear k4 g14
   have hN1:(if pointed l3 then l3.tail.dropWhile isDigit else l3) = (numText l).2.1:=by
    rw [show numText l = _ from HN]
    split <;> rfl
   have hN2:(!pointed l3) = (numText l).2.2:=by
    rw [show numText l = _ from HN]
    cases pointed l3 <;> rfl
   rw [hN1] at k5
   rw [hN2]
   clear hN1 hN2 HN hne
   have hlt:=numText_lt hb
   have k5':=k5
   obtain ⟨v1,a1,hr1,e1⟩:=k5
   obtain ⟨p1,cap1,rfl⟩:=hr1.ints.len
   have d0:=hr1.pair.c0
   have d1:=hr1.pair.c1
   have H3:Hid (numText l = ((numText l).1,(numText l).2.1,(numText l).2.2)):=rfl
   generalize (numText l).2.2 = wh at *
   generalize (numText l).2.1 = l5 at *
   generalize (numText l).1 = t at *
   obtain ⟨ha,hpt⟩:=part_of (raw:=raw) e0 e1 E hr0.least hr1.least hlt
   obtain ⟨bk,off,rfl,hc1,hc2,hI⟩:=hr1.ints.part ha hr1.least
   have hb1:=hr1.least
   unfold maxLen at hc2
   have hRw:R ≤ wc.heap.size:=Nat.le_of_lt hr1.pair.lt
   have h6:=encoded_any _ _ wc.drew (hI.mono (Nat.le_trans hr1.low hRw)) (by rw [List.length_take,List.length_drop];omega)
   rw [show txtOf ((raw.drop a0).take (a1 - a0)) = txtOf t by unfold txtOf;rw [← encs_fix ((raw.drop a0).take (a1 - a0)),hpt]] at h6
   have hTc:Nm.Tabs wc.heap.size wc:=(hT.below (below_of_grown g5 (Nat.le_of_lt hR))).mono hRw
   have htl:t.length ≤ 1000000:=by
    have:=congrArg List.length E
    rw [List.length_append] at this
    omega
   have htx:(txtOf t).size ≤ 4000000:=by
    have:=encs_len t
    show (encs t).toArray.size ≤ _
    rw [List.size_toArray]
    omega
   have h7:=fun w7 (b7:Below wc.drew.heap.size wc.drew w7) => Nm.of_any (txtOf t) w7 htx ((hTc.below (w':=w7) ⟨b7.os,b7.tape,b7.output,b7.size,b7.block⟩).mono b7.size)
   have ed:(txtOf t).data.toList = encs t:=rfl
   rw [ed] at h7
   have en:Nm.numN (encs t) = nvOf t:=rfl
   rw [en] at h7
   clear ed en htx htl hTc hRw hpt hI e0 e1 E hlt hr0 hT hb hlen
   generalize hNt:nvOf t = N at *
   have HNt:Hid (nvOf t = N):=hNt
   clear hNt
   generalize Nm.numOk (encs t) = ok at *
   generalize txtOf t = tx at *
   go_upto_region 9 with fail
   go_cut [2] (fun s2 wx => s2 = .int .i64 N ∧ Below wc.heap.size wc wx)
   case first =>
    clear k5' g5 hr1 c1
    go_region_with (first
     | (go_at_call 226;refine h6.mono ?_;rintro e w7 ⟨rfl,b7⟩)
     | (go_at_call 267;refine (h7 _ b7).mono ?_;rintro e w8 ⟨rfl,b8⟩))
    all_goals have b9:=b7.trans (b8.mono b7.size)
    all_goals clear h6 h7 b7 b8 d0 d1
    all_goals simp only [List.getElem_toArray,List.getElem_cons_succ,List.getElem_cons_zero,Act.put,List.setIfInBounds_toArray,List.set_cons_succ,List.set_cons_zero]
    all_goals (go_wp2_with fail;go_meet;exact ⟨rfl,b9.os,b9.tape,b9.output,b9.size,b9.block⟩)
   case rest =>
    obtain ⟨rfl,b9⟩:=hcut
    go_wp2
    go_ret2
    rw [show numText l = _ from H3,show nvOf t = N from HNt]
    have g9:=grown_of_below b9 none
    exact ⟨rfl,k5'.kept g9,g5.trans (grown_but g9 _)⟩
end Go.Proofs.YtagbjmocjaaioaaGreatDoor

/- package tok's reader: one token. -/
namespace Go.Proofs.YtagbjmocjaaioaaGreatDoor
open Go Go.RowKit Go.Shelf
def RTabs (n₀:Nat) (W:World):Prop:=SignsAt n₀ W ∧ Nm.Tabs n₀ W
theorem RTabs.below {n₀:Nat} {X Y:World} (h:RTabs n₀ X) (hb:Below n₀ X Y):RTabs n₀ Y:=⟨h.1.below hb,h.2.below hb⟩
theorem RTabs.mono {n₀ n₁:Nat} {X:World} (h:RTabs n₀ X) (hn:n₀ ≤ n₁):RTabs n₁ X:=⟨h.1.mono hn,h.2.mono hn⟩
theorem RTabs.grown {R:Nat} {X Y:World} (h:RTabs R X) (hg:X.grownBy Y (some R)) (hR:R ≤ X.heap.size):RTabs R Y:=h.below (below_of_grown hg hR)
set_option maxHeartbeats 1000000 in
theorem marked_any (kind:Int) {w:World} {n₀ R:Nat} {raw r:List Int} {c:Int} (h:At n₀ w R raw (c :: r)) :
  Calls Tryz.prog 191 #[.pointer (some ⟨R,0,none⟩),.int .i64 kind] w fun e w' => e = .returned (tkV ⟨kind,(name r).1,0,false,0⟩) ∧ At n₀ w' R raw (name r).2 ∧ w.grownBy w' (some R):=by
 have hR:=h.lt
 have t0:=Five.new w (.int .i64 0) (.string ⟨#[]⟩) (.int .i64 0) (.bool false) (.int .i64 0)
 have g0:w.grownBy (w.alloc (.cells #[.int .i64 0,.string ⟨#[]⟩,.int .i64 0,.bool false,.int .i64 0] 108)) none:=World.grownBy_alloc _ _ _
 have h0:=h.kept g0
 clear h
 go_enter Tryz.func191,Tryz.ntmps191
 go_upto_region 1 with fail
 generalize w.alloc (.cells #[.int .i64 0,.string ⟨#[]⟩,.int .i64 0,.bool false,.int .i64 0] 108) = w0 at *
 obtain ⟨a,c1,f1,ha,_,⟨k1,_⟩,_⟩:=h0.open' (by simp)
 replace k1:At n₀ _ R raw r:=k1
 have g1:=(grown_but g0 (some R)).trans (grown_set1 w0 R (.int .i64 ((a:Int) + 1)))
 have t1:=t0.kept (grown_set1 w0 R (.int .i64 ((a:Int) + 1))) (by simp;omega)
 have h2:=name_any k1
 go_wp2_with fail
 generalize w0.setCell ⟨R,1,none⟩ (.int .i64 ((a:Int) + 1)) = w1 at *
 refine h2.mono ?_
 clear h2 c1 f1
 rintro e w2 ⟨rfl,k2,g2⟩
 have t2:=t1.kept g2 (by simp;omega)
 obtain ⟨c0,c1,c2,c3,c4⟩:=t2.cells
 obtain ⟨f0,f1,f2,f3,f4⟩:=t2.free
 go_wp2
 refine bodyPost_ret ((t2.set _ _ _ _ _).ret rfl _ rfl) rfl ?_
 exact ⟨rfl,k2.kept_other (grown_setAll _ _ _ _ _ _ _) hR,grown_out (g1.trans g2) (Nat.le_refl _) (grown_setAll _ _ _ _ _ _ _)⟩
set_option maxHeartbeats 1000000 in
theorem named_any {w:World} {n₀ R:Nat} {raw l:List Int} (h:At n₀ w R raw l) :
  Calls Tryz.prog 195 #[.pointer (some ⟨R,0,none⟩)] w fun e w' => ∃ k l',(if see (name l).2 0 = 40 then ((⟨20,(name l).1,0,false,0⟩:Tk),(name l).2.tail) else (⟨1,(name l).1,0,false,0⟩,(name l).2)) = (k,l') ∧ e = .returned (tkV k) ∧ At n₀ w' R raw l' ∧ w.grownBy w' (some R):=by
 have hR:=h.lt
 have t0:=Five.new w (.int .i64 0) (.string ⟨#[]⟩) (.int .i64 0) (.bool false) (.int .i64 0)
 have g0:w.grownBy (w.alloc (.cells #[.int .i64 0,.string ⟨#[]⟩,.int .i64 0,.bool false,.int .i64 0] 108)) none:=World.grownBy_alloc _ _ _
 have h0:=name_any (h.kept g0)
 clear h
 generalize (name l).1 = t at *
 generalize (name l).2 = l2 at *
 by_cases hc:see l2 0 = 40
 ·rw [if_pos hc]
  have hne:l2 ≠ []:=fun e => by rw [e] at hc;revert hc;decide
  have h1:=fun w1 (k:At n₀ w1 R raw l2) => ahead_any 0 (by omega) k
  rw [hc] at h1
  clear hc
  go_enter Tryz.func195,Tryz.ntmps195
  go_wp2_with fail
  refine h0.mono ?_
  clear h0
  rintro e w1 ⟨rfl,k1,g1⟩
  replace t0:=t0.kept g1 (by simp;omega)
  replace g1:=(grown_but g0 (some R)).trans g1
  go_wp2_with fail
  refine (h1 _ k1).mono ?_
  rintro e w2 ⟨rfl,g2⟩
  have t2:=t0.kept g2 (by simp)
  obtain ⟨a,d1,e1,ha,_,⟨k3,_⟩,_⟩:=(k1.kept g2).open' hne
  have g3:=grown_set1 w2 R (.int .i64 ((a:Int) + 1))
  have t3:=t2.kept g3 (by simp;omega)
  clear t2 t0 g0
  go_upto_region 5 with fail
  generalize w2.setCell ⟨R,1,none⟩ (.int .i64 ((a:Int) + 1)) = w3 at *
  clear d1 e1
  obtain ⟨c0,c1,c2,c3,c4⟩:=t3.cells
  obtain ⟨f0,f1,f2,f3,f4⟩:=t3.free
  go_wp2
  refine bodyPost_ret ((t3.set _ _ _ _ _).ret rfl _ rfl) rfl ?_
  exact ⟨_,_,rfl,rfl,k3.kept_other (grown_setAll _ _ _ _ _ _ _) hR,grown_out ((g1.trans (grown_but g2 _)).trans g3) (Nat.le_refl _) (grown_setAll _ _ _ _ _ _ _)⟩
 ·rw [if_neg hc]
  have h1:=fun w1 (k:At n₀ w1 R raw l2) => ahead_any 0 (by omega) k
  generalize see l2 0 = c at *
  have hc':(c != 40) = true:=by simpa using hc
  go_enter Tryz.func195,Tryz.ntmps195
  go_wp2_with fail
  refine h0.mono ?_
  clear h0
  rintro e w1 ⟨rfl,k1,g1⟩
  replace t0:=t0.kept g1 (by simp;omega)
  replace g1:=(grown_but g0 (some R)).trans g1
  go_wp2_with fail
  refine (h1 _ k1).mono ?_
  rintro e w2 ⟨rfl,g2⟩
  have t2:=t0.kept g2 (by simp)
  clear t0 g0
  obtain ⟨c0,c1,c2,c3,c4⟩:=t2.cells
  obtain ⟨f0,f1,f2,f3,f4⟩:=t2.free
  go_wp2
  refine bodyPost_ret ((t2.set _ _ _ _ _).ret rfl _ rfl) rfl ?_
  exact ⟨_,_,rfl,rfl,(k1.kept g2).kept_other (grown_setAll _ _ _ _ _ _ _) hR,grown_out (g1.trans (grown_but g2 _)) (Nat.le_refl _) (grown_setAll _ _ _ _ _ _ _)⟩
set_option maxHeartbeats 1000000 in
theorem single_any {w:World} {n₀ R:Nat} {raw r:List Int} {c:Int} (h:At n₀ w R raw (c :: r)) (hT:SignsAt R w) :
  Calls Tryz.prog 196 #[.pointer (some ⟨R,0,none⟩)] w fun e w' => e = .returned (tkV (if 0 < sign c then ⟨sign c,[],0,false,0⟩ else ⟨10,[],0,false,c⟩)) ∧ At n₀ w' R raw r ∧ w.grownBy w' (some R):=by
 have hR:=h.lt
 have t0:=Five.new w (.int .i64 0) (.string ⟨#[]⟩) (.int .i64 0) (.bool false) (.int .i64 0)
 have g0:w.grownBy (w.alloc (.cells #[.int .i64 0,.string ⟨#[]⟩,.int .i64 0,.bool false,.int .i64 0] 108)) none:=World.grownBy_alloc _ _ _
 have h0:=take_any (h.kept g0)
 clear h
 have h1:=fun w1 (hs:SignsAt w1.heap.size w1) => kindOf_any c w1 hs
 by_cases hs:0 < sign c
 ·rw [if_pos hs]
  simp only [hs,decide_true] at h1
  clear hs
  generalize sign c = k at *
  go_enter Tryz.func196,Tryz.ntmps196
  go_wp2_with fail
  refine h0.mono ?_
  clear h0
  rintro e w1 ⟨rfl,k1,g1⟩
  replace t0:=t0.kept g1 (by simp;omega)
  replace g1:=(grown_but g0 (some R)).trans g1
  go_wp2_with fail
  refine (h1 _ ((hT.below (below_of_grown g1 (Nat.le_of_lt hR))).mono (Nat.le_of_lt k1.lt))).mono ?_
  rintro e w2 ⟨rfl,b2⟩
  have g2:=grown_of_below b2 none
  have t2:=t0.kept g2 (by simp)
  clear t0 g0
  obtain ⟨c0,c1,c2,c3,c4⟩:=t2.cells
  obtain ⟨f0,f1,f2,f3,f4⟩:=t2.free
  go_wp2
  refine bodyPost_ret ((t2.set _ _ _ _ _).ret rfl _ rfl) rfl ?_
  exact ⟨rfl,(k1.kept g2).kept_other (grown_setAll _ _ _ _ _ _ _) hR,grown_out (g1.trans (grown_but g2 _)) (Nat.le_refl _) (grown_setAll _ _ _ _ _ _ _)⟩
 ·rw [if_neg hs]
  simp only [hs,decide_false] at h1
  clear hs
  generalize sign c = k at *
  go_enter Tryz.func196,Tryz.ntmps196
  go_wp2_with fail
  refine h0.mono ?_
  clear h0
  rintro e w1 ⟨rfl,k1,g1⟩
  replace t0:=t0.kept g1 (by simp;omega)
  replace g1:=(grown_but g0 (some R)).trans g1
  go_wp2_with fail
  refine (h1 _ ((hT.below (below_of_grown g1 (Nat.le_of_lt hR))).mono (Nat.le_of_lt k1.lt))).mono ?_
  rintro e w2 ⟨rfl,b2⟩
  have g2:=grown_of_below b2 none
  have t2:=t0.kept g2 (by simp)
  clear t0 g0
  obtain ⟨c0,c1,c2,c3,c4⟩:=t2.cells
  obtain ⟨f0,f1,f2,f3,f4⟩:=t2.free
  go_wp2
  refine bodyPost_ret ((t2.set _ _ _ _ _).ret rfl _ rfl) rfl ?_
  exact ⟨rfl,(k1.kept g2).kept_other (grown_setAll _ _ _ _ _ _ _) hR,grown_out (g1.trans (grown_but g2 _)) (Nat.le_refl _) (grown_setAll _ _ _ _ _ _ _)⟩
set_option maxHeartbeats 2000000 in
theorem number_any {w:World} {n₀ R:Nat} {raw l:List Int} (h:At n₀ w R raw l) (hb:begNum l = true) (hT:Nm.Tabs R w) :
  Calls Tryz.prog 193 #[.pointer (some ⟨R,0,none⟩)] w fun e w' => ∃ k l',numeric nvOf l = (k,l') ∧ e = .returned (tkV k) ∧ At n₀ w' R raw l' ∧ w.grownBy w' (some R):=by
 have hR:=h.lt
 have t0:=Five.new w (.int .i64 0) (.string ⟨#[]⟩) (.int .i64 0) (.bool false) (.int .i64 0)
 have g0:w.grownBy (w.alloc (.cells #[.int .i64 0,.string ⟨#[]⟩,.int .i64 0,.bool false,.int .i64 0] 108)) none:=World.grownBy_alloc _ _ _
 have h0:=amount_any (h.kept g0) hb (hT.below (below_of_still g0 R (Nat.le_of_lt hR) (row:=none) rfl))
 have hnum:Hid (numeric nvOf l = if begName (numText l).2.1 then (⟨8,(name (numText l).2.1).1,nvOf (numText l).1,false,0⟩,(name (numText l).2.1).2) else if see (numText l).2.1 0 = 37 then (⟨7,[],nvOf (numText l).1,false,0⟩,(numText l).2.1.tail) else (⟨6,[],nvOf (numText l).1,(numText l).2.2,0⟩,(numText l).2.1)):=rfl
 clear h
 generalize nvOf (numText l).1 = n at *
 generalize (numText l).2.2 = wh at *
 generalize (numText l).2.1 = l2 at *
 have h1:∀ w1 (k:At n₀ w1 R raw l2),Calls Tryz.prog 194 #[.pointer (some ⟨R,0,none⟩),.int .i64 0] w1 fun e w' => e = .returned (.bool (begName l2)) ∧ w1.grownBy w' none:=fun w1 k => nameBegins_any 0 (by omega) k
 cases hbn:begName l2 with
 | true =>
  have HN:Hid (numeric nvOf l = (⟨8,(name l2).1,n,false,0⟩,(name l2).2)):=by show _ = _;rw [show numeric nvOf l = _ from hnum,hbn];rfl
  rw [hbn] at h1
  clear hnum hbn
  go_enter Tryz.func193,Tryz.ntmps193
  go_wp2_with fail
  refine h0.mono ?_
  clear h0
  rintro e w1 ⟨rfl,k1,g1⟩
  replace t0:=t0.kept g1 (by simp;omega)
  replace g1:=(grown_but g0 (some R)).trans g1
  go_wp2_with fail
  refine (h1 _ k1).mono ?_
  rintro e w2 ⟨rfl,g2⟩
  have h3:=name_any (k1.kept g2)
  go_wp2_with fail
  refine h3.mono ?_
  rintro e w3 ⟨rfl,k3,g3⟩
  have t3:=(t0.kept g2 (by simp)).kept g3 (by simp;omega)
  clear t0 g0 h3
  obtain ⟨c0,c1,c2,c3,c4⟩:=t3.cells
  obtain ⟨f0,f1,f2,f3,f4⟩:=t3.free
  go_wp2
  refine bodyPost_ret ((t3.set _ _ _ _ _).ret rfl _ rfl) rfl ?_
  exact ⟨_,_,HN,rfl,k3.kept_other (grown_setAll _ _ _ _ _ _ _) hR,grown_out ((g1.trans (grown_but g2 _)).trans g3) (Nat.le_refl _) (grown_setAll _ _ _ _ _ _ _)⟩
 | false =>
  rw [hbn] at h1
  have h2:=fun w1 (k:At n₀ w1 R raw l2) => ahead_any 0 (by omega) k
  by_cases hc:see l2 0 = 37
  ·have HN:Hid (numeric nvOf l = (⟨7,[],n,false,0⟩,l2.tail)):=by show _ = _;rw [show numeric nvOf l = _ from hnum,hbn,if_neg (by decide),if_pos hc]
   have hne:l2 ≠ []:=fun e => by rw [e] at hc;revert hc;decide
   rw [hc] at h2
   clear hnum hbn hc
   go_enter Tryz.func193,Tryz.ntmps193
   go_wp2_with fail
   refine h0.mono ?_
   clear h0
   rintro e w1 ⟨rfl,k1,g1⟩
   replace t0:=t0.kept g1 (by simp;omega)
   replace g1:=(grown_but g0 (some R)).trans g1
   go_wp2_with fail
   refine (h1 _ k1).mono ?_
   rintro e w2 ⟨rfl,g2⟩
   go_wp2_with fail
   refine (h2 _ (k1.kept g2)).mono ?_
   rintro e w3 ⟨rfl,g3⟩
   have g23:=g2.trans g3
   obtain ⟨a,d1,e1,ha,_,⟨k4,_⟩,_⟩:=(k1.kept g23).open' hne
   have g4:=grown_set1 w3 R (.int .i64 ((a:Int) + 1))
   have t4:=(t0.kept g23 (by simp)).kept g4 (by simp;omega)
   clear t0 g0 g2 g3
   go_upto_region 6 with fail
   generalize w3.setCell ⟨R,1,none⟩ (.int .i64 ((a:Int) + 1)) = w4 at *
   clear d1 e1
   obtain ⟨c0,c1,c2,c3,c4⟩:=t4.cells
   obtain ⟨f0,f1,f2,f3,f4⟩:=t4.free
   go_wp2
   refine bodyPost_ret ((t4.set _ _ _ _ _).ret rfl _ rfl) rfl ?_
   exact ⟨_,_,HN,rfl,k4.kept_other (grown_setAll _ _ _ _ _ _ _) hR,grown_out ((g1.trans (grown_but g23 _)).trans g4) (Nat.le_refl _) (grown_setAll _ _ _ _ _ _ _)⟩
  ·have HN:Hid (numeric nvOf l = (⟨6,[],n,wh,0⟩,l2)):=by show _ = _;rw [show numeric nvOf l = _ from hnum,hbn,if_neg (by decide),if_neg hc]
   clear hnum hbn
   generalize see l2 0 = c at *
   have hc':(c == 37) = false:=by simpa using hc
   go_enter Tryz.func193,Tryz.ntmps193
   go_wp2_with fail
   refine h0.mono ?_
   clear h0
   rintro e w1 ⟨rfl,k1,g1⟩
   replace t0:=t0.kept g1 (by simp;omega)
   replace g1:=(grown_but g0 (some R)).trans g1
   go_wp2_with fail
   refine (h1 _ k1).mono ?_
   rintro e w2 ⟨rfl,g2⟩
   go_wp2_with fail
   refine (h2 _ (k1.kept g2)).mono ?_
   rintro e w3 ⟨rfl,g3⟩
   have g23:=g2.trans g3
   have t4:=t0.kept g23 (by simp)
   clear t0 g0 g2 g3
   obtain ⟨c0,c1,c2,c3,c4⟩:=t4.cells
   obtain ⟨f0,f1,f2,f3,f4⟩:=t4.free
   go_wp2
   refine bodyPost_ret ((t4.set _ _ _ _ _).ret rfl _ rfl) rfl ?_
   exact ⟨_,_,HN,rfl,(k1.kept g23).kept_other (grown_setAll _ _ _ _ _ _ _) hR,grown_out (g1.trans (grown_but g23 _)) (Nat.le_refl _) (grown_setAll _ _ _ _ _ _ _)⟩
end Go.Proofs.YtagbjmocjaaioaaGreatDoor

/- package tok's reader: one token, whichever it is. -/
set_option maxRecDepth 100000
namespace Go.Proofs.YtagbjmocjaaioaaGreatDoor
open Go Go.RowKit Go.Shelf
theorem store_end {w W:World} {n₀ R:Nat} {raw l':List Int} {a b c d e:Value} (t:Five W w.heap.size a b c d e) (k:At n₀ W R raw l') (hR:R < w.heap.size) (g:w.grownBy W (some R)) (a' b' c' d' e':Value) :
  Five (setAll W w.heap.size a' b' c' d' e') w.heap.size a' b' c' d' e' ∧ At n₀ (setAll W w.heap.size a' b' c' d' e') R raw l' ∧ w.grownBy (setAll W w.heap.size a' b' c' d' e') (some R):=
 ⟨t.set _ _ _ _ _,k.kept_other (grown_setAll _ _ _ _ _ _ _) hR,grown_out g (Nat.le_refl _) (grown_setAll _ _ _ _ _ _ _)⟩
set_option maxHeartbeats 4000000 in
theorem token_any {w:World} {n₀ R:Nat} {raw r:List Int} {c:Int} (h:At n₀ w R raw (c :: r)) (hnc:¬ (c = 47 ∧ see r 0 = 42)) (hT:RTabs R w) :
  Calls Tryz.prog 152 #[.pointer (some ⟨R,0,none⟩)] w fun e w' => ∃ k l',step nvOf (c :: r) = (some k,l') ∧ e = .returned (tkV k) ∧ At n₀ w' R raw l' ∧ w.grownBy w' (some R):=by
 have hR:=h.lt
 have hstep:Hid (step nvOf (c :: r) = _):=rfl
 have e1:see (c :: r) 1 = see r 0:=see_succ _ _ _
 have et:(c :: r).tail = r:=rfl
 unfold step at hstep
 rw [see_zero,e1,et] at hstep
 have HS:Hid (step nvOf (c :: r) = if isWhite c then (some ⟨9,[],0,false,0⟩,(c :: r).dropWhile isWhite)
  else if c = 34 ∨ c = 39 then (some (strTk (str c r).1),(str c r).2)
  else if c = 35 ∧ (namePt (see r 0) || escAt r) = true then (some ⟨3,(name r).1,0,false,0⟩,(name r).2)
  else if begNum (c :: r) then (some (numeric nvOf (c :: r)).1,(numeric nvOf (c :: r)).2)
  else if c = 64 ∧ begName r = true then (some ⟨2,(name r).1,0,false,0⟩,(name r).2)
  else if begName (c :: r) then
   if see (name (c :: r)).2 0 = 40 then (some ⟨20,(name (c :: r)).1,0,false,0⟩,(name (c :: r)).2.tail) else (some ⟨1,(name (c :: r)).1,0,false,0⟩,(name (c :: r)).2)
  else if 0 < sign c then (some ⟨sign c,[],0,false,0⟩,r)
  else (some ⟨10,[],0,false,c⟩,r)):=by
  show _ = _
  unfold step
  rw [see_zero,e1,et,if_neg hnc]
  rfl
 clear hstep e1 hnc
 have t0:=Five.new w (.int .i64 0) (.string ⟨#[]⟩) (.int .i64 0) (.bool false) (.int .i64 0)
 have g0:w.grownBy (w.alloc (.cells #[.int .i64 0,.string ⟨#[]⟩,.int .i64 0,.bool false,.int .i64 0] 108)) none:=World.grownBy_alloc _ _ _
 have h0:=ahead_any 0 (by omega) (h.kept g0)
 rw [see_zero] at h0
 have q1:=isWhite_any c
 have G:∀ w1,w.grownBy w1 none → At n₀ w1 R raw (c :: r) ∧ RTabs R w1:=fun w1 g => ⟨h.kept g,hT.below (below_of_still g R (Nat.le_of_lt hR) (row:=none) rfl)⟩
 clear h hT
 go_enter Tryz.func152,Tryz.ntmps152
 go_wp2_with fail
 refine h0.mono ?_
 clear h0
 rintro e w1 ⟨rfl,g1⟩
 replace t0:=t0.kept g1 (by simp)
 replace g1:=g0.trans g1
 clear g0
 go_wp2_with fail
 refine (q1 _).mono ?_
 clear q1
 rintro e w' ⟨rfl,rfl⟩
 cases hw:isWhite c with
 | true =>
  rw [hw,if_pos rfl] at HS
  have h1:=white_any (G _ g1).1
  generalize (c :: r).dropWhile isWhite = l' at *
  clear hw
  go_wp2_with fail
  refine h1.mono ?_
  rintro e w2 ⟨rfl,k2,g2⟩
  replace t0:=t0.kept g2 (by simp;omega)
  obtain ⟨c0,c1,c2,c3,c4⟩:=t0.cells
  obtain ⟨f0,f1,f2,f3,f4⟩:=t0.free
  go_wp2
  obtain ⟨x1,x2,x3⟩:=store_end t0 k2 hR ((grown_but g1 _).trans g2) (.int .i64 9) (.string ⟨#[]⟩) (.int .i64 0) (.bool false) (.int .i64 0)
  refine bodyPost_ret (x1.ret rfl _ rfl) rfl ?_
  exact ⟨_,_,HS,rfl,x2,x3⟩
 | false =>
  rw [hw,if_neg (by decide)] at HS
  clear hw
  by_cases hq:c = 34 ∨ c = 39
  ·rw [if_pos hq] at HS
   have h1:=quoted_any (G _ g1).1 hq
   generalize (str c r).2 = l' at *
   generalize strTk (str c r).1 = k at *
   unfold tkV at h1
   rcases hq with rfl | rfl
   ·go_wp2_with fail
    refine h1.mono ?_
    clear h1
    rintro e w2 ⟨rfl,k2,g2⟩
    replace t0:=t0.kept g2 (by simp;omega)
    obtain ⟨c0,c1,c2,c3,c4⟩:=t0.cells
    obtain ⟨f0,f1,f2,f3,f4⟩:=t0.free
    go_wp2
    obtain ⟨x1,x2,x3⟩:=store_end t0 k2 hR ((grown_but g1 _).trans g2) (.int .i64 k.kind) (.string (txtOf k.text)) (.int .i64 k.n) (.bool k.whole) (.int .i64 k.c)
    refine bodyPost_ret (x1.ret rfl _ rfl) rfl ?_
    exact ⟨_,_,HS,rfl,x2,x3⟩
   ·go_wp2_with fail
    refine h1.mono ?_
    clear h1
    rintro e w2 ⟨rfl,k2,g2⟩
    replace t0:=t0.kept g2 (by simp;omega)
    obtain ⟨c0,c1,c2,c3,c4⟩:=t0.cells
    obtain ⟨f0,f1,f2,f3,f4⟩:=t0.free
    go_wp2
    obtain ⟨x1,x2,x3⟩:=store_end t0 k2 hR ((grown_but g1 _).trans g2) (.int .i64 k.kind) (.string (txtOf k.text)) (.int .i64 k.n) (.bool k.whole) (.int .i64 k.c)
    refine bodyPost_ret (x1.ret rfl _ rfl) rfl ?_
    exact ⟨_,_,HS,rfl,x2,x3⟩
  ·rw [if_neg hq] at HS
   have hq1:(c == 34) = false:=by simp;omega
   have hq2:(c == 39) = false:=by simp;omega
   have hn1:c ≠ 34:=by omega
   have hn2:c ≠ 39:=by omega
   clear hq
   go_upto_region 6 with fail
   go_cut [20] (fun s20 wx => s20 = .bool (c == 35 && (namePt (see r 0) || escAt r)) ∧ w'.grownBy wx none)
   case first =>
    clear HS
    have h1:=ahead_any 1 (by omega) (G _ g1).1
    rw [see_succ] at h1
    have h2:=isNamePoint_any (see r 0)
    have h3:∀ w2,w'.grownBy w2 none → Calls Tryz.prog 190 #[.pointer (some ⟨R,0,none⟩),.int .i64 1] w2 fun e w' => e = .returned (.bool (escAt r)) ∧ w2.grownBy w' none:=fun w2 g => escapes_any 1 (by omega) (G _ (g1.trans g)).1
    clear G t0
    generalize namePt (see r 0) = a at *
    generalize escAt r = b at *
    generalize see r 0 = d at *
    by_cases h35:c = 35
    ·subst h35
     cases a with
     | true =>
      go_wp2_with fail
      refine h1.mono ?_
      rintro e w2 ⟨rfl,g2⟩
      go_wp2_with fail
      refine (h2 _).mono ?_
      rintro e w' ⟨rfl,rfl⟩
      go_wp2
      go_meet
      exact ⟨rfl,g2⟩
     | false =>
      go_wp2_with fail
      refine h1.mono ?_
      rintro e w2 ⟨rfl,g2⟩
      go_wp2_with fail
      refine (h2 _).mono ?_
      rintro e w' ⟨rfl,rfl⟩
      go_wp2_with fail
      refine (h3 _ g2).mono ?_
      rintro e w3 ⟨rfl,g3⟩
      go_wp2
      go_meet
      exact ⟨rfl,g2.trans g3⟩
    ·have h35':(c == 35) = false:=by simpa using h35
     go_wp2
     go_meet
     exact ⟨by rw [h35'];rfl,World.grownBy.refl _ _⟩
   case rest =>
    obtain ⟨rfl,g2⟩:=hcut
    replace t0:=t0.kept g2 (by simp)
    replace g1:=g1.trans g2
    clear g2
    have hb:(c = 35 ∧ (namePt (see r 0) || escAt r) = true) = ((c == 35 && (namePt (see r 0) || escAt r)) = true):=by simp
    simp only [hb] at HS
    clear hb
    generalize (c == 35 && (namePt (see r 0) || escAt r)) = b20 at *
    cases b20 with
    | true =>
     rw [if_pos rfl] at HS
     have h1:=marked_any 3 (G _ g1).1
     unfold tkV at h1
     generalize (name r).2 = l' at *
     generalize (name r).1 = tt at *
     go_wp2_with fail
     refine h1.mono ?_
     clear h1
     rintro e w2 ⟨rfl,k2,g2⟩
     replace t0:=t0.kept g2 (by simp;omega)
     obtain ⟨c0,c1,c2,c3,c4⟩:=t0.cells
     obtain ⟨f0,f1,f2,f3,f4⟩:=t0.free
     go_wp2
     obtain ⟨x1,x2,x3⟩:=store_end t0 k2 hR ((grown_but g1 _).trans g2) (.int .i64 3) (.string (txtOf tt)) (.int .i64 0) (.bool false) (.int .i64 0)
     refine bodyPost_ret (x1.ret rfl _ rfl) rfl ?_
     exact ⟨_,_,HS,rfl,x2,x3⟩
    | false =>
     rw [if_neg (by decide)] at HS
     have h1:=numberBegins_any (G _ g1).1
     cases hbn:begNum (c :: r) with
     | true =>
      rw [hbn,if_pos rfl] at HS
      have h2:∀ w2,w.grownBy w2 none → _:=fun w2 g => number_any (G w2 g).1 hbn (G w2 g).2.2
      rw [hbn] at h1
      clear hbn
      go_wp2_with fail
      refine h1.mono ?_
      clear h1
      rintro e w2 ⟨rfl,g2⟩
      replace t0:=t0.kept g2 (by simp)
      replace g1:=g1.trans g2
      clear g2
      go_wp2_with fail
      refine (h2 _ g1).mono ?_
      clear h2
      rintro e w3 ⟨k,l',hk,rfl,k2,g2⟩
      rw [hk] at HS
      clear hk
      replace t0:=t0.kept g2 (by simp;omega)
      unfold tkV
      obtain ⟨c0,c1,c2,c3,c4⟩:=t0.cells
      obtain ⟨f0,f1,f2,f3,f4⟩:=t0.free
      go_wp2
      obtain ⟨x1,x2,x3⟩:=store_end t0 k2 hR ((grown_but g1 _).trans g2) (.int .i64 k.kind) (.string (txtOf k.text)) (.int .i64 k.n) (.bool k.whole) (.int .i64 k.c)
      refine bodyPost_ret (x1.ret rfl _ rfl) rfl ?_
      exact ⟨_,_,HS,rfl,x2,x3⟩
     | false =>
      rw [hbn,if_neg (by decide)] at HS
      rw [hbn] at h1
      clear hbn
      go_wp2_with fail
      refine h1.mono ?_
      clear h1
      rintro e w2 ⟨rfl,g2⟩
      replace t0:=t0.kept g2 (by simp)
      replace g1:=g1.trans g2
      clear g2
      go_upto_region 10 with fail
      go_cut [39] (fun s39 wx => s39 = .bool (c == 64 && begName r) ∧ w2.grownBy wx none)
      case first =>
       clear HS t0
       have h1:Calls Tryz.prog 194 #[.pointer (some ⟨R,0,none⟩),.int .i64 1] w2 fun e w' => e = .returned (.bool (begName r)) ∧ w2.grownBy w' none:=nameBegins_any 1 (by omega) (G _ g1).1
       clear G
       generalize begName r = b at *
       by_cases h64:c = 64
       ·subst h64
        go_wp2_with fail
        refine h1.mono ?_
        rintro e w3 ⟨rfl,g3⟩
        go_wp2
        go_meet
        exact ⟨rfl,g3⟩
       ·have h64':(c == 64) = false:=by simpa using h64
        go_wp2
        go_meet
        exact ⟨by rw [h64'];rfl,World.grownBy.refl _ _⟩
      case rest =>
       obtain ⟨rfl,g2⟩:=hcut
       replace t0:=t0.kept g2 (by simp)
       replace g1:=g1.trans g2
       clear g2
       have hb:(c = 64 ∧ begName r = true) = ((c == 64 && begName r) = true):=by simp
       simp only [hb] at HS
       clear hb
       generalize (c == 64 && begName r) = b39 at *
       cases b39 with
       | true =>
        rw [if_pos rfl] at HS
        have h1:=marked_any 2 (G _ g1).1
        unfold tkV at h1
        generalize (name r).2 = l' at *
        generalize (name r).1 = tt at *
        go_wp2_with fail
        refine h1.mono ?_
        clear h1
        rintro e w3 ⟨rfl,k2,g2⟩
        replace t0:=t0.kept g2 (by simp;omega)
        obtain ⟨c0,c1,c2,c3,c4⟩:=t0.cells
        obtain ⟨f0,f1,f2,f3,f4⟩:=t0.free
        go_wp2
        obtain ⟨x1,x2,x3⟩:=store_end t0 k2 hR ((grown_but g1 _).trans g2) (.int .i64 2) (.string (txtOf tt)) (.int .i64 0) (.bool false) (.int .i64 0)
        refine bodyPost_ret (x1.ret rfl _ rfl) rfl ?_
        exact ⟨_,_,HS,rfl,x2,x3⟩
       | false =>
        rw [if_neg (by decide)] at HS
        have h1:∀ w3,w.grownBy w3 none → Calls Tryz.prog 194 #[.pointer (some ⟨R,0,none⟩),.int .i64 0] w3 fun e w' => e = .returned (.bool (begName (c :: r))) ∧ w3.grownBy w' none:=fun w3 g => nameBegins_any 0 (by omega) (G w3 g).1
        cases hbn:begName (c :: r) with
        | true =>
         rw [hbn,if_pos rfl] at HS
         rw [hbn] at h1
         clear hbn
         have h2:=fun w3 (g:w.grownBy w3 none) => named_any (G w3 g).1
         go_wp2_with fail
         refine (h1 _ g1).mono ?_
         clear h1
         rintro e w3 ⟨rfl,g2⟩
         replace t0:=t0.kept g2 (by simp)
         replace g1:=g1.trans g2
         clear g2
         go_wp2_with fail
         refine (h2 _ g1).mono ?_
         clear h2
         rintro e w4 ⟨k,l',hk,rfl,k2,g2⟩
         have HS2:Hid (step nvOf (c :: r) = (some k,l')):=by
          show _ = _
          rw [show step nvOf (c :: r) = _ from HS]
          by_cases h40:see (name (c :: r)).2 0 = 40
          ·rw [if_pos h40] at hk ⊢
           rw [← (Prod.mk.inj hk).1,← (Prod.mk.inj hk).2]
          ·rw [if_neg h40] at hk ⊢
           rw [← (Prod.mk.inj hk).1,← (Prod.mk.inj hk).2]
         clear hk HS
         have HS:=HS2
         clear HS2
         replace t0:=t0.kept g2 (by simp;omega)
         unfold tkV
         obtain ⟨c0,c1,c2,c3,c4⟩:=t0.cells
         obtain ⟨f0,f1,f2,f3,f4⟩:=t0.free
         go_wp2
         obtain ⟨x1,x2,x3⟩:=store_end t0 k2 hR ((grown_but g1 _).trans g2) (.int .i64 k.kind) (.string (txtOf k.text)) (.int .i64 k.n) (.bool k.whole) (.int .i64 k.c)
         refine bodyPost_ret (x1.ret rfl _ rfl) rfl ?_
         exact ⟨_,_,HS,rfl,x2,x3⟩
        | false =>
         rw [hbn,if_neg (by decide)] at HS
         rw [hbn] at h1
         clear hbn
         have h2:=fun w3 (g:w.grownBy w3 none) => single_any (G w3 g).1 (G w3 g).2.1
         have HS2:Hid (step nvOf (c :: r) = (some (if 0 < sign c then ⟨sign c,[],0,false,0⟩ else ⟨10,[],0,false,c⟩),r)):=by
          show _ = _
          rw [show step nvOf (c :: r) = _ from HS]
          split <;> rfl
         clear HS
         have HS:=HS2
         clear HS2
         generalize (if 0 < sign c then (⟨sign c,[],0,false,0⟩:Tk) else ⟨10,[],0,false,c⟩) = k at *
         unfold tkV at h2
         go_wp2_with fail
         refine (h1 _ g1).mono ?_
         clear h1
         rintro e w3 ⟨rfl,g2⟩
         replace t0:=t0.kept g2 (by simp)
         replace g1:=g1.trans g2
         clear g2
         go_wp2_with fail
         refine (h2 _ g1).mono ?_
         clear h2
         rintro e w4 ⟨rfl,k2,g2⟩
         replace t0:=t0.kept g2 (by simp;omega)
         obtain ⟨c0,c1,c2,c3,c4⟩:=t0.cells
         obtain ⟨f0,f1,f2,f3,f4⟩:=t0.free
         go_wp2
         obtain ⟨x1,x2,x3⟩:=store_end t0 k2 hR ((grown_but g1 _).trans g2) (.int .i64 k.kind) (.string (txtOf k.text)) (.int .i64 k.n) (.bool k.whole) (.int .i64 k.c)
         refine bodyPost_ret (x1.ret rfl _ rfl) rfl ?_
         exact ⟨_,_,HS,rfl,x2,x3⟩
end Go.Proofs.YtagbjmocjaaioaaGreatDoor

/- The iterator tok.tokens, at every slice of code points: it tells the tokens, one by one, and keeps a reader in memory. -/
set_option maxRecDepth 100000
namespace Go.Proofs.YtagbjmocjaaioaaGreatDoor
open Go Go.RowKit Go.Shelf
attribute [local go_sem] Oper.semAt_some
theorem At.keeps {n₀ R:Nat} {X Y:World} {raw l:List Int} (h:At n₀ X R raw l) (hk:KeepsIn n₀ R (R + 1) X Y):At n₀ Y R raw l:=by
 obtain ⟨v,a,hr,e⟩:=h
 exact ⟨v,a,⟨(hk.own R (Nat.le_refl _) (by omega)).trans hr.pair,hr.ints.below hk.below,hr.low,hr.least,hr.most⟩,e⟩
set_option maxHeartbeats 2000000 in
theorem tokens1_in (n l Bb n₀:Nat) (v:Value) (raw:List Int) (J:List Tk → World → Prop) (W:World) (hn₀:n₀ ≤ W.heap.size)
  (hJ:AbidesIn W.heap.size (W.heap.size + 1) J)
  (hY:∀ pre x W1,J pre W1 → pre.length < (toks nvOf (raw.map fixC)).length → W.heap.size + 1 ≤ W1.heap.size → YieldAt Fence.wide (n - 1) Tryz.prog l #[tkV x] W1 fun e W' => e = .returned (.bool true) ∧ J (pre ++ [x]) W' ∧ KeepsIn n₀ W.heap.size (W.heap.size + 1) W1 W')
  (hc:W.cell? ⟨Bb,0,none⟩ = some v) (hI:IntsAt n₀ W v raw) (hlen:raw.length ≤ 1000000) (hT:RTabs n₀ W) (h0:J [] W) :
  CallsIn Fence.wide n Tryz.prog 149 #[.func (.yield l) #[] #[],.pointer (some ⟨Bb,0,none⟩)] W fun e W' => (∃ v,e = .returned v) ∧ ∃ ys,ys = toks nvOf (raw.map fixC) ∧ J ys W':=by
 obtain ⟨p,cap,rfl⟩:=hI.len
 have hp0:Pair (W.alloc (.cells #[.slice p raw.length cap,.int .i64 0] 207)) W.heap.size 207 (.slice p raw.length cap) (.int .i64 ((0:Nat):Int)):=heap_alloc_new W _
 have g0:W.grownBy (W.alloc (.cells #[.slice p raw.length cap,.int .i64 0] 207)) none:=World.grownBy_alloc _ _ _
 have k0:At n₀ (W.alloc (.cells #[.slice p raw.length cap,.int .i64 0] 207)) W.heap.size raw (raw.map fixC):=⟨_,0,⟨hp0,hI.below (below_of_still g0 n₀ hn₀ (row:=none) rfl),hn₀,Nat.zero_le _,hlen⟩,rfl⟩
 have hJ0:J [] (W.alloc (.cells #[.slice p raw.length cap,.int .i64 0] 207)):=hJ.alloc _ h0
 have B0:Below n₀ W (W.alloc (.cells #[.slice p raw.length cap,.int .i64 0] 207)):=below_of_still g0 n₀ hn₀ (row:=none) rfl
 have h1:=passComments_any k0
 refine callsIn_of_wp Tryz.func149 rfl trivial ?_ rfl
 simp only [Tryz.ntmps149,List.size_toArray,List.length_cons,List.length_nil,Nat.reduceAdd,Nat.reduceSub,Array.replicate_succ,Array.replicate_zero,List.push_toArray,List.append_toArray,List.nil_append,List.cons_append]
 gi_wp2_with fail
 refine ⟨trivial,fun h => (by cases h),?_⟩
 generalize W.alloc (.cells #[.slice p raw.length cap,.int .i64 0] 207) = w0 at *
 refine (callsIn_wide.2 h1).mono ?_
 clear h1
 rintro e w1 ⟨rfl,l1,k1,e1,hn1,hl1,g1⟩
 have own:∀ r:Nat,some W.heap.size = some r → W.heap.size ≤ r ∧ r < W.heap.size + 1:=fun r e => by cases e;omega
 have hJ1:J [] w1:=hJ _ w0 w1 _ hJ0 g1 own
 have hR0:=k0.lt
 have B1:Below n₀ W w1:=B0.trans ((below_of_grown g1 (Nat.le_of_lt hR0)).mono hn₀)
 have e1':toks nvOf (raw.map fixC) = [] ++ toks nvOf l1:=(e1 nvOf).symm
 clear k0 hJ0 B0 hp0 g0 g1 e1 hl1 hc hI h0
 gi_wp2
 gi_loopw [] (fun wr => ∃ (l':List Int) (pre:List Tk),At n₀ wr W.heap.size raw l' ∧ Hid (toks nvOf (raw.map fixC) = pre ++ toks nvOf l') ∧ Hid (¬ (see l' 0 = 47 ∧ see l' 1 = 42)) ∧ J pre wr ∧ Below n₀ W wr) (fun wr => lenOf raw wr W.heap.size)
 case atStart => exact ⟨l1,[],k1,e1',hn1,hJ1,B1⟩
 case round =>
  clear k1 e1' hn1 hJ1 B1
  obtain ⟨l',pre,k',HE,HN,hJs,B'⟩:=hrel
  have hm:=k'.lenOf
  have h1:=ahead_any 0 (by omega) k'
  cases l' with
  | nil =>
   rw [see_nil] at h1
   gi_wp2_with fail
   refine ⟨trivial,fun h => (by cases h),?_⟩
   refine (callsIn_wide.2 h1).mono ?_
   rintro e w2 ⟨rfl,g2⟩
   have hJ2:J pre w2:=hJ _ wr w2 none hJs g2 (fun _ e => by cases e)
   gi_wp2
   go_end0
   exact ⟨⟨_,rfl⟩,pre,by rw [show toks nvOf (raw.map fixC) = _ from HE,toks_nil,List.append_nil],hJ2⟩
  | cons c r =>
   rw [see_zero] at h1
   have hc0:(c != -1) = true:=by
    have:=k'.mem (List.mem_cons_self ..)
    simp
    omega
   have hnc:¬ (c = 47 ∧ see r 0 = 42):=by
    have:=show ¬ _ from HN
    rwa [see_zero,see_succ] at this
   have hT':RTabs n₀ wr:=hT.below B'
   have hlen':pre.length < (toks nvOf (raw.map fixC)).length:=by
    obtain ⟨k,hk⟩:=step_some nvOf (l:=c :: r) (show ¬ _ from HN)
    rw [show toks nvOf (raw.map fixC) = _ from HE,toks_cons,hk]
    simp
   gi_wp2_with fail
   refine ⟨trivial,fun h => (by cases h),?_⟩
   refine (callsIn_wide.2 h1).mono ?_
   clear h1
   rintro e w2 ⟨rfl,g2⟩
   have hJ2:J pre w2:=hJ _ wr w2 none hJs g2 (fun _ e => by cases e)
   have k2:=k'.kept g2
   have hR2:=k2.lt
   have hwr:=k'.lt
   have B2:Below n₀ W w2:=B'.trans (below_of_still g2 n₀ (by omega) (row:=none) rfl)
   have h3:=token_any k2 hnc ((hT.below B2).mono hn₀)
   clear k' hJs B' g2 hT'
   gi_wp2_with fail
   refine ⟨trivial,fun h => (by cases h),?_⟩
   refine (callsIn_wide.2 h3).mono ?_
   clear h3
   rintro e w3 ⟨k,l3,hk,rfl,k3,g3⟩
   have hJ3:J pre w3:=hJ _ w2 w3 _ hJ2 g3 own
   have hR3:=k3.lt
   have B3:Below n₀ W w3:=B2.trans ((below_of_grown g3 (Nat.le_of_lt hR2)).mono hn₀)
   clear hJ2 B2 k2 g3
   obtain ⟨fn,tmps,assign,body,hy,hR⟩:=hY pre k w3 hJ3 hlen' (by omega)
   generalize hkv:tkV k = kv at *
   gi_wp2_with fail
   refine ⟨fun h => (by cases h),hR.mono ?_⟩
   rintro e w4 ⟨rfl,hJ4,hk4⟩
   have k4:=k3.keeps hk4
   have hR4:=k4.lt
   have B4:Below n₀ W w4:=B3.trans hk4.below
   have h5:=passComments_any k4
   gi_wp2_with fail
   refine ⟨trivial,fun h => (by cases h),?_⟩
   refine (callsIn_wide.2 h5).mono ?_
   clear h5
   rintro e w5 ⟨rfl,l5,k5,e5,hn5,hl5,g5⟩
   have hJ5:J (pre ++ [k]) w5:=hJ _ w4 w5 _ hJ4 g5 own
   have B5:Below n₀ W w5:=B4.trans ((below_of_grown g5 (Nat.le_of_lt hR4)).mono hn₀)
   have hm5:=k5.lenOf
   have hsl:=step_len nvOf c r
   rw [hk] at hsl
   have HE5:Hid (toks nvOf (raw.map fixC) = (pre ++ [k]) ++ toks nvOf l5):=by
    show _ = _
    rw [show toks nvOf (raw.map fixC) = _ from HE,toks_cons,hk,e5]
    simp
   clear hk e5
   gi_wp2
   go_roundw
   case rel => exact ⟨l5,pre ++ [k],k5,HE5,hn5,hJ5,B5⟩
   case measure => rw [hm,hm5];simp only [List.length_cons];omega
theorem tokens_in (n:Nat) (v:Value) (w:World) (hv:v.oneCell' = true) :
  CallsIn Fence.wide n Tryz.prog 111 #[v] w fun e w' => e = .returned (.func (.func 149) #[] #[.pointer (some ⟨w.heap.size,0,none⟩)]) ∧ w' = w.alloc (.cells #[v] 58):=by
 refine callsIn_of_wp Tryz.func111 rfl trivial ?_ rfl
 simp only [Tryz.ntmps111,List.size_toArray,List.length_cons,List.length_nil,Nat.reduceAdd,Nat.reduceSub,Array.replicate_succ,Array.replicate_zero,List.push_toArray,List.append_toArray,List.nil_append,List.cons_append]
 gi_wp2
 go_ret
 exact ⟨rfl,rfl⟩
theorem tokens_seq (n Bb n₀:Nat) (v:Value) (raw:List Int) (w:World) (hBb:Bb < w.heap.size) (hn₀:n₀ ≤ w.heap.size)
  (hc:w.cell? ⟨Bb,0,none⟩ = some v) (hI:IntsAt n₀ w v raw) (hlen:raw.length ≤ 1000000) (hT:RTabs n₀ w) :
  SeqX Fence.wide n Tryz.prog 149 #[.pointer (some ⟨Bb,0,none⟩)] (fun x:Tk => #[tkV x]) n₀ (fun ys => ys = toks nvOf (raw.map fixC)) (toks nvOf (raw.map fixC)).length 1 w:=fun l J W hW hJ hY h0 =>
 tokens1_in n l Bb n₀ v raw J W (Nat.le_trans hn₀ hW.size) hJ (fun pre x W1 h1 h2 h3 => hY pre x W1 h1 h2 h3)
  ((hW.cell (p:=⟨Bb,0,none⟩) hBb).trans hc) (hI.below (hW.mono hn₀)) hlen (hT.below (hW.mono hn₀)) h0
end Go.Proofs.YtagbjmocjaaioaaGreatDoor

/- tok.Tokens at every slice of code points that is not too long. -/
set_option maxRecDepth 100000
namespace Go.Proofs.YtagbjmocjaaioaaGreatDoor
open Go Go.RowKit Go.Shelf
attribute [local go_sem] Oper.semAt_some
def tkCells (t:Tk):List Value:=[.int .i64 t.kind,.string (txtOf t.text),.int .i64 t.n,.bool t.whole,.int .i64 t.c]
def tksCells (l:List Tk):List Value:=l.flatMap tkCells
theorem tksCells_snoc (l:List Tk) (x:Tk):tksCells (l ++ [x]) = tksCells l ++ tkCells x:=by simp [tksCells]
theorem tkV_eq (x:Tk):tkV x = .agg (tkCells x).toArray:=rfl
theorem egToks:∀ args w,(callFunc 149 args).run Tryz.prog w = .ok (.enter 149 args) w:=enters_of Tryz.func149 (by kernel_rfl) rfl
theorem infoTk:(Tryz.prog.info? 108).map (fun i => (i.zero,i.size,i.bytes)) = some (some (.agg #[.int .i64 0,.string ⟨#[]⟩,.int .i64 0,.bool false,.int .i64 0]),5,48):=by kernel_rfl
theorem owns_form {X:World} {b:Nat} {e:TypeId} {size:Nat} {v:Value} {m:Nat} {xs:List Value} (h:X.ownsRow b e size v m xs):∃ q k c,v = .slice q k c:=by
 rcases h.2 with ⟨rfl,_⟩ | ⟨g,cap,cur,rfl,_⟩
 ·exact ⟨_,_,_,rfl⟩
 ·exact ⟨_,_,_,rfl⟩
theorem far_row {X:World} {b lo hi:Nat} {e:TypeId} {size:Nat} {v:Value} {m:Nat} {xs:List Value} {row:Option Nat} (h:X.ownsRow b e size v m xs) (hr:∀ r,row = some r → lo ≤ r ∧ r < hi) (hb:hi ≤ b):v.ownBlock = none ∨ v.ownBlock ≠ row:=by
 cases hv:v.ownBlock with
 | none => exact .inl rfl
 | some j =>
  refine .inr (fun e => ?_)
  have:=(h.lt j hv).1
  have:=hr j e.symm
  omega
set_option maxHeartbeats 2000000 in
theorem tokens_all (n:Nat) (hn:1 ≤ n) (v:Value) (raw:List Int) (w:World) (hI:IntsAt w.heap.size w v raw) (hlen:raw.length ≤ 1000000) (hT:RTabs w.heap.size w) :
  CallsIn Fence.wide n Tryz.prog 66 #[v] w fun e w' => ∃ v',e = .returned v' ∧ w'.ownsRow w.heap.size 108 5 v' (toks nvOf (raw.map fixC)).length (tksCells (toks nvOf (raw.map fixC))) ∧ Below w.heap.size w w':=by
 obtain ⟨i0,hi,hz0,hz1,hz2⟩:=info_parts infoTk
 obtain ⟨p,cap,rfl⟩:=hI.len
 have hb1:Below w.heap.size w (w.alloc (.cells #[.slice none 0 0] 70)):=(Below.refl _ w).alloc (Nat.le_refl _) _
 have bO:=Boxed.new w 70 (.slice none 0 0)
 have hs1:(w.alloc (.cells #[.slice none 0 0] 70)).heap.size = w.heap.size + 1:=by simp
 refine callsIn_of_wp_marks Tryz.func66 rfl trivial ?_ rfl
 simp only [Tryz.ntmps66,List.size_toArray,List.length_cons,List.length_nil,Nat.reduceAdd,Nat.reduceSub,Array.replicate_succ,Array.replicate_zero,List.push_toArray,List.append_toArray,List.nil_append,List.cons_append]
 gi_wp2_with fail
 refine ⟨trivial,?_⟩
 generalize w.alloc (.cells #[.slice none 0 0] 70) = w1 at *
 refine (tokens_in _ (.slice p raw.length cap) w1 rfl).mono ?_
 rintro e w2 ⟨rfl,rfl⟩
 have hb2:Below w1.heap.size w1 (w1.alloc (.cells #[.slice p raw.length cap] 58)):=(Below.refl _ w1).alloc (Nat.le_refl _) _
 have hs2:(w1.alloc (.cells #[.slice p raw.length cap] 58)).heap.size = w.heap.size + 2:=by rw [World.size_alloc,hs1]
 have bL:=Boxed.new w1 58 (.slice p raw.length cap)
 have hbb:Below w.heap.size w (w1.alloc (.cells #[.slice p raw.length cap] 58)):=hb1.trans (hb2.mono (by omega))
 have hseq:=tokens_seq (n - 1) w1.heap.size w.heap.size (.slice p raw.length cap) raw _ (by omega) (by omega) bL.cell (hI.below hbb) hlen (hT.below hbb)
 replace bO:=bO.alloc (.cells #[.slice p raw.length cap] 58)
 have htl:(toks nvOf (raw.map fixC)).length ≤ 1000000:=by
  have:=toks_le nvOf (raw.map fixC)
  rw [List.length_map] at this
  omega
 rw [hs1] at hseq
 clear hb1 hb2 bL
 generalize w1.alloc (.cells #[.slice p raw.length cap] 58) = w2 at *
 gi_wp2_with fail
 refine wpIn_rangeFunc_Y rfl hn (gf:=149) (lb:=#[.pointer (some ⟨w.heap.size + 1,0,none⟩)]) rfl trivial egToks hseq (by omega) (Below.refl _ _) (fun _ => rfl)
  (fun pre X => ∃ v',Boxed X w.heap.size 70 v' ∧ X.ownsRow (w.heap.size + 5) 108 5 v' pre.length (tksCells pre) ∧ Below w.heap.size w X)
  ?hI ⟨_,bO,World.ownsRow_nil _ _ _ _,hbb⟩
  (fun x => .cells (tkCells x).toArray 108)
  (fun x b => { tmps:=#[.slice p raw.length cap,undef,.slice none 0 0,.pointer (some ⟨w.heap.size,0,none⟩),.pointer (some ⟨b,0,none⟩),.slice p raw.length cap,.func (.func 149) #[] #[.pointer (some ⟨w.heap.size + 1,0,none⟩)],tkV x,undef,undef,undef,undef,undef],defers:=[] }) ?assign ?body ?done
 case hI =>
  rintro s X Y row ⟨v',h1,h2,h3⟩ hg hr
  exact ⟨v',h1.kept hg (fun e => by have:=hr _ e.symm;omega),h2.kept hg (far_row h2 hr (by omega)),h3.grown hg h3.size (fun r e => by have:=hr r e;omega)⟩
 case assign =>
  intro l x X K hK
  simp only [tkV_eq,tkCells] at hK ⊢
  gi_wp2
  exact hK
 case body =>
  rintro l' pre x b X ⟨v',hb,hr,hB⟩ hlt hlb hbX hnew
  have hcb:=hb.cell
  have hfv:Five X b (.int .i64 x.kind) (.string (txtOf x.text)) (.int .i64 x.n) (.bool x.whole) (.int .i64 x.c):=hnew
  obtain ⟨c0,c1,c2,c3,c4⟩:=hfv.cells
  have hBs:=hB.size
  clear hfv hnew
  gi_wp2_with (gi_at_builtin;refine wpListIn_append_own _ rfl _ _ 70 rfl (w.heap.size + 5) 108 i0 (.agg #[.int .i64 0,.string ⟨#[]⟩,.int .i64 0,.bool false,.int .i64 0]) 5 48 Tryz.underlying70 hi hz0 hz1 hz2 rfl (by decide) _ _ _ rfl (hr.alloc _) ⟨X.heap.size,0,none⟩ 1 1 (tkCells x) rfl rfl (cells_new _ (tkCells x) _) (fun u hu => by simp [tkCells] at hu;rcases hu with rfl | rfl | rfl | rfl | rfl <;> rfl) (by unfold maxLen;omega) (by omega) (by simp;omega) ?_;intro v2 w3 hown3 hgrow3 hnil3;obtain ⟨q2,m2,k2,rfl⟩:=owns_form hown3;obtain ⟨hv1,hv2,_,hk2,hb2⟩:=hb.appended (by decide) (owns_base hr (Nat.le_add_right _ 5)) (by omega) (Nat.le_refl _) (owns_base hown3 (Nat.le_add_right _ 5)) hgrow3;have hc3:=hv1.cell;have hf3:=hv1.frozen)
  have hl:(pre ++ [x]).length = pre.length + 1:=by simp
  have hr2:=hown3.kept (grownBy_setCell' w3 w.heap.size (.slice q2 m2 k2)) (.inr (fun e => by have:=(hown3.lt _ e).1;omega))
  refine ⟨⟨hb2,fun r h1 h2 => ?_⟩,_,hv2,by rw [hl,tksCells_snoc];exact hr2,hB.trans hb2⟩
  have e1:=(grownBy_setCell' w3 w.heap.size (.slice q2 m2 k2)).block r (Nat.lt_of_lt_of_le (by simp;omega) hgrow3.size) (by simp;omega)
  have e2:=hgrow3.block r (by simp;omega) (fun e => by have:=(hr.lt _ e.symm).1;omega)
  exact e1.trans (e2.trans (Below.heap_alloc _ _ _ (by omega)))
 case done =>
  rintro ys X rfl ⟨v',hb,hr,hB⟩ hK
  have hcb:=hb.cell
  gi_wp2
  refine ⟨by simp,.inl ⟨_,_,rfl,run_takeDeferred hK,?_⟩⟩
  exact ⟨_,results_tmp rfl _ _ _,_,rfl,owns_base (ownsRow_putObj hr _ hK rfl) (by omega),hB.trans (belowK_b (w:=w) (Nat.le_refl _) X w2.heap.size _ _ (by omega) hK rfl rfl)⟩
theorem tokens_any (v:Value) (raw:List Int) (w:World) (hI:IntsAt w.heap.size w v raw) (hlen:raw.length ≤ 1000000) (hT:RTabs w.heap.size w) :
  Calls Tryz.prog 66 #[v] w fun e w' => ∃ v',e = .returned v' ∧ w'.ownsRow w.heap.size 108 5 v' (toks nvOf (raw.map fixC)).length (tksCells (toks nvOf (raw.map fixC))) ∧ Below w.heap.size w w':=
 callsIn_wide.1 (tokens_all 2 (by omega) v raw w hI hlen hT)
end Go.Proofs.YtagbjmocjaaioaaGreatDoor

/- Slices of tokens in memory; the laws' own SameTokens at two slices of one list; the laws' own Of at every slice of bytes. -/
namespace Go.Proofs.YtagbjmocjaaioaaGreatDoor
open Go Go.RowKit Go.Shelf
def CellsAt (W:World) (bk o:Nat) (t:Tk):Prop:=
 W.cell? ⟨bk,o,none⟩ = some (.int .i64 t.kind) ∧ W.cell? ⟨bk,o + 1,none⟩ = some (.string (txtOf t.text)) ∧ W.cell? ⟨bk,o + 2,none⟩ = some (.int .i64 t.n) ∧ W.cell? ⟨bk,o + 3,none⟩ = some (.bool t.whole) ∧ W.cell? ⟨bk,o + 4,none⟩ = some (.int .i64 t.c)
def TksAt (n₀:Nat) (W:World) (v:Value) (ts:List Tk):Prop:=
 (ts = [] ∧ ∃ p cap,v = .slice p 0 cap) ∨ ∃ bk off cap,v = .slice (some ⟨bk,off,none⟩) ts.length cap ∧ bk < n₀ ∧ ∀ j t,ts[j]? = some t → CellsAt W bk (off + j * 5) t
theorem TksAt.below {n₀:Nat} {X Y:World} {v:Value} {l:List Tk} (h:TksAt n₀ X v l) (hb:Below n₀ X Y):TksAt n₀ Y v l:=by
 rcases h with h | ⟨bk,off,cap,rfl,hbk,h⟩
 ·exact .inl h
 ·refine .inr ⟨bk,off,cap,rfl,hbk,fun j t hj => ?_⟩
  obtain ⟨h0,h1,h2,h3,h4⟩:=h j t hj
  exact ⟨(hb.cell (p:=⟨bk,_,none⟩) hbk).trans h0,(hb.cell (p:=⟨bk,_,none⟩) hbk).trans h1,(hb.cell (p:=⟨bk,_,none⟩) hbk).trans h2,(hb.cell (p:=⟨bk,_,none⟩) hbk).trans h3,(hb.cell (p:=⟨bk,_,none⟩) hbk).trans h4⟩
theorem TksAt.mono {n₀ n₁:Nat} {X:World} {v:Value} {l:List Tk} (h:TksAt n₀ X v l) (hn:n₀ ≤ n₁):TksAt n₁ X v l:=by
 rcases h with h | ⟨bk,off,cap,rfl,hbk,h⟩
 ·exact .inl h
 ·exact .inr ⟨bk,off,cap,rfl,by omega,h⟩
/-! ### the laws' own Of -/
def LTabs (n₀:Nat) (W:World):Prop:=Tabs n₀ W ∧ RTabs n₀ W
theorem LTabs.below {n₀:Nat} {X Y:World} (h:LTabs n₀ X) (hb:Below n₀ X Y):LTabs n₀ Y:=⟨h.1.below hb,h.2.below hb⟩
theorem LTabs.mono {n₀ n₁:Nat} {X:World} (h:LTabs n₀ X) (hn:n₀ ≤ n₁):LTabs n₁ X:=⟨h.1.mono hn,h.2.mono hn⟩
theorem LTabs.next {X Y:World} (h:LTabs X.heap.size X) (hb:Below X.heap.size X Y):LTabs Y.heap.size Y:=(h.below hb).mono hb.size
theorem prep_fixed (bs:List UInt8):(prep (ipts bs)).map fixC = prep (ipts bs):=map_fixC_same _ (fun p hp => (prepared_clean bs p hp).2.2.2)
theorem bytes_new (w:World) (l:List UInt8) (t:TypeId) (fz:Nat × Nat) (hl:l.length ≤ 1000000):BytesAt (w.heap.size + 1) (w.alloc (.cells (ubytes l).toArray t fz)) (.slice (some ⟨w.heap.size,0,none⟩) l.length l.length) l:=
 .inr ⟨w.heap.size,0,l.length,rfl,Nat.le_refl _,by unfold maxLen;omega,by omega,fun j u hj => by
  rw [cell_of_block (World.alloc_heap_new w _) _,Nat.zero_add]
  unfold ubytes
  simp [hj]⟩
end Go.Proofs.YtagbjmocjaaioaaGreatDoor

/- package match: conditions of attributes. -/
import Derived.Test.YtagbjmocjaaioaaGreatDoorMtAttr
import Derived.Test.YtagbjmocjaaioaaGreatDoorMtWord
import Derived.Test.YtagbjmocjaaioaaGreatDoorShelf
import Derived.Test.YtagbjmocjaaioaaGreatDoorRgn
set_option maxRecDepth 100000
namespace Go.Proofs.YtagbjmocjaaioaaGreatDoor.Mt
open Go.Proofs.YtagbjmocjaaioaaGreatDoor.Tre
open Go Go.RowKit Go.Shelf Dm
/-! ### plain facts -/
theorem btsInj {a b:ByteArray}:bts a = bts b ↔ a = b:=⟨fun h => ByteArray.ext (Array.toList_inj.1 h),fun h => by rw [h]⟩
theorem btsNil {a:ByteArray}:bts a = [] ↔ a = ⟨#[]⟩:=by
 rw [show ([]:List UInt8) = bts ⟨#[]⟩ from rfl]
 exact btsInj
theorem beqDec (a b:ByteArray):(a.toList == b.toList) = decide (a = b):=by
 by_cases h:a = b
 ·rw [decide_eq_true h,h];simp
 ·rw [decide_eq_false h,beq_false h]
theorem emptyNo {a:ByteArray} (h:a ≠ ⟨#[]⟩):a.toList.isEmpty = false:=by
 have:=eqlEmpty a
 rw [decide_eq_false h] at this
 cases e:a.toList with
 | nil => rw [e] at this;cases this
 | cons _ _ => rfl
theorem contains_infix (t:List UInt8) (ht:t ≠ []):∀ s:List UInt8,Lib.contains s t = infixV t s
 | [] => by
  unfold Lib.contains Lib.index infixV
  cases t with
  | nil => exact absurd rfl ht
  | cons c l => rfl
 | c :: l => by
  have ih:=contains_infix t ht l
  unfold Lib.contains Lib.index infixV
  cases hp:t.isPrefixOf (c :: l) with
  | true => rfl
  | false =>
   rw [Bool.false_or,← ih]
   unfold Lib.contains
   have hg:=Lib.index_ge l t
   by_cases h:Lib.index l t = -1
   ·rw [h];rfl
   ·have hb:(Lib.index l t == -1) = false:=by rw [beq_eq_false_iff_ne];exact h
    rw [if_neg (by decide),hb]
    simp only [Bool.false_eq_true,if_false]
    rw [decide_eq_decide]
    omega
theorem dash_no {s t:List UInt8} (h:Lib.hasPrefix s t = false):dashV s t = false:=by
 unfold dashV Lib.hasPrefix at *
 rw [Bool.or_eq_false_iff]
 constructor
 ·rw [decide_eq_false_iff_not]
  rintro rfl
  rw [Bool.eq_false_iff] at h
  exact h (List.isPrefixOf_iff_prefix.2 (List.prefix_refl _))
 ·rw [Bool.eq_false_iff] at h ⊢
  intro hp
  exact h (List.isPrefixOf_iff_prefix.2 ((List.prefix_append t [45]).trans (List.isPrefixOf_iff_prefix.1 hp)))
theorem dash_nil {s t:List UInt8} (h:Lib.hasPrefix s t = true) (hr:Lib.trimPrefix s t = []):dashV s t = true:=by
 unfold Lib.trimPrefix at hr
 rw [if_pos h] at hr
 obtain ⟨r,rfl⟩:=List.isPrefixOf_iff_prefix.1 h
 rw [List.drop_left] at hr
 subst hr
 unfold dashV
 simp
theorem dash_cons {s t l:List UInt8} {c:UInt8} (h:Lib.hasPrefix s t = true) (hr:Lib.trimPrefix s t = c :: l):dashV s t = (c == 45):=by
 unfold Lib.trimPrefix at hr
 rw [if_pos h] at hr
 obtain ⟨r,rfl⟩:=List.isPrefixOf_iff_prefix.1 h
 rw [List.drop_left] at hr
 subst hr
 unfold dashV
 rw [decide_eq_false (by intro e;have:=congrArg List.length e;simp at this),Bool.false_or,Bool.eq_iff_iff,List.isPrefixOf_iff_prefix,List.prefix_append_right_inj,beq_iff_eq]
 constructor
 ·rintro ⟨x,hx⟩
  simp at hx
  exact hx.1.symm
 ·rintro rfl
  exact ⟨l,rfl⟩
theorem contains_words {F:List ByteArray} {s t:ByteArray} (h:F.map bts = wordsV [] (bts s)):F.any (fun x => decide (x = t)) = (wordsV [] (bts s)).contains (bts t):=by
 rw [← h,Bool.eq_iff_iff,List.any_eq_true,List.contains_iff_mem,List.mem_map]
 constructor
 ·rintro ⟨x,hx,e⟩
  exact ⟨x,hx,by rw [of_decide_eq_true e]⟩
 ·rintro ⟨x,hx,e⟩
  exact ⟨x,hx,decide_eq_true (btsInj.1 e)⟩
theorem strs_owns {b:Nat} {W:World} {v:Value} {F:List ByteArray} (h:W.ownsRow b 9 1 v F.length (F.map Value.string)):StrsAt W.heap.size W v F:=SlAt.of_owns (f:=stCells) (e:=9) (b:=b) (fun _ => rfl) (by rw [flat_st];exact h)
theorem byte45 (c:UInt8):((c.toNat:Int) == 45) = (c == 45):=by
 rw [Bool.eq_iff_iff,beq_iff_eq,beq_iff_eq]
 constructor
 ·intro h
  exact UInt8.toNat_inj.1 (show c.toNat = (45:UInt8).toNat from by show c.toNat = 45;omega)
 ·rintro rfl
  rfl
/-! ### white -/
set_option maxHeartbeats 2000000 in
theorem white_any (x:Nat) (w:World):Calls Tryz.prog 349 #[.int .i32 x] w fun e w' => e = .returned (.bool (whiteR x)) ∧ w' = w:=by
 by_cases h9:x = 9
 ·subst h9
  go_enter Tryz.func349,Tryz.ntmps349
  go_wp2
  go_ret
  exact ⟨rfl,rfl⟩
 by_cases h10:x = 10
 ·subst h10
  go_enter Tryz.func349,Tryz.ntmps349
  go_wp2
  go_ret
  exact ⟨rfl,rfl⟩
 by_cases h12:x = 12
 ·subst h12
  go_enter Tryz.func349,Tryz.ntmps349
  go_wp2
  go_ret
  exact ⟨rfl,rfl⟩
 by_cases h13:x = 13
 ·subst h13
  go_enter Tryz.func349,Tryz.ntmps349
  go_wp2
  go_ret
  exact ⟨rfl,rfl⟩
 by_cases h32:x = 32
 ·subst h32
  go_enter Tryz.func349,Tryz.ntmps349
  go_wp2
  go_ret
  exact ⟨rfl,rfl⟩
 have FIN:whiteR x = false:=by unfold whiteR;simp [h9,h10,h12,h13,h32]
 rw [FIN]
 have p9:((x:Int) == 9) = false:=by rw [beq_eq_false_iff_ne];omega
 have p10:((x:Int) == 10) = false:=by rw [beq_eq_false_iff_ne];omega
 have p12:((x:Int) == 12) = false:=by rw [beq_eq_false_iff_ne];omega
 have p13:((x:Int) == 13) = false:=by rw [beq_eq_false_iff_ne];omega
 have p32:((x:Int) == 32) = false:=by rw [beq_eq_false_iff_ne];omega
 clear h9 h10 h12 h13 h32 FIN
 go_enter Tryz.func349,Tryz.ntmps349
 go_wp2
 go_ret
 exact ⟨rfl,rfl⟩
theorem white_pred (w:World):PredAtRunes Tryz.prog 349 #[] whiteR w:=fun W x _ _ => (white_any x W).mono (fun _ _ h => ⟨h.1,0,by rw [h.2];rfl⟩)
def ML (W:World):Prop:=∃ m:Int,W.cell? ⟨6,0,none⟩ = some (.int .i64 m)
theorem ML.next {W X:World} (h:ML W) (hb:Below W.heap.size W X):ML X:=by
 obtain ⟨m,hm⟩:=h
 exact ⟨m,(hb.cell (p:=⟨6,0,none⟩) (World.block_lt_of_cell? W ⟨6,0,none⟩ hm)).trans hm⟩
/-! ### isText -/
set_option maxHeartbeats 8000000 in
theorem isText_any (s nm:ByteArray) (op:Int) (t:ByteArray) (w:World) (hs:s.size < 4294967281) (hM:ML w) :
  Calls Tryz.prog 334 #[.string s,.agg #[.string nm,.int .i64 op,.string t]] w fun r w' => r = .returned (.bool (textV s (.mk nm op t))) ∧ Below w.heap.size w w':=by
 obtain ⟨w1,hw1⟩:∃ w1,w.alloc (.cells #[.string nm,.int .i64 op,.string t] 231) = w1:=⟨_,rfl⟩
 have BW:Below w.heap.size w w1:=by rw [← hw1];exact (Below.refl _ _).alloc (Nat.le_refl _) _
 have k1:Blk w1 w.heap.size 231 [.string nm,.int .i64 op,.string t]:=by rw [← hw1];exact Blk.new w 231 _
 obtain ⟨⟨a0,a1,a2⟩,_⟩:=blk3 k1
 obtain ⟨m,hm⟩:=hM.next BW
 obtain ⟨V,hV⟩:∃ V,textV s (.mk nm op t) = V:=⟨_,rfl⟩
 rw [hV]
 have HVp:Hid (V = textV s (.mk nm op t)):=hV.symm
 have KA:Hid (Blk w1 w.heap.size 231 [.string nm,.int .i64 op,.string t]):=k1
 clear hV k1 a0 hM
 by_cases o0:op = 0
 ·obtain rfl:V = true:=by rw [HVp.out,o0];rfl
  subst o0
  clear HVp hm
  go_enter Tryz.func334,Tryz.ntmps334
  go_wp2
  go_ret
  exact ⟨rfl,BW⟩
 by_cases o1:op = 1
 ·obtain rfl:V = (s.toList == t.toList):=by rw [HVp.out,o1,beqDec];rfl
  subst o1
  clear HVp hm
  go_enter Tryz.func334,Tryz.ntmps334
  go_wp2
  go_ret
  exact ⟨rfl,BW⟩
 by_cases o2:op = 2
 ·have HD:Hid (V = (wordsV [] (bts s)).contains (bts t)):=by show _ = _;rw [HVp.out,o2];rfl
  subst o2
  clear HVp hm
  have HSt:Hid (∀ Y,Below w1.heap.size w1 Y → Y.cell? ⟨w.heap.size,2,none⟩ = some (.string t)):=fun Y hY => (blk3 (KA.out.next hY)).1.2.2
  have q0:Below w1.heap.size w1 w1.drew:=below_drew (Below.refl _ _)
  have hF:=Tryz.strings_FieldsFunc_runes 349 #[] (fun _ _ => rfl) whiteR s w1.drew (by omega) (white_pred _)
  have hfw:=fields_words s
  generalize Lib.goFieldsP whiteR s = F at hF hfw
  have HW:Hid (F.any (fun x => decide (x = t)) = V):=by show _ = _;rw [HD.out,contains_words hfw]
  clear HD hfw
  go_enter Tryz.func334,Tryz.ntmps334
  go_upto_region 7 with fail
  clear a1 a2 hw1
  refine Rg.wpD_begin [0,1,2,3] (fun Y => Y.cell? ⟨w.heap.size,2,none⟩ = some (.string t)) (by kernel_rfl) ?_
  have HeldS:=HSt.out _ q0
  refine Rg.ld 0 HeldS ?_
  simp only [Act.put,Rg.sA,Rg.sB,Rg.sC]
  refine Rg.ld 2 HeldS ?_
  simp only [Act.put,Rg.sA,Rg.sB,Rg.sC]
  refine Rg.ld 3 HeldS ?_
  simp only [Act.put,Rg.sA,Rg.sB,Rg.sC]
  refine Rg.dd 1 fun K hK => ?_
  go_simp
  go_at_call 348
  refine Calls.mono hF ?_
  clear hF
  rintro e w5 ⟨A,rfl,hA,hr5,b5⟩
  have q5:=below_next q0 b5
  refine hK _ _ (fun _ => HSt.out _ q5) ?_
  clear hK K HeldS
  have hha:=containsStr_any _ F t w5 (strs_owns hr5)
  rw [show F.any _ = V from HW.out] at hha
  refine Rg.dd 4 fun K hK => ?_
  go_simp
  go_at_call 315
  refine Calls.mono hha ?_
  clear hha
  rintro e w6 ⟨rfl,hww⟩
  obtain rfl:=hww
  refine hK _ _ (fun h => absurd h (by decide)) ?_
  clear hK K
  refine Rg.pu 5 ?_
  simp only [Act.put,Rg.sA,Rg.sB,Rg.sC]
  refine Rg.wpD_done (by kernel_rfl) ?_
  have BW6:=below_next BW q5
  clear hr5 b5 q5 q0 HSt
  go_wp2
  go_ret
  exact ⟨rfl,BW6⟩
 by_cases o3:op = 3
 ·have HD:Hid (V = dashV (bts s) (bts t)):=by show _ = _;rw [HVp.out,o3];rfl
  subst o3
  clear HVp hm
  have hc:=Tryz.strings_CutPrefix s t w1
  cases hp:Lib.hasPrefix s.data.toList t.data.toList with
  | false =>
   obtain rfl:V = false:=by rw [HD.out];exact dash_no hp
   rw [hp] at hc
   clear HD hp
   go_enter Tryz.func334,Tryz.ntmps334
   go_wp2_with fail
   refine hc.mono ?_
   clear hc
   rintro x w' ⟨rfl,hww⟩
   obtain rfl:w1 = w':=hww.symm
   go_wp2
   go_ret
   exact ⟨rfl,BW⟩
  | true =>
   rw [hp] at hc
   cases hr:Lib.trimPrefix s.data.toList t.data.toList with
   | nil =>
    obtain rfl:V = true:=by rw [HD.out];exact dash_nil hp hr
    rw [hr] at hc
    clear HD hp hr
    go_enter Tryz.func334,Tryz.ntmps334
    go_wp2_with fail
    refine hc.mono ?_
    clear hc
    rintro x w' ⟨rfl,hww⟩
    obtain rfl:w1 = w':=hww.symm
    go_wp2
    go_ret
    exact ⟨rfl,BW⟩
   | cons c l =>
    have HC:Hid (V = (c == 45)):=by show _ = _;rw [HD.out];exact dash_cons hp hr
    rw [hr] at hc
    obtain ⟨R,hR⟩:∃ R:ByteArray,R = ⟨(c :: l).toArray⟩:=⟨_,rfl⟩
    rw [← hR] at hc
    have r0:R ≠ ⟨#[]⟩:=by rw [hR];intro e;have:=congrArg (fun x:ByteArray => x.data.toList) e;simp at this
    have r1:=emptyNo r0
    have r2:(R.toList == []) = false:=by rw [eqlEmpty];exact decide_eq_false r0
    have r3:0 < R.size:=by rw [hR];show 0 < (c :: l).toArray.size;simp
    have r4:R[0]'r3 = c:=by subst hR;rfl
    clear HD hp hr hR r0
    go_enter Tryz.func334,Tryz.ntmps334
    go_wp2_with fail
    refine hc.mono ?_
    clear hc
    rintro x w' ⟨rfl,hww⟩
    obtain rfl:w1 = w':=hww.symm
    go_wp2
    go_ret
    exact ⟨by rw [HC.out,← byte45,← r4];rfl,BW⟩
 by_cases o4:op = 4
 ·have HD:Hid (V = (decide (bts t ≠ []) && (bts t).isPrefixOf (bts s))):=by show _ = _;rw [HVp.out,o4];rfl
  subst o4
  clear HVp hm
  by_cases he:t = ⟨#[]⟩
  ·obtain rfl:V = false:=by rw [HD.out,decide_eq_false (fun h => h (btsNil.2 he)),Bool.false_and]
   subst he
   clear HD
   go_enter Tryz.func334,Tryz.ntmps334
   go_wp2
   go_ret
   exact ⟨rfl,BW⟩
  ·obtain rfl:V = (bts t).isPrefixOf (bts s):=by rw [HD.out,decide_eq_true (show bts t ≠ [] from fun h => he (btsNil.1 h)),Bool.true_and]
   have hem:=emptyNo he
   have hen:(t.toList == []) = false:=by rw [eqlEmpty];exact decide_eq_false he
   clear he HD
   have hc:=Tryz.strings_HasPrefix s t w1
   go_enter Tryz.func334,Tryz.ntmps334
   go_wp2_with fail
   refine hc.mono ?_
   clear hc
   rintro x w' ⟨rfl,hww⟩
   obtain rfl:w1 = w':=hww.symm
   go_wp2
   go_ret
   exact ⟨rfl,BW⟩
 by_cases o5:op = 5
 ·have HD:Hid (V = (decide (bts t ≠ []) && (bts t).isSuffixOf (bts s))):=by show _ = _;rw [HVp.out,o5];rfl
  subst o5
  clear HVp hm
  by_cases he:t = ⟨#[]⟩
  ·obtain rfl:V = false:=by rw [HD.out,decide_eq_false (fun h => h (btsNil.2 he)),Bool.false_and]
   subst he
   clear HD
   go_enter Tryz.func334,Tryz.ntmps334
   go_wp2
   go_ret
   exact ⟨rfl,BW⟩
  ·obtain rfl:V = (bts t).isSuffixOf (bts s):=by rw [HD.out,decide_eq_true (show bts t ≠ [] from fun h => he (btsNil.1 h)),Bool.true_and]
   have hem:=emptyNo he
   have hen:(t.toList == []) = false:=by rw [eqlEmpty];exact decide_eq_false he
   clear he HD
   have hc:=Tryz.strings_HasSuffix s t w1 (by omega)
   go_enter Tryz.func334,Tryz.ntmps334
   go_wp2_with fail
   refine hc.mono ?_
   clear hc
   rintro x w' ⟨rfl,hww⟩
   obtain rfl:w1 = w':=hww.symm
   go_wp2
   go_ret
   exact ⟨rfl,BW⟩
 by_cases o6:op = 6
 ·have HD:Hid (V = (decide (bts t ≠ []) && infixV (bts t) (bts s))):=by show _ = _;rw [HVp.out,o6];rfl
  subst o6
  clear HVp
  by_cases he:t = ⟨#[]⟩
  ·obtain rfl:V = false:=by rw [HD.out,decide_eq_false (fun h => h (btsNil.2 he)),Bool.false_and]
   subst he
   clear HD hm
   go_enter Tryz.func334,Tryz.ntmps334
   go_wp2
   go_ret
   exact ⟨rfl,BW⟩
  ·obtain rfl:V = Lib.contains s.data.toList t.data.toList:=by
    rw [HD.out,decide_eq_true (show bts t ≠ [] from fun h => he (btsNil.1 h)),Bool.true_and]
    exact (contains_infix (bts t) (fun h => he (btsNil.1 h)) (bts s)).symm
   have hem:=emptyNo he
   have hen:(t.toList == []) = false:=by rw [eqlEmpty];exact decide_eq_false he
   have hc:=Tryz.strings_Contains s t m w1 hs hm
   clear he HD hm
   go_enter Tryz.func334,Tryz.ntmps334
   go_wp2_with fail
   refine hc.mono ?_
   clear hc
   rintro x w' ⟨rfl,hww⟩
   obtain rfl:w1 = w':=hww.symm
   go_wp2
   go_ret
   exact ⟨rfl,BW⟩
 obtain rfl:V = false:=by
  rw [HVp.out]
  unfold textV
  simp only
  rw [if_neg o0,if_neg o1,if_neg o2,if_neg o3,if_neg o4,if_neg o5,if_neg o6]
 have p0:(op == 0) = false:=by simpa using o0
 have p1:(op == 1) = false:=by simpa using o1
 have p2:(op == 2) = false:=by simpa using o2
 have p3:(op == 3) = false:=by simpa using o3
 have p4:(op == 4) = false:=by simpa using o4
 have p5:(op == 5) = false:=by simpa using o5
 have p6:(op == 6) = false:=by simpa using o6
 clear HVp hm o0 o1 o2 o3 o4 o5 o6
 go_enter Tryz.func334,Tryz.ntmps334
 go_wp2
 go_ret
 exact ⟨rfl,BW⟩
/-! ### hasAttr -/
def ShortN (n:Nd):Prop:=∀ p ∈ n.ats,p.2.size < 4294967281
set_option maxHeartbeats 4000000 in
theorem hasAttr_any (n:Nd) (cv av:Value) (W:World) (hM:ML W) (hs:ShortN n) (hcv:StrsAt W.heap.size W cv n.cls) (hav:PairsAt W.heap.size W av n.ats) (a:At) :
  Calls Tryz.prog 316 #[ndVal n cv av,.agg #[.string a.name,.int .i64 a.op,.string a.text]] W fun r W' => r = .returned (.bool (attrV n a)) ∧ Below W.heap.size W W':=by
 obtain ⟨pn,cn,rfl⟩:=hcv.len
 obtain ⟨pa,ca,rfl⟩:=hav.len
 obtain ⟨w2,hw2⟩:∃ w2,(W.alloc (.cells #[.int .i64 n.parent,.string n.tag,.string n.id,.slice pn n.cls.length cn,.slice pa n.ats.length ca] 65)).alloc (.cells #[.string a.name,.int .i64 a.op,.string a.text] 231) = w2:=⟨_,rfl⟩
 have b2:Below W.heap.size W w2:=by rw [← hw2];exact ((Below.refl _ W).alloc (Nat.le_refl _) _).alloc (by simp) _
 have kn:Blk w2 W.heap.size 65 [.int .i64 n.parent,.string n.tag,.string n.id,.slice pn n.cls.length cn,.slice pa n.ats.length ca]:=by
  rw [← hw2]
  exact (Blk.new W 65 _).next ((Below.refl _ _).alloc (Nat.le_refl _) _)
 have kc:Blk w2 (W.heap.size + 1) 231 (atCells a):=by
  rw [← hw2]
  have:=Blk.new (W.alloc (.cells #[.int .i64 n.parent,.string n.tag,.string n.id,.slice pn n.cls.length cn,.slice pa n.ats.length ca] 65)) 231 (atCells a)
  rwa [World.size_alloc] at this
 obtain ⟨⟨n0,n1,n2,n3,n4⟩,_⟩:=blk5 kn
 have hi:=indexPair_any (.slice pa n.ats.length ca) n.ats a w2 (hav.next b2) (W.heap.size + 1) kc
 obtain ⟨V,hV⟩:∃ V,attrV n a = V:=⟨_,rfl⟩
 rw [hV]
 have HVV:Hid (attrV n a = V):=hV
 have KN:Hid (Blk w2 W.heap.size 65 [.int .i64 n.parent,.string n.tag,.string n.id,.slice pn n.cls.length cn,.slice pa n.ats.length ca]):=kn
 have KC:Hid (Blk w2 (W.heap.size + 1) 231 (atCells a)):=kc
 have HAV:Hid (PairsAt W.heap.size W (.slice pa n.ats.length ca) n.ats):=hav
 have HM:Hid (ML W):=hM
 have HSN:Hid (ShortN n):=hs
 unfold ndVal
 clear hV kn kc hav hcv hM hs n0 n1 n2 n3
 go_enter Tryz.func316,Tryz.ntmps316
 go_wp2_with fail
 refine hi.mono ?_
 clear hi n4 hw2
 rintro r X ⟨hk,bX⟩
 have bWX:=below_next b2 bX
 obtain ⟨⟨n0,n1,n2,n3,n4⟩,_⟩:=blk5 (KN.out.next bX)
 rcases hk with ⟨i,p,rfl,hp,hf⟩ | ⟨rfl,hf⟩
 ·have hVt:textV p.2 a = V:=by rw [← show attrV n a = V from HVV.out];unfold attrV;rw [hf]
  have hlt:i < n.ats.length:=(List.getElem?_eq_some_iff.1 hp).1
  have hii:(i:Int) < (n.ats.length:Int):=by omega
  have hi0:(0:Int) ≤ (i:Int):=by omega
  obtain ⟨bk,off,rfl,hbk,hcap,hmx,hcell⟩:=(HAV.out.below bWX).get hp
  have hbkX:bk < X.heap.size:=Nat.lt_of_lt_of_le hbk bWX.size
  have a1:=hcell 1 _ rfl
  unfold maxLen at hmx
  obtain ⟨⟨m0,m1,m2⟩,_⟩:=blk3 (KC.out.next bX)
  have q0:Below X.heap.size X X.drew:=below_drew (Below.refl _ _)
  have hT:=isText_any p.2 a.name a.op a.text X.drew (HSN.out p (List.mem_of_getElem? hp)) (HM.out.next (below_next bWX q0))
  rw [show At.mk a.name a.op a.text = a by cases a;rfl,hVt] at hT
  have bWq:=below_next bWX q0
  have HeldS:X.drew.cell? ⟨W.heap.size,4,none⟩ = some (.slice (some ⟨bk,off,none⟩) n.ats.length ca) ∧ X.drew.cell? ⟨bk,off + i * 2 + 1,none⟩ = some (.string p.2) ∧ X.drew.cell? ⟨W.heap.size + 1,0,none⟩ = some (.string a.name) ∧ X.drew.cell? ⟨W.heap.size + 1,1,none⟩ = some (.int .i64 a.op) ∧ X.drew.cell? ⟨W.heap.size + 1,2,none⟩ = some (.string a.text):=⟨n4,a1,m0,m1,m2⟩
  clear hcell hf hp hVt HVV n0 n1 n2 n3 n4 m0 m1 m2 a1
  go_upto_region 2 with fail
  refine Rg.wpD_begin [3,4,5,6,7,8,9] (fun Y => Y.cell? ⟨W.heap.size,4,none⟩ = some (.slice (some ⟨bk,off,none⟩) n.ats.length ca) ∧ Y.cell? ⟨bk,off + i * 2 + 1,none⟩ = some (.string p.2) ∧ Y.cell? ⟨W.heap.size + 1,0,none⟩ = some (.string a.name) ∧ Y.cell? ⟨W.heap.size + 1,1,none⟩ = some (.int .i64 a.op) ∧ Y.cell? ⟨W.heap.size + 1,2,none⟩ = some (.string a.text)) (by kernel_rfl) ?_
  refine Rg.pu 0 ?_
  simp only [Act.put,Rg.sA,Rg.sB,Rg.sC]
  refine Rg.pu 1 ?_
  simp only [Act.put,Rg.sA,Rg.sB,Rg.sC]
  refine Rg.pu 2 ?_
  simp only [Act.put,Rg.sA,Rg.sB,Rg.sC]
  refine Rg.ld 3 HeldS ?_
  simp only [Act.put,Rg.sA,Rg.sB,Rg.sC]
  refine Rg.ld 4 HeldS ?_
  simp only [Act.put,Rg.sA,Rg.sB,Rg.sC]
  refine Rg.ld 5 HeldS ?_
  simp only [Act.put,Rg.sA,Rg.sB,Rg.sC]
  refine Rg.ld 6 HeldS ?_
  simp only [Act.put,Rg.sA,Rg.sB,Rg.sC]
  refine Rg.ld 7 HeldS ?_
  simp only [Act.put,Rg.sA,Rg.sB,Rg.sC]
  refine Rg.ld 8 HeldS ?_
  simp only [Act.put,Rg.sA,Rg.sB,Rg.sC]
  refine Rg.ld 9 HeldS ?_
  simp only [Act.put,Rg.sA,Rg.sB,Rg.sC]
  refine Rg.dd 10 fun K hK => ?_
  go_simp
  go_at_call 334
  refine Calls.mono hT ?_
  clear hT
  rintro r Y ⟨rfl,bY⟩
  refine hK _ _ (fun h => absurd h (by decide)) ?_
  clear hK K HeldS
  refine Rg.pu 11 ?_
  simp only [Act.put,Rg.sA,Rg.sB,Rg.sC]
  refine Rg.pu 12 ?_
  simp only [Act.put,Rg.sA,Rg.sB,Rg.sC]
  refine Rg.wpD_done (by kernel_rfl) ?_
  have FIN:=below_next bWq bY
  go_wp2
  go_ret
  exact ⟨rfl,FIN⟩
 ·obtain rfl:V = false:=by rw [← show attrV n a = V from HVV.out];unfold attrV;rw [hf]
  clear hf HVV
  go_upto_region 2 with fail
  go_quiet (fail)
  go_wp2
  go_ret
  exact ⟨rfl,below_drewN' bWX _⟩
theorem attrs_ok {w:World} {es:List El} (hM:ML w) (hs:∀ e ∈ es,ShortN e.nd):∀ a,AtOk a → AttrK w es a:=fun a _ n cv av W hq hb _ h1 h2 => by
 obtain ⟨q,hq,rfl⟩:=hq
 exact hasAttr_any q.nd cv av W (hM.next hb) (hs q hq) h1 h2 a
end Go.Proofs.YtagbjmocjaaioaaGreatDoor.Mt

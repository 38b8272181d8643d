/- package value: color, at every string. -/
import Derived.Test.YtagbjmocjaaioaaGreatDoorVlWord
import Derived.Test.YtagbjmocjaaioaaGreatDoorDcLow
import Derived.Test.YtagbjmocjaaioaaGreatDoorVlProp
set_option maxRecDepth 100000
namespace Go.Proofs.YtagbjmocjaaioaaGreatDoor.Vl
open Go Go.RowKit
theorem size_list (s:ByteArray):s.data.toList.length = s.size:=Array.length_toList
theorem drop_at {s:ByteArray} {k:Nat} (hk:k < s.size):s.data.toList.drop k = (s[k]'hk) :: s.data.toList.drop (k + 1):=by
 rw [List.drop_eq_getElem_cons (by rw [size_list];exact hk)]
 congr 1
theorem get_at (s:ByteArray) (k:Nat) (h:k < s.size):s[k] = s.get! k:=by
 show s.data[k]'h = s.data[k]!
 rw [getElem!_pos s.data k h]
def Bnd (sh:Bool) (k:Nat) (n:Int):Prop:=0 ≤ n ∧ n < 16 ^ (if sh then 2 * k else k)
theorem Bnd.start (sh:Bool):Bnd sh 0 0:=by cases sh <;> simp [Bnd]
theorem Bnd.next {sh:Bool} {k:Nat} {n d:Int} (h:Bnd sh k n) (h0:0 ≤ d) (h1:d ≤ 15):Bnd sh (k + 1) (more sh n d):=by
 unfold Bnd at *
 obtain ⟨a,b⟩:=h
 cases sh with
 | true =>
  simp only [if_true,more] at *
  rw [show 2 * (k + 1) = 2 * k + 1 + 1 by omega,Int.pow_succ,Int.pow_succ]
  generalize (16:Int) ^ (2 * k) = q at *
  omega
 | false =>
  simp only [Bool.false_eq_true,if_false,more] at *
  rw [Int.pow_succ]
  generalize (16:Int) ^ k = q at *
  omega
theorem Bnd.small {sh:Bool} {k:Nat} {n:Int} (h:Bnd sh k n) (hk:k ≤ 6):0 ≤ n ∧ n ≤ 281474976710656:=by
 obtain ⟨a,b⟩:=h
 have:(16:Int) ^ (if sh then 2 * k else k) ≤ 16 ^ 12:=by
  have h2:(if sh then 2 * k else k) ≤ 12:=by split <;> omega
  exact_mod_cast Nat.pow_le_pow_right (by omega) h2
 have e:(16:Int) ^ 12 = 281474976710656:=by decide
 omega
set_option maxHeartbeats 2000000 in
theorem color_any (p:Int) (s:ByteArray) (w:World) :
  Calls Tryz.prog 202 #[.int .i64 p,.string s] w fun e w' => e = ret (colorV p s.data.toList) ∧ Below w.heap.size w w':=by
 have b0:=zero_new w
 have k0:=Blk.new w 51 [.int .i64 0,.int .i64 0]
 obtain ⟨V,hV⟩:∃ V,colorV p s.data.toList = V:=⟨_,rfl⟩
 rw [hV]
 unfold colorV colorN at hV
 rw [size_list] at hV
 go_enter Tryz.func202,Tryz.ntmps202
 go_upto_region 1 with fail
 replace k0:Blk (w.alloc (.cells #[.int .i64 0,.int .i64 0] 51)) w.heap.size _ _:=k0
 generalize w.alloc (.cells #[.int .i64 0,.int .i64 0] 51) = W at *
 obtain ⟨⟨c0,c1⟩,f0,f1⟩:=blk2 k0
 have hB:=k0.lt
 have HF:Hid (∀ a b,Below w.heap.size w (set2 W w.heap.size a b)):=fun a b => below_grew b0 (grown_set2 W w.heap.size a b) (by omega) (Nat.le_refl _)
 by_cases hp:p = 0
 ·subst hp
  rw [if_pos rfl] at hV
  have HD:Hid (∀ (c:UInt8) (X:World),Calls Tryz.prog 242 #[.int .u8 c.toNat] X fun e w' => e = .returned (.tuple #[.int .i64 (digV c).1,.bool (digV c).2]) ∧ w' = X):=fun c X => digit_any c X
  by_cases h3:s.size = 3
  ·rw [if_pos (.inl h3),show (s.size == 3) = true by simp [h3]] at hV
   have HV:Hid ((match colF true 0 s.data.toList with
    | some n => ((6,n,true):Vv)
    | none => no) = V):=hV
   have hs6:s.size ≤ 6:=by omega
   have g3:((s.size:Int) != 3) = false:=by simp [h3]
   have g3':((s.size:Int) == 3) = true:=by simp [h3]
   clear hV h3
   go_wp2
   go_loopw [6,25] (fun n i wr => ∃ (k:Nat) (m:Int),n = .int .i64 m ∧ i = .int .i64 k ∧ k ≤ s.size ∧ Hid (colF true m (s.data.toList.drop k) = colF true 0 s.data.toList) ∧ Hid (Bnd true k m) ∧ Below w.heap.size w wr ∧ Blk wr w.heap.size 51 [.int .i64 0,.int .i64 0]) (fun _ i _ => s.size - (intOf i).toNat)
   case atStart => exact ⟨0,0,rfl,rfl,Nat.zero_le _,rfl,Bnd.start _,b0,k0⟩
   case round =>
    obtain ⟨k,m,rfl,rfl,hk,HC,HN,hb,hk0⟩:=hrel
    clear k0 c0 c1 f0 f1 HF
    obtain ⟨⟨c0,c1⟩,f0,f1⟩:=blk2 hk0
    have hsz:=hb.size
    have HF:Hid (∀ a b,Below w.heap.size w (set2 wr w.heap.size a b)):=fun a b => below_grew hb (grown_set2 wr w.heap.size a b) hsz (Nat.le_refl _)
    by_cases hlt:k < s.size
    ·have hki:(k:Int) < (s.size:Int):=by omega
     have hget:=get_at s k hlt
     have hm:=Bnd.small HN (by omega)
     have hdig:=(show ∀ (c:UInt8) (X:World),Calls Tryz.prog 242 #[.int .u8 c.toNat] X fun e w' => e = .returned (.tuple #[.int .i64 (digV c).1,.bool (digV c).2]) ∧ w' = X from HD) (s.get! k)
     have hbd:=digV_bounds (s.get! k)
     have hst:colF true m (s.data.toList.drop k) = if (digV (s.get! k)).2 then colF true (more true m (digV (s.get! k)).1) (s.data.toList.drop (k + 1)) else none:=by
      rw [drop_at hlt,hget]
      rfl
     rw [show colF true m (s.data.toList.drop k) = _ from HC] at hst
     have hbn:Bnd true (k + 1) (more true m (digV (s.get! k)).1):=Bnd.next HN hbd.1 hbd.2
     generalize s.get! k = c at *
     obtain ⟨d,ok,hd⟩:∃ d ok,digV c = (d,ok):=⟨_,_,rfl⟩
     rw [hd] at hdig hbd hst hbn
     simp only at hdig hbd hst hbn
     have hcl:=c.toNat_lt
     clear HC HN HD hd
     cases ok with
     | false =>
      obtain rfl:no = V:=by
       have:colF true 0 s.data.toList = none:=by simpa using hst
       have h2:=HV
       unfold Hid at h2
       rw [this] at h2
       exact h2
      clear hst hbn HV
      go_wp2_with fail
      refine (hdig _).mono ?_
      clear hdig
      rintro e w1 ⟨rfl,rfl⟩
      go_wp2
      refine bodyPost_ret (results_struct_tmp rfl _ _ w.heap.size _ rfl (load_val (blk_set2 hk0 _ _))) rfl ?_
      exact ⟨rfl,HF _ _⟩
     | true =>
      have HC':Hid (colF true (more true m d) (s.data.toList.drop (k + 1)) = colF true 0 s.data.toList):=by unfold Hid;simpa using hst.symm
      have w1:IntKind.i64.wrap (16 * m) = 16 * m:=by rw [IntKind.wrap_i64];omega
      have w2:IntKind.i64.wrap (16 * m + d) = 16 * m + d:=by rw [IntKind.wrap_i64];omega
      have w3:IntKind.i64.wrap (16 * (16 * m + d)) = 16 * (16 * m + d):=by rw [IntKind.wrap_i64];omega
      have w4:IntKind.i64.wrap (16 * (16 * m + d) + d) = 16 * (16 * m + d) + d:=by rw [IntKind.wrap_i64];omega
      have HB':Hid (Bnd true (k + 1) (more true m d)):=hbn
      clear hst hbn HV
      go_wp2_with fail
      refine (hdig _).mono ?_
      clear hdig
      rintro e wq ⟨rfl,rfl⟩
      go_wp2
      exact ⟨⟨k + 1,more true m d,rfl,by go_num,by omega,HC',HB',hb,hk0⟩,by simp [intOf];omega⟩
    ·have hki:¬ (k:Int) < (s.size:Int):=by omega
     obtain rfl:(6,m,true) = V:=by
      have h1:=HC
      unfold Hid at h1
      rw [List.drop_eq_nil_of_le (by rw [size_list];omega)] at h1
      have h2:=HV
      unfold Hid at h2
      rw [← h1] at h2
      exact h2
     clear HV HC HN HD
     go_wp2
     refine bodyPost_ret (results_struct_tmp rfl _ _ w.heap.size _ rfl (load_val (blk_set2 hk0 _ _))) rfl ?_
     exact ⟨rfl,HF _ _⟩
  have g3:((s.size:Int) != 3) = true:=by simp;omega
  have g3':((s.size:Int) == 3) = false:=by simp;omega
  by_cases h6:s.size = 6
  ·rw [if_pos (.inr h6),show (s.size == 3) = false by simp [h6]] at hV
   have HV:Hid ((match colF false 0 s.data.toList with
    | some n => ((6,n,true):Vv)
    | none => no) = V):=hV
   have hs6:s.size ≤ 6:=by omega
   have g6:((s.size:Int) != 6) = false:=by simp [h6]
   clear hV h6 h3
   go_wp2
   go_loopw [6,25] (fun n i wr => ∃ (k:Nat) (m:Int),n = .int .i64 m ∧ i = .int .i64 k ∧ k ≤ s.size ∧ Hid (colF false m (s.data.toList.drop k) = colF false 0 s.data.toList) ∧ Hid (Bnd false k m) ∧ Below w.heap.size w wr ∧ Blk wr w.heap.size 51 [.int .i64 0,.int .i64 0]) (fun _ i _ => s.size - (intOf i).toNat)
   case atStart => exact ⟨0,0,rfl,rfl,Nat.zero_le _,rfl,Bnd.start _,b0,k0⟩
   case round =>
    obtain ⟨k,m,rfl,rfl,hk,HC,HN,hb,hk0⟩:=hrel
    clear k0 c0 c1 f0 f1 HF
    obtain ⟨⟨c0,c1⟩,f0,f1⟩:=blk2 hk0
    have hsz:=hb.size
    have HF:Hid (∀ a b,Below w.heap.size w (set2 wr w.heap.size a b)):=fun a b => below_grew hb (grown_set2 wr w.heap.size a b) hsz (Nat.le_refl _)
    by_cases hlt:k < s.size
    ·have hki:(k:Int) < (s.size:Int):=by omega
     have hget:=get_at s k hlt
     have hm:=Bnd.small HN (by omega)
     have hdig:=(show ∀ (c:UInt8) (X:World),Calls Tryz.prog 242 #[.int .u8 c.toNat] X fun e w' => e = .returned (.tuple #[.int .i64 (digV c).1,.bool (digV c).2]) ∧ w' = X from HD) (s.get! k)
     have hbd:=digV_bounds (s.get! k)
     have hst:colF false m (s.data.toList.drop k) = if (digV (s.get! k)).2 then colF false (more false m (digV (s.get! k)).1) (s.data.toList.drop (k + 1)) else none:=by
      rw [drop_at hlt,hget]
      rfl
     rw [show colF false m (s.data.toList.drop k) = _ from HC] at hst
     have hbn:Bnd false (k + 1) (more false m (digV (s.get! k)).1):=Bnd.next HN hbd.1 hbd.2
     generalize s.get! k = c at *
     obtain ⟨d,ok,hd⟩:∃ d ok,digV c = (d,ok):=⟨_,_,rfl⟩
     rw [hd] at hdig hbd hst hbn
     simp only at hdig hbd hst hbn
     have hcl:=c.toNat_lt
     clear HC HN HD hd
     cases ok with
     | false =>
      obtain rfl:no = V:=by
       have:colF false 0 s.data.toList = none:=by simpa using hst
       have h2:=HV
       unfold Hid at h2
       rw [this] at h2
       exact h2
      clear hst hbn HV
      go_wp2_with fail
      refine (hdig _).mono ?_
      clear hdig
      rintro e w1 ⟨rfl,rfl⟩
      go_wp2
      refine bodyPost_ret (results_struct_tmp rfl _ _ w.heap.size _ rfl (load_val (blk_set2 hk0 _ _))) rfl ?_
      exact ⟨rfl,HF _ _⟩
     | true =>
      have HC':Hid (colF false (more false m d) (s.data.toList.drop (k + 1)) = colF false 0 s.data.toList):=by unfold Hid;simpa using hst.symm
      have w1:IntKind.i64.wrap (16 * m) = 16 * m:=by rw [IntKind.wrap_i64];omega
      have w2:IntKind.i64.wrap (16 * m + d) = 16 * m + d:=by rw [IntKind.wrap_i64];omega
      have w3:IntKind.i64.wrap (16 * (16 * m + d)) = 16 * (16 * m + d):=by rw [IntKind.wrap_i64];omega
      have w4:IntKind.i64.wrap (16 * (16 * m + d) + d) = 16 * (16 * m + d) + d:=by rw [IntKind.wrap_i64];omega
      have HB':Hid (Bnd false (k + 1) (more false m d)):=hbn
      clear hst hbn HV
      go_wp2_with fail
      refine (hdig _).mono ?_
      clear hdig
      rintro e wq ⟨rfl,rfl⟩
      go_wp2
      exact ⟨⟨k + 1,more false m d,rfl,by go_num,by omega,HC',HB',hb,hk0⟩,by simp [intOf];omega⟩
    ·have hki:¬ (k:Int) < (s.size:Int):=by omega
     obtain rfl:(6,m,true) = V:=by
      have h1:=HC
      unfold Hid at h1
      rw [List.drop_eq_nil_of_le (by rw [size_list];omega)] at h1
      have h2:=HV
      unfold Hid at h2
      rw [← h1] at h2
      exact h2
     clear HV HC HN HD
     go_wp2
     refine bodyPost_ret (results_struct_tmp rfl _ _ w.heap.size _ rfl (load_val (blk_set2 hk0 _ _))) rfl ?_
     exact ⟨rfl,HF _ _⟩
  ·have g6:((s.size:Int) != 6) = true:=by simp;omega
   obtain rfl:no = V:=by
    rw [← hV,if_neg (by omega)]
   clear hV h6 h3
   go_wp2
   refine bodyPost_ret (results_struct_tmp rfl _ _ w.heap.size _ rfl (load_val (blk_set2 k0 _ _))) rfl ?_
   exact ⟨rfl,HF _ _⟩
 ·have ep:(p != 0) = true:=by simpa using hp
  obtain rfl:no = V:=by rw [← hV,if_neg hp]
  clear hV hp
  go_wp2
  refine bodyPost_ret (results_struct_tmp rfl _ _ w.heap.size _ rfl (load_val (blk_set2 k0 _ _))) rfl ?_
  exact ⟨rfl,HF _ _⟩
end Go.Proofs.YtagbjmocjaaioaaGreatDoor.Vl

/- package value: read and Parse, at every property and every slice of tokens. -/
set_option maxRecDepth 100000
namespace Go.Proofs.YtagbjmocjaaioaaGreatDoor.Vl
open Go Go.RowKit
def lowOf (t:Bt):List UInt8:=Lw.low t.text.data.toList
def tokV (p:Int) (t:Bt):Vv:=readV p t.kind t.text.data.toList (lowOf t) t.n t.whole
def parseV (p:Int):List Bt → Vv
 | [t] => if 0 ≤ p ∧ p ≤ 7 then tokV p t else no
 | _ => no
theorem px_ne {z:List UInt8} (h:¬ z = pxT):((⟨z.toArray⟩:ByteArray).toList == [112,120]) = false:=by
 rw [ByteArray.toList_eq,beq_eq_false_iff_ne]
 intro e
 exact h (by simpa [pxT] using e)
theorem em_ne {z:List UInt8} (h:¬ z = emT):((⟨z.toArray⟩:ByteArray).toList == [101,109]) = false:=by
 rw [ByteArray.toList_eq,beq_eq_false_iff_ne]
 intro e
 exact h (by simpa [emT] using e)
set_option maxHeartbeats 4000000 in
theorem read_any (p:Int) (t:Bt) (w:World) (hS:WordsAt w.heap.size w) (ht:t.text.size ≤ maxLen) :
  Calls Tryz.prog 159 #[.int .i64 p,.agg #[.int .i64 t.kind,.string t.text,.int .i64 t.n,.bool t.whole,.int .i64 t.c]] w fun e w' => e = ret (tokV p t) ∧ Below w.heap.size w w':=by
 obtain ⟨V,hV⟩:∃ V,tokV p t = V:=⟨_,rfl⟩
 rw [hV]
 unfold tokV at hV
 obtain ⟨kind,text,n,wh,c⟩:=t
 simp only [lowOf] at hV ht ⊢
 have hlow:=fun X => Lw.lower_any text X ht
 generalize Lw.low text.data.toList = low at *
 have hword:=fun X hX => word_any p ⟨low.toArray⟩ X hX
 have hcol:=fun X => color_any p text X
 have hlen:=fun k X => length_any p k n X
 have hnum:=fun X => number_any p n wh X
 have b0:Below w.heap.size w ((w.alloc (.cells #[.int .i64 kind,.string text,.int .i64 n,.bool wh,.int .i64 c] 108)).alloc (.cells #[.int .i64 0,.int .i64 0] 51)):=((Below.refl _ w).alloc (Nat.le_refl _) _).alloc (by rw [World.size_alloc];omega) _
 have kT:Blk ((w.alloc (.cells #[.int .i64 kind,.string text,.int .i64 n,.bool wh,.int .i64 c] 108)).alloc (.cells #[.int .i64 0,.int .i64 0] 51)) w.heap.size 108 [.int .i64 kind,.string text,.int .i64 n,.bool wh,.int .i64 c]:=(Blk.new w 108 [.int .i64 kind,.string text,.int .i64 n,.bool wh,.int .i64 c]).kept (World.grownBy_alloc _ _ none) (by simp)
 have kV:Blk ((w.alloc (.cells #[.int .i64 kind,.string text,.int .i64 n,.bool wh,.int .i64 c] 108)).alloc (.cells #[.int .i64 0,.int .i64 0] 51)) (w.heap.size + 1) 51 [.int .i64 0,.int .i64 0]:=by
  have:=Blk.new (w.alloc (.cells #[.int .i64 kind,.string text,.int .i64 n,.bool wh,.int .i64 c] 108)) 51 [.int .i64 0,.int .i64 0]
  rwa [World.size_alloc] at this
 have hSz:((w.alloc (.cells #[.int .i64 kind,.string text,.int .i64 n,.bool wh,.int .i64 c] 108)).alloc (.cells #[.int .i64 0,.int .i64 0] 51)).heap.size = w.heap.size + 2:=by rw [World.size_alloc,World.size_alloc]
 replace hS:=(hS.below b0).mono b0.size
 go_enter Tryz.func159,Tryz.ntmps159
 go_upto_region 1 with fail
 generalize (w.alloc (.cells #[.int .i64 kind,.string text,.int .i64 n,.bool wh,.int .i64 c] 108)).alloc (.cells #[.int .i64 0,.int .i64 0] 51) = W at *
 obtain ⟨⟨t0,t1,t2,t3,t4⟩,_⟩:=blk5 kT
 have fin:∀ (w1:World),Below W.heap.size W w1 → Blk w1 (w.heap.size + 1) 51 [.int .i64 0,.int .i64 0] ∧ ∀ a b,Below w.heap.size w (set2 w1 (w.heap.size + 1) a b):=fun w1 b1 =>
  ⟨kV.below b1 kV.lt,fun a b => below_grew (b0.trans (b1.mono b0.size)) (grown_set2 w1 (w.heap.size + 1) a b) (by have:=b1.size;omega) (by omega)⟩
 have FIN:Hid (∀ (w1:World),Below W.heap.size W w1 → Blk w1 (w.heap.size + 1) 51 [.int .i64 0,.int .i64 0] ∧ ∀ a b,Below w.heap.size w (set2 w1 (w.heap.size + 1) a b)):=fin
 clear fin
 by_cases h1:kind = 1
 ·subst h1
  have hE:wordV p low = V:=by rw [← hV];rfl
  clear hV hcol hlen hnum
  go_wp2_with fail
  refine (hlow _).mono ?_
  clear hlow
  rintro e w1 ⟨rfl,b1⟩
  have hS1:=hS.next b1
  have hw:=hword _ hS1
  clear hword
  replace hw:Calls Tryz.prog 201 #[.int .i64 p,.string ⟨low.toArray⟩] w1 fun e w' => e = ret V ∧ Below w1.heap.size w1 w':=by rw [← hE];exact hw
  clear hE
  go_wp2_with fail
  refine hw.mono ?_
  clear hw
  rintro e w2 ⟨rfl,b2⟩
  obtain ⟨kx,HF⟩:=(show ∀ (w1:World),Below W.heap.size W w1 → Blk w1 (w.heap.size + 1) 51 [.int .i64 0,.int .i64 0] ∧ ∀ a b,Below w.heap.size w (set2 w1 (w.heap.size + 1) a b) from FIN) _ (b1.trans (b2.mono b1.size))
  obtain ⟨⟨c0,c1⟩,f0,f1⟩:=blk2 kx
  have HFH:Hid (∀ a b,Below w.heap.size w (set2 w2 (w.heap.size + 1) a b)):=HF
  clear HF FIN
  obtain ⟨v1,v2,v3⟩:=V
  unfold ret
  go_wp2
  refine bodyPost_ret (results_struct_tmp rfl _ _ (w.heap.size + 1) _ rfl (load_val (blk_set2 kx _ _))) rfl ?_
  exact ⟨rfl,HFH _ _⟩
 have e1:(kind == 1) = false:=by simpa using h1
 clear hword
 by_cases h3:kind = 3
 ·subst h3
  have hE:colorV p text.data.toList = V:=by rw [← hV];rfl
  clear hV hlen hnum hlow h1
  simp only [hE] at hcol
  clear hE
  go_wp2_with fail
  refine (hcol _).mono ?_
  clear hcol
  rintro e w1 ⟨rfl,b1⟩
  obtain ⟨kx,HF⟩:=(show ∀ (w1:World),Below W.heap.size W w1 → Blk w1 (w.heap.size + 1) 51 [.int .i64 0,.int .i64 0] ∧ ∀ a b,Below w.heap.size w (set2 w1 (w.heap.size + 1) a b) from FIN) _ (b1)
  obtain ⟨⟨c0,c1⟩,f0,f1⟩:=blk2 kx
  have HFH:Hid (∀ a b,Below w.heap.size w (set2 w1 (w.heap.size + 1) a b)):=HF
  clear HF FIN
  obtain ⟨v1,v2,v3⟩:=V
  unfold ret
  go_wp2
  refine bodyPost_ret (results_struct_tmp rfl _ _ (w.heap.size + 1) _ rfl (load_val (blk_set2 kx _ _))) rfl ?_
  exact ⟨rfl,HFH _ _⟩
 have e3:(kind == 3) = false:=by simpa using h3
 clear hcol
 by_cases h8:kind = 8
 ·subst h8
  clear hnum h1 h3 e1 e3
  by_cases hx:low = pxT
  ·subst hx
   have hE:lengthV p 2 n = V:=by rw [← hV];rfl
   replace hlen:=hlen 2
   clear hV
   unfold pxT at hlow
   simp only [hE] at hlen
   clear hE
   go_wp2_with fail
   refine (hlow _).mono ?_
   clear hlow
   rintro e w1 ⟨rfl,b1⟩
   replace t2:=(b1.cell (p:=⟨w.heap.size,2,none⟩) kT.lt).trans t2
   clear t0 t1 t3 t4
   go_wp2_with fail
   refine (hlen _).mono ?_
   clear hlen
   rintro e w2 ⟨rfl,b2⟩
   obtain ⟨kx,HF⟩:=(show ∀ (w1:World),Below W.heap.size W w1 → Blk w1 (w.heap.size + 1) 51 [.int .i64 0,.int .i64 0] ∧ ∀ a b,Below w.heap.size w (set2 w1 (w.heap.size + 1) a b) from FIN) _ (b1.trans (b2.mono b1.size))
   obtain ⟨⟨c0,c1⟩,f0,f1⟩:=blk2 kx
   have HFH:Hid (∀ a b,Below w.heap.size w (set2 w2 (w.heap.size + 1) a b)):=HF
   clear HF FIN
   obtain ⟨v1,v2,v3⟩:=V
   unfold ret
   go_wp2
   refine bodyPost_ret (results_struct_tmp rfl _ _ (w.heap.size + 1) _ rfl (load_val (blk_set2 kx _ _))) rfl ?_
   exact ⟨rfl,HFH _ _⟩
  have ex:=px_ne hx
  by_cases hm:low = emT
  ·subst hm
   have hE:lengthV p 3 n = V:=by rw [← hV];rfl
   replace hlen:=hlen 3
   clear hV ex hx
   unfold emT at hlow
   simp only [hE] at hlen
   clear hE
   go_wp2_with fail
   refine (hlow _).mono ?_
   clear hlow
   rintro e w1 ⟨rfl,b1⟩
   replace t2:=(b1.cell (p:=⟨w.heap.size,2,none⟩) kT.lt).trans t2
   clear t0 t1 t3 t4
   go_wp2_with fail
   refine (hlen _).mono ?_
   clear hlen
   rintro e w2 ⟨rfl,b2⟩
   obtain ⟨kx,HF⟩:=(show ∀ (w1:World),Below W.heap.size W w1 → Blk w1 (w.heap.size + 1) 51 [.int .i64 0,.int .i64 0] ∧ ∀ a b,Below w.heap.size w (set2 w1 (w.heap.size + 1) a b) from FIN) _ (b1.trans (b2.mono b1.size))
   obtain ⟨⟨c0,c1⟩,f0,f1⟩:=blk2 kx
   have HFH:Hid (∀ a b,Below w.heap.size w (set2 w2 (w.heap.size + 1) a b)):=HF
   clear HF FIN
   obtain ⟨v1,v2,v3⟩:=V
   unfold ret
   go_wp2
   refine bodyPost_ret (results_struct_tmp rfl _ _ (w.heap.size + 1) _ rfl (load_val (blk_set2 kx _ _))) rfl ?_
   exact ⟨rfl,HFH _ _⟩
  have em:=em_ne hm
  obtain rfl:no = V:=by rw [← hV];simp [readV,hx,hm]
  clear hV hx hm hlen
  generalize (⟨low.toArray⟩:ByteArray) = z at *
  go_wp2_with fail
  refine (hlow _).mono ?_
  clear hlow
  rintro e w1 ⟨rfl,b1⟩
  obtain ⟨kx,HF⟩:=(show ∀ (w1:World),Below W.heap.size W w1 → Blk w1 (w.heap.size + 1) 51 [.int .i64 0,.int .i64 0] ∧ ∀ a b,Below w.heap.size w (set2 w1 (w.heap.size + 1) a b) from FIN) _ (b1)
  obtain ⟨⟨c0,c1⟩,f0,f1⟩:=blk2 kx
  have HFH:Hid (∀ a b,Below w.heap.size w (set2 w1 (w.heap.size + 1) a b)):=HF
  clear HF FIN
  go_wp2
  refine bodyPost_ret (results_struct_tmp rfl _ _ (w.heap.size + 1) _ rfl (load_val (blk_set2 kx _ _))) rfl ?_
  exact ⟨rfl,HFH _ _⟩
 have e8:(kind == 8) = false:=by simpa using h8
 clear hlow
 by_cases h7:kind = 7
 ·subst h7
  have hE:lengthV p 4 n = V:=by rw [← hV];rfl
  replace hlen:=hlen 4
  clear hV hnum h1 h3 h8 e1 e3 e8
  simp only [hE] at hlen
  clear hE
  go_wp2_with fail
  refine (hlen _).mono ?_
  clear hlen
  rintro e w1 ⟨rfl,b1⟩
  obtain ⟨kx,HF⟩:=(show ∀ (w1:World),Below W.heap.size W w1 → Blk w1 (w.heap.size + 1) 51 [.int .i64 0,.int .i64 0] ∧ ∀ a b,Below w.heap.size w (set2 w1 (w.heap.size + 1) a b) from FIN) _ (b1)
  obtain ⟨⟨c0,c1⟩,f0,f1⟩:=blk2 kx
  have HFH:Hid (∀ a b,Below w.heap.size w (set2 w1 (w.heap.size + 1) a b)):=HF
  clear HF FIN
  obtain ⟨v1,v2,v3⟩:=V
  unfold ret
  go_wp2
  refine bodyPost_ret (results_struct_tmp rfl _ _ (w.heap.size + 1) _ rfl (load_val (blk_set2 kx _ _))) rfl ?_
  exact ⟨rfl,HFH _ _⟩
 have e7:(kind == 7) = false:=by simpa using h7
 clear hlen
 by_cases h6:kind = 6
 ·subst h6
  have hE:numberV p n wh = V:=by rw [← hV];rfl
  clear hV h1 h3 h8 h7 e1 e3 e8 e7
  simp only [hE] at hnum
  clear hE
  go_wp2_with fail
  refine (hnum _).mono ?_
  clear hnum
  rintro e w1 ⟨rfl,b1⟩
  obtain ⟨kx,HF⟩:=(show ∀ (w1:World),Below W.heap.size W w1 → Blk w1 (w.heap.size + 1) 51 [.int .i64 0,.int .i64 0] ∧ ∀ a b,Below w.heap.size w (set2 w1 (w.heap.size + 1) a b) from FIN) _ (b1)
  obtain ⟨⟨c0,c1⟩,f0,f1⟩:=blk2 kx
  have HFH:Hid (∀ a b,Below w.heap.size w (set2 w1 (w.heap.size + 1) a b)):=HF
  clear HF FIN
  obtain ⟨v1,v2,v3⟩:=V
  unfold ret
  go_wp2
  refine bodyPost_ret (results_struct_tmp rfl _ _ (w.heap.size + 1) _ rfl (load_val (blk_set2 kx _ _))) rfl ?_
  exact ⟨rfl,HFH _ _⟩
 have e6:(kind == 6) = false:=by simpa using h6
 obtain rfl:no = V:=by rw [← hV];simp [readV,h1,h3,h6,h7,h8]
 clear hV hnum h1 h3 h6 h7 h8
 obtain ⟨kx,HF⟩:=(show ∀ (w1:World),Below W.heap.size W w1 → Blk w1 (w.heap.size + 1) 51 [.int .i64 0,.int .i64 0] ∧ ∀ a b,Below w.heap.size w (set2 w1 (w.heap.size + 1) a b) from FIN) _ (Below.refl _ _)
 obtain ⟨⟨c0,c1⟩,f0,f1⟩:=blk2 kx
 have HFH:Hid (∀ a b,Below w.heap.size w (set2 W (w.heap.size + 1) a b)):=HF
 clear HF FIN
 go_wp2
 refine bodyPost_ret (results_struct_tmp rfl _ _ (w.heap.size + 1) _ rfl (load_val (blk_set2 kx _ _))) rfl ?_
 exact ⟨rfl,HFH _ _⟩
set_option maxHeartbeats 2000000 in
theorem parse_any (p:Int) (v:Value) (ts:List Bt) (w:World) (hS:WordsAt w.heap.size w) (hv:BtsAt w.heap.size w v ts) (ht:∀ t ∈ ts,t.text.size ≤ maxLen) :
  Calls Tryz.prog 117 #[.int .i64 p,v] w fun e w' => e = ret (parseV p ts) ∧ Below w.heap.size w w':=by
 have hl:=hv.short
 have b0:=zero_new w
 have k0:=Blk.new w 51 [.int .i64 0,.int .i64 0]
 have hip:=isProp_any p
 obtain ⟨q,cap,rfl⟩:=hv.len
 obtain ⟨V,hV⟩:∃ V,parseV p ts = V:=⟨_,rfl⟩
 rw [hV]
 replace hS:=(hS.below b0).mono b0.size
 replace hv:=hv.below b0
 go_enter Tryz.func117,Tryz.ntmps117
 go_upto_region 1 with fail
 replace k0:Blk (w.alloc (.cells #[.int .i64 0,.int .i64 0] 51)) w.heap.size _ _:=k0
 generalize w.alloc (.cells #[.int .i64 0,.int .i64 0] 51) = W at *
 obtain ⟨⟨c0,c1⟩,f0,f1⟩:=blk2 k0
 have hB:=k0.lt
 have HF:Hid (∀ a b,Below w.heap.size w (set2 W w.heap.size a b)):=fun a b => below_grew b0 (grown_set2 W w.heap.size a b) (by omega) (Nat.le_refl _)
 by_cases hp:0 ≤ p ∧ p ≤ 7
 ·rw [decide_eq_true hp] at hip
  by_cases h1:ts.length = 1
  ·obtain ⟨t,rfl⟩:=List.length_eq_one_iff.1 h1
   have hE:tokV p t = V:=by rw [← hV,parseV,if_pos hp]
   obtain ⟨bk,off,rfl,hbk,hc1,hc2,x0,x1,x2,x3,x4⟩:=hv.get (k:=0) (t:=t) rfl
   have hr:=read_any p t W hS (ht t (List.mem_singleton_self t))
   rw [hE] at hr
   clear hE
   clear hV hv ht hS h1 HF hp
   simp only [Nat.zero_mul,Nat.add_zero,List.length_singleton] at *
   go_wp2_with fail
   refine (hip _).mono ?_
   clear hip
   rintro e w1 ⟨rfl,rfl⟩
   go_wp2_with fail
   refine hr.mono ?_
   clear hr
   rintro e w2 ⟨rfl,b2⟩
   have kx:=k0.below b2 hB
   clear c0 c1 f0 f1 x0 x1 x2 x3 x4
   obtain ⟨⟨c0,c1⟩,f0,f1⟩:=blk2 kx
   have HF:Hid (∀ a b,Below w.heap.size w (set2 w2 w.heap.size a b)):=fun a b => below_grew (b0.trans (b2.mono b0.size)) (grown_set2 w2 w.heap.size a b) (by have:=b2.size;omega) (Nat.le_refl _)
   obtain ⟨v1,v2,v3⟩:=V
   unfold ret
   go_wp2
   refine bodyPost_ret (results_struct_tmp rfl _ _ w.heap.size _ rfl (load_val (blk_set2 kx _ _))) rfl ?_
   exact ⟨rfl,HF _ _⟩
  ·have hn1:((ts.length:Int) != 1) = true:=by simp;omega
   obtain rfl:no = V:=by
    rw [← hV]
    match ts,h1 with
    | [],_ => rfl
    | [_],h => exact absurd rfl h
    | _ :: _ :: _,_ => rfl
   clear hV h1 ht hv hS
   go_wp2_with fail
   refine (hip _).mono ?_
   clear hip
   rintro e w1 ⟨rfl,rfl⟩
   go_wp2
   refine bodyPost_ret (results_struct_tmp rfl _ _ w.heap.size _ rfl (load_val (blk_set2 k0 _ _))) rfl ?_
   exact ⟨rfl,HF _ _⟩
 ·rw [decide_eq_false hp] at hip
  obtain rfl:no = V:=by
   rw [← hV]
   match ts with
   | [] => rfl
   | [_] => rw [parseV,if_neg hp]
   | _ :: _ :: _ => rfl
  clear hV ht hv hS hp
  go_wp2_with fail
  refine (hip _).mono ?_
  clear hip
  rintro e w1 ⟨rfl,rfl⟩
  go_wp2
  refine bodyPost_ret (results_struct_tmp rfl _ _ w.heap.size _ rfl (load_val (blk_set2 k0 _ _))) rfl ?_
  exact ⟨rfl,HF _ _⟩
end Go.Proofs.YtagbjmocjaaioaaGreatDoor.Vl

/- package value: Sets, at every slice of declarations. -/
set_option maxRecDepth 100000
namespace Go.Proofs.YtagbjmocjaaioaaGreatDoor.Vl
open Go Go.RowKit
structure Dl where
 name:ByteArray
 val:List Bt
 v:Value
 imp:Bool
def DlAt (n₀:Nat) (W:World) (bk o:Nat) (d:Dl):Prop:=
 W.cell? ⟨bk,o,none⟩ = some (.string d.name) ∧ W.cell? ⟨bk,o + 1,none⟩ = some d.v ∧ W.cell? ⟨bk,o + 2,none⟩ = some (.bool d.imp) ∧ BtsAt n₀ W d.v d.val
def DlsAt (n₀:Nat) (W:World) (v:Value) (ds:List Dl):Prop:=
 (ds = [] ∧ (v = .slice none 0 0 ∨ ∃ x cap,v = .slice (some x) 0 cap ∧ cap ≤ maxLen)) ∨ ∃ bk off cap,v = .slice (some ⟨bk,off,none⟩) ds.length cap ∧ ds.length ≤ cap ∧ cap ≤ maxLen ∧ bk < n₀ ∧ ∀ j d,ds[j]? = some d → DlAt n₀ W bk (off + j * 3) d
theorem DlAt.below {n₀:Nat} {X Y:World} {bk o:Nat} {d:Dl} (h:DlAt n₀ X bk o d) (hb:Below n₀ X Y) (hbk:bk < n₀):DlAt n₀ Y bk o d:=by
 obtain ⟨h0,h1,h2,h3⟩:=h
 exact ⟨(hb.cell (p:=⟨bk,_,none⟩) hbk).trans h0,(hb.cell (p:=⟨bk,_,none⟩) hbk).trans h1,(hb.cell (p:=⟨bk,_,none⟩) hbk).trans h2,h3.below hb⟩
theorem DlsAt.below {n₀:Nat} {X Y:World} {v:Value} {l:List Dl} (h:DlsAt n₀ X v l) (hb:Below n₀ X Y):DlsAt n₀ Y v l:=by
 rcases h with h | ⟨bk,off,cap,rfl,h1,h2,hbk,h⟩
 ·exact .inl h
 ·exact .inr ⟨bk,off,cap,rfl,h1,h2,hbk,fun j t hj => (h j t hj).below hb hbk⟩
theorem DlsAt.mono {n₀ n₁:Nat} {X:World} {v:Value} {l:List Dl} (h:DlsAt n₀ X v l) (hn:n₀ ≤ n₁):DlsAt n₁ X v l:=by
 rcases h with h | ⟨bk,off,cap,rfl,h1,h2,hbk,h⟩
 ·exact .inl h
 ·exact .inr ⟨bk,off,cap,rfl,h1,h2,by omega,fun j d hj => ⟨(h j d hj).1,(h j d hj).2.1,(h j d hj).2.2.1,(h j d hj).2.2.2.mono hn⟩⟩
theorem DlsAt.next {X Y:World} {v:Value} {l:List Dl} (h:DlsAt X.heap.size X v l) (hb:Below X.heap.size X Y):DlsAt Y.heap.size Y v l:=(h.below hb).mono hb.size
theorem DlsAt.len {n₀:Nat} {X:World} {v:Value} {l:List Dl} (h:DlsAt n₀ X v l):∃ p cap,v = .slice p l.length cap:=by
 rcases h with ⟨rfl,rfl | ⟨x,cap,rfl,_⟩⟩ | ⟨bk,off,cap,rfl,_⟩
 ·exact ⟨_,_,rfl⟩
 ·exact ⟨_,_,rfl⟩
 ·exact ⟨_,_,rfl⟩
theorem DlsAt.get {n₀:Nat} {X:World} {p:Option Addr} {n cap:Nat} {l:List Dl} (h:DlsAt n₀ X (.slice p n cap) l) {k:Nat} {t:Dl} (hk:l[k]? = some t):∃ bk off,p = some ⟨bk,off,none⟩ ∧ bk < n₀ ∧ l.length ≤ cap ∧ cap ≤ maxLen ∧ DlAt n₀ X bk (off + k * 3) t:=by
 rcases h with ⟨rfl,_⟩ | ⟨bk,off,c,e,h1,h2,hb,h⟩
 ·simp at hk
 ·cases e
  exact ⟨bk,off,rfl,hb,h1,h2,h k t hk⟩
abbrev Sv:=Int × Int × Int × Bool
def svCells (s:Sv):List Value:=[.int .i64 s.1,.int .i64 s.2.1,.int .i64 s.2.2.1,.bool s.2.2.2]
def setOf (d:Dl):Option Sv:=if (propV d.name.data.toList).2 then (if (parseV (propV d.name.data.toList).1 d.val).2.2 then some ((propV d.name.data.toList).1,(parseV (propV d.name.data.toList).1 d.val).1,(parseV (propV d.name.data.toList).1 d.val).2.1,d.imp) else none) else none
def setsV (ds:List Dl):List Sv:=ds.filterMap setOf
theorem setsV_len (ds:List Dl):(setsV ds).length ≤ ds.length:=List.length_filterMap_le _ _
theorem setsV_drop {ds:List Dl} {k:Nat} {d:Dl} (h:ds[k]? = some d):setsV (ds.drop k) = (setOf d).toList ++ setsV (ds.drop (k + 1)):=by
 obtain ⟨hk,rfl⟩:=List.getElem?_eq_some_iff.1 h
 rw [List.drop_eq_getElem_cons hk]
 unfold setsV
 rw [List.filterMap_cons]
 cases setOf ds[k] <;> rfl
theorem grown_of_below {w w':World} (h:Below w.heap.size w w') (row:Option Nat):w.grownBy w' row:=⟨h.os,h.tape,h.output,h.size,fun i hi _ => h.block i hi⟩
theorem no_block (x:Value):x.ownBlock = none ∨ x.ownBlock ≠ none:=by
 cases x.ownBlock with
 | none => exact .inl rfl
 | some j => exact .inr (by simp)
theorem cells_new (w:World) (l:List Value) (ty:TypeId):∀ j u,l[j]? = some u → (w.alloc (.cells l.toArray ty)).cell? ((⟨w.heap.size,0,none⟩:Addr).add j) = some u:=fun j u hj => by
 rw [addr_add,Nat.zero_add,cell_of_block (heap_alloc_new w _) j]
 simpa using hj
theorem infoSet:(Tryz.prog.info? 127).map (fun i => (i.zero,i.size,i.bytes)) = some (some (.agg #[.int .i64 0,.int .i64 0,.int .i64 0,.bool false]),4,32):=by kernel_rfl
def SetsIn (b:Nat) (W:World) (v:Value) (qs:List Sv):Prop:=W.ownsRow b 127 4 v qs.length (qs.flatMap svCells)
theorem SetsIn.keep {b:Nat} {W W':World} {v:Value} {qs:List Sv} (h:SetsIn b W v qs) (hb:Below W.heap.size W W'):SetsIn b W' v qs:=World.ownsRow.kept h (grown_of_below hb none) (no_block _)
theorem SetsIn.form {b:Nat} {W:World} {v:Value} {qs:List Sv} (h:SetsIn b W v qs):∃ q c,v = .slice q qs.length c:=by
 rcases h.2 with ⟨rfl,h0⟩ | ⟨g,cap,cur,rfl,_⟩
 ·exact ⟨none,0,by rw [h0]⟩
 ·exact ⟨_,_,rfl⟩
set_option maxHeartbeats 4000000 in
theorem sets_any (v:Value) (ds:List Dl) (w:World) (hT:Tabs7 w.heap.size w) (hv:DlsAt w.heap.size w v ds) (ht:∀ d ∈ ds,∀ t ∈ d.val,t.text.size ≤ maxLen) (hl:ds.length ≤ 1000) :
  Calls Tryz.prog 69 #[v] w fun e w' => ∃ v',e = .returned v' ∧ SetsIn w.heap.size w' v' (setsV ds) ∧ Below w.heap.size w w':=by
 obtain ⟨i0,hi,hz0,hz1,hz2⟩:=info_parts infoSet
 obtain ⟨q,cap,rfl⟩:=hv.len
 have HT:Hid (∀ d ∈ ds,∀ t ∈ d.val,t.text.size ≤ maxLen):=ht
 clear ht
 obtain ⟨A,hA⟩:∃ A,setsV ds = A:=⟨_,rfl⟩
 have hAl:=setsV_len ds
 rw [hA] at hAl ⊢
 go_enter Tryz.func69,Tryz.ntmps69
 go_wp2
 go_loopw [3,12] (fun o i wr => ∃ (k:Nat) (qs:List Sv) (v0:Value),i = .int .i64 k ∧ o = v0 ∧ k ≤ ds.length ∧ qs.length ≤ k ∧ SetsIn w.heap.size wr v0 qs ∧ Hid (qs ++ setsV (ds.drop k) = A) ∧ Below w.heap.size w wr) (fun _ i _ => ds.length - (intOf i).toNat)
 case atStart => exact ⟨0,[],_,rfl,rfl,Nat.zero_le _,by simp,World.ownsRow_nil _ _ _ _,hA,Below.refl _ _⟩
 case round =>
  obtain ⟨k,qs,v0,rfl,rfl,hk,hqk,hR,HA,hbw⟩:=hrel
  clear hA
  have hTr:=hT.next hbw
  have hvr:=hv.next hbw
  obtain ⟨q0,c0,rfl⟩:=hR.form
  by_cases hlt:k < ds.length
  ·have hki:(k:Int) < (ds.length:Int):=by omega
   have hdk:ds[k]? = some ds[k]:=List.getElem?_eq_getElem hlt
   have htd:=(show ∀ d ∈ ds,∀ t ∈ d.val,t.text.size ≤ maxLen from HT) ds[k] (List.getElem_mem hlt)
   obtain ⟨bk,off,rfl,hbk,_,_,x0,x1,x2,hbt⟩:=hvr.get hdk
   have HA2:qs ++ ((setOf ds[k]).toList ++ setsV (ds.drop (k + 1))) = A:=by
    rw [← setsV_drop hdk]
    exact HA
   unfold setOf at HA2
   clear HA hdk
   generalize ds[k] = d at *
   obtain ⟨name,val,dv,imp⟩:=d
   simp only at htd x0 x1 x2 hbt HA2
   obtain ⟨qd,cd,rfl⟩:=hbt.len
   have bD:Below wr.heap.size wr (wr.alloc (.cells #[.string name,.slice qd val.length cd,.bool imp] 123)):=(Below.refl _ _).alloc (Nat.le_refl _) _
   have kD:Blk (wr.alloc (.cells #[.string name,.slice qd val.length cd,.bool imp] 123)) wr.heap.size _ _:=Blk.new wr 123 [.string name,.slice qd val.length cd,.bool imp]
   have hTD:=hTr.next bD
   have hbtD:=hbt.next bD
   have hRD:=hR.keep bD
   have hbD:=below_next hbw bD
   clear hTr hvr hbt hR
   have hp:=prop_any name _ hTD.2
   obtain ⟨pn,ok,hV⟩:∃ pn ok,propV name.data.toList = (pn,ok):=⟨_,_,rfl⟩
   rw [hV] at hp HA2
   simp only at hp HA2
   clear hV
   go_upto_region 5 with fail
   generalize wr.alloc (.cells #[.string name,.slice qd val.length cd,.bool imp] 123) = w1 at *
   obtain ⟨⟨y0,y1,y2⟩,_⟩:=blk3 kD
   have hs1:=hbD.size
   go_wp2_with fail
   refine hp.mono ?_
   clear hp x0 x1 x2
   rintro e w1' ⟨rfl,rfl⟩
   cases ok with
   | false =>
    have HA3:Hid (qs ++ setsV (ds.drop (k + 1)) = A):=by unfold Hid;simpa using HA2
    clear HA2
    go_wp2
    exact ⟨⟨k + 1,qs,_,by go_num,rfl,by omega,by omega,hRD,HA3,hbD⟩,by simp [intOf];omega⟩
   | true =>
    have hpa:=parse_any pn _ val _ hTD.1 hbtD htd
    simp only [if_true] at HA2
    obtain ⟨v1,v2,v3,hV⟩:∃ v1 v2 v3,parseV pn val = (v1,v2,v3):=⟨_,_,_,rfl⟩
    rw [hV] at hpa HA2
    simp only at HA2
    unfold ret at hpa
    simp only at hpa
    clear hV htd
    go_wp2_with fail
    refine hpa.mono ?_
    clear hpa
    rintro e w2 ⟨rfl,b2⟩
    have kD2:=kD.below b2 kD.lt
    have hRD2:=hRD.keep b2
    have hb2:=below_next hbD b2
    have bE:Below w2.heap.size w2 (w2.alloc (.cells #[.int .i64 v1,.int .i64 v2] 51)):=(Below.refl _ _).alloc (Nat.le_refl _) _
    have kE:Blk (w2.alloc (.cells #[.int .i64 v1,.int .i64 v2] 51)) w2.heap.size _ _:=Blk.new w2 51 [.int .i64 v1,.int .i64 v2]
    have kD3:=kD2.below bE kD2.lt
    have hRD3:=hRD2.keep bE
    have hb3:=below_next hb2 bE
    clear hRD hRD2 y0 y1 y2 hTD hbtD
    cases v3 with
    | false =>
     have HA3:Hid (qs ++ setsV (ds.drop (k + 1)) = A):=by unfold Hid;simpa using HA2
     clear HA2 kD3 kE
     go_wp2
     exact ⟨⟨k + 1,qs,_,by go_num,rfl,by omega,by omega,hRD3,HA3,hb3⟩,by simp [intOf];omega⟩
    | true =>
     have HA3:Hid ((qs ++ [(pn,v1,v2,imp)]) ++ setsV (ds.drop (k + 1)) = A):=by unfold Hid;simpa using HA2
     clear HA2
     obtain ⟨⟨y0,y1,y2⟩,_⟩:=blk3 kD3
     obtain ⟨⟨z0,z1⟩,_⟩:=blk2 kE
     have hs2:=hb2.size
     go_upto_region 9 with fail
     generalize w2.alloc (.cells #[.int .i64 v1,.int .i64 v2] 51) = w3 at *
     have HC:=cells_new w3 [.int .i64 pn,.int .i64 v1,.int .i64 v2,.bool imp] 127
     have hs3:=hb3.size
     have hR4:(w3.alloc (.cells #[.int .i64 pn,.int .i64 v1,.int .i64 v2,.bool imp] 127)).ownsRow w.heap.size 127 4 (.slice q0 qs.length c0) qs.length (qs.flatMap svCells):=World.ownsRow.alloc hRD3 _
     go_wp2_with (at_builtin;refine wpList_append_own _ rfl _ _ 77 rfl w.heap.size 127 i0 (.agg #[.int .i64 0,.int .i64 0,.int .i64 0,.bool false]) 4 32 Tryz.underlying77 hi hz0 hz1 hz2 rfl (by decide) _ _ _ rfl hR4 _ 1 1 [.int .i64 pn,.int .i64 v1,.int .i64 v2,.bool imp] rfl rfl HC (fun u hu => by simp at hu;rcases hu with rfl | rfl | rfl | rfl <;> rfl) (by unfold maxLen;omega) (by omega) (by rw [World.size_alloc];omega) ?_;intro v7 w7 hown7 hgrow7 hnil7)
     have hR7:SetsIn w.heap.size w7 v7 (qs ++ [(pn,v1,v2,imp)]):=by
      unfold SetsIn
      rw [List.length_append,List.flatMap_append]
      simpa [svCells] using hown7
     have hB7:=(hb3.alloc hs3 _).grown hgrow7 (by rw [World.size_alloc];omega) (fun j e => (World.ownsRow.lt hR4 j e).1)
     go_wp2
     exact ⟨⟨k + 1,qs ++ [(pn,v1,v2,imp)],_,by go_num,rfl,by omega,by simp;omega,hR7,HA3,hB7⟩,by simp [intOf];omega⟩
  ·have hki:¬ (k:Int) < (ds.length:Int):=by omega
   obtain rfl:qs = A:=by
    have:=HA
    unfold Hid at this
    rw [List.drop_eq_nil_of_le (by omega)] at this
    simpa [setsV] using this
   clear HA
   go_wp2
   go_ret
   exact ⟨_,rfl,hR,hbw⟩
end Go.Proofs.YtagbjmocjaaioaaGreatDoor.Vl

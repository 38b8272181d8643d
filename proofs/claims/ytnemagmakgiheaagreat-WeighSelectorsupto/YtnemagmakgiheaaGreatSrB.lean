/- The document's own reader of selectors: a condition of an attribute (attr). -/
import Derived.Test.YtnemagmakgiheaaGreatSrA
set_option maxRecDepth 100000
namespace Go.Proofs.YtnemagmakgiheaaGreat.Sr
open Go.Proofs.YtnemagmakgiheaaGreat.Tre
open Go Go.RowKit Sl
theorem infoAt:(Tryz.prog.info? 154).map (·.size) = some 3:=by kernel_rfl
theorem load_at {w:World} {g:Nat} {a b c:Value} (h:Blk w g 154 [a,b,c]):(loadVar 154 ⟨g,0,none⟩).run Tryz.prog w = .ok (.agg #[a,b,c]) w:=
 run_loadVar_row w g _ 154 #[a,b,c] (0,0) _ h Tryz.underlying154 rfl infoAt
structure AtSt (n₀ R:Nat) (v:Value) (ts:List Bt) (deep:Int) (w:World) (X:Nat) (x:At) (b:Nat) (bad:Bool) (W:World):Prop where
 z:Blk W w.heap.size 154 [.string ⟨#[]⟩,.int .i64 0,.string ⟨#[]⟩]
 x:Blk W X 154 [.string x.name,.int .i64 x.op,.string x.text]
 p:Pk n₀ W R v ts b bad deep
 but:But R w W
 hX:w.heap.size < X
 hR:R < w.heap.size
section
variable {n₀ R:Nat} {v:Value} {ts:List Bt} {deep:Int} {w:World} {X:Nat} {x:At} {b:Nat} {bad:Bool} {W W':World}
theorem AtSt.below (h:AtSt n₀ R v ts deep w X x b bad W) (hb:Below W.heap.size W W'):AtSt n₀ R v ts deep w X x b bad W':=⟨h.z.below hb h.z.lt,h.x.below hb h.x.lt,h.p.below hb,h.but.trans (But.of_below hb),h.hX,h.hR⟩
theorem AtSt.go (h:AtSt n₀ R v ts deep w X x b bad W) {b':Nat} {bad':Bool} (hP:Pk n₀ W' R v ts b' bad' deep) (hb:But R W W'):AtSt n₀ R v ts deep w X x b' bad' W':=by
 have:=h.hX
 have:=h.hR
 exact ⟨hb.blk h.z (by omega),hb.blk h.x (by omega),hP,h.but.trans hb,h.hX,h.hR⟩
theorem AtSt.at (h:AtSt n₀ R v ts deep w X x b bad W) {b':Nat} (hb:b' ≤ ts.length + 10):AtSt n₀ R v ts deep w X x b' bad (W.setCell ⟨R,1,none⟩ (.int .i64 b')):=h.go (h.p.set hb) (But.set R W 1 _)
theorem AtSt.spoil (h:AtSt n₀ R v ts deep w X x b bad W):AtSt n₀ R v ts deep w X x b true (W.setCell ⟨R,2,none⟩ (.bool true)):=h.go (h.p.spoil true) (But.set R W 2 _)
theorem AtSt.op (h:AtSt n₀ R v ts deep w X x b bad W) (o:Int):AtSt n₀ R v ts deep w X ⟨x.name,o,x.text⟩ b bad (W.setCell ⟨X,1,none⟩ (.int .i64 o)):=by
 have:=h.hX
 have:=h.hR
 have:=h.p.low
 exact ⟨Blk.other h.z (by omega) _,blk_put h.x 1 _,h.p.other (by omega) (by omega) _,Kept.fresh h.but (by omega) _,h.hX,h.hR⟩
theorem AtSt.text (h:AtSt n₀ R v ts deep w X x b bad W) (s:ByteArray):AtSt n₀ R v ts deep w X ⟨x.name,x.op,s⟩ b bad (W.setCell ⟨X,2,none⟩ (.string s)):=by
 have:=h.hX
 have:=h.hR
 have:=h.p.low
 exact ⟨Blk.other h.z (by omega) _,blk_put h.x 2 _,h.p.other (by omega) (by omega) _,Kept.fresh h.but (by omega) _,h.hX,h.hR⟩
def AttrOut (n₀ R:Nat) (v:Value) (ts:List Bt) (deep:Int) (w:World) (a:Nat) (V:Option (At × List Bt)) (e:Ending) (w':World):Prop:=
 ∃ (x:At) (b:Nat) (bad:Bool),e = .returned (.agg #[.string x.name,.int .i64 x.op,.string x.text]) ∧ Pk n₀ w' R v ts b bad deep ∧ a ≤ b ∧ ((bad = false ∧ V = some (x,ts.drop b) ∧ b ≤ ts.length) ∨ (bad = true ∧ V = none)) ∧ But R w w'
theorem AtSt.out (h:AtSt n₀ R v ts deep w X x b bad W) {a:Nat} {V:Option (At × List Bt)} (hab:a ≤ b) (hv:(bad = false ∧ V = some (x,ts.drop b) ∧ b ≤ ts.length) ∨ (bad = true ∧ V = none)) :
  (loadVar 154 ⟨w.heap.size,0,none⟩).run Tryz.prog (set3 W w.heap.size (.string x.name) (.int .i64 x.op) (.string x.text)) = .ok (.agg #[.string x.name,.int .i64 x.op,.string x.text]) (set3 W w.heap.size (.string x.name) (.int .i64 x.op) (.string x.text)) ∧
  AttrOut n₀ R v ts deep w a V (.returned (.agg #[.string x.name,.int .i64 x.op,.string x.text])) (set3 W w.heap.size (.string x.name) (.int .i64 x.op) (.string x.text)):=by
 have h1:=h.hR
 have h2:=h.p.low
 refine ⟨load_at (blk_set3 h.z _ _ _),x,b,bad,rfl,?_,hab,hv,?_⟩
 ·exact ((h.p.other (by omega) (by omega) _).other (by omega) (by omega) _).other (by omega) (by omega) _
 ·exact ((h.but.fresh (Nat.le_refl _) _).fresh (Nat.le_refl _) _).fresh (Nat.le_refl _) _
end
/-! ### the plain side, by places -/
def attr1 (nm:ByteArray) (r:List Bt):Option (At × List Bt):=match dropW r with
 | [] => none
 | t :: r3 => if t.kind = 19 then some (⟨nm,0,⟨#[]⟩⟩,r3) else (opV (t :: r3)).bind fun o => match dropW o.2 with
  | [] => none
  | h :: r5 => if h.kind = 1 ∨ h.kind = 4 then match dropW r5 with
    | e :: r6 => if e.kind = 19 then some (⟨nm,o.1,h.text⟩,r6) else none
    | [] => none
   else none
def attr2 (nm:ByteArray) (o:Int) (r:List Bt):Option (At × List Bt):=match dropW r with
 | [] => none
 | h :: r5 => if h.kind = 1 ∨ h.kind = 4 then match dropW r5 with
   | e :: r6 => if e.kind = 19 then some (⟨nm,o,h.text⟩,r6) else none
   | [] => none
  else none
theorem attr_0 {ts:List Bt} {a b:Nat} (h:ts.drop b = dropW (ts.drop a)):attrV (ts.drop a) = if (at' ts b).kind = 1 then attr1 (lowS (at' ts b).text) (ts.drop (b + 1)) else none:=by
 unfold attrV
 rw [← h]
 by_cases hl:b < ts.length
 ·rw [at_cons hl];rfl
 ·rw [(at_none (by omega)).1,(at_none (by omega)).2];rfl
theorem attr_1 {nm:ByteArray} {ts:List Bt} {a b:Nat} (h:ts.drop b = dropW (ts.drop a)):attr1 nm (ts.drop a) = if (at' ts b).kind = 19 then some (⟨nm,0,⟨#[]⟩⟩,ts.drop (b + 1)) else (opV (ts.drop b)).bind fun o => attr2 nm o.1 o.2:=by
 unfold attr1
 rw [← h]
 by_cases hl:b < ts.length
 ·rw [at_cons hl];rfl
 ·rw [(at_none (by omega)).1,(at_none (by omega)).2];rfl
theorem attr_2 {nm:ByteArray} {o:Int} {ts:List Bt} {a b:Nat} (h:ts.drop b = dropW (ts.drop a)) {c:Nat} (hc:ts.drop c = dropW (ts.drop (b + 1))):attr2 nm o (ts.drop a) = if (at' ts b).kind = 1 ∨ (at' ts b).kind = 4 then (if (at' ts c).kind = 19 then some (⟨nm,o,(at' ts b).text⟩,ts.drop (c + 1)) else none) else none:=by
 unfold attr2
 rw [← h]
 by_cases hl:b < ts.length
 ·rw [at_cons hl]
  simp only [← hc]
  by_cases hl:c < ts.length
  ·rw [at_cons hl]
  ·rw [(at_none (ts:=ts) (a:=c) (by omega)).1,(at_none (ts:=ts) (a:=c) (by omega)).2];rfl
 ·rw [(at_none (by omega)).1,(at_none (by omega)).2];rfl
theorem attr_2no {nm:ByteArray} {o:Int} {ts:List Bt} {a b:Nat} (h:ts.drop b = dropW (ts.drop a)) (h1:¬ ((at' ts b).kind = 1 ∨ (at' ts b).kind = 4)):attr2 nm o (ts.drop a) = none:=by
 unfold attr2
 rw [← h]
 by_cases hl:b < ts.length
 ·rw [at_cons hl]
  simp only [if_neg h1]
 ·rw [(at_none (by omega)).1]
def op5 (c:Int):Int:=if c = 126 then 2 else if c = 124 then 3 else if c = 94 then 4 else if c = 36 then 5 else if c = 42 then 6 else 0
def l5:List Int:=[126,124,94,36,42]
def opTo:Nat → Int → Int
 | 0,_ => 0
 | k + 1,c => if l5.getD k 0 = c then 2 + k else opTo k c
theorem opTo_5 (c:Int):opTo 5 c = op5 c:=by
 simp only [opTo,l5,op5,List.getD_cons_zero,List.getD_cons_succ]
 by_cases e1:c = 126 <;> by_cases e2:c = 124 <;> by_cases e3:c = 94 <;> by_cases e4:c = 36 <;> by_cases e5:c = 42 <;> first | omega | (subst_vars;first | rfl | decide) | (simp [e1,e2,e3,e4,e5,eq_comm])
def OpV (V:Option (At × List Bt)) (low:ByteArray) (ts:List Bt) (a:Nat) (o:Int) (c':Nat):Prop:=a ≤ c' ∧ (o ≠ 0 ∧ V = attr2 low o (ts.drop c') ∧ c' ≤ ts.length ∨ o = 0 ∧ V = none)
theorem op_is {ts:List Bt} {b:Nat} (h:(at' ts b).kind = 10 ∧ (at' ts b).c = 61):opV (ts.drop b) = some (1,ts.drop (b + 1)):=by
 have hl:b < ts.length:=at_lt (by rw [h.1];decide)
 rw [at_cons hl]
 generalize at' ts b = T at *
 simp [opV,opOf,isSg,h.1,h.2]
theorem op_two {ts:List Bt} {b:Nat} (h:(at' ts b).kind = 10) (h1:¬ (at' ts b).c = 61) (h2:(at' ts (b + 1)).kind = 10 ∧ (at' ts (b + 1)).c = 61):opV (ts.drop b) = if op5 (at' ts b).c = 0 then none else some (op5 (at' ts b).c,ts.drop (b + 2)):=by
 have hl:b < ts.length:=at_lt (by rw [h];decide)
 have hl2:b + 1 < ts.length:=at_lt (by rw [h2.1];decide)
 rw [at_cons hl,at_cons hl2]
 generalize at' ts b = T at *
 generalize at' ts (b + 1) = U at *
 simp only [opV,opOf,isSg,h,h2.1,h2.2,op5]
 by_cases e1:T.c = 126 <;> by_cases e2:T.c = 124 <;> by_cases e3:T.c = 94 <;> by_cases e4:T.c = 36 <;> by_cases e5:T.c = 42 <;> simp [e1,e2,e3,e4,e5,h1] <;> omega
theorem op_none {ts:List Bt} {b:Nat} (h1:¬ ((at' ts b).kind = 10 ∧ (at' ts b).c = 61)) (h2:(at' ts b).kind = 10 → ¬ ((at' ts (b + 1)).kind = 10 ∧ (at' ts (b + 1)).c = 61)):opV (ts.drop b) = none:=by
 by_cases hl:b < ts.length
 ·rw [at_cons hl]
  have hn:∀ U,(ts.drop (b + 1)).head? = some U → U = at' ts (b + 1):=fun U hU => by rw [at_drop,hU];rfl
  generalize at' ts b = T at *
  simp only [opV]
  have e:isSg T 61 = false:=by simpa [isSg] using h1
  rw [e]
  by_cases hk:T.kind = 10
  ·cases hd:ts.drop (b + 1) with
   | nil => cases opOf T <;> rfl
   | cons U r =>
    have:=hn U (by rw [hd];rfl)
    subst this
    have e2:isSg (at' ts (b + 1)) 61 = false:=by simpa [isSg] using h2 hk
    simp only [e2]
    cases opOf T <;> rfl
  ·have:opOf T = none:=by simp [opOf,isSg,hk]
   rw [this]
   rfl
 ·rw [(at_none (by omega)).1]
  rfl
end Go.Proofs.YtnemagmakgiheaaGreat.Sr
/- The document's own reader of selectors: a condition of an attribute (attr), at every place. -/
namespace Go.Proofs.YtnemagmakgiheaaGreat.Sr
open Go.Proofs.YtnemagmakgiheaaGreat.Tre
open Go Go.RowKit Sl
set_option maxHeartbeats 2000000 in
theorem attr_any (n₀ R:Nat) (v:Value) (ts:List Bt) (a:Nat) (deep:Int) (w:World) (hP:Pk n₀ w R v ts a false deep) (ha:a ≤ ts.length) (hG:Sl.Good ts) :
  Calls Tryz.prog 139 #[.pointer (some ⟨R,0,none⟩)] w (AttrOut n₀ R v ts deep w a (attrV (ts.drop a))):=by
 have hlm:=hP.most
 have hR:=hP.lt
 have b0:Below w.heap.size w (w.alloc (.cells #[.string ⟨#[]⟩,.int .i64 0,.string ⟨#[]⟩] 154)):=(Below.refl _ w).alloc (Nat.le_refl _) _
 have kZ:=Blk.new w 154 [.string ⟨#[]⟩,.int .i64 0,.string ⟨#[]⟩]
 replace kZ:Blk (w.alloc (.cells #[.string ⟨#[]⟩,.int .i64 0,.string ⟨#[]⟩] 154)) w.heap.size _ _:=kZ
 have hP1:=hP.below b0
 have hB1:But R w _:=But.of_below b0
 have H0:=fun b (h:ts.drop b = dropW (ts.drop a)) => attr_0 h
 obtain ⟨V,hV⟩:∃ V,attrV (ts.drop a) = V:=⟨_,rfl⟩
 rw [hV] at H0 ⊢
 clear hV
 have HG:Hid (Sl.Good ts):=hG
 clear hG
 go_enter Tryz.func139,Tryz.ntmps139
 go_upto_region 1 with fail
 generalize w.alloc (.cells #[.string ⟨#[]⟩,.int .i64 0,.string ⟨#[]⟩] 154) = W1 at *
 have h1:=white_any n₀ R v ts a false deep W1 hP1
 go_wp2_with fail
 refine h1.mono ?_
 clear h1
 rintro e w2 ⟨b,rfl,hab,hbl,hdb,hP2,hbut2⟩
 have hbl':b ≤ ts.length:=by omega
 have H0':=H0 b hdb
 clear H0
 have H0:Hid (V = _):=H0'
 clear H0'
 clear hbl
 replace kZ:=hbut2.blk kZ (by omega)
 have hB2:=hB1.trans hbut2
 clear hB1 hbut2 hP1 hdb
 have h2:=see_any n₀ R v ts b false deep 0 w2 hP2 (by omega)
 rw [Nat.add_zero] at h2
 have hTm:=Sl.Good.at HG b
 have h4:=fun X hX => see_any n₀ R v ts b false deep 0 X hX (by omega)
 rw [Nat.add_zero] at h4
 have hlt:Hid ((at' ts b).kind = 1 → b < ts.length):=fun h => at_lt (by rw [h];decide)
 generalize at' ts b = T at *
 unfold tkV at h2 h4
 go_wp2_with fail
 refine h2.mono ?_
 clear h2
 rintro e w3 ⟨rfl,b3⟩
 have hf1:=tkField1 T.kind T.text T.n T.whole T.c w3
 have hlow:=Lw.refLower_any T.text w3 (Nat.le_trans hTm.1 (by decide))
 obtain ⟨low,hlw⟩:∃ low:ByteArray,(⟨(Lw.low T.text.data.toList).toArray⟩:ByteArray) = low:=⟨_,rfl⟩
 rw [hlw] at hlow
 have hls:lowS T.text = low:=hlw
 replace H0:Hid (V = if T.kind = 1 then attr1 low (ts.drop (b + 1)) else none):=by rw [← hls];exact H0
 clear hlw hls
 go_wp2_with fail
 refine hlow.mono ?_
 clear hlow hf1
 rintro e w4 ⟨rfl,b4⟩
 have b24:=below_next b3 b4
 have bX:Below w4.heap.size w4 (w4.alloc (.cells #[.string low,.int .i64 0,.string ⟨#[]⟩] 154)):=(Below.refl _ _).alloc (Nat.le_refl _) _
 have kX:Blk (w4.alloc (.cells #[.string low,.int .i64 0,.string ⟨#[]⟩] 154)) w4.heap.size 154 [.string low,.int .i64 0,.string ⟨#[]⟩]:=Blk.new w4 154 _
 have b25:=below_next b24 bX
 have hz4:w.heap.size < w4.heap.size:=Nat.lt_of_lt_of_le kZ.lt b24.size
 have S5:AtSt n₀ R v ts deep w w4.heap.size ⟨low,0,⟨#[]⟩⟩ b false _:=⟨kZ.below b25 kZ.lt,kX,hP2.below b25,hB2.trans (But.of_below b25),hz4,hR⟩
 clear b3 b4 b24 bX kX b25 hP2 hB2 kZ b0 hP
 go_upto_region 3 with fail
 generalize w4.alloc (.cells #[.string low,.int .i64 0,.string ⟨#[]⟩] 154) = W5 at *
 generalize w4.heap.size = X at *
 have h5:=h4 W5 S5.p
 clear h4
 go_wp2_with fail
 refine h5.mono ?_
 clear h5
 rintro e w6 ⟨rfl,b6⟩
 have S6:=S5.below b6
 clear S5 b6
 have hf0:=tkField0 T.kind T.text T.n T.whole T.c w6
 by_cases g1:T.kind = 1
 case neg =>
  have H1:V = none:=Eq.trans (show V = _ from H0) (if_neg g1)
  clear H0
  replace H1:Hid (V = none):=H1
  have e1:(T.kind != 1) = true:=by simpa using g1
  obtain ⟨⟨p0,p1,p2,p3⟩,q0,q1,q2,q3⟩:=blk4 S6.p.blk
  have S7:=S6.spoil
  clear g1
  go_upto_region 5 with fail
  generalize w6.setCell ⟨R,2,none⟩ (.bool true) = W7 at *
  clear p0 p1 p2 p3 q0 q1 q2 q3 S6
  obtain ⟨⟨x0,x1,x2⟩,_⟩:=blk3 S7.x
  obtain ⟨⟨z0,z1,z2⟩,y0,y1,y2⟩:=blk3 S7.z
  obtain ⟨hL,hO⟩:=S7.out hab (.inr ⟨rfl,H1⟩)
  go_wp2
  exact bodyPost_ret (results_struct rfl _ _ w.heap.size _ rfl hL) rfl hO
 replace H0:Hid (V = attr1 low (ts.drop (b + 1))):=Eq.trans (show V = _ from H0) (if_pos g1)
 replace hlt:b < ts.length:=(show _ → _ from hlt) g1
 rw [g1] at hf0
 obtain ⟨⟨p0,p1,p2,p3⟩,q0,q1,q2,q3⟩:=blk4 S6.p.blk
 have hw1:IntKind.i64.wrap ((b:Int) + 1) = (b:Int) + 1:=by rw [IntKind.wrap_i64];omega
 have S7:=S6.at (b':=b + 1) (by omega)
 push_cast at S7
 clear hTm
 go_upto_region 7 with fail
 generalize w6.setCell ⟨R,1,none⟩ (.int .i64 ((b:Int) + 1)) = W7 at *
 clear p0 p1 p2 p3 q0 q1 q2 q3 S6 hf0 hw1
 have h7:=white_any n₀ R v ts (b + 1) false deep W7 S7.p
 go_wp2_with fail
 refine h7.mono ?_
 clear h7
 rintro e w8 ⟨c,rfl,hbc,hcl,hdc,hP8,hbut8⟩
 have S8:=S7.go hP8 hbut8
 clear S7 hP8 hbut8
 have hcl':c ≤ ts.length:=by omega
 replace H0:Hid (V = _):=Eq.trans (show V = _ from H0) (attr_1 hdc)
 clear hcl hdc
 have h8:=see_any n₀ R v ts c false deep 0 w8 S8.p (by omega)
 have h9:=fun X hX => see_any n₀ R v ts c false deep 0 X hX (by omega)
 rw [Nat.add_zero] at h8 h9
 have hU:∃ U,at' ts c = U:=⟨_,rfl⟩
 obtain ⟨U,hU⟩:=hU
 rw [hU] at h8 h9
 replace H0:Hid (V = if U.kind = 19 then some (⟨low,0,⟨#[]⟩⟩,ts.drop (c + 1)) else (opV (ts.drop c)).bind fun o => attr2 low o.1 o.2):=by rw [← hU];exact H0
 unfold tkV at h8 h9
 go_wp2_with fail
 refine h8.mono ?_
 clear h8
 rintro e w9 ⟨rfl,b9⟩
 have S9:=S8.below b9
 clear S8 b9
 have hf0:=tkField0 U.kind U.text U.n U.whole U.c w9
 by_cases g19:U.kind = 19
 case pos =>
  replace H0:Hid (V = some (⟨low,0,⟨#[]⟩⟩,ts.drop (c + 1))):=Eq.trans (show V = _ from H0) (if_pos g19)
  rw [g19] at hf0
  have hcl2:c < ts.length:=at_lt (by rw [hU,g19];decide)
  obtain ⟨⟨p0,p1,p2,p3⟩,q0,q1,q2,q3⟩:=blk4 S9.p.blk
  have hw1:IntKind.i64.wrap ((c:Int) + 1) = (c:Int) + 1:=by rw [IntKind.wrap_i64];omega
  have S10:=S9.at (b':=c + 1) (by omega)
  push_cast at S10
  rw [g19]
  clear h9 g19
  go_upto_region 10 with fail
  generalize w9.setCell ⟨R,1,none⟩ (.int .i64 ((c:Int) + 1)) = W10 at *
  clear p0 p1 p2 p3 q0 q1 q2 q3 S9
  obtain ⟨⟨x0,x1,x2⟩,_⟩:=blk3 S10.x
  obtain ⟨⟨z0,z1,z2⟩,y0,y1,y2⟩:=blk3 S10.z
  obtain ⟨hL,hO⟩:=S10.out (a:=a) (by omega) (.inl ⟨rfl,H0,by omega⟩)
  go_wp2
  exact bodyPost_ret (results_struct rfl _ _ w.heap.size _ rfl hL) rfl hO
 replace H0:Hid (V = (opV (ts.drop c)).bind fun o => attr2 low o.1 o.2):=Eq.trans (show V = _ from H0) (if_neg g19)
 have e19:(U.kind == 19) = false:=by simpa using g19
 have h10:=h9 w9 S9.p
 clear h9
 go_upto_region 11 with fail
 clear hf0 e19 g19
 go_wp2_with fail
 refine h10.mono ?_
 clear h10
 rintro e w10 ⟨rfl,b10⟩
 have S10:=S9.below b10
 clear S9 b10
 have bO:Below w10.heap.size w10 (w10.alloc (.cells #[.int .i64 U.kind,.string U.text,.int .i64 U.n,.bool U.whole,.int .i64 U.c] 122)):=(Below.refl _ _).alloc (Nat.le_refl _) _
 have kO:Blk (w10.alloc (.cells #[.int .i64 U.kind,.string U.text,.int .i64 U.n,.bool U.whole,.int .i64 U.c] 122)) w10.heap.size 122 [.int .i64 U.kind,.string U.text,.int .i64 U.n,.bool U.whole,.int .i64 U.c]:=Blk.new w10 122 _
 have S11:=S10.below bO
 have hOX:X < w10.heap.size:=S10.x.lt
 have hOR:R < w10.heap.size:=S10.p.lt
 clear S10 bO
 go_upto_region 12 with fail
 generalize w10.alloc (.cells #[.int .i64 U.kind,.string U.text,.int .i64 U.n,.bool U.whole,.int .i64 U.c] 122) = W11 at *
 generalize w10.heap.size = O at *
 obtain ⟨⟨t0,t1,t2,t3,t4⟩,_⟩:=blk5 kO
 have hw1:IntKind.i64.wrap ((c:Int) + 1) = (c:Int) + 1:=by rw [IntKind.wrap_i64];omega
 have hw2:IntKind.i64.wrap ((c:Int) + 2) = (c:Int) + 2:=by rw [IntKind.wrap_i64];omega
 obtain ⟨B,HB⟩:∃ B,Hid (decide (U.kind = 10 ∧ U.c = 61) = B):=⟨_,rfl⟩
 go_cut [53] (fun b wx => b = .bool B ∧ W11 = wx)
 case first =>
  by_cases gk:U.kind = 10
  ·rw [gk] at t0
   by_cases gc:U.c = 61
   ·obtain rfl:true = B:=(decide_eq_true (⟨gk,gc⟩:U.kind = 10 ∧ U.c = 61)).symm.trans HB
    rw [gc] at t4
    clear gk HB gc
    go_wp2
    go_meet
    exact ⟨rfl,rfl⟩
   ·obtain rfl:false = B:=(decide_eq_false (fun h:U.kind = 10 ∧ U.c = 61 => gc h.2)).symm.trans HB
    have gc':(U.c == 61) = false:=by simpa using gc
    clear gk gc HB
    go_wp2
    go_meet
    exact ⟨rfl,rfl⟩
  ·obtain rfl:false = B:=(decide_eq_false (fun h:U.kind = 10 ∧ U.c = 61 => gk h.1)).symm.trans HB
   have gk':(U.kind == 10) = false:=by simpa using gk
   clear gk HB
   go_wp2
   go_meet
   exact ⟨rfl,rfl⟩
 case rest =>
 obtain ⟨rfl,rfl⟩:=hcut
 go_upto_if 53 with fail
 go_cut [] (fun wx => ∃ (o:Int) (c':Nat),AtSt n₀ R v ts deep w X ⟨low,o,⟨#[]⟩⟩ c' false wx ∧ OpV V low ts a o c')
 case first =>
  obtain ⟨⟨p0,p1,p2,p3⟩,q0,q1,q2,q3⟩:=blk4 S11.p.blk
  obtain ⟨⟨x0,x1,x2⟩,y0,y1,y2⟩:=blk3 S11.x
  have hXR:X ≠ R:=by have:=S11.hX;omega
  by_cases gi:U.kind = 10 ∧ U.c = 61
  ·have hop:=op_is (ts:=ts) (b:=c) (by rw [hU];exact gi)
   have hcl2:c < ts.length:=at_lt (by rw [hU,gi.1];decide)
   have S12:=(S11.op 1).at (b':=c + 1) (by omega)
   push_cast at S12
   have HV:OpV V low ts a 1 (c + 1):=⟨by omega,.inl ⟨by decide,by have h:V = _:=H0;rw [h,hop];rfl,hcl2⟩⟩
   obtain rfl:true = B:=(decide_eq_true gi).symm.trans HB
   clear H0 hop S11 gi HB
   go_wp2
   go_meet
   exact ⟨1,c + 1,S12,HV⟩
  ·obtain rfl:false = B:=(decide_eq_false gi).symm.trans HB
   clear HB
   go_upto_region 15 with fail
   by_cases gk:U.kind = 10
   case neg =>
    have gk':(U.kind == 10) = false:=by simpa using gk
    have HV:OpV V low ts a 0 c:=⟨by omega,.inr ⟨rfl,by have h:V = _:=H0;rw [h,op_none (by rw [hU];exact gi) (fun h => absurd (by rw [hU] at h;exact h) gk)];rfl⟩⟩
    clear gi gk H0
    go_wp2
    go_meet
    exact ⟨0,c,S11,HV⟩
   have hcl2:c < ts.length:=at_lt (by rw [hU,gk];decide)
   have hd:=delim_any n₀ R v ts c false deep 1 61 W11 S11.p (by omega)
   have t0':=t0
   rw [gk] at t0'
   by_cases gd:(at' ts (c + 1)).kind = 10 ∧ (at' ts (c + 1)).c = 61
   case neg =>
    rw [decide_eq_false gd] at hd
    have HV:OpV V low ts a 0 c:=⟨by omega,.inr ⟨rfl,by have h:V = _:=H0;rw [h,op_none (by rw [hU];exact gi) (fun _ => gd)];rfl⟩⟩
    clear gi gd H0 gk t0
    go_wp2_with fail
    refine hd.mono ?_
    clear hd
    rintro e w12 ⟨rfl,b12⟩
    have S12:=S11.below b12
    clear S11 b12
    go_wp2
    go_meet
    exact ⟨0,c,S12,HV⟩
   rw [decide_eq_true gd] at hd
   have hop:=op_two (ts:=ts) (b:=c) (by rw [hU];exact gk) (by rw [hU];exact fun h => gi ⟨gk,h⟩) gd
   rw [hU] at hop
   have hcl3:c + 1 < ts.length:=at_lt (by rw [gd.1];decide)
   have HV:OpV V low ts a (op5 U.c) (c + 2):=by
    refine ⟨by omega,?_⟩
    have h:V = _:=H0
    rw [hop] at h
    by_cases h0:op5 U.c = 0
    ·rw [if_pos h0] at h;exact .inr ⟨h0,h⟩
    ·rw [if_neg h0] at h;exact .inl ⟨h0,h,by omega⟩
   clear H0 hop gi gd t0 gk
   go_wp2_with fail
   refine hd.mono ?_
   clear hd
   rintro e w12 ⟨rfl,b12⟩
   have S12:=S11.below b12
   replace kO:=kO.below b12 kO.lt
   clear S11 b12 t0' t1 t2 t3 t4 p0 p1 p2 p3 q0 q1 q2 q3 x0 x1 x2 y0 y1 y2
   have bL:Below w12.heap.size w12 (w12.alloc (.cells #[.int .i64 126,.int .i64 124,.int .i64 94,.int .i64 36,.int .i64 42] 3)):=(Below.refl _ _).alloc (Nat.le_refl _) _
   have kL:Blk (w12.alloc (.cells #[.int .i64 126,.int .i64 124,.int .i64 94,.int .i64 36,.int .i64 42] 3)) w12.heap.size 3 [.int .i64 126,.int .i64 124,.int .i64 94,.int .i64 36,.int .i64 42]:=Blk.new w12 3 _
   have S13:=S12.below bL
   replace kO:=kO.below bL kO.lt
   have hLX:w12.heap.size ≠ X:=by have:=S12.x.lt;omega
   have hOX':O ≠ X:=by omega
   clear S12 bL
   go_upto_region 17 with fail
   generalize w12.alloc (.cells #[.int .i64 126,.int .i64 124,.int .i64 94,.int .i64 36,.int .i64 42] 3) = W13 at *
   generalize w12.heap.size = LL at *
   go_wp2
   go_loopw [6] (fun y wr => ∃ (k:Nat),y = .int .i64 k ∧ k ≤ 5 ∧ AtSt n₀ R v ts deep w X ⟨low,opTo k U.c,⟨#[]⟩⟩ c false wr ∧ Blk wr O 122 [.int .i64 U.kind,.string U.text,.int .i64 U.n,.bool U.whole,.int .i64 U.c] ∧ Blk wr LL 3 [.int .i64 126,.int .i64 124,.int .i64 94,.int .i64 36,.int .i64 42]) (fun y _ => 5 - (intOf y).toNat)
   case atStart => exact ⟨0,rfl,by omega,S13,kO,kL⟩
   case round =>
    obtain ⟨k,rfl,hk5,Sk,kOk,kLk⟩:=hrel
    clear S13 kO kL
    obtain ⟨⟨t0,t1,t2,t3,t4⟩,_⟩:=blk5 kOk
    obtain ⟨⟨l0,l1,l2,l3,l4⟩,_⟩:=blk5 kLk
    obtain ⟨⟨x0,x1,x2⟩,y0,y1,y2⟩:=blk3 Sk.x
    by_cases hlt5:k < 5
    ·have hki:(k:Int) < 5:=by omega
     obtain ⟨z,hz,hcell⟩:∃ z,l5.getD k 0 = z ∧ wr.cell? ⟨LL,k,none⟩ = some (.int .i64 z):=by
      have:k = 0 ∨ k = 1 ∨ k = 2 ∨ k = 3 ∨ k = 4:=by omega
      rcases this with rfl | rfl | rfl | rfl | rfl
      ·exact ⟨_,rfl,l0⟩
      ·exact ⟨_,rfl,l1⟩
      ·exact ⟨_,rfl,l2⟩
      ·exact ⟨_,rfl,l3⟩
      ·exact ⟨_,rfl,l4⟩
     have hto:opTo (k + 1) U.c = if z = U.c then 2 + (k:Int) else opTo k U.c:=by rw [← hz];rfl
     clear l0 l1 l2 l3 l4 t0 t1 t2 t3 hz hk5
     have hwk:IntKind.i64.wrap ((k:Int) + 1) = (k:Int) + 1:=by rw [IntKind.wrap_i64];omega
     have hwk2:IntKind.i64.wrap (2 + (k:Int)) = 2 + (k:Int):=by rw [IntKind.wrap_i64];omega
     have HN:Hid (∀ (n:Nat) (o:Int),o = opTo (k + 1) U.c → AtSt n₀ R v ts deep w X ⟨low,opTo (k + 1) U.c,⟨#[]⟩⟩ c false ((wr.drewN n).setCell ⟨X,1,none⟩ (.int .i64 o)) ∧ Blk ((wr.drewN n).setCell ⟨X,1,none⟩ (.int .i64 o)) O 122 [.int .i64 U.kind,.string U.text,.int .i64 U.n,.bool U.whole,.int .i64 U.c] ∧ Blk ((wr.drewN n).setCell ⟨X,1,none⟩ (.int .i64 o)) LL 3 [.int .i64 126,.int .i64 124,.int .i64 94,.int .i64 36,.int .i64 42]):=fun n o ho => by
      subst ho
      exact ⟨(Sk.below (below_drewN wr n)).op _,Blk.other (blk_drew kOk n) hOX' _,Blk.other (blk_drew kLk n) hLX _⟩
     have HM:Hid (∀ (n:Nat),opTo (k + 1) U.c = opTo k U.c → AtSt n₀ R v ts deep w X ⟨low,opTo (k + 1) U.c,⟨#[]⟩⟩ c false (wr.drewN n) ∧ Blk (wr.drewN n) O 122 [.int .i64 U.kind,.string U.text,.int .i64 U.n,.bool U.whole,.int .i64 U.c] ∧ Blk (wr.drewN n) LL 3 [.int .i64 126,.int .i64 124,.int .i64 94,.int .i64 36,.int .i64 42]):=fun n ho => by
      rw [ho]
      exact ⟨Sk.below (below_drewN wr n),blk_drew kOk n,blk_drew kLk n⟩
     have HTO:Hid (opTo (k + 1) U.c = if z = U.c then 2 + (k:Int) else opTo k U.c):=hto
     clear hto Sk kOk kLk
     by_cases hzc:z = U.c
     ·have hzz:(z == U.c) = true:=by simpa using hzc
      have HE:Hid (2 + (k:Int) = opTo (k + 1) U.c):=((show _ = _ from HTO).trans (if_pos hzc)).symm
      clear HTO hzc
      go_wp2
      go_quiet (fail)
      go_wp2
      exact ⟨⟨k + 1,by go_num,by omega,(show ∀ (n:Nat) (o:Int),_ → _ from HN) _ _ HE⟩,by simp [intOf];omega⟩
     ·have hzz:(z == U.c) = false:=by simpa using hzc
      have HE:Hid (opTo (k + 1) U.c = opTo k U.c):=(show _ = _ from HTO).trans (if_neg hzc)
      clear HTO hzc
      go_wp2
      go_quiet (fail)
      go_wp2
      exact ⟨⟨k + 1,by go_num,by omega,(show ∀ (n:Nat),_ → _ from HM) _ HE⟩,by simp [intOf];omega⟩
    ·obtain rfl:k = 5:=by omega
     rw [opTo_5] at Sk
     obtain ⟨⟨p0,p1,p2,p3⟩,q0,q1,q2,q3⟩:=blk4 Sk.p.blk
     have S12:=Sk.at (b':=c + 2) (by omega)
     push_cast at S12
     generalize op5 U.c = o at *
     clear l0 l1 l2 l3 l4 t0 t1 t2 t3 t4 x0 x1 x2 y0 y1 y2 Sk kLk
     go_wp2
     go_meet
     exact ⟨o,c + 2,S12,HV⟩
 case rest =>
 clear S11 H0 t0 t1 t2 t3 t4 kO hw1 hw2 hU
 obtain ⟨o,c',S12,HV⟩:=hcut
 obtain ⟨⟨x0,x1,x2⟩,y0,y1,y2⟩:=blk3 S12.x
 by_cases g0:o = 0
 ·subst g0
  have HV':Hid (a ≤ c' ∧ V = none):=by
   obtain ⟨h1,h2 | h2⟩:=(show _ ∧ _ from HV)
   ·exact absurd rfl h2.1
   ·exact ⟨h1,h2.2⟩
  clear HV
  obtain ⟨⟨p0,p1,p2,p3⟩,q0,q1,q2,q3⟩:=blk4 S12.p.blk
  have S13:=S12.spoil
  go_upto_region 25 with fail
  generalize wc.setCell ⟨R,2,none⟩ (.bool true) = W13 at *
  clear p0 p1 p2 p3 q0 q1 q2 q3 S12 x0 x1 x2 y0 y1 y2
  obtain ⟨⟨x0,x1,x2⟩,_⟩:=blk3 S13.x
  obtain ⟨⟨z0,z1,z2⟩,y0,y1,y2⟩:=blk3 S13.z
  obtain ⟨hL,hO⟩:=S13.out (show _ ∧ _ from HV').1 (.inr ⟨rfl,(show _ ∧ _ from HV').2⟩)
  go_wp2
  exact bodyPost_ret (results_struct rfl _ _ w.heap.size _ rfl hL) rfl hO
 have g0':(o == 0) = false:=by simpa using g0
 have HV':Hid (a ≤ c' ∧ V = attr2 low o (ts.drop c') ∧ c' ≤ ts.length):=by
  obtain ⟨h1,h2 | h2⟩:=(show _ ∧ _ from HV)
  ·exact ⟨h1,h2.2⟩
  ·exact absurd h2.1 g0
 have hcc:a ≤ c' ∧ c' ≤ ts.length:=⟨(show _ ∧ _ ∧ _ from HV').1,(show _ ∧ _ ∧ _ from HV').2.2⟩
 clear HV g0
 have h12:=white_any n₀ R v ts c' false deep wc S12.p
 go_wp2_with fail
 refine h12.mono ?_
 clear h12 x0 x1 x2 y0 y1 y2
 rintro e w13 ⟨d,rfl,hcd,hdl,hdd,hP13,hbut13⟩
 have S13:=S12.go hP13 hbut13
 clear S12 hP13 hbut13
 have hdl':d ≤ ts.length:=by omega
 clear hdl
 have h13:=see_any n₀ R v ts d false deep 0 w13 S13.p (by omega)
 have h14:=fun X hX => see_any n₀ R v ts d false deep 0 X hX (by omega)
 rw [Nat.add_zero] at h13 h14
 obtain ⟨H,hH⟩:∃ H,at' ts d = H:=⟨_,rfl⟩
 rw [hH] at h13 h14
 unfold tkV at h13 h14
 go_wp2_with fail
 refine h13.mono ?_
 clear h13
 rintro e w14 ⟨rfl,b14⟩
 have S14:=S13.below b14
 clear S13 b14
 have hf0:=tkField0 H.kind H.text H.n H.whole H.c w14
 replace h14:=h14 w14 S14.p
 go_wp2_with fail
 refine h14.mono ?_
 clear h14 hf0
 rintro e w15 ⟨rfl,b15⟩
 have S15:=S14.below b15
 clear S14 b15
 have hf1:=tkField1 H.kind H.text H.n H.whole H.c w15
 obtain ⟨⟨x0,x1,x2⟩,y0,y1,y2⟩:=blk3 S15.x
 have S16:=S15.text H.text
 go_upto_region 29 with fail
 generalize w15.setCell ⟨X,2,none⟩ (.string H.text) = W16 at *
 clear S15 x0 x1 x2 y0 y1 y2 hf1
 clear HB
 obtain ⟨B,HB⟩:∃ B,Hid (decide (¬ (H.kind = 1 ∨ H.kind = 4)) = B):=⟨_,rfl⟩
 go_cut [115] (fun b wx => b = .bool B ∧ W16 = wx)
 case first =>
  by_cases k1:H.kind = 1
  ·obtain rfl:false = B:=(decide_eq_false (fun h:¬ (H.kind = 1 ∨ H.kind = 4) => h (.inl k1))).symm.trans HB
   have k1':(H.kind != 1) = false:=by simpa using k1
   clear k1 HB
   go_wp2
   go_meet
   exact ⟨rfl,rfl⟩
  ·have k1':(H.kind != 1) = true:=by simpa using k1
   by_cases k4:H.kind = 4
   ·obtain rfl:false = B:=(decide_eq_false (fun h:¬ (H.kind = 1 ∨ H.kind = 4) => h (.inr k4))).symm.trans HB
    have k4':(H.kind != 4) = false:=by simpa using k4
    clear k4 k1 HB
    go_wp2
    go_meet
    exact ⟨rfl,rfl⟩
   ·have k4':(H.kind != 4) = true:=by simpa using k4
    obtain rfl:true = B:=(decide_eq_true (p:=¬ (H.kind = 1 ∨ H.kind = 4)) (fun h => h.elim k1 k4)).symm.trans HB
    clear k4 k1 HB
    go_wp2
    go_meet
    exact ⟨rfl,rfl⟩
 case rest =>
 obtain ⟨rfl,rfl⟩:=hcut
 obtain ⟨⟨p0,p1,p2,p3⟩,q0,q1,q2,q3⟩:=blk4 S16.p.blk
 by_cases gh:H.kind = 1 ∨ H.kind = 4
 case neg =>
  obtain rfl:true = B:=(decide_eq_true gh).symm.trans HB
  clear HB
  have HV2:Hid (a ≤ d ∧ V = none):=by
   obtain ⟨h1,h2,h3⟩:=(show _ ∧ _ ∧ _ from HV')
   exact ⟨by omega,by rw [h2,attr_2no hdd (by rw [hH];exact gh)]⟩
  clear HV' gh
  have S17:=S16.spoil
  go_upto_region 31 with fail
  generalize W16.setCell ⟨R,2,none⟩ (.bool true) = W17 at *
  clear p0 p1 p2 p3 q0 q1 q2 q3 S16
  obtain ⟨⟨x0,x1,x2⟩,_⟩:=blk3 S17.x
  obtain ⟨⟨z0,z1,z2⟩,y0,y1,y2⟩:=blk3 S17.z
  obtain ⟨hL,hO⟩:=S17.out (show _ ∧ _ from HV2).1 (.inr ⟨rfl,(show _ ∧ _ from HV2).2⟩)
  go_wp2
  exact bodyPost_ret (results_struct rfl _ _ w.heap.size _ rfl hL) rfl hO
 obtain rfl:false = B:=(decide_eq_false (fun h:¬ (H.kind = 1 ∨ H.kind = 4) => h gh)).symm.trans HB
 clear HB
 have hdl2:d < ts.length:=at_lt (by rw [hH];omega)
 have hw1:IntKind.i64.wrap ((d:Int) + 1) = (d:Int) + 1:=by rw [IntKind.wrap_i64];omega
 have S17:=S16.at (b':=d + 1) (by omega)
 push_cast at S17
 go_upto_region 33 with fail
 generalize W16.setCell ⟨R,1,none⟩ (.int .i64 ((d:Int) + 1)) = W17 at *
 clear p0 p1 p2 p3 q0 q1 q2 q3 S16 hw1
 have h17:=white_any n₀ R v ts (d + 1) false deep W17 S17.p
 go_wp2_with fail
 refine h17.mono ?_
 clear h17
 rintro e w18 ⟨f,rfl,hdf,hfl,hdd2,hP18,hbut18⟩
 have S18:=S17.go hP18 hbut18
 clear S17 hP18 hbut18
 have hfl':f ≤ ts.length:=by omega
 clear hfl
 have h18:=see_any n₀ R v ts f false deep 0 w18 S18.p (by omega)
 rw [Nat.add_zero] at h18
 obtain ⟨E,hE⟩:∃ E,at' ts f = E:=⟨_,rfl⟩
 rw [hE] at h18
 unfold tkV at h18
 have HV2:Hid (V = if E.kind = 19 then some (⟨low,o,H.text⟩,ts.drop (f + 1)) else none):=by
  obtain ⟨h1,h2,h3⟩:=(show _ ∧ _ ∧ _ from HV')
  have h4:=attr_2 (nm:=low) (o:=o) hdd hdd2
  rw [hH,hE,if_pos gh] at h4
  exact h2.trans h4
 clear HV' gh hdd hdd2
 go_wp2_with fail
 refine h18.mono ?_
 clear h18
 rintro e w19 ⟨rfl,b19⟩
 have S19:=S18.below b19
 clear S18 b19
 have hf0:=tkField0 E.kind E.text E.n E.whole E.c w19
 obtain ⟨⟨p0,p1,p2,p3⟩,q0,q1,q2,q3⟩:=blk4 S19.p.blk
 have hw1:IntKind.i64.wrap ((f:Int) + 1) = (f:Int) + 1:=by rw [IntKind.wrap_i64];omega
 by_cases g19:E.kind = 19
 ·have hfl2:f < ts.length:=at_lt (by rw [hE,g19];decide)
  have HV3:Hid (V = some (⟨low,o,H.text⟩,ts.drop (f + 1))):=(show V = _ from HV2).trans (if_pos g19)
  rw [g19] at hf0
  rw [g19]
  have S20:=S19.at (b':=f + 1) (by omega)
  push_cast at S20
  clear HV2 g19
  go_upto_region 37 with fail
  generalize w19.setCell ⟨R,1,none⟩ (.int .i64 ((f:Int) + 1)) = W20 at *
  clear p0 p1 p2 p3 q0 q1 q2 q3 S19
  obtain ⟨⟨x0,x1,x2⟩,_⟩:=blk3 S20.x
  obtain ⟨⟨z0,z1,z2⟩,y0,y1,y2⟩:=blk3 S20.z
  obtain ⟨hL,hO⟩:=S20.out (a:=a) (by omega) (.inl ⟨rfl,HV3,by omega⟩)
  go_wp2
  exact bodyPost_ret (results_struct rfl _ _ w.heap.size _ rfl hL) rfl hO
 ·have g19':(E.kind != 19) = true:=by simpa using g19
  have HV3:Hid (V = none):=(show V = _ from HV2).trans (if_neg g19)
  have S20:=S19.spoil.at (b':=f + 1) (by omega)
  push_cast at S20
  clear HV2 g19
  go_upto_region 37 with fail
  generalize (w19.setCell ⟨R,2,none⟩ (.bool true)).setCell ⟨R,1,none⟩ (.int .i64 ((f:Int) + 1)) = W20 at *
  clear p0 p1 p2 p3 q0 q1 q2 q3 S19
  obtain ⟨⟨x0,x1,x2⟩,_⟩:=blk3 S20.x
  obtain ⟨⟨z0,z1,z2⟩,y0,y1,y2⟩:=blk3 S20.z
  obtain ⟨hL,hO⟩:=S20.out (a:=a) (by omega) (.inr ⟨rfl,HV3⟩)
  go_wp2
  exact bodyPost_ret (results_struct rfl _ _ w.heap.size _ rfl hL) rfl hO
end Go.Proofs.YtnemagmakgiheaaGreat.Sr

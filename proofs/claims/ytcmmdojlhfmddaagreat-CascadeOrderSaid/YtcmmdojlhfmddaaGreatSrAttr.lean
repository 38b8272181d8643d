/- The document's own reader of selectors: where it stands, what it sees, how it goes on (see, over, delim, white, comb, ends). -/
import Derived.Test.YtcmmdojlhfmddaaGreatSlTok
import Derived.Test.YtcmmdojlhfmddaaGreatDcLow
import Derived.Deep.RegionLaw
set_option maxRecDepth 100000
namespace Go.Proofs.YtcmmdojlhfmddaaGreat.Sr
open Go.Proofs.YtcmmdojlhfmddaaGreat.Tre
open Go Go.RowKit Sl
structure Pk (n₀:Nat) (W:World) (R:Nat) (v:Value) (ts:List Bt) (a:Nat) (bad:Bool) (deep:Int):Prop where
 blk:Blk W R 78 [v,.int .i64 a,.bool bad,.int .i64 deep]
 toks:BtsAt n₀ W v ts
 low:n₀ ≤ R
 least:a ≤ ts.length + 10
 most:ts.length ≤ 1000
theorem Pk.lt {n₀:Nat} {W:World} {R:Nat} {v:Value} {ts:List Bt} {a:Nat} {bad:Bool} {deep:Int} (h:Pk n₀ W R v ts a bad deep):R < W.heap.size:=h.blk.lt
theorem Pk.below {n₀:Nat} {W W':World} {R:Nat} {v:Value} {ts:List Bt} {a:Nat} {bad:Bool} {deep:Int} (h:Pk n₀ W R v ts a bad deep) (hb:Below W.heap.size W W'):Pk n₀ W' R v ts a bad deep:=
 ⟨h.blk.below hb h.lt,h.toks.below (hb.mono (Nat.le_trans h.low (Nat.le_of_lt h.lt))),h.low,h.least,h.most⟩
theorem Pk.set {n₀:Nat} {W:World} {R:Nat} {v:Value} {ts:List Bt} {a:Nat} {bad:Bool} {deep:Int} (h:Pk n₀ W R v ts a bad deep) {b:Nat} (hb:b ≤ ts.length + 10):Pk n₀ (W.setCell ⟨R,1,none⟩ (.int .i64 b)) R v ts b bad deep:=by
 refine ⟨?_,h.toks.below ((Below.refl n₀ W).setCell (p:=⟨R,1,none⟩) h.low _),h.low,hb,h.most⟩
 have:=h.blk
 unfold Blk at this ⊢
 simp [World.setCell,Array.getElem?_modify,this]
theorem Pk.spoil {n₀:Nat} {W:World} {R:Nat} {v:Value} {ts:List Bt} {a:Nat} {bad:Bool} {deep:Int} (h:Pk n₀ W R v ts a bad deep) (b:Bool):Pk n₀ (W.setCell ⟨R,2,none⟩ (.bool b)) R v ts a b deep:=by
 refine ⟨?_,h.toks.below ((Below.refl n₀ W).setCell (p:=⟨R,2,none⟩) h.low _),h.low,h.least,h.most⟩
 have:=h.blk
 unfold Blk at this ⊢
 simp [World.setCell,Array.getElem?_modify,this]
theorem But.refl (R:Nat) (W:World):But R W W:=Kept.refl _ _
theorem But.of_below {R:Nat} {W W':World} (h:Below W.heap.size W W'):But R W W':=Kept.of_below h
def placeOf (W:World) (R:Nat):Nat:=match W.cell? ⟨R,1,none⟩ with
 | some x => (intOf x).toNat
 | none => 0
theorem Pk.place {n₀:Nat} {W:World} {R:Nat} {v:Value} {ts:List Bt} {a:Nat} {bad:Bool} {deep:Int} (h:Pk n₀ W R v ts a bad deep):placeOf W R = a:=by
 unfold placeOf
 rw [(blk4 h.blk).1.2.1]
 simp [intOf]
set_option maxHeartbeats 1000000 in
theorem see_any (n₀ R:Nat) (v:Value) (ts:List Bt) (a:Nat) (bad:Bool) (deep:Int) (k:Nat) (w:World) (hP:Pk n₀ w R v ts a bad deep) (hk:k ≤ 2) :
  Calls Tryz.prog 49 #[.pointer (some ⟨R,0,none⟩),.int .i64 k] w fun e w' => e = .returned (tkV (at' ts (a + k))) ∧ Below w.heap.size w w':=by
 have hla:=hP.least
 have hlm:=hP.most
 have bz:Below w.heap.size w (w.alloc (.cells #[.int .i64 0,.string ⟨#[]⟩,.int .i64 0,.bool false,.int .i64 0] 85)):=(Below.refl _ _).alloc (Nat.le_refl _) _
 have k0:=Blk.new w 85 [.int .i64 0,.string ⟨#[]⟩,.int .i64 0,.bool false,.int .i64 0]
 obtain ⟨q,cap,rfl⟩:=hP.toks.len
 have hP1:=hP.below bz
 obtain ⟨⟨p0,p1,_,_⟩,_⟩:=blk4 hP1.blk
 have hR:=hP.lt
 obtain ⟨T,hT⟩:∃ T,at' ts (a + k) = T:=⟨_,rfl⟩
 rw [hT]
 go_enter Tryz.func49,Tryz.ntmps49
 go_upto_region 1 with fail
 replace k0:Blk (w.alloc (.cells #[.int .i64 0,.string ⟨#[]⟩,.int .i64 0,.bool false,.int .i64 0] 85)) w.heap.size _ _:=k0
 generalize w.alloc (.cells #[.int .i64 0,.string ⟨#[]⟩,.int .i64 0,.bool false,.int .i64 0] 85) = W at *
 obtain ⟨⟨c0,c1,c2,c3,c4⟩,f0,f1,f2,f3,f4⟩:=blk5 k0
 have hB:=k0.lt
 have hw:IntKind.i64.wrap ((a:Int) + (k:Int)) = ((a + k:Nat):Int):=by rw [IntKind.wrap_i64];omega
 have hw3:IntKind.i64.wrap ((a + k:Nat):Int) = ((a + k:Nat):Int):=by rw [IntKind.wrap_i64];omega
 by_cases hlt:a + k < ts.length
 ·have hg1:ts[a + k]? = some T:=by rw [← hT,at',List.getElem?_eq_getElem hlt];rfl
  obtain ⟨bk,off,rfl,hbk,hc1,hc2,x0,x1,x2,x3,x4⟩:=hP1.toks.get hg1
  have hi1:¬ (ts.length:Int) ≤ ((a + k:Nat):Int):=by omega
  have hi2:((a + k:Nat):Int) < (ts.length:Int):=by omega
  have hi3:decide (ts.length ≤ a + k) = false:=decide_eq_false (by omega)
  generalize a + k = m at *
  clear hP hP1 hg1 hT
  go_quiet (fail)
  go_wp2
  go_region_law (fail)
  all_goals
   go_wp2
   refine bodyPost_ret (results_struct rfl _ _ w.heap.size _ rfl (load_tk (blk_set5 (blk_drew k0 (nq + 1)) (.int .i64 T.kind) (.string T.text) (.int .i64 T.n) (.bool T.whole) (.int .i64 T.c)))) rfl ?_
   exact ⟨rfl,below_grew (below_drewN' bz (nq + 1)) (grown_set5 (W.drewN (nq + 1)) w.heap.size (.int .i64 T.kind) (.string T.text) (.int .i64 T.n) (.bool T.whole) (.int .i64 T.c)) (Nat.le_of_lt hB) (Nat.le_refl _)⟩
 ·obtain rfl:zeroT = T:=by rw [← hT,at',List.getElem?_eq_none (by omega)];rfl
  have hi1:(ts.length:Int) ≤ ((a + k:Nat):Int):=by omega
  have hi3:decide (ts.length ≤ a + k) = true:=decide_eq_true (by omega)
  generalize a + k = m at *
  clear hP hP1 hT
  go_quiet (fail)
  go_wp2
  refine bodyPost_ret (results_struct rfl _ _ w.heap.size _ rfl (load_tk (blk_set5 (blk_drew k0 nq) (.int .i64 0) (.string ⟨#[]⟩) (.int .i64 0) (.bool false) (.int .i64 0)))) rfl ?_
  exact ⟨rfl,below_grew (below_drewN' bz nq) (grown_set5 (W.drewN nq) w.heap.size (.int .i64 0) (.string ⟨#[]⟩) (.int .i64 0) (.bool false) (.int .i64 0)) (Nat.le_of_lt hB) (Nat.le_refl _)⟩
set_option maxHeartbeats 1000000 in
theorem over_any (n₀ R:Nat) (v:Value) (ts:List Bt) (a:Nat) (bad:Bool) (deep:Int) (w:World) (hP:Pk n₀ w R v ts a bad deep) :
  Calls Tryz.prog 50 #[.pointer (some ⟨R,0,none⟩)] w fun e w' => e = .returned (.bool (decide (ts.length ≤ a))) ∧ Below w.heap.size w w':=by
 have hla:=hP.least
 have hlm:=hP.most
 obtain ⟨q,cap,rfl⟩:=hP.toks.len
 obtain ⟨⟨p0,p1,_,_⟩,_⟩:=blk4 hP.blk
 clear hP
 by_cases hlt:ts.length ≤ a
 ·have hi1:(ts.length:Int) ≤ (a:Int):=by omega
  have hi3:decide (ts.length ≤ a) = true:=decide_eq_true hlt
  rw [hi3]
  go_enter Tryz.func50,Tryz.ntmps50
  go_wp2
  go_region_law (fail)
  all_goals
   go_wp2
   go_ret
   exact ⟨rfl,below_drew (Below.refl _ _)⟩
 ·have hi1:¬ (ts.length:Int) ≤ (a:Int):=by omega
  have hi3:decide (ts.length ≤ a) = false:=decide_eq_false hlt
  rw [hi3]
  go_enter Tryz.func50,Tryz.ntmps50
  go_wp2
  go_region_law (fail)
  all_goals
   go_wp2
   go_ret
   exact ⟨rfl,below_drew (Below.refl _ _)⟩
set_option maxHeartbeats 1000000 in
theorem delim_any (n₀ R:Nat) (v:Value) (ts:List Bt) (a:Nat) (bad:Bool) (deep:Int) (k:Nat) (c:Int) (w:World) (hP:Pk n₀ w R v ts a bad deep) (hk:k ≤ 2) :
  Calls Tryz.prog 86 #[.pointer (some ⟨R,0,none⟩),.int .i64 k,.int .i64 c] w fun e w' => e = .returned (.bool (decide ((at' ts (a + k)).kind = 10 ∧ (at' ts (a + k)).c = c))) ∧ Below w.heap.size w w':=by
 have h1:=see_any n₀ R v ts a bad deep k w hP hk
 have hs:=fun X hX => see_any n₀ R v ts a bad deep k X hX hk
 generalize at' ts (a + k) = T at *
 unfold tkV at h1 hs
 by_cases h10:T.kind = 10
 ·by_cases hc:T.c = c
  ·rw [decide_eq_true ⟨h10,hc⟩]
   subst hc
   go_enter Tryz.func86,Tryz.ntmps86
   go_wp2_with fail
   refine h1.mono ?_
   clear h1
   rintro e w1 ⟨rfl,b1⟩
   have hf0:=tkField0 T.kind T.text T.n T.whole T.c w1
   have h2:=hs w1 (hP.below b1)
   clear hs hP
   rw [h10] at hf0 h2 ⊢
   go_wp2_with fail
   refine h2.mono ?_
   clear h2
   rintro e w2 ⟨rfl,b2⟩
   have hf4:=tkField4 10 T.text T.n T.whole T.c w2
   go_wp2
   go_ret
   exact ⟨rfl,below_next b1 b2⟩
  ·rw [decide_eq_false (fun h => hc h.2)]
   have ec:(T.c == c) = false:=by simpa using hc
   go_enter Tryz.func86,Tryz.ntmps86
   go_wp2_with fail
   refine h1.mono ?_
   clear h1
   rintro e w1 ⟨rfl,b1⟩
   have hf0:=tkField0 T.kind T.text T.n T.whole T.c w1
   have h2:=hs w1 (hP.below b1)
   clear hs hP hc
   rw [h10] at hf0 h2 ⊢
   go_wp2_with fail
   refine h2.mono ?_
   clear h2
   rintro e w2 ⟨rfl,b2⟩
   have hf4:=tkField4 10 T.text T.n T.whole T.c w2
   go_wp2
   go_ret
   exact ⟨rfl,below_next b1 b2⟩
 ·rw [decide_eq_false (fun h => h10 h.1)]
  have e10:(T.kind == 10) = false:=by simpa using h10
  clear hs h10
  go_enter Tryz.func86,Tryz.ntmps86
  go_wp2_with fail
  refine h1.mono ?_
  clear h1
  rintro e w1 ⟨rfl,b1⟩
  have hf0:=tkField0 T.kind T.text T.n T.whole T.c w1
  go_wp2
  go_ret
  exact ⟨rfl,b1⟩
end Go.Proofs.YtcmmdojlhfmddaaGreat.Sr

/- The document's own reader of selectors: white, comb, ends. -/
set_option maxRecDepth 100000
namespace Go.Proofs.YtcmmdojlhfmddaaGreat.Sr
open Go.Proofs.YtcmmdojlhfmddaaGreat.Tre
open Go Go.RowKit Sl
set_option maxHeartbeats 1000000 in
theorem white_any (n₀ R:Nat) (v:Value) (ts:List Bt) (a:Nat) (bad:Bool) (deep:Int) (w:World) (hP:Pk n₀ w R v ts a bad deep) :
  Calls Tryz.prog 47 #[.pointer (some ⟨R,0,none⟩)] w fun e w' => ∃ b,e = .returned (.bool (decide (a < b))) ∧ a ≤ b ∧ (b ≤ ts.length ∨ b = a) ∧ ts.drop b = (ts.drop a).dropWhile (fun t => t.kind == 9) ∧ Pk n₀ w' R v ts b bad deep ∧ But R w w':=by
 have hlm:=hP.most
 have hla:=hP.least
 obtain ⟨⟨p0,p1,p2,p3⟩,_⟩:=blk4 hP.blk
 have hR:=hP.lt
 have hA:(ts.drop a).dropWhile (fun t => t.kind == 9) = (ts.drop a).dropWhile (fun t => t.kind == 9):=rfl
 generalize hG:(ts.drop a).dropWhile (fun t => t.kind == 9) = G at *
 clear hA
 go_enter Tryz.func47,Tryz.ntmps47
 go_wp2
 go_loopw [] (fun wr => ∃ b:Nat,a ≤ b ∧ Hid (b ≤ ts.length ∨ b = a) ∧ Hid ((ts.drop b).dropWhile (fun t => t.kind == 9) = G) ∧ Pk n₀ wr R v ts b bad deep ∧ But R w wr) (fun wr => (ts.length + 20) - placeOf wr R)
 case atStart => exact ⟨a,Nat.le_refl _,.inr rfl,hG,hP,But.refl _ _⟩
 case round =>
  obtain ⟨b,hab,hbl,HG,hPb,hbut⟩:=hrel
  clear hP p0 p1 p2 p3
  have h1:=see_any n₀ R v ts b bad deep 0 _ hPb (by omega)
  rw [Nat.add_zero] at h1
  have hT:at' ts b = at' ts b:=rfl
  generalize hTT:at' ts b = T at *
  clear hT
  unfold tkV at h1
  go_wp2_with fail
  refine h1.mono ?_
  clear h1
  rintro e w1 ⟨rfl,b1⟩
  have hf0:=tkField0 T.kind T.text T.n T.whole T.c w1
  have hP1:=hPb.below b1
  obtain ⟨⟨p0,p1,p2,p3⟩,f0,f1,f2,f3⟩:=blk4 hP1.blk
  have hbut1:=hbut.trans (But.of_below b1)
  by_cases h9:T.kind = 9
  ·have hlt:b < ts.length:=by
    by_cases h:b < ts.length
    ·exact h
    ·rw [← hTT,at',List.getElem?_eq_none (by omega)] at h9
     cases h9
   have HG':Hid ((ts.drop (b + 1)).dropWhile (fun t => t.kind == 9) = G):=by
    have h:=HG
    unfold Hid at h ⊢
    rw [List.drop_eq_getElem_cons hlt,List.dropWhile_cons,if_pos (by
     rw [show ts[b] = T by rw [← hTT,at',List.getElem?_eq_getElem hlt];rfl,h9];rfl)] at h
    exact h
   have hw1:IntKind.i64.wrap ((b:Int) + 1) = ((b + 1:Nat):Int):=by rw [IntKind.wrap_i64];omega
   have hP2:=hP1.set (b:=b + 1) (by omega)
   have hbut2:=hbut1.trans (But.set R w1 1 (.int .i64 (b + 1:Nat)))
   rw [h9] at hf0 ⊢
   clear HG
   push_cast at hP2 hbut2
   go_wp2
   refine ⟨⟨b + 1,by omega,.inl (by omega),HG',hP2,hbut2⟩,?_⟩
   rw [show placeOf (w1.setCell ⟨R,1,none⟩ (.int .i64 ((b:Int) + 1))) R = b + 1 from hP2.place,hPb.place]
   omega
  ·have e9:(T.kind == 9) = false:=by simpa using h9
   have hD:ts.drop b = G:=by
    have h:=HG
    unfold Hid at h
    by_cases hlt:b < ts.length
    ·rw [List.drop_eq_getElem_cons hlt,List.dropWhile_cons,if_neg (by
      rw [show ts[b] = T by rw [← hTT,at',List.getElem?_eq_getElem hlt];rfl,e9];simp),← List.drop_eq_getElem_cons hlt] at h
     exact h
    ·rw [List.drop_eq_nil_of_le (by omega)] at h ⊢
     exact h
   clear HG h9
   have hlb:=hP1.least
   by_cases hgt:a < b
   ·have hgi:(a:Int) < (b:Int):=by omega
    go_wp2
    go_ret
    exact ⟨b,by rw [decide_eq_true hgt];rfl,hab,hbl,hD,hP1,hbut1⟩
   ·have hgi:¬ (a:Int) < (b:Int):=by omega
    go_wp2
    go_ret
    exact ⟨b,by rw [decide_eq_false hgt];rfl,hab,hbl,hD,hP1,hbut1⟩
def combV (t:Bt):Int:=if t.kind = 10 ∧ t.c = 62 then 2 else if t.kind = 10 ∧ t.c = 43 then 3 else if t.kind = 10 ∧ t.c = 126 then 4 else 0
set_option maxHeartbeats 1000000 in
theorem comb_any (n₀ R:Nat) (v:Value) (ts:List Bt) (a:Nat) (bad:Bool) (deep:Int) (w:World) (hP:Pk n₀ w R v ts a bad deep) :
  Calls Tryz.prog 74 #[.pointer (some ⟨R,0,none⟩)] w fun e w' => e = .returned (.int .i64 (combV (at' ts a))) ∧ Below w.heap.size w w':=by
 have hs:=fun c X hX => delim_any n₀ R v ts a bad deep 0 c X hX (by omega)
 rw [Nat.add_zero] at hs
 generalize at' ts a = T at *
 obtain ⟨V,hV⟩:∃ V,combV T = V:=⟨_,rfl⟩
 rw [hV]
 unfold combV at hV
 have h1:=hs 62 w hP
 by_cases g1:T.kind = 10 ∧ T.c = 62
 ·rw [if_pos g1] at hV
  subst hV
  rw [decide_eq_true g1] at h1
  clear hs
  go_enter Tryz.func74,Tryz.ntmps74
  go_wp2_with fail
  refine h1.mono ?_
  clear h1
  rintro e w1 ⟨rfl,b1⟩
  go_wp2
  go_ret
  exact ⟨rfl,b1⟩
 rw [if_neg g1] at hV
 rw [decide_eq_false g1] at h1
 go_enter Tryz.func74,Tryz.ntmps74
 go_wp2_with fail
 refine h1.mono ?_
 clear h1
 rintro e w1 ⟨rfl,b1⟩
 have h2:=hs 43 w1 (hP.below b1)
 by_cases g2:T.kind = 10 ∧ T.c = 43
 ·rw [if_pos g2] at hV
  subst hV
  rw [decide_eq_true g2] at h2
  clear hs
  go_wp2_with fail
  refine h2.mono ?_
  clear h2
  rintro e w2 ⟨rfl,b2⟩
  go_wp2
  go_ret
  exact ⟨rfl,below_next b1 b2⟩
 rw [if_neg g2] at hV
 rw [decide_eq_false g2] at h2
 go_wp2_with fail
 refine h2.mono ?_
 clear h2
 rintro e w2 ⟨rfl,b2⟩
 have h3:=hs 126 w2 ((hP.below b1).below b2)
 clear hs
 by_cases g3:T.kind = 10 ∧ T.c = 126
 ·rw [if_pos g3] at hV
  subst hV
  rw [decide_eq_true g3] at h3
  go_wp2_with fail
  refine h3.mono ?_
  clear h3
  rintro e w3 ⟨rfl,b3⟩
  go_wp2
  go_ret
  exact ⟨rfl,below_next (below_next b1 b2) b3⟩
 rw [if_neg g3] at hV
 subst hV
 rw [decide_eq_false g3] at h3
 go_wp2_with fail
 refine h3.mono ?_
 clear h3
 rintro e w3 ⟨rfl,b3⟩
 go_wp2
 go_ret
 exact ⟨rfl,below_next (below_next b1 b2) b3⟩
def endsV (ts:List Bt) (a:Nat):Bool:=decide (ts.length ≤ a ∨ (at' ts a).kind = 13 ∨ (at' ts a).kind = 17)
set_option maxHeartbeats 1000000 in
theorem ends_any (n₀ R:Nat) (v:Value) (ts:List Bt) (a:Nat) (bad:Bool) (deep:Int) (w:World) (hP:Pk n₀ w R v ts a bad deep) :
  Calls Tryz.prog 75 #[.pointer (some ⟨R,0,none⟩)] w fun e w' => e = .returned (.bool (endsV ts a)) ∧ Below w.heap.size w w':=by
 have h1:=see_any n₀ R v ts a bad deep 0 w hP (by omega)
 rw [Nat.add_zero] at h1
 unfold endsV
 generalize at' ts a = T at *
 unfold tkV at h1
 obtain ⟨E,hE⟩:∃ E,decide (ts.length ≤ a ∨ T.kind = 13 ∨ T.kind = 17) = E:=⟨_,rfl⟩
 rw [hE]
 go_enter Tryz.func75,Tryz.ntmps75
 go_wp2_with fail
 refine h1.mono ?_
 clear h1
 rintro e w1 ⟨rfl,b1⟩
 have hf0:=tkField0 T.kind T.text T.n T.whole T.c w1
 have h2:=over_any n₀ R v ts a bad deep w1 (hP.below b1)
 go_wp2_with fail
 refine h2.mono ?_
 clear h2 hf0
 rintro e w2 ⟨rfl,b2⟩
 have b3:=below_next b1 b2
 by_cases g0:ts.length ≤ a
 ·obtain rfl:true = E:=by rw [← hE,decide_eq_true (.inl g0)]
  rw [decide_eq_true g0]
  clear g0 hE
  go_wp2
  go_ret
  exact ⟨rfl,b3⟩
 rw [decide_eq_false g0]
 by_cases g1:T.kind = 13
 ·obtain rfl:true = E:=by rw [← hE,decide_eq_true (.inr (.inl g1))]
  rw [g1]
  clear g0 hE
  go_wp2
  go_ret
  exact ⟨rfl,b3⟩
 have e1:(T.kind == 13) = false:=by simpa using g1
 by_cases g2:T.kind = 17
 ·obtain rfl:true = E:=by rw [← hE,decide_eq_true (.inr (.inr g2))]
  rw [g2]
  clear g0 g1 e1 hE
  go_wp2
  go_ret
  exact ⟨rfl,b3⟩
 have e2:(T.kind == 17) = false:=by simpa using g2
 obtain rfl:false = E:=by rw [← hE,decide_eq_false (by omega)]
 clear g0 g1 g2 hE
 go_wp2
 go_ret
 exact ⟨rfl,b3⟩
end Go.Proofs.YtcmmdojlhfmddaaGreat.Sr

/- The document's own reader of selectors: the number of a child (nth). -/
set_option maxRecDepth 100000
namespace Go.Proofs.YtcmmdojlhfmddaaGreat.Sr
open Go.Proofs.YtcmmdojlhfmddaaGreat.Tre
open Go Go.RowKit Sl
theorem infoPs:(Tryz.prog.info? 160).map (·.size) = some 4:=by kernel_rfl
theorem load_ps {w:World} {g:Nat} {a b c d:Value} (h:Blk w g 160 [a,b,c,d]):(loadVar 160 ⟨g,0,none⟩).run Tryz.prog w = .ok (.agg #[a,b,c,d]) w:=
 run_loadVar_row w g _ 160 #[a,b,c,d] (0,0) _ h Tryz.underlying160 rfl infoPs
theorem blk4_set1 {W:World} {B:Nat} {t:TypeId} {a b c d:Value} (h:Blk W B t [a,b,c,d]) (u:Value):Blk (W.setCell ⟨B,1,none⟩ u) B t [a,u,c,d]:=by
 unfold Blk at h ⊢
 simp [World.setCell,Array.getElem?_modify,h]
theorem blk4_set2 {W:World} {B:Nat} {t:TypeId} {a b c d:Value} (h:Blk W B t [a,b,c,d]) (u:Value):Blk (W.setCell ⟨B,2,none⟩ u) B t [a,b,u,d]:=by
 unfold Blk at h ⊢
 simp [World.setCell,Array.getElem?_modify,h]
theorem Blk.other {W:World} {B:Nat} {t:TypeId} {cs:List Value} (h:Blk W B t cs) {C i:Nat} (hne:B ≠ C) (u:Value):Blk (W.setCell ⟨C,i,none⟩ u) B t cs:=h.kept (grown_set W C i u) (fun e => hne (by cases e;rfl))
theorem Pk.other {n₀:Nat} {W:World} {R:Nat} {v:Value} {ts:List Bt} {a:Nat} {bad:Bool} {deep:Int} (h:Pk n₀ W R v ts a bad deep) {C i:Nat} (hne:R ≠ C) (hn:n₀ ≤ C) (u:Value):Pk n₀ (W.setCell ⟨C,i,none⟩ u) R v ts a bad deep:=
 ⟨Blk.other h.blk hne u,h.toks.below ((Below.refl n₀ W).setCell (p:=⟨C,i,none⟩) hn _),h.low,h.least,h.most⟩
theorem Pk.other4 {n₀:Nat} {W:World} {R:Nat} {v:Value} {ts:List Bt} {a:Nat} {bad:Bool} {deep:Int} (h:Pk n₀ W R v ts a bad deep) {C:Nat} (hne:R ≠ C) (hn:n₀ ≤ C) (x y z u:Value):Pk n₀ (set4 W C x y z u) R v ts a bad deep:=(((h.other hne hn x).other hne hn y).other hne hn z).other hne hn u
theorem But.fresh4 {R:Nat} {w W:World} (h:But R w W) {C:Nat} (hC:w.heap.size ≤ C) (x y z u:Value):But R w (set4 W C x y z u):=(((h.fresh hC x).fresh hC y).fresh hC z).fresh hC u
theorem nth_bad {ts:List Bt} {a b:Nat} {T:Bt} (hdb:ts.drop b = dropW (ts.drop a)) (hTd:(ts.drop b = [] ∧ T = zeroT) ∨ (b < ts.length ∧ ts.drop b = T :: ts.drop (b + 1))) (h:abV T = none):nthV (ts.drop a) = none:=by
 unfold nthV
 rw [← hdb]
 rcases hTd with ⟨e,_⟩ | ⟨_,e⟩
 ·rw [e]
 ·rw [e]
  simp [h]
theorem real_of {ts:List Bt} {b:Nat} {T:Bt} {x:Int × Int} (hTd:(ts.drop b = [] ∧ T = zeroT) ∨ (b < ts.length ∧ ts.drop b = T :: ts.drop (b + 1))) (h:abV T = some x):b < ts.length ∧ ts.drop b = T :: ts.drop (b + 1):=by
 rcases hTd with ⟨_,rfl⟩ | h2
 ·exact absurd h (by simp [abV,zeroT])
 ·exact h2
theorem nth_some {ts:List Bt} {a b c:Nat} {T:Bt} {x:Int × Int} (hdb:ts.drop b = dropW (ts.drop a)) (hr:ts.drop b = T :: ts.drop (b + 1)) (h:abV T = some x) (hc:ts.drop c = dropW (ts.drop (b + 1))) :
  nthV (ts.drop a) = if (at' ts c).kind = 17 then some (x.1,x.2,ts.drop (c + 1)) else none:=by
 unfold nthV
 rw [← hdb,hr]
 simp only [h,Option.bind_some,← hc]
 by_cases hl:c < ts.length
 ·have e:ts.drop c = at' ts c :: ts.drop (c + 1):=by
   rw [List.drop_eq_getElem_cons hl,at',List.getElem?_eq_getElem hl]
   rfl
  rw [e]
 ·rw [List.drop_eq_nil_of_le (by omega)]
  unfold at'
  rw [List.getElem?_eq_none (by omega)]
  rfl
set_option maxHeartbeats 2000000 in
theorem nth_any (n₀ R:Nat) (v:Value) (ts:List Bt) (a:Nat) (deep:Int) (w:World) (hP:Pk n₀ w R v ts a false deep) (ha:a ≤ ts.length) (ht:∀ t ∈ ts,t.text.size ≤ maxLen ∧ -9223372036854775808 ≤ t.n ∧ t.n ≤ 9223372036854775807) :
  Calls Tryz.prog 97 #[.pointer (some ⟨R,0,none⟩)] w fun e w' => ((∃ A B b,nthV (ts.drop a) = some (A,B,ts.drop b) ∧ a ≤ b ∧ b ≤ ts.length ∧ e = .returned (.agg #[.int .i64 6,.int .i64 A,.int .i64 B,.slice none 0 0]) ∧ Pk n₀ w' R v ts b false deep) ∨ (nthV (ts.drop a) = none ∧ (∃ A B,e = .returned (.agg #[.int .i64 6,.int .i64 A,.int .i64 B,.slice none 0 0])) ∧ ∃ b,a ≤ b ∧ b ≤ ts.length + 2 ∧ Pk n₀ w' R v ts b true deep)) ∧ But R w w':=by
 have hlm:=hP.most
 have hR:=hP.lt
 have b0:Below w.heap.size w ((w.alloc (.cells #[.int .i64 0,.int .i64 0,.int .i64 0,.slice none 0 0] 160)).alloc (.cells #[.int .i64 6,.int .i64 0,.int .i64 0,.slice none 0 0] 160)):=((Below.refl _ w).alloc (Nat.le_refl _) _).alloc (by rw [World.size_alloc];omega) _
 have kZ:Blk ((w.alloc (.cells #[.int .i64 0,.int .i64 0,.int .i64 0,.slice none 0 0] 160)).alloc (.cells #[.int .i64 6,.int .i64 0,.int .i64 0,.slice none 0 0] 160)) w.heap.size 160 [.int .i64 0,.int .i64 0,.int .i64 0,.slice none 0 0]:=(Blk.new w 160 [.int .i64 0,.int .i64 0,.int .i64 0,.slice none 0 0]).kept (World.grownBy_alloc _ _ none) (by simp)
 have kX:Blk ((w.alloc (.cells #[.int .i64 0,.int .i64 0,.int .i64 0,.slice none 0 0] 160)).alloc (.cells #[.int .i64 6,.int .i64 0,.int .i64 0,.slice none 0 0] 160)) (w.heap.size + 1) 160 [.int .i64 6,.int .i64 0,.int .i64 0,.slice none 0 0]:=by
  have:=Blk.new (w.alloc (.cells #[.int .i64 0,.int .i64 0,.int .i64 0,.slice none 0 0] 160)) 160 [.int .i64 6,.int .i64 0,.int .i64 0,.slice none 0 0]
  rwa [World.size_alloc] at this
 have hP2:=hP.below b0
 have hb02:But R w _:=But.of_below b0
 go_enter Tryz.func97,Tryz.ntmps97
 go_upto_region 2 with fail
 generalize (w.alloc (.cells #[.int .i64 0,.int .i64 0,.int .i64 0,.slice none 0 0] 160)).alloc (.cells #[.int .i64 6,.int .i64 0,.int .i64 0,.slice none 0 0] 160) = W2 at *
 have h1:=white_any n₀ R v ts a false deep W2 hP2
 go_wp2_with fail
 refine h1.mono ?_
 clear h1
 rintro e w3 ⟨b,rfl,hab,hbl,hdb,hP3,hbut3⟩
 replace kZ:=hbut3.blk kZ (by omega)
 replace kX:=hbut3.blk kX (by omega)
 have hb03:=hb02.trans hbut3
 have hx3:w.heap.size + 1 < w3.heap.size:=kX.lt
 have hbl':b ≤ ts.length:=by omega
 have h2:=see_any n₀ R v ts b false deep 0 w3 hP3 (by omega)
 rw [Nat.add_zero] at h2
 have hTm:(at' ts b).text.size ≤ maxLen ∧ -9223372036854775808 ≤ (at' ts b).n ∧ (at' ts b).n ≤ 9223372036854775807:=by
  unfold at'
  cases h:ts[b]? with
  | none => decide
  | some t => exact ht t (List.mem_of_getElem? h)
 have hTd:(ts.drop b = [] ∧ at' ts b = zeroT) ∨ (b < ts.length ∧ ts.drop b = at' ts b :: ts.drop (b + 1)):=by
  by_cases h:b < ts.length
  ·refine .inr ⟨h,?_⟩
   rw [List.drop_eq_getElem_cons h,at',List.getElem?_eq_getElem h]
   rfl
  ·exact .inl ⟨List.drop_eq_nil_of_le (by omega),by unfold at';rw [List.getElem?_eq_none (by omega)];rfl⟩
 generalize at' ts b = T at *
 unfold tkV at h2
 go_wp2_with fail
 refine h2.mono ?_
 clear h2
 rintro e w4 ⟨rfl,b4⟩
 have bT:Below w4.heap.size w4 (w4.alloc (.cells #[.int .i64 T.kind,.string T.text,.int .i64 T.n,.bool T.whole,.int .i64 T.c] 85)):=(Below.refl _ _).alloc (Nat.le_refl _) _
 have kT:Blk (w4.alloc (.cells #[.int .i64 T.kind,.string T.text,.int .i64 T.n,.bool T.whole,.int .i64 T.c] 85)) w4.heap.size 85 [.int .i64 T.kind,.string T.text,.int .i64 T.n,.bool T.whole,.int .i64 T.c]:=Blk.new w4 85 _
 have b5:=below_next b4 bT
 replace kZ:=kZ.below b5 kZ.lt
 replace kX:=kX.below b5 kX.lt
 have hP5:=hP3.below b5
 have hb05:=hb03.trans (But.of_below b5)
 have hx4:w.heap.size + 1 < w4.heap.size:=Nat.lt_of_lt_of_le hx3 b4.size
 have hs4:R < w4.heap.size:=Nat.lt_of_lt_of_le hP3.lt b4.size
 go_upto_region 4 with fail
 generalize w4.alloc (.cells #[.int .i64 T.kind,.string T.text,.int .i64 T.n,.bool T.whole,.int .i64 T.c] 85) = w5 at *
 have hTR:w4.heap.size ≠ R:=by omega
 generalize w4.heap.size = BT at *
 have hXR:w.heap.size + 1 ≠ R:=by omega
 have hZR:w.heap.size ≠ R:=by omega
 obtain ⟨⟨q0,q1,q2,q3⟩,g0,g1,g2,g3⟩:=blk4 hP5.blk
 have hw1:IntKind.i64.wrap ((b:Int) + 1) = (b:Int) + 1:=by rw [IntKind.wrap_i64];omega
 have hP6:=hP5.set (b:=b + 1) (by omega)
 have hbs:But R w5 (w5.setCell ⟨R,1,none⟩ (.int .i64 (b + 1:Nat))):=But.set R w5 1 _
 have hb06:=hb05.trans hbs
 replace kZ:=hbs.blk kZ hZR
 replace kX:=hbs.blk kX hXR
 replace kT:=hbs.blk kT hTR
 push_cast at hP6 hbs hb06 kZ kX kT
 go_upto_region 5 with fail
 generalize w5.setCell ⟨R,1,none⟩ (.int .i64 ((b:Int) + 1)) = w6 at *
 clear q0 q1 q2 q3 g0 g1 g2 g3 hP5 hP3 hP2 hP b0 b4 bT b5 hbut3 hb02 hb03 hb05 hbs hw1
 obtain ⟨⟨t0,t1,t2,t3,t4⟩,_⟩:=blk5 kT
 have hlow:=Lw.refLower_any T.text w6 hTm.1
 obtain ⟨low,hlw⟩:∃ low,Lw.low T.text.data.toList = low:=⟨_,rfl⟩
 rw [hlw] at hlow
 go_wp2_with fail
 refine hlow.mono ?_
 clear hlow t0 t1 t2 t3 t4
 rintro e w7 ⟨rfl,b7⟩
 replace kZ:=kZ.below b7 kZ.lt
 replace kX:=kX.below b7 kX.lt
 replace kT:=kT.below b7 kT.lt
 have hP7:=hP6.below b7
 have hb07:=hb06.trans (But.of_below b7)
 obtain ⟨⟨t0,t1,t2,t3,t4⟩,_⟩:=blk5 kT
 obtain ⟨⟨x0,x1,x2,x3⟩,y0,y1,y2,y3⟩:=blk4 kX
 have hab:abV T = if T.kind = 1 ∧ low = oddT then some (2,1) else if T.kind = 1 ∧ low = evenT then some (2,0) else if T.kind = 6 ∧ T.whole = true then some (0,T.n.tdiv 1000) else none:=by
  unfold abV lowOf
  simp only [hlw]
 have hdb':ts.drop b = dropW (ts.drop a):=hdb
 clear hdb
 have hXw:w.heap.size ≤ w.heap.size + 1:=by omega
 have hnX:n₀ ≤ w.heap.size + 1:=by have:=hP7.low;omega
 by_cases g1:T.kind = 1 ∧ low = oddT
 case' pos =>
  rw [if_pos g1] at hab
  obtain ⟨gk,rfl⟩:=g1
  rw [gk] at t0
  have kX':=blk4_set2 (blk4_set1 kX (.int .i64 2)) (.int .i64 1)
  have kZ':=Blk.other (Blk.other kZ (show w.heap.size ≠ w.heap.size + 1 by omega) (i:=1) (.int .i64 2)) (show w.heap.size ≠ w.heap.size + 1 by omega) (i:=2) (.int .i64 1)
  have hPc:=(hP7.other (show R ≠ w.heap.size + 1 by omega) hnX (i:=1) (.int .i64 2)).other (show R ≠ w.heap.size + 1 by omega) hnX (i:=2) (.int .i64 1)
  have hbc:=(hb07.fresh hXw (i:=1) (.int .i64 2)).fresh hXw (i:=2) (.int .i64 1)
  unfold oddT
  clear kX kZ hP7 hb07
  go_upto_region 14 with fail
  generalize (w7.setCell ⟨w.heap.size + 1,1,none⟩ (.int .i64 2)).setCell ⟨w.heap.size + 1,2,none⟩ (.int .i64 1) = wc at *
 case' neg =>
  rw [if_neg g1] at hab
  have m1:T.kind = 1 → ((⟨low.toArray⟩:ByteArray).toList == [111,100,100]) = false:=fun h => by
   rw [ByteArray.toList_eq,beq_eq_false_iff_ne]
   intro e
   exact g1 ⟨h,by simpa [oddT] using e⟩
  by_cases g2:T.kind = 1 ∧ low = evenT
  case' pos =>
   rw [if_pos g2] at hab
   obtain ⟨gk,rfl⟩:=g2
   replace m1:=m1 gk
   rw [gk] at t0
   have kX':=blk4_set1 kX (.int .i64 2)
   have kZ':=Blk.other kZ (show w.heap.size ≠ w.heap.size + 1 by omega) (i:=1) (.int .i64 2)
   have hPc:=hP7.other (show R ≠ w.heap.size + 1 by omega) hnX (i:=1) (.int .i64 2)
   have hbc:=hb07.fresh hXw (i:=1) (.int .i64 2)
   unfold evenT at m1 ⊢
   clear kX kZ hP7 hb07 g1
   go_upto_region 14 with fail
   generalize w7.setCell ⟨w.heap.size + 1,1,none⟩ (.int .i64 2) = wc at *
  case' neg =>
   rw [if_neg g2] at hab
   have m2:T.kind = 1 → ((⟨low.toArray⟩:ByteArray).toList == [101,118,101,110]) = false:=fun h => by
    rw [ByteArray.toList_eq,beq_eq_false_iff_ne]
    intro e
    exact g2 ⟨h,by simpa [evenT] using e⟩
   generalize (⟨low.toArray⟩:ByteArray) = zl at *
   by_cases g3:T.kind = 6 ∧ T.whole = true
   case' pos =>
    rw [if_pos g3] at hab
    obtain ⟨gk,gw⟩:=g3
    rw [gk] at t0
    rw [gw] at t3
    have hq:IntKind.i64.wrap (T.n.tdiv 1000) = T.n.tdiv 1000:=by
     have h1:=hTm.2.1
     have h2:=hTm.2.2
     have h3:(T.n.tdiv 1000).natAbs = T.n.natAbs / 1000:=Int.natAbs_tdiv T.n 1000
     have h4:T.n.natAbs / 1000 ≤ 9223372036854776:=by omega
     rw [← h3] at h4
     clear h3
     generalize T.n.tdiv 1000 = y at *
     rw [IntKind.wrap_i64]
     omega
    have kX':=blk4_set2 kX (.int .i64 (T.n.tdiv 1000))
    have kZ':=Blk.other kZ (show w.heap.size ≠ w.heap.size + 1 by omega) (i:=2) (.int .i64 (T.n.tdiv 1000))
    have hPc:=hP7.other (show R ≠ w.heap.size + 1 by omega) hnX (i:=2) (.int .i64 (T.n.tdiv 1000))
    have hbc:=hb07.fresh hXw (i:=2) (.int .i64 (T.n.tdiv 1000))
    clear kX kZ hP7 hb07 g1 g2 m1 m2
    go_upto_region 14 with fail
    generalize w7.setCell ⟨w.heap.size + 1,2,none⟩ (.int .i64 (T.n.tdiv 1000)) = wc at *
   case' neg =>
    rw [if_neg g3] at hab
    have kX':=Blk.other kX (show w.heap.size + 1 ≠ R by omega) (i:=2) (.bool true)
    have kZ':=Blk.other kZ (show w.heap.size ≠ R by omega) (i:=2) (.bool true)
    have hPc:=hP7.spoil true
    have hbc:=hb07.trans (But.set R w7 2 (.bool true))
    obtain ⟨⟨r0,r1,r2,r3⟩,s0,s1,s2,s3⟩:=blk4 hP7.blk
    have hkk:(T.kind = 1) ∨ ((T.kind == 1) = false ∧ (T.kind == 6) = false) ∨ (T.kind = 6 ∧ T.whole = false):=by
     by_cases c1:T.kind = 1
     ·exact .inl c1
     ·by_cases c6:T.kind = 6
      ·exact .inr (.inr ⟨c6,by simpa [c6] using g3⟩)
      ·exact .inr (.inl ⟨by simpa using c1,by simpa using c6⟩)
    clear kX kZ hP7 hb07 g1 g2 g3
    rcases hkk with gk | ⟨e1,e6⟩ | ⟨gk,gw⟩
    case' inl =>
     rw [gk] at t0
     replace m1:=m1 gk
     replace m2:=m2 gk
    case' inr.inr =>
     rw [gk] at t0
     rw [gw] at t3
    case' inr.inl =>
     clear m1 m2
    all_goals
     go_upto_region 14 with fail
     generalize w7.setCell ⟨R,2,none⟩ (.bool true) = wc at *
 all_goals
  clear t0 t1 t2 t3 t4 x0 x1 x2 x3 y0 y1 y2 y3 kT b7
  have h8:=white_any n₀ R v ts (b + 1) _ deep wc hPc
  go_wp2_with fail
  refine h8.mono ?_
  clear h8
  rintro e w8 ⟨c,rfl,hbc1,hcl,hdc,hP8,hbut8⟩
  have kX8:=hbut8.blk kX' (show w.heap.size + 1 ≠ R by omega)
  have kZ8:=hbut8.blk kZ' (show w.heap.size ≠ R by omega)
  have hb08:=hbc.trans hbut8
  clear kX' kZ' hPc hbc hbut8
  have h9:=see_any n₀ R v ts c _ deep 0 w8 hP8 (by omega)
  rw [Nat.add_zero] at h9
  obtain ⟨E,hE⟩:∃ E,at' ts c = E:=⟨_,rfl⟩
  rw [hE] at h9
  unfold tkV at h9
  go_wp2_with fail
  refine h9.mono ?_
  clear h9
  rintro e w9 ⟨rfl,b9⟩
  have hf0:=tkField0 E.kind E.text E.n E.whole E.c w9
  have kX9:=kX8.below b9 kX8.lt
  have kZ9:=kZ8.below b9 kZ8.lt
  have hP9:=hP8.below b9
  have hb09:=hb08.trans (But.of_below b9)
  clear kX8 kZ8 hP8 hb08
  obtain ⟨⟨r0,r1,r2,r3⟩,s0,s1,s2,s3⟩:=blk4 hP9.blk
  have hw2:IntKind.i64.wrap ((c:Int) + 1) = (c:Int) + 1:=by rw [IntKind.wrap_i64];omega
  have hnZ:n₀ ≤ w.heap.size:=by have:=hP9.low;omega
  by_cases h17:E.kind = 17
  ·have hc17:c < ts.length:=by
    by_cases hl:c < ts.length
    ·exact hl
    ·have h0:=h17
     rw [← hE,at',List.getElem?_eq_none (by omega)] at h0
     cases h0
   rw [h17] at hf0
   have kXd:=Blk.other kX9 (show w.heap.size + 1 ≠ R by omega) (i:=1) (.int .i64 ((c:Int) + 1))
   have kZd:=Blk.other kZ9 (show w.heap.size ≠ R by omega) (i:=1) (.int .i64 ((c:Int) + 1))
   have hPd:=hP9.set (b:=c + 1) (by omega)
   push_cast at hPd
   have hbd:=hb09.trans (But.set R w9 1 (.int .i64 ((c:Int) + 1)))
   rw [h17]
   clear kX9 kZ9 hP9 hb09
   go_upto_region 18 with fail
   generalize w9.setCell ⟨R,1,none⟩ (.int .i64 ((c:Int) + 1)) = wd at *
   obtain ⟨⟨x0,x1,x2,x3⟩,_⟩:=blk4 kXd
   obtain ⟨⟨z0,z1,z2,z3⟩,y0,y1,y2,y3⟩:=blk4 kZd
   clear r0 r1 r2 r3 s0 s1 s2 s3
   go_wp2
   refine bodyPost_ret (results_struct rfl _ _ w.heap.size _ rfl (load_ps (blk_set4 kZd _ _ _ _))) rfl ?_
   have hcl2:c ≤ ts.length + 1:=by omega
   first
   | exact ⟨.inl ⟨_,_,c + 1,by rw [nth_some hdb' (real_of hTd hab).2 hab hdc,hE,if_pos h17],by omega,by omega,rfl,hPd.other4 (by omega) hnZ _ _ _ _⟩,But.fresh4 hbd (Nat.le_refl _) _ _ _ _⟩
   | exact ⟨.inr ⟨nth_bad hdb' hTd hab,⟨_,_,rfl⟩,c + 1,by omega,by omega,hPd.other4 (by omega) hnZ _ _ _ _⟩,But.fresh4 hbd (Nat.le_refl _) _ _ _ _⟩
  ·have e17:(E.kind != 17) = true:=by simpa using h17
   have kXd:=Blk.other (Blk.other kX9 (show w.heap.size + 1 ≠ R by omega) (i:=2) (.bool true)) (show w.heap.size + 1 ≠ R by omega) (i:=1) (.int .i64 ((c:Int) + 1))
   have kZd:=Blk.other (Blk.other kZ9 (show w.heap.size ≠ R by omega) (i:=2) (.bool true)) (show w.heap.size ≠ R by omega) (i:=1) (.int .i64 ((c:Int) + 1))
   have hPd:=(hP9.spoil true).set (b:=c + 1) (by omega)
   push_cast at hPd
   have hbd:=(hb09.trans (But.set R w9 2 (.bool true))).trans (But.set R _ 1 (.int .i64 ((c:Int) + 1)))
   have hnone:nthV (ts.drop a) = none:=by
    first
    | exact nth_bad hdb' hTd hab
    | rw [nth_some hdb' (real_of hTd hab).2 hab hdc,hE,if_neg h17]
   clear kX9 kZ9 hP9 hb09 h17
   go_upto_region 18 with fail
   generalize (w9.setCell ⟨R,2,none⟩ (.bool true)).setCell ⟨R,1,none⟩ (.int .i64 ((c:Int) + 1)) = wd at *
   obtain ⟨⟨x0,x1,x2,x3⟩,_⟩:=blk4 kXd
   obtain ⟨⟨z0,z1,z2,z3⟩,y0,y1,y2,y3⟩:=blk4 kZd
   clear r0 r1 r2 r3 s0 s1 s2 s3
   go_wp2
   refine bodyPost_ret (results_struct rfl _ _ w.heap.size _ rfl (load_ps (blk_set4 kZd _ _ _ _))) rfl ?_
   exact ⟨.inr ⟨hnone,⟨_,_,rfl⟩,c + 1,by omega,by omega,hPd.other4 (by omega) hnZ _ _ _ _⟩,But.fresh4 hbd (Nat.le_refl _) _ _ _ _⟩
end Go.Proofs.YtcmmdojlhfmddaaGreat.Sr

/- The document's own reader of selectors: a condition of an attribute (attr). -/
namespace Go.Proofs.YtcmmdojlhfmddaaGreat.Sr
open Go.Proofs.YtcmmdojlhfmddaaGreat.Tre
open Go Go.RowKit Sl
theorem infoAt:(Tryz.prog.info? 157).map (·.size) = some 3:=by kernel_rfl
theorem load_at {w:World} {g:Nat} {a b c:Value} (h:Blk w g 157 [a,b,c]):(loadVar 157 ⟨g,0,none⟩).run Tryz.prog w = .ok (.agg #[a,b,c]) w:=
 run_loadVar_row w g _ 157 #[a,b,c] (0,0) _ h Tryz.underlying157 rfl infoAt
structure AtSt (n₀ R:Nat) (v:Value) (ts:List Bt) (deep:Int) (w:World) (X:Nat) (x:At) (b:Nat) (bad:Bool) (W:World):Prop where
 z:Blk W w.heap.size 157 [.string ⟨#[]⟩,.int .i64 0,.string ⟨#[]⟩]
 x:Blk W X 157 [.string x.name,.int .i64 x.op,.string x.text]
 p:Pk n₀ W R v ts b bad deep
 but:But R w W
 hX:w.heap.size < X
 hR:R < w.heap.size
section
variable {n₀ R:Nat} {v:Value} {ts:List Bt} {deep:Int} {w:World} {X:Nat} {x:At} {b:Nat} {bad:Bool} {W W':World}
theorem AtSt.below (h:AtSt n₀ R v ts deep w X x b bad W) (hb:Below W.heap.size W W'):AtSt n₀ R v ts deep w X x b bad W':=⟨h.z.below hb h.z.lt,h.x.below hb h.x.lt,h.p.below hb,h.but.trans (But.of_below hb),h.hX,h.hR⟩
theorem AtSt.go (h:AtSt n₀ R v ts deep w X x b bad W) {b':Nat} {bad':Bool} (hP:Pk n₀ W' R v ts b' bad' deep) (hb:But R W W'):AtSt n₀ R v ts deep w X x b' bad' W':=by
 have:=h.hX
 have:=h.hR
 exact ⟨hb.blk h.z (by omega),hb.blk h.x (by omega),hP,h.but.trans hb,h.hX,h.hR⟩
theorem AtSt.at (h:AtSt n₀ R v ts deep w X x b bad W) {b':Nat} (hb:b' ≤ ts.length + 10):AtSt n₀ R v ts deep w X x b' bad (W.setCell ⟨R,1,none⟩ (.int .i64 b')):=h.go (h.p.set hb) (But.set R W 1 _)
theorem AtSt.spoil (h:AtSt n₀ R v ts deep w X x b bad W):AtSt n₀ R v ts deep w X x b true (W.setCell ⟨R,2,none⟩ (.bool true)):=h.go (h.p.spoil true) (But.set R W 2 _)
theorem AtSt.op (h:AtSt n₀ R v ts deep w X x b bad W) (o:Int):AtSt n₀ R v ts deep w X ⟨x.name,o,x.text⟩ b bad (W.setCell ⟨X,1,none⟩ (.int .i64 o)):=by
 have:=h.hX
 have:=h.hR
 have:=h.p.low
 exact ⟨Blk.other h.z (by omega) _,blk_put h.x 1 _,h.p.other (by omega) (by omega) _,Kept.fresh h.but (by omega) _,h.hX,h.hR⟩
theorem AtSt.text (h:AtSt n₀ R v ts deep w X x b bad W) (s:ByteArray):AtSt n₀ R v ts deep w X ⟨x.name,x.op,s⟩ b bad (W.setCell ⟨X,2,none⟩ (.string s)):=by
 have:=h.hX
 have:=h.hR
 have:=h.p.low
 exact ⟨Blk.other h.z (by omega) _,blk_put h.x 2 _,h.p.other (by omega) (by omega) _,Kept.fresh h.but (by omega) _,h.hX,h.hR⟩
def AttrOut (n₀ R:Nat) (v:Value) (ts:List Bt) (deep:Int) (w:World) (a:Nat) (V:Option (At × List Bt)) (e:Ending) (w':World):Prop:=
 ∃ (x:At) (b:Nat) (bad:Bool),e = .returned (.agg #[.string x.name,.int .i64 x.op,.string x.text]) ∧ Pk n₀ w' R v ts b bad deep ∧ a ≤ b ∧ ((bad = false ∧ V = some (x,ts.drop b) ∧ b ≤ ts.length) ∨ (bad = true ∧ V = none)) ∧ But R w w'
theorem AtSt.out (h:AtSt n₀ R v ts deep w X x b bad W) {a:Nat} {V:Option (At × List Bt)} (hab:a ≤ b) (hv:(bad = false ∧ V = some (x,ts.drop b) ∧ b ≤ ts.length) ∨ (bad = true ∧ V = none)) :
  (loadVar 157 ⟨w.heap.size,0,none⟩).run Tryz.prog (set3 W w.heap.size (.string x.name) (.int .i64 x.op) (.string x.text)) = .ok (.agg #[.string x.name,.int .i64 x.op,.string x.text]) (set3 W w.heap.size (.string x.name) (.int .i64 x.op) (.string x.text)) ∧
  AttrOut n₀ R v ts deep w a V (.returned (.agg #[.string x.name,.int .i64 x.op,.string x.text])) (set3 W w.heap.size (.string x.name) (.int .i64 x.op) (.string x.text)):=by
 have h1:=h.hR
 have h2:=h.p.low
 refine ⟨load_at (blk_set3 h.z _ _ _),x,b,bad,rfl,?_,hab,hv,?_⟩
 ·exact ((h.p.other (by omega) (by omega) _).other (by omega) (by omega) _).other (by omega) (by omega) _
 ·exact ((h.but.fresh (Nat.le_refl _) _).fresh (Nat.le_refl _) _).fresh (Nat.le_refl _) _
end
/-! ### the plain side, by places -/
def attr1 (nm:ByteArray) (r:List Bt):Option (At × List Bt):=match dropW r with
 | [] => none
 | t :: r3 => if t.kind = 19 then some (⟨nm,0,⟨#[]⟩⟩,r3) else (opV (t :: r3)).bind fun o => match dropW o.2 with
  | [] => none
  | h :: r5 => if h.kind = 1 ∨ h.kind = 4 then match dropW r5 with
    | e :: r6 => if e.kind = 19 then some (⟨nm,o.1,h.text⟩,r6) else none
    | [] => none
   else none
def attr2 (nm:ByteArray) (o:Int) (r:List Bt):Option (At × List Bt):=match dropW r with
 | [] => none
 | h :: r5 => if h.kind = 1 ∨ h.kind = 4 then match dropW r5 with
   | e :: r6 => if e.kind = 19 then some (⟨nm,o,h.text⟩,r6) else none
   | [] => none
  else none
theorem attr_0 {ts:List Bt} {a b:Nat} (h:ts.drop b = dropW (ts.drop a)):attrV (ts.drop a) = if (at' ts b).kind = 1 then attr1 (lowS (at' ts b).text) (ts.drop (b + 1)) else none:=by
 unfold attrV
 rw [← h]
 by_cases hl:b < ts.length
 ·rw [at_cons hl];rfl
 ·rw [(at_none (by omega)).1,(at_none (by omega)).2];rfl
theorem attr_1 {nm:ByteArray} {ts:List Bt} {a b:Nat} (h:ts.drop b = dropW (ts.drop a)):attr1 nm (ts.drop a) = if (at' ts b).kind = 19 then some (⟨nm,0,⟨#[]⟩⟩,ts.drop (b + 1)) else (opV (ts.drop b)).bind fun o => attr2 nm o.1 o.2:=by
 unfold attr1
 rw [← h]
 by_cases hl:b < ts.length
 ·rw [at_cons hl];rfl
 ·rw [(at_none (by omega)).1,(at_none (by omega)).2];rfl
theorem attr_2 {nm:ByteArray} {o:Int} {ts:List Bt} {a b:Nat} (h:ts.drop b = dropW (ts.drop a)) {c:Nat} (hc:ts.drop c = dropW (ts.drop (b + 1))):attr2 nm o (ts.drop a) = if (at' ts b).kind = 1 ∨ (at' ts b).kind = 4 then (if (at' ts c).kind = 19 then some (⟨nm,o,(at' ts b).text⟩,ts.drop (c + 1)) else none) else none:=by
 unfold attr2
 rw [← h]
 by_cases hl:b < ts.length
 ·rw [at_cons hl]
  simp only [← hc]
  by_cases hl:c < ts.length
  ·rw [at_cons hl]
  ·rw [(at_none (ts:=ts) (a:=c) (by omega)).1,(at_none (ts:=ts) (a:=c) (by omega)).2];rfl
 ·rw [(at_none (by omega)).1,(at_none (by omega)).2];rfl
theorem attr_2no {nm:ByteArray} {o:Int} {ts:List Bt} {a b:Nat} (h:ts.drop b = dropW (ts.drop a)) (h1:¬ ((at' ts b).kind = 1 ∨ (at' ts b).kind = 4)):attr2 nm o (ts.drop a) = none:=by
 unfold attr2
 rw [← h]
 by_cases hl:b < ts.length
 ·rw [at_cons hl]
  simp only [if_neg h1]
 ·rw [(at_none (by omega)).1]
def op5 (c:Int):Int:=if c = 126 then 2 else if c = 124 then 3 else if c = 94 then 4 else if c = 36 then 5 else if c = 42 then 6 else 0
def l5:List Int:=[126,124,94,36,42]
def opTo:Nat → Int → Int
 | 0,_ => 0
 | k + 1,c => if l5.getD k 0 = c then 2 + k else opTo k c
theorem opTo_5 (c:Int):opTo 5 c = op5 c:=by
 simp only [opTo,l5,op5,List.getD_cons_zero,List.getD_cons_succ]
 by_cases e1:c = 126 <;> by_cases e2:c = 124 <;> by_cases e3:c = 94 <;> by_cases e4:c = 36 <;> by_cases e5:c = 42 <;> first | omega | (subst_vars;first | rfl | decide) | (simp [e1,e2,e3,e4,e5,eq_comm])
def OpV (V:Option (At × List Bt)) (low:ByteArray) (ts:List Bt) (a:Nat) (o:Int) (c':Nat):Prop:=a ≤ c' ∧ (o ≠ 0 ∧ V = attr2 low o (ts.drop c') ∧ c' ≤ ts.length ∨ o = 0 ∧ V = none)
theorem op_is {ts:List Bt} {b:Nat} (h:(at' ts b).kind = 10 ∧ (at' ts b).c = 61):opV (ts.drop b) = some (1,ts.drop (b + 1)):=by
 have hl:b < ts.length:=at_lt (by rw [h.1];decide)
 rw [at_cons hl]
 generalize at' ts b = T at *
 simp [opV,opOf,isSg,h.1,h.2]
theorem op_two {ts:List Bt} {b:Nat} (h:(at' ts b).kind = 10) (h1:¬ (at' ts b).c = 61) (h2:(at' ts (b + 1)).kind = 10 ∧ (at' ts (b + 1)).c = 61):opV (ts.drop b) = if op5 (at' ts b).c = 0 then none else some (op5 (at' ts b).c,ts.drop (b + 2)):=by
 have hl:b < ts.length:=at_lt (by rw [h];decide)
 have hl2:b + 1 < ts.length:=at_lt (by rw [h2.1];decide)
 rw [at_cons hl,at_cons hl2]
 generalize at' ts b = T at *
 generalize at' ts (b + 1) = U at *
 simp only [opV,opOf,isSg,h,h2.1,h2.2,op5]
 by_cases e1:T.c = 126 <;> by_cases e2:T.c = 124 <;> by_cases e3:T.c = 94 <;> by_cases e4:T.c = 36 <;> by_cases e5:T.c = 42 <;> simp [e1,e2,e3,e4,e5,h1] <;> omega
theorem op_none {ts:List Bt} {b:Nat} (h1:¬ ((at' ts b).kind = 10 ∧ (at' ts b).c = 61)) (h2:(at' ts b).kind = 10 → ¬ ((at' ts (b + 1)).kind = 10 ∧ (at' ts (b + 1)).c = 61)):opV (ts.drop b) = none:=by
 by_cases hl:b < ts.length
 ·rw [at_cons hl]
  have hn:∀ U,(ts.drop (b + 1)).head? = some U → U = at' ts (b + 1):=fun U hU => by rw [at_drop,hU];rfl
  generalize at' ts b = T at *
  simp only [opV]
  have e:isSg T 61 = false:=by simpa [isSg] using h1
  rw [e]
  by_cases hk:T.kind = 10
  ·cases hd:ts.drop (b + 1) with
   | nil => cases opOf T <;> rfl
   | cons U r =>
    have:=hn U (by rw [hd];rfl)
    subst this
    have e2:isSg (at' ts (b + 1)) 61 = false:=by simpa [isSg] using h2 hk
    simp only [e2]
    cases opOf T <;> rfl
  ·have:opOf T = none:=by simp [opOf,isSg,hk]
   rw [this]
   rfl
 ·rw [(at_none (by omega)).1]
  rfl
end Go.Proofs.YtcmmdojlhfmddaaGreat.Sr

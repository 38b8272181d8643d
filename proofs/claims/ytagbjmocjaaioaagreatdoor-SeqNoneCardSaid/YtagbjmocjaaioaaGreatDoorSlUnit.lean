/- The reader of selectors: where it stands, what it sees, what it pulls (ahead, pull, passes, passWhite). -/
import Derived.Test.YtagbjmocjaaioaaGreatDoorSlTok
import Derived.Test.YtagbjmocjaaioaaGreatDoorShelf
set_option maxRecDepth 100000
namespace Go.Proofs.YtagbjmocjaaioaaGreatDoor.Sl
open Go.Proofs.YtagbjmocjaaioaaGreatDoor.Tre
open Go Go.RowKit
structure Rd (n₀:Nat) (W:World) (R:Nat) (v:Value) (ts:List Bt) (a:Nat) (deep:Int):Prop where
 blk:Blk W R 185 [v,.int .i64 a,.int .i64 deep]
 toks:BtsAt n₀ W v ts
 low:n₀ ≤ R
 least:a ≤ ts.length
 most:ts.length ≤ 1000
theorem Rd.lt {n₀:Nat} {W:World} {R:Nat} {v:Value} {ts:List Bt} {a:Nat} {deep:Int} (h:Rd n₀ W R v ts a deep):R < W.heap.size:=h.blk.lt
theorem Rd.kept {n₀:Nat} {W W':World} {R:Nat} {v:Value} {ts:List Bt} {a:Nat} {deep:Int} (h:Rd n₀ W R v ts a deep) {keep:Nat → Prop} (hk:Kept keep W W') (hR:keep R) (hn:∀ b,b < n₀ → keep b):Rd n₀ W' R v ts a deep:=
 ⟨hk.blk h.blk hR,h.toks.below (hk.below (Nat.le_trans h.low (Nat.le_of_lt h.lt)) hn),h.low,h.least,h.most⟩
theorem Rd.below {n₀:Nat} {W W':World} {R:Nat} {v:Value} {ts:List Bt} {a:Nat} {deep:Int} (h:Rd n₀ W R v ts a deep) (hb:Below W.heap.size W W'):Rd n₀ W' R v ts a deep:=
 h.kept (keep:=fun _ => True) (.of_below hb) trivial (fun _ _ => trivial)
theorem Rd.set {n₀:Nat} {W:World} {R:Nat} {v:Value} {ts:List Bt} {a:Nat} {deep:Int} (h:Rd n₀ W R v ts a deep) {b:Nat} (hb:b ≤ ts.length):Rd n₀ (W.setCell ⟨R,1,none⟩ (.int .i64 b)) R v ts b deep:=
 ⟨blk_put h.blk 1 _,h.toks.below ((Below.refl n₀ W).setCell (p:=⟨R,1,none⟩) h.low _),h.low,hb,h.most⟩
theorem Rd.depth {n₀:Nat} {W:World} {R:Nat} {v:Value} {ts:List Bt} {a:Nat} {deep:Int} (h:Rd n₀ W R v ts a deep) (d:Int):Rd n₀ (W.setCell ⟨R,2,none⟩ (.int .i64 d)) R v ts a d:=
 ⟨blk_put h.blk 2 _,h.toks.below ((Below.refl n₀ W).setCell (p:=⟨R,2,none⟩) h.low _),h.low,h.least,h.most⟩
theorem Rd.other {n₀:Nat} {W:World} {R:Nat} {v:Value} {ts:List Bt} {a:Nat} {deep:Int} (h:Rd n₀ W R v ts a deep) {C i:Nat} (hne:C ≠ R) (hn:n₀ ≤ C) (u:Value):Rd n₀ (W.setCell ⟨C,i,none⟩ u) R v ts a deep:=
 h.kept (keep:=fun b => b ≠ C) (Kept.setCell W _ u (by simp)) (Ne.symm hne) (fun b hb => by omega)
theorem Rd.other5 {n₀:Nat} {W:World} {R:Nat} {v:Value} {ts:List Bt} {a:Nat} {deep:Int} (h:Rd n₀ W R v ts a deep) {C:Nat} (hne:C ≠ R) (hn:n₀ ≤ C) (x y z u t:Value):Rd n₀ (set5 W C x y z u t) R v ts a deep:=((((h.other hne hn x).other hne hn y).other hne hn z).other hne hn u).other hne hn t
theorem Kept.fresh5 {keep:Nat → Prop} {w W:World} (h:Kept keep w W) {C:Nat} (hC:w.heap.size ≤ C) (x y z u t:Value):Kept keep w (set5 W C x y z u t):=((((h.fresh hC x).fresh hC y).fresh hC z).fresh hC u).fresh hC t
def placeOf (W:World) (R:Nat):Nat:=match W.cell? ⟨R,1,none⟩ with
 | some x => (intOf x).toNat
 | none => 0
theorem Rd.place {n₀:Nat} {W:World} {R:Nat} {v:Value} {ts:List Bt} {a:Nat} {deep:Int} (h:Rd n₀ W R v ts a deep):placeOf W R = a:=by
 unfold placeOf
 rw [(blk3 h.blk).1.2.1]
 simp [intOf]
set_option maxHeartbeats 1000000 in
theorem ahead_any (n₀ R:Nat) (v:Value) (ts:List Bt) (a:Nat) (deep:Int) (w:World) (hP:Rd n₀ w R v ts a deep) :
  Calls Tryz.prog 235 #[.pointer (some ⟨R,0,none⟩)] w fun e w' => e = .returned (tkV (at' ts a)) ∧ Below w.heap.size w w':=by
 have hla:=hP.least
 have hlm:=hP.most
 have bz:Below w.heap.size w (w.alloc (.cells #[.int .i64 0,.string ⟨#[]⟩,.int .i64 0,.bool false,.int .i64 0] 108)):=(Below.refl _ _).alloc (Nat.le_refl _) _
 have k0:=Blk.new w 108 [.int .i64 0,.string ⟨#[]⟩,.int .i64 0,.bool false,.int .i64 0]
 obtain ⟨q,cap,rfl⟩:=hP.toks.len
 have hP1:=hP.below bz
 obtain ⟨⟨p0,p1,_⟩,_⟩:=blk3 hP1.blk
 have hR:=hP.lt
 obtain ⟨T,hT⟩:∃ T,at' ts a = T:=⟨_,rfl⟩
 rw [hT]
 go_enter Tryz.func235,Tryz.ntmps235
 go_upto_region 1 with fail
 replace k0:Blk (w.alloc (.cells #[.int .i64 0,.string ⟨#[]⟩,.int .i64 0,.bool false,.int .i64 0] 108)) w.heap.size _ _:=k0
 generalize w.alloc (.cells #[.int .i64 0,.string ⟨#[]⟩,.int .i64 0,.bool false,.int .i64 0] 108) = W at *
 obtain ⟨⟨c0,c1,c2,c3,c4⟩,f0,f1,f2,f3,f4⟩:=blk5 k0
 have hB:=k0.lt
 have hw3:IntKind.i64.wrap (a:Int) = (a:Int):=by rw [IntKind.wrap_i64];omega
 by_cases hlt:a < ts.length
 ·have hg1:ts[a]? = some T:=by rw [← hT,at',List.getElem?_eq_getElem hlt];rfl
  obtain ⟨bk,off,rfl,hbk,hc1,hc2,x0,x1,x2,x3,x4⟩:=hP1.toks.get hg1
  have hi0:((a:Int) == (ts.length:Int)) = false:=by simp;omega
  have hi1:(a == ts.length) = false:=by simp;omega
  have hi2:(a:Int) < (ts.length:Int):=by omega
  clear hP hP1 hg1 hT
  go_quiet (fail)
  go_wp2
  go_region_law (fail)
  all_goals
   go_wp2
   refine bodyPost_ret (results_struct rfl _ _ w.heap.size _ rfl (load_tk (blk_set5 (blk_drew k0 (nq + 1)) (.int .i64 T.kind) (.string T.text) (.int .i64 T.n) (.bool T.whole) (.int .i64 T.c)))) rfl ?_
   exact ⟨rfl,below_grew (below_drewN' bz (nq + 1)) (grown_set5 (W.drewN (nq + 1)) w.heap.size (.int .i64 T.kind) (.string T.text) (.int .i64 T.n) (.bool T.whole) (.int .i64 T.c)) (Nat.le_of_lt hB) (Nat.le_refl _)⟩
 ·obtain rfl:zeroT = T:=by rw [← hT,(at_none (by omega)).2]
  obtain rfl:a = ts.length:=by omega
  clear hP hP1 hT
  go_quiet (fail)
  go_wp2
  refine bodyPost_ret (results_struct rfl _ _ w.heap.size _ rfl (load_tk (blk_set5 (blk_drew k0 nq) (.int .i64 0) (.string ⟨#[]⟩) (.int .i64 0) (.bool false) (.int .i64 0)))) rfl ?_
  exact ⟨rfl,below_grew (below_drewN' bz nq) (grown_set5 (W.drewN nq) w.heap.size (.int .i64 0) (.string ⟨#[]⟩) (.int .i64 0) (.bool false) (.int .i64 0)) (Nat.le_of_lt hB) (Nat.le_refl _)⟩
set_option maxHeartbeats 1000000 in
theorem pull_any (n₀ R:Nat) (v:Value) (ts:List Bt) (a:Nat) (deep:Int) (w:World) (hP:Rd n₀ w R v ts a deep) (kv:Value) (ks:List Int) (hk:IntsAt w.heap.size w kv ks) (hl:ks.length ≤ 1000) (h0:ks.contains 0 = false) :
  Calls Tryz.prog 198 #[.pointer (some ⟨R,0,none⟩),kv] w fun e w' => e = .returned (.tuple #[tkV (if ks.contains (at' ts a).kind then at' ts a else zeroT),.bool (ks.contains (at' ts a).kind)]) ∧ Rd n₀ w' R v ts (if ks.contains (at' ts a).kind then a + 1 else a) deep ∧ But R w w':=by
 have hlm:=hP.most
 have hR:=hP.lt
 have hlo:=hP.low
 have b0:Below w.heap.size w (w.alloc (.cells #[.int .i64 0,.string ⟨#[]⟩,.int .i64 0,.bool false,.int .i64 0] 108)):=(Below.refl _ _).alloc (Nat.le_refl _) _
 have kZ:=Blk.new w 108 [.int .i64 0,.string ⟨#[]⟩,.int .i64 0,.bool false,.int .i64 0]
 replace kZ:Blk (w.alloc (.cells #[.int .i64 0,.string ⟨#[]⟩,.int .i64 0,.bool false,.int .i64 0] 108)) w.heap.size _ _:=kZ
 have hP0:=hP.below b0
 have hal:ks.contains (at' ts a).kind = true → a < ts.length:=fun h => at_lt (fun e => by rw [e,h0] at h;cases h)
 obtain ⟨pk,ck,rfl⟩:=hk.len
 have h1:=fun X hX => ahead_any n₀ R v ts a deep X hX
 obtain ⟨T,hT⟩:∃ T,at' ts a = T:=⟨_,rfl⟩
 obtain ⟨B,hB⟩:∃ B,ks.contains T.kind = B:=⟨_,rfl⟩
 rw [hT] at hal h1 ⊢
 rw [hB] at hal ⊢
 have hsz0:(w.alloc (.cells #[.int .i64 0,.string ⟨#[]⟩,.int .i64 0,.bool false,.int .i64 0] 108)).heap.size = w.heap.size + 1:=World.size_alloc _ _
 go_enter Tryz.func198,Tryz.ntmps198
 go_upto_region 1 with fail
 generalize w.alloc (.cells #[.int .i64 0,.string ⟨#[]⟩,.int .i64 0,.bool false,.int .i64 0] 108) = W0 at *
 replace h1:=h1 W0 hP0
 unfold tkV at h1
 go_wp2_with fail
 refine h1.mono ?_
 clear h1
 rintro e w1 ⟨rfl,b1⟩
 have bO:Below w1.heap.size w1 (w1.alloc (.cells #[.int .i64 T.kind,.string T.text,.int .i64 T.n,.bool T.whole,.int .i64 T.c] 108)):=(Below.refl _ _).alloc (Nat.le_refl _) _
 have kO:Blk (w1.alloc (.cells #[.int .i64 T.kind,.string T.text,.int .i64 T.n,.bool T.whole,.int .i64 T.c] 108)) w1.heap.size 108 [.int .i64 T.kind,.string T.text,.int .i64 T.n,.bool T.whole,.int .i64 T.c]:=Blk.new w1 108 _
 have b2:=below_next (below_next b0 b1) bO
 have hP2:=(hP0.below b1).below bO
 replace kZ:=(kZ.below b1 kZ.lt).below bO (Nat.lt_of_lt_of_le kZ.lt b1.size)
 have hw1:w.heap.size < w1.heap.size:=by have:=b1.size;omega
 clear hsz0
 go_upto_region 2 with fail
 generalize w1.alloc (.cells #[.int .i64 T.kind,.string T.text,.int .i64 T.n,.bool T.whole,.int .i64 T.c] 108) = w2 at *
 have h2:=contains_any (.slice pk ks.length ck) ks T.kind w2 ((hk.below b2).mono b2.size) (by omega)
 obtain ⟨⟨c0,c1,c2,c3,c4⟩,_⟩:=blk5 kO
 obtain ⟨⟨z0,z1,z2,z3,z4⟩,f0,f1,f2,f3,f4⟩:=blk5 kZ
 obtain ⟨⟨p0,p1,p2⟩,g0,g1,g2⟩:=blk3 hP2.blk
 rw [hB] at h2
 clear hk
 go_wp2_with fail
 refine h2.mono ?_
 clear h2
 rintro e w3 ⟨rfl,hw3⟩
 subst hw3
 have hkeep:But R w w3:=.of_below b2
 cases B with
 | true =>
  have hlt:=hal rfl
  have hw:IntKind.i64.wrap ((a:Int) + 1) = (a:Int) + 1:=by rw [IntKind.wrap_i64];omega
  have hP3:=hP2.set (b:=a + 1) (by omega)
  have hk3:=hkeep.trans (But.set R w3 1 (.int .i64 (a + 1:Nat)))
  have kZ3:=(But.set R w3 1 (.int .i64 (a + 1:Nat))).blk kZ (by omega)
  push_cast at hP3 hk3 kZ3
  clear hal hB
  go_wp2
  refine bodyPost_ret (results_struct_tmp rfl _ _ w.heap.size _ rfl (load_tk (blk_set5 kZ3 (.int .i64 T.kind) (.string T.text) (.int .i64 T.n) (.bool T.whole) (.int .i64 T.c)))) rfl ?_
  exact ⟨rfl,hP3.other5 (by omega) (by omega) _ _ _ _ _,hk3.fresh5 (Nat.le_refl _) _ _ _ _ _⟩
 | false =>
  clear hal hB
  go_wp2
  refine bodyPost_ret (results_struct_tmp rfl _ _ w.heap.size _ rfl (load_tk (blk_set5 kZ (.int .i64 0) (.string ⟨#[]⟩) (.int .i64 0) (.bool false) (.int .i64 0)))) rfl ?_
  exact ⟨rfl,hP2.other5 (by omega) (by omega) _ _ _ _ _,hkeep.fresh5 (Nat.le_refl _) _ _ _ _ _⟩
set_option maxHeartbeats 1000000 in
theorem passes_any (n₀ R:Nat) (v:Value) (ts:List Bt) (a:Nat) (deep:Int) (k:Int) (w:World) (hP:Rd n₀ w R v ts a deep) (hk:k ≠ 0) :
  Calls Tryz.prog 157 #[.pointer (some ⟨R,0,none⟩),.int .i64 k] w fun e w' => e = .returned (.bool (decide ((at' ts a).kind = k))) ∧ Rd n₀ w' R v ts (if (at' ts a).kind = k then a + 1 else a) deep ∧ But R w w':=by
 have b0:Below w.heap.size w (w.alloc (.cells #[.int .i64 k] 3)):=(Below.refl _ _).alloc (Nat.le_refl _) _
 have hP0:=hP.below b0
 have hI:IntsAt (w.alloc (.cells #[.int .i64 k] 3)).heap.size (w.alloc (.cells #[.int .i64 k] 3)) (.slice (some ⟨w.heap.size,0,none⟩) 1 1) [k]:=by
  rw [World.size_alloc]
  exact ints_new w [k] 3 (by simp)
 have h1:=pull_any n₀ R v ts a deep _ hP0 _ [k] hI (by simp) (by simpa using Ne.symm hk)
 have hc:([k].contains (at' ts a).kind) = decide ((at' ts a).kind = k):=by simp
 rw [hc] at h1
 clear hc hI hP0
 generalize at' ts a = T at *
 by_cases hTk:T.kind = k
 ·rw [decide_eq_true hTk,if_pos rfl,if_pos rfl] at h1
  rw [decide_eq_true hTk,if_pos hTk]
  unfold tkV at h1
  clear hTk
  go_enter Tryz.func157,Tryz.ntmps157
  go_wp2_with fail
  refine h1.mono ?_
  clear h1
  rintro e w1 ⟨rfl,hP1,hb1⟩
  have hb:But R w w1:=(Kept.of_below b0).trans hb1
  have ba:Below w1.heap.size w1 (w1.alloc (.cells #[.int .i64 T.kind,.string T.text,.int .i64 T.n,.bool T.whole,.int .i64 T.c] 108)):=(Below.refl _ _).alloc (Nat.le_refl _) _
  go_wp2
  go_ret
  exact ⟨rfl,hP1.below ba,hb.trans (.of_below ba)⟩
 ·rw [decide_eq_false hTk,if_neg (by simp),if_neg (by simp)] at h1
  rw [decide_eq_false hTk,if_neg hTk]
  unfold tkV zeroT at h1
  clear hTk
  go_enter Tryz.func157,Tryz.ntmps157
  go_wp2_with fail
  refine h1.mono ?_
  clear h1
  rintro e w1 ⟨rfl,hP1,hb1⟩
  have hb:But R w w1:=(Kept.of_below b0).trans hb1
  have ba:Below w1.heap.size w1 (w1.alloc (.cells #[.int .i64 0,.string ⟨#[]⟩,.int .i64 0,.bool false,.int .i64 0] 108)):=(Below.refl _ _).alloc (Nat.le_refl _) _
  go_wp2
  go_ret
  exact ⟨rfl,hP1.below ba,hb.trans (.of_below ba)⟩
set_option maxHeartbeats 1000000 in
theorem passWhite_any (n₀ R:Nat) (v:Value) (ts:List Bt) (a:Nat) (deep:Int) (w:World) (hP:Rd n₀ w R v ts a deep) :
  Calls Tryz.prog 237 #[.pointer (some ⟨R,0,none⟩)] w fun e w' => ∃ b,e = .returned (.bool (decide (a < b))) ∧ a ≤ b ∧ b ≤ ts.length ∧ ts.drop b = dropW (ts.drop a) ∧ Rd n₀ w' R v ts b deep ∧ But R w w':=by
 have hlm:=hP.most
 have hla:=hP.least
 obtain ⟨⟨p0,p1,p2⟩,_⟩:=blk3 hP.blk
 have hR:=hP.lt
 unfold dropW
 obtain ⟨G,hG⟩:∃ G,(ts.drop a).dropWhile (fun t => t.kind == 9) = G:=⟨_,rfl⟩
 rw [hG]
 go_enter Tryz.func237,Tryz.ntmps237
 go_wp2
 go_loopw [] (fun wr => ∃ b:Nat,a ≤ b ∧ b ≤ ts.length ∧ Hid ((ts.drop b).dropWhile (fun t => t.kind == 9) = G) ∧ Rd n₀ wr R v ts b deep ∧ But R w wr) (fun wr => ts.length - placeOf wr R)
 case atStart => exact ⟨a,Nat.le_refl _,hla,hG,hP,Kept.refl _ _⟩
 case round =>
  obtain ⟨b,hab,hbl,HG,hPb,hbut⟩:=hrel
  clear hP p0 p1 p2 hG
  have h1:=passes_any n₀ R v ts b deep 9 _ hPb (by decide)
  by_cases h9:(at' ts b).kind = 9
  ·have hlt:b < ts.length:=at_lt (by rw [h9];decide)
   have HG':Hid ((ts.drop (b + 1)).dropWhile (fun t => t.kind == 9) = G):=by
    have h:=HG
    unfold Hid at h ⊢
    rw [at_cons hlt,List.dropWhile_cons,if_pos (by rw [h9];rfl)] at h
    exact h
   rw [decide_eq_true h9,if_pos h9] at h1
   clear HG
   go_wp2_with fail
   refine h1.mono ?_
   clear h1
   rintro e w1 ⟨rfl,hP1,hb1⟩
   go_wp2
   refine ⟨⟨b + 1,by omega,by omega,HG',hP1,hbut.trans hb1⟩,?_⟩
   rw [hP1.place,hPb.place]
   omega
  ·have hD:ts.drop b = G:=by
    have h:=HG
    unfold Hid at h
    by_cases hlt:b < ts.length
    ·rw [at_cons hlt,List.dropWhile_cons,if_neg (by simpa using h9),← at_cons hlt] at h
     exact h
    ·rw [List.drop_eq_nil_of_le (by omega)] at h ⊢
     exact h
   rw [decide_eq_false h9,if_neg h9] at h1
   clear HG h9
   go_wp2_with fail
   refine h1.mono ?_
   clear h1
   rintro e w1 ⟨rfl,hP1,hb1⟩
   have hbut1:=hbut.trans hb1
   obtain ⟨⟨p0,p1,p2⟩,_⟩:=blk3 hP1.blk
   by_cases hgt:a < b
   ·have hgi:(a:Int) < (b:Int):=by omega
    go_wp2
    go_ret
    exact ⟨b,by rw [decide_eq_true hgt];rfl,hab,hbl,hD,hP1,hbut1⟩
   ·have hgi:¬ (a:Int) < (b:Int):=by omega
    go_wp2
    go_ret
    exact ⟨b,by rw [decide_eq_false hgt];rfl,hab,hbl,hD,hP1,hbut1⟩
end Go.Proofs.YtagbjmocjaaioaaGreatDoor.Sl

/- The reader of selectors: what a token may begin, signs, combinators, tags. -/
set_option maxRecDepth 100000
namespace Go.Proofs.YtagbjmocjaaioaaGreatDoor.Sl
open Go.Proofs.YtagbjmocjaaioaaGreatDoor.Tre
open Go Go.RowKit
theorem tok_new (w:World) (T:Bt):Below w.heap.size w (w.alloc (.cells #[.int .i64 T.kind,.string T.text,.int .i64 T.n,.bool T.whole,.int .i64 T.c] 108)) ∧ Blk (w.alloc (.cells #[.int .i64 T.kind,.string T.text,.int .i64 T.n,.bool T.whole,.int .i64 T.c] 108)) w.heap.size 108 [.int .i64 T.kind,.string T.text,.int .i64 T.n,.bool T.whole,.int .i64 T.c]:=
 ⟨(Below.refl _ _).alloc (Nat.le_refl _) _,Blk.new w 108 _⟩
set_option maxHeartbeats 1000000 in
theorem isSign_any (T:Bt) (c:Int) (w:World) :
  Calls Tryz.prog 298 #[tkV T,.int .i64 c] w fun e w' => e = .returned (.bool (isSg T c)) ∧ Below w.heap.size w w':=by
 obtain ⟨b0,k0⟩:=tok_new w T
 unfold tkV isSg
 obtain ⟨D,hD⟩:∃ D,decide (T.kind = 10 ∧ T.c = c) = D:=⟨_,rfl⟩
 rw [hD]
 go_enter Tryz.func298,Tryz.ntmps298
 go_upto_region 1 with fail
 generalize w.alloc (.cells #[.int .i64 T.kind,.string T.text,.int .i64 T.n,.bool T.whole,.int .i64 T.c] 108) = W at *
 obtain ⟨⟨c0,c1,c2,c3,c4⟩,_⟩:=blk5 k0
 by_cases h10:T.kind = 10
 ·rw [h10] at c0
  by_cases hc:T.c = c
  ·obtain rfl:true = D:=by rw [← hD,decide_eq_true ⟨h10,hc⟩]
   rw [hc] at c4
   clear hD hc h10
   go_wp2
   go_ret
   exact ⟨rfl,b0⟩
  ·obtain rfl:false = D:=by rw [← hD,decide_eq_false (fun h => hc h.2)]
   have ec:(T.c == c) = false:=by simpa using hc
   clear hD hc h10
   go_wp2
   go_ret
   exact ⟨rfl,b0⟩
 ·obtain rfl:false = D:=by rw [← hD,decide_eq_false (fun h => h10 h.1)]
  have e10:(T.kind == 10) = false:=by simpa using h10
  clear hD h10
  go_wp2
  go_ret
  exact ⟨rfl,b0⟩
set_option maxHeartbeats 1000000 in
theorem passesSign_any (n₀ R:Nat) (v:Value) (ts:List Bt) (a:Nat) (deep:Int) (c:Int) (w:World) (hP:Rd n₀ w R v ts a deep) :
  Calls Tryz.prog 270 #[.pointer (some ⟨R,0,none⟩),.int .i64 c] w fun e w' => e = .returned (.bool (isSg (at' ts a) c)) ∧ Rd n₀ w' R v ts (if isSg (at' ts a) c then a + 1 else a) deep ∧ But R w w':=by
 have h1:=ahead_any n₀ R v ts a deep w hP
 have h3:=fun X hX => passes_any n₀ R v ts a deep 10 X hX (by decide)
 generalize at' ts a = T at *
 have h2:=fun X => isSign_any T c X
 have h10:isSg T c = true → T.kind = 10:=fun h => (of_decide_eq_true h).1
 generalize isSg T c = B at *
 unfold tkV at h1 h2
 cases B with
 | true =>
  rw [if_pos rfl]
  rw [decide_eq_true (h10 rfl),if_pos (h10 rfl)] at h3
  clear h10
  go_enter Tryz.func270,Tryz.ntmps270
  go_wp2_with fail
  refine h1.mono ?_
  clear h1
  rintro e w1 ⟨rfl,b1⟩
  go_wp2_with fail
  refine (h2 w1).mono ?_
  clear h2
  rintro e w2 ⟨rfl,b2⟩
  have b12:=below_next b1 b2
  replace h3:=h3 w2 (hP.below b12)
  go_wp2_with fail
  refine h3.mono ?_
  clear h3
  rintro e w3 ⟨rfl,hP3,hb3⟩
  go_wp2
  go_ret
  exact ⟨rfl,hP3,(Kept.of_below b12).trans hb3⟩
 | false =>
  rw [if_neg (by simp)]
  clear h3 h10
  go_enter Tryz.func270,Tryz.ntmps270
  go_wp2_with fail
  refine h1.mono ?_
  clear h1
  rintro e w1 ⟨rfl,b1⟩
  go_wp2_with fail
  refine (h2 w1).mono ?_
  clear h2
  rintro e w2 ⟨rfl,b2⟩
  have b12:=below_next b1 b2
  go_wp2
  go_ret
  exact ⟨rfl,hP.below b12,.of_below b12⟩
set_option maxHeartbeats 1000000 in
theorem beginsUnit_any (T:Bt) (w:World) :
  Calls Tryz.prog 272 #[tkV T] w fun e w' => e = .returned (.bool (begU T)) ∧ Below w.heap.size w w':=by
 obtain ⟨b0,k0⟩:=tok_new w T
 have h1:=fun X => isSign_any T 46 X
 unfold begU
 obtain ⟨G,hG⟩:∃ G,isSg T 46 = G:=⟨_,rfl⟩
 rw [hG] at h1 ⊢
 obtain ⟨D,hD⟩:∃ D,(decide (T.kind = 3 ∨ T.kind = 18 ∨ T.kind = 11) || G) = D:=⟨_,rfl⟩
 rw [hD]
 unfold tkV at h1 ⊢
 go_enter Tryz.func272,Tryz.ntmps272
 go_upto_region 1 with fail
 generalize w.alloc (.cells #[.int .i64 T.kind,.string T.text,.int .i64 T.n,.bool T.whole,.int .i64 T.c] 108) = W at *
 obtain ⟨⟨c0,c1,c2,c3,c4⟩,_⟩:=blk5 k0
 by_cases g3:T.kind = 3
 ·obtain rfl:true = D:=by rw [← hD,decide_eq_true (.inl g3)];rfl
  rw [g3] at c0
  clear hD g3
  go_wp2
  go_ret
  exact ⟨rfl,b0⟩
 by_cases g18:T.kind = 18
 ·obtain rfl:true = D:=by rw [← hD,decide_eq_true (.inr (.inl g18))];rfl
  rw [g18] at c0
  clear hD g3 g18
  go_wp2
  go_ret
  exact ⟨rfl,b0⟩
 by_cases g11:T.kind = 11
 ·obtain rfl:true = D:=by rw [← hD,decide_eq_true (.inr (.inr g11))];rfl
  rw [g11] at c0
  clear hD g3 g18 g11
  go_wp2
  go_ret
  exact ⟨rfl,b0⟩
 obtain rfl:G = D:=by rw [← hD,decide_eq_false (by omega)];rfl
 have e3:(T.kind == 3) = false:=by simpa using g3
 have e18:(T.kind == 18) = false:=by simpa using g18
 have e11:(T.kind == 11) = false:=by simpa using g11
 clear hD g3 g18 g11
 go_wp2_with fail
 refine (h1 W).mono ?_
 clear h1
 rintro e w1 ⟨rfl,b1⟩
 go_wp2
 go_ret
 exact ⟨rfl,below_next b0 b1⟩
set_option maxHeartbeats 1000000 in
theorem beginsCompound_any (T:Bt) (w:World) :
  Calls Tryz.prog 269 #[tkV T] w fun e w' => e = .returned (.bool (begC T)) ∧ Below w.heap.size w w':=by
 obtain ⟨b0,k0⟩:=tok_new w T
 have h1:=fun X => isSign_any T 42 X
 have h2:=fun X => beginsUnit_any T X
 unfold begC
 obtain ⟨G,hG⟩:∃ G,isSg T 42 = G:=⟨_,rfl⟩
 obtain ⟨U,hU⟩:∃ U,begU T = U:=⟨_,rfl⟩
 rw [hG] at h1 ⊢
 rw [hU] at h2 ⊢
 unfold tkV at h1 h2 ⊢
 obtain ⟨V,hV⟩:∃ V,((decide (T.kind = 1) || G) || U) = V:=⟨_,rfl⟩
 rw [hV]
 go_enter Tryz.func269,Tryz.ntmps269
 go_upto_region 1 with fail
 generalize w.alloc (.cells #[.int .i64 T.kind,.string T.text,.int .i64 T.n,.bool T.whole,.int .i64 T.c] 108) = W at *
 obtain ⟨⟨c0,c1,c2,c3,c4⟩,_⟩:=blk5 k0
 by_cases g1:T.kind = 1
 ·obtain rfl:true = V:=by rw [← hV,decide_eq_true g1];rfl
  rw [g1] at c0
  clear h1 h2 g1 hV hG hU
  go_wp2
  go_ret
  exact ⟨rfl,b0⟩
 have e1:(T.kind == 1) = false:=by simpa using g1
 rw [decide_eq_false g1] at hV
 clear g1
 go_wp2_with fail
 refine (h1 W).mono ?_
 clear h1
 rintro e w1 ⟨rfl,b1⟩
 cases G with
 | true =>
  obtain rfl:true = V:=by rw [← hV];rfl
  clear h2 hV hG hU
  go_wp2
  go_ret
  exact ⟨rfl,below_next b0 b1⟩
 | false =>
  obtain rfl:U = V:=by rw [← hV];rfl
  obtain ⟨⟨c0,c1,c2,c3,c4⟩,_⟩:=blk5 (k0.below b1 k0.lt)
  clear hV hG hU
  go_wp2_with fail
  refine (h2 w1).mono ?_
  clear h2
  rintro e w2 ⟨rfl,b2⟩
  go_wp2
  go_ret
  exact ⟨rfl,below_next (below_next b0 b1) b2⟩
set_option maxHeartbeats 1000000 in
theorem combinatorOf_any (T:Bt) (w:World) :
  Calls Tryz.prog 268 #[tkV T] w fun e w' => e = .returned (.tuple #[.int .i64 ((combO T).getD 0),.bool (combO T).isSome]) ∧ Below w.heap.size w w':=by
 obtain ⟨b0,k0⟩:=tok_new w T
 have h1:=fun X => isSign_any T 62 X
 have h2:=fun X => isSign_any T 43 X
 have h3:=fun X => isSign_any T 126 X
 unfold combO
 generalize isSg T 62 = A at *
 generalize isSg T 43 = B at *
 generalize isSg T 126 = C at *
 obtain ⟨O,hO⟩:∃ O:Option Int,(if A = true then some 2 else if B = true then some 3 else if C = true then some 4 else none) = O:=⟨_,rfl⟩
 rw [hO]
 unfold tkV at h1 h2 h3 ⊢
 go_enter Tryz.func268,Tryz.ntmps268
 go_upto_region 1 with fail
 generalize w.alloc (.cells #[.int .i64 T.kind,.string T.text,.int .i64 T.n,.bool T.whole,.int .i64 T.c] 108) = W at *
 obtain ⟨⟨c0,c1,c2,c3,c4⟩,_⟩:=blk5 k0
 go_wp2_with fail
 refine (h1 W).mono ?_
 clear h1
 rintro e w1 ⟨rfl,b1⟩
 cases A with
 | true =>
  obtain rfl:some 2 = O:=by rw [← hO];rfl
  clear h2 h3 hO
  go_wp2
  refine bodyPost_ret (results_tmp2 rfl _ _ _) rfl ?_
  exact ⟨rfl,below_next b0 b1⟩
 | false =>
  replace k0:=k0.below b1 k0.lt
  obtain ⟨⟨c0,c1,c2,c3,c4⟩,_⟩:=blk5 k0
  go_wp2_with fail
  refine (h2 w1).mono ?_
  clear h2
  rintro e w2 ⟨rfl,b2⟩
  cases B with
  | true =>
   obtain rfl:some 3 = O:=by rw [← hO];rfl
   clear h3 hO
   go_wp2
   refine bodyPost_ret (results_tmp2 rfl _ _ _) rfl ?_
   exact ⟨rfl,below_next (below_next b0 b1) b2⟩
  | false =>
   replace k0:=k0.below b2 k0.lt
   obtain ⟨⟨c0,c1,c2,c3,c4⟩,_⟩:=blk5 k0
   go_wp2_with fail
   refine (h3 w2).mono ?_
   clear h3
   rintro e w3 ⟨rfl,b3⟩
   cases C with
   | true =>
    obtain rfl:some 4 = O:=by rw [← hO];rfl
    clear hO
    go_wp2
    refine bodyPost_ret (results_tmp2 rfl _ _ _) rfl ?_
    exact ⟨rfl,below_next (below_next (below_next b0 b1) b2) b3⟩
   | false =>
    obtain rfl:none = O:=by rw [← hO];rfl
    clear hO
    go_wp2
    refine bodyPost_ret (results_tmp2 rfl _ _ _) rfl ?_
    exact ⟨rfl,below_next (below_next (below_next b0 b1) b2) b3⟩
theorem combO_kind {T:Bt} (h:(combO T).isSome = true):T.kind = 10:=by
 unfold combO at h
 split at h
 ·rename_i g;exact (of_decide_eq_true g).1
 ·split at h
  ·rename_i g;exact (of_decide_eq_true g).1
  ·split at h
   ·rename_i g;exact (of_decide_eq_true g).1
   ·cases h
theorem betw_sign {ts:List Bt} {a b:Nat} {c:Int} (hb:b < ts.length) (hd:ts.drop b = dropW (ts.drop a)) (h:combO (at' ts b) = some c):betwV (ts.drop a) = some (c,dropW (ts.drop (b + 1))):=by
 unfold betwV
 rw [← hd,at_cons hb]
 simp only [h]
theorem betw_white {ts:List Bt} {a b:Nat} (hd:ts.drop b = dropW (ts.drop a)) (hab:a < b) (h:combO (at' ts b) = none) (hc:begC (at' ts b) = true):betwV (ts.drop a) = some (1,ts.drop b):=by
 have hlt:b < ts.length:=at_lt (fun e => by
  unfold begC begU isSg at hc
  simp [e] at hc)
 have hlen:(ts.drop b).length < (ts.drop a).length:=by
  rw [List.length_drop,List.length_drop]
  omega
 unfold betwV
 rw [← hd]
 rw [at_cons hlt] at hlen ⊢
 simp only [h]
 rw [if_pos ⟨hlen,hc⟩]
theorem betw_none {ts:List Bt} {a b:Nat} (hd:ts.drop b = dropW (ts.drop a)) (h:combO (at' ts b) = none) (hc:¬ (a < b ∧ begC (at' ts b) = true)) (hal:a ≤ ts.length):betwV (ts.drop a) = none:=by
 unfold betwV
 rw [← hd]
 by_cases hlt:b < ts.length
 ·have hlen:¬ ((ts.drop b).length < (ts.drop a).length ∧ begC (at' ts b) = true):=fun hh => by
   have h1:=hh.1
   rw [List.length_drop,List.length_drop] at h1
   exact hc ⟨by omega,hh.2⟩
  rw [at_cons hlt] at hlen ⊢
  simp only [h]
  rw [if_neg hlen]
 ·rw [List.drop_eq_nil_of_le (by omega)]
set_option maxHeartbeats 1000000 in
theorem combinator_any (n₀ R:Nat) (v:Value) (ts:List Bt) (a:Nat) (deep:Int) (w:World) (hP:Rd n₀ w R v ts a deep) :
  Calls Tryz.prog 238 #[.pointer (some ⟨R,0,none⟩)] w fun e w' => ((∃ c b,betwV (ts.drop a) = some (c,ts.drop b) ∧ e = .returned (.tuple #[.int .i64 c,.bool true]) ∧ Rd n₀ w' R v ts b deep) ∨ (betwV (ts.drop a) = none ∧ e = .returned (.tuple #[.int .i64 0,.bool false]) ∧ ∃ b,ts.drop b = dropW (ts.drop a) ∧ Rd n₀ w' R v ts b deep)) ∧ But R w w':=by
 have hlm:=hP.most
 have hla:=hP.least
 have h1:=passWhite_any n₀ R v ts a deep w hP
 go_enter Tryz.func238,Tryz.ntmps238
 go_wp2_with fail
 refine h1.mono ?_
 clear h1
 rintro e w1 ⟨b,rfl,hab,hbl,hd,hP1,hb1⟩
 have h2:=fun X hX => ahead_any n₀ R v ts b deep X hX
 obtain ⟨T,hT⟩:∃ T,at' ts b = T:=⟨_,rfl⟩
 rw [hT] at h2
 have h3:=fun X => combinatorOf_any T X
 have h6:=fun X => beginsCompound_any T X
 unfold tkV at h2 h3 h6
 have hbs:=fun c (hlt:b < ts.length) => betw_sign (c:=c) hlt hd
 have hbw:=fun h => betw_white hd h
 have hbn:=betw_none (b:=b) hd
 rw [hT] at hbs hbw hbn
 have h10:=combO_kind (T:=T)
 have HB1:Hid (∀ c (_:b < ts.length),combO T = some c → betwV (ts.drop a) = some (c,dropW (ts.drop (b + 1)))):=hbs
 have HB2:Hid (∀ (_:a < b),combO T = none → begC T = true → betwV (ts.drop a) = some (1,ts.drop b)):=hbw
 have HB3:Hid (combO T = none → ¬ (a < b ∧ begC T = true) → a ≤ ts.length → betwV (ts.drop a) = none):=hbn
 have H10:Hid ((combO T).isSome = true → T.kind = 10):=h10
 clear hbs hbw hbn h10
 have h2':=h2 w1 hP1
 go_wp2_with fail
 refine h2'.mono ?_
 clear h2'
 rintro e w2 ⟨rfl,b2⟩
 go_wp2_with fail
 refine (h3 w2).mono ?_
 clear h3
 rintro e w3 ⟨rfl,b3⟩
 have hP3:=(hP1.below b2).below b3
 have hb3:But R w w3:=(hb1.trans (.of_below b2)).trans (.of_below b3)
 cases hO:combO T with
 | some c =>
  have hlt:b < ts.length:=at_lt (by rw [hT,(show _ → _ from H10) (by rw [hO];rfl)];decide)
  have hbe:=(show ∀ _ _,_ → _ from HB1) c hlt hO
  have hw:IntKind.i64.wrap ((b:Int) + 1) = (b:Int) + 1:=by rw [IntKind.wrap_i64];omega
  obtain ⟨⟨p0,p1,p2⟩,g0,g1,g2⟩:=blk3 hP3.blk
  have hP4:=hP3.set (b:=b + 1) (by omega)
  have hb4:=hb3.trans (But.set R w3 1 (.int .i64 (b + 1:Nat)))
  push_cast at hP4 hb4
  clear h2 h6 HB1 HB2 HB3 H10 hd
  simp only [Option.getD_some,Option.isSome_some]
  go_upto_region 5 with fail
  generalize w3.setCell ⟨R,1,none⟩ (.int .i64 ((b:Int) + 1)) = w4 at *
  have h5:=passWhite_any n₀ R v ts (b + 1) deep w4 hP4
  go_wp2_with fail
  refine h5.mono ?_
  clear h5
  rintro e w5 ⟨d,rfl,hbd,hdl,hdd,hP5,hb5⟩
  go_wp2
  refine bodyPost_ret (results_tmp2 rfl _ _ _) rfl ?_
  exact ⟨.inl ⟨c,d,by rw [hbe,hdd],rfl,hP5⟩,hb4.trans hb5⟩
 | none =>
  simp only [Option.getD_none,Option.isSome_none]
  by_cases hgt:a < b
  ·rw [decide_eq_true hgt]
   have h2':=h2 w3 hP3
   clear h2
   go_wp2_with fail
   refine h2'.mono ?_
   clear h2'
   rintro e w4 ⟨rfl,b4⟩
   go_wp2_with fail
   refine (h6 w4).mono ?_
   clear h6
   rintro e w5 ⟨rfl,b5⟩
   have hP5:=(hP3.below b4).below b5
   have hb5:But R w w5:=(hb3.trans (.of_below b4)).trans (.of_below b5)
   cases hC:begC T with
   | true =>
    have hbe:=(show ∀ _,_ → _ → _ from HB2) hgt hO hC
    clear HB1 HB2 HB3 H10
    go_wp2
    refine bodyPost_ret (results_tmp2 rfl _ _ _) rfl ?_
    exact ⟨.inl ⟨1,b,hbe,rfl,hP5⟩,hb5⟩
   | false =>
    have hbe:=(show _ → _ → _ → _ from HB3) hO (fun h => by rw [hC] at h;cases h.2) hla
    clear HB1 HB2 HB3 H10
    go_wp2
    refine bodyPost_ret (results_tmp2 rfl _ _ _) rfl ?_
    exact ⟨.inr ⟨hbe,rfl,b,hd,hP5⟩,hb5⟩
  ·rw [decide_eq_false hgt]
   have hbe:=(show _ → _ → _ → _ from HB3) hO (fun h => hgt h.1) hla
   clear h2 h6 HB1 HB2 HB3 H10
   go_wp2
   refine bodyPost_ret (results_tmp2 rfl _ _ _) rfl ?_
   exact ⟨.inr ⟨hbe,rfl,b,hd,hP3⟩,hb3⟩
theorem tagV_star {ts:List Bt} {a:Nat} (h:isSg (at' ts a) 42 = true):tagV (ts.drop a) = (⟨#[]⟩,ts.drop (a + 1)):=by
 have hlt:a < ts.length:=at_lt (by rw [(of_decide_eq_true h).1];decide)
 rw [at_cons hlt,tagV,if_pos h]
theorem tagV_name {ts:List Bt} {a:Nat} (h:isSg (at' ts a) 42 = false) (h1:(at' ts a).kind = 1):tagV (ts.drop a) = (lowS (at' ts a).text,ts.drop (a + 1)):=by
 have hlt:a < ts.length:=at_lt (by rw [h1];decide)
 rw [at_cons hlt,tagV,if_neg (by rw [h];simp),if_pos h1]
theorem tagV_none {ts:List Bt} {a:Nat} (h:isSg (at' ts a) 42 = false) (h1:(at' ts a).kind ≠ 1):tagV (ts.drop a) = (⟨#[]⟩,ts.drop a):=by
 by_cases hlt:a < ts.length
 ·rw [at_cons hlt,tagV,if_neg (by rw [h];simp),if_neg h1]
 ·rw [List.drop_eq_nil_of_le (by omega)]
  rfl
set_option maxHeartbeats 1000000 in
theorem tag_any (n₀ R:Nat) (v:Value) (ts:List Bt) (a:Nat) (deep:Int) (w:World) (hP:Rd n₀ w R v ts a deep) (hG:Good ts) :
  Calls Tryz.prog 239 #[.pointer (some ⟨R,0,none⟩)] w fun e w' => e = .returned (.string (tagV (ts.drop a)).1) ∧ (∃ b,(tagV (ts.drop a)).2 = ts.drop b ∧ a ≤ b ∧ Rd n₀ w' R v ts b deep) ∧ But R w w':=by
 have h1:=passesSign_any n₀ R v ts a deep 42 w hP
 have hs:=tagV_star (ts:=ts) (a:=a)
 have hn:=tagV_name (ts:=ts) (a:=a)
 have hz:=tagV_none (ts:=ts) (a:=a)
 have hg:=hG.at a
 obtain ⟨V,hV⟩:∃ V,tagV (ts.drop a) = V:=⟨_,rfl⟩
 rw [hV] at hs hn hz ⊢
 have hpu:=fun X hX => pull_any n₀ R v ts a deep X hX
 generalize at' ts a = T at *
 cases hB:isSg T 42 with
 | true =>
  obtain rfl:=hs hB
  rw [hB,if_pos rfl] at h1
  clear hs hn hz hV hpu hB
  go_enter Tryz.func239,Tryz.ntmps239
  go_wp2_with fail
  refine h1.mono ?_
  clear h1
  rintro e w1 ⟨rfl,hP1,hb1⟩
  go_wp2
  go_ret
  exact ⟨rfl,⟨a + 1,rfl,by omega,hP1⟩,hb1⟩
 | false =>
  rw [hB,if_neg (by simp)] at h1
  have hc1:([1]:List Int).contains T.kind = decide (T.kind = 1):=by simp
  have HP:Hid (∀ X,Rd n₀ X R v ts a deep → Calls Tryz.prog 198 #[.pointer (some ⟨R,0,none⟩),.slice (some ⟨X.heap.size,0,none⟩) 1 1] (X.alloc (.cells #[.int .i64 1] 3)) fun e w' => e = .returned (.tuple #[tkV (if decide (T.kind = 1) then T else zeroT),.bool (decide (T.kind = 1))]) ∧ Rd n₀ w' R v ts (if decide (T.kind = 1) then a + 1 else a) deep ∧ But R (X.alloc (.cells #[.int .i64 1] 3)) w'):=fun X hX => by
   have:=hpu (X.alloc (.cells #[.int .i64 1] 3)) (hX.below ((Below.refl _ _).alloc (Nat.le_refl _) _)) (.slice (some ⟨X.heap.size,0,none⟩) 1 1) [1] (by rw [World.size_alloc];exact ints_new X [1] 3 (by simp)) (by simp) rfl
   rw [hc1] at this
   exact this
  clear hpu hs hc1
  by_cases hk:T.kind = 1
  ·obtain rfl:=hn hB hk
   rw [decide_eq_true hk] at HP
   simp only [if_true] at HP
   clear hn hz hV hB hk
   go_enter Tryz.func239,Tryz.ntmps239
   go_wp2_with fail
   refine h1.mono ?_
   clear h1
   rintro e w1 ⟨rfl,hP1,hb1⟩
   have h2:=(show ∀ _,_ from HP) w1 hP1
   clear HP
   have ba:Below w1.heap.size w1 (w1.alloc (.cells #[.int .i64 1] 3)):=(Below.refl _ _).alloc (Nat.le_refl _) _
   unfold tkV at h2
   go_wp2_with fail
   refine h2.mono ?_
   clear h2
   rintro e w2 ⟨rfl,hP2,hb2⟩
   have hb3:But R w w2:=(hb1.trans (.of_below ba)).trans hb2
   obtain ⟨bt,kt⟩:=tok_new w2 T
   have hlow:=Lw.lower_any T.text (w2.alloc (.cells #[.int .i64 T.kind,.string T.text,.int .i64 T.n,.bool T.whole,.int .i64 T.c] 108)) (by unfold maxLen;omega)
   obtain ⟨⟨c0,c1,c2,c3,c4⟩,_⟩:=blk5 kt
   go_wp2_with fail
   refine hlow.mono ?_
   clear hlow
   rintro e w4 ⟨rfl,b4⟩
   go_wp2
   go_ret
   exact ⟨rfl,⟨a + 1,rfl,by omega,(hP2.below bt).below b4⟩,(hb3.trans (.of_below bt)).trans (.of_below b4)⟩
  ·obtain rfl:=hz hB hk
   rw [decide_eq_false hk] at HP
   simp only [Bool.false_eq_true,if_false] at HP
   clear hn hz hV hB hk
   go_enter Tryz.func239,Tryz.ntmps239
   go_wp2_with fail
   refine h1.mono ?_
   clear h1
   rintro e w1 ⟨rfl,hP1,hb1⟩
   have h2:=(show ∀ _,_ from HP) w1 hP1
   clear HP
   have ba:Below w1.heap.size w1 (w1.alloc (.cells #[.int .i64 1] 3)):=(Below.refl _ _).alloc (Nat.le_refl _) _
   unfold tkV zeroT at h2
   go_wp2_with fail
   refine h2.mono ?_
   clear h2
   rintro e w2 ⟨rfl,hP2,hb2⟩
   have hb3:But R w w2:=(hb1.trans (.of_below ba)).trans hb2
   obtain ⟨bt,kt⟩:=tok_new w2 zeroT
   unfold zeroT at bt kt
   have hlow:=Lw.lower_any ⟨#[]⟩ (w2.alloc (.cells #[.int .i64 0,.string ⟨#[]⟩,.int .i64 0,.bool false,.int .i64 0] 108)) (by decide)
   obtain ⟨⟨c0,c1,c2,c3,c4⟩,_⟩:=blk5 kt
   go_wp2_with fail
   refine hlow.mono ?_
   clear hlow
   rintro e w4 ⟨rfl,b4⟩
   go_wp2
   go_ret
   exact ⟨rfl,⟨a,rfl,by omega,(hP2.below bt).below b4⟩,(hb3.trans (.of_below bt)).trans (.of_below b4)⟩
end Go.Proofs.YtagbjmocjaaioaaGreatDoor.Sl

/- The reader of selectors: what is pulled amid white, operators, names of pseudo-classes, the number of a child. -/
set_option maxRecDepth 100000
namespace Go.Proofs.YtagbjmocjaaioaaGreatDoor.Sl
open Go.Proofs.YtagbjmocjaaioaaGreatDoor.Tre
open Go Go.RowKit Go.Shelf
theorem clone_any (w:World) (s:ByteArray) (hs:s.size ≤ 1000000) :
  Calls Tryz.prog 140 #[.string s] w fun e w' => e = .returned (.string s) ∧ Below w.heap.size w w':=by
 have hc:=Tryz.stringslite_Clone s w (by omega)
 go_enter Tryz.func140,Tryz.ntmps140
 go_wp2_with fail
 refine hc.mono ?_
 rintro e w' ⟨rfl,hb⟩
 clear hc
 go_wp2
 go_ret
 exact ⟨rfl,hb⟩
/-! ### operators -/
def opsT:List (Int × Int):=[(126,2),(124,3),(94,4),(36,5),(42,6)]
def opCells (r:Int × Int):List Value:=[.int .i64 r.1,.int .i64 r.2]
def opRow:Array Value:=(opsT.flatMap opCells).toArray
def OpsAt (n₀:Nat) (W:World):Prop:=5 < n₀ ∧ ∃ t fr,W.heap[(5:Nat)]? = some (.cells opRow t fr)
theorem OpsAt.below {n₀:Nat} {X Y:World} (h:OpsAt n₀ X) (hb:Below n₀ X Y):OpsAt n₀ Y:=⟨h.1,h.2.elim fun t h2 => h2.elim fun fr h3 => ⟨t,fr,(hb.block _ h.1).trans h3⟩⟩
theorem OpsAt.mono {n₀ n₁:Nat} {X:World} (h:OpsAt n₀ X) (hn:n₀ ≤ n₁):OpsAt n₁ X:=⟨Nat.lt_of_lt_of_le h.1 hn,h.2⟩
/-! ### names of pseudo-classes -/
def psV (k a b:Int) (x:Value):Value:=.agg #[.int .i64 k,.int .i64 a,.int .i64 b,x]
theorem Rd.drew {n₀:Nat} {W:World} {R:Nat} {v:Value} {ts:List Bt} {a:Nat} {deep:Int} (h:Rd n₀ W R v ts a deep):Rd n₀ W.drew R v ts a deep:=h.below ⟨rfl,rfl,rfl,Nat.le_refl _,fun _ _ => rfl⟩
end Go.Proofs.YtagbjmocjaaioaaGreatDoor.Sl

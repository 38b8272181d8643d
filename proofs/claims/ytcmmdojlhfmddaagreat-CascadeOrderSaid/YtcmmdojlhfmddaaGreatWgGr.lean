/- weigh: sums (grown, weight, with, namesOf), at every input. -/
import Derived.Test.YtcmmdojlhfmddaaGreatWgMem
import Derived.Test.YtcmmdojlhfmddaaGreatRgn
set_option maxRecDepth 100000
namespace Go.Proofs.YtcmmdojlhfmddaaGreat.Wg
open Go.Proofs.YtcmmdojlhfmddaaGreat.Tre
open Go Go.RowKit Sl
theorem infoSm:(Tryz.prog.info? 152).map (·.size) = some 3:=by kernel_rfl
theorem load_sm {w:World} {g:Nat} {a b c:Value} (h:Blk w g 152 [a,b,c]):(loadVar 152 ⟨g,0,none⟩).run Tryz.prog w = .ok (.agg #[a,b,c]) w:=
 run_loadVar_row w g _ 152 #[a,b,c] (0,0) _ h Tryz.underlying152 rfl infoSm
set_option maxHeartbeats 1000000 in
theorem grown8_any (s n:Nat) (hs:s ≤ 255) (_hn:n ≤ 255) (w:World) :
  Calls Tryz.prog 114 #[.int .u8 s,.int .u8 n] w fun e w' => e = .returned (.int .u8 (gr s n)) ∧ w' = w:=by
 obtain ⟨g,hg⟩:∃ g,gr s n = g:=⟨_,rfl⟩
 rw [hg]
 unfold gr at hg
 have h1:IntKind.u8.wrap (255 - (s:Int)) = 255 - (s:Int):=by rw [IntKind.wrap_u8];omega
 by_cases hle:s + n ≤ 255
 ·rw [if_pos hle] at hg
  have hm:min (n:Int) (255 - (s:Int)) = n:=by omega
  have h2:IntKind.u8.wrap ((s:Int) + (n:Int)) = (g:Int):=by rw [IntKind.wrap_u8];omega
  clear hle hg
  go_enter Tryz.func114,Tryz.ntmps114
  go_wp2
  go_ret
  exact ⟨rfl,rfl⟩
 ·rw [if_neg hle] at hg
  subst hg
  have hm:min (n:Int) (255 - (s:Int)) = 255 - (s:Int):=by omega
  have h2:IntKind.u8.wrap ((s:Int) + (255 - (s:Int))) = 255:=by rw [IntKind.wrap_u8];omega
  have h5:(s:Int) + (255 - (s:Int)) = 255:=by omega
  clear hle
  go_enter Tryz.func114,Tryz.ntmps114
  go_wp2
  go_ret
  exact ⟨rfl,rfl⟩
set_option maxHeartbeats 1000000 in
theorem grownI_any (s n:Nat) (hs:s ≤ 255) (hn:n ≤ maxLen) (w:World) :
  Calls Tryz.prog 115 #[.int .u8 s,.int .i64 n] w fun e w' => e = .returned (.int .u8 (gr s n)) ∧ w' = w:=by
 unfold maxLen at hn
 obtain ⟨g,hg⟩:∃ g,gr s n = g:=⟨_,rfl⟩
 rw [hg]
 unfold gr at hg
 have h1:IntKind.u8.wrap (255 - (s:Int)) = 255 - (s:Int):=by rw [IntKind.wrap_u8];omega
 have h3:IntKind.i64.wrap (255 - (s:Int)) = 255 - (s:Int):=by rw [IntKind.wrap_i64];omega
 by_cases hle:s + n ≤ 255
 ·rw [if_pos hle] at hg
  have hm:min (n:Int) (255 - (s:Int)) = n:=by omega
  have h2:IntKind.u8.wrap ((s:Int) + (n:Int)) = (g:Int):=by rw [IntKind.wrap_u8];omega
  have h4:IntKind.u8.wrap (n:Int) = (n:Int):=by rw [IntKind.wrap_u8];omega
  clear hle hg
  go_enter Tryz.func115,Tryz.ntmps115
  go_wp2
  go_ret
  exact ⟨rfl,rfl⟩
 ·rw [if_neg hle] at hg
  subst hg
  have hm:min (n:Int) (255 - (s:Int)) = 255 - (s:Int):=by omega
  have h2:IntKind.u8.wrap ((s:Int) + (255 - (s:Int))) = 255:=by rw [IntKind.wrap_u8];omega
  have h5:(s:Int) + (255 - (s:Int)) = 255:=by omega
  clear hle
  go_enter Tryz.func115,Tryz.ntmps115
  go_wp2
  go_ret
  exact ⟨rfl,rfl⟩
set_option maxHeartbeats 1000000 in
theorem weight_any (s:Sm) (hs:s.ok) (w:World) :
  Calls Tryz.prog 85 #[smV s] w fun e w' => e = .returned (.int .i64 (weightV s)) ∧ Below w.heap.size w w':=by
 obtain ⟨i,c,t⟩:=s
 obtain ⟨hi,hc,ht⟩:=hs
 simp only at hi hc ht
 unfold smV weightV
 simp only
 have b0:Below w.heap.size w (w.alloc (.cells #[.int .u8 i,.int .u8 c,.int .u8 t] 152)):=(Below.refl _ w).alloc (Nat.le_refl _) _
 have k0:Blk (w.alloc (.cells #[.int .u8 i,.int .u8 c,.int .u8 t] 152)) w.heap.size 152 [.int .u8 i,.int .u8 c,.int .u8 t]:=Blk.new w 152 _
 go_enter Tryz.func85,Tryz.ntmps85
 go_upto_region 1 with fail
 generalize w.alloc (.cells #[.int .u8 i,.int .u8 c,.int .u8 t] 152) = W at *
 obtain ⟨⟨c0,c1,c2⟩,_⟩:=blk3 k0
 have h1:IntKind.i64.wrap (i:Int) = (i:Int):=by rw [IntKind.wrap_i64];omega
 have h2:IntKind.i64.wrap (c:Int) = (c:Int):=by rw [IntKind.wrap_i64];omega
 have h3:IntKind.i64.wrap (t:Int) = (t:Int):=by rw [IntKind.wrap_i64];omega
 go_wp2
 go_ret
 exact ⟨by simp;omega,b0⟩
set_option maxHeartbeats 1000000 in
theorem with_any (a b:Sm) (ha:a.ok) (hb:b.ok) (w:World) :
  Calls Tryz.prog 94 #[smV a,smV b] w fun e w' => e = .returned (smV (withV a b)) ∧ Below w.heap.size w w':=by
 obtain ⟨i,c,t⟩:=a
 obtain ⟨j,d,u⟩:=b
 obtain ⟨hi,hc,ht⟩:=ha
 obtain ⟨hj,hd,hu⟩:=hb
 simp only at hi hc ht hj hd hu
 unfold smV withV
 simp only
 obtain ⟨W,hW⟩:∃ W,((w.alloc (.cells #[.int .u8 i,.int .u8 c,.int .u8 t] 152)).alloc (.cells #[.int .u8 j,.int .u8 d,.int .u8 u] 152)).alloc (.cells #[.int .u8 0,.int .u8 0,.int .u8 0] 152) = W:=⟨_,rfl⟩
 have b0:Below w.heap.size w W:=by rw [← hW];exact (((Below.refl _ w).alloc (Nat.le_refl _) _).alloc (by simp) _).alloc (by simp;omega) _
 have k0:Blk W w.heap.size 152 [.int .u8 i,.int .u8 c,.int .u8 t]:=by
  rw [← hW]
  exact ((Blk.new w 152 _).kept (World.grownBy_alloc _ _ none) (by simp)).kept (World.grownBy_alloc _ _ none) (by simp)
 have k1:Blk W (w.heap.size + 1) 152 [.int .u8 j,.int .u8 d,.int .u8 u]:=by
  rw [← hW]
  have:=(Blk.new (w.alloc (.cells #[.int .u8 i,.int .u8 c,.int .u8 t] 152)) 152 [.int .u8 j,.int .u8 d,.int .u8 u]).kept (World.grownBy_alloc _ (.cells #[.int .u8 0,.int .u8 0,.int .u8 0] 152) none) (by simp)
  rwa [World.size_alloc] at this
 have k2:Blk W (w.heap.size + 1 + 1) 152 [.int .u8 0,.int .u8 0,.int .u8 0]:=by
  rw [← hW]
  have:=Blk.new ((w.alloc (.cells #[.int .u8 i,.int .u8 c,.int .u8 t] 152)).alloc (.cells #[.int .u8 j,.int .u8 d,.int .u8 u] 152)) 152 [.int .u8 0,.int .u8 0,.int .u8 0]
  rwa [World.size_alloc,World.size_alloc] at this
 go_enter Tryz.func94,Tryz.ntmps94
 go_upto_region 1 with fail
 clear hW
 obtain ⟨⟨c0,c1,c2⟩,_⟩:=blk3 k0
 obtain ⟨⟨d0,d1,d2⟩,_⟩:=blk3 k1
 obtain ⟨⟨z0,z1,z2⟩,f0,f1,f2⟩:=blk3 k2
 have HeldS:W.drew.cell? ⟨w.heap.size,0,none⟩ = some (.int .u8 i) ∧ W.drew.cell? ⟨w.heap.size,1,none⟩ = some (.int .u8 c) ∧ W.drew.cell? ⟨w.heap.size,2,none⟩ = some (.int .u8 t) ∧ W.drew.cell? ⟨w.heap.size + 1,0,none⟩ = some (.int .u8 j) ∧ W.drew.cell? ⟨w.heap.size + 1,1,none⟩ = some (.int .u8 d) ∧ W.drew.cell? ⟨w.heap.size + 1,2,none⟩ = some (.int .u8 u):=⟨c0,c1,c2,d0,d1,d2⟩
 clear c0 c1 c2 d0 d1 d2
 refine Rg.wpD_begin [0,1,2,3,4,5,6,7,8,9,10,11,12,13,14] (fun X => X.cell? ⟨w.heap.size,0,none⟩ = some (.int .u8 i) ∧ X.cell? ⟨w.heap.size,1,none⟩ = some (.int .u8 c) ∧ X.cell? ⟨w.heap.size,2,none⟩ = some (.int .u8 t) ∧ X.cell? ⟨w.heap.size + 1,0,none⟩ = some (.int .u8 j) ∧ X.cell? ⟨w.heap.size + 1,1,none⟩ = some (.int .u8 d) ∧ X.cell? ⟨w.heap.size + 1,2,none⟩ = some (.int .u8 u)) (by kernel_rfl) ?_
 refine Rg.ld 0 HeldS ?_
 simp only [Act.put,Rg.sA,Rg.sB,Rg.sC]
 refine Rg.ld 1 HeldS ?_
 simp only [Act.put,Rg.sA,Rg.sB,Rg.sC]
 refine Rg.ld 2 HeldS ?_
 simp only [Act.put,Rg.sA,Rg.sB,Rg.sC]
 refine Rg.ld 3 HeldS ?_
 simp only [Act.put,Rg.sA,Rg.sB,Rg.sC]
 refine Rg.ld 5 HeldS ?_
 simp only [Act.put,Rg.sA,Rg.sB,Rg.sC]
 refine Rg.ld 6 HeldS ?_
 simp only [Act.put,Rg.sA,Rg.sB,Rg.sC]
 refine Rg.ld 7 HeldS ?_
 simp only [Act.put,Rg.sA,Rg.sB,Rg.sC]
 refine Rg.ld 8 HeldS ?_
 simp only [Act.put,Rg.sA,Rg.sB,Rg.sC]
 refine Rg.ld 10 HeldS ?_
 simp only [Act.put,Rg.sA,Rg.sB,Rg.sC]
 refine Rg.ld 11 HeldS ?_
 simp only [Act.put,Rg.sA,Rg.sB,Rg.sC]
 refine Rg.ld 12 HeldS ?_
 simp only [Act.put,Rg.sA,Rg.sB,Rg.sC]
 refine Rg.ld 13 HeldS ?_
 simp only [Act.put,Rg.sA,Rg.sB,Rg.sC]
 refine Rg.dd 4 fun K hK => ?_
 go_simp
 go_at_call 114
 refine Calls.mono (grown8_any i j hi hj _) ?_
 rintro e X ⟨rfl,rfl⟩
 refine hK _ _ (fun _ => HeldS) ?_
 clear hK K
 refine Rg.dd 9 fun K hK => ?_
 go_simp
 go_at_call 114
 refine Calls.mono (grown8_any c d hc hd _) ?_
 rintro e X ⟨rfl,rfl⟩
 refine hK _ _ (fun _ => HeldS) ?_
 clear hK K
 refine Rg.dd 14 fun K hK => ?_
 go_simp
 go_at_call 114
 refine Calls.mono (grown8_any t u ht hu _) ?_
 rintro e X ⟨rfl,rfl⟩
 refine hK _ _ (fun _ => HeldS) ?_
 clear hK K
 refine Rg.pu 15 ?_
 simp only [Act.put,Rg.sA,Rg.sB,Rg.sC]
 refine Rg.dd 16 fun K hK => ?_
 go_simp
 refine hK _ _ (fun h => absurd h (by decide)) ?_
 clear hK K
 refine Rg.wpD_done (by kernel_rfl) ?_
 go_wp2
 refine bodyPost_ret (results_struct rfl _ _ (w.heap.size + 1 + 1) _ rfl (load_sm (blk_set3 (blk_drew k2 1) _ _ _))) rfl ?_
 exact ⟨rfl,below_grew (below_drew b0) (grown_set3 W.drew (w.heap.size + 1 + 1) _ _ _) (Nat.le_trans b0.size (Nat.le_refl _)) (by omega)⟩
end Go.Proofs.YtcmmdojlhfmddaaGreat.Wg

/- weigh: namesOf, pseudoOf, sumsOf, greatest, Of, at every selector. -/
set_option maxRecDepth 100000
namespace Go.Proofs.YtcmmdojlhfmddaaGreat.Wg
open Go.Proofs.YtcmmdojlhfmddaaGreat.Tre
open Go Go.RowKit Sl
set_option maxHeartbeats 1000000 in
theorem namesOf_any (c:Cp) (w:World) (qi qk qa qp:Option Addr) (mp ci ck ca cp:Nat) (hi:c.ids.length ≤ maxLen) (hk:c.classes.length ≤ maxLen) (ha:c.attrs.length ≤ maxLen) :
  Calls Tryz.prog 95 #[.agg #[.string c.tag,.slice qi c.ids.length ci,.slice qk c.classes.length ck,.slice qa c.attrs.length ca,.slice qp mp cp]] w fun e w' => e = .returned (smV (namesV c)) ∧ Below w.heap.size w w':=by
 unfold smV namesV
 simp only
 obtain ⟨tt,htt⟩:∃ tt,(if c.tag = ⟨#[]⟩ then 0 else 1) = tt:=⟨_,rfl⟩
 rw [htt]
 have HTT:Hid ((if c.tag = ⟨#[]⟩ then 0 else 1) = tt):=htt
 clear htt
 obtain ⟨W,hW⟩:∃ W,(w.alloc (.cells #[.string c.tag,.slice qi c.ids.length ci,.slice qk c.classes.length ck,.slice qa c.attrs.length ca,.slice qp mp cp] 140)).alloc (.cells #[.int .u8 0,.int .u8 0,.int .u8 0] 152) = W:=⟨_,rfl⟩
 have b0:Below w.heap.size w W:=by rw [← hW];exact ((Below.refl _ w).alloc (Nat.le_refl _) _).alloc (by simp) _
 have k0:Blk W w.heap.size 140 [.string c.tag,.slice qi c.ids.length ci,.slice qk c.classes.length ck,.slice qa c.attrs.length ca,.slice qp mp cp]:=by
  rw [← hW]
  exact (Blk.new w 140 _).kept (World.grownBy_alloc _ _ none) (by simp)
 have k2:Blk W (w.heap.size + 1) 152 [.int .u8 0,.int .u8 0,.int .u8 0]:=by
  rw [← hW]
  have:=Blk.new (w.alloc (.cells #[.string c.tag,.slice qi c.ids.length ci,.slice qk c.classes.length ck,.slice qa c.attrs.length ca,.slice qp mp cp] 140)) 152 [.int .u8 0,.int .u8 0,.int .u8 0]
  rwa [World.size_alloc] at this
 go_enter Tryz.func95,Tryz.ntmps95
 go_upto_region 1 with fail
 clear hW
 obtain ⟨⟨c0,c1,c2,c3,c4⟩,_⟩:=blk5 k0
 have hV:∃ V,W.drew = V:=⟨_,rfl⟩
 obtain ⟨V,hV⟩:=hV
 have bV:Below W.heap.size W V:=by rw [← hV];exact below_drew (Below.refl _ _)
 have hsV:W.heap.size = V.heap.size:=by rw [← hV];rfl
 have kV:Blk V w.heap.size 140 [.string c.tag,.slice qi c.ids.length ci,.slice qk c.classes.length ck,.slice qa c.attrs.length ca,.slice qp mp cp]:=by rw [← hV];exact k0
 have bA:Below V.heap.size V (V.alloc (.cells #[.int .u8 0,.int .u8 0,.int .u8 0] 152)):=(Below.refl _ _).alloc (Nat.le_refl _) _
 have kA:Blk (V.alloc (.cells #[.int .u8 0,.int .u8 0,.int .u8 0] 152)) V.heap.size 152 [.int .u8 0,.int .u8 0,.int .u8 0]:=Blk.new V 152 _
 have FIN:Hid (∃ B,(Value.pointer (some ⟨V.heap.size,0,none⟩)) = .pointer (some ⟨B,0,none⟩) ∧ W.heap.size ≤ B ∧ Blk (set3 (V.alloc (.cells #[.int .u8 0,.int .u8 0,.int .u8 0] 152)) V.heap.size (.int .u8 (gr 0 c.ids.length)) (.int .u8 (gr (gr 0 c.classes.length) c.attrs.length)) (.int .u8 0)) B 152 [.int .u8 (gr 0 c.ids.length),.int .u8 (gr (gr 0 c.classes.length) c.attrs.length),.int .u8 0] ∧ Below W.heap.size W (set3 (V.alloc (.cells #[.int .u8 0,.int .u8 0,.int .u8 0] 152)) V.heap.size (.int .u8 (gr 0 c.ids.length)) (.int .u8 (gr (gr 0 c.classes.length) c.attrs.length)) (.int .u8 0))):=
  ⟨_,rfl,by omega,blk_set3 kA _ _ _,below_grew (below_next bV bA) (grown_set3 _ V.heap.size _ _ _) (by have:=bA.size;omega) (by omega)⟩
 have FIN2:Hid (∃ B,(Value.pointer (some ⟨V.heap.size,0,none⟩)) = .pointer (some ⟨B,0,none⟩) ∧ W.heap.size ≤ B ∧ Blk (V.alloc (.cells #[.int .u8 (gr 0 c.ids.length),.int .u8 (gr (gr 0 c.classes.length) c.attrs.length),.int .u8 0] 152)) B 152 [.int .u8 (gr 0 c.ids.length),.int .u8 (gr (gr 0 c.classes.length) c.attrs.length),.int .u8 0] ∧ Below W.heap.size W (V.alloc (.cells #[.int .u8 (gr 0 c.ids.length),.int .u8 (gr (gr 0 c.classes.length) c.attrs.length),.int .u8 0] 152))):=
  ⟨_,rfl,by omega,Blk.new V 152 _,below_next bV ((Below.refl _ _).alloc (Nat.le_refl _) _)⟩
 obtain ⟨⟨_,c1,c2,c3,_⟩,_⟩:=blk5 kV
 have HeldS:V.cell? ⟨w.heap.size,1,none⟩ = some (.slice qi c.ids.length ci) ∧ V.cell? ⟨w.heap.size,2,none⟩ = some (.slice qk c.classes.length ck) ∧ V.cell? ⟨w.heap.size,3,none⟩ = some (.slice qa c.attrs.length ca):=⟨c1,c2,c3⟩
 obtain ⟨⟨_,d1,d2,d3,_⟩,_⟩:=blk5 (kV.below bA kV.lt)
 have HeldA:(V.alloc (.cells #[.int .u8 0,.int .u8 0,.int .u8 0] 152)).cell? ⟨w.heap.size,1,none⟩ = some (.slice qi c.ids.length ci) ∧ (V.alloc (.cells #[.int .u8 0,.int .u8 0,.int .u8 0] 152)).cell? ⟨w.heap.size,2,none⟩ = some (.slice qk c.classes.length ck) ∧ (V.alloc (.cells #[.int .u8 0,.int .u8 0,.int .u8 0] 152)).cell? ⟨w.heap.size,3,none⟩ = some (.slice qa c.attrs.length ca):=⟨d1,d2,d3⟩
 obtain ⟨⟨a0,a1,a2⟩,f0,f1,f2⟩:=blk3 kA
 clear c1 c2 c3 d1 d2 d3
 go_cut [3] (fun x wx => ∃ B,x = .pointer (some ⟨B,0,none⟩) ∧ W.heap.size ≤ B ∧ Blk wx B 152 [.int .u8 (gr 0 c.ids.length),.int .u8 (gr (gr 0 c.classes.length) c.attrs.length),.int .u8 0] ∧ Below W.heap.size W wx)
 case first =>
  refine Rg.wpD_begin [0,1,2,3,4,5,6,7,8,9,10,11,13] (fun X => X.cell? ⟨w.heap.size,1,none⟩ = some (.slice qi c.ids.length ci) ∧ X.cell? ⟨w.heap.size,2,none⟩ = some (.slice qk c.classes.length ck) ∧ X.cell? ⟨w.heap.size,3,none⟩ = some (.slice qa c.attrs.length ca)) (by kernel_rfl) ?_
  rw [hV]
  clear hV k0 k2 b0 bV kV kA bA hsV
  refine Rg.ld 0 HeldS ?_
  simp only [Act.put,Rg.sA,Rg.sB,Rg.sC]
  refine Rg.ld 1 HeldS ?_
  simp only [Act.put,Rg.sA,Rg.sB,Rg.sC]
  refine Rg.ld 2 HeldS ?_
  simp only [Act.put,Rg.sA,Rg.sB,Rg.sC]
  refine Rg.ld 4 HeldS ?_
  simp only [Act.put,Rg.sA,Rg.sB,Rg.sC]
  refine Rg.ld 5 HeldS ?_
  simp only [Act.put,Rg.sA,Rg.sB,Rg.sC]
  refine Rg.ld 6 HeldS ?_
  simp only [Act.put,Rg.sA,Rg.sB,Rg.sC]
  refine Rg.ld 8 HeldS ?_
  simp only [Act.put,Rg.sA,Rg.sB,Rg.sC]
  refine Rg.ld 9 HeldS ?_
  simp only [Act.put,Rg.sA,Rg.sB,Rg.sC]
  refine Rg.ld 10 HeldS ?_
  simp only [Act.put,Rg.sA,Rg.sB,Rg.sC]
  refine Rg.wpD_two 3 13 (by kernel_rfl) (by simp only [List.getElem?_toArray,List.getElem?_cons_succ,List.getElem?_cons_zero];rfl) (by simp only [List.getElem?_toArray,List.getElem?_cons_succ,List.getElem?_cons_zero];rfl) (fun K hK => ?_) (fun K hK => ?_)
  ·go_simp
   go_at_call 115
   refine Calls.mono (grownI_any 0 c.ids.length (by omega) hi _) ?_
   rintro e X ⟨rfl,rfl⟩
   refine hK _ _ (fun _ => HeldS) ?_
   clear hK K
   refine Rg.wpD_two 7 13 (by kernel_rfl) (by simp only [List.getElem?_toArray,List.getElem?_cons_succ,List.getElem?_cons_zero];rfl) (by simp only [List.getElem?_toArray,List.getElem?_cons_succ,List.getElem?_cons_zero];rfl) (fun K hK => ?_) (fun K hK => ?_)
   ·go_simp
    go_at_call 115
    refine Calls.mono (grownI_any 0 c.classes.length (by omega) hk _) ?_
    rintro e X ⟨rfl,rfl⟩
    refine hK _ _ (fun _ => HeldS) ?_
    clear hK K
    refine Rg.wpD_two 11 13 (by kernel_rfl) (by simp only [List.getElem?_toArray,List.getElem?_cons_succ,List.getElem?_cons_zero];rfl) (by simp only [List.getElem?_toArray,List.getElem?_cons_succ,List.getElem?_cons_zero];rfl) (fun K hK => ?_) (fun K hK => ?_)
    ·go_simp
     go_at_call 115
     refine Calls.mono (grownI_any (gr 0 c.classes.length) c.attrs.length (gr_le _ _) ha _) ?_
     rintro e X ⟨rfl,rfl⟩
     refine hK _ _ (fun _ => HeldS) ?_
     clear hK K
     refine Rg.pu 12 ?_
     simp only [Act.put,Rg.sA,Rg.sB,Rg.sC]
     refine Rg.dd 13 fun K hK => ?_
     go_simp
     refine hK _ _ (fun _ => HeldA) ?_
     clear hK K
     refine Rg.dd 14 fun K hK => ?_
     go_simp
     refine hK _ _ (fun h => absurd h (by decide)) ?_
     clear hK K
     refine Rg.wpD_done (by kernel_rfl) ?_
     go_wp2
     go_meet
     first | exact FIN | exact FIN2
    ·go_simp
     refine hK _ _ (fun _ => HeldA) ?_
     clear hK K
     refine Rg.dd 11 fun K hK => ?_
     go_simp
     go_at_call 115
     refine Calls.mono (grownI_any (gr 0 c.classes.length) c.attrs.length (gr_le _ _) ha _) ?_
     rintro e X ⟨rfl,rfl⟩
     refine hK _ _ (fun _ => HeldA) ?_
     clear hK K
     refine Rg.pu 12 ?_
     simp only [Act.put,Rg.sA,Rg.sB,Rg.sC]
     refine Rg.dd 14 fun K hK => ?_
     go_simp
     refine hK _ _ (fun h => absurd h (by decide)) ?_
     clear hK K
     refine Rg.wpD_done (by kernel_rfl) ?_
     go_wp2
     go_meet
     first | exact FIN | exact FIN2
   ·go_simp
    refine hK _ _ (fun _ => HeldA) ?_
    clear hK K
    refine Rg.dd 7 fun K hK => ?_
    go_simp
    go_at_call 115
    refine Calls.mono (grownI_any 0 c.classes.length (by omega) hk _) ?_
    rintro e X ⟨rfl,rfl⟩
    refine hK _ _ (fun _ => HeldA) ?_
    clear hK K
    refine Rg.dd 11 fun K hK => ?_
    go_simp
    go_at_call 115
    refine Calls.mono (grownI_any (gr 0 c.classes.length) c.attrs.length (gr_le _ _) ha _) ?_
    rintro e X ⟨rfl,rfl⟩
    refine hK _ _ (fun _ => HeldA) ?_
    clear hK K
    refine Rg.pu 12 ?_
    simp only [Act.put,Rg.sA,Rg.sB,Rg.sC]
    refine Rg.dd 14 fun K hK => ?_
    go_simp
    refine hK _ _ (fun h => absurd h (by decide)) ?_
    clear hK K
    refine Rg.wpD_done (by kernel_rfl) ?_
    go_wp2
    go_meet
    first | exact FIN | exact FIN2
  ·go_simp
   refine hK _ _ (fun _ => HeldA) ?_
   clear hK K
   refine Rg.dd 3 fun K hK => ?_
   go_simp
   go_at_call 115
   refine Calls.mono (grownI_any 0 c.ids.length (by omega) hi _) ?_
   rintro e X ⟨rfl,rfl⟩
   refine hK _ _ (fun _ => HeldA) ?_
   clear hK K
   refine Rg.dd 7 fun K hK => ?_
   go_simp
   go_at_call 115
   refine Calls.mono (grownI_any 0 c.classes.length (by omega) hk _) ?_
   rintro e X ⟨rfl,rfl⟩
   refine hK _ _ (fun _ => HeldA) ?_
   clear hK K
   refine Rg.dd 11 fun K hK => ?_
   go_simp
   go_at_call 115
   refine Calls.mono (grownI_any (gr 0 c.classes.length) c.attrs.length (gr_le _ _) ha _) ?_
   rintro e X ⟨rfl,rfl⟩
   refine hK _ _ (fun _ => HeldA) ?_
   clear hK K
   refine Rg.pu 12 ?_
   simp only [Act.put,Rg.sA,Rg.sB,Rg.sC]
   refine Rg.dd 14 fun K hK => ?_
   go_simp
   refine hK _ _ (fun h => absurd h (by decide)) ?_
   clear hK K
   refine Rg.wpD_done (by kernel_rfl) ?_
   go_wp2
   go_meet
   first | exact FIN | exact FIN2
 case rest =>
 clear FIN FIN2 HeldS HeldA a0 a1 a2 f0 f1 f2 bA kA kV bV hsV hV
 obtain ⟨B,rfl,hB,kB,bB⟩:=hcut
 have hBk:w.heap.size + 1 < B:=by have:=k2.lt;omega
 replace k0:=k0.below bB k0.lt
 replace k2:=k2.below bB k2.lt
 have b1:=below_next b0 bB
 obtain ⟨⟨c0,_⟩,_⟩:=blk5 k0
 obtain ⟨⟨d0,d1,d2⟩,f0,f1,f2⟩:=blk3 kB
 obtain ⟨⟨z0,z1,z2⟩,e0,e1,e2⟩:=blk3 k2
 by_cases ht:c.tag = ⟨#[]⟩
 ·obtain rfl:0 = tt:=(if_pos ht).symm.trans HTT
  rw [ht] at c0
  clear HTT
  go_wp2
  refine bodyPost_ret (results_struct rfl _ _ (w.heap.size + 1) _ rfl (load_sm (blk_set3 k2 _ _ _))) rfl ?_
  exact ⟨rfl,below_grew b1 (grown_set3 wc (w.heap.size + 1) _ _ _) (by have:=b1.size;omega) (by omega)⟩
 ·obtain rfl:1 = tt:=(if_neg ht).symm.trans HTT
  have hne:(c.tag.toList == []) = false:=by
   rw [ByteArray.toList_eq,beq_eq_false_iff_ne]
   intro e
   exact ht (by
    cases h:c.tag with
    | mk d =>
     rw [h] at e
     simp only [ByteArray.mk.injEq]
     exact Array.toList_inj.1 e)
  have k3:=blk_put kB 2 (.int .u8 1)
  have k4:=k2.kept (grown_set wc B 2 (.int .u8 1)) (by simp;omega)
  have b2:=below_grew b1 (grown_set wc B 2 (.int .u8 1)) (by have:=b1.size;omega) (by omega)
  clear ht HTT
  go_upto_region 4 with fail
  generalize wc.setCell ⟨B,2,none⟩ (.int .u8 1) = W3 at *
  clear d0 d1 d2 f0 f1 f2 z0 z1 z2 e0 e1 e2
  obtain ⟨⟨d0,d1,d2⟩,f0,f1,f2⟩:=blk3 (show Blk W3 B 152 [.int .u8 (gr 0 c.ids.length),.int .u8 (gr (gr 0 c.classes.length) c.attrs.length),.int .u8 1] from k3)
  obtain ⟨⟨z0,z1,z2⟩,e0,e1,e2⟩:=blk3 k4
  go_wp2
  refine bodyPost_ret (results_struct rfl _ _ (w.heap.size + 1) _ rfl (load_sm (blk_set3 k4 _ _ _))) rfl ?_
  exact ⟨rfl,below_grew b2 (grown_set3 W3 (w.heap.size + 1) _ _ _) (by have:=b2.size;omega) (by omega)⟩
end Go.Proofs.YtcmmdojlhfmddaaGreat.Wg

/- weigh: pseudoOf, sumsOf, greatest, Of, at every selector. -/
set_option maxRecDepth 100000
namespace Go.Proofs.YtcmmdojlhfmddaaGreat.Wg
open Go.Proofs.YtcmmdojlhfmddaaGreat.Tre
open Go Go.RowKit Sl
def GreatOK (d:Nat):Prop:=∀ (v:Value) (l:List Sel) (w:World),SelsR d w.heap.size w v l → Calls Tryz.prog 116 #[v,.int .i64 (9 - (d:Int))] w fun e w' => e = .returned (smV (greatV d l)) ∧ Below w.heap.size w w'
def SumsOK (d:Nat):Prop:=∀ (v:Value) (s:Sel) (w:World),PartsR d w.heap.size w v s → Calls Tryz.prog 84 #[.agg #[v],.int .i64 (8 - (d:Int))] w fun e w' => e = .returned (smV (sumsV (greatV d) s)) ∧ Below w.heap.size w w'
theorem fold_take {α:Type} (f:Sm → α → Sm) (z:Sm) {l:List α} {k:Nat} {x:α} (h:l[k]? = some x):(l.take (k + 1)).foldl f z = f ((l.take k).foldl f z) x:=by
 obtain ⟨hk,rfl⟩:=List.getElem?_eq_some_iff.1 h
 rw [List.take_succ_eq_append_getElem hk,List.foldl_append]
 rfl
set_option maxHeartbeats 1000000 in
theorem pseudoOf_any (d:Nat) (hd:d ≤ 8) (hG:GreatOK d) (p:Ps) (y:Value) (w:World) (hy:SelsR d w.heap.size w y p.list) :
  Calls Tryz.prog 96 #[.agg #[.int .i64 p.kind,.int .i64 p.a,.int .i64 p.b,y],.int .i64 (8 - (d:Int))] w fun e w' => e = .returned (smV (psV (greatV d) p)) ∧ Below w.heap.size w w':=by
 obtain ⟨q,m,cap,rfl⟩:=hy.form
 obtain ⟨V,hV⟩:∃ V,psV (greatV d) p = V:=⟨_,rfl⟩
 rw [hV]
 unfold psV at hV
 obtain ⟨W,hW⟩:∃ W,(w.alloc (.cells #[.int .i64 p.kind,.int .i64 p.a,.int .i64 p.b,.slice q m cap] 160)).alloc (.cells #[.int .u8 0,.int .u8 0,.int .u8 0] 152) = W:=⟨_,rfl⟩
 have b0:Below w.heap.size w W:=by rw [← hW];exact ((Below.refl _ w).alloc (Nat.le_refl _) _).alloc (by simp) _
 have k0:Blk W w.heap.size 160 [.int .i64 p.kind,.int .i64 p.a,.int .i64 p.b,.slice q m cap]:=by
  rw [← hW]
  exact (Blk.new w 160 _).kept (World.grownBy_alloc _ _ none) (by simp)
 have k2:Blk W (w.heap.size + 1) 152 [.int .u8 0,.int .u8 0,.int .u8 0]:=by
  rw [← hW]
  have:=Blk.new (w.alloc (.cells #[.int .i64 p.kind,.int .i64 p.a,.int .i64 p.b,.slice q m cap] 160)) 152 [.int .u8 0,.int .u8 0,.int .u8 0]
  rwa [World.size_alloc] at this
 have hw1:IntKind.i64.wrap (8 - (d:Int) + 1) = 9 - (d:Int):=by rw [IntKind.wrap_i64];omega
 have hcall:=hG (.slice q m cap) p.list W (hy.next b0)
 clear hG hy
 go_enter Tryz.func96,Tryz.ntmps96
 go_upto_region 1 with fail
 clear hW
 obtain ⟨⟨c0,c1,c2,c3⟩,_⟩:=blk4 k0
 obtain ⟨⟨z0,z1,z2⟩,e0,e1,e2⟩:=blk3 k2
 by_cases hk:p.kind = 7 ∨ p.kind = 8
 ·rw [if_pos hk] at hV
  subst hV
  have hex:∃ i c t,greatV d p.list = ⟨i,c,t⟩:=⟨_,_,_,rfl⟩
  obtain ⟨i,c,t,hict⟩:=hex
  rw [hict] at hcall
  unfold smV at hcall
  simp only at hcall
  have HICT:Hid (greatV d p.list = ⟨i,c,t⟩):=hict
  clear hict
  have fin:∀ w2,Below W.heap.size W w2 → Blk (set3 w2 (w.heap.size + 1) (.int .u8 i) (.int .u8 c) (.int .u8 t)) (w.heap.size + 1) 152 [.int .u8 i,.int .u8 c,.int .u8 t] ∧ Below w.heap.size w (set3 w2 (w.heap.size + 1) (.int .u8 i) (.int .u8 c) (.int .u8 t)):=fun w2 b2 =>
   ⟨blk_set3 (k2.below b2 k2.lt) _ _ _,below_grew (below_next b0 b2) (grown_set3 w2 (w.heap.size + 1) _ _ _) (by have:=(below_next b0 b2).size;omega) (by omega)⟩
  have FIN:Hid (∀ w2,_):=fin
  have K2:Hid (∀ w2,Below W.heap.size W w2 → Blk w2 (w.heap.size + 1) 152 [.int .u8 0,.int .u8 0,.int .u8 0]):=fun w2 b2 => k2.below b2 k2.lt
  clear fin
  rcases hk with hk | hk
  all_goals
   rw [hk] at c0
   clear hk
   go_upto_region 4 with fail
   go_wp2_with fail
   refine hcall.mono ?_
   clear hcall
   rintro e w2 ⟨rfl,b2⟩
   obtain ⟨⟨z0,z1,z2⟩,e0,e1,e2⟩:=blk3 ((show ∀ w2,_ → _ from K2) w2 b2)
   obtain ⟨f1,f2⟩:=(show ∀ w2,_ → _ from FIN) w2 b2
   go_wp2
   refine bodyPost_ret (results_struct rfl _ _ (w.heap.size + 1) _ rfl (load_sm f1)) rfl ?_
   exact ⟨by rw [show greatV d p.list = _ from HICT];rfl,f2⟩
 ·rw [if_neg hk] at hV
  subst hV
  have h7:(p.kind == 7) = false:=by rw [beq_eq_false_iff_ne];omega
  have h8:(p.kind == 8) = false:=by rw [beq_eq_false_iff_ne];omega
  clear hk hcall
  go_wp2
  refine bodyPost_ret (results_struct rfl _ _ (w.heap.size + 1) _ rfl (load_sm (blk_set3 k2 _ _ _))) rfl ?_
  exact ⟨rfl,below_grew b0 (grown_set3 W (w.heap.size + 1) _ _ _) (by have:=b0.size;omega) (by omega)⟩
theorem blk6 {W:World} {B:Nat} {t:TypeId} {a b c d e f:Value} (h:Blk W B t [a,b,c,d,e,f]):(W.cell? ⟨B,0,none⟩ = some a ∧ W.cell? ⟨B,1,none⟩ = some b ∧ W.cell? ⟨B,2,none⟩ = some c ∧ W.cell? ⟨B,3,none⟩ = some d ∧ W.cell? ⟨B,4,none⟩ = some e ∧ W.cell? ⟨B,5,none⟩ = some f) ∧ True:=by
 simp [World.cell?,show W.heap[B]? = _ from h]
structure SuSt (w:World) (v:Value) (o:Sm) (W:World):Prop where
 b:Blk W w.heap.size 117 [v]
 z:Blk W (w.heap.size + 1) 152 [.int .u8 0,.int .u8 0,.int .u8 0]
 o:Blk W (w.heap.size + 1 + 1) 152 [.int .u8 o.i,.int .u8 o.c,.int .u8 o.t]
 bl:Below w.heap.size w W
theorem SuSt.below {w:World} {v:Value} {o:Sm} {W W':World} (h:SuSt w v o W) (hb:Below W.heap.size W W'):SuSt w v o W':=⟨h.b.below hb h.b.lt,h.z.below hb h.z.lt,h.o.below hb h.o.lt,below_next h.bl hb⟩
theorem SuSt.set {w:World} {v:Value} {o:Sm} {W:World} (h:SuSt w v o W) (o':Sm):SuSt w v o' (set3 W (w.heap.size + 1 + 1) (.int .u8 o'.i) (.int .u8 o'.c) (.int .u8 o'.t)):=
 ⟨h.b.kept (grown_set3 W _ _ _ _) (by simp;omega),h.z.kept (grown_set3 W _ _ _ _) (by simp),blk_set3 h.o _ _ _,below_grew h.bl (grown_set3 W _ _ _ _) h.bl.size (by omega)⟩
set_option maxHeartbeats 2000000 in
theorem sumsOf_any (d:Nat) (hd:d ≤ 8) (hG:GreatOK d):SumsOK d:=by
 intro v s w hv
 obtain ⟨q,cap,rfl⟩:=RowT.len hv
 have hsh:=RowT.short hv
 unfold maxLen at hsh
 obtain ⟨V,hV⟩:∃ V,sumsV (greatV d) s = V:=⟨_,rfl⟩
 rw [hV]
 have HV:Hid (sumsV (greatV d) s = V):=hV
 clear hV
 have HG:Hid (GreatOK d):=hG
 clear hG
 obtain ⟨W,hW⟩:∃ W,((w.alloc (.cells #[.slice q s.length cap] 117)).alloc (.cells #[.int .u8 0,.int .u8 0,.int .u8 0] 152)).alloc (.cells #[.int .u8 0,.int .u8 0,.int .u8 0] 152) = W:=⟨_,rfl⟩
 have S0:SuSt w (.slice q s.length cap) Sm.zero W:=by
  rw [← hW]
  refine ⟨((Blk.new w 117 _).kept (World.grownBy_alloc _ _ none) (by simp)).kept (World.grownBy_alloc _ _ none) (by simp),?_,?_,(((Below.refl _ w).alloc (Nat.le_refl _) _).alloc (by simp) _).alloc (by simp;omega) _⟩
  ·have:=(Blk.new (w.alloc (.cells #[.slice q s.length cap] 117)) 152 [.int .u8 0,.int .u8 0,.int .u8 0]).kept (World.grownBy_alloc _ (.cells #[.int .u8 0,.int .u8 0,.int .u8 0] 152) none) (by simp)
   rwa [World.size_alloc] at this
  ·have:=Blk.new ((w.alloc (.cells #[.slice q s.length cap] 117)).alloc (.cells #[.int .u8 0,.int .u8 0,.int .u8 0] 152)) 152 [.int .u8 0,.int .u8 0,.int .u8 0]
   rwa [World.size_alloc,World.size_alloc] at this
 have HP:Hid (∀ X,Below w.heap.size w X → PartsR d w.heap.size X (.slice q s.length cap) s):=fun X hX => PartsR.below hv hX
 clear hv
 go_enter Tryz.func84,Tryz.ntmps84
 go_upto_region 2 with fail
 clear hW
 obtain ⟨s0,_⟩:=blk1 S0.b
 go_wp2_with fail
 clear s0
 go_loopw [13] (fun x wr => ∃ (k:Nat) (o:Sm),x = .int .i64 k ∧ k ≤ s.length ∧ SuSt w (.slice q s.length cap) o wr ∧ Hid ((s.take k).foldl (fun o p => compS (greatV d) o p.2) Sm.zero = o) ∧ Hid o.ok) (fun x _ => s.length - (intOf x).toNat)
 case atStart => exact ⟨0,Sm.zero,rfl,Nat.zero_le _,S0,rfl,zero_ok⟩
 case round =>
  clear S0
  obtain ⟨k,o,rfl,hk,S,HO,HOK⟩:=hrel
  by_cases hlt:k < s.length
  ·have hki:(k:Int) < (s.length:Int):=by omega
   obtain ⟨p,hp⟩:∃ p,s[k]? = some p:=⟨_,List.getElem?_eq_getElem hlt⟩
   have HO1:Hid ((s.take (k + 1)).foldl (fun o p => compS (greatV d) o p.2) Sm.zero = compS (greatV d) o p.2):=by
    show _ = _
    rw [fold_take _ _ hp,show _ = o from HO]
   obtain ⟨b,off,vi,vk,va,vp,hq,hbn,hc1,hc2,⟨x0,x1,x2,x3,x4,x5⟩,r1,r2,r3,r4⟩:=PartsR.get ((show ∀ X,_ → _ from HP) wr S.bl) hp
   subst hq
   obtain ⟨qi,ci,rfl⟩:=r1.len
   obtain ⟨qk,ck,rfl⟩:=r2.len
   obtain ⟨qa,ca,rfl⟩:=r3.len
   obtain ⟨qp,cp,rfl⟩:=r4.len
   have hli:=r1.short
   have hlk:=r2.short
   have hla:=r3.short
   have hlp:=r4.short
   have R4:Hid (∀ X,Below w.heap.size wr X → RowT 4 (PsC (SelsR d w.heap.size X)) w.heap.size X (.slice qp p.2.pss.length cp) p.2.pss):=fun X hX => RowT.below r4 hX (fun _ _ ⟨x,e,hx⟩ => ⟨x,e,hx.below d hX⟩)
   clear HO hp r1 r2 r3 r4
   have bA:Below wr.heap.size wr (wr.alloc (.cells #[.int .i64 p.1,.string p.2.tag,.slice qi p.2.ids.length ci,.slice qk p.2.classes.length ck,.slice qa p.2.attrs.length ca,.slice qp p.2.pss.length cp] 143)):=(Below.refl _ _).alloc (Nat.le_refl _) _
   have kA:Blk (wr.alloc (.cells #[.int .i64 p.1,.string p.2.tag,.slice qi p.2.ids.length ci,.slice qk p.2.classes.length ck,.slice qa p.2.attrs.length ca,.slice qp p.2.pss.length cp] 143)) wr.heap.size 143 [.int .i64 p.1,.string p.2.tag,.slice qi p.2.ids.length ci,.slice qk p.2.classes.length ck,.slice qa p.2.attrs.length ca,.slice qp p.2.pss.length cp]:=Blk.new wr 143 _
   have S1:=S.below bA
   have hO3:w.heap.size + 1 + 1 < wr.heap.size:=S.o.lt
   have bwr:Below w.heap.size wr (wr.alloc (.cells #[.int .i64 p.1,.string p.2.tag,.slice qi p.2.ids.length ci,.slice qk p.2.classes.length ck,.slice qa p.2.attrs.length ca,.slice qp p.2.pss.length cp] 143)):=bA.mono S.bl.size
   go_upto_region 5 with fail
   clear x0 x1 x2 x3 x4 x5 S bA
   generalize wr.alloc (.cells #[.int .i64 p.1,.string p.2.tag,.slice qi p.2.ids.length ci,.slice qk p.2.classes.length ck,.slice qa p.2.attrs.length ca,.slice qp p.2.pss.length cp] 143) = W1 at *
   generalize wr.heap.size = PB at *
   have HS:Hid (∀ X,Below W1.heap.size W1 X → X.cell? ⟨w.heap.size + 1 + 1,0,none⟩ = some (.int .u8 o.i) ∧ X.cell? ⟨w.heap.size + 1 + 1,1,none⟩ = some (.int .u8 o.c) ∧ X.cell? ⟨w.heap.size + 1 + 1,2,none⟩ = some (.int .u8 o.t) ∧ X.cell? ⟨PB,1,none⟩ = some (.string p.2.tag) ∧ X.cell? ⟨PB,2,none⟩ = some (.slice qi p.2.ids.length ci) ∧ X.cell? ⟨PB,3,none⟩ = some (.slice qk p.2.classes.length ck) ∧ X.cell? ⟨PB,4,none⟩ = some (.slice qa p.2.attrs.length ca) ∧ X.cell? ⟨PB,5,none⟩ = some (.slice qp p.2.pss.length cp)):=fun X hX => by
    obtain ⟨⟨o0,o1,o2⟩,_⟩:=blk3 (S1.below hX).o
    obtain ⟨⟨_,y1,y2,y3,y4,y5⟩,_⟩:=blk6 (kA.below hX kA.lt)
    exact ⟨o0,o1,o2,y1,y2,y3,y4,y5⟩
   have q0:Below W1.heap.size W1 W1.drew:=below_drew (Below.refl _ _)
   have HeldS:=(show ∀ X,_ → _ from HS) _ q0
   refine Rg.wpD_begin [0,1,2,3] (fun X => X.cell? ⟨w.heap.size + 1 + 1,0,none⟩ = some (.int .u8 o.i) ∧ X.cell? ⟨w.heap.size + 1 + 1,1,none⟩ = some (.int .u8 o.c) ∧ X.cell? ⟨w.heap.size + 1 + 1,2,none⟩ = some (.int .u8 o.t) ∧ X.cell? ⟨PB,1,none⟩ = some (.string p.2.tag) ∧ X.cell? ⟨PB,2,none⟩ = some (.slice qi p.2.ids.length ci) ∧ X.cell? ⟨PB,3,none⟩ = some (.slice qk p.2.classes.length ck) ∧ X.cell? ⟨PB,4,none⟩ = some (.slice qa p.2.attrs.length ca) ∧ X.cell? ⟨PB,5,none⟩ = some (.slice qp p.2.pss.length cp)) (by kernel_rfl) ?_
   refine Rg.ld 0 HeldS ?_
   simp only [Act.put,Rg.sA,Rg.sB,Rg.sC]
   refine Rg.ld 1 HeldS ?_
   simp only [Act.put,Rg.sA,Rg.sB,Rg.sC]
   refine Rg.ld 2 HeldS ?_
   simp only [Act.put,Rg.sA,Rg.sB,Rg.sC]
   refine Rg.dd 3 fun K hK => ?_
   go_simp
   go_at_call 95
   refine Calls.mono (namesOf_any p.2 _ qi qk qa qp p.2.pss.length ci ck ca cp hli hlk hla) ?_
   rintro e W2 ⟨rfl,b2⟩
   refine hK _ _ (fun _ => (show ∀ X,_ → _ from HS) _ (below_next q0 b2)) ?_
   clear hK K HeldS
   have hwi:=with_any o (namesV p.2) HOK (namesV_ok _) W2
   unfold smV at hwi ⊢
   refine Rg.dd 4 fun K hK => ?_
   go_simp
   go_at_call 94
   refine Calls.mono hwi ?_
   rintro e W3 ⟨rfl,b3⟩
   refine hK _ _ (fun h => absurd h (by decide)) ?_
   clear hK K hwi
   have b13:=below_next (below_next q0 b2) b3
   have S3:=S1.below b13
   have k3:=kA.below b13 kA.lt
   have bw3:Below w.heap.size wr W3:=bwr.trans (b13.mono S1.bl.size)
   obtain ⟨⟨o0,o1,o2⟩,e0,e1,e2⟩:=blk3 S3.o
   clear S1 kA q0 b2 b3 b13 bwr
   refine Rg.dd 5 fun K hK => ?_
   go_simp
   refine hK _ _ (fun h => absurd h (by decide)) ?_
   clear hK K
   refine Rg.wpD_done (by kernel_rfl) ?_
   have S4:=S3.set (withV o (namesV p.2))
   have k4:=k3.kept (grown_set3 W3 (w.heap.size + 1 + 1) (.int .u8 (withV o (namesV p.2)).i) (.int .u8 (withV o (namesV p.2)).c) (.int .u8 (withV o (namesV p.2)).t)) (by simp;omega)
   have bw4:Below w.heap.size wr (set3 W3 (w.heap.size + 1 + 1) (.int .u8 (withV o (namesV p.2)).i) (.int .u8 (withV o (namesV p.2)).c) (.int .u8 (withV o (namesV p.2)).t)):=below_grew bw3 (grown_set3 W3 _ _ _ _) S3.bl.size (by omega)
   unfold set3 at S4 k4 bw4
   clear o0 o1 o2 e0 e1 e2 S3 k3 bw3
   go_upto_region 6 with fail
   generalize World.setCell (World.setCell (World.setCell W3 _ _) _ _) _ _ = W4 at *
   obtain ⟨⟨_,_,_,_,_,y5⟩,_⟩:=blk6 k4
   go_wp2_with fail
   clear y5
   obtain ⟨wo,hwo⟩:∃ wo,wo = wr:=⟨_,rfl⟩
   subst hwo
   unfold maxLen at hlp
   go_loopw [26] (fun x wr => ∃ (j:Nat) (o2:Sm),x = .int .i64 j ∧ j ≤ p.2.pss.length ∧ SuSt w (.slice (some ⟨b,off,none⟩) s.length cap) o2 wr ∧ Below w.heap.size wo wr ∧ Hid ((p.2.pss.take j).foldl (fun o p => withV o (psV (greatV d) p)) (withV o (namesV p.2)) = o2) ∧ Hid o2.ok) (fun x _ => p.2.pss.length - (intOf x).toNat)
   case atStart => exact ⟨0,withV o (namesV p.2),rfl,Nat.zero_le _,S4,bw4,rfl,withV_ok _ _⟩
   case round =>
    clear S4 bw4 k4
    obtain ⟨j,o2,rfl,hj,S5,bw5,HO2,HOK2⟩:=hrel
    by_cases hjl:j < p.2.pss.length
    ·have hji:(j:Int) < (p.2.pss.length:Int):=by omega
     obtain ⟨u,hu⟩:∃ u,p.2.pss[j]? = some u:=⟨_,List.getElem?_eq_getElem hjl⟩
     have HO3:Hid ((p.2.pss.take (j + 1)).foldl (fun o p => withV o (psV (greatV d) p)) (withV o (namesV p.2)) = withV o2 (psV (greatV d) u)):=by
      show _ = _
      rw [fold_take _ _ hu,show _ = o2 from HO2]
     obtain ⟨b2,off2,y,hq2,hbn2,hd1,hd2,hQ,⟨u0,u1,u2,u3⟩⟩:=pss_get ((show ∀ X,_ → _ from R4) wr bw5) hu
     subst hq2
     obtain ⟨qy,my,cy,rfl⟩:=hQ.form
     have bL:Below wr.heap.size wr (wr.alloc (.cells #[.int .i64 u.kind,.int .i64 u.a,.int .i64 u.b,.slice qy my cy] 160)):=(Below.refl _ _).alloc (Nat.le_refl _) _
     have kL:Blk (wr.alloc (.cells #[.int .i64 u.kind,.int .i64 u.a,.int .i64 u.b,.slice qy my cy] 160)) wr.heap.size 160 [.int .i64 u.kind,.int .i64 u.a,.int .i64 u.b,.slice qy my cy]:=Blk.new wr 160 _
     have S6:=S5.below bL
     have hwq:=S5.bl.size
     have HQ:Hid (∀ X,Below wr.heap.size wr X → SelsR d X.heap.size X (.slice qy my cy) u.list):=fun X hX => ((hQ.mono d hwq).below d hX).mono d hX.size
     have bw6:Below w.heap.size wo (wr.alloc (.cells #[.int .i64 u.kind,.int .i64 u.a,.int .i64 u.b,.slice qy my cy] 160)):=bw5.trans (bL.mono hwq)
     have HBL:Hid (Below wr.heap.size wr (wr.alloc (.cells #[.int .i64 u.kind,.int .i64 u.a,.int .i64 u.b,.slice qy my cy] 160))):=bL
     have hO4:w.heap.size + 1 + 1 < wr.heap.size:=S5.o.lt
     clear HO2 hu hQ S5 bw5 bL
     go_upto_region 9 with fail
     clear u0 u1 u2 u3
     generalize wr.alloc (.cells #[.int .i64 u.kind,.int .i64 u.a,.int .i64 u.b,.slice qy my cy] 160) = W6 at *
     generalize wr.heap.size = XB at *
     have HS2:Hid (∀ X,Below W6.heap.size W6 X → X.cell? ⟨w.heap.size + 1 + 1,0,none⟩ = some (.int .u8 o2.i) ∧ X.cell? ⟨w.heap.size + 1 + 1,1,none⟩ = some (.int .u8 o2.c) ∧ X.cell? ⟨w.heap.size + 1 + 1,2,none⟩ = some (.int .u8 o2.t) ∧ X.cell? ⟨XB,0,none⟩ = some (.int .i64 u.kind) ∧ X.cell? ⟨XB,1,none⟩ = some (.int .i64 u.a) ∧ X.cell? ⟨XB,2,none⟩ = some (.int .i64 u.b) ∧ X.cell? ⟨XB,3,none⟩ = some (.slice qy my cy)):=fun X hX => by
      obtain ⟨⟨o0,o1,o2⟩,_⟩:=blk3 (S6.below hX).o
      obtain ⟨⟨y0,y1,y2,y3⟩,_⟩:=blk4 (kL.below hX kL.lt)
      exact ⟨o0,o1,o2,y0,y1,y2,y3⟩
     have q0:Below W6.heap.size W6 W6.drew:=below_drew (Below.refl _ _)
     have HeldS:=(show ∀ X,_ → _ from HS2) _ q0
     have hps:=pseudoOf_any d hd HG u (.slice qy my cy) W6.drew ((show ∀ X,_ → _ from HQ) _ (below_drew HBL))
     refine Rg.wpD_begin [0,1,2,3] (fun X => X.cell? ⟨w.heap.size + 1 + 1,0,none⟩ = some (.int .u8 o2.i) ∧ X.cell? ⟨w.heap.size + 1 + 1,1,none⟩ = some (.int .u8 o2.c) ∧ X.cell? ⟨w.heap.size + 1 + 1,2,none⟩ = some (.int .u8 o2.t) ∧ X.cell? ⟨XB,0,none⟩ = some (.int .i64 u.kind) ∧ X.cell? ⟨XB,1,none⟩ = some (.int .i64 u.a) ∧ X.cell? ⟨XB,2,none⟩ = some (.int .i64 u.b) ∧ X.cell? ⟨XB,3,none⟩ = some (.slice qy my cy)) (by kernel_rfl) ?_
     refine Rg.ld 0 HeldS ?_
     simp only [Act.put,Rg.sA,Rg.sB,Rg.sC]
     refine Rg.ld 1 HeldS ?_
     simp only [Act.put,Rg.sA,Rg.sB,Rg.sC]
     refine Rg.ld 2 HeldS ?_
     simp only [Act.put,Rg.sA,Rg.sB,Rg.sC]
     refine Rg.dd 3 fun K hK => ?_
     go_simp
     go_at_call 96
     refine Calls.mono hps ?_
     clear hps
     rintro e W7 ⟨rfl,b7⟩
     refine hK _ _ (fun _ => (show ∀ X,_ → _ from HS2) _ (below_next q0 b7)) ?_
     clear hK K HeldS
     have hwi:=with_any o2 (psV (greatV d) u) HOK2 (psV_ok (greatV_ok d) _) W7
     unfold smV at hwi ⊢
     refine Rg.dd 4 fun K hK => ?_
     go_simp
     go_at_call 94
     refine Calls.mono hwi ?_
     rintro e W8 ⟨rfl,b8⟩
     refine hK _ _ (fun h => absurd h (by decide)) ?_
     clear hK K hwi
     have b68:=below_next (below_next q0 b7) b8
     have S8:=S6.below b68
     have bw8:Below w.heap.size wo W8:=bw6.trans (b68.mono S6.bl.size)
     obtain ⟨⟨o0,o1,o2'⟩,e0,e1,e2⟩:=blk3 S8.o
     clear S6 kL q0 b7 b8 b68 bw6 HS2 HQ HBL
     refine Rg.dd 5 fun K hK => ?_
     go_simp
     refine hK _ _ (fun h => absurd h (by decide)) ?_
     clear hK K
     refine Rg.wpD_done (by kernel_rfl) ?_
     have S9:=S8.set (withV o2 (psV (greatV d) u))
     have bw9:Below w.heap.size wo (set3 W8 (w.heap.size + 1 + 1) (.int .u8 (withV o2 (psV (greatV d) u)).i) (.int .u8 (withV o2 (psV (greatV d) u)).c) (.int .u8 (withV o2 (psV (greatV d) u)).t)):=below_grew bw8 (grown_set3 W8 _ _ _ _) S8.bl.size (by omega)
     unfold set3 at S9 bw9
     clear o0 o1 o2' e0 e1 e2 S8 bw8
     generalize World.setCell (World.setCell (World.setCell W8 _ _) _ _) _ _ = W9 at *
     go_wp2
     exact ⟨⟨j + 1,_,by go_num,by omega,S9,bw9,HO3,withV_ok _ _⟩,by simp [intOf];omega⟩
    ·have hji:¬ (j:Int) < (p.2.pss.length:Int):=by omega
     have HO3:Hid ((s.take (k + 1)).foldl (fun o p => compS (greatV d) o p.2) Sm.zero = o2):=by
      show _ = _
      rw [show _ = compS (greatV d) o p.2 from HO1,← show _ = o2 from HO2,List.take_of_length_le (by omega)]
      rfl
     clear HO2 HO1
     go_wp2
     exact ⟨⟨k + 1,o2,by go_num,by omega,S5,HO3,HOK2⟩,by simp [intOf];omega⟩
  ·have hki:¬ (k:Int) < (s.length:Int):=by omega
   have hVo:o = V:=by
    rw [← show _ = V from HV,← show _ = o from HO,List.take_of_length_le (by omega)]
    rfl
   subst hVo
   obtain ⟨⟨z0,z1,z2⟩,e0,e1,e2⟩:=blk3 S.z
   obtain ⟨⟨o0,o1,o2⟩,_⟩:=blk3 S.o
   obtain ⟨i,c,t⟩:=o
   simp only at o0 o1 o2
   clear HO HV HP HG
   go_wp2
   refine bodyPost_ret (results_struct rfl _ _ (w.heap.size + 1) _ rfl (load_sm (blk_set3 S.z _ _ _))) rfl ?_
   exact ⟨rfl,below_grew S.bl (grown_set3 wr (w.heap.size + 1) _ _ _) S.bl.size (by omega)⟩
theorem great_zero:GreatOK 0:=by
 intro v l w hv
 obtain ⟨q,m,cap,rfl⟩:=hv.form
 obtain ⟨W,hW⟩:∃ W,(w.alloc (.cells #[.int .u8 0,.int .u8 0,.int .u8 0] 152)).alloc (.cells #[.int .u8 0,.int .u8 0,.int .u8 0] 152) = W:=⟨_,rfl⟩
 have b0:Below w.heap.size w W:=by rw [← hW];exact ((Below.refl _ w).alloc (Nat.le_refl _) _).alloc (by simp) _
 have k1:Blk W w.heap.size 152 [.int .u8 0,.int .u8 0,.int .u8 0]:=by
  rw [← hW]
  exact (Blk.new w 152 _).kept (World.grownBy_alloc _ _ none) (by simp)
 have k2:Blk W (w.heap.size + 1) 152 [.int .u8 0,.int .u8 0,.int .u8 0]:=by
  rw [← hW]
  have:=Blk.new (w.alloc (.cells #[.int .u8 0,.int .u8 0,.int .u8 0] 152)) 152 [.int .u8 0,.int .u8 0,.int .u8 0]
  rwa [World.size_alloc] at this
 have h9:(9 - ((0:Nat):Int)) = 9:=rfl
 rw [h9]
 clear h9 hv
 obtain ⟨⟨z0,z1,z2⟩,e0,e1,e2⟩:=blk3 k1
 obtain ⟨⟨o0,o1,o2⟩,_⟩:=blk3 k2
 go_enter Tryz.func116,Tryz.ntmps116
 go_wp2
 refine bodyPost_ret (results_struct rfl _ _ w.heap.size _ rfl (load_sm (blk_set3 k1 _ _ _))) rfl ?_
 exact ⟨rfl,below_grew b0 (grown_set3 W w.heap.size _ _ _) b0.size (Nat.le_refl _)⟩
end Go.Proofs.YtcmmdojlhfmddaaGreat.Wg

/- weigh: greatest, and Of at every selector. -/
set_option maxRecDepth 100000
namespace Go.Proofs.YtcmmdojlhfmddaaGreat.Wg
open Go.Proofs.YtcmmdojlhfmddaaGreat.Tre
open Go Go.RowKit Sl
structure GrSt (w:World) (o:Sm) (W:World):Prop where
 z:Blk W w.heap.size 152 [.int .u8 0,.int .u8 0,.int .u8 0]
 o:Blk W (w.heap.size + 1) 152 [.int .u8 o.i,.int .u8 o.c,.int .u8 o.t]
 bl:Below w.heap.size w W
theorem GrSt.below {w:World} {o:Sm} {W W':World} (h:GrSt w o W) (hb:Below W.heap.size W W'):GrSt w o W':=⟨h.z.below hb h.z.lt,h.o.below hb h.o.lt,below_next h.bl hb⟩
theorem GrSt.set {w:World} {o:Sm} {W:World} (h:GrSt w o W) (o':Sm):GrSt w o' (set3 W (w.heap.size + 1) (.int .u8 o'.i) (.int .u8 o'.c) (.int .u8 o'.t)):=
 ⟨h.z.kept (grown_set3 W _ _ _ _) (by simp),blk_set3 h.o _ _ _,below_grew h.bl (grown_set3 W _ _ _ _) h.bl.size (by omega)⟩
set_option maxHeartbeats 2000000 in
theorem great_any (d:Nat) (hd:d ≤ 7) (hS:SumsOK d):GreatOK (d + 1):=by
 intro v l w hv
 obtain ⟨q,cap,rfl⟩:=RowT.len hv
 have hsh:=RowT.short hv
 unfold maxLen at hsh
 obtain ⟨V,hV⟩:∃ V,greatV (d + 1) l = V:=⟨_,rfl⟩
 rw [hV]
 have HV:Hid (greatV (d + 1) l = V):=hV
 clear hV
 have HG:Hid (SumsOK d):=hS
 clear hS
 rw [show (9 - ((d + 1:Nat):Int)) = 8 - (d:Int) by omega]
 have hgt:¬ (8:Int) < 8 - (d:Int):=by omega
 obtain ⟨W,hW⟩:∃ W,(w.alloc (.cells #[.int .u8 0,.int .u8 0,.int .u8 0] 152)).alloc (.cells #[.int .u8 0,.int .u8 0,.int .u8 0] 152) = W:=⟨_,rfl⟩
 have S0:GrSt w Sm.zero W:=by
  rw [← hW]
  refine ⟨(Blk.new w 152 _).kept (World.grownBy_alloc _ _ none) (by simp),?_,((Below.refl _ w).alloc (Nat.le_refl _) _).alloc (by simp) _⟩
  have:=Blk.new (w.alloc (.cells #[.int .u8 0,.int .u8 0,.int .u8 0] 152)) 152 [.int .u8 0,.int .u8 0,.int .u8 0]
  rwa [World.size_alloc] at this
 have HP:Hid (∀ X,Below w.heap.size w X → SelsR (d + 1) w.heap.size X (.slice q l.length cap) l):=fun X hX => SelsR.below (d + 1) hv hX
 clear hv
 go_enter Tryz.func116,Tryz.ntmps116
 go_upto_region 2 with fail
 clear hW
 go_wp2_with fail
 go_loopw [14] (fun x wr => ∃ (k:Nat) (o:Sm),x = .int .i64 k ∧ k ≤ l.length ∧ GrSt w o wr ∧ Hid ((l.take k).foldl (fun o s => heavier o (sumsV (greatV d) s)) Sm.zero = o) ∧ Hid o.ok) (fun x _ => l.length - (intOf x).toNat)
 case atStart => exact ⟨0,Sm.zero,rfl,Nat.zero_le _,S0,rfl,zero_ok⟩
 case round =>
  clear S0
  obtain ⟨k,o,rfl,hk,S,HO,HOK⟩:=hrel
  by_cases hlt:k < l.length
  ·have hki:(k:Int) < (l.length:Int):=by omega
   obtain ⟨s,hs⟩:∃ s,l[k]? = some s:=⟨_,List.getElem?_eq_getElem hlt⟩
   have HO1:Hid ((l.take (k + 1)).foldl (fun o s => heavier o (sumsV (greatV d) s)) Sm.zero = heavier o (sumsV (greatV d) s)):=by
    show _ = _
    rw [fold_take _ _ hs,show _ = o from HO]
   obtain ⟨b,off,x,hq,hbn,hc1,hc2,hx,hcell⟩:=SelsR.get ((show ∀ X,_ → _ from HP) wr S.bl) hs
   subst hq
   obtain ⟨qx,cx,rfl⟩:=RowT.len hx
   have bA:Below wr.heap.size wr (wr.alloc (.cells #[.slice qx s.length cx] 117)):=(Below.refl _ _).alloc (Nat.le_refl _) _
   have kA:Blk (wr.alloc (.cells #[.slice qx s.length cx] 117)) wr.heap.size 117 [.slice qx s.length cx]:=Blk.new wr 117 _
   have S1:=S.below bA
   have hsu:=(show SumsOK d from HG) (.slice qx s.length cx) s _ (((PartsR.mono hx S.bl.size).below bA).mono bA.size)
   have hO3:w.heap.size + 1 < wr.heap.size:=S.o.lt
   clear HO hs hx S bA
   go_upto_region 7 with fail
   clear hcell
   generalize wr.alloc (.cells #[.slice qx s.length cx] 117) = W1 at *
   obtain ⟨x0,_⟩:=blk1 kA
   unfold smV at hsu
   obtain ⟨n,hn⟩:∃ n,sumsV (greatV d) s = n:=⟨_,rfl⟩
   have hnok:Hid n.ok:=by rw [← hn];exact sumsV_ok _ _
   rw [hn] at hsu HO1
   clear hn
   go_wp2_with fail
   refine hsu.mono ?_
   clear hsu x0
   rintro e W2 ⟨rfl,b2⟩
   have S2:=S1.below b2
   have bB:Below W2.heap.size W2 (W2.alloc (.cells #[.int .u8 n.i,.int .u8 n.c,.int .u8 n.t] 152)):=(Below.refl _ _).alloc (Nat.le_refl _) _
   have kB:Blk (W2.alloc (.cells #[.int .u8 n.i,.int .u8 n.c,.int .u8 n.t] 152)) W2.heap.size 152 [.int .u8 n.i,.int .u8 n.c,.int .u8 n.t]:=Blk.new W2 152 _
   have S3:=S2.below bB
   have hO4:w.heap.size + 1 < W2.heap.size:=S2.o.lt
   clear S1 b2 S2 bB kA
   go_upto_region 8 with fail
   generalize W2.alloc (.cells #[.int .u8 n.i,.int .u8 n.c,.int .u8 n.t] 152) = W3 at *
   generalize W2.heap.size = NB at *
   have HS:Hid (∀ X,Below W3.heap.size W3 X → X.cell? ⟨w.heap.size + 1,0,none⟩ = some (.int .u8 o.i) ∧ X.cell? ⟨w.heap.size + 1,1,none⟩ = some (.int .u8 o.c) ∧ X.cell? ⟨w.heap.size + 1,2,none⟩ = some (.int .u8 o.t) ∧ X.cell? ⟨NB,0,none⟩ = some (.int .u8 n.i) ∧ X.cell? ⟨NB,1,none⟩ = some (.int .u8 n.c) ∧ X.cell? ⟨NB,2,none⟩ = some (.int .u8 n.t)):=fun X hX => by
    obtain ⟨⟨o0,o1,o2⟩,_⟩:=blk3 (S3.below hX).o
    obtain ⟨⟨y0,y1,y2⟩,_⟩:=blk3 (kB.below hX kB.lt)
    exact ⟨o0,o1,o2,y0,y1,y2⟩
   have q0:Below W3.heap.size W3 W3.drew:=below_drew (Below.refl _ _)
   have HeldS:=(show ∀ X,_ → _ from HS) _ q0
   have hw1:=weight_any n hnok W3.drew
   unfold smV at hw1
   refine Rg.wpD_begin [0,1,2,3] (fun X => X.cell? ⟨w.heap.size + 1,0,none⟩ = some (.int .u8 o.i) ∧ X.cell? ⟨w.heap.size + 1,1,none⟩ = some (.int .u8 o.c) ∧ X.cell? ⟨w.heap.size + 1,2,none⟩ = some (.int .u8 o.t) ∧ X.cell? ⟨NB,0,none⟩ = some (.int .u8 n.i) ∧ X.cell? ⟨NB,1,none⟩ = some (.int .u8 n.c) ∧ X.cell? ⟨NB,2,none⟩ = some (.int .u8 n.t)) (by kernel_rfl) ?_
   refine Rg.ld 0 HeldS ?_
   simp only [Act.put,Rg.sA,Rg.sB,Rg.sC]
   refine Rg.ld 2 HeldS ?_
   simp only [Act.put,Rg.sA,Rg.sB,Rg.sC]
   refine Rg.dd 1 fun K hK => ?_
   go_simp
   go_at_call 85
   refine Calls.mono hw1 ?_
   clear hw1
   rintro e W4 ⟨rfl,b4⟩
   refine hK _ _ (fun _ => (show ∀ X,_ → _ from HS) _ (below_next q0 b4)) ?_
   clear hK K HeldS
   have hw2:=weight_any o HOK W4
   unfold smV at hw2
   refine Rg.dd 3 fun K hK => ?_
   go_simp
   go_at_call 85
   refine Calls.mono hw2 ?_
   clear hw2
   rintro e W5 ⟨rfl,b5⟩
   refine hK _ _ (fun _ => (show ∀ X,_ → _ from HS) _ (below_next (below_next q0 b4) b5)) ?_
   clear hK K
   refine Rg.pu 4 ?_
   simp only [Act.put,Rg.sA,Rg.sB,Rg.sC]
   refine Rg.wpD_done (by kernel_rfl) ?_
   have b35:=below_next (below_next q0 b4) b5
   have S5:=S3.below b35
   have k5:=kB.below b35 kB.lt
   clear S3 kB b35 b4 b5 q0 HS
   by_cases hh:weightV o < weightV n
   ·have hhi:(weightV o:Int) < (weightV n:Int):=by omega
    have HO2:Hid ((l.take (k + 1)).foldl (fun o s => heavier o (sumsV (greatV d) s)) Sm.zero = n):=by
     show _ = _
     rw [show _ = heavier o n from HO1]
     exact if_pos hh
    have S6:=S5.set n
    obtain ⟨⟨o0,o1,o2⟩,e0,e1,e2⟩:=blk3 S5.o
    obtain ⟨⟨y0,y1,y2⟩,_⟩:=blk3 k5
    unfold set3 at S6
    clear HO1 hh
    go_wp2
    exact ⟨⟨k + 1,n,by go_num,by omega,S6,HO2,hnok⟩,by simp [intOf];omega⟩
   ·have hhi:¬ (weightV o:Int) < (weightV n:Int):=by omega
    have HO2:Hid ((l.take (k + 1)).foldl (fun o s => heavier o (sumsV (greatV d) s)) Sm.zero = o):=by
     show _ = _
     rw [show _ = heavier o n from HO1]
     exact if_neg hh
    clear HO1 hh
    go_wp2
    exact ⟨⟨k + 1,o,by go_num,by omega,S5,HO2,HOK⟩,by simp [intOf];omega⟩
  ·have hki:¬ (k:Int) < (l.length:Int):=by omega
   have hVo:o = V:=by
    rw [← show _ = V from HV,← show _ = o from HO,List.take_of_length_le (by omega)]
    rfl
   subst hVo
   obtain ⟨⟨z0,z1,z2⟩,e0,e1,e2⟩:=blk3 S.z
   obtain ⟨⟨o0,o1,o2⟩,_⟩:=blk3 S.o
   clear HO HV HP HG
   go_wp2
   refine bodyPost_ret (results_struct rfl _ _ w.heap.size _ rfl (load_sm (blk_set3 S.z _ _ _))) rfl ?_
   exact ⟨rfl,below_grew S.bl (grown_set3 wr w.heap.size _ _ _) S.bl.size (Nat.le_refl _)⟩
theorem great_all:∀ d,d ≤ 8 → GreatOK d
 | 0,_ => great_zero
 | d + 1,h => great_any d (by omega) (sumsOf_any d (by omega) (great_all d (by omega)))
set_option maxHeartbeats 1000000 in
theorem of_any (v:Value) (s:Sel) (w:World) (hv:PartsR 8 w.heap.size w v s) :
  Calls Tryz.prog 63 #[.agg #[v]] w fun e w' => e = .returned (.int .i64 (ofV s)) ∧ Below w.heap.size w w':=by
 obtain ⟨q,cap,rfl⟩:=RowT.len hv
 unfold ofV
 have b0:Below w.heap.size w (w.alloc (.cells #[.slice q s.length cap] 117)):=(Below.refl _ w).alloc (Nat.le_refl _) _
 have k0:Blk (w.alloc (.cells #[.slice q s.length cap] 117)) w.heap.size 117 [.slice q s.length cap]:=Blk.new w 117 _
 have h1:=sumsOf_any 8 (Nat.le_refl _) (great_all 8 (Nat.le_refl _)) (.slice q s.length cap) s _ (PartsR.next hv b0)
 have hok:=sumsV_ok (greatV 8) s
 generalize sumsV (greatV 8) s = n at *
 have h2:=weight_any n hok
 unfold smV at h1 h2
 rw [show (8 - ((8:Nat):Int)) = 0 from rfl] at h1
 clear hv
 go_enter Tryz.func63,Tryz.ntmps63
 go_upto_region 1 with fail
 generalize w.alloc (.cells #[.slice q s.length cap] 117) = W at *
 obtain ⟨x0,_⟩:=blk1 k0
 go_wp2_with fail
 refine h1.mono ?_
 clear h1 x0
 rintro e W2 ⟨rfl,b2⟩
 have h3:=h2 W2
 clear h2
 go_wp2_with fail
 refine h3.mono ?_
 clear h3
 rintro e W3 ⟨rfl,b3⟩
 go_wp2
 go_ret
 exact ⟨rfl,below_next (below_next b0 b2) b3⟩
end Go.Proofs.YtcmmdojlhfmddaaGreat.Wg

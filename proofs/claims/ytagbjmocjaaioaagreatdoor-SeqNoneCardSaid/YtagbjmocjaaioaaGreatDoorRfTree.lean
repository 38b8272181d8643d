/- The document's own matching (tapestrierref9): places in a row of numbers (nth, far). -/
import Derived.Test.YtagbjmocjaaioaaGreatDoorProg
import Derived.Test.YtagbjmocjaaioaaGreatDoorDmTell
import Derived.Test.YtagbjmocjaaioaaGreatDoorDmAlive
import Derived.Test.YtagbjmocjaaioaaGreatDoorMtSpec
import Derived.WalkKit
import Derived.Below
import Derived.Deep.QuietTactic
import Derived.BigQuiet
namespace Go.Proofs.YtagbjmocjaaioaaGreatDoor.Rf
open Go Go.RowKit
def i64 (x:Int):Prop:=-9223372036854775808 ≤ x ∧ x ≤ 9223372036854775807
theorem wrapU (x:Int):IntKind.u64.wrap x = x % 18446744073709551616:=by simp [IntKind.wrap,IntKind.bits,IntKind.signed]
end Go.Proofs.YtagbjmocjaaioaaGreatDoor.Rf

/- What the elements of a tree tell of each other: plain facts. -/
namespace Go.Proofs.YtagbjmocjaaioaaGreatDoor.Dm
open Go
theorem newF_err:∀ (l:List Nd) (es:List El) (x:Int),newF es l = .error x → x = 10 ∨ x = 11
 | [],_,_,h => by cases h
 | n :: l,es,x,h => by
  unfold newF at h
  cases ha:addV es n with
  | error y => rw [ha] at h;cases h;exact addV_err ha
  | ok e2 => rw [ha] at h;exact newF_err l e2 x h
theorem newV_err {l:List Nd} {x:Int} (h:newV l = .error x):x = 3 ∨ x = 10 ∨ x = 11:=by
 unfold newV at h
 split at h
 ·cases h;exact .inl rfl
 ·exact .inr (newF_err l [] x h)
end Go.Proofs.YtagbjmocjaaioaaGreatDoor.Dm

/- The order of all elements of a tree: each one, then its children in order, each with all below it: plain facts. -/
namespace Go.Proofs.YtagbjmocjaaioaaGreatDoor.Dm
open Go
def chOf (es:List El) (e:Nat):List Nat:=childrenV es (e:Int)
def pre (es:List El):Nat → Nat → List Nat
 | 0,_ => []
 | f + 1,e => e :: (chOf es e).flatMap (pre es f)
/-! ### upward -/
/-! ### who comes next -/
/-! ### each once -/
def Ahead (L:List Nat) (a b:Nat):Prop:=∃ s t u,L = s ++ a :: (t ++ b :: u)
end Go.Proofs.YtagbjmocjaaioaaGreatDoor.Dm

/- The document's own trees: lowered, New. -/
set_option maxRecDepth 100000
namespace Go.Proofs.YtagbjmocjaaioaaGreatDoor.Dm
open Go Go.RowKit
set_option maxHeartbeats 4000000 in
theorem lowered_any (n:Nd) (cv av:Value) (w:World) (hc:StrsAt w.heap.size w cv n.cls) (ha:PairsAt w.heap.size w av n.ats) (hN:NdOk n) :
  Calls Tryz.prog 33 #[ndVal n cv av] w fun e w' => ∃ cv' av',e = .returned (ndVal (lowN n) cv' av') ∧ StrRow w.heap.size w' cv' n.cls ∧ PairRow w.heap.size w' av' (n.ats.map lowA) ∧ Below w.heap.size w w':=by
 unfold ndVal
 obtain ⟨parent,tag,id,cls,ats⟩:=n
 obtain ⟨n1,n2,n3,n4,n5,n6⟩:=hN
 simp only at hc ha n1 n2 n3 n4 n5 n6
 obtain ⟨pc,cc,rfl⟩:=hc.len
 obtain ⟨pa,ca,rfl⟩:=ha.len
 have k1:Blk (w.alloc (.cells #[.int .i64 parent,.string tag,.string id,.slice pc cls.length cc,.slice pa ats.length ca] 65)) w.heap.size 65 [.int .i64 parent,.string tag,.string id,.slice pc cls.length cc,.slice pa ats.length ca]:=Blk.new w 65 [.int .i64 parent,.string tag,.string id,.slice pc cls.length cc,.slice pa ats.length ca]
 have b1:Below w.heap.size w (w.alloc (.cells #[.int .i64 parent,.string tag,.string id,.slice pc cls.length cc,.slice pa ats.length ca] 65)):=(Below.refl _ _).alloc (Nat.le_refl _) _
 have hs1:(w.alloc (.cells #[.int .i64 parent,.string tag,.string id,.slice pc cls.length cc,.slice pa ats.length ca] 65)).heap.size = w.heap.size + 1:=World.size_alloc _ _
 have b2:Below (w.heap.size + 1) (w.alloc (.cells #[.int .i64 parent,.string tag,.string id,.slice pc cls.length cc,.slice pa ats.length ca] 65)) ((w.alloc (.cells #[.int .i64 parent,.string tag,.string id,.slice pc cls.length cc,.slice pa ats.length ca] 65)).alloc (.cells #[.int .i64 0,.string ⟨#[]⟩,.string ⟨#[]⟩,.slice none 0 0,.slice none 0 0] 65)):=(Below.refl _ _).alloc (by rw [hs1];exact Nat.le_refl _) _
 have k2:Blk ((w.alloc (.cells #[.int .i64 parent,.string tag,.string id,.slice pc cls.length cc,.slice pa ats.length ca] 65)).alloc (.cells #[.int .i64 0,.string ⟨#[]⟩,.string ⟨#[]⟩,.slice none 0 0,.slice none 0 0] 65)) (w.heap.size + 1) 65 [.int .i64 0,.string ⟨#[]⟩,.string ⟨#[]⟩,.slice none 0 0,.slice none 0 0]:=by
  rw [← hs1];exact Blk.new _ 65 [.int .i64 0,.string ⟨#[]⟩,.string ⟨#[]⟩,.slice none 0 0,.slice none 0 0]
 have k3:=k1.below b2 (Nat.lt_succ_self _)
 have b3:=b1.trans (b2.mono (Nat.le_succ _))
 obtain ⟨i0,hi,hz0,hz1,hz2⟩:=info_parts infoStr
 obtain ⟨j0,hj,hx0,hx1,hx2⟩:=info_parts infoPair
 clear k1 b1 b2 hs1
 go_enter Tryz.func33,Tryz.ntmps33
 go_upto_region 1 with fail
 generalize (w.alloc (.cells #[.int .i64 parent,.string tag,.string id,.slice pc cls.length cc,.slice pa ats.length ca] 65)).alloc (.cells #[.int .i64 0,.string ⟨#[]⟩,.string ⟨#[]⟩,.slice none 0 0,.slice none 0 0] 65) = W1 at *
 have hs1:=k2.lt
 have hsw:=b3.size
 have y1:=(blk5 k3).1.2.1
 have hlow:=refLow_any W1 tag n1
 go_wp2_with fail
 refine hlow.mono ?_
 clear hlow y1
 rintro e w2 ⟨rfl,bL⟩
 have k32:=k3.next bL
 have k22:=k2.next bL
 have bb2:=below_next b3 bL
 have k33:=blk_put k32 1 (.string (lowS tag))
 simp only [List.set_cons_succ,List.set_cons_zero] at k33
 have g3:=grown_set w2 w.heap.size 1 (.string (lowS tag))
 have k23:=k22.kept g3 (by simp)
 have bb3:=below_grew bb2 g3 bb2.size (Nat.le_refl _)
 have f1:=(blk5 k32).2.2.1
 have y1:=(blk5 k32).1.2.1
 have hsz3:W1.heap.size ≤ (w2.setCell ⟨w.heap.size,1,none⟩ (.string (lowS tag))).heap.size:=Nat.le_trans bL.size g3.size
 go_upto_region 2 with fail
 generalize w2.setCell ⟨w.heap.size,1,none⟩ (.string (lowS tag)) = W3 at *
 clear f1 y1 g3 bb2 k22 k32 bL k2 k3 b3
 have y3:=(blk5 k33).1.2.2.2.1
 have hc3:=hc.below bb3
 have ha3:=ha.below bb3
 have hsrc:=SlAt.src (sz:=1) (f:=stCells) (by decide) (fun _ => rfl) hc3
 rw [flat_st] at hsrc
 have H1:∀ u ∈ cls.map Value.string,u.oneCell' = true:=fun u hu => by obtain ⟨x,_,rfl⟩:=List.mem_map.1 hu;rfl
 have m1:0 + cls.length ≤ maxLen:=by unfold maxLen;omega
 have m2:(0 + cls.length) * 16 ≤ 140737488355328:=by omega
 have hl1:(cls.map Value.string).length = cls.length * 1:=by simp
 go_upto_region 3 with (at_builtin;refine Rg.wpList_append_src _ rfl _ _ 62 rfl W3.heap.size 9 i0 (.string ⟨#[]⟩) 1 16 Tryz.underlying62 hi hz0 hz1 hz2 rfl (by decide) _ 0 [] rfl (World.ownsRow_nil _ _ _ _) _ cls.length (cls.map Value.string) rfl hl1 hsrc H1 m1 m2 (Nat.le_refl _) ?_;intro cv' w4 hownC hgrowC;obtain ⟨qc,cq,rfl⟩:=owns_form hownC;have b4:Below W3.heap.size W3 w4:=(Below.refl _ _).grown hgrowC (Nat.le_refl _) (fun r e => (by cases e));have k34:=k33.next b4;have f3:=(blk5 k34).2.2.2.2.1;have y3':=(blk5 k34).1.2.2.2.1)
 have k4:=blk_put k34 3 (.slice qc cls.length cq)
 simp only [List.set_cons_succ,List.set_cons_zero] at k4
 have g4:=grown_set w4 w.heap.size 3 (.slice qc cls.length cq)
 have hC4:StrRow W3.heap.size (w4.setCell ⟨w.heap.size,3,none⟩ (.slice qc cls.length cq)) (.slice qc cls.length cq) cls:=by
  have h0:w4.ownsRow W3.heap.size 9 1 (.slice qc cls.length cq) cls.length (cls.map Value.string):=by simpa using hownC
  exact h0.kept g4 (.inr (row_blk (e:=9) (t:=65) (by decide) h0 k34))
 have k24:=(k23.next b4).kept g4 (by simp)
 have bb4:=below_grew (below_next bb3 b4) g4 (by have:=bb3.size;have:=b4.size;omega) (Nat.le_refl _)
 have hs4:W3.heap.size ≤ (w4.setCell ⟨w.heap.size,3,none⟩ (.slice qc cls.length cq)).heap.size:=Nat.le_trans b4.size g4.size
 have HN4:Hid (∀ a ∈ ats,a.1.size ≤ 281474976710656 ∧ a.2.size ≤ 281474976710656):=n4
 have HA:Hid (PairsAt w.heap.size w (.slice pa ats.length ca) ats):=ha
 have hlA:=ha.short
 have l4:ats.length ≤ 4398046511104:=by omega
 have hsw3:w.heap.size + 1 < W3.heap.size:=by omega
 clear n3 n4 hc ha hc3 ha3 hsrc H1 m1 m2 hl1 hownC hgrowC y3 y3' f3 g4 k34 k33 k23 bb3 b4
 generalize w4.setCell ⟨w.heap.size,3,none⟩ (.slice qc cls.length cq) = W5 at *
 go_wp2
 go_loopw [3,4] (fun x y wr => ∃ (k:Nat) (v:Value),x = v ∧ y = .int .i64 k ∧ k ≤ ats.length ∧ PairRow W5.heap.size wr v ((ats.take k).map lowA) ∧ Below W5.heap.size W5 wr) (fun _ y _ => ats.length - (intOf y).toNat)
 case atStart => exact ⟨0,_,rfl,rfl,Nat.zero_le _,World.ownsRow_nil _ _ _ _,Below.refl _ _⟩
 case round =>
  obtain ⟨k,v,rfl,rfl,hk,hP,bW⟩:=hrel
  have k5:=k4.next bW
  by_cases hlt:k < ats.length
  ·have hki:(k:Int) < (ats.length:Int):=by omega
   have hlk:((ats.take k).map lowA).length = k:=by rw [List.length_map];exact List.length_take_of_le hk
   have hs:=HN4.out _ (List.getElem_mem hlt)
   have HTK:Hid ((ats.take (k + 1)).map lowA = (ats.take k).map lowA ++ [lowA ats[k]]):=by show _ = _;rw [take_more hlt,List.map_append];rfl
   obtain ⟨bk,off,rfl,hbk,hcc,hmx,hcell⟩:=(HA.out.below (below_next bb4 bW)).get (List.getElem?_eq_getElem hlt)
   have x0:=hcell 0 _ rfl
   have x1:=hcell 1 _ rfl
   simp only [Nat.add_zero] at x0
   unfold PairRow at hP
   rw [hlk] at hP
   unfold maxLen at hmx
   obtain ⟨pq,cq',rfl⟩:=owns_form hP
   have hltb:bk < wr.heap.size:=by have:=(below_next bb4 bW).size;omega
   generalize ats[k] = s at *
   obtain ⟨nm,tx⟩:=s
   simp only at x0 x1 hs
   obtain ⟨hsA,hsB⟩:=hs
   have HS:Hid (∀ X:World,Below wr.heap.size wr X → X.cell? ⟨w.heap.size,4,none⟩ = some (.slice (some ⟨bk,off,none⟩) ats.length ca) ∧ X.cell? ⟨bk,off + k * 2,none⟩ = some (.string nm) ∧ X.cell? ⟨bk,off + k * 2 + 1,none⟩ = some (.string tx)):=fun X hX => ⟨(blk5 (k5.next hX)).1.2.2.2.2,(hX.cell (p:=⟨bk,_,none⟩) hltb).trans x0,(hX.cell (p:=⟨bk,_,none⟩) hltb).trans x1⟩
   have HR4:Hid (∀ (X:World) (o:Obj),Below wr.heap.size wr X → (X.alloc o).ownsRow W5.heap.size 67 2 (.slice pq k cq') k (((ats.take k).map lowA).flatMap paCells)):=fun X o hX => (owns_next hP hX).alloc o
   have HBW:Hid (∀ (X:World) (o:Obj) w7,Below wr.heap.size wr X → (X.alloc o).grownBy w7 (Value.slice pq k cq').ownBlock → Below W5.heap.size W5 w7):=fun X o w7 hX hg => by
    have h1:=(below_nextN bW hX (Nat.le_refl _)).alloc (by have:=hX.size;have:=bW.size;omega) o
    exact h1.grown hg h1.size (fun r e => (owns_lt hP e).1)
   have H1:∀ u ∈ ([.string (lowS nm),.string tx]:List Value),u.oneCell' = true:=fun u hu => by simp at hu;rcases hu with rfl | rfl <;> rfl
   have m1:k + 1 ≤ maxLen:=by unfold maxLen;omega
   have m2:(k + 1) * 32 ≤ 140737488355328:=by omega
   have hsz:=bW.size
   have y4:=(blk5 k5).1.2.2.2.2
   clear hcell hP bW k5 x0 x1
   go_upto_region 7 with fail
   refine Rg.wpD_begin [0,1,2,3,4,5,6,7,8,9,10,11,12,13,14,15] (fun X => X.cell? ⟨w.heap.size,4,none⟩ = some (.slice (some ⟨bk,off,none⟩) ats.length ca) ∧ X.cell? ⟨bk,off + k * 2,none⟩ = some (.string nm) ∧ X.cell? ⟨bk,off + k * 2 + 1,none⟩ = some (.string tx)) (by kernel_rfl) ?_
   have q0:Below wr.heap.size wr wr.drew:=below_drew (Below.refl _ _)
   have HeldS:=HS.out _ q0
   refine Rg.ld 0 HeldS ?_
   simp only [Act.put,Rg.sA,Rg.sB,Rg.sC]
   refine Rg.ld 1 HeldS ?_
   simp only [Act.put,Rg.sA,Rg.sB,Rg.sC]
   refine Rg.ld 2 HeldS ?_
   simp only [Act.put,Rg.sA,Rg.sB,Rg.sC]
   refine Rg.ld 3 HeldS ?_
   simp only [Act.put,Rg.sA,Rg.sB,Rg.sC]
   refine Rg.ld 4 HeldS ?_
   simp only [Act.put,Rg.sA,Rg.sB,Rg.sC]
   refine Rg.ld 5 HeldS ?_
   simp only [Act.put,Rg.sA,Rg.sB,Rg.sC]
   refine Rg.ld 6 HeldS ?_
   simp only [Act.put,Rg.sA,Rg.sB,Rg.sC]
   refine Rg.ld 8 HeldS ?_
   simp only [Act.put,Rg.sA,Rg.sB,Rg.sC]
   refine Rg.ld 9 HeldS ?_
   simp only [Act.put,Rg.sA,Rg.sB,Rg.sC]
   refine Rg.ld 10 HeldS ?_
   simp only [Act.put,Rg.sA,Rg.sB,Rg.sC]
   refine Rg.ld 11 HeldS ?_
   simp only [Act.put,Rg.sA,Rg.sB,Rg.sC]
   refine Rg.ld 12 HeldS ?_
   simp only [Act.put,Rg.sA,Rg.sB,Rg.sC]
   refine Rg.ld 13 HeldS ?_
   simp only [Act.put,Rg.sA,Rg.sB,Rg.sC]
   refine Rg.dd 7 fun K hK => ?_
   go_simp
   go_at_call 71
   refine Calls.mono (refLow_any wr.drew nm hsA) ?_
   rintro e wN ⟨rfl,bN⟩
   have qN:Below wr.heap.size wr wN:=below_next q0 bN
   refine hK _ _ (fun _ => HS.out _ qN) ?_
   clear HeldS hK K bN
   have HeldS:=HS.out _ qN
   refine Rg.ld 14 HeldS ?_
   simp only [Act.put,Rg.sA,Rg.sB,Rg.sC]
   refine Rg.dd 15 fun K hK => ?_
   go_simp
   have qL:Below wr.heap.size wr (wN.alloc (.cells #[.string (lowS nm),.string tx] 67)):=qN.alloc qN.size _
   refine hK _ _ (fun _ => HS.out _ qL) ?_
   clear HeldS hK K
   have hcp:=cells_plain wN [.string (lowS nm),.string tx] 67
   have hsL:W5.heap.size ≤ (wN.alloc (.cells #[.string (lowS nm),.string tx] 67)).heap.size:=Nat.le_trans hsz qL.size
   refine Rg.dd 16 fun K hK => ?_
   refine step_append_lies (w:=wN.alloc _) rfl _ _ 63 rfl W5.heap.size 67 j0 (.agg #[.string ⟨#[]⟩,.string ⟨#[]⟩]) 2 32 Tryz.underlying63 hj hx0 hx1 hx2 rfl (by decide) (.slice pq k cq') _ _ rfl (HR4.out _ _ qN) ⟨wN.heap.size,0,none⟩ 1 1 [.string (lowS nm),.string tx] rfl rfl hcp H1 (by decide) m1 m2 hsL _ rfl ?_
   intro g7 c7 w7 hown7 hgrow7 hat7 hlt7
   refine hK _ _ (fun h => absurd h (by decide)) ?_
   clear hK K hcp
   refine Rg.pu 17 ?_
   simp only [Act.put,Rg.sA,Rg.sB,Rg.sC]
   refine Rg.wpD_done (by kernel_rfl) ?_
   have b7:=HBW.out _ _ _ qN hgrow7
   have hrow:PairRow W5.heap.size w7 (.slice (some ⟨g7,0,none⟩) (k + 1) c7) ((ats.take (k + 1)).map lowA):=by
    unfold PairRow
    rw [HTK.out,List.length_append,hlk,List.flatMap_append]
    exact hown7
   clear hown7 hgrow7 HTK hlk
   go_wp2
   exact ⟨⟨k + 1,_,rfl,by go_num,by omega,hrow,b7⟩,by simp [intOf];omega⟩
  ·have hki:¬ (k:Int) < (ats.length:Int):=by omega
   obtain rfl:k = ats.length:=by omega
   rw [List.take_length] at hP
   unfold PairRow at hP
   rw [List.length_map] at hP
   obtain ⟨pq,cq',rfl⟩:=owns_form hP
   have f4:=(blk5 k5).2.2.2.2.2
   have y4:=(blk5 k5).1.2.2.2.2
   have k6:=blk_put k5 4 (.slice pq ats.length cq')
   simp only [List.set_cons_succ,List.set_cons_zero] at k6
   have g6:=grown_set wr w.heap.size 4 (.slice pq ats.length cq')
   have hP6:=hP.kept g6 (.inr (row_blk (e:=67) (t:=65) (by decide) hP k5))
   have hC5:=hC4.next bW
   have hC6:=hC5.kept g6 (.inr (row_blk (e:=9) (t:=65) (by decide) hC5 k5))
   have k26:=(k24.next bW).kept g6 (by simp)
   have bb6:=below_grew (below_next bb4 bW) g6 (below_next bb4 bW).size (Nat.le_refl _)
   go_upto_region 9 with fail
   generalize wr.setCell ⟨w.heap.size,4,none⟩ (.slice pq ats.length cq') = W7 at *
   have kW:=blk_set5 k26 (.int .i64 parent) (.string (lowS tag)) (.string id) (.slice qc cls.length cq) (.slice pq ats.length cq')
   have gW:=grown_set5 W7 (w.heap.size + 1) (.int .i64 parent) (.string (lowS tag)) (.string id) (.slice qc cls.length cq) (.slice pq ats.length cq')
   have hR9:=owns_base (b':=w.heap.size) (hC6.kept gW (.inr (row_blk (e:=9) (t:=65) (by decide) hC6 k26))) (by omega)
   have hP9:=owns_base (b':=w.heap.size) (hP6.kept gW (.inr (row_blk (e:=67) (t:=65) (by decide) hP6 k26))) (by omega)
   have b9:=below_grew bb6 gW bb6.size (Nat.le_succ _)
   clear f4 y4
   obtain ⟨⟨y0,y1,y2,y3,y4⟩,_⟩:=blk5 k6
   obtain ⟨⟨t0,t1,t2,t3,t4⟩,f0,f1,f2,f3,f4⟩:=blk5 k26
   unfold set5 at kW hR9 hP9 b9
   clear gW k26 hC6 hP6 k6 hC5 hP k5 k4
   go_wp2
   refine bodyPost_ret (results_struct rfl _ _ _ _ rfl (load_node kW)) rfl ?_
   refine ⟨_,_,rfl,hR9,?_,b9⟩
   unfold PairRow
   rw [List.length_map]
   exact hP9
end Go.Proofs.YtagbjmocjaaioaaGreatDoor.Dm

/- The document's own tree in memory; its New, at every slice of nodes. -/
set_option maxRecDepth 100000
namespace Go.Proofs.YtagbjmocjaaioaaGreatDoor.Dm
open Go Go.RowKit
structure RTr (b:Nat) (W:World) (tb:Nat) (nv dv:Value) (ns:List Nv) (ds:List Int):Prop where
 blk:Blk W tb 60 [nv,dv]
 low:b ≤ tb
 row:W.ownsRow b 65 5 nv ns.length (ns.flatMap nvCells)
 cls:∀ n ∈ ns,StrRow b W n.cv n.nd.cls
 ats:∀ n ∈ ns,PairRow b W n.av n.nd.ats
 dep:IntRow b W dv ds
theorem RTr.kept {keep:Nat → Prop} {b:Nat} {W W':World} {tb:Nat} {nv dv:Value} {ns:List Nv} {ds:List Int} (h:RTr b W tb nv dv ns ds) (hk:Kept keep W W') (hb:∀ k,b ≤ k → k < W.heap.size → keep k):RTr b W' tb nv dv ns ds:=by
 have same:∀ {e:TypeId} {s:Nat} {v:Value} {n:Nat} {xs:List Value},W.ownsRow b e s v n xs → W'.ownsRow b e s v n xs:=fun hr => owns_same hr (fun g hg => hk.block g (owns_lt hr hg).2 (hb g (owns_lt hr hg).1 (owns_lt hr hg).2))
 exact ⟨hk.blk h.blk (hb _ h.low h.blk.lt),h.low,same h.row,fun n hn => same (h.cls n hn),fun n hn => same (h.ats n hn),same h.dep⟩
theorem RTr.next {b:Nat} {W W':World} {tb:Nat} {nv dv:Value} {ns:List Nv} {ds:List Int} (h:RTr b W tb nv dv ns ds) (hb:Below W.heap.size W W'):RTr b W' tb nv dv ns ds:=h.kept (keep:=fun _ => True) (.of_below hb) (fun _ _ _ => trivial)
theorem RTr.pushN {b:Nat} {W X w7:World} {tb:Nat} {nv dv v':Value} {ns:List Nv} {ds:List Int} {n:Nv} (h:RTr b W tb nv dv ns ds) (hX:Below W.heap.size W X)
  (hc:StrRow W.heap.size X n.cv n.nd.cls) (ha:PairRow W.heap.size X n.av n.nd.ats) (hr:w7.ownsRow b 65 5 v' (ns.length + 1) (ns.flatMap nvCells ++ nvCells n)) (hg:X.grownBy w7 nv.ownBlock) :
  RTr b (w7.setCell ⟨tb,0,none⟩ v') tb v' dv (ns ++ [n]) ds:=by
 have hA:=h.next hX
 have hb:b ≤ W.heap.size:=Nat.le_trans h.low (Nat.le_of_lt h.blk.lt)
 have gs:=grown_set w7 tb 0 v'
 have blk2:=hA.blk.kept hg (fun e => row_blk (e:=65) (t:=60) (by decide) hA.row hA.blk e.symm)
 have both:∀ {e:TypeId} {s:Nat} {v:Value} {n:Nat} {xs:List Value},e ≠ 65 → e ≠ 60 → X.ownsRow b e s v n xs → (w7.setCell ⟨tb,0,none⟩ v').ownsRow b e s v n xs:=fun he he' hx => by
  have h1:=hx.kept hg (rows_apart he hx hA.row)
  exact h1.kept gs (.inr (row_blk he' h1 blk2))
 refine ⟨blk_put blk2 0 v',h.low,?_,fun m hm => ?_,fun m hm => ?_,both (by decide) (by decide) hA.dep⟩
 ·rw [List.length_append,List.length_singleton,List.flatMap_append]
  simp only [List.flatMap_cons,List.flatMap_nil,List.append_nil]
  exact hr.kept gs (.inr (row_blk (e:=65) (t:=60) (by decide) hr blk2))
 ·rcases List.mem_append.1 hm with hm | hm
  ·exact both (by decide) (by decide) (hA.cls m hm)
  ·obtain rfl:=List.mem_singleton.1 hm
   exact both (by decide) (by decide) (owns_base hc hb)
 ·rcases List.mem_append.1 hm with hm | hm
  ·exact both (by decide) (by decide) (hA.ats m hm)
  ·obtain rfl:=List.mem_singleton.1 hm
   exact both (by decide) (by decide) (owns_base ha hb)
theorem RTr.pushD {b:Nat} {W X w7:World} {tb:Nat} {nv dv v':Value} {ns:List Nv} {ds:List Int} {d:Int} (h:RTr b W tb nv dv ns ds) (hX:Below W.heap.size W X)
  (hr:w7.ownsRow b 3 1 v' (ds.length + 1) (ds.map (Value.int .i64) ++ [.int .i64 d])) (hg:X.grownBy w7 dv.ownBlock) :
  RTr b (w7.setCell ⟨tb,1,none⟩ v') tb nv v' ns (ds ++ [d]):=by
 have hA:=h.next hX
 have gs:=grown_set w7 tb 1 v'
 have blk2:=hA.blk.kept hg (fun e => row_blk (e:=3) (t:=60) (by decide) hA.dep hA.blk e.symm)
 have both:∀ {e:TypeId} {s:Nat} {v:Value} {n:Nat} {xs:List Value},e ≠ 3 → e ≠ 60 → X.ownsRow b e s v n xs → (w7.setCell ⟨tb,1,none⟩ v').ownsRow b e s v n xs:=fun he he' hx => by
  have h1:=hx.kept hg (rows_apart he hx hA.dep)
  exact h1.kept gs (.inr (row_blk he' h1 blk2))
 refine ⟨blk_put blk2 1 v',h.low,both (by decide) (by decide) hA.row,fun m hm => both (by decide) (by decide) (hA.cls m hm),fun m hm => both (by decide) (by decide) (hA.ats m hm),?_⟩
 unfold IntRow
 rw [List.length_append,List.length_singleton,List.map_append]
 exact hr.kept gs (.inr (row_blk (e:=3) (t:=60) (by decide) hr blk2))
def depI (es:List El):List Int:=es.map fun e => (e.depth:Int)
structure Tells (es:List El) (ns:List Nv) (ds:List Int):Prop where
 nds:ns.map Nv.nd = es.map El.nd
 dep:ds = depI es
theorem Tells.len {es:List El} {ns:List Nv} {ds:List Int} (h:Tells es ns ds):ns.length = es.length ∧ ds.length = es.length:=by
 refine ⟨?_,by rw [h.dep];simp [depI]⟩
 have:=congrArg List.length h.nds
 simpa using this
theorem Tells.grow {es:List El} {ns:List Nv} {ds:List Int} (h:Tells es ns ds) {p:Nat} {q:El} (hq:es[p]? = some q) (x:El) (n:Nv) (hn:n.nd = x.nd) (c:Nat):Tells (growV es p q c ++ [x]) (ns ++ [n]) (ds ++ [(x.depth:Int)]):=by
 have hset:∀ {β:Type} (f:El → β),f { q with ch:=q.ch ++ [c] } = f q → (growV es p q c).map f = es.map f:=fun f hf => by
  unfold growV
  rw [List.map_set,hf]
  apply List.ext_getElem?
  intro j
  rw [List.getElem?_set]
  by_cases e:p = j
  ·subst e
   have hp:p < es.length:=(List.getElem?_eq_some_iff.1 hq).1
   rw [if_pos rfl,if_pos (by rw [List.length_map];exact hp),List.getElem?_map,hq]
   rfl
  ·rw [if_neg e]
 refine ⟨?_,?_⟩
 ·rw [List.map_append,List.map_append,hset El.nd rfl,h.nds]
  show _ ++ [n.nd] = _ ++ [x.nd]
  rw [hn]
 ·unfold depI
  rw [List.map_append,hset (fun e => (e.depth:Int)) rfl,h.dep]
  rfl
def RMade (b:Nat) (l:List Nd) (e:Ending) (w':World):Prop:=
 (∃ tb nv dv ns ds es,newV l = .ok es ∧ e = .returned (.tuple #[.pointer (some ⟨tb,0,none⟩),.int .i64 0]) ∧ RTr b w' tb nv dv ns ds ∧ Tells es ns ds) ∨ (∃ x,newV l = .error x ∧ e = .returned (.tuple #[.pointer none,.int .i64 x]))
set_option maxHeartbeats 8000000 in
theorem refNew_any (v:Value) (l:List Nv) (w:World) (hv:NodesAt w.heap.size w v l) (hN:∀ n ∈ l,NdOk n.nd) :
  Calls Tryz.prog 13 #[v] w fun e w' => RMade w.heap.size (l.map Nv.nd) e w' ∧ Below w.heap.size w w':=by
 obtain ⟨p,cap,rfl⟩:=hv.row.len
 have hsh:=hv.row.short
 obtain ⟨i0,hi,hz0,hz1,hz2⟩:=info_parts infoNode
 obtain ⟨j0,hj,hx0,hx1,hx2⟩:=info_parts infoInt
 have HN:Hid (∀ n ∈ l,NdOk n.nd):=hN
 have hml:(l.map Nv.nd).length = l.length:=List.length_map _
 clear hN
 by_cases hbig:4096 < l.length
 ·have hb:(4096:Int) < (l.length:Int):=by omega
  have hV:newV (l.map Nv.nd) = .error 3:=by unfold newV;rw [if_pos (by omega)]
  clear hml
  go_enter Tryz.func13,Tryz.ntmps13
  go_wp2
  go_ret2
  exact ⟨.inr ⟨3,hV,rfl⟩,Below.refl _ _⟩
 ·have hb:¬ (4096:Int) < (l.length:Int):=by omega
  have hV:newV (l.map Nv.nd) = newF [] (l.map Nv.nd):=by unfold newV;rw [if_neg (by omega)]
  have HV:Hid (_ = _):=hV
  have hTr:RTr w.heap.size (w.alloc (.cells #[.slice none 0 0,.slice none 0 0] 60)) w.heap.size (.slice none 0 0) (.slice none 0 0) [] []:=
   ⟨Blk.new w 60 [.slice none 0 0,.slice none 0 0],Nat.le_refl _,World.ownsRow_nil _ _ _ _,fun _ h => (by cases h),fun _ h => (by cases h),World.ownsRow_nil _ _ _ _⟩
  have bT:Below w.heap.size w (w.alloc (.cells #[.slice none 0 0,.slice none 0 0] 60)):=(Below.refl _ _).alloc (Nat.le_refl _) _
  clear hV
  go_enter Tryz.func13,Tryz.ntmps13
  go_upto_block 0 with fail
  generalize w.alloc (.cells #[.slice none 0 0,.slice none 0 0] 60) = WT at *
  go_wp2
  go_loopw [5] (fun i wr => ∃ (k:Nat) (es:List El) (nv dv:Value) (ns:List Nv) (ds:List Int),i = .int .i64 k ∧ k ≤ l.length ∧ es.length = k ∧ RTr w.heap.size wr w.heap.size nv dv ns ds ∧ Tells es ns ds ∧ TreeOk es ∧ Hid (newF [] (l.map Nv.nd) = newF es ((l.map Nv.nd).drop k)) ∧ Below w.heap.size w wr) (fun i _ => l.length - (intOf i).toNat)
  case atStart => exact ⟨0,[],_,_,[],[],rfl,Nat.zero_le _,rfl,hTr,⟨rfl,rfl⟩,TreeOk.nil,rfl,bT⟩
  case round =>
   clear hTr bT
   obtain ⟨k,es,nv,dv,ns,ds,rfl,hk,hel,hTr,hTl,hOk,HF,hbw⟩:=hrel
   have hvr:=hv.below hbw
   by_cases hlt:k < l.length
   ·have hki:(k:Int) < (l.length:Int):=by omega
    have hlk:l[k]? = some l[k]:=List.getElem?_eq_getElem hlt
    have hNk:=HN.out _ (List.getElem_mem hlt)
    have hck:=hvr.cls _ (List.getElem_mem hlt)
    have hak:=hvr.ats _ (List.getElem_mem hlt)
    obtain ⟨bk,off,rfl,hbk,hcap,hmx,hcell⟩:=hvr.row.get hlk
    have x0:=hcell 0 _ rfl
    have x1:=hcell 1 _ rfl
    have x2:=hcell 2 _ rfl
    have x3:=hcell 3 _ rfl
    have x4:=hcell 4 _ rfl
    simp only [Nat.add_zero] at x0
    unfold maxLen at hmx
    have HF2:=HF.out
    rw [newF_drop (n:=l[k].nd) (by rw [List.getElem?_map,hlk];rfl)] at HF2
    have HF3:Hid (_ = _):=HF2
    clear HF HF2 hcell hlk hvr
    generalize l[k] = n at *
    obtain ⟨n,cv,av⟩:=n
    simp only at hNk hck hak x0 x1 x2 x3 x4 HF3
    by_cases hgood:(k = 0 ∧ n.parent = -1) ∨ (0 < k ∧ 0 ≤ n.parent ∧ n.parent < (k:Int))
    ·obtain ⟨dV,hdV,hdeep,hflat,hread⟩:∃ dV:Nat,dV ≤ 257 ∧ (256 < dV → addV es n = .error 11) ∧ (dV ≤ 256 → ∀ m:Nv,m.nd = lowN n → ∃ es',addV es n = .ok es' ∧ Tells es' (ns ++ [m]) (ds ++ [(dV:Int)])) ∧ ((k = 0 ∧ dV = 0 ∧ n.parent = -1) ∨ ∃ p d:Nat,0 < k ∧ n.parent = (p:Int) ∧ p < k ∧ ds[p]? = some (d:Int) ∧ dV = d + 1):=by
      rcases hgood with ⟨hk0,hp⟩ | ⟨hk0,hp1,hp2⟩
      ·have hes:es = []:=List.length_eq_zero_iff.1 (by omega)
       subst hes
       refine ⟨0,by omega,fun h => absurd h (by omega),fun _ m hm => ⟨[⟨lowN n,0,1,[]⟩],by unfold addV;simp [hp],?_⟩,.inl ⟨hk0,rfl,hp⟩⟩
       have h1:=hTl.nds
       have h2:=hTl.dep
       have hns:ns = []:=List.length_eq_zero_iff.1 hTl.len.1
       subst hns
       rw [h2]
       exact ⟨by show [m.nd] = _;rw [hm];rfl,rfl⟩
      ·obtain ⟨p,hpe⟩:∃ p:Nat,n.parent = (p:Int):=⟨n.parent.toNat,by omega⟩
       have hlt':p < es.length:=by omega
       have hq:es[p]? = some es[p]:=List.getElem?_eq_getElem hlt'
       have hdp:=hOk.deep p _ hq
       have hgd:es.getD n.parent.toNat zeroEl = es[p]:=by rw [hpe,Int.toNat_natCast];simp [List.getD,hq]
       have hadd:addV es n = if es[p].depth = 256 then .error 11 else .ok (growV es p es[p] es.length ++ [⟨lowN n,es[p].depth + 1,es[p].ch.length + 1,[]⟩]):=by
        unfold addV
        rw [if_neg (by omega),if_pos ⟨by omega,by omega⟩,hgd,hpe,Int.toNat_natCast]
       refine ⟨es[p].depth + 1,by omega,fun h => by rw [hadd,if_pos (by omega)],fun h m hm => ⟨_,by rw [hadd,if_neg (by omega)],hTl.grow hq _ m hm _⟩,.inr ⟨p,es[p].depth,hk0,hpe,by omega,?_,rfl⟩⟩
       rw [hTl.dep]
       unfold depI
       rw [List.getElem?_map,hq]
       rfl
     obtain ⟨hnl,hdl⟩:=hTl.len
     rw [hel] at hnl hdl
     have hrowN:=hTr.row
     rw [hnl] at hrowN
     have hrowD:=hTr.dep
     unfold IntRow at hrowD
     rw [hdl] at hrowD
     obtain ⟨pn,cn,hnv⟩:=owns_form hrowN
     obtain ⟨pd,cd,hdv⟩:=owns_form hrowD
     subst hnv hdv
     have HDat:=hTr.dep.at
     obtain ⟨c01,f01⟩:=blk2 hTr.blk
     have HTr:Hid (RTr w.heap.size wr w.heap.size (.slice pn k cn) (.slice pd k cd) ns ds):=hTr
     have HOk:Hid (TreeOk es):=hOk
     have HNk:Hid (NdOk n):=hNk
     have HCk:Hid (StrsAt w.heap.size wr cv n.cls):=hck
     have HAk:Hid (PairsAt w.heap.size wr av n.ats):=hak
     have HDeep:Hid (256 < dV → addV es n = .error 11):=hdeep
     have HFlat:Hid (dV ≤ 256 → ∀ m:Nv,m.nd = lowN n → ∃ es',addV es n = .ok es' ∧ Tells es' (ns ++ [m]) (ds ++ [(dV:Int)])):=hflat
     have HRead:Hid ((k = 0 ∧ dV = 0 ∧ n.parent = -1) ∨ ∃ p d:Nat,0 < k ∧ n.parent = (p:Int) ∧ p < k ∧ ds[p]? = some (d:Int) ∧ dV = d + 1):=hread
     obtain ⟨pc,cc,rfl⟩:=hck.len
     obtain ⟨pa,ca,rfl⟩:=hak.len
     obtain ⟨parent,tag,id,cls,ats⟩:=n
     simp only at x0 x1 x2 x3 x4 HRead
     clear hdeep hflat hread hTr hOk hNk hck hak hgood hTl hrowN hrowD
     go_upto_region 8 with fail
     go_cut [42] (fun b wx => b = .bool false ∧ wr = wx)
     case first =>
      rcases HRead.out with ⟨hk0,_,hp⟩ | ⟨p,d,hk0,hp,hpk,_,_⟩
      ·subst hk0 hp
       clear HDat HFlat HDeep
       go_wp2_with fail
       go_meet
       exact ⟨rfl,rfl⟩
      ·subst hp
       have hk0':((k:Int) == 0) = false:=by simpa using (show ¬ k = 0 by omega)
       have hkp:(0:Int) < (k:Int):=by omega
       have hpn:decide ((p:Int) < 0) = false:=decide_eq_false (by omega)
       have hpk':decide ((k:Int) ≤ (p:Int)) = false:=decide_eq_false (by omega)
       clear HDat HFlat HDeep
       go_wp2_with fail
       go_meet
       exact ⟨by simp;omega,rfl⟩
     case rest =>
     obtain ⟨rfl,rfl⟩:=hcut
     go_upto_if 44 with fail
     go_cut [7] (fun x wx => x = .int .i64 (dV:Int) ∧ wr = wx)
     case first =>
      rcases HRead.out with ⟨hk0,hd0,-⟩ | ⟨p,d,hk0,hp,hpk,hds,hd1⟩
      ·subst hk0 hd0
       clear HDat HFlat HDeep
       go_wp2_with fail
       go_meet
       exact ⟨rfl,rfl⟩
      ·subst hp hd1
       have hkp:(0:Int) < (k:Int):=by omega
       obtain ⟨bd,od,rfl,_,hcd,hmd,hcelld⟩:=HDat.get hds
       have z0:=hcelld 0 _ rfl
       simp only [Nat.mul_one,Nat.add_zero] at z0
       rw [hdl] at hcd
       unfold maxLen at hmd
       have hpi:(p:Int) < (k:Int):=by omega
       have hwd:IntKind.i64.wrap ((d:Int) + 1) = (d:Int) + 1:=by rw [IntKind.wrap_i64];omega
       clear HDat HFlat HDeep hcelld hds
       go_wp2_with fail
       go_meet
       exact ⟨by first | (rw [hwd];go_num) | (simp;omega) | simp,rfl⟩
     case rest =>
     obtain ⟨rfl,rfl⟩:=hcut
     clear HDat
     go_upto_region 13 with fail
     by_cases hdp:256 < dV
     ·have hdp':(256:Int) < (dV:Int):=by omega
      have HF4:Hid (newV (l.map Nv.nd) = .error 11):=by
       show _ = _
       have:=HF3.out
       rw [HDeep.out hdp] at this
       rw [HV.out,this]
      clear HFlat HDeep HF3 hml HRead
      go_wp2
      go_ret2
      exact ⟨.inr ⟨11,HF4.out,rfl⟩,hbw⟩
     ·have hdp':¬ (256:Int) < (dV:Int):=by omega
      have hltb:bk < wr.heap.size:=by have:=hbw.size;omega
      have hszw:=hbw.size
      have HS:Hid (∀ X:World,Below wr.heap.size wr X → X.cell? ⟨w.heap.size,0,none⟩ = some (.slice pn k cn) ∧ X.cell? ⟨bk,off + k * 5,none⟩ = some (.int .i64 parent) ∧ X.cell? ⟨bk,off + k * 5 + 1,none⟩ = some (.string tag) ∧ X.cell? ⟨bk,off + k * 5 + 2,none⟩ = some (.string id) ∧ X.cell? ⟨bk,off + k * 5 + 3,none⟩ = some (.slice pc cls.length cc) ∧ X.cell? ⟨bk,off + k * 5 + 4,none⟩ = some (.slice pa ats.length ca)):=fun X hX => by
       have hc:=fun o => hX.cell (p:=⟨bk,o,none⟩) hltb
       exact ⟨(blk2 (HTr.out.blk.next hX)).1.1,(hc _).trans x0,(hc _).trans x1,(hc _).trans x2,(hc _).trans x3,(hc _).trans x4⟩
      have HBW:Hid (Below w.heap.size w wr):=hbw
      have HK:Hid (Calls Tryz.prog 33 #[ndVal ⟨parent,tag,id,cls,ats⟩ (.slice pc cls.length cc) (.slice pa ats.length ca)] wr.drew _):=lowered_any ⟨parent,tag,id,cls,ats⟩ (.slice pc cls.length cc) (.slice pa ats.length ca) wr.drew ((HCk.out.mono hszw).next (below_drew (Below.refl _ _))) ((HAk.out.mono hszw).next (below_drew (Below.refl _ _))) HNk.out
      unfold ndVal at HK
      obtain ⟨c0,c1⟩:=c01
      obtain ⟨f0,f1⟩:=f01
      clear HDeep HRead hbw
      go_upto_region 15 with fail
      refine Rg.wpD_begin [1,2,3,4,5,6,7,8,9,10] (fun X => X.cell? ⟨w.heap.size,0,none⟩ = some (.slice pn k cn) ∧ X.cell? ⟨bk,off + k * 5,none⟩ = some (.int .i64 parent) ∧ X.cell? ⟨bk,off + k * 5 + 1,none⟩ = some (.string tag) ∧ X.cell? ⟨bk,off + k * 5 + 2,none⟩ = some (.string id) ∧ X.cell? ⟨bk,off + k * 5 + 3,none⟩ = some (.slice pc cls.length cc) ∧ X.cell? ⟨bk,off + k * 5 + 4,none⟩ = some (.slice pa ats.length ca)) (by kernel_rfl) ?_
      have q0:Below wr.heap.size wr wr.drew:=below_drew (Below.refl _ _)
      have HeldS:=HS.out _ q0
      clear x0 x1 x2 x3 x4 c0 c1 f0 f1
      refine Rg.pu 0 ?_
      simp only [Act.put,Rg.sA,Rg.sB,Rg.sC]
      refine Rg.ld 1 HeldS ?_
      simp only [Act.put,Rg.sA,Rg.sB,Rg.sC]
      refine Rg.ld 2 HeldS ?_
      simp only [Act.put,Rg.sA,Rg.sB,Rg.sC]
      refine Rg.ld 3 HeldS ?_
      simp only [Act.put,Rg.sA,Rg.sB,Rg.sC]
      refine Rg.ld 4 HeldS ?_
      simp only [Act.put,Rg.sA,Rg.sB,Rg.sC]
      refine Rg.ld 5 HeldS ?_
      simp only [Act.put,Rg.sA,Rg.sB,Rg.sC]
      refine Rg.ld 6 HeldS ?_
      simp only [Act.put,Rg.sA,Rg.sB,Rg.sC]
      refine Rg.ld 7 HeldS ?_
      simp only [Act.put,Rg.sA,Rg.sB,Rg.sC]
      refine Rg.ld 8 HeldS ?_
      simp only [Act.put,Rg.sA,Rg.sB,Rg.sC]
      refine Rg.dd 9 fun K hK => ?_
      go_simp
      go_at_call 33
      refine Calls.mono HK.out ?_
      rintro e wN ⟨cv',av',rfl,hcN,haN,bN⟩
      have qN:Below wr.heap.size wr wN:=below_next q0 bN
      refine hK _ _ (fun _ => HS.out _ qN) ?_
      clear HeldS hK K bN
      simp only [lowN]
      refine Rg.dd 10 fun K hK => ?_
      go_simp
      have qL:Below wr.heap.size wr (wN.alloc (.cells #[.int .i64 parent,.string (lowS tag),.string id,cv',av'] 65)):=qN.alloc qN.size _
      refine hK _ _ (fun _ => HS.out _ qL) ?_
      clear hK K
      have hcp:=cells_plain wN [.int .i64 parent,.string (lowS tag),.string id,cv',av'] 65
      have HTL:=HTr.out.next qL
      have hrL:=HTL.row
      rw [hnl] at hrL
      have H1:∀ u ∈ ([.int .i64 parent,.string (lowS tag),.string id,cv',av']:List Value),u.oneCell' = true:=fun u hu => by
       simp only [List.mem_cons,List.not_mem_nil,or_false] at hu
       rcases hu with rfl | rfl | rfl | rfl | rfl
       ·rfl
       ·rfl
       ·rfl
       ·exact slice_one hcN
       ·exact slice_one haN
      have hsL:w.heap.size ≤ (wN.alloc (.cells #[.int .i64 parent,.string (lowS tag),.string id,cv',av'] 65)).heap.size:=Nat.le_trans hszw qL.size
      refine Rg.dd 11 fun K hK => ?_
      refine step_append_lies (w:=wN.alloc _) rfl _ _ 23 rfl w.heap.size 65 i0 (.agg #[.int .i64 0,.string ⟨#[]⟩,.string ⟨#[]⟩,.slice none 0 0,.slice none 0 0]) 5 88 Tryz.underlying23 hi hz0 hz1 hz2 rfl (by decide) (.slice pn k cn) _ _ rfl hrL ⟨wN.heap.size,0,none⟩ 1 1 [.int .i64 parent,.string (lowS tag),.string id,cv',av'] rfl rfl hcp H1 (by decide) (by unfold maxLen;omega) (by omega) hsL _ rfl ?_
      intro g7 c7 w7 hown7 hgrow7 hat7 hlt7
      refine hK _ _ (fun h => absurd h (by decide)) ?_
      clear hK K hcp H1
      have hcL:=hcN.next ((Below.refl _ wN).alloc (Nat.le_refl _) (.cells #[.int .i64 parent,.string (lowS tag),.string id,cv',av'] 65))
      have haL:=haN.next ((Below.refl _ wN).alloc (Nat.le_refl _) (.cells #[.int .i64 parent,.string (lowS tag),.string id,cv',av'] 65))
      have hT7:=HTr.out.pushN (w7:=w7) (n:=⟨lowN ⟨parent,tag,id,cls,ats⟩,cv',av'⟩) qL hcL haL (by rw [hnl];exact hown7) hgrow7
      have b7:=(below_next HBW.out qL).grown hgrow7 hsL (fun r e => (owns_lt hrL e).1)
      have b8:=below_grew b7 (grown_set w7 w.heap.size 0 (.slice (some ⟨g7,0,none⟩) (k + 1) c7)) b7.size (Nat.le_refl _)
      have k7:=HTL.blk.kept hgrow7 (fun e => row_blk (e:=65) (t:=60) (by decide) HTL.row HTL.blk e.symm)
      obtain ⟨⟨d7,_⟩,e7,_⟩:=blk2 k7
      clear HTL hrL hcL haL hcN haN b7 k7 hown7 hgrow7 hat7 hlt7
      refine Rg.pu 12 ?_
      simp only [Act.put,Rg.sA,Rg.sB,Rg.sC]
      refine Rg.pu 13 ?_
      simp only [Act.put,Rg.sA,Rg.sB,Rg.sC]
      refine Rg.dd 14 fun K hK => ?_
      go_simp
      refine hK _ _ (fun h => absurd h (by decide)) ?_
      clear hK K
      refine Rg.wpD_done (by kernel_rfl) ?_
      generalize w7.setCell ⟨w.heap.size,0,none⟩ (.slice (some ⟨g7,0,none⟩) (k + 1) c7) = W8 at *
      obtain ⟨⟨c0,c1⟩,f0,f1⟩:=blk2 hT7.blk
      have hD8:=hT7.dep
      unfold IntRow at hD8
      rw [hdl] at hD8
      have H2:∀ u ∈ ([.int .i64 (dV:Int)]:List Value),u.oneCell' = true:=fun u hu => by simp at hu;subst hu;rfl
      have HD8:Hid (∀ o:Obj,(W8.alloc o).ownsRow w.heap.size 3 1 (.slice pd k cd) k (ds.map (Value.int .i64))):=fun o => hD8.alloc o
      have hs8:=b8.size
      have hs9:w.heap.size ≤ (W8.alloc (.cells #[.int .i64 (dV:Int)] 3)).heap.size:=by rw [World.size_alloc];omega
      have bA8:Below W8.heap.size W8 (W8.alloc (.cells #[.int .i64 (dV:Int)] 3)):=(Below.refl _ _).alloc (Nat.le_refl _) _
      have hT9:=hT7.next bA8
      have HT9:Hid (∀ w9,(W8.alloc (.cells #[.int .i64 (dV:Int)] 3)).grownBy w9 (Value.slice pd k cd).ownBlock → Blk w9 w.heap.size 60 [.slice (some ⟨g7,0,none⟩) (k + 1) c7,.slice pd k cd]):=fun w9 hg => hT9.blk.kept hg (fun e => row_blk (e:=3) (t:=60) (by decide) hT9.dep hT9.blk e.symm)
      clear HS HK qN qL q0 hD8 d7 e7
      go_upto_region 6 with (at_builtin;refine wpList_append_own _ rfl _ _ 58 rfl w.heap.size 3 j0 (.int .i64 0) 1 8 Tryz.underlying58 hj hx0 hx1 hx2 rfl (by decide) (.slice pd k cd) _ _ rfl (HD8.out _) ⟨W8.heap.size,0,none⟩ 1 1 [.int .i64 (dV:Int)] rfl rfl (cells_plain _ [_] _) H2 (by unfold maxLen;omega) (by omega) hs9 ?_;intro v9 w9 hown9 hgrow9 hnil9;obtain ⟨g9,c9,rfl⟩:=shape_of hown9;obtain ⟨⟨_,y9⟩,_,f9⟩:=blk2 (HT9.out w9 hgrow9))
      have hT10:=hT7.pushD (w7:=w9) (d:=(dV:Int)) bA8 (by rw [hdl];exact hown9) hgrow9
      have b9:=(below_next b8 bA8).grown hgrow9 hs9 (fun r e => (owns_lt (HD8.out (.cells #[.int .i64 (dV:Int)] 3)) e).1)
      have b10:=below_grew b9 (grown_set w9 w.heap.size 1 (.slice (some ⟨g9,0,none⟩) (k + 1) c9)) b9.size (Nat.le_refl _)
      obtain ⟨es',hadd,hTl'⟩:=HFlat.out (by omega) ⟨lowN ⟨parent,tag,id,cls,ats⟩,cv',av'⟩ rfl
      have hl':=addV_length hadd
      have hO':=addV_ok HOk.out hadd
      have HF5:=HF3.out
      rw [hadd] at HF5
      have HF6:Hid (_ = _):=HF5
      clear HF5 HF3 hadd HFlat HOk hT7 hT9 HT9 HD8 hown9 hgrow9 hnil9 b9 b8 bA8 y9 f9 c0 c1 f0 f1
      go_wp2
      exact ⟨⟨k + 1,es',_,_,_,_,by go_num,by omega,by omega,hT10,hTl',hO',HF6,b10⟩,by simp [intOf];omega⟩
    ·have hadd:addV es n = .error 10:=by
      unfold addV
      by_cases hk0:k = 0
      ·rw [if_pos (by omega),if_neg (fun h => hgood (.inl ⟨hk0,h⟩))]
      ·rw [if_neg (by omega),if_neg (fun h => hgood (.inr ⟨by omega,h.1,by omega⟩))]
     have HF4:Hid (newV (l.map Nv.nd) = .error 10):=by
      show _ = _
      have:=HF3.out
      rw [hadd] at this
      rw [HV.out,this]
     clear hadd HF3 hOk hTl hTr hml
     generalize n.parent = pp at *
     by_cases hk0:k = 0
     ·subst hk0
      have hp:(pp != -1) = true:=by simpa using (fun h => hgood (.inl ⟨rfl,h⟩))
      simp only [Nat.zero_mul,Nat.add_zero] at x0
      clear hgood
      go_wp2
      go_ret2
      exact ⟨.inr ⟨10,HF4.out,rfl⟩,hbw⟩
     ·have hk0':((k:Int) == 0) = false:=by simpa using hk0
      have hkp:(0:Int) < (k:Int):=by omega
      by_cases hneg:pp < 0
      ·clear hgood
       go_wp2
       go_ret2
       exact ⟨.inr ⟨10,HF4.out,rfl⟩,hbw⟩
      ·have hge:(k:Int) ≤ pp:=by
        have:=fun h => hgood (.inr h)
        omega
       have hn1:decide (pp < 0) = false:=decide_eq_false hneg
       clear hgood
       go_wp2
       go_ret2
       exact ⟨.inr ⟨10,HF4.out,rfl⟩,hbw⟩
   ·have hki:¬ (k:Int) < (l.length:Int):=by omega
    obtain rfl:k = l.length:=by omega
    have HF5:Hid (newV (l.map Nv.nd) = .ok es):=by
     show _ = _
     rw [HV.out,HF.out,List.drop_eq_nil_iff.2 (by rw [hml];exact Nat.le_refl _)]
     rfl
    clear HF hOk hel hml
    go_wp2
    go_ret2
    exact ⟨.inl ⟨w.heap.size,nv,dv,ns,ds,es,HF5.out,rfl,hTr,hTl⟩,hbw⟩
end Go.Proofs.YtagbjmocjaaioaaGreatDoor.Dm

/- The document's own tree: is, Parent, Depth, Node. -/
namespace Go.Proofs.YtagbjmocjaaioaaGreatDoor.Dm
open Go Go.RowKit
theorem Tells.at {es:List El} {ns:List Nv} {ds:List Int} (h:Tells es ns ds) {k:Nat} {n:Nv} (hn:ns[k]? = some n):∃ q,es[k]? = some q ∧ q.nd = n.nd ∧ ds[k]? = some (q.depth:Int):=by
 have h1:(ns.map Nv.nd)[k]? = some n.nd:=by rw [List.getElem?_map,hn];rfl
 rw [h.nds,List.getElem?_map] at h1
 obtain ⟨q,hq,hqn⟩:=Option.map_eq_some_iff.1 h1
 exact ⟨q,hq,hqn,by rw [h.dep];unfold depI;rw [List.getElem?_map,hq];rfl⟩
theorem RTr.get {b:Nat} {W:World} {tb:Nat} {nv dv:Value} {ns:List Nv} {ds:List Int} (h:RTr b W tb nv dv ns ds) {k:Nat} {n:Nv} (hn:ns[k]? = some n) :
  ∃ g c,nv = .slice (some ⟨g,0,none⟩) ns.length c ∧ ns.length ≤ c ∧ c ≤ maxLen ∧ W.cell? ⟨g,k * 5,none⟩ = some (.int .i64 n.nd.parent) ∧ W.cell? ⟨g,k * 5 + 1,none⟩ = some (.string n.nd.tag) ∧ W.cell? ⟨g,k * 5 + 2,none⟩ = some (.string n.nd.id) ∧ W.cell? ⟨g,k * 5 + 3,none⟩ = some n.cv ∧ W.cell? ⟨g,k * 5 + 4,none⟩ = some n.av:=by
 have hk:k < ns.length:=(List.getElem?_eq_some_iff.1 hn).1
 rcases h.row.2 with ⟨rfl,h0⟩ | ⟨g,c,cur,hv,_,_,h1,h2,_⟩
 ·omega
 ·subst hv
  have hc:∀ i u,(nvCells n)[i]? = some u → W.cell? ⟨g,k * 5 + i,none⟩ = some u:=fun i u hu => by
   have hi:i < 5:=(List.getElem?_eq_some_iff.1 hu).1
   rw [h.row.cellAt _ (by omega),flat_at (f:=nvCells) (fun _ => rfl) ns k n hn i hi]
   exact hu
  exact ⟨g,c,rfl,h1,h2,hc 0 _ rfl,hc 1 _ rfl,hc 2 _ rfl,hc 3 _ rfl,hc 4 _ rfl⟩
theorem RTr.getD {b:Nat} {W:World} {tb:Nat} {nv dv:Value} {ns:List Nv} {ds:List Int} (h:RTr b W tb nv dv ns ds) {k:Nat} {d:Int} (hn:ds[k]? = some d) :
  ∃ g c,dv = .slice (some ⟨g,0,none⟩) ds.length c ∧ ds.length ≤ c ∧ c ≤ maxLen ∧ W.cell? ⟨g,k,none⟩ = some (.int .i64 d):=by
 have hk:k < ds.length:=(List.getElem?_eq_some_iff.1 hn).1
 have hr:=h.dep
 unfold IntRow at hr
 rcases hr.2 with ⟨rfl,h0⟩ | ⟨g,c,cur,hv,_,_,h1,h2,_⟩
 ·omega
 ·subst hv
  exact ⟨g,c,rfl,h1,h2,by rw [hr.cellAt _ (by omega),List.getElem?_map,hn];rfl⟩
end Go.Proofs.YtagbjmocjaaioaaGreatDoor.Dm

/- The document's own tree, as matching reads it; last. -/
namespace Go.Proofs.YtagbjmocjaaioaaGreatDoor.Rf
open Go Go.RowKit Dm
structure TE where
 b:Nat
 tb:Nat
 nv:Value
 dv:Value
 ns:List Nv
 ds:List Int
 es:List El
abbrev TE.p (T:TE):Value:=.pointer (some ⟨T.tb,0,none⟩)
end Go.Proofs.YtagbjmocjaaioaaGreatDoor.Rf

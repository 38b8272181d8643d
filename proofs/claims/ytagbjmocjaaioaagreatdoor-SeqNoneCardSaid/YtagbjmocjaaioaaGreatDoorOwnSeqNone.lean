/- For every slice of nodes: the law tapestrierlaw17.SeqNone returns true and leaves its argument as it was; no condition (its card: the tables that the readers of sheets lean on, read off the program's text). -/
import Derived.Test.YtagbjmocjaaioaaGreatDoorSqZero
import Derived.Test.YtagbjmocjaaioaaGreatDoorSqLaid
import Derived.Test.YtagbjmocjaaioaaGreatDoorTkLaid
set_option maxRecDepth 100000
namespace Go.Proofs.YtagbjmocjaaioaaGreatDoor
open Go Go.ChangeShapes Go.WideShapes Go.ChangeAt Go.RowKit Sq Cs
open Dm (Nv NdOk NodesAt)
set_option maxHeartbeats 2000000 in
theorem seqNone_walk (w:World) (hT:AllTabs w) (v:Value) (l:List Nv) (hv:NodesAt w.heap.size w v l) (hN:∀ n ∈ l,NdOk n.nd) :
  Calls Tryz.prog 7 #[v] w fun e w' => e = .returned (.bool true) ∧ Below w.heap.size w w':=by
 have h0:=live_any w hT.1 hT.2.1 hT.2.2.1 hT.2.2.2
 obtain ⟨p,cap,rfl⟩:=hv.row.len
 have HV:Hid (AllTabs w ∧ NodesAt w.heap.size w (.slice p l.length cap) l ∧ ∀ n ∈ l,NdOk n.nd):=⟨hT,hv,hN⟩
 clear hT hv hN
 go_enter Tryz.func7,Tryz.ntmps7
 go_wp2_with fail
 refine h0.mono ?_
 clear h0
 rintro e w1 ⟨rfl,b1⟩
 have h2:=both_any _ l w1 (HV.out.1.2.2.2.next b1) (HV.out.2.1.next b1) HV.out.2.2
 go_wp2_with fail
 refine h2.mono ?_
 clear h2
 rintro e w2 ⟨hb,b2⟩
 have b02:=below_next b1 b2
 rcases hb with rfl | ⟨tb,rb,gr,nv,dv,ns,ds,es,rfl,HG⟩
 ·go_wp2
  go_ret
  exact ⟨rfl,b02⟩
 ·obtain ⟨hG,_,_,hel,hl40,_,_⟩:=HG.out
  obtain ⟨⟨b,g,cp,qs,hTr,he⟩,hO,hlen,_,_,_⟩:=hG
  have h3:=run_any tb es (fun _ _ => false) none 0 [] w2 b g cp qs hTr he hO (.inl ⟨rfl,none,0,rfl⟩) (fun x hx => by cases hx) (by simp) ((HV.out.1.2.2.1.next b02).2) hlen
  have HL:Hid (es.length = l.length ∧ l.length ≤ 40):=⟨hel,hl40⟩
  have HB:Hid (Below w.heap.size w w2):=b02
  clear hTr he hO hlen HG hel hl40 b1 b2 b02
  simp only [List.length_nil] at h3
  go_wp2_with fail
  refine h3.mono ?_
  clear h3
  rintro e w3 ⟨sv,rfl,hS,b3⟩
  have hlike:=runV_like es (fun _ _ => false)
  have hlen:=runV_len es (fun i => winV (candsV ((fun _ _ => false:Int → Tre.Sel → Bool) (i:Int)) (([]:List Rv).map (·.r))))
  obtain ⟨R,hR⟩:∃ R,R = runV es (fun i => winV (candsV ((fun _ _ => false:Int → Tre.Sel → Bool) (i:Int)) (([]:List Rv).map (·.r)))):=⟨_,rfl⟩
  rw [← hR] at hS hlike hlen
  clear hR
  obtain ⟨q,c,rfl⟩:=Sl.owns_form hS
  have HROW:Hid (∀ X,Below w3.heap.size w3 X → ∀ k,k < R.length → ∃ g,q = some ⟨g,0,none⟩ ∧ R.length ≤ c ∧ c ≤ maxLen ∧ Cp.SrcAt X g (k * 8) Cp.rootV):=fun X hX k hk => by
   obtain ⟨g,c',e,h1,h2,_,h4,h5⟩:=sty_row hS (List.getElem?_eq_getElem hk)
   cases e
   refine ⟨g,rfl,h1,h2,fun i hi => ?_⟩
   rw [(hX.cell (p:=⟨g,k * 8 + i,none⟩) h4),h5 i hi,hlike _ (List.getElem_mem hk) i hi]
  have hRl:R.length = l.length:=hlen.trans HL.out.1
  have hR40:R.length ≤ 40:=by rw [hRl];exact HL.out.2
  have b03:=below_next HB.out b3
  have HB3:Hid (Below w.heap.size w w3):=b03
  have HRL:Hid (R.length = l.length):=hRl
  generalize R.length = n at *
  clear hS hlike hlen hRl b3 b03
  go_wp2
  go_loopw [8] (fun x wr => ∃ (k:Nat),x = .int .i64 k ∧ k ≤ n ∧ Below w3.heap.size w3 wr) (fun x _ => n - (intOf x).toNat)
  case atStart => exact ⟨0,rfl,Nat.zero_le _,Below.refl _ _⟩
  case round =>
   obtain ⟨k,rfl,hk,bw⟩:=hrel
   have B0:=below_next HB3.out bw
   by_cases hkn:k < n
   ·have hki:(k:Int) < (n:Int):=by omega
    have q0:Below wr.heap.size wr wr.drew:=below_drew (Below.refl _ _)
    obtain ⟨g,rfl,g1,g2,hs⟩:=HROW.out _ (below_next bw q0) k hkn
    have hro:=Cp.root_any wr.drew (((HV.out.1.2.2.1.next HB3.out).next bw).next q0).2
    have hkn40:(k:Int) + 1 ≤ 41:=by omega
    unfold maxLen at g2
    have HeldS:Cp.SrcAt wr.drew g (k * 8) Cp.rootV:=hs
    have HSR:Hid (Cp.SrcAt wr.drew g (k * 8) Cp.rootV ∧ Below w3.heap.size w3 wr ∧ Below w.heap.size w wr):=⟨hs,bw,B0⟩
    clear bw B0 q0
    go_upto_region 9 with fail
    refine Rg.wpD_begin [0,1,2,3,4] (fun X => Cp.SrcAt X g (k * 8) Cp.rootV) (by kernel_rfl) ?_
    refine Rg.ld 0 HeldS ?_
    simp only [Act.put,Rg.sA,Rg.sB,Rg.sC]
    refine Rg.ld 1 HeldS ?_
    simp only [Act.put,Rg.sA,Rg.sB,Rg.sC]
    refine Rg.ld 2 HeldS ?_
    simp only [Act.put,Rg.sA,Rg.sB,Rg.sC]
    refine Rg.wpD_load 3 (v:=?_) (by simp only [List.getElem?_toArray,List.getElem?_cons_succ,List.getElem?_cons_zero];rfl) (by kernel_rfl) (by kernel_rfl) (by intro _ _ _ h;exact h) HeldS (by rfl) (fun wz hz => ?_) ?_
    rotate_left
    ·have hcv:=src8 hz
     first | (go_simp;done) | (go_simp;with_reducible rfl)
    simp only [Act.put,Rg.sA,Rg.sB,Rg.sC]
    clear HeldS
    refine Rg.dd 4 fun K hK => ?_
    go_simp
    refine Calls.mono hro ?_
    clear hro
    rintro e w5 ⟨rfl,b5⟩
    have hlt5:∀ i,i < 8 → w5.cell? ⟨g,k * 8 + i,none⟩ = wr.drew.cell? ⟨g,k * 8 + i,none⟩:=fun i hi => b5.cell (World.block_lt_of_cell? _ _ (HSR.out.1 i hi))
    have HS5:Hid (Cp.SrcAt w5 g (k * 8) Cp.rootV ∧ Below wr.drew.heap.size wr.drew w5):=⟨fun i hi => (hlt5 i hi).trans (HSR.out.1 i hi),b5⟩
    refine hK _ _ (fun _ => HS5.out.1) ?_
    clear hK K b5 hlt5
    have hq:=eq_sty Cp.rootV
    refine Rg.pu 5 ?_
    simp only [Act.put,Rg.sA,Rg.sB,Rg.sC]
    refine Rg.wpD_done (by kernel_rfl) ?_
    have bq:Below wr.heap.size wr w5:=(below_drew (Below.refl _ _)).trans HS5.out.2
    have bq3:=below_next HSR.out.2.1 bq
    clear hq
    go_wp2
    exact ⟨⟨k + 1,by go_num,by omega,bq3⟩,by simp [intOf];omega⟩
   ·obtain rfl:k = n:=by omega
    have hki:¬ ((k:Int) < (k:Int)):=by omega
    have hnl:(k:Int) = (l.length:Int):=by rw [← HRL.out]
    go_wp2
    go_ret
    exact ⟨rfl,B0⟩
theorem seqNone_met (os:Os):laidMet Tryz.prog Rows.seqNoneRow.laid ((laidAll (World.holding Tryz.prog os ⟨#[],#[],[]⟩)).forCall (fun _ _ => 0) ⟨#[],#[.slice none 0 0],[]⟩).memory:=
 laidMet_of_run' 8 (by kernel_rfl) (by kernel_rfl)
theorem seqNone_reads (os:Os) {H:Type} (enc:TypeId × Value → H):∃ places,DataW.whole enc Tryz.prog ((laidAll (World.holding Tryz.prog os ⟨#[],#[],[]⟩)).forCall (fun _ _ => 0) ⟨#[],#[.slice none 0 0],[]⟩).memory Tryz.f7.params.toList Rows.seqNoneSpec.vars false (#[.slice none 0 0]:Array Value).toList 8 = some ([.nil],[],places):=
 ⟨[],by kernel_rfl⟩
theorem seqNone_lifted (os:Os) (started:os.Started) (H:Type) (enc:TypeId × Value → H) (F:Stop.Interp) :
  ReturnsInHanded {} Tryz.checked os 7 .any ((OpenSpec.ofChange Rows.seqNoneSpec).preRow enc Tryz.prog Tryz.f7 Rows.seqNoneRow.domain false Rows.seqNoneRow.laid) (((OpenSpec.ofChange Rows.seqNoneSpec).at F).post enc Tryz.prog Tryz.f7 false true false false):=by
 obtain ⟨places,hx⟩:=seqNone_reads os enc
 refine returnsInHanded_of_row (C:=Tryz.checked) (s:=OpenSpec.ofChange Rows.seqNoneSpec) ownNone started (by kernel_rfl) Tryz.func7
  (witness_row_at (enc:=enc) (C:=Tryz.checked) false (laidAll (World.holding Tryz.prog os ⟨#[],#[],[]⟩)) #[.slice none 0 0] rfl (by kernel_rfl) (by kernel_rfl) (by kernel_rfl)
   (OpenSpec.preRow_of_cond 8 hx (by kernel_rfl) (fun k hk => by cases hk) (by kernel_rfl) (seqNone_met os))) ?_
 intro W base args ds gs before hval hW _ _ hsz0 hL hS _
 have hW':=hW
 obtain ⟨p,q,hA0,hV,rfl,hfz,hnd⟩:=hW
 have hA:DataW.TrodAll enc Tryz.prog W 0 (fun _ => true) true Tryz.f7.params.toList args.toList ds p:=hA0
 rw [Tryz.params7] at hA hval hsz0
 obtain ⟨v0,vs0,d0,ds0,p0,q0,hargs,rfl,rfl,h0,r0⟩:=trodAll_cons hA
 obtain ⟨rfl,rfl,rfl⟩:=trodAll_nil r0
 obtain rfl:args = #[v0]:=by cases args;simp_all
 obtain ⟨rfl,rfl⟩:=trodVars_none hV
 have hsz:=List.all_eq_true.1 hsz0
 obtain ⟨a0,len0,cap0,rfl⟩:=okWide_slice Tryz.underlying23 (hval 0 23 v0 rfl rfl)
 have k0:=h0
 have lt0:∀ x ∈ p0,x.block < W.heap.size:=by obtain ⟨m,hm⟩:=k0;exact DataW.trod_lt m _ _ _ hm
 obtain ⟨z0,w0,y0,u0⟩:=Dm.nodesAt_of_reads k0 (fun n hn => by simpa using hsz n (DataW.weights_mem_each (j:=0) rfl rfl n hn))
 clear hA0
 refine (seqNone_walk W (tabs_of_laidA hL hS) _ z0 w0 y0).mono fun e W' ⟨he,bel⟩ => ?_
 subst he
 exact ⟨_,rfl,_,_,_,[],_,[],hW',trodAll_mk1 (shut_bool Tryz.underlying4 _),(trodAll_cons_mk (Below.trod laidOut (by kernel_rfl) (of_decide_eq_true (by kernel_rfl)) k0 bel lt0) trodAll_mk0),rfl,bel.frame _,fun h => by cases h⟩
theorem and_yes {a b:Bool} (ha:a = true) (hb:b = true):(a && b) = true:=by rw [ha,hb];rfl
set_option maxHeartbeats 2000000 in
theorem seqNone_closed:joinedFacts Tryz.pinned.checked.prog 7 Tryz.f7 (OpenSpec.ofChange Rows.seqNoneSpec).bare Rows.seqNoneRow = true:=by
 unfold joinedFacts
 repeat' (with_reducible apply and_yes)
 all_goals (as_aux_lemma => kernel_rfl)
set_option maxHeartbeats 2000000 in
theorem seqNone_said:Rows.SeqNoneSaid:=
 OpenClaim.holds_of_cond 7 Tryz.f7 rfl rfl rfl rfl rfl rfl rfl ⟨rfl,rfl,rfl,rfl,rfl⟩ rfl rfl rfl rfl rfl (by kernel_rfl) Tryz.func7 seqNone_closed
  (of_decide_eq_true (by kernel_rfl)) (by unfold Func.isWrapper;first | (rw [if_pos (by decide +kernel)];kernel_rfl) | (rw [if_neg (by decide +kernel)];exact ⟨rfl,rfl⟩))
  (fun os started H enc _ F => by rw [OpenClaim.pre_eq_preRow];exact seqNone_lifted os started H enc F)
theorem seqNone_plain (f:FuncId) (fn:Func) (hf:Tryz.pinned.checked.prog.funcNamed "tapestrier/tapestrierlaw17.SeqNone" = some f) (hfn:Tryz.pinned.checked.prog.funcs[f]? = some fn) :
  false = Tryz.pinned.checked.prog.looks [] ∧ ∀ (j:Nat) t,fn.params[j]? = some t → Tryz.pinned.checked.prog.wantsStandIn t = false:=by
 obtain rfl:f = 7:=Option.some.inj ((show Tryz.prog.funcNamed "tapestrier/tapestrierlaw17.SeqNone" = some 7 by kernel_rfl).symm.trans hf) |>.symm
 obtain rfl:fn = Tryz.f7:=(Option.some.inj (Tryz.func7.symm.trans hfn)).symm
 refine ⟨by kernel_rfl,fun j t ht => ?_⟩
 rw [Tryz.params7] at ht
 have hm:t ∈ [23]:=by simpa using Array.mem_of_getElem? ht
 have hall:([23].all fun u => !Tryz.prog.wantsStandIn u) = true:=by kernel_rfl
 exact (show Tryz.prog.wantsStandIn t = false by simpa using List.all_eq_true.1 hall t hm)
theorem seqNone_card:Rows.SeqNoneCardSaid:=
 Claim7.holds_tied_plain_at .later [] _ _ _ _ seqNone_said (fun _ h => by cases h) (by kernel_rfl) (fun _ h => by cases h) seqNone_row_tie rfl ⟨rfl,rfl⟩ (by kernel_rfl) rfl seqNone_plain (by kernel_rfl)
#print axioms seqNone_card
end Go.Proofs.YtagbjmocjaaioaaGreatDoor

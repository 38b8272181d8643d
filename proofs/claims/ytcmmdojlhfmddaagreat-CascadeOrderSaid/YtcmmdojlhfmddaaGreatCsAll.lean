/- package cascade: write. -/
import Derived.Test.YtcmmdojlhfmddaaGreatCsSeq
import Derived.Test.YtcmmdojlhfmddaaGreatShelf
import Derived.Test.YtcmmdojlhfmddaaGreatShelfI
import Derived.LoopNIn
import Derived.Laws.Tables
import Derived.Sort.CutIn
set_option maxRecDepth 100000
namespace Go.Proofs.YtcmmdojlhfmddaaGreat.Cs
open Go.Proofs.YtcmmdojlhfmddaaGreat.Tre
open Go Go.RowKit Sl Mt Wg
abbrev winL (o:Nat → Int × Int):List Value:=[.int .i64 (o 0).1,.int .i64 (o 0).2,.int .i64 (o 1).1,.int .i64 (o 1).2,.int .i64 (o 2).1,.int .i64 (o 2).2,.int .i64 (o 3).1,.int .i64 (o 3).2,.int .i64 (o 4).1,.int .i64 (o 4).2,.int .i64 (o 5).1,.int .i64 (o 5).2,.int .i64 (o 6).1,.int .i64 (o 6).2,.int .i64 (o 7).1,.int .i64 (o 7).2]
def WinAt (W:World) (B:Nat) (o:Nat → Int × Int):Prop:=W.heap[B]? = some (.cells (winL o).toArray 42 (0,0))
theorem WinAt.lt {W:World} {B:Nat} {o:Nat → Int × Int} (h:WinAt W B o):B < W.heap.size:=(Array.getElem?_eq_some_iff.1 h).1
theorem WinAt.same {W X:World} {B:Nat} {o:Nat → Int × Int} (h:WinAt W B o) (e:X.heap[B]? = W.heap[B]?):WinAt X B o:=e.trans h
theorem WinAt.next {W X:World} {B:Nat} {o:Nat → Int × Int} (h:WinAt W B o) (hb:Below W.heap.size W X):WinAt X B o:=h.same (hb.block B h.lt)
theorem WinAt.new (w:World) (o:Nat → Int × Int):WinAt (w.alloc (.cells (winL o).toArray 42)) w.heap.size o:=World.alloc_heap_new w _
theorem WinAt.thaw {W:World} {B:Nat} {o:Nat → Int × Int} (h:WinAt W B o) (i:Nat):W.frozen? ⟨B,i,none⟩ = false:=by simp [World.frozen?,show W.heap[B]? = _ from h]
theorem WinAt.ext {W:World} {B:Nat} {o o':Nat → Int × Int} (h:WinAt W B o) (e:∀ i,i < 8 → o' i = o i):WinAt W B o':=by
 have:winL o' = winL o:=by simp only [winL,e 0 (by decide),e 1 (by decide),e 2 (by decide),e 3 (by decide),e 4 (by decide),e 5 (by decide),e 6 (by decide),e 7 (by decide)]
 unfold WinAt
 rw [this]
 exact h
theorem WinAt.cell {W:World} {B:Nat} {o:Nat → Int × Int} (h:WinAt W B o) {p:Nat} (hp:p < 8):W.cell? ⟨B,p * 2,none⟩ = some (.int .i64 (o p).1) ∧ W.cell? ⟨B,p * 2 + 1,none⟩ = some (.int .i64 (o p).2):=by
 obtain rfl | rfl | rfl | rfl | rfl | rfl | rfl | rfl:p = 0 ∨ p = 1 ∨ p = 2 ∨ p = 3 ∨ p = 4 ∨ p = 5 ∨ p = 6 ∨ p = 7:=by omega
 all_goals exact ⟨by simp [World.cell?,show W.heap[B]? = _ from h],by simp [World.cell?,show W.heap[B]? = _ from h]⟩
theorem WinAt.put2 {W:World} {B:Nat} {o:Nat → Int × Int} (h:WinAt W B o) {p:Nat} (hp:p < 8) (x y:Int):WinAt ((W.setCell ⟨B,p * 2,none⟩ (.int .i64 x)).setCell ⟨B,p * 2 + 1,none⟩ (.int .i64 y)) B (fun i => if i = p then (x,y) else o i):=by
 have hb:B < W.heap.size:=h.lt
 have hx:W.heap[B] = .cells (winL o).toArray 42 (0,0):=(Array.getElem?_eq_some_iff.1 h).2
 unfold WinAt
 simp only [World.setCell,Array.getElem?_modify,Array.getElem?_eq_getElem hb,hx,Option.map_some]
 congr 2
 obtain rfl | rfl | rfl | rfl | rfl | rfl | rfl | rfl:p = 0 ∨ p = 1 ∨ p = 2 ∨ p = 3 ∨ p = 4 ∨ p = 5 ∨ p = 6 ∨ p = 7:=by omega
 all_goals rfl
theorem WinAt.after {W:World} {B:Nat} {o:Nat → Int × Int} (h:WinAt W B o) {p:Nat} (hp:p < 8) (v:Value):(W.setCell ⟨B,p * 2,none⟩ v).cell? ⟨B,p * 2 + 1,none⟩ = some (.int .i64 (o p).2) ∧ (W.setCell ⟨B,p * 2,none⟩ v).frozen? ⟨B,p * 2 + 1,none⟩ = false:=by
 have hb:B < W.heap.size:=h.lt
 have hx:W.heap[B] = .cells (winL o).toArray 42 (0,0):=(Array.getElem?_eq_some_iff.1 h).2
 unfold World.cell? World.frozen?
 simp only [World.setCell,Array.getElem?_modify,Array.getElem?_eq_getElem hb,hx,Option.map_some]
 obtain rfl | rfl | rfl | rfl | rfl | rfl | rfl | rfl:p = 0 ∨ p = 1 ∨ p = 2 ∨ p = 3 ∨ p = 4 ∨ p = 5 ∨ p = 6 ∨ p = 7:=by omega
 all_goals simp
theorem isProp_any (p:Int) (w:World):Calls Tryz.prog 61 #[.int .i64 p] w fun e w' => e = .returned (.bool (decide (0 ≤ p ∧ p < 8))) ∧ w' = w:=by
 by_cases h0:0 ≤ p
 ·by_cases h8:p < 8
  ·have h1:decide (0 ≤ p) = true:=decide_eq_true h0
   have h2:decide (p < 8) = true:=decide_eq_true h8
   have h3:decide (0 ≤ p ∧ p < 8) = true:=decide_eq_true ⟨h0,h8⟩
   rw [h3]
   go_enter Tryz.func61,Tryz.ntmps61
   go_wp2
   go_ret
   exact ⟨rfl,rfl⟩
  ·have h1:decide (0 ≤ p) = true:=decide_eq_true h0
   have h2:decide (p < 8) = false:=decide_eq_false h8
   have h3:decide (0 ≤ p ∧ p < 8) = false:=decide_eq_false (fun h => h8 h.2)
   rw [h3]
   go_enter Tryz.func61,Tryz.ntmps61
   go_wp2
   go_ret
   exact ⟨rfl,rfl⟩
 ·have h1:decide (0 ≤ p) = false:=decide_eq_false h0
  have h3:decide (0 ≤ p ∧ p < 8) = false:=decide_eq_false (fun h => h0 h.1)
  rw [h3]
  go_enter Tryz.func61,Tryz.ntmps61
  go_wp2
  go_ret
  exact ⟨rfl,rfl⟩
theorem takeP {b:Bool} {o:Nat → Int × Int} {l:List St} {k:Nat} {s:St} (h:l[k]? = some s):(l.take (k + 1)).foldl (putS b) o = putS b ((l.take k).foldl (putS b) o) s:=by
 rw [List.take_add_one,h]
 simp [List.foldl_append]
theorem Fr.set2 {D D':Nat → Prop} {X Y:World} (h:Fr D D' X Y) {B:Nat} (hB:D B) (i j:Nat) (v v':Value):Fr D D' X ((Y.setCell ⟨B,i,none⟩ v).setCell ⟨B,j,none⟩ v'):=
 (h.set v (.inl hB) (grown_set Y B i v)).set v' (.inl hB) (grown_set _ B j v')
set_option maxHeartbeats 1000000 in
theorem write_any (O nb:Nat) (p:Option Addr) (c:Nat) (l:List St) (b:Bool) (o:Nat → Int × Int) (W:World) (hO:WinAt W O o) (hnb:nb ≤ O) (hl:StsT nb W (.slice p l.length c) l) :
  Calls Tryz.prog 35 #[.pointer (some ⟨O,0,none⟩),.slice p l.length c,.bool b] W fun e W' => e = .returned (.tuple #[]) ∧ WinAt W' O (l.foldl (putS b) o) ∧ Fr (fun r => r = O) (fun r => r = O) W W':=by
 have hsh:l.length ≤ 9223372036854775807:=by have:=RowT.short hl;unfold maxLen at this;omega
 have HL:Hid (StsT nb W (.slice p l.length c) l):=hl
 have hOl:=hO.lt
 clear hl
 go_enter Tryz.func35,Tryz.ntmps35
 go_wp2
 go_loopw [10] (fun x wr => ∃ (k:Nat),x = .int .i64 k ∧ k ≤ l.length ∧ Hid (WinAt wr O ((l.take k).foldl (putS b) o)) ∧ Hid (Fr (fun r => r = O) (fun r => r = O) W wr)) (fun x _ => l.length - (RowKit.intOf x).toNat)
 case atStart => exact ⟨0,rfl,Nat.zero_le _,hO,Fr.refl (fun r e => by omega)⟩
 case round =>
  obtain ⟨k,rfl,hk,HW,HF⟩:=hrel
  by_cases hkl:k < l.length
  ·obtain ⟨s,hx⟩:∃ x,l[k]? = some x:=⟨_,List.getElem?_eq_getElem hkl⟩
   obtain ⟨bk,off,cs,hq,hbn,hc1,hc2,_,hT,hcell⟩:=RowT.get HL.out hx
   subst hq
   unfold StC at hT
   subst hT
   unfold maxLen at hc2
   have hki:(k:Int) < (l.length:Int):=by omega
   have keep:∀ i u,[Value.int .i64 s.prop,.int .i64 s.kind,.int .i64 s.n,.bool s.imp][i]? = some u → wr.cell? ⟨bk,off + k * 4 + i,none⟩ = some u:=fun i u hu => HF.out.keep (fun e => by simp at e;omega) (hcell i u hu)
   have x0:=keep 0 _ rfl
   have x1:=keep 1 _ rfl
   have x2:=keep 2 _ rfl
   have x3:=keep 3 _ rfl
   simp only [Nat.add_zero] at x0
   have HT:Hid (_ = _):=takeP (b:=b) (o:=o) hx
   clear hcell keep hx
   have HA:∀ cs:List Value,Hid (WinAt (wr.alloc (.cells cs.toArray 25)) O ((l.take k).foldl (putS b) o) ∧ Fr (fun r => r = O) (fun r => r = O) W (wr.alloc (.cells cs.toArray 25))):=fun cs =>
    ⟨HW.out.next ((Below.refl _ _).alloc (Nat.le_refl _) _),HF.out.alloc _⟩
   have HA1:=HA [.int .i64 s.prop,.int .i64 s.kind,.int .i64 s.n,.bool s.imp]
   clear HA
   by_cases hi:s.imp = b
   ·have e1:(s.imp == b) = true:=by simpa using hi
    have hp:=isProp_any s.prop (wr.alloc (.cells #[.int .i64 s.prop,.int .i64 s.kind,.int .i64 s.n,.bool s.imp] 25))
    by_cases hpr:0 ≤ s.prop ∧ s.prop < 8
    ·have e2:decide (0 ≤ s.prop ∧ s.prop < 8) = true:=decide_eq_true hpr
     rw [e2] at hp
     obtain ⟨P,hP⟩:∃ P:Nat,s.prop = (P:Int):=⟨s.prop.toNat,by omega⟩
     have hP8:P < 8:=by omega
     have HN:Hid (putS b ((l.take k).foldl (putS b) o) s = fun i => if i = P then (s.kind,s.n) else (l.take k).foldl (putS b) o i):=by
      show _ = _
      unfold putS
      rw [if_pos ⟨hi,hpr⟩,hP]
      funext i
      by_cases h:i = P
      ·subst h;simp
      ·rw [if_neg h,if_neg (fun e => h (by omega))]
     rw [hP] at hp x0 HA1
     have i1:(P:Int) < 8:=by omega
     have i2:(0:Int) ≤ (P:Int):=by omega
     clear hpr hi hP
     go_wp2_with fail
     refine hp.mono ?_
     clear hp
     rintro e2 w2 ⟨rfl,rfl⟩
     go_upto_region 4 with fail
     obtain ⟨wa,hwa⟩:∃ wa,wr.alloc (.cells #[.int .i64 (P:Int),.int .i64 s.kind,.int .i64 s.n,.bool s.imp] 25) = wa:=⟨_,rfl⟩
     have hA:=(blk4 (Blk.new wr 25 [.int .i64 (P:Int),.int .i64 s.kind,.int .i64 s.n,.bool s.imp])).1
     have hlt:wr.heap.size < wa.heap.size:=by rw [← hwa];simp
     have HB:Hid (WinAt wa.drew O ((l.take k).foldl (putS b) o) ∧ Fr (fun r => r = O) (fun r => r = O) W wa.drew):=by
      rw [← hwa]
      exact ⟨HA1.out.1.next (below_drew (Below.refl _ _)),HA1.out.2.next (below_drew (Below.refl _ _))⟩
     have HeldS:wa.drew.cell? ⟨wr.heap.size,0,none⟩ = some (.int .i64 (P:Int)) ∧ wa.drew.cell? ⟨wr.heap.size,1,none⟩ = some (.int .i64 s.kind) ∧ wa.drew.cell? ⟨wr.heap.size,2,none⟩ = some (.int .i64 s.n):=by
      rw [← hwa]
      exact ⟨hA.1,hA.2.1,hA.2.2.1⟩
     have f0:=HB.out.1.thaw (P * 2)
     obtain ⟨c0,_⟩:=HB.out.1.cell hP8
     obtain ⟨c1,f1⟩:=HB.out.1.after hP8 (.int .i64 s.kind)
     replace c1:(wa.setCell ⟨O,P * 2,none⟩ (.int .i64 s.kind)).drew.cell? ⟨O,P * 2 + 1,none⟩ = some (.int .i64 ((l.take k).foldl (putS b) o P).2):=c1
     replace f1:(wa.setCell ⟨O,P * 2,none⟩ (.int .i64 s.kind)).drew.frozen? ⟨O,P * 2 + 1,none⟩ = false:=f1
     have FIN:Hid (_ ∧ _):=⟨HB.out.1.put2 hP8 s.kind s.n,Fr.set2 HB.out.2 (B:=O) rfl (P * 2) (P * 2 + 1) (.int .i64 s.kind) (.int .i64 s.n)⟩
     rw [hwa]
     clear hwa hA x0 x1 x2 x3 HA1
     refine Rg.wpD_begin [0,1,2,3,4,5,6] (fun Y => Y.cell? ⟨wr.heap.size,0,none⟩ = some (.int .i64 (P:Int)) ∧ Y.cell? ⟨wr.heap.size,1,none⟩ = some (.int .i64 s.kind) ∧ Y.cell? ⟨wr.heap.size,2,none⟩ = some (.int .i64 s.n)) (by kernel_rfl) ?_
     refine Rg.ld 0 HeldS ?_
     simp only [Act.put,Rg.sA,Rg.sB,Rg.sC]
     refine Rg.ld 1 HeldS ?_
     simp only [Act.put,Rg.sA,Rg.sB,Rg.sC]
     refine Rg.ld 2 HeldS ?_
     simp only [Act.put,Rg.sA,Rg.sB,Rg.sC]
     refine Rg.ld 3 HeldS ?_
     simp only [Act.put,Rg.sA,Rg.sB,Rg.sC]
     refine Rg.ld 4 HeldS ?_
     simp only [Act.put,Rg.sA,Rg.sB,Rg.sC]
     refine Rg.ld 5 HeldS ?_
     simp only [Act.put,Rg.sA,Rg.sB,Rg.sC]
     refine Rg.ld 6 HeldS ?_
     simp only [Act.put,Rg.sA,Rg.sB,Rg.sC]
     clear HeldS
     refine Rg.dd 7 fun K hK => ?_
     go_simp
     refine hK _ _ (fun h => absurd h (by decide)) ?_
     clear hK K
     refine Rg.wpD_done (by kernel_rfl) ?_
     go_wp2
     exact ⟨⟨k + 1,by go_num,by omega,(by rw [HT.out,HN.out];exact FIN.out.1),FIN.out.2⟩,by simp [RowKit.intOf];omega⟩
    ·have e2:decide (0 ≤ s.prop ∧ s.prop < 8) = false:=decide_eq_false hpr
     rw [e2] at hp
     have HN:Hid (putS b ((l.take k).foldl (putS b) o) s = (l.take k).foldl (putS b) o):=by
      show _ = _
      unfold putS
      exact if_neg (fun h => hpr h.2)
     have FIN:Hid (WinAt _ O ((l.take (k + 1)).foldl (putS b) o) ∧ _):=⟨by rw [HT.out,HN.out];exact HA1.out.1,HA1.out.2⟩
     clear hpr hi
     go_wp2_with fail
     refine hp.mono ?_
     clear hp
     rintro e2 w2 ⟨rfl,rfl⟩
     go_wp2
     exact ⟨⟨k + 1,by go_num,by omega,FIN.out.1,FIN.out.2⟩,by simp [RowKit.intOf];omega⟩
   ·have e1:(s.imp == b) = false:=by simpa using hi
    have HN:Hid (putS b ((l.take k).foldl (putS b) o) s = (l.take k).foldl (putS b) o):=by
     show _ = _
     unfold putS
     exact if_neg (fun h => hi h.1)
    have FIN:Hid (WinAt _ O ((l.take (k + 1)).foldl (putS b) o) ∧ _):=⟨by rw [HT.out,HN.out];exact HA1.out.1,HA1.out.2⟩
    go_wp2
    exact ⟨⟨k + 1,by go_num,by omega,FIN.out.1,FIN.out.2⟩,by simp [RowKit.intOf];omega⟩
  ·obtain rfl:k = l.length:=by omega
   have hki:¬ ((l.length:Int) < (l.length:Int)):=by omega
   have h9:=HW.out
   rw [List.take_length] at h9
   have H9:Hid (WinAt wr O (l.foldl (putS b) o)):=h9
   clear h9
   go_wp2
   go_end0
   exact ⟨rfl,H9.out,HF.out⟩
end Go.Proofs.YtcmmdojlhfmddaaGreat.Cs

/- package cascade: tiers.rising, an iterator told by footprints. -/
set_option maxRecDepth 100000
namespace Go.Proofs.YtcmmdojlhfmddaaGreat.Cs
open Go.Proofs.YtcmmdojlhfmddaaGreat.Tre
open Go Go.RowKit Sl Mt Wg
attribute [local go_sem] Oper.semAt_some
theorem sortsI (m:Nat):AnyZI.SortsIn Tryz.prog Tryz.sortedA_ren Fence.wide m:=
 ⟨fun blk off cap ss W hH hblk hsz => callsIn_wide.2 (Tryz.slices_Sort_int blk off cap ss W hH hblk hsz),
  fun p cap W => callsIn_wide.2 (Tryz.slices_Sort_int_none p cap W)⟩
theorem egKeys:∀ args w,(callFunc 80 args).run Tryz.prog w = .ok (.enter 80 args) w:=enters_of Tryz.func80 (by kernel_rfl) rfl
theorem egSort:∀ args w,(callFunc 79 args).run Tryz.prog w = .ok (.enter 79 args) w:=enters_of Tryz.func79 (by kernel_rfl) rfl
def keysOf (D:DataW Value):List Int:=(intKeys D).mergeSort (fun x y => decide (x ≤ y))
theorem keys_any (m:Option Nat) (w:World):Calls Tryz.prog 60 #[.map m] w fun e w' => e = .returned (.func (.func 80) #[] #[.pointer (some ⟨w.heap.size,0,none⟩)]) ∧ w' = w.alloc (.cells #[.map m] 89):=
 callsIn_wide.1 (AnyZI.keys_in Tryz.keysA Fence.wide 5 trivial rfl m w)
theorem sorted_any (B M cnt:Nat) (D:DataW Value) (w:World) (hB:B < w.heap.size) (hm:w.cell? ⟨B,0,none⟩ = some (.map (some M))) (hown:w.ownsMap Tryz.prog 3 heldS M cnt D) (hcnt:cnt ≤ 1099511627776) :
  Calls Tryz.prog 59 #[.func (.func 80) #[] #[.pointer (some ⟨B,0,none⟩)]] w fun e w' =>
   ∃ v,e = .returned v ∧ w'.ownsRow w.heap.size 3 1 v (keysOf D).length ((keysOf D).map (Value.int .i64)) ∧ Below w.heap.size w w':=by
 have hsz:=hown.size_le
 have hseq:SeqGives Fence.wide 2 Tryz.prog 80 #[.pointer (some ⟨B,0,none⟩)] encZ (fun ss => ss.Perm (intKeys D)) (Maps.size D) w:=
  AnyZI.keys_gives (ρ:=Tryz.keysA_ren) { Tryz.keysA with } Fence.wide _ trivial rfl (by omega) B M cnt D w hB hm hown
 have cS:=AnyZI.sorted_in Tryz.sortedA Fence.wide 5 trivial trivial trivial trivial rfl (by omega) (sortsI _) egSort 80 #[.pointer (some ⟨B,0,none⟩)] trivial egKeys _ (Maps.size D) (by unfold maxLen;omega) (by omega) w hseq
 refine (callsIn_wide.1 cS).mono ?_
 rintro e w' ⟨v,ss,rfl,hp,hr,_,hb⟩
 have e1:ss.mergeSort (fun x y => decide (x ≤ y)) = keysOf D:=mergeSort_of_perm_i hp
 have e2:ss.length = (keysOf D).length:=by
  unfold keysOf
  rw [List.length_mergeSort]
  exact hp.length_eq
 refine ⟨v,rfl,?_,hb⟩
 rw [e1,e2] at hr
 exact hr
theorem Tm.keys {n₀:Nat} {γ:Gn} {W:World} {M cnt:Nat} {F:Fn} (h:Tm n₀ γ W M cnt F):∃ (D:DataW Value) (ks:List Nat),W.ownsMap Tryz.prog 3 heldS M cnt D ∧ keysOf D = ks.map (fun k:Nat => (k:Int)) ∧ ks.Pairwise (· < ·) ∧ (∀ k ∈ ks,OkN k) ∧ ∀ k,OkN k → F k ≠ [] → k ∈ ks:=by
 obtain ⟨D,hD,hc,hx⟩:=h.d
 refine ⟨D,(keysOf D).map Int.toNat,hD,?_⟩
 obtain ⟨es,hDe,hpw,_⟩:=hD.entries intKeyed
 have hk:∀ p ∈ es,∃ x,p.1 = .int .i64 x:=fun p hp => by
  obtain ⟨es',e,h⟩:=hD.keysOf
  rw [hDe] at e
  cases e
  obtain ⟨v,hv⟩:=h p hp
  obtain ⟨x,_,hx,_⟩:=Maps.keyOf_i64 Tryz.underlying3 hv
  exact ⟨x,hx⟩
 have hmem:∀ x,x ∈ intKeys D ↔ Maps.has D (.int .i64 x) = true:=fun x => by
  rw [hDe,Maps.has_eq,List.any_eq_true]
  show x ∈ es.map (fun p => Go.intOf p.1) ↔ _
  rw [List.mem_map]
  constructor
  ·rintro ⟨p,hp',rfl⟩
   obtain ⟨a,ha⟩:=hk p hp'
   exact ⟨p,hp',by rw [ha];simp [Lit.sameKey,Go.intOf]⟩
  ·rintro ⟨p,hp',hs⟩
   obtain ⟨a,ha⟩:=hk p hp'
   rw [ha] at hs
   exact ⟨p,hp',by rw [ha];simpa [Lit.sameKey,Go.intOf] using hs⟩
 have hnd:(intKeys D).Nodup:=by
  rw [hDe]
  show (es.map fun p => Go.intOf p.1).Nodup
  refine List.pairwise_map.2 (hpw.imp_of_mem fun {p q} hp' hq' hne e => hne ?_)
  obtain ⟨a,ha⟩:=hk p hp'
  obtain ⟨b,hb⟩:=hk q hq'
  rw [ha,hb] at e ⊢
  exact congrArg _ e
 have hperm:(keysOf D).Perm (intKeys D):=List.mergeSort_perm _ _
 have hin:∀ x ∈ keysOf D,∃ k:Nat,x = (k:Int) ∧ OkN k:=fun x h => hx x ((hmem x).1 (hperm.mem_iff.1 h))
 have hsort:(keysOf D).Pairwise (fun a b => decide (a ≤ b) = true):=List.pairwise_mergeSort (fun a b c h1 h2 => by simp only [decide_eq_true_eq] at *;exact Int.le_trans h1 h2) (fun a b => by simp only [Bool.or_eq_true,decide_eq_true_eq];exact Int.le_total a b) _
 have hlt:(keysOf D).Pairwise (· < ·):=(hsort.and (hperm.nodup_iff.2 hnd)).imp (fun {a b} h => by
  have h1:a ≤ b:=of_decide_eq_true h.1
  have h2:a ≠ b:=h.2
  omega)
 have hb:((keysOf D).map Int.toNat).map (fun k:Nat => (k:Int)) = keysOf D:=by
  rw [List.map_map]
  refine (List.map_congr_left fun x h => ?_).trans (List.map_id _)
  obtain ⟨k,rfl,_⟩:=hin x h
  simp
 refine ⟨hb.symm,?_,?_,?_⟩
 ·refine List.pairwise_map.2 (hlt.imp_of_mem fun {a b} ha hb' h => ?_)
  obtain ⟨x,rfl,_⟩:=hin a ha
  obtain ⟨y,rfl,_⟩:=hin b hb'
  simp only [Int.toNat_natCast]
  omega
 ·intro k h
  obtain ⟨x,hx',rfl⟩:=List.mem_map.1 h
  obtain ⟨y,rfl,hy⟩:=hin x hx'
  simpa using hy
 ·intro k hok hF
  refine List.mem_map.2 ⟨(k:Int),hperm.mem_iff.2 ((hmem _).2 ?_),by simp⟩
  rcases hc k hok with ⟨e,_⟩ | ⟨v,B,_,h2,h3,_⟩
  ·exact absurd e hF
  ·cases e:Maps.has D (.int .i64 (k:Int)) with
   | true => rfl
   | false =>
    have h4:=Maps.atKey_of_not_has (k:=keyN k) (D:=D) e
    rw [h4] at h2
    have e2:Value.slice none 0 0 = v:=DataW.held.inj h2
    rw [← e2] at h3
    cases h3
theorem egRise:∀ args w,(callFunc 58 args).run Tryz.prog w = .ok (.enter 58 args) w:=enters_of Tryz.func58 (by kernel_rfl) rfl
theorem row_at {n₀ m:Nat} {W:World} {e:TypeId} {v:Value} {vs:List Value} (h:W.ownsRow n₀ e 1 v m vs) (hm:vs.length = m) {i:Nat} {u:Value} (hi:vs[i]? = some u) :
  ∃ g c,v = .slice (some ⟨g,0,none⟩) m c ∧ m ≤ c ∧ c ≤ maxLen ∧ n₀ ≤ g ∧ g < W.heap.size ∧ W.cell? ⟨g,i,none⟩ = some u:=by
 have hlt:i < vs.length:=(List.getElem?_eq_some_iff.1 hi).1
 obtain ⟨h0,h4⟩:=h
 rcases h4 with ⟨_,h4⟩ | ⟨g,c,cur,rfl,h5,h6,h7,h8,h9⟩
 ·omega
 ·have hr':W.ownsRow n₀ e 1 (.slice (some ⟨g,0,none⟩) m c) m vs:=⟨h0,.inr ⟨g,c,cur,rfl,h5,h6,h7,h8,h9⟩⟩
  refine ⟨g,c,rfl,h7,h8,h5,(Array.getElem?_eq_some_iff.1 h6).1,?_⟩
  have:=hr'.cells (g:=g) rfl i u hi
  rwa [show (⟨g,0,none⟩:Addr).add i = ⟨g,i,none⟩ by
   unfold Addr.add
   split
   ·simp_all
   ·simp] at this
theorem lvs_at {l:List Lv} {j:Nat} {x:Lv} (h:l[j]? = some x):(lvs l)[j]? = some x.v:=by unfold lvs;rw [List.getElem?_map,h];rfl
set_option maxHeartbeats 1000000 in
theorem rising_seq (n n₀ B M cnt:Nat) (γ:Gn) (F:Fn) (w:World) (h:Tm n₀ γ w M cnt F) (hB:B < w.heap.size) (hm:w.cell? ⟨B,0,none⟩ = some (.map (some M))) (hcnt:cnt ≤ 1099511627776) (D0:DataW Value) (ks:List Nat)
  (hown:w.ownsMap Tryz.prog 3 heldS M cnt D0) (hks:keysOf D0 = ks.map (fun k:Nat => (k:Int))) (hok:∀ k ∈ ks,OkN k) :
  SeqD Fence.wide n Tryz.prog 58 #[.pointer (some ⟨B,0,none⟩)] (fun x:Lv => #[.slice x.p x.l.length x.c]) (fun r => r = B ∨ r = M ∨ γ r ≠ none) (ks.flatMap F) w:=by
 intro L J Jx D W hR hs hRD hD hJ hJx hY hJ0
 have dm:W.cell? ⟨B,0,none⟩ = some (.map (some M)):=(World.cell?_of_block (a:=⟨B,0,none⟩) (hR B (.inl rfl))).trans hm
 have hML:=h.lt
 have hownW:W.ownsMap Tryz.prog 3 heldS M cnt D0:=owns_atN hown (hR M (.inr (.inl rfl)))
 have b1:Below W.heap.size W (W.alloc (.cells #[.map (some M)] 89)):=(Below.refl _ W).alloc (Nat.le_refl _) _
 have s1:(W.alloc (.cells #[.map (some M)] 89)).heap.size = W.heap.size + 1:=World.size_alloc _ _
 have hk1:=keys_any (some M) W
 have hso:=sorted_any W.heap.size M cnt D0 (W.alloc (.cells #[.map (some M)] 89)) (by omega) (Boxed.new W _ _).cell (owns_atN hownW (b1.block M (by omega))) hcnt
 rw [hks] at hso
 simp only [List.length_map,List.map_map] at hso
 have HM:Hid (∀ W2 X E,Below W.heap.size W W2 → Fr D E W2 X → Tm n₀ γ X M cnt F ∧ X.cell? ⟨B,0,none⟩ = some (.map (some M))):=fun W2 X E hb fr => by
  have old:∀ r,r < w.heap.size → (r = B ∨ r = M ∨ γ r ≠ none) → X.heap[r]? = w.heap[r]?:=fun r hr hq => (fr.block r (by have:=hb.size;omega) (hRD r hq)).trans ((hb.block r (by omega)).trans (hR r hq))
  refine ⟨h.kept (by have:=hb.size;have:=fr.size;omega) (old M hML (.inr (.inl rfl))) (fun B' b e => old B' (h.gl B' b e).2 (.inr (.inr (by rw [e];simp)))),(World.cell?_of_block (a:=⟨B,0,none⟩) (old B hB (.inl rfl))).trans hm⟩
 have HY:Hid (∀ pre x post D1 W1,ks.flatMap F = pre ++ x :: post → J pre D1 W1 → Fr D D1 W W1 → YieldAt Fence.wide (n - 1) Tryz.prog L #[.slice x.p x.l.length x.c] W1 fun e W' =>
   (e = .returned (.bool true) ∧ ∃ D',J (pre ++ [x]) D' W' ∧ Fr D1 D' W1 W') ∨ (e = .returned (.bool false) ∧ ∃ D',Jx (pre ++ [x]) D' W' ∧ Fr D1 D' W1 W')):=hY
 have HD:Hid (∀ r,D r → r < W.heap.size):=hD
 have HQ:Hid (∀ r b,γ r = some b → ¬ D r ∧ r < W.heap.size):=fun r b e => ⟨hRD r (.inr (.inr (by rw [e];simp))),by have:=(h.gl r b e).2;omega⟩
 have HO:Hid (∀ k ∈ ks,OkN k):=hok
 clear hY hD hR hRD h hownW hm hown hks hok
 refine callsIn_of_wp Tryz.func58 rfl trivial ?_ rfl
 simp only [Tryz.ntmps58,List.size_toArray,List.length_cons,List.length_nil,Nat.reduceAdd,Nat.reduceSub,Array.replicate_succ,Array.replicate_zero,List.push_toArray,List.append_toArray,List.nil_append,List.cons_append]
 gi_wp2_with fail
 refine ⟨trivial,fun h => (by cases h),?_⟩
 refine (callsIn_wide.2 hk1).mono ?_
 clear hk1
 rintro e w1 ⟨rfl,rfl⟩
 gi_wp2_with fail
 refine ⟨trivial,fun h => (by cases h),?_⟩
 refine (callsIn_wide.2 hso).mono ?_
 clear hso
 rintro e W2 ⟨v,rfl,hrow,b2⟩
 have b02:=b1.trans (b2.mono (by omega))
 obtain ⟨q,cap,rfl⟩:=Sl.owns_form hrow
 have HRow:Hid (W2.ownsRow (W.heap.size + 1) 3 1 (.slice q ks.length cap) ks.length (ks.map (fun k:Nat => Value.int .i64 (k:Int))) ∧ Below W.heap.size W W2):=⟨by rw [s1] at hrow;exact hrow,b02⟩
 have hJ2:J [] D W2:=hJ _ _ _ _ hJ0 (Kd.below b02 HD.out)
 have hD2:∀ r,D r → r < W2.heap.size:=fun r hr => Nat.lt_of_lt_of_le (HD.out r hr) b02.size
 have hlen:ks.length ≤ 9223372036854775807:=by
  rcases hrow.2 with ⟨_,h4⟩ | ⟨g,c,cur,_,_,_,h7,h8,_⟩
  ·rw [h4];decide
  ·unfold maxLen at h8;omega
 clear hrow b1 b2 b02 s1 hJ0 dm hs
 gi_wp2_with fail
 gi_loopw [11] (fun x wr => ∃ (i:Nat) (E:Nat → Prop),x = .int .i64 i ∧ i ≤ ks.length ∧ J ((ks.take i).flatMap F) E wr ∧ Fr D E W2 wr) (fun x _ => ks.length - (intOf x).toNat)
 case atStart => exact ⟨0,D,rfl,Nat.zero_le _,hJ2,Fr.refl hD2⟩
 case round =>
  obtain ⟨i,E,rfl,hi,hJi,fri⟩:=hrel
  by_cases hil:i < ks.length
  ·obtain ⟨k,hk⟩:∃ k,ks[i]? = some k:=⟨_,List.getElem?_eq_getElem hil⟩
   obtain ⟨g,c,hq,hc1,hc2,hg1,hg2,hcell⟩:=row_at HRow.out.1 (by simp) (i:=i) (u:=.int .i64 (k:Int)) (by rw [List.getElem?_map,hk];rfl)
   cases hq
   have hii:(i:Int) < (ks.length:Int):=by omega
   have x0:wr.cell? ⟨g,i,none⟩ = some (.int .i64 (k:Int)):=fri.keep (p:=⟨g,i,none⟩) (fun e => by have:=HD.out _ e;simp at this;omega) hcell
   obtain ⟨hT,hmc⟩:=HM.out W2 wr E HRow.out.2 fri
   obtain ⟨v,hlook,hrow,_,_⟩:=hT.look k (HO.out k (List.mem_of_getElem? hk))
   have hl0:(Instr.lookup 89 (.map (some M)) (.int .i64 (k:Int)) false).run Tryz.prog wr = .ok v wr:=hlook 0
   obtain ⟨q7,c7,rfl⟩:=Sl.owns_form hrow
   have HE:Hid (∃ post,ks.flatMap F = (ks.take i).flatMap F ++ (F k ++ post)):=⟨(ks.drop (i + 1)).flatMap F,by
    show _ = _
    have:=List.take_append_drop (i + 1) ks
    rw [List.take_add_one,hk] at this
    conv => lhs;rw [← this]
    simp [List.flatMap_append]⟩
   have HT:Hid ((ks.take (i + 1)).flatMap F = (ks.take i).flatMap F ++ F k):=by
    show _ = _
    rw [List.take_add_one,hk]
    simp [List.flatMap_append]
   have HRK:Hid (wr.ownsRow n₀ 38 1 (.slice q7 (F k).length c7) (F k).length (lvs (F k)) ∧ Fr D E W2 wr ∧ ∀ g',(Value.slice q7 (F k).length c7).ownBlock = some g' → γ g' = some k):=⟨hrow,fri,by assumption⟩
   have HN:Hid (∃ N,(F k).length = N):=⟨_,rfl⟩
   obtain ⟨pre,hpre⟩:∃ pre,pre = (ks.take i).flatMap F:=⟨_,rfl⟩
   rw [← hpre] at hJi HE HT
   clear hpre hlook hrow hT hk hcell fri
   gi_wp2_with fail
   obtain ⟨wo,hwo⟩:∃ wo,wo = wr:=⟨_,rfl⟩
   subst hwo
   have hfl:(F k).length ≤ 9223372036854775807:=by
    rcases HRK.out.1.2 with ⟨_,h4⟩ | ⟨g,c,cur,_,_,_,h7,h8,_⟩
    ·rw [h4];decide
    ·unfold maxLen at h8;omega
   gi_loopw [19] (fun x wr => ∃ (j:Nat) (E':Nat → Prop),x = .int .i64 j ∧ j ≤ (F k).length ∧ J (pre ++ (F k).take j) E' wr ∧ Fr E E' wo wr) (fun x _ => (F k).length - (intOf x).toNat)
   case atStart => exact ⟨0,E,rfl,Nat.zero_le _,(by rw [List.take_zero,List.append_nil];exact hJi),Fr.refl HRK.out.2.1.lt⟩
   case round =>
    obtain ⟨j,E',rfl,hj,hJj,frj⟩:=hrel
    by_cases hjl:j < (F k).length
    ·obtain ⟨x,hx⟩:∃ x,(F k)[j]? = some x:=⟨_,List.getElem?_eq_getElem hjl⟩
     obtain ⟨g7,c',hq7,hc3,hc4,_,hg7,hcell7⟩:=row_at HRK.out.1 (by simp [lvs]) (lvs_at hx)
     cases hq7
     have hji:(j:Int) < ((F k).length:Int):=by omega
     have hγ:=HRK.out.2.2 g7 rfl
     have x1:wr.cell? ⟨g7,j,none⟩ = some (.slice x.p x.l.length x.c):=frj.keep (p:=⟨g7,j,none⟩) (fun e => by
      have h9:=HQ.out g7 k hγ
      have h8:=HRow.out.2.size
      rcases HRK.out.2.1.grow g7 e with e | e
      ·exact h9.1 e
      ·omega) hcell7
     have htk:(F k).take (j + 1) = (F k).take j ++ [x]:=by rw [List.take_add_one,hx];rfl
     have HTK:Hid (_ = _):=htk
     obtain ⟨post,hpost⟩:=HE.out
     have hsplit:ks.flatMap F = (pre ++ (F k).take j) ++ x :: ((F k).drop (j + 1) ++ post):=by
      have:=List.take_append_drop (j + 1) (F k)
      rw [htk,List.append_assoc,List.singleton_append] at this
      rw [hpost]
      conv => lhs;rw [← this]
      simp
     obtain ⟨fn,tmps,assign,body,hy,hRo⟩:=HY.out (pre ++ (F k).take j) x ((F k).drop (j + 1) ++ post) E' wr hsplit hJj ((Fr.of_below (D:=D) HRow.out.2 HD.out).trans (HRK.out.2.1.trans frj))
     have HP:Hid (_ = _):=hsplit
     have HF1:Hid (Fr E E' wo wr):=frj
     clear hx htk hcell7 hsplit hpost frj hγ
     gi_wp2_with fail
     refine ⟨fun h => (by cases h),hRo.mono ?_⟩
     clear hRo hy x1
     rintro e w3 (⟨rfl,E3,hJ3,fr3⟩ | ⟨rfl,E3,hJ3,fr3⟩)
     ·gi_wp2
      exact ⟨⟨j + 1,E3,by go_num,by omega,(by rw [HTK.out,← List.append_assoc];exact hJ3),HF1.out.trans fr3⟩,by simp [intOf];omega⟩
     ·gi_wp2
      refine bodyPost_ret (results_none rfl _ _ _) rfl ?_
      exact ⟨⟨_,rfl⟩,E3,(Fr.of_below (D:=D) HRow.out.2 HD.out).trans (HRK.out.2.1.trans (HF1.out.trans fr3)),.inr ⟨_,_,_,HP.out,hJ3⟩⟩
    ·obtain rfl:j = (F k).length:=by omega
     have hki:¬ (((F k).length:Int) < ((F k).length:Int)):=by omega
     rw [List.take_length] at hJj
     have FIN:Hid (J ((ks.take (i + 1)).flatMap F) E' wr ∧ Fr D E' W2 wr):=⟨by rw [HT.out];exact hJj,HRK.out.2.1.trans frj⟩
     gi_wp2
     exact ⟨⟨i + 1,E',by go_num,by omega,FIN.out.1,FIN.out.2⟩,by simp [intOf];omega⟩
  ·obtain rfl:i = ks.length:=by omega
   have hki:¬ ((ks.length:Int) < (ks.length:Int)):=by omega
   rw [List.take_length] at hJi
   have FIN:Hid (Fr D E W wr):=(Fr.of_below (D:=D) HRow.out.2 HD.out).trans fri
   gi_wp2
   go_end0
   exact ⟨⟨_,rfl⟩,E,FIN.out,.inl hJi⟩
theorem rising_any (m:Option Nat) (w:World):Calls Tryz.prog 34 #[.map m] w fun e w' => e = .returned (.func (.func 58) #[] #[.pointer (some ⟨w.heap.size,0,none⟩)]) ∧ w' = w.alloc (.cells #[.map m] 89):=by
 go_enter Tryz.func34,Tryz.ntmps34
 go_wp2
 go_ret
 exact ⟨rfl,rfl⟩
end Go.Proofs.YtcmmdojlhfmddaaGreat.Cs

/- package cascade: winnersOf, Winners. -/
set_option maxRecDepth 100000
namespace Go.Proofs.YtcmmdojlhfmddaaGreat.Cs
open Go.Proofs.YtcmmdojlhfmddaaGreat.Tre
open Go Go.RowKit Sl Mt Wg
attribute [local go_sem] Oper.semAt_some
def lvOf (x:Cv):Lv:=⟨x.tp,x.tc,x.sets⟩
def tierF (cs:List Cv):Fn:=fun k => (cs.filter (fun c => decide (c.wt = k))).map lvOf
theorem tierF_app (cs:List Cv) (x:Cv):tierF (cs ++ [x]) = addFn (tierF cs) x.wt (lvOf x):=by
 funext k
 unfold tierF addFn
 rw [List.filter_append,List.map_append]
 by_cases h:k = x.wt
 ·subst h
  rw [if_pos rfl,List.filter_cons_of_pos (by simp)]
  rfl
 ·rw [if_neg h,List.filter_cons_of_neg (by simp;exact fun e => h e.symm)]
  simp
theorem tierF_ne {cs:List Cv} {c:Cv} (h:c ∈ cs):tierF cs c.wt ≠ []:=by
 unfold tierF
 intro e
 have:c ∈ cs.filter (fun d => decide (d.wt = c.wt)):=List.mem_filter.2 ⟨h,by simp⟩
 rw [List.map_eq_nil_iff.1 e] at this
 cases this
theorem tier_lists (cs:List Cv) (ks:List Nat):(ks.flatMap (tierF cs)).map Lv.l = risingV (cs.map (fun c => (c.wt,c.sets))) ks:=by
 unfold risingV
 induction ks with
 | nil => rfl
 | cons k ks ih =>
  rw [List.flatMap_cons,List.flatMap_cons,List.map_append,ih]
  congr 1
  unfold tierF byW
  rw [List.filter_map,List.map_map,List.map_map]
  rfl
theorem tier_mem {cs:List Cv} {k:Nat} {x:Lv} (h:x ∈ tierF cs k):∃ c ∈ cs,x = lvOf c:=by
 obtain ⟨c,hc,rfl⟩:=List.mem_map.1 h
 exact ⟨c,(List.mem_filter.1 hc).1,rfl⟩
theorem wpListIn_load_rowC {F:Fence} {n:Nat} {P:Program} {ops:Array Oper} {rest:List Oper} {o:Oper} {a:Act} {w:World} {Q:Exit → Act → World → Prop} (hgd:o.guard = none) (ty:TypeId) (x:Operand) (ho:o.op = .load ty x)
  (g:Nat) (hx:a.eval x = .pointer (some ⟨g,0,none⟩)) (t:TypeId) (cs:Array Value) (fr:Nat × Nat) (d:TypeDesc) (hg:w.heap[g]? = some (.cells cs t fr))
  (hu:P.underlying ty = some d) (hd:(match d with | .struct _ | .array _ _ => true | _ => false) = true) (hi:(P.info? ty).map (·.size) = some cs.size)
  (h:wpListIn F n P ops Q rest (a.put o.dst (.agg cs)) w):wpListIn F n P ops Q (o :: rest) a w:=by
 refine wpListIn_plain hgd fun K hK => ?_
 unfold Oper.wpIn
 refine ⟨by simp [Oper.about,ho],?_⟩
 rw [Oper.semAt_eq F.round _ _ (by rw [ho];intro c hc';cases hc')]
 unfold execOp
 simp only [ho,hx,Instr.loadAt,Instr.sureAddr,Sem.run_bind,Sem.run_pure,Result.andThen_ok,run_loadVar_row w g t ty cs fr d hg hu hd hi]
 exact hK _ _ h
theorem wpListIn_store_rowC {F:Fence} {n:Nat} {P:Program} {ops:Array Oper} {rest:List Oper} {o:Oper} {a:Act} {w:World} {Q:Exit → Act → World → Prop} (hgd:o.guard = none) (ty:TypeId) (x y:Operand) (ho:o.op = .store ty x y)
  (g:Nat) (cells:Array Value) (hx:a.eval x = .pointer (some ⟨g,0,none⟩)) (hy:a.eval y = .agg cells)
  (t:TypeId) (old:Array Value) (hg:w.heap[g]? = some (.cells old t (0,0))) (hi:(P.info? ty).map (·.size) = some cells.size)
  (hold:old.size = cells.size) (h1:cells.all (·.oneCell') = true)
  (h:wpListIn F n P ops Q rest (a.put o.dst undef) (w.setRow g cells)):wpListIn F n P ops Q (o :: rest) a w:=by
 refine wpListIn_plain hgd fun K hK => ?_
 unfold Oper.wpIn
 refine ⟨by simp [Oper.about,ho],?_⟩
 rw [Oper.semAt_eq F.round _ _ (by rw [ho];intro c hc';cases hc')]
 unfold execOp
 simp only [ho,hx,hy,Instr.storeAt,Instr.sureAddr,Sem.run_bind,Sem.run_pure,Result.andThen_ok,run_storeVar_row w g t ty old cells hg hi hold h1]
 exact hK _ _ h
theorem infoWin:(Tryz.prog.info? 42).map (·.size) = some 16:=by kernel_rfl
def Eqs (o:Nat) (X Y:World):Prop:=∀ r,r < X.heap.size → r ≠ o → Y.heap[r]? = X.heap[r]?
set_option maxHeartbeats 1000000 in
theorem winnersOf_any (n nb gf:Nat) (lb:Array Value) (cs:List Cv) (w:World) (eg:∀ args w,(callFunc gf args).run Tryz.prog w = .ok (.enter gf args) w) (hnb:nb ≤ w.heap.size)
  (hseq:SeqD Fence.wide n Tryz.prog gf lb (fun x:Cv => #[cvV x]) (fun r => r < nb) cs w) (hcs:∀ c ∈ cs,OkN c.wt ∧ StsT nb w (.slice c.tp c.sets.length c.tc) c.sets) (hln:cs.length ≤ 1099511627776) :
  CallsIn Fence.wide (n + 1) Tryz.prog 13 #[.func (.func gf) #[] lb] w fun e w' => e = .returned (.agg (winL (winV (cs.map (fun c => (c.wt,c.sets))))).toArray) ∧ Below w.heap.size w w':=by
 have hmm:=@run_makeMap Tryz.prog
 obtain ⟨w1,hw1⟩:∃ w1,w.alloc (.cells (winL (fun _ => (0,0))).toArray 42) = w1:=⟨_,rfl⟩
 have a1:WinAt w1 w.heap.size (fun _ => (0,0)):=by rw [← hw1];exact WinAt.new w _
 have b1:Below w.heap.size w w1:=by rw [← hw1];exact (Below.refl _ w).alloc (Nat.le_refl _) _
 have s1:w1.heap.size = w.heap.size + 1:=by rw [← hw1];simp
 obtain ⟨w2,hw2⟩:∃ w2,(w1.alloc (.map #[] 0)).alloc (.cells #[.map (some (w.heap.size + 1))] 89) = w2:=⟨_,rfl⟩
 have b2:Below w1.heap.size w1 w2:=by rw [← hw2];exact ((Below.refl _ w1).alloc (Nat.le_refl _) _).alloc (by simp) _
 have s2:w2.heap.size = w1.heap.size + 2:=by rw [← hw2];simp
 have t2:Tm (w.heap.size + 1) (fun _ => none) w2 (w.heap.size + 1) 0 (tierF []):=by
  rw [← hw2]
  have:=(Tm.made w1).next ((Below.refl _ (w1.alloc (.map #[] 0))).alloc (Nat.le_refl _) (.cells #[.map (some (w.heap.size + 1))] 89))
  rw [s1] at this
  exact this
 have c2:w2.cell? ⟨w.heap.size + 1 + 1,0,none⟩ = some (.map (some (w.heap.size + 1))):=by
  rw [← hw2]
  have:=(Boxed.new (w1.alloc (.map #[] 0)) 89 (.map (some (w.heap.size + 1)))).cell
  rwa [World.size_alloc,s1] at this
 have b02:Below w.heap.size w w2:=below_next b1 b2
 have hseq2:SeqD Fence.wide n Tryz.prog gf lb (fun x:Cv => #[cvV x]) (fun r => r < nb) cs w2:=hseq.later b02.size (fun r hr => b02.block r (by omega))
 have H1:Hid (WinAt w2 w.heap.size (fun _ => (0,0)) ∧ Tm (w.heap.size + 1) (fun _ => none) w2 (w.heap.size + 1) 0 (tierF []) ∧ w2.cell? ⟨w.heap.size + 1 + 1,0,none⟩ = some (.map (some (w.heap.size + 1))) ∧ Below w.heap.size w w2):=⟨a1.next b2,t2,c2,b02⟩
 have HCS:Hid (∀ c ∈ cs,OkN c.wt ∧ StsT nb w (.slice c.tp c.sets.length c.tc) c.sets):=hcs
 have HS:Hid (w1.heap.size = w.heap.size + 1 ∧ w2.heap.size = w.heap.size + 3 ∧ nb ≤ w.heap.size ∧ cs.length ≤ 1099511627776):=⟨s1,by omega,hnb,hln⟩
 clear a1 b1 b2 t2 c2 b02 hseq hcs
 refine callsIn_of_wp_marks Tryz.func13 rfl trivial ?_ rfl
 simp only [Tryz.ntmps13,List.size_toArray,List.length_cons,List.length_nil,Nat.reduceAdd,Nat.reduceSub,Array.replicate_succ,Array.replicate_zero,List.push_toArray,List.append_toArray,List.nil_append,List.cons_append]
 rw [show (fun _:Nat => ((0:Int),(0:Int))) = fun _ => (0,0) from rfl] at hw1
 gi_wp2_with fail
 clear hw1 hw2 hmm
 refine wpIn_rangeFunc_D rfl (by omega) (gf:=gf) (lb:=lb) rfl trivial eg hseq2 (fun _ => rfl)
  (fun (pre:List Cv) (E:Nat → Prop) (X:World) => ∃ γ,Tm (w.heap.size + 1) γ X (w.heap.size + 1) pre.length (tierF pre) ∧ ∀ r,E r ↔ r = w.heap.size + 1 ∨ γ r ≠ none) (fun _ _ _ _ => False)
  ?hI (fun _ _ _ _ _ h _ => h) (fun r => r = w.heap.size + 1) (fun r e => by have:=HS.out;omega) (fun r hr e => by have:=HS.out;omega) (fun r hr => ⟨by have:=HS.out;omega,rfl⟩) (Nat.le_refl _)
  ⟨fun _ => none,H1.out.2.1,fun r => by simp⟩
  (fun (pre:List Cv) (x:Cv) (E2:Nat → Prop) (a':Act) (X:World) => ∃ (B2:Nat) (E1:Nat → Prop),(∀ r,E2 r ↔ E1 r ∨ r = B2) ∧ ¬ E1 B2 ∧ (∃ γ,Tm (w.heap.size + 1) γ X (w.heap.size + 1) pre.length (tierF pre) ∧ ∀ r,E1 r ↔ r = w.heap.size + 1 ∨ γ r ≠ none) ∧ Blk X B2 91 [.int .i64 (x.wt:Int),.slice x.tp x.sets.length x.tc] ∧
   a' = { tmps:=#[.func (.func gf) #[] lb,undef,.pointer (some ⟨w.heap.size,0,none⟩),.pointer (some ⟨w.heap.size + 1 + 1,0,none⟩),.pointer (some ⟨B2,0,none⟩),undef,undef,undef,undef,.map (some (w.heap.size + 1)),.func (.func gf) #[] lb,.agg #[.int .i64 (x.wt:Int),.slice x.tp x.sets.length x.tc],undef,undef,undef,undef,undef,undef,undef,undef,undef,undef,undef,undef,undef,undef,undef,undef,undef,undef],defers:=[] })
  ?hAx ?assign ?body ?done ?stop
 case hI =>
  rintro s E X Y ⟨γ,h1,h2⟩ hk
  exact ⟨γ,h1.kept hk.size (hk.same _ ((h2 _).2 (.inl rfl))) (fun B b e => hk.same _ ((h2 _).2 (.inr (by rw [e];simp)))),h2⟩
 case hAx =>
  rintro s x a' _ E2 X Y ⟨B2,E1,e1,e2,⟨γ,h1,h2⟩,e4,e5⟩ hk
  exact ⟨B2,E1,e1,e2,⟨γ,h1.kept hk.size (hk.same _ ((e1 _).2 (.inl ((h2 _).2 (.inl rfl))))) (fun B b e => hk.same _ ((e1 _).2 (.inl ((h2 _).2 (.inr (by rw [e];simp)))))),h2⟩,(hk.same B2 ((e1 B2).2 (.inr rfl))).trans e4,e5⟩
 case assign =>
  intro l' pre x D1 Wx K hi hfr hK
  have HK:Hid (∀ a' D2 W',Fr D1 D2 Wx W' → _ → K a' W'):=hK
  have hlt:=hfr.lt
  obtain ⟨γ,h1,h2⟩:=hi
  have HT:Hid (∀ o,Tm (w.heap.size + 1) γ (Wx.alloc o) (w.heap.size + 1) pre.length (tierF pre)):=fun o => h1.next ((Below.refl _ _).alloc (Nat.le_refl _) _)
  clear hK h1
  unfold cvV
  gi_wp2
  refine HK.out _ (fun r => D1 r ∨ r = Wx.heap.size) _ ?_ ⟨Wx.heap.size,D1,fun _ => Iff.rfl,fun e => by have:=hlt _ e;omega,⟨γ,HT.out _,h2⟩,Blk.new Wx _ _,rfl⟩
  exact ((Fr.refl hlt).alloc _).names (fun _ h => h) (fun r hr => by
   rcases hr with hr | rfl
   ·exact ⟨.inl hr,by simp;have:=hlt r hr;omega⟩
   ·exact ⟨.inr (.inr (Nat.le_refl _)),by simp⟩)
 case body =>
  rintro l' pre x post D2 a' X heq ⟨B2,E1,hE,hnB,⟨γ,h1,h2⟩,hb,rfl⟩ hfr ⟨r0,hl0⟩ hnl hlw
  have hxm:x ∈ cs:=by rw [heq];simp
  have hpl:pre.length ≤ 1099511627776:=by
   have h:=HS.out
   have:pre.length ≤ cs.length:=by rw [heq];simp
   omega
  have c3:=hfr.keep (p:=⟨w.heap.size + 1 + 1,0,none⟩) (fun h => by simp at h) H1.out.2.2.1
  have hadd:=tiersAdd_any (w.heap.size + 1) γ X (w.heap.size + 1) pre.length (tierF pre) h1 x.wt (HCS.out x hxm).1 (lvOf x) hpl (by have:=h1.lt;omega)
  unfold lvOf at hadd
  obtain ⟨⟨c0,c1⟩,_⟩:=blk2 hb
  have HG:Hid (∀ r,D2 r ↔ r = w.heap.size + 1 ∨ γ r ≠ none ∨ r = B2):=fun r => by rw [hE,h2];exact or_assoc
  have HLT:Hid (w.heap.size + 1 < X.heap.size):=h1.lt
  clear heq hE h1 h2 hb hfr hl0 hnl hlw
  gi_wp2_with fail
  refine ⟨trivial,fun h => (by cases h),?_⟩
  refine (CallsIn.inRound l' (callsIn_wide.2 hadd)).mono ?_
  clear hadd c0 c1 c3
  rintro e2 X3 ⟨rfl,γ',h3,hkp,h4⟩
  have FIN:Hid (∃ D',(∃ γ,Tm (w.heap.size + 1) γ X3 (w.heap.size + 1) (pre ++ [x]).length (tierF (pre ++ [x])) ∧ ∀ r,D' r ↔ r = w.heap.size + 1 ∨ γ r ≠ none) ∧ Fr D2 D' X X3):=by
   refine ⟨fun r => r = w.heap.size + 1 ∨ γ' r ≠ none,⟨γ',by rw [tierF_app,List.length_append];exact h3,fun _ => Iff.rfl⟩,hkp.os,hkp.tape,hkp.output,hkp.size,fun r hr hd => hkp.block r hr ⟨fun e => hd ((HG.out r).2 (.inl e)),?_⟩,fun r hr => ?_,fun r hr => ?_⟩
   ·cases e:γ r with
    | none => rfl
    | some b => exact absurd ((HG.out r).2 (.inr (.inl (by rw [e];simp)))) hd
   ·rcases hr with rfl | hr
    ·exact .inl ((HG.out _).2 (.inl rfl))
    ·rcases h4 r hr with e | e
     ·exact .inl ((HG.out r).2 (.inr (.inl e)))
     ·exact .inr e
   ·rcases hr with rfl | hr
    ·exact h3.lt
    ·cases e:γ' r with
     | none => exact absurd e hr
     | some b => exact (h3.gl r b e).2
  clear h3 hkp h4
  gi_wp2_with fail
  exact FIN.out
 case stop => rintro c pre x post E X heq hx;exact hx.elim
 case done =>
  rintro E X ⟨γ,ht,hE⟩ hfr hK hnE
  obtain ⟨D0,ks,hown,hks,hsort,hok,hkin⟩:=ht.keys
  have c3:=hfr.keep (p:=⟨w.heap.size + 1 + 1,0,none⟩) (fun h => by simp at h) H1.out.2.2.1
  have bX:Below w.heap.size w X:=by
   have h5:Below (w.heap.size + 1) w2 X:=hfr.below (by have:=HS.out;omega) (fun r h => by omega)
   exact H1.out.2.2.2.trans (h5.mono (by omega))
  have HP:Hid (passV true (passV false (fun _ => (0,0)) ((ks.flatMap (tierF cs)).map Lv.l)) ((ks.flatMap (tierF cs)).map Lv.l) = passV true (passV false (fun _ => (0,0)) ((ks.flatMap (tierF cs)).map Lv.l)) ((ks.flatMap (tierF cs)).map Lv.l)):=rfl
  have HV:Hid (∀ p,p < 8 → passV true (passV false (fun _ => (0,0)) ((ks.flatMap (tierF cs)).map Lv.l)) ((ks.flatMap (tierF cs)).map Lv.l) p = winV (cs.map (fun c => (c.wt,c.sets))) p):=fun p hp => by
   rw [tier_lists]
   refine passes_win _ ks hsort (fun c hc => ?_) hok p hp
   obtain ⟨d,hd,rfl⟩:=List.mem_map.1 hc
   exact hkin _ (HCS.out d hd).1 (tierF_ne hd)
  have HMEM:Hid (∀ x ∈ ks.flatMap (tierF cs),StsT nb w (.slice x.p x.l.length x.c) x.l):=fun x hx => by
   obtain ⟨k,_,hx⟩:=List.mem_flatMap.1 hx
   obtain ⟨c,hc,rfl⟩:=tier_mem hx
   exact (HCS.out c hc).2
  obtain ⟨xs,hxs⟩:∃ xs,xs = ks.flatMap (tierF cs):=⟨_,rfl⟩
  rw [← hxs] at HV HMEM
  obtain ⟨W3,hW3⟩:∃ W3,X.alloc (.cells (winL (fun _ => (0,0))).toArray 42) = W3:=⟨_,rfl⟩
  have HSEQ:Hid (∀ (b:Bool) (Y:World),W3.heap.size ≤ Y.heap.size → (∀ r,r < W3.heap.size → r ≠ X.heap.size → Y.heap[r]? = W3.heap[r]?) → ∀ B,B < Y.heap.size → Y.cell? ⟨B,0,none⟩ = some (.map (some (w.heap.size + 1))) →
    SeqD Fence.wide n Tryz.prog 58 #[.pointer (some ⟨B,0,none⟩)] (fun x:Lv => #[.slice x.p x.l.length x.c]) (fun r => r = B ∨ r = w.heap.size + 1 ∨ γ r ≠ none) xs Y):=fun b Y hs hy B hB hc => by
   have old:∀ r,r < X.heap.size → Y.heap[r]? = X.heap[r]?:=fun r hr => by
    rw [hy r (by rw [← hW3];simp;omega) (by omega),← hW3]
    exact Below.heap_alloc _ _ _ hr
   have hsz:X.heap.size ≤ Y.heap.size:=by
    have:W3.heap.size = X.heap.size + 1:=by rw [← hW3];simp
    omega
   rw [hxs]
   exact rising_seq n _ B (w.heap.size + 1) cs.length γ (tierF cs) Y (ht.kept hsz (old _ ht.lt) (fun B' b' e => old B' (ht.gl B' b' e).2)) hB hc (by have:=HS.out;omega) D0 ks (owns_atN hown (old _ ht.lt)) hks hok
  have h3:WinAt W3 X.heap.size (fun _ => (0,0)):=by rw [← hW3];exact WinAt.new X _
  have b3:Below X.heap.size X W3:=by rw [← hW3];exact (Below.refl _ X).alloc (Nat.le_refl _) _
  have s3:W3.heap.size = X.heap.size + 1:=by rw [← hW3];simp
  have HG:Hid (∀ r,γ r ≠ none → r < X.heap.size):=fun r h => by
   cases e:γ r with
   | none => exact absurd e h
   | some b => exact (ht.gl r b e).2
  have HX:Hid (X.cell? ⟨w.heap.size + 1 + 1,0,none⟩ = some (.map (some (w.heap.size + 1))) ∧ Below w.heap.size w X ∧ X.heap[w2.heap.size]? = some (.deferred (some [])) ∧ w2.heap.size < X.heap.size ∧ WinAt X w.heap.size (fun _ => (0,0)) ∧ w.heap.size + 1 < X.heap.size):=
   ⟨c3,bX,hK,(Array.getElem?_eq_some_iff.1 hK).1,H1.out.1.same (hfr.block _ H1.out.1.lt (fun h => by simp at h)),ht.lt⟩
  clear ht hE hfr hK hnE hown hks hsort hok hkin bX hxs
  rw [show (fun _:Nat => ((0:Int),(0:Int))) = fun _ => (0,0) from rfl] at hW3
  gi_wp2_with fail
  have HC0:Hid (WinAt W3 X.heap.size (fun _ => (0,0)) ∧ W3.cell? ⟨w.heap.size + 1 + 1,0,none⟩ = some (.map (some (w.heap.size + 1))) ∧ (X.heap.size + 1 ≤ W3.heap.size ∧ Eqs X.heap.size W3 W3) ∧ Below w.heap.size w W3):=⟨h3,(b3.cell (p:=⟨w.heap.size + 1 + 1,0,none⟩) (World.block_lt_of_cell? X _ HX.out.1)).trans HX.out.1,⟨by omega,fun _ _ _ => rfl⟩,HX.out.2.1.trans (b3.mono HX.out.2.1.size)⟩
  have HS3:Hid (W3.heap.size = X.heap.size + 1):=s3
  have HB3:Hid (Below X.heap.size X W3):=b3
  clear h3 b3 hW3 c3 s3
  refine wpIn_loop_rounds 3 ?_
  rw [roundsIn_succ]
  have ix0:∀ w,(Instr.index 93 (.agg #[.bool false,.bool true]) (.int .i64 0)).run Tryz.prog w = .ok (.bool false) w:=fun _ => by kernel_rfl
  have x0:(W3.alloc (.cells #[.bool false] 4)).cell? ⟨w.heap.size + 1 + 1,0,none⟩ = some (.map (some (w.heap.size + 1))):=((show Below W3.heap.size W3 (W3.alloc (.cells #[.bool false] 4)) from (Below.refl _ _).alloc (Nat.le_refl _) _).cell (p:=⟨w.heap.size + 1 + 1,0,none⟩) (World.block_lt_of_cell? W3 _ HC0.out.2.1)).trans HC0.out.2.1
  have hr0:=rising_any (some (w.heap.size + 1)) (W3.alloc (.cells #[.bool false] 4))
  gi_wp2_with fail
  refine ⟨trivial,?_⟩
  refine (callsIn_wide.2 hr0).mono ?_
  clear hr0 x0
  rintro e B0 ⟨rfl,hB0⟩
  obtain ⟨A0,hA0⟩:∃ A0,W3.alloc (.cells #[.bool false] 4) = A0:=⟨_,rfl⟩
  have bA0:Below W3.heap.size W3 A0:=by rw [← hA0];exact (Below.refl _ _).alloc (Nat.le_refl _) _
  have sA0:A0.heap.size = W3.heap.size + 1:=by rw [← hA0];simp
  have y0:A0.cell? ⟨W3.heap.size,0,none⟩ = some (.bool false):=by rw [← hA0];exact (Boxed.new W3 _ _).cell
  rw [hA0] at hB0 ⊢
  clear hA0
  rw [sA0]
  have bB0:Below A0.heap.size A0 B0:=by rw [hB0];exact (Below.refl _ _).alloc (Nat.le_refl _) _
  have zB0:B0.cell? ⟨A0.heap.size,0,none⟩ = some (.map (some (w.heap.size + 1))):=by rw [hB0];exact (Boxed.new A0 _ _).cell
  have sB0:B0.heap.size = A0.heap.size + 1:=by rw [hB0];simp
  have bAB0:Below W3.heap.size W3 B0:=below_next bA0 bB0
  have yB0:B0.cell? ⟨W3.heap.size,0,none⟩ = some (.bool false):=(bB0.cell (p:=⟨W3.heap.size,0,none⟩) (by show W3.heap.size < A0.heap.size;omega)).trans y0
  have HBX0:Hid (Below w.heap.size w B0 ∧ X.heap.size + 1 ≤ W3.heap.size ∧ WinAt B0 X.heap.size (fun _ => (0,0))):=⟨HC0.out.2.2.2.trans (bAB0.mono (by have:=HC0.out.2.2.2.size;omega)),HC0.out.2.2.1.1,HC0.out.1.next bAB0⟩
  have hq0:=HSEQ.out false B0 (by rw [HS3.out];have:=HBX0.out.2.1;omega) (fun r hr hne => (bAB0.block r (by rw [HS3.out] at hr;have:=HBX0.out.2.1;omega)).trans (HC0.out.2.2.1.2 r hr hne)) (W3.heap.size + 1) (by omega) (by rw [← sA0];exact zB0)
  have HSZ0:Hid (A0.heap.size = W3.heap.size + 1 ∧ B0.heap.size = A0.heap.size + 1):=⟨sA0,sB0⟩
  have HY0:Hid (B0.cell? ⟨W3.heap.size,0,none⟩ = some (.bool false) ∧ Below W3.heap.size W3 B0):=⟨yB0,bAB0⟩
  clear hB0 bA0 bB0 bAB0 y0 zB0 yB0 sA0 sB0
  gi_wp2_with fail
  refine wpIn_rangeFunc_D rfl (by omega) (gf:=58) (lb:=#[.pointer (some ⟨W3.heap.size + 1,0,none⟩)]) rfl trivial egRise hq0 (fun _ => rfl)
   (fun (pre:List Lv) (E:Nat → Prop) (Y:World) => (∀ r,E r ↔ r = X.heap.size) ∧ WinAt Y X.heap.size (passV false (fun _ => (0,0)) (pre.map Lv.l))) (fun _ _ _ _ => False)
   ?hI0 (fun _ _ _ _ _ h _ => h) (fun r => r = X.heap.size) (fun r e => by have:=HSZ0.out;have:=HBX0.out.2.1;omega)
   (fun r hr e => by
    have h1:=HSZ0.out
    have h2:=HBX0.out.2.1
    have h3:=HX.out.2.2.2.2.2
    rcases hr with hr | hr | hr
    ·omega
    ·omega
    ·have:=HG.out r hr;omega)
   (fun r hr => ⟨by
    have h1:=HSZ0.out
    have h2:=HBX0.out.2.1
    have h3:=HX.out.2.2.2.2.2
    rcases hr with hr | hr | hr
    ·omega
    ·omega
    ·have:=HG.out r hr;omega,rfl⟩) (Nat.le_refl _) ⟨fun _ => Iff.rfl,HBX0.out.2.2⟩
   (fun (pre:List Lv) (x:Lv) (E2:Nat → Prop) (a':Act) (Y:World) => ((∀ r,E2 r ↔ r = X.heap.size) ∧ WinAt Y X.heap.size (passV false (fun _ => (0,0)) (pre.map Lv.l))) ∧
    a' = { tmps:=#[.func (.func gf) #[] lb,undef,.pointer (some ⟨w.heap.size,0,none⟩),.pointer (some ⟨w.heap.size + 1 + 1,0,none⟩),undef,.pointer (some ⟨X.heap.size,0,none⟩),undef,.pointer (some ⟨W3.heap.size,0,none⟩),.slice x.p x.l.length x.c,.map (some (w.heap.size + 1)),.func (.func gf) #[] lb,undef,undef,undef,undef,undef,undef,undef,.agg #[.bool false,.bool true],.int .i64 0,.bool true,.bool false,.map (some (w.heap.size + 1)),.func (.func 58) #[] #[.pointer (some ⟨W3.heap.size + 1,0,none⟩)],.slice x.p x.l.length x.c,undef,undef,undef,undef,undef],defers:=[] })
   ?hAx0 ?assign0 ?body0 ?done0 ?stop0
  case hI0 =>
   rintro s E Y Z ⟨h1,h2⟩ hk
   exact ⟨h1,h2.same (hk.same _ ((h1 _).2 rfl))⟩
  case hAx0 =>
   rintro s x a' _ E Y Z ⟨⟨h1,h2⟩,h3⟩ hk
   exact ⟨⟨h1,h2.same (hk.same _ ((h1 _).2 rfl))⟩,h3⟩
  case assign0 =>
   intro l' pre x D1 Wx K hi hfr hK
   gi_wp2
   exact hK _ D1 _ (Fr.refl hfr.lt) ⟨hi,rfl⟩
  case body0 =>
   rintro l' pre x post D2 a' Y heq ⟨⟨hE,hw⟩,rfl⟩ hfr _ hnl hlw
   have hbel:Below w.heap.size w Y:=by
    have h5:Below w.heap.size B0 Y:=hfr.below (by have:=HBX0.out.1.size;omega) (fun r e => by have:=HX.out.2.1.size;omega)
    exact HBX0.out.1.trans h5
   have hst:StsT nb Y (.slice x.p x.l.length x.c) x.l:=RowT.below (HMEM.out x (by rw [heq];simp)) (hbel.mono (by have:=HS.out;omega)) (fun _ _ h => h)
   have hwr:=write_any X.heap.size nb x.p x.c x.l false _ Y hw (by have:=HX.out.2.1.size;have:=HS.out;omega) hst
   have hbool:Y.cell? ⟨W3.heap.size,0,none⟩ = some (.bool false):=hfr.keep (p:=⟨W3.heap.size,0,none⟩) (fun e => by have:=HBX0.out.2.1;simp at e;omega) HY0.out.1
   have HE:Hid (∀ r,D2 r ↔ r = X.heap.size):=hE
   clear heq hE hw hfr hnl hlw hbel hst
   gi_wp2_with fail
   refine ⟨trivial,fun h => (by cases h),?_⟩
   refine (CallsIn.inRound l' (callsIn_wide.2 hwr)).mono ?_
   clear hwr hbool
   rintro e2 Z ⟨rfl,hw2,hf2⟩
   have FIN:Hid (∃ D',((∀ r,D' r ↔ r = X.heap.size) ∧ WinAt Z X.heap.size (passV false (fun _ => (0,0)) ((pre ++ [x]).map Lv.l))) ∧ Fr D2 D' Y Z):=by
    refine ⟨fun r => r = X.heap.size,⟨fun _ => Iff.rfl,?_⟩,hf2.names (fun r h => (HE.out r).2 h) (fun r h => ⟨.inl h,hf2.lt r h⟩)⟩
    unfold passV
    rw [List.map_append,List.foldl_append]
    exact hw2
   clear hw2 hf2
   gi_wp2_with fail
   exact FIN.out
  case stop0 => rintro c pre x post E Y heq hx;exact hx.elim
  case done0 =>
  rintro E Y0 ⟨hE,hw⟩ hfr hK hnE
  have bY0:Below w.heap.size w Y0:=by
   have h5:Below w.heap.size B0 Y0:=hfr.below (by have:=HBX0.out.1.size;omega) (fun r e => by have:=HX.out.2.1.size;omega)
   exact HBX0.out.1.trans h5
  have hE0:Eqs X.heap.size W3 Y0:=fun r hr hne => (hfr.block r (by have:=HY0.out.2.size;omega) (fun e => hne e)).trans (HY0.out.2.block r hr)
  have hcB:Y0.cell? ⟨w.heap.size + 1 + 1,0,none⟩ = some (.map (some (w.heap.size + 1))):=by
   have hlt:=World.block_lt_of_cell? W3 _ HC0.out.2.1
   have hlt2:=World.block_lt_of_cell? X _ HX.out.1
   exact (World.cell?_of_block (a:=⟨w.heap.size + 1 + 1,0,none⟩) (hE0 _ hlt (by simp at hlt2;simp;omega))).trans HC0.out.2.1
  have HC1:Hid (WinAt Y0 X.heap.size (passV false (fun _ => (0,0)) (xs.map Lv.l)) ∧ Y0.cell? ⟨w.heap.size + 1 + 1,0,none⟩ = some (.map (some (w.heap.size + 1))) ∧ (X.heap.size + 1 ≤ Y0.heap.size ∧ Eqs X.heap.size W3 Y0) ∧ Below w.heap.size w Y0):=
   ⟨hw,hcB,⟨by have:=hfr.size;have:=HSZ0.out;have:=HBX0.out.2.1;omega,hE0⟩,bY0⟩
  have HD0:Hid (Y0.heap[B0.heap.size]? = some (.deferred (some [])) ∧ B0.heap.size < Y0.heap.size ∧ W3.heap.size ≤ B0.heap.size):=⟨hK,(Array.getElem?_eq_some_iff.1 hK).1,by have:=HSZ0.out;omega⟩
  clear hE hw hfr hK hnE bY0 hE0 hcB
  gi_wp2_with fail
  rw [roundsIn_succ]
  have ix1:∀ w,(Instr.index 93 (.agg #[.bool false,.bool true]) (.int .i64 1)).run Tryz.prog w = .ok (.bool true) w:=fun _ => by kernel_rfl
  have x1:(Y0.alloc (.cells #[.bool true] 4)).cell? ⟨w.heap.size + 1 + 1,0,none⟩ = some (.map (some (w.heap.size + 1))):=((show Below Y0.heap.size Y0 (Y0.alloc (.cells #[.bool true] 4)) from (Below.refl _ _).alloc (Nat.le_refl _) _).cell (p:=⟨w.heap.size + 1 + 1,0,none⟩) (World.block_lt_of_cell? Y0 _ HC1.out.2.1)).trans HC1.out.2.1
  have hr1:=rising_any (some (w.heap.size + 1)) (Y0.alloc (.cells #[.bool true] 4))
  gi_wp2_with fail
  refine ⟨trivial,?_⟩
  refine (callsIn_wide.2 hr1).mono ?_
  clear hr1 x1
  rintro e B1 ⟨rfl,hB1⟩
  obtain ⟨A1,hA1⟩:∃ A1,Y0.alloc (.cells #[.bool true] 4) = A1:=⟨_,rfl⟩
  have bA1:Below Y0.heap.size Y0 A1:=by rw [← hA1];exact (Below.refl _ _).alloc (Nat.le_refl _) _
  have sA1:A1.heap.size = Y0.heap.size + 1:=by rw [← hA1];simp
  have y1:A1.cell? ⟨Y0.heap.size,0,none⟩ = some (.bool true):=by rw [← hA1];exact (Boxed.new Y0 _ _).cell
  rw [hA1] at hB1 ⊢
  clear hA1
  rw [sA1]
  have bB1:Below A1.heap.size A1 B1:=by rw [hB1];exact (Below.refl _ _).alloc (Nat.le_refl _) _
  have zB1:B1.cell? ⟨A1.heap.size,0,none⟩ = some (.map (some (w.heap.size + 1))):=by rw [hB1];exact (Boxed.new A1 _ _).cell
  have sB1:B1.heap.size = A1.heap.size + 1:=by rw [hB1];simp
  have bAB1:Below Y0.heap.size Y0 B1:=below_next bA1 bB1
  have yB1:B1.cell? ⟨Y0.heap.size,0,none⟩ = some (.bool true):=(bB1.cell (p:=⟨Y0.heap.size,0,none⟩) (by show Y0.heap.size < A1.heap.size;omega)).trans y1
  have HBX1:Hid (Below w.heap.size w B1 ∧ X.heap.size + 1 ≤ Y0.heap.size ∧ WinAt B1 X.heap.size (passV false (fun _ => (0,0)) (xs.map Lv.l))):=⟨HC1.out.2.2.2.trans (bAB1.mono (by have:=HC1.out.2.2.2.size;omega)),HC1.out.2.2.1.1,HC1.out.1.next bAB1⟩
  have hq1:=HSEQ.out true B1 (by rw [HS3.out];have:=HBX1.out.2.1;omega) (fun r hr hne => (bAB1.block r (by rw [HS3.out] at hr;have:=HBX1.out.2.1;omega)).trans (HC1.out.2.2.1.2 r hr hne)) (Y0.heap.size + 1) (by omega) (by rw [← sA1];exact zB1)
  have HSZ1:Hid (A1.heap.size = Y0.heap.size + 1 ∧ B1.heap.size = A1.heap.size + 1):=⟨sA1,sB1⟩
  have HY1:Hid (B1.cell? ⟨Y0.heap.size,0,none⟩ = some (.bool true) ∧ Below Y0.heap.size Y0 B1):=⟨yB1,bAB1⟩
  clear hB1 bA1 bB1 bAB1 y1 zB1 yB1 sA1 sB1
  gi_wp2_with fail
  refine wpIn_rangeFunc_D rfl (by omega) (gf:=58) (lb:=#[.pointer (some ⟨Y0.heap.size + 1,0,none⟩)]) rfl trivial egRise hq1 (fun _ => rfl)
   (fun (pre:List Lv) (E:Nat → Prop) (Y:World) => (∀ r,E r ↔ r = X.heap.size) ∧ WinAt Y X.heap.size (passV true (passV false (fun _ => (0,0)) (xs.map Lv.l)) (pre.map Lv.l))) (fun _ _ _ _ => False)
   ?hI1 (fun _ _ _ _ _ h _ => h) (fun r => r = X.heap.size) (fun r e => by have:=HSZ1.out;have:=HBX1.out.2.1;omega)
   (fun r hr e => by
    have h1:=HSZ1.out
    have h2:=HBX1.out.2.1
    have h3:=HX.out.2.2.2.2.2
    rcases hr with hr | hr | hr
    ·omega
    ·omega
    ·have:=HG.out r hr;omega)
   (fun r hr => ⟨by
    have h1:=HSZ1.out
    have h2:=HBX1.out.2.1
    have h3:=HX.out.2.2.2.2.2
    rcases hr with hr | hr | hr
    ·omega
    ·omega
    ·have:=HG.out r hr;omega,rfl⟩) (Nat.le_refl _) ⟨fun _ => Iff.rfl,HBX1.out.2.2⟩
   (fun (pre:List Lv) (x:Lv) (E2:Nat → Prop) (a':Act) (Y:World) => ((∀ r,E2 r ↔ r = X.heap.size) ∧ WinAt Y X.heap.size (passV true (passV false (fun _ => (0,0)) (xs.map Lv.l)) (pre.map Lv.l))) ∧
    a' = { tmps:=#[.func (.func gf) #[] lb,undef,.pointer (some ⟨w.heap.size,0,none⟩),.pointer (some ⟨w.heap.size + 1 + 1,0,none⟩),undef,.pointer (some ⟨X.heap.size,0,none⟩),undef,.pointer (some ⟨Y0.heap.size,0,none⟩),.slice x.p x.l.length x.c,.map (some (w.heap.size + 1)),.func (.func gf) #[] lb,undef,undef,undef,undef,undef,undef,undef,.agg #[.bool false,.bool true],.int .i64 1,.bool true,.bool true,.map (some (w.heap.size + 1)),.func (.func 58) #[] #[.pointer (some ⟨Y0.heap.size + 1,0,none⟩)],.slice x.p x.l.length x.c,undef,undef,undef,.int .i64 1,undef],defers:=[] })
   ?hAx1 ?assign1 ?body1 ?done1 ?stop1
  case hI1 =>
   rintro s E Y Z ⟨h1,h2⟩ hk
   exact ⟨h1,h2.same (hk.same _ ((h1 _).2 rfl))⟩
  case hAx1 =>
   rintro s x a' _ E Y Z ⟨⟨h1,h2⟩,h3⟩ hk
   exact ⟨⟨h1,h2.same (hk.same _ ((h1 _).2 rfl))⟩,h3⟩
  case assign1 =>
   intro l' pre x D1 Wx K hi hfr hK
   gi_wp2
   exact hK _ D1 _ (Fr.refl hfr.lt) ⟨hi,rfl⟩
  case body1 =>
   rintro l' pre x post D2 a' Y heq ⟨⟨hE,hw⟩,rfl⟩ hfr _ hnl hlw
   have hbel:Below w.heap.size w Y:=by
    have h5:Below w.heap.size B1 Y:=hfr.below (by have:=HBX1.out.1.size;omega) (fun r e => by have:=HX.out.2.1.size;omega)
    exact HBX1.out.1.trans h5
   have hst:StsT nb Y (.slice x.p x.l.length x.c) x.l:=RowT.below (HMEM.out x (by rw [heq];simp)) (hbel.mono (by have:=HS.out;omega)) (fun _ _ h => h)
   have hwr:=write_any X.heap.size nb x.p x.c x.l true _ Y hw (by have:=HX.out.2.1.size;have:=HS.out;omega) hst
   have hbool:Y.cell? ⟨Y0.heap.size,0,none⟩ = some (.bool true):=hfr.keep (p:=⟨Y0.heap.size,0,none⟩) (fun e => by have:=HBX1.out.2.1;simp at e;omega) HY1.out.1
   have HE:Hid (∀ r,D2 r ↔ r = X.heap.size):=hE
   clear heq hE hw hfr hnl hlw hbel hst
   gi_wp2_with fail
   refine ⟨trivial,fun h => (by cases h),?_⟩
   refine (CallsIn.inRound l' (callsIn_wide.2 hwr)).mono ?_
   clear hwr hbool
   rintro e2 Z ⟨rfl,hw2,hf2⟩
   have FIN:Hid (∃ D',((∀ r,D' r ↔ r = X.heap.size) ∧ WinAt Z X.heap.size (passV true (passV false (fun _ => (0,0)) (xs.map Lv.l)) ((pre ++ [x]).map Lv.l))) ∧ Fr D2 D' Y Z):=by
    refine ⟨fun r => r = X.heap.size,⟨fun _ => Iff.rfl,?_⟩,hf2.names (fun r h => (HE.out r).2 h) (fun r h => ⟨.inl h,hf2.lt r h⟩)⟩
    unfold passV
    rw [List.map_append,List.foldl_append]
    exact hw2
   clear hw2 hf2
   gi_wp2_with fail
   exact FIN.out
  case stop1 => rintro c pre x post E Y heq hx;exact hx.elim
  case done1 =>
  rintro E Y1 ⟨hE,hw⟩ hfr hK hnE
  have bY1:Below w.heap.size w Y1:=by
   have h5:Below w.heap.size B1 Y1:=hfr.below (by have:=HBX1.out.1.size;omega) (fun r e => by have:=HX.out.2.1.size;omega)
   exact HBX1.out.1.trans h5
  have hE1:Eqs X.heap.size Y0 Y1:=fun r hr hne => (hfr.block r (by have:=HY1.out.2.size;omega) (fun e => hne e)).trans (HY1.out.2.block r hr)
  have HD1:Hid (Y1.heap[B1.heap.size]? = some (.deferred (some [])) ∧ WinAt Y1 X.heap.size (passV true (passV false (fun _ => (0,0)) (xs.map Lv.l)) (xs.map Lv.l)) ∧ Eqs X.heap.size Y0 Y1 ∧ Below w.heap.size w Y1):=⟨hK,hw,hE1,bY1⟩
  clear hE hw hfr hK hnE bY1 hE1
  gi_wp2_with fail
  rw [roundsIn_succ]
  gi_upto_region 13 with fail
  have hlt0:=H1.out.1.lt
  have k3:∀ r,r < X.heap.size → Y1.heap[r]? = X.heap[r]?:=fun r hr => by
   have e1:W3.heap[r]? = X.heap[r]?:=HB3.out.block r hr
   have h5:=HS3.out
   have h6:=HC1.out.2.2.1.1
   exact ((HD1.out.2.2.1 r (by omega) (by omega)).trans (HC1.out.2.2.1.2 r (by omega) (by omega))).trans e1
  have kA:WinAt Y1 w.heap.size (fun _ => (0,0)):=HX.out.2.2.2.2.1.same (k3 _ (by have:=HX.out.2.2.2.2.2;omega))
  have kd2:Y1.heap[w.heap.size + 1 + 2]? = some (.deferred (some [])):=by
   have:=(k3 _ HX.out.2.2.2.1).trans HX.out.2.2.1
   rwa [show w2.heap.size = w.heap.size + 1 + 2 by have:=HS.out;omega] at this
  have kd0:Y1.heap[B0.heap.size]? = some (.deferred (some [])):=(HD1.out.2.2.1 _ HD0.out.2.1 (by have:=HD0.out.2.2;have:=HS3.out;omega)).trans HD0.out.1
  have kd1:=HD1.out.1
  have kO:WinAt Y1 X.heap.size (winV (cs.map (fun c => (c.wt,c.sets)))):=HD1.out.2.1.ext (fun i hi => (HV.out i hi).symm)
  refine wpIn_region_lit ?_
  refine wpListIn_load_rowC rfl 42 _ rfl X.heap.size rfl 42 _ (0,0) _ kO Tryz.underlying42 rfl infoWin ?_
  refine wpListIn_store_rowC rfl 42 _ _ rfl w.heap.size _ rfl rfl 42 _ kA infoWin rfl (by simp [winL,Value.oneCell']) ?_
  obtain ⟨Y2,hY2⟩:∃ Y2,Y1.setRow w.heap.size (winL (winV (cs.map (fun c => (c.wt,c.sets))))).toArray = Y2:=⟨_,rfl⟩
  have so:∀ r,r ≠ w.heap.size → Y2.heap[r]? = Y1.heap[r]?:=fun r hr => by rw [← hY2];exact setRow_other _ _ _ _ hr
  have sA:WinAt Y2 w.heap.size (winV (cs.map (fun c => (c.wt,c.sets)))):=by rw [← hY2];exact setRow_heap _ _ _ _ _ _ kA
  have hs0:=HSZ0.out
  have hs1:=HSZ1.out
  have hb0:=HD0.out.2
  have hc0:=HC1.out.2.2.1.1
  have hs3:=HS3.out
  have hss:=HS.out
  have hxl:=HX.out.2.2.2.1
  have m2:=(so _ (show w.heap.size + 1 + 2 ≠ w.heap.size by omega)).trans kd2
  have m0:=(so _ (show B0.heap.size ≠ w.heap.size by omega)).trans kd0
  have m1:=(so _ (show B1.heap.size ≠ w.heap.size by omega)).trans kd1
  have bY2:Below w.heap.size w Y2:=by
   have h5:=HD1.out.2.2.2
   refine ⟨?_,?_,?_,?_,fun r hr => (so r (by omega)).trans (h5.block r hr)⟩
   ·rw [← hY2];exact h5.os
   ·rw [← hY2];exact h5.tape
   ·rw [← hY2];exact h5.output
   ·rw [← hY2];simp;exact h5.size
  have HFIN:Hid (WinAt Y2 w.heap.size (winV (cs.map (fun c => (c.wt,c.sets)))) ∧ Below w.heap.size w Y2 ∧ Y2.heap[w.heap.size + 1 + 2]? = some (.deferred (some [])) ∧ Y2.heap[B0.heap.size]? = some (.deferred (some [])) ∧ Y2.heap[B1.heap.size]? = some (.deferred (some []))):=⟨sA,bY2,m2,m0,m1⟩
  have HNE:Hid (B0.heap.size ≠ w.heap.size + 1 + 2 ∧ B1.heap.size ≠ w.heap.size + 1 + 2 ∧ B0.heap.size ≠ B1.heap.size ∧ w.heap.size + 1 + 2 ≠ w.heap.size ∧ B0.heap.size ≠ w.heap.size ∧ B1.heap.size ≠ w.heap.size ∧ w.heap.size ≤ B0.heap.size ∧ w.heap.size ≤ B1.heap.size):=⟨by omega,by omega,by omega,by omega,by omega,by omega,by omega,by omega⟩
  rw [hY2]
  clear hY2 so sA m2 m0 m1 bY2 kA kd2 kd0 kd1 kO k3 hs0 hs1 hb0 hc0 hs3 hss hxl hlt0
  gi_wp2_with fail
  refine ⟨by simp,.inl ⟨_,_,rfl,run_takeDeferred HFIN.out.2.2.2.2,?_⟩⟩
  refine ⟨by simp,.inl ⟨_,_,rfl,run_takeDeferred ((World.putObj_heap_other HNE.out.2.2.1).trans HFIN.out.2.2.2.1),?_⟩⟩
  refine ⟨by simp,.inl ⟨_,_,rfl,run_takeDeferred ((World.putObj_heap_other HNE.out.1.symm).trans ((World.putObj_heap_other HNE.out.2.1.symm).trans HFIN.out.2.2.1)),?_⟩⟩
  have hA:WinAt (((Y2.putObj B1.heap.size (.deferred none)).putObj B0.heap.size (.deferred none)).putObj (w.heap.size + 1 + 2) (.deferred none)) w.heap.size (winV (cs.map (fun c => (c.wt,c.sets)))):=
   HFIN.out.1.same ((World.putObj_heap_other HNE.out.2.2.2.1.symm).trans ((World.putObj_heap_other HNE.out.2.2.2.2.1.symm).trans (World.putObj_heap_other HNE.out.2.2.2.2.2.1.symm)))
  refine ⟨_,results_cell_row rfl _ _ w.heap.size 42 _ (0,0) _ rfl hA Tryz.underlying42 rfl infoWin,rfl,?_⟩
  have hb:=HFIN.out.2.1
  have p1:Below w.heap.size w (Y2.putObj B1.heap.size (.deferred none)):=hb.grown (grownBy_putObj' _ _ _) hb.size (fun r e => by cases e;exact HNE.out.2.2.2.2.2.2.2)
  have p2:Below w.heap.size w ((Y2.putObj B1.heap.size (.deferred none)).putObj B0.heap.size (.deferred none)):=p1.grown (grownBy_putObj' _ _ _) p1.size (fun r e => by cases e;exact HNE.out.2.2.2.2.2.2.1)
  exact p2.grown (grownBy_putObj' _ _ _) p2.size (fun r e => by cases e;omega)
end Go.Proofs.YtcmmdojlhfmddaaGreat.Cs

/- package cascade: Winners AT EVERY TREE whose selectors are answered for, EVERY ELEMENT AND ALL RULES. -/
set_option maxRecDepth 100000
namespace Go.Proofs.YtcmmdojlhfmddaaGreat.Cs
open Go.Proofs.YtcmmdojlhfmddaaGreat.Tre
open Go Go.RowKit Sl Mt Wg
theorem candidates_any (tb:Nat) (e:Int) (g:Nat) (lb:Array Value) (w:World) :
  Calls Tryz.prog 14 #[.pointer (some ⟨tb,0,none⟩),.int .i64 e,.func (.func g) #[] lb] w fun r w' => r = .returned (.func (.func 36) #[] #[.pointer (some ⟨w.heap.size + 1 + 1,0,none⟩),.pointer (some ⟨w.heap.size,0,none⟩),.pointer (some ⟨w.heap.size + 1,0,none⟩)]) ∧
   w' = ((w.alloc (.cells #[.pointer (some ⟨tb,0,none⟩)] 32)).alloc (.cells #[.int .i64 e] 3)).alloc (.cells #[.func (.func g) #[] lb] 62):=by
 go_enter Tryz.func14,Tryz.ntmps14
 go_wp2
 go_ret
 exact ⟨rfl,rfl⟩
theorem sts_sees {n:Nat} {w X:World} {v:Value} {l:List St} (h:StsT n w v l) (hn:n ≤ w.heap.size) (hS:Sees w X):StsT X.heap.size X v l:=by
 have h1:StsT n { X with os:=w.os,tape:=w.tape,output:=w.output } v l:=RowT.below h (hS.above.mono hn) (fun _ _ h => h)
 have h2:StsT n X v l:=h1
 exact RowT.mono h2 (Nat.le_trans hn hS.size) (fun _ _ h => h)
theorem RuleAt.sets {w:World} {bk off:Nat} {x:Rv} (h:RuleAt w bk off x):StsT w.heap.size w x.tv x.r.2:=h.2.2.2
theorem RulesV.sets {w:World} {v:Value} {l:List Rv} (h:RulesV w v l) {x:Rv} (hx:x ∈ l):StsT w.heap.size w x.tv x.r.2:=by
 rcases h with ⟨rfl,_⟩ | ⟨bk,off,c,_,_,_,h⟩
 ·cases hx
 ·obtain ⟨j,hj⟩:=List.mem_iff_getElem?.1 hx
  exact (h j x hj).sets
theorem candsOf_mem {f:Sel → Bool} {l:List Rv} {c:Cv} (h:c ∈ candsOf f l):∃ x ∈ l,c.tp = x.tp ∧ c.tc = x.tc ∧ c.sets = x.r.2 ∧ c.wt < 16777216:=by
 obtain ⟨x,hx,e⟩:=List.mem_filterMap.1 h
 unfold candOf at e
 split at e
 ·cases e
  exact ⟨x,hx,rfl,rfl,rfl,(bestW_okk f x.r.1).1⟩
 ·cases e
set_option maxHeartbeats 1000000 in
theorem winners_any (tb:Nat) (e:Int) (f:Int → Sel → Bool) (v:Value) (l:List Rv) (w0 w:World) (h0:RulesV w0 v l) (hS:Sees w0 w) (hA:RulesAsk 62 (.pointer (some ⟨tb,0,none⟩)) f w0 l) (hln:l.length ≤ 1099511627776) :
  Calls Tryz.prog 7 #[.pointer (some ⟨tb,0,none⟩),.int .i64 e,v] w fun r w' => r = .returned (.agg (winL (winV (candsV (f e) (l.map (·.r))))).toArray) ∧ Below w.heap.size w w':=by
 obtain ⟨p,c,rfl⟩:=h0.len
 obtain ⟨w1,hw1⟩:∃ w1,w.alloc (.cells (winL (fun _ => (0,0))).toArray 42) = w1:=⟨_,rfl⟩
 have a1:WinAt w1 w.heap.size (fun _ => (0,0)):=by rw [← hw1];exact WinAt.new w _
 have b1:Below w.heap.size w w1:=by rw [← hw1];exact (Below.refl _ w).alloc (Nat.le_refl _) _
 have s1:w1.heap.size = w.heap.size + 1:=by rw [← hw1];simp
 obtain ⟨w2,hw2⟩:∃ w2,w1.alloc (.cells #[.slice p l.length c] 41) = w2:=⟨_,rfl⟩
 have b2:Below w1.heap.size w1 w2:=by rw [← hw2];exact (Below.refl _ w1).alloc (Nat.le_refl _) _
 have s2:w2.heap.size = w.heap.size + 2:=by rw [← hw2];simp;omega
 have c2:w2.cell? ⟨w.heap.size + 1,0,none⟩ = some (.slice p l.length c):=by rw [← hw2,← s1];exact (Boxed.new w1 _ _).cell
 obtain ⟨w3,hw3⟩:∃ w3,((w2.alloc (.cells #[.pointer (some ⟨tb,0,none⟩)] 32)).alloc (.cells #[.int .i64 e] 3)).alloc (.cells #[.func (.func 38) #[] #[.pointer (some ⟨w.heap.size + 1,0,none⟩)]] 62) = w3:=⟨_,rfl⟩
 have b3:Below w2.heap.size w2 w3:=by rw [← hw3];exact (((Below.refl _ w2).alloc (Nat.le_refl _) _).alloc (by simp) _).alloc (by simp;omega) _
 have s3:w3.heap.size = w.heap.size + 5:=by rw [← hw3];simp;omega
 have ct:w3.cell? ⟨w.heap.size + 2,0,none⟩ = some (.pointer (some ⟨tb,0,none⟩)):=by
  rw [← hw3,← s2]
  have:=(Boxed.new w2 32 (.pointer (some ⟨tb,0,none⟩))).cell
  exact (World.cell?_of_block ((Below.heap_alloc _ _ _ (by simp;omega)).trans (Below.heap_alloc _ _ _ (by simp)))).trans this
 have ce:w3.cell? ⟨w.heap.size + 2 + 1,0,none⟩ = some (.int .i64 e):=by
  rw [← hw3,← s2]
  have:=(Boxed.new (w2.alloc (.cells #[.pointer (some ⟨tb,0,none⟩)] 32)) 3 (.int .i64 e)).cell
  rw [World.size_alloc] at this
  exact (World.cell?_of_block (Below.heap_alloc _ _ _ (by simp))).trans this
 have cr:w3.cell? ⟨w.heap.size + 2 + 1 + 1,0,none⟩ = some (.func (.func 38) #[] #[.pointer (some ⟨w.heap.size + 1,0,none⟩)]):=by
  rw [← hw3,← s2]
  have:=(Boxed.new ((w2.alloc (.cells #[.pointer (some ⟨tb,0,none⟩)] 32)).alloc (.cells #[.int .i64 e] 3)) 62 (.func (.func 38) #[] #[.pointer (some ⟨w.heap.size + 1,0,none⟩)])).cell
  rw [World.size_alloc,World.size_alloc] at this
  exact this
 have b13:=below_next b1 (below_next b2 b3)
 have cv:w3.cell? ⟨w.heap.size + 1,0,none⟩ = some (.slice p l.length c):=(b3.cell (p:=⟨w.heap.size + 1,0,none⟩) (by simp;omega)).trans c2
 have hseq:=cands_seq 5 w3.heap.size (w.heap.size + 2) (w.heap.size + 2 + 1) (w.heap.size + 2 + 1 + 1) (w.heap.size + 1) (.pointer (some ⟨tb,0,none⟩)) e f _ l w3 (by omega) (by omega) (by omega) (by omega) (Nat.le_refl _) ct ce cr cv w0 h0 (by have:=hS.size;omega) (hS.next b13) hA
 have hwin:=callsIn_wide.1 (winnersOf_any 6 w3.heap.size 36 _ _ w3 egCands (Nat.le_refl _) hseq (fun d hd => by
  obtain ⟨x,hx,e1,e2,e3,e4⟩:=candsOf_mem hd
  refine ⟨by unfold OkN;omega,?_⟩
  rw [e1,e2,e3]
  have h9:=h0.sets hx
  have hs9:=hS.next b13
  exact sts_sees h9 (Nat.le_refl _) hs9) (Nat.le_trans (List.length_filterMap_le _ _) hln))
 rw [candsOf_plain] at hwin
 have hv:=values_any p l.length c w1
 have hc:=candidates_any tb e 38 #[.pointer (some ⟨w.heap.size + 1,0,none⟩)] w2
 have HA:Hid (WinAt w3 w.heap.size (fun _ => (0,0)) ∧ Below w.heap.size w w3):=⟨(a1.next b2).next b3,b13⟩
 rw [hw3,s2] at hc
 rw [hw2,s1] at hv
 clear h0 hA hseq ct ce cr cv c2 b13 b1 b2 b3 a1 hw2 hw3
 go_enter Tryz.func7,Tryz.ntmps7
 go_wp2_with fail
 refine hv.mono ?_
 clear hv
 rintro r x2 ⟨rfl,rfl⟩
 go_wp2_with fail
 refine hc.mono ?_
 clear hc
 rintro r x3 ⟨rfl,rfl⟩
 go_wp2_with fail
 refine hwin.mono ?_
 clear hwin
 rintro r w4 ⟨rfl,b4⟩
 have hA4:=HA.out.1.next b4
 have hB4:=HA.out.2.trans (b4.mono (by have:=HA.out.2.size;omega))
 rename_i hK
 dsimp only
 refine hK _ _ ?_
 refine wpList_store_row rfl 42 _ _ rfl w.heap.size _ rfl rfl 42 _ hA4 infoWin rfl (by simp [winL,Value.oneCell']) ?_
 obtain ⟨Y2,hY2⟩:∃ Y2,w4.setRow w.heap.size (winL (winV (candsV (f e) (l.map (·.r))))).toArray = Y2:=⟨_,rfl⟩
 have sA:WinAt Y2 w.heap.size (winV (candsV (f e) (l.map (·.r)))):=by rw [← hY2];exact setRow_heap _ _ _ _ _ _ hA4
 have bY2:Below w.heap.size w Y2:=by
  refine ⟨?_,?_,?_,?_,fun r hr => ?_⟩
  ·rw [← hY2];exact hB4.os
  ·rw [← hY2];exact hB4.tape
  ·rw [← hY2];exact hB4.output
  ·rw [← hY2];simp;exact hB4.size
  ·rw [← hY2];exact (setRow_other _ _ _ _ (by omega)).trans (hB4.block r hr)
 have HFIN:Hid (WinAt Y2 w.heap.size (winV (candsV (f e) (l.map (·.r)))) ∧ Below w.heap.size w Y2):=⟨sA,bY2⟩
 have hst:w4.setRow w.heap.size (winL (winV (candsV (f e) (l.map (·.r))))).toArray = Y2:=hY2
 rw [hst]
 clear hst hY2 sA bY2 hA4 hB4 b4 HA
 go_wp2_with fail
 refine bodyPost_ret (results_cell_row rfl _ _ w.heap.size 42 _ (0,0) _ rfl HFIN.out.1 Tryz.underlying42 rfl infoWin) rfl ?_
 exact ⟨rfl,HFIN.out.2⟩
end Go.Proofs.YtcmmdojlhfmddaaGreat.Cs

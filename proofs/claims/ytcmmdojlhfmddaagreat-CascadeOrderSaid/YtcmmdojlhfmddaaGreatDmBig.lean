/- package dom: New, at every slice of nodes. -/
import Derived.Test.YtcmmdojlhfmddaaGreatDmTell
set_option maxRecDepth 100000
namespace Go.Proofs.YtcmmdojlhfmddaaGreat.Dm
open Go Go.RowKit
theorem newF_drop {es:List El} {l:List Nd} {k:Nat} {n:Nd} (h:l[k]? = some n):newF es (l.drop k) = match addV es n with
  | .ok es' => newF es' (l.drop (k + 1))
  | .error x => .error x:=by
 obtain ⟨hk,rfl⟩:=List.getElem?_eq_some_iff.1 h
 rw [List.drop_eq_getElem_cons hk]
 rfl
theorem addV_err {es:List El} {n:Nd} {x:Int} (h:addV es n = .error x):x = 10 ∨ x = 11:=by
 unfold addV at h
 split at h
 ·split at h
  ·cases h
  ·cases h;exact .inl rfl
 ·split at h
  ·split at h
   ·cases h;exact .inr rfl
   ·cases h
  ·cases h;exact .inl rfl
def Made (b:Nat) (l:List Nd) (e:Ending) (w':World):Prop:=
 (∃ tb g cap qs,newV l = .ok (qs.map Em.e) ∧ e = .returned (.tuple #[.pointer (some ⟨tb,0,none⟩),.int .i64 0]) ∧ Tr b w' tb g cap qs) ∨ (∃ x,newV l = .error x ∧ e = .returned (.tuple #[.pointer none,.int .i64 x]))
set_option maxHeartbeats 4000000 in
theorem new_any (v:Value) (l:List Nv) (w:World) (hv:NodesAt w.heap.size w v l) (hN:∀ n ∈ l,NdOk n.nd) :
  Calls Tryz.prog 5 #[v] w fun e w' => Made w.heap.size (l.map Nv.nd) e w' ∧ Below w.heap.size w w':=by
 obtain ⟨p,cap,rfl⟩:=hv.row.len
 have hsh:=hv.row.short
 obtain ⟨i0,hi,hz0,hz1,hz2⟩:=info_parts infoEl
 have HN:Hid (∀ n ∈ l,NdOk n.nd):=hN
 have hml:(l.map Nv.nd).length = l.length:=List.length_map _
 clear hN
 by_cases hbig:4096 < l.length
 ·have hb:(4096:Int) < (l.length:Int):=by omega
  have hV:newV (l.map Nv.nd) = .error 3:=by unfold newV;rw [if_pos (by omega)]
  clear hml
  go_enter Tryz.func5,Tryz.ntmps5
  go_wp2
  go_ret2
  exact ⟨.inr ⟨3,hV,rfl⟩,Below.refl _ _⟩
 ·have hb:¬ (4096:Int) < (l.length:Int):=by omega
  have hV:newV (l.map Nv.nd) = newF [] (l.map Nv.nd):=by unfold newV;rw [if_neg (by omega)]
  obtain ⟨w1,hrun,hown,hgrow⟩:=run_makeSlice_owned (P:=Tryz.prog) w w.heap.size 47 73 i0 _ 8 Tryz.underlying47 hi hz0 hz1 .i64 .i64 l.length (by omega) (by rw [hz2];omega) (by unfold maxLen;omega) (Nat.le_refl _)
  have b1:Below w.heap.size w w1:=(Below.refl _ w).grown hgrow (Nat.le_refl _) (fun r e => by cases e)
  have hg1:=(owns_lt hown rfl).2
  have hTr:Tr w.heap.size (w1.alloc (.cells #[.slice (some ⟨w.heap.size,0,none⟩) 0 l.length] 49)) w1.heap.size w.heap.size l.length []:=
   ⟨Blk.new w1 49 [.slice (some ⟨w.heap.size,0,none⟩) 0 l.length],b1.size,hown.alloc _,fun j q h => (by simp at h),fun j q h => (by simp at h),fun j q h => (by simp at h),fun i j q r _ h => (by simp at h)⟩
  have bT:Below w.heap.size w (w1.alloc (.cells #[.slice (some ⟨w.heap.size,0,none⟩) 0 l.length] 49)):=b1.alloc b1.size _
  have HV:Hid (_ = _):=hV
  clear hown hgrow hz0 hz1 hz2 hV
  go_enter Tryz.func5,Tryz.ntmps5
  go_upto_block 0 with fail
  generalize w1.alloc (.cells #[.slice (some ⟨w.heap.size,0,none⟩) 0 l.length] 49) = WT at *
  have htb:=hTr.low
  generalize w1.heap.size = tb at *
  clear hrun b1 hg1 w1
  go_wp2
  go_loopw [18] (fun i wr => ∃ (k:Nat) (qs:List Em),i = .int .i64 k ∧ k ≤ l.length ∧ qs.length = k ∧ Tr w.heap.size wr tb w.heap.size l.length qs ∧ TreeOk (qs.map Em.e) ∧ Hid (newF [] (l.map Nv.nd) = newF (qs.map Em.e) ((l.map Nv.nd).drop k)) ∧ Below w.heap.size w wr) (fun i _ => l.length - (intOf i).toNat)
  case atStart => exact ⟨0,[],rfl,Nat.zero_le _,rfl,hTr,TreeOk.nil,rfl,bT⟩
  case round =>
   clear hTr bT
   obtain ⟨k,qs,rfl,hk,hqk,hTr,hOk,HF,hbw⟩:=hrel
   have hvr:=hv.below hbw
   by_cases hlt:k < l.length
   ·have hki:(k:Int) < (l.length:Int):=by omega
    have hlk:l[k]? = some l[k]:=List.getElem?_eq_getElem hlt
    have hNk:=HN.out _ (List.getElem_mem hlt)
    have hck:=hvr.cls _ (List.getElem_mem hlt)
    have hak:=hvr.ats _ (List.getElem_mem hlt)
    obtain ⟨bk,off,rfl,hbk,hcap,_,hcell⟩:=hvr.row.get hlk
    have x0:=hcell 0 _ rfl
    have x1:=hcell 1 _ rfl
    have x2:=hcell 2 _ rfl
    have x3:=hcell 3 _ rfl
    have x4:=hcell 4 _ rfl
    simp only [Nat.add_zero] at x0
    have HF2:=HF.out
    rw [newF_drop (n:=l[k].nd) (by rw [List.getElem?_map,hlk];rfl)] at HF2
    have HF3:Hid (_ = _):=HF2
    clear HF HF2 hcell hlk
    generalize l[k] = n at *
    obtain ⟨n,cv,av⟩:=n
    simp only at hNk hck hak x0 x1 x2 x3 x4 HF3
    have bA:Below wr.heap.size wr (wr.alloc (.cells #[.int .i64 n.parent,.string n.tag,.string n.id,cv,av] 30)):=(Below.refl _ _).alloc (Nat.le_refl _) _
    have hTA:=hTr.next bA
    have hcA:=hck.below (bA.mono hbw.size)
    have haA:=hak.below (bA.mono hbw.size)
    have bbA:=hbw.trans (bA.mono hbw.size)
    have hadd:Calls Tryz.prog 9 #[.pointer (some ⟨tb,0,none⟩),ndVal n cv av] (wr.alloc (.cells #[.int .i64 n.parent,.string n.tag,.string n.id,cv,av] 30)) (Added w.heap.size tb w.heap.size l.length qs n (wr.alloc (.cells #[.int .i64 n.parent,.string n.tag,.string n.id,cv,av] 30))):=by
     by_cases h0:qs.length = 0
     ·obtain rfl:=List.length_eq_zero_iff.1 h0
      exact add_first w.heap.size tb w.heap.size l.length n cv av _ hTA hcA haA hNk (by omega)
     ·refine add_more w.heap.size tb w.heap.size l.length qs n cv av _ hTA hcA haA hNk (by omega) (by omega) (by omega) (fun j q hq => ?_)
      have h1:(qs.map Em.e)[j]? = some q.e:=by rw [List.getElem?_map,hq];rfl
      have:=hOk.few j q.e h1
      rw [List.length_map] at this
      exact ⟨by omega,hOk.deep j q.e h1⟩
    unfold ndVal Added at hadd
    obtain ⟨pc,cc,rfl⟩:=hck.len
    obtain ⟨pa,ca,rfl⟩:=hak.len
    clear hTr hck hak hcA haA hvr hTA bA
    go_wp2_with fail
    refine hadd.mono ?_
    clear hadd
    rintro e w2 ⟨hcs,b2⟩
    have hb2:=bbA.trans b2
    rcases hcs with ⟨qs',hV2,rfl,hT2⟩ | ⟨x,hV2,rfl⟩
    ·have hF4:=HF3.out
     rw [hV2] at hF4
     have hl2:=addV_length hV2
     rw [List.length_map,List.length_map] at hl2
     have hO2:=addV_ok hOk hV2
     clear hV2 HF3 hOk
     have HF5:Hid (_ = _):=hF4
     clear hF4
     go_wp2
     exact ⟨⟨k + 1,qs',by go_num,by omega,by omega,hT2,hO2,HF5,hb2⟩,by simp [intOf];omega⟩
    ·have hF4:=HF3.out
     rw [hV2] at hF4
     have HF5:Hid (newV (l.map Nv.nd) = .error x):=by show _ = _;rw [HV.out,hF4]
     have hx0:(x != 0) = true:=by
      have:x = 10 ∨ x = 11:=addV_err hV2
      rcases this with rfl | rfl <;> rfl
     clear hF4 HF3 hOk hV2
     go_wp2
     go_ret2
     exact ⟨.inr ⟨x,HF5.out,rfl⟩,hb2⟩
   ·have hki:¬ (k:Int) < (l.length:Int):=by omega
    obtain rfl:k = l.length:=by omega
    have HF5:Hid (newV (l.map Nv.nd) = .ok (qs.map Em.e)):=by
     show _ = _
     rw [HV.out,HF.out,List.drop_eq_nil_iff.2 (by rw [hml];exact Nat.le_refl _)]
     rfl
    clear HF hOk hqk hml
    go_wp2
    go_ret2
    exact ⟨.inl ⟨tb,_,_,qs,HF5.out,rfl,hTr⟩,hbw⟩
end Go.Proofs.YtcmmdojlhfmddaaGreat.Dm

/- The laws' own alive; nodes that a law itself lays. -/
namespace Go.Proofs.YtcmmdojlhfmddaaGreat.Dm
open Go Go.RowKit
theorem nodes_new {w:World} {B:Nat} {l:List Nv} (hB:Blk w B 30 (l.flatMap nvCells)) (hl:l.length ≤ 1000000) (hc:∀ n ∈ l,StrsAt w.heap.size w n.cv n.nd.cls) (ha:∀ n ∈ l,PairsAt w.heap.size w n.av n.nd.ats) :
  NodesAt w.heap.size w (.slice (some ⟨B,0,none⟩) l.length l.length) l:=by
 refine ⟨.inr ⟨B,0,l.length,rfl,Nat.le_refl _,by unfold maxLen;omega,hB.lt,fun j x hj i u hu => ?_⟩,hc,ha⟩
 have hi:i < 5:=(List.getElem?_eq_some_iff.1 hu).1
 rw [Nat.zero_add,cell_of_block (show w.heap[B]? = _ from hB),List.getElem?_toArray,flat_at (sz:=5) (f:=nvCells) (fun _ => rfl) l j x hj i hi]
 exact hu
theorem strs_nil (n₀:Nat) (w:World):StrsAt n₀ w (.slice none 0 0) []:=.inl ⟨rfl,.inl rfl⟩
theorem pairs_nil (n₀:Nat) (w:World):PairsAt n₀ w (.slice none 0 0) []:=.inl ⟨rfl,.inl rfl⟩
def bare (p:Int):Nv:=⟨⟨p,⟨#[]⟩,⟨#[]⟩,[],[]⟩,.slice none 0 0,.slice none 0 0⟩
end Go.Proofs.YtcmmdojlhfmddaaGreat.Dm

/- The laws' own Big: what it tells where it says no. -/
namespace Go.Proofs.YtcmmdojlhfmddaaGreat.Dm
open Go Go.RowKit
def SmallN (n:Nd):Prop:=n.cls.length ≤ 8 ∧ n.ats.length ≤ 8 ∧ n.tag.size ≤ 60 ∧ n.id.size ≤ 60 ∧ (∀ s ∈ n.cls,s.size ≤ 60) ∧ ∀ a ∈ n.ats,a.1.size ≤ 60 ∧ a.2.size ≤ 100
def Bigs2 (l:List Nv) (w:World) (e:Ending) (w':World):Prop:=∃ b,e = .returned (.bool b) ∧ w' = w ∧ (b = false → (l.length ≤ 40 ∧ ∀ n ∈ l,SmallN n.nd) ∨ 4096 < l.length)
theorem Bigs.no {l:List Nv} (w:World) (h:(l.length ≤ 40 ∧ ∀ n ∈ l,SmallN n.nd) ∨ 4096 < l.length):Bigs2 l w (.returned (.bool false)) w:=⟨false,rfl,rfl,fun _ => h⟩
end Go.Proofs.YtcmmdojlhfmddaaGreat.Dm

/- The trees of the laws of chapter 17. -/
import Derived.Test.YtagbjmocjaaioaaGreatDoorSqLive
import Derived.Test.YtagbjmocjaaioaaGreatDoorRfTree
set_option maxRecDepth 100000
namespace Go.Proofs.YtagbjmocjaaioaaGreatDoor.Sq
open Go.Proofs.YtagbjmocjaaioaaGreatDoor.Tre
open Go Go.RowKit Sl Mt Wg Cs Dm
def Both (l:List Nv) (e:Ending) (w':World):Prop:=
 e = .returned (.tuple #[.pointer none,.pointer none,.bool false]) ∨ ∃ tb rb g nv dv ns ds es,e = .returned (.tuple #[.pointer (some ⟨tb,0,none⟩),.pointer (some ⟨rb,0,none⟩),.bool true]) ∧
  Hid (GoodM w' tb es ∧ RTr g w' rb nv dv ns ds ∧ Tells es ns ds ∧ es.length = l.length ∧ l.length ≤ 40 ∧ newV (l.map Nv.nd) = .ok es ∧ ∀ n ∈ l,SmallN n.nd)
theorem gm_new {b tb g cap:Nat} {W:World} {qs:List Em} {l:List Nv} (hV:newV (l.map Nv.nd) = .ok (qs.map Em.e)) (hT:Tr b W tb g cap qs) (hN:∀ n ∈ l,NdOk n.nd) (hM:ML W) (hS:∀ n ∈ l,ShortN n.nd):GoodM W tb (qs.map Em.e) ∧ (qs.map Em.e).length = l.length:=by
 obtain ⟨hO,hel,hl4⟩:=newV_ok hV
 have hel':(qs.map Em.e).length = l.length:=hel.trans (List.length_map ..)
 have hl5:l.length ≤ 4096:=by rw [List.length_map] at hl4;exact hl4
 exact ⟨⟨⟨b,g,cap,qs,hT,rfl⟩,hO,by rw [hel'];exact hl5,newV_nds hV (fun n hn => by obtain ⟨m,hm,rfl⟩:=List.mem_map.1 hn;exact hN m hm),fun e he => by
  obtain ⟨n,hn,e'⟩:=Rf.newV_nds hV e he
  obtain ⟨m,hm,rfl⟩:=List.mem_map.1 hn
  rw [e']
  exact short_low (hS m hm),hM⟩,hel'⟩
set_option maxHeartbeats 4000000 in
theorem both_any (v:Value) (l:List Nv) (w:World) (hM:ML w) (hv:NodesAt w.heap.size w v l) (hN:∀ n ∈ l,NdOk n.nd) :
  Calls Tryz.prog 17 #[v] w fun e w' => Both l e w' ∧ Below w.heap.size w w':=by
 obtain ⟨p,cap,rfl⟩:=hv.row.len
 have h1:=big_small _ l w hv
 have HM:Hid (ML w):=hM
 have HV:Hid (NodesAt w.heap.size w (.slice p l.length cap) l):=hv
 have HN:Hid (∀ n ∈ l,NdOk n.nd):=hN
 clear hv hN hM
 go_enter Tryz.func17,Tryz.ntmps17
 go_wp2_with fail
 refine h1.mono ?_
 clear h1
 rintro e w1 ⟨big,rfl,rfl,hbig⟩
 have h2:=refNew_any _ l w1 HV.out HN.out
 go_wp2_with fail
 refine h2.mono ?_
 clear h2
 rintro e w2 ⟨hm,b2⟩
 have HB:Hid (big = false → (l.length ≤ 40 ∧ ∀ n ∈ l,SmallN n.nd) ∨ 4096 < l.length):=hbig
 clear hbig
 unfold RMade at hm
 rcases hm with ⟨rb,nv,dv,ns,ds,es,hV,rfl,hR,hE⟩ | ⟨x,hV,rfl⟩
 ·cases big with
  | true =>
   clear hV hR hE
   go_wp2
   go_ret3
   exact ⟨.inl rfl,b2⟩
  | false =>
   have h3:=new_any _ l w2 (HV.out.next b2) HN.out
   have HVV:Hid (_ = _):=hV
   have HR:Hid (RTr w1.heap.size w2 rb nv dv ns ds):=hR
   have HE:Hid (Tells es ns ds):=hE
   clear hV hR hE
   go_wp2_with fail
   refine h3.mono ?_
   clear h3
   rintro e w3 ⟨hm,b3⟩
   have b23:=below_next b2 b3
   unfold Made at hm
   rcases hm with ⟨tb,g,cap2,qs,hV2,rfl,hT⟩ | ⟨x,hV2,_⟩
   ·have heq:qs.map Em.e = es:=by have h:=show newV _ = _ from HVV.out;rw [hV2] at h;exact Except.ok.inj h
    obtain ⟨h40,hsm⟩:l.length ≤ 40 ∧ ∀ n ∈ l,SmallN n.nd:=by
     rcases HB.out trivial with h | h
     ·exact h
     ·have:=(newV_ok hV2).2.2
      rw [List.length_map] at this
      omega
    obtain ⟨hG,hle⟩:=gm_new hV2 hT HN.out (HM.out.next b23) (fun n hn => short_small (hsm n hn))
    rw [heq] at hG hle
    have FIN:Hid (GoodM w3 tb es ∧ RTr w1.heap.size w3 rb nv dv ns ds ∧ Tells es ns ds ∧ es.length = l.length ∧ l.length ≤ 40 ∧ newV (l.map Nv.nd) = .ok es ∧ ∀ n ∈ l,SmallN n.nd):=⟨hG,HR.out.next b3,HE.out,hle,h40,HVV.out,hsm⟩
    clear hV2 hT heq hG hle h40 hsm b2 b3
    go_wp2
    go_ret3
    exact ⟨.inr ⟨tb,rb,_,nv,dv,ns,ds,es,rfl,FIN.out⟩,b23⟩
   ·have h:=show newV _ = _ from HVV.out
    rw [hV2] at h
    cases h
 ·have hx0:(x != 0) = true:=by
   rcases newV_err hV with rfl | rfl | rfl <;> rfl
  clear hV
  cases big with
  | true =>
   go_wp2
   go_ret3
   exact ⟨.inl rfl,b2⟩
  | false =>
   go_wp2
   go_ret3
   exact ⟨.inl rfl,b2⟩
end Go.Proofs.YtagbjmocjaaioaaGreatDoor.Sq

/- Without rules all is as at first: plain. -/
namespace Go.Proofs.YtagbjmocjaaioaaGreatDoor.Sq
open Go.Proofs.YtagbjmocjaaioaaGreatDoor.Tre
open Go Go.RowKit Sl Mt Wg Cs
open Dm (El parentV)
def Like (s:Sty):Prop:=∀ p,p < 8 → s p = Cp.rootV p
theorem comp_zero (p n up em:Int) (h:up = Cp.iniV p):Cp.compV p 0 n up em = Cp.iniV p:=by
 unfold Cp.compV Cp.ownV
 simp [h]
theorem of_zero {u:Sty} (h:Like u):Like (Cp.ofV (fun _ => 0) (fun _ => 0) u):=fun p hp => by
 unfold Cp.ofV
 exact comp_zero _ _ _ _ (h p hp)
theorem up_like {l:List Sty} (h:∀ s ∈ l,Like s) (p:Int):Like (upOf l p):=by
 unfold upOf
 split
 ·exact fun _ _ => rfl
 ·cases hx:l[p.toNat]? with
  | none => exact fun _ _ => rfl
  | some s => exact h s (List.mem_of_getElem? hx)
theorem run_like (es:List El):∀ i,∀ s ∈ runTo es (fun _ _ => (0,0)) i,Like s
 | 0,s,h => by cases h
 | i + 1,s,h => by
  rcases List.mem_append.1 h with h | h
  ·exact run_like es i s h
  ·obtain rfl:=List.mem_singleton.1 h
   exact of_zero (up_like (run_like es i) _)
theorem cands_nil (f:Sel → Bool):winV (candsV f []) = fun _ => (0,0):=by
 funext p
 rfl
theorem runV_like (es:List El) (f:Int → Sel → Bool):∀ s ∈ runV es (fun i => winV (candsV (f (i:Int)) (([]:List Rv).map (·.r)))),Like s:=by
 have:(fun i:Nat => winV (candsV (f (i:Int)) (([]:List Rv).map (·.r)))) = fun _ _ => ((0:Int),(0:Int)):=by
  funext i
  exact cands_nil _
 rw [this]
 exact run_like es es.length
theorem runV_len (es:List El) (F:Nat → Nat → Int × Int):(runV es F).length = es.length:=runTo_len es F es.length
theorem src8 {W:World} {b o:Nat} {s:Sty} (h:Cp.SrcAt W b o s):W.cell? ⟨b,o,none⟩ = some (.int .i64 (s 0)) ∧ W.cell? ⟨b,o + 1,none⟩ = some (.int .i64 (s 1)) ∧ W.cell? ⟨b,o + 2,none⟩ = some (.int .i64 (s 2)) ∧ W.cell? ⟨b,o + 3,none⟩ = some (.int .i64 (s 3)) ∧
  W.cell? ⟨b,o + 4,none⟩ = some (.int .i64 (s 4)) ∧ W.cell? ⟨b,o + 5,none⟩ = some (.int .i64 (s 5)) ∧ W.cell? ⟨b,o + 6,none⟩ = some (.int .i64 (s 6)) ∧ W.cell? ⟨b,o + 7,none⟩ = some (.int .i64 (s 7)):=
 ⟨h 0 (by decide),h 1 (by decide),h 2 (by decide),h 3 (by decide),h 4 (by decide),h 5 (by decide),h 6 (by decide),h 7 (by decide)⟩
theorem eq_sty (a:Sty) (w:World):(Op.equalIn 10000 47 (Cp.sty a) (Cp.sty a)).run Tryz.prog w = .ok true w:=by
 rw [show (10000:Nat) = 9999 + 1 from rfl,Op.equalIn]
 simp only [Sem.run_bind,run_underlying Tryz.underlying47,Result.andThen_ok]
 simp only [Std.Legacy.Range.forIn_eq_forIn_range',Std.Legacy.Range.size,Nat.sub_zero,Nat.add_sub_cancel,Nat.div_one,List.range'_succ,List.range'_zero,List.forIn_cons,List.forIn_nil]
 go_simp
end Go.Proofs.YtagbjmocjaaioaaGreatDoor.Sq

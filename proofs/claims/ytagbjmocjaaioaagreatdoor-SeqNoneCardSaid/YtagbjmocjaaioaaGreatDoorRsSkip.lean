/- rules.Skip and the document's own Skip, at every token of a slice that is not too long: the same place. -/
import Derived.Test.YtagbjmocjaaioaaGreatDoorRsMem
import Derived.Test.YtagbjmocjaaioaaGreatDoorEnc
import Derived.OwnWalk
import Derived.Deep.RegionWith
import Derived.Deep.DeepCutAuto
set_option maxRecDepth 100000
namespace Go.Proofs.YtagbjmocjaaioaaGreatDoor
open Go Go.RowKit Go.Shelf
set_option maxHeartbeats 1000000 in
theorem closingOf_any (k:Int) (w:World):Calls Tryz.prog 146 #[.int .i64 k] w fun e w' => e = .returned (.tuple #[.int .i64 (clos k),.bool (decide (0 < clos k))]) ∧ w' = w:=by
 rcases clos_cases k with ⟨rfl,h⟩ | ⟨rfl | rfl,h⟩ | ⟨rfl,h⟩ | ⟨h1,h2,h3,h4,h⟩
 all_goals rw [h]
 all_goals go_enter Tryz.func146,Tryz.ntmps146
 all_goals go_wp2
 all_goals go_ret2
 all_goals exact ⟨rfl,rfl⟩
theorem kds_at {ts:List Bt} {k:Nat} (h:k < ts.length):(kds ts).drop k = ts[k].kind :: (kds ts).drop (k + 1):=by
 have h':k < (kds ts).length:=by rw [kds_length];exact h
 rw [List.drop_eq_getElem_cons h']
 simp [kds]
theorem Stk.push {b:Nat} {W:World} {v:Value} {st:List Int} {c:Int} (h:W.ownsRow b 3 1 v (st.length + 1) (st.reverse.map (Value.int .i64) ++ [.int .i64 c])):Stk b W v (c :: st):=by
 unfold Stk
 rw [List.length_cons,List.reverse_cons,List.map_append]
 exact h
theorem Stk.below {b:Nat} {X Y:World} {v:Value} {st:List Int} {o:Obj} (hb:Below b X X) (h:Stk b X v st) (hB:b ≤ X.heap.size) (hg:(X.alloc o).grownBy Y v.ownBlock):Below b X Y:=
 (hb.alloc hB o).grown hg (by rw [World.size_alloc];omega) (fun j e => (World.ownsRow.lt h j e).1)
theorem skip_out (f:Nat) (hf:f = 108 ∨ f = 47) (v:Value) (ts:List Bt) (i:Int) (w:World) (hv:BtsAt w.heap.size w v ts) (hi:i < 0 ∨ (ts.length:Int) ≤ i) :
  Calls Tryz.prog f #[v,.int .i64 i] w fun e w' => e = .returned (.int .i64 i) ∧ w' = w:=by
 obtain ⟨p,cap,rfl⟩:=hv.len
 by_cases h0:i < 0
 ·rcases hf with rfl | rfl
  ·go_enter Tryz.func108,Tryz.ntmps108
   go_wp2
   go_ret
   exact ⟨rfl,rfl⟩
  ·go_enter Tryz.func47,Tryz.ntmps47
   go_wp2
   go_ret
   exact ⟨rfl,rfl⟩
 ·have h1:(ts.length:Int) ≤ i:=by omega
  rcases hf with rfl | rfl
  ·go_enter Tryz.func108,Tryz.ntmps108
   go_wp2
   go_ret
   exact ⟨rfl,rfl⟩
  ·go_enter Tryz.func47,Tryz.ntmps47
   go_wp2
   go_ret
   exact ⟨rfl,rfl⟩
theorem infoInt5:(Tryz.prog.info? 3).map (fun i => (i.zero,i.size,i.bytes)) = some (some (.int .i64 0),1,8):=by kernel_rfl
set_option maxHeartbeats 4000000 in
theorem skip_in (v:Value) (ts:List Bt) (i:Nat) (w:World) (hv:BtsAt w.heap.size w v ts) (hi:i < ts.length) (hl:ts.length ≤ 1000000) :
  Calls Tryz.prog 108 #[v,.int .i64 i] w fun e w' => e = .returned (.int .i64 ((i + run [] ((kds ts).drop i):Nat):Int)) ∧ Below w.heap.size w w':=by
 obtain ⟨i0,hi0,hz0,hz1,hz2⟩:=info_parts infoInt5
 obtain ⟨p,cap,rfl⟩:=hv.len
 obtain ⟨T,hT⟩:∃ T:Nat,i + run [] ((kds ts).drop i) = T:=⟨_,rfl⟩
 rw [hT]
 have h0:¬ (i:Int) < 0:=by omega
 have h1:¬ (ts.length:Int) ≤ (i:Int):=by omega
 go_enter Tryz.func108,Tryz.ntmps108
 go_wp2
 go_loopw [5,6] (fun o x wr => ∃ (st:List Int) (k:Nat) (v':Value),v' = o ∧ x = .int .i64 k ∧ Stk w.heap.size wr v' st ∧ k ≤ ts.length ∧ st.length ≤ k ∧ k + run st ((kds ts).drop k) = T ∧ Below w.heap.size w wr) (fun _ x _ => ts.length - (intOf x).toNat)
 case atStart => exact ⟨[],i,_,rfl,rfl,Stk.none _ _,by omega,by simp,hT,Below.refl _ _⟩
 case round =>
  obtain ⟨st,k,v',rfl,rfl,hS,hk,hst,hR,hb⟩:=hrel
  clear hT hi h0 h1
  by_cases hlt:k < ts.length
  ·have hki:(k:Int) < (ts.length:Int):=by omega
   rw [kds_at hlt] at hR
   obtain ⟨bk,off,rfl,hbk,_,_,hc,_⟩:=(hv.below hb).get (List.getElem?_eq_getElem hlt)
   have hcl:=closingOf_any ts[k].kind
   generalize ts[k].kind = x at *
   rcases (show 0 < clos x ∨ clos x = 0 by have:=clos_nonneg x;omega) with hx | hx
   ·have hR2:Hid (k + 1 + run (clos x :: st) ((kds ts).drop (k + 1)) = T):=by
     show _ = _
     have ho:=opn_open (st:=st) hx
     rw [run_cons_more _ (by rw [ho];simp),ho] at hR
     omega
    rw [decide_eq_true hx] at hcl
    generalize clos x = y at *
    have hsz:=hb.size
    clear hR
    obtain ⟨pv,cv,rfl⟩:=hS.form
    go_wp2_with fail
    refine (hcl _).mono ?_
    rintro e w1 ⟨rfl,rfl⟩
    go_wp2_with (at_builtin;refine wpList_append_own _ rfl _ _ 58 rfl w.heap.size 3 i0 (.int .i64 0) 1 8 Tryz.underlying58 hi0 hz0 hz1 hz2 rfl (by decide) _ _ _ rfl (World.ownsRow.alloc hS _) ⟨w1.heap.size,0,none⟩ 1 1 [.int .i64 y] rfl rfl (cells_new _ [.int .i64 y] _) (fun u hu => by simp at hu;subst hu;rfl) (by unfold maxLen;omega) (by omega) (by simp;omega) ?_;intro v2 w2 hown2 hgrow2 hnil2;have S2:=Stk.push hown2;obtain ⟨p2,c2,rfl⟩:=S2.form;have hl2:¬ ((List.length (y :: st):Nat):Int) = 0:=(by simp;omega))
    refine ⟨⟨y :: st,k + 1,_,rfl,by go_num,S2,by omega,by simp;omega,hR2,hb.trans (Stk.below (Below.refl _ _) hS hsz hgrow2)⟩,by simp [intOf];omega⟩
   ·rw [hx,show decide ((0:Int) < 0) = false from rfl] at hcl
    cases st with
    | nil =>
     obtain rfl:k + 1 = T:=by rw [run_cons_nil _ (opn_nil hx)] at hR;exact hR
     obtain ⟨pv,cv,rfl⟩:=hS.form
     clear hR
     go_wp2_with fail
     refine (hcl _).mono ?_
     rintro e w1 ⟨rfl,rfl⟩
     go_wp2
     go_ret
     exact ⟨by rw [Int.natCast_add];rfl,hb⟩
    | cons c s =>
     obtain ⟨g,cv,rfl,hg1,hg2,hcell,hS2⟩:=hS.top
     unfold maxLen at hg2
     simp only [List.length_cons] at hst
     by_cases hxc:x = c
     ·subst hxc
      have ho:opn (x :: s) x = s:=by rw [opn_shut hx];simp
      cases s with
      | nil =>
       obtain rfl:k + 1 = T:=by rw [run_cons_nil _ ho] at hR;exact hR
       clear hR ho hS2 hS
       simp only [List.length_nil,Nat.zero_add] at *
       go_wp2_with fail
       refine (hcl _).mono ?_
       rintro e w1 ⟨rfl,rfl⟩
       go_wp2
       go_ret
       exact ⟨by rw [Int.natCast_add];rfl,hb⟩
      | cons d s' =>
       have hR2:Hid (k + 1 + run (d :: s') ((kds ts).drop (k + 1)) = T):=by
        show _ = _
        rw [run_cons_more _ (by rw [ho];simp),ho] at hR
        omega
       clear hR ho
       simp only [List.length_cons] at *
       have hl2:¬ ((s'.length:Int) + 1) = 0:=by omega
       go_wp2_with fail
       refine (hcl _).mono ?_
       rintro e w1 ⟨rfl,rfl⟩
       go_wp2
       refine ⟨⟨d :: s',k + 1,_,rfl,by go_num,hS2,by omega,by simp;omega,hR2,hb⟩,by simp [intOf];omega⟩
     ·have ho:opn (c :: s) x = c :: s:=by rw [opn_shut hx];simp [Ne.symm hxc]
      have hR2:Hid (k + 1 + run (c :: s) ((kds ts).drop (k + 1)) = T):=by
       show _ = _
       rw [run_cons_more _ (by rw [ho];simp),ho] at hR
       omega
      have hxc':(x == c) = false:=by simpa using hxc
      clear hR ho
      have hl2:¬ ((s.length:Int) + 1) = 0:=by omega
      go_wp2_with fail
      refine (hcl _).mono ?_
      rintro e w1 ⟨rfl,rfl⟩
      go_wp2
      refine ⟨⟨c :: s,k + 1,_,rfl,by go_num,hS,by omega,by simp;omega,hR2,hb⟩,by simp [intOf];omega⟩
  ·have hki:¬ (k:Int) < (ts.length:Int):=by omega
   obtain rfl:k = T:=by
    rw [List.drop_eq_nil_iff.2 (by rw [kds_length];omega)] at hR
    exact hR
   have hke:(ts.length:Int) = (k:Int):=by omega
   clear hR
   go_wp2
   go_ret
   exact ⟨rfl,hb⟩
end Go.Proofs.YtagbjmocjaaioaaGreatDoor

/- The document's own Skip, at every token of a slice that is not too long. -/
import Derived.Test.YtcmmdojlhfmddaaGreatRsSkip
set_option maxRecDepth 100000
namespace Go.Proofs.YtcmmdojlhfmddaaGreat
open Go Go.RowKit Go.Shelf
set_option maxHeartbeats 4000000 in
theorem refSkip_in (v:Value) (ts:List Bt) (i:Nat) (w:World) (hv:BtsAt w.heap.size w v ts) (hi:i < ts.length) (hl:ts.length ≤ 1000000) :
  Calls Tryz.prog 40 #[v,.int .i64 i] w fun e w' => e = .returned (.int .i64 ((i + run [] ((kds ts).drop i):Nat):Int)) ∧ Below w.heap.size w w':=by
 obtain ⟨i0,hi0,hz0,hz1,hz2⟩:=info_parts infoInt5
 obtain ⟨p,cap,rfl⟩:=hv.len
 obtain ⟨T,hT⟩:∃ T:Nat,i + run [] ((kds ts).drop i) = T:=⟨_,rfl⟩
 rw [hT]
 have h0:¬ (i:Int) < 0:=by omega
 have h1:¬ (ts.length:Int) ≤ (i:Int):=by omega
 go_enter Tryz.func40,Tryz.ntmps40
 go_wp2
 go_loopw [1,5] (fun x o wr => ∃ (st:List Int) (k:Nat) (v':Value),v' = o ∧ x = .int .i64 k ∧ Stk w.heap.size wr v' st ∧ k < ts.length ∧ st.length ≤ k ∧ k + run st ((kds ts).drop k) = T ∧ Below w.heap.size w wr) (fun x _ _ => ts.length - (intOf x).toNat)
 case atStart => exact ⟨[],i,_,rfl,rfl,Stk.none _ _,by omega,by simp,hT,Below.refl _ _⟩
 case round =>
  obtain ⟨st,k,v',rfl,rfl,hS,hlt,hst,hR,hb⟩:=hrel
  clear hT hi h0 h1
  have hki:(k:Int) < (ts.length:Int):=by omega
  rw [kds_at hlt] at hR
  obtain ⟨bk,off,rfl,hbk,_,_,hc,_⟩:=(hv.below hb).get (List.getElem?_eq_getElem hlt)
  have hcl:=closing_any ts[k].kind
  have hend:k + 1 = ts.length → ∀ s,run s ((kds ts).drop (k + 1)) = 0:=fun e s => by
   rw [List.drop_eq_nil_iff.2 (by rw [kds_length];omega)]
   rfl
  generalize ts[k].kind = x at *
  rcases (show 0 < clos x ∨ clos x = 0 by have:=clos_nonneg x;omega) with hx | hx
  ·have hR2:k + 1 + run (clos x :: st) ((kds ts).drop (k + 1)) = T:=by
    have ho:=opn_open (st:=st) hx
    rw [run_cons_more _ (by rw [ho];simp),ho] at hR
    omega
   generalize clos x = y at *
   have hsz:=hb.size
   clear hR
   obtain ⟨pv,cv,rfl⟩:=hS.form
   by_cases hk1:k + 1 = ts.length
   ·obtain rfl:k + 1 = T:=by rw [hend hk1] at hR2;exact hR2
    have hk2:(k:Int) + 1 = (ts.length:Int):=by omega
    clear hend hR2
    go_wp2_with fail
    refine (hcl _).mono ?_
    rintro e w1 ⟨rfl,rfl⟩
    go_wp2_with (at_builtin;refine wpList_append_own _ rfl _ _ 55 rfl w.heap.size 3 i0 (.int .i64 0) 1 8 Tryz.underlying55 hi0 hz0 hz1 hz2 rfl (by decide) _ _ _ rfl (World.ownsRow.alloc hS _) ⟨w1.heap.size,0,none⟩ 1 1 [.int .i64 y] rfl rfl (cells_new _ [.int .i64 y] _) (fun u hu => by simp at hu;subst hu;rfl) (by unfold maxLen;omega) (by omega) (by simp;omega) ?_;intro v2 w2 hown2 hgrow2 hnil2;have S2:=Stk.push hown2;obtain ⟨p2,c2,rfl⟩:=S2.form;have hl2:¬ ((List.length (y :: st):Nat):Int) = 0:=(by simp;omega))
    go_ret
    exact ⟨by rw [Int.natCast_add];first | rfl | (rw [← hk2];rfl),hb.trans (Stk.below (Below.refl _ _) hS hsz hgrow2)⟩
   ·have hk2:¬ (k:Int) + 1 = (ts.length:Int):=by omega
    have hk3:((k:Int) + 1 == (ts.length:Int)) = false:=by simpa using hk2
    have HR2:Hid _:=hR2
    clear hend hR2
    go_wp2_with fail
    refine (hcl _).mono ?_
    rintro e w1 ⟨rfl,rfl⟩
    go_wp2_with (at_builtin;refine wpList_append_own _ rfl _ _ 55 rfl w.heap.size 3 i0 (.int .i64 0) 1 8 Tryz.underlying55 hi0 hz0 hz1 hz2 rfl (by decide) _ _ _ rfl (World.ownsRow.alloc hS _) ⟨w1.heap.size,0,none⟩ 1 1 [.int .i64 y] rfl rfl (cells_new _ [.int .i64 y] _) (fun u hu => by simp at hu;subst hu;rfl) (by unfold maxLen;omega) (by omega) (by simp;omega) ?_;intro v2 w2 hown2 hgrow2 hnil2;have S2:=Stk.push hown2;obtain ⟨p2,c2,rfl⟩:=S2.form;have hl2:¬ ((List.length (y :: st):Nat):Int) = 0:=(by simp;omega))
    refine ⟨⟨y :: st,k + 1,_,rfl,by go_num,S2,by omega,by simp;omega,HR2,hb.trans (Stk.below (Below.refl _ _) hS hsz hgrow2)⟩,by simp [intOf];omega⟩
  ·rw [hx] at hcl
   cases st with
   | nil =>
    obtain rfl:k + 1 = T:=by rw [run_cons_nil _ (opn_nil hx)] at hR;exact hR
    obtain ⟨pv,cv,rfl⟩:=hS.form
    clear hR hend
    simp only [List.length_nil] at *
    go_wp2_with fail
    refine (hcl _).mono ?_
    rintro e w1 ⟨rfl,rfl⟩
    go_wp2
    go_ret
    exact ⟨by rw [Int.natCast_add];rfl,hb⟩
   | cons c s =>
    obtain ⟨g,cv,rfl,hg1,hg2,hcell,hS2⟩:=hS.top
    unfold maxLen at hg2
    simp only [List.length_cons] at hst
    by_cases hxc:x = c
    ·subst hxc
     have ho:opn (x :: s) x = s:=by rw [opn_shut hx];simp
     cases s with
     | nil =>
      obtain rfl:k + 1 = T:=by rw [run_cons_nil _ ho] at hR;exact hR
      clear hR ho hS2 hS hend
      simp only [List.length_nil,Nat.zero_add] at *
      go_wp2_with fail
      refine (hcl _).mono ?_
      rintro e w1 ⟨rfl,rfl⟩
      go_wp2
      go_ret
      exact ⟨by rw [Int.natCast_add];rfl,hb⟩
     | cons d s' =>
      have hR2:k + 1 + run (d :: s') ((kds ts).drop (k + 1)) = T:=by
       rw [run_cons_more _ (by rw [ho];simp),ho] at hR
       omega
      clear hR ho
      simp only [List.length_cons] at *
      have hl2:¬ ((s'.length:Int) + 1) = 0:=by omega
      by_cases hk1:k + 1 = ts.length
      ·obtain rfl:k + 1 = T:=by rw [hend hk1] at hR2;exact hR2
       have hk2:(k:Int) + 1 = (ts.length:Int):=by omega
       clear hend hR2
       go_wp2_with fail
       refine (hcl _).mono ?_
       rintro e w1 ⟨rfl,rfl⟩
       go_wp2
       go_ret
       exact ⟨by rw [Int.natCast_add];first | rfl | (rw [← hk2];rfl),hb⟩
      ·have hk2:¬ (k:Int) + 1 = (ts.length:Int):=by omega
       have hk3:((k:Int) + 1 == (ts.length:Int)) = false:=by simpa using hk2
       have HR2:Hid _:=hR2
       clear hend hR2
       go_wp2_with fail
       refine (hcl _).mono ?_
       rintro e w1 ⟨rfl,rfl⟩
       go_wp2
       refine ⟨⟨d :: s',k + 1,_,rfl,by go_num,hS2,by omega,by simp;omega,HR2,hb⟩,by simp [intOf];omega⟩
    ·have ho:opn (c :: s) x = c :: s:=by rw [opn_shut hx];simp [Ne.symm hxc]
     have hR2:k + 1 + run (c :: s) ((kds ts).drop (k + 1)) = T:=by
      rw [run_cons_more _ (by rw [ho];simp),ho] at hR
      omega
     have hxc':(x == c) = false:=by simpa using hxc
     clear hR ho
     have hl2:¬ ((s.length:Int) + 1) = 0:=by omega
     by_cases hk1:k + 1 = ts.length
     ·obtain rfl:k + 1 = T:=by rw [hend hk1] at hR2;exact hR2
      have hk2:(k:Int) + 1 = (ts.length:Int):=by omega
      clear hend hR2
      go_wp2_with fail
      refine (hcl _).mono ?_
      rintro e w1 ⟨rfl,rfl⟩
      go_wp2
      go_ret
      exact ⟨by rw [Int.natCast_add];first | rfl | (rw [← hk2];rfl),hb⟩
     ·have hk2:¬ (k:Int) + 1 = (ts.length:Int):=by omega
      have hk3:((k:Int) + 1 == (ts.length:Int)) = false:=by simpa using hk2
      have HR2:Hid _:=hR2
      clear hend hR2
      go_wp2_with fail
      refine (hcl _).mono ?_
      rintro e w1 ⟨rfl,rfl⟩
      go_wp2
      refine ⟨⟨c :: s,k + 1,_,rfl,by go_num,hS,by omega,by simp;omega,HR2,hb⟩,by simp [intOf];omega⟩
end Go.Proofs.YtcmmdojlhfmddaaGreat

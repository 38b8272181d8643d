/- package value: Prop, Name, Inherits, Initial, over the table that its text lays. -/
import Derived.Test.YtagbjmocjaaioaaGreatDoorVlWord
set_option maxRecDepth 100000
namespace Go.Proofs.YtagbjmocjaaioaaGreatDoor.Vl
open Go Go.RowKit
def names:List (List UInt8):=propsT.map (·.1)
def pf:Nat → List (List UInt8) → List UInt8 → Int × Bool
 | _,[],_ => (0,false)
 | k,x :: l,s => if x = s then ((k:Int),true) else pf (k + 1) l s
def propV (s:List UInt8):Int × Bool:=pf 0 names s
theorem pf_step {k:Nat} {x:List UInt8} {s:List UInt8} (hx:names[k]? = some x):pf k (names.drop k) s = if x = s then ((k:Int),true) else pf (k + 1) (names.drop (k + 1)) s:=by
 obtain ⟨hk,rfl⟩:=List.getElem?_eq_some_iff.1 hx
 rw [List.drop_eq_getElem_cons hk]
 rfl
theorem name_of {k:Nat} {r:List UInt8 × Bool × Int} (h:propsT[k]? = some r):names[k]? = some r.1:=by
 unfold names
 rw [List.getElem?_map,h]
 rfl
set_option maxHeartbeats 1000000 in
theorem prop_any (s:ByteArray) (w:World) (hP:PropsAt w.heap.size w) :
  Calls Tryz.prog 116 #[.string s] w fun e w' => e = .returned (.tuple #[.int .i64 (propV s.data.toList).1,.bool (propV s.data.toList).2]) ∧ w' = w:=by
 have hc:=hP.cells
 obtain ⟨V,hV⟩:∃ V,propV s.data.toList = V:=⟨_,rfl⟩
 rw [hV]
 unfold propV at hV
 have HC:Hid (∀ (k:Nat) (r:List UInt8 × Bool × Int),propsT[k]? = some r → w.cell? ⟨0,k * 3,none⟩ = some (.string ⟨r.1.toArray⟩) ∧ w.cell? ⟨0,k * 3 + 1,none⟩ = some (.bool r.2.1) ∧ w.cell? ⟨0,k * 3 + 2,none⟩ = some (.int .i64 r.2.2)):=hc
 clear hc
 go_enter Tryz.func116,Tryz.ntmps116
 go_wp2
 go_loopw [5] (fun i wr => ∃ k:Nat,i = .int .i64 k ∧ k ≤ 8 ∧ Hid (pf k (names.drop k) s.data.toList = V) ∧ w = wr) (fun i _ => 8 - (intOf i).toNat)
 case atStart => exact ⟨0,rfl,by omega,hV,rfl⟩
 case round =>
  obtain ⟨k,rfl,hk,HV,rfl⟩:=hrel
  clear hV
  by_cases hlt:k < 8
  ·have hki:(k:Int) < 8:=by omega
   obtain ⟨r,hr⟩:∃ r,propsT[k]? = some r:=⟨_,List.getElem?_eq_getElem (show k < propsT.length from hlt)⟩
   have hcell:=((show ∀ (k:Nat) (r:List UInt8 × Bool × Int),propsT[k]? = some r → w.cell? ⟨0,k * 3,none⟩ = some (.string ⟨r.1.toArray⟩) ∧ w.cell? ⟨0,k * 3 + 1,none⟩ = some (.bool r.2.1) ∧ w.cell? ⟨0,k * 3 + 2,none⟩ = some (.int .i64 r.2.2) from HC) k r hr).1
   have hst:=pf_step (s:=s.data.toList) (name_of hr)
   rw [show pf k (names.drop k) s.data.toList = V from HV] at hst
   obtain ⟨x,b,m⟩:=r
   simp only at hcell hst
   have hxe:(⟨x.toArray⟩:ByteArray) = s ↔ x = s.data.toList:=⟨fun e => by rw [← e],fun e => by rw [e]⟩
   generalize (⟨x.toArray⟩:ByteArray) = xs at hcell hxe
   clear HV hr HC
   by_cases he:xs = s
   ·subst he
    obtain rfl:((k:Int),true) = V:=by rw [hst,if_pos (hxe.1 rfl)]
    clear hst hxe
    go_wp2
    go_ret2
    exact ⟨rfl,rfl⟩
   ·have HV':Hid (pf (k + 1) (names.drop (k + 1)) s.data.toList = V):=by rw [hst,if_neg (fun e => he (hxe.2 e))];rfl
    have hne:=beq_false he
    clear hst hxe
    go_wp2
    exact ⟨⟨k + 1,by go_num,by omega,HV',trivial⟩,by simp [intOf];omega⟩
  ·have hki:¬ (k:Int) < 8:=by omega
   obtain rfl:k = 8:=by omega
   obtain rfl:((0:Int),false) = V:=HV
   clear HC
   go_wp2
   go_ret2
   exact ⟨rfl,rfl⟩
def propAt (p:Int):List UInt8 × Bool × Int:=if 0 ≤ p ∧ p ≤ 7 then propsT.getD p.toNat ([],false,0) else ([],false,0)
theorem infoProp:(Tryz.prog.info? 161).map (·.size) = some 3:=by kernel_rfl
theorem load_prop {w:World} {g:Nat} {a b c:Value} (h:Blk w g 161 [a,b,c]):(loadVar 161 ⟨g,0,none⟩).run Tryz.prog w = .ok (.agg #[a,b,c]) w:=
 run_loadVar_row w g _ 161 #[a,b,c] (0,0) _ h Tryz.underlying161 rfl infoProp
theorem results_struct {fn:Func} {p:Tmp} {ty:TypeId} (h:fn.results = #[.cell p ty]) (tmps:Array Value) (w:World) (g:Nat) (x:Value)
  (hp:tmps.getD p undef = .pointer (some ⟨g,0,none⟩)) (hl:(loadVar ty ⟨g,0,none⟩).run Tryz.prog w = .ok x w) :
  (results fn tmps).run Tryz.prog w = .ok x w:=by
 have hp':tmps[p]?.getD undef = .pointer (some ⟨g,0,none⟩):=by simpa using hp
 simp [results,h,hp',asAddr,hl]
set_option maxHeartbeats 1000000 in
theorem of_any (p:Int) (w:World) (hP:PropsAt w.heap.size w) :
  Calls Tryz.prog 89 #[.int .i64 p] w fun e w' => e = .returned (.agg #[.string ⟨(propAt p).1.toArray⟩,.bool (propAt p).2.1,.int .i64 (propAt p).2.2]) ∧ Below w.heap.size w w':=by
 have hip:=isProp_any p
 have bz:Below w.heap.size w (w.alloc (.cells #[.string ⟨#[]⟩,.bool false,.int .i64 0] 161)):=(Below.refl _ _).alloc (Nat.le_refl _) _
 have k0:=Blk.new w 161 [.string ⟨#[]⟩,.bool false,.int .i64 0]
 have hc:=((hP.below bz).mono bz.size).cells
 obtain ⟨V,hV⟩:∃ V,propAt p = V:=⟨_,rfl⟩
 rw [hV]
 unfold propAt at hV
 go_enter Tryz.func89,Tryz.ntmps89
 go_upto_region 1 with fail
 replace k0:Blk (w.alloc (.cells #[.string ⟨#[]⟩,.bool false,.int .i64 0] 161)) w.heap.size _ _:=k0
 generalize w.alloc (.cells #[.string ⟨#[]⟩,.bool false,.int .i64 0] 161) = W at *
 obtain ⟨⟨c0,c1,c2⟩,f0,f1,f2⟩:=blk3 k0
 have hB:=k0.lt
 have HF:Hid (∀ a b c,Below w.heap.size w (set3 W w.heap.size a b c)):=fun a b c => below_grew bz (grown_set3 W w.heap.size a b c) (by omega) (Nat.le_refl _)
 by_cases hp:0 ≤ p ∧ p ≤ 7
 ·rw [decide_eq_true hp] at hip
  rw [if_pos hp] at hV
  obtain ⟨k,rfl⟩:∃ k:Nat,p = k:=⟨p.toNat,by omega⟩
  have hk:k < 8:=by omega
  have hki:(k:Int) < 8:=by omega
  rw [Int.toNat_natCast] at hV
  obtain ⟨r,hr⟩:∃ r,propsT[k]? = some r:=⟨_,List.getElem?_eq_getElem (show k < propsT.length from hk)⟩
  obtain rfl:r = V:=by rw [← hV,List.getD_eq_getElem?_getD,hr];rfl
  obtain ⟨x0,x1,x2⟩:=hc k r hr
  obtain ⟨x,b,m⟩:=r
  simp only at x0 x1 x2
  clear hV hr hc hp
  go_wp2_with fail
  refine (hip _).mono ?_
  clear hip
  rintro e w1 ⟨rfl,rfl⟩
  go_wp2
  refine bodyPost_ret (results_struct rfl _ _ w.heap.size _ rfl (load_prop (blk_set3 k0 _ _ _))) rfl ?_
  exact ⟨rfl,HF _ _ _⟩
 ·rw [decide_eq_false hp] at hip
  rw [if_neg hp] at hV
  subst hV
  clear hc hp
  go_wp2_with fail
  refine (hip _).mono ?_
  clear hip
  rintro e w1 ⟨rfl,rfl⟩
  go_wp2
  refine bodyPost_ret (results_struct rfl _ _ w.heap.size _ rfl (load_prop (blk_set3 k0 _ _ _))) rfl ?_
  exact ⟨rfl,HF _ _ _⟩
theorem field1 (x:ByteArray) (b:Bool) (m:Int) (w:World):(Instr.field 161 (.agg #[.string x,.bool b,.int .i64 m]) 1).run Tryz.prog w = .ok (.bool b) w:=by kernel_rfl
theorem field2 (x:ByteArray) (b:Bool) (m:Int) (w:World):(Instr.field 161 (.agg #[.string x,.bool b,.int .i64 m]) 2).run Tryz.prog w = .ok (.int .i64 m) w:=by kernel_rfl
set_option maxHeartbeats 400000 in
theorem inherits_any (p:Int) (w:World) (hP:PropsAt w.heap.size w):Calls Tryz.prog 80 #[.int .i64 p] w fun e w' => e = .returned (.bool (propAt p).2.1) ∧ Below w.heap.size w w':=by
 have h:=of_any p w hP
 generalize propAt p = r at *
 go_enter Tryz.func80,Tryz.ntmps80
 go_wp2_with fail
 refine h.mono ?_
 clear h
 rintro e w1 ⟨rfl,b1⟩
 have hf:=field1 ⟨r.1.toArray⟩ r.2.1 r.2.2 w1
 go_wp2
 go_ret
 exact ⟨rfl,b1⟩
set_option maxHeartbeats 400000 in
theorem initial_any (p:Int) (w:World) (hP:PropsAt w.heap.size w):Calls Tryz.prog 45 #[.int .i64 p] w fun e w' => e = .returned (.int .i64 (propAt p).2.2) ∧ Below w.heap.size w w':=by
 have h:=of_any p w hP
 generalize propAt p = r at *
 go_enter Tryz.func45,Tryz.ntmps45
 go_wp2_with fail
 refine h.mono ?_
 clear h
 rintro e w1 ⟨rfl,b1⟩
 have hf:=field2 ⟨r.1.toArray⟩ r.2.1 r.2.2 w1
 go_wp2
 go_ret
 exact ⟨rfl,b1⟩
end Go.Proofs.YtagbjmocjaaioaaGreatDoor.Vl

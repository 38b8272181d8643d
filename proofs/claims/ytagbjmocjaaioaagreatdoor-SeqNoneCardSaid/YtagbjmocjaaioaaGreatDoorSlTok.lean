/- One token as a value; results of structs; slices of ints: is one among them? -/
import Derived.Test.YtagbjmocjaaioaaGreatDoorSlMem
set_option maxRecDepth 100000
namespace Go.Proofs.YtagbjmocjaaioaaGreatDoor.Sl
open Go.Proofs.YtagbjmocjaaioaaGreatDoor.Tre
open Go Go.RowKit
def zeroT:Bt:=⟨0,⟨#[]⟩,0,false,0⟩
def at' (r:List Bt) (k:Nat):Bt:=r[k]?.getD zeroT
theorem at_lt {ts:List Bt} {a:Nat} (h:(at' ts a).kind ≠ 0):a < ts.length:=by
 by_cases hl:a < ts.length
 ·exact hl
 ·refine absurd ?_ h
  unfold at'
  rw [List.getElem?_eq_none (by omega)]
  rfl
theorem at_cons {ts:List Bt} {a:Nat} (h:a < ts.length):ts.drop a = at' ts a :: ts.drop (a + 1):=by
 rw [List.drop_eq_getElem_cons h,at',List.getElem?_eq_getElem h]
 rfl
theorem at_none {ts:List Bt} {a:Nat} (h:ts.length ≤ a):ts.drop a = [] ∧ at' ts a = zeroT:=
 ⟨List.drop_eq_nil_of_le h,by unfold at';rw [List.getElem?_eq_none h];rfl⟩
def Good (ts:List Bt):Prop:=∀ t ∈ ts,t.text.size ≤ 1000000 ∧ -9223372036854775808 ≤ t.n ∧ t.n ≤ 9223372036854775807
theorem Good.at {ts:List Bt} (h:Good ts) (a:Nat):(at' ts a).text.size ≤ 1000000 ∧ -9223372036854775808 ≤ (at' ts a).n ∧ (at' ts a).n ≤ 9223372036854775807:=by
 unfold at'
 cases e:ts[a]? with
 | none => decide
 | some t => exact h t (List.mem_of_getElem? e)
theorem infoTkS:(Tryz.prog.info? 108).map (·.size) = some 5:=by kernel_rfl
theorem load_tk {w:World} {g:Nat} {a b c d e:Value} (h:Blk w g 108 [a,b,c,d,e]):(loadVar 108 ⟨g,0,none⟩).run Tryz.prog w = .ok (.agg #[a,b,c,d,e]) w:=
 run_loadVar_row w g _ 108 #[a,b,c,d,e] (0,0) _ h Tryz.underlying108 rfl infoTkS
def tkV (t:Bt):Value:=.agg #[.int .i64 t.kind,.string t.text,.int .i64 t.n,.bool t.whole,.int .i64 t.c]
theorem results_struct {fn:Func} {p:Tmp} {ty:TypeId} (h:fn.results = #[.cell p ty]) (tmps:Array Value) (w:World) (g:Nat) (x:Value)
  (hp:tmps.getD p undef = .pointer (some ⟨g,0,none⟩)) (hl:(loadVar ty ⟨g,0,none⟩).run Tryz.prog w = .ok x w) :
  (results fn tmps).run Tryz.prog w = .ok x w:=by
 have hp':tmps[p]?.getD undef = .pointer (some ⟨g,0,none⟩):=by simpa using hp
 simp [results,h,hp',asAddr,hl]
theorem results_struct_tmp {fn:Func} {p q:Tmp} {ty:TypeId} (h:fn.results = #[.cell p ty,.tmp q]) (tmps:Array Value) (w:World) (g:Nat) (x:Value)
  (hp:tmps.getD p undef = .pointer (some ⟨g,0,none⟩)) (hl:(loadVar ty ⟨g,0,none⟩).run Tryz.prog w = .ok x w) :
  (results fn tmps).run Tryz.prog w = .ok (.tuple #[x,tmps.getD q undef]) w:=by
 have hp':tmps[p]?.getD undef = .pointer (some ⟨g,0,none⟩):=by simpa using hp
 simp [results,h,hp',asAddr,hl]
theorem ints_new (W:World) (l:List Int) (t:TypeId) (hl:l.length ≤ 1000000):IntsAt (W.heap.size + 1) (W.alloc (.cells (l.map (Value.int .i64)).toArray t)) (.slice (some ⟨W.heap.size,0,none⟩) l.length l.length) l:=by
 refine .inr ⟨W.heap.size,0,l.length,rfl,Nat.le_refl _,by unfold maxLen;omega,by omega,fun j u hj => ?_⟩
 rw [Nat.zero_add,cell_of_block (heap_alloc_new W _) j]
 simp [hj]
set_option maxHeartbeats 1000000 in
theorem index_any (v:Value) (l:List Int) (x:Int) (w:World) (hv:IntsAt w.heap.size w v l) (hl:l.length ≤ 1000000) :
  Calls Tryz.prog 183 #[v,.int .i64 x] w fun e w' => (∃ r:Int,e = .returned (.int .i64 r) ∧ decide (0 ≤ r) = l.contains x) ∧ w' = w:=by
 obtain ⟨p,cap,rfl⟩:=hv.len
 obtain ⟨B,hB⟩:∃ B,l.contains x = B:=⟨_,rfl⟩
 rw [hB]
 go_enter Tryz.func183,Tryz.ntmps183
 go_wp2
 go_loopw [8] (fun y wr => ∃ k:Nat,y = .int .i64 k ∧ k ≤ l.length ∧ (l.take k).contains x = false ∧ wr = w) (fun y _ => l.length - (intOf y).toNat)
 case atStart => exact ⟨0,rfl,Nat.zero_le _,rfl,rfl⟩
 case round =>
  obtain ⟨k,rfl,hk,hn,rfl⟩:=hrel
  by_cases hlt:k < l.length
  ·have hki:(k:Int) < (l.length:Int):=by omega
   obtain ⟨bk,off,hp,hcell⟩:∃ bk off,p = some ⟨bk,off,none⟩ ∧ ∀ j u,l[j]? = some u → wr.cell? ⟨bk,off + j,none⟩ = some (.int .i64 u):=by
    rcases hv with ⟨rfl,_⟩ | ⟨bk,off,c,e,_,_,_,h⟩
    ·simp at hlt
    ·cases e;exact ⟨bk,off,rfl,h⟩
   subst hp
   have c0:=hcell k _ (List.getElem?_eq_getElem hlt)
   by_cases hx:x = l[k]
   ·have hin:l.contains x = true:=by rw [hx];simp
    obtain rfl:B = true:=hB.symm.trans hin
    clear hcell hv hn hB hin
    generalize l[k] = u at *
    subst hx
    go_wp2
    go_ret
    exact ⟨⟨_,rfl,by simp⟩,rfl⟩
   ·have hx':(x == l[k]) = false:=by simpa using hx
    have HN:Hid ((l.take (k + 1)).contains x = false):=by
     show _ = _
     rw [List.take_succ_eq_append_getElem hlt]
     simp only [List.contains_eq_any_beq,List.any_append,List.any_cons,List.any_nil,Bool.or_false] at hn ⊢
     rw [hn,Bool.false_or]
     exact hx'
    have HB:Hid (l.contains x = B):=hB
    clear hcell hv hn hB
    generalize l[k] = u at *
    go_wp2
    exact ⟨⟨k + 1,by go_num,by omega,HN,by first | rfl | trivial⟩,by simp [intOf];omega⟩
  ·have hki:¬ (k:Int) < (l.length:Int):=by omega
   rw [List.take_of_length_le (by omega)] at hn
   obtain rfl:B = false:=hB.symm.trans hn
   clear hn hv hB
   go_wp2
   go_ret
   exact ⟨⟨-1,rfl,by decide⟩,rfl⟩
theorem contains_any (v:Value) (l:List Int) (x:Int) (w:World) (hv:IntsAt w.heap.size w v l) (hl:l.length ≤ 1000000) :
  Calls Tryz.prog 148 #[v,.int .i64 x] w fun e w' => e = .returned (.bool (l.contains x)) ∧ w' = w:=by
 have h:=index_any v l x w hv hl
 obtain ⟨p,cap,rfl⟩:=hv.len
 generalize l.contains x = B at *
 go_enter Tryz.func148,Tryz.ntmps148
 go_wp2_with fail
 refine h.mono ?_
 rintro e w' ⟨⟨r,rfl,hr⟩,rfl⟩
 subst hr
 go_wp2
 go_ret
 exact ⟨rfl,rfl⟩
/-! ### a child's number, by places -/
end Go.Proofs.YtagbjmocjaaioaaGreatDoor.Sl

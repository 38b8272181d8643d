/- rules.Skip and the document's own Skip, at every token of a slice that is not too long: the same place. -/
import Derived.Test.YtcmmdojlhfmddaaGreatRsMem
import Derived.Test.YtcmmdojlhfmddaaGreatEnc
import Derived.OwnWalk
import Derived.Deep.RegionWith
import Derived.Deep.DeepCutAuto
namespace Go.Proofs.YtcmmdojlhfmddaaGreat
open Go Go.RowKit Go.Shelf
set_option maxHeartbeats 1000000 in
theorem closing_any (k:Int) (w:World):Calls Tryz.prog 64 #[.int .i64 k] w fun e w' => e = .returned (.int .i64 (clos k)) ∧ w' = w:=by
 rcases clos_cases k with ⟨rfl,h⟩ | ⟨rfl | rfl,h⟩ | ⟨rfl,h⟩ | ⟨h1,h2,h3,h4,h⟩
 all_goals rw [h]
 all_goals go_enter Tryz.func64,Tryz.ntmps64
 all_goals go_wp2
 all_goals go_ret
 all_goals exact ⟨rfl,rfl⟩
theorem kds_at {ts:List Bt} {k:Nat} (h:k < ts.length):(kds ts).drop k = ts[k].kind :: (kds ts).drop (k + 1):=by
 have h':k < (kds ts).length:=by rw [kds_length];exact h
 rw [List.drop_eq_getElem_cons h']
 simp [kds]
theorem Stk.push {b:Nat} {W:World} {v:Value} {st:List Int} {c:Int} (h:W.ownsRow b 3 1 v (st.length + 1) (st.reverse.map (Value.int .i64) ++ [.int .i64 c])):Stk b W v (c :: st):=by
 unfold Stk
 rw [List.length_cons,List.reverse_cons,List.map_append]
 exact h
theorem Stk.below {b:Nat} {X Y:World} {v:Value} {st:List Int} {o:Obj} (hb:Below b X X) (h:Stk b X v st) (hB:b ≤ X.heap.size) (hg:(X.alloc o).grownBy Y v.ownBlock):Below b X Y:=
 (hb.alloc hB o).grown hg (by rw [World.size_alloc];omega) (fun j e => (World.ownsRow.lt h j e).1)
theorem infoInt5:(Tryz.prog.info? 3).map (fun i => (i.zero,i.size,i.bytes)) = some (some (.int .i64 0),1,8):=by kernel_rfl
end Go.Proofs.YtcmmdojlhfmddaaGreat

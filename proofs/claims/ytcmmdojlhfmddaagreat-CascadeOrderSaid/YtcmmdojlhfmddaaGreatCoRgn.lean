/- A law of the walk: three operations of a region that draws may come up. -/
import Derived.Test.YtcmmdojlhfmddaaGreatRgn
namespace Go.Proofs.YtcmmdojlhfmddaaGreat.Rg
open Go
variable {P:Program} {ops:Array Oper} {Q:Exit → Act → World → Prop} {md:Region.Mode} {D:List Nat} {S:World → Prop}
theorem wpD_three (i j k:Nat) {o p q:Oper} {fuel:Nat} {listed:Array Bool} {a:Act} {w:World} (hr:Region.ready md ops listed = [i,j,k]) (ho:ops[i]? = some o) (hp:ops[j]? = some p) (hq:ops[k]? = some q)
  (h:∀ K':Act → World → Prop,(∀ a w,(i ∈ D → S w) → wpAnyD P md ops Q D S fuel (listed.setIfInBounds i true) a w → K' a w) → if Region.wanted o (yielded ops a.tmps) = true then Oper.wp P o a w K' Q else K' (a.put o.dst undef) w)
  (h':∀ K':Act → World → Prop,(∀ a w,(j ∈ D → S w) → wpAnyD P md ops Q D S fuel (listed.setIfInBounds j true) a w → K' a w) → if Region.wanted p (yielded ops a.tmps) = true then Oper.wp P p a w K' Q else K' (a.put p.dst undef) w)
  (h'':∀ K':Act → World → Prop,(∀ a w,(k ∈ D → S w) → wpAnyD P md ops Q D S fuel (listed.setIfInBounds k true) a w → K' a w) → if Region.wanted q (yielded ops a.tmps) = true then Oper.wp P q a w K' Q else K' (a.put q.dst undef) w) :
  wpAnyD P md ops Q D S (fuel + 1) listed a w:=
 ⟨fun h0 => (by rw [hr] at h0;cases h0),fun m hm => by
  rw [hr] at hm
  rcases List.mem_cons.1 hm with rfl | hm
  ·exact wpOp_step ho (fun K' hK => h K' (fun a w h1 h2 => hK a w ⟨h1,h2⟩))
  ·rcases List.mem_cons.1 hm with rfl | hm
   ·exact wpOp_step hp (fun K' hK => h' K' (fun a w h1 h2 => hK a w ⟨h1,h2⟩))
   ·obtain rfl:=List.mem_singleton.1 hm
    exact wpOp_step hq (fun K' hK => h'' K' (fun a w h1 h2 => hK a w ⟨h1,h2⟩))⟩
theorem tw (i j:Nat) {o p:Oper} {fuel:Nat} {listed:Array Bool} {a:Act} {w:World}
  (h:∀ K':Act → World → Prop,(∀ a w,(i ∈ D → S w) → wpAnyD P md ops Q D S fuel (listed.setIfInBounds i true) a w → K' a w) → if Region.wanted o (yielded ops a.tmps) = true then Oper.wp P o a w K' Q else K' (a.put o.dst undef) w)
  (h':∀ K':Act → World → Prop,(∀ a w,(j ∈ D → S w) → wpAnyD P md ops Q D S fuel (listed.setIfInBounds j true) a w → K' a w) → if Region.wanted p (yielded ops a.tmps) = true then Oper.wp P p a w K' Q else K' (a.put p.dst undef) w)
  (hr:Region.ready md ops listed = [i,j]:=by kernel_rfl) (ho:ops[i]? = some o:=by simp only [List.getElem?_toArray,List.getElem?_cons_succ,List.getElem?_cons_zero];rfl) (hp:ops[j]? = some p:=by simp only [List.getElem?_toArray,List.getElem?_cons_succ,List.getElem?_cons_zero];rfl) :
  wpAnyD P md ops Q D S (fuel + 1) listed a w:=wpD_two i j hr ho hp h h'
theorem th (i j k:Nat) {o p q:Oper} {fuel:Nat} {listed:Array Bool} {a:Act} {w:World}
  (h:∀ K':Act → World → Prop,(∀ a w,(i ∈ D → S w) → wpAnyD P md ops Q D S fuel (listed.setIfInBounds i true) a w → K' a w) → if Region.wanted o (yielded ops a.tmps) = true then Oper.wp P o a w K' Q else K' (a.put o.dst undef) w)
  (h':∀ K':Act → World → Prop,(∀ a w,(j ∈ D → S w) → wpAnyD P md ops Q D S fuel (listed.setIfInBounds j true) a w → K' a w) → if Region.wanted p (yielded ops a.tmps) = true then Oper.wp P p a w K' Q else K' (a.put p.dst undef) w)
  (h'':∀ K':Act → World → Prop,(∀ a w,(k ∈ D → S w) → wpAnyD P md ops Q D S fuel (listed.setIfInBounds k true) a w → K' a w) → if Region.wanted q (yielded ops a.tmps) = true then Oper.wp P q a w K' Q else K' (a.put q.dst undef) w)
  (hr:Region.ready md ops listed = [i,j,k]:=by kernel_rfl) (ho:ops[i]? = some o:=by simp only [List.getElem?_toArray,List.getElem?_cons_succ,List.getElem?_cons_zero];rfl) (hp:ops[j]? = some p:=by simp only [List.getElem?_toArray,List.getElem?_cons_succ,List.getElem?_cons_zero];rfl) (hq:ops[k]? = some q:=by simp only [List.getElem?_toArray,List.getElem?_cons_succ,List.getElem?_cons_zero];rfl) :
  wpAnyD P md ops Q D S (fuel + 1) listed a w:=wpD_three i j k hr ho hp hq h h' h''
end Go.Proofs.YtcmmdojlhfmddaaGreat.Rg

/- The document's own tree: is, Parent, Depth, Node. -/
import Derived.Test.YtnemagmakgiheaaGreatDmGd
import Derived.Test.YtnemagmakgiheaaGreatDmGb
set_option maxRecDepth 100000
namespace Go.Proofs.YtnemagmakgiheaaGreat.Dm
open Go Go.RowKit
theorem RTr.form {b:Nat} {W:World} {tb:Nat} {nv dv:Value} {ns:List Nv} {ds:List Int} (h:RTr b W tb nv dv ns ds):(∃ p c,nv = .slice p ns.length c) ∧ (∃ p c,dv = .slice p ds.length c):=by
 refine ⟨owns_form h.row,?_⟩
 have:=owns_form h.dep
 exact this
theorem Tells.at {es:List El} {ns:List Nv} {ds:List Int} (h:Tells es ns ds) {k:Nat} {n:Nv} (hn:ns[k]? = some n):∃ q,es[k]? = some q ∧ q.nd = n.nd ∧ ds[k]? = some (q.depth:Int):=by
 have h1:(ns.map Nv.nd)[k]? = some n.nd:=by rw [List.getElem?_map,hn];rfl
 rw [h.nds,List.getElem?_map] at h1
 obtain ⟨q,hq,hqn⟩:=Option.map_eq_some_iff.1 h1
 exact ⟨q,hq,hqn,by rw [h.dep];unfold depI;rw [List.getElem?_map,hq];rfl⟩
set_option maxHeartbeats 1000000 in
theorem refIs_any (b tb:Nat) (nv dv:Value) (ns:List Nv) (ds:List Int) (e:Int) (w:World) (hT:RTr b w tb nv dv ns ds) :
  Calls Tryz.prog 74 #[.pointer (some ⟨tb,0,none⟩),.int .i64 e] w fun x w' => x = .returned (.bool (decide (0 ≤ e ∧ e < (ns.length:Int)))) ∧ w' = w:=by
 obtain ⟨⟨c0,_⟩,_⟩:=blk2 hT.blk
 obtain ⟨⟨p,c,rfl⟩,_⟩:=hT.form
 clear hT
 by_cases h0:0 ≤ e
 ·by_cases h1:e < (ns.length:Int)
  ·rw [decide_eq_true ⟨h0,h1⟩]
   go_enter Tryz.func74,Tryz.ntmps74
   go_wp2
   go_ret
   exact ⟨rfl,rfl⟩
  ·rw [decide_eq_false (fun h => h1 h.2)]
   go_enter Tryz.func74,Tryz.ntmps74
   go_wp2
   go_ret
   exact ⟨rfl,rfl⟩
 ·rw [decide_eq_false (fun h => h0 h.1)]
  go_enter Tryz.func74,Tryz.ntmps74
  go_wp2
  go_ret
  exact ⟨rfl,rfl⟩
theorem RTr.get {b:Nat} {W:World} {tb:Nat} {nv dv:Value} {ns:List Nv} {ds:List Int} (h:RTr b W tb nv dv ns ds) {k:Nat} {n:Nv} (hn:ns[k]? = some n) :
  ∃ g c,nv = .slice (some ⟨g,0,none⟩) ns.length c ∧ ns.length ≤ c ∧ c ≤ maxLen ∧ W.cell? ⟨g,k * 5,none⟩ = some (.int .i64 n.nd.parent) ∧ W.cell? ⟨g,k * 5 + 1,none⟩ = some (.string n.nd.tag) ∧ W.cell? ⟨g,k * 5 + 2,none⟩ = some (.string n.nd.id) ∧ W.cell? ⟨g,k * 5 + 3,none⟩ = some n.cv ∧ W.cell? ⟨g,k * 5 + 4,none⟩ = some n.av:=by
 have hk:k < ns.length:=(List.getElem?_eq_some_iff.1 hn).1
 rcases h.row.2 with ⟨rfl,h0⟩ | ⟨g,c,cur,hv,_,_,h1,h2,_⟩
 ·omega
 ·subst hv
  have hc:∀ i u,(nvCells n)[i]? = some u → W.cell? ⟨g,k * 5 + i,none⟩ = some u:=fun i u hu => by
   have hi:i < 5:=(List.getElem?_eq_some_iff.1 hu).1
   rw [h.row.cellAt _ (by omega),flat_at (f:=nvCells) (fun _ => rfl) ns k n hn i hi]
   exact hu
  exact ⟨g,c,rfl,h1,h2,hc 0 _ rfl,hc 1 _ rfl,hc 2 _ rfl,hc 3 _ rfl,hc 4 _ rfl⟩
theorem RTr.getD {b:Nat} {W:World} {tb:Nat} {nv dv:Value} {ns:List Nv} {ds:List Int} (h:RTr b W tb nv dv ns ds) {k:Nat} {d:Int} (hn:ds[k]? = some d) :
  ∃ g c,dv = .slice (some ⟨g,0,none⟩) ds.length c ∧ ds.length ≤ c ∧ c ≤ maxLen ∧ W.cell? ⟨g,k,none⟩ = some (.int .i64 d):=by
 have hk:k < ds.length:=(List.getElem?_eq_some_iff.1 hn).1
 have hr:=h.dep
 unfold IntRow at hr
 rcases hr.2 with ⟨rfl,h0⟩ | ⟨g,c,cur,hv,_,_,h1,h2,_⟩
 ·omega
 ·subst hv
  exact ⟨g,c,rfl,h1,h2,by rw [hr.cellAt _ (by omega),List.getElem?_map,hn];rfl⟩
set_option maxHeartbeats 1000000 in
theorem refParent_any (b tb:Nat) (nv dv:Value) (ns:List Nv) (ds:List Int) (es:List El) (e:Int) (w:World) (hT:RTr b w tb nv dv ns ds) (hE:Tells es ns ds) :
  Calls Tryz.prog 130 #[.pointer (some ⟨tb,0,none⟩),.int .i64 e] w fun x w' => x = .returned (.int .i64 (parentV es e)) ∧ w' = w:=by
 have hh:=refIs_any b tb nv dv ns ds e w hT
 obtain ⟨⟨c0,_⟩,_⟩:=blk2 hT.blk
 by_cases hin:0 ≤ e ∧ e < (ns.length:Int)
 ·rw [decide_eq_true hin] at hh
  obtain ⟨k,rfl⟩:∃ k:Nat,e = (k:Int):=⟨e.toNat,by omega⟩
  have hk:k < ns.length:=by omega
  obtain ⟨n,hn⟩:∃ n,ns[k]? = some n:=⟨_,List.getElem?_eq_getElem hk⟩
  obtain ⟨q,hq,hqn,_⟩:=hE.at hn
  have hV:parentV es (k:Int) = n.nd.parent:=by unfold parentV;rw [elAt_yes hq,← hqn];rfl
  rw [hV]
  obtain ⟨g,c,rfl,hr1,hr2,x0,_⟩:=hT.get hn
  unfold maxLen at hr2
  have hki:(k:Int) < (ns.length:Int):=by omega
  clear hT hV hn hin hq hqn hE
  go_enter Tryz.func130,Tryz.ntmps130
  go_wp2_with fail
  refine hh.mono ?_
  clear hh
  rintro x w' ⟨rfl,rfl⟩
  go_wp2
  go_ret
  exact ⟨rfl,rfl⟩
 ·rw [decide_eq_false hin] at hh
  have hV:parentV es e = (-1):=by unfold parentV;rw [elAt_no (fun h => hin (by rw [← hE.len.1] at h;exact h))];rfl
  rw [hV]
  clear hT hV hin hE
  go_enter Tryz.func130,Tryz.ntmps130
  go_wp2_with fail
  refine hh.mono ?_
  clear hh
  rintro x w' ⟨rfl,rfl⟩
  go_wp2
  go_ret
  exact ⟨rfl,rfl⟩
end Go.Proofs.YtnemagmakgiheaaGreat.Dm
/- The document's own tree: Children. -/
namespace Go.Proofs.YtnemagmakgiheaaGreat.Dm
open Go Go.RowKit
theorem sorted_ext:∀ {a b:List Nat},a.Pairwise (· < ·) → b.Pairwise (· < ·) → (∀ x,x ∈ a ↔ x ∈ b) → a = b
 | [],[],_,_,_ => rfl
 | [],y :: b,_,_,h => absurd ((h y).2 (List.mem_cons_self ..)) (by simp)
 | x :: a,[],_,_,h => absurd ((h x).1 (List.mem_cons_self ..)) (by simp)
 | x :: a,y :: b,ha,hb,h => by
  obtain ⟨ha1,ha2⟩:=List.pairwise_cons.1 ha
  obtain ⟨hb1,hb2⟩:=List.pairwise_cons.1 hb
  have hxy:x = y:=by
   rcases List.mem_cons.1 ((h x).1 (List.mem_cons_self ..)) with e | e
   ·exact e
   ·rcases List.mem_cons.1 ((h y).2 (List.mem_cons_self ..)) with e' | e'
    ·exact e'.symm
    ·have:=hb1 x e
     have:=ha1 y e'
     omega
  subst hxy
  rw [sorted_ext ha2 hb2 (fun z => ?_)]
  constructor
  ·intro hz
   rcases List.mem_cons.1 ((h z).1 (List.mem_cons_of_mem _ hz)) with e | e
   ·have:=ha1 z hz
    omega
   ·exact e
  ·intro hz
   rcases List.mem_cons.1 ((h z).2 (List.mem_cons_of_mem _ hz)) with e | e
   ·have:=hb1 z hz
    omega
   ·exact e
def kidsTo (es:List El) (e k:Nat):List Nat:=(List.range k).filter fun i => parentV es (i:Int) == (e:Int)
theorem kids_next (es:List El) (e k:Nat):kidsTo es e (k + 1) = kidsTo es e k ++ (if parentV es (k:Int) = (e:Int) then [k] else []):=by
 unfold kidsTo
 rw [List.range_succ,List.filter_append,List.filter_cons,List.filter_nil]
 congr 1
 by_cases h:parentV es (k:Int) = (e:Int)
 ·rw [if_pos h,if_pos (by rw [h];simp)]
 ·rw [if_neg h,if_neg (by simpa using h)]
theorem kids_all {es:List El} (hO:TreeOk es) {e:Nat} {q:El} (hq:es[e]? = some q):kidsTo es e es.length = q.ch:=by
 refine sorted_ext (List.pairwise_lt_range.filter _) (hO.rise e q hq) (fun x => ?_)
 unfold kidsTo
 rw [List.mem_filter,List.mem_range]
 constructor
 ·rintro ⟨h1,h2⟩
  have h2:parentV es (x:Int) = (e:Int):=by simpa using h2
  by_cases h0:x = 0
  ·subst h0
   rw [par_root hO h1] at h2
   omega
  ·obtain ⟨p,hp,_,hc⟩:=ch_of_par hO h1 (by omega)
   obtain rfl:p = e:=by omega
   unfold chOf at hc
   rwa [children_at hq] at hc
 ·intro hx
  have hx':x ∈ chOf es e:=by unfold chOf;rw [children_at hq];exact hx
  have:=ch_mem hO (List.getElem?_eq_some_iff.1 hq).1 hx'
  obtain ⟨i,hi⟩:=List.mem_iff_getElem?.1 hx
  exact ⟨this.2,by rw [parent_of hO hq hi];simp⟩
theorem kids_none {es:List El} (hO:TreeOk es) {e k:Nat} (hk:k ≤ e + 1) (he:e < es.length):kidsTo es e k = []:=by
 unfold kidsTo
 rw [List.filter_eq_nil_iff]
 intro i hi
 have hi:=List.mem_range.1 hi
 by_cases h0:i = 0
 ·subst h0
  rw [par_root hO (by omega)]
  simp
 ·obtain ⟨p,hp,hpi⟩:=par_lt hO (e:=i) (by omega) (by omega)
  rw [hp]
  simp
  omega
theorem kids_len (es:List El) (e k:Nat):(kidsTo es e k).length ≤ k:=by
 have:=List.length_filter_le (fun i:Nat => parentV es (i:Int) == (e:Int)) (List.range k)
 simpa [kidsTo] using this
set_option maxHeartbeats 2000000 in
theorem refChildren_any (b tb:Nat) (nv dv:Value) (ns:List Nv) (ds:List Int) (es:List El) (e:Int) (w:World) (hT:RTr b w tb nv dv ns ds) (hE:Tells es ns ds) (hO:TreeOk es) (hl:es.length ≤ 4096) :
  Calls Tryz.prog 155 #[.pointer (some ⟨tb,0,none⟩),.int .i64 e] w fun x w' => ∃ v',x = .returned v' ∧ IntRow w.heap.size w' v' (chI (childrenV es e)) ∧ Below w.heap.size w w':=by
 obtain ⟨j0,hj,hx0,hx1,hx2⟩:=info_parts infoInt
 have hnl:=hE.len.1
 have HT:Hid (RTr b w tb nv dv ns ds):=hT
 have HE:Hid (Tells es ns ds):=hE
 have HO:Hid (TreeOk es):=hO
 by_cases hin:0 ≤ e ∧ e < (ns.length:Int)
 ·obtain ⟨k,rfl⟩:∃ k:Nat,e = (k:Int):=⟨e.toNat,by omega⟩
  have hk:k < ns.length:=by omega
  obtain ⟨q,hq⟩:∃ q,es[k]? = some q:=⟨_,List.getElem?_eq_getElem (by omega)⟩
  rw [children_at hq]
  have hw1:IntKind.i64.wrap ((k:Int) + 1) = (k:Int) + 1:=by rw [IntKind.wrap_i64];omega
  have hst:=kids_none hO (e:=k) (k:=k + 1) (Nat.le_refl _) (by omega)
  have HST:Hid (_ = _):=hst
  have hfin:=kids_all hO hq
  have HFIN:Hid (_ = _):=hfin
  clear hT hE hO hst hfin
  go_enter Tryz.func155,Tryz.ntmps155
  go_wp2
  go_loopw [5,6] (fun x y wr => ∃ i:Nat,y = .int .i64 i ∧ k < i ∧ i ≤ ns.length ∧ IntRow w.heap.size wr x (chI (kidsTo es k i)) ∧ Below w.heap.size w wr) (fun _ y _ => ns.length - (intOf y).toNat)
  case atStart => exact ⟨k + 1,by go_num,by omega,by omega,by rw [HST.out];exact World.ownsRow_nil _ _ _ _,Below.refl _ _⟩
  case round =>
   obtain ⟨i,rfl,hki,hin',hrow,hb⟩:=hrel
   have hTr:=HT.out.next hb
   have hh:=refIs_any b tb nv dv ns ds (k:Int) _ hTr
   rw [decide_eq_true (by omega)] at hh
   obtain ⟨⟨c0,_⟩,_⟩:=blk2 hTr.blk
   have hkl:=kids_len es k i
   unfold IntRow at hrow
   rw [chI_len] at hrow
   obtain ⟨px,cx,rfl⟩:=owns_form hrow
   have HR:Hid (World.ownsRow _ w.heap.size 3 1 (.slice px (kidsTo es k i).length cx) (kidsTo es k i).length ((chI (kidsTo es k i)).map (Value.int .i64))):=hrow
   by_cases hlt:i < ns.length
   ·have hii:(i:Int) < (ns.length:Int):=by omega
    obtain ⟨n,hn⟩:∃ n,ns[i]? = some n:=⟨_,List.getElem?_eq_getElem hlt⟩
    obtain ⟨qi,hqi,hqn,_⟩:=HE.out.at hn
    have hpar:parentV es (i:Int) = n.nd.parent:=by rw [par_at hqi,hqn]
    have hnx:=kids_next es k i
    rw [hpar] at hnx
    obtain ⟨g,c,rfl,hr1,hr2,x0,_⟩:=hTr.get hn
    unfold maxLen at hr2
    have hs:=hb.size
    by_cases hpk:n.nd.parent = (k:Int)
    ·rw [if_pos hpk] at hnx
     have HNX:Hid (_ = _):=hnx
     rw [hpk] at x0
     clear hTr hn hqi hqn hpar hnx hrow hpk
     go_wp2_with fail
     refine hh.mono ?_
     clear hh
     rintro x w' ⟨rfl,rfl⟩
     go_wp2_with (at_builtin;refine wpList_append_own _ rfl _ _ 82 rfl w.heap.size 3 j0 (.int .i64 0) 1 8 Tryz.underlying82 hj hx0 hx1 hx2 rfl (by decide) _ _ _ rfl (World.ownsRow.alloc HR.out _) ⟨w'.heap.size,0,none⟩ 1 1 [.int .i64 (i:Int)] rfl rfl (cells_plain _ [_] _) (fun u hu => by simp at hu;subst hu;rfl) (by unfold maxLen;omega) (by omega) (by simp;omega) ?_;intro v2 w2 hown2 hgrow2 hnil2;obtain ⟨g9,c9,rfl⟩:=shape_of hown2)
     have b2:Below w.heap.size w w2:=(hb.alloc hs _).grown hgrow2 (by simp;omega) (fun r e => (owns_lt HR.out e).1)
     refine ⟨⟨i + 1,by go_num,by omega,by omega,?_,b2⟩,by simp [intOf];omega⟩
     rw [HNX.out]
     unfold IntRow
     rw [chI_len,List.length_append,List.length_singleton]
     have e1:(chI (kidsTo es k i ++ [i])).map (Value.int .i64) = (chI (kidsTo es k i)).map (Value.int .i64) ++ [.int .i64 (i:Int)]:=by simp [chI]
     rw [e1]
     exact hown2
    ·rw [if_neg hpk,List.append_nil] at hnx
     have HNX:Hid (_ = _):=hnx
     have hne:(n.nd.parent == (k:Int)) = false:=by simpa using hpk
     generalize n.nd.parent = pn at *
     clear hTr hn hqi hqn hpar hnx hrow
     go_wp2_with fail
     refine hh.mono ?_
     clear hh
     rintro x w' ⟨rfl,rfl⟩
     go_wp2
     refine ⟨⟨i + 1,by go_num,by omega,by omega,?_,hb⟩,by simp [intOf];omega⟩
     rw [HNX.out]
     unfold IntRow
     rw [chI_len]
     exact HR.out
   ·have hii:¬ (i:Int) < (ns.length:Int):=by omega
    obtain rfl:i = ns.length:=by omega
    obtain ⟨⟨pn,cn,rfl⟩,_⟩:=hTr.form
    have hF:kidsTo es k ns.length = q.ch:=by rw [hnl];exact HFIN.out
    have HF:Hid (_ = _):=hF
    clear hTr hrow hF
    go_wp2_with fail
    refine hh.mono ?_
    clear hh
    rintro x w' ⟨rfl,rfl⟩
    go_wp2
    go_ret
    refine ⟨_,rfl,?_,hb⟩
    rw [← HF.out]
    unfold IntRow
    rw [chI_len]
    have h9:=HR.out
    rw [hnl] at h9 ⊢
    exact h9
 ·have hh:=refIs_any b tb nv dv ns ds e w hT
  rw [decide_eq_false hin] at hh
  have hV:childrenV es e = []:=by unfold childrenV;rw [elAt_no (fun h => hin (by rw [← hnl] at h;exact h))];rfl
  rw [hV]
  clear hT hE hO hin hV
  go_enter Tryz.func155,Tryz.ntmps155
  go_wp2
  go_loopw [5,6] (fun x y wr => x = .slice none 0 0 ∧ (∃ i,y = .int .i64 i) ∧ wr = w) (fun _ _ _ => 0)
  case atStart => exact ⟨rfl,⟨_,rfl⟩,rfl⟩
  case round =>
   obtain ⟨rfl,⟨i,rfl⟩,rfl⟩:=hrel
   go_wp2_with fail
   refine hh.mono ?_
   clear hh
   rintro x w' ⟨rfl,rfl⟩
   go_wp2
   go_ret
   exact ⟨_,rfl,World.ownsRow_nil _ _ _ _,Below.refl _ _⟩
end Go.Proofs.YtnemagmakgiheaaGreat.Dm
/- The document's own tree: Place, Before. -/
namespace Go.Proofs.YtnemagmakgiheaaGreat.Dm
open Go Go.RowKit
theorem kids_split {es:List El} {p e:Nat} (hp:parentV es (e:Int) = (p:Int)):∀ n,e < n → ∃ r,kidsTo es p n = kidsTo es p e ++ e :: r
 | 0,h => by omega
 | n + 1,h => by
  rw [kids_next]
  by_cases he:e = n
  ·subst he
   exact ⟨[],by rw [if_pos hp]⟩
  ·obtain ⟨r,hr⟩:=kids_split hp n (by omega)
   exact ⟨r ++ _,by rw [hr,List.append_assoc,List.cons_append]⟩
theorem place_kids {es:List El} (hO:TreeOk es) {p e:Nat} (he:e < es.length) (hp:parentV es (e:Int) = (p:Int)):placeV es (e:Int) = ((kidsTo es p e).length:Int) + 1:=by
 have h0:0 < e:=by
  rcases Nat.eq_zero_or_pos e with h | h
  ·subst h;rw [par_root hO he] at hp;omega
  ·exact h
 obtain ⟨p',hp',hlt⟩:=par_lt hO he h0
 obtain rfl:p = p':=by omega
 obtain ⟨q,hq⟩:∃ q,es[p]? = some q:=⟨_,List.getElem?_eq_getElem (by omega)⟩
 obtain ⟨r,hr⟩:=kids_split hp es.length he
 rw [kids_all hO hq] at hr
 exact place_of hO hq (i:=(kidsTo es p e).length) (by rw [hr];simp)
theorem before_none {es:List El} (hO:TreeOk es) {p e:Nat} (he:e < es.length) (hp:parentV es (e:Int) = (p:Int)) (hlt:p < e) (hk:kidsTo es p e = []):beforeV es (e:Int) = -1:=by
 obtain ⟨q,hq⟩:∃ q,es[p]? = some q:=⟨_,List.getElem?_eq_getElem (by omega)⟩
 obtain ⟨r,hr⟩:=kids_split hp es.length he
 rw [kids_all hO hq,hk] at hr
 exact before_first hO hq (by rw [hr];rfl)
theorem before_some {es:List El} (hO:TreeOk es) {p e d:Nat} {a:List Nat} (he:e < es.length) (hp:parentV es (e:Int) = (p:Int)) (hlt:p < e) (hk:kidsTo es p e = a ++ [d]):beforeV es (e:Int) = (d:Int):=by
 obtain ⟨q,hq⟩:∃ q,es[p]? = some q:=⟨_,List.getElem?_eq_getElem (by omega)⟩
 obtain ⟨r,hr⟩:=kids_split hp es.length he
 rw [kids_all hO hq,hk] at hr
 exact before_later hO hq (i:=a.length) (by rw [hr];simp) (by rw [hr];simp)
theorem kids_one {es:List El} (hO:TreeOk es) (hl:0 < es.length) (p:Nat):kidsTo es p 1 = []:=by
 rw [show (1:Nat) = 0 + 1 from rfl,kids_next,if_neg (by rw [par_root hO hl];omega)]
 rfl
set_option maxHeartbeats 2000000 in
theorem refPlace_any (b tb:Nat) (nv dv:Value) (ns:List Nv) (ds:List Int) (es:List El) (e:Int) (w:World) (hT:RTr b w tb nv dv ns ds) (hE:Tells es ns ds) (hO:TreeOk es) (hl:es.length ≤ 4096) :
  Calls Tryz.prog 153 #[.pointer (some ⟨tb,0,none⟩),.int .i64 e] w fun x w' => x = .returned (.int .i64 (placeV es e)) ∧ ∃ n,w' = w.drewN n:=by
 have hh:=refIs_any b tb nv dv ns ds e w hT
 have hnl:=hE.len.1
 by_cases hin:0 ≤ e ∧ e < (ns.length:Int)
 ·rw [decide_eq_true hin] at hh
  obtain ⟨k,rfl⟩:∃ k:Nat,e = (k:Int):=⟨e.toNat,by omega⟩
  have hk:k < ns.length:=by omega
  by_cases hk0:k = 0
  ·subst hk0
   obtain ⟨q,hq⟩:∃ q,es[0]? = some q:=⟨_,List.getElem?_eq_getElem (by omega)⟩
   have hV:placeV es ((0:Nat):Int) = 1:=by
    unfold placeV
    rw [elAt_yes hq]
    show ((q.place:Nat):Int) = 1
    rw [(hO.root q hq).2.2]
    rfl
   rw [hV]
   clear hT hE hO hin hV hq
   go_enter Tryz.func153,Tryz.ntmps153
   go_wp2_with fail
   refine hh.mono ?_
   clear hh
   rintro x w' ⟨rfl,rfl⟩
   go_wp2
   go_loopw [5,6] (fun x y wr => x = .int .i64 1 ∧ y = .int .i64 1 ∧ wr = w') (fun _ _ _ => 0)
   case atStart => exact ⟨rfl,rfl,rfl⟩
   case round =>
    obtain ⟨rfl,rfl,rfl⟩:=hrel
    go_wp2
    go_ret
    exact ⟨rfl,0,rfl⟩
  ·obtain ⟨p,hp,hpk⟩:=par_lt hO (e:=k) (by omega) (by omega)
   rw [place_kids hO (by omega) hp]
   have HT:Hid (RTr b w tb nv dv ns ds):=hT
   have HE:Hid (Tells es ns ds):=hE
   have HO:Hid (TreeOk es):=hO
   obtain ⟨nk,hnk⟩:∃ n,ns[k]? = some n:=⟨_,List.getElem?_eq_getElem hk⟩
   obtain ⟨qk,hqk,hqnk,_⟩:=hE.at hnk
   have hpark:nk.nd.parent = (p:Int):=by rw [← hqnk,← par_at hqk];exact hp
   have hone:=kids_one hO (by omega) p
   have HONE:Hid (_ = _):=hone
   clear hT hE hO hone
   go_enter Tryz.func153,Tryz.ntmps153
   go_wp2_with fail
   refine hh.mono ?_
   clear hh
   rintro x w' ⟨rfl,rfl⟩
   go_wp2
   go_loopw [5,6] (fun x y wr => ∃ i:Nat,x = .int .i64 (((kidsTo es p i).length:Int) + 1) ∧ y = .int .i64 i ∧ 1 ≤ i ∧ i ≤ k ∧ ∃ n,wr = w'.drewN n) (fun _ y _ => k - (intOf y).toNat)
   case atStart => exact ⟨1,by rw [HONE.out];rfl,rfl,by omega,by omega,0,rfl⟩
   case round =>
    obtain ⟨i,rfl,rfl,h1,hik,m,rfl⟩:=hrel
    have hkl:=kids_len es p i
    by_cases hlt:i < k
    ·have hii:(i:Int) < (k:Int):=by omega
     have hTr:=HT.out
     obtain ⟨⟨c0,_⟩,_⟩:=blk2 hTr.blk
     obtain ⟨ni,hni⟩:∃ n,ns[i]? = some n:=⟨_,List.getElem?_eq_getElem (by omega)⟩
     obtain ⟨qi,hqi,hqn,_⟩:=HE.out.at hni
     have hpar:parentV es (i:Int) = ni.nd.parent:=by rw [par_at hqi,hqn]
     have hnx:=kids_next es p i
     rw [hpar] at hnx
     obtain ⟨g,c,rfl,hr1,hr2,x0,_⟩:=hTr.get hni
     obtain ⟨g',c',hgc,_,_,y0,_⟩:=hTr.get hnk
     cases hgc
     rw [hpark] at y0
     unfold maxLen at hr2
     have hin1:(i:Int) < (ns.length:Int):=by omega
     have hkn1:(k:Int) < (ns.length:Int):=by omega
     by_cases hpe:ni.nd.parent = (p:Int)
     ·rw [if_pos hpe] at hnx
      have HNX:Hid (_ = _):=hnx
      rw [hpe] at x0
      have hw1:IntKind.i64.wrap (((kidsTo es p i).length:Int) + 1 + 1) = ((kidsTo es p i).length:Int) + 1 + 1:=by rw [IntKind.wrap_i64];omega
      clear hTr hni hqi hqn hpar hnx hpe hnk hqk hqnk hpark
      generalize hN:(kidsTo es p i).length = N at *
      go_wp2
      go_quiet (fail)
      go_wp2
      refine ⟨⟨i + 1,?_,by go_num,by omega,by omega,_,by first | rfl | (simp;rfl)⟩,by simp [intOf];omega⟩
      rw [HNX.out,List.length_append,List.length_singleton,hN]
      go_num
     ·rw [if_neg hpe,List.append_nil] at hnx
      have HNX:Hid (_ = _):=hnx
      have hne:(ni.nd.parent == (p:Int)) = false:=by simpa using hpe
      generalize ni.nd.parent = pn at *
      clear hTr hni hqi hqn hpar hnx hnk hqk hqnk hpark
      go_wp2
      go_quiet (fail)
      go_wp2
      exact ⟨⟨i + 1,by rw [HNX.out],by go_num,by omega,by omega,_,by first | rfl | (simp;rfl)⟩,by simp [intOf];omega⟩
    ·have hii:¬ (i:Int) < (k:Int):=by omega
     obtain rfl:i = k:=by omega
     go_wp2
     go_ret
     exact ⟨rfl,m,rfl⟩
 ·rw [decide_eq_false hin] at hh
  have hV:placeV es e = 0:=by unfold placeV;rw [elAt_no (fun h => hin (by rw [← hnl] at h;exact h))];rfl
  rw [hV]
  clear hT hE hO hin hV
  go_enter Tryz.func153,Tryz.ntmps153
  go_wp2_with fail
  refine hh.mono ?_
  clear hh
  rintro x w' ⟨rfl,rfl⟩
  go_wp2
  go_ret
  exact ⟨rfl,0,rfl⟩
set_option maxHeartbeats 2000000 in
theorem refBefore_any (b tb:Nat) (nv dv:Value) (ns:List Nv) (ds:List Int) (es:List El) (e:Int) (w:World) (hT:RTr b w tb nv dv ns ds) (hE:Tells es ns ds) (hO:TreeOk es) (hl:es.length ≤ 4096) :
  Calls Tryz.prog 131 #[.pointer (some ⟨tb,0,none⟩),.int .i64 e] w fun x w' => x = .returned (.int .i64 (beforeV es e)) ∧ ∃ n,w' = w.drewN n:=by
 have hh:=refIs_any b tb nv dv ns ds e w hT
 have hnl:=hE.len.1
 by_cases hin:0 ≤ e ∧ e < (ns.length:Int)
 ·rw [decide_eq_true hin] at hh
  obtain ⟨k,rfl⟩:∃ k:Nat,e = (k:Int):=⟨e.toNat,by omega⟩
  have hk:k < ns.length:=by omega
  by_cases hk0:k = 0
  ·subst hk0
   obtain ⟨q,hq⟩:∃ q,es[0]? = some q:=⟨_,List.getElem?_eq_getElem (by omega)⟩
   have hV:beforeV es ((0:Nat):Int) = -1:=by rw [before_at hq,sibV_at hq,if_pos (hO.root q hq).1]
   rw [hV]
   clear hT hE hO hin hV hq
   go_enter Tryz.func131,Tryz.ntmps131
   go_wp2_with fail
   refine hh.mono ?_
   clear hh
   rintro x w' ⟨rfl,rfl⟩
   go_wp2
   go_ret
   exact ⟨rfl,0,rfl⟩
  ·obtain ⟨p,hp,hpk⟩:=par_lt hO (e:=k) (by omega) (by omega)
   have HT:Hid (RTr b w tb nv dv ns ds):=hT
   have HE:Hid (Tells es ns ds):=hE
   obtain ⟨nk,hnk⟩:∃ n,ns[k]? = some n:=⟨_,List.getElem?_eq_getElem hk⟩
   obtain ⟨qk,hqk,hqnk,_⟩:=hE.at hnk
   have hpark:nk.nd.parent = (p:Int):=by rw [← hqnk,← par_at hqk];exact hp
   have HONE:Hid (kidsTo es p 1 = []):=kids_one hO (by omega) p
   have HNO:Hid (kidsTo es p k = [] → beforeV es (k:Int) = -1):=before_none hO (by omega) hp hpk
   have HSO:Hid (∀ (a:List Nat) (d:Nat),kidsTo es p k = a ++ [d] → beforeV es (k:Int) = (d:Int)):=fun a d h => before_some hO (by omega) hp hpk h
   have hkz:((k:Int) == 0) = false:=by simpa using hk0
   have hw1:IntKind.i64.wrap ((k:Int) - 1) = (k:Int) - 1:=by rw [IntKind.wrap_i64];omega
   obtain ⟨B,hB⟩:∃ B,beforeV es (k:Int) = B:=⟨_,rfl⟩
   rw [hB] at HNO ⊢
   simp only [hB] at HSO
   clear hT hE hO hB
   go_enter Tryz.func131,Tryz.ntmps131
   go_wp2_with fail
   refine hh.mono ?_
   clear hh
   rintro x w' ⟨rfl,rfl⟩
   go_wp2
   go_loopw [5] (fun y wr => ∃ i:Nat,y = .int .i64 i ∧ i < k ∧ kidsTo es p (i + 1) = kidsTo es p k ∧ ∃ n,wr = w'.drewN n) (fun y _ => (intOf y).toNat)
   case atStart => exact ⟨k - 1,by rw [show ((k - 1:Nat):Int) = (k:Int) - 1 by omega],by omega,by rw [show k - 1 + 1 = k by omega],0,rfl⟩
   case round =>
    obtain ⟨i,rfl,hik,hks,m,rfl⟩:=hrel
    have HKS:Hid (_ = _):=hks
    clear hks
    by_cases hi0:i = 0
    ·subst hi0
     have hBv:B = -1:=HNO.out (by rw [← HKS.out];exact HONE.out)
     subst hBv
     clear hw1 hkz
     go_wp2
     go_ret
     exact ⟨rfl,m,rfl⟩
    ·have hipos:(0:Int) < (i:Int):=by omega
     have hTr:=HT.out
     obtain ⟨⟨c0,_⟩,_⟩:=blk2 hTr.blk
     obtain ⟨ni,hni⟩:∃ n,ns[i]? = some n:=⟨_,List.getElem?_eq_getElem (by omega)⟩
     obtain ⟨qi,hqi,hqn,_⟩:=HE.out.at hni
     have hpar:parentV es (i:Int) = ni.nd.parent:=by rw [par_at hqi,hqn]
     have hnx:=kids_next es p i
     rw [hpar,HKS.out] at hnx
     obtain ⟨g,c,rfl,hr1,hr2,x0,_⟩:=hTr.get hni
     obtain ⟨g',c',hgc,_,_,y0,_⟩:=hTr.get hnk
     cases hgc
     rw [hpark] at y0
     unfold maxLen at hr2
     have hin1:(i:Int) < (ns.length:Int):=by omega
     have hkn1:(k:Int) < (ns.length:Int):=by omega
     by_cases hpe:ni.nd.parent = (p:Int)
     ·rw [if_pos hpe] at hnx
      have hBv:B = (i:Int):=HSO.out _ _ hnx
      subst hBv
      rw [hpe] at x0
      clear hTr hni hqi hqn hpar hnx hpe hnk hqk hqnk hpark hw1 hkz
      go_wp2
      go_quiet (fail)
      go_wp2
      go_ret
      exact ⟨rfl,_,by first | rfl | (simp;rfl)⟩
     ·rw [if_neg hpe,List.append_nil] at hnx
      have HNX:Hid (_ = _):=hnx
      have hne:(ni.nd.parent == (p:Int)) = false:=by simpa using hpe
      have hw2:IntKind.i64.wrap ((i:Int) - 1) = (i:Int) - 1:=by rw [IntKind.wrap_i64];omega
      generalize ni.nd.parent = pn at *
      clear hTr hni hqi hqn hpar hnx hnk hqk hqnk hpark hw1 hkz
      go_wp2
      go_quiet (fail)
      go_wp2
      exact ⟨⟨i - 1,by rw [show ((i - 1:Nat):Int) = (i:Int) - 1 by omega],by omega,by rw [show i - 1 + 1 = i by omega];exact HNX.out.symm,_,by first | rfl | (simp;rfl)⟩,by simp [intOf];omega⟩
 ·rw [decide_eq_false hin] at hh
  have hV:beforeV es e = -1:=by unfold beforeV;rw [if_neg (fun h => hin (by rw [← hnl] at h;exact h))]
  rw [hV]
  clear hT hE hO hin hV
  go_enter Tryz.func131,Tryz.ntmps131
  go_wp2_with fail
  refine hh.mono ?_
  clear hh
  rintro x w' ⟨rfl,rfl⟩
  go_wp2
  go_ret
  exact ⟨rfl,0,rfl⟩
end Go.Proofs.YtnemagmakgiheaaGreat.Dm
/- The document's own tree: Node. -/
namespace Go.Proofs.YtnemagmakgiheaaGreat.Dm
open Go Go.RowKit
end Go.Proofs.YtnemagmakgiheaaGreat.Dm

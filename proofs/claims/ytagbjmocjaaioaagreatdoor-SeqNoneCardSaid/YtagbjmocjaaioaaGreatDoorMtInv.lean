/- package match: selectors that are asked of a tree's elements, in memory: what each block is for, and what stays. -/
import Derived.Test.YtagbjmocjaaioaaGreatDoorMtMem
import Derived.Maps.OwnSet
import Derived.DeepKeys5
namespace Go.Proofs.YtagbjmocjaaioaaGreatDoor.Mt
open Go.Proofs.YtagbjmocjaaioaaGreatDoor.Tre
open Go Go.RowKit Dm
structure Env where
 w₀:World
 b:Nat
 tb:Nat
 g:Nat
 cap:Nat
 qs:List Em
abbrev Env.es (E:Env):List El:=E.qs.map Em.e
abbrev Env.n₀ (E:Env):Nat:=E.w₀.heap.size
structure EnvOk (E:Env):Prop where
 tr:Tr E.b E.w₀ E.tb E.g E.cap E.qs
 ok:TreeOk E.es
 few:E.qs.length ≤ 4096
 nds:∀ q ∈ E.qs,NdOk q.e.nd
/-! ### what is known of parts and elements -/
def vdV (E:Env) (f:Nat) (s:Sel) (k x:Nat):Bool:=(x :: (if farV (partAt s k).1 then aheadV E.es (partAt s k).1 x else [])).any (uptoV (anyV E.es f) E.es s (k - 1))
def verdOk (E:Env) (f:Nat) (s:Sel) (k:Nat) (vs:List Int):Prop:=
 vs.length = E.qs.length ∧ ∀ (x:Nat) (v:Int),vs[x]? = some v → v = 0 ∨ (v = 1 ∧ vdV E f s k x = true) ∨ (v = 2 ∧ vdV E f s k x = false)
/-! ### what blocks are for -/
inductive Role where
 | asked (s:Sel) (pv:Value) (f:Nat)
 | outer (A:Nat)
 | verd (A k:Nat)
 | mapr (A:Nat)
 | ptrs (A k j:Nat)
abbrev Ghost:=Nat → Option Role
def held (v:Value):Option (DataW Value × List MemPlace):=some (.held v,[])
def keyL (k j:Nat):Lit:=.string (keyBytes [.int .i64 k,.int .i64 j])
def MapObj (o:Obj) (n:Nat) (D:DataW Value):Prop:=∃ es clock,o = .map es clock ∧ WideElems.Fit Tryz.prog 313 held es clock ∧ es.size ≤ n ∧ D = .map ((es.toList.map (WideElems.rg Tryz.prog 313 held)).foldr DataW.insert [])
def ptrV (b:Nat):Value:=.pointer (some ⟨b,0,none⟩)
def wide (b n:Nat):Value:=.slice (some ⟨b,0,none⟩) n n
def RoleOk (E:Env) (γ:Ghost) (A:Nat) (o:Obj):Role → Prop
 | .asked s pv f => (∃ d,PartsAt d E.n₀ E.w₀ pv s) ∧ fitsV f s = true ∧ ∃ fv lv,o = .cells #[ptrV E.tb,pv,fv,lv] 225 (0,0) ∧
   (fv = .slice none 0 0 ∨ ∃ F,fv = wide F s.length ∧ γ F = some (.outer A)) ∧ (lv = .map none ∨ ∃ M,lv = .map (some M) ∧ γ M = some (.mapr A))
 | .outer A' => ∃ s pv f,γ A' = some (.asked s pv f) ∧ ∃ rows:List Value,o = .cells rows.toArray 314 (0,0) ∧ rows.length = s.length ∧
   ∀ (k:Nat) (r:Value),rows[k]? = some r → r = .slice none 0 0 ∨ ∃ V,r = wide V E.qs.length ∧ γ V = some (.verd A' k)
 | .verd A' k => ∃ s pv f,γ A' = some (.asked s pv f) ∧ ∃ vs:List Int,o = .cells (vs.map (Value.int .u8)).toArray 316 (0,0) ∧ verdOk E f s k vs
 | .mapr A' => ∃ s pv f,γ A' = some (.asked s pv f) ∧ ∃ (ks:List (Nat × Nat)) (D:DataW Value),MapObj o ks.length D ∧ ks.Nodup ∧
   (∀ k j,k < 1099511627776 → j < 1099511627776 → Maps.has D (keyL k j) = true → (k,j) ∈ ks) ∧
   ∀ k j,(k,j) ∈ ks → k < 50 ∧ j < 1099511627776 ∧ ∃ p q,s[k]? = some p ∧ p.2.pss[j]? = some q ∧ ∃ B,D.atKey (keyL k j) (.held (.slice none 0 0)) = .held (wide B q.list.length) ∧ γ B = some (.ptrs A' k j)
 | .ptrs A' k j => ∃ s pv f,γ A' = some (.asked s pv f) ∧ ∃ p q f',s[k]? = some p ∧ p.2.pss[j]? = some q ∧ f = f' + 1 ∧ ∃ bs:List Nat,o = .cells (bs.map ptrV).toArray 257 (0,0) ∧ bs.length = q.list.length ∧
   ∀ (i b:Nat) (x:Sel),bs[i]? = some b → q.list[i]? = some x → ∃ pv',γ b = some (.asked x pv' f')
structure Inv (E:Env) (γ:Ghost) (W:World):Prop where
 low:Below E.n₀ E.w₀ W
 each:∀ A r,γ A = some r → E.n₀ ≤ A ∧ ∃ o,W.heap[A]? = some o ∧ RoleOk E γ A o r
theorem RoleOk.mono {E:Env} {γ γ':Ghost} (h:∀ k r,γ k = some r → γ' k = some r) {A:Nat} {o:Obj}:∀ {r:Role},RoleOk E γ A o r → RoleOk E γ' A o r
 | .asked _ _ _,⟨h1,h2,fv,lv,h3,h4,h5⟩ => ⟨h1,h2,fv,lv,h3,h4.imp id (fun ⟨F,e,hF⟩ => ⟨F,e,h _ _ hF⟩),h5.imp id (fun ⟨M,e,hM⟩ => ⟨M,e,h _ _ hM⟩)⟩
 | .outer _,⟨s,pv,f,h1,rows,h2,h3,h4⟩ => ⟨s,pv,f,h _ _ h1,rows,h2,h3,fun k r hr => (h4 k r hr).imp id (fun ⟨V,e,hV⟩ => ⟨V,e,h _ _ hV⟩)⟩
 | .verd _ _,⟨s,pv,f,h1,vs,h2,h3⟩ => ⟨s,pv,f,h _ _ h1,vs,h2,h3⟩
 | .mapr _,⟨s,pv,f,h1,ks,D,h2,h3,h4,h5⟩ => ⟨s,pv,f,h _ _ h1,ks,D,h2,h3,h4,fun k j hk => let ⟨a,b,p,q,c,d,B,e,g⟩:=h5 k j hk;⟨a,b,p,q,c,d,B,e,h _ _ g⟩⟩
 | .ptrs _ _ _,⟨s,pv,f,h1,p,q,f',h2,h3,h4,bs,h5,h6,h7⟩ => ⟨s,pv,f,h _ _ h1,p,q,f',h2,h3,h4,bs,h5,h6,fun i b x hb hx => let ⟨pv',e⟩:=h7 i b x hb hx;⟨pv',h _ _ e⟩⟩
theorem Inv.lt {E:Env} {γ:Ghost} {W:World} (h:Inv E γ W) {A:Nat} {r:Role} (hA:γ A = some r):A < W.heap.size:=by
 obtain ⟨_,o,ho,_⟩:=h.each A r hA
 exact (Array.getElem?_eq_some_iff.1 ho).1
structure Step (E:Env) (γ:Ghost) (W:World) (γ':Ghost) (W':World):Prop where
 inv:Inv E γ' W'
 size:W.heap.size ≤ W'.heap.size
 role:∀ k,k < W.heap.size → γ' k = γ k
 block:∀ k,k < W.heap.size → γ k = none → W'.heap[k]? = W.heap[k]?
theorem Step.trans {E:Env} {γ γ' γ'':Ghost} {W W' W'':World} (h:Step E γ W γ' W') (k:Step E γ' W' γ'' W''):Step E γ W γ'' W'':=
 ⟨k.inv,Nat.le_trans h.size k.size,fun i hi => (k.role i (Nat.lt_of_lt_of_le hi h.size)).trans (h.role i hi),fun i hi hn => (k.block i (Nat.lt_of_lt_of_le hi h.size) ((h.role i hi).trans hn)).trans (h.block i hi hn)⟩
theorem Step.mono {E:Env} {γ γ':Ghost} {W W':World} (h:Step E γ W γ' W') (hI:Inv E γ W):∀ k r,γ k = some r → γ' k = some r:=fun k _ hr => (h.role k (hI.lt hr)).trans hr
theorem Inv.step {E:Env} {γ:Ghost} {W W':World} (h:Inv E γ W) (hb:Below W.heap.size W W'):Step E γ W γ W':=
 ⟨⟨h.low.trans (hb.mono h.low.size),fun A r hA => let ⟨h1,o,ho,hr⟩:=h.each A r hA;⟨h1,o,(hb.block A (h.lt hA)).trans ho,hr⟩⟩,hb.size,fun _ _ => rfl,fun k hk _ => hb.block k hk⟩
theorem Step.refl {E:Env} {γ:Ghost} {W:World} (h:Inv E γ W):Step E γ W γ W:=h.step (Below.refl _ _)
theorem Inv.put {E:Env} {γ:Ghost} {W W':World} (h:Inv E γ W) {A:Nat} {r:Role} {o:Obj} (hA:γ A = some r) (hg:W.grownBy W' (some A)) (ho:W'.heap[A]? = some o) (hr:RoleOk E γ A o r):Step E γ W γ W':=by
 refine ⟨⟨h.low.grown hg h.low.size (fun k e => by cases e;exact (h.each A r hA).1),fun B r' hB => ?_⟩,hg.size,fun _ _ => rfl,fun k hk hn => hg.block k hk (fun e => by cases e;rw [hA] at hn;cases hn)⟩
 by_cases e:B = A
 ·subst e
  rw [hA] at hB
  cases hB
  exact ⟨(h.each B r hA).1,o,ho,hr⟩
 ·obtain ⟨h1,o',ho',hr'⟩:=h.each B r' hB
  exact ⟨h1,o',(hg.block B (h.lt hB) (fun e' => e (by cases e';rfl))).trans ho',hr'⟩
def addG (γ:Ghost) (A:Nat) (r:Role):Ghost:=fun k => if k = A then some r else γ k
theorem addG_same (γ:Ghost) (A:Nat) (r:Role):addG γ A r A = some r:=if_pos rfl
theorem addG_other {γ:Ghost} {A k:Nat} (r:Role) (h:k ≠ A):addG γ A r k = γ k:=if_neg h
theorem addG_mono {E:Env} {γ:Ghost} {W:World} (h:Inv E γ W) {A:Nat} (hA:W.heap.size ≤ A) (r:Role):∀ k x,γ k = some x → addG γ A r k = some x:=fun k x hk => by
 rw [addG_other r (fun e => by have:=h.lt hk;omega)]
 exact hk
theorem Inv.add {E:Env} {γ:Ghost} {W W':World} (h:Inv E γ W) {A:Nat} {r:Role} {o:Obj} (hA:W.heap.size ≤ A) (hb:Below W.heap.size W W') (ho:W'.heap[A]? = some o) (hr:RoleOk E (addG γ A r) A o r):Step E γ W (addG γ A r) W':=by
 refine ⟨⟨h.low.trans (hb.mono h.low.size),fun B r' hB => ?_⟩,hb.size,fun k hk => addG_other r (by omega),fun k hk _ => hb.block k hk⟩
 by_cases e:B = A
 ·subst e
  rw [addG_same] at hB
  cases hB
  exact ⟨Nat.le_trans h.low.size hA,o,ho,hr⟩
 ·rw [addG_other r e] at hB
  obtain ⟨h1,o',ho',hr'⟩:=h.each B r' hB
  exact ⟨h1,o',(hb.block B (h.lt hB)).trans ho',hr'.mono (addG_mono h hA r)⟩
theorem Step.none {E:Env} {γ γ':Ghost} {W W':World} (h:Step E γ W γ' W') {B:Nat} (hB:B < W.heap.size) (hn:γ B = none):γ' B = none:=(h.role B hB).trans hn
theorem Inv.new {E:Env} {γ:Ghost} {W:World} (h:Inv E γ W) {A:Nat} (hA:W.heap.size ≤ A):γ A = none:=by
 cases e:γ A with
 | none => rfl
 | some r => have:=h.lt e;omega
theorem Inv.old {E:Env} {γ:Ghost} {W:World} (h:Inv E γ W) {A:Nat} (hA:A < E.n₀):γ A = none:=by
 cases e:γ A with
 | none => rfl
 | some r => have:=(h.each A r e).1;omega
theorem Inv.asked {E:Env} {γ:Ghost} {W:World} (h:Inv E γ W) {A:Nat} {s:Sel} {pv:Value} {f:Nat} (hA:γ A = some (.asked s pv f)) :
  (∃ d,PartsAt d E.n₀ W pv s) ∧ fitsV f s = true ∧ ∃ fv lv,Blk W A 225 [ptrV E.tb,pv,fv,lv] ∧
   (fv = .slice none 0 0 ∨ ∃ F,fv = wide F s.length ∧ γ F = some (.outer A)) ∧ (lv = .map none ∨ ∃ M,lv = .map (some M) ∧ γ M = some (.mapr A)):=by
 obtain ⟨_,o,ho,⟨d,h1⟩,h2,fv,lv,rfl,h3,h4⟩:=h.each A _ hA
 exact ⟨⟨d,h1.below h.low⟩,h2,fv,lv,ho,h3,h4⟩
theorem Inv.tree {E:Env} (hE:EnvOk E) {γ:Ghost} {W:World} (h:Inv E γ W):Tr E.b W E.tb E.g E.cap E.qs:=hE.tr.next h.low
theorem fits_len {f:Nat} {s:Sel} (h:fitsV f s = true):s.length ≤ 50:=by
 cases f <;> simp [fitsV] at h <;> exact h.1
theorem fits_list {f:Nat} {s:Sel} (h:fitsV f s = true) {k j:Nat} {p:Pt} {q:Ps} (hp:s[k]? = some p) (hq:p.2.pss[j]? = some q) (hl:listed q = true):∃ f',f = f' + 1 ∧ ∀ x ∈ q.list,fitsV f' x = true:=by
 have hm:q.list ∈ listsV s:=List.mem_flatMap.2 ⟨p,List.mem_of_getElem? hp,List.mem_map.2 ⟨q,List.mem_filter.2 ⟨List.mem_of_getElem? hq,hl⟩,rfl⟩⟩
 cases f with
 | zero =>
  simp only [fitsV,Bool.and_eq_true,List.all_eq_true] at h
  exact absurd (h.2 _ hm) (by simp)
 | succ f =>
  simp only [fitsV,Bool.and_eq_true,List.all_eq_true] at h
  exact ⟨f,rfl,fun x hx => h.2 _ hm x hx⟩
theorem Step.aside {E:Env} {γ γ':Ghost} {W X Y:World} (h:Step E γ W γ' X) {row:Option Nat} (hg:X.grownBy Y row) (hr:∀ b,row = some b → W.heap.size ≤ b ∧ γ' b = .none) (hn:E.n₀ ≤ W.heap.size):Step E γ W γ' Y:=by
 refine ⟨⟨h.inv.low.grown hg h.inv.low.size (fun b e => by have:=(hr b e).1;omega),fun A r hA => ?_⟩,Nat.le_trans h.size hg.size,h.role,fun k hk hn => (hg.block k (Nat.lt_of_lt_of_le hk h.size) (fun e => by have:=(hr k e.symm).1;omega)).trans (h.block k hk hn)⟩
 obtain ⟨h1,o,ho,hr'⟩:=h.inv.each A r hA
 exact ⟨h1,o,(hg.block A (h.inv.lt hA) (fun e => by have:=(hr A e.symm).2;rw [hA] at this;cases this)).trans ho,hr'⟩
end Go.Proofs.YtagbjmocjaaioaaGreatDoor.Mt

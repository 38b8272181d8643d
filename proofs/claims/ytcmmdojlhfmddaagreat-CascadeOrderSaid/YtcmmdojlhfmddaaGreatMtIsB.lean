/- package match: selectors that are asked of a tree's elements, in memory: what each block is for, and what stays. -/
import Derived.Test.YtcmmdojlhfmddaaGreatMtMem
import Derived.Test.YtcmmdojlhfmddaaGreatMtFit
import Derived.Test.YtcmmdojlhfmddaaGreatRgn
import Derived.Maps.OwnSet
import Derived.DeepKeys5
import Derived.WideLaws
import Derived.RangeFuncBox
import Derived.Shelf.RegionOpen
import Derived.LoopIn
import Derived.Laws.EntriesVeiled
import Derived.OwnWalkIn
import Derived.Maps.OwnIn
namespace Go.Proofs.YtcmmdojlhfmddaaGreat.Mt
open Go.Proofs.YtcmmdojlhfmddaaGreat.Tre
open Go Go.RowKit Dm
structure Env where
 w₀:World
 b:Nat
 tb:Nat
 g:Nat
 cap:Nat
 qs:List Em
abbrev Env.es (E:Env):List El:=E.qs.map Em.e
abbrev Env.n₀ (E:Env):Nat:=E.w₀.heap.size
structure EnvOk (E:Env):Prop where
 tr:Tr E.b E.w₀ E.tb E.g E.cap E.qs
 ok:TreeOk E.es
 few:E.qs.length ≤ 4096
 nds:∀ q ∈ E.qs,NdOk q.e.nd
/-! ### what is known of parts and elements -/
def vdV (E:Env) (f:Nat) (s:Sel) (k x:Nat):Bool:=(x :: (if farV (partAt s k).1 then aheadV E.es (partAt s k).1 x else [])).any (uptoV (anyV E.es f) E.es s (k - 1))
def verdOk (E:Env) (f:Nat) (s:Sel) (k:Nat) (vs:List Int):Prop:=
 vs.length = E.qs.length ∧ ∀ (x:Nat) (v:Int),vs[x]? = some v → v = 0 ∨ (v = 1 ∧ vdV E f s k x = true) ∨ (v = 2 ∧ vdV E f s k x = false)
/-! ### what blocks are for -/
inductive Role where
 | asked (s:Sel) (pv:Value) (f:Nat)
 | outer (A:Nat)
 | verd (A k:Nat)
 | mapr (A:Nat)
 | ptrs (A k j:Nat)
abbrev Ghost:=Nat → Option Role
def held (v:Value):Option (DataW Value × List MemPlace):=some (.held v,[])
def keyL (k j:Nat):Lit:=.string (keyBytes [.int .i64 k,.int .i64 j])
def MapObj (o:Obj) (n:Nat) (D:DataW Value):Prop:=∃ es clock,o = .map es clock ∧ WideElems.Fit Tryz.prog 198 held es clock ∧ es.size ≤ n ∧ D = .map ((es.toList.map (WideElems.rg Tryz.prog 198 held)).foldr DataW.insert [])
def ptrV (b:Nat):Value:=.pointer (some ⟨b,0,none⟩)
def wide (b n:Nat):Value:=.slice (some ⟨b,0,none⟩) n n
def RoleOk (E:Env) (γ:Ghost) (A:Nat) (o:Obj):Role → Prop
 | .asked s pv f => (∃ d,PartsAt d E.n₀ E.w₀ pv s) ∧ fitsV f s = true ∧ ∃ fv lv,o = .cells #[ptrV E.tb,pv,fv,lv] 150 (0,0) ∧
   (fv = .slice none 0 0 ∨ ∃ F,fv = wide F s.length ∧ γ F = some (.outer A)) ∧ (lv = .map none ∨ ∃ M,lv = .map (some M) ∧ γ M = some (.mapr A))
 | .outer A' => ∃ s pv f,γ A' = some (.asked s pv f) ∧ ∃ rows:List Value,o = .cells rows.toArray 199 (0,0) ∧ rows.length = s.length ∧
   ∀ (k:Nat) (r:Value),rows[k]? = some r → r = .slice none 0 0 ∨ ∃ V,r = wide V E.qs.length ∧ γ V = some (.verd A' k)
 | .verd A' k => ∃ s pv f,γ A' = some (.asked s pv f) ∧ ∃ vs:List Int,o = .cells (vs.map (Value.int .u8)).toArray 201 (0,0) ∧ verdOk E f s k vs
 | .mapr A' => ∃ s pv f,γ A' = some (.asked s pv f) ∧ ∃ (ks:List (Nat × Nat)) (D:DataW Value),MapObj o ks.length D ∧ ks.Nodup ∧
   (∀ k j,k < 1099511627776 → j < 1099511627776 → Maps.has D (keyL k j) = true → (k,j) ∈ ks) ∧
   ∀ k j,(k,j) ∈ ks → k < 50 ∧ j < 1099511627776 ∧ ∃ p q,s[k]? = some p ∧ p.2.pss[j]? = some q ∧ ∃ B,D.atKey (keyL k j) (.held (.slice none 0 0)) = .held (wide B q.list.length) ∧ γ B = some (.ptrs A' k j)
 | .ptrs A' k j => ∃ s pv f,γ A' = some (.asked s pv f) ∧ ∃ p q f',s[k]? = some p ∧ p.2.pss[j]? = some q ∧ f = f' + 1 ∧ ∃ bs:List Nat,o = .cells (bs.map ptrV).toArray 168 (0,0) ∧ bs.length = q.list.length ∧
   ∀ (i b:Nat) (x:Sel),bs[i]? = some b → q.list[i]? = some x → ∃ pv',γ b = some (.asked x pv' f')
structure Inv (E:Env) (γ:Ghost) (W:World):Prop where
 low:Below E.n₀ E.w₀ W
 each:∀ A r,γ A = some r → E.n₀ ≤ A ∧ ∃ o,W.heap[A]? = some o ∧ RoleOk E γ A o r
theorem RoleOk.mono {E:Env} {γ γ':Ghost} (h:∀ k r,γ k = some r → γ' k = some r) {A:Nat} {o:Obj}:∀ {r:Role},RoleOk E γ A o r → RoleOk E γ' A o r
 | .asked _ _ _,⟨h1,h2,fv,lv,h3,h4,h5⟩ => ⟨h1,h2,fv,lv,h3,h4.imp id (fun ⟨F,e,hF⟩ => ⟨F,e,h _ _ hF⟩),h5.imp id (fun ⟨M,e,hM⟩ => ⟨M,e,h _ _ hM⟩)⟩
 | .outer _,⟨s,pv,f,h1,rows,h2,h3,h4⟩ => ⟨s,pv,f,h _ _ h1,rows,h2,h3,fun k r hr => (h4 k r hr).imp id (fun ⟨V,e,hV⟩ => ⟨V,e,h _ _ hV⟩)⟩
 | .verd _ _,⟨s,pv,f,h1,vs,h2,h3⟩ => ⟨s,pv,f,h _ _ h1,vs,h2,h3⟩
 | .mapr _,⟨s,pv,f,h1,ks,D,h2,h3,h4,h5⟩ => ⟨s,pv,f,h _ _ h1,ks,D,h2,h3,h4,fun k j hk => let ⟨a,b,p,q,c,d,B,e,g⟩:=h5 k j hk;⟨a,b,p,q,c,d,B,e,h _ _ g⟩⟩
 | .ptrs _ _ _,⟨s,pv,f,h1,p,q,f',h2,h3,h4,bs,h5,h6,h7⟩ => ⟨s,pv,f,h _ _ h1,p,q,f',h2,h3,h4,bs,h5,h6,fun i b x hb hx => let ⟨pv',e⟩:=h7 i b x hb hx;⟨pv',h _ _ e⟩⟩
theorem Inv.lt {E:Env} {γ:Ghost} {W:World} (h:Inv E γ W) {A:Nat} {r:Role} (hA:γ A = some r):A < W.heap.size:=by
 obtain ⟨_,o,ho,_⟩:=h.each A r hA
 exact (Array.getElem?_eq_some_iff.1 ho).1
structure Step (E:Env) (γ:Ghost) (W:World) (γ':Ghost) (W':World):Prop where
 inv:Inv E γ' W'
 size:W.heap.size ≤ W'.heap.size
 role:∀ k,k < W.heap.size → γ' k = γ k
 block:∀ k,k < W.heap.size → γ k = none → W'.heap[k]? = W.heap[k]?
theorem Step.trans {E:Env} {γ γ' γ'':Ghost} {W W' W'':World} (h:Step E γ W γ' W') (k:Step E γ' W' γ'' W''):Step E γ W γ'' W'':=
 ⟨k.inv,Nat.le_trans h.size k.size,fun i hi => (k.role i (Nat.lt_of_lt_of_le hi h.size)).trans (h.role i hi),fun i hi hn => (k.block i (Nat.lt_of_lt_of_le hi h.size) ((h.role i hi).trans hn)).trans (h.block i hi hn)⟩
theorem Step.mono {E:Env} {γ γ':Ghost} {W W':World} (h:Step E γ W γ' W') (hI:Inv E γ W):∀ k r,γ k = some r → γ' k = some r:=fun k _ hr => (h.role k (hI.lt hr)).trans hr
theorem Inv.step {E:Env} {γ:Ghost} {W W':World} (h:Inv E γ W) (hb:Below W.heap.size W W'):Step E γ W γ W':=
 ⟨⟨h.low.trans (hb.mono h.low.size),fun A r hA => let ⟨h1,o,ho,hr⟩:=h.each A r hA;⟨h1,o,(hb.block A (h.lt hA)).trans ho,hr⟩⟩,hb.size,fun _ _ => rfl,fun k hk _ => hb.block k hk⟩
theorem Step.refl {E:Env} {γ:Ghost} {W:World} (h:Inv E γ W):Step E γ W γ W:=h.step (Below.refl _ _)
theorem Inv.put {E:Env} {γ:Ghost} {W W':World} (h:Inv E γ W) {A:Nat} {r:Role} {o:Obj} (hA:γ A = some r) (hg:W.grownBy W' (some A)) (ho:W'.heap[A]? = some o) (hr:RoleOk E γ A o r):Step E γ W γ W':=by
 refine ⟨⟨h.low.grown hg h.low.size (fun k e => by cases e;exact (h.each A r hA).1),fun B r' hB => ?_⟩,hg.size,fun _ _ => rfl,fun k hk hn => hg.block k hk (fun e => by cases e;rw [hA] at hn;cases hn)⟩
 by_cases e:B = A
 ·subst e
  rw [hA] at hB
  cases hB
  exact ⟨(h.each B r hA).1,o,ho,hr⟩
 ·obtain ⟨h1,o',ho',hr'⟩:=h.each B r' hB
  exact ⟨h1,o',(hg.block B (h.lt hB) (fun e' => e (by cases e';rfl))).trans ho',hr'⟩
def addG (γ:Ghost) (A:Nat) (r:Role):Ghost:=fun k => if k = A then some r else γ k
theorem addG_same (γ:Ghost) (A:Nat) (r:Role):addG γ A r A = some r:=if_pos rfl
theorem addG_other {γ:Ghost} {A k:Nat} (r:Role) (h:k ≠ A):addG γ A r k = γ k:=if_neg h
theorem addG_mono {E:Env} {γ:Ghost} {W:World} (h:Inv E γ W) {A:Nat} (hA:W.heap.size ≤ A) (r:Role):∀ k x,γ k = some x → addG γ A r k = some x:=fun k x hk => by
 rw [addG_other r (fun e => by have:=h.lt hk;omega)]
 exact hk
theorem Inv.add {E:Env} {γ:Ghost} {W W':World} (h:Inv E γ W) {A:Nat} {r:Role} {o:Obj} (hA:W.heap.size ≤ A) (hb:Below W.heap.size W W') (ho:W'.heap[A]? = some o) (hr:RoleOk E (addG γ A r) A o r):Step E γ W (addG γ A r) W':=by
 refine ⟨⟨h.low.trans (hb.mono h.low.size),fun B r' hB => ?_⟩,hb.size,fun k hk => addG_other r (by omega),fun k hk _ => hb.block k hk⟩
 by_cases e:B = A
 ·subst e
  rw [addG_same] at hB
  cases hB
  exact ⟨Nat.le_trans h.low.size hA,o,ho,hr⟩
 ·rw [addG_other r e] at hB
  obtain ⟨h1,o',ho',hr'⟩:=h.each B r' hB
  exact ⟨h1,o',(hb.block B (h.lt hB)).trans ho',hr'.mono (addG_mono h hA r)⟩
theorem Step.none {E:Env} {γ γ':Ghost} {W W':World} (h:Step E γ W γ' W') {B:Nat} (hB:B < W.heap.size) (hn:γ B = none):γ' B = none:=(h.role B hB).trans hn
theorem Inv.new {E:Env} {γ:Ghost} {W:World} (h:Inv E γ W) {A:Nat} (hA:W.heap.size ≤ A):γ A = none:=by
 cases e:γ A with
 | none => rfl
 | some r => have:=h.lt e;omega
theorem Inv.old {E:Env} {γ:Ghost} {W:World} (h:Inv E γ W) {A:Nat} (hA:A < E.n₀):γ A = none:=by
 cases e:γ A with
 | none => rfl
 | some r => have:=(h.each A r e).1;omega
theorem Inv.asked {E:Env} {γ:Ghost} {W:World} (h:Inv E γ W) {A:Nat} {s:Sel} {pv:Value} {f:Nat} (hA:γ A = some (.asked s pv f)) :
  (∃ d,PartsAt d E.n₀ W pv s) ∧ fitsV f s = true ∧ ∃ fv lv,Blk W A 150 [ptrV E.tb,pv,fv,lv] ∧
   (fv = .slice none 0 0 ∨ ∃ F,fv = wide F s.length ∧ γ F = some (.outer A)) ∧ (lv = .map none ∨ ∃ M,lv = .map (some M) ∧ γ M = some (.mapr A)):=by
 obtain ⟨_,o,ho,⟨d,h1⟩,h2,fv,lv,rfl,h3,h4⟩:=h.each A _ hA
 exact ⟨⟨d,h1.below h.low⟩,h2,fv,lv,ho,h3,h4⟩
theorem Inv.tree {E:Env} (hE:EnvOk E) {γ:Ghost} {W:World} (h:Inv E γ W):Tr E.b W E.tb E.g E.cap E.qs:=hE.tr.next h.low
theorem fits_len {f:Nat} {s:Sel} (h:fitsV f s = true):s.length ≤ 50:=by
 cases f <;> simp [fitsV] at h <;> exact h.1
theorem fits_list {f:Nat} {s:Sel} (h:fitsV f s = true) {k j:Nat} {p:Pt} {q:Ps} (hp:s[k]? = some p) (hq:p.2.pss[j]? = some q) (hl:listed q = true):∃ f',f = f' + 1 ∧ ∀ x ∈ q.list,fitsV f' x = true:=by
 have hm:q.list ∈ listsV s:=List.mem_flatMap.2 ⟨p,List.mem_of_getElem? hp,List.mem_map.2 ⟨q,List.mem_filter.2 ⟨List.mem_of_getElem? hq,hl⟩,rfl⟩⟩
 cases f with
 | zero =>
  simp only [fitsV,Bool.and_eq_true,List.all_eq_true] at h
  exact absurd (h.2 _ hm) (by simp)
 | succ f =>
  simp only [fitsV,Bool.and_eq_true,List.all_eq_true] at h
  exact ⟨f,rfl,fun x hx => h.2 _ hm x hx⟩
theorem Step.aside {E:Env} {γ γ':Ghost} {W X Y:World} (h:Step E γ W γ' X) {row:Option Nat} (hg:X.grownBy Y row) (hr:∀ b,row = some b → W.heap.size ≤ b ∧ γ' b = .none) (hn:E.n₀ ≤ W.heap.size):Step E γ W γ' Y:=by
 refine ⟨⟨h.inv.low.grown hg h.inv.low.size (fun b e => by have:=(hr b e).1;omega),fun A r hA => ?_⟩,Nat.le_trans h.size hg.size,h.role,fun k hk hn => (hg.block k (Nat.lt_of_lt_of_le hk h.size) (fun e => by have:=(hr k e.symm).1;omega)).trans (h.block k hk hn)⟩
 obtain ⟨h1,o,ho,hr'⟩:=h.inv.each A r hA
 exact ⟨h1,o,(hg.block A (h.inv.lt hA) (fun e => by have:=(hr A e.symm).2;rw [hA] at this;cases this)).trans ho,hr'⟩
end Go.Proofs.YtcmmdojlhfmddaaGreat.Mt

/- package match: foundOf: the verdicts of a part. -/
set_option maxRecDepth 100000
namespace Go.Proofs.YtcmmdojlhfmddaaGreat.Mt
open Go.Proofs.YtcmmdojlhfmddaaGreat.Tre
open Go Go.RowKit Dm
def reps {α:Type} (n:Nat) (z:α):List α:=List.replicate n z
theorem reps_get {α:Type} {n i:Nat} {z x:α} (h:(reps n z)[i]? = some x):x = z:=by
 unfold reps at h
 rw [List.getElem?_replicate] at h
 split at h
 ·exact (Option.some.inj h).symm
 ·cases h
theorem reps_len {α:Type} (n:Nat) (z:α):(reps n z).length = n:=List.length_replicate ..
theorem made_one (z:Value) (n:Nat):madeCells #[z] n = (reps n z).toArray:=by
 apply Array.ext
 ·simp [madeCells,reps]
 ·intro i h1 h2
  simp [madeCells,Nat.mod_one,reps]
theorem infoRow:(Tryz.prog.info? 199).map (fun i => (i.zero,i.size,i.bytes)) = some (some (.slice none 0 0),1,24):=by kernel_rfl
theorem infoVd:(Tryz.prog.info? 201).map (fun i => (i.zero,i.size,i.bytes)) = some (some (.int .u8 0),1,1):=by kernel_rfl
theorem infoPtr:(Tryz.prog.info? 168).map (fun i => (i.zero,i.size,i.bytes)) = some (some (.pointer none),1,8):=by kernel_rfl
theorem make_of {t e:TypeId} {z:Value} {by_:Nat} (ht:Tryz.prog.underlying t = some (.slice e)) (hinfo:(Tryz.prog.info? e).map (fun i => (i.zero,i.size,i.bytes)) = some (some z,1,by_)) (hz:z.cells = #[z]) (n:Nat) (hn:n * by_ ≤ 281474976710656) (hn2:n ≤ 9223372036854775807) (w:World) :
  (Instr.makeSlice t (.int .i64 n) (.int .i64 n)).run Tryz.prog w = .ok (wide w.heap.size n) (w.alloc (.cells (reps n z).toArray e)):=by
 obtain ⟨i0,hi,hz0,hz1,hz2⟩:=info_parts hinfo
 have:=run_make w t e i0 z ht hi hz0 .i64 .i64 (n:Int) (n:Int) (by omega) (Int.le_refl _) (by rw [hz2,Int.mul_comm];omega) (by omega)
 rw [this,Int.toNat_natCast,hz1,Nat.mul_one,hz,made_one]
 rfl
theorem eqInNil {t e:TypeId} (ht:Tryz.prog.underlying t = some (.slice e)) (d:Nat) (w:World) (p:Option Addr) (n c:Nat):(Op.equalIn (d + 1) t (.slice p n c) (.slice none 0 0)).run Tryz.prog w = .ok p.isNone w:=by
 cases p <;> simp [Op.equalIn,run_underlying ht]
theorem eqlNil {t e:TypeId} (ht:Tryz.prog.underlying t = some (.slice e)) (w:World) (p:Option Addr) (n c:Nat):(binOp .eql t (.slice p n c) (.slice none 0 0)).run Tryz.prog w = .ok (.bool p.isNone) w:=by
 simp only [binOp]
 simp [show Op.equal t (.slice p n c) (.slice none 0 0) = Op.equalIn (9999 + 1) t (.slice p n c) (.slice none 0 0) from rfl,eqInNil ht 9999 w p n c]
theorem blk_alloc {W:World} {B:Nat} {t:TypeId} {cs:List Value} (h:Blk W B t cs) (o:Obj):Blk (W.alloc o) B t cs:=h.next ((Below.refl _ W).alloc (Nat.le_refl _) o)
theorem step_outer {E:Env} {γ:Ghost} {W:World} (hI:Inv E γ W) {A:Nat} {s:Sel} {pv:Value} {f:Nat} (hA:γ A = some (.asked s pv f)) {lv:Value} (kA:Blk W A 150 [ptrV E.tb,pv,.slice none 0 0,lv])
  (hlv:lv = .map none ∨ ∃ M,lv = .map (some M) ∧ γ M = some (.mapr A)) :
  Step E γ W (addG γ W.heap.size (.outer A)) ((W.alloc (.cells (reps s.length (.slice none 0 0)).toArray 199)).setCell ⟨A,2,none⟩ (wide W.heap.size s.length)) ∧
   Blk ((W.alloc (.cells (reps s.length (.slice none 0 0)).toArray 199)).setCell ⟨A,2,none⟩ (wide W.heap.size s.length)) A 150 [ptrV E.tb,pv,wide W.heap.size s.length,lv]:=by
 have hlt:=hI.lt hA
 obtain ⟨hP,hf,_⟩:=(hI.each A _ hA).2.choose_spec.2
 have h1:Step E γ W (addG γ W.heap.size (.outer A)) (W.alloc (.cells (reps s.length (.slice none 0 0)).toArray 199)):=by
  refine hI.add (Nat.le_refl _) ((Below.refl _ W).alloc (Nat.le_refl _) _) (heap_alloc_new W _) ⟨s,pv,f,?_,_,rfl,reps_len _ _,fun k r hr => ?_⟩
  ·exact addG_mono hI (Nat.le_refl _) _ _ _ hA
  ·exact .inl (reps_get hr)
 have hA1:addG γ W.heap.size (.outer A) A = some (.asked s pv f):=addG_mono hI (Nat.le_refl _) _ _ _ hA
 have k1:=blk_put (blk_alloc kA (.cells (reps s.length (.slice none 0 0)).toArray 199)) 2 (wide W.heap.size s.length)
 refine ⟨h1.trans (h1.inv.put hA1 (grown_set _ _ _ _) k1 ⟨hP,hf,_,_,rfl,.inr ⟨_,rfl,addG_same _ _ _⟩,?_⟩),k1⟩
 rcases hlv with h | ⟨M,h,hM⟩
 ·exact .inl h
 ·exact .inr ⟨M,h,addG_mono hI (Nat.le_refl _) _ _ _ hM⟩
theorem step_verd {E:Env} {γ:Ghost} {W:World} (hI:Inv E γ W) {A F k:Nat} {s:Sel} {pv:Value} {f:Nat} (hA:γ A = some (.asked s pv f)) (hF:γ F = some (.outer A)) {rows:List Value} (kF:Blk W F 199 rows) (hk:k < s.length) :
  Step E γ W (addG γ W.heap.size (.verd A k)) ((W.alloc (.cells (reps E.qs.length (.int .u8 0)).toArray 201)).setCell ⟨F,k,none⟩ (wide W.heap.size E.qs.length)) ∧
   Blk ((W.alloc (.cells (reps E.qs.length (.int .u8 0)).toArray 201)).setCell ⟨F,k,none⟩ (wide W.heap.size E.qs.length)) F 199 (rows.set k (wide W.heap.size E.qs.length)):=by
 have h1:Step E γ W (addG γ W.heap.size (.verd A k)) (W.alloc (.cells (reps E.qs.length (.int .u8 0)).toArray 201)):=by
  refine hI.add (Nat.le_refl _) ((Below.refl _ W).alloc (Nat.le_refl _) _) (heap_alloc_new W _) ⟨s,pv,f,addG_mono hI (Nat.le_refl _) _ _ _ hA,reps E.qs.length 0,?_,reps_len _ _,fun x v hv => .inl (reps_get hv)⟩
  simp [reps]
 have hF1:addG γ W.heap.size (.verd A k) F = some (.outer A):=addG_mono hI (Nat.le_refl _) _ _ _ hF
 obtain ⟨_,o,ho,s',pv',f',hA',rows',rfl,hr1,hr2⟩:=hI.each F _ hF
 rw [hA] at hA'
 cases hA'
 obtain rfl:rows' = rows:=by
  rw [show W.heap[F]? = _ from kF] at ho
  injection ho with ho
  injection ho with ho
  simpa using ho.symm
 have k1:=blk_put (blk_alloc kF (.cells (reps E.qs.length (.int .u8 0)).toArray 201)) k (wide W.heap.size E.qs.length)
 refine ⟨h1.trans (h1.inv.put hF1 (grown_set _ _ _ _) k1 ⟨s,pv,f,addG_mono hI (Nat.le_refl _) _ _ _ hA,_,rfl,by simp [hr1],fun k' r hr => ?_⟩),k1⟩
 rcases set_at hr with ⟨rfl,rfl⟩ | ⟨_,hr⟩
 ·exact .inr ⟨_,rfl,addG_same _ _ _⟩
 ·rcases hr2 k' r hr with h | ⟨V,h,hV⟩
  ·exact .inl h
  ·exact .inr ⟨V,h,addG_mono hI (Nat.le_refl _) _ _ _ hV⟩
theorem cell_row {W:World} {F:Nat} {t:TypeId} {rows:List Value} (k:Blk W F t rows) {i:Nat} {r:Value} (h:rows[i]? = some r):W.cell? ⟨F,i,none⟩ = some r ∧ W.frozen? ⟨F,i,none⟩ = false:=by
 simp [World.cell?,World.frozen?,show W.heap[F]? = _ from k,h]
set_option maxHeartbeats 4000000 in
theorem foundOf_any (E:Env) (hE:EnvOk E) (γ:Ghost) (W:World) (hI:Inv E γ W) (A:Nat) (s:Sel) (pv:Value) (f:Nat) (hA:γ A = some (.asked s pv f)) (k:Nat) (hk:k < s.length) :
  Calls Tryz.prog 126 #[ptrV A,.int .i64 k] W fun x W' => ∃ V γ',x = .returned (wide V E.qs.length) ∧ γ' V = some (.verd A k) ∧ Step E γ W γ' W':=by
 obtain ⟨⟨d,hP⟩,hfit,fv,lv,kA,hfv,hlv⟩:=hI.asked hA
 have hs50:=fits_len hfit
 obtain ⟨pp,cp,rfl⟩:=RowT.len hP
 have hfew:=hE.few
 unfold ptrV
 unfold ptrV at kA
 have HE:Hid (EnvOk E):=hE
 have HIV:Hid (Inv E γ W):=hI
 have HA:Hid (γ A = some (.asked s (.slice pp s.length cp) f)):=hA
 obtain ⟨⟨c0,c1,c2,c3⟩,f0,f1,f2,f3⟩:=blk4 kA
 have hmk:=fun X => make_of Tryz.underlying147 infoRow rfl s.length (by omega) (by omega) X
 have hmv:=fun X => make_of Tryz.underlying199 infoVd rfl E.qs.length (by omega) (by omega) X
 have heo:=fun X p n c => eqlNil Tryz.underlying147 X p n c
 have hev:=fun X p n c => eqlNil Tryz.underlying199 X p n c
 have KA:Hid (Blk W A 150 [.pointer (some ⟨E.tb,0,none⟩),.slice pp s.length cp,fv,lv]):=kA
 clear hE hI hA hP kA
 have hki:(k:Int) < (s.length:Int):=by omega
 unfold wide at hmk hmv ⊢
 go_enter Tryz.func126,Tryz.ntmps126
 obtain ⟨pf,nf,hff⟩:∃ pf nf,fv = .slice pf nf nf:=by
  rcases hfv with rfl | ⟨F,rfl,hF⟩
  ·exact ⟨_,_,rfl⟩
  ·exact ⟨_,_,rfl⟩
 subst hff
 have h1:=heo W pf nf nf
 go_upto_if 9 with fail
 clear h1
 go_cut [] (fun wx => ∃ γ1 F,Step E γ W γ1 wx ∧ γ1 A = some (.asked s (.slice pp s.length cp) f) ∧ γ1 F = some (.outer A) ∧ Blk wx A 150 [.pointer (some ⟨E.tb,0,none⟩),.slice pp s.length cp,.slice (some ⟨F,0,none⟩) s.length s.length,lv])
 case first =>
  rcases hfv with e | ⟨F,e,hF⟩
  ·cases e
   have h2:=hmk W
   obtain ⟨st,k1⟩:=step_outer HIV.out HA.out KA.out hlv
   unfold wide at st k1
   unfold ptrV at k1
   have c2':=(blk4 (blk_alloc KA.out (.cells (reps s.length (.slice none 0 0)).toArray 199))).1.2.2.1
   have f2':=(blk4 (blk_alloc KA.out (.cells (reps s.length (.slice none 0 0)).toArray 199))).2.2.2.1
   have FIN:Hid _:=(⟨_,_,st,st.mono HIV.out _ _ HA.out,addG_same _ _ _,k1⟩:∃ γ1 F,Step E γ W γ1 _ ∧ γ1 A = some (.asked s (.slice pp s.length cp) f) ∧ γ1 F = some (.outer A) ∧ Blk _ A 150 [.pointer (some ⟨E.tb,0,none⟩),.slice pp s.length cp,.slice (some ⟨F,0,none⟩) s.length s.length,lv])
   clear st k1 hmk hmv heo hev hlv
   go_wp2
   go_meet
   exact FIN.out
  ·unfold wide at e
   cases e
   have FIN:Hid _:=(⟨γ,F,Step.refl HIV.out,HA.out,hF,KA.out⟩:∃ γ1 F,Step E γ W γ1 W ∧ γ1 A = some (.asked s (.slice pp s.length cp) f) ∧ γ1 F = some (.outer A) ∧ Blk W A 150 [.pointer (some ⟨E.tb,0,none⟩),.slice pp s.length cp,.slice (some ⟨F,0,none⟩) s.length s.length,lv])
   clear hmk hmv heo hev hlv hF
   go_wp2
   go_meet
   exact FIN.out
 case rest =>
  clear c0 c1 c2 c3 f0 f1 f2 f3 KA hfv heo hmk HA hlv
  obtain ⟨γ1,F,st,hA1,hF1,kA⟩:=hcut
  obtain ⟨_,o,ho,s',pv',f',hA',rows,rfl,hr1,hr2⟩:=st.inv.each F _ hF1
  rw [hA1] at hA'
  cases hA'
  have kF:Blk wc F 199 rows:=ho
  obtain ⟨r,hr⟩:∃ r,rows[k]? = some r:=⟨_,List.getElem?_eq_getElem (by omega)⟩
  have hrk:=hr2 k r hr
  have ST:Hid (Step E γ W γ1 wc):=st
  have HA1:Hid (γ1 A = some (.asked s (.slice pp s.length cp) f)):=hA1
  have HF1:Hid (γ1 F = some (.outer A)):=hF1
  have KA:Hid (Blk wc A 150 [.pointer (some ⟨E.tb,0,none⟩),.slice pp s.length cp,.slice (some ⟨F,0,none⟩) s.length s.length,lv]):=kA
  have KF:Hid (Blk wc F 199 rows):=kF
  obtain ⟨⟨c0,c1,c2,c3⟩,f0,f1,f2,f3⟩:=blk4 kA
  obtain ⟨x0,x1⟩:=cell_row kF hr
  have HR:Hid (rows[k]? = some r):=hr
  clear hr2 hA1 hF1 kA kF st ho hr
  obtain ⟨pf,nf,hff⟩:∃ pf nf,r = .slice pf nf nf:=by
   rcases hrk with rfl | ⟨F,rfl,hF⟩
   ·exact ⟨_,_,rfl⟩
   ·exact ⟨_,_,rfl⟩
  subst hff
  have h1:=hev wc pf nf nf
  go_upto_if 26 with fail
  clear h1
  go_cut [] (fun wx => ∃ γ2 V,Step E γ W γ2 wx ∧ γ2 V = some (.verd A k) ∧ Blk wx A 150 [.pointer (some ⟨E.tb,0,none⟩),.slice pp s.length cp,.slice (some ⟨F,0,none⟩) s.length s.length,lv] ∧ wx.cell? ⟨F,k,none⟩ = some (.slice (some ⟨V,0,none⟩) E.qs.length E.qs.length))
  case first =>
   rcases hrk with e | ⟨V,e,hV⟩
   ·cases e
    have q0:Below wc.heap.size wc wc.drew:=below_drew (Below.refl _ _)
    have st2:=ST.out.inv.step q0
    have hl:=len_any E.b E.tb E.g E.cap E.qs wc.drew (st2.inv.tree HE.out)
    have h2:=hmv wc.drew
    obtain ⟨st3,k3⟩:=step_verd st2.inv HA1.out HF1.out (KF.out.next q0) hk
    have x2:=cell_row (blk_alloc KF.out (.cells (reps E.qs.length (.int .u8 0)).toArray 201)) HR.out
    obtain ⟨x2,x3⟩:=x2
    have hne:A ≠ F:=fun e => by
     have h8:=HA1.out
     have h9:=HF1.out
     rw [e] at h8
     rw [show γ1 F = _ from h9] at h8
     cases h8
    have k4:=(blk_alloc (KA.out.next q0) (.cells (reps E.qs.length (.int .u8 0)).toArray 201)).kept (grown_set _ F k (wide wc.drew.heap.size E.qs.length)) (fun e => hne (by cases e;rfl))
    have x4:((wc.drew.alloc (.cells (reps E.qs.length (.int .u8 0)).toArray 201)).setCell ⟨F,k,none⟩ (wide wc.drew.heap.size E.qs.length)).cell? ⟨F,k,none⟩ = some (wide wc.drew.heap.size E.qs.length):=(cell_row k3 (by rw [List.getElem?_set,if_pos rfl,if_pos (by omega)])).1
    have FIN:Hid _:=(⟨_,_,(ST.out.trans st2).trans st3,addG_same _ _ _,k4,x4⟩:∃ γ2 V,Step E γ W γ2 _ ∧ γ2 V = some (.verd A k) ∧ Blk _ A 150 [.pointer (some ⟨E.tb,0,none⟩),.slice pp s.length cp,.slice (some ⟨F,0,none⟩) s.length s.length,lv] ∧ ((wc.drew.alloc (.cells (reps E.qs.length (.int .u8 0)).toArray 201)).setCell ⟨F,k,none⟩ (wide wc.drew.heap.size E.qs.length)).cell? ⟨F,k,none⟩ = some (.slice (some ⟨V,0,none⟩) E.qs.length E.qs.length))
    have HS:Hid (∀ X:World,Below wc.heap.size wc X → X.cell? ⟨A,2,none⟩ = some (.slice (some ⟨F,0,none⟩) s.length s.length) ∧ X.cell? ⟨A,0,none⟩ = some (.pointer (some ⟨E.tb,0,none⟩))):=fun X hX => ⟨(blk4 (KA.out.next hX)).1.2.2.1,(blk4 (KA.out.next hX)).1.1⟩
    have q1:Below wc.heap.size wc (wc.drew.alloc (.cells (reps E.qs.length (.int .u8 0)).toArray 201)):=q0.alloc (Nat.le_refl _) _
    clear st2 st3 k3 k4 x4 hev hmv c0 c1 c2 c3 f0 f1 f2 f3 x0 x1
    unfold wide at FIN
    go_wp2
    refine Rg.wpD_begin [0,1,2,3,4,5,6,7,8,9,10] (fun X => X.cell? ⟨A,2,none⟩ = some (.slice (some ⟨F,0,none⟩) s.length s.length) ∧ X.cell? ⟨A,0,none⟩ = some (.pointer (some ⟨E.tb,0,none⟩))) (by kernel_rfl) ?_
    have HeldS:=HS.out _ q0
    refine Rg.ld 0 HeldS ?_
    simp only [Act.put,Rg.sA,Rg.sB,Rg.sC]
    refine Rg.ld 1 HeldS ?_
    simp only [Act.put,Rg.sA,Rg.sB,Rg.sC]
    refine Rg.ld 2 HeldS ?_
    simp only [Act.put,Rg.sA,Rg.sB,Rg.sC]
    refine Rg.ld 3 HeldS ?_
    simp only [Act.put,Rg.sA,Rg.sB,Rg.sC]
    refine Rg.ld 4 HeldS ?_
    simp only [Act.put,Rg.sA,Rg.sB,Rg.sC]
    refine Rg.ld 5 HeldS ?_
    simp only [Act.put,Rg.sA,Rg.sB,Rg.sC]
    refine Rg.ld 6 HeldS ?_
    simp only [Act.put,Rg.sA,Rg.sB,Rg.sC]
    refine Rg.ld 7 HeldS ?_
    simp only [Act.put,Rg.sA,Rg.sB,Rg.sC]
    refine Rg.ld 8 HeldS ?_
    simp only [Act.put,Rg.sA,Rg.sB,Rg.sC]
    refine Rg.dd 9 fun K hK => ?_
    go_simp
    go_at_call 81
    refine Calls.mono hl ?_
    clear hl
    rintro x wN ⟨rfl,rfl⟩
    refine hK _ _ (fun _ => HS.out _ q0) ?_
    clear hK K
    refine Rg.dd 10 fun K hK => ?_
    go_simp
    refine hK _ _ (fun _ => HS.out _ q1) ?_
    clear hK K
    refine Rg.pu 11 ?_
    simp only [Act.put,Rg.sA,Rg.sB,Rg.sC]
    refine Rg.dd 12 fun K hK => ?_
    go_simp
    refine hK _ _ (fun h => absurd h (by decide)) ?_
    clear hK K
    refine Rg.wpD_done (by kernel_rfl) ?_
    go_wp2
    go_meet
    exact FIN.out
   ·unfold wide at e
    cases e
    have FIN:Hid _:=(⟨γ1,V,ST.out,hV,KA.out,x0⟩:∃ γ2 V,Step E γ W γ2 wc ∧ γ2 V = some (.verd A k) ∧ Blk wc A 150 [.pointer (some ⟨E.tb,0,none⟩),.slice pp s.length cp,.slice (some ⟨F,0,none⟩) s.length s.length,lv] ∧ wc.cell? ⟨F,k,none⟩ = some (.slice (some ⟨V,0,none⟩) E.qs.length E.qs.length))
    clear hV hmv hev
    go_wp2
    go_meet
    exact FIN.out
  case rest =>
   clear c0 c1 c2 c3 f0 f1 f2 f3 x0 x1 hrk KA KF
   obtain ⟨γ2,V,st,hV,kA,x0⟩:=hcut
   obtain ⟨⟨c0,c1,c2,c3⟩,_⟩:=blk4 kA
   have FIN:Hid _:=(⟨V,γ2,rfl,hV,st⟩:∃ V' γ',Ending.returned (.slice (some ⟨V,0,none⟩) E.qs.length E.qs.length) = Ending.returned (.slice (some ⟨V',0,none⟩) E.qs.length E.qs.length) ∧ γ' V' = some (.verd A k) ∧ Step E γ W γ' wc)
   clear hev hmv st hV kA
   go_wp2
   go_ret
   exact FIN.out
end Go.Proofs.YtcmmdojlhfmddaaGreat.Mt

/- The elements ahead: plain facts. -/
namespace Go.Proofs.YtcmmdojlhfmddaaGreat.Mt
open Go.Proofs.YtcmmdojlhfmddaaGreat.Tre
open Go Dm
theorem parentV_lt {es:List El} (hO:TreeOk es) {k:Nat} (hk:k < es.length):parentV es k = -1 ∨ ∃ j:Nat,parentV es k = j ∧ j < k:=by
 have hq:es[k]? = some es[k]:=List.getElem?_eq_getElem hk
 have hV:parentV es (k:Int) = es[k].nd.parent:=by unfold parentV;rw [elAt_yes hq];rfl
 rw [hV]
 rcases Nat.eq_zero_or_pos k with rfl | h0
 ·exact .inl (hO.root _ hq).1
 ·obtain ⟨p,q,h1,h2,_⟩:=hO.par k _ hq h0
  exact .inr ⟨p,h1,h2⟩
theorem beforeV_lt {es:List El} (hO:TreeOk es) {k:Nat} (hk:k < es.length):beforeV es k = -1 ∨ ∃ j:Nat,beforeV es k = j ∧ j < k:=by
 have hq:es[k]? = some es[k]:=List.getElem?_eq_getElem hk
 unfold beforeV
 rw [if_pos ⟨by omega,by omega⟩,Int.toNat_natCast,sibV_at hq]
 rcases Nat.eq_zero_or_pos k with rfl | h0
 ·rw [if_pos (hO.root _ hq).1]
  exact .inl rfl
 ·obtain ⟨p,q,h1,h2,h3,_,h5,h6⟩:=hO.par k _ hq h0
  rw [if_neg (by omega),h1]
  have hc:childrenV es (p:Int) = q.ch:=by unfold childrenV;rw [elAt_yes h3];rfl
  rw [hc]
  by_cases hp:es[k].place = 1
  ·exact .inl (nthI_no (by omega))
  ·right
   have hi:((es[k].place:Int) - 1 + -1) = ((es[k].place - 2:Nat):Int):=by omega
   rw [hi]
   have hlt:=(List.getElem?_eq_some_iff.1 h6).1
   have hx:q.ch[es[k].place - 2]? = some (q.ch[es[k].place - 2]'(by omega)):=List.getElem?_eq_getElem (by omega)
   rw [nthI_yes hx]
   refine ⟨_,rfl,?_⟩
   have hr:=hO.rise p q h3
   rw [List.pairwise_iff_getElem] at hr
   have:=hr (es[k].place - 2) (es[k].place - 1) (by omega) hlt (by omega)
   rwa [(List.getElem?_eq_some_iff.1 h6).2] at this
theorem nextV_lt {es:List El} (hO:TreeOk es) {k:Nat} (hk:k < es.length) (comb:Int):nextV es comb k = -1 ∨ ∃ j:Nat,nextV es comb k = j ∧ j < k:=by
 unfold nextV
 split
 ·exact parentV_lt hO hk
 ·split
  ·exact beforeV_lt hO hk
  ·exact .inl rfl
def restV (es:List El) (comb:Int) (f:Nat) (y:Int):List Nat:=if y = -1 then [] else y.toNat :: (if farV comb then chain es comb f y else [])
theorem chain_succ (es:List El) (comb:Int) (f:Nat) (x:Int):chain es comb (f + 1) x = restV es comb f (nextV es comb x):=rfl
theorem restV_end (es:List El) (comb:Int) (f:Nat):restV es comb f (-1) = []:=if_pos rfl
theorem restV_at (es:List El) (comb:Int) (f j:Nat):restV es comb f (j:Int) = j :: (if farV comb then chain es comb f j else []):=by
 unfold restV
 rw [if_neg (by omega),Int.toNat_natCast]
theorem chain_fuel {es:List El} (hO:TreeOk es) (comb:Int):∀ (f y:Nat),y < es.length → y < f → chain es comb f y = chain es comb (y + 1) y:=by
 intro f
 induction f using Nat.strongRecOn with
 | _ f ih =>
  intro y hy hf
  obtain ⟨f',rfl⟩:∃ f',f = f' + 1:=⟨f - 1,by omega⟩
  rw [chain_succ,chain_succ]
  rcases nextV_lt hO hy comb with h | ⟨j,h,hj⟩
  ·rw [h,restV_end,restV_end]
  ·rw [h,restV_at,restV_at,ih f' (by omega) j (by omega) (by omega)]
   by_cases hy0:y = f'
   ·rw [hy0,ih f' (by omega) j (by omega) (by omega)]
   ·rw [ih y (by omega) j (by omega) (by omega)]
theorem chain_tail {es:List El} (hO:TreeOk es) (comb:Int):∀ (f x:Nat) (a:List Nat) (y:Nat) (b:List Nat),x < es.length → x < f → chain es comb f x = a ++ y :: b → y < es.length ∧ b = if farV comb then aheadV es comb y else []:=by
 intro f
 induction f with
 | zero => intro x a y b _ h;omega
 | succ f ih =>
  intro x a y b hx hf h
  rw [chain_succ] at h
  rcases nextV_lt hO hx comb with hn | ⟨j,hn,hj⟩
  ·rw [hn,restV_end] at h
   simp at h
  ·rw [hn,restV_at] at h
   cases a with
   | nil =>
    simp only [List.nil_append,List.cons.injEq] at h
    obtain ⟨rfl,rfl⟩:=h
    refine ⟨by omega,?_⟩
    cases hfar:farV comb with
    | false => simp
    | true => simp only [if_true];exact chain_fuel hO comb f j (by omega) (by omega)
   | cons z a =>
    simp only [List.cons_append,List.cons.injEq] at h
    obtain ⟨_,h⟩:=h
    cases hfar:farV comb with
    | false => rw [hfar] at h;simp at h
    | true =>
     rw [hfar,if_pos rfl] at h
     have:=ih j a y b (by omega) (by omega) h
     rwa [hfar] at this
theorem ahead_tail {es:List El} (hO:TreeOk es) {comb:Int} {e y:Nat} {a b:List Nat} (he:e < es.length) (h:aheadV es comb e = a ++ y :: b):y < es.length ∧ b = if farV comb then aheadV es comb y else []:=
 chain_tail hO comb (e + 1) e a y b he (Nat.lt_succ_self _) h
end Go.Proofs.YtcmmdojlhfmddaaGreat.Mt

/- package match: the elements to which a combinator leads, as an iterator. -/
set_option maxRecDepth 100000
namespace Go.Proofs.YtcmmdojlhfmddaaGreat.Mt
open Go.Proofs.YtcmmdojlhfmddaaGreat.Tre
open Go Go.RowKit Go.Shelf Dm
attribute [local go_sem] Oper.semAt_some
/-! ### the way -/
def wayF (tb:Nat) (comb:Int):Value:=if comb = 1 ∨ comb = 2 then .func (.func 144) #[.pointer (some ⟨tb,0,none⟩)] #[] else if comb = 3 ∨ comb = 4 then .func (.func 150) #[.pointer (some ⟨tb,0,none⟩)] #[] else .func (.func 151) #[] #[]
theorem way_any (tb:Nat) (comb:Int) (w:World) :
  Calls Tryz.prog 135 #[.pointer (some ⟨tb,0,none⟩),.int .i64 comb] w fun e w' => e = .returned (.tuple #[wayF tb comb,.bool (farV comb)]) ∧ w' = w:=by
 by_cases h1:comb = 1
 ·subst h1
  go_enter Tryz.func135,Tryz.ntmps135
  go_wp2
  go_ret2
  exact ⟨rfl,rfl⟩
 have e1:(comb == 1) = false:=by simpa using h1
 by_cases h2:comb = 2
 ·subst h2
  go_enter Tryz.func135,Tryz.ntmps135
  go_wp2
  go_ret2
  exact ⟨rfl,rfl⟩
 have e2:(comb == 2) = false:=by simpa using h2
 by_cases h3:comb = 3
 ·subst h3
  go_enter Tryz.func135,Tryz.ntmps135
  go_wp2
  go_ret2
  exact ⟨rfl,rfl⟩
 have e3:(comb == 3) = false:=by simpa using h3
 by_cases h4:comb = 4
 ·subst h4
  go_enter Tryz.func135,Tryz.ntmps135
  go_wp2
  go_ret2
  exact ⟨rfl,rfl⟩
 have e4:(comb == 4) = false:=by simpa using h4
 have hF:wayF tb comb = .func (.func 151) #[] #[]:=by unfold wayF;rw [if_neg (by omega),if_neg (by omega)]
 have hf:farV comb = false:=decide_eq_false (by omega)
 rw [hF,hf]
 go_enter Tryz.func135,Tryz.ntmps135
 go_wp2
 go_ret2
 exact ⟨rfl,rfl⟩
def Ahead (tb:Nat) (e comb:Int) (w:World) (x:Ending) (w':World):Prop:=
 x = .returned (.func (.func 136) #[] #[.pointer (some ⟨w.heap.size + 1,0,none⟩),.pointer (some ⟨w.heap.size,0,none⟩),.pointer (some ⟨w.heap.size + 2,0,none⟩)]) ∧
  Boxed w' w.heap.size 3 (.int .i64 e) ∧ Boxed w' (w.heap.size + 1) 83 (wayF tb comb) ∧ Boxed w' (w.heap.size + 2) 4 (.bool (farV comb)) ∧ Below w.heap.size w w' ∧ w'.heap.size = w.heap.size + 3
set_option maxHeartbeats 1000000 in
theorem ahead_any (tb:Nat) (e comb:Int) (w:World) :
  Calls Tryz.prog 127 #[.pointer (some ⟨tb,0,none⟩),.int .i64 e,.int .i64 comb] w (Ahead tb e comb w):=by
 unfold Ahead
 have hw:=way_any tb comb (w.alloc (.cells #[.int .i64 e] 3))
 obtain ⟨W3,h3⟩:∃ W3,((w.alloc (.cells #[.int .i64 e] 3)).alloc (.cells #[.nilFunc] 83)).alloc (.cells #[.bool false] 4) = W3:=⟨_,rfl⟩
 have s3:W3.heap.size = w.heap.size + 3:=by rw [← h3];simp
 have b3:Below w.heap.size w W3:=by rw [← h3];exact (((Below.refl _ w).alloc (Nat.le_refl _) _).alloc (by simp) _).alloc (by simp;omega) _
 have x0:Boxed W3 w.heap.size 3 (.int .i64 e):=by rw [← h3];exact ((Boxed.new _ _ _).alloc _).alloc _
 have x1:Boxed W3 (w.heap.size + 1) 83 .nilFunc:=by
  rw [← h3]
  have:=(Boxed.new (w.alloc (.cells #[.int .i64 e] 3)) 83 .nilFunc).alloc (.cells #[.bool false] 4)
  rwa [World.size_alloc] at this
 have x2:Boxed W3 (w.heap.size + 2) 4 (.bool false):=by
  rw [← h3]
  have:=Boxed.new ((w.alloc (.cells #[.int .i64 e] 3)).alloc (.cells #[.nilFunc] 83)) 4 (.bool false)
  rwa [World.size_alloc,World.size_alloc] at this
 have c1:=x1.cell
 have f1:=x1.frozen
 have c2:=x2.cell
 have f2:=x2.frozen
 by_cases h1:comb = 1 ∨ comb = 2
 ·have hF:wayF tb comb = .func (.func 144) #[.pointer (some ⟨tb,0,none⟩)] #[]:=if_pos h1
  rw [hF] at hw ⊢
  clear hF
  have g1:=grownBy_setCell' W3 (w.heap.size + 1) (.func (.func 144) #[.pointer (some ⟨tb,0,none⟩)] #[])
  have g2:=grownBy_setCell' (W3.setCell ⟨w.heap.size + 1,0,none⟩ (.func (.func 144) #[.pointer (some ⟨tb,0,none⟩)] #[])) (w.heap.size + 2) (.bool (farV comb))
  have y1:=(x1.set (.func (.func 144) #[.pointer (some ⟨tb,0,none⟩)] #[])).kept g2 (by simp)
  have y2:=(x2.kept g1 (by simp)).set (.bool (farV comb))
  have c2':=(x2.kept g1 (by simp)).cell
  have f2':=(x2.kept g1 (by simp)).frozen
  have y0:=(x0.kept g1 (by simp)).kept g2 (by simp)
  have b9:=(b3.grown g1 b3.size (fun r e => by cases e;omega)).grown g2 (by have:=g1.size;omega) (fun r e => by cases e;omega)
  have s9:((W3.setCell ⟨w.heap.size + 1,0,none⟩ (.func (.func 144) #[.pointer (some ⟨tb,0,none⟩)] #[])).setCell ⟨w.heap.size + 2,0,none⟩ (.bool (farV comb))).heap.size = w.heap.size + 3:=by simp [World.setCell,s3]
  go_enter Tryz.func127,Tryz.ntmps127
  go_wp2_with fail
  refine hw.mono ?_
  clear hw
  rintro x w' ⟨rfl,rfl⟩
  go_wp2
  go_ret
  exact ⟨rfl,y0,y1,y2,b9,s9⟩
 by_cases h2:comb = 3 ∨ comb = 4
 ·have hF:wayF tb comb = .func (.func 150) #[.pointer (some ⟨tb,0,none⟩)] #[]:=by unfold wayF;rw [if_neg h1,if_pos h2]
  rw [hF] at hw ⊢
  clear hF
  have g1:=grownBy_setCell' W3 (w.heap.size + 1) (.func (.func 150) #[.pointer (some ⟨tb,0,none⟩)] #[])
  have g2:=grownBy_setCell' (W3.setCell ⟨w.heap.size + 1,0,none⟩ (.func (.func 150) #[.pointer (some ⟨tb,0,none⟩)] #[])) (w.heap.size + 2) (.bool (farV comb))
  have y1:=(x1.set (.func (.func 150) #[.pointer (some ⟨tb,0,none⟩)] #[])).kept g2 (by simp)
  have y2:=(x2.kept g1 (by simp)).set (.bool (farV comb))
  have c2':=(x2.kept g1 (by simp)).cell
  have f2':=(x2.kept g1 (by simp)).frozen
  have y0:=(x0.kept g1 (by simp)).kept g2 (by simp)
  have b9:=(b3.grown g1 b3.size (fun r e => by cases e;omega)).grown g2 (by have:=g1.size;omega) (fun r e => by cases e;omega)
  have s9:((W3.setCell ⟨w.heap.size + 1,0,none⟩ (.func (.func 150) #[.pointer (some ⟨tb,0,none⟩)] #[])).setCell ⟨w.heap.size + 2,0,none⟩ (.bool (farV comb))).heap.size = w.heap.size + 3:=by simp [World.setCell,s3]
  go_enter Tryz.func127,Tryz.ntmps127
  go_wp2_with fail
  refine hw.mono ?_
  clear hw
  rintro x w' ⟨rfl,rfl⟩
  go_wp2
  go_ret
  exact ⟨rfl,y0,y1,y2,b9,s9⟩
 ·have hF:wayF tb comb = .func (.func 151) #[] #[]:=by unfold wayF;rw [if_neg h1,if_neg h2]
  rw [hF] at hw ⊢
  clear hF
  have g1:=grownBy_setCell' W3 (w.heap.size + 1) (.func (.func 151) #[] #[])
  have g2:=grownBy_setCell' (W3.setCell ⟨w.heap.size + 1,0,none⟩ (.func (.func 151) #[] #[])) (w.heap.size + 2) (.bool (farV comb))
  have y1:=(x1.set (.func (.func 151) #[] #[])).kept g2 (by simp)
  have y2:=(x2.kept g1 (by simp)).set (.bool (farV comb))
  have c2':=(x2.kept g1 (by simp)).cell
  have f2':=(x2.kept g1 (by simp)).frozen
  have y0:=(x0.kept g1 (by simp)).kept g2 (by simp)
  have b9:=(b3.grown g1 b3.size (fun r e => by cases e;omega)).grown g2 (by have:=g1.size;omega) (fun r e => by cases e;omega)
  have s9:((W3.setCell ⟨w.heap.size + 1,0,none⟩ (.func (.func 151) #[] #[])).setCell ⟨w.heap.size + 2,0,none⟩ (.bool (farV comb))).heap.size = w.heap.size + 3:=by simp [World.setCell,s3]
  go_enter Tryz.func127,Tryz.ntmps127
  go_wp2_with fail
  refine hw.mono ?_
  clear hw
  rintro x w' ⟨rfl,rfl⟩
  go_wp2
  go_ret
  exact ⟨rfl,y0,y1,y2,b9,s9⟩
end Go.Proofs.YtcmmdojlhfmddaaGreat.Mt

/- package match: the elements to which a combinator leads, as an iterator. -/
set_option maxRecDepth 100000
namespace Go.Proofs.YtcmmdojlhfmddaaGreat.Mt
open Go.Proofs.YtcmmdojlhfmddaaGreat.Tre
open Go Go.RowKit Go.Shelf Dm
attribute [local go_sem] Oper.semAt_some
set_option maxHeartbeats 2000000 in
theorem ahead1P_in (E:Env) (hE:EnvOk E) (n l Bn Be Bf:Nat) (comb:Int) (hcb:comb = 1 ∨ comb = 2) (e:Nat) (he:e < E.qs.length) (J Jx:List Nat → World → Prop) (W:World)
  (hC:∀ s X,J s X → X.cell? ⟨Bn,0,none⟩ = some (wayF E.tb comb) ∧ X.cell? ⟨Be,0,none⟩ = some (.int .i64 e) ∧ X.cell? ⟨Bf,0,none⟩ = some (.bool (farV comb)) ∧ Tr E.b X E.tb E.g E.cap E.qs)
  (hY:∀ pre x W1,J pre W1 → (∃ rest,pre ++ x :: rest = aheadV E.es comb e) → W.heap.size ≤ W1.heap.size → YieldAt Fence.wide (n - 1) Tryz.prog l #[.int .i64 (x:Nat)] W1 fun x' W' => (x' = .returned (.bool true) ∧ J (pre ++ [x]) W' ∧ W1.heap.size ≤ W'.heap.size) ∨ (x' = .returned (.bool false) ∧ Jx (pre ++ [x]) W'))
  (h0:J [] W) :
  CallsIn Fence.wide n Tryz.prog 136 #[.func (.yield l) #[] #[],.pointer (some ⟨Bn,0,none⟩),.pointer (some ⟨Be,0,none⟩),.pointer (some ⟨Bf,0,none⟩)] W fun x W' => (∃ v,x = .returned v) ∧ ((∃ xs,xs = aheadV E.es comb e ∧ J xs W') ∨ (∃ pre,True ∧ Jx pre W')):=by
 have hF:wayF E.tb comb = .func (.func 144) #[.pointer (some ⟨E.tb,0,none⟩)] #[]:=by unfold wayF;rw [if_pos hcb]
 have nx:∀ (x:Nat) (X:World),Tr E.b X E.tb E.g E.cap E.qs → Calls Tryz.prog 144 #[.pointer (some ⟨E.tb,0,none⟩),.int .i64 x] X fun r X' => r = .returned (.int .i64 (nextV E.es comb x)) ∧ X' = X:=fun x X hT => by
  unfold nextV
  rw [if_pos hcb]
  exact parent_any E.b E.tb E.g E.cap E.qs x X hT
 refine callsIn_of_wp Tryz.func136 rfl trivial ?_ rfl
 simp only [Tryz.ntmps136,List.size_toArray,List.length_cons,List.length_nil,Nat.reduceAdd,Nat.reduceSub,Array.replicate_succ,Array.replicate_zero,List.push_toArray,List.append_toArray,List.nil_append,List.cons_append]
 rw [hF] at hC
 obtain ⟨c1,c2,c3,hT⟩:=hC _ _ h0
 have n1:=nx e W hT
 have NX:Hid _:=nx
 have HC:Hid _:=hC
 have HY:Hid _:=hY
 have hlen:E.es.length = E.qs.length:=List.length_map ..
 have NLT:Hid (∀ k:Nat,k < E.qs.length → nextV E.es comb k = -1 ∨ ∃ j:Nat,nextV E.es comb k = j ∧ j < k):=fun k hk => nextV_lt hE.ok (by rw [hlen];exact hk) comb
 have HST:Hid (aheadV E.es comb e = restV E.es comb e (nextV E.es comb e)):=chain_succ _ _ _ _
 clear hT hE nx hC hF hlen hY hcb
 gi_wp2_with fail
 refine ⟨trivial,fun h => (by cases h),?_⟩
 refine (callsIn_wide.2 n1).mono ?_
 clear n1
 rintro r W' ⟨rfl,rfl⟩
 gi_wp2
 gi_loopw [5] (fun x wr => ∃ (y:Int) (pre:List Nat) (f:Nat),x = .int .i64 y ∧ aheadV E.es comb e = pre ++ restV E.es comb f y ∧ (y = -1 ∨ ∃ j:Nat,y = j ∧ j < E.qs.length ∧ j < f) ∧ J pre wr ∧ W'.heap.size ≤ wr.heap.size) (fun x _ => (intOf x + 1).toNat)
 case atStart =>
  refine ⟨_,[],e,rfl,HST.out,?_,h0,Nat.le_refl _⟩
  rcases NLT.out e he with h | ⟨j,h,hj⟩
  ·exact .inl h
  ·exact .inr ⟨j,h,by omega,hj⟩
 case round =>
  clear c1 c2 c3
  obtain ⟨y,pre,f,rfl,hx,hy,hJ,hsz⟩:=hrel
  obtain ⟨c1,c2,c3,hT⟩:=HC.out _ _ hJ
  rcases hy with rfl | ⟨j,rfl,hj,hjf⟩
  ·rw [restV_end,List.append_nil] at hx
   have HX:Hid (_ = _):=hx
   clear hx HST hT
   gi_wp2
   refine ⟨fun _ h => (by cases h),?_⟩
   gi_wp2
   go_end0
   exact ⟨⟨_,rfl⟩,.inl ⟨pre,HX.out.symm,hJ⟩⟩
  ·rw [restV_at] at hx
   obtain ⟨fn,tmps,assign,body,hy,hR⟩:=HY.out pre j wr hJ ⟨_,hx.symm⟩ hsz
   have HX:Hid (_ = _):=hx
   have hne:((j:Int) != -1) = true:=by simp [bne]
   clear hx HST hT
   gi_wp2_with fail
   refine ⟨fun h => (by cases h),hR.mono ?_⟩
   rintro r w2 (⟨rfl,hJ2,hsz2⟩ | ⟨rfl,hJ2⟩)
   ·clear c1 c2 c3
    obtain ⟨c1,c2,c3,hT⟩:=HC.out _ _ hJ2
    cases hfar:farV comb with
    | false =>
     rw [hfar] at c3
     have HE:Hid (aheadV E.es comb e = pre ++ [j]):=by
      have:=HX.out
      show _ = _
      rw [show aheadV E.es comb e = _ from HX.out,hfar]
      rfl
     clear HX hT
     gi_wp2
     go_end0
     exact ⟨⟨_,rfl⟩,.inl ⟨_,HE.out.symm,hJ2⟩⟩
    | true =>
     rw [hfar] at c3
     have n1:=NX.out j w2 hT
     obtain ⟨f',rfl⟩:∃ f',f = f' + 1:=⟨f - 1,by omega⟩
     have HE:Hid (aheadV E.es comb e = (pre ++ [j]) ++ restV E.es comb f' (nextV E.es comb j)):=by
      show _ = _
      rw [show aheadV E.es comb e = _ from HX.out,if_pos hfar,chain_succ]
      simp
     have hlt:=NLT.out j hj
     have HL:Hid _:=hlt
     clear HX hT hlt
     gi_wp2_with fail
     refine ⟨trivial,fun h => (by cases h),?_⟩
     refine (callsIn_wide.2 n1).mono ?_
     clear n1
     rintro r W3 ⟨rfl,rfl⟩
     gi_wp2
     go_roundw
     case rel =>
      refine ⟨_,pre ++ [j],f',rfl,HE.out,?_,hJ2,Nat.le_trans hsz hsz2⟩
      rcases HL.out with h | ⟨k,h,hk⟩
      ·exact .inl h
      ·exact .inr ⟨k,h,by omega,by omega⟩
     case measure =>
      rcases HL.out with h | ⟨k,h,hk⟩
      ·simp [intOf,h]
      ·simp [intOf,h];omega
   ·gi_wp2
    go_end0
    exact ⟨⟨_,rfl⟩,.inr ⟨_,trivial,hJ2⟩⟩
set_option maxHeartbeats 2000000 in
theorem ahead1B_in (E:Env) (hE:EnvOk E) (n l Bn Be Bf:Nat) (comb:Int) (hcb:comb = 3 ∨ comb = 4) (e:Nat) (he:e < E.qs.length) (J Jx:List Nat → World → Prop) (W:World)
  (hC:∀ s X,J s X → X.cell? ⟨Bn,0,none⟩ = some (wayF E.tb comb) ∧ X.cell? ⟨Be,0,none⟩ = some (.int .i64 e) ∧ X.cell? ⟨Bf,0,none⟩ = some (.bool (farV comb)) ∧ Tr E.b X E.tb E.g E.cap E.qs)
  (hY:∀ pre x W1,J pre W1 → (∃ rest,pre ++ x :: rest = aheadV E.es comb e) → W.heap.size ≤ W1.heap.size → YieldAt Fence.wide (n - 1) Tryz.prog l #[.int .i64 (x:Nat)] W1 fun x' W' => (x' = .returned (.bool true) ∧ J (pre ++ [x]) W' ∧ W1.heap.size ≤ W'.heap.size) ∨ (x' = .returned (.bool false) ∧ Jx (pre ++ [x]) W'))
  (h0:J [] W) :
  CallsIn Fence.wide n Tryz.prog 136 #[.func (.yield l) #[] #[],.pointer (some ⟨Bn,0,none⟩),.pointer (some ⟨Be,0,none⟩),.pointer (some ⟨Bf,0,none⟩)] W fun x W' => (∃ v,x = .returned v) ∧ ((∃ xs,xs = aheadV E.es comb e ∧ J xs W') ∨ (∃ pre,True ∧ Jx pre W')):=by
 have hF:wayF E.tb comb = .func (.func 150) #[.pointer (some ⟨E.tb,0,none⟩)] #[]:=by unfold wayF;rw [if_neg (by omega),if_pos hcb]
 have nx:∀ (x:Nat) (X:World),Tr E.b X E.tb E.g E.cap E.qs → Calls Tryz.prog 150 #[.pointer (some ⟨E.tb,0,none⟩),.int .i64 x] X fun r X' => r = .returned (.int .i64 (nextV E.es comb x)) ∧ X' = X:=fun x X hT => by
  unfold nextV
  rw [if_neg (by omega),if_pos hcb]
  exact before_any E.b E.tb E.g E.cap E.qs x X hT hE.ok hE.few
 refine callsIn_of_wp Tryz.func136 rfl trivial ?_ rfl
 simp only [Tryz.ntmps136,List.size_toArray,List.length_cons,List.length_nil,Nat.reduceAdd,Nat.reduceSub,Array.replicate_succ,Array.replicate_zero,List.push_toArray,List.append_toArray,List.nil_append,List.cons_append]
 rw [hF] at hC
 obtain ⟨c1,c2,c3,hT⟩:=hC _ _ h0
 have n1:=nx e W hT
 have NX:Hid _:=nx
 have HC:Hid _:=hC
 have HY:Hid _:=hY
 have hlen:E.es.length = E.qs.length:=List.length_map ..
 have NLT:Hid (∀ k:Nat,k < E.qs.length → nextV E.es comb k = -1 ∨ ∃ j:Nat,nextV E.es comb k = j ∧ j < k):=fun k hk => nextV_lt hE.ok (by rw [hlen];exact hk) comb
 have HST:Hid (aheadV E.es comb e = restV E.es comb e (nextV E.es comb e)):=chain_succ _ _ _ _
 clear hT hE nx hC hF hlen hY hcb
 gi_wp2_with fail
 refine ⟨trivial,fun h => (by cases h),?_⟩
 refine (callsIn_wide.2 n1).mono ?_
 clear n1
 rintro r W' ⟨rfl,rfl⟩
 gi_wp2
 gi_loopw [5] (fun x wr => ∃ (y:Int) (pre:List Nat) (f:Nat),x = .int .i64 y ∧ aheadV E.es comb e = pre ++ restV E.es comb f y ∧ (y = -1 ∨ ∃ j:Nat,y = j ∧ j < E.qs.length ∧ j < f) ∧ J pre wr ∧ W'.heap.size ≤ wr.heap.size) (fun x _ => (intOf x + 1).toNat)
 case atStart =>
  refine ⟨_,[],e,rfl,HST.out,?_,h0,Nat.le_refl _⟩
  rcases NLT.out e he with h | ⟨j,h,hj⟩
  ·exact .inl h
  ·exact .inr ⟨j,h,by omega,hj⟩
 case round =>
  clear c1 c2 c3
  obtain ⟨y,pre,f,rfl,hx,hy,hJ,hsz⟩:=hrel
  obtain ⟨c1,c2,c3,hT⟩:=HC.out _ _ hJ
  rcases hy with rfl | ⟨j,rfl,hj,hjf⟩
  ·rw [restV_end,List.append_nil] at hx
   have HX:Hid (_ = _):=hx
   clear hx HST hT
   gi_wp2
   refine ⟨fun _ h => (by cases h),?_⟩
   gi_wp2
   go_end0
   exact ⟨⟨_,rfl⟩,.inl ⟨pre,HX.out.symm,hJ⟩⟩
  ·rw [restV_at] at hx
   obtain ⟨fn,tmps,assign,body,hy,hR⟩:=HY.out pre j wr hJ ⟨_,hx.symm⟩ hsz
   have HX:Hid (_ = _):=hx
   have hne:((j:Int) != -1) = true:=by simp [bne]
   clear hx HST hT
   gi_wp2_with fail
   refine ⟨fun h => (by cases h),hR.mono ?_⟩
   rintro r w2 (⟨rfl,hJ2,hsz2⟩ | ⟨rfl,hJ2⟩)
   ·clear c1 c2 c3
    obtain ⟨c1,c2,c3,hT⟩:=HC.out _ _ hJ2
    cases hfar:farV comb with
    | false =>
     rw [hfar] at c3
     have HE:Hid (aheadV E.es comb e = pre ++ [j]):=by
      have:=HX.out
      show _ = _
      rw [show aheadV E.es comb e = _ from HX.out,hfar]
      rfl
     clear HX hT
     gi_wp2
     go_end0
     exact ⟨⟨_,rfl⟩,.inl ⟨_,HE.out.symm,hJ2⟩⟩
    | true =>
     rw [hfar] at c3
     have n1:=NX.out j w2 hT
     obtain ⟨f',rfl⟩:∃ f',f = f' + 1:=⟨f - 1,by omega⟩
     have HE:Hid (aheadV E.es comb e = (pre ++ [j]) ++ restV E.es comb f' (nextV E.es comb j)):=by
      show _ = _
      rw [show aheadV E.es comb e = _ from HX.out,if_pos hfar,chain_succ]
      simp
     have hlt:=NLT.out j hj
     have HL:Hid _:=hlt
     clear HX hT hlt
     gi_wp2_with fail
     refine ⟨trivial,fun h => (by cases h),?_⟩
     refine (callsIn_wide.2 n1).mono ?_
     clear n1
     rintro r W3 ⟨rfl,rfl⟩
     gi_wp2
     go_roundw
     case rel =>
      refine ⟨_,pre ++ [j],f',rfl,HE.out,?_,hJ2,Nat.le_trans hsz hsz2⟩
      rcases HL.out with h | ⟨k,h,hk⟩
      ·exact .inl h
      ·exact .inr ⟨k,h,by omega,by omega⟩
     case measure =>
      rcases HL.out with h | ⟨k,h,hk⟩
      ·simp [intOf,h]
      ·simp [intOf,h];omega
   ·gi_wp2
    go_end0
    exact ⟨⟨_,rfl⟩,.inr ⟨_,trivial,hJ2⟩⟩
theorem way1_any (x:Int) (w:World):Calls Tryz.prog 151 #[.int .i64 x] w fun r w' => r = .returned (.int .i64 (-1)) ∧ w' = w:=by
 go_enter Tryz.func151,Tryz.ntmps151
 go_wp2
 go_ret
 exact ⟨rfl,rfl⟩
set_option maxHeartbeats 2000000 in
theorem ahead1N_in (E:Env) (hE:EnvOk E) (n l Bn Be Bf:Nat) (comb:Int) (hcb:¬ (comb = 1 ∨ comb = 2) ∧ ¬ (comb = 3 ∨ comb = 4)) (e:Nat) (he:e < E.qs.length) (J Jx:List Nat → World → Prop) (W:World)
  (hC:∀ s X,J s X → X.cell? ⟨Bn,0,none⟩ = some (wayF E.tb comb) ∧ X.cell? ⟨Be,0,none⟩ = some (.int .i64 e) ∧ X.cell? ⟨Bf,0,none⟩ = some (.bool (farV comb)) ∧ Tr E.b X E.tb E.g E.cap E.qs)
  (hY:∀ pre x W1,J pre W1 → (∃ rest,pre ++ x :: rest = aheadV E.es comb e) → W.heap.size ≤ W1.heap.size → YieldAt Fence.wide (n - 1) Tryz.prog l #[.int .i64 (x:Nat)] W1 fun x' W' => (x' = .returned (.bool true) ∧ J (pre ++ [x]) W' ∧ W1.heap.size ≤ W'.heap.size) ∨ (x' = .returned (.bool false) ∧ Jx (pre ++ [x]) W'))
  (h0:J [] W) :
  CallsIn Fence.wide n Tryz.prog 136 #[.func (.yield l) #[] #[],.pointer (some ⟨Bn,0,none⟩),.pointer (some ⟨Be,0,none⟩),.pointer (some ⟨Bf,0,none⟩)] W fun x W' => (∃ v,x = .returned v) ∧ ((∃ xs,xs = aheadV E.es comb e ∧ J xs W') ∨ (∃ pre,True ∧ Jx pre W')):=by
 have hF:wayF E.tb comb = .func (.func 151) #[] #[]:=by unfold wayF;rw [if_neg hcb.1,if_neg hcb.2]
 have nx:∀ (x:Nat) (X:World),Tr E.b X E.tb E.g E.cap E.qs → Calls Tryz.prog 151 #[.int .i64 x] X fun r X' => r = .returned (.int .i64 (nextV E.es comb x)) ∧ X' = X:=fun x X hT => by
  unfold nextV
  rw [if_neg hcb.1,if_neg hcb.2]
  exact way1_any x X
 refine callsIn_of_wp Tryz.func136 rfl trivial ?_ rfl
 simp only [Tryz.ntmps136,List.size_toArray,List.length_cons,List.length_nil,Nat.reduceAdd,Nat.reduceSub,Array.replicate_succ,Array.replicate_zero,List.push_toArray,List.append_toArray,List.nil_append,List.cons_append]
 rw [hF] at hC
 obtain ⟨c1,c2,c3,hT⟩:=hC _ _ h0
 have n1:=nx e W hT
 have NX:Hid _:=nx
 have HC:Hid _:=hC
 have HY:Hid _:=hY
 have hlen:E.es.length = E.qs.length:=List.length_map ..
 have NLT:Hid (∀ k:Nat,k < E.qs.length → nextV E.es comb k = -1 ∨ ∃ j:Nat,nextV E.es comb k = j ∧ j < k):=fun k hk => nextV_lt hE.ok (by rw [hlen];exact hk) comb
 have HST:Hid (aheadV E.es comb e = restV E.es comb e (nextV E.es comb e)):=chain_succ _ _ _ _
 clear hT hE nx hC hF hlen hY hcb
 gi_wp2_with fail
 refine ⟨trivial,fun h => (by cases h),?_⟩
 refine (callsIn_wide.2 n1).mono ?_
 clear n1
 rintro r W' ⟨rfl,rfl⟩
 gi_wp2
 gi_loopw [5] (fun x wr => ∃ (y:Int) (pre:List Nat) (f:Nat),x = .int .i64 y ∧ aheadV E.es comb e = pre ++ restV E.es comb f y ∧ (y = -1 ∨ ∃ j:Nat,y = j ∧ j < E.qs.length ∧ j < f) ∧ J pre wr ∧ W'.heap.size ≤ wr.heap.size) (fun x _ => (intOf x + 1).toNat)
 case atStart =>
  refine ⟨_,[],e,rfl,HST.out,?_,h0,Nat.le_refl _⟩
  rcases NLT.out e he with h | ⟨j,h,hj⟩
  ·exact .inl h
  ·exact .inr ⟨j,h,by omega,hj⟩
 case round =>
  clear c1 c2 c3
  obtain ⟨y,pre,f,rfl,hx,hy,hJ,hsz⟩:=hrel
  obtain ⟨c1,c2,c3,hT⟩:=HC.out _ _ hJ
  rcases hy with rfl | ⟨j,rfl,hj,hjf⟩
  ·rw [restV_end,List.append_nil] at hx
   have HX:Hid (_ = _):=hx
   clear hx HST hT
   gi_wp2
   refine ⟨fun _ h => (by cases h),?_⟩
   gi_wp2
   go_end0
   exact ⟨⟨_,rfl⟩,.inl ⟨pre,HX.out.symm,hJ⟩⟩
  ·rw [restV_at] at hx
   obtain ⟨fn,tmps,assign,body,hy,hR⟩:=HY.out pre j wr hJ ⟨_,hx.symm⟩ hsz
   have HX:Hid (_ = _):=hx
   have hne:((j:Int) != -1) = true:=by simp [bne]
   clear hx HST hT
   gi_wp2_with fail
   refine ⟨fun h => (by cases h),hR.mono ?_⟩
   rintro r w2 (⟨rfl,hJ2,hsz2⟩ | ⟨rfl,hJ2⟩)
   ·clear c1 c2 c3
    obtain ⟨c1,c2,c3,hT⟩:=HC.out _ _ hJ2
    cases hfar:farV comb with
    | false =>
     rw [hfar] at c3
     have HE:Hid (aheadV E.es comb e = pre ++ [j]):=by
      have:=HX.out
      show _ = _
      rw [show aheadV E.es comb e = _ from HX.out,hfar]
      rfl
     clear HX hT
     gi_wp2
     go_end0
     exact ⟨⟨_,rfl⟩,.inl ⟨_,HE.out.symm,hJ2⟩⟩
    | true =>
     rw [hfar] at c3
     have n1:=NX.out j w2 hT
     obtain ⟨f',rfl⟩:∃ f',f = f' + 1:=⟨f - 1,by omega⟩
     have HE:Hid (aheadV E.es comb e = (pre ++ [j]) ++ restV E.es comb f' (nextV E.es comb j)):=by
      show _ = _
      rw [show aheadV E.es comb e = _ from HX.out,if_pos hfar,chain_succ]
      simp
     have hlt:=NLT.out j hj
     have HL:Hid _:=hlt
     clear HX hT hlt
     gi_wp2_with fail
     refine ⟨trivial,fun h => (by cases h),?_⟩
     refine (callsIn_wide.2 n1).mono ?_
     clear n1
     rintro r W3 ⟨rfl,rfl⟩
     gi_wp2
     go_roundw
     case rel =>
      refine ⟨_,pre ++ [j],f',rfl,HE.out,?_,hJ2,Nat.le_trans hsz hsz2⟩
      rcases HL.out with h | ⟨k,h,hk⟩
      ·exact .inl h
      ·exact .inr ⟨k,h,by omega,by omega⟩
     case measure =>
      rcases HL.out with h | ⟨k,h,hk⟩
      ·simp [intOf,h]
      ·simp [intOf,h];omega
   ·gi_wp2
    go_end0
    exact ⟨⟨_,rfl⟩,.inr ⟨_,trivial,hJ2⟩⟩
end Go.Proofs.YtcmmdojlhfmddaaGreat.Mt

/- The elements ahead, one by one: what is known of one tells of those that were passed. -/
namespace Go.Proofs.YtcmmdojlhfmddaaGreat.Mt
open Go.Proofs.YtcmmdojlhfmddaaGreat.Tre
open Go Dm
section
variable {E:Env} (hE:EnvOk E) {f k e:Nat} {s:Sel} (he:e < E.qs.length)
include hE he
theorem vd_at {a b:List Nat} {y:Nat} (h:aheadV E.es (partAt s k).1 e = a ++ y :: b):y < E.qs.length ∧ vdV E f s k y = (y :: b).any (uptoV (anyV E.es f) E.es s (k - 1)):=by
 have hl:E.es.length = E.qs.length:=List.length_map ..
 obtain ⟨h1,rfl⟩:=ahead_tail hE.ok (by rw [hl];exact he) h
 exact ⟨by rw [← hl];exact h1,rfl⟩
theorem res_at {a b:List Nat} {y:Nat} (h:aheadV E.es (partAt s k).1 e = a ++ y :: b) (ha:∀ z ∈ a,uptoV (anyV E.es f) E.es s (k - 1) z = false) :
  (aheadV E.es (partAt s k).1 e).any (uptoV (anyV E.es f) E.es s (k - 1)) = vdV E f s k y ∧ ∀ z ∈ a,z < E.qs.length ∧ vdV E f s k z = vdV E f s k y:=by
 have hy:=(vd_at hE he (f:=f) h).2
 have none:∀ l:List Nat,(∀ z ∈ l,uptoV (anyV E.es f) E.es s (k - 1) z = false) → l.any (uptoV (anyV E.es f) E.es s (k - 1)) = false:=fun l hl => by
  rw [List.any_eq_false]
  intro z hz
  rw [hl z hz]
  simp
 constructor
 ·rw [h,List.any_append,none a ha,Bool.false_or,hy]
 ·intro z hz
  obtain ⟨c,d,rfl⟩:=List.append_of_mem hz
  have h2:aheadV E.es (partAt s k).1 e = c ++ z :: (d ++ y :: b):=by rw [h];simp
  obtain ⟨h3,h4⟩:=vd_at hE he (f:=f) h2
  refine ⟨h3,?_⟩
  rw [h4,List.any_cons,ha z hz,Bool.false_or,List.any_append,none d (fun x hx => ha x (by simp [hx])),Bool.false_or,hy]
theorem res_none {a:List Nat} (h:a = aheadV E.es (partAt s k).1 e) (ha:∀ z ∈ a,uptoV (anyV E.es f) E.es s (k - 1) z = false) :
  (aheadV E.es (partAt s k).1 e).any (uptoV (anyV E.es f) E.es s (k - 1)) = false ∧ ∀ z ∈ a,z < E.qs.length ∧ vdV E f s k z = false:=by
 have none:∀ l:List Nat,(∀ z ∈ l,uptoV (anyV E.es f) E.es s (k - 1) z = false) → l.any (uptoV (anyV E.es f) E.es s (k - 1)) = false:=fun l hl => by
  rw [List.any_eq_false]
  intro z hz
  rw [hl z hz]
  simp
 constructor
 ·rw [← h];exact none a ha
 ·intro z hz
  obtain ⟨c,d,rfl⟩:=List.append_of_mem hz
  obtain ⟨h3,h4⟩:=vd_at hE he (f:=f) h.symm
  exact ⟨h3,by rw [h4];exact none _ (fun x hx => ha x (List.mem_append_right _ hx))⟩
theorem res_yes {a b:List Nat} {y:Nat} (h:aheadV E.es (partAt s k).1 e = a ++ y :: b) (ha:∀ z ∈ a,uptoV (anyV E.es f) E.es s (k - 1) z = false) (hy:uptoV (anyV E.es f) E.es s (k - 1) y = true) :
  (aheadV E.es (partAt s k).1 e).any (uptoV (anyV E.es f) E.es s (k - 1)) = true ∧ ∀ z ∈ a ++ [y],z < E.qs.length ∧ vdV E f s k z = true:=by
 obtain ⟨h1,h2⟩:=vd_at hE he (f:=f) h
 have h3:vdV E f s k y = true:=by rw [h2,List.any_cons,hy,Bool.true_or]
 obtain ⟨h4,h5⟩:=res_at hE he h ha
 rw [h3] at h4 h5
 refine ⟨h4,fun z hz => ?_⟩
 rcases List.mem_append.1 hz with hz | hz
 ·exact h5 z hz
 ·obtain rfl:z = y:=by simpa using hz
  exact ⟨h1,h3⟩
end
end Go.Proofs.YtcmmdojlhfmddaaGreat.Mt

/- package match: isAhead. -/
namespace Go.Proofs.YtcmmdojlhfmddaaGreat.Mt
open Go.Proofs.YtcmmdojlhfmddaaGreat.Tre
open Go Go.RowKit Go.Shelf Dm
attribute [local go_sem] Oper.semAt_some
theorem egAhead:∀ args w,(callFunc 136 args).run Tryz.prog w = .ok (.enter 136 args) w:=enters_of Tryz.func136 (by kernel_rfl) rfl
def AheadC (E:Env) (comb:Int) (e Bn Be Bf:Nat) (X:World):Prop:=X.cell? ⟨Bn,0,none⟩ = some (wayF E.tb comb) ∧ X.cell? ⟨Be,0,none⟩ = some (.int .i64 e) ∧ X.cell? ⟨Bf,0,none⟩ = some (.bool (farV comb)) ∧ Tr E.b X E.tb E.g E.cap E.qs
theorem ahead_seq (E:Env) (hE:EnvOk E) (n Bn Be Bf:Nat) (comb:Int) (e:Nat) (he:e < E.qs.length) (w:World) :
  SeqW Fence.wide n Tryz.prog 136 #[.pointer (some ⟨Bn,0,none⟩),.pointer (some ⟨Be,0,none⟩),.pointer (some ⟨Bf,0,none⟩)] (fun x:Nat => #[.int .i64 x]) 0 (fun xs => xs = aheadV E.es comb e) (fun _ => True) (fun pre x => ∃ rest,pre ++ x :: rest = aheadV E.es comb e) 0 (AheadC E comb e Bn Be Bf) w:=fun l J Jx W _ _ _ hC hY h0 => by
 have hY':∀ pre x W1,J pre W1 → (∃ rest,pre ++ x :: rest = aheadV E.es comb e) → W.heap.size ≤ W1.heap.size → YieldAt Fence.wide (n - 1) Tryz.prog l #[.int .i64 (x:Nat)] W1 fun x' W' => (x' = .returned (.bool true) ∧ J (pre ++ [x]) W' ∧ W1.heap.size ≤ W'.heap.size) ∨ (x' = .returned (.bool false) ∧ Jx (pre ++ [x]) W'):=fun pre x W1 h1 h2 h3 => (hY pre x W1 h1 h2 (by omega)).mono (fun _ _ h => h.imp (fun h => ⟨h.1,h.2.1,h.2.2.below.size⟩) id)
 by_cases h1:comb = 1 ∨ comb = 2
 ·exact ahead1P_in E hE n l Bn Be Bf comb h1 e he J Jx W hC hY' h0
 by_cases h2:comb = 3 ∨ comb = 4
 ·exact ahead1B_in E hE n l Bn Be Bf comb h2 e he J Jx W hC hY' h0
 ·exact ahead1N_in E hE n l Bn Be Bf comb ⟨h1,h2⟩ e he J Jx W hC hY' h0
end Go.Proofs.YtcmmdojlhfmddaaGreat.Mt

/- package match: where isAhead's loops stand. -/
namespace Go.Proofs.YtcmmdojlhfmddaaGreat.Mt
open Go.Proofs.YtcmmdojlhfmddaaGreat.Tre
open Go Go.RowKit Go.Shelf Dm
def UpToK (E:Env) (A f:Nat) (s:Sel) (pv:Value) (k:Nat):Prop:=∀ (γ:Ghost) (W:World),Inv E γ W → γ A = some (.asked s pv f) → ∀ x:Nat,x < E.qs.length →
 Calls Tryz.prog 93 #[.pointer (some ⟨A,0,none⟩),.int .i64 k,.int .i64 x] W fun r W' => r = .returned (.bool (uptoV (anyV E.es f) E.es s k x)) ∧ ∃ γ',Step E γ W γ' W'
def onlyN (K:Act → World → Prop):Exit → Act → World → Prop
 | .normal,a,w => K a w
 | _,_,_ => False
theorem wpIn_onlyN {F:Fence} {n:Nat} {P:Program} {c:Code} {Q:Exit → Act → World → Prop} {a:Act} {w:World} (h:c.wpIn F n P (onlyN (fun a w => Q .normal a w)) a w):c.wpIn F n P Q a w:=
 wpIn_mono h (fun e a w h => by cases e <;> first | exact h | exact h.elim)
structure Loop (E:Env) (V B:Nat) (γ1:Ghost) (X1:World) (ps:List Nat) (u:Int) (pw:Value) (γ':Ghost) (X:World):Prop where
 st:Step E γ1 X1 γ' X
 free:∀ b,X1.heap.size ≤ b → b < B + 8 → γ' b = .none
 fo:Boxed X B 199 (.slice (some ⟨V,0,none⟩) E.qs.length E.qs.length)
 vb:Boxed X (B + 1) 201 (.int .u8 u)
 pb:Boxed X (B + 2) 55 pw
 row:IntRow (B + 8) X pw (chI ps)
 rowf:∀ g,pw.ownBlock = some g → γ' g = .none
 base:B = X1.heap.size
 here:B + 6 ≤ X.heap.size
 low:E.n₀ ≤ X1.heap.size
section
variable {E:Env} {V B:Nat} {γ1:Ghost} {X1:World} {ps:List Nat} {u:Int} {pw:Value} {γ':Ghost} {X Y:World}
theorem Loop.abide (h:Loop E V B γ1 X1 ps u pw γ' X) {row:Option Nat} (hg:X.grownBy Y row) (hr:∀ b,row = some b → B + 6 ≤ b ∧ b < B + 8):Loop E V B γ1 X1 ps u pw γ' Y:=by
 have far:∀ b,b < B + 6 → some b ≠ row:=fun b hb e => by have:=hr b e.symm;omega
 refine ⟨h.st.aside hg (fun b e => ⟨by have:=hr b e;have:=h.base;omega,h.free b (by have:=hr b e;have:=h.base;omega) (hr b e).2⟩) h.low,h.free,h.fo.kept hg (far _ (by omega)),h.vb.kept hg (far _ (by omega)),h.pb.kept hg (far _ (by omega)),?_,h.rowf,h.base,Nat.le_trans h.here hg.size,h.low⟩
 refine owns_same h.row (fun g hgb => hg.block g (owns_lt h.row hgb).2 (fun e => ?_))
 have:=(owns_lt h.row hgb).1
 have:=hr g e.symm
 omega
theorem Loop.step (h:Loop E V B γ1 X1 ps u pw γ' X) {γ'':Ghost} (hs:Step E γ' X γ'' Y) (h8:B + 8 ≤ X.heap.size):Loop E V B γ1 X1 ps u pw γ'' Y:=by
 have fr:∀ b,X1.heap.size ≤ b → b < B + 8 → γ'' b = .none:=fun b h1 h2 => hs.none (by omega) (h.free b h1 h2)
 have bx:∀ {t:TypeId} {v:Value} {b:Nat},Boxed X b t v → X1.heap.size ≤ b → b < B + 8 → Boxed Y b t v:=fun hb h1 h2 => (hs.block _ hb.lt (h.free _ h1 h2)).trans hb
 have hB:=h.base
 refine ⟨h.st.trans hs,fr,bx h.fo (by omega) (by omega),bx h.vb (by omega) (by omega),bx h.pb (by omega) (by omega),owns_same h.row (fun g hgb => hs.block g (owns_lt h.row hgb).2 (h.rowf g hgb)),fun g hgb => hs.none (owns_lt h.row hgb).2 (h.rowf g hgb),h.base,Nat.le_trans h.here hs.size,h.low⟩
theorem Loop.setV (h:Loop E V B γ1 X1 ps u pw γ' X) (v:Int):Loop E V B γ1 X1 ps v pw γ' (X.setCell ⟨B + 1,0,none⟩ (.int .u8 v)):=by
 have hg:=grownBy_setCell' X (B + 1) (.int .u8 v)
 have hB:=h.base
 refine ⟨h.st.aside hg (fun b e => by cases e;exact ⟨by omega,h.free _ (by omega) (by omega)⟩) h.low,h.free,h.fo.kept hg (by simp),h.vb.set _,h.pb.kept hg (by simp),?_,h.rowf,h.base,Nat.le_trans h.here hg.size,h.low⟩
 exact owns_same h.row (fun g hgb => hg.block g (owns_lt h.row hgb).2 (fun e => by cases e;have:=(owns_lt h.row hgb).1;omega))
theorem Loop.push (h:Loop E V B γ1 X1 ps u pw γ' X) (h8:B + 8 ≤ X.heap.size) {o:Obj} {y:Nat} {pw':Value} {w2:World}
  (hown:w2.ownsRow (B + 8) 3 1 pw' ((chI ps).length + 1) ((chI ps).map (Value.int .i64) ++ [.int .i64 (y:Int)])) (hg:(X.alloc o).grownBy w2 pw.ownBlock) (hat:pw'.ownBlock = pw.ownBlock ∨ pw'.ownBlock = some (X.alloc o).heap.size) :
  Loop E V B γ1 X1 (ps ++ [y]) u pw' γ' (w2.setCell ⟨B + 2,0,none⟩ pw') ∧ Boxed w2 (B + 2) 55 pw:=by
 have hB:=h.base
 have hA:=h.abide (Y:=X.alloc o) (World.grownBy_alloc X o none) (fun _ e => by cases e)
 have ne:∀ b,b < B + 8 → some b ≠ pw.ownBlock:=fun b hb e => by have:=(owns_lt h.row e.symm).1;omega
 have g2:=grownBy_setCell' w2 (B + 2) pw'
 have p2:=hA.pb.kept hg (ne _ (by omega))
 have new':γ' (X.alloc o).heap.size = .none:=hA.st.inv.new (Nat.le_refl _)
 have st2:Step E γ1 X1 γ' w2:=hA.st.aside hg (fun b e => ⟨by have:=(owns_lt h.row e).1;omega,h.rowf b e⟩) h.low
 have rf:∀ g,pw'.ownBlock = some g → γ' g = .none:=fun g e => by
  rcases hat with h1 | h1
  ·exact h.rowf g (h1.symm.trans e)
  ·rw [h1] at e;cases e;exact new'
 refine ⟨⟨st2.aside g2 (fun b e => by cases e;exact ⟨by omega,h.free _ (by omega) (by omega)⟩) h.low,h.free,(hA.fo.kept hg (ne _ (by omega))).kept g2 (by simp),(hA.vb.kept hg (ne _ (by omega))).kept g2 (by simp),p2.set _,?_,rf,h.base,?_,h.low⟩,p2⟩
 ·have e1:chI (ps ++ [y]) = chI ps ++ [(y:Int)]:=by simp [chI]
  unfold IntRow
  rw [e1,List.length_append,List.length_singleton,List.map_append]
  exact owns_same hown (fun g hgb => g2.block g (owns_lt hown hgb).2 (fun e => by cases e;have:=(owns_lt hown hgb).1;omega))
 ·have:=h.here
  have h1:=hg.size
  have h2:=g2.size
  rw [World.size_alloc] at h1
  omega
theorem Loop.look (h:Loop E V B γ1 X1 ps u pw γ' X) {A k f:Nat} {s:Sel} {pv:Value} (hV:γ' V = some (.verd A k)) (hA:γ' A = some (.asked s pv f)) {y:Nat} (hy:y < E.qs.length) :
  ∃ v,X.cell? ⟨V,y,none⟩ = some (.int .u8 v) ∧ X.frozen? ⟨V,y,none⟩ = false ∧ (v = 0 ∨ (v = 1 ∧ vdV E f s k y = true) ∨ (v = 2 ∧ vdV E f s k y = false)):=by
 obtain ⟨_,o,ho,s',pv',f',hA',vs,rfl,h1,h2⟩:=h.st.inv.each V _ hV
 rw [hA] at hA'
 cases hA'
 have hv:vs[y]? = some (vs[y]'(by omega)):=List.getElem?_eq_getElem (by omega)
 have kV:Blk X V 201 (vs.map (Value.int .u8)):=ho
 obtain ⟨c,fz⟩:=cell_row kV (show (vs.map (Value.int .u8))[y]? = some (.int .u8 vs[y]) by rw [List.getElem?_map,hv];rfl)
 exact ⟨_,c,fz,h2 y _ hv⟩
theorem Loop.note (h:Loop E V B γ1 X1 ps u pw γ' X) {A k f:Nat} {s:Sel} {pv:Value} (hV:γ' V = some (.verd A k)) (hA:γ' A = some (.asked s pv f)) {y:Nat} (hok:(u = 1 ∧ vdV E f s k y = true) ∨ (u = 2 ∧ vdV E f s k y = false)) :
  Loop E V B γ1 X1 ps u pw γ' (X.setCell ⟨V,y,none⟩ (.int .u8 u)):=by
 obtain ⟨_,o,ho,s',pv',f',hA',vs,rfl,h1,h2⟩:=h.st.inv.each V _ hV
 rw [hA] at hA'
 cases hA'
 have kV:Blk X V 201 (vs.map (Value.int .u8)):=ho
 have k2:=blk_put kV y (.int .u8 u)
 have hg:=grown_set X V y (.int .u8 u)
 have hB:=h.base
 have e1:(vs.map (Value.int .u8)).set y (.int .u8 u) = (vs.set y u).map (Value.int .u8):=by rw [List.map_set]
 rw [e1] at k2
 have hs:=h.st.inv.put hV hg k2 ⟨s,pv,f,hA,_,rfl,by simp [h1],fun x v hv => by
  rcases set_at hv with ⟨rfl,rfl⟩ | ⟨_,hv⟩
  ·exact .inr hok
  ·exact h2 x v hv⟩
 have ne:∀ b,X1.heap.size ≤ b → b < B + 8 → some b ≠ some V:=fun b h1 h2 e => by cases e;rw [h.free V h1 h2] at hV;cases hV
 refine ⟨h.st.trans hs,h.free,h.fo.kept hg (ne _ (by omega) (by omega)),h.vb.kept hg (ne _ (by omega) (by omega)),h.pb.kept hg (ne _ (by omega) (by omega)),?_,h.rowf,h.base,Nat.le_trans h.here hg.size,h.low⟩
 exact owns_same h.row (fun g hgb => hg.block g (owns_lt h.row hgb).2 (fun e => by cases e;rw [h.rowf V hgb] at hV;cases hV))
end
end Go.Proofs.YtcmmdojlhfmddaaGreat.Mt

/- package match: isAhead at every part and element, where isUpTo is known of the part ahead. -/
set_option maxRecDepth 100000
namespace Go.Proofs.YtcmmdojlhfmddaaGreat.Mt
open Go.Proofs.YtcmmdojlhfmddaaGreat.Tre
open Go Go.RowKit Go.Shelf Dm
attribute [local go_sem] Oper.semAt_some
def AhI (E:Env) (V e f k:Nat) (s:Sel) (comb:Int) (γ1:Ghost) (X1:World) (pre:List Nat) (X:World):Prop:=
 ∃ γ' pw,Loop E V X1.heap.size γ1 X1 pre 2 pw γ' X ∧ (∀ z ∈ pre,uptoV (anyV E.es f) E.es s (k - 1) z = false) ∧ Boxed X (X1.heap.size + 3) 3 (.int .i64 e) ∧ Boxed X (X1.heap.size + 4) 83 (wayF E.tb comb) ∧ Boxed X (X1.heap.size + 5) 4 (.bool (farV comb))
def AhX (E:Env) (V f k:Nat) (s:Sel) (res:Bool) (γ1:Ghost) (X1:World) (_:List Nat) (X:World):Prop:=
 ∃ ps u γ' pw,Loop E V X1.heap.size γ1 X1 ps u pw γ' X ∧ ((u = 1 ∧ res = true) ∨ (u = 2 ∧ res = false)) ∧ ∀ y ∈ ps,y < E.qs.length ∧ vdV E f s k y = res
set_option maxHeartbeats 8000000 in
theorem isAhead_in (E:Env) (hE:EnvOk E) (n:Nat) (hn:1 ≤ n) (γ:Ghost) (W:World) (hI:Inv E γ W) (A:Nat) (s:Sel) (pv:Value) (f:Nat) (hA:γ A = some (.asked s pv f)) (k:Nat) (hk:k < s.length) (hk0:0 < k) (HU:UpToK E A f s pv (k - 1)) (e:Nat) (he:e < E.qs.length) :
  CallsIn Fence.wide n Tryz.prog 113 #[.pointer (some ⟨A,0,none⟩),.int .i64 k,.int .i64 e] W fun r W' => r = .returned (.bool ((aheadV E.es (partAt s k).1 e).any (uptoV (anyV E.es f) E.es s (k - 1)))) ∧ ∃ γ',Step E γ W γ' W':=by
 obtain ⟨W2,hW2⟩:∃ W2,(W.alloc (.cells #[.pointer (some ⟨A,0,none⟩)] 168)).alloc (.cells #[.int .i64 k] 3) = W2:=⟨_,rfl⟩
 have bW2:Below W.heap.size W W2:=by rw [← hW2];exact ((Below.refl _ W).alloc (Nat.le_refl _) _).alloc (by simp) _
 have sW2:W2.heap.size = W.heap.size + 2:=by rw [← hW2];simp
 have st2:=hI.step bW2
 have a2:Boxed W2 W.heap.size 168 (.pointer (some ⟨A,0,none⟩)):=by rw [← hW2];exact (Boxed.new _ _ _).alloc _
 have k2:Boxed W2 (W.heap.size + 1) 3 (.int .i64 k):=by
  rw [← hW2]
  have:=Boxed.new (W.alloc (.cells #[.pointer (some ⟨A,0,none⟩)] 168)) 3 (.int .i64 k)
  rwa [World.size_alloc] at this
 have hfo:=foundOf_any E hE γ W2 st2.inv A s pv f hA k hk
 unfold ptrV wide at hfo
 have a2c:=a2.cell
 have k2c:=k2.cell
 have HI:Hid (Inv E γ W):=hI
 have HE:Hid (EnvOk E):=hE
 have HUU:Hid (UpToK E A f s pv (k - 1)):=HU
 obtain ⟨res,hres⟩:∃ r,r = (aheadV E.es (partAt s k).1 e).any (uptoV (anyV E.es f) E.es s (k - 1)):=⟨_,rfl⟩
 rw [← hres]
 have HR:Hid (res = _):=hres
 clear hI hE HU hres
 refine callsIn_of_wp_marks Tryz.func113 rfl trivial ?_ rfl
 simp only [Tryz.ntmps113,List.size_toArray,List.length_cons,List.length_nil,Nat.reduceAdd,Nat.reduceSub,Array.replicate_succ,Array.replicate_zero,List.push_toArray,List.append_toArray,List.nil_append,List.cons_append]
 gi_wp2_with fail
 refine ⟨trivial,?_⟩
 refine (callsIn_wide.2 hfo).mono ?_
 clear hfo
 rintro r X1 ⟨V,γ1,rfl,hV,st1⟩
 have hI0:=HI.out
 have free2:∀ b,W.heap.size ≤ b → γ b = none:=fun b hb => hI0.new hb
 have a1:Boxed X1 W.heap.size 168 (.pointer (some ⟨A,0,none⟩)):=(st1.block _ a2.lt (free2 _ (Nat.le_refl _))).trans a2
 have k1:Boxed X1 (W.heap.size + 1) 3 (.int .i64 k):=(st1.block _ k2.lt (free2 _ (by omega))).trans k2
 have hA1:γ1 A = some (.asked s pv f):=st1.mono st2.inv _ _ hA
 obtain ⟨X4,hX4⟩:∃ X4,((X1.alloc (.cells #[.slice (some ⟨V,0,none⟩) E.qs.length E.qs.length] 199)).alloc (.cells #[.int .u8 2] 201)).alloc (.cells #[.slice none 0 0] 55) = X4:=⟨_,rfl⟩
 have b4:Below X1.heap.size X1 X4:=by rw [← hX4];exact (((Below.refl _ X1).alloc (Nat.le_refl _) _).alloc (by simp) _).alloc (by simp;omega) _
 have s4:X4.heap.size = X1.heap.size + 3:=by rw [← hX4];simp
 have fo4:Boxed X4 X1.heap.size 199 (.slice (some ⟨V,0,none⟩) E.qs.length E.qs.length):=by rw [← hX4];exact ((Boxed.new _ _ _).alloc _).alloc _
 have vb4:Boxed X4 (X1.heap.size + 1) 201 (.int .u8 2):=by
  rw [← hX4]
  have:=(Boxed.new (X1.alloc (.cells #[.slice (some ⟨V,0,none⟩) E.qs.length E.qs.length] 199)) 201 (.int .u8 2)).alloc (.cells #[.slice none 0 0] 55)
  rwa [World.size_alloc] at this
 have pb4:Boxed X4 (X1.heap.size + 2) 55 (.slice none 0 0):=by
  rw [← hX4]
  have:=Boxed.new ((X1.alloc (.cells #[.slice (some ⟨V,0,none⟩) E.qs.length E.qs.length] 199)).alloc (.cells #[.int .u8 2] 201)) 55 (.slice none 0 0)
  rwa [World.size_alloc,World.size_alloc] at this
 have st4:=st1.inv.step b4
 clear a2c k2c a2 k2 hW2
 gi_wp2_with fail
 rename_i K0 hK0 K1 hK1
 obtain ⟨⟨d,hP⟩,hfit,fv,lv,kA,_,_⟩:=st4.inv.asked hA1
 obtain ⟨pp,cp,rfl⟩:=RowT.len hP
 obtain ⟨p,hp⟩:∃ p,s[k]? = some p:=⟨_,List.getElem?_eq_getElem hk⟩
 obtain ⟨bk,off,vi,vc,va,vp,rfl,hbk,hcap,hmx,_,⟨x0,_⟩,_⟩:=PartsAt.get hP hp
 unfold maxLen at hmx
 have hcomb:partAt s k = p:=partAt_eq hp
 have hs50:=fits_len hfit
 have hki:(k:Int) < (s.length:Int):=by omega
 have hlow:E.w₀.heap.size ≤ X4.heap.size:=st4.inv.low.size
 have hbk2:bk < E.w₀.heap.size:=hbk
 unfold ptrV at kA
 have HS:Hid (∀ X:World,Below X4.heap.size X4 X → X.cell? ⟨W.heap.size,0,none⟩ = some (.pointer (some ⟨A,0,none⟩)) ∧ X.cell? ⟨W.heap.size + 1,0,none⟩ = some (.int .i64 k) ∧ X.cell? ⟨A,0,none⟩ = some (.pointer (some ⟨E.tb,0,none⟩)) ∧ X.cell? ⟨A,1,none⟩ = some (.slice (some ⟨bk,off,none⟩) s.length cp) ∧ X.cell? ⟨bk,off + k * 6,none⟩ = some (.int .i64 p.1)):=fun X hX =>
  ⟨(hX.cell (p:=⟨W.heap.size,0,none⟩) (by have:=a1.lt;simp;omega)).trans ((b4.cell (p:=⟨W.heap.size,0,none⟩) a1.lt).trans a1.cell),(hX.cell (p:=⟨W.heap.size + 1,0,none⟩) (by have:=k1.lt;simp;omega)).trans ((b4.cell (p:=⟨W.heap.size + 1,0,none⟩) k1.lt).trans k1.cell),(blk4 (kA.next hX)).1.1,(blk4 (kA.next hX)).1.2.1,(hX.cell (p:=⟨bk,off + k * 6,none⟩) (by simp;omega)).trans x0⟩
 have q0:Below X4.heap.size X4 X4.drew:=below_drew (Below.refl _ _)
 have hah:=ahead_any E.tb e p.1 X4.drew
 have HeldS:=HS.out _ q0
 clear hX4 kA x0 hP
 refine wpIn_onlyN (wpIn_wide.2 ?_)
 refine Rg.wpD_begin [0,1,2,3,4,5,6,7,8,9,10,11,12] (fun X => X.cell? ⟨W.heap.size,0,none⟩ = some (.pointer (some ⟨A,0,none⟩)) ∧ X.cell? ⟨W.heap.size + 1,0,none⟩ = some (.int .i64 k) ∧ X.cell? ⟨A,0,none⟩ = some (.pointer (some ⟨E.tb,0,none⟩)) ∧ X.cell? ⟨A,1,none⟩ = some (.slice (some ⟨bk,off,none⟩) s.length cp) ∧ X.cell? ⟨bk,off + k * 6,none⟩ = some (.int .i64 p.1)) (by kernel_rfl) ?_
 refine Rg.ld 0 HeldS ?_
 simp only [Act.put,Rg.sA,Rg.sB,Rg.sC]
 refine Rg.ld 1 HeldS ?_
 simp only [Act.put,Rg.sA,Rg.sB,Rg.sC]
 refine Rg.ld 2 HeldS ?_
 simp only [Act.put,Rg.sA,Rg.sB,Rg.sC]
 refine Rg.ld 3 HeldS ?_
 simp only [Act.put,Rg.sA,Rg.sB,Rg.sC]
 refine Rg.ld 4 HeldS ?_
 simp only [Act.put,Rg.sA,Rg.sB,Rg.sC]
 refine Rg.ld 5 HeldS ?_
 simp only [Act.put,Rg.sA,Rg.sB,Rg.sC]
 refine Rg.ld 6 HeldS ?_
 simp only [Act.put,Rg.sA,Rg.sB,Rg.sC]
 refine Rg.ld 7 HeldS ?_
 simp only [Act.put,Rg.sA,Rg.sB,Rg.sC]
 refine Rg.ld 8 HeldS ?_
 simp only [Act.put,Rg.sA,Rg.sB,Rg.sC]
 refine Rg.ld 9 HeldS ?_
 simp only [Act.put,Rg.sA,Rg.sB,Rg.sC]
 refine Rg.ld 10 HeldS ?_
 simp only [Act.put,Rg.sA,Rg.sB,Rg.sC]
 refine Rg.ld 11 HeldS ?_
 simp only [Act.put,Rg.sA,Rg.sB,Rg.sC]
 refine Rg.ld 12 HeldS ?_
 simp only [Act.put,Rg.sA,Rg.sB,Rg.sC]
 refine Rg.dd 13 fun K hK => ?_
 go_simp
 go_at_call 127
 refine Calls.mono hah ?_
 clear hah
 rintro r X7 ⟨rfl,e7,n7,f7,b7,s7⟩
 refine hK _ _ (fun h => absurd h (by decide)) ?_
 clear hK K HeldS
 refine Rg.wpD_done (by kernel_rfl) ?_
 simp only [onlyN]
 simp only [show X4.drew.heap.size = X4.heap.size from rfl,s4] at e7 n7 f7 b7 s7 ⊢
 have st7:Step E γ1 X1 γ1 X7:=st1.inv.step (Below.trans (below_drew b4) (b7.mono (by omega)))
 have lt1:=st1.inv.lt hV
 have lowX:E.n₀ ≤ X1.heap.size:=st1.inv.low.size
 have free1:∀ b,X1.heap.size ≤ b → γ1 b = none:=fun b hb => st1.inv.new hb
 have L0:Loop E V X1.heap.size γ1 X1 [] 2 (.slice none 0 0) γ1 X7:=by
  have bb:Below X4.heap.size X4 X7:=Below.trans q0 (by rw [s4];exact b7)
  have g7:=grown_of_below bb none
  exact ⟨st7,fun b h1 _ => free1 b h1,fo4.kept g7 (by simp),vb4.kept g7 (by simp),pb4.kept g7 (by simp),World.ownsRow_nil _ _ _ _,fun g h => by simp [Value.ownBlock] at h,rfl,by omega,lowX⟩
 clear fo4 vb4 pb4 HS st4 st7 q0 b7
 have HK0:Hid (∀ (a:Act) (w:World),_ → K0 a w):=hK0
 have CONT:Hid (∀ (ps:List Nat) (u:Int) (pw:Value) (γ':Ghost) (X:World),Loop E V X1.heap.size γ1 X1 ps u pw γ' X → ((u = 1 ∧ res = true) ∨ (u = 2 ∧ res = false)) → (∀ y ∈ ps,y < E.qs.length ∧ vdV E f s k y = res) → X.heap[X1.heap.size + 6]? = some (.deferred (some [])) →
   K0 { tmps:=#[(.pointer (some ⟨A,0,none⟩)),(.int .i64 k),(.int .i64 e),(.pointer (some ⟨W.heap.size,0,none⟩)),(.pointer (some ⟨W.heap.size + 1,0,none⟩)),undef,(.bool false),(.pointer (some ⟨X1.heap.size,0,none⟩)),(.pointer (some ⟨X1.heap.size + 1,0,none⟩)),(.pointer (some ⟨X1.heap.size + 2,0,none⟩)),undef,undef,undef,(.pointer (some ⟨A,0,none⟩)),(.int .i64 k),(.slice (some ⟨V,0,none⟩) E.qs.length E.qs.length),(.pointer (some ⟨A,0,none⟩)),(.pointer (some ⟨A,0,none⟩)),(.pointer (some ⟨A,0,none⟩)),(.pointer (some ⟨E.tb,0,none⟩)),(.int .i64 e),(.pointer (some ⟨A,0,none⟩)),(.pointer (some ⟨A,0,none⟩)),(.pointer (some ⟨A,1,none⟩)),(.slice (some ⟨bk,off,none⟩) s.length cp),(.int .i64 k),(.pointer (some ⟨bk,off + k * 6,none⟩)),(.pointer (some ⟨bk,off + k * 6,none⟩)),(.int .i64 p.1),(.func (.func 136) #[] #[.pointer (some ⟨X1.heap.size + 4,0,none⟩),.pointer (some ⟨X1.heap.size + 3,0,none⟩),.pointer (some ⟨X1.heap.size + 5,0,none⟩)]),undef,undef,undef,undef,undef,undef,undef,undef,undef,undef,undef,undef,undef,undef,undef,undef,undef,undef,undef,undef,undef,undef,undef,undef,undef,undef,undef,undef,undef,undef,undef,undef],defers:=[{ target:=.collected (X1.heap.size + 6),args:=#[] }] } X):=by
  intro ps u pw γ' X hL hu hps hdf
  have hV':γ' V = some (.verd A k):=(hL.st.role V lt1).trans hV
  have hA':γ' A = some (.asked s (.slice (some ⟨bk,off,none⟩) s.length cp) f):=(hL.st.role A (st1.inv.lt hA1)).trans hA1
  have hform:∃ pq cq,pw = .slice pq ps.length cq:=by
   obtain ⟨pq,cq,h⟩:=owns_form hL.row
   rw [chI_len] at h
   exact ⟨pq,cq,h⟩
  obtain ⟨pq,cq,rfl⟩:=hform
  have cf:=hL.fo.cell
  have cv:=hL.vb.cell
  have cpb:=hL.pb.cell
  have HV':Hid (_ = _):=hV'
  have HA':Hid (_ = _):=hA'
  have HPS:Hid (∀ y ∈ ps,y < E.qs.length ∧ vdV E f s k y = res):=hps
  have HU0:Hid ((u = 1 ∧ res = true) ∨ (u = 2 ∧ res = false)):=hu
  have HL0:Hid (Loop E V X1.heap.size γ1 X1 ps u (.slice pq ps.length cq) γ' X):=hL
  have HDF:Hid (_ = _):=hdf
  have hfew:=HE.out.few
  have hpl:ps.length ≤ 9223372036854775807:=by have:=hL.row.at.short;rwa [chI_len] at this
  refine HK0.out _ _ ?_
  clear HK0 hps hu hL hdf hV' hA'
  gi_wp2
  gi_loopw [51] (fun x wr => ∃ i:Nat,x = .int .i64 i ∧ i ≤ ps.length ∧ Loop E V X1.heap.size γ1 X1 ps u (.slice pq ps.length cq) γ' wr ∧ wr.heap[X1.heap.size + 6]? = some (.deferred (some []))) (fun x _ => ps.length - (intOf x).toNat)
  case atStart => exact ⟨0,rfl,Nat.zero_le _,HL0.out,HDF.out⟩
  case round =>
   clear cf cv cpb
   obtain ⟨i,rfl,hi,hLr,hd⟩:=hrel
   have HLr:Hid _:=hLr
   have HD:Hid (_ = _):=hd
   have cf:=hLr.fo.cell
   have cv:=hLr.vb.cell
   by_cases hlt:i < ps.length
   ·obtain ⟨y,hy⟩:∃ y,ps[i]? = some y:=⟨_,List.getElem?_eq_getElem hlt⟩
    obtain ⟨hyN,hyv⟩:=HPS.out y (List.mem_of_getElem? hy)
    obtain ⟨bq,oq,rfl,_,hcq,hmq,hcell⟩:=hLr.row.at.get (k:=i) (t:=(y:Int)) (by unfold chI;rw [List.getElem?_map,hy];rfl)
    have z0:=hcell 0 _ rfl
    simp only [Nat.mul_one,Nat.add_zero] at z0
    rw [chI_len] at hcq
    unfold maxLen at hmq
    obtain ⟨v,c,fz,_⟩:=hLr.look HV'.out HA'.out hyN
    have NX:=hLr.note HV'.out HA'.out (y:=y) (by rw [hyv];exact HU0.out)
    have HNX:Hid _:=NX
    have hne:X1.heap.size + 6 ≠ V:=by omega
    have hd2:(wr.setCell ⟨V,y,none⟩ (.int .u8 u)).heap[X1.heap.size + 6]? = some (.deferred (some [])):=(Below.heap_setCell _ _ _ _ (by simpa using hne)).trans hd
    have HD2:Hid (_ = _):=hd2
    have hii:(i:Int) < (ps.length:Int):=by omega
    have hyi:(y:Int) < (E.qs.length:Int):=by omega
    clear hcell NX hd2 hyv hy hLr hd
    gi_wp2
    go_roundw
    case rel => exact ⟨i + 1,rfl,by omega,HNX.out,HD2.out⟩
    case measure => simp [intOf];omega
   ·have hii:¬ ((i:Int) < (ps.length:Int)):=by omega
    clear hLr hd
    have st9:=HLr.out.st.aside (grownBy_putObj' wr (X1.heap.size + 6) (.deferred none)) (fun b e => by cases e;exact ⟨by omega,HLr.out.free _ (by omega) (by omega)⟩) lowX
    have FIN:Hid (∃ γ9,Step E γ W γ9 _):=⟨_,(st2.trans st1).trans st9⟩
    clear st9
    rcases HU0.out with ⟨rfl,hr⟩ | ⟨rfl,hr⟩
    ·have HRR:Hid (_ = _):=hr
     clear hr
     gi_wp2
     refine ⟨by simp,.inl ⟨_,_,rfl,run_takeDeferred HD.out,?_⟩⟩
     exact ⟨_,results_tmp rfl _ _ _,by rw [show res = _ from HRR.out];rfl,FIN.out⟩
    ·have HRR:Hid (_ = _):=hr
     clear hr
     gi_wp2
     refine ⟨by simp,.inl ⟨_,_,rfl,run_takeDeferred HD.out,?_⟩⟩
     exact ⟨_,results_tmp rfl _ _ _,by rw [show res = _ from HRR.out];rfl,FIN.out⟩
 have hseq:=ahead_seq E HE.out (n - 1) (X1.heap.size + 4) (X1.heap.size + 3) (X1.heap.size + 5) p.1 e he X7
 have h7:X7.heap.size = X1.heap.size + 6:=by omega
 have ba:∀ b,b < W.heap.size + 2 → W.heap.size ≤ b → γ1 b = none:=fun b h1 h2 => (st1.role b (by omega)).trans (free2 b h2)
 have hlenA:∀ (f':Nat) (x:Int),(chain E.es p.1 f' x).length ≤ f':=by
  intro f'
  induction f' with
  | zero => intro x;exact Nat.le_refl _
  | succ f' ih =>
   intro x
   rw [chain_succ]
   unfold restV
   split
   ·exact Nat.zero_le _
   ·split
    ·have:=ih (nextV E.es p.1 x);simp;omega
    ·simp
 have HLEN:Hid (∀ (f':Nat) (x:Int),(chain E.es p.1 f' x).length ≤ f'):=hlenA
 rw [hcomb] at HR
 clear hlenA
 gi_wp2
 refine wpIn_rangeFunc_W 0 rfl hn (gf:=136) (lb:=#[.pointer (some ⟨X1.heap.size + 4,0,none⟩),.pointer (some ⟨X1.heap.size + 3,0,none⟩),.pointer (some ⟨X1.heap.size + 5,0,none⟩)]) rfl trivial egAhead hseq (Nat.zero_le _) (Below.refl _ _) (fun _ => rfl)
  (AhI E V e f k s p.1 γ1 X1)
  (AhX E V f k s res γ1 X1)
  ?hI ?hIx ⟨γ1,_,L0,fun z h => (by cases h),e7,n7,f7⟩ ?hIC
  (fun x => { tmps:=#[(.pointer (some ⟨A,0,none⟩)),(.int .i64 k),(.int .i64 e),(.pointer (some ⟨W.heap.size,0,none⟩)),(.pointer (some ⟨W.heap.size + 1,0,none⟩)),undef,(.bool false),(.pointer (some ⟨X1.heap.size,0,none⟩)),(.pointer (some ⟨X1.heap.size + 1,0,none⟩)),(.pointer (some ⟨X1.heap.size + 2,0,none⟩)),(.int .i64 (x:Nat)),undef,undef,(.pointer (some ⟨A,0,none⟩)),(.int .i64 k),(.slice (some ⟨V,0,none⟩) E.qs.length E.qs.length),(.pointer (some ⟨A,0,none⟩)),(.pointer (some ⟨A,0,none⟩)),(.pointer (some ⟨A,0,none⟩)),(.pointer (some ⟨E.tb,0,none⟩)),(.int .i64 e),(.pointer (some ⟨A,0,none⟩)),(.pointer (some ⟨A,0,none⟩)),(.pointer (some ⟨A,1,none⟩)),(.slice (some ⟨bk,off,none⟩) s.length cp),(.int .i64 k),(.pointer (some ⟨bk,off + k * 6,none⟩)),(.pointer (some ⟨bk,off + k * 6,none⟩)),(.int .i64 p.1),(.func (.func 136) #[] #[.pointer (some ⟨X1.heap.size + 4,0,none⟩),.pointer (some ⟨X1.heap.size + 3,0,none⟩),.pointer (some ⟨X1.heap.size + 5,0,none⟩)]),(.int .i64 (x:Nat)),undef,undef,undef,undef,undef,undef,undef,undef,undef,undef,undef,undef,undef,undef,undef,undef,undef,undef,undef,undef,undef,undef,undef,undef,undef,undef,undef,undef,undef,undef,undef],defers:=[] }) ?assign ?body ?done ?stop
 case hI =>
  rintro pre X Y row ⟨γ',pw,hL,h2,h3,h4,h5⟩ hg hr
  have far:∀ b,b < X1.heap.size + 6 → some b ≠ row:=fun b hb e => by have:=hr b e.symm;omega
  exact ⟨γ',pw,hL.abide hg (fun b e => by have:=hr b e;omega),h2,h3.kept hg (far _ (by omega)),h4.kept hg (far _ (by omega)),h5.kept hg (far _ (by omega))⟩
 case hIx =>
  rintro pre X Y row ⟨ps,u,γ',pw,hL,h2,h3⟩ hg hr
  exact ⟨ps,u,γ',pw,hL.abide hg (fun b e => by have:=hr b e;omega),h2,h3⟩
 case hIC =>
  rintro pre X ⟨γ',pw,hL,h2,h3,h4,h5⟩
  exact ⟨h4.cell,h3.cell,h5.cell,hL.st.inv.tree HE.out⟩
 case assign =>
  intro l x X K hK
  gi_wp2
  exact hK
 case body =>
  rintro l' pre x X ⟨γ',pw,hL,hno,h3,h4,h5⟩ ⟨rest,hok⟩ hsz
  rw [h7] at hsz
  have h8:X1.heap.size + 8 ≤ X.heap.size:=by omega
  have hok':aheadV E.es (partAt s k).1 e = pre ++ x :: rest:=by rw [hcomb];exact hok.symm
  have hx:=(vd_at HE.out he (f:=f) hok').1
  have hlen:pre.length < 4097:=by
   have h1:=HLEN.out (e + 1) e
   have h2:(aheadV E.es p.1 e).length = pre.length + (rest.length + 1):=by rw [← hok];simp
   unfold aheadV at h2
   have:=HE.out.few
   omega
  have hV':γ' V = some (.verd A k):=(hL.st.role V lt1).trans hV
  have hA':γ' A = some (.asked s (.slice (some ⟨bk,off,none⟩) s.length cp) f):=(hL.st.role A (st1.inv.lt hA1)).trans hA1
  have aX:Boxed X W.heap.size 168 (.pointer (some ⟨A,0,none⟩)):=(hL.st.block _ a1.lt (ba _ (by omega) (Nat.le_refl _))).trans a1
  have kX:Boxed X (W.heap.size + 1) 3 (.int .i64 k):=(hL.st.block _ k1.lt (ba _ (by omega) (by omega))).trans k1
  obtain ⟨v,cV,fV,hv⟩:=hL.look hV' hA' hx
  have hxi:(x:Int) < (E.qs.length:Int):=by omega
  have cf:=hL.fo.cell
  have cv:=hL.vb.cell
  have fv':=hL.vb.frozen
  have KP:Hid (∀ (b:Nat) (u:Value),X1.heap.size ≤ b → b < X1.heap.size + 6 → ∀ Y,KeepsIn 0 (X1.heap.size + 6) (X1.heap.size + 8) X Y → KeepsIn 0 (X1.heap.size + 6) (X1.heap.size + 8) X (Y.setCell ⟨b,0,none⟩ u)):=fun b u h1 h2 Y hY => hY.trans ⟨(Below.refl 0 Y).grown (grownBy_setCell' Y b u) (Nat.zero_le _) (fun _ _ => Nat.zero_le _),fun r r1 r2 => Below.heap_setCell _ _ _ _ (by simp;omega)⟩
  have HLX:Hid _:=hL
  have HHV:Hid (_ = _):=hV'
  have HHA:Hid (_ = _):=hA'
  have HNO:Hid (∀ z ∈ pre,uptoV (anyV E.es f) E.es s (k - 1) z = false):=hno
  have HOK:Hid (_ = _):=hok'
  by_cases hv0:v = 0
  ·subst hv0
   have hform:∃ pq cq,pw = .slice pq pre.length cq:=by
    obtain ⟨pq,cq,h⟩:=owns_form hL.row
    rw [chI_len] at h
    exact ⟨pq,cq,h⟩
   obtain ⟨pq,cq,rfl⟩:=hform
   have cpb:=hL.pb.cell
   have fpb:=hL.pb.frozen
   obtain ⟨i0,hi,hz0,hz1,hz2⟩:=info_parts infoInt
   have r1:(X.alloc (.cells #[.int .i64 (x:Int)] 3)).ownsRow (X1.heap.size + 8) 3 1 (.slice pq pre.length cq) (chI pre).length ((chI pre).map (Value.int .i64)):=(show IntRow _ _ _ _ from hL.row).alloc _
   have hcl:(chI pre).length = pre.length:=chI_len pre
   have hw1:IntKind.i64.wrap ((k:Int) - 1) = ((k - 1:Nat):Int):=by rw [IntKind.wrap_i64];omega
   have HAX:Hid (Boxed X W.heap.size 168 (.pointer (some ⟨A,0,none⟩))):=aX
   have HKX:Hid (Boxed X (W.heap.size + 1) 3 (.int .i64 k)):=kX
   have H3:Hid _:=h3
   have H4:Hid _:=h4
   have H5:Hid _:=h5
   have AFTER:Hid (∀ (q4:Option Addr) (c4:Nat) (w4:World),w4.ownsRow (X1.heap.size + 8) 3 1 (.slice q4 (pre.length + 1) c4) (pre.length + 1) ((chI pre).map (Value.int .i64) ++ [.int .i64 (x:Int)]) → (X.alloc (.cells #[.int .i64 (x:Int)] 3)).grownBy w4 (Value.slice pq pre.length cq).ownBlock → ((Value.slice q4 (pre.length + 1) c4).ownBlock = (Value.slice pq pre.length cq).ownBlock ∨ (Value.slice q4 (pre.length + 1) c4).ownBlock = some (X.alloc (.cells #[.int .i64 (x:Int)] 3)).heap.size) →
     w4.cell? ⟨X1.heap.size + 2,0,none⟩ = some (.slice pq pre.length cq) ∧ w4.frozen? ⟨X1.heap.size + 2,0,none⟩ = false ∧
     (w4.setCell ⟨X1.heap.size + 2,0,none⟩ (.slice q4 (pre.length + 1) c4)).cell? ⟨W.heap.size,0,none⟩ = some (.pointer (some ⟨A,0,none⟩)) ∧
     (w4.setCell ⟨X1.heap.size + 2,0,none⟩ (.slice q4 (pre.length + 1) c4)).cell? ⟨W.heap.size + 1,0,none⟩ = some (.int .i64 k) ∧
     Hid (Loop E V X1.heap.size γ1 X1 (pre ++ [x]) 2 (.slice q4 (pre.length + 1) c4) γ' (w4.setCell ⟨X1.heap.size + 2,0,none⟩ (.slice q4 (pre.length + 1) c4)) ∧
      KeepsIn 0 (X1.heap.size + 6) (X1.heap.size + 8) X (w4.setCell ⟨X1.heap.size + 2,0,none⟩ (.slice q4 (pre.length + 1) c4)) ∧
      Boxed (w4.setCell ⟨X1.heap.size + 2,0,none⟩ (.slice q4 (pre.length + 1) c4)) (X1.heap.size + 3) 3 (.int .i64 e) ∧ Boxed (w4.setCell ⟨X1.heap.size + 2,0,none⟩ (.slice q4 (pre.length + 1) c4)) (X1.heap.size + 4) 83 (wayF E.tb p.1) ∧ Boxed (w4.setCell ⟨X1.heap.size + 2,0,none⟩ (.slice q4 (pre.length + 1) c4)) (X1.heap.size + 5) 4 (.bool (farV p.1)) ∧ X1.heap.size + 8 ≤ (w4.setCell ⟨X1.heap.size + 2,0,none⟩ (.slice q4 (pre.length + 1) c4)).heap.size)):=by
    intro q4 c4 w4 hown4 hgrow4 hat4
    obtain ⟨L4,p4⟩:=hL.push h8 (by rw [hcl];exact hown4) hgrow4 hat4
    have g2:=grownBy_setCell' w4 (X1.heap.size + 2) (.slice q4 (pre.length + 1) c4)
    have ne:∀ b,b < X1.heap.size + 8 → some b ≠ (Value.slice pq pre.length cq).ownBlock:=fun b hb e => by have:=(owns_lt hL.row e.symm).1;omega
    have sz4:=hgrow4.size
    rw [World.size_alloc] at sz4
    have bx:∀ {t:TypeId} {v:Value} {b:Nat},Boxed X b t v → b < X1.heap.size + 8 → b ≠ X1.heap.size + 2 → Boxed (w4.setCell ⟨X1.heap.size + 2,0,none⟩ (.slice q4 (pre.length + 1) c4)) b t v:=fun hb h1 h2 => ((hb.alloc _).kept hgrow4 (ne _ h1)).kept g2 (by simpa using h2)
    refine ⟨p4.cell,p4.frozen,Boxed.cell (show Boxed _ W.heap.size 168 _ from (L4.st.block _ a1.lt (ba _ (by omega) (Nat.le_refl _))).trans a1),Boxed.cell (show Boxed _ (W.heap.size + 1) 3 _ from (L4.st.block _ k1.lt (ba _ (by omega) (by omega))).trans k1),L4,KP.out _ _ (by omega) (by omega) _ ⟨((Below.refl 0 X).alloc (Nat.zero_le _) _).grown hgrow4 (Nat.zero_le _) (fun _ _ => Nat.zero_le _),fun r r1 r2 => (hgrow4.block r (by simp;omega) (ne _ (by omega))).trans (Below.heap_alloc _ _ _ (by omega))⟩,bx h3 (by omega) (by omega),bx h4 (by omega) (by omega),bx h5 (by omega) (by omega),by have:=g2.size;omega⟩
   clear hL hV' hA' hno hok hok' hv h3 h4 h5 aX kX
   gi_wp2_with (gi_at_builtin;refine wpListIn_append_own_at _ rfl _ _ 55 rfl (X1.heap.size + 8) 3 i0 (.int .i64 0) 1 8 Tryz.underlying55 hi hz0 hz1 hz2 rfl (by decide) (.slice pq pre.length cq) _ _ rfl r1 ⟨X.heap.size,0,none⟩ 1 1 [.int .i64 (x:Int)] rfl rfl (cells_plain X [.int .i64 (x:Int)] _) (fun u hu => by simp at hu;subst hu;rfl) (by rw [hcl];unfold maxLen;omega) (by rw [hcl];omega) (by simp;omega) ?_;intro pw' w4 hown4 hgrow4 hnil4 hat4;rw [hcl] at hown4;obtain ⟨q4,c4,rfl⟩:=owns_form hown4;obtain ⟨s0,s1,aY,kY,LY⟩:=AFTER.out q4 c4 w4 hown4 hgrow4 hat4)
   clear s0 s1 cV fV cf cv fv' cpb fpb hown4 hgrow4 hnil4 hat4 r1
   obtain ⟨Y,hY⟩:∃ Y,w4.setCell ⟨X1.heap.size + 2,0,none⟩ (.slice q4 (pre.length + 1) c4) = Y:=⟨_,rfl⟩
   rw [hY] at LY aY kY ⊢
   have hU:=HUU.out γ' Y LY.out.1.st.inv HHA.out x hx
   refine ⟨trivial,fun h => (by cases h),?_⟩
   refine (CallsIn.inRound l' (callsIn_wide.2 hU)).mono ?_
   clear hU
   rintro r Z ⟨rfl,γ'',stZ⟩
   obtain ⟨LY1,LY2,LY3,LY4,LY5,LY6⟩:=LY.out
   have LZ:=LY1.step stZ LY6
   have bx:∀ {t:TypeId} {v:Value} {b:Nat},Boxed Y b t v → X1.heap.size ≤ b → b < X1.heap.size + 8 → Boxed Z b t v:=fun hb h1 h2 => (stZ.block _ hb.lt (LY1.free _ h1 h2)).trans hb
   have KZ:KeepsIn 0 (X1.heap.size + 6) (X1.heap.size + 8) X Z:=LY2.trans ⟨⟨stZ.inv.low.os.trans LY1.st.inv.low.os.symm,stZ.inv.low.tape.trans LY1.st.inv.low.tape.symm,stZ.inv.low.output.trans LY1.st.inv.low.output.symm,stZ.size,fun _ h => absurd h (Nat.not_lt_zero _)⟩,fun r r1 r2 => stZ.block r (by omega) (LY1.free r (by omega) (by omega))⟩
   have cvZ:=LZ.vb.cell
   have fvZ:=LZ.vb.frozen
   cases hup:uptoV (anyV E.es f) E.es s (k - 1) x with
   | true =>
    obtain ⟨hr1,hr2⟩:=res_yes HE.out he (f:=f) HOK.out HNO.out hup
    rw [hcomb] at hr1
    have hres:res = true:=by rw [show res = _ from HR.out];exact hr1
    have FIN:Hid (KeepsIn 0 X7.heap.size (X7.heap.size + 2 + 0) X (Z.setCell ⟨X1.heap.size + 1,0,none⟩ (.int .u8 1)) ∧ AhX E V f k s res γ1 X1 (pre ++ [x]) (Z.setCell ⟨X1.heap.size + 1,0,none⟩ (.int .u8 1))):=by
     rw [h7]
     exact ⟨KP.out _ _ (by omega) (by omega) _ KZ,_,1,_,_,LZ.setV 1,.inl ⟨rfl,hres⟩,fun y hy => by rw [hres];exact hr2 y hy⟩
    clear LZ bx KZ LY1 LY2 LY3 LY4 LY5 LY6 stZ hup hr1 hr2 hres h7 s7
    gi_wp2
    exact ⟨rfl,FIN.out⟩
   | false =>
    have FIN:Hid (KeepsIn 0 X7.heap.size (X7.heap.size + 2 + 0) X Z ∧ AhI E V e f k s p.1 γ1 X1 (pre ++ [x]) Z):=by
     rw [h7]
     refine ⟨KZ,_,_,LZ,fun z hz => ?_,bx LY3 (by omega) (by omega),bx LY4 (by omega) (by omega),bx LY5 (by omega) (by omega)⟩
     rcases List.mem_append.1 hz with hz | hz
     ·exact HNO.out z hz
     ·obtain rfl:z = x:=by simpa using hz
      exact hup
    clear LZ bx KZ LY1 LY2 LY3 LY4 LY5 LY6 stZ hup h7 s7
    gi_wp2
    exact FIN.out
  ·have hne:(v != 0) = true:=by simpa [bne] using hv0
   obtain ⟨hr1,hr2⟩:=res_at HE.out he (f:=f) HOK.out HNO.out
   rw [hcomb] at hr1
   have hres:res = vdV E f s k x:=by rw [show res = _ from HR.out];exact hr1
   have FIN:Hid (KeepsIn 0 X7.heap.size (X7.heap.size + 2 + 0) X (X.setCell ⟨X1.heap.size + 1,0,none⟩ (.int .u8 v)) ∧ AhX E V f k s res γ1 X1 (pre ++ [x]) (X.setCell ⟨X1.heap.size + 1,0,none⟩ (.int .u8 v))):=by
    rw [h7]
    refine ⟨KP.out _ _ (by omega) (by omega) _ (KeepsIn.refl _ _ _ _),pre,v,_,_,hL.setV v,?_,fun y hy => by rw [hres];exact hr2 y hy⟩
    rw [hres]
    rcases hv with h | h | h
    ·exact absurd h hv0
    ·exact .inl h
    ·exact .inr h
   clear hL hV' hA' hno hok hok' hv h3 h4 h5 aX kX hr1 hr2 hres hv0 h7 s7
   gi_wp2
   exact ⟨rfl,FIN.out⟩
 case done =>
  rintro ys X hys ⟨γ',pw,hL,hno,_⟩ hK
  obtain ⟨hr1,hr2⟩:=res_none HE.out he (f:=f) (s:=s) (k:=k) (by rw [hcomb];exact hys) hno
  rw [hcomb] at hr1
  have hres:res = false:=by rw [show res = _ from HR.out];exact hr1
  rw [h7] at hK
  have FIN:=CONT.out ys 2 pw γ' X hL (.inr ⟨rfl,hres⟩) (fun y hy => by rw [hres];exact hr2 y hy) hK
  rw [h7]
  exact FIN
 case stop =>
  rintro pre X _ ⟨ps,u,γ',pw,hL,hu,hps⟩ hK
  rw [h7] at hK ⊢
  have FIN:Hid _:=CONT.out ps u pw γ' X hL hu hps hK
  clear CONT HK0 hK0
  gi_wp2
  exact FIN.out
end Go.Proofs.YtcmmdojlhfmddaaGreat.Mt

/- package match: isAhead. -/
import Derived.Test.YtnemagmakgiheaaGreatMtGc
import Derived.Test.YtnemagmakgiheaaGreatMtGe
import Derived.OwnWalkIn
import Derived.Maps.OwnIn
set_option maxRecDepth 100000
namespace Go.Proofs.YtnemagmakgiheaaGreat.Mt
open Go.Proofs.YtnemagmakgiheaaGreat.Tre
open Go Go.RowKit Go.Shelf Dm
attribute [local go_sem] Oper.semAt_some
theorem egAhead:∀ args w,(callFunc 148 args).run Tryz.prog w = .ok (.enter 148 args) w:=enters_of Tryz.func148 (by kernel_rfl) rfl
def AheadC (E:Env) (comb:Int) (e Bn Be Bf:Nat) (X:World):Prop:=X.cell? ⟨Bn,0,none⟩ = some (wayF E.tb comb) ∧ X.cell? ⟨Be,0,none⟩ = some (.int .i64 e) ∧ X.cell? ⟨Bf,0,none⟩ = some (.bool (farV comb)) ∧ Tr E.b X E.tb E.g E.cap E.qs
theorem ahead_seq (E:Env) (hE:EnvOk E) (n Bn Be Bf:Nat) (comb:Int) (e:Nat) (he:e < E.qs.length) (w:World) :
  SeqW Fence.wide n Tryz.prog 148 #[.pointer (some ⟨Bn,0,none⟩),.pointer (some ⟨Be,0,none⟩),.pointer (some ⟨Bf,0,none⟩)] (fun x:Nat => #[.int .i64 x]) 0 (fun xs => xs = aheadV E.es comb e) (fun _ => True) (fun pre x => ∃ rest,pre ++ x :: rest = aheadV E.es comb e) 0 (AheadC E comb e Bn Be Bf) w:=fun l J Jx W _ _ _ hC hY h0 => by
 have hY':∀ pre x W1,J pre W1 → (∃ rest,pre ++ x :: rest = aheadV E.es comb e) → W.heap.size ≤ W1.heap.size → YieldAt Fence.wide (n - 1) Tryz.prog l #[.int .i64 (x:Nat)] W1 fun x' W' => (x' = .returned (.bool true) ∧ J (pre ++ [x]) W' ∧ W1.heap.size ≤ W'.heap.size) ∨ (x' = .returned (.bool false) ∧ Jx (pre ++ [x]) W'):=fun pre x W1 h1 h2 h3 => (hY pre x W1 h1 h2 (by omega)).mono (fun _ _ h => h.imp (fun h => ⟨h.1,h.2.1,h.2.2.below.size⟩) id)
 by_cases h1:comb = 1 ∨ comb = 2
 ·exact ahead1P_in E hE n l Bn Be Bf comb h1 e he J Jx W hC hY' h0
 by_cases h2:comb = 3 ∨ comb = 4
 ·exact ahead1B_in E hE n l Bn Be Bf comb h2 e he J Jx W hC hY' h0
 ·exact ahead1N_in E hE n l Bn Be Bf comb ⟨h1,h2⟩ e he J Jx W hC hY' h0
end Go.Proofs.YtnemagmakgiheaaGreat.Mt
/- package match: where isAhead's loops stand. -/
namespace Go.Proofs.YtnemagmakgiheaaGreat.Mt
open Go.Proofs.YtnemagmakgiheaaGreat.Tre
open Go Go.RowKit Go.Shelf Dm
def UpToK (E:Env) (A f:Nat) (s:Sel) (pv:Value) (k:Nat):Prop:=∀ (γ:Ghost) (W:World),Inv E γ W → γ A = some (.asked s pv f) → ∀ x:Nat,x < E.qs.length →
 Calls Tryz.prog 73 #[.pointer (some ⟨A,0,none⟩),.int .i64 k,.int .i64 x] W fun r W' => r = .returned (.bool (uptoV (anyV E.es f) E.es s k x)) ∧ ∃ γ',Step E γ W γ' W'
def onlyN (K:Act → World → Prop):Exit → Act → World → Prop
 | .normal,a,w => K a w
 | _,_,_ => False
theorem wpIn_onlyN {F:Fence} {n:Nat} {P:Program} {c:Code} {Q:Exit → Act → World → Prop} {a:Act} {w:World} (h:c.wpIn F n P (onlyN (fun a w => Q .normal a w)) a w):c.wpIn F n P Q a w:=
 wpIn_mono h (fun e a w h => by cases e <;> first | exact h | exact h.elim)
structure Loop (E:Env) (V B:Nat) (γ1:Ghost) (X1:World) (ps:List Nat) (u:Int) (pw:Value) (γ':Ghost) (X:World):Prop where
 st:Step E γ1 X1 γ' X
 free:∀ b,X1.heap.size ≤ b → b < B + 8 → γ' b = .none
 fo:Boxed X B 180 (.slice (some ⟨V,0,none⟩) E.qs.length E.qs.length)
 vb:Boxed X (B + 1) 182 (.int .u8 u)
 pb:Boxed X (B + 2) 82 pw
 row:IntRow (B + 8) X pw (chI ps)
 rowf:∀ g,pw.ownBlock = some g → γ' g = .none
 base:B = X1.heap.size
 here:B + 6 ≤ X.heap.size
 low:E.n₀ ≤ X1.heap.size
section
variable {E:Env} {V B:Nat} {γ1:Ghost} {X1:World} {ps:List Nat} {u:Int} {pw:Value} {γ':Ghost} {X Y:World}
theorem Loop.abide (h:Loop E V B γ1 X1 ps u pw γ' X) {row:Option Nat} (hg:X.grownBy Y row) (hr:∀ b,row = some b → B + 6 ≤ b ∧ b < B + 8):Loop E V B γ1 X1 ps u pw γ' Y:=by
 have far:∀ b,b < B + 6 → some b ≠ row:=fun b hb e => by have:=hr b e.symm;omega
 refine ⟨h.st.aside hg (fun b e => ⟨by have:=hr b e;have:=h.base;omega,h.free b (by have:=hr b e;have:=h.base;omega) (hr b e).2⟩) h.low,h.free,h.fo.kept hg (far _ (by omega)),h.vb.kept hg (far _ (by omega)),h.pb.kept hg (far _ (by omega)),?_,h.rowf,h.base,Nat.le_trans h.here hg.size,h.low⟩
 refine owns_same h.row (fun g hgb => hg.block g (owns_lt h.row hgb).2 (fun e => ?_))
 have:=(owns_lt h.row hgb).1
 have:=hr g e.symm
 omega
theorem Loop.step (h:Loop E V B γ1 X1 ps u pw γ' X) {γ'':Ghost} (hs:Step E γ' X γ'' Y) (h8:B + 8 ≤ X.heap.size):Loop E V B γ1 X1 ps u pw γ'' Y:=by
 have fr:∀ b,X1.heap.size ≤ b → b < B + 8 → γ'' b = .none:=fun b h1 h2 => hs.none (by omega) (h.free b h1 h2)
 have bx:∀ {t:TypeId} {v:Value} {b:Nat},Boxed X b t v → X1.heap.size ≤ b → b < B + 8 → Boxed Y b t v:=fun hb h1 h2 => (hs.block _ hb.lt (h.free _ h1 h2)).trans hb
 have hB:=h.base
 refine ⟨h.st.trans hs,fr,bx h.fo (by omega) (by omega),bx h.vb (by omega) (by omega),bx h.pb (by omega) (by omega),owns_same h.row (fun g hgb => hs.block g (owns_lt h.row hgb).2 (h.rowf g hgb)),fun g hgb => hs.none (owns_lt h.row hgb).2 (h.rowf g hgb),h.base,Nat.le_trans h.here hs.size,h.low⟩
theorem Loop.setV (h:Loop E V B γ1 X1 ps u pw γ' X) (v:Int):Loop E V B γ1 X1 ps v pw γ' (X.setCell ⟨B + 1,0,none⟩ (.int .u8 v)):=by
 have hg:=grownBy_setCell' X (B + 1) (.int .u8 v)
 have hB:=h.base
 refine ⟨h.st.aside hg (fun b e => by cases e;exact ⟨by omega,h.free _ (by omega) (by omega)⟩) h.low,h.free,h.fo.kept hg (by simp),h.vb.set _,h.pb.kept hg (by simp),?_,h.rowf,h.base,Nat.le_trans h.here hg.size,h.low⟩
 exact owns_same h.row (fun g hgb => hg.block g (owns_lt h.row hgb).2 (fun e => by cases e;have:=(owns_lt h.row hgb).1;omega))
theorem Loop.push (h:Loop E V B γ1 X1 ps u pw γ' X) (h8:B + 8 ≤ X.heap.size) {o:Obj} {y:Nat} {pw':Value} {w2:World}
  (hown:w2.ownsRow (B + 8) 3 1 pw' ((chI ps).length + 1) ((chI ps).map (Value.int .i64) ++ [.int .i64 (y:Int)])) (hg:(X.alloc o).grownBy w2 pw.ownBlock) (hat:pw'.ownBlock = pw.ownBlock ∨ pw'.ownBlock = some (X.alloc o).heap.size) :
  Loop E V B γ1 X1 (ps ++ [y]) u pw' γ' (w2.setCell ⟨B + 2,0,none⟩ pw') ∧ Boxed w2 (B + 2) 82 pw:=by
 have hB:=h.base
 have hA:=h.abide (Y:=X.alloc o) (World.grownBy_alloc X o none) (fun _ e => by cases e)
 have ne:∀ b,b < B + 8 → some b ≠ pw.ownBlock:=fun b hb e => by have:=(owns_lt h.row e.symm).1;omega
 have g2:=grownBy_setCell' w2 (B + 2) pw'
 have p2:=hA.pb.kept hg (ne _ (by omega))
 have new':γ' (X.alloc o).heap.size = .none:=hA.st.inv.new (Nat.le_refl _)
 have st2:Step E γ1 X1 γ' w2:=hA.st.aside hg (fun b e => ⟨by have:=(owns_lt h.row e).1;omega,h.rowf b e⟩) h.low
 have rf:∀ g,pw'.ownBlock = some g → γ' g = .none:=fun g e => by
  rcases hat with h1 | h1
  ·exact h.rowf g (h1.symm.trans e)
  ·rw [h1] at e;cases e;exact new'
 refine ⟨⟨st2.aside g2 (fun b e => by cases e;exact ⟨by omega,h.free _ (by omega) (by omega)⟩) h.low,h.free,(hA.fo.kept hg (ne _ (by omega))).kept g2 (by simp),(hA.vb.kept hg (ne _ (by omega))).kept g2 (by simp),p2.set _,?_,rf,h.base,?_,h.low⟩,p2⟩
 ·have e1:chI (ps ++ [y]) = chI ps ++ [(y:Int)]:=by simp [chI]
  unfold IntRow
  rw [e1,List.length_append,List.length_singleton,List.map_append]
  exact owns_same hown (fun g hgb => g2.block g (owns_lt hown hgb).2 (fun e => by cases e;have:=(owns_lt hown hgb).1;omega))
 ·have:=h.here
  have h1:=hg.size
  have h2:=g2.size
  rw [World.size_alloc] at h1
  omega
theorem Loop.look (h:Loop E V B γ1 X1 ps u pw γ' X) {A k f:Nat} {s:Sel} {pv:Value} (hV:γ' V = some (.verd A k)) (hA:γ' A = some (.asked s pv f)) {y:Nat} (hy:y < E.qs.length) :
  ∃ v,X.cell? ⟨V,y,none⟩ = some (.int .u8 v) ∧ X.frozen? ⟨V,y,none⟩ = false ∧ (v = 0 ∨ (v = 1 ∧ vdV E f s k y = true) ∨ (v = 2 ∧ vdV E f s k y = false)):=by
 obtain ⟨_,o,ho,s',pv',f',hA',vs,rfl,h1,h2⟩:=h.st.inv.each V _ hV
 rw [hA] at hA'
 cases hA'
 have hv:vs[y]? = some (vs[y]'(by omega)):=List.getElem?_eq_getElem (by omega)
 have kV:Blk X V 182 (vs.map (Value.int .u8)):=ho
 obtain ⟨c,fz⟩:=cell_row kV (show (vs.map (Value.int .u8))[y]? = some (.int .u8 vs[y]) by rw [List.getElem?_map,hv];rfl)
 exact ⟨_,c,fz,h2 y _ hv⟩
theorem Loop.note (h:Loop E V B γ1 X1 ps u pw γ' X) {A k f:Nat} {s:Sel} {pv:Value} (hV:γ' V = some (.verd A k)) (hA:γ' A = some (.asked s pv f)) {y:Nat} (hok:(u = 1 ∧ vdV E f s k y = true) ∨ (u = 2 ∧ vdV E f s k y = false)) :
  Loop E V B γ1 X1 ps u pw γ' (X.setCell ⟨V,y,none⟩ (.int .u8 u)):=by
 obtain ⟨_,o,ho,s',pv',f',hA',vs,rfl,h1,h2⟩:=h.st.inv.each V _ hV
 rw [hA] at hA'
 cases hA'
 have kV:Blk X V 182 (vs.map (Value.int .u8)):=ho
 have k2:=blk_put kV y (.int .u8 u)
 have hg:=grown_set X V y (.int .u8 u)
 have hB:=h.base
 have e1:(vs.map (Value.int .u8)).set y (.int .u8 u) = (vs.set y u).map (Value.int .u8):=by rw [List.map_set]
 rw [e1] at k2
 have hs:=h.st.inv.put hV hg k2 ⟨s,pv,f,hA,_,rfl,by simp [h1],fun x v hv => by
  rcases set_at hv with ⟨rfl,rfl⟩ | ⟨_,hv⟩
  ·exact .inr hok
  ·exact h2 x v hv⟩
 have ne:∀ b,X1.heap.size ≤ b → b < B + 8 → some b ≠ some V:=fun b h1 h2 e => by cases e;rw [h.free V h1 h2] at hV;cases hV
 refine ⟨h.st.trans hs,h.free,h.fo.kept hg (ne _ (by omega) (by omega)),h.vb.kept hg (ne _ (by omega) (by omega)),h.pb.kept hg (ne _ (by omega) (by omega)),?_,h.rowf,h.base,Nat.le_trans h.here hg.size,h.low⟩
 exact owns_same h.row (fun g hgb => hg.block g (owns_lt h.row hgb).2 (fun e => by cases e;rw [h.rowf V hgb] at hV;cases hV))
end
end Go.Proofs.YtnemagmakgiheaaGreat.Mt
/- package match: isAhead at every part and element, where isUpTo is known of the part ahead. -/
namespace Go.Proofs.YtnemagmakgiheaaGreat.Mt
open Go.Proofs.YtnemagmakgiheaaGreat.Tre
open Go Go.RowKit Go.Shelf Dm
attribute [local go_sem] Oper.semAt_some
def AhI (E:Env) (V e f k:Nat) (s:Sel) (comb:Int) (γ1:Ghost) (X1:World) (pre:List Nat) (X:World):Prop:=
 ∃ γ' pw,Loop E V X1.heap.size γ1 X1 pre 2 pw γ' X ∧ (∀ z ∈ pre,uptoV (anyV E.es f) E.es s (k - 1) z = false) ∧ Boxed X (X1.heap.size + 3) 3 (.int .i64 e) ∧ Boxed X (X1.heap.size + 4) 120 (wayF E.tb comb) ∧ Boxed X (X1.heap.size + 5) 4 (.bool (farV comb))
def AhX (E:Env) (V f k:Nat) (s:Sel) (res:Bool) (γ1:Ghost) (X1:World) (_:List Nat) (X:World):Prop:=
 ∃ ps u γ' pw,Loop E V X1.heap.size γ1 X1 ps u pw γ' X ∧ ((u = 1 ∧ res = true) ∨ (u = 2 ∧ res = false)) ∧ ∀ y ∈ ps,y < E.qs.length ∧ vdV E f s k y = res
set_option maxHeartbeats 8000000 in
theorem isAhead_in (E:Env) (hE:EnvOk E) (n:Nat) (hn:1 ≤ n) (γ:Ghost) (W:World) (hI:Inv E γ W) (A:Nat) (s:Sel) (pv:Value) (f:Nat) (hA:γ A = some (.asked s pv f)) (k:Nat) (hk:k < s.length) (hk0:0 < k) (HU:UpToK E A f s pv (k - 1)) (e:Nat) (he:e < E.qs.length) :
  CallsIn Fence.wide n Tryz.prog 102 #[.pointer (some ⟨A,0,none⟩),.int .i64 k,.int .i64 e] W fun r W' => r = .returned (.bool ((aheadV E.es (partAt s k).1 e).any (uptoV (anyV E.es f) E.es s (k - 1)))) ∧ ∃ γ',Step E γ W γ' W':=by
 obtain ⟨W2,hW2⟩:∃ W2,(W.alloc (.cells #[.pointer (some ⟨A,0,none⟩)] 129)).alloc (.cells #[.int .i64 k] 3) = W2:=⟨_,rfl⟩
 have bW2:Below W.heap.size W W2:=by rw [← hW2];exact ((Below.refl _ W).alloc (Nat.le_refl _) _).alloc (by simp) _
 have sW2:W2.heap.size = W.heap.size + 2:=by rw [← hW2];simp
 have st2:=hI.step bW2
 have a2:Boxed W2 W.heap.size 129 (.pointer (some ⟨A,0,none⟩)):=by rw [← hW2];exact (Boxed.new _ _ _).alloc _
 have k2:Boxed W2 (W.heap.size + 1) 3 (.int .i64 k):=by
  rw [← hW2]
  have:=Boxed.new (W.alloc (.cells #[.pointer (some ⟨A,0,none⟩)] 129)) 3 (.int .i64 k)
  rwa [World.size_alloc] at this
 have hfo:=foundOf_any E hE γ W2 st2.inv A s pv f hA k hk
 unfold ptrV wide at hfo
 have a2c:=a2.cell
 have k2c:=k2.cell
 have HI:Hid (Inv E γ W):=hI
 have HE:Hid (EnvOk E):=hE
 have HUU:Hid (UpToK E A f s pv (k - 1)):=HU
 obtain ⟨res,hres⟩:∃ r,r = (aheadV E.es (partAt s k).1 e).any (uptoV (anyV E.es f) E.es s (k - 1)):=⟨_,rfl⟩
 rw [← hres]
 have HR:Hid (res = _):=hres
 clear hI hE HU hres
 refine callsIn_of_wp_marks Tryz.func102 rfl trivial ?_ rfl
 simp only [Tryz.ntmps102,List.size_toArray,List.length_cons,List.length_nil,Nat.reduceAdd,Nat.reduceSub,Array.replicate_succ,Array.replicate_zero,List.push_toArray,List.append_toArray,List.nil_append,List.cons_append]
 gi_wp2_with fail
 refine ⟨trivial,?_⟩
 refine (callsIn_wide.2 hfo).mono ?_
 clear hfo
 rintro r X1 ⟨V,γ1,rfl,hV,st1⟩
 have hI0:=HI.out
 have free2:∀ b,W.heap.size ≤ b → γ b = none:=fun b hb => hI0.new hb
 have a1:Boxed X1 W.heap.size 129 (.pointer (some ⟨A,0,none⟩)):=(st1.block _ a2.lt (free2 _ (Nat.le_refl _))).trans a2
 have k1:Boxed X1 (W.heap.size + 1) 3 (.int .i64 k):=(st1.block _ k2.lt (free2 _ (by omega))).trans k2
 have hA1:γ1 A = some (.asked s pv f):=st1.mono st2.inv _ _ hA
 obtain ⟨X4,hX4⟩:∃ X4,((X1.alloc (.cells #[.slice (some ⟨V,0,none⟩) E.qs.length E.qs.length] 180)).alloc (.cells #[.int .u8 2] 182)).alloc (.cells #[.slice none 0 0] 82) = X4:=⟨_,rfl⟩
 have b4:Below X1.heap.size X1 X4:=by rw [← hX4];exact (((Below.refl _ X1).alloc (Nat.le_refl _) _).alloc (by simp) _).alloc (by simp;omega) _
 have s4:X4.heap.size = X1.heap.size + 3:=by rw [← hX4];simp
 have fo4:Boxed X4 X1.heap.size 180 (.slice (some ⟨V,0,none⟩) E.qs.length E.qs.length):=by rw [← hX4];exact ((Boxed.new _ _ _).alloc _).alloc _
 have vb4:Boxed X4 (X1.heap.size + 1) 182 (.int .u8 2):=by
  rw [← hX4]
  have:=(Boxed.new (X1.alloc (.cells #[.slice (some ⟨V,0,none⟩) E.qs.length E.qs.length] 180)) 182 (.int .u8 2)).alloc (.cells #[.slice none 0 0] 82)
  rwa [World.size_alloc] at this
 have pb4:Boxed X4 (X1.heap.size + 2) 82 (.slice none 0 0):=by
  rw [← hX4]
  have:=Boxed.new ((X1.alloc (.cells #[.slice (some ⟨V,0,none⟩) E.qs.length E.qs.length] 180)).alloc (.cells #[.int .u8 2] 182)) 82 (.slice none 0 0)
  rwa [World.size_alloc,World.size_alloc] at this
 have st4:=st1.inv.step b4
 clear a2c k2c a2 k2 hW2
 gi_wp2_with fail
 rename_i K0 hK0 K1 hK1
 obtain ⟨⟨d,hP⟩,hfit,fv,lv,kA,_,_⟩:=st4.inv.asked hA1
 obtain ⟨pp,cp,rfl⟩:=RowT.len hP
 obtain ⟨p,hp⟩:∃ p,s[k]? = some p:=⟨_,List.getElem?_eq_getElem hk⟩
 obtain ⟨bk,off,vi,vc,va,vp,rfl,hbk,hcap,hmx,_,⟨x0,_⟩,_⟩:=PartsAt.get hP hp
 unfold maxLen at hmx
 have hcomb:partAt s k = p:=partAt_eq hp
 have hs50:=fits_len hfit
 have hki:(k:Int) < (s.length:Int):=by omega
 have hlow:E.w₀.heap.size ≤ X4.heap.size:=st4.inv.low.size
 have hbk2:bk < E.w₀.heap.size:=hbk
 unfold ptrV at kA
 have HS:Hid (∀ X:World,Below X4.heap.size X4 X → X.cell? ⟨W.heap.size,0,none⟩ = some (.pointer (some ⟨A,0,none⟩)) ∧ X.cell? ⟨W.heap.size + 1,0,none⟩ = some (.int .i64 k) ∧ X.cell? ⟨A,0,none⟩ = some (.pointer (some ⟨E.tb,0,none⟩)) ∧ X.cell? ⟨A,1,none⟩ = some (.slice (some ⟨bk,off,none⟩) s.length cp) ∧ X.cell? ⟨bk,off + k * 6,none⟩ = some (.int .i64 p.1)):=fun X hX =>
  ⟨(hX.cell (p:=⟨W.heap.size,0,none⟩) (by have:=a1.lt;simp;omega)).trans ((b4.cell (p:=⟨W.heap.size,0,none⟩) a1.lt).trans a1.cell),(hX.cell (p:=⟨W.heap.size + 1,0,none⟩) (by have:=k1.lt;simp;omega)).trans ((b4.cell (p:=⟨W.heap.size + 1,0,none⟩) k1.lt).trans k1.cell),(blk4 (kA.next hX)).1.1,(blk4 (kA.next hX)).1.2.1,(hX.cell (p:=⟨bk,off + k * 6,none⟩) (by simp;omega)).trans x0⟩
 have q0:Below X4.heap.size X4 X4.drew:=below_drew (Below.refl _ _)
 have hah:=ahead_any E.tb e p.1 X4.drew
 have HeldS:=HS.out _ q0
 clear hX4 kA x0 hP
 refine wpIn_onlyN (wpIn_wide.2 ?_)
 refine Rg.wpD_begin [0,1,2,3,4,5,6,7,8,9,10,11,12] (fun X => X.cell? ⟨W.heap.size,0,none⟩ = some (.pointer (some ⟨A,0,none⟩)) ∧ X.cell? ⟨W.heap.size + 1,0,none⟩ = some (.int .i64 k) ∧ X.cell? ⟨A,0,none⟩ = some (.pointer (some ⟨E.tb,0,none⟩)) ∧ X.cell? ⟨A,1,none⟩ = some (.slice (some ⟨bk,off,none⟩) s.length cp) ∧ X.cell? ⟨bk,off + k * 6,none⟩ = some (.int .i64 p.1)) (by kernel_rfl) ?_
 refine Rg.ld 0 HeldS ?_
 simp only [Act.put,Rg.sA,Rg.sB,Rg.sC]
 refine Rg.ld 1 HeldS ?_
 simp only [Act.put,Rg.sA,Rg.sB,Rg.sC]
 refine Rg.ld 2 HeldS ?_
 simp only [Act.put,Rg.sA,Rg.sB,Rg.sC]
 refine Rg.ld 3 HeldS ?_
 simp only [Act.put,Rg.sA,Rg.sB,Rg.sC]
 refine Rg.ld 4 HeldS ?_
 simp only [Act.put,Rg.sA,Rg.sB,Rg.sC]
 refine Rg.ld 5 HeldS ?_
 simp only [Act.put,Rg.sA,Rg.sB,Rg.sC]
 refine Rg.ld 6 HeldS ?_
 simp only [Act.put,Rg.sA,Rg.sB,Rg.sC]
 refine Rg.ld 7 HeldS ?_
 simp only [Act.put,Rg.sA,Rg.sB,Rg.sC]
 refine Rg.ld 8 HeldS ?_
 simp only [Act.put,Rg.sA,Rg.sB,Rg.sC]
 refine Rg.ld 9 HeldS ?_
 simp only [Act.put,Rg.sA,Rg.sB,Rg.sC]
 refine Rg.ld 10 HeldS ?_
 simp only [Act.put,Rg.sA,Rg.sB,Rg.sC]
 refine Rg.ld 11 HeldS ?_
 simp only [Act.put,Rg.sA,Rg.sB,Rg.sC]
 refine Rg.ld 12 HeldS ?_
 simp only [Act.put,Rg.sA,Rg.sB,Rg.sC]
 refine Rg.dd 13 fun K hK => ?_
 go_simp
 go_at_call 126
 refine Calls.mono hah ?_
 clear hah
 rintro r X7 ⟨rfl,e7,n7,f7,b7,s7⟩
 refine hK _ _ (fun h => absurd h (by decide)) ?_
 clear hK K HeldS
 refine Rg.wpD_done (by kernel_rfl) ?_
 simp only [onlyN]
 simp only [show X4.drew.heap.size = X4.heap.size from rfl,s4] at e7 n7 f7 b7 s7 ⊢
 have st7:Step E γ1 X1 γ1 X7:=st1.inv.step (Below.trans (below_drew b4) (b7.mono (by omega)))
 have lt1:=st1.inv.lt hV
 have lowX:E.n₀ ≤ X1.heap.size:=st1.inv.low.size
 have free1:∀ b,X1.heap.size ≤ b → γ1 b = none:=fun b hb => st1.inv.new hb
 have L0:Loop E V X1.heap.size γ1 X1 [] 2 (.slice none 0 0) γ1 X7:=by
  have bb:Below X4.heap.size X4 X7:=Below.trans q0 (by rw [s4];exact b7)
  have g7:=grown_of_below bb none
  exact ⟨st7,fun b h1 _ => free1 b h1,fo4.kept g7 (by simp),vb4.kept g7 (by simp),pb4.kept g7 (by simp),World.ownsRow_nil _ _ _ _,fun g h => by simp [Value.ownBlock] at h,rfl,by omega,lowX⟩
 clear fo4 vb4 pb4 HS st4 st7 q0 b7
 have HK0:Hid (∀ (a:Act) (w:World),_ → K0 a w):=hK0
 have CONT:Hid (∀ (ps:List Nat) (u:Int) (pw:Value) (γ':Ghost) (X:World),Loop E V X1.heap.size γ1 X1 ps u pw γ' X → ((u = 1 ∧ res = true) ∨ (u = 2 ∧ res = false)) → (∀ y ∈ ps,y < E.qs.length ∧ vdV E f s k y = res) → X.heap[X1.heap.size + 6]? = some (.deferred (some [])) →
   K0 { tmps:=#[(.pointer (some ⟨A,0,none⟩)),(.int .i64 k),(.int .i64 e),(.pointer (some ⟨W.heap.size,0,none⟩)),(.pointer (some ⟨W.heap.size + 1,0,none⟩)),undef,(.bool false),(.pointer (some ⟨X1.heap.size,0,none⟩)),(.pointer (some ⟨X1.heap.size + 1,0,none⟩)),(.pointer (some ⟨X1.heap.size + 2,0,none⟩)),undef,undef,undef,(.pointer (some ⟨A,0,none⟩)),(.int .i64 k),(.slice (some ⟨V,0,none⟩) E.qs.length E.qs.length),(.pointer (some ⟨A,0,none⟩)),(.pointer (some ⟨A,0,none⟩)),(.pointer (some ⟨A,0,none⟩)),(.pointer (some ⟨E.tb,0,none⟩)),(.int .i64 e),(.pointer (some ⟨A,0,none⟩)),(.pointer (some ⟨A,0,none⟩)),(.pointer (some ⟨A,1,none⟩)),(.slice (some ⟨bk,off,none⟩) s.length cp),(.int .i64 k),(.pointer (some ⟨bk,off + k * 6,none⟩)),(.pointer (some ⟨bk,off + k * 6,none⟩)),(.int .i64 p.1),(.func (.func 148) #[] #[.pointer (some ⟨X1.heap.size + 4,0,none⟩),.pointer (some ⟨X1.heap.size + 3,0,none⟩),.pointer (some ⟨X1.heap.size + 5,0,none⟩)]),undef,undef,undef,undef,undef,undef,undef,undef,undef,undef,undef,undef,undef,undef,undef,undef,undef,undef,undef,undef,undef,undef,undef,undef,undef,undef,undef,undef,undef,undef,undef,undef],defers:=[{ target:=.collected (X1.heap.size + 6),args:=#[] }] } X):=by
  intro ps u pw γ' X hL hu hps hdf
  have hV':γ' V = some (.verd A k):=(hL.st.role V lt1).trans hV
  have hA':γ' A = some (.asked s (.slice (some ⟨bk,off,none⟩) s.length cp) f):=(hL.st.role A (st1.inv.lt hA1)).trans hA1
  have hform:∃ pq cq,pw = .slice pq ps.length cq:=by
   obtain ⟨pq,cq,h⟩:=owns_form hL.row
   rw [chI_len] at h
   exact ⟨pq,cq,h⟩
  obtain ⟨pq,cq,rfl⟩:=hform
  have cf:=hL.fo.cell
  have cv:=hL.vb.cell
  have cpb:=hL.pb.cell
  have HV':Hid (_ = _):=hV'
  have HA':Hid (_ = _):=hA'
  have HPS:Hid (∀ y ∈ ps,y < E.qs.length ∧ vdV E f s k y = res):=hps
  have HU0:Hid ((u = 1 ∧ res = true) ∨ (u = 2 ∧ res = false)):=hu
  have HL0:Hid (Loop E V X1.heap.size γ1 X1 ps u (.slice pq ps.length cq) γ' X):=hL
  have HDF:Hid (_ = _):=hdf
  have hfew:=HE.out.few
  have hpl:ps.length ≤ 9223372036854775807:=by have:=hL.row.at.short;rwa [chI_len] at this
  refine HK0.out _ _ ?_
  clear HK0 hps hu hL hdf hV' hA'
  gi_wp2
  gi_loopw [51] (fun x wr => ∃ i:Nat,x = .int .i64 i ∧ i ≤ ps.length ∧ Loop E V X1.heap.size γ1 X1 ps u (.slice pq ps.length cq) γ' wr ∧ wr.heap[X1.heap.size + 6]? = some (.deferred (some []))) (fun x _ => ps.length - (intOf x).toNat)
  case atStart => exact ⟨0,rfl,Nat.zero_le _,HL0.out,HDF.out⟩
  case round =>
   clear cf cv cpb
   obtain ⟨i,rfl,hi,hLr,hd⟩:=hrel
   have HLr:Hid _:=hLr
   have HD:Hid (_ = _):=hd
   have cf:=hLr.fo.cell
   have cv:=hLr.vb.cell
   by_cases hlt:i < ps.length
   ·obtain ⟨y,hy⟩:∃ y,ps[i]? = some y:=⟨_,List.getElem?_eq_getElem hlt⟩
    obtain ⟨hyN,hyv⟩:=HPS.out y (List.mem_of_getElem? hy)
    obtain ⟨bq,oq,rfl,_,hcq,hmq,hcell⟩:=hLr.row.at.get (k:=i) (t:=(y:Int)) (by unfold chI;rw [List.getElem?_map,hy];rfl)
    have z0:=hcell 0 _ rfl
    simp only [Nat.mul_one,Nat.add_zero] at z0
    rw [chI_len] at hcq
    unfold maxLen at hmq
    obtain ⟨v,c,fz,_⟩:=hLr.look HV'.out HA'.out hyN
    have NX:=hLr.note HV'.out HA'.out (y:=y) (by rw [hyv];exact HU0.out)
    have HNX:Hid _:=NX
    have hne:X1.heap.size + 6 ≠ V:=by omega
    have hd2:(wr.setCell ⟨V,y,none⟩ (.int .u8 u)).heap[X1.heap.size + 6]? = some (.deferred (some [])):=(Below.heap_setCell _ _ _ _ (by simpa using hne)).trans hd
    have HD2:Hid (_ = _):=hd2
    have hii:(i:Int) < (ps.length:Int):=by omega
    have hyi:(y:Int) < (E.qs.length:Int):=by omega
    clear hcell NX hd2 hyv hy hLr hd
    gi_wp2
    go_roundw
    case rel => exact ⟨i + 1,rfl,by omega,HNX.out,HD2.out⟩
    case measure => simp [intOf];omega
   ·have hii:¬ ((i:Int) < (ps.length:Int)):=by omega
    clear hLr hd
    have st9:=HLr.out.st.aside (grownBy_putObj' wr (X1.heap.size + 6) (.deferred none)) (fun b e => by cases e;exact ⟨by omega,HLr.out.free _ (by omega) (by omega)⟩) lowX
    have FIN:Hid (∃ γ9,Step E γ W γ9 _):=⟨_,(st2.trans st1).trans st9⟩
    clear st9
    rcases HU0.out with ⟨rfl,hr⟩ | ⟨rfl,hr⟩
    ·have HRR:Hid (_ = _):=hr
     clear hr
     gi_wp2
     refine ⟨by simp,.inl ⟨_,_,rfl,run_takeDeferred HD.out,?_⟩⟩
     exact ⟨_,results_tmp rfl _ _ _,by rw [show res = _ from HRR.out];rfl,FIN.out⟩
    ·have HRR:Hid (_ = _):=hr
     clear hr
     gi_wp2
     refine ⟨by simp,.inl ⟨_,_,rfl,run_takeDeferred HD.out,?_⟩⟩
     exact ⟨_,results_tmp rfl _ _ _,by rw [show res = _ from HRR.out];rfl,FIN.out⟩
 have hseq:=ahead_seq E HE.out (n - 1) (X1.heap.size + 4) (X1.heap.size + 3) (X1.heap.size + 5) p.1 e he X7
 have h7:X7.heap.size = X1.heap.size + 6:=by omega
 have ba:∀ b,b < W.heap.size + 2 → W.heap.size ≤ b → γ1 b = none:=fun b h1 h2 => (st1.role b (by omega)).trans (free2 b h2)
 have hlenA:∀ (f':Nat) (x:Int),(chain E.es p.1 f' x).length ≤ f':=by
  intro f'
  induction f' with
  | zero => intro x;exact Nat.le_refl _
  | succ f' ih =>
   intro x
   rw [chain_succ]
   unfold restV
   split
   ·exact Nat.zero_le _
   ·split
    ·have:=ih (nextV E.es p.1 x);simp;omega
    ·simp
 have HLEN:Hid (∀ (f':Nat) (x:Int),(chain E.es p.1 f' x).length ≤ f'):=hlenA
 rw [hcomb] at HR
 clear hlenA
 gi_wp2
 refine wpIn_rangeFunc_W 0 rfl hn (gf:=148) (lb:=#[.pointer (some ⟨X1.heap.size + 4,0,none⟩),.pointer (some ⟨X1.heap.size + 3,0,none⟩),.pointer (some ⟨X1.heap.size + 5,0,none⟩)]) rfl trivial egAhead hseq (Nat.zero_le _) (Below.refl _ _) (fun _ => rfl)
  (AhI E V e f k s p.1 γ1 X1)
  (AhX E V f k s res γ1 X1)
  ?hI ?hIx ⟨γ1,_,L0,fun z h => (by cases h),e7,n7,f7⟩ ?hIC
  (fun x => { tmps:=#[(.pointer (some ⟨A,0,none⟩)),(.int .i64 k),(.int .i64 e),(.pointer (some ⟨W.heap.size,0,none⟩)),(.pointer (some ⟨W.heap.size + 1,0,none⟩)),undef,(.bool false),(.pointer (some ⟨X1.heap.size,0,none⟩)),(.pointer (some ⟨X1.heap.size + 1,0,none⟩)),(.pointer (some ⟨X1.heap.size + 2,0,none⟩)),(.int .i64 (x:Nat)),undef,undef,(.pointer (some ⟨A,0,none⟩)),(.int .i64 k),(.slice (some ⟨V,0,none⟩) E.qs.length E.qs.length),(.pointer (some ⟨A,0,none⟩)),(.pointer (some ⟨A,0,none⟩)),(.pointer (some ⟨A,0,none⟩)),(.pointer (some ⟨E.tb,0,none⟩)),(.int .i64 e),(.pointer (some ⟨A,0,none⟩)),(.pointer (some ⟨A,0,none⟩)),(.pointer (some ⟨A,1,none⟩)),(.slice (some ⟨bk,off,none⟩) s.length cp),(.int .i64 k),(.pointer (some ⟨bk,off + k * 6,none⟩)),(.pointer (some ⟨bk,off + k * 6,none⟩)),(.int .i64 p.1),(.func (.func 148) #[] #[.pointer (some ⟨X1.heap.size + 4,0,none⟩),.pointer (some ⟨X1.heap.size + 3,0,none⟩),.pointer (some ⟨X1.heap.size + 5,0,none⟩)]),(.int .i64 (x:Nat)),undef,undef,undef,undef,undef,undef,undef,undef,undef,undef,undef,undef,undef,undef,undef,undef,undef,undef,undef,undef,undef,undef,undef,undef,undef,undef,undef,undef,undef,undef,undef],defers:=[] }) ?assign ?body ?done ?stop
 case hI =>
  rintro pre X Y row ⟨γ',pw,hL,h2,h3,h4,h5⟩ hg hr
  have far:∀ b,b < X1.heap.size + 6 → some b ≠ row:=fun b hb e => by have:=hr b e.symm;omega
  exact ⟨γ',pw,hL.abide hg (fun b e => by have:=hr b e;omega),h2,h3.kept hg (far _ (by omega)),h4.kept hg (far _ (by omega)),h5.kept hg (far _ (by omega))⟩
 case hIx =>
  rintro pre X Y row ⟨ps,u,γ',pw,hL,h2,h3⟩ hg hr
  exact ⟨ps,u,γ',pw,hL.abide hg (fun b e => by have:=hr b e;omega),h2,h3⟩
 case hIC =>
  rintro pre X ⟨γ',pw,hL,h2,h3,h4,h5⟩
  exact ⟨h4.cell,h3.cell,h5.cell,hL.st.inv.tree HE.out⟩
 case assign =>
  intro l x X K hK
  gi_wp2
  exact hK
 case body =>
  rintro l' pre x X ⟨γ',pw,hL,hno,h3,h4,h5⟩ ⟨rest,hok⟩ hsz
  rw [h7] at hsz
  have h8:X1.heap.size + 8 ≤ X.heap.size:=by omega
  have hok':aheadV E.es (partAt s k).1 e = pre ++ x :: rest:=by rw [hcomb];exact hok.symm
  have hx:=(vd_at HE.out he (f:=f) hok').1
  have hlen:pre.length < 4097:=by
   have h1:=HLEN.out (e + 1) e
   have h2:(aheadV E.es p.1 e).length = pre.length + (rest.length + 1):=by rw [← hok];simp
   unfold aheadV at h2
   have:=HE.out.few
   omega
  have hV':γ' V = some (.verd A k):=(hL.st.role V lt1).trans hV
  have hA':γ' A = some (.asked s (.slice (some ⟨bk,off,none⟩) s.length cp) f):=(hL.st.role A (st1.inv.lt hA1)).trans hA1
  have aX:Boxed X W.heap.size 129 (.pointer (some ⟨A,0,none⟩)):=(hL.st.block _ a1.lt (ba _ (by omega) (Nat.le_refl _))).trans a1
  have kX:Boxed X (W.heap.size + 1) 3 (.int .i64 k):=(hL.st.block _ k1.lt (ba _ (by omega) (by omega))).trans k1
  obtain ⟨v,cV,fV,hv⟩:=hL.look hV' hA' hx
  have hxi:(x:Int) < (E.qs.length:Int):=by omega
  have cf:=hL.fo.cell
  have cv:=hL.vb.cell
  have fv':=hL.vb.frozen
  have KP:Hid (∀ (b:Nat) (u:Value),X1.heap.size ≤ b → b < X1.heap.size + 6 → ∀ Y,KeepsIn 0 (X1.heap.size + 6) (X1.heap.size + 8) X Y → KeepsIn 0 (X1.heap.size + 6) (X1.heap.size + 8) X (Y.setCell ⟨b,0,none⟩ u)):=fun b u h1 h2 Y hY => hY.trans ⟨(Below.refl 0 Y).grown (grownBy_setCell' Y b u) (Nat.zero_le _) (fun _ _ => Nat.zero_le _),fun r r1 r2 => Below.heap_setCell _ _ _ _ (by simp;omega)⟩
  have HLX:Hid _:=hL
  have HHV:Hid (_ = _):=hV'
  have HHA:Hid (_ = _):=hA'
  have HNO:Hid (∀ z ∈ pre,uptoV (anyV E.es f) E.es s (k - 1) z = false):=hno
  have HOK:Hid (_ = _):=hok'
  by_cases hv0:v = 0
  ·subst hv0
   have hform:∃ pq cq,pw = .slice pq pre.length cq:=by
    obtain ⟨pq,cq,h⟩:=owns_form hL.row
    rw [chI_len] at h
    exact ⟨pq,cq,h⟩
   obtain ⟨pq,cq,rfl⟩:=hform
   have cpb:=hL.pb.cell
   have fpb:=hL.pb.frozen
   obtain ⟨i0,hi,hz0,hz1,hz2⟩:=info_parts infoInt
   have r1:(X.alloc (.cells #[.int .i64 (x:Int)] 3)).ownsRow (X1.heap.size + 8) 3 1 (.slice pq pre.length cq) (chI pre).length ((chI pre).map (Value.int .i64)):=(show IntRow _ _ _ _ from hL.row).alloc _
   have hcl:(chI pre).length = pre.length:=chI_len pre
   have hw1:IntKind.i64.wrap ((k:Int) - 1) = ((k - 1:Nat):Int):=by rw [IntKind.wrap_i64];omega
   have HAX:Hid (Boxed X W.heap.size 129 (.pointer (some ⟨A,0,none⟩))):=aX
   have HKX:Hid (Boxed X (W.heap.size + 1) 3 (.int .i64 k)):=kX
   have H3:Hid _:=h3
   have H4:Hid _:=h4
   have H5:Hid _:=h5
   have AFTER:Hid (∀ (q4:Option Addr) (c4:Nat) (w4:World),w4.ownsRow (X1.heap.size + 8) 3 1 (.slice q4 (pre.length + 1) c4) (pre.length + 1) ((chI pre).map (Value.int .i64) ++ [.int .i64 (x:Int)]) → (X.alloc (.cells #[.int .i64 (x:Int)] 3)).grownBy w4 (Value.slice pq pre.length cq).ownBlock → ((Value.slice q4 (pre.length + 1) c4).ownBlock = (Value.slice pq pre.length cq).ownBlock ∨ (Value.slice q4 (pre.length + 1) c4).ownBlock = some (X.alloc (.cells #[.int .i64 (x:Int)] 3)).heap.size) →
     w4.cell? ⟨X1.heap.size + 2,0,none⟩ = some (.slice pq pre.length cq) ∧ w4.frozen? ⟨X1.heap.size + 2,0,none⟩ = false ∧
     (w4.setCell ⟨X1.heap.size + 2,0,none⟩ (.slice q4 (pre.length + 1) c4)).cell? ⟨W.heap.size,0,none⟩ = some (.pointer (some ⟨A,0,none⟩)) ∧
     (w4.setCell ⟨X1.heap.size + 2,0,none⟩ (.slice q4 (pre.length + 1) c4)).cell? ⟨W.heap.size + 1,0,none⟩ = some (.int .i64 k) ∧
     Hid (Loop E V X1.heap.size γ1 X1 (pre ++ [x]) 2 (.slice q4 (pre.length + 1) c4) γ' (w4.setCell ⟨X1.heap.size + 2,0,none⟩ (.slice q4 (pre.length + 1) c4)) ∧
      KeepsIn 0 (X1.heap.size + 6) (X1.heap.size + 8) X (w4.setCell ⟨X1.heap.size + 2,0,none⟩ (.slice q4 (pre.length + 1) c4)) ∧
      Boxed (w4.setCell ⟨X1.heap.size + 2,0,none⟩ (.slice q4 (pre.length + 1) c4)) (X1.heap.size + 3) 3 (.int .i64 e) ∧ Boxed (w4.setCell ⟨X1.heap.size + 2,0,none⟩ (.slice q4 (pre.length + 1) c4)) (X1.heap.size + 4) 120 (wayF E.tb p.1) ∧ Boxed (w4.setCell ⟨X1.heap.size + 2,0,none⟩ (.slice q4 (pre.length + 1) c4)) (X1.heap.size + 5) 4 (.bool (farV p.1)) ∧ X1.heap.size + 8 ≤ (w4.setCell ⟨X1.heap.size + 2,0,none⟩ (.slice q4 (pre.length + 1) c4)).heap.size)):=by
    intro q4 c4 w4 hown4 hgrow4 hat4
    obtain ⟨L4,p4⟩:=hL.push h8 (by rw [hcl];exact hown4) hgrow4 hat4
    have g2:=grownBy_setCell' w4 (X1.heap.size + 2) (.slice q4 (pre.length + 1) c4)
    have ne:∀ b,b < X1.heap.size + 8 → some b ≠ (Value.slice pq pre.length cq).ownBlock:=fun b hb e => by have:=(owns_lt hL.row e.symm).1;omega
    have sz4:=hgrow4.size
    rw [World.size_alloc] at sz4
    have bx:∀ {t:TypeId} {v:Value} {b:Nat},Boxed X b t v → b < X1.heap.size + 8 → b ≠ X1.heap.size + 2 → Boxed (w4.setCell ⟨X1.heap.size + 2,0,none⟩ (.slice q4 (pre.length + 1) c4)) b t v:=fun hb h1 h2 => ((hb.alloc _).kept hgrow4 (ne _ h1)).kept g2 (by simpa using h2)
    refine ⟨p4.cell,p4.frozen,Boxed.cell (show Boxed _ W.heap.size 129 _ from (L4.st.block _ a1.lt (ba _ (by omega) (Nat.le_refl _))).trans a1),Boxed.cell (show Boxed _ (W.heap.size + 1) 3 _ from (L4.st.block _ k1.lt (ba _ (by omega) (by omega))).trans k1),L4,KP.out _ _ (by omega) (by omega) _ ⟨((Below.refl 0 X).alloc (Nat.zero_le _) _).grown hgrow4 (Nat.zero_le _) (fun _ _ => Nat.zero_le _),fun r r1 r2 => (hgrow4.block r (by simp;omega) (ne _ (by omega))).trans (Below.heap_alloc _ _ _ (by omega))⟩,bx h3 (by omega) (by omega),bx h4 (by omega) (by omega),bx h5 (by omega) (by omega),by have:=g2.size;omega⟩
   clear hL hV' hA' hno hok hok' hv h3 h4 h5 aX kX
   gi_wp2_with (gi_at_builtin;refine wpListIn_append_own_at _ rfl _ _ 82 rfl (X1.heap.size + 8) 3 i0 (.int .i64 0) 1 8 Tryz.underlying82 hi hz0 hz1 hz2 rfl (by decide) (.slice pq pre.length cq) _ _ rfl r1 ⟨X.heap.size,0,none⟩ 1 1 [.int .i64 (x:Int)] rfl rfl (cells_plain X [.int .i64 (x:Int)] _) (fun u hu => by simp at hu;subst hu;rfl) (by rw [hcl];unfold maxLen;omega) (by rw [hcl];omega) (by simp;omega) ?_;intro pw' w4 hown4 hgrow4 hnil4 hat4;rw [hcl] at hown4;obtain ⟨q4,c4,rfl⟩:=owns_form hown4;obtain ⟨s0,s1,aY,kY,LY⟩:=AFTER.out q4 c4 w4 hown4 hgrow4 hat4)
   clear s0 s1 cV fV cf cv fv' cpb fpb hown4 hgrow4 hnil4 hat4 r1
   obtain ⟨Y,hY⟩:∃ Y,w4.setCell ⟨X1.heap.size + 2,0,none⟩ (.slice q4 (pre.length + 1) c4) = Y:=⟨_,rfl⟩
   rw [hY] at LY aY kY ⊢
   have hU:=HUU.out γ' Y LY.out.1.st.inv HHA.out x hx
   refine ⟨trivial,fun h => (by cases h),?_⟩
   refine (CallsIn.inRound l' (callsIn_wide.2 hU)).mono ?_
   clear hU
   rintro r Z ⟨rfl,γ'',stZ⟩
   obtain ⟨LY1,LY2,LY3,LY4,LY5,LY6⟩:=LY.out
   have LZ:=LY1.step stZ LY6
   have bx:∀ {t:TypeId} {v:Value} {b:Nat},Boxed Y b t v → X1.heap.size ≤ b → b < X1.heap.size + 8 → Boxed Z b t v:=fun hb h1 h2 => (stZ.block _ hb.lt (LY1.free _ h1 h2)).trans hb
   have KZ:KeepsIn 0 (X1.heap.size + 6) (X1.heap.size + 8) X Z:=LY2.trans ⟨⟨stZ.inv.low.os.trans LY1.st.inv.low.os.symm,stZ.inv.low.tape.trans LY1.st.inv.low.tape.symm,stZ.inv.low.output.trans LY1.st.inv.low.output.symm,stZ.size,fun _ h => absurd h (Nat.not_lt_zero _)⟩,fun r r1 r2 => stZ.block r (by omega) (LY1.free r (by omega) (by omega))⟩
   have cvZ:=LZ.vb.cell
   have fvZ:=LZ.vb.frozen
   cases hup:uptoV (anyV E.es f) E.es s (k - 1) x with
   | true =>
    obtain ⟨hr1,hr2⟩:=res_yes HE.out he (f:=f) HOK.out HNO.out hup
    rw [hcomb] at hr1
    have hres:res = true:=by rw [show res = _ from HR.out];exact hr1
    have FIN:Hid (KeepsIn 0 X7.heap.size (X7.heap.size + 2 + 0) X (Z.setCell ⟨X1.heap.size + 1,0,none⟩ (.int .u8 1)) ∧ AhX E V f k s res γ1 X1 (pre ++ [x]) (Z.setCell ⟨X1.heap.size + 1,0,none⟩ (.int .u8 1))):=by
     rw [h7]
     exact ⟨KP.out _ _ (by omega) (by omega) _ KZ,_,1,_,_,LZ.setV 1,.inl ⟨rfl,hres⟩,fun y hy => by rw [hres];exact hr2 y hy⟩
    clear LZ bx KZ LY1 LY2 LY3 LY4 LY5 LY6 stZ hup hr1 hr2 hres h7 s7
    gi_wp2
    exact ⟨rfl,FIN.out⟩
   | false =>
    have FIN:Hid (KeepsIn 0 X7.heap.size (X7.heap.size + 2 + 0) X Z ∧ AhI E V e f k s p.1 γ1 X1 (pre ++ [x]) Z):=by
     rw [h7]
     refine ⟨KZ,_,_,LZ,fun z hz => ?_,bx LY3 (by omega) (by omega),bx LY4 (by omega) (by omega),bx LY5 (by omega) (by omega)⟩
     rcases List.mem_append.1 hz with hz | hz
     ·exact HNO.out z hz
     ·obtain rfl:z = x:=by simpa using hz
      exact hup
    clear LZ bx KZ LY1 LY2 LY3 LY4 LY5 LY6 stZ hup h7 s7
    gi_wp2
    exact FIN.out
  ·have hne:(v != 0) = true:=by simpa [bne] using hv0
   obtain ⟨hr1,hr2⟩:=res_at HE.out he (f:=f) HOK.out HNO.out
   rw [hcomb] at hr1
   have hres:res = vdV E f s k x:=by rw [show res = _ from HR.out];exact hr1
   have FIN:Hid (KeepsIn 0 X7.heap.size (X7.heap.size + 2 + 0) X (X.setCell ⟨X1.heap.size + 1,0,none⟩ (.int .u8 v)) ∧ AhX E V f k s res γ1 X1 (pre ++ [x]) (X.setCell ⟨X1.heap.size + 1,0,none⟩ (.int .u8 v))):=by
    rw [h7]
    refine ⟨KP.out _ _ (by omega) (by omega) _ (KeepsIn.refl _ _ _ _),pre,v,_,_,hL.setV v,?_,fun y hy => by rw [hres];exact hr2 y hy⟩
    rw [hres]
    rcases hv with h | h | h
    ·exact absurd h hv0
    ·exact .inl h
    ·exact .inr h
   clear hL hV' hA' hno hok hok' hv h3 h4 h5 aX kX hr1 hr2 hres hv0 h7 s7
   gi_wp2
   exact ⟨rfl,FIN.out⟩
 case done =>
  rintro ys X hys ⟨γ',pw,hL,hno,_⟩ hK
  obtain ⟨hr1,hr2⟩:=res_none HE.out he (f:=f) (s:=s) (k:=k) (by rw [hcomb];exact hys) hno
  rw [hcomb] at hr1
  have hres:res = false:=by rw [show res = _ from HR.out];exact hr1
  rw [h7] at hK
  have FIN:=CONT.out ys 2 pw γ' X hL (.inr ⟨rfl,hres⟩) (fun y hy => by rw [hres];exact hr2 y hy) hK
  rw [h7]
  exact FIN
 case stop =>
  rintro pre X _ ⟨ps,u,γ',pw,hL,hu,hps⟩ hK
  rw [h7] at hK ⊢
  have FIN:Hid _:=CONT.out ps u pw γ' X hL hu hps hK
  clear CONT HK0 hK0
  gi_wp2
  exact FIN.out
end Go.Proofs.YtnemagmakgiheaaGreat.Mt

/- The document's own word (which word of a list a text is); what a pseudo-class is, by places. -/
import Derived.Test.YtnemagmakgiheaaGreatSrB
set_option maxRecDepth 100000
namespace Go.Proofs.YtnemagmakgiheaaGreat.Sr
open Go.Proofs.YtnemagmakgiheaaGreat.Tre
open Go Go.RowKit Sl
def idx:List (List UInt8) → List UInt8 → Option Nat
 | [],_ => none
 | x :: l,s => if x = s then some 0 else (idx l s).map (· + 1)
theorem beq_false {s x:ByteArray} (h:¬ s = x):(s.toList == x.toList) = false:=by
 rw [ByteArray.toList_eq,ByteArray.toList_eq,beq_eq_false_iff_ne]
 intro e
 exact h (by
  cases s;cases x
  simp only [ByteArray.mk.injEq]
  exact Array.toList_inj.1 e)
def StrsIn (W:World) (g:Nat) (ss:List (List UInt8)):Prop:=∀ j s,ss[j]? = some s → W.cell? ⟨g,0 + j,none⟩ = some (.string ⟨s.toArray⟩)
theorem StrsIn.below {X Y:World} {g n:Nat} {ss:List (List UInt8)} (h:StrsIn X g ss) (hb:Below n X Y) (hg:g < n):StrsIn Y g ss:=fun j s hj => (hb.cell (p:=⟨g,0 + j,none⟩) hg).trans (h j s hj)
def strCells (ss:List (List UInt8)):List Value:=ss.map fun s => .string ⟨s.toArray⟩
theorem StrsIn.new (w:World) (ss:List (List UInt8)) (t:TypeId):StrsIn (w.alloc (.cells (strCells ss).toArray t)) w.heap.size ss:=fun j s hj => by
 rw [cell_of_block (heap_alloc_new w _),Nat.zero_add,List.getElem?_toArray,strCells,List.getElem?_map,hj]
 rfl
def idxV (l:List (List UInt8)) (s:List UInt8):Int × Bool:=match idx l s with
 | some n => ((n:Int),true)
 | none => (0,false)
theorem idx_lt:∀ {l:List (List UInt8)} {s:List UInt8} {n:Nat},idx l s = some n → n < l.length
 | x :: l,s,n,h => by
  unfold idx at h
  split at h
  ·cases h;simp
  ·obtain ⟨m,hm,rfl⟩:=Option.map_eq_some_iff.1 h
   have:=idx_lt hm
   simp
   omega
def Left (l:List (List UInt8)) (s:List UInt8) (k:Nat):Prop:=idx l s = (idx (l.drop k) s).map (· + k)
theorem Left.start (l:List (List UInt8)) (s:List UInt8):Left l s 0:=by
 unfold Left
 cases h:idx l s <;> simp [h]
theorem Left.next {l:List (List UInt8)} {s x:List UInt8} {k:Nat} (h:Left l s k) (hx:l[k]? = some x) (hne:¬ x = s):Left l s (k + 1):=by
 obtain ⟨hk,rfl⟩:=List.getElem?_eq_some_iff.1 hx
 unfold Left at *
 rw [h,List.drop_eq_getElem_cons hk,idx,if_neg hne,Option.map_map]
 congr 1
 funext n
 simp
 omega
theorem Left.hit {l:List (List UInt8)} {s x:List UInt8} {k:Nat} (h:Left l s k) (hx:l[k]? = some x) (he:x = s):idxV l s = ((k:Int),true):=by
 obtain ⟨hk,rfl⟩:=List.getElem?_eq_some_iff.1 hx
 unfold Left at h
 unfold idxV
 rw [h,List.drop_eq_getElem_cons hk,idx,if_pos he]
 simp
theorem Left.none {l:List (List UInt8)} {s:List UInt8} {k:Nat} (h:Left l s k) (hk:l.length ≤ k):idxV l s = (0,false):=by
 unfold Left at h
 rw [List.drop_eq_nil_of_le hk] at h
 unfold idxV
 rw [h]
 rfl
set_option maxHeartbeats 1000000 in
theorem refWord_any (s:ByteArray) (g cap:Nat) (ss:List (List UInt8)) (w:World) (hS:StrsIn w g ss) (_hl:ss.length ≤ 100) :
  Calls Tryz.prog 158 #[.string s,.slice (some ⟨g,0,none⟩) ss.length cap] w fun e w' => e = .returned (.tuple #[.int .i64 (idxV ss s.data.toList).1,.bool (idxV ss s.data.toList).2]) ∧ w' = w:=by
 obtain ⟨V,hV⟩:∃ V,idxV ss s.data.toList = V:=⟨_,rfl⟩
 rw [hV]
 go_enter Tryz.func158,Tryz.ntmps158
 go_wp2
 go_loopw [6] (fun i wr => ∃ k:Nat,i = .int .i64 k ∧ k ≤ ss.length ∧ Hid (Left ss s.data.toList k) ∧ w = wr) (fun i _ => ss.length - (intOf i).toNat)
 case atStart => exact ⟨0,rfl,Nat.zero_le _,Left.start _ _,rfl⟩
 case round =>
  obtain ⟨k,rfl,hk,HL,rfl⟩:=hrel
  by_cases hlt:k < ss.length
  ·have hki:(k:Int) < (ss.length:Int):=by omega
   obtain ⟨x,hx⟩:∃ x,ss[k]? = some x:=⟨_,List.getElem?_eq_getElem hlt⟩
   have hc:=hS k x hx
   rw [Nat.zero_add] at hc
   have hxe:(⟨x.toArray⟩:ByteArray) = s ↔ x = s.data.toList:=⟨fun e => by rw [← e],fun e => by rw [e]⟩
   generalize (⟨x.toArray⟩:ByteArray) = xs at hc hxe
   by_cases he:xs = s
   ·subst he
    obtain rfl:((k:Int),true) = V:=by rw [← hV];exact (Left.hit HL hx (hxe.1 rfl)).symm
    clear hV hS hx hxe HL
    go_wp2
    go_ret2
    exact ⟨rfl,rfl⟩
   ·have HL':Hid (Left ss s.data.toList (k + 1)):=Left.next HL hx (fun e => he (hxe.2 e))
    have hne:=beq_false he
    clear hV hx hxe HL hS
    go_wp2
    exact ⟨⟨k + 1,by go_num,by omega,HL',trivial⟩,by simp [intOf];omega⟩
  ·have hki:¬ (k:Int) < (ss.length:Int):=by omega
   obtain rfl:((0:Int),false) = V:=by rw [← hV];exact (Left.none HL (by omega)).symm
   clear hV HL hS
   go_wp2
   go_ret2
   exact ⟨rfl,rfl⟩
/-! ### pseudo-classes, by places -/
def wordsP:List (List UInt8):=[rootT,firstT,lastT,onlyT,emptyT]
theorem plain_idx (w:List UInt8):plainV w = (idx wordsP w).map (fun n => 1 + (n:Int)):=by
 simp only [plainV,wordsP,idx]
 by_cases h1:w = rootT
 ·subst h1;rfl
 by_cases h2:w = firstT
 ·subst h2;rfl
 by_cases h3:w = lastT
 ·subst h3;rfl
 by_cases h4:w = onlyT
 ·subst h4;rfl
 by_cases h5:w = emptyT
 ·subst h5;rfl
 simp [h1,h2,h3,h4,h5,Ne.symm h1,Ne.symm h2,Ne.symm h3,Ne.symm h4,Ne.symm h5]
def listX (d:Nat) (r:List Bt):Option (List Sel × List Bt):=(listV d r).bind fun x =>
 if d = 8 then (match x.2 with
  | [] => some (x.1,[])
  | _ => none)
 else match x.2 with
  | e :: r2 => if e.kind = 17 then some (x.1,r2) else none
  | [] => none
theorem listed_x {d:Nat} (hd:d < 8) (k:Int) (r:List Bt):listedV (innerV (d + 1)) k r = (listX d r).map fun x => (.mk k 0 0 x.1,x.2):=by
 unfold listedV listX
 show (listV d r).bind _ = _
 cases listV d r with
 | none => rfl
 | some x =>
  obtain ⟨l,r2⟩:=x
  simp only [Option.bind_some]
  rw [if_neg (by omega)]
  cases r2 with
  | nil => rfl
  | cons e r2 =>
   by_cases h:e.kind = 17
   ·simp [h]
   ·simp [h]
theorem listed_0 (k:Int) (r:List Bt):listedV (innerV 0) k r = none:=rfl
theorem ps_at (L:Inner) (ts:List Bt) (a:Nat):pseudoV L (ts.drop a) =
  if (at' ts a).kind = 1 then (plainV (lowOf (at' ts a))).map fun k => (.mk k 0 0 [],ts.drop (a + 1))
  else if (at' ts a).kind = 20 then
   if lowOf (at' ts a) = nthT then (nthV (ts.drop (a + 1))).map fun x => (.mk 6 x.1 x.2.1 [],x.2.2)
   else if lowOf (at' ts a) = notT then listedV L 7 (ts.drop (a + 1))
   else if lowOf (at' ts a) = isT then listedV L 8 (ts.drop (a + 1))
   else none
  else none:=by
 by_cases hl:a < ts.length
 ·rw [at_cons hl];rfl
 ·rw [(at_none (by omega)).1,(at_none (by omega)).2];rfl
def PsOut (n₀ R:Nat) (v:Value) (ts:List Bt) (d:Nat) (w:World) (a:Nat) (V:Option (Ps × List Bt)) (e:Ending) (w':World):Prop:=
 ∃ (x:Ps) (y:Value) (b:Nat) (bad:Bool),e = .returned (.agg #[.int .i64 x.kind,.int .i64 x.a,.int .i64 x.b,y]) ∧ SelsAt d (fun b => w.heap.size ≤ b) w' y x.list ∧ Pk n₀ w' R v ts b bad (8 - (d:Int)) ∧ a + 1 ≤ b ∧ ((bad = false ∧ V = some (x,ts.drop b) ∧ b ≤ ts.length) ∨ (bad = true ∧ V = none)) ∧ But R w w'
def InOut (n₀ R:Nat) (v:Value) (ts:List Bt) (d:Nat) (w:World) (a:Nat) (e:Ending) (w':World):Prop:=
 ∃ (l:List Sel) (y:Value) (b:Nat) (bad:Bool),e = .returned y ∧ SelsAt d (fun b => w.heap.size ≤ b) w' y l ∧ Pk n₀ w' R v ts b bad (8 - (d:Int)) ∧ a ≤ b ∧ ((bad = false ∧ (∀ k,listedV (innerV d) k (ts.drop a) = some (.mk k 0 0 l,ts.drop b)) ∧ b ≤ ts.length) ∨ (bad = true ∧ ∀ k,listedV (innerV d) k (ts.drop a) = none)) ∧ But R w w'
def InOK (n₀ d:Nat):Prop:=∀ (R:Nat) (v:Value) (ts:List Bt) (a:Nat) (w:World),Pk n₀ w R v ts a false (8 - (d:Int)) → a ≤ ts.length → Sl.Good ts → Calls Tryz.prog 160 #[.pointer (some ⟨R,0,none⟩)] w (InOut n₀ R v ts d w a)
structure PsSt (n₀ R:Nat) (v:Value) (ts:List Bt) (deep:Int) (w:World) (X:Nat) (T:Bt) (b:Nat) (bad:Bool) (W:World):Prop where
 z:Blk W w.heap.size 40 [.int .i64 0,.int .i64 0,.int .i64 0,.slice none 0 0]
 t:Blk W X 122 [.int .i64 T.kind,.string T.text,.int .i64 T.n,.bool T.whole,.int .i64 T.c]
 p:Pk n₀ W R v ts b bad deep
 but:But R w W
 hX:w.heap.size < X
 hR:R < w.heap.size
section
variable {n₀ R:Nat} {v:Value} {ts:List Bt} {deep:Int} {w:World} {X:Nat} {T:Bt} {b:Nat} {bad:Bool} {W W':World}
theorem PsSt.below (h:PsSt n₀ R v ts deep w X T b bad W) (hb:Below W.heap.size W W'):PsSt n₀ R v ts deep w X T b bad W':=⟨h.z.below hb h.z.lt,h.t.below hb h.t.lt,h.p.below hb,h.but.trans (But.of_below hb),h.hX,h.hR⟩
theorem PsSt.go (h:PsSt n₀ R v ts deep w X T b bad W) {b':Nat} {bad':Bool} (hP:Pk n₀ W' R v ts b' bad' deep) (hb:But R W W'):PsSt n₀ R v ts deep w X T b' bad' W':=by
 have:=h.hX
 have:=h.hR
 exact ⟨hb.blk h.z (by omega),hb.blk h.t (by omega),hP,h.but.trans hb,h.hX,h.hR⟩
theorem PsSt.at (h:PsSt n₀ R v ts deep w X T b bad W) {b':Nat} (hb:b' ≤ ts.length + 10):PsSt n₀ R v ts deep w X T b' bad (W.setCell ⟨R,1,none⟩ (.int .i64 b')):=h.go (h.p.set hb) (But.set R W 1 _)
theorem PsSt.spoil (h:PsSt n₀ R v ts deep w X T b bad W):PsSt n₀ R v ts deep w X T b true (W.setCell ⟨R,2,none⟩ (.bool true)):=h.go (h.p.spoil true) (But.set R W 2 _)
end
theorem PsSt.out {n₀ R:Nat} {v:Value} {ts:List Bt} {d:Nat} {w:World} {X:Nat} {T:Bt} {b:Nat} {bad:Bool} {W:World} (h:PsSt n₀ R v ts (8 - (d:Int)) w X T b bad W) {a:Nat} {V:Option (Ps × List Bt)} (hab:a + 1 ≤ b) (x:Ps) (y:Value) (hy:SelsAt d (fun b => w.heap.size < b) W y x.list) (hv:(bad = false ∧ V = some (x,ts.drop b) ∧ b ≤ ts.length) ∨ (bad = true ∧ V = none)) :
  (loadVar 40 ⟨w.heap.size,0,none⟩).run Tryz.prog (set4 W w.heap.size (.int .i64 x.kind) (.int .i64 x.a) (.int .i64 x.b) y) = .ok (.agg #[.int .i64 x.kind,.int .i64 x.a,.int .i64 x.b,y]) (set4 W w.heap.size (.int .i64 x.kind) (.int .i64 x.a) (.int .i64 x.b) y) ∧
  PsOut n₀ R v ts d w a V (.returned (.agg #[.int .i64 x.kind,.int .i64 x.a,.int .i64 x.b,y])) (set4 W w.heap.size (.int .i64 x.kind) (.int .i64 x.a) (.int .i64 x.b) y):=by
 have h1:=h.hR
 have h2:=h.p.low
 refine ⟨load_ps (blk_set4 h.z _ _ _ _),x,y,b,bad,rfl,?_,?_,hab,hv,?_⟩
 ·refine hy.fr d ⟨(grown_set4 W _ _ _ _ _).size,fun c hc hl => ⟨(grown_set4 W w.heap.size _ _ _ _).block c hl.lt (fun e => ?_),by omega⟩⟩
  cases e
  omega
 ·exact h.p.other4 (by omega) (by omega) _ _ _ _
 ·exact But.fresh4 h.but (Nat.le_refl _) _ _ _ _
end Go.Proofs.YtnemagmakgiheaaGreat.Sr

/- The document's own reader of selectors: a pseudo-class (pseudo), where lists within it (inner) are read. -/
set_option maxRecDepth 100000
namespace Go.Proofs.YtnemagmakgiheaaGreat.Sr
open Go.Proofs.YtnemagmakgiheaaGreat.Tre
open Go Go.RowKit Sl
theorem str_ne {z:ByteArray} {l:List UInt8} (h:¬ z.data.toList = l):(z.toList == l) = false:=by
 rw [ByteArray.toList_eq,beq_eq_false_iff_ne]
 exact h
theorem PsSt.fresh {n₀ R:Nat} {v:Value} {ts:List Bt} {deep:Int} {w:World} {X:Nat} {T:Bt} {b:Nat} {bad:Bool} {W:World} (h:PsSt n₀ R v ts deep w X T b bad W) {C i:Nat} (hC:w.heap.size < C) (hX:X ≠ C) (u:Value):PsSt n₀ R v ts deep w X T b bad (W.setCell ⟨C,i,none⟩ u):=by
 have:=h.hR
 have:=h.p.low
 exact ⟨Blk.other h.z (by omega) u,Blk.other h.t hX u,h.p.other (by omega) (by omega) u,Kept.fresh h.but (by omega) u,h.hX,h.hR⟩
set_option maxHeartbeats 2000000 in
theorem pseudo_any (n₀ R:Nat) (v:Value) (ts:List Bt) (a d:Nat) (w:World) (hP:Pk n₀ w R v ts a false (8 - (d:Int))) (ha:a ≤ ts.length) (hG:Sl.Good ts) (hI:InOK n₀ d) :
  Calls Tryz.prog 140 #[.pointer (some ⟨R,0,none⟩)] w (PsOut n₀ R v ts d w a (pseudoV (innerV d) (ts.drop a))):=by
 have hlm:=hP.most
 have hR:=hP.lt
 have b0:Below w.heap.size w (w.alloc (.cells #[.int .i64 0,.int .i64 0,.int .i64 0,.slice none 0 0] 40)):=(Below.refl _ w).alloc (Nat.le_refl _) _
 have kZ:Blk (w.alloc (.cells #[.int .i64 0,.int .i64 0,.int .i64 0,.slice none 0 0] 40)) w.heap.size 40 [.int .i64 0,.int .i64 0,.int .i64 0,.slice none 0 0]:=Blk.new w 40 _
 have hP1:=hP.below b0
 have hB1:But R w _:=But.of_below b0
 have H0:=ps_at (innerV d) ts a
 obtain ⟨V,hV⟩:∃ V,pseudoV (innerV d) (ts.drop a) = V:=⟨_,rfl⟩
 rw [hV] at H0 ⊢
 clear hV
 have HG:Hid (Sl.Good ts):=hG
 have HI:Hid (InOK n₀ d):=hI
 have HV:Hid (V = _):=H0
 have hTm:=Sl.Good.at hG a
 have HR:Hid ((at' ts a).kind ≠ 0 → a < ts.length):=fun h => at_lt h
 clear hG hI H0
 go_enter Tryz.func140,Tryz.ntmps140
 go_upto_region 1 with fail
 generalize w.alloc (.cells #[.int .i64 0,.int .i64 0,.int .i64 0,.slice none 0 0] 40) = W1 at *
 have h1:=see_any n₀ R v ts a false (8 - (d:Int)) 0 W1 hP1 (by omega)
 rw [Nat.add_zero] at h1
 generalize at' ts a = T at *
 unfold tkV at h1
 go_wp2_with fail
 refine h1.mono ?_
 clear h1
 rintro e w2 ⟨rfl,b2⟩
 have bT:Below w2.heap.size w2 (w2.alloc (.cells #[.int .i64 T.kind,.string T.text,.int .i64 T.n,.bool T.whole,.int .i64 T.c] 122)):=(Below.refl _ _).alloc (Nat.le_refl _) _
 have kT:Blk (w2.alloc (.cells #[.int .i64 T.kind,.string T.text,.int .i64 T.n,.bool T.whole,.int .i64 T.c] 122)) w2.heap.size 122 [.int .i64 T.kind,.string T.text,.int .i64 T.n,.bool T.whole,.int .i64 T.c]:=Blk.new w2 122 _
 have b23:=below_next b2 bT
 have S3:PsSt n₀ R v ts (8 - (d:Int)) w w2.heap.size T a false _:=⟨kZ.below b23 kZ.lt,kT,hP1.below b23,hB1.trans (But.of_below b23),Nat.lt_of_lt_of_le kZ.lt b2.size,hR⟩
 clear b2 bT kT b23 kZ hP1 hB1 hP b0
 go_upto_region 2 with fail
 generalize w2.alloc (.cells #[.int .i64 T.kind,.string T.text,.int .i64 T.n,.bool T.whole,.int .i64 T.c] 122) = W3 at *
 generalize w2.heap.size = X at *
 obtain ⟨⟨p0,p1,p2,p3⟩,q0,q1,q2,q3⟩:=blk4 S3.p.blk
 have hw1:IntKind.i64.wrap ((a:Int) + 1) = (a:Int) + 1:=by rw [IntKind.wrap_i64];omega
 have S4:=S3.at (b':=a + 1) (by omega)
 push_cast at S4
 go_upto_region 3 with fail
 generalize W3.setCell ⟨R,1,none⟩ (.int .i64 ((a:Int) + 1)) = W4 at *
 clear p0 p1 p2 p3 q0 q1 q2 q3 S3 hw1
 obtain ⟨⟨t0,t1,t2,t3,t4⟩,_⟩:=blk5 S4.t
 have hlow:=Lw.refLower_any T.text W4 (Nat.le_trans hTm.1 (by decide))
 obtain ⟨low,hlw⟩:∃ low,Lw.low T.text.data.toList = low:=⟨_,rfl⟩
 have HVl:Hid (V = if T.kind = 1 then (plainV low).map fun k => (.mk k 0 0 [],ts.drop (a + 1))
  else if T.kind = 20 then
   if low = nthT then (nthV (ts.drop (a + 1))).map fun x => (.mk 6 x.1 x.2.1 [],x.2.2)
   else if low = notT then listedV (innerV d) 7 (ts.drop (a + 1))
   else if low = isT then listedV (innerV d) 8 (ts.drop (a + 1))
   else none
  else none):=by
  rw [← hlw]
  exact HV
 rw [hlw] at hlow
 clear HV hlw
 go_wp2_with fail
 refine hlow.mono ?_
 clear hlow t0 t1 t2 t3 t4
 rintro e w5 ⟨rfl,b5⟩
 have S5:=S4.below b5
 clear S4 b5
 obtain ⟨⟨t0,t1,t2,t3,t4⟩,_⟩:=blk5 S5.t
 have nilS:∀ W,SelsAt d (fun b => w.heap.size < b) W (.slice none 0 0) []:=fun W => SelsAt.nil d _ W
 have HN:Hid (∀ W,SelsAt d (fun b => w.heap.size < b) W (.slice none 0 0) []):=nilS
 clear nilS
 by_cases g1:T.kind = 1
 ·have HV1:Hid (V = (plainV low).map fun k => (.mk k 0 0 [],ts.drop (a + 1))):=(show V = _ from HVl).trans (if_pos g1)
  have hla:a < ts.length:=(show _ → _ from HR) (by rw [g1];decide)
  rw [g1] at t0
  have bL:Below w5.heap.size w5 (w5.alloc (.cells (strCells wordsP).toArray 9)):=(Below.refl _ _).alloc (Nat.le_refl _) _
  have hSt:=StrsIn.new w5 wordsP 9
  have S6:=S5.below bL
  have hwd:=refWord_any ⟨low.toArray⟩ w5.heap.size 5 wordsP _ hSt (by decide)
  obtain ⟨n,ok,hno,HV2⟩:∃ (n:Int) (ok:Bool),idxV wordsP low = (n,ok) ∧ Hid ((ok = true ∧ 0 ≤ n ∧ n < 5 ∧ V = some (.mk (1 + n) 0 0 [],ts.drop (a + 1))) ∨ (ok = false ∧ V = none)):=by
   have h:V = _:=HV1
   rw [plain_idx] at h
   unfold idxV
   cases hU:idx wordsP low with
   | none =>
    rw [hU] at h
    exact ⟨0,false,rfl,.inr ⟨rfl,h⟩⟩
   | some n =>
    have h5:=idx_lt hU
    rw [hU] at h
    exact ⟨n,true,rfl,.inl ⟨rfl,by omega,by simp [wordsP] at h5;omega,h⟩⟩
  rw [show (⟨low.toArray⟩:ByteArray).data.toList = low from rfl,hno] at hwd
  clear HVl g1 hSt bL HI HG hno HV1
  change Calls _ _ #[_,.slice (some ⟨w5.heap.size,0,none⟩) 5 5] _ _ at hwd
  unfold strCells wordsP rootT firstT lastT onlyT emptyT at hwd S6
  simp only [List.map_cons,List.map_nil] at hwd S6
  generalize (⟨low.toArray⟩:ByteArray) = zl at *
  go_upto_region 5 with fail
  go_wp2_with fail
  refine hwd.mono ?_
  clear hwd t0 t1 t2 t3 t4 S5
  rintro e w6 ⟨rfl,rfl⟩
  obtain ⟨⟨z0,z1,z2,z3⟩,y0,y1,y2,y3⟩:=blk4 S6.z
  obtain ⟨⟨p0,p1,p2,p3⟩,q0,q1,q2,q3⟩:=blk4 S6.p.blk
  cases ok with
  | true =>
   have HV3:Hid (0 ≤ n ∧ n < 5 ∧ V = some (.mk (1 + n) 0 0 [],ts.drop (a + 1))):=by
    rcases (show _ ∨ _ from HV2) with h | h
    ·exact h.2
    ·exact absurd h.1 (by decide)
   have hw1:IntKind.i64.wrap (1 + n) = 1 + n:=by
    obtain ⟨h1,h2,_⟩:=(show _ ∧ _ ∧ _ from HV3)
    rw [IntKind.wrap_i64];omega
   obtain ⟨hL,hO⟩:=S6.out (a:=a) (Nat.le_refl _) (.mk (1 + n) 0 0 []) (.slice none 0 0) ((show ∀ W,_ from HN) _) (.inl ⟨rfl,(show _ ∧ _ ∧ _ from HV3).2.2,hla⟩)
   clear HV2
   go_wp2
   exact bodyPost_ret (results_struct rfl _ _ w.heap.size _ rfl hL) rfl hO
  | false =>
   have HV3:Hid (V = none):=by
    rcases (show _ ∨ _ from HV2) with h | h
    ·exact absurd h.1 (by decide)
    ·exact h.2
   have S7:=S6.spoil
   clear HV2
   go_upto_region 9 with fail
   generalize World.setCell _ ⟨R,2,none⟩ (.bool true) = W7 at *
   clear p0 p1 p2 p3 q0 q1 q2 q3 z0 z1 z2 z3 y0 y1 y2 y3 S6
   obtain ⟨⟨z0,z1,z2,z3⟩,y0,y1,y2,y3⟩:=blk4 S7.z
   obtain ⟨hL,hO⟩:=S7.out (a:=a) (Nat.le_refl _) (.mk 0 0 0 []) (.slice none 0 0) ((show ∀ W,_ from HN) _) (.inr ⟨rfl,HV3⟩)
   go_wp2
   exact bodyPost_ret (results_struct rfl _ _ w.heap.size _ rfl hL) rfl hO
 ·have g1':(T.kind == 1) = false:=by simpa using g1
  have HV1:Hid (V = if T.kind = 20 then
   if low = nthT then (nthV (ts.drop (a + 1))).map fun x => (.mk 6 x.1 x.2.1 [],x.2.2)
   else if low = notT then listedV (innerV d) 7 (ts.drop (a + 1))
   else if low = isT then listedV (innerV d) 8 (ts.drop (a + 1))
   else none
  else none):=(show V = _ from HVl).trans (if_neg g1)
  clear HVl g1
  by_cases g20:T.kind = 20
  case neg =>
   have g20':(T.kind != 20) = true:=by simpa using g20
   have HV2:Hid (V = none):=(show V = _ from HV1).trans (if_neg g20)
   obtain ⟨⟨p0,p1,p2,p3⟩,q0,q1,q2,q3⟩:=blk4 S5.p.blk
   have S6:=S5.spoil
   clear HV1 g20 HI HG
   go_upto_region 12 with fail
   generalize World.setCell _ ⟨R,2,none⟩ (.bool true) = W7 at *
   clear p0 p1 p2 p3 q0 q1 q2 q3 S5
   obtain ⟨⟨z0,z1,z2,z3⟩,y0,y1,y2,y3⟩:=blk4 S6.z
   obtain ⟨hL,hO⟩:=S6.out (a:=a) (Nat.le_refl _) (.mk 0 0 0 []) (.slice none 0 0) ((show ∀ W,_ from HN) _) (.inr ⟨rfl,HV2⟩)
   go_wp2
   exact bodyPost_ret (results_struct rfl _ _ w.heap.size _ rfl hL) rfl hO
  have HV2:=(show V = _ from HV1).trans (if_pos g20)
  have hla:a < ts.length:=(show _ → _ from HR) (by rw [g20];decide)
  rw [g20] at t0
  replace HV2:Hid (V = _):=HV2
  have g20':(T.kind != 20) = false:=by simpa using g20
  clear HV1 g20 g1'
  go_upto_region 13 with fail
  clear t0 t1 t2 t3 t4
  by_cases gn:low = nthT
  ·subst gn
   have HV3:Hid (V = (nthV (ts.drop (a + 1))).map fun x => (.mk 6 x.1 x.2.1 [],x.2.2)):=(show V = _ from HV2).trans (if_pos rfl)
   have hn:=nth_any n₀ R v ts (a + 1) (8 - (d:Int)) w5 S5.p hla (fun t ht => ⟨Nat.le_trans ((show Sl.Good ts from HG) t ht).1 (by decide),((show Sl.Good ts from HG) t ht).2⟩)
   unfold nthT
   clear HV2 HI HG
   go_wp2_with fail
   refine hn.mono ?_
   clear hn
   rintro e w6 ⟨hcs,hb6⟩
   obtain ⟨A,B,b,bad,rfl,hab,hPb,hres⟩:∃ (A B:Int) (b:Nat) (bad:Bool),e = .returned (.agg #[.int .i64 6,.int .i64 A,.int .i64 B,.slice none 0 0]) ∧ a + 1 ≤ b ∧ Pk n₀ w6 R v ts b bad (8 - (d:Int)) ∧ Hid ((bad = false ∧ V = some (.mk 6 A B [],ts.drop b) ∧ b ≤ ts.length) ∨ (bad = true ∧ V = none)):=by
    rcases hcs with ⟨A,B,b,h1,h2,h3,rfl,h5⟩ | ⟨h1,⟨A,B,rfl⟩,b,h2,h3,h4⟩
    ·exact ⟨A,B,b,false,rfl,h2,h5,.inl ⟨rfl,by rw [show V = _ from HV3,h1];rfl,h3⟩⟩
    ·exact ⟨A,B,b,true,rfl,h2,h4,.inr ⟨rfl,by rw [show V = _ from HV3,h1];rfl⟩⟩
   have S6:=S5.go hPb hb6
   clear hcs S5 hPb hb6 HV3
   obtain ⟨⟨z0,z1,z2,z3⟩,y0,y1,y2,y3⟩:=blk4 S6.z
   obtain ⟨hL,hO⟩:=S6.out (a:=a) hab (.mk 6 A B []) (.slice none 0 0) ((show ∀ W,_ from HN) _) hres
   go_wp2
   exact bodyPost_ret (results_struct rfl _ _ w.heap.size _ rfl hL) rfl hO
  have m1:((⟨low.toArray⟩:ByteArray).toList == [110,116,104,45,99,104,105,108,100]) = false:=str_ne gn
  have HV3:=(show V = _ from HV2).trans (if_neg gn)
  replace HV3:Hid (V = _):=HV3
  clear HV2
  by_cases g7:low = notT
  ·subst g7
   have HV4:Hid (V = listedV (innerV d) 7 (ts.drop (a + 1))):=(show V = _ from HV3).trans (if_pos rfl)
   clear HV3 gn
   have bX:Below w5.heap.size w5 (w5.alloc (.cells #[.int .i64 7,.int .i64 0,.int .i64 0,.slice none 0 0] 40)):=(Below.refl _ _).alloc (Nat.le_refl _) _
   have kX:Blk (w5.alloc (.cells #[.int .i64 7,.int .i64 0,.int .i64 0,.slice none 0 0] 40)) w5.heap.size 40 [.int .i64 7,.int .i64 0,.int .i64 0,.slice none 0 0]:=Blk.new w5 40 _
   have S6:=S5.below bX
   have hXw:w.heap.size < w5.heap.size:=by have:=S5.z.lt;omega
   have hXX:X < w5.heap.size:=S5.t.lt
   unfold notT at m1 ⊢
   go_upto_region 21 with fail
   generalize w5.alloc (.cells #[.int .i64 7,.int .i64 0,.int .i64 0,.slice none 0 0] 40) = W6 at *
   have hs6:w5.heap.size < W6.heap.size:=kX.lt
   clear bX S5
   generalize w5.heap.size = XB at *
   have hin:=(show InOK n₀ d from HI) R v ts (a + 1) W6 S6.p hla HG
   clear HI HG
   go_wp2_with fail
   refine hin.mono ?_
   clear hin
   rintro e w7 ⟨l,y,b,bad,rfl,hsl,hPb,hab,hres,hb7⟩
   have S7:=S6.go hPb hb7
   have kX7:=hb7.blk kX (by omega)
   have HV5:Hid ((bad = false ∧ V = some (.mk 7 0 0 l,ts.drop b) ∧ b ≤ ts.length) ∨ (bad = true ∧ V = none)):=by
    rcases hres with ⟨h1,h2,h3⟩ | ⟨h1,h2⟩
    ·exact .inl ⟨h1,by rw [show V = _ from HV4,h2],h3⟩
    ·exact .inr ⟨h1,by rw [show V = _ from HV4,h2]⟩
   obtain ⟨py,my,cy,rfl⟩:∃ p m c,y = .slice p m c:=by
    cases d with
    | zero => exact ⟨_,_,_,hsl.2⟩
    | succ d => obtain ⟨p,c,h,_⟩:=FinRow.form hsl;exact ⟨_,_,_,h⟩
   have S8:=S7.fresh (C:=XB) (i:=3) hXw (by omega) (.slice py my cy)
   have kX8:=blk_put kX7 3 (.slice py my cy)
   have hsl8:SelsAt d (fun b => w.heap.size < b) (w7.setCell ⟨XB,3,none⟩ (.slice py my cy)) (.slice py my cy) l:=hsl.fr d ⟨(grown_set w7 XB 3 _).size,fun c hc hl => ⟨(grown_set w7 XB 3 _).block c hl.lt (fun e => by cases e;omega),by omega⟩⟩
   obtain ⟨⟨x0,x1,x2,x3⟩,e0,e1,e2,e3⟩:=blk4 kX7
   clear hres HV4 S6 S7 hPb hb7 hsl kX kX7 hs6
   go_upto_region 22 with fail
   generalize w7.setCell ⟨XB,3,none⟩ (.slice py my cy) = W8 at *
   clear x0 x1 x2 x3 e0 e1 e2 e3
   obtain ⟨⟨x0,x1,x2,x3⟩,e0,e1,e2,e3⟩:=blk4 (show Blk W8 XB 40 [.int .i64 7,.int .i64 0,.int .i64 0,.slice py my cy] from kX8)
   obtain ⟨⟨z0,z1,z2,z3⟩,y0,y1,y2,y3⟩:=blk4 S8.z
   obtain ⟨hL,hO⟩:=S8.out (a:=a) (by omega) (.mk 7 0 0 l) (.slice py my cy) hsl8 HV5
   go_wp2
   exact bodyPost_ret (results_struct rfl _ _ w.heap.size _ rfl hL) rfl hO
  have m2:((⟨low.toArray⟩:ByteArray).toList == [110,111,116]) = false:=str_ne g7
  replace HV3:Hid (V = _):=(show V = _ from HV3).trans (if_neg g7)
  by_cases g8:low = isT
  ·subst g8
   have HV4:Hid (V = listedV (innerV d) 8 (ts.drop (a + 1))):=(show V = _ from HV3).trans (if_pos rfl)
   clear HV3 gn g7
   have bX:Below w5.heap.size w5 (w5.alloc (.cells #[.int .i64 8,.int .i64 0,.int .i64 0,.slice none 0 0] 40)):=(Below.refl _ _).alloc (Nat.le_refl _) _
   have kX:Blk (w5.alloc (.cells #[.int .i64 8,.int .i64 0,.int .i64 0,.slice none 0 0] 40)) w5.heap.size 40 [.int .i64 8,.int .i64 0,.int .i64 0,.slice none 0 0]:=Blk.new w5 40 _
   have S6:=S5.below bX
   have hXw:w.heap.size < w5.heap.size:=by have:=S5.z.lt;omega
   have hXX:X < w5.heap.size:=S5.t.lt
   unfold isT at m1 m2 ⊢
   go_upto_region 21 with fail
   generalize w5.alloc (.cells #[.int .i64 8,.int .i64 0,.int .i64 0,.slice none 0 0] 40) = W6 at *
   have hs6:w5.heap.size < W6.heap.size:=kX.lt
   clear bX S5
   generalize w5.heap.size = XB at *
   have hin:=(show InOK n₀ d from HI) R v ts (a + 1) W6 S6.p hla HG
   clear HI HG
   go_wp2_with fail
   refine hin.mono ?_
   clear hin
   rintro e w7 ⟨l,y,b,bad,rfl,hsl,hPb,hab,hres,hb7⟩
   have S7:=S6.go hPb hb7
   have kX7:=hb7.blk kX (by omega)
   have HV5:Hid ((bad = false ∧ V = some (.mk 8 0 0 l,ts.drop b) ∧ b ≤ ts.length) ∨ (bad = true ∧ V = none)):=by
    rcases hres with ⟨h1,h2,h3⟩ | ⟨h1,h2⟩
    ·exact .inl ⟨h1,by rw [show V = _ from HV4,h2],h3⟩
    ·exact .inr ⟨h1,by rw [show V = _ from HV4,h2]⟩
   obtain ⟨py,my,cy,rfl⟩:∃ p m c,y = .slice p m c:=by
    cases d with
    | zero => exact ⟨_,_,_,hsl.2⟩
    | succ d => obtain ⟨p,c,h,_⟩:=FinRow.form hsl;exact ⟨_,_,_,h⟩
   have S8:=S7.fresh (C:=XB) (i:=3) hXw (by omega) (.slice py my cy)
   have kX8:=blk_put kX7 3 (.slice py my cy)
   have hsl8:SelsAt d (fun b => w.heap.size < b) (w7.setCell ⟨XB,3,none⟩ (.slice py my cy)) (.slice py my cy) l:=hsl.fr d ⟨(grown_set w7 XB 3 _).size,fun c hc hl => ⟨(grown_set w7 XB 3 _).block c hl.lt (fun e => by cases e;omega),by omega⟩⟩
   obtain ⟨⟨x0,x1,x2,x3⟩,e0,e1,e2,e3⟩:=blk4 kX7
   clear hres HV4 S6 S7 hPb hb7 hsl kX kX7 hs6
   go_upto_region 22 with fail
   generalize w7.setCell ⟨XB,3,none⟩ (.slice py my cy) = W8 at *
   clear x0 x1 x2 x3 e0 e1 e2 e3
   obtain ⟨⟨x0,x1,x2,x3⟩,e0,e1,e2,e3⟩:=blk4 (show Blk W8 XB 40 [.int .i64 8,.int .i64 0,.int .i64 0,.slice py my cy] from kX8)
   obtain ⟨⟨z0,z1,z2,z3⟩,y0,y1,y2,y3⟩:=blk4 S8.z
   obtain ⟨hL,hO⟩:=S8.out (a:=a) (by omega) (.mk 8 0 0 l) (.slice py my cy) hsl8 HV5
   go_wp2
   exact bodyPost_ret (results_struct rfl _ _ w.heap.size _ rfl hL) rfl hO
  have m3:((⟨low.toArray⟩:ByteArray).toList == [105,115]) = false:=str_ne g8
  replace HV3:Hid (V = none):=(show V = _ from HV3).trans (if_neg g8)
  generalize (⟨low.toArray⟩:ByteArray) = zl at *
  obtain ⟨⟨p0,p1,p2,p3⟩,q0,q1,q2,q3⟩:=blk4 S5.p.blk
  have S6:=S5.spoil
  clear gn g7 g8 HI HG
  go_upto_region 24 with fail
  generalize World.setCell _ ⟨R,2,none⟩ (.bool true) = W7 at *
  clear p0 p1 p2 p3 q0 q1 q2 q3 S5
  obtain ⟨⟨z0,z1,z2,z3⟩,y0,y1,y2,y3⟩:=blk4 S6.z
  obtain ⟨hL,hO⟩:=S6.out (a:=a) (Nat.le_refl _) (.mk 0 0 0 []) (.slice none 0 0) ((show ∀ W,_ from HN) _) (.inr ⟨rfl,HV3⟩)
  go_wp2
  exact bodyPost_ret (results_struct rfl _ _ w.heap.size _ rfl hL) rfl hO
theorem list_bad (n₀ R:Nat) (v:Value) (ts:List Bt) (a:Nat) (deep:Int) (w:World) (hP:Pk n₀ w R v ts a true deep) :
  Calls Tryz.prog 59 #[.pointer (some ⟨R,0,none⟩)] w fun e w' => e = .returned (.slice none 0 0) ∧ w' = w:=by
 obtain ⟨⟨p0,p1,p2,p3⟩,q0,q1,q2,q3⟩:=blk4 hP.blk
 go_enter Tryz.func59,Tryz.ntmps59
 go_wp2
 go_loopw [] (fun wr => w = wr) (fun _ => 0)
 case atStart => rfl
 case round =>
  subst hrel
  go_wp2
  go_ret
  exact ⟨rfl,rfl⟩
def ListOut (n₀ R:Nat) (v:Value) (ts:List Bt) (d:Nat) (w:World) (a:Nat) (e:Ending) (w':World):Prop:=
 ∃ (l:List Sel) (y:Value) (b:Nat) (bad:Bool),e = .returned y ∧ SelsAt (d + 1) (fun b => w.heap.size ≤ b) w' y l ∧ Pk n₀ w' R v ts b bad (8 - (d:Int)) ∧ a ≤ b ∧ ((bad = false ∧ listX d (ts.drop a) = some (l,ts.drop b) ∧ b ≤ ts.length) ∨ (bad = true ∧ listX d (ts.drop a) = none)) ∧ But R w w'
def ListOK (n₀ d:Nat):Prop:=∀ (R:Nat) (v:Value) (ts:List Bt) (a:Nat) (w:World),Pk n₀ w R v ts a false (8 - (d:Int)) → a ≤ ts.length → Sl.Good ts → Calls Tryz.prog 59 #[.pointer (some ⟨R,0,none⟩)] w (ListOut n₀ R v ts d w a)
theorem Pk.deep {n₀:Nat} {W:World} {R:Nat} {v:Value} {ts:List Bt} {a:Nat} {bad:Bool} {deep:Int} (h:Pk n₀ W R v ts a bad deep) (d:Int):Pk n₀ (W.setCell ⟨R,3,none⟩ (.int .i64 d)) R v ts a bad d:=
 ⟨blk_put h.blk 3 _,h.toks.below ((Below.refl n₀ W).setCell (p:=⟨R,3,none⟩) h.low _),h.low,h.least,h.most⟩
set_option maxHeartbeats 1000000 in
theorem inner_any (n₀ d:Nat) (hd:d ≤ 8) (hL:∀ d',d = d' + 1 → ListOK n₀ d'):InOK n₀ d:=by
 intro R v ts a w hP ha hG
 obtain ⟨⟨p0,p1,p2,p3⟩,q0,q1,q2,q3⟩:=blk4 hP.blk
 have hw1:IntKind.i64.wrap (8 - (d:Int) + 1) = 9 - (d:Int):=by rw [IntKind.wrap_i64];omega
 have hw2:IntKind.i64.wrap (9 - (d:Int) - 1) = 8 - (d:Int):=by rw [IntKind.wrap_i64];omega
 have hP1:=hP.deep (9 - (d:Int))
 have hB1:=But.set R w 3 (.int .i64 (9 - (d:Int)))
 go_enter Tryz.func160,Tryz.ntmps160
 go_upto_region 2 with fail
 generalize w.setCell ⟨R,3,none⟩ (.int .i64 (9 - (d:Int))) = W1 at *
 clear p0 p1 p2 p3 q0 q1 q2 q3
 obtain ⟨⟨p0,p1,p2,p3⟩,q0,q1,q2,q3⟩:=blk4 hP1.blk
 cases d with
 | zero =>
  have hP2:=hP1.spoil true
  have hB2:=hB1.trans (But.set R W1 2 (.bool true))
  go_upto_region 4 with fail
  generalize W1.setCell ⟨R,2,none⟩ (.bool true) = W2 at *
  clear p0 p1 p2 p3 q0 q1 q2 q3
  have h2:=list_bad n₀ R v ts a _ W2 hP2
  go_wp2_with fail
  refine h2.mono ?_
  clear h2
  rintro e w3 ⟨rfl,rfl⟩
  obtain ⟨⟨p0,p1,p2,p3⟩,q0,q1,q2,q3⟩:=blk4 hP2.blk
  have hP3:=hP2.deep (8 - ((0:Nat):Int))
  have hB3:=hB2.trans (But.set R w3 3 (.int .i64 (8 - ((0:Nat):Int))))
  clear hP1 hB1 hB2
  go_wp2
  go_ret
  exact ⟨[],_,a,true,rfl,SelsAt.nil _ _ _,hP3,Nat.le_refl _,.inr ⟨rfl,fun k => listed_0 k _⟩,hB3⟩
 | succ d =>
  have e9:9 - ((d + 1:Nat):Int) = 8 - (d:Int):=by omega
  have hgt:¬ (8:Int) < 8 - (d:Int):=by omega
  rw [e9] at hP1 p3 hw2
  rw [e9]
  have h2:=hL d rfl R v ts a W1 hP1 ha hG
  clear hL
  go_upto_region 4 with fail
  clear p0 p1 p2 p3 q0 q1 q2 q3
  go_wp2_with fail
  refine h2.mono ?_
  clear h2
  rintro e w3 ⟨l,y,b,bad,rfl,hsl,hPb,hab,hres,hb3⟩
  obtain ⟨⟨p0,p1,p2,p3⟩,q0,q1,q2,q3⟩:=blk4 hPb.blk
  have hP3:=hPb.deep (8 - ((d + 1:Nat):Int))
  have hB3:=(hB1.trans hb3).trans (But.set R w3 3 (.int .i64 (8 - ((d + 1:Nat):Int))))
  have hR:=hP.lt
  have hsz:=hB1.size
  have hsl3:SelsAt (d + 1) (fun b => w.heap.size ≤ b) (w3.setCell ⟨R,3,none⟩ (.int .i64 (8 - ((d + 1:Nat):Int)))) y l:=hsl.fr (d + 1) ⟨(grown_set w3 R 3 _).size,fun c hc hl => ⟨(grown_set w3 R 3 _).block c hl.lt (fun e => by cases e;omega),by omega⟩⟩
  have HF:Hid (InOut n₀ R v ts (d + 1) w a (.returned y) (w3.setCell ⟨R,3,none⟩ (.int .i64 (8 - ((d + 1:Nat):Int))))):=by
   refine ⟨l,y,b,bad,rfl,hsl3,hP3,hab,?_,hB3⟩
   rcases hres with ⟨h1,h2,h3⟩ | ⟨h1,h2⟩
   ·exact .inl ⟨h1,fun k => by rw [listed_x (by omega),h2];rfl,h3⟩
   ·exact .inr ⟨h1,fun k => by rw [listed_x (by omega),h2];rfl⟩
  clear hsl3 hP3 hB3 hres hsl hb3 hB1 hP1 hP
  push_cast at HF hw2
  go_wp2
  go_ret
  exact HF
end Go.Proofs.YtnemagmakgiheaaGreat.Sr

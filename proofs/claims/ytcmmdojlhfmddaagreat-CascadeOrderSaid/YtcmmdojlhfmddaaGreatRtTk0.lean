/- Texts of code points; rows of bytes that grow. -/
import Derived.Test.YtcmmdojlhfmddaaGreatAppSrc
import Derived.Test.YtcmmdojlhfmddaaGreatTkA
import Derived.Test.YtcmmdojlhfmddaaGreatRtEsc
import Derived.Test.YtcmmdojlhfmddaaGreatRsMem
import Derived.Test.YtcmmdojlhfmddaaGreatNmNum
import Derived.Laws.IdiomStrings
import Derived.Laws.BytesArg
import Derived.Maps.Range
import Derived.Deep.CutBlock
import Derived.Deep.DeepCutAuto
namespace Go.Proofs.YtcmmdojlhfmddaaGreat
open Go Go.RowKit Go.Shelf
def txtOf (t:List Int):ByteArray:=⟨(encs t).toArray⟩
theorem str_of_bytes {v:Value} {W:World} {n₀:Nat} {l:List UInt8} (h:BytesAt n₀ W v l):(convert 46 9 v).run Tryz.prog W = .ok (.string ⟨l.toArray⟩) W:=by
 rcases h with ⟨rfl,rfl | ⟨x,cap,rfl⟩⟩ | ⟨bk,off,cap,rfl,_,_,_,hc⟩
 ·exact run_convert_bytes_nil W 46 5 Tryz.underlying46 Tryz.underlying5 0 0 9 Tryz.underlying9
 ·exact run_convert_bytes_back W 46 9 5 x cap [] Tryz.underlying46 Tryz.underlying5 Tryz.underlying9 (fun j hj => absurd hj (Nat.not_lt_zero j))
 ·refine run_convert_bytes_back W 46 9 5 ⟨bk,off,none⟩ cap l Tryz.underlying46 Tryz.underlying5 Tryz.underlying9 (fun j hj => ?_)
  rw [addr_add]
  exact hc j _ (List.getElem?_eq_getElem hj)
theorem escAt_parts {l:List Int} (h:escAt l = true):∃ c r,l = c :: r ∧ r ≠ []:=by
 match l,h with
 | [],h => exact absurd h (by decide)
 | [c],h => exact absurd h (by simp [escAt,see])
 | c :: d :: r,_ => exact ⟨c,d :: r,rfl,by simp⟩
end Go.Proofs.YtcmmdojlhfmddaaGreat

/- The document's own reader: names. -/
set_option maxRecDepth 100000
namespace Go.Proofs.YtcmmdojlhfmddaaGreat.Ref
open Go Go.RowKit Go.Shelf
def Row (B:Nat) (W:World) (v:Value) (t:List Int):Prop:=W.ownsRow B 5 1 v (encs t).length (ubytes (encs t))
theorem Row.none (B:Nat) (W:World):Row B W (.slice Option.none 0 0) []:=World.ownsRow_nil _ _ _ _
theorem Row.far {B R:Nat} {X Y:World} {v:Value} {t:List Int} (h:Row B X v t) (hg:X.grownBy Y (some R)) (hR:R < B):Row B Y v t:=owns_far h hg hR
theorem Row.str {B:Nat} {X:World} {v:Value} {t:List Int} (h:Row B X v t):(convert 46 9 v).run Tryz.prog X = .ok (.string (txtOf t)) X:=str_of_bytes (BytesAt.of_owns h rfl)
theorem Row.put {B R n₀:Nat} {X:World} {v:Value} {t raw l:List Int} (h:Row B X v t) (c:Int) (hl:t.length ≤ 1000000) (hB:B ≤ X.heap.size) (hR:R < B) (hA:At n₀ X R raw l) :
  Calls Tryz.prog 55 #[v,.int .i64 c] X fun e w' => ∃ v',e = .returned v' ∧ Row B w' v' (t ++ [c]) ∧ At n₀ w' R raw l ∧ (∀ w0:World,w0.heap.size ≤ B → w0.grownBy X (some R) → w0.grownBy w' (some R)) ∧ X.heap.size ≤ w'.heap.size ∧ ∀ i,i < B → w'.heap[i]? = X.heap[i]?:=by
 have hlen:=encs_len t
 have hput:=put_any B v _ _ c X h (by omega) hB
 rw [← ubytes_enc1,← ubytes_append,ubytes_length,← List.length_append,← encs_snoc] at hput
 refine hput.mono ?_
 rintro e w' ⟨v',rfl,hr,o,hg⟩
 have far:∀ j,v.ownBlock = some j → R < j:=fun j e => by have:=(World.ownsRow.lt h j e).1;omega
 refine ⟨v',rfl,hr,(hA.kept (World.grownBy_alloc X o Option.none)).kept_far hg far,fun w0 e0 g => ?_,?_,fun i hi => ?_⟩
 ·exact (g.trans (World.grownBy_alloc X o _)).andThen hg (fun j e => .inl (Nat.le_trans e0 (World.ownsRow.lt h j e).1))
 ·have:=hg.size
  simp at this
  omega
 ·rw [hg.block i (by simp;omega) (fun e => by have:=(World.ownsRow.lt h i e.symm).1;omega)]
  exact Below.heap_alloc _ _ _ (by omega)
theorem escAt_two {l:List Int} (h:escAt l = true):∃ c d r,l = c :: d :: r:=by
 obtain ⟨c,r,rfl,hr⟩:=escAt_parts h
 obtain ⟨d,r,rfl⟩:=List.exists_cons_of_ne_nil hr
 exact ⟨c,d,r,rfl⟩
theorem name_stop' {l:List Int} (h1:namePt (see l 0) = false) (h2:escAt l = false):name l = ([],l):=by
 cases l with
 | nil => rfl
 | cons c r =>
  rw [see_zero] at h1
  rw [name_cons,h1,if_neg (by decide),h2,if_neg (by decide)]
set_option maxHeartbeats 2000000 in
theorem name_any {w:World} {n₀ R:Nat} {raw l:List Int} (h:At n₀ w R raw l) :
  Calls Tryz.prog 29 #[.pointer (some ⟨R,0,none⟩)] w fun e w' => e = .returned (.string (txtOf (name l).1)) ∧ At n₀ w' R raw (name l).2 ∧ w.grownBy w' (some R):=by
 have hR:=h.lt
 have hlen:=h.len
 obtain ⟨N,L,hNL⟩:∃ N L,name l = (N,L):=⟨_,_,rfl⟩
 have HN:Hid (name l = (N,L)):=hNL
 rw [hNL]
 clear hNL
 go_enter Tryz.func29,Tryz.ntmps29
 go_wp2
 go_loopw [3] (fun o wr => ∃ t l':List Int,Row w.heap.size wr o t ∧ At n₀ wr R raw l' ∧ (t ++ (name l').1,(name l').2) = (N,L) ∧ t.length + l'.length ≤ l.length ∧ w.grownBy wr (some R)) (fun _ wr => lenOf raw wr R)
 case atStart => exact ⟨[],l,Row.none _ _,h,HN,by simp,World.grownBy.refl _ _⟩
 case round =>
  obtain ⟨t,l',hrow,h',e',hl',g'⟩:=hrel
  have hm:=h'.lenOf
  have hw:=g'.size
  have s0:=see0 h'
  have np:=namePoint_any (see l' 0)
  have es:=esc0 h'
  have g0:wr.grownBy wr none:=World.grownBy.refl _ _
  clear h HN
  cases hp:namePt (see l' 0) with
  | true =>
   obtain ⟨c,r,rfl⟩:∃ c r,l' = c :: r:=List.exists_cons_of_ne_nil (fun e => by rw [e] at hp;exact absurd hp (by decide))
   rw [hp] at np
   rw [see_zero] at hp s0 np
   have HE:Hid (((t ++ [c]) ++ (name r).1,(name r).2) = (N,L)):=by
    show _ = _
    rw [← e',name_cons,if_pos hp]
    simp
   clear e' es hp
   simp only [List.length_cons] at hl'
   go_wp2_with fail
   refine (s0 _ g0).mono ?_
   rintro e W1 ⟨rfl,g1⟩
   go_wp2_with fail
   refine (np _).mono ?_
   rintro e W1 ⟨rfl,rfl⟩
   have hrow1:=hrow.far (grown_but g1 (some R)) hR
   have hput:=hrow1.put c (by omega) (Nat.le_trans hw g1.size) hR (h'.kept g1)
   go_wp2_with fail
   refine hput.mono ?_
   clear hput
   rintro e W2 ⟨v2,rfl,hrow2,k2,G2,_⟩
   have g2:=G2 w (Nat.le_refl _) (g'.trans (grown_but g1 _))
   obtain ⟨a,ca,fa,ha,hs⟩:=k2.step
   clear G2
   go_wp2
   obtain ⟨k3,g3⟩:=hs _ rfl
   have hm3:=k3.lenOf
   exact ⟨⟨t ++ [c],r,hrow2.far g3 hR,k3,HE,by simp;omega,g2.trans g3⟩,by rw [hm,hm3];simp⟩
  | false =>
   rw [hp] at np
   cases he:escAt l' with
   | true =>
    obtain ⟨c,d,r,rfl⟩:=escAt_two he
    have hsl:=escd_len c (d :: r)
    have HE:Hid (((t ++ [(escd (c :: d :: r)).1]) ++ (name (escd (c :: d :: r)).2).1,(name (escd (c :: d :: r)).2).2) = (N,L)):=by
     show _ = _
     rw [see_zero] at hp
     rw [← e',name_cons c (d :: r),hp,if_neg (by decide),he,if_pos rfl]
     simp
    rw [he] at es
    have ec:=escaped_any h'
    generalize (escd (c :: d :: r)).1 = y at *
    generalize (escd (c :: d :: r)).2 = r2 at *
    rw [see_zero] at s0 np
    clear e' hp he
    simp only [List.length_cons] at hl' hsl
    go_wp2_with fail
    refine (s0 _ g0).mono ?_
    rintro e W1 ⟨rfl,g1⟩
    go_wp2_with fail
    refine (np _).mono ?_
    rintro e W1 ⟨rfl,rfl⟩
    go_wp2_with fail
    refine (es _ g1).mono ?_
    rintro e W2 ⟨rfl,g2⟩
    go_wp2_with fail
    refine (ec _ g2).mono ?_
    rintro e W3 ⟨rfl,k3,g3⟩
    have hrow3:=hrow.far g3 hR
    have hput:=hrow3.put y (by omega) (Nat.le_trans hw g3.size) hR k3
    go_wp2_with fail
    refine hput.mono ?_
    clear hput
    rintro e W4 ⟨v4,rfl,hrow4,k4,G4,_⟩
    have g4:=G4 w (Nat.le_refl _) (g'.trans g3)
    have hm4:=k4.lenOf
    clear G4
    go_wp2
    exact ⟨⟨t ++ [y],r2,hrow4,k4,HE,by simp;omega,g4⟩,by rw [hm,hm4];simp;omega⟩
   | false =>
    have e2:(t,l') = (N,L):=by rw [← e',name_stop' hp he,List.append_nil]
    cases e2
    rw [he] at es
    clear e' hp he
    go_wp2_with fail
    refine (s0 _ g0).mono ?_
    rintro e W1 ⟨rfl,g1⟩
    go_wp2_with fail
    refine (np _).mono ?_
    rintro e W1 ⟨rfl,rfl⟩
    go_wp2_with fail
    refine (es _ g1).mono ?_
    rintro e W2 ⟨rfl,g2⟩
    have hc:=(hrow.far (grown_but g2 (some R)) hR).str
    go_wp2
    go_ret
    exact ⟨rfl,h'.kept g2,g'.trans (grown_but g2 _)⟩
end Go.Proofs.YtcmmdojlhfmddaaGreat.Ref

/- The document's own reader: strings. -/
set_option maxRecDepth 100000
namespace Go.Proofs.YtcmmdojlhfmddaaGreat.Ref
open Go Go.RowKit Go.Shelf
/-! ### a token in a block of its own -/
def Five (W:World) (B:Nat) (a b c d e:Value):Prop:=W.heap[B]? = some (.cells #[a,b,c,d,e] 85 (0,0))
theorem Five.lt {W:World} {B:Nat} {a b c d e:Value} (h:Five W B a b c d e):B < W.heap.size:=(Array.getElem?_eq_some_iff.1 h).1
theorem Five.cells {W:World} {B:Nat} {a b c d e:Value} (h:Five W B a b c d e):W.cell? ⟨B,0,none⟩ = some a ∧ W.cell? ⟨B,1,none⟩ = some b ∧ W.cell? ⟨B,2,none⟩ = some c ∧ W.cell? ⟨B,3,none⟩ = some d ∧ W.cell? ⟨B,4,none⟩ = some e:=by
 simp [World.cell?,show W.heap[B]? = _ from h]
theorem Five.free {W:World} {B:Nat} {a b c d e:Value} (h:Five W B a b c d e):W.frozen? ⟨B,0,none⟩ = false ∧ W.frozen? ⟨B,1,none⟩ = false ∧ W.frozen? ⟨B,2,none⟩ = false ∧ W.frozen? ⟨B,3,none⟩ = false ∧ W.frozen? ⟨B,4,none⟩ = false:=by
 simp [World.frozen?,show W.heap[B]? = _ from h]
theorem Five.kept {W W':World} {row:Option Nat} {B:Nat} {a b c d e:Value} (h:Five W B a b c d e) (hg:W.grownBy W' row) (hne:some B ≠ row):Five W' B a b c d e:=(hg.block B h.lt hne).trans h
def setAll (W:World) (B:Nat) (a b c d e:Value):World:=((((W.setCell ⟨B,0,none⟩ a).setCell ⟨B,1,none⟩ b).setCell ⟨B,2,none⟩ c).setCell ⟨B,3,none⟩ d).setCell ⟨B,4,none⟩ e
theorem Five.set {W:World} {B:Nat} {a b c d e:Value} (h:Five W B a b c d e) (a' b' c' d' e':Value):Five (setAll W B a' b' c' d' e') B a' b' c' d' e':=by
 unfold Five at h ⊢
 simp [setAll,World.setCell,Array.getElem?_modify,h]
theorem grown_set (W:World) (b i:Nat) (v:Value):W.grownBy (W.setCell ⟨b,i,none⟩ v) (some b):=
 ⟨rfl,rfl,rfl,by simp [World.setCell],fun i _ hne => Below.heap_setCell _ _ _ _ (fun e => hne (by rw [e]))⟩
theorem grown_setAll (W:World) (B:Nat) (a b c d e:Value):W.grownBy (setAll W B a b c d e) (some B):=
 ((((grown_set _ _ _ _).trans (grown_set _ _ _ _)).trans (grown_set _ _ _ _)).trans (grown_set _ _ _ _)).trans (grown_set _ _ _ _)
theorem infoTok:(Tryz.prog.info? 85).map (·.size) = some 5:=by kernel_rfl
theorem Five.new (w:World) (a b c d e:Value):Five (w.alloc (.cells #[a,b,c,d,e] 85)) w.heap.size a b c d e:=heap_alloc_new w _
theorem Five.ret {W:World} {B:Nat} {a b c d e:Value} (h:Five W B a b c d e) {fn:Func} {p:Tmp} (hf:fn.results = #[.cell p 85]) (tmps:Array Value) (hp:tmps.getD p undef = .pointer (some ⟨B,0,none⟩)) :
  (results fn tmps).run Tryz.prog W = .ok (.agg #[a,b,c,d,e]) W:=
 results_cell_row hf tmps W B _ _ _ _ hp h Tryz.underlying85 rfl infoTok
theorem grown_out {w W X:World} {R B:Nat} (h:w.grownBy W (some R)) (hB:w.heap.size ≤ B) (hg:W.grownBy X (some B)):w.grownBy X (some R):=
 h.andThen hg (fun j e => by cases e;exact .inl hB)
theorem At.kept_other {W W':World} {n₀ R B:Nat} {raw l:List Int} (h:At n₀ W R raw l) (hg:W.grownBy W' (some B)) (hB:R < B):At n₀ W' R raw l:=
 h.kept_far hg (fun j e => by cases e;exact hB)
theorem At.mem {W:World} {n₀ R:Nat} {raw l:List Int} (h:At n₀ W R raw l) {c:Int} (hc:c ∈ l):0 ≤ c:=by
 obtain ⟨v,a,hr,rfl⟩:=h
 obtain ⟨x,_,rfl⟩:=List.mem_map.1 (List.mem_of_mem_drop hc)
 exact (fixC_right x).1
def btOf (t:Tk):Bt:=⟨t.kind,txtOf t.text,t.n,t.whole,t.c⟩
def tkV (t:Tk):Value:=.agg #[.int .i64 t.kind,.string (txtOf t.text),.int .i64 t.n,.bool t.whole,.int .i64 t.c]
def strTk (o:Option (List Int)):Tk:=match o with
 | some t => ⟨4,t,0,false,0⟩
 | none => ⟨5,[],0,false,0⟩
set_option maxHeartbeats 4000000 in
theorem str_any {w:World} {n₀ R:Nat} {raw r:List Int} {q:Int} (h:At n₀ w R raw (q :: r)) :
  Calls Tryz.prog 26 #[.pointer (some ⟨R,0,none⟩)] w fun e w' => e = .returned (tkV (strTk (str q r).1)) ∧ At n₀ w' R raw (str q r).2 ∧ w.grownBy w' (some R):=by
 have hR:=h.lt
 have hlen:=h.len
 have hq0:0 ≤ q:=h.mem (List.mem_cons_self ..)
 rw [List.length_cons] at hlen
 have t0:=Five.new w (.int .i64 0) (.string ⟨#[]⟩) (.int .i64 0) (.bool false) (.int .i64 0)
 have g0:w.grownBy (w.alloc (.cells #[.int .i64 0,.string ⟨#[]⟩,.int .i64 0,.bool false,.int .i64 0] 85)) none:=World.grownBy_alloc _ _ _
 have s0:=see0 (h.kept g0)
 rw [see_zero] at s0
 obtain ⟨S,L,hSL⟩:∃ S L,str q r = (S,L):=⟨_,_,rfl⟩
 have HS:Hid (str q r = (S,L)):=hSL
 rw [hSL]
 clear hSL
 go_enter Tryz.func26,Tryz.ntmps26
 go_wp2_with fail
 refine (s0 _ (World.grownBy.refl _ _)).mono ?_
 rintro e w1 ⟨rfl,g1⟩
 replace t0:=t0.kept g1 (by simp)
 replace g1:=g0.trans g1
 obtain ⟨a,ca,fa,ha,hs⟩:=(h.kept g1).step
 clear h s0 g0
 go_wp2
 obtain ⟨k2,g2⟩:=hs _ rfl
 replace t0:=t0.kept g2 (by simp;omega)
 clear ca fa hs
 generalize World.setCell w1 _ _ = w2 at *
 replace g2:=(grown_but g1 (some R)).trans g2
 clear g1
 have hw2:w.heap.size + 1 ≤ w2.heap.size:=t0.lt
 go_loopw [4] (fun o wr => ∃ t l':List Int,Row (w.heap.size + 1) wr o t ∧ At n₀ wr R raw l' ∧ (S,L) = ((str q l').1.map (t ++ ·),(str q l').2) ∧ t.length + l'.length ≤ r.length ∧ w.grownBy wr (some R) ∧ w.heap.size + 1 ≤ wr.heap.size ∧ Five wr w.heap.size (.int .i64 0) (.string ⟨#[]⟩) (.int .i64 0) (.bool false) (.int .i64 0)) (fun _ wr => lenOf raw wr R)
 case atStart => exact ⟨[],r,Row.none _ _,k2,by rw [← show str q r = _ from HS];simp,by simp,g2,hw2,t0⟩
 case round =>
  clear k2 g2 hw2 t0 HS
  obtain ⟨t,l',hrow,h',e',hl',g',hw',t'⟩:=hrel
  have hm:=h'.lenOf
  have g0:wr.grownBy wr none:=World.grownBy.refl _ _
  have s0:=see0 h'
  have s1:=see1 h'
  cases l' with
  | nil =>
   obtain ⟨rfl,rfl⟩:S = some t ∧ L = []:=by rw [str_nil] at e';simpa using e'
   rw [see_nil] at s0
   clear e' s1
   go_wp2_with fail
   refine (s0 _ g0).mono ?_
   rintro e w1 ⟨rfl,g1⟩
   have hc:=(hrow.far (grown_but g1 (some R)) (by omega)).str
   have t4:=t'.kept g1 (by simp)
   obtain ⟨c0,c1,c2,c3,c4⟩:=t4.cells
   obtain ⟨f0,f1,f2,f3,f4⟩:=t4.free
   go_wp2
   refine bodyPost_ret ((t4.set _ _ _ _ _).ret rfl _ rfl) rfl ?_
   exact ⟨rfl,(h'.kept g1).kept_other (grown_setAll _ _ _ _ _ _ _) hR,grown_out (g'.trans (grown_but g1 _)) (Nat.le_refl _) (grown_setAll _ _ _ _ _ _ _)⟩
  | cons c r' =>
   have hc0:0 ≤ c:=h'.mem (List.mem_cons_self ..)
   rw [see_zero] at s0
   simp only [List.length_cons] at hl'
   by_cases hcq:c = q
   ·subst hcq
    obtain ⟨rfl,rfl⟩:S = some t ∧ L = r':=by rw [str_cons,if_pos rfl] at e';simpa using e'
    clear e' s1
    go_wp2_with fail
    refine (s0 _ g0).mono ?_
    rintro e w1 ⟨rfl,g1⟩
    obtain ⟨a,ca,fa,ha,hs⟩:=(h'.kept g1).step
    obtain ⟨k3,g3⟩:=hs _ rfl
    have g13:=(grown_but g1 (some R)).trans g3
    have hc:=(hrow.far g13 (by omega)).str
    have t4:=t'.kept g13 (by simp;omega)
    obtain ⟨c0,c1,c2,c3,c4⟩:=t4.cells
    obtain ⟨f0,f1,f2,f3,f4⟩:=t4.free
    go_wp2
    refine bodyPost_ret ((t4.set _ _ _ _ _).ret rfl _ rfl) rfl ?_
    exact ⟨rfl,k3.kept_other (grown_setAll _ _ _ _ _ _ _) hR,grown_out (g'.trans g13) (Nat.le_refl _) (grown_setAll _ _ _ _ _ _ _)⟩
   ·have hcq':(c == q) = false:=by simpa using hcq
    by_cases h10:c = 10
    ·subst h10
     obtain ⟨rfl,rfl⟩:S = none ∧ L = 10 :: r':=by rw [str_cons,if_neg hcq,if_pos rfl] at e';simpa using e'
     clear e' s1 hcq
     go_wp2_with fail
     refine (s0 _ g0).mono ?_
     rintro e w1 ⟨rfl,g1⟩
     have t4:=t'.kept g1 (by simp)
     obtain ⟨c0,c1,c2,c3,c4⟩:=t4.cells
     obtain ⟨f0,f1,f2,f3,f4⟩:=t4.free
     go_wp2
     refine bodyPost_ret ((t4.set _ _ _ _ _).ret rfl _ rfl) rfl ?_
     exact ⟨rfl,(h'.kept g1).kept_other (grown_setAll _ _ _ _ _ _ _) hR,grown_out (g'.trans (grown_but g1 _)) (Nat.le_refl _) (grown_setAll _ _ _ _ _ _ _)⟩
    ·have h10':(c == 10) = false:=by simpa using h10
     by_cases h92:c = 92
     ·subst h92
      cases r' with
      | nil =>
       have HE:Hid ((S,L) = ((str q []).1.map (t ++ ·),(str q []).2)):=by
        show _ = _
        rw [e',str_cons,if_neg hcq,if_neg h10,if_pos rfl,if_pos rfl,str_nil]
       rw [show see [92] 1 = -1 from rfl] at s1
       clear e' hcq h10
       go_wp2_with fail
       refine (s0 _ g0).mono ?_
       rintro e w1 ⟨rfl,g1⟩
       go_wp2_with fail
       refine (s1 _ g1).mono ?_
       rintro e w2 ⟨rfl,g2⟩
       obtain ⟨a,ca,fa,ha,hs⟩:=(h'.kept g2).step
       go_wp2
       obtain ⟨k3,g3⟩:=hs _ rfl
       have g13:=(grown_but g2 (some R)).trans g3
       have hm3:=k3.lenOf
       exact ⟨⟨t,[],hrow.far g13 (by omega),k3,HE,by simp;omega,g'.trans g13,Nat.le_trans hw' g13.size,t'.kept g13 (by simp;omega)⟩,by rw [hm,hm3];simp⟩
      | cons d r3 =>
       have hd0:0 ≤ d:=h'.mem (by simp)
       have hdi:¬ d < 0:=by omega
       rw [show see (92 :: d :: r3) 1 = d from rfl] at s1
       by_cases hd:d = 10
       ·subst hd
        have HE:Hid ((S,L) = ((str q r3).1.map (t ++ ·),(str q r3).2)):=by
         show _ = _
         rw [e',str_cons,if_neg hcq,if_neg h10,if_pos rfl,if_neg (by simp),if_pos (by rfl)]
         rfl
        clear e' hcq h10
        go_wp2_with fail
        refine (s0 _ g0).mono ?_
        rintro e w1 ⟨rfl,g1⟩
        go_wp2_with fail
        refine (s1 _ g1).mono ?_
        rintro e w2 ⟨rfl,g2⟩
        go_wp2_with fail
        refine (s1 _ g2).mono ?_
        rintro e w3 ⟨rfl,g3⟩
        obtain ⟨a,ca,fa,ha,hs⟩:=(h'.kept g3).step2
        go_wp2
        obtain ⟨k4,g4⟩:=hs _ rfl
        have g14:=(grown_but g3 (some R)).trans g4
        have hm4:=k4.lenOf
        exact ⟨⟨t,r3,hrow.far g14 (by omega),k4,HE,by simp only [List.length_cons] at hl';omega,g'.trans g14,Nat.le_trans hw' g14.size,t'.kept g14 (by simp;omega)⟩,by rw [hm,hm4];simp only [List.length_cons];omega⟩
       ·have hd':(d == 10) = false:=by simpa using hd
        have hsl:=escd_len 92 (d :: r3)
        have HE:Hid ((S,L) = ((str q (escd (92 :: d :: r3)).2).1.map ((t ++ [(escd (92 :: d :: r3)).1]) ++ ·),(str q (escd (92 :: d :: r3)).2).2)):=by
         show _ = _
         rw [e',str_cons,if_neg hcq,if_neg h10,if_pos rfl,if_neg (by simp),if_neg (by rw [see_zero];exact hd)]
         simp [Option.map_map,Function.comp_def]
        have ec:=escaped_any h'
        generalize (escd (92 :: d :: r3)).1 = y at *
        generalize (escd (92 :: d :: r3)).2 = r2 at *
        clear e' hcq h10
        simp only [List.length_cons] at hl' hsl
        go_wp2_with fail
        refine (s0 _ g0).mono ?_
        rintro e w1 ⟨rfl,g1⟩
        go_wp2_with fail
        refine (s1 _ g1).mono ?_
        rintro e w2 ⟨rfl,g2⟩
        go_wp2_with fail
        refine (s1 _ g2).mono ?_
        rintro e w3 ⟨rfl,g3⟩
        go_wp2_with fail
        refine (ec _ g3).mono ?_
        rintro e w4 ⟨rfl,k4,g4⟩
        have hrow4:=hrow.far g4 (by omega)
        have hput:=hrow4.put y (by omega) (Nat.le_trans hw' g4.size) (by omega) k4
        have t4:=t'.kept g4 (by simp;omega)
        go_wp2_with fail
        refine hput.mono ?_
        clear hput
        rintro e w5 ⟨v5,rfl,hrow5,k5,G5,S5,F5⟩
        have g5:=G5 w (by omega) (g'.trans g4)
        have hm5:=k5.lenOf
        clear G5
        go_wp2
        exact ⟨⟨t ++ [y],r2,hrow5,k5,HE,by simp;omega,g5,(by have:=g4.size;omega),(F5 _ (by omega)).trans t4⟩,by rw [hm,hm5];simp;omega⟩
     ·have h92':(c == 92) = false:=by simpa using h92
      have HE:Hid ((S,L) = ((str q r').1.map ((t ++ [c]) ++ ·),(str q r').2)):=by
       show _ = _
       rw [e',str_cons,if_neg hcq,if_neg h10,if_neg h92]
       simp [Option.map_map,Function.comp_def]
      clear e' hcq h10 h92 s1
      go_wp2_with fail
      refine (s0 _ g0).mono ?_
      rintro e w1 ⟨rfl,g1⟩
      have hrow1:=hrow.far (grown_but g1 (some R)) (by omega)
      have hput:=hrow1.put c (by omega) (Nat.le_trans hw' g1.size) (by omega) (h'.kept g1)
      have t4:=t'.kept g1 (by simp)
      go_wp2_with fail
      refine hput.mono ?_
      clear hput
      rintro e w2 ⟨v2,rfl,hrow2,k2,G2,S2,F2⟩
      have g2:=G2 w (by omega) (g'.trans (grown_but g1 _))
      obtain ⟨a,ca,fa,ha,hs⟩:=k2.step
      have t5:Five w2 w.heap.size _ _ _ _ _:=(F2 _ (by omega)).trans t4
      clear G2
      go_wp2
      obtain ⟨k3,g3⟩:=hs _ rfl
      have hm3:=k3.lenOf
      exact ⟨⟨t ++ [c],r',hrow2.far g3 (by omega),k3,HE,by simp;omega,g2.trans g3,(by have:=g1.size;have:=g3.size;omega),t5.kept g3 (by simp;omega)⟩,by rw [hm,hm3];simp⟩
end Go.Proofs.YtcmmdojlhfmddaaGreat.Ref

/- The document's own reader: numbers. -/
set_option maxRecDepth 100000
namespace Go.Proofs.YtcmmdojlhfmddaaGreat.Ref
open Go Go.RowKit Go.Shelf
def nv (t:List Int):Int:=Nm.numN (encs t)
structure Ns (w:World) (n₀ R:Nat) (raw:List Int) (v:Value) (t l:List Int) (X:World):Prop where
 row:Row (w.heap.size + 1) X v t
 at':At n₀ X R raw l
 grown:w.grownBy X (some R)
 size:w.heap.size + 1 ≤ X.heap.size
 five:Five X w.heap.size (.int .i64 0) (.string ⟨#[]⟩) (.int .i64 0) (.bool false) (.int .i64 0)
 low:R < w.heap.size
theorem Ns.kept {w:World} {n₀ R:Nat} {raw:List Int} {v:Value} {t l:List Int} {X Y:World} (h:Ns w n₀ R raw v t l X) (g:X.grownBy Y none):Ns w n₀ R raw v t l Y:=
 ⟨h.row.far (grown_but g (some R)) (by have:=h.low;omega),h.at'.kept g,h.grown.trans (grown_but g _),Nat.le_trans h.size g.size,h.five.kept g (by simp),h.low⟩
theorem Ns.step {w:World} {n₀ R:Nat} {raw:List Int} {v:Value} {t l:List Int} {c:Int} {X:World} (h:Ns w n₀ R raw v t (c :: l) X):∃ a:Nat,X.cell? ⟨R,1,none⟩ = some (.int .i64 a) ∧ X.frozen? ⟨R,1,none⟩ = false ∧ (a:Int) ≤ 1000002 ∧
  ∀ u,u = .int .i64 ((a:Int) + 1) → Ns w n₀ R raw v t l (X.setCell ⟨R,1,none⟩ u):=by
 obtain ⟨a,h1,h2,h3,h4⟩:=h.at'.step
 have:=h.low
 refine ⟨a,h1,h2,h3,fun u e => ?_⟩
 obtain ⟨k,g⟩:=h4 u e
 exact ⟨h.row.far g (by omega),k,h.grown.trans g,Nat.le_trans h.size g.size,h.five.kept g (by simp;omega),h.low⟩
theorem Ns.put {w:World} {n₀ R:Nat} {raw:List Int} {v:Value} {t l:List Int} {X:World} (h:Ns w n₀ R raw v t l X) (c:Int) (hl:t.length ≤ 1000000) :
  Calls Tryz.prog 55 #[v,.int .i64 c] X fun e w' => ∃ v',e = .returned v' ∧ Ns w n₀ R raw v' (t ++ [c]) l w':=by
 have:=h.low
 refine (h.row.put c hl h.size (by omega) h.at').mono ?_
 rintro e w' ⟨v',rfl,k1,k2,k3,k4,k5⟩
 exact ⟨v',rfl,k1,k2,k3 w (by omega) h.grown,Nat.le_trans h.size k4,(k5 _ (by omega)).trans h.five,h.low⟩
theorem Ns.more {w:World} {n₀ R:Nat} {raw:List Int} {v v':Value} {t t' l:List Int} {X Y:World} {o:Obj} (h:Ns w n₀ R raw v t l X) (hg:(X.alloc o).grownBy Y v.ownBlock) (hr:Row (w.heap.size + 1) Y v' t'):Ns w n₀ R raw v' t' l Y:=by
 have hlow:=h.low
 have far:∀ j,v.ownBlock = some j → w.heap.size + 1 ≤ j:=fun j e => (World.ownsRow.lt h.row j e).1
 refine ⟨hr,(h.at'.kept (World.grownBy_alloc X o none)).kept_far hg (fun j e => by have:=far j e;omega),?_,?_,?_,hlow⟩
 ·exact (h.grown.trans (World.grownBy_alloc X o _)).andThen hg (fun j e => .inl (by have:=far j e;omega))
 ·have h1:=hg.size
  have h2:=h.size
  rw [World.size_alloc] at h1
  omega
 ·exact (h.five.kept (World.grownBy_alloc X o none) (by simp)).kept hg (fun e => by have:=far _ e.symm;omega)
theorem sgn_yes {l:List Int} (h:(see l 0 == 43 || see l 0 == 45) = true):∃ c r,l = c :: r ∧ sgn l = [c] ∧ unsign l = r:=by
 cases l with
 | nil => exact absurd h (by decide)
 | cons c r => exact ⟨c,r,rfl,by unfold sgn;rw [if_pos h];rfl,by unfold unsign;rw [if_pos h];rfl⟩
theorem sgn_no {l:List Int} (h:(see l 0 == 43 || see l 0 == 45) = false):sgn l = [] ∧ unsign l = l:=by
 unfold sgn unsign
 rw [h]
 exact ⟨rfl,rfl⟩
theorem sgn_len (l:List Int):(sgn l).length + (unsign l).length = l.length:=by
 cases h:(see l 0 == 43 || see l 0 == 45) with
 | true =>
  obtain ⟨c,r,rfl,e1,e2⟩:=sgn_yes h
  rw [e1,e2]
  simp
  omega
 | false =>
  obtain ⟨e1,e2⟩:=sgn_no h
  rw [e1,e2]
  simp
theorem enc1_dot:enc1 46 = [46]:=by decide +kernel
theorem takeWhile_stop {l:List Int} (h:isDigit (see l 0) = false):l.takeWhile isDigit = [] ∧ l.dropWhile isDigit = l:=by
 cases l with
 | nil => exact ⟨rfl,rfl⟩
 | cons c r =>
  rw [see_zero] at h
  exact ⟨by rw [List.takeWhile_cons,h];rfl,by rw [List.dropWhile_cons,h];rfl⟩
theorem takeWhile_more {c:Int} {r:List Int} (h:isDigit c = true):(c :: r).takeWhile isDigit = c :: r.takeWhile isDigit ∧ (c :: r).dropWhile isDigit = r.dropWhile isDigit:=
 ⟨by rw [List.takeWhile_cons,if_pos h],by rw [List.dropWhile_cons,if_pos h]⟩
theorem isDigit_some {l:List Int} (h:isDigit (see l 0) = true):∃ c r,l = c :: r:=List.exists_cons_of_ne_nil (fun e => by rw [e] at h;exact absurd h (by decide))
set_option maxHeartbeats 4000000 in
theorem numeric_any {w:World} {n₀ R:Nat} {raw l:List Int} (h:At n₀ w R raw l) :
  Calls Tryz.prog 30 #[.pointer (some ⟨R,0,none⟩)] w fun e w' => e = .returned (tkV (numeric nv l).1) ∧ At n₀ w' R raw (numeric nv l).2 ∧ w.grownBy w' (some R):=by
 have hR:=h.lt
 have hlen:=h.len
 obtain ⟨T,L,hTL⟩:∃ T L,numeric nv l = (T,L):=⟨_,_,rfl⟩
 have HT:Hid (numeric nv l = (T,L)):=hTL
 rw [hTL]
 clear hTL
 have hN:Ns w n₀ R raw (.slice none 0 0) [] l (w.alloc (.cells #[.int .i64 0,.string ⟨#[]⟩,.int .i64 0,.bool false,.int .i64 0] 85)):=
  ⟨Row.none _ _,h.kept (World.grownBy_alloc _ _ _),World.grownBy_alloc _ _ _,by simp,Five.new _ _ _ _ _ _,hR⟩
 clear h
 go_enter Tryz.func30,Tryz.ntmps30
 go_upto_region 3 with fail
 generalize World.alloc w _ = w0 at *
 have s0:=see0 hN.at'
 go_cut [15] (fun b wx => b = .bool (see l 0 == 43 || see l 0 == 45) ∧ w0.grownBy wx none)
 case first =>
  generalize see l 0 = c at *
  by_cases h1:c = 43
  ·subst h1
   go_wp2_with fail
   refine (s0 _ (World.grownBy.refl _ _)).mono ?_
   rintro e w1 ⟨rfl,g1⟩
   go_wp2
   go_meet
   exact ⟨rfl,g1⟩
  ·have h1':(c == 43) = false:=by simpa using h1
   go_wp2_with fail
   refine (s0 _ (World.grownBy.refl _ _)).mono ?_
   rintro e w1 ⟨rfl,g1⟩
   go_wp2_with fail
   refine (s0 _ g1).mono ?_
   rintro e w2 ⟨rfl,g2⟩
   go_wp2
   go_meet
   exact ⟨by rw [h1',Bool.false_or],g2⟩
 case rest =>
  obtain ⟨rfl,g1⟩:=hcut
  rename World => w1
  replace hN:=hN.kept g1
  clear s0 g1
  have y1:=fun e => sgn_yes (l:=l) e
  have y2:=fun e => sgn_no (l:=l) e
  have hsl:=sgn_len l
  generalize (see l 0 == 43 || see l 0 == 45) = s at *
  go_upto_if 15 with fail
  go_cut [3] (fun x wx => ∃ v,v = x ∧ Ns w n₀ R raw v (sgn l) (unsign l) wx)
  case first =>
   cases s with
   | true =>
    obtain ⟨c,r,rfl,e1,e2⟩:=y1 rfl
    have s0:=see0 hN.at'
    rw [see_zero] at s0
    clear y1 y2
    go_wp2_with fail
    refine (s0 _ (World.grownBy.refl _ _)).mono ?_
    rintro e w2 ⟨rfl,g2⟩
    have hput:=(hN.kept g2).put c (by simp)
    go_wp2_with fail
    refine hput.mono ?_
    clear hput
    rintro e w3 ⟨v3,rfl,N3⟩
    obtain ⟨a,ca,fa,ha,hst⟩:=N3.step
    go_wp2
    have N4:=hst _ rfl
    go_meet
    exact ⟨_,rfl,by rw [e1,e2];exact N4⟩
   | false =>
    obtain ⟨e1,e2⟩:=y2 rfl
    clear y1 y2
    go_wp2
    go_meet
    exact ⟨_,rfl,by rw [e1,e2];exact hN⟩
  case rest =>
   clear hN y1 y2
   obtain ⟨v,rfl,hN⟩:=hcut
   rename World => w2
   obtain ⟨T1,hT1⟩:∃ T1,sgn l ++ (unsign l).takeWhile isDigit = T1:=⟨_,rfl⟩
   obtain ⟨L1,hL1⟩:∃ L1,(unsign l).dropWhile isDigit = L1:=⟨_,rfl⟩
   have hlen1:T1.length + L1.length ≤ 1000000:=by
    have e:=congrArg List.length (List.takeWhile_append_dropWhile (p:=isDigit) (l:=unsign l))
    rw [List.length_append] at e
    rw [← hT1,← hL1,List.length_append]
    omega
   have HN:Hid (numText l = if pointed L1 = true then (T1 ++ 46 :: L1.tail.takeWhile isDigit,L1.tail.dropWhile isDigit,false) else (T1,L1,true)):=by
    show _ = _
    rw [← hT1,← hL1]
    rfl
   go_upto_block 0 with fail
   go_cut [3] (fun x wx => ∃ v,v = x ∧ Ns w n₀ R raw v T1 L1 wx)
   case first =>
    go_wp2_with fail
    go_loopw [3] (fun o wr => ∃ v t l',v = o ∧ Ns w n₀ R raw v t l' wr ∧ t ++ l'.takeWhile isDigit = T1 ∧ l'.dropWhile isDigit = L1 ∧ t.length + l'.length ≤ 1000000) (fun _ wr => lenOf raw wr R)
    case atStart => exact ⟨_,sgn l,unsign l,rfl,hN,hT1,hL1,(by omega)⟩
    case round =>
     clear hN
     obtain ⟨v',t,l',rfl,N,e1,e2,hb⟩:=hrel
     have hm:=N.at'.lenOf
     have s0:=see0 N.at'
     have dg:=digit_any (see l' 0)
     cases hd:isDigit (see l' 0) with
     | true =>
      obtain ⟨c,r,rfl⟩:=isDigit_some hd
      rw [hd] at dg
      rw [see_zero] at s0 dg hd
      obtain ⟨f1,f2⟩:=takeWhile_more (r:=r) hd
      rw [f1] at e1
      rw [f2] at e2
      have E1:Hid ((t ++ [c]) ++ r.takeWhile isDigit = T1):=by
       show _ = _
       rw [← e1]
       simp
      have E2:Hid (r.dropWhile isDigit = L1):=e2
      clear f1 f2 e1 e2 hd
      simp only [List.length_cons] at hb
      go_wp2_with fail
      refine (s0 _ (World.grownBy.refl _ _)).mono ?_
      rintro e W1 ⟨rfl,g1⟩
      go_wp2_with fail
      refine (dg _).mono ?_
      rintro e W1 ⟨rfl,rfl⟩
      go_wp2_with fail
      refine (s0 _ g1).mono ?_
      rintro e W2 ⟨rfl,g2⟩
      have hput:=(N.kept g2).put c (by omega)
      go_wp2_with fail
      refine hput.mono ?_
      clear hput
      rintro e W3 ⟨v3,rfl,N3⟩
      obtain ⟨a,ca,fa,ha,hst⟩:=N3.step
      go_wp2
      have N4:=hst _ rfl
      have hm4:=N4.at'.lenOf
      exact ⟨⟨_,t ++ [c],r,rfl,N4,E1,E2,by simp;omega⟩,by rw [hm,hm4];simp⟩
     | false =>
      obtain ⟨f1,f2⟩:=takeWhile_stop hd
      rw [f1,List.append_nil] at e1
      rw [f2] at e2
      subst e1 e2
      rw [hd] at dg
      clear hd f1 f2
      go_wp2_with fail
      refine (s0 _ (World.grownBy.refl _ _)).mono ?_
      rintro e W1 ⟨rfl,g1⟩
      go_wp2_with fail
      refine (dg _).mono ?_
      rintro e W1 ⟨rfl,rfl⟩
      go_wp2
      go_meet
      exact ⟨_,rfl,N.kept g1⟩
   case rest =>
    clear hN
    obtain ⟨v1,rfl,hN⟩:=hcut
    rename World => w3
    clear hT1 hL1
    have s0:=see0 hN.at'
    have s1:=see1 hN.at'
    have d1:=digit_any (see L1 1)
    go_upto_region 9 with fail
    go_cut [48] (fun b wx => b = .bool (pointed L1) ∧ w3.grownBy wx none)
    case first =>
     have hpe:pointed L1 = (see L1 0 == 46 && isDigit (see L1 1)):=rfl
     generalize isDigit (see L1 1) = D at *
     generalize see L1 0 = c at *
     by_cases h1:c = 46
     ·subst h1
      go_wp2_with fail
      refine (s0 _ (World.grownBy.refl _ _)).mono ?_
      rintro e W1 ⟨rfl,g1⟩
      go_wp2_with fail
      refine (s1 _ g1).mono ?_
      rintro e W2 ⟨rfl,g2⟩
      go_wp2_with fail
      refine (d1 _).mono ?_
      rintro e W2 ⟨rfl,rfl⟩
      go_wp2
      go_meet
      exact ⟨by rw [hpe];simp,g2⟩
     ·have h1':(c == 46) = false:=by simpa using h1
      go_wp2_with fail
      refine (s0 _ (World.grownBy.refl _ _)).mono ?_
      rintro e W1 ⟨rfl,g1⟩
      go_wp2
      go_meet
      exact ⟨by rw [hpe,h1',Bool.false_and],g1⟩
    case rest =>
     obtain ⟨rfl,g1⟩:=hcut
     rename World => w4
     replace hN:=hN.kept g1
     clear s0 s1 d1 g1
     have hpt:pointed L1 = true → ∃ c d r,L1 = c :: d :: r ∧ c = 46:=fun e => by
      unfold pointed at e
      match L1,e with
      | [],e => exact absurd e (by decide)
      | [c],e => exact absurd e (by simp [see,isDigit])
      | c :: d :: r,e =>
       refine ⟨c,d,r,rfl,?_⟩
       have:=(Bool.and_eq_true _ _ ▸ e).1
       simpa [see] using this
     generalize hP:pointed L1 = P at *
     obtain ⟨T2,L2,Wh,hTL⟩:∃ T2 L2 Wh,numText l = (T2,L2,Wh):=⟨_,_,_,rfl⟩
     have HN2:Hid ((if P = true then (T1 ++ 46 :: L1.tail.takeWhile isDigit,L1.tail.dropWhile isDigit,false) else (T1,L1,true)) = (T2,L2,Wh)):=(show _ = _ from HN).symm.trans hTL
     have HT2:Hid ((if begName L2 then ((⟨8,(name L2).1,nv T2,false,0⟩:Tk),(name L2).2) else if see L2 0 = 37 then (⟨7,[],nv T2,false,0⟩,L2.tail) else (⟨6,[],nv T2,Wh,0⟩,L2)) = (T,L)):=by
      have:=show numeric nv l = (T,L) from HT
      unfold numeric at this
      simp only [hTL] at this
      exact this
     clear HT HN hTL hP
     go_upto_if 48 with fail
     go_cut [3,4] (fun x y wx => ∃ v,v = x ∧ y = .bool Wh ∧ T2.length ≤ 1000000 ∧ Ns w n₀ R raw v T2 L2 wx)
     case first =>
      cases P with
      | false =>
       have e:(T1,L1,true) = (T2,L2,Wh):=HN2
       cases e
       clear HN2 HT2 hpt
       go_wp2
       go_meet
       exact ⟨_,rfl,rfl,by omega,hN⟩
      | true =>
       obtain ⟨i0,hi,hz0,hz1,hz2⟩:=info_parts infoByte
       obtain ⟨c,d,r,rfl,rfl⟩:=hpt rfl
       have e:(T1 ++ 46 :: (d :: r).takeWhile isDigit,(d :: r).dropWhile isDigit,false) = (T2,L2,Wh):=HN2
       simp only [Prod.mk.injEq] at e
       obtain ⟨hT2,hL2,rfl⟩:=e
       clear HN2 HT2 hpt
       simp only [List.length_cons] at hlen1
       have hrow:=hN.row
       have hel:=encs_len T1
       have hsz:=hN.size
       go_wp2_with (at_builtin;refine wpList_append_own _ rfl _ _ 46 rfl (w.heap.size + 1) 5 i0 (.int .u8 0) 1 1 Tryz.underlying46 hi hz0 hz1 hz2 rfl (by decide) _ _ _ rfl (World.ownsRow.alloc hrow _) ⟨w4.heap.size,0,none⟩ 1 1 [.int .u8 46] rfl rfl (cells_new _ [.int .u8 46] _) (fun x hx => by simp at hx;subst hx;rfl) (by unfold maxLen;omega) (by omega) (by simp;omega) ?_;intro v5 w5 hown5 hgrow5 hnil5;have hrow5:Row (w.heap.size + 1) w5 v5 (T1 ++ [46]):=(by unfold Row;rw [encs_snoc,enc1_dot,ubytes_append,List.length_append];exact hown5);have N5:=hN.more hgrow5 hrow5;obtain ⟨a,ca,fa,ha,hst⟩:=N5.step)
       have N6:=hst _ rfl
       clear hst ca fa N5 hrow5 hown5 hgrow5 hnil5
       generalize World.setCell w5 _ _ = w6 at *
       go_loopw [3] (fun o wr => ∃ v t l',v = o ∧ Ns w n₀ R raw v t l' wr ∧ t ++ l'.takeWhile isDigit = T2 ∧ l'.dropWhile isDigit = L2 ∧ t.length + l'.length ≤ 1000000) (fun _ wr => lenOf raw wr R)
       case atStart => exact ⟨_,T1 ++ [46],d :: r,rfl,N6,(by rw [← hT2];simp),hL2,(by simp;omega)⟩
       case round =>
        clear N6
        obtain ⟨v',t,l',rfl,N,e1,e2,hb⟩:=hrel
        have hm:=N.at'.lenOf
        have s0:=see0 N.at'
        have dg:=digit_any (see l' 0)
        cases hd:isDigit (see l' 0) with
        | true =>
         obtain ⟨c,r,rfl⟩:=isDigit_some hd
         rw [hd] at dg
         rw [see_zero] at s0 dg hd
         obtain ⟨f1,f2⟩:=takeWhile_more (r:=r) hd
         rw [f1] at e1
         rw [f2] at e2
         have E1:Hid ((t ++ [c]) ++ r.takeWhile isDigit = T2):=by
          show _ = _
          rw [← e1]
          simp
         have E2:Hid (r.dropWhile isDigit = L2):=e2
         clear f1 f2 e1 e2 hd
         simp only [List.length_cons] at hb
         go_wp2_with fail
         refine (s0 _ (World.grownBy.refl _ _)).mono ?_
         rintro e W1 ⟨rfl,g1⟩
         go_wp2_with fail
         refine (dg _).mono ?_
         rintro e W1 ⟨rfl,rfl⟩
         go_wp2_with fail
         refine (s0 _ g1).mono ?_
         rintro e W2 ⟨rfl,g2⟩
         have hput:=(N.kept g2).put c (by omega)
         go_wp2_with fail
         refine hput.mono ?_
         clear hput
         rintro e W3 ⟨v3,rfl,N3⟩
         obtain ⟨a,ca,fa,ha,hst⟩:=N3.step
         go_wp2
         have N4:=hst _ rfl
         have hm4:=N4.at'.lenOf
         exact ⟨⟨_,t ++ [c],r,rfl,N4,E1,E2,by simp;omega⟩,by rw [hm,hm4];simp⟩
        | false =>
         obtain ⟨f1,f2⟩:=takeWhile_stop hd
         rw [f1,List.append_nil] at e1
         rw [f2] at e2
         subst e1 e2
         rw [hd] at dg
         clear hd f1 f2
         go_wp2_with fail
         refine (s0 _ (World.grownBy.refl _ _)).mono ?_
         rintro e W1 ⟨rfl,g1⟩
         go_wp2_with fail
         refine (dg _).mono ?_
         rintro e W1 ⟨rfl,rfl⟩
         go_wp2
         go_meet
         exact ⟨_,rfl,rfl,by omega,N.kept g1⟩
     case rest =>
      clear hN HN2 hpt
      obtain ⟨v2,rfl,rfl,hl2,hN⟩:=hcut
      rename World => w5
      have hc:=hN.row.str
      have hnum:=fun W => Nm.refNum_long (txtOf T2) W (by have:=encs_len T2;show (encs T2).toArray.size ≤ _;simp;omega)
      rw [show (txtOf T2).data.toList = encs T2 from rfl,show Nm.numN (encs T2) = nv T2 from rfl] at hnum
      generalize Nm.numOk (encs T2) = ok at *
      generalize nv T2 = N at *
      have b0:=beg0 hN.at'
      cases hB:begName L2 with
      | true =>
       have e:((⟨8,(name L2).1,N,false,0⟩:Tk),(name L2).2) = (T,L):=by
        have:=show _ = _ from HT2
        rw [hB,if_pos rfl] at this
        exact this
       cases e
       rw [hB] at b0
       clear HT2 hB
       go_wp2_with fail
       refine (hnum _).mono ?_
       rintro e w5 ⟨rfl,rfl⟩
       go_wp2_with fail
       refine (b0 _ (World.grownBy.refl _ _)).mono ?_
       rintro e w6 ⟨rfl,g6⟩
       have hnm:=name_any (hN.at'.kept g6)
       go_wp2_with fail
       refine hnm.mono ?_
       clear hnm
       rintro e w7 ⟨rfl,k7,g7⟩
       have t7:=(hN.five.kept g6 (by simp)).kept g7 (by simp;omega)
       obtain ⟨c0,c1,c2,c3,c4⟩:=t7.cells
       obtain ⟨f0,f1,f2,f3,f4⟩:=t7.free
       go_wp2
       refine bodyPost_ret ((t7.set _ _ _ _ _).ret rfl _ rfl) rfl ?_
       exact ⟨rfl,k7.kept_other (grown_setAll _ _ _ _ _ _ _) hR,grown_out ((hN.grown.trans (grown_but g6 _)).trans g7) (Nat.le_refl _) (grown_setAll _ _ _ _ _ _ _)⟩
      | false =>
       rw [hB] at b0
       have s0:=see0 hN.at'
       by_cases h37:see L2 0 = 37
       ·have e:((⟨7,[],N,false,0⟩:Tk),L2.tail) = (T,L):=by
         have:=show _ = _ from HT2
         rw [hB,if_neg (by decide),if_pos h37] at this
         exact this
        cases e
        rw [h37] at s0
        obtain ⟨c,r,rfl⟩:∃ c r,L2 = c :: r:=List.exists_cons_of_ne_nil (fun e => by rw [e] at h37;exact absurd h37 (by decide))
        clear HT2 hB h37
        go_wp2_with fail
        refine (hnum _).mono ?_
        rintro e w5 ⟨rfl,rfl⟩
        go_wp2_with fail
        refine (b0 _ (World.grownBy.refl _ _)).mono ?_
        rintro e w6 ⟨rfl,g6⟩
        go_wp2_with fail
        refine (s0 _ g6).mono ?_
        rintro e w7 ⟨rfl,g7⟩
        obtain ⟨a,ca,fa,ha,hst⟩:=(hN.kept g7).step
        have N8:=hst _ rfl
        obtain ⟨c0,c1,c2,c3,c4⟩:=N8.five.cells
        obtain ⟨f0,f1,f2,f3,f4⟩:=N8.five.free
        go_wp2
        refine bodyPost_ret ((N8.five.set _ _ _ _ _).ret rfl _ rfl) rfl ?_
        exact ⟨rfl,N8.at'.kept_other (grown_setAll _ _ _ _ _ _ _) hR,grown_out N8.grown (Nat.le_refl _) (grown_setAll _ _ _ _ _ _ _)⟩
       ·have e:((⟨6,[],N,Wh,0⟩:Tk),L2) = (T,L):=by
         have:=show _ = _ from HT2
         rw [hB,if_neg (by decide),if_neg h37] at this
         exact this
        cases e
        generalize see L 0 = c at *
        have h37':(c == 37) = false:=by simpa using h37
        clear HT2 hB
        go_wp2_with fail
        refine (hnum _).mono ?_
        rintro e w5 ⟨rfl,rfl⟩
        go_wp2_with fail
        refine (b0 _ (World.grownBy.refl _ _)).mono ?_
        rintro e w6 ⟨rfl,g6⟩
        go_wp2_with fail
        refine (s0 _ g6).mono ?_
        rintro e w7 ⟨rfl,g7⟩
        have N8:=hN.kept g7
        obtain ⟨c0,c1,c2,c3,c4⟩:=N8.five.cells
        obtain ⟨f0,f1,f2,f3,f4⟩:=N8.five.free
        go_wp2
        refine bodyPost_ret ((N8.five.set _ _ _ _ _).ret rfl _ rfl) rfl ?_
        exact ⟨rfl,N8.at'.kept_other (grown_setAll _ _ _ _ _ _ _) hR,grown_out N8.grown (Nat.le_refl _) (grown_setAll _ _ _ _ _ _ _)⟩
end Go.Proofs.YtcmmdojlhfmddaaGreat.Ref

/- The document's own Tokens, at every slice of code points that is not too long. -/
set_option maxRecDepth 100000
namespace Go.Proofs.YtcmmdojlhfmddaaGreat.Ref
open Go Go.RowKit Go.Shelf
theorem infoTk:(Tryz.prog.info? 85).map (fun i => (i.zero,i.size,i.bytes)) = some (some (.agg #[.int .i64 0,.string ⟨#[]⟩,.int .i64 0,.bool false,.int .i64 0]),5,48):=by kernel_rfl
theorem btCells_one (t:Bt):∀ u ∈ btCells t,u.oneCell' = true:=fun u hu => by
 simp [btCells] at hu
 rcases hu with rfl | rfl | rfl | rfl | rfl <;> rfl
structure Ts (w:World) (raw:List Int) (v:Value) (ts:List Tk) (l:List Int) (X:World):Prop where
 row:X.ownsRow (w.heap.size + 1) 85 5 v ts.length (btsCells (ts.map btOf))
 at':At w.heap.size X w.heap.size raw l
 below:Below w.heap.size w X
 size:w.heap.size + 1 ≤ X.heap.size
theorem Ts.far {w:World} {raw:List Int} {v:Value} {ts:List Tk} {l l':List Int} {X Y:World} (h:Ts w raw v ts l X) (g:X.grownBy Y (some w.heap.size)) (k:At w.heap.size Y w.heap.size raw l'):Ts w raw v ts l' Y:=
 ⟨owns_far h.row g (by omega),k,h.below.grown g (by have:=h.size;omega) (fun r e => by cases e;omega),Nat.le_trans h.size g.size⟩
theorem Ts.kept {w:World} {raw:List Int} {v:Value} {ts:List Tk} {l:List Int} {X Y:World} (h:Ts w raw v ts l X) (g:X.grownBy Y none):Ts w raw v ts l Y:=h.far (grown_but g _) (h.at'.kept g)
theorem Ts.step {w:World} {raw:List Int} {v:Value} {ts:List Tk} {l:List Int} {c:Int} {X:World} (h:Ts w raw v ts (c :: l) X):∃ a:Nat,X.cell? ⟨w.heap.size,1,none⟩ = some (.int .i64 a) ∧ X.frozen? ⟨w.heap.size,1,none⟩ = false ∧ (a:Int) ≤ 1000002 ∧
  ∀ u,u = .int .i64 ((a:Int) + 1) → Ts w raw v ts l (X.setCell ⟨w.heap.size,1,none⟩ u):=by
 obtain ⟨a,h1,h2,h3,h4⟩:=h.at'.step
 exact ⟨a,h1,h2,h3,fun u e => h.far (h4 u e).2 (h4 u e).1⟩
theorem Ts.push {w:World} {raw:List Int} {v v':Value} {ts:List Tk} {x:Tk} {l:List Int} {X Y:World} {o:Obj} (h:Ts w raw v ts l X) (hg:(X.alloc o).grownBy Y v.ownBlock) (hr:Y.ownsRow (w.heap.size + 1) 85 5 v' (ts.length + 1) (btsCells (ts.map btOf) ++ btCells (btOf x))):Ts w raw v' (ts ++ [x]) l Y:=by
 have far:∀ j,v.ownBlock = some j → w.heap.size + 1 ≤ j:=fun j e => (World.ownsRow.lt h.row j e).1
 refine ⟨?_,(h.at'.kept (World.grownBy_alloc X o none)).kept_far hg (fun j e => by have:=far j e;omega),?_,?_⟩
 ·have e:btsCells ((ts ++ [x]).map btOf) = btsCells (ts.map btOf) ++ btCells (btOf x):=by simp [btsCells]
  rw [e,List.length_append]
  exact hr
 ·exact (h.below.alloc (by have:=h.size;omega) o).grown hg (by have:=h.size;rw [World.size_alloc];omega) (fun j e => by have:=far j e;omega)
 ·have h1:=hg.size
  have h2:=h.size
  rw [World.size_alloc] at h1
  omega
def AtE (n₀:Nat) (W:World) (R:Nat) (raw l:List Int):Prop:=∃ v a,Rd n₀ W R v raw a ∧ a ≤ raw.length ∧ l = (raw.map fixC).drop a
theorem AtE.at' {n₀:Nat} {W:World} {R:Nat} {raw l:List Int} (h:AtE n₀ W R raw l):At n₀ W R raw l:=by
 obtain ⟨v,a,h1,_,h2⟩:=h
 exact ⟨v,a,h1,h2⟩
theorem AtE.kept {n₀:Nat} {W W':World} {R:Nat} {raw l:List Int} (h:AtE n₀ W R raw l) (g:W.grownBy W' none):AtE n₀ W' R raw l:=by
 obtain ⟨v,a,h1,h2,h3⟩:=h
 exact ⟨v,a,h1.kept g,h2,h3⟩
theorem At.goE {n₀:Nat} {W:World} {R:Nat} {raw l:List Int} (h:At n₀ W R raw l) (k:Nat) (hk:k ≤ l.length) (h0:l ≠ []):∃ a:Nat,W.cell? ⟨R,1,none⟩ = some (.int .i64 a) ∧ W.frozen? ⟨R,1,none⟩ = false ∧ (a:Int) ≤ 1000002 ∧
  ∀ u,u = .int .i64 ((a:Int) + k) → AtE n₀ (W.setCell ⟨R,1,none⟩ u) R raw (l.drop k):=by
 obtain ⟨v,a,hr,rfl⟩:=h
 have hm:=hr.most
 have hl:=hr.least
 refine ⟨a,hr.pair.c1,hr.pair.f1,by omega,fun u e => ?_⟩
 rw [Ne,List.drop_eq_nil_iff,List.length_map] at h0
 rw [List.length_drop,List.length_map] at hk
 refine ⟨v,a + k,?_,by omega,by rw [List.drop_drop]⟩
 rw [e,show ((a:Int) + k) = ((a + k:Nat):Int) by omega]
 exact hr.set (a + k) (by omega)
theorem AtE.go2 {n₀:Nat} {W:World} {R:Nat} {raw l:List Int} (h:AtE n₀ W R raw l):∃ a:Nat,W.cell? ⟨R,1,none⟩ = some (.int .i64 a) ∧ W.frozen? ⟨R,1,none⟩ = false ∧ (a:Int) ≤ 1000002 ∧
  ∀ u,u = .int .i64 ((a:Int) + 2) → At n₀ (W.setCell ⟨R,1,none⟩ u) R raw (l.drop 2):=by
 obtain ⟨v,a,hr,hle,rfl⟩:=h
 have hm:=hr.most
 refine ⟨a,hr.pair.c1,hr.pair.f1,by omega,fun u e => ⟨v,a + 2,?_,by rw [List.drop_drop]⟩⟩
 rw [e,show ((a:Int) + 2) = ((a + 2:Nat):Int) by omega]
 exact hr.set (a + 2) (by omega)
structure TsE (w:World) (raw:List Int) (v:Value) (ts:List Tk) (l:List Int) (X:World):Prop where
 ts:Ts w raw v ts l X
 ate:AtE w.heap.size X w.heap.size raw l
theorem TsE.at' {w:World} {raw:List Int} {v:Value} {ts:List Tk} {l:List Int} {X:World} (h:TsE w raw v ts l X):At w.heap.size X w.heap.size raw l:=h.ts.at'
theorem TsE.kept {w:World} {raw:List Int} {v:Value} {ts:List Tk} {l:List Int} {X Y:World} (h:TsE w raw v ts l X) (g:X.grownBy Y none):TsE w raw v ts l Y:=⟨h.ts.kept g,h.ate.kept g⟩
theorem Ts.step2E {w:World} {raw:List Int} {v:Value} {ts:List Tk} {l:List Int} {c d:Int} {X:World} (h:Ts w raw v ts (c :: d :: l) X):∃ a:Nat,X.cell? ⟨w.heap.size,1,none⟩ = some (.int .i64 a) ∧ X.frozen? ⟨w.heap.size,1,none⟩ = false ∧ (a:Int) ≤ 1000002 ∧
  ∀ u,u = .int .i64 ((a:Int) + 2) → TsE w raw v ts l (X.setCell ⟨w.heap.size,1,none⟩ u):=by
 obtain ⟨a,h1,h2,h3,h4⟩:=h.at'.goE 2 (by simp) (by simp)
 exact ⟨a,h1,h2,h3,fun u e => ⟨h.far (grown_set1 _ _ _) (h4 u e).at',h4 u e⟩⟩
theorem TsE.step {w:World} {raw:List Int} {v:Value} {ts:List Tk} {l:List Int} {c:Int} {X:World} (h:TsE w raw v ts (c :: l) X):∃ a:Nat,X.cell? ⟨w.heap.size,1,none⟩ = some (.int .i64 a) ∧ X.frozen? ⟨w.heap.size,1,none⟩ = false ∧ (a:Int) ≤ 1000002 ∧
  ∀ u,u = .int .i64 ((a:Int) + 1) → TsE w raw v ts l (X.setCell ⟨w.heap.size,1,none⟩ u):=by
 obtain ⟨a,h1,h2,h3,h4⟩:=h.at'.goE 1 (by simp) (by simp)
 exact ⟨a,h1,h2,h3,fun u e => ⟨h.ts.far (grown_set1 _ _ _) (h4 u e).at',h4 u e⟩⟩
theorem TsE.stop {w:World} {raw:List Int} {v:Value} {ts:List Tk} {l:List Int} {X:World} (h:TsE w raw v ts l X):∃ a:Nat,X.cell? ⟨w.heap.size,1,none⟩ = some (.int .i64 a) ∧ X.frozen? ⟨w.heap.size,1,none⟩ = false ∧ (a:Int) ≤ 1000002 ∧
  ∀ u,u = .int .i64 ((a:Int) + 2) → Ts w raw v ts (l.drop 2) (X.setCell ⟨w.heap.size,1,none⟩ u):=by
 obtain ⟨a,h1,h2,h3,h4⟩:=h.ate.go2
 exact ⟨a,h1,h2,h3,fun u e => h.ts.far (grown_set1 _ _ _) (h4 u e)⟩
theorem size_setCell' (X:World) (a:Addr) (u:Value):(X.setCell a u).heap.size = X.heap.size:=by simp [World.setCell]
theorem cells_new_set (X:World) (a:Addr) (u:Value) (l:List Value) (ty:TypeId):∀ j y,l[j]? = some y → ((X.setCell a u).alloc (.cells l.toArray ty)).cell? ((⟨X.heap.size,0,none⟩:Addr).add j) = some y:=by
 have:=cells_new (X.setCell a u) l ty
 rw [size_setCell'] at this
 exact this
theorem begNum_first {c:Int} {r:List Int} (h:begNum (c :: r) = true):(48 ≤ c ∧ c ≤ 57) ∨ c = 43 ∨ c = 45 ∨ c = 46:=by
 rw [begNum_eq,see_zero] at h
 split at h
 ·omega
 ·rw [Bool.or_eq_true,Bool.and_eq_true,isDigit_iff] at h
  rcases h with h | ⟨h,_⟩
  ·exact .inl h
  ·exact .inr (.inr (.inr (by simpa using h)))
theorem begName_first {c:Int} {r:List Int} (h:begName (c :: r) = true):(97 ≤ c ∧ c ≤ 122) ∨ (65 ≤ c ∧ c ≤ 90) ∨ c = 95 ∨ 128 ≤ c ∨ c = 45 ∨ c = 92:=by
 have e:=begName_eq (c :: r) 0
 rw [List.drop_zero] at e
 rw [e,see_zero] at h
 split at h
 ·omega
 ·rw [Bool.or_eq_true,nameStart_iff] at h
  rcases h with h | h
  ·omega
  ·unfold escAt at h
   rw [see_zero] at h
   have:c = 92:=by
    have:=(Bool.and_eq_true _ _ ▸ (Bool.and_eq_true _ _ ▸ h).1).1
    simpa using this
   omega
theorem sign_ge (c:Int):0 ≤ sign c:=by
 unfold sign
 repeat' split
 all_goals omega
theorem fin_some {ts A:List Tk} {c:Int} {r L:List Int} {x:Tk} (hs:step nv (c :: r) = (some x,L)) (e:ts ++ toks nv (c :: r) = A):(ts ++ [x]) ++ toks nv L = A:=by
 rw [← e,toks_cons,hs]
 simp
theorem fin_none {ts A:List Tk} {c:Int} {r L:List Int} (hs:step nv (c :: r) = (none,L)) (e:ts ++ toks nv (c :: r) = A):ts ++ toks nv L = A:=by
 rw [← e,toks_cons,hs]
 simp
theorem fin_len {ts A:List Tk} {L:List Int} (e:ts ++ toks nv L = A) (h:A.length ≤ 1000000):ts.length ≤ 1000000:=by
 rw [← e,List.length_append] at h
 omega
/-! ### the arms of the switch, out of the function's own code -/
def sndC:Code → Code
 | .seq _ b => b
 | c => c
def fstC:Code → Code
 | .seq a _ => a
 | c => c
def blkC:Code → Code
 | .block _ c => c
 | c => c
def lopC:Code → Code
 | .loop c => c
 | c => c
def thnC:Code → Code
 | .cond _ a _ => a
 | c => c
def elsC:Code → Code
 | .cond _ _ a => a
 | c => c
def sw (b:Code):Code:=blkC (sndC (sndC (sndC (blkC (sndC (lopC (blkC (fstC (sndC (sndC (sndC b)))))))))))
def nth (c:Code):Nat → Code
 | 0 => c
 | k + 1 => elsC (sndC (nth c k))
def frag (f:Func) (k:Nat):Option Code:=f.body.map fun b => if k < 8 then thnC (sndC (nth (sw b) k)) else nth (sw b) 8
def fragE (f:Func):Option Code:=f.body.map fun b => nth (sw b) 3
set_option maxHeartbeats 4000000 in
theorem arm_comment {x0 x1 x2 x6 x7 x8 x9 x10 x11 x12 x13 x14 x15 x16 x17 x18 x19 x20 x21 x22 x23 x24 x25 x26 x27 x28 x29 x30 x31 x32 x33 x34 x35 x36 x37 x38 x39 x40 x41 x42 x43 x44 x45 x46 x47 x48 x49 x50 x51 x52 x53 x54 x55 x56 x57 x58 x59 x60 x61 x62 x63 x64 x65 x66 x67 x68 x69 x70 x71 x72 x73 x74 x75 x76 x77 x78 x79 x80 x81 x82 x83 x84 x85 x86 x87 x88 x89 x90 x91 x92 x93 x94 x95 x96 x97 x98 x99 x100 x101 x102 x103 x104 x105 x106 x107 x108 x109 x110 x111 x112 x113 x114 x115 x116 x117 x118 x119 x120 x121 x122 x123 x124 x125 x126 x127 x128 x129 x130 x131 x132 x133 x134 x135 x136 x137 x138 x139 x140 x141 x142 x143 x144 x145 x146 x147 x148 x149 x150 x151 x152 x153 x154 x155 x156 x157 x158 x159 x160 x161 x162 x163 x164 x165 x166 x167 x168 x169 x170 x171 x172 x173 x174 x175 x176 x177 x178 x179 x180 x181 x182 x183 x184 x185 x186 x187 x188 x189 x190 x191 x192 x193 x194 x195 x196 x197 x198 x199 x200 x201 x202 x203 x204 x205 x206 x207:Value} {w X:World} {raw r:List Int} {v:Value} {ts:List Tk} {c:Int} {code:Code} {Q:Exit → Act → World → Prop} (hcode:frag Tryz.f11 0 = some code)
  (hT:Ts w raw v ts (c :: 42 :: r) X) (_hb:ts.length ≤ 1000000) (hFin:∀ {y45 y46 y47 y48 y49 y50 y51 y52 y53 y54 y55 y56 y57 y58 y59 y60 y61 y62 y63 y64 y65 y66 y67 y68 y69 y70 y71 y72 y73 y74 y75 y76 y77 y78 y79 y80:Value} {W':World},Ts w raw v ts (skipC r) W' → Q .normal { tmps:=#[x0,x1,x2,.pointer (some ⟨w.heap.size,0,none⟩),v,.int .i64 c,x6,x7,x8,x9,x10,x11,x12,x13,x14,x15,x16,x17,x18,x19,x20,x21,x22,x23,x24,x25,x26,x27,x28,x29,x30,x31,x32,x33,x34,x35,x36,x37,x38,x39,x40,x41,x42,x43,x44,y45,y46,y47,y48,y49,y50,y51,y52,y53,y54,y55,y56,y57,y58,y59,y60,y61,y62,y63,y64,y65,y66,y67,y68,y69,y70,y71,y72,y73,y74,y75,y76,y77,y78,y79,y80,x81,x82,x83,x84,x85,x86,x87,x88,x89,x90,x91,x92,x93,x94,x95,x96,x97,x98,x99,x100,x101,x102,x103,x104,x105,x106,x107,x108,x109,x110,x111,x112,x113,x114,x115,x116,x117,x118,x119,x120,x121,x122,x123,x124,x125,x126,x127,x128,x129,x130,x131,x132,x133,x134,x135,x136,x137,x138,x139,x140,x141,x142,x143,x144,x145,x146,x147,x148,x149,x150,x151,x152,x153,x154,x155,x156,x157,x158,x159,x160,x161,x162,x163,x164,x165,x166,x167,x168,x169,x170,x171,x172,x173,x174,x175,x176,x177,x178,x179,x180,x181,x182,x183,x184,x185,x186,x187,x188,x189,x190,x191,x192,x193,x194,x195,x196,x197,x198,x199,x200,x201,x202,x203,x204,x205,x206,x207],defers:=[] } W') :
  Code.wp Tryz.prog code Q { tmps:=#[x0,x1,x2,.pointer (some ⟨w.heap.size,0,none⟩),v,.int .i64 c,x6,x7,x8,x9,x10,x11,x12,x13,x14,x15,x16,x17,x18,x19,x20,x21,x22,x23,x24,x25,x26,x27,x28,x29,x30,x31,x32,x33,x34,x35,x36,x37,x38,x39,x40,x41,x42,x43,x44,x45,x46,x47,x48,x49,x50,x51,x52,x53,x54,x55,x56,x57,x58,x59,x60,x61,x62,x63,x64,x65,x66,x67,x68,x69,x70,x71,x72,x73,x74,x75,x76,x77,x78,x79,x80,x81,x82,x83,x84,x85,x86,x87,x88,x89,x90,x91,x92,x93,x94,x95,x96,x97,x98,x99,x100,x101,x102,x103,x104,x105,x106,x107,x108,x109,x110,x111,x112,x113,x114,x115,x116,x117,x118,x119,x120,x121,x122,x123,x124,x125,x126,x127,x128,x129,x130,x131,x132,x133,x134,x135,x136,x137,x138,x139,x140,x141,x142,x143,x144,x145,x146,x147,x148,x149,x150,x151,x152,x153,x154,x155,x156,x157,x158,x159,x160,x161,x162,x163,x164,x165,x166,x167,x168,x169,x170,x171,x172,x173,x174,x175,x176,x177,x178,x179,x180,x181,x182,x183,x184,x185,x186,x187,x188,x189,x190,x191,x192,x193,x194,x195,x196,x197,x198,x199,x200,x201,x202,x203,x204,x205,x206,x207],defers:=[] } X:=by
 obtain ⟨i0,hi,hz0,hz1,hz2⟩:=info_parts infoTk
 have hcode':=(Option.some.inj (show some _ = some code from hcode)).symm
 conv at hcode' => rhs;whnf
 subst hcode'
 clear hcode
 obtain ⟨a,ca,fa,ha,hst⟩:=hT.step2E
 clear hi hz0 hz1 hz2
 go_wp2
 have hE:=hst _ rfl
 clear hst ca fa hT
 generalize World.setCell X _ _ = W6 at *
 obtain ⟨SK,hSK⟩:∃ SK,skipC r = SK:=⟨_,rfl⟩
 rw [hSK] at hFin
 go_loopw [] (fun wr => ∃ l',TsE w raw v ts l' wr ∧ skipC l' = SK) (fun wr => lenOf raw wr w.heap.size)
 case atStart => exact ⟨r,hE,hSK⟩
 case round =>
  clear hE hSK
  obtain ⟨l',hE,hk⟩:=hrel
  rename World => X
  have hm2:=hE.at'.lenOf
  have s0:=see0 hE.at'
  have s1:=see1 hE.at'
  have g0:X.grownBy X none:=World.grownBy.refl _ _
  cases l' with
  | nil =>
   have hk':SK = []:=hk.symm
   subst hk'
   clear hk
   rw [see_nil] at s0
   go_wp2_with fail
   refine (s0 _ g0).mono ?_
   rintro e W1 ⟨rfl,g1⟩
   obtain ⟨a,ca,fa,ha,hst⟩:=(hE.kept g1).stop
   go_wp2
   first | exact hFin (hst _ rfl) | exact (hst _ rfl)
  | cons d r' =>
   have hc0:0 ≤ d:=hE.at'.mem (List.mem_cons_self ..)
   rw [see_zero] at s0
   rw [see_succ] at s1
   go_wp2_with fail
   refine (s0 _ g0).mono ?_
   rintro e W1 ⟨rfl,g1⟩
   go_wp2_with fail
   refine (s0 _ g1).mono ?_
   rintro e W2 ⟨rfl,g2⟩
   by_cases h42:d = 42
   ·subst h42
    go_wp2_with fail
    refine (s1 _ g2).mono ?_
    rintro e W3 ⟨rfl,g3⟩
    by_cases h47:see r' 0 = 47
    ·have hk':SK = r'.tail:=by rw [← hk,skipC,if_pos ⟨rfl,h47⟩]
     subst hk'
     clear hk
     rw [h47]
     obtain ⟨a,ca,fa,ha,hst⟩:=(hE.kept g3).stop
     go_wp2
     have T9:=hst _ rfl
     rw [show (42 :: r').drop 2 = r'.tail by simp] at T9
     first | exact hFin T9 | exact T9
    ·have HK:Hid (skipC r' = SK):=by show _ = _;rw [← hk,skipC,if_neg (fun e => h47 e.2)]
     clear hk
     obtain ⟨a,ca,fa,ha,hst⟩:=(hE.kept g3).step
     generalize see r' 0 = x at *
     have h47':(x != 47) = true:=by simpa using h47
     go_wp2
     have E9:=hst _ rfl
     have hm9:=E9.at'.lenOf
     refine ⟨?_,by rw [hm2,hm9];simp⟩
     first
      | exact ⟨r',E9,HK⟩
      | ((repeat apply Exists.intro);exact ⟨⟨r',E9,HK⟩,rfl⟩)
   ·have HK:Hid (skipC r' = SK):=by show _ = _;rw [← hk,skipC,if_neg (fun e => h42 e.1)]
    clear hk
    have h42':(d != 42) = true:=by simpa using h42
    obtain ⟨a,ca,fa,ha,hst⟩:=(hE.kept g2).step
    go_wp2
    have E9:=hst _ rfl
    have hm9:=E9.at'.lenOf
    refine ⟨?_,by rw [hm2,hm9];simp⟩
    first
     | exact ⟨r',E9,HK⟩
     | ((repeat apply Exists.intro);exact ⟨⟨r',E9,HK⟩,rfl⟩)
set_option maxHeartbeats 4000000 in
theorem arm_white {x0 x1 x2 x6 x7 x8 x9 x10 x11 x12 x13 x14 x15 x16 x17 x18 x19 x20 x21 x22 x23 x24 x25 x26 x27 x28 x29 x30 x31 x32 x33 x34 x35 x36 x37 x38 x39 x40 x41 x42 x43 x44 x45 x46 x47 x48 x49 x50 x51 x52 x53 x54 x55 x56 x57 x58 x59 x60 x61 x62 x63 x64 x65 x66 x67 x68 x69 x70 x71 x72 x73 x74 x75 x76 x77 x78 x79 x80 x81 x82 x83 x84 x85 x86 x87 x88 x89 x90 x91 x92 x93 x94 x95 x96 x97 x98 x99 x100 x101 x102 x103 x104 x105 x106 x107 x108 x109 x110 x111 x112 x113 x114 x115 x116 x117 x118 x119 x120 x121 x122 x123 x124 x125 x126 x127 x128 x129 x130 x131 x132 x133 x134 x135 x136 x137 x138 x139 x140 x141 x142 x143 x144 x145 x146 x147 x148 x149 x150 x151 x152 x153 x154 x155 x156 x157 x158 x159 x160 x161 x162 x163 x164 x165 x166 x167 x168 x169 x170 x171 x172 x173 x174 x175 x176 x177 x178 x179 x180 x181 x182 x183 x184 x185 x186 x187 x188 x189 x190 x191 x192 x193 x194 x195 x196 x197 x198 x199 x200 x201 x202 x203 x204 x205 x206 x207:Value} {w X:World} {raw r:List Int} {v:Value} {ts:List Tk} {c:Int} {code:Code} {Q:Exit → Act → World → Prop} (hcode:frag Tryz.f11 1 = some code)
  (hT:Ts w raw v ts r X) (hb:ts.length ≤ 1000000) (hFin:∀ {y84 y85 y86 y87 y88 y89 y90 y91 y92 y93 y94 y95 y96 y97 v':Value} {W':World},Ts w raw v' (ts ++ [⟨9,[],0,false,0⟩]) (r.dropWhile isWhite) W' → Q .normal { tmps:=#[x0,x1,x2,.pointer (some ⟨w.heap.size,0,none⟩),v',.int .i64 c,x6,x7,x8,x9,x10,x11,x12,x13,x14,x15,x16,x17,x18,x19,x20,x21,x22,x23,x24,x25,x26,x27,x28,x29,x30,x31,x32,x33,x34,x35,x36,x37,x38,x39,x40,x41,x42,x43,x44,x45,x46,x47,x48,x49,x50,x51,x52,x53,x54,x55,x56,x57,x58,x59,x60,x61,x62,x63,x64,x65,x66,x67,x68,x69,x70,x71,x72,x73,x74,x75,x76,x77,x78,x79,x80,x81,x82,x83,y84,y85,y86,y87,y88,y89,y90,y91,y92,y93,y94,y95,y96,y97,x98,x99,x100,x101,x102,x103,x104,x105,x106,x107,x108,x109,x110,x111,x112,x113,x114,x115,x116,x117,x118,x119,x120,x121,x122,x123,x124,x125,x126,x127,x128,x129,x130,x131,x132,x133,x134,x135,x136,x137,x138,x139,x140,x141,x142,x143,x144,x145,x146,x147,x148,x149,x150,x151,x152,x153,x154,x155,x156,x157,x158,x159,x160,x161,x162,x163,x164,x165,x166,x167,x168,x169,x170,x171,x172,x173,x174,x175,x176,x177,x178,x179,x180,x181,x182,x183,x184,x185,x186,x187,x188,x189,x190,x191,x192,x193,x194,x195,x196,x197,x198,x199,x200,x201,x202,x203,x204,x205,x206,x207],defers:=[] } W') :
  Code.wp Tryz.prog code Q { tmps:=#[x0,x1,x2,.pointer (some ⟨w.heap.size,0,none⟩),v,.int .i64 c,x6,x7,x8,x9,x10,x11,x12,x13,x14,x15,x16,x17,x18,x19,x20,x21,x22,x23,x24,x25,x26,x27,x28,x29,x30,x31,x32,x33,x34,x35,x36,x37,x38,x39,x40,x41,x42,x43,x44,x45,x46,x47,x48,x49,x50,x51,x52,x53,x54,x55,x56,x57,x58,x59,x60,x61,x62,x63,x64,x65,x66,x67,x68,x69,x70,x71,x72,x73,x74,x75,x76,x77,x78,x79,x80,x81,x82,x83,x84,x85,x86,x87,x88,x89,x90,x91,x92,x93,x94,x95,x96,x97,x98,x99,x100,x101,x102,x103,x104,x105,x106,x107,x108,x109,x110,x111,x112,x113,x114,x115,x116,x117,x118,x119,x120,x121,x122,x123,x124,x125,x126,x127,x128,x129,x130,x131,x132,x133,x134,x135,x136,x137,x138,x139,x140,x141,x142,x143,x144,x145,x146,x147,x148,x149,x150,x151,x152,x153,x154,x155,x156,x157,x158,x159,x160,x161,x162,x163,x164,x165,x166,x167,x168,x169,x170,x171,x172,x173,x174,x175,x176,x177,x178,x179,x180,x181,x182,x183,x184,x185,x186,x187,x188,x189,x190,x191,x192,x193,x194,x195,x196,x197,x198,x199,x200,x201,x202,x203,x204,x205,x206,x207],defers:=[] } X:=by
 obtain ⟨i0,hi,hz0,hz1,hz2⟩:=info_parts infoTk
 have hcode':=(Option.some.inj (show some _ = some code from hcode)).symm
 conv at hcode' => rhs;whnf
 subst hcode'
 clear hcode
 obtain ⟨L2,hL2⟩:∃ L2,r.dropWhile isWhite = L2:=⟨_,rfl⟩
 rw [hL2] at hFin
 go_wp2_with fail
 go_loopw [] (fun wr => ∃ l',Ts w raw v ts l' wr ∧ l'.dropWhile isWhite = L2) (fun wr => lenOf raw wr w.heap.size)
 case atStart => exact ⟨r,hT,hL2⟩
 case round =>
  clear hT hL2
  obtain ⟨l',hT,hk⟩:=hrel
  rename World => X
  have hm2:=hT.at'.lenOf
  have s0:=see0 hT.at'
  have wh:=white_any (see l' 0)
  have g0:X.grownBy X none:=World.grownBy.refl _ _
  cases hw:isWhite (see l' 0) with
  | true =>
   obtain ⟨c2,r2,rfl⟩:∃ c2 r2,l' = c2 :: r2:=List.exists_cons_of_ne_nil (fun e => by rw [e] at hw;exact absurd hw (by decide))
   rw [hw] at wh
   rw [see_zero] at hw s0 wh
   have HK:Hid (r2.dropWhile isWhite = L2):=by show _ = _;rw [← hk,List.dropWhile_cons,if_pos hw]
   clear hk hw
   go_wp2_with fail
   refine (s0 _ g0).mono ?_
   rintro e W1 ⟨rfl,g1⟩
   go_wp2_with fail
   refine (wh _).mono ?_
   rintro e W1 ⟨rfl,rfl⟩
   obtain ⟨a,ca,fa,ha,hst⟩:=(hT.kept g1).step
   go_wp2
   have T9:=hst _ rfl
   have hm9:=T9.at'.lenOf
   refine ⟨?_,by rw [hm2,hm9];simp⟩
   first
    | exact ⟨r2,T9,HK⟩
    | ((repeat apply Exists.intro);exact ⟨⟨r2,T9,HK⟩,rfl⟩)
  | false =>
   have hk':l' = L2:=by
    rw [← hk]
    cases l' with
    | nil => rfl
    | cons c2 r2 => rw [see_zero] at hw;rw [List.dropWhile_cons,hw];rfl
   subst hk'
   rw [hw] at wh
   clear hk hw
   go_wp2_with fail
   refine (s0 _ g0).mono ?_
   rintro e W1 ⟨rfl,g1⟩
   go_wp2_with fail
   refine (wh _).mono ?_
   rintro e W1 ⟨rfl,rfl⟩
   have T1:=hT.kept g1
   have hz:=T1.size
   go_wp2_with (at_builtin;refine wpList_append_own _ rfl _ _ 53 rfl (w.heap.size + 1) 85 i0 (.agg #[.int .i64 0,.string ⟨#[]⟩,.int .i64 0,.bool false,.int .i64 0]) 5 48 Tryz.underlying53 hi hz0 hz1 hz2 rfl (by decide) _ _ _ rfl (World.ownsRow.alloc T1.row _) ⟨W1.heap.size,0,none⟩ 1 1 (btCells (btOf ⟨9,[],0,false,0⟩)) rfl rfl (cells_new _ (btCells (btOf ⟨9,[],0,false,0⟩)) _) (btCells_one _) (by unfold maxLen;omega) (by omega) (by simp;omega) ?_;intro v' w' hown' hgrow' hnil')
   first | exact hFin (T1.push hgrow' hown') | exact T1.push hgrow' hown'
end Go.Proofs.YtcmmdojlhfmddaaGreat.Ref

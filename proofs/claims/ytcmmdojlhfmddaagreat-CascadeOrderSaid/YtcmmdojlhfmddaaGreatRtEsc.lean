/- The document's own questions on one code point. -/
import Derived.Test.YtcmmdojlhfmddaaGreatProg
import Derived.Test.YtcmmdojlhfmddaaGreatRight
import Derived.Test.YtcmmdojlhfmddaaGreatTkA
import Derived.Deep.RegionWith
import Derived.Deep.DeepCutAuto
import Derived.OwnWalk
import Derived.Deep.QuietTactic
import Derived.BigQuiet
import Derived.RangeFuncNested
import Derived.Maps.AppendAt
import Derived.Maps.Range
namespace Go.Proofs.YtcmmdojlhfmddaaGreat.Ref
open Go Go.RowKit
theorem ret_bool {a b:Bool} (h:a = true ↔ b = true):Ending.returned (.bool a) = .returned (.bool b):=by rw [Bool.eq_iff_iff.2 h]
theorem white_any (c:Int) (w:World):Calls Tryz.prog 25 #[.int .i64 c] w fun e w' => e = .returned (.bool (isWhite c)) ∧ w' = w:=by
 go_enter Tryz.func25,Tryz.ntmps25
 go_wp2
 all_goals go_ret
 all_goals refine ⟨ret_bool ?_,rfl⟩
 all_goals (rw [isWhite_iff];try simp;try omega)
theorem digit_any (c:Int) (w:World):Calls Tryz.prog 52 #[.int .i64 c] w fun e w' => e = .returned (.bool (isDigit c)) ∧ w' = w:=by
 go_enter Tryz.func52,Tryz.ntmps52
 go_wp2
 all_goals go_ret
 all_goals refine ⟨ret_bool ?_,rfl⟩
 all_goals (rw [isDigit_iff];try simp;try omega)
set_option maxHeartbeats 1000000 in
theorem nameStart_any (c:Int) (w:World):Calls Tryz.prog 53 #[.int .i64 c] w fun e w' => e = .returned (.bool (nameStart c)) ∧ w' = w:=by
 go_enter Tryz.func53,Tryz.ntmps53
 go_wp2
 all_goals go_ret
 all_goals refine ⟨ret_bool ?_,rfl⟩
 all_goals (rw [nameStart_iff];try simp;try omega)
set_option maxHeartbeats 1000000 in
theorem namePoint_any (c:Int) (w:World):Calls Tryz.prog 27 #[.int .i64 c] w fun e w' => e = .returned (.bool (namePt c)) ∧ w' = w:=by
 have h1:=nameStart_any c
 have h2:=digit_any c
 rw [show namePt c = (nameStart c || isDigit c || c == 45) from rfl]
 generalize nameStart c = a at *
 generalize isDigit c = b at *
 cases a with
 | true =>
  go_enter Tryz.func27,Tryz.ntmps27
  go_wp2_with fail
  refine (h1 _).mono ?_
  rintro e w' ⟨rfl,rfl⟩
  go_wp2
  go_ret
  exact ⟨rfl,rfl⟩
 | false =>
  cases b with
  | true =>
   go_enter Tryz.func27,Tryz.ntmps27
   go_wp2_with fail
   refine (h1 _).mono ?_
   rintro e w' ⟨rfl,rfl⟩
   go_wp2_with fail
   refine (h2 _).mono ?_
   rintro e w' ⟨rfl,rfl⟩
   go_wp2
   go_ret
   exact ⟨rfl,rfl⟩
  | false =>
   go_enter Tryz.func27,Tryz.ntmps27
   go_wp2_with fail
   refine (h1 _).mono ?_
   rintro e w' ⟨rfl,rfl⟩
   go_wp2_with fail
   refine (h2 _).mono ?_
   rintro e w' ⟨rfl,rfl⟩
   go_wp2
   go_ret
   exact ⟨rfl,rfl⟩
set_option maxHeartbeats 1000000 in
theorem hex_any (c:Int) (w:World):Calls Tryz.prog 76 #[.int .i64 c] w fun e w' => e = .returned (.int .i64 (hexv c)) ∧ w' = w:=by
 by_cases hd:48 ≤ c ∧ c ≤ 57
 ·rw [show hexv c = c - 48 by unfold hexv;rw [if_pos hd]]
  go_enter Tryz.func76,Tryz.ntmps76
  go_wp2
  go_ret
  exact ⟨rfl,rfl⟩
 ·by_cases ha:97 ≤ c ∧ c ≤ 102
  ·rw [show hexv c = c - 97 + 10 by unfold hexv;rw [if_neg hd,if_pos ha]]
   go_enter Tryz.func76,Tryz.ntmps76
   go_wp2
   all_goals first | omega | (go_ret;exact ⟨rfl,rfl⟩)
  ·by_cases hb:65 ≤ c ∧ c ≤ 70
   ·rw [show hexv c = c - 65 + 10 by unfold hexv;rw [if_neg hd,if_neg ha,if_pos hb]]
    go_enter Tryz.func76,Tryz.ntmps76
    go_wp2
    all_goals first | omega | (go_ret;exact ⟨rfl,rfl⟩)
   ·rw [show hexv c = -1 by unfold hexv;rw [if_neg hd,if_neg ha,if_neg hb]]
    go_enter Tryz.func76,Tryz.ntmps76
    go_wp2
    all_goals first | omega | (go_ret;exact ⟨rfl,rfl⟩)
set_option maxHeartbeats 2000000 in
theorem sign_any (c:Int) (w:World):Calls Tryz.prog 31 #[.int .i64 c] w fun e w' => e = .returned (.int .i64 (sign c)) ∧ w' = w:=by
 by_cases h0:c = 58
 ·subst h0
  rw [show sign 58 = 11 from rfl]
  go_enter Tryz.func31,Tryz.ntmps31
  go_wp2
  go_ret
  exact ⟨rfl,rfl⟩
 by_cases h1:c = 59
 ·subst h1
  rw [show sign 59 = 12 from rfl]
  go_enter Tryz.func31,Tryz.ntmps31
  go_wp2
  go_ret
  exact ⟨rfl,rfl⟩
 by_cases h2:c = 44
 ·subst h2
  rw [show sign 44 = 13 from rfl]
  go_enter Tryz.func31,Tryz.ntmps31
  go_wp2
  go_ret
  exact ⟨rfl,rfl⟩
 by_cases h3:c = 123
 ·subst h3
  rw [show sign 123 = 14 from rfl]
  go_enter Tryz.func31,Tryz.ntmps31
  go_wp2
  go_ret
  exact ⟨rfl,rfl⟩
 by_cases h4:c = 125
 ·subst h4
  rw [show sign 125 = 15 from rfl]
  go_enter Tryz.func31,Tryz.ntmps31
  go_wp2
  go_ret
  exact ⟨rfl,rfl⟩
 by_cases h5:c = 40
 ·subst h5
  rw [show sign 40 = 16 from rfl]
  go_enter Tryz.func31,Tryz.ntmps31
  go_wp2
  go_ret
  exact ⟨rfl,rfl⟩
 by_cases h6:c = 41
 ·subst h6
  rw [show sign 41 = 17 from rfl]
  go_enter Tryz.func31,Tryz.ntmps31
  go_wp2
  go_ret
  exact ⟨rfl,rfl⟩
 by_cases h7:c = 91
 ·subst h7
  rw [show sign 91 = 18 from rfl]
  go_enter Tryz.func31,Tryz.ntmps31
  go_wp2
  go_ret
  exact ⟨rfl,rfl⟩
 by_cases h8:c = 93
 ·subst h8
  rw [show sign 93 = 19 from rfl]
  go_enter Tryz.func31,Tryz.ntmps31
  go_wp2
  go_ret
  exact ⟨rfl,rfl⟩
 rw [show sign c = 0 by unfold sign;rw [if_neg h0,if_neg h1,if_neg h2,if_neg h3,if_neg h4,if_neg h5,if_neg h6,if_neg h7,if_neg h8]]
 go_enter Tryz.func31,Tryz.ntmps31
 go_wp2
 go_ret
 exact ⟨rfl,rfl⟩
end Go.Proofs.YtcmmdojlhfmddaaGreat.Ref

/- The document's own reader: where it stands, what it sees, how it goes on. -/
set_option maxRecDepth 100000
namespace Go.Proofs.YtcmmdojlhfmddaaGreat.Ref
open Go Go.RowKit
/-! ### a struct of two cells in a block of its own -/
def Pair (W:World) (B:Nat) (t:TypeId) (v m:Value):Prop:=W.heap[B]? = some (.cells #[v,m] t (0,0))
theorem Pair.lt {W:World} {B:Nat} {t:TypeId} {v m:Value} (h:Pair W B t v m):B < W.heap.size:=(Array.getElem?_eq_some_iff.1 h).1
theorem Pair.c0 {W:World} {B:Nat} {t:TypeId} {v m:Value} (h:Pair W B t v m):W.cell? ⟨B,0,none⟩ = some v:=by simp [World.cell?,show W.heap[B]? = _ from h]
theorem Pair.c1 {W:World} {B:Nat} {t:TypeId} {v m:Value} (h:Pair W B t v m):W.cell? ⟨B,1,none⟩ = some m:=by simp [World.cell?,show W.heap[B]? = _ from h]
theorem Pair.f1 {W:World} {B:Nat} {t:TypeId} {v m:Value} (h:Pair W B t v m):W.frozen? ⟨B,1,none⟩ = false:=by simp [World.frozen?,show W.heap[B]? = _ from h]
theorem Pair.set1 {W:World} {B:Nat} {t:TypeId} {v m:Value} (h:Pair W B t v m) (u:Value):Pair (W.setCell ⟨B,1,none⟩ u) B t v u:=by
 unfold Pair at h ⊢
 simp [World.setCell,Array.getElem?_modify,h]
theorem Pair.kept {W W':World} {row:Option Nat} {B:Nat} {t:TypeId} {v m:Value} (h:Pair W B t v m) (hg:W.grownBy W' row) (hne:some B ≠ row):Pair W' B t v m:=(hg.block B h.lt hne).trans h
theorem grown_set1 (W:World) (b:Nat) (v:Value):W.grownBy (W.setCell ⟨b,1,none⟩ v) (some b):=
 ⟨rfl,rfl,rfl,by simp [World.setCell],fun i _ hne => Below.heap_setCell _ _ _ _ (fun e => hne (by rw [e]))⟩
theorem grown_drewN (W:World) (n:Nat) (row:Option Nat):W.grownBy (W.drewN n) row:=⟨rfl,rfl,rfl,Nat.le_refl _,fun _ _ _ => rfl⟩
theorem grown_but {a c:World} (h:a.grownBy c none) (row:Option Nat):a.grownBy c row:=⟨h.os,h.tape,h.output,h.size,fun i hi _ => h.block i hi (by simp)⟩
theorem below_of_grown {W W':World} {R:Nat} (h:W.grownBy W' (some R)) (hR:R ≤ W.heap.size):Below R W W':=
 (Below.refl R W).grown h hR (fun r e => by cases e;exact Nat.le_refl _)
theorem below_of_still {W W':World} (h:W.grownBy W' none) (R:Nat) (hR:R ≤ W.heap.size):Below R W W':=
 (Below.refl R W).grown h hR (fun r e => by cases e)
structure Rd (n₀:Nat) (W:World) (R:Nat) (v:Value) (raw:List Int) (a:Nat):Prop where
 pair:Pair W R 82 v (.int .i64 a)
 ints:IntsAt n₀ W v raw
 low:n₀ ≤ R
 least:a ≤ raw.length + 2
 most:raw.length ≤ 1000000
def At (n₀:Nat) (W:World) (R:Nat) (raw l:List Int):Prop:=∃ v a,Rd n₀ W R v raw a ∧ l = (raw.map fixC).drop a
theorem Rd.kept {W W':World} {n₀ R:Nat} {v:Value} {raw:List Int} {a:Nat} (h:Rd n₀ W R v raw a) (hg:W.grownBy W' none):Rd n₀ W' R v raw a:=
 ⟨h.pair.kept hg (by simp),h.ints.below (below_of_still hg n₀ (Nat.le_trans h.low (Nat.le_of_lt h.pair.lt))),h.low,h.least,h.most⟩
theorem At.kept {W W':World} {n₀ R:Nat} {raw l:List Int} (h:At n₀ W R raw l) (hg:W.grownBy W' none):At n₀ W' R raw l:=by
 obtain ⟨v,a,hr,e⟩:=h
 exact ⟨v,a,hr.kept hg,e⟩
theorem At.lt {W:World} {n₀ R:Nat} {raw l:List Int} (h:At n₀ W R raw l):R < W.heap.size:=by
 obtain ⟨v,a,hr,_⟩:=h
 exact hr.pair.lt
theorem Rd.set {W:World} {n₀ R:Nat} {v:Value} {raw:List Int} {a:Nat} (h:Rd n₀ W R v raw a) (k:Nat) (hk:k ≤ raw.length + 2):Rd n₀ (W.setCell ⟨R,1,none⟩ (.int .i64 k)) R v raw k:=
 ⟨h.pair.set1 _,h.ints.below ((below_of_grown (grown_set1 W R _) (Nat.le_of_lt h.pair.lt)).mono h.low),h.low,hk,h.most⟩
theorem see_drop (l:List Int) (a k:Nat):see (l.drop a) k = see l (a + k):=by simp [see,List.getElem?_drop]
theorem see_raw {raw:List Int} {k:Nat} (h:k < raw.length):see (raw.map fixC) k = fixC raw[k]:=by simp [see,h]
theorem see_out {l:List Int} {k:Nat} (h:l.length ≤ k):see l k = -1:=by simp [see,h]
theorem At.kept_far {W W':World} {n₀ R:Nat} {row:Option Nat} {raw l:List Int} (h:At n₀ W R raw l) (hg:W.grownBy W' row) (hr:∀ j,row = some j → R < j):At n₀ W' R raw l:=by
 obtain ⟨v,a,hd,e⟩:=h
 exact ⟨v,a,⟨hd.pair.kept hg (fun e => by have:=hr _ e.symm;omega),hd.ints.below (((Below.refl R W).grown hg (Nat.le_of_lt hd.pair.lt) (fun r e => by have:=hr r e;omega)).mono hd.low),hd.low,hd.least,hd.most⟩,e⟩
theorem owns_far {X Y:World} {b R:Nat} {e:TypeId} {size:Nat} {v:Value} {m:Nat} {xs:List Value} (h:X.ownsRow b e size v m xs) (hg:X.grownBy Y (some R)) (hR:R < b):Y.ownsRow b e size v m xs:=
 h.kept hg (.inr (fun e => by have:=h.lt R e;omega))
theorem At.len {W:World} {n₀ R:Nat} {raw l:List Int} (h:At n₀ W R raw l):l.length ≤ raw.length ∧ raw.length ≤ 1000000:=by
 obtain ⟨v,a,hr,rfl⟩:=h
 refine ⟨?_,hr.most⟩
 rw [List.length_drop,List.length_map]
 omega
theorem At.see_ge {W:World} {n₀ R:Nat} {raw l:List Int} (h:At n₀ W R raw l) (k:Nat):see l k = -1 ∨ 0 ≤ see l k:=by
 obtain ⟨v,a,hr,rfl⟩:=h
 rw [see_drop]
 by_cases hk:a + k < raw.length
 ·rw [see_raw hk]
  exact .inr (fixC_right _).1
 ·exact .inl (see_out (by rw [List.length_map];omega))
def lenOf (raw:List Int) (W:World) (R:Nat):Nat:=match W.cell? ⟨R,1,none⟩ with
 | some (.int .i64 a) => raw.length - a.toNat
 | _ => 0
theorem At.lenOf {W:World} {n₀ R:Nat} {raw l:List Int} (h:At n₀ W R raw l):lenOf raw W R = l.length:=by
 obtain ⟨v,a,hr,rfl⟩:=h
 unfold Ref.lenOf
 rw [hr.pair.c1,List.length_drop,List.length_map]
 simp
theorem At.cell {W:World} {n₀ R:Nat} {raw l:List Int} (h:At n₀ W R raw l):∃ a:Nat,W.cell? ⟨R,1,none⟩ = some (.int .i64 a) ∧ W.frozen? ⟨R,1,none⟩ = false ∧ (a:Int) ≤ 1000002 ∧
  (∀ k:Nat,k ≤ l.length + 2 → a + l.length = raw.length → At n₀ (W.setCell ⟨R,1,none⟩ (.int .i64 ((a:Int) + k))) R raw (l.drop k)) ∧ (l ≠ [] → a + l.length = raw.length) ∧ W.grownBy W none:=by
 obtain ⟨v,a,hr,rfl⟩:=h
 have hm:=hr.most
 have hl:=hr.least
 refine ⟨a,hr.pair.c1,hr.pair.f1,by omega,fun k hk he => ⟨v,a + k,?_,by rw [List.drop_drop]⟩,fun hne => ?_,World.grownBy.refl _ _⟩
 ·have e:((a:Int) + k) = ((a + k:Nat):Int):=by omega
  rw [e]
  exact hr.set (a + k) (by rw [List.length_drop,List.length_map] at hk he;omega)
 ·rw [Ne,List.drop_eq_nil_iff,List.length_map] at hne
  rw [List.length_drop,List.length_map]
  omega
set_option maxHeartbeats 1000000 in
theorem see_any (n:Nat) (hn:n ≤ 10) {w:World} {n₀ R:Nat} {raw l:List Int} (h:At n₀ w R raw l) :
  Calls Tryz.prog 22 #[.pointer (some ⟨R,0,none⟩),.int .i64 n] w fun e w' => e = .returned (.int .i64 (see l n)) ∧ w.grownBy w' none:=by
 obtain ⟨v,a,hr,rfl⟩:=h
 obtain ⟨p,cap,rfl⟩:=hr.ints.len
 have c0:=hr.pair.c0
 have c1:=hr.pair.c1
 have ha:=hr.least
 have hm:=hr.most
 have hw:IntKind.i64.wrap ((a:Int) + (n:Int)) = ((a + n:Nat):Int):=by rw [IntKind.wrap_i64];omega
 rw [see_drop]
 by_cases hlt:a + n < raw.length
 ·obtain ⟨bk,off,hp,hcell⟩:∃ bk off,p = some ⟨bk,off,none⟩ ∧ ∀ j u,raw[j]? = some u → w.cell? ⟨bk,off + j,none⟩ = some (.int .i64 u):=by
   rcases hr.ints with ⟨rfl,_⟩ | ⟨bk,off,c,e,_,_,_,h⟩
   ·simp at hlt
   ·cases e;exact ⟨bk,off,rfl,h⟩
  subst hp
  have c2:=hcell (a + n) _ (List.getElem?_eq_getElem hlt)
  have hs:=right_any raw[a + n]
  rw [see_raw hlt]
  clear hcell hr
  generalize raw[a + n] = u at *
  have hi:((a + n:Nat):Int) < (raw.length:Int):=by omega
  have hg:¬ (raw.length:Int) ≤ ((a + n:Nat):Int):=by omega
  generalize a + n = m at *
  cases hb:rightB u with
  | true =>
   rw [hb] at hs
   rw [fixC_yes hb]
   go_enter Tryz.func22,Tryz.ntmps22
   go_wp2
   go_quiet (fail)
   have d0:(w.drewN nq).cell? _ = _:=c0
   have d1:(w.drewN nq).cell? _ = _:=c1
   have d2:(w.drewN nq).cell? _ = _:=c2
   have g1:w.grownBy (w.drewN nq) none:=grown_drewN _ _ _
   generalize w.drewN nq = w1 at *
   clear c0 c1 c2
   go_wp2
   go_quiet (fail)
   have g2:w.grownBy (w1.drewN nq) none:=g1.trans (grown_drewN _ _ _)
   generalize w1.drewN nq = w2 at *
   go_wp2_with fail
   refine (hs _).mono ?_
   rintro e w' ⟨rfl,rfl⟩
   go_wp2
   go_ret
   exact ⟨rfl,g2⟩
  | false =>
   rw [hb] at hs
   rw [fixC_no hb]
   go_enter Tryz.func22,Tryz.ntmps22
   go_wp2
   go_quiet (fail)
   have d0:(w.drewN nq).cell? _ = _:=c0
   have d1:(w.drewN nq).cell? _ = _:=c1
   have d2:(w.drewN nq).cell? _ = _:=c2
   have g1:w.grownBy (w.drewN nq) none:=grown_drewN _ _ _
   generalize w.drewN nq = w1 at *
   clear c0 c1 c2
   go_wp2
   go_quiet (fail)
   have g2:w.grownBy (w1.drewN nq) none:=g1.trans (grown_drewN _ _ _)
   generalize w1.drewN nq = w2 at *
   go_wp2_with fail
   refine (hs _).mono ?_
   rintro e w' ⟨rfl,rfl⟩
   go_wp2
   go_ret
   exact ⟨rfl,g2⟩
 ·rw [see_out (by rw [List.length_map];omega)]
  have hg:(raw.length:Int) ≤ ((a + n:Nat):Int):=by omega
  clear hr
  generalize a + n = m at *
  go_enter Tryz.func22,Tryz.ntmps22
  go_wp2
  go_quiet (fail)
  go_wp2
  all_goals first | omega | skip
  go_ret
  exact ⟨rfl,grown_drewN _ _ _⟩
end Go.Proofs.YtcmmdojlhfmddaaGreat.Ref

/- The document's own reader: what begins where it stands. -/
namespace Go.Proofs.YtcmmdojlhfmddaaGreat.Ref
open Go Go.RowKit
theorem see0 {w:World} {n₀ R:Nat} {raw l:List Int} (h:At n₀ w R raw l):∀ W,w.grownBy W none →
  Calls Tryz.prog 22 #[.pointer (some ⟨R,0,none⟩),.int .i64 0] W fun e w' => e = .returned (.int .i64 (see l 0)) ∧ w.grownBy w' none:=
 fun _ g => (see_any 0 (by omega) (h.kept g)).mono fun _ _ ⟨a,b⟩ => ⟨a,g.trans b⟩
theorem see1 {w:World} {n₀ R:Nat} {raw l:List Int} (h:At n₀ w R raw l):∀ W,w.grownBy W none →
  Calls Tryz.prog 22 #[.pointer (some ⟨R,0,none⟩),.int .i64 1] W fun e w' => e = .returned (.int .i64 (see l 1)) ∧ w.grownBy w' none:=
 fun _ g => (see_any 1 (by omega) (h.kept g)).mono fun _ _ ⟨a,b⟩ => ⟨a,g.trans b⟩
theorem see2 {w:World} {n₀ R:Nat} {raw l:List Int} (h:At n₀ w R raw l):∀ W,w.grownBy W none →
  Calls Tryz.prog 22 #[.pointer (some ⟨R,0,none⟩),.int .i64 2] W fun e w' => e = .returned (.int .i64 (see l 2)) ∧ w.grownBy w' none:=
 fun _ g => (see_any 2 (by omega) (h.kept g)).mono fun _ _ ⟨a,b⟩ => ⟨a,g.trans b⟩
theorem seeN {w:World} {n₀ R:Nat} {raw l:List Int} (h:At n₀ w R raw l) (n:Nat) (hn:n ≤ 10):∀ W,w.grownBy W none →
  Calls Tryz.prog 22 #[.pointer (some ⟨R,0,none⟩),.int .i64 n] W fun e w' => e = .returned (.int .i64 (see l n)) ∧ w.grownBy w' none:=
 fun _ g => (see_any n hn (h.kept g)).mono fun _ _ ⟨a,b⟩ => ⟨a,g.trans b⟩
theorem seeM {w:World} {n₀ R:Nat} {raw l:List Int} (h:At n₀ w R raw l) (n:Nat) (hn:n ≤ 9):∀ W,w.grownBy W none →
  Calls Tryz.prog 22 #[.pointer (some ⟨R,0,none⟩),.int .i64 ((n:Int) + 1)] W fun e w' => e = .returned (.int .i64 (see l (n + 1))) ∧ w.grownBy w' none:=
 fun _ g => (see_any (n + 1) (by omega) (h.kept g)).mono fun _ _ ⟨a,b⟩ => ⟨a,g.trans b⟩
theorem escAt_eq (l:List Int) (n:Nat):escAt (l.drop n) = (see l n == 92 && decide (0 ≤ see l (n + 1)) && see l (n + 1) != 10):=by
 unfold escAt
 rw [see_drop,see_drop]
 rfl
set_option maxHeartbeats 1000000 in
theorem escape_any (n:Nat) (hn:n ≤ 3) {w:World} {n₀ R:Nat} {raw l:List Int} (h:At n₀ w R raw l):∀ W0,w.grownBy W0 none →
  Calls Tryz.prog 28 #[.pointer (some ⟨R,0,none⟩),.int .i64 n] W0 fun e w' => e = .returned (.bool (escAt (l.drop n))) ∧ w.grownBy w' none:=by
 intro W0 g0
 have s0:=seeN h n (by omega)
 have s1:=seeM h n (by omega)
 have hge:=h.see_ge (n + 1)
 rw [escAt_eq]
 clear h
 generalize see l (n + 1) = d at *
 generalize see l n = c at *
 by_cases hc:c = 92
 ·subst hc
  by_cases hd:0 ≤ d
  ·clear hge
   go_enter Tryz.func28,Tryz.ntmps28
   go_wp2_with fail
   refine (s0 _ g0).mono ?_
   rintro e W1 ⟨rfl,g1⟩
   go_wp2_with fail
   refine (s1 _ g1).mono ?_
   rintro e W2 ⟨rfl,g2⟩
   go_wp2_with fail
   refine (s1 _ g2).mono ?_
   rintro e W3 ⟨rfl,g3⟩
   go_wp2
   all_goals go_ret
   all_goals refine ⟨ret_bool ?_,g3⟩
   all_goals (simp;try omega)
  ·obtain rfl:d = -1:=by omega
   go_enter Tryz.func28,Tryz.ntmps28
   go_wp2_with fail
   refine (s0 _ g0).mono ?_
   rintro e W1 ⟨rfl,g1⟩
   go_wp2_with fail
   refine (s1 _ g1).mono ?_
   rintro e W2 ⟨rfl,g2⟩
   go_wp2
   go_ret
   exact ⟨rfl,g2⟩
 ·have hc':(c == 92) = false:=by simpa using hc
  rw [hc',Bool.false_and,Bool.false_and]
  go_enter Tryz.func28,Tryz.ntmps28
  go_wp2_with fail
  refine (s0 _ g0).mono ?_
  rintro e W1 ⟨rfl,g1⟩
  go_wp2
  go_ret
  exact ⟨rfl,g1⟩
theorem esc0 {w:World} {n₀ R:Nat} {raw l:List Int} (h:At n₀ w R raw l):∀ W,w.grownBy W none →
  Calls Tryz.prog 28 #[.pointer (some ⟨R,0,none⟩),.int .i64 0] W fun e w' => e = .returned (.bool (escAt l)) ∧ w.grownBy w' none:=escape_any 0 (by omega) h
theorem esc1 {w:World} {n₀ R:Nat} {raw l:List Int} (h:At n₀ w R raw l):∀ W,w.grownBy W none →
  Calls Tryz.prog 28 #[.pointer (some ⟨R,0,none⟩),.int .i64 1] W fun e w' => e = .returned (.bool (escAt l.tail)) ∧ w.grownBy w' none:=by
 have:=escape_any 1 (by omega) h
 rwa [List.drop_one] at this
theorem begName_eq (l:List Int) (n:Nat):begName (l.drop n) = if see l n = 45 then nameStart (see l (n + 1)) || see l (n + 1) == 45 || escAt (l.drop (n + 1)) else nameStart (see l n) || escAt (l.drop n):=by
 unfold begName
 rw [see_drop,see_drop,Nat.add_zero,List.tail_drop]
 by_cases h:see l n = 45
 ·rw [if_pos (by simpa using h),if_pos h]
 ·rw [if_neg (by simpa using h),if_neg h]
set_option maxHeartbeats 2000000 in
theorem begins_any (n:Nat) (hn:n ≤ 2) {w:World} {n₀ R:Nat} {raw l:List Int} (h:At n₀ w R raw l):∀ W0,w.grownBy W0 none →
  Calls Tryz.prog 24 #[.pointer (some ⟨R,0,none⟩),.int .i64 n] W0 fun e w' => e = .returned (.bool (begName (l.drop n))) ∧ w.grownBy w' none:=by
 intro W0 g0
 have s0:=seeN h n (by omega)
 have s1:=seeM h n (by omega)
 have e0:=escape_any n (by omega) h
 have e1:∀ W,w.grownBy W none → Calls Tryz.prog 28 #[.pointer (some ⟨R,0,none⟩),.int .i64 ((n:Int) + 1)] W fun e w' => e = .returned (.bool (escAt (l.drop (n + 1)))) ∧ w.grownBy w' none:=escape_any (n + 1) (by omega) h
 have n0:=nameStart_any (see l n)
 have n1:=nameStart_any (see l (n + 1))
 rw [begName_eq]
 clear h
 generalize escAt (l.drop (n + 1)) = E1 at *
 generalize escAt (l.drop n) = E0 at *
 generalize nameStart (see l (n + 1)) = N1 at *
 generalize see l (n + 1) = d at *
 by_cases hc:see l n = 45
 ·rw [if_pos hc]
  clear n0
  generalize see l n = c at *
  subst hc
  cases N1 with
  | true =>
   go_enter Tryz.func24,Tryz.ntmps24
   go_wp2_with fail
   refine (s0 _ g0).mono ?_
   rintro e W1 ⟨rfl,g1⟩
   go_wp2_with fail
   refine (s1 _ g1).mono ?_
   rintro e W2 ⟨rfl,g2⟩
   go_wp2_with fail
   refine (n1 _).mono ?_
   rintro e w' ⟨rfl,rfl⟩
   go_wp2
   go_ret
   exact ⟨rfl,g2⟩
  | false =>
   by_cases hd:d = 45
   ·subst hd
    go_enter Tryz.func24,Tryz.ntmps24
    go_wp2_with fail
    refine (s0 _ g0).mono ?_
    rintro e W1 ⟨rfl,g1⟩
    go_wp2_with fail
    refine (s1 _ g1).mono ?_
    rintro e W2 ⟨rfl,g2⟩
    go_wp2_with fail
    refine (n1 _).mono ?_
    rintro e w' ⟨rfl,rfl⟩
    go_wp2_with fail
    refine (s1 _ g2).mono ?_
    rintro e W3 ⟨rfl,g3⟩
    go_wp2
    go_ret
    exact ⟨rfl,g3⟩
   ·have hd':(d == 45) = false:=by simpa using hd
    rw [hd',Bool.false_or,Bool.false_or]
    go_enter Tryz.func24,Tryz.ntmps24
    go_wp2_with fail
    refine (s0 _ g0).mono ?_
    rintro e W1 ⟨rfl,g1⟩
    go_wp2_with fail
    refine (s1 _ g1).mono ?_
    rintro e W2 ⟨rfl,g2⟩
    go_wp2_with fail
    refine (n1 _).mono ?_
    rintro e w' ⟨rfl,rfl⟩
    go_wp2_with fail
    refine (s1 _ g2).mono ?_
    rintro e W3 ⟨rfl,g3⟩
    go_wp2_with fail
    refine (e1 _ g3).mono ?_
    rintro e W4 ⟨rfl,g4⟩
    go_wp2
    go_ret
    exact ⟨rfl,g4⟩
 ·rw [if_neg hc]
  generalize nameStart (see l n) = N0 at *
  generalize see l n = c at *
  have hc':(c == 45) = false:=by simpa using hc
  cases N0 with
  | true =>
   go_enter Tryz.func24,Tryz.ntmps24
   go_wp2_with fail
   refine (s0 _ g0).mono ?_
   rintro e W1 ⟨rfl,g1⟩
   go_wp2_with fail
   refine (n0 _).mono ?_
   rintro e w' ⟨rfl,rfl⟩
   go_wp2
   go_ret
   exact ⟨rfl,g1⟩
  | false =>
   go_enter Tryz.func24,Tryz.ntmps24
   go_wp2_with fail
   refine (s0 _ g0).mono ?_
   rintro e W1 ⟨rfl,g1⟩
   go_wp2_with fail
   refine (n0 _).mono ?_
   rintro e w' ⟨rfl,rfl⟩
   go_wp2_with fail
   refine (e0 _ g1).mono ?_
   rintro e W2 ⟨rfl,g2⟩
   go_wp2
   go_ret
   exact ⟨rfl,g2⟩
theorem beg0 {w:World} {n₀ R:Nat} {raw l:List Int} (h:At n₀ w R raw l):∀ W,w.grownBy W none →
  Calls Tryz.prog 24 #[.pointer (some ⟨R,0,none⟩),.int .i64 0] W fun e w' => e = .returned (.bool (begName l)) ∧ w.grownBy w' none:=begins_any 0 (by omega) h
theorem beg1 {w:World} {n₀ R:Nat} {raw l:List Int} (h:At n₀ w R raw l):∀ W,w.grownBy W none →
  Calls Tryz.prog 24 #[.pointer (some ⟨R,0,none⟩),.int .i64 1] W fun e w' => e = .returned (.bool (begName l.tail)) ∧ w.grownBy w' none:=by
 have:=begins_any 1 (by omega) h
 rwa [List.drop_one] at this
theorem see_tail (l:List Int) (k:Nat):see l.tail k = see l (k + 1):=by
 cases l with
 | nil => rfl
 | cons c r => rw [see_succ];rfl
theorem begNum_eq (l:List Int):begNum l = if see l 0 = 43 ∨ see l 0 = 45 then isDigit (see l 1) || (see l 1 == 46 && isDigit (see l 2)) else isDigit (see l 0) || (see l 0 == 46 && isDigit (see l 1)):=by
 unfold begNum unsign
 by_cases h:see l 0 = 43 ∨ see l 0 = 45
 ·rw [if_pos h,if_pos (by simpa using h),see_tail,see_tail]
 ·rw [if_neg h,if_neg (by simpa using h)]
set_option maxHeartbeats 2000000 in
theorem number_any {w:World} {n₀ R:Nat} {raw l:List Int} (h:At n₀ w R raw l):∀ W0,w.grownBy W0 none →
  Calls Tryz.prog 23 #[.pointer (some ⟨R,0,none⟩)] W0 fun e w' => e = .returned (.bool (begNum l)) ∧ w.grownBy w' none:=by
 intro W0 g0
 have s0:=see0 h
 have s1:=see1 h
 have s2:=see2 h
 have d0:=digit_any (see l 0)
 have d1:=digit_any (see l 1)
 have d2:=digit_any (see l 2)
 rw [begNum_eq]
 clear h
 by_cases hc:see l 0 = 43 ∨ see l 0 = 45
 ·rw [if_pos hc]
  clear d0
  generalize see l 0 = c at *
  generalize isDigit (see l 1) = D1 at *
  generalize see l 1 = x at *
  generalize isDigit (see l 2) = D2 at *
  generalize see l 2 = y at *
  rcases hc with rfl | rfl
  ·cases D1 with
   | true =>
    go_enter Tryz.func23,Tryz.ntmps23
    go_wp2_with fail
    refine (s0 _ g0).mono ?_
    rintro e W1 ⟨rfl,g1⟩
    go_wp2_with fail
    refine (s1 _ g1).mono ?_
    rintro e W2 ⟨rfl,g2⟩
    go_wp2_with fail
    refine (d1 _).mono ?_
    rintro e w' ⟨rfl,rfl⟩
    go_wp2
    go_ret
    exact ⟨rfl,g2⟩
   | false =>
    by_cases hx:x = 46
    ·subst hx
     rw [show (false || ((46:Int) == 46 && D2)) = D2 by simp]
     go_enter Tryz.func23,Tryz.ntmps23
     go_wp2_with fail
     refine (s0 _ g0).mono ?_
     rintro e W1 ⟨rfl,g1⟩
     go_wp2_with fail
     refine (s1 _ g1).mono ?_
     rintro e W2 ⟨rfl,g2⟩
     go_wp2_with fail
     refine (d1 _).mono ?_
     rintro e w' ⟨rfl,rfl⟩
     go_wp2_with fail
     refine (s1 _ g2).mono ?_
     rintro e W3 ⟨rfl,g3⟩
     go_wp2_with fail
     refine (s2 _ g3).mono ?_
     rintro e W4 ⟨rfl,g4⟩
     go_wp2_with fail
     refine (d2 _).mono ?_
     rintro e w' ⟨rfl,rfl⟩
     go_wp2
     go_ret
     exact ⟨rfl,g4⟩
    ·have hx':(x == 46) = false:=by simpa using hx
     rw [hx']
     go_enter Tryz.func23,Tryz.ntmps23
     go_wp2_with fail
     refine (s0 _ g0).mono ?_
     rintro e W1 ⟨rfl,g1⟩
     go_wp2_with fail
     refine (s1 _ g1).mono ?_
     rintro e W2 ⟨rfl,g2⟩
     go_wp2_with fail
     refine (d1 _).mono ?_
     rintro e w' ⟨rfl,rfl⟩
     go_wp2_with fail
     refine (s1 _ g2).mono ?_
     rintro e W3 ⟨rfl,g3⟩
     go_wp2
     go_ret
     exact ⟨rfl,g3⟩
  ·cases D1 with
   | true =>
    go_enter Tryz.func23,Tryz.ntmps23
    go_wp2_with fail
    refine (s0 _ g0).mono ?_
    rintro e W1 ⟨rfl,g1⟩
    go_wp2_with fail
    refine (s0 _ g1).mono ?_
    rintro e W2 ⟨rfl,g2⟩
    go_wp2_with fail
    refine (s1 _ g2).mono ?_
    rintro e W3 ⟨rfl,g3⟩
    go_wp2_with fail
    refine (d1 _).mono ?_
    rintro e w' ⟨rfl,rfl⟩
    go_wp2
    go_ret
    exact ⟨rfl,g3⟩
   | false =>
    by_cases hx:x = 46
    ·subst hx
     rw [show (false || ((46:Int) == 46 && D2)) = D2 by simp]
     go_enter Tryz.func23,Tryz.ntmps23
     go_wp2_with fail
     refine (s0 _ g0).mono ?_
     rintro e W1 ⟨rfl,g1⟩
     go_wp2_with fail
     refine (s0 _ g1).mono ?_
     rintro e W2 ⟨rfl,g2⟩
     go_wp2_with fail
     refine (s1 _ g2).mono ?_
     rintro e W3 ⟨rfl,g3⟩
     go_wp2_with fail
     refine (d1 _).mono ?_
     rintro e w' ⟨rfl,rfl⟩
     go_wp2_with fail
     refine (s1 _ g3).mono ?_
     rintro e W4 ⟨rfl,g4⟩
     go_wp2_with fail
     refine (s2 _ g4).mono ?_
     rintro e W5 ⟨rfl,g5⟩
     go_wp2_with fail
     refine (d2 _).mono ?_
     rintro e w' ⟨rfl,rfl⟩
     go_wp2
     go_ret
     exact ⟨rfl,g5⟩
    ·have hx':(x == 46) = false:=by simpa using hx
     rw [hx']
     go_enter Tryz.func23,Tryz.ntmps23
     go_wp2_with fail
     refine (s0 _ g0).mono ?_
     rintro e W1 ⟨rfl,g1⟩
     go_wp2_with fail
     refine (s0 _ g1).mono ?_
     rintro e W2 ⟨rfl,g2⟩
     go_wp2_with fail
     refine (s1 _ g2).mono ?_
     rintro e W3 ⟨rfl,g3⟩
     go_wp2_with fail
     refine (d1 _).mono ?_
     rintro e w' ⟨rfl,rfl⟩
     go_wp2_with fail
     refine (s1 _ g3).mono ?_
     rintro e W4 ⟨rfl,g4⟩
     go_wp2
     go_ret
     exact ⟨rfl,g4⟩
 ·rw [if_neg hc]
  clear d2 s2
  generalize isDigit (see l 0) = D0 at *
  generalize see l 0 = c at *
  generalize isDigit (see l 1) = D1 at *
  generalize see l 1 = x at *
  have hc1:(c == 43) = false:=by simp;omega
  have hc2:(c == 45) = false:=by simp;omega
  cases D0 with
  | true =>
   go_enter Tryz.func23,Tryz.ntmps23
   go_wp2_with fail
   refine (s0 _ g0).mono ?_
   rintro e W1 ⟨rfl,g1⟩
   go_wp2_with fail
   refine (s0 _ g1).mono ?_
   rintro e W2 ⟨rfl,g2⟩
   go_wp2_with fail
   refine (s0 _ g2).mono ?_
   rintro e W3 ⟨rfl,g3⟩
   go_wp2_with fail
   refine (d0 _).mono ?_
   rintro e w' ⟨rfl,rfl⟩
   go_wp2
   go_ret
   exact ⟨rfl,g3⟩
  | false =>
   by_cases hx:c = 46
   ·subst hx
    rw [show (false || ((46:Int) == 46 && D1)) = D1 by simp]
    go_enter Tryz.func23,Tryz.ntmps23
    go_wp2_with fail
    refine (s0 _ g0).mono ?_
    rintro e W1 ⟨rfl,g1⟩
    go_wp2_with fail
    refine (s0 _ g1).mono ?_
    rintro e W2 ⟨rfl,g2⟩
    go_wp2_with fail
    refine (s0 _ g2).mono ?_
    rintro e W3 ⟨rfl,g3⟩
    go_wp2_with fail
    refine (d0 _).mono ?_
    rintro e w' ⟨rfl,rfl⟩
    go_wp2_with fail
    refine (s0 _ g3).mono ?_
    rintro e W4 ⟨rfl,g4⟩
    go_wp2_with fail
    refine (s1 _ g4).mono ?_
    rintro e W5 ⟨rfl,g5⟩
    go_wp2_with fail
    refine (d1 _).mono ?_
    rintro e w' ⟨rfl,rfl⟩
    go_wp2
    go_ret
    exact ⟨rfl,g5⟩
   ·have hx':(c == 46) = false:=by simpa using hx
    rw [hx']
    go_enter Tryz.func23,Tryz.ntmps23
    go_wp2_with fail
    refine (s0 _ g0).mono ?_
    rintro e W1 ⟨rfl,g1⟩
    go_wp2_with fail
    refine (s0 _ g1).mono ?_
    rintro e W2 ⟨rfl,g2⟩
    go_wp2_with fail
    refine (s0 _ g2).mono ?_
    rintro e W3 ⟨rfl,g3⟩
    go_wp2_with fail
    refine (d0 _).mono ?_
    rintro e w' ⟨rfl,rfl⟩
    go_wp2_with fail
    refine (s0 _ g3).mono ?_
    rintro e W4 ⟨rfl,g4⟩
    go_wp2
    go_ret
    exact ⟨rfl,g4⟩
end Go.Proofs.YtcmmdojlhfmddaaGreat.Ref

/- The document's own reader: escapes. -/
set_option maxRecDepth 100000
namespace Go.Proofs.YtcmmdojlhfmddaaGreat.Ref
open Go Go.RowKit
theorem At.step {W:World} {n₀ R:Nat} {raw l:List Int} {c:Int} (h:At n₀ W R raw (c :: l)):∃ a:Nat,W.cell? ⟨R,1,none⟩ = some (.int .i64 a) ∧ W.frozen? ⟨R,1,none⟩ = false ∧ (a:Int) ≤ 1000002 ∧
  ∀ u,u = .int .i64 ((a:Int) + 1) → At n₀ (W.setCell ⟨R,1,none⟩ u) R raw l ∧ W.grownBy (W.setCell ⟨R,1,none⟩ u) (some R):=by
 obtain ⟨a,h1,h2,h3,h4,h5,_⟩:=h.cell
 exact ⟨a,h1,h2,h3,fun u e => ⟨by rw [e];exact h4 1 (by simp) (h5 (by simp)),grown_set1 _ _ _⟩⟩
theorem At.step2 {W:World} {n₀ R:Nat} {raw l:List Int} {c d:Int} (h:At n₀ W R raw (c :: d :: l)):∃ a:Nat,W.cell? ⟨R,1,none⟩ = some (.int .i64 a) ∧ W.frozen? ⟨R,1,none⟩ = false ∧ (a:Int) ≤ 1000002 ∧
  ∀ u,u = .int .i64 ((a:Int) + 2) → At n₀ (W.setCell ⟨R,1,none⟩ u) R raw l ∧ W.grownBy (W.setCell ⟨R,1,none⟩ u) (some R):=by
 obtain ⟨a,h1,h2,h3,h4,h5,_⟩:=h.cell
 exact ⟨a,h1,h2,h3,fun u e => ⟨by rw [e];exact h4 2 (by simp) (h5 (by simp)),grown_set1 _ _ _⟩⟩
theorem hexv_le (c:Int):hexv c ≤ 15:=by
 unfold hexv
 split
 ·omega
 ·split
  ·omega
  ·split <;> omega
theorem hexPoint_bad {n:Int} (h:n = 0 ∨ rightB n = false) (h0:0 ≤ n):hexPoint n = 65533:=by
 unfold hexPoint
 rw [if_pos]
 rcases h with h | h
 ·exact .inl h
 ·have:¬ (0 ≤ n ∧ n ≤ 1114111 ∧ (n < 55296 ∨ 57343 < n)):=fun e => by rw [rightB_true e] at h;cases h
  omega
theorem hexPoint_good {n:Int} (h:n ≠ 0) (hr:rightB n = true):hexPoint n = n:=by
 have:=rightB_iff.1 hr
 unfold hexPoint
 rw [if_neg (by omega)]
def Hx (n₀:Nat) (w:World) (R:Nat) (raw:List Int) (all:Int × List Int) (k:Nat) (n:Int) (l:List Int) (W:World):Prop:=
 k ≤ 6 ∧ 0 ≤ n ∧ n ≤ 16777215 ∧ n < 16 ^ k ∧ hexRun (6 - k) n l = all ∧ At n₀ W R raw l ∧ w.grownBy W (some R)
theorem Hx.more {n₀:Nat} {w:World} {R:Nat} {raw:List Int} {all:Int × List Int} {k:Nat} {n c:Int} {l:List Int} {W W':World} (h:Hx n₀ w R raw all k n (c :: l) W) (hk:k < 6) (hc:0 ≤ hexv c) (hA:At n₀ W' R raw l) (hg:w.grownBy W' (some R)) :
  Hx n₀ w R raw all (k + 1) (n * 16 + hexv c) l W':=by
 obtain ⟨h1,h2,h3,h4,h5,_,_⟩:=h
 have:=hexv_le c
 have hp:(16:Int) ^ (k + 1) = 16 ^ k * 16:=Int.pow_succ 16 k
 have hb:(16:Int) ^ (k + 1) ≤ 16777216:=by
  have:k = 0 ∨ k = 1 ∨ k = 2 ∨ k = 3 ∨ k = 4 ∨ k = 5:=by omega
  rcases this with rfl | rfl | rfl | rfl | rfl | rfl <;> decide
 refine ⟨by omega,by omega,by omega,by omega,?_,hA,hg⟩
 rw [← h5,show 6 - k = (6 - (k + 1)) + 1 by omega,hexRun,if_pos hc]
theorem Hx.done {n₀:Nat} {w:World} {R:Nat} {raw:List Int} {all:Int × List Int} {k:Nat} {n:Int} {l:List Int} {W:World} (h:Hx n₀ w R raw all k n l W) (hd:¬ k < 6 ∨ hexv (see l 0) < 0):all = (n,l):=by
 obtain ⟨h1,_,_,_,h5,_,_⟩:=h
 rw [← h5]
 rcases hd with hd | hd
 ·rw [show 6 - k = 0 by omega]
  rfl
 ·cases l with
  | nil => cases 6 - k <;> rfl
  | cons c r =>
   rw [see_zero] at hd
   cases 6 - k with
   | zero => rfl
   | succ j => rw [hexRun,if_neg (by omega)]
set_option maxHeartbeats 4000000 in
theorem escaped_any {w:World} {n₀ R:Nat} {raw r:List Int} {c d:Int} (h:At n₀ w R raw (c :: d :: r)):∀ W0,w.grownBy W0 none →
  Calls Tryz.prog 54 #[.pointer (some ⟨R,0,none⟩)] W0 fun e w' => e = .returned (.int .i64 (escd (c :: d :: r)).1) ∧ At n₀ w' R raw (escd (c :: d :: r)).2 ∧ w.grownBy w' (some R):=by
 intro W0 g0
 obtain ⟨a,ca,fa,ha,hs⟩:=(h.kept g0).step
 have hx:=hex_any d
 by_cases hd:hexv d < 0
 ·rw [show escd (c :: d :: r) = (d,r) by unfold escd;rw [show see (c :: d :: r) 1 = d from rfl,if_pos hd];rfl]
  clear h
  go_enter Tryz.func54,Tryz.ntmps54
  go_wp2_with fail
  obtain ⟨k1,g1⟩:=hs _ rfl
  clear hs ca fa
  generalize World.setCell W0 _ _ = W1 at *
  have s0:=see0 k1 _ (World.grownBy.refl _ _)
  rw [see_zero] at s0
  refine s0.mono ?_
  rintro e W2 ⟨rfl,g2⟩
  go_wp2_with fail
  refine (hx _).mono ?_
  rintro e w' ⟨rfl,rfl⟩
  obtain ⟨a2,ca2,fa2,ha2,hs2⟩:=(k1.kept g2).step
  clear s0
  go_wp2
  obtain ⟨k3,g3⟩:=hs2 _ rfl
  go_ret
  exact ⟨rfl,k3,((grown_but g0 _).trans g1).trans ((grown_but g2 _).trans g3)⟩
 ·obtain ⟨all,hall⟩:∃ all,all = hexRun 6 0 (d :: r):=⟨_,rfl⟩
  have he:escd (c :: d :: r) = (hexPoint all.1,if isWhite (see all.2 0) then all.2.tail else all.2):=by
   unfold escd
   rw [show see (c :: d :: r) 1 = d from rfl,if_neg hd,hall]
   rfl
  obtain ⟨Y,L,hYL⟩:∃ Y L,escd (c :: d :: r) = (Y,L):=⟨_,_,rfl⟩
  have HE:Hid ((hexPoint all.1,if isWhite (see all.2 0) then all.2.tail else all.2) = (Y,L)):=he.symm.trans hYL
  rw [hYL]
  clear he h hYL
  go_enter Tryz.func54,Tryz.ntmps54
  go_wp2_with fail
  obtain ⟨k1,g1⟩:=hs _ rfl
  clear hs ca fa
  generalize World.setCell W0 _ _ = W1 at *
  have s0:=see0 k1 _ (World.grownBy.refl _ _)
  rw [see_zero] at s0
  refine s0.mono ?_
  rintro e W2 ⟨rfl,g2⟩
  go_wp2_with fail
  refine (hx _).mono ?_
  rintro e W2 ⟨rfl,rfl⟩
  have H2:Hx n₀ w R raw all 0 0 (d :: r) W2:=⟨by omega,by omega,by omega,by decide,hall.symm,k1.kept g2,((grown_but g0 _).trans g1).trans (grown_but g2 _)⟩
  clear s0 g1 g2 k1 hall hx g0
  go_wp2
  go_loopw [4,5] (fun x y wr => ∃ (n:Int) (k:Nat) (l:List Int),x = .int .i64 n ∧ y = .int .i64 k ∧ Hx n₀ w R raw all k n l wr) (fun _ y _ => 6 - (intOf y).toNat)
  case atStart => exact ⟨0,0,d :: r,rfl,rfl,H2⟩
  case round =>
   clear H2
   obtain ⟨n,k,l,rfl,rfl,H⟩:=hrel
   have hk6:=H.1
   have hn0:=H.2.1
   have hn1:=H.2.2.1
   have k0:=H.2.2.2.2.2.1
   have G:=H.2.2.2.2.2.2
   by_cases hk:k < 6
   ·have hki:(k:Int) < 6:=by omega
    have hx:=hex_any (see l 0)
    by_cases hc:0 ≤ hexv (see l 0)
    ·obtain ⟨c0,l0,rfl⟩:∃ c0 l0,l = c0 :: l0:=List.exists_cons_of_ne_nil (fun e => by rw [e] at hc;exact absurd hc (by decide))
     rw [see_zero] at hc hx
     have s0:=see0 k0
     rw [see_zero] at s0
     have hle:=hexv_le c0
     have hw:n * 16 + hexv c0 ≤ 268435456:=by omega
     have fin:=fun W' (hA:At n₀ W' R raw l0) (hg:w.grownBy W' (some R)) => H.more hk hc hA hg
     clear H
     generalize hexv c0 = v at *
     go_wp2_with fail
     refine (s0 _ (World.grownBy.refl _ _)).mono ?_
     rintro e W3 ⟨rfl,g3⟩
     go_wp2_with fail
     refine (hx _).mono ?_
     rintro e w' ⟨rfl,rfl⟩
     go_wp2_with fail
     refine (s0 _ g3).mono ?_
     rintro e W4 ⟨rfl,g4⟩
     go_wp2_with fail
     refine (hx _).mono ?_
     rintro e w' ⟨rfl,rfl⟩
     obtain ⟨a2,ca2,fa2,ha2,hs2⟩:=(k0.kept g4).step
     go_wp2
     obtain ⟨k5,g5⟩:=hs2 _ rfl
     exact ⟨⟨_,k + 1,l0,rfl,by go_num,fin _ k5 ((G.trans (grown_but g4 _)).trans g5)⟩,by simp [intOf];omega⟩
    ·obtain rfl:=H.done (.inr (by omega))
     have s0:=see0 k0
     have hw:=white_any (see l 0)
     have hr:=right_any n
     clear H
     have g0:wr.grownBy wr none:=World.grownBy.refl _ _
     have hpt:∀ y,(y = 65533 ∧ (n = 0 ∨ rightB n = false)) ∨ (y = n ∧ n ≠ 0 ∧ rightB n = true) → Ending.returned (.int .i64 y) = .returned (.int .i64 Y):=fun y hy => by
      have e1:hexPoint n = Y:=congrArg Prod.fst (show _ = _ from HE)
      rw [← e1]
      rcases hy with ⟨rfl,hy⟩ | ⟨rfl,h1,h2⟩
      ·rw [hexPoint_bad hy hn0]
      ·rw [hexPoint_good h1 h2]
     cases hWb:isWhite (see l 0) with
     | true =>
      rw [hWb] at hw
      obtain ⟨c0,l0,rfl⟩:∃ c0 l0,l = c0 :: l0:=List.exists_cons_of_ne_nil (fun e => by rw [e] at hWb;exact absurd hWb (by decide))
      have hL:L = l0:=by
       have e:(if isWhite (see (c0 :: l0) 0) then l0 else (c0 :: l0)) = L:=congrArg Prod.snd (show _ = _ from HE)
       rw [hWb] at e
       exact e.symm
      subst hL
      clear hWb HE
      go_wp2_with fail
      refine (s0 _ g0).mono ?_
      rintro e W1 ⟨rfl,g1⟩
      go_wp2_with fail
      refine (hx _).mono ?_
      rintro e W1 ⟨rfl,rfl⟩
      go_wp2_with fail
      refine (s0 _ g1).mono ?_
      rintro e W2 ⟨rfl,g2⟩
      go_wp2_with fail
      refine (hw _).mono ?_
      rintro e W2 ⟨rfl,rfl⟩
      obtain ⟨a2,ca2,fa2,ha2,hs2⟩:=(k0.kept g2).step
      by_cases hz:n = 0
      ·have hq:=hpt 65533 (.inl ⟨rfl,.inl hz⟩)
       clear hpt
       subst hz
       go_wp2
       obtain ⟨k5,g5⟩:=hs2 _ rfl
       go_ret
       exact ⟨hq,k5,(G.trans (grown_but g2 _)).trans g5⟩
      ·have hz':(n == 0) = false:=by simpa using hz
       cases hrb:rightB n with
       | true =>
        rw [hrb] at hr
        go_wp2_with fail
        obtain ⟨k5,g5⟩:=hs2 _ rfl
        refine (hr _).mono ?_
        rintro e W3 ⟨rfl,h3⟩
        subst h3
        go_wp2
        go_ret
        exact ⟨hpt _ (.inr ⟨rfl,hz,hrb⟩),k5,(G.trans (grown_but g2 _)).trans g5⟩
       | false =>
        rw [hrb] at hr
        go_wp2_with fail
        obtain ⟨k5,g5⟩:=hs2 _ rfl
        refine (hr _).mono ?_
        rintro e W3 ⟨rfl,h3⟩
        subst h3
        go_wp2
        go_ret
        exact ⟨hpt _ (.inl ⟨rfl,.inr hrb⟩),k5,(G.trans (grown_but g2 _)).trans g5⟩
     | false =>
      rw [hWb] at hw
      have hL:L = l:=by
       have e:(if isWhite (see l 0) then l.tail else l) = L:=congrArg Prod.snd (show _ = _ from HE)
       rw [hWb] at e
       exact e.symm
      subst hL
      clear hWb HE
      go_wp2_with fail
      refine (s0 _ g0).mono ?_
      rintro e W1 ⟨rfl,g1⟩
      go_wp2_with fail
      refine (hx _).mono ?_
      rintro e W1 ⟨rfl,rfl⟩
      go_wp2_with fail
      refine (s0 _ g1).mono ?_
      rintro e W2 ⟨rfl,g2⟩
      go_wp2_with fail
      refine (hw _).mono ?_
      rintro e W2 ⟨rfl,rfl⟩
      by_cases hz:n = 0
      ·have hq:=hpt 65533 (.inl ⟨rfl,.inl hz⟩)
       clear hpt
       subst hz
       go_wp2
       go_ret
       exact ⟨hq,k0.kept g2,G.trans (grown_but g2 _)⟩
      ·have hz':(n == 0) = false:=by simpa using hz
       cases hrb:rightB n with
       | true =>
        rw [hrb] at hr
        go_wp2_with fail
        refine (hr _).mono ?_
        rintro e W3 ⟨rfl,h3⟩
        subst h3
        go_wp2
        go_ret
        exact ⟨hpt _ (.inr ⟨rfl,hz,hrb⟩),k0.kept g2,G.trans (grown_but g2 _)⟩
       | false =>
        rw [hrb] at hr
        go_wp2_with fail
        refine (hr _).mono ?_
        rintro e W3 ⟨rfl,h3⟩
        subst h3
        go_wp2
        go_ret
        exact ⟨hpt _ (.inl ⟨rfl,.inr hrb⟩),k0.kept g2,G.trans (grown_but g2 _)⟩
   ·have hki:¬ (k:Int) < 6:=by omega
    obtain rfl:=H.done (.inl hk)
    have s0:=see0 k0
    have hw:=white_any (see l 0)
    have hr:=right_any n
    clear H
    have g0:wr.grownBy wr none:=World.grownBy.refl _ _
    have hpt:∀ y,(y = 65533 ∧ (n = 0 ∨ rightB n = false)) ∨ (y = n ∧ n ≠ 0 ∧ rightB n = true) → Ending.returned (.int .i64 y) = .returned (.int .i64 Y):=fun y hy => by
     have e1:hexPoint n = Y:=congrArg Prod.fst (show _ = _ from HE)
     rw [← e1]
     rcases hy with ⟨rfl,hy⟩ | ⟨rfl,h1,h2⟩
     ·rw [hexPoint_bad hy hn0]
     ·rw [hexPoint_good h1 h2]
    cases hWb:isWhite (see l 0) with
    | true =>
     rw [hWb] at hw
     obtain ⟨c0,l0,rfl⟩:∃ c0 l0,l = c0 :: l0:=List.exists_cons_of_ne_nil (fun e => by rw [e] at hWb;exact absurd hWb (by decide))
     have hL:L = l0:=by
      have e:(if isWhite (see (c0 :: l0) 0) then l0 else (c0 :: l0)) = L:=congrArg Prod.snd (show _ = _ from HE)
      rw [hWb] at e
      exact e.symm
     subst hL
     clear hWb HE
     go_wp2_with fail
     refine (s0 _ g0).mono ?_
     rintro e W2 ⟨rfl,g2⟩
     go_wp2_with fail
     refine (hw _).mono ?_
     rintro e W2 ⟨rfl,rfl⟩
     obtain ⟨a2,ca2,fa2,ha2,hs2⟩:=(k0.kept g2).step
     by_cases hz:n = 0
     ·have hq:=hpt 65533 (.inl ⟨rfl,.inl hz⟩)
      clear hpt
      subst hz
      go_wp2
      obtain ⟨k5,g5⟩:=hs2 _ rfl
      go_ret
      exact ⟨hq,k5,(G.trans (grown_but g2 _)).trans g5⟩
     ·have hz':(n == 0) = false:=by simpa using hz
      cases hrb:rightB n with
      | true =>
       rw [hrb] at hr
       go_wp2_with fail
       obtain ⟨k5,g5⟩:=hs2 _ rfl
       refine (hr _).mono ?_
       rintro e W3 ⟨rfl,h3⟩
       subst h3
       go_wp2
       go_ret
       exact ⟨hpt _ (.inr ⟨rfl,hz,hrb⟩),k5,(G.trans (grown_but g2 _)).trans g5⟩
      | false =>
       rw [hrb] at hr
       go_wp2_with fail
       obtain ⟨k5,g5⟩:=hs2 _ rfl
       refine (hr _).mono ?_
       rintro e W3 ⟨rfl,h3⟩
       subst h3
       go_wp2
       go_ret
       exact ⟨hpt _ (.inl ⟨rfl,.inr hrb⟩),k5,(G.trans (grown_but g2 _)).trans g5⟩
    | false =>
     rw [hWb] at hw
     have hL:L = l:=by
      have e:(if isWhite (see l 0) then l.tail else l) = L:=congrArg Prod.snd (show _ = _ from HE)
      rw [hWb] at e
      exact e.symm
     subst hL
     clear hWb HE
     go_wp2_with fail
     refine (s0 _ g0).mono ?_
     rintro e W2 ⟨rfl,g2⟩
     go_wp2_with fail
     refine (hw _).mono ?_
     rintro e W2 ⟨rfl,rfl⟩
     by_cases hz:n = 0
     ·have hq:=hpt 65533 (.inl ⟨rfl,.inl hz⟩)
      clear hpt
      subst hz
      go_wp2
      go_ret
      exact ⟨hq,k0.kept g2,G.trans (grown_but g2 _)⟩
     ·have hz':(n == 0) = false:=by simpa using hz
      cases hrb:rightB n with
      | true =>
       rw [hrb] at hr
       go_wp2_with fail
       refine (hr _).mono ?_
       rintro e W3 ⟨rfl,h3⟩
       subst h3
       go_wp2
       go_ret
       exact ⟨hpt _ (.inr ⟨rfl,hz,hrb⟩),k0.kept g2,G.trans (grown_but g2 _)⟩
      | false =>
       rw [hrb] at hr
       go_wp2_with fail
       refine (hr _).mono ?_
       rintro e W3 ⟨rfl,h3⟩
       subst h3
       go_wp2
       go_ret
       exact ⟨hpt _ (.inl ⟨rfl,.inr hrb⟩),k0.kept g2,G.trans (grown_but g2 _)⟩
end Go.Proofs.YtcmmdojlhfmddaaGreat.Ref

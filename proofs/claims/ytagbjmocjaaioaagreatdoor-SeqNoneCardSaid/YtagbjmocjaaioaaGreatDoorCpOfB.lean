/- package compute, plain: what a property is of the value that is set, the number above and the length of an em. -/
import Derived.Test.YtagbjmocjaaioaaGreatDoorVlProp
import Derived.Test.YtagbjmocjaaioaaGreatDoorNmCap
namespace Go.Proofs.YtagbjmocjaaioaaGreatDoor.Nm
end Go.Proofs.YtagbjmocjaaioaaGreatDoor.Nm
namespace Go.Proofs.YtagbjmocjaaioaaGreatDoor.Cp
open Go Go.RowKit Vl Nm
def iniV (p:Int):Int:=(propAt p).2.2
def inhV (p:Int):Bool:=(propAt p).2.1
def timesV (a b:Int):Int:=capI ((capI a * capI b).tdiv 1000)
def keyV (p n:Int):Int × Bool:=if p = 2 ∨ p = 3 then (n,true) else if p = 4 then (-1,true) else if p = 7 then (1099511627776,true) else (0,false)
def lenV (p n:Int):Int × Bool:=if p = 1 ∨ p = 4 ∨ p = 5 then (n,true) else (0,false)
def pctV (p n em:Int):Int × Bool:=if p = 1 then ((timesV em n).tdiv 100,true) else if p = 4 then (-2 - n,true) else if p = 5 then (1099511627776 + n,true) else (0,false)
def numV (p n:Int):Int × Bool:=if p = 6 ∨ p = 7 then (n,true) else (0,false)
def colV (p n:Int):Int × Bool:=if p = 0 then (n,true) else (0,false)
def ownV (p k n em:Int):Int × Bool:=
 if k = 1 then keyV p n else if k = 2 then lenV p n else if k = 3 then lenV p (timesV em n) else if k = 4 then pctV p n em else if k = 5 then numV p n else if k = 6 then colV p n else (0,false)
def compV (p k n up em:Int):Int:=
 if k = 7 then up else if k = 8 then iniV p else if (ownV p k (capI n) em).2 then (ownV p k (capI n) em).1 else if inhV p then up else iniV p
def ofV (k n u:Nat → Int) (p:Nat):Int:=
 compV p (k p) (n p) (u p) (if p = 1 then u 1 else compV 1 (k 1) (n 1) (u 1) (u 1))
def rootV (p:Nat):Int:=iniV p
theorem timesV_ge (a b:Int):-2147483647 ≤ timesV a b:=capI_ge _
theorem timesV_le (a b:Int):timesV a b ≤ 2147483647:=capI_le _
/-! ### values: eight numbers; eight values of two cells -/
abbrev styL (s:Nat → Int):List Value:=[.int .i64 (s 0),.int .i64 (s 1),.int .i64 (s 2),.int .i64 (s 3),.int .i64 (s 4),.int .i64 (s 5),.int .i64 (s 6),.int .i64 (s 7)]
abbrev valL (k n:Nat → Int):List Value:=[.int .i64 (k 0),.int .i64 (n 0),.int .i64 (k 1),.int .i64 (n 1),.int .i64 (k 2),.int .i64 (n 2),.int .i64 (k 3),.int .i64 (n 3),.int .i64 (k 4),.int .i64 (n 4),.int .i64 (k 5),.int .i64 (n 5),.int .i64 (k 6),.int .i64 (n 6),.int .i64 (k 7),.int .i64 (n 7)]
theorem styL_at (s:Nat → Int) {p:Nat} (hp:p < 8):(styL s).toArray[p]? = some (.int .i64 (s p)):=by
 obtain rfl | rfl | rfl | rfl | rfl | rfl | rfl | rfl:p = 0 ∨ p = 1 ∨ p = 2 ∨ p = 3 ∨ p = 4 ∨ p = 5 ∨ p = 6 ∨ p = 7:=by omega
 all_goals rfl
theorem valL_at (k n:Nat → Int) {p:Nat} (hp:p < 8):(valL k n).toArray[p * 2]? = some (.int .i64 (k p)) ∧ (valL k n).toArray[p * 2 + 1]? = some (.int .i64 (n p)):=by
 obtain rfl | rfl | rfl | rfl | rfl | rfl | rfl | rfl:p = 0 ∨ p = 1 ∨ p = 2 ∨ p = 3 ∨ p = 4 ∨ p = 5 ∨ p = 6 ∨ p = 7:=by omega
 all_goals exact ⟨rfl,rfl⟩
def StyAt (W:World) (B:Nat) (s:Nat → Int):Prop:=Blk W B 47 (styL s)
theorem StyAt.cell {W:World} {B:Nat} {s:Nat → Int} (h:StyAt W B s) {p:Nat} (hp:p < 8):W.cell? ⟨B,p,none⟩ = some (.int .i64 (s p)) ∧ W.frozen? ⟨B,p,none⟩ = false:=
 ⟨(cell_of_block h p).trans (styL_at s hp),by simp [World.frozen?,show W.heap[B]? = _ from h]⟩
def putV (s:Nat → Int) (p:Nat) (x:Int):Nat → Int:=fun i => if i = p then x else s i
theorem StyAt.put {W:World} {B:Nat} {s:Nat → Int} (h:StyAt W B s) {p:Nat} (hp:p < 8) (x:Int):StyAt (W.setCell ⟨B,p,none⟩ (.int .i64 x)) B (putV s p x):=by
 have hb:B < W.heap.size:=h.lt
 have hx:W.heap[B] = .cells (styL s).toArray 47 (0,0):=(Array.getElem?_eq_some_iff.1 h).2
 unfold StyAt Blk
 simp only [World.setCell,Array.getElem?_modify,Array.getElem?_eq_getElem hb,hx,Option.map_some]
 congr 2
 obtain rfl | rfl | rfl | rfl | rfl | rfl | rfl | rfl:p = 0 ∨ p = 1 ∨ p = 2 ∨ p = 3 ∨ p = 4 ∨ p = 5 ∨ p = 6 ∨ p = 7:=by omega
 all_goals rfl
theorem StyAt.ext {W:World} {B:Nat} {s s':Nat → Int} (h:StyAt W B s) (e:∀ i,i < 8 → s' i = s i):StyAt W B s':=by
 have:styL s' = styL s:=by simp only [styL,e 0 (by decide),e 1 (by decide),e 2 (by decide),e 3 (by decide),e 4 (by decide),e 5 (by decide),e 6 (by decide),e 7 (by decide)]
 unfold StyAt
 rw [this]
 exact h
theorem infoSty:(Tryz.prog.info? 47).map (·.size) = some 8:=by kernel_rfl
end Go.Proofs.YtagbjmocjaaioaaGreatDoor.Cp

/- package compute: share, key, length, percentage, number, color, own, at every property. -/
namespace Go.Proofs.YtagbjmocjaaioaaGreatDoor.Cp
open Go Go.RowKit Vl Nm
set_option maxHeartbeats 400000 in
theorem shareE_any (n em:Int) (w:World):Calls Tryz.prog 128 #[.int .i64 n,.int .i64 1,.int .i64 em] w fun e w' => e = .returned (.int .i64 (timesV em n)) ∧ w' = w:=by
 have h:Calls Tryz.prog 168 #[.int .i64 em,.int .i64 n] w fun e w' => e = .returned (.int .i64 (timesV em n)) ∧ w' = w:=times_any em n w
 have h1:=timesV_ge em n
 have h2:=timesV_le em n
 generalize timesV em n = x at *
 have h3:x.tdiv 1 = x:=Int.tdiv_one x
 go_enter Tryz.func128,Tryz.ntmps128
 go_wp2_with fail
 refine h.mono ?_
 clear h
 rintro e w' ⟨rfl,rfl⟩
 go_wp2
 go_ret
 exact ⟨rfl,rfl⟩
set_option maxHeartbeats 400000 in
theorem shareP_any (n em:Int) (w:World):Calls Tryz.prog 169 #[.int .i64 n,.int .i64 100,.int .i64 em] w fun e w' => e = .returned (.int .i64 ((timesV em n).tdiv 100)) ∧ w' = w:=by
 have h:Calls Tryz.prog 168 #[.int .i64 em,.int .i64 n] w fun e w' => e = .returned (.int .i64 (timesV em n)) ∧ w' = w:=times_any em n w
 have h1:=timesV_ge em n
 have h2:=timesV_le em n
 generalize timesV em n = x at *
 go_enter Tryz.func169,Tryz.ntmps169
 go_wp2_with fail
 refine h.mono ?_
 clear h
 rintro e w' ⟨rfl,rfl⟩
 go_wp2
 go_ret
 exact ⟨rfl,rfl⟩
set_option maxHeartbeats 1000000 in
theorem key_any {p:Nat} (hp:p < 8) (n:Int) (w:World):Calls Tryz.prog 126 #[.int .i64 p,.int .i64 n] w fun e w' => e = .returned (.tuple #[.int .i64 (keyV p n).1,.bool (keyV p n).2]) ∧ w' = w:=by
 obtain rfl | rfl | rfl | rfl | rfl | rfl | rfl | rfl:p = 0 ∨ p = 1 ∨ p = 2 ∨ p = 3 ∨ p = 4 ∨ p = 5 ∨ p = 6 ∨ p = 7:=by omega
 all_goals
  clear hp
  go_enter Tryz.func126,Tryz.ntmps126
  go_wp2
  go_ret2
  exact ⟨rfl,rfl⟩
set_option maxHeartbeats 1000000 in
theorem length_any {p:Nat} (hp:p < 8) (n:Int) (w:World):Calls Tryz.prog 127 #[.int .i64 p,.int .i64 n] w fun e w' => e = .returned (.tuple #[.int .i64 (lenV p n).1,.bool (lenV p n).2]) ∧ w' = w:=by
 obtain rfl | rfl | rfl | rfl | rfl | rfl | rfl | rfl:p = 0 ∨ p = 1 ∨ p = 2 ∨ p = 3 ∨ p = 4 ∨ p = 5 ∨ p = 6 ∨ p = 7:=by omega
 all_goals
  clear hp
  go_enter Tryz.func127,Tryz.ntmps127
  go_wp2
  go_ret2
  exact ⟨rfl,rfl⟩
set_option maxHeartbeats 1000000 in
theorem number_any {p:Nat} (hp:p < 8) (n:Int) (w:World):Calls Tryz.prog 130 #[.int .i64 p,.int .i64 n] w fun e w' => e = .returned (.tuple #[.int .i64 (numV p n).1,.bool (numV p n).2]) ∧ w' = w:=by
 obtain rfl | rfl | rfl | rfl | rfl | rfl | rfl | rfl:p = 0 ∨ p = 1 ∨ p = 2 ∨ p = 3 ∨ p = 4 ∨ p = 5 ∨ p = 6 ∨ p = 7:=by omega
 all_goals
  clear hp
  go_enter Tryz.func130,Tryz.ntmps130
  go_wp2
  go_ret2
  exact ⟨rfl,rfl⟩
set_option maxHeartbeats 1000000 in
theorem color_any {p:Nat} (hp:p < 8) (n:Int) (w:World):Calls Tryz.prog 131 #[.int .i64 p,.int .i64 n] w fun e w' => e = .returned (.tuple #[.int .i64 (colV p n).1,.bool (colV p n).2]) ∧ w' = w:=by
 obtain rfl | rfl | rfl | rfl | rfl | rfl | rfl | rfl:p = 0 ∨ p = 1 ∨ p = 2 ∨ p = 3 ∨ p = 4 ∨ p = 5 ∨ p = 6 ∨ p = 7:=by omega
 all_goals
  clear hp
  go_enter Tryz.func131,Tryz.ntmps131
  go_wp2
  go_ret2
  exact ⟨rfl,rfl⟩
set_option maxHeartbeats 1000000 in
theorem percentage_any {p:Nat} (hp:p < 8) (n em:Int) (h1:-2147483647 ≤ n) (h2:n ≤ 2147483647) (w:World):Calls Tryz.prog 129 #[.int .i64 p,.int .i64 n,.int .i64 em] w fun e w' => e = .returned (.tuple #[.int .i64 (pctV p n em).1,.bool (pctV p n em).2]) ∧ w' = w:=by
 have hs:=shareP_any n em w
 obtain rfl | rfl | rfl | rfl | rfl | rfl | rfl | rfl:p = 0 ∨ p = 1 ∨ p = 2 ∨ p = 3 ∨ p = 4 ∨ p = 5 ∨ p = 6 ∨ p = 7:=by omega
 case' inr.inl =>
  clear hp
  go_enter Tryz.func129,Tryz.ntmps129
  go_wp2_with fail
  refine hs.mono ?_
  clear hs
  rintro e w' ⟨rfl,rfl⟩
  go_wp2
  go_ret2
  exact ⟨rfl,rfl⟩
 all_goals
  clear hp hs
  go_enter Tryz.func129,Tryz.ntmps129
  go_wp2
  go_ret2
  exact ⟨rfl,rfl⟩
set_option maxHeartbeats 1000000 in
theorem own_any {p:Nat} (hp:p < 8) (k n em:Int) (h1:-2147483647 ≤ n) (h2:n ≤ 2147483647) (w:World):Calls Tryz.prog 78 #[.int .i64 p,.int .i64 k,.int .i64 n,.int .i64 em] w fun e w' => e = .returned (.tuple #[.int .i64 (ownV p k n em).1,.bool (ownV p k n em).2]) ∧ w' = w:=by
 obtain ⟨V,hV⟩:∃ V,ownV p k n em = V:=⟨_,rfl⟩
 rw [hV]
 unfold ownV at hV
 have a1:=key_any hp n w
 have a2:=length_any hp n w
 have a3:=length_any hp (timesV em n) w
 have a3':=shareE_any n em w
 have a4:=percentage_any hp n em h1 h2 w
 have a5:=number_any hp n w
 have a6:=color_any hp n w
 clear h1 h2
 by_cases k1:k = 1
 ·subst k1
  obtain rfl:keyV p n = V:=by rw [← hV];rfl
  clear hV a2 a3 a3' a4 a5 a6
  generalize keyV p n = V at *
  go_enter Tryz.func78,Tryz.ntmps78
  go_wp2_with fail
  refine a1.mono ?_
  clear a1
  rintro e w' ⟨rfl,rfl⟩
  go_wp2
  go_ret2
  exact ⟨rfl,rfl⟩
 by_cases k2:k = 2
 ·subst k2
  obtain rfl:lenV p n = V:=by rw [← hV];rfl
  clear hV a1 a3 a3' a4 a5 a6 k1
  generalize lenV p n = V at *
  go_enter Tryz.func78,Tryz.ntmps78
  go_wp2_with fail
  refine a2.mono ?_
  clear a2
  rintro e w' ⟨rfl,rfl⟩
  go_wp2
  go_ret2
  exact ⟨rfl,rfl⟩
 by_cases k3:k = 3
 ·subst k3
  obtain rfl:lenV p (timesV em n) = V:=by rw [← hV];rfl
  clear hV a1 a2 a4 a5 a6 k1 k2
  generalize timesV em n = x at *
  generalize lenV p x = V at *
  go_enter Tryz.func78,Tryz.ntmps78
  go_wp2_with fail
  refine a3'.mono ?_
  clear a3'
  rintro e w' ⟨rfl,rfl⟩
  go_wp2_with fail
  refine a3.mono ?_
  clear a3
  rintro e w' ⟨rfl,rfl⟩
  go_wp2
  go_ret2
  exact ⟨rfl,rfl⟩
 by_cases k4:k = 4
 ·subst k4
  obtain rfl:pctV p n em = V:=by rw [← hV];rfl
  clear hV a1 a2 a3 a3' a5 a6 k1 k2 k3
  generalize pctV p n em = V at *
  go_enter Tryz.func78,Tryz.ntmps78
  go_wp2_with fail
  refine a4.mono ?_
  clear a4
  rintro e w' ⟨rfl,rfl⟩
  go_wp2
  go_ret2
  exact ⟨rfl,rfl⟩
 by_cases k5:k = 5
 ·subst k5
  obtain rfl:numV p n = V:=by rw [← hV];rfl
  clear hV a1 a2 a3 a3' a4 a6 k1 k2 k3 k4
  generalize numV p n = V at *
  go_enter Tryz.func78,Tryz.ntmps78
  go_wp2_with fail
  refine a5.mono ?_
  clear a5
  rintro e w' ⟨rfl,rfl⟩
  go_wp2
  go_ret2
  exact ⟨rfl,rfl⟩
 by_cases k6:k = 6
 ·subst k6
  obtain rfl:colV p n = V:=by rw [← hV];rfl
  clear hV a1 a2 a3 a3' a4 a5 k1 k2 k3 k4 k5
  generalize colV p n = V at *
  go_enter Tryz.func78,Tryz.ntmps78
  go_wp2_with fail
  refine a6.mono ?_
  clear a6
  rintro e w' ⟨rfl,rfl⟩
  go_wp2
  go_ret2
  exact ⟨rfl,rfl⟩
 rw [if_neg k1,if_neg k2,if_neg k3,if_neg k4,if_neg k5,if_neg k6] at hV
 subst hV
 replace k1:(k == 1) = false:=by simpa using k1
 replace k2:(k == 2) = false:=by simpa using k2
 replace k3:(k == 3) = false:=by simpa using k3
 replace k4:(k == 4) = false:=by simpa using k4
 replace k5:(k == 5) = false:=by simpa using k5
 replace k6:(k == 6) = false:=by simpa using k6
 clear a1 a2 a3 a3' a4 a5 a6
 go_enter Tryz.func78,Tryz.ntmps78
 go_wp2
 go_ret2
 exact ⟨rfl,rfl⟩
end Go.Proofs.YtagbjmocjaaioaaGreatDoor.Cp

/- package compute: computed, Root, Of, at every style and all values. -/
set_option maxRecDepth 100000
namespace Go.Proofs.YtagbjmocjaaioaaGreatDoor.Cp
open Go Go.RowKit Vl Nm
set_option maxHeartbeats 4000000 in
theorem computed_any {p:Nat} (hp:p < 8) (k n:Int) (s:Nat → Int) (em:Int) (w:World) (hP:PropsAt w.heap.size w) :
  Calls Tryz.prog 39 #[.int .i64 p,.agg #[.int .i64 k,.int .i64 n],.agg #[.int .i64 (s 0),.int .i64 (s 1),.int .i64 (s 2),.int .i64 (s 3),.int .i64 (s 4),.int .i64 (s 5),.int .i64 (s 6),.int .i64 (s 7)],.int .i64 em] w fun e w' =>
   e = .returned (.int .i64 (compV p k n (s p) em)) ∧ Below w.heap.size w w':=by
 obtain ⟨V,hV⟩:∃ V,compV p k n (s p) em = V:=⟨_,rfl⟩
 rw [hV]
 unfold compV at hV
 have b0:Below w.heap.size w ((w.alloc (.cells #[.int .i64 k,.int .i64 n] 51)).alloc (.cells #[.int .i64 (s 0),.int .i64 (s 1),.int .i64 (s 2),.int .i64 (s 3),.int .i64 (s 4),.int .i64 (s 5),.int .i64 (s 6),.int .i64 (s 7)] 47)):=((Below.refl _ w).alloc (Nat.le_refl _) _).alloc (by rw [World.size_alloc];omega) _
 have kV:Blk ((w.alloc (.cells #[.int .i64 k,.int .i64 n] 51)).alloc (.cells #[.int .i64 (s 0),.int .i64 (s 1),.int .i64 (s 2),.int .i64 (s 3),.int .i64 (s 4),.int .i64 (s 5),.int .i64 (s 6),.int .i64 (s 7)] 47)) w.heap.size 51 [.int .i64 k,.int .i64 n]:=(Blk.new w 51 [.int .i64 k,.int .i64 n]).kept (World.grownBy_alloc _ _ none) (by simp)
 have kS:StyAt ((w.alloc (.cells #[.int .i64 k,.int .i64 n] 51)).alloc (.cells #[.int .i64 (s 0),.int .i64 (s 1),.int .i64 (s 2),.int .i64 (s 3),.int .i64 (s 4),.int .i64 (s 5),.int .i64 (s 6),.int .i64 (s 7)] 47)) (w.heap.size + 1) s:=by
  have:=Blk.new (w.alloc (.cells #[.int .i64 k,.int .i64 n] 51)) 47 (styL s)
  rwa [World.size_alloc] at this
 have hPW:=hP.next b0
 clear hP
 have c1:=capI_ge n
 have c2:=capI_le n
 have hc:=cap_any n
 have ho:=fun X => own_any hp k (capI n) em c1 c2 X
 have hin:=fun X hX => inherits_any p X hX
 have hit:=fun X hX => initial_any p X hX
 go_enter Tryz.func39,Tryz.ntmps39
 go_upto_region 1 with fail
 have hSz:((w.alloc (.cells #[.int .i64 k,.int .i64 n] 51)).alloc (.cells #[.int .i64 (s 0),.int .i64 (s 1),.int .i64 (s 2),.int .i64 (s 3),.int .i64 (s 4),.int .i64 (s 5),.int .i64 (s 6),.int .i64 (s 7)] 47)).heap.size = w.heap.size + 2:=by rw [World.size_alloc,World.size_alloc]
 generalize (w.alloc (.cells #[.int .i64 k,.int .i64 n] 51)).alloc (.cells #[.int .i64 (s 0),.int .i64 (s 1),.int .i64 (s 2),.int .i64 (s 3),.int .i64 (s 4),.int .i64 (s 5),.int .i64 (s 6),.int .i64 (s 7)] 47) = W at *
 have hlt:w.heap.size + 1 < W.heap.size:=by omega
 clear hSz
 obtain ⟨⟨t0,t1⟩,_⟩:=blk2 kV
 have cp:=(kS.cell hp).1
 have hpi:(p:Int) < 8:=by omega
 have HC:Hid (∀ (w1:World),Below W.heap.size W w1 → w1.cell? ⟨w.heap.size + 1,p,none⟩ = some (.int .i64 (s p)) ∧ Below w.heap.size w w1):=fun w1 b1 => ⟨(b1.cell (p:=⟨w.heap.size + 1,p,none⟩) hlt).trans cp,below_next b0 b1⟩
 clear kV kS
 by_cases k7:k = 7
 ·subst k7
  rw [if_pos rfl] at hV
  subst hV
  clear hc ho hin hit c1 c2 HC hp
  go_wp2
  go_ret
  exact ⟨rfl,b0⟩
 rw [if_neg k7] at hV
 replace k7:(k == 7) = false:=by simpa using k7
 by_cases k8:k = 8
 ·subst k8
  rw [if_pos rfl] at hV
  have hi:=hit W hPW
  replace hi:Calls Tryz.prog 45 #[.int .i64 p] W fun e w' => e = .returned (.int .i64 V) ∧ Below W.heap.size W w':=by rw [← hV];exact hi
  clear hc ho hin hit c1 c2 HC hV
  go_wp2_with fail
  refine hi.mono ?_
  clear hi
  rintro e w1 ⟨rfl,b1⟩
  have b2:=below_next b0 b1
  go_wp2
  go_ret
  exact ⟨rfl,b2⟩
 rw [if_neg k8] at hV
 replace k8:(k == 8) = false:=by simpa using k8
 obtain ⟨V1,ok,ho1⟩:∃ V1 ok,ownV p k (capI n) em = (V1,ok):=⟨_,_,rfl⟩
 rw [ho1] at hV
 simp only [ho1] at ho
 clear ho1
 clear c1 c2
 generalize capI n = nc at *
 have HIN:Hid (∀ X,PropsAt X.heap.size X → Calls Tryz.prog 80 #[.int .i64 p] X fun e w' => e = .returned (.bool (inhV p)) ∧ Below X.heap.size X w'):=hin
 have HIT:Hid (∀ X,PropsAt X.heap.size X → Calls Tryz.prog 45 #[.int .i64 p] X fun e w' => e = .returned (.int .i64 (iniV p)) ∧ Below X.heap.size X w'):=hit
 clear hin hit
 generalize inhV p = ih at *
 generalize iniV p = it at *
 generalize s p = x at *
 go_wp2
 go_quiet (first | exact Calls.quiet_of_same (hc _) | exact Calls.quiet_of_same (ho _))
 clear hc ho
 have bq:=Vl.below_drewN W nq
 have hPq:=hPW.next bq
 obtain ⟨cq,bz⟩:=(show ∀ (w1:World),Below W.heap.size W w1 → w1.cell? ⟨w.heap.size + 1,p,none⟩ = some (.int .i64 x) ∧ Below w.heap.size w w1 from HC) _ bq
 cases ok
 ·simp only [Bool.false_eq_true,if_false] at hV
  have hi:=(show ∀ X,PropsAt X.heap.size X → Calls Tryz.prog 80 #[.int .i64 p] X fun e w' => e = .returned (.bool ih) ∧ Below X.heap.size X w' from HIN) _ hPq
  go_wp2_with fail
  refine hi.mono ?_
  clear hi
  rintro e w1 ⟨rfl,b1⟩
  obtain ⟨c1,bz1⟩:=(show ∀ (w1:World),Below W.heap.size W w1 → w1.cell? ⟨w.heap.size + 1,p,none⟩ = some (.int .i64 x) ∧ Below w.heap.size w w1 from HC) _ (below_next bq b1)
  have hP1:=hPq.next b1
  clear cq bz
  cases ih
  ·simp only [Bool.false_eq_true,if_false] at hV
   subst hV
   have hj:=(show ∀ X,PropsAt X.heap.size X → Calls Tryz.prog 45 #[.int .i64 p] X fun e w' => e = .returned (.int .i64 it) ∧ Below X.heap.size X w' from HIT) _ hP1
   go_wp2_with fail
   refine hj.mono ?_
   clear hj
   rintro e w2 ⟨rfl,b2⟩
   have bz2:=below_next bz1 b2
   go_wp2
   go_ret
   exact ⟨rfl,bz2⟩
  ·simp only [if_true] at hV
   subst hV
   go_wp2
   go_ret
   exact ⟨rfl,bz1⟩
 ·simp only [if_true] at hV
  subst hV
  go_wp2
  go_ret
  exact ⟨rfl,bz⟩
end Go.Proofs.YtagbjmocjaaioaaGreatDoor.Cp

/- Styles in memory; package compute: Root; the document's own RootStyle. -/
set_option maxRecDepth 100000
namespace Go.Proofs.YtagbjmocjaaioaaGreatDoor.Cp
open Go Go.RowKit Vl Nm
abbrev sty (s:Nat → Int):Value:=.agg #[.int .i64 (s 0),.int .i64 (s 1),.int .i64 (s 2),.int .i64 (s 3),.int .i64 (s 4),.int .i64 (s 5),.int .i64 (s 6),.int .i64 (s 7)]
abbrev vls (k n:Nat → Int):Value:=.agg #[.int .i64 (k 0),.int .i64 (n 0),.int .i64 (k 1),.int .i64 (n 1),.int .i64 (k 2),.int .i64 (n 2),.int .i64 (k 3),.int .i64 (n 3),.int .i64 (k 4),.int .i64 (n 4),.int .i64 (k 5),.int .i64 (n 5),.int .i64 (k 6),.int .i64 (n 6),.int .i64 (k 7),.int .i64 (n 7)]
theorem StyAt.lt {W:World} {B:Nat} {s:Nat → Int} (h:StyAt W B s):B < W.heap.size:=Blk.lt h
theorem StyAt.next {X Y:World} {B:Nat} {s:Nat → Int} (h:StyAt X B s) (hb:Below X.heap.size X Y):StyAt Y B s:=Blk.below h hb h.lt
theorem StyAt.below {n:Nat} {X Y:World} {B:Nat} {s:Nat → Int} (h:StyAt X B s) (hb:Below n X Y) (hn:B < n):StyAt Y B s:=Blk.below h hb hn
theorem StyAt.set {W:World} {B b:Nat} {s:Nat → Int} (h:StyAt W B s) (hne:B ≠ b) (i:Nat) (v:Value):StyAt (W.setCell ⟨b,i,none⟩ v) B s:=Blk.kept h (grown_set W b i v) (fun e => hne (by cases e;rfl))
theorem StyAt.cells {W:World} {B:Nat} {s:Nat → Int} (h:StyAt W B s):W.cell? ⟨B,0,none⟩ = some (.int .i64 (s 0)) ∧ W.cell? ⟨B,1,none⟩ = some (.int .i64 (s 1)) ∧ W.cell? ⟨B,2,none⟩ = some (.int .i64 (s 2)) ∧ W.cell? ⟨B,3,none⟩ = some (.int .i64 (s 3)) ∧ W.cell? ⟨B,4,none⟩ = some (.int .i64 (s 4)) ∧ W.cell? ⟨B,5,none⟩ = some (.int .i64 (s 5)) ∧ W.cell? ⟨B,6,none⟩ = some (.int .i64 (s 6)) ∧ W.cell? ⟨B,7,none⟩ = some (.int .i64 (s 7)):=
 ⟨(h.cell (p:=0) (by decide)).1,(h.cell (p:=1) (by decide)).1,(h.cell (p:=2) (by decide)).1,(h.cell (p:=3) (by decide)).1,(h.cell (p:=4) (by decide)).1,(h.cell (p:=5) (by decide)).1,(h.cell (p:=6) (by decide)).1,(h.cell (p:=7) (by decide)).1⟩
theorem StyAt.thaw {W:World} {B:Nat} {s:Nat → Int} (h:StyAt W B s):W.frozen? ⟨B,0,none⟩ = false ∧ W.frozen? ⟨B,1,none⟩ = false ∧ W.frozen? ⟨B,2,none⟩ = false ∧ W.frozen? ⟨B,3,none⟩ = false ∧ W.frozen? ⟨B,4,none⟩ = false ∧ W.frozen? ⟨B,5,none⟩ = false ∧ W.frozen? ⟨B,6,none⟩ = false ∧ W.frozen? ⟨B,7,none⟩ = false:=
 ⟨(h.cell (p:=0) (by decide)).2,(h.cell (p:=1) (by decide)).2,(h.cell (p:=2) (by decide)).2,(h.cell (p:=3) (by decide)).2,(h.cell (p:=4) (by decide)).2,(h.cell (p:=5) (by decide)).2,(h.cell (p:=6) (by decide)).2,(h.cell (p:=7) (by decide)).2⟩
def set8 (W:World) (B:Nat) (s:Nat → Int):World:=(((((((W.setCell ⟨B,0,none⟩ (.int .i64 (s 0))).setCell ⟨B,1,none⟩ (.int .i64 (s 1))).setCell ⟨B,2,none⟩ (.int .i64 (s 2))).setCell ⟨B,3,none⟩ (.int .i64 (s 3))).setCell ⟨B,4,none⟩ (.int .i64 (s 4))).setCell ⟨B,5,none⟩ (.int .i64 (s 5))).setCell ⟨B,6,none⟩ (.int .i64 (s 6))).setCell ⟨B,7,none⟩ (.int .i64 (s 7))
theorem StyAt.set8 {W:World} {B:Nat} {s:Nat → Int} (h:StyAt W B s) (s':Nat → Int):StyAt (set8 W B s') B s':=
 ((((((((h.put (p:=0) (by decide) (s' 0)).put (p:=1) (by decide) (s' 1)).put (p:=2) (by decide) (s' 2)).put (p:=3) (by decide) (s' 3)).put (p:=4) (by decide) (s' 4)).put (p:=5) (by decide) (s' 5)).put (p:=6) (by decide) (s' 6)).put (p:=7) (by decide) (s' 7)).ext (fun i hi => by
  obtain rfl | rfl | rfl | rfl | rfl | rfl | rfl | rfl:i = 0 ∨ i = 1 ∨ i = 2 ∨ i = 3 ∨ i = 4 ∨ i = 5 ∨ i = 6 ∨ i = 7:=by omega
  all_goals rfl)
theorem grown_set8 (W:World) (B:Nat) (s:Nat → Int):W.grownBy (set8 W B s) (some B):=
 (((((((grown_set _ _ _ _).trans (grown_set _ _ _ _)).trans (grown_set _ _ _ _)).trans (grown_set _ _ _ _)).trans (grown_set _ _ _ _)).trans (grown_set _ _ _ _)).trans (grown_set _ _ _ _)).trans (grown_set _ _ _ _)
theorem load_sty {w:World} {g:Nat} {s:Nat → Int} (h:StyAt w g s):(loadVar 47 ⟨g,0,none⟩).run Tryz.prog w = .ok (sty s) w:=
 run_loadVar_row w g _ 47 (styL s).toArray (0,0) _ h Tryz.underlying47 rfl infoSty
theorem StyAt.new (w:World) (s:Nat → Int):StyAt (w.alloc (.cells (styL s).toArray 47)) w.heap.size s:=Blk.new w 47 (styL s)
set_option maxHeartbeats 1000000 in
theorem root_any (w:World) (hP:PropsAt w.heap.size w):Calls Tryz.prog 24 #[] w fun e w' => e = .returned (sty rootV) ∧ Below w.heap.size w w':=by
 have b0:Below w.heap.size w ((w.alloc (.cells #[.int .i64 0,.int .i64 0,.int .i64 0,.int .i64 0,.int .i64 0,.int .i64 0,.int .i64 0,.int .i64 0] 47)).alloc (.cells #[.int .i64 0,.int .i64 0,.int .i64 0,.int .i64 0,.int .i64 0,.int .i64 0,.int .i64 0,.int .i64 0] 47)):=((Below.refl _ w).alloc (Nat.le_refl _) _).alloc (by rw [World.size_alloc];omega) _
 have kR:StyAt ((w.alloc (.cells #[.int .i64 0,.int .i64 0,.int .i64 0,.int .i64 0,.int .i64 0,.int .i64 0,.int .i64 0,.int .i64 0] 47)).alloc (.cells #[.int .i64 0,.int .i64 0,.int .i64 0,.int .i64 0,.int .i64 0,.int .i64 0,.int .i64 0,.int .i64 0] 47)) w.heap.size (fun _ => 0):=Blk.kept (StyAt.new w (fun _ => 0)) (World.grownBy_alloc _ _ none) (by simp)
 have kO:StyAt ((w.alloc (.cells #[.int .i64 0,.int .i64 0,.int .i64 0,.int .i64 0,.int .i64 0,.int .i64 0,.int .i64 0,.int .i64 0] 47)).alloc (.cells #[.int .i64 0,.int .i64 0,.int .i64 0,.int .i64 0,.int .i64 0,.int .i64 0,.int .i64 0,.int .i64 0] 47)) (w.heap.size + 1) (fun _ => 0):=by
  have:=StyAt.new (w.alloc (.cells #[.int .i64 0,.int .i64 0,.int .i64 0,.int .i64 0,.int .i64 0,.int .i64 0,.int .i64 0,.int .i64 0] 47)) (fun _ => 0)
  rwa [World.size_alloc] at this
 have HIT:Hid (∀ X (p:Nat),PropsAt X.heap.size X → Calls Tryz.prog 45 #[.int .i64 p] X fun e w' => e = .returned (.int .i64 (rootV p)) ∧ Below X.heap.size X w'):=fun X p hX => initial_any p X hX
 go_enter Tryz.func24,Tryz.ntmps24
 go_upto_region 2 with fail
 generalize (w.alloc (.cells #[.int .i64 0,.int .i64 0,.int .i64 0,.int .i64 0,.int .i64 0,.int .i64 0,.int .i64 0,.int .i64 0] 47)).alloc (.cells #[.int .i64 0,.int .i64 0,.int .i64 0,.int .i64 0,.int .i64 0,.int .i64 0,.int .i64 0,.int .i64 0] 47) = W at *
 go_wp2
 go_loopw [3] (fun i wr => ∃ k:Nat,i = .int .i64 k ∧ k ≤ 8 ∧ StyAt wr w.heap.size (fun _ => 0) ∧ StyAt wr (w.heap.size + 1) (fun i => if i < k then rootV i else 0) ∧ Below w.heap.size w wr) (fun i _ => 8 - (intOf i).toNat)
 case atStart => exact ⟨0,rfl,by omega,kR,kO.ext (fun i _ => by simp),b0⟩
 case round =>
  clear b0 kR kO
  obtain ⟨k,rfl,hk,hR,hO,hb⟩:=hrel
  by_cases hlt:k < 8
  ·have hki:(k:Int) < 8:=by omega
   have hi:=HIT.out wr k (hP.next hb)
   clear HIT hP
   go_wp2_with fail
   refine hi.mono ?_
   clear hi
   rintro e w1 ⟨rfl,b1⟩
   obtain ⟨c1,f1⟩:=(hO.next b1).cell hlt
   have hO1:=((hO.next b1).put hlt (rootV k)).ext (s':=fun i => if i < k + 1 then rootV i else 0) (fun i _ => by
    by_cases e1:i = k
    ·subst e1;simp [putV]
    ·by_cases e2:i < k
     ·rw [if_pos (by omega)];simp [putV,e1,e2]
     ·rw [if_neg (by omega)];simp [putV,e1,e2])
   have hR1:=(hR.next b1).set (by omega:w.heap.size ≠ w.heap.size + 1) k (.int .i64 (rootV k))
   have hs:=hO.lt
   have hb1:=below_grew (below_next hb b1) (grown_set w1 (w.heap.size + 1) k (.int .i64 (rootV k))) (by have:=b1.size;omega) (by omega)
   go_wp2
   exact ⟨⟨k + 1,by go_num,by omega,hR1,hO1,hb1⟩,by simp [intOf];omega⟩
  ·have hki:¬ (k:Int) < 8:=by omega
   obtain rfl:k = 8:=by omega
   replace hO:StyAt wr (w.heap.size + 1) rootV:=hO.ext (fun i hi => (if_pos hi).symm)
   obtain ⟨c0,c1,c2,c3,c4,c5,c6,c7⟩:=hO.cells
   obtain ⟨d0,d1,d2,d3,d4,d5,d6,d7⟩:=hR.cells
   obtain ⟨f0,f1,f2,f3,f4,f5,f6,f7⟩:=hR.thaw
   have hz:=below_grew hb (grown_set8 wr w.heap.size rootV) (by have:=hR.lt;omega) (Nat.le_refl _)
   have hl:=load_sty (hR.set8 rootV)
   clear hO hP HIT
   go_wp2
   refine bodyPost_ret (results_struct rfl _ _ w.heap.size _ rfl hl) rfl ?_
   exact ⟨rfl,hz⟩
end Go.Proofs.YtagbjmocjaaioaaGreatDoor.Cp

/- package compute: Of, at every style above and all values. -/
set_option maxRecDepth 100000
namespace Go.Proofs.YtagbjmocjaaioaaGreatDoor.Cp
open Go Go.RowKit Vl Nm
def SrcAt (W:World) (b o:Nat) (s:Nat → Int):Prop:=∀ i,i < 8 → W.cell? ⟨b,o + i,none⟩ = some (.int .i64 (s i))
theorem SrcAt.cells {W:World} {b o:Nat} {s:Nat → Int} (h:SrcAt W b o s):W.cell? ⟨b,o,none⟩ = some (.int .i64 (s 0)) ∧ W.cell? ⟨b,o + 1,none⟩ = some (.int .i64 (s 1)) ∧ W.cell? ⟨b,o + 2,none⟩ = some (.int .i64 (s 2)) ∧ W.cell? ⟨b,o + 3,none⟩ = some (.int .i64 (s 3)) ∧ W.cell? ⟨b,o + 4,none⟩ = some (.int .i64 (s 4)) ∧ W.cell? ⟨b,o + 5,none⟩ = some (.int .i64 (s 5)) ∧ W.cell? ⟨b,o + 6,none⟩ = some (.int .i64 (s 6)) ∧ W.cell? ⟨b,o + 7,none⟩ = some (.int .i64 (s 7)):=
 ⟨h 0 (by decide),h 1 (by decide),h 2 (by decide),h 3 (by decide),h 4 (by decide),h 5 (by decide),h 6 (by decide),h 7 (by decide)⟩
theorem SrcAt.below {n:Nat} {X Y:World} {b o:Nat} {s:Nat → Int} (h:SrcAt X b o s) (hb:Below n X Y) (hn:b < n):SrcAt Y b o s:=fun i hi => (hb.cell (p:=⟨b,o + i,none⟩) hn).trans (h i hi)
def ParAt (W:World) (v:Value) (u:Nat → Int):Prop:=(v = .pointer none ∧ u = rootV) ∨ ∃ b o,v = .pointer (some ⟨b,o,none⟩) ∧ b < W.heap.size ∧ SrcAt W b o u
def ValAt (W:World) (B:Nat) (k n:Nat → Int):Prop:=Blk W B 52 (valL k n)
theorem ValAt.cell {W:World} {B:Nat} {k n:Nat → Int} (h:ValAt W B k n) {p:Nat} (hp:p < 8):W.cell? ⟨B,p * 2,none⟩ = some (.int .i64 (k p)) ∧ W.cell? ⟨B,p * 2 + 1,none⟩ = some (.int .i64 (n p)):=
 ⟨(cell_of_block h _).trans (valL_at k n hp).1,(cell_of_block h _).trans (valL_at k n hp).2⟩
theorem ValAt.below {m:Nat} {X Y:World} {B:Nat} {k n:Nat → Int} (h:ValAt X B k n) (hb:Below m X Y) (hm:B < m):ValAt Y B k n:=Blk.below h hb hm
theorem ValAt.new (w:World) (k n:Nat → Int):ValAt (w.alloc (.cells (valL k n).toArray 52)) w.heap.size k n:=Blk.new w 52 (valL k n)
theorem infoVals:(Tryz.prog.info? 52).map (·.size) = some 16:=by kernel_rfl
theorem index_vls (k n:Nat → Int) (w:World) (p:Nat) (hp:p < 8):(Instr.index 52 (vls k n) (.int .i64 p)).run Tryz.prog w = .ok (.agg #[.int .i64 (k p),.int .i64 (n p)]) w:=by
 obtain rfl | rfl | rfl | rfl | rfl | rfl | rfl | rfl:p = 0 ∨ p = 1 ∨ p = 2 ∨ p = 3 ∨ p = 4 ∨ p = 5 ∨ p = 6 ∨ p = 7:=by omega
 all_goals kernel_rfl
def partV (f:Nat → Int) (m i:Nat):Int:=if i < m ∨ i = 1 then f i else 0
set_option maxHeartbeats 1000000 in
theorem of_any (v:Value) (k n u:Nat → Int) (w:World) (hP:PropsAt w.heap.size w) (hv:ParAt w v u) :
  Calls Tryz.prog 20 #[v,vls k n] w fun e w' => e = .returned (sty (ofV k n u)) ∧ Below w.heap.size w w':=by
 have HC:Hid (∀ (X:World) (p:Nat) (q:Int) (em:Int),p < 8 → q = p → Below w.heap.size w X → Calls Tryz.prog 39 #[.int .i64 q,.agg #[.int .i64 (k p),.int .i64 (n p)],.agg #[.int .i64 (u 0),.int .i64 (u 1),.int .i64 (u 2),.int .i64 (u 3),.int .i64 (u 4),.int .i64 (u 5),.int .i64 (u 6),.int .i64 (u 7)],.int .i64 em] X fun e w' => e = .returned (.int .i64 (compV p (k p) (n p) (u p) em)) ∧ Below X.heap.size X w'):=fun X p q em hp hq hb => by subst hq;exact computed_any hp (k p) (n p) u em X (hP.next hb)
 have HR:Hid (∀ X,Below w.heap.size w X → Calls Tryz.prog 24 #[] X fun e w' => e = .returned (sty rootV) ∧ Below X.heap.size X w'):=fun X hb => root_any X (hP.next hb)
 clear hP
 obtain ⟨V,hV⟩:∃ V,ofV k n u = V:=⟨_,rfl⟩
 rw [hV]
 have HO1:Hid (compV 1 (k 1) (n 1) (u 1) (u 1) = V 1):=by rw [← hV];rfl
 have HOp:Hid (∀ p:Nat,p ≠ 1 → compV p (k p) (n p) (u p) (V 1) = V p):=fun p hp => by
  have h1:V 1 = compV 1 (k 1) (n 1) (u 1) (u 1):=HO1.out.symm
  rw [h1,← hV]
  unfold ofV
  rw [if_neg hp]
 clear hV
 have HIX:Hid (∀ (w:World) (p:Nat),p < 8 → (Instr.index 52 (vls k n) (.int .i64 p)).run Tryz.prog w = .ok (.agg #[.int .i64 (k p),.int .i64 (n p)]) w):=fun w p hp => index_vls k n w p hp
 have b0:Below w.heap.size w ((w.alloc (.cells (valL k n).toArray 52)).alloc (.cells #[.int .i64 0,.int .i64 0,.int .i64 0,.int .i64 0,.int .i64 0,.int .i64 0,.int .i64 0,.int .i64 0] 47)):=((Below.refl _ w).alloc (Nat.le_refl _) _).alloc (by rw [World.size_alloc];omega) _
 have kA:ValAt ((w.alloc (.cells (valL k n).toArray 52)).alloc (.cells #[.int .i64 0,.int .i64 0,.int .i64 0,.int .i64 0,.int .i64 0,.int .i64 0,.int .i64 0,.int .i64 0] 47)) w.heap.size k n:=Blk.kept (ValAt.new w k n) (World.grownBy_alloc _ _ none) (by simp)
 have kR:StyAt ((w.alloc (.cells (valL k n).toArray 52)).alloc (.cells #[.int .i64 0,.int .i64 0,.int .i64 0,.int .i64 0,.int .i64 0,.int .i64 0,.int .i64 0,.int .i64 0] 47)) (w.heap.size + 1) (fun _ => 0):=by
  have:=StyAt.new (w.alloc (.cells (valL k n).toArray 52)) (fun _ => 0)
  rwa [World.size_alloc] at this
 simp only [valL] at b0 kA kR
 go_enter Tryz.func20,Tryz.ntmps20
 go_upto_region 1 with fail
 generalize ((w.alloc _).alloc _:World) = W at *
 have hr:=HR.out W b0
 clear HR
 simp only [sty] at hr
 have hlt:=kR.lt
 go_wp2_with fail
 refine hr.mono ?_
 clear hr
 rintro e w1 ⟨rfl,b1⟩
 have b2:Below w1.heap.size w1 (w1.alloc (.cells #[.int .i64 (rootV 0),.int .i64 (rootV 1),.int .i64 (rootV 2),.int .i64 (rootV 3),.int .i64 (rootV 4),.int .i64 (rootV 5),.int .i64 (rootV 6),.int .i64 (rootV 7)] 47)):=(Below.refl _ _).alloc (Nat.le_refl _) _
 have kC:StyAt (w1.alloc (.cells #[.int .i64 (rootV 0),.int .i64 (rootV 1),.int .i64 (rootV 2),.int .i64 (rootV 3),.int .i64 (rootV 4),.int .i64 (rootV 5),.int .i64 (rootV 6),.int .i64 (rootV 7)] 47)) w1.heap.size rootV:=StyAt.new w1 rootV
 have b3:=b1.trans (b2.mono b1.size)
 replace kA:=kA.below b3 (by omega)
 replace kR:=kR.next b3
 have bw:=below_next b0 b3
 have hs1:=b1.size
 clear b0 b1 b2 b3
 go_upto_region 2 with fail
 generalize w1.alloc _ = W1 at *
 have hCs:=kC.lt
 have hAC:w.heap.size + 1 < w1.heap.size:=by omega
 generalize w1.heap.size = C at *
 clear hlt hs1
 rcases hv with ⟨rfl,hu⟩ | ⟨pb,po,rfl,hpb,hsrc⟩
 case' inl =>
  obtain ⟨W2,rfl⟩:∃ W2,W2 = W1:=⟨_,rfl⟩
  replace kC:StyAt W2 C u:=by rw [hu];exact kC
  clear hu
  go_upto_region 4 with fail
 case' inr =>
  obtain ⟨p0,p1,p2,p3,p4,p5,p6,p7⟩:=(hsrc.below bw hpb).cells
  obtain ⟨f0,f1,f2,f3,f4,f5,f6,f7⟩:=kC.thaw
  obtain ⟨d0,d1,d2,d3,d4,d5,d6,d7⟩:=kC.cells
  have g:=grown_set8 W1 C u
  have kA2:ValAt (set8 W1 C u) w.heap.size k n:=Blk.kept kA g (by simp;omega)
  have kR2:StyAt (set8 W1 C u) (w.heap.size + 1) (fun _ => 0):=Blk.kept kR g (by simp;omega)
  have kC2:=kC.set8 u
  have bw2:=below_grew bw g bw.size (by omega)
  have hCs2:=kC2.lt
  clear g
  go_upto_region 4 with fail
  change Code.wp _ _ _ _ (set8 W1 C u)
  clear d0 d1 d2 d3 d4 d5 d6 d7 f0 f1 f2 f3 f4 f5 f6 f7 p0 p1 p2 p3 p4 p5 p6 p7 hsrc
  replace kA:=kA2
  replace kR:=kR2
  replace kC:=kC2
  replace bw:=bw2
  replace hCs:=hCs2
  clear kA2 kR2 kC2 bw2 hCs2
  generalize set8 W1 C u = W2 at *
  clear hpb
 all_goals
  have b4:Below W2.heap.size W2 (W2.alloc (.cells #[.int .i64 0,.int .i64 0,.int .i64 0,.int .i64 0,.int .i64 0,.int .i64 0,.int .i64 0,.int .i64 0] 47)):=(Below.refl _ _).alloc (Nat.le_refl _) _
  have kD:StyAt (W2.alloc (.cells #[.int .i64 0,.int .i64 0,.int .i64 0,.int .i64 0,.int .i64 0,.int .i64 0,.int .i64 0,.int .i64 0] 47)) W2.heap.size (fun _ => 0):=StyAt.new W2 (fun _ => 0)
  replace kA:=kA.below b4 (by omega)
  replace kR:=kR.next b4
  replace kC:=kC.next b4
  replace bw:=below_next bw b4
  clear b4
  go_upto_region 5 with fail
  generalize W2.alloc _ = W3 at *
  generalize W2.heap.size = D at *
  have hD:=kD.lt
  have hc:=HC.out W3 1 1 (u 1) (by decide) rfl bw
  replace hc:Calls Tryz.prog 39 #[.int .i64 1,.agg #[.int .i64 (k 1),.int .i64 (n 1)],.agg #[.int .i64 (u 0),.int .i64 (u 1),.int .i64 (u 2),.int .i64 (u 3),.int .i64 (u 4),.int .i64 (u 5),.int .i64 (u 6),.int .i64 (u 7)],.int .i64 (u 1)] W3 fun e w' => e = .returned (.int .i64 (V 1)) ∧ Below W3.heap.size W3 w':=by rw [← HO1.out];exact hc
  clear HO1
  obtain ⟨a1,a2⟩:=kA.cell (p:=1) (by decide)
  replace a1:W3.cell? ⟨w.heap.size,2,none⟩ = some (.int .i64 (k 1)):=a1
  replace a2:W3.cell? ⟨w.heap.size,3,none⟩ = some (.int .i64 (n 1)):=a2
  obtain ⟨c0,c1,c2,c3,c4,c5,c6,c7⟩:=kC.cells
  go_wp2_with fail
  refine hc.mono ?_
  clear hc
  rintro e w4 ⟨rfl,b4⟩
  clear a1 a2 c0 c1 c2 c3 c4 c5 c6 c7
  replace kA:=kA.below b4 (by omega)
  replace kR:=kR.next b4
  replace kC:=kC.next b4
  replace kD:=kD.next b4
  replace bw:=below_next bw b4
  obtain ⟨d1,f1⟩:=kD.cell (p:=1) (by decide)
  have g:=grown_set w4 D 1 (.int .i64 (V 1))
  have kA2:ValAt (w4.setCell ⟨D,1,none⟩ (.int .i64 (V 1))) w.heap.size k n:=Blk.kept kA g (by simp;omega)
  have kR2:=kR.set (by omega:w.heap.size + 1 ≠ D) 1 (.int .i64 (V 1))
  have kC2:=kC.set (by omega:C ≠ D) 1 (.int .i64 (V 1))
  have kD2:=(kD.put (p:=1) (by decide) (V 1)).ext (s':=partV V 0) (fun i _ => by by_cases e:i = 1 <;> simp [partV,putV,e])
  have bw2:=below_grew bw g bw.size (by omega)
  clear g b4 kA kR kC kD bw hD
  go_upto_region 6 with fail
  clear d1 f1
  generalize World.setCell _ _ _ = W5 at *
  have hrow:=kA2
  unfold ValAt Blk at hrow
  refine wp_region_lit ?_
  refine wpList_load_row rfl 52 _ rfl w.heap.size rfl 52 (valL k n).toArray (0,0) _ hrow Tryz.underlying52 rfl infoVals ?_
  clear hrow kA2
  have HIY:=HIX
  change Hid (∀ (w:World) (p:Nat),p < 8 → (Instr.index 52 (.agg (valL k n).toArray) (.int .i64 p)).run Tryz.prog w = .ok (.agg #[.int .i64 (k p),.int .i64 (n p)]) w) at HIY
  clear HIX
  generalize Value.agg (valL k n).toArray = row at *
  go_wp2
  go_loopw [23] (fun i wr => ∃ p:Nat,i = .int .i64 p ∧ p ≤ 8 ∧ StyAt wr (w.heap.size + 1) (fun _ => 0) ∧ StyAt wr C u ∧ StyAt wr D (partV V p) ∧ Below w.heap.size w wr) (fun i _ => 8 - (intOf i).toNat)
  case atStart => exact ⟨0,rfl,by omega,kR2,kC2,kD2,bw2⟩
  case round =>
   clear kR2 kC2 kD2 bw2
   obtain ⟨p,rfl,hp,hR,hC,hD,hb⟩:=hrel
   by_cases hlt:p < 8
   ·have hki:(p:Int) < 8:=by omega
    have hi:=HIY.out wr p hlt
    clear HIY
    by_cases hp1:p = 1
    ·subst hp1
     replace hi:(Instr.index 52 row (.int .i64 1)).run Tryz.prog wr = .ok (.agg #[.int .i64 (k 1),.int .i64 (n 1)]) wr:=hi
     have hD1:=hD.ext (s':=partV V (1 + 1)) (fun i hi => by
      unfold partV
      by_cases e:i = 1
      ·simp [e]
      ·by_cases e0:i = 0
       ·simp [e0]
       ·rw [if_neg (by omega),if_neg (by omega)])
     have bX:Below wr.heap.size wr (wr.alloc (.cells #[.int .i64 (k 1),.int .i64 (n 1)] 51)):=(Below.refl _ _).alloc (Nat.le_refl _) _
     have hD2:=hD1.next bX
     have hR2:=hR.next bX
     have hC2:=hC.next bX
     have hb2:=below_next hb bX
     clear hD1 hD hR hC hb bX hlt hp HOp HC
     go_wp2
     exact ⟨⟨1 + 1,by go_num,by omega,hR2,hC2,hD2,hb2⟩,by simp [intOf]⟩
    ·have hne:((p:Int) != 1) = true:=by simp;omega
     have bX:Below wr.heap.size wr (wr.alloc (.cells #[.int .i64 (k p),.int .i64 (n p)] 51)):=(Below.refl _ _).alloc (Nat.le_refl _) _
     have kX:Blk (wr.alloc (.cells #[.int .i64 (k p),.int .i64 (n p)] 51)) wr.heap.size 51 [.int .i64 (k p),.int .i64 (n p)]:=Blk.new wr _ _
     have hs:=hD.lt
     replace hD:=hD.next bX
     replace hR:=hR.next bX
     replace hC:=hC.next bX
     replace hb:=below_next hb bX
     clear bX
     have hcp:=HC.out _ p p (V 1) hlt rfl hb
     rw [HOp.out p hp1] at hcp
     clear HOp HC hp1
     go_upto_region 9 with fail
     generalize wr.alloc _ = wx at *
     obtain ⟨⟨x0,x1⟩,_⟩:=blk2 kX
     obtain ⟨c0,c1,c2,c3,c4,c5,c6,c7⟩:=hC.cells
     have e1:partV V p 1 = V 1:=if_pos (.inr rfl)
     have d1:=(hD.cell (p:=1) (by decide)).1
     rw [e1] at d1
     clear e1 kX hi
     generalize wr.heap.size = X at *
     go_wp2_with fail
     refine hcp.mono ?_
     clear hcp
     rintro e w6 ⟨rfl,b6⟩
     clear x0 x1 c0 c1 c2 c3 c4 c5 c6 c7 d1
     replace hD:=hD.next b6
     replace hR:=hR.next b6
     replace hC:=hC.next b6
     replace hb:=below_next hb b6
     clear b6
     obtain ⟨q1,q2⟩:=hD.cell hlt
     have hD2:=(hD.put hlt (V p)).ext (s':=partV V (p + 1)) (fun i _ => by
      unfold partV putV
      by_cases e:i = p
      ·subst e;simp
      ·show (if i < p + 1 ∨ i = 1 then V i else 0) = if i = p then V p else if i < p ∨ i = 1 then V i else 0
       rw [if_neg e]
       by_cases e1:i < p ∨ i = 1
       ·rw [if_pos e1,if_pos (by omega)]
       ·rw [if_neg e1,if_neg (by omega)])
     have hR2:=hR.set (by omega:w.heap.size + 1 ≠ D) p (.int .i64 (V p))
     have hC2:=hC.set (by omega:C ≠ D) p (.int .i64 (V p))
     have hb2:=below_grew hb (grown_set w6 D p (.int .i64 (V p))) hb.size (by omega)
     clear hD hR hC hb
     go_wp2
     exact ⟨⟨p + 1,by go_num,by omega,hR2,hC2,hD2,hb2⟩,by simp [intOf];omega⟩
   ·have hki:¬ (p:Int) < 8:=by omega
    obtain rfl:p = 8:=by omega
    replace hD:StyAt wr D V:=hD.ext (fun i hi => (if_pos (.inl hi)).symm)
    obtain ⟨c0,c1,c2,c3,c4,c5,c6,c7⟩:=hD.cells
    obtain ⟨d0,d1,d2,d3,d4,d5,d6,d7⟩:=hR.cells
    obtain ⟨f0,f1,f2,f3,f4,f5,f6,f7⟩:=hR.thaw
    have hz:=below_grew hb (grown_set8 wr (w.heap.size + 1) V) (by have:=hR.lt;omega) (by omega)
    have hl:=load_sty (hR.set8 V)
    clear hD hC HIY HC HOp
    go_wp2
    refine bodyPost_ret (results_struct rfl _ _ (w.heap.size + 1) _ rfl hl) rfl ?_
    exact ⟨rfl,hz⟩
end Go.Proofs.YtagbjmocjaaioaaGreatDoor.Cp

/- The bytes of code points: text.Bytes and the document's own Bytes, at every list of integers that is not too long: one list of bytes. -/
import Derived.Test.YtcmmdojlhfmddaaGreatRight
import Derived.Lib.RuneBytes
set_option maxRecDepth 100000
namespace Go.Proofs.YtcmmdojlhfmddaaGreat
open Go Go.RowKit Go.Shelf
theorem infoByte:(Tryz.prog.info? 5).map (fun i => (i.zero,i.size,i.bytes)) = some (some (.int .u8 0),1,1):=by kernel_rfl
theorem cells_new (w:World) (l:List Value) (ty:TypeId):∀ j u,l[j]? = some u → (w.alloc (.cells l.toArray ty)).cell? ((⟨w.heap.size,0,none⟩:Addr).add j) = some u:=fun j u hj => by
 rw [show (⟨w.heap.size,0,none⟩:Addr).add j = ⟨w.heap.size,j,none⟩ from by
  cases j with
  | zero => rfl
  | succ j => simp [Addr.add]]
 rw [cell_of_block (World.alloc_heap_new w _) j]
 simpa using hj
theorem wraps_i64 (n:Int) (h₀:0 ≤ n) (h₁:n < 2 ^ 63):IntKind.i64.wrap n = n:=by rw [IntKind.wrap_i64];omega
theorem or128 {y:Int} (h0:0 ≤ y) (h1:y < 64):bits .or .i64 128 y % 256 = 128 + y:=by
 rw [bits_join .i64 63 (by decide) wraps_i64 6 128 y (by decide) (by decide) (by decide) h0 (by omega) (by omega)]
 omega
theorem or192 {y:Int} (h0:0 ≤ y) (h1:y < 64):bits .or .i64 192 y % 256 = 192 + y:=by
 rw [bits_join .i64 63 (by decide) wraps_i64 6 192 y (by decide) (by decide) (by decide) h0 (by omega) (by omega)]
 omega
theorem or224 {y:Int} (h0:0 ≤ y) (h1:y < 32):bits .or .i64 224 y % 256 = 224 + y:=by
 rw [bits_join .i64 63 (by decide) wraps_i64 5 224 y (by decide) (by decide) (by decide) h0 (by omega) (by omega)]
 omega
theorem or240 {y:Int} (h0:0 ≤ y) (h1:y < 16):bits .or .i64 240 y % 256 = 240 + y:=by
 rw [bits_join .i64 63 (by decide) wraps_i64 4 240 y (by decide) (by decide) (by decide) h0 (by omega) (by omega)]
 omega
set_option maxHeartbeats 2000000 in
theorem put_one (B:Nat) (v:Value) (n:Nat) (xs:List Value) (c:Int) (w:World) (hown:w.ownsRow B 5 1 v n xs) (hlen:n + 4 ≤ 140737488355328) (hBw:B ≤ w.heap.size) (h1:0 ≤ c) (h2:c < 128) :
  Calls Tryz.prog 55 #[v,.int .i64 c] w fun e w' => ∃ v',e = .returned v' ∧ w'.ownsRow B 5 1 v' (n + (Lib.runeCells (fixC c)).length) (xs ++ Lib.runeCells (fixC c)) ∧ ∃ o,(w.alloc o).grownBy w' v.ownBlock:=by
 obtain ⟨i0,hi,hz0,hz1,hz2⟩:=info_parts infoByte
 have hb:rightB c = true:=rightB_true (by omega)
 have HC:Hid (Lib.runeCells (fixC c) = [.int .u8 (c)]):=by
  rw [fixC_yes hb]
  show _ = _
  unfold Lib.runeCells
  rw [Lib.encodeRuneZ_one (by omega) (by omega)]
  rfl
 have m63:=i64_and63
 go_enter Tryz.func55,Tryz.ntmps55
 go_wp2_with (first
  | (go_at_call 51;refine (right_any _ _).mono ?_;rintro e w2 ⟨rfl,rfl⟩)
  | (at_builtin;refine wpList_append_own _ rfl _ _ 46 rfl B 5 i0 (.int .u8 0) 1 1 Tryz.underlying46 hi hz0 hz1 hz2 rfl (by decide) _ _ _ rfl (hown.alloc _) ⟨w2.heap.size,0,none⟩ 1 1 [.int .u8 (c)] rfl rfl (cells_new _ [.int .u8 (c)] _) (fun x hx => by simp at hx;rcases hx with rfl <;> rfl) (by unfold maxLen;omega) (by omega) (by simp;omega) ?_;intro v' w3 hown' hgrow3 hnil3))
 go_ret
 rw [show Lib.runeCells (fixC c) = _ from HC]
 exact ⟨_,rfl,hown',_,hgrow3⟩
set_option maxHeartbeats 2000000 in
theorem put_two (B:Nat) (v:Value) (n:Nat) (xs:List Value) (c:Int) (w:World) (hown:w.ownsRow B 5 1 v n xs) (hlen:n + 4 ≤ 140737488355328) (hBw:B ≤ w.heap.size) (h1:128 ≤ c) (h2:c < 2048) :
  Calls Tryz.prog 55 #[v,.int .i64 c] w fun e w' => ∃ v',e = .returned v' ∧ w'.ownsRow B 5 1 v' (n + (Lib.runeCells (fixC c)).length) (xs ++ Lib.runeCells (fixC c)) ∧ ∃ o,(w.alloc o).grownBy w' v.ownBlock:=by
 obtain ⟨i0,hi,hz0,hz1,hz2⟩:=info_parts infoByte
 have hb:rightB c = true:=rightB_true (by omega)
 have HC:Hid (Lib.runeCells (fixC c) = [.int .u8 (192 + c / 64),.int .u8 (128 + c % 64)]):=by
  rw [fixC_yes hb]
  show _ = _
  unfold Lib.runeCells
  rw [Lib.encodeRuneZ_two (by omega) (by omega)]
  rfl
 have g0:¬ c < 128:=by omega
 have m63:=i64_and63
 have o0:=or192 (y:=c / 64) (by omega) (by omega)
 have o1:=or128 (y:=c % 64) (by omega) (by omega)
 go_enter Tryz.func55,Tryz.ntmps55
 go_wp2_with (first
  | (go_at_call 51;refine (right_any _ _).mono ?_;rintro e w2 ⟨rfl,rfl⟩)
  | (at_builtin;refine wpList_append_own _ rfl _ _ 46 rfl B 5 i0 (.int .u8 0) 1 1 Tryz.underlying46 hi hz0 hz1 hz2 rfl (by decide) _ _ _ rfl (hown.alloc _) ⟨w2.heap.size,0,none⟩ 2 2 [.int .u8 (192 + c / 64),.int .u8 (128 + c % 64)] rfl rfl (cells_new _ [.int .u8 (192 + c / 64),.int .u8 (128 + c % 64)] _) (fun x hx => by simp at hx;rcases hx with rfl | rfl <;> rfl) (by unfold maxLen;omega) (by omega) (by simp;omega) ?_;intro v' w3 hown' hgrow3 hnil3))
 go_ret
 rw [show Lib.runeCells (fixC c) = _ from HC]
 exact ⟨_,rfl,hown',_,hgrow3⟩
set_option maxHeartbeats 2000000 in
theorem put_three (B:Nat) (v:Value) (n:Nat) (xs:List Value) (c:Int) (w:World) (hown:w.ownsRow B 5 1 v n xs) (hlen:n + 4 ≤ 140737488355328) (hBw:B ≤ w.heap.size) (h1:2048 ≤ c) (h2:c < 65536) (h3:c < 55296 ∨ 57343 < c) :
  Calls Tryz.prog 55 #[v,.int .i64 c] w fun e w' => ∃ v',e = .returned v' ∧ w'.ownsRow B 5 1 v' (n + (Lib.runeCells (fixC c)).length) (xs ++ Lib.runeCells (fixC c)) ∧ ∃ o,(w.alloc o).grownBy w' v.ownBlock:=by
 obtain ⟨i0,hi,hz0,hz1,hz2⟩:=info_parts infoByte
 have hb:rightB c = true:=rightB_true (by omega)
 have HC:Hid (Lib.runeCells (fixC c) = [.int .u8 (224 + c / 4096),.int .u8 (128 + c / 64 % 64),.int .u8 (128 + c % 64)]):=by
  rw [fixC_yes hb]
  show _ = _
  unfold Lib.runeCells
  rw [Lib.encodeRuneZ_three (by omega)]
  rfl
 have g0:¬ c < 128:=by omega
 have g1:¬ c < 2048:=by omega
 have m63:=i64_and63
 have o0:=or224 (y:=c / 4096) (by omega) (by omega)
 have o1:=or128 (y:=c / 64 % 64) (by omega) (by omega)
 have o2:=or128 (y:=c % 64) (by omega) (by omega)
 go_enter Tryz.func55,Tryz.ntmps55
 go_wp2_with (first
  | (go_at_call 51;refine (right_any _ _).mono ?_;rintro e w2 ⟨rfl,rfl⟩)
  | (at_builtin;refine wpList_append_own _ rfl _ _ 46 rfl B 5 i0 (.int .u8 0) 1 1 Tryz.underlying46 hi hz0 hz1 hz2 rfl (by decide) _ _ _ rfl (hown.alloc _) ⟨w2.heap.size,0,none⟩ 3 3 [.int .u8 (224 + c / 4096),.int .u8 (128 + c / 64 % 64),.int .u8 (128 + c % 64)] rfl rfl (cells_new _ [.int .u8 (224 + c / 4096),.int .u8 (128 + c / 64 % 64),.int .u8 (128 + c % 64)] _) (fun x hx => by simp at hx;rcases hx with rfl | rfl | rfl <;> rfl) (by unfold maxLen;omega) (by omega) (by simp;omega) ?_;intro v' w3 hown' hgrow3 hnil3))
 go_ret
 rw [show Lib.runeCells (fixC c) = _ from HC]
 exact ⟨_,rfl,hown',_,hgrow3⟩
set_option maxHeartbeats 2000000 in
theorem put_four (B:Nat) (v:Value) (n:Nat) (xs:List Value) (c:Int) (w:World) (hown:w.ownsRow B 5 1 v n xs) (hlen:n + 4 ≤ 140737488355328) (hBw:B ≤ w.heap.size) (h1:65536 ≤ c) (h2:c ≤ 1114111) :
  Calls Tryz.prog 55 #[v,.int .i64 c] w fun e w' => ∃ v',e = .returned v' ∧ w'.ownsRow B 5 1 v' (n + (Lib.runeCells (fixC c)).length) (xs ++ Lib.runeCells (fixC c)) ∧ ∃ o,(w.alloc o).grownBy w' v.ownBlock:=by
 obtain ⟨i0,hi,hz0,hz1,hz2⟩:=info_parts infoByte
 have hb:rightB c = true:=rightB_true (by omega)
 have HC:Hid (Lib.runeCells (fixC c) = [.int .u8 (240 + c / 262144),.int .u8 (128 + c / 4096 % 64),.int .u8 (128 + c / 64 % 64),.int .u8 (128 + c % 64)]):=by
  rw [fixC_yes hb]
  show _ = _
  unfold Lib.runeCells
  rw [Lib.encodeRuneZ_four (by omega) (by omega)]
  rfl
 have g0:¬ c < 128:=by omega
 have g1:¬ c < 2048:=by omega
 have g2:¬ c < 65536:=by omega
 have m63:=i64_and63
 have o0:=or240 (y:=c / 262144) (by omega) (by omega)
 have o1:=or128 (y:=c / 4096 % 64) (by omega) (by omega)
 have o2:=or128 (y:=c / 64 % 64) (by omega) (by omega)
 have o3:=or128 (y:=c % 64) (by omega) (by omega)
 go_enter Tryz.func55,Tryz.ntmps55
 go_wp2_with (first
  | (go_at_call 51;refine (right_any _ _).mono ?_;rintro e w2 ⟨rfl,rfl⟩)
  | (at_builtin;refine wpList_append_own _ rfl _ _ 46 rfl B 5 i0 (.int .u8 0) 1 1 Tryz.underlying46 hi hz0 hz1 hz2 rfl (by decide) _ _ _ rfl (hown.alloc _) ⟨w2.heap.size,0,none⟩ 4 4 [.int .u8 (240 + c / 262144),.int .u8 (128 + c / 4096 % 64),.int .u8 (128 + c / 64 % 64),.int .u8 (128 + c % 64)] rfl rfl (cells_new _ [.int .u8 (240 + c / 262144),.int .u8 (128 + c / 4096 % 64),.int .u8 (128 + c / 64 % 64),.int .u8 (128 + c % 64)] _) (fun x hx => by simp at hx;rcases hx with rfl | rfl | rfl | rfl <;> rfl) (by unfold maxLen;omega) (by omega) (by simp;omega) ?_;intro v' w3 hown' hgrow3 hnil3))
 go_ret
 rw [show Lib.runeCells (fixC c) = _ from HC]
 exact ⟨_,rfl,hown',_,hgrow3⟩
set_option maxHeartbeats 2000000 in
theorem put_bad (B:Nat) (v:Value) (n:Nat) (xs:List Value) (c:Int) (w:World) (hown:w.ownsRow B 5 1 v n xs) (hlen:n + 4 ≤ 140737488355328) (hBw:B ≤ w.heap.size) (h1:rightB c = false) :
  Calls Tryz.prog 55 #[v,.int .i64 c] w fun e w' => ∃ v',e = .returned v' ∧ w'.ownsRow B 5 1 v' (n + (Lib.runeCells (fixC c)).length) (xs ++ Lib.runeCells (fixC c)) ∧ ∃ o,(w.alloc o).grownBy w' v.ownBlock:=by
 obtain ⟨i0,hi,hz0,hz1,hz2⟩:=info_parts infoByte
 have hb:rightB c = false:=h1
 have HC:Hid (Lib.runeCells (fixC c) = [.int .u8 (239),.int .u8 (191),.int .u8 (189)]):=by
  rw [fixC_no hb]
  show _ = _
  unfold Lib.runeCells
  rw [Lib.encodeRuneZ_three (by omega)]
  rfl
 have m63:=i64_and63
 have o0:=or224 (y:=15) (by omega) (by omega)
 have o1:=or128 (y:=63) (by omega) (by omega)
 have o2:=or128 (y:=61) (by omega) (by omega)
 go_enter Tryz.func55,Tryz.ntmps55
 go_wp2_with (first
  | (go_at_call 51;refine (right_any _ _).mono ?_;rintro e w2 ⟨rfl,rfl⟩)
  | (at_builtin;refine wpList_append_own _ rfl _ _ 46 rfl B 5 i0 (.int .u8 0) 1 1 Tryz.underlying46 hi hz0 hz1 hz2 rfl (by decide) _ _ _ rfl (hown.alloc _) ⟨w2.heap.size,0,none⟩ 3 3 [.int .u8 (239),.int .u8 (191),.int .u8 (189)] rfl rfl (cells_new _ [.int .u8 (239),.int .u8 (191),.int .u8 (189)] _) (fun x hx => by simp at hx;rcases hx with rfl | rfl | rfl <;> rfl) (by unfold maxLen;omega) (by omega) (by simp;omega) ?_;intro v' w3 hown' hgrow3 hnil3))
 go_ret
 rw [show Lib.runeCells (fixC c) = _ from HC]
 exact ⟨_,rfl,hown',_,hgrow3⟩
theorem put_any (B:Nat) (v:Value) (n:Nat) (xs:List Value) (c:Int) (w:World) (hown:w.ownsRow B 5 1 v n xs) (hlen:n + 4 ≤ 140737488355328) (hBw:B ≤ w.heap.size) :
  Calls Tryz.prog 55 #[v,.int .i64 c] w fun e w' => ∃ v',e = .returned v' ∧ w'.ownsRow B 5 1 v' (n + (Lib.runeCells (fixC c)).length) (xs ++ Lib.runeCells (fixC c)) ∧ ∃ o,(w.alloc o).grownBy w' v.ownBlock:=by
 cases hb:rightB c
 ·exact put_bad B v n xs c w hown hlen hBw hb
 ·obtain ⟨h0,h1,h2⟩:=rightB_iff.1 hb
  by_cases g1:c < 128
  ·exact put_one B v n xs c w hown hlen hBw h0 g1
  ·by_cases g2:c < 2048
   ·exact put_two B v n xs c w hown hlen hBw (by omega) g2
   ·by_cases g3:c < 65536
    ·exact put_three B v n xs c w hown hlen hBw (by omega) g3 h2
    ·exact put_four B v n xs c w hown hlen hBw (by omega) h1
/-! ### The bytes of a list -/
def ubytes (l:List UInt8):List Value:=l.map fun u => Value.int .u8 u.toNat
def enc1 (c:Int):List UInt8:=Lib.encodeRune (fixC c)
def encs (l:List Int):List UInt8:=l.flatMap enc1
theorem ubytes_enc1 (c:Int):ubytes (enc1 c) = Lib.runeCells (fixC c):=by
 rw [← Lib.byteCells_encodeRune]
 rfl
theorem enc1_len (c:Int):1 ≤ (enc1 c).length ∧ (enc1 c).length ≤ 4:=by
 unfold enc1
 rw [← Lib.runeCells_length]
 exact Lib.runeCells_le _
theorem encs_snoc (l:List Int) (c:Int):encs (l ++ [c]) = encs l ++ enc1 c:=by simp [encs]
theorem encs_len (l:List Int):(encs l).length ≤ 4 * l.length:=by
 induction l with
 | nil => simp [encs]
 | cons c t ih =>
  have:=enc1_len c
  have e:encs (c :: t) = enc1 c ++ encs t:=by simp [encs]
  rw [e]
  simp
  omega
theorem ubytes_append (a b:List UInt8):ubytes (a ++ b) = ubytes a ++ ubytes b:=by simp [ubytes]
theorem ubytes_length (a:List UInt8):(ubytes a).length = a.length:=by simp [ubytes]
theorem BytesAt.of_owns {X:World} {b:Nat} {e:TypeId} {v:Value} {l:List UInt8} {m:Nat} (h:X.ownsRow b e 1 v m (ubytes l)) (hm:m = l.length):BytesAt X.heap.size X v l:=by
 subst hm
 rcases owns_cells h with ⟨rfl,h2,h3⟩ | ⟨g,cap,rfl,h1,h2,h3,h4,h5⟩
 ·exact .inl ⟨List.length_eq_zero_iff.1 h2,.inl rfl⟩
 ·exact .inr ⟨g,0,cap,rfl,h1,h2,h4,fun j u hj => h5 j _ (by unfold ubytes;rw [List.getElem?_map,hj];rfl)⟩
end Go.Proofs.YtcmmdojlhfmddaaGreat

/- Plain facts: what was encoded is decoded as it was; bytes of which the first part ends with one below 128 are read in parts as they are whole; what is prepared has no other line ends and comes back. -/
import Derived.Test.YtcmmdojlhfmddaaGreatEnc
namespace Go.Proofs.YtcmmdojlhfmddaaGreat
open Go Go.RowKit
open Go.Lib (decodeN)
/-! ### In parts -/
/-! ### What is prepared -/
theorem decodeN_right (n b0 b1 b2 b3:Nat):(decodeN n b0 b1 b2 b3).1 ≤ 1114111 ∧ ((decodeN n b0 b1 b2 b3).1 < 55296 ∨ 57343 < (decodeN n b0 b1 b2 b3).1):=by
 unfold decodeN
 repeat' split
 all_goals (simp only;omega)
theorem dec_right {l:List UInt8} (h:l ≠ []):rightB (dec l).1 = true:=by
 rw [dec_eq h]
 have:=decodeN_right l.length (l[0]?.getD 0).toNat (l[1]?.getD 0).toNat (l[2]?.getD 0).toNat (l[3]?.getD 0).toNat
 exact rightB_true (by omega)
theorem ipts_right_aux:∀ (f:Nat) (l:List UInt8),l.length ≤ f → ∀ p ∈ ipts l,rightB p = true
 | 0,l,h => by
  obtain rfl:l = []:=List.length_eq_zero_iff.1 (by omega)
  simp [ipts]
 | f + 1,l,h => by
  by_cases e:l = []
  ·simp [e,ipts]
  ·have hb:=dec_bounds e
   rw [ipts_cons e]
   intro p hp
   rcases List.mem_cons.1 hp with rfl | hp
   ·exact dec_right e
   ·exact ipts_right_aux f (l.drop (dec l).2) (by simp;omega) p hp
theorem ipts_right (l:List UInt8):∀ p ∈ ipts l,rightB p = true:=ipts_right_aux _ l (Nat.le_refl _)
def Clean (p:Int):Prop:=p ≠ 13 ∧ p ≠ 12 ∧ 0 < p ∧ rightB p = true
theorem repl_clean {p:Int} (h:rightB p = true):Clean (repl p):=by
 have hr:=rightB_iff.1 h
 unfold repl
 split
 ·exact ⟨by omega,by omega,by omega,by decide⟩
 ·split
  ·exact ⟨by omega,by omega,by omega,by decide⟩
  ·exact ⟨by omega,by omega,by omega,h⟩
theorem prepFrom_clean:∀ (l:List Int) (c:Bool),(∀ p ∈ l,rightB p = true) → ∀ p ∈ prepFrom c l,Clean p
 | [],_,_ => by simp [prepFrom]
 | q :: t,c,h => by
  have ih:=prepFrom_clean t (q == 13) (fun p hp => h p (List.mem_cons_of_mem _ hp))
  intro p hp
  simp only [prepFrom] at hp
  split at hp
  ·exact ih p hp
  ·rcases List.mem_cons.1 hp with rfl | hp
   ·exact repl_clean (h q (List.mem_cons_self ..))
   ·exact ih p hp
theorem prepared_clean (bs:List UInt8):∀ p ∈ prep (ipts bs),Clean p:=prepFrom_clean _ _ (ipts_right bs)
theorem map_fixC_same (l:List Int) (h:∀ p ∈ l,rightB p = true):l.map fixC = l:=by
 conv => rhs;rw [← List.map_id l]
 exact List.map_congr_left (fun p hp => fixC_yes (h p hp))
end Go.Proofs.YtcmmdojlhfmddaaGreat

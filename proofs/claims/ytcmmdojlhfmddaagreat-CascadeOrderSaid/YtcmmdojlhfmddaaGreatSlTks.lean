/- The tokens of a text by the document's own reader. -/
import Derived.Test.YtcmmdojlhfmddaaGreatSlTok
import Derived.Test.YtcmmdojlhfmddaaGreatRtTok
import Derived.Test.YtcmmdojlhfmddaaGreatRefPts
import Derived.Test.YtcmmdojlhfmddaaGreatBack
import Derived.Test.YtcmmdojlhfmddaaGreatDcTxt
namespace Go.Proofs.YtcmmdojlhfmddaaGreat.Sl
open Go.Proofs.YtcmmdojlhfmddaaGreat.Tre
open Go Go.RowKit Go.Shelf
theorem prep_len5 (bs:List UInt8):(prep (ipts bs)).length ≤ bs.length:=Nat.le_trans (prep_length_le _) (ipts_length_le _)
theorem prep_fixed5 (bs:List UInt8):(prep (ipts bs)).map fixC = prep (ipts bs):=map_fixC_same _ (fun p hp => (prepared_clean bs p hp).2.2.2)
def tksB (bs:List UInt8):List Bt:=(toks Ref.nv (prep (ipts bs))).map Ref.btOf
theorem step_n (nv:List Int → Int) (l:List Int) (t:Tk) (h:(step nv l).1 = some t):t.n = 0 ∨ ∃ x,t.n = nv x:=by
 unfold step at h
 split at h
 ·cases h
 ·split at h
  ·cases h;exact .inl rfl
  ·split at h
   ·cases h
    cases (str (see l 0) l.tail).1 with
    | none => exact .inl rfl
    | some s => exact .inl rfl
   ·split at h
    ·cases h;exact .inl rfl
    ·split at h
     ·cases h
      unfold numeric
      simp only
      split
      ·exact .inr ⟨_,rfl⟩
      ·split <;> exact .inr ⟨_,rfl⟩
     ·split at h
      ·cases h;exact .inl rfl
      ·split at h
       ·split at h
        ·cases h;exact .inl rfl
        ·cases h;exact .inl rfl
       ·split at h
        ·cases h;exact .inl rfl
        ·cases h;exact .inl rfl
theorem toks_n (nv:List Int → Int):∀ (n:Nat) (l:List Int),l.length ≤ n → ∀ t ∈ toks nv l,t.n = 0 ∨ ∃ x,t.n = nv x
 | _,[],_ => by simp [toks_nil]
 | 0,c :: r,h => by simp at h
 | n + 1,c :: r,h => by
  intro t ht
  have hs:=step_len nv c r
  rw [List.length_cons] at h
  rw [toks_cons] at ht
  rcases List.mem_append.1 ht with ht | ht
  ·exact step_n nv _ t (by simpa using ht)
  ·exact toks_n nv n _ (by omega) t ht
theorem nv_bound (x:List Int):-9223372036854775808 ≤ Ref.nv x ∧ Ref.nv x ≤ 9223372036854775807:=by
 unfold Ref.nv Nm.numN
 split
 ·rename_i h
  have hd:Nm.allDig (Nm.numA (encs x)) = true ∧ Nm.allDig (Nm.numB (encs x)) = true:=by
   unfold Nm.numOk Nm.isNum at h
   simp only [Bool.and_eq_true] at h
   exact h.1
  have h1:=Nm.grown_bounds _ 0 (by omega) (by omega) hd.1
  have h2:=Nm.grown_bounds _ _ h1.1 h1.2 (Nm.thou_dig hd.2)
  have h3:0 ≤ Nm.numV (encs x) ∧ Nm.numV (encs x) ≤ 2147483647:=h2
  split <;> omega
 ·decide
theorem tksB_good (bs:List UInt8) (hl:bs.length ≤ 100000):Sl.Good (tksB bs):=fun t ht => by
 obtain ⟨x,hx,rfl⟩:=List.mem_map.1 ht
 have h1:=toks_text Ref.nv _ (prep (ipts bs)) (Nat.le_refl _) x hx
 have h2:=encs_len x.text
 have h3:=prep_len5 bs
 refine ⟨?_,?_⟩
 ·show ((encs x.text).toArray).size ≤ _
  rw [List.size_toArray]
  omega
 ·show -9223372036854775808 ≤ x.n ∧ x.n ≤ 9223372036854775807
  rcases toks_n Ref.nv _ (prep (ipts bs)) (Nat.le_refl _) x hx with h | ⟨y,h⟩
  ·rw [h];decide
  ·rw [h];exact nv_bound y
theorem conv_str (s:ByteArray) (w:World) (hs:s.size ≤ 1000000):∃ p m c W,(convert 9 46 (.string s)).run Tryz.prog w = .ok (.slice p m c) W ∧ BytesAt W.heap.size W (.slice p m c) s.data.toList ∧ Below w.heap.size w W ∧ w.heap.size < W.heap.size:=by
 have hrun:=run_bytes_of_string (P:=Tryz.prog) w 9 46 5 s Tryz.underlying9 Tryz.underlying46 Tryz.underlying5
 have hge:=grownCap_ge w s.size 0 5
 have hle:=grownCap_le_maxLen w s.size 0 5 (by unfold maxLen;omega)
 have hl:s.data.toList.length = s.size:=Array.length_toList
 refine ⟨_,_,_,_,hrun,.inr ⟨w.heap.size,0,_,by rw [hl],by omega,hle,?_,fun j u hj => ?_⟩,(Below.refl _ w).drew.alloc (Nat.le_refl _) _,?_⟩
 ·rw [World.size_alloc];exact Nat.lt_succ_self _
 ·have hj':j < s.size:=by have:=(List.getElem?_eq_some_iff.1 hj).1;omega
  rw [show (⟨w.heap.size,0 + j,none⟩:Addr) = ⟨w.drew.heap.size,j,none⟩ by rw [Nat.zero_add];rfl,World.cell?_alloc_mark]
  unfold bytesRow
  rw [Array.getElem?_append_left (by rw [Array.size_map];exact hj'),Array.getElem?_map]
  rw [Array.getElem?_toList] at hj
  rw [hj]
  rfl
 ·rw [World.size_alloc];exact Nat.lt_succ_self _
end Go.Proofs.YtcmmdojlhfmddaaGreat.Sl

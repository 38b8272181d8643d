/- Plain facts on tokens over lists: what stands ahead of a sign that goes on with nothing is read as it is alone; comments; what each kind of token has. -/
import Derived.Test.YtcmmdojlhfmddaaGreatTkA
namespace Go.Proofs.YtcmmdojlhfmddaaGreat
variable (nv:List Int → Int)
/-! ### ahead of a sign that goes on with nothing -/
def Plainly (a:List Int):Prop:=∀ c ∈ a,c ≠ 34 ∧ c ≠ 39 ∧ c ≠ 47 ∧ c ≠ 92
theorem Plainly.tail {a:List Int} (h:Plainly a):Plainly a.tail:=fun c hc => h c (List.mem_of_mem_tail hc)
theorem begNum_eq (l:List Int):begNum l = (isDigit (see (unsign l) 0) || pointed (unsign l)):=rfl
theorem suffix_tail (l:List Int):l.tail <:+ l:=by
 cases l with
 | nil => exact List.suffix_refl _
 | cons c r => exact List.suffix_cons c r
theorem unsign_suffix (a:List Int):unsign a <:+ a:=by
 unfold unsign
 split
 ·exact suffix_tail a
 ·exact List.suffix_refl _
theorem numText_suffix (a:List Int):(numText a).2.1 <:+ a:=by
 unfold numText
 simp only
 split
 ·exact ((List.dropWhile_suffix _).trans (suffix_tail _)).trans ((List.dropWhile_suffix _).trans (unsign_suffix a))
 ·exact (List.dropWhile_suffix _).trans (unsign_suffix a)
/-! ### comments -/
/-! ### parts -/
/-! ### what each kind has -/
/-! ### white beside white -/
def noComment (l:List Int):Prop:=∀ p q:List Int,l ≠ p ++ 47 :: 42 :: q
theorem noComment.see {l:List Int} (h:noComment l):¬ (see l 0 = 47 ∧ see l 1 = 42):=by
 rintro ⟨h1,h2⟩
 match l,h1,h2 with
 | [],h1,_ => exact absurd h1 (by decide)
 | [c],_,h2 => exact absurd h2 (by simp [Go.Proofs.YtcmmdojlhfmddaaGreat.see])
 | c :: d :: r,h1,h2 =>
  rw [see_zero] at h1
  rw [see_succ,see_zero] at h2
  subst h1 h2
  exact h [] r rfl
end Go.Proofs.YtcmmdojlhfmddaaGreat

/- How long a token's text can be. No program in this text. -/
namespace Go.Proofs.YtcmmdojlhfmddaaGreat
theorem nameF_both:∀ (f:Nat) (l:List Int),(nameF f l).1.length + (nameF f l).2.length ≤ l.length
 | 0,l => by simp [nameF]
 | _ + 1,[] => by simp [nameF]
 | f + 1,c :: r => by
  have h1:=nameF_both f r
  have h2:=nameF_both f (escd (c :: r)).2
  have h3:=escd_len c r
  unfold nameF
  rw [List.length_cons]
  split
  ·simp only [List.length_cons]
   omega
  ·split
   ·simp only [List.length_cons]
    omega
   ·simp
theorem strF_both (q:Int):∀ (f:Nat) (l s:List Int),(strF q f l).1 = some s → s.length + (strF q f l).2.length ≤ l.length
 | 0,l,s,h => by
  simp [strF] at h ⊢
  subst h
  simp
 | _ + 1,[],s,h => by
  simp [strF] at h ⊢
  exact h
 | f + 1,c :: r,s,h => by
  have h3:=escd_len c r
  have ht:=tail_le_len r
  unfold strF at h ⊢
  rw [List.length_cons]
  by_cases h1:c = q
  ·rw [if_pos h1] at h ⊢
   cases h
   simp
  ·rw [if_neg h1] at h ⊢
   by_cases h2:c = 10
   ·rw [if_pos h2] at h
    cases h
   ·rw [if_neg h2] at h ⊢
    by_cases h4:c = 92
    ·rw [if_pos h4] at h ⊢
     by_cases h5:r = []
     ·rw [if_pos h5] at h ⊢
      cases h
      simp
     ·rw [if_neg h5] at h ⊢
      by_cases h6:see r 0 = 10
      ·rw [if_pos h6] at h ⊢
       have:=strF_both q f _ _ h
       omega
      ·rw [if_neg h6] at h ⊢
       obtain ⟨u,hu,rfl⟩:=Option.map_eq_some_iff.1 h
       have:=strF_both q f _ _ hu
       simp only [List.length_cons]
       omega
    ·rw [if_neg h4] at h ⊢
     obtain ⟨u,hu,rfl⟩:=Option.map_eq_some_iff.1 h
     have:=strF_both q f _ _ hu
     simp only [List.length_cons]
     omega
theorem name_text (l:List Int):(name l).1.length ≤ l.length:=by
 have:=nameF_both l.length l
 unfold name
 omega
theorem numeric_text (nv:List Int → Int) (l:List Int):(numeric nv l).1.text.length ≤ l.length:=by
 have h1:=name_text (numText l).2.1
 have h2:=(numText_suffix l).length_le
 unfold numeric
 simp only
 split
 ·exact Nat.le_trans h1 h2
 ·split <;> exact Nat.zero_le _
theorem step_text (nv:List Int → Int) (l:List Int) (t:Tk) (h:(step nv l).1 = some t):t.text.length ≤ l.length:=by
 have ht:=tail_le_len l
 have hn:=name_text l
 have hnt:=name_text l.tail
 unfold step at h
 split at h
 ·cases h
 ·split at h
  ·cases h;exact Nat.zero_le _
  ·split at h
   ·cases h
    cases hs:(str (see l 0) l.tail).1 with
    | none => exact Nat.zero_le _
    | some s =>
     have:=strF_both (see l 0) l.tail.length l.tail s hs
     show s.length ≤ _
     omega
   ·split at h
    ·cases h;exact Nat.le_trans hnt ht
    ·split at h
     ·cases h;exact numeric_text nv l
     ·split at h
      ·cases h;exact Nat.le_trans hnt ht
      ·split at h
       ·split at h
        ·cases h;exact hn
        ·cases h;exact hn
       ·split at h
        ·cases h;exact Nat.zero_le _
        ·cases h;exact Nat.zero_le _
theorem toks_text (nv:List Int → Int):∀ (n:Nat) (l:List Int),l.length ≤ n → ∀ t ∈ toks nv l,t.text.length ≤ l.length
 | _,[],_ => by simp [toks_nil]
 | 0,c :: r,h => by simp at h
 | n + 1,c :: r,h => by
  intro t ht
  have hs:=step_len nv c r
  rw [List.length_cons] at h
  rw [toks_cons] at ht
  rcases List.mem_append.1 ht with ht | ht
  ·exact step_text nv _ t (by simpa using ht)
  ·have:=toks_text nv n _ (by omega) t ht
   rw [List.length_cons]
   omega
end Go.Proofs.YtcmmdojlhfmddaaGreat

/- What selectors weigh, uncut until the end: plain facts. -/
import Derived.Test.YtnemagmakgiheaaGreatWgG
namespace Go.Proofs.YtnemagmakgiheaaGreat.Wg
open Go.Proofs.YtnemagmakgiheaaGreat.Tre
open Go Go.RowKit Sl
theorem gr_min (a b:Nat):gr a b = min (a + b) 255:=by
 unfold gr
 split <;> omega
def addV (a b:Sm):Sm:=⟨a.i + b.i,a.c + b.c,a.t + b.t⟩
def cutV (s:Sm):Sm:=⟨min s.i 255,min s.c 255,min s.t 255⟩
def rawN (c:Cp):Sm:=⟨c.ids.length,c.classes.length + c.attrs.length,if c.tag = ⟨#[]⟩ then 0 else 1⟩
def rawC (G:List Sel → Sm) (o:Sm) (c:Cp):Sm:=c.pss.foldl (fun o p => addV o (psV G p)) (addV o (rawN c))
def rawS (G:List Sel → Sm) (s:Sel):Sm:=s.foldl (fun o p => rawC G o p.2) Sm.zero
theorem with_cut (o b:Sm):withV (cutV o) b = cutV (addV o b):=by
 unfold withV cutV addV
 simp only [gr_min]
 congr 1 <;> omega
theorem names_cut (o:Sm) (c:Cp):withV (cutV o) (namesV c) = cutV (addV o (rawN c)):=by
 unfold withV cutV addV namesV rawN
 simp only [gr_min]
 congr 1 <;> omega
theorem ps_cut (G:List Sel → Sm):∀ (l:List Ps) (o:Sm),l.foldl (fun o p => withV o (psV G p)) (cutV o) = cutV (l.foldl (fun o p => addV o (psV G p)) o)
 | [],_ => rfl
 | p :: l,o => by rw [List.foldl_cons,List.foldl_cons,with_cut,ps_cut G l]
theorem comp_raw (G:List Sel → Sm) (o:Sm) (c:Cp):compS G (cutV o) c = cutV (rawC G o c):=by
 unfold compS rawC
 rw [names_cut,ps_cut]
theorem fold_raw (G:List Sel → Sm):∀ (s:Sel) (o:Sm),s.foldl (fun o p => compS G o p.2) (cutV o) = cutV (s.foldl (fun o p => rawC G o p.2) o)
 | [],_ => rfl
 | p :: s,o => by rw [List.foldl_cons,List.foldl_cons,comp_raw,fold_raw G s]
theorem sums_raw (G:List Sel → Sm) (s:Sel):sumsV G s = cutV (rawS G s):=fold_raw G s Sm.zero
theorem heavier_w (a b:Sm):weightV (heavier a b) = if weightV a < weightV b then weightV b else weightV a:=by
 unfold heavier
 split <;> rfl
theorem weight_i {s:Sm} (h:s.ok):weightV s / 65536 = s.i:=by
 obtain ⟨h1,h2,h3⟩:=h
 unfold weightV
 omega
theorem weight_c {s:Sm} (h:s.ok):weightV s / 256 % 256 = s.c:=by
 obtain ⟨h1,h2,h3⟩:=h
 unfold weightV
 omega
theorem weight_t {s:Sm} (h:s.ok):weightV s % 256 = s.t:=by
 obtain ⟨h1,h2,h3⟩:=h
 unfold weightV
 omega
theorem weight_lt {s:Sm} (h:s.ok):weightV s < 16777216:=by
 obtain ⟨h1,h2,h3⟩:=h
 unfold weightV
 omega
def SmB (n:Nat) (s:Sm):Prop:=s.i ≤ n ∧ s.c ≤ n ∧ s.t ≤ n
theorem SmB.add {n m:Nat} {a b:Sm} (ha:SmB n a) (hb:SmB m b):SmB (n + m) (addV a b):=⟨Nat.add_le_add ha.1 hb.1,Nat.add_le_add ha.2.1 hb.2.1,Nat.add_le_add ha.2.2 hb.2.2⟩
theorem and255 (k:Int):bits BinOp.and IntKind.i64 k 255 = k % 256:=by
 have e:(BitVec.ofInt 64 k &&& BitVec.ofInt 64 255).toNat = (k % 256).toNat:=by
  rw [BitVec.toNat_and,show (BitVec.ofInt 64 255).toNat = 2 ^ 8 - 1 from by decide,Nat.and_two_pow_sub_one_eq_mod,BitVec.toNat_ofInt]
  omega
 show IntKind.i64.wrap ((BitVec.ofInt 64 k &&& BitVec.ofInt 64 255).toNat:Int) = _
 rw [e,IntKind.wrap_i64]
 omega
theorem cut_sum (a b c:Nat) (ha:a ≤ 255) (hb:b ≤ 255) (hc:c ≤ 255):IntKind.i64.wrap (IntKind.i64.wrap (IntKind.i64.wrap ((a:Int) * 65536) + IntKind.i64.wrap ((b:Int) * 256)) + (c:Int)) = ((65536 * a + 256 * b + c:Nat):Int):=by
 rw [IntKind.wrap_i64,IntKind.wrap_i64,IntKind.wrap_i64,IntKind.wrap_i64]
 omega
end Go.Proofs.YtnemagmakgiheaaGreat.Wg

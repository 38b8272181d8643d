/- Hashes of names, in plain words (chapter 13). -/
import Derived.Test.YtiaikkbmgnaikaaTre
import Derived.WalkKit
namespace Go.Proofs.Ytiaikkbmgnaikaa.Bl
open Go Go.Proofs.Ytiaikkbmgnaikaa.Tre

def mixV (h b : Nat) : Nat := ((h ^^^ b) * 16777619) % 4294967296
def hashV (kind : Int) (s : ByteArray) : Nat := s.data.toList.foldl (fun h b => mixV h b.toNat) (mixV 2166136261 (kind % 256).toNat)
def namesV (tag : ByteArray) (ids classes : List ByteArray) : List Nat := (if tag = ⟨#[]⟩ then [] else [hashV 1 tag]) ++ (ids.map (hashV 2) ++ classes.map (hashV 3))
def cpNames (c : Cp) : List Nat := namesV c.tag c.ids c.classes
/-- What stands above part i, from the nearest one on. -/
def aboveV (s : Sel) : Nat → List Cp
  | 0 => []
  | i + 1 => match s[i + 1]?, s[i]? with
    | some q, some p => if q.1 = 1 ∨ q.1 = 2 then p.2 :: aboveV s i else []
    | _, _ => []
def wantsV (s : Sel) : List Nat := (aboveV s (s.length - 1)).flatMap cpNames
theorem mix_lt (h b : Nat) : mixV h b < 4294967296 := Nat.mod_lt _ (by decide)
theorem hash_fold_lt : ∀ (l : List UInt8) (h : Nat), h < 4294967296 → l.foldl (fun h b => mixV h b.toNat) h < 4294967296
  | [], _, h => h
  | b :: l, h, _ => hash_fold_lt l _ (mix_lt h b.toNat)
theorem hash_lt (kind : Int) (s : ByteArray) : hashV kind s < 4294967296 := hash_fold_lt _ _ (mix_lt _ _)
theorem xor_lt {h b : Nat} (hh : h < 4294967296) (hb : b < 4294967296) : h ^^^ b < 4294967296 := Nat.xor_lt_two_pow (n := 32) hh hb
/-- The program's own, in 32 bits. -/
theorem xor32 {h b : Nat} (hh : h < 4294967296) (hb : b < 4294967296) : bits BinOp.xor IntKind.u32 (h : Int) (b : Int) = ((h ^^^ b : Nat) : Int) := by
  have e : (BitVec.ofInt 32 (h : Int) ^^^ BitVec.ofInt 32 (b : Int)).toNat = h ^^^ b := by
    rw [BitVec.toNat_xor, BitVec.toNat_ofInt, BitVec.toNat_ofInt]
    have h1 : ((h : Int) % ((2 ^ 32 : Nat) : Int)).toNat = h := by omega
    have h2 : ((b : Int) % ((2 ^ 32 : Nat) : Int)).toNat = b := by omega
    rw [h1, h2]
  show IntKind.u32.wrap ((BitVec.ofInt 32 (h : Int) ^^^ BitVec.ofInt 32 (b : Int)).toNat : Int) = _
  have := xor_lt hh hb
  rw [e, IntKind.wrap_u32]
  omega
theorem mul32 (x : Nat) : IntKind.u32.wrap ((x : Int) * 16777619) = (((x * 16777619) % 4294967296 : Nat) : Int) := by
  rw [IntKind.wrap_u32]; omega
/-- The document's own, in 64 bits. -/
theorem xor64 {h b : Nat} (hh : h < 4294967296) (hb : b < 4294967296) : bits BinOp.xor IntKind.i64 (h : Int) (b : Int) = ((h ^^^ b : Nat) : Int) := by
  have e : (BitVec.ofInt 64 (h : Int) ^^^ BitVec.ofInt 64 (b : Int)).toNat = h ^^^ b := by
    rw [BitVec.toNat_xor, BitVec.toNat_ofInt, BitVec.toNat_ofInt]
    have h1 : ((h : Int) % ((2 ^ 64 : Nat) : Int)).toNat = h := by omega
    have h2 : ((b : Int) % ((2 ^ 64 : Nat) : Int)).toNat = b := by omega
    rw [h1, h2]
  show IntKind.i64.wrap ((BitVec.ofInt 64 (h : Int) ^^^ BitVec.ofInt 64 (b : Int)).toNat : Int) = _
  have := xor_lt hh hb
  rw [e, IntKind.wrap_i64]
  omega
theorem mul64 {x : Nat} (hx : x < 4294967296) : IntKind.i64.wrap ((x : Int) * 16777619) = (x : Int) * 16777619 := by
  rw [IntKind.wrap_i64]; omega
theorem lowN (y : Nat) : bits BinOp.and IntKind.i64 (y : Int) 4294967295 = ((y % 4294967296 : Nat) : Int) := by
  have e : (BitVec.ofInt 64 (y : Int) &&& BitVec.ofInt 64 4294967295).toNat = y % 4294967296 := by
    rw [BitVec.toNat_and, show (BitVec.ofInt 64 4294967295).toNat = 2 ^ 32 - 1 from by decide, Nat.and_two_pow_sub_one_eq_mod, BitVec.toNat_ofInt]
    omega
  show IntKind.i64.wrap ((BitVec.ofInt 64 (y : Int) &&& BitVec.ofInt 64 4294967295).toNat : Int) = _
  rw [e, IntKind.wrap_i64]
  omega
theorem low64 (x : Nat) : bits BinOp.and IntKind.i64 ((x : Int) * 16777619) 4294967295 = (((x * 16777619) % 4294967296 : Nat) : Int) := by
  have := lowN (x * 16777619)
  rwa [Int.natCast_mul] at this
theorem byte64 (k : Int) : bits BinOp.and IntKind.i64 k 255 = (((k % 256).toNat : Nat) : Int) := by
  have e : (BitVec.ofInt 64 k &&& BitVec.ofInt 64 255).toNat = (k % 256).toNat := by
    rw [BitVec.toNat_and, show (BitVec.ofInt 64 255).toNat = 2 ^ 8 - 1 from by decide, Nat.and_two_pow_sub_one_eq_mod, BitVec.toNat_ofInt]
    omega
  show IntKind.i64.wrap ((BitVec.ofInt 64 k &&& BitVec.ofInt 64 255).toNat : Int) = _
  rw [e, IntKind.wrap_i64]
  omega

end Go.Proofs.Ytiaikkbmgnaikaa.Bl

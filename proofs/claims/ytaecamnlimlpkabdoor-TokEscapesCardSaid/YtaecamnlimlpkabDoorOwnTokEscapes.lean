/- For all integers and booleans: the law tapestrierlaw4.TokEscapes returns true; conditions: the tables hold what their texts lay (the card ties them to the program's text). -/
import Derived.Test.YtaecamnlimlpkabDoorTkUse
namespace Go.Proofs.YtaecamnlimlpkabDoor
open Go Go.ChangeShapes Go.WideShapes Go.ChangeAt Go.RowKit

/-! ### the hexadecimal text -/
def hexb (k : Nat) : UInt8 := if k < 10 then UInt8.ofNat (48 + k) else UInt8.ofNat (87 + k)
theorem hexb_val : ∀ k : Fin 16, hexv ((hexb k).toNat : Int) = (k : Nat) := by decide
theorem hex16_list (k : Nat) (h : k < 16) : ((⟨#[48, 49, 50, 51, 52, 53, 54, 55, 56, 57, 97, 98, 99, 100, 101, 102]⟩ : ByteArray).extract k (k + 1)).data.toList = [hexb k] := by
  rw [Nm.data_ext]
  have : k = 0 ∨ k = 1 ∨ k = 2 ∨ k = 3 ∨ k = 4 ∨ k = 5 ∨ k = 6 ∨ k = 7 ∨ k = 8 ∨ k = 9 ∨ k = 10 ∨ k = 11 ∨ k = 12 ∨ k = 13 ∨ k = 14 ∨ k = 15 := by omega
  rcases this with rfl | rfl | rfl | rfl | rfl | rfl | rfl | rfl | rfl | rfl | rfl | rfl | rfl | rfl | rfl | rfl <;> rfl
theorem hex16_at (k : Nat) (h : k < 16) : (⟨#[48, 49, 50, 51, 52, 53, 54, 55, 56, 57, 97, 98, 99, 100, 101, 102]⟩ : ByteArray).extract k (k + 1) = ⟨#[hexb k]⟩ := by
  apply ByteArray.ext
  apply Array.ext'
  rw [hex16_list k h]
/-- s is the hexadecimal text of n's low digits, and m is what is left of n above them. -/
structure HexAt (n : Int) (s : ByteArray) (m : Nat) : Prop where
  all : (ints s.data.toList).all isHex = true
  val : hexVal m (ints s.data.toList) = n
  len : s.size ≤ 6
  low : m < 16 ^ (6 - s.size)
theorem HexAt.start (n : Nat) (h : n ≤ 16777215) : HexAt n ⟨#[]⟩ n := ⟨rfl, rfl, by decide, by
  show n < 16 ^ (6 - 0)
  have : (16 : Nat) ^ (6 - 0) = 16777216 := by decide
  omega⟩
theorem HexAt.short {n : Int} {s : ByteArray} {m : Nat} (h : HexAt n s m) (hs : 0 < m ∨ s.size = 0) : s.size < 6 := by
  have h1 := h.len
  have h2 := h.low
  by_cases e : s.size = 6
  · rw [e] at h2
    simp at h2
    omega
  · omega
theorem HexAt.step {n : Int} {s : ByteArray} {m : Nat} (h : HexAt n s m) (hs : 0 < m ∨ s.size = 0) : HexAt n (⟨#[hexb (m % 16)]⟩ ++ s) (m / 16) := by
  have h6 := h.short hs
  have hv := hexb_val ⟨m % 16, by omega⟩
  simp only at hv
  have e : ints (⟨#[hexb (m % 16)]⟩ ++ s : ByteArray).data.toList = ((hexb (m % 16)).toNat : Int) :: ints s.data.toList := by rw [Nm.data_app]; rfl
  have sz : (⟨#[hexb (m % 16)]⟩ ++ s : ByteArray).size = s.size + 1 := by rw [ByteArray.size_append, Nat.add_comm]; rfl
  refine ⟨?_, ?_, ?_, ?_⟩
  · rw [e, List.all_cons, h.all, isHex_iff.2 (by rw [hv]; omega)]
    rfl
  · rw [e]
    show hexVal (((m / 16 : Nat) : Int) * 16 + hexv ((hexb (m % 16)).toNat : Int)) _ = n
    rw [hv, show ((m / 16 : Nat) : Int) * 16 + ((m % 16 : Nat) : Int) = (m : Int) by omega]
    exact h.val
  · rw [sz]; omega
  · rw [sz]
    refine Nat.div_lt_of_lt_mul ?_
    rw [← Nat.pow_succ', show (6 - (s.size + 1)).succ = 6 - s.size by omega]
    exact h.low
def strSz : Value → Nat
  | .string s => s.size
  | _ => 0

/-! ### what is read -/
theorem tks_one (q : Int) (l : List Int) (x : ByteArray) (h : txtOf l = x) : (tksCells [⟨q, l, 0, false, 0⟩]).toArray = #[.int .i64 q, .string x, .int .i64 0, .bool false, .int .i64 0] := by
  subst h
  simp [tksCells, tkCells]
structure EscKind (n : Int) (S E : ByteArray) (e : List Int) : Prop where
  one : tksOf S.data.toList = [⟨1, hexPoint n :: e, 0, false, 0⟩]
  two : tksOf (⟨#[34]⟩ ++ S ++ ⟨#[34]⟩ : ByteArray).data.toList = [⟨4, hexPoint n :: e, 0, false, 0⟩]
  txt : txtOf (hexPoint n :: e) = txtOf [hexPoint n] ++ E
  small : S.size ≤ 9 ∧ E.size ≤ 1
theorem esc_kind {n : Int} {s : ByteArray} (h : HexAt n s 0) (h0 : s.size ≠ 0) (x : List UInt8) (e : List UInt8) (he : e = [] ∨ e = [103]) (hx : x = 32 :: e ∨ (x = e ∧ s.size = 6 ∧ e = [103])) {S E : ByteArray} (hS : S.data.toList = 92 :: (s.data.toList ++ x)) (hE : E.data.toList = e) : EscKind n S E (ints e) := by
  have hne : ints s.data.toList ≠ [] := fun e => by
    have := congrArg List.length e
    rw [ints_length, Nm.len_list] at this
    exact h0 this
  have hle : (ints s.data.toList).length = s.size := by rw [ints_length, Nm.len_list]
  have hlen := h.len
  obtain ⟨c, l, el⟩ := List.exists_cons_of_ne_nil hne
  have hpl : ∀ u ∈ s.data.toList, u.toNat < 128 ∧ u.toNat ≠ 13 ∧ u.toNat ≠ 12 ∧ u.toNat ≠ 0 := fun u hu => by
    have := hex_plain (List.all_eq_true.1 h.all _ (List.mem_map_of_mem hu))
    omega
  have hpx : ∀ u ∈ x, u.toNat < 128 ∧ u.toNat ≠ 13 ∧ u.toNat ≠ 12 ∧ u.toNat ≠ 0 := by
    rcases he with rfl | rfl <;> rcases hx with rfl | ⟨rfl, _, _⟩ <;> decide
  have hp1 : ∀ u ∈ 92 :: (s.data.toList ++ x), u.toNat < 128 ∧ u.toNat ≠ 13 ∧ u.toNat ≠ 12 ∧ u.toNat ≠ 0 := fun u hu => by
    rcases List.mem_cons.1 hu with rfl | hu
    · decide
    · exact (List.mem_append.1 hu).elim (hpl u) (hpx u)
  have hp2 : ∀ u ∈ 34 :: (92 :: (s.data.toList ++ x) ++ [34]), u.toNat < 128 ∧ u.toNat ≠ 13 ∧ u.toNat ≠ 12 ∧ u.toNat ≠ 0 := fun u hu => by
    rcases List.mem_cons.1 hu with rfl | hu
    · decide
    · rcases List.mem_append.1 hu with hu | hu
      · exact hp1 u hu
      · rcases List.mem_singleton.1 hu with rfl
        decide
  have hal := h.all
  have hval := h.val
  rw [el] at hal hval hle
  obtain ⟨k1, k2⟩ := toks_escape nvOf (h := l) (x := ints x) (e := ints e) hal (by omega) (by rcases he with rfl | rfl <;> simp [ints]) (by
    rcases hx with rfl | ⟨rfl, h6, rfl⟩
    · exact .inl rfl
    · exact .inr ⟨rfl, by omega, rfl⟩)
  rw [show hexVal 0 (c :: l) = n from hval] at k1 k2
  refine ⟨?_, ?_, ?_, ?_, ?_⟩
  · rw [hS]
    unfold tksOf
    rw [prep_ints _ hp1]
    have : ints (92 :: (s.data.toList ++ x)) = 92 :: (c :: l ++ ints x) := by
      rw [← el, ← ints_append]; rfl
    rw [this]
    exact k1
  · rw [Nm.data_app, Nm.data_app, hS]
    unfold tksOf
    rw [show (⟨#[34]⟩ : ByteArray).data.toList ++ 92 :: (s.data.toList ++ x) ++ (⟨#[34]⟩ : ByteArray).data.toList = 34 :: (92 :: (s.data.toList ++ x) ++ [34]) from rfl, prep_ints _ hp2]
    have : ints (34 :: (92 :: (s.data.toList ++ x) ++ [34])) = 34 :: (92 :: (c :: l ++ ints x) ++ [34]) := by
      rw [← el, ← ints_append]
      simp [ints]
    rw [this]
    exact k2
  · apply ByteArray.ext
    apply Array.ext'
    rw [Nm.data_app, hE]
    show encs _ = encs _ ++ e
    rw [show encs (hexPoint n :: ints e) = encs [hexPoint n] ++ encs (ints e) by simp [encs]]
    rcases he with rfl | rfl
    · rfl
    · rw [encs_plain _ (by decide)]
  · rw [← Nm.len_list, hS]
    rcases he with rfl | rfl <;> rcases hx with rfl | ⟨rfl, _, _⟩ <;> simp <;> omega
  · rw [← Nm.len_list, hE]
    rcases he with rfl | rfl <;> simp

set_option maxRecDepth 100000 in
set_option maxHeartbeats 8000000 in
theorem tokEscapes_walk (w : World) (hT : LTabs w.heap.size w) (n : Int) (_wf : (Lit.int .i64 n).wf = true) (blank : Bool) :
    Calls Tryd.prog 3 #[.int .i64 n, .bool blank] w fun e w' => e = .returned (.bool true) ∧ Below w.heap.size w w' := by
  have h0 := alive_any w hT
  go_enter Tryd.func3, Tryd.ntmps3
  go_wp2_with fail
  refine h0.mono ?_
  clear h0
  rintro e w1 ⟨rfl, b1⟩
  have T1 := hT.next b1
  by_cases hn0 : n < 0
  · go_wp2
    go_ret
    exact ⟨rfl, b1⟩
  by_cases hn1 : 16777215 < n
  · go_wp2
    go_ret
    exact ⟨rfl, b1⟩
  obtain ⟨N, rfl⟩ := Int.eq_ofNat_of_zero_le (show 0 ≤ n by omega)
  go_wp2
  go_loopw [6, 7] (fun h k wr => ∃ (s : ByteArray) (m : Nat), h = .string s ∧ k = .int .i64 m ∧ HexAt N s m ∧ w1 = wr) (fun h _ _ => 6 - strSz h)
  case atStart => exact ⟨_, _, rfl, rfl, HexAt.start N (by omega), rfl⟩
  case round =>
    obtain ⟨s, m, rfl, rfl, hm, rfl⟩ := hrel
    by_cases hgo : 0 < m ∨ s.size = 0
    · have h6 := hm.short hgo
      have hst := hm.step hgo
      have hx := hex16_at (m % 16) (by omega)
      have e15 : bits .and .i64 (m : Int) 15 = ((m % 16 : Nat) : Int) := i64_and15 _
      have hsz : (⟨#[hexb (m % 16)]⟩ : ByteArray).size = 1 := rfl
      by_cases hm0 : 0 < m
      · have g : (0 : Int) < (m : Int) := by omega
        go_wp2
        exact ⟨⟨_, m / 16, rfl, rfl, hst, trivial⟩, by simp only [strSz, ByteArray.size_append, hsz]; omega⟩
      · obtain rfl : m = 0 := by omega
        have hs0 : s.size = 0 := hgo.resolve_left hm0
        clear hm0 hgo hm e15 hx hsz
        obtain rfl : s = ⟨#[]⟩ := by
          apply ByteArray.ext
          exact Array.eq_empty_of_size_eq_zero hs0
        clear hs0
        have e15 : bits .and .i64 0 15 = 0 := by decide
        have hx : (⟨#[48, 49, 50, 51, 52, 53, 54, 55, 56, 57, 97, 98, 99, 100, 101, 102]⟩ : ByteArray).extract 0 1 = ⟨#[hexb 0]⟩ := hex16_at 0 (by decide)
        go_wp2
        exact ⟨⟨_, 0, rfl, rfl, hst, trivial⟩, by simp only [strSz, ByteArray.size_append]; decide⟩
    · obtain rfl : m = 0 := by omega
      have hs0 : s.size ≠ 0 := by omega
      have hse : s.toList.isEmpty = false := by
        rw [Nm.empty_list]
        cases e : s.data.toList with
        | nil =>
          have := Nm.len_list s
          rw [e] at this
          exact absurd this.symm hs0
        | cons x r => rfl
      clear hgo
      have h6 := hm.len
      go_upto_region 10 with fail
      go_cut [55] (fun b wx => b = .bool (decide ((N : Int) = 0 ∨ 1114111 < (N : Int) ∨ (55296 ≤ (N : Int) ∧ (N : Int) ≤ 57343))) ∧ w1 = wx)
      case first =>
        by_cases a1 : N = 0
        · subst a1
          go_wp2
          go_meet
          exact ⟨rfl, rfl⟩
        have a1' : ((N : Int) == 0) = false := by simp; omega
        by_cases a2 : 1114111 < (N : Int)
        · go_wp2
          go_meet
          exact ⟨by rw [decide_eq_true (.inr (.inl a2))], rfl⟩
        by_cases a3 : (N : Int) < 55296
        · have a3' : ¬ 55296 ≤ (N : Int) := by omega
          go_wp2
          go_meet
          exact ⟨by rw [decide_eq_false (by omega)], rfl⟩
        have a3' : 55296 ≤ (N : Int) := by omega
        by_cases a4 : (N : Int) ≤ 57343
        · go_wp2
          go_meet
          exact ⟨by rw [decide_eq_true (by omega)], rfl⟩
        · go_wp2
          go_meet
          exact ⟨by rw [decide_eq_false (by omega)], rfl⟩
      case rest =>
      obtain ⟨rfl, rfl⟩ := hcut
      go_upto_if 55 with fail
      go_cut [8] (fun c wx => c = .int .i64 (hexPoint N) ∧ w1 = wx)
      case first =>
        by_cases hc : (N : Int) = 0 ∨ 1114111 < (N : Int) ∨ (55296 ≤ (N : Int) ∧ (N : Int) ≤ 57343)
        · rw [decide_eq_true hc]
          go_wp2
          go_meet
          exact ⟨by unfold hexPoint; rw [if_pos hc], rfl⟩
        · rw [decide_eq_false hc]
          go_wp2
          go_meet
          exact ⟨by unfold hexPoint; rw [if_neg hc], rfl⟩
      case rest =>
      obtain ⟨rfl, rfl⟩ := hcut
      have hI : IntsAt (w1.alloc (.cells #[.int .i64 (hexPoint N)] 3)).heap.size (w1.alloc (.cells #[.int .i64 (hexPoint N)] 3)) (.slice (some ⟨w1.heap.size, 0, none⟩) 1 1) [hexPoint N] := .inr ⟨w1.heap.size, 0, 1, rfl, Nat.le_refl _, by unfold maxLen; omega, by rw [World.size_alloc]; exact Nat.lt_succ_self _, fun j u hj => by
        rw [cell_of_block (World.alloc_heap_new w1 _) _, Nat.zero_add]
        cases j with
        | zero => simpa using hj
        | succ j => simp at hj⟩
      have b2 : Below w1.heap.size w1 (w1.alloc (.cells #[.int .i64 (hexPoint N)] 3)) := (Below.refl _ w1).alloc (Nat.le_refl _) _
      have h3 := refBytes_any _ _ _ hI (by simp)
      clear hI
      have hX : (txtOf [hexPoint N]).size ≤ 4 := by
        have := encs_len [hexPoint N]
        show (encs [hexPoint N]).toArray.size ≤ _
        rw [List.size_toArray]
        simpa using this
      go_wp2_with fail
      refine h3.mono ?_
      clear h3
      rintro e w3 ⟨v3, rfl, r3, b3⟩
      have hc : (convert 24 9 v3).run Tryd.prog w3 = .ok (.string (txtOf [hexPoint N])) w3 := str_of_bytes (BytesAt.of_owns r3 rfl)
      have b13 := b2.trans (b3.mono b2.size)
      have T3 := T1.next b13
      have bb := b1.trans (b13.mono b1.size)
      clear r3 b2 b3 b13
      have x1 : (⟨#[92]⟩ : ByteArray).size = 1 := rfl
      have x2 : (⟨#[32]⟩ : ByteArray).size = 1 := rfl
      have x3 : (⟨#[103]⟩ : ByteArray).size = 1 := rfl
      have x4 : (⟨#[34]⟩ : ByteArray).size = 1 := rfl
      have three : blank = true ∨ (blank = false ∧ s.size < 6) ∨ (blank = false ∧ s.size = 6) := by
        cases blank
        · by_cases h : s.size < 6
          · exact .inr (.inl ⟨rfl, h⟩)
          · exact .inr (.inr ⟨rfl, by omega⟩)
        · exact .inl rfl
      rcases three with rfl | ⟨rfl, h7⟩ | ⟨rfl, h7⟩
      · have K := esc_kind hm hs0 [32] [] (.inl rfl) (.inl rfl) (S := ⟨#[92]⟩ ++ s ++ ⟨#[32]⟩) (E := ⟨#[]⟩) (by rw [Nm.data_app, Nm.data_app]; rfl) rfl
        go_upto_region 20 with fail
        obtain ⟨k1, k2, kt, sS, sE⟩ := K
        rw [show ints [] = [] from rfl] at k1 k2 kt
        have tb := fun (q : Int) (W : World) => tks_new W [⟨q, hexPoint N :: [], 0, false, 0⟩] (by simp)
        simp only [tks_one _ _ _ kt] at tb
        have bW := fun (q : Int) (W : World) => (Below.refl W.heap.size W).alloc (Nat.le_refl _) (.cells #[.int .i64 q, .string (txtOf [hexPoint N] ++ ⟨#[]⟩), .int .i64 0, .bool false, .int .i64 0] 31)
        clear kt hm
        generalize txtOf [hexPoint N] = X at *
        generalize (⟨#[92]⟩ ++ s ++ ⟨#[32]⟩ : ByteArray) = S at *
        obtain ⟨p4, m4, c4, w4, hrun4, hB4, b4, _⟩ := conv_str S w3 (by omega)
        have h5 := ofB_any _ _ w4 hB4 (T3.next b4) (by rw [Nm.len_list]; omega)
        rw [k1] at h5
        go_wp2_with fail
        refine h5.mono ?_
        clear h5 hrun4 hB4
        rintro e w5 ⟨v5, rfl, r5, b5⟩
        have b35 := b4.trans (b5.mono b4.size)
        have t6 := tb 1 w5
        have s6 : (w5.alloc (.cells #[.int .i64 1, .string (X ++ ⟨#[]⟩), .int .i64 0, .bool false, .int .i64 0] 31)).heap.size = w5.heap.size + 1 := World.size_alloc _ _
        rw [← s6] at t6
        clear s6
        have h7 := sameToks_yes v5 _ [⟨1, hexPoint N :: [], 0, false, 0⟩] _ ((TksAt.of_owns r5).next (bW 1 w5)) t6 (by simp)
        clear r5 t6
        go_wp2_with fail
        refine h7.mono ?_
        clear h7
        have b36 := b35.trans ((bW 1 w5).mono b35.size)
        rintro e w7 ⟨rfl, b7⟩
        have b37 := b36.trans (b7.mono b36.size)
        clear b36 b35 b7 b4 b5
        obtain ⟨p8, m8, c8, w8, hrun8, hB8, b8, _⟩ := conv_str (⟨#[34]⟩ ++ S ++ ⟨#[34]⟩) w7 (by simp only [ByteArray.size_append, x4]; omega)
        have b38 := b37.trans (b8.mono b37.size)
        have h9 := ofB_any _ _ w8 hB8 (T3.next b38) (by rw [Nm.len_list]; simp only [ByteArray.size_append, x4]; omega)
        rw [k2] at h9
        go_wp2_with fail
        refine h9.mono ?_
        clear h9 hrun8 hB8
        rintro e w9 ⟨v9, rfl, r9, b9⟩
        have b39 := b38.trans (b9.mono b38.size)
        have t10 := tb 4 w9
        have s10 : (w9.alloc (.cells #[.int .i64 4, .string (X ++ ⟨#[]⟩), .int .i64 0, .bool false, .int .i64 0] 31)).heap.size = w9.heap.size + 1 := World.size_alloc _ _
        rw [← s10] at t10
        clear s10
        have h11 := sameToks_yes v9 _ [⟨4, hexPoint N :: [], 0, false, 0⟩] _ ((TksAt.of_owns r9).next (bW 4 w9)) t10 (by simp)
        clear r9 t10
        go_wp2_with fail
        refine h11.mono ?_
        clear h11
        have b310 := b39.trans ((bW 4 w9).mono b39.size)
        rintro e w11 ⟨rfl, b11⟩
        have b311 := b310.trans (b11.mono b310.size)
        go_wp2
        go_ret
        exact ⟨rfl, bb.trans (b311.mono bb.size)⟩
      · have K := esc_kind hm hs0 [32, 103] [103] (.inr rfl) (.inl rfl) (S := ⟨#[92]⟩ ++ s ++ ⟨#[32]⟩ ++ ⟨#[103]⟩) (E := ⟨#[103]⟩) (by rw [Nm.data_app, Nm.data_app, Nm.data_app, List.append_assoc]; rfl) rfl
        have g7 : (s.size : Int) < 6 := by omega
        go_upto_region 20 with fail
        obtain ⟨k1, k2, kt, sS, sE⟩ := K
        rw [show ints [103] = [103] from rfl] at k1 k2 kt
        have tb := fun (q : Int) (W : World) => tks_new W [⟨q, hexPoint N :: [103], 0, false, 0⟩] (by simp)
        simp only [tks_one _ _ _ kt] at tb
        have bW := fun (q : Int) (W : World) => (Below.refl W.heap.size W).alloc (Nat.le_refl _) (.cells #[.int .i64 q, .string (txtOf [hexPoint N] ++ ⟨#[103]⟩), .int .i64 0, .bool false, .int .i64 0] 31)
        clear kt hm
        generalize txtOf [hexPoint N] = X at *
        generalize (⟨#[92]⟩ ++ s ++ ⟨#[32]⟩ ++ ⟨#[103]⟩ : ByteArray) = S at *
        obtain ⟨p4, m4, c4, w4, hrun4, hB4, b4, _⟩ := conv_str S w3 (by omega)
        have h5 := ofB_any _ _ w4 hB4 (T3.next b4) (by rw [Nm.len_list]; omega)
        rw [k1] at h5
        go_wp2_with fail
        refine h5.mono ?_
        clear h5 hrun4 hB4
        rintro e w5 ⟨v5, rfl, r5, b5⟩
        have b35 := b4.trans (b5.mono b4.size)
        have t6 := tb 1 w5
        have s6 : (w5.alloc (.cells #[.int .i64 1, .string (X ++ ⟨#[103]⟩), .int .i64 0, .bool false, .int .i64 0] 31)).heap.size = w5.heap.size + 1 := World.size_alloc _ _
        rw [← s6] at t6
        clear s6
        have h7 := sameToks_yes v5 _ [⟨1, hexPoint N :: [103], 0, false, 0⟩] _ ((TksAt.of_owns r5).next (bW 1 w5)) t6 (by simp)
        clear r5 t6
        go_wp2_with fail
        refine h7.mono ?_
        clear h7
        have b36 := b35.trans ((bW 1 w5).mono b35.size)
        rintro e w7 ⟨rfl, b7⟩
        have b37 := b36.trans (b7.mono b36.size)
        clear b36 b35 b7 b4 b5
        obtain ⟨p8, m8, c8, w8, hrun8, hB8, b8, _⟩ := conv_str (⟨#[34]⟩ ++ S ++ ⟨#[34]⟩) w7 (by simp only [ByteArray.size_append, x4]; omega)
        have b38 := b37.trans (b8.mono b37.size)
        have h9 := ofB_any _ _ w8 hB8 (T3.next b38) (by rw [Nm.len_list]; simp only [ByteArray.size_append, x4]; omega)
        rw [k2] at h9
        go_wp2_with fail
        refine h9.mono ?_
        clear h9 hrun8 hB8
        rintro e w9 ⟨v9, rfl, r9, b9⟩
        have b39 := b38.trans (b9.mono b38.size)
        have t10 := tb 4 w9
        have s10 : (w9.alloc (.cells #[.int .i64 4, .string (X ++ ⟨#[103]⟩), .int .i64 0, .bool false, .int .i64 0] 31)).heap.size = w9.heap.size + 1 := World.size_alloc _ _
        rw [← s10] at t10
        clear s10
        have h11 := sameToks_yes v9 _ [⟨4, hexPoint N :: [103], 0, false, 0⟩] _ ((TksAt.of_owns r9).next (bW 4 w9)) t10 (by simp)
        clear r9 t10
        go_wp2_with fail
        refine h11.mono ?_
        clear h11
        have b310 := b39.trans ((bW 4 w9).mono b39.size)
        rintro e w11 ⟨rfl, b11⟩
        have b311 := b310.trans (b11.mono b310.size)
        go_wp2
        go_ret
        exact ⟨rfl, bb.trans (b311.mono bb.size)⟩
      · have K := esc_kind hm hs0 [103] [103] (.inr rfl) (.inr ⟨rfl, h7, rfl⟩) (S := ⟨#[92]⟩ ++ s ++ ⟨#[103]⟩) (E := ⟨#[103]⟩) (by rw [Nm.data_app, Nm.data_app]; rfl) rfl
        have g7 : ¬ (s.size : Int) < 6 := by omega
        go_upto_region 20 with fail
        obtain ⟨k1, k2, kt, sS, sE⟩ := K
        rw [show ints [103] = [103] from rfl] at k1 k2 kt
        have tb := fun (q : Int) (W : World) => tks_new W [⟨q, hexPoint N :: [103], 0, false, 0⟩] (by simp)
        simp only [tks_one _ _ _ kt] at tb
        have bW := fun (q : Int) (W : World) => (Below.refl W.heap.size W).alloc (Nat.le_refl _) (.cells #[.int .i64 q, .string (txtOf [hexPoint N] ++ ⟨#[103]⟩), .int .i64 0, .bool false, .int .i64 0] 31)
        clear kt hm
        generalize txtOf [hexPoint N] = X at *
        generalize (⟨#[92]⟩ ++ s ++ ⟨#[103]⟩ : ByteArray) = S at *
        obtain ⟨p4, m4, c4, w4, hrun4, hB4, b4, _⟩ := conv_str S w3 (by omega)
        have h5 := ofB_any _ _ w4 hB4 (T3.next b4) (by rw [Nm.len_list]; omega)
        rw [k1] at h5
        go_wp2_with fail
        refine h5.mono ?_
        clear h5 hrun4 hB4
        rintro e w5 ⟨v5, rfl, r5, b5⟩
        have b35 := b4.trans (b5.mono b4.size)
        have t6 := tb 1 w5
        have s6 : (w5.alloc (.cells #[.int .i64 1, .string (X ++ ⟨#[103]⟩), .int .i64 0, .bool false, .int .i64 0] 31)).heap.size = w5.heap.size + 1 := World.size_alloc _ _
        rw [← s6] at t6
        clear s6
        have h7 := sameToks_yes v5 _ [⟨1, hexPoint N :: [103], 0, false, 0⟩] _ ((TksAt.of_owns r5).next (bW 1 w5)) t6 (by simp)
        clear r5 t6
        go_wp2_with fail
        refine h7.mono ?_
        clear h7
        have b36 := b35.trans ((bW 1 w5).mono b35.size)
        rintro e w7 ⟨rfl, b7⟩
        have b37 := b36.trans (b7.mono b36.size)
        clear b36 b35 b7 b4 b5
        obtain ⟨p8, m8, c8, w8, hrun8, hB8, b8, _⟩ := conv_str (⟨#[34]⟩ ++ S ++ ⟨#[34]⟩) w7 (by simp only [ByteArray.size_append, x4]; omega)
        have b38 := b37.trans (b8.mono b37.size)
        have h9 := ofB_any _ _ w8 hB8 (T3.next b38) (by rw [Nm.len_list]; simp only [ByteArray.size_append, x4]; omega)
        rw [k2] at h9
        go_wp2_with fail
        refine h9.mono ?_
        clear h9 hrun8 hB8
        rintro e w9 ⟨v9, rfl, r9, b9⟩
        have b39 := b38.trans (b9.mono b38.size)
        have t10 := tb 4 w9
        have s10 : (w9.alloc (.cells #[.int .i64 4, .string (X ++ ⟨#[103]⟩), .int .i64 0, .bool false, .int .i64 0] 31)).heap.size = w9.heap.size + 1 := World.size_alloc _ _
        rw [← s10] at t10
        clear s10
        have h11 := sameToks_yes v9 _ [⟨4, hexPoint N :: [103], 0, false, 0⟩] _ ((TksAt.of_owns r9).next (bW 4 w9)) t10 (by simp)
        clear r9 t10
        go_wp2_with fail
        refine h11.mono ?_
        clear h11
        have b310 := b39.trans ((bW 4 w9).mono b39.size)
        rintro e w11 ⟨rfl, b11⟩
        have b311 := b310.trans (b11.mono b310.size)
        go_wp2
        go_ret
        exact ⟨rfl, bb.trans (b311.mono bb.size)⟩

theorem tokEscapes_met (os : Os) : laidMet Tryd.prog Rows.tokEscapesRow.laid ((laidIn (World.holding Tryd.prog os ⟨#[], #[], []⟩)).forCall (fun _ _ => 0) ⟨#[], #[.int .i64 0, .bool false], []⟩).memory :=
  laidMet_of_run' 8 (by kernel_rfl) (by kernel_rfl)
theorem tokEscapes_reads (os : Os) {H : Type} (enc : TypeId × Value → H) : ∃ places, DataW.whole enc Tryd.prog ((laidIn (World.holding Tryd.prog os ⟨#[], #[], []⟩)).forCall (fun _ _ => 0) ⟨#[], #[.int .i64 0, .bool false], []⟩).memory Tryd.f3.params.toList Rows.tokEscapesSpec.vars false (#[.int .i64 0, .bool false] : Array Value).toList 8 = some ([.lit (.int .i64 0), .lit (.bool false)], [], places) :=
  ⟨[], by kernel_rfl⟩

set_option maxRecDepth 100000 in
theorem tokEscapes_lifted (os : Os) (started : os.Started) (H : Type) (enc : TypeId × Value → H) (F : Stop.Interp) :
    ReturnsInHanded {} Tryd.checked os 3 .any ((OpenSpec.ofChange Rows.tokEscapesSpec).preRow enc Tryd.prog Tryd.f3 Rows.tokEscapesRow.domain false Rows.tokEscapesRow.laid) (((OpenSpec.ofChange Rows.tokEscapesSpec).at F).post enc Tryd.prog Tryd.f3 false true false false) := by
  obtain ⟨places, hx⟩ := tokEscapes_reads os enc
  refine returnsInHanded_of_row (C := Tryd.checked) (s := OpenSpec.ofChange Rows.tokEscapesSpec) ownNone started (by kernel_rfl) Tryd.func3
    (witness_row_at (enc := enc) (C := Tryd.checked) false (laidIn (World.holding Tryd.prog os ⟨#[], #[], []⟩)) #[.int .i64 0, .bool false] rfl (by kernel_rfl) (by kernel_rfl) (by kernel_rfl)
      (OpenSpec.preRow_of_cond 8 hx (by kernel_rfl) (fun k hk => by cases hk) (by kernel_rfl) (tokEscapes_met os))) ?_
  intro W base args ds gs before hval hW _ _ _ hL hS _
  have hW' := hW
  obtain ⟨p, q, hA0, hV, rfl, hfz, hnd⟩ := hW
  have hA : DataW.TrodAll enc Tryd.prog W 0 (fun _ => true) true Tryd.f3.params.toList args.toList ds p := hA0
  rw [Tryd.params3] at hA hval
  obtain ⟨v0, vs0, d0, ds0, p0, q0, hargs, rfl, rfl, h0, r0⟩ := trodAll_cons hA
  obtain ⟨v1, vs1, d1, ds1, p1, q1, rfl, rfl, rfl, h1, r1⟩ := trodAll_cons r0
  obtain ⟨rfl, rfl, rfl⟩ := trodAll_nil r1
  obtain rfl : args = #[v0, v1] := by cases args; simp_all
  obtain ⟨rfl, rfl⟩ := trodVars_none hV
  obtain ⟨a0, rfl, rfl, rfl, w0⟩ := open_int Tryd.underlying3 (hval 0 3 v0 rfl rfl) h0
  obtain ⟨a1, rfl, rfl, rfl⟩ := open_bool Tryd.underlying4 (hval 1 4 v1 rfl rfl) h1
  clear hA0
  refine (tokEscapes_walk W (tabs_of_laid hL hS) a0 w0 a1).mono fun e W' ⟨he, bel⟩ => ?_
  subst he
  exact ⟨_, rfl, _, _, _, [], _, [], hW', trodAll_mk1 (shut_bool Tryd.underlying4 _), (trodAll_cons_mk (shut_int Tryd.underlying3 w0) (trodAll_cons_mk (shut_bool Tryd.underlying4 _) trodAll_mk0)), rfl, bel.frame _, fun h => by cases h⟩

theorem tokEscapes_said : Rows.TokEscapesSaid :=
  OpenClaim.holds_of_cond 3 Tryd.f3 rfl rfl rfl rfl rfl rfl rfl ⟨rfl, rfl, rfl, rfl, rfl⟩ rfl rfl rfl rfl rfl (by kernel_rfl) Tryd.func3 (by kernel_rfl)
    (of_decide_eq_true (by kernel_rfl)) (by unfold Func.isWrapper; first | (rw [if_pos (by decide +kernel)]; kernel_rfl) | (rw [if_neg (by decide +kernel)]; exact ⟨rfl, rfl⟩))
    (fun os started H enc _ F => by rw [OpenClaim.pre_eq_preRow]; exact tokEscapes_lifted os started H enc F)

theorem tokEscapes_plain (f : FuncId) (fn : Func) (hf : Tryd.pinned.checked.prog.funcNamed "tapestrier/tapestrierlaw4.TokEscapes" = some f) (hfn : Tryd.pinned.checked.prog.funcs[f]? = some fn) :
    false = Tryd.pinned.checked.prog.looks [] ∧ ∀ (j : Nat) t, fn.params[j]? = some t → Tryd.pinned.checked.prog.wantsStandIn t = false := by
  obtain rfl : f = 3 := Option.some.inj ((show Tryd.prog.funcNamed "tapestrier/tapestrierlaw4.TokEscapes" = some 3 by kernel_rfl).symm.trans hf) |>.symm
  obtain rfl : fn = Tryd.f3 := (Option.some.inj (Tryd.func3.symm.trans hfn)).symm
  refine ⟨by kernel_rfl, fun j t ht => ?_⟩
  rw [Tryd.params3] at ht
  have hm : t ∈ [3, 4] := by simpa using Array.mem_of_getElem? ht
  have hall : ([3, 4].all fun u => !Tryd.prog.wantsStandIn u) = true := by kernel_rfl
  exact (show Tryd.prog.wantsStandIn t = false by simpa using List.all_eq_true.1 hall t hm)

theorem tokEscapes_card : Rows.TokEscapesCardSaid :=
  Claim7.holds_tied_plain_at .later [] _ _ _ _ tokEscapes_said (fun _ h => by cases h) (by kernel_rfl) (fun _ h => by cases h) tokEscapes_row_tie rfl ⟨rfl, rfl⟩ (by kernel_rfl) rfl tokEscapes_plain (by kernel_rfl)
#print axioms tokEscapes_card

end Go.Proofs.YtaecamnlimlpkabDoor

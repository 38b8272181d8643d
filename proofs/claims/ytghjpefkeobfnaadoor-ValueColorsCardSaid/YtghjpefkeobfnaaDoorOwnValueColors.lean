/- For every integer and every two truth values: the law tapestrierlaw7.ValueColors returns true and leaves its arguments as they were; no condition (its card: the table of words read off the program's text). -/
import Derived.Test.YtghjpefkeobfnaaDoorVlAlive
import Derived.Test.YtghjpefkeobfnaaDoorVlLaid
namespace Go.Proofs.YtghjpefkeobfnaaDoor
open Go Go.ChangeShapes Go.WideShapes Go.ChangeAt Go.RowKit Vl
open Go.ChangeMaps (open_string shut_string)

theorem and15 (z : Int) : ∃ j : Nat, j < 16 ∧ bits BinOp.and IntKind.i64 z 15 = (j : Int) := by
  have h : (BitVec.ofInt 64 z &&& BitVec.ofInt 64 15).toNat < 16 := by
    rw [BitVec.toNat_and]
    exact Nat.lt_of_le_of_lt Nat.and_le_right (by decide)
  refine ⟨_, h, ?_⟩
  show IntKind.i64.wrap ((BitVec.ofInt 64 z &&& BitVec.ofInt 64 15).toNat : Int) = _
  rw [IntKind.wrap_i64]
  omega
theorem colF_push {sh : Bool} {c : UInt8} {d : Int} (hd : digV c = (d, true)) : ∀ (l : List UInt8) (a n : Int), colF sh a l = some n → colF sh a (l ++ [c]) = some (more sh n d)
  | [], a, n, h => by
    cases h
    simp [colF, hd]
  | x :: l, a, n, h => by
    rw [List.cons_append]
    unfold colF at h ⊢
    split at h
    · rename_i hx
      rw [if_pos hx]
      exact colF_push hd l _ n h
    · cases h
/-- The digits so far: t rounds are done. -/
structure Dg (sh : Bool) (t : Nat) (z : ByteArray) (n : Int) : Prop where
  col : colF sh 0 z.data.toList = some n
  len : z.size = if sh then t - 3 else t
  bnd : Bnd sh z.size n
theorem Dg.start (sh : Bool) : Dg sh 0 ⟨#[]⟩ 0 := ⟨rfl, by cases sh <;> rfl, Bnd.start _⟩
theorem Dg.pass {t : Nat} {z : ByteArray} {n : Int} (h : Dg true t z n) (ht : t < 3) : Dg true (t + 1) z n := ⟨h.col, by rw [h.len]; simp; omega, h.bnd⟩
theorem app_list (z : ByteArray) (c : UInt8) : (z ++ (⟨#[c]⟩ : ByteArray)).data.toList = z.data.toList ++ [c] := by
  rw [ByteArray.data_append]
  simp
theorem app_size (z : ByteArray) (c : UInt8) : (z ++ (⟨#[c]⟩ : ByteArray)).size = z.size + 1 := by
  rw [← size_list, app_list, List.length_append, size_list]
  rfl
theorem Dg.push {sh : Bool} {t : Nat} {z : ByteArray} {n d : Int} {c : UInt8} (h : Dg sh t z n) (hd : digV c = (d, true)) (ht : sh = true → 3 ≤ t) : Dg sh (t + 1) (z ++ ⟨#[c]⟩) (more sh n d) := by
  have hb := digV_bounds c
  rw [hd] at hb
  refine ⟨?_, ?_, ?_⟩
  · rw [app_list]
    exact colF_push hd _ _ _ h.col
  · rw [app_size, h.len]
    cases sh with
    | true => have := ht rfl; simp; omega
    | false => simp
  · rw [app_size]
    exact h.bnd.next hb.1 hb.2
theorem Dg.small {sh : Bool} {t : Nat} {z : ByteArray} {n : Int} (h : Dg sh t z n) (ht : t ≤ 6) : z.size ≤ 6 ∧ 0 ≤ n ∧ n ≤ 281474976710656 := by
  have hz : z.size ≤ 6 := by rw [h.len]; split <;> omega
  exact ⟨hz, h.bnd.small hz⟩
/-- The sixteen digits as they are written. -/
def Digs (dS : ByteArray) : Prop := dS.size = 16 ∧ ∀ j, j < 16 → ∃ c, dS.extract j (j + 1) = ⟨#[c]⟩ ∧ digV c = ((j : Int), true)
theorem digs_low : Digs ⟨#[48, 49, 50, 51, 52, 53, 54, 55, 56, 57, 97, 98, 99, 100, 101, 102]⟩ := by
  refine ⟨rfl, fun j hj => ⟨(#[48, 49, 50, 51, 52, 53, 54, 55, 56, 57, 97, 98, 99, 100, 101, 102] : Array UInt8)[j]!, ?_⟩⟩
  obtain rfl | rfl | rfl | rfl | rfl | rfl | rfl | rfl | rfl | rfl | rfl | rfl | rfl | rfl | rfl | rfl : j = 0 ∨ j = 1 ∨ j = 2 ∨ j = 3 ∨ j = 4 ∨ j = 5 ∨ j = 6 ∨ j = 7 ∨ j = 8 ∨ j = 9 ∨ j = 10 ∨ j = 11 ∨ j = 12 ∨ j = 13 ∨ j = 14 ∨ j = 15 := by omega
  all_goals exact ⟨by decide +kernel, by decide +kernel⟩
theorem digs_up : Digs ⟨#[48, 49, 50, 51, 52, 53, 54, 55, 56, 57, 65, 66, 67, 68, 69, 70]⟩ := by
  refine ⟨rfl, fun j hj => ⟨(#[48, 49, 50, 51, 52, 53, 54, 55, 56, 57, 65, 66, 67, 68, 69, 70] : Array UInt8)[j]!, ?_⟩⟩
  obtain rfl | rfl | rfl | rfl | rfl | rfl | rfl | rfl | rfl | rfl | rfl | rfl | rfl | rfl | rfl | rfl : j = 0 ∨ j = 1 ∨ j = 2 ∨ j = 3 ∨ j = 4 ∨ j = 5 ∨ j = 6 ∨ j = 7 ∨ j = 8 ∨ j = 9 ∨ j = 10 ∨ j = 11 ∨ j = 12 ∨ j = 13 ∨ j = 14 ∨ j = 15 := by omega
  all_goals exact ⟨by decide +kernel, by decide +kernel⟩

theorem colorN_push {z : ByteArray} (h : z.size = 3 ∨ z.size = 6) (c : UInt8) : colorN (z ++ (⟨#[c]⟩ : ByteArray)).data.toList = none := by
  unfold colorN
  rw [size_list, app_size, if_neg (by omega)]
theorem colorN_g (y : ByteArray) : colorN ((⟨#[103]⟩ : ByteArray) ++ y).data.toList = none := by
  have e : ((⟨#[103]⟩ : ByteArray) ++ y).data.toList = 103 :: y.data.toList := by
    rw [ByteArray.data_append]
    simp
  rw [e]
  unfold colorN
  split
  · unfold colF
    rw [show (digV 103).2 = false from by decide]
    rfl
  · rfl
theorem Dg.color {sh : Bool} {z : ByteArray} {n : Int} (h : Dg sh 6 z n) : colorN z.data.toList = some n := by
  unfold colorN
  rw [size_list, h.len]
  have hc := h.col
  cases sh with
  | true => simpa using hc
  | false => simpa using hc
theorem Dg.six {sh : Bool} {z : ByteArray} {n : Int} (h : Dg sh 6 z n) : z.size = 3 ∨ z.size = 6 := by
  rw [h.len]
  cases sh <;> simp
theorem parseV_hash (s : ByteArray) : parseV 0 [⟨3, s, 0, false, 0⟩] = match colorN s.data.toList with
    | some n => (6, n, true)
    | none => no := by
  rw [parseV_one, if_pos (by omega)]
  rfl

set_option maxRecDepth 100000 in
set_option maxHeartbeats 4000000 in
theorem valueColors_walk (w : World) (hS : WordsAt w.heap.size w) (n : Int) (_hn : (Lit.int .i64 n).wf = true) (sh up : Bool) :
    Calls Tryd.prog 6 #[.int .i64 n, .bool sh, .bool up] w fun e w' => e = .returned (.bool true) ∧ Below w.heap.size w w' := by
  have h0 := alive7_any w hS
  go_enter Tryd.func6, Tryd.ntmps6
  go_wp2_with fail
  refine h0.mono ?_
  clear h0
  rintro e w1 ⟨rfl, b1⟩
  replace hS := hS.next b1
  by_cases hn0 : n < 0
  · clear hS
    go_wp2
    go_ret
    exact ⟨rfl, b1⟩
  by_cases hn1 : 16777215 < n
  · clear hS
    go_wp2
    go_ret
    exact ⟨rfl, b1⟩
  have hDl := digs_low
  have hDu := digs_up
  cases up
  case' true =>
    go_upto_region 7 with fail
    clear hDl
    generalize (⟨#[48, 49, 50, 51, 52, 53, 54, 55, 56, 57, 65, 66, 67, 68, 69, 70]⟩ : ByteArray) = dS at *
    have hD := hDu
    clear hDu
  case' false =>
    go_upto_region 7 with fail
    clear hDu
    generalize (⟨#[48, 49, 50, 51, 52, 53, 54, 55, 56, 57, 97, 98, 99, 100, 101, 102]⟩ : ByteArray) = dS at *
    have hD := hDl
    clear hDl
  all_goals
    go_wp2
    go_loopw [9, 10, 11] (fun s m i wr => ∃ (t : Nat) (z : ByteArray) (q : Int), s = .string z ∧ m = .int .i64 q ∧ i = .int .i64 (5 - (t : Int)) ∧ t ≤ 6 ∧ Hid (Dg sh t z q) ∧ w1 = wr) (fun _ _ i _ => (intOf i + 1).toNat)
    case atStart => exact ⟨0, _, _, rfl, rfl, rfl, by omega, Dg.start _, rfl⟩
    case round =>
      obtain ⟨t, z, q, rfl, rfl, rfl, ht, HD, rfl⟩ := hrel
      obtain ⟨hz6, hq0, hq1⟩ := Dg.small HD ht
      obtain ⟨hd16, hdig⟩ := hD
      have HG : Hid (∀ j, j < 16 → ∃ c, dS.extract j (j + 1) = ⟨#[c]⟩ ∧ digV c = ((j : Int), true)) := hdig
      clear hdig
      by_cases hlt : t < 6
      · obtain rfl | rfl | rfl | rfl | rfl | rfl : t = 0 ∨ t = 1 ∨ t = 2 ∨ t = 3 ∨ t = 4 ∨ t = 5 := by omega
        · obtain ⟨kk, hkk, ekk⟩ := and15 (n / 1048576)
          obtain ⟨c, hc, hdv⟩ := (show ∀ j, j < 16 → ∃ c, dS.extract j (j + 1) = ⟨#[c]⟩ ∧ digV c = ((j : Int), true) from HG) kk hkk
          have u1 : (kk : Int) + 1 ≤ 16 := by omega
          have u2 : IntKind.i64.wrap ((kk : Int) + 1) = (kk : Int) + 1 := by rw [IntKind.wrap_i64]; omega
          have u3 : (0 : Int) ≤ (kk : Int) := by omega
          have u4 : (kk : Int) ≤ (kk : Int) + 1 := by omega
          cases sh with
          | true =>
            have HD' : Hid (Dg true 1 z q) := Dg.pass HD (by omega)
            clear HD HG hc hdv
            go_wp2
            exact ⟨⟨1, z, q, rfl, rfl, rfl, by omega, HD', trivial⟩, by simp [intOf]⟩
          | false =>
            have HD' : Hid (Dg false 1 (z ++ ⟨#[c]⟩) (16 * q + kk)) := Dg.push HD hdv (fun h => by cases h)
            have x1 : IntKind.i64.wrap (q * 16) = 16 * q := by rw [IntKind.wrap_i64]; omega
            have x2 : IntKind.i64.wrap (16 * q + (kk : Int)) = 16 * q + kk := by rw [IntKind.wrap_i64]; omega
            clear HD HG hdv
            go_wp2
            exact ⟨⟨1, z ++ ⟨#[c]⟩, _, rfl, rfl, rfl, by omega, HD', trivial⟩, by simp [intOf]⟩
        · obtain ⟨kk, hkk, ekk⟩ := and15 (n / 65536)
          obtain ⟨c, hc, hdv⟩ := (show ∀ j, j < 16 → ∃ c, dS.extract j (j + 1) = ⟨#[c]⟩ ∧ digV c = ((j : Int), true) from HG) kk hkk
          have u1 : (kk : Int) + 1 ≤ 16 := by omega
          have u2 : IntKind.i64.wrap ((kk : Int) + 1) = (kk : Int) + 1 := by rw [IntKind.wrap_i64]; omega
          have u3 : (0 : Int) ≤ (kk : Int) := by omega
          have u4 : (kk : Int) ≤ (kk : Int) + 1 := by omega
          cases sh with
          | true =>
            have HD' : Hid (Dg true 2 z q) := Dg.pass HD (by omega)
            clear HD HG hc hdv
            go_wp2
            exact ⟨⟨2, z, q, rfl, rfl, rfl, by omega, HD', trivial⟩, by simp [intOf]⟩
          | false =>
            have HD' : Hid (Dg false 2 (z ++ ⟨#[c]⟩) (16 * q + kk)) := Dg.push HD hdv (fun h => by cases h)
            have x1 : IntKind.i64.wrap (q * 16) = 16 * q := by rw [IntKind.wrap_i64]; omega
            have x2 : IntKind.i64.wrap (16 * q + (kk : Int)) = 16 * q + kk := by rw [IntKind.wrap_i64]; omega
            clear HD HG hdv
            go_wp2
            exact ⟨⟨2, z ++ ⟨#[c]⟩, _, rfl, rfl, rfl, by omega, HD', trivial⟩, by simp [intOf]⟩
        · obtain ⟨kk, hkk, ekk⟩ := and15 (n / 4096)
          obtain ⟨c, hc, hdv⟩ := (show ∀ j, j < 16 → ∃ c, dS.extract j (j + 1) = ⟨#[c]⟩ ∧ digV c = ((j : Int), true) from HG) kk hkk
          have u1 : (kk : Int) + 1 ≤ 16 := by omega
          have u2 : IntKind.i64.wrap ((kk : Int) + 1) = (kk : Int) + 1 := by rw [IntKind.wrap_i64]; omega
          have u3 : (0 : Int) ≤ (kk : Int) := by omega
          have u4 : (kk : Int) ≤ (kk : Int) + 1 := by omega
          cases sh with
          | true =>
            have HD' : Hid (Dg true 3 z q) := Dg.pass HD (by omega)
            clear HD HG hc hdv
            go_wp2
            exact ⟨⟨3, z, q, rfl, rfl, rfl, by omega, HD', trivial⟩, by simp [intOf]⟩
          | false =>
            have HD' : Hid (Dg false 3 (z ++ ⟨#[c]⟩) (16 * q + kk)) := Dg.push HD hdv (fun h => by cases h)
            have x1 : IntKind.i64.wrap (q * 16) = 16 * q := by rw [IntKind.wrap_i64]; omega
            have x2 : IntKind.i64.wrap (16 * q + (kk : Int)) = 16 * q + kk := by rw [IntKind.wrap_i64]; omega
            clear HD HG hdv
            go_wp2
            exact ⟨⟨3, z ++ ⟨#[c]⟩, _, rfl, rfl, rfl, by omega, HD', trivial⟩, by simp [intOf]⟩
        · obtain ⟨kk, hkk, ekk⟩ := and15 (n / 256)
          obtain ⟨c, hc, hdv⟩ := (show ∀ j, j < 16 → ∃ c, dS.extract j (j + 1) = ⟨#[c]⟩ ∧ digV c = ((j : Int), true) from HG) kk hkk
          have u1 : (kk : Int) + 1 ≤ 16 := by omega
          have u2 : IntKind.i64.wrap ((kk : Int) + 1) = (kk : Int) + 1 := by rw [IntKind.wrap_i64]; omega
          have u3 : (0 : Int) ≤ (kk : Int) := by omega
          have u4 : (kk : Int) ≤ (kk : Int) + 1 := by omega
          cases sh with
          | true =>
            have HD' : Hid (Dg true 4 (z ++ ⟨#[c]⟩) (16 * (16 * q + kk) + kk)) := Dg.push HD hdv (fun _ => by omega)
            have x1 : IntKind.i64.wrap (q * 256) = q * 256 := by rw [IntKind.wrap_i64]; omega
            have x2 : IntKind.i64.wrap (17 * (kk : Int)) = 17 * (kk : Int) := by rw [IntKind.wrap_i64]; omega
            have x3 : IntKind.i64.wrap (q * 256 + 17 * (kk : Int)) = 16 * (16 * q + kk) + kk := by rw [IntKind.wrap_i64]; omega
            clear HD HG hdv
            go_wp2
            exact ⟨⟨4, z ++ ⟨#[c]⟩, _, rfl, rfl, rfl, by omega, HD', trivial⟩, by simp [intOf]⟩
          | false =>
            have HD' : Hid (Dg false 4 (z ++ ⟨#[c]⟩) (16 * q + kk)) := Dg.push HD hdv (fun h => by cases h)
            have x1 : IntKind.i64.wrap (q * 16) = 16 * q := by rw [IntKind.wrap_i64]; omega
            have x2 : IntKind.i64.wrap (16 * q + (kk : Int)) = 16 * q + kk := by rw [IntKind.wrap_i64]; omega
            clear HD HG hdv
            go_wp2
            exact ⟨⟨4, z ++ ⟨#[c]⟩, _, rfl, rfl, rfl, by omega, HD', trivial⟩, by simp [intOf]⟩
        · obtain ⟨kk, hkk, ekk⟩ := and15 (n / 16)
          obtain ⟨c, hc, hdv⟩ := (show ∀ j, j < 16 → ∃ c, dS.extract j (j + 1) = ⟨#[c]⟩ ∧ digV c = ((j : Int), true) from HG) kk hkk
          have u1 : (kk : Int) + 1 ≤ 16 := by omega
          have u2 : IntKind.i64.wrap ((kk : Int) + 1) = (kk : Int) + 1 := by rw [IntKind.wrap_i64]; omega
          have u3 : (0 : Int) ≤ (kk : Int) := by omega
          have u4 : (kk : Int) ≤ (kk : Int) + 1 := by omega
          cases sh with
          | true =>
            have HD' : Hid (Dg true 5 (z ++ ⟨#[c]⟩) (16 * (16 * q + kk) + kk)) := Dg.push HD hdv (fun _ => by omega)
            have x1 : IntKind.i64.wrap (q * 256) = q * 256 := by rw [IntKind.wrap_i64]; omega
            have x2 : IntKind.i64.wrap (17 * (kk : Int)) = 17 * (kk : Int) := by rw [IntKind.wrap_i64]; omega
            have x3 : IntKind.i64.wrap (q * 256 + 17 * (kk : Int)) = 16 * (16 * q + kk) + kk := by rw [IntKind.wrap_i64]; omega
            clear HD HG hdv
            go_wp2
            exact ⟨⟨5, z ++ ⟨#[c]⟩, _, rfl, rfl, rfl, by omega, HD', trivial⟩, by simp [intOf]⟩
          | false =>
            have HD' : Hid (Dg false 5 (z ++ ⟨#[c]⟩) (16 * q + kk)) := Dg.push HD hdv (fun h => by cases h)
            have x1 : IntKind.i64.wrap (q * 16) = 16 * q := by rw [IntKind.wrap_i64]; omega
            have x2 : IntKind.i64.wrap (16 * q + (kk : Int)) = 16 * q + kk := by rw [IntKind.wrap_i64]; omega
            clear HD HG hdv
            go_wp2
            exact ⟨⟨5, z ++ ⟨#[c]⟩, _, rfl, rfl, rfl, by omega, HD', trivial⟩, by simp [intOf]⟩
        · obtain ⟨kk, hkk, ekk⟩ := and15 (n)
          obtain ⟨c, hc, hdv⟩ := (show ∀ j, j < 16 → ∃ c, dS.extract j (j + 1) = ⟨#[c]⟩ ∧ digV c = ((j : Int), true) from HG) kk hkk
          have u1 : (kk : Int) + 1 ≤ 16 := by omega
          have u2 : IntKind.i64.wrap ((kk : Int) + 1) = (kk : Int) + 1 := by rw [IntKind.wrap_i64]; omega
          have u3 : (0 : Int) ≤ (kk : Int) := by omega
          have u4 : (kk : Int) ≤ (kk : Int) + 1 := by omega
          cases sh with
          | true =>
            have HD' : Hid (Dg true 6 (z ++ ⟨#[c]⟩) (16 * (16 * q + kk) + kk)) := Dg.push HD hdv (fun _ => by omega)
            have x1 : IntKind.i64.wrap (q * 256) = q * 256 := by rw [IntKind.wrap_i64]; omega
            have x2 : IntKind.i64.wrap (17 * (kk : Int)) = 17 * (kk : Int) := by rw [IntKind.wrap_i64]; omega
            have x3 : IntKind.i64.wrap (q * 256 + 17 * (kk : Int)) = 16 * (16 * q + kk) + kk := by rw [IntKind.wrap_i64]; omega
            clear HD HG hdv
            go_wp2
            exact ⟨⟨6, z ++ ⟨#[c]⟩, _, rfl, rfl, rfl, by omega, HD', trivial⟩, by simp [intOf]⟩
          | false =>
            have HD' : Hid (Dg false 6 (z ++ ⟨#[c]⟩) (16 * q + kk)) := Dg.push HD hdv (fun h => by cases h)
            have x1 : IntKind.i64.wrap (q * 16) = 16 * q := by rw [IntKind.wrap_i64]; omega
            have x2 : IntKind.i64.wrap (16 * q + (kk : Int)) = 16 * q + kk := by rw [IntKind.wrap_i64]; omega
            clear HD HG hdv
            go_wp2
            exact ⟨⟨6, z ++ ⟨#[c]⟩, _, rfl, rfl, rfl, by omega, HD', trivial⟩, by simp [intOf]⟩
      · obtain rfl : t = 6 := by omega
        have hP1 := parseV_hash z
        have hc := Dg.color HD
        rw [hc] at hP1
        have h6 := Dg.six HD
        have hP2 := parseV_hash (z ++ ⟨#[48]⟩)
        rw [colorN_push h6] at hP2
        have hP3 := parseV_hash ((⟨#[103]⟩ : ByteArray) ++ z.extract 1 z.size)
        rw [colorN_g] at hP3
        have m1 : z.size ≤ maxLen := by unfold maxLen; omega
        have m2 : (z ++ (⟨#[48]⟩ : ByteArray)).size ≤ maxLen := by rw [app_size]; unfold maxLen; omega
        have m3 : ((⟨#[103]⟩ : ByteArray) ++ z.extract 1 z.size).size ≤ maxLen := by
          rw [ByteArray.size_append, ByteArray.size_extract]
          have : (⟨#[103]⟩ : ByteArray).size = 1 := rfl
          unfold maxLen
          omega
        have hz1 : (1 : Int) ≤ (z.size : Int) := by omega
        have h1 := parse_new 0 ⟨3, z, 0, false, 0⟩ w1 hS m1
        rw [hP1] at h1
        unfold ret at h1
        simp only at h1
        clear HD HG hc h6 hP1 hlt
        go_wp2_with fail
        refine h1.mono ?_
        clear h1
        rintro e w2 ⟨rfl, b2⟩
        have bE : Below w2.heap.size w2 (w2.alloc (.cells #[.int .i64 6, .int .i64 q] 27)) := (Below.refl _ _).alloc (Nat.le_refl _) _
        have kE : Blk (w2.alloc (.cells #[.int .i64 6, .int .i64 q] 27)) w2.heap.size _ _ := Blk.new w2 27 [.int .i64 6, .int .i64 q]
        have hS3 := (hS.next b2).next bE
        have b3 := below_next (below_next b1 b2) bE
        go_upto_region 19 with fail
        generalize w2.alloc (.cells #[.int .i64 6, .int .i64 q] 27) = w3 at *
        have h3 := parse_new 0 ⟨3, z ++ ⟨#[48]⟩, 0, false, 0⟩ w3 hS3 m2
        rw [hP2] at h3
        unfold ret no at h3
        simp only at h3
        clear hP2
        go_wp2_with fail
        refine h3.mono ?_
        clear h3
        rintro e w4 ⟨rfl, b4⟩
        have hB3 := kE.lt
        have kE4 := kE.below b4 hB3
        have bF : Below w4.heap.size w4 (w4.alloc (.cells #[.int .i64 0, .int .i64 0] 27)) := zero_new w4
        have hS5 := (hS3.next b4).next bF
        have b5 := below_next (below_next b3 b4) bF
        have kE5 := kE4.below bF kE4.lt
        go_upto_region 20 with fail
        generalize w4.alloc (.cells #[.int .i64 0, .int .i64 0] 27) = w5 at *
        have h5 := parse_new 0 ⟨3, (⟨#[103]⟩ : ByteArray) ++ z.extract 1 z.size, 0, false, 0⟩ w5 hS5 m3
        rw [hP3] at h5
        unfold ret no at h5
        simp only at h5
        clear hP3
        go_wp2_with fail
        refine h5.mono ?_
        clear h5
        rintro e w6 ⟨rfl, b6⟩
        have kE6 := kE5.below b6 kE5.lt
        have hB6 := kE6.lt
        obtain ⟨⟨c0, c1⟩, _⟩ := blk2 kE6
        have b06 := below_next b5 b6
        clear kE kE4 kE5 kE6 hS hS3 hS5
        go_wp2
        go_ret
        exact ⟨rfl, b06.alloc b06.size _⟩

theorem valueColors_met (os : Os) : laidMet Tryd.prog Rows.valueColorsRow.laid ((laidIn (World.holding Tryd.prog os ⟨#[], #[], []⟩)).forCall (fun _ _ => 0) ⟨#[], #[.int .i64 0, .bool false, .bool false], []⟩).memory :=
  laidMet_of_run' 8 (by kernel_rfl) (by kernel_rfl)
theorem valueColors_reads (os : Os) {H : Type} (enc : TypeId × Value → H) : ∃ places, DataW.whole enc Tryd.prog ((laidIn (World.holding Tryd.prog os ⟨#[], #[], []⟩)).forCall (fun _ _ => 0) ⟨#[], #[.int .i64 0, .bool false, .bool false], []⟩).memory Tryd.f6.params.toList Rows.valueColorsSpec.vars false (#[.int .i64 0, .bool false, .bool false] : Array Value).toList 8 = some ([.lit (.int .i64 0), .lit (.bool false), .lit (.bool false)], [], places) :=
  ⟨[], by kernel_rfl⟩

set_option maxRecDepth 100000 in
theorem valueColors_lifted (os : Os) (started : os.Started) (H : Type) (enc : TypeId × Value → H) (F : Stop.Interp) :
    ReturnsInHanded {} Tryd.checked os 6 .any ((OpenSpec.ofChange Rows.valueColorsSpec).preRow enc Tryd.prog Tryd.f6 Rows.valueColorsRow.domain false Rows.valueColorsRow.laid) (((OpenSpec.ofChange Rows.valueColorsSpec).at F).post enc Tryd.prog Tryd.f6 false true false false) := by
  obtain ⟨places, hx⟩ := valueColors_reads os enc
  refine returnsInHanded_of_row (C := Tryd.checked) (s := OpenSpec.ofChange Rows.valueColorsSpec) ownNone started (by kernel_rfl) Tryd.func6
    (witness_row_at (enc := enc) (C := Tryd.checked) false (laidIn (World.holding Tryd.prog os ⟨#[], #[], []⟩)) #[.int .i64 0, .bool false, .bool false] rfl (by kernel_rfl) (by kernel_rfl) (by kernel_rfl)
      (OpenSpec.preRow_of_cond 8 hx (by kernel_rfl) (fun k hk => by cases hk) (by kernel_rfl) (valueColors_met os))) ?_
  intro W base args ds gs before hval hW _ _ _ hL hS _
  have hW' := hW
  obtain ⟨p, q, hA0, hV, rfl, hfz, hnd⟩ := hW
  have hA : DataW.TrodAll enc Tryd.prog W 0 (fun _ => true) true Tryd.f6.params.toList args.toList ds p := hA0
  rw [Tryd.params6] at hA hval
  obtain ⟨v0, vs0, d0, ds0, p0, q0, hargs, rfl, rfl, h0, r0⟩ := trodAll_cons hA
  obtain ⟨v1, vs1, d1, ds1, p1, q1, rfl, rfl, rfl, h1, r1⟩ := trodAll_cons r0
  obtain ⟨v2, vs2, d2, ds2, p2, q2, rfl, rfl, rfl, h2, r2⟩ := trodAll_cons r1
  obtain ⟨rfl, rfl, rfl⟩ := trodAll_nil r2
  obtain rfl : args = #[v0, v1, v2] := by cases args; simp_all
  obtain ⟨rfl, rfl⟩ := trodVars_none hV
  obtain ⟨a0, rfl, rfl, rfl, w0⟩ := open_int Tryd.underlying3 (hval 0 3 v0 rfl rfl) h0
  obtain ⟨a1, rfl, rfl, rfl⟩ := open_bool Tryd.underlying4 (hval 1 4 v1 rfl rfl) h1
  obtain ⟨a2, rfl, rfl, rfl⟩ := open_bool Tryd.underlying4 (hval 2 4 v2 rfl rfl) h2
  clear hA0
  refine (valueColors_walk W (tabs_of_laid hL hS) a0 w0 a1 a2).mono fun e W' ⟨he, bel⟩ => ?_
  subst he
  exact ⟨_, rfl, _, _, _, [], _, [], hW', trodAll_mk1 (shut_bool Tryd.underlying4 _), (trodAll_cons_mk (shut_int Tryd.underlying3 w0) (trodAll_cons_mk (shut_bool Tryd.underlying4 _) (trodAll_cons_mk (shut_bool Tryd.underlying4 _) trodAll_mk0))), rfl, bel.frame _, fun h => by cases h⟩

theorem valueColors_said : Rows.ValueColorsSaid :=
  OpenClaim.holds_of_cond 6 Tryd.f6 rfl rfl rfl rfl rfl rfl rfl ⟨rfl, rfl, rfl, rfl, rfl⟩ rfl rfl rfl rfl rfl (by kernel_rfl) Tryd.func6 (by kernel_rfl)
    (of_decide_eq_true (by kernel_rfl)) (by unfold Func.isWrapper; first | (rw [if_pos (by decide +kernel)]; kernel_rfl) | (rw [if_neg (by decide +kernel)]; exact ⟨rfl, rfl⟩))
    (fun os started H enc _ F => by rw [OpenClaim.pre_eq_preRow]; exact valueColors_lifted os started H enc F)

theorem valueColors_plain (f : FuncId) (fn : Func) (hf : Tryd.pinned.checked.prog.funcNamed "tapestrier/tapestrierlaw7.ValueColors" = some f) (hfn : Tryd.pinned.checked.prog.funcs[f]? = some fn) :
    false = Tryd.pinned.checked.prog.looks [] ∧ ∀ (j : Nat) t, fn.params[j]? = some t → Tryd.pinned.checked.prog.wantsStandIn t = false := by
  obtain rfl : f = 6 := Option.some.inj ((show Tryd.prog.funcNamed "tapestrier/tapestrierlaw7.ValueColors" = some 6 by kernel_rfl).symm.trans hf) |>.symm
  obtain rfl : fn = Tryd.f6 := (Option.some.inj (Tryd.func6.symm.trans hfn)).symm
  refine ⟨by kernel_rfl, fun j t ht => ?_⟩
  rw [Tryd.params6] at ht
  have hm : t ∈ [3, 4] := by simpa using Array.mem_of_getElem? ht
  have hall : ([3, 4].all fun u => !Tryd.prog.wantsStandIn u) = true := by kernel_rfl
  exact (show Tryd.prog.wantsStandIn t = false by simpa using List.all_eq_true.1 hall t hm)

theorem valueColors_card : Rows.ValueColorsCardSaid :=
  Claim7.holds_tied_plain_at .later [] _ _ _ _ valueColors_said (fun _ h => by cases h) (by kernel_rfl) (fun _ h => by cases h) valueColors_row_tie rfl ⟨rfl, rfl⟩ (by kernel_rfl) rfl valueColors_plain (by kernel_rfl)
#print axioms valueColors_card


end Go.Proofs.YtghjpefkeobfnaaDoor

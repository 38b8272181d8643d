/- What a table of package atom tells: find, count, key; Find, Len, Name; strings.Clone. -/
import Derived.Test.YtbgcnmebmbjdjaaAtTab
namespace Go.Proofs.Ytbgcnmebmbjdjaa
open Go Go.RowKit Go.Shelf Go.Maps

set_option maxRecDepth 100000 in
/-- find: a name that has a number. -/
theorem find_yes (w : World) (tb : Nat) (F : List Nat) (xs : List ByteArray) (s : ByteArray) (hT : Tab w tb F xs) (hs : s ∈ xs) (hl : xs.length ≤ 65536) :
    Calls Try.prog 13 #[.pointer (some ⟨tb, 0, none⟩), .string s] w fun e w' => e = .returned (.tuple #[.int .i64 (xs.idxOf s), .bool true]) ∧ Below w.heap.size w w' := by
  have hkey := keyOf_kl (hT.2.1 s hs)
  rcases hT.2.2 with ⟨rfl, _⟩ | ⟨g, cap, mb, D, rfl, _, _, _, hp, _, hown, hh⟩
  · cases hs
  have c0 := hp.c0
  have c1 := hp.c1
  have hhas := hh.yes s hs
  have hat0 := hh.at' s hs (.lit (.int .i64 0))
  have hlt : ¬ (xs.length : Int) ≤ (xs.idxOf s : Int) := by have := idx_lt hs; omega
  generalize xs.idxOf s = n at hat0 hlt ⊢
  generalize hn : xs.length = len at *
  clear hp hh hn hT hs
  go_enter Try.func13, Try.ntmps13
  go_wp2_with (first
    | (at_lookup; refine wpList_lookup_own_ok_int _ rfl _ _ 25 rfl 9 3 .i64 keyed Try.underlying25 Try.underlying3 (zeroInt _) mb _ D rfl hown _ _ rfl hkey ?_; intro c hat hwc; obtain rfl : c = n := (by rw [hat0] at hat; simpa using hat.symm); clear hat)
    | go_in)
  go_ret2
  exact ⟨rfl, Below.refl _ _⟩

set_option maxRecDepth 100000 in
/-- find: a name that has none. -/
theorem find_no (w : World) (tb : Nat) (F : List Nat) (xs : List ByteArray) (s : ByteArray) (hT : Tab w tb F xs) (hs : s ∉ xs) (hz : s.size ≤ 281474976710656) (hl : xs.length ≤ 65536) :
    Calls Try.prog 13 #[.pointer (some ⟨tb, 0, none⟩), .string s] w fun e w' => e = .returned (.tuple #[.int .i64 0, .bool false]) ∧ Below w.heap.size w w' := by
  have hkey := keyOf_kl hz
  rcases hT.2.2 with ⟨rfl, _, hp⟩ | ⟨g, cap, mb, D, rfl, _, _, _, hp, _, hown, hh⟩
  · have c1 := hp.c1
    have hrun := look_nil (w := w) true keyed Try.underlying25 (zeroInt _) hkey
    clear hp hT hs
    go_enter Try.func13, Try.ntmps13
    go_wp2
    go_ret2
    exact ⟨rfl, Below.refl _ _⟩
  · have c1 := hp.c1
    have hhas := hh.no s hs
    clear hp hh hT hs
    go_enter Try.func13, Try.ntmps13
    go_wp2_with (first
      | (at_lookup; refine wpList_lookup_own_ok_int _ rfl _ _ 25 rfl 9 3 .i64 keyed Try.underlying25 Try.underlying3 (zeroInt _) mb _ D rfl hown _ _ rfl hkey ?_; intro c hat hwc; clear hat)
      | go_in)
    go_ret2
    exact ⟨rfl, Below.refl _ _⟩

/-- The table's list as a value. -/
theorem Tab.list {w : World} {tb : Nat} {F : List Nat} {xs : List ByteArray} (h : Tab w tb F xs) : ∃ p cap, w.cell? ⟨tb, 0, none⟩ = some (.slice p xs.length cap) ∧ xs.length ≤ cap ∧
    (xs = [] ∨ ∃ g, p = some ⟨g, 0, none⟩ ∧ ∀ j u, xs[j]? = some u → w.cell? ⟨g, j, none⟩ = some (.string u)) := by
  rcases h.2.2 with ⟨rfl, _, hp⟩ | ⟨g, cap, mb, D, rfl, _, _, _, hp, hr, hown, hh⟩
  · exact ⟨_, _, hp.c0, Nat.le_refl _, .inl rfl⟩
  · refine ⟨_, _, hp.c0, ?_, .inr ⟨g, rfl, fun j u hj => ?_⟩⟩
    · rcases hr.2 with ⟨hv, _⟩ | ⟨g', cap', cur, hv, _, _, h1, _⟩
      · cases hv
      · cases hv; exact h1
    · have := hr.cells rfl j (.string u) (by rw [List.getElem?_map, hj]; rfl)
      rwa [show (⟨g, 0, none⟩ : Addr).add j = ⟨g, j, none⟩ from by cases j <;> simp [Addr.add]] at this

set_option maxRecDepth 100000 in
theorem count_any (w : World) (tb : Nat) (F : List Nat) (xs : List ByteArray) (hT : Tab w tb F xs) :
    Calls Try.prog 14 #[.pointer (some ⟨tb, 0, none⟩)] w fun e w' => e = .returned (.int .i64 xs.length) ∧ Below w.heap.size w w' := by
  obtain ⟨p, cap, c0, _, _⟩ := hT.list
  clear hT
  go_enter Try.func14, Try.ntmps14
  go_wp2
  go_ret
  exact ⟨rfl, Below.refl _ _⟩

set_option maxRecDepth 100000 in
theorem key_yes (w : World) (tb : Nat) (F : List Nat) (xs : List ByteArray) (n : Nat) (u : ByteArray) (hT : Tab w tb F xs) (hu : xs[n]? = some u) (hl : xs.length ≤ 65536) :
    Calls Try.prog 17 #[.pointer (some ⟨tb, 0, none⟩), .int .i64 n] w fun e w' => e = .returned (.tuple #[.string u, .bool true]) ∧ Below w.heap.size w w' := by
  obtain ⟨p, cap, c0, hcap, h⟩ := hT.list
  have hn : n < xs.length := (List.getElem?_eq_some_iff.1 hu).1
  rcases h with rfl | ⟨g, rfl, hc⟩
  · cases hu
  have c1 := hc n u hu
  have h1 : ¬ (n : Int) < 0 := by omega
  have h2 : ¬ (xs.length : Int) ≤ (n : Int) := by omega
  have h3 : (n : Int) < (xs.length : Int) := by omega
  clear hT hc hu
  go_enter Try.func17, Try.ntmps17
  go_wp2
  go_ret2
  exact ⟨rfl, Below.refl _ _⟩

set_option maxRecDepth 100000 in
theorem key_no (w : World) (tb : Nat) (F : List Nat) (xs : List ByteArray) (n : Int) (hT : Tab w tb F xs) (hn : n < 0 ∨ (xs.length : Int) ≤ n) :
    Calls Try.prog 17 #[.pointer (some ⟨tb, 0, none⟩), .int .i64 n] w fun e w' => e = .returned (.tuple #[.string ⟨#[]⟩, .bool false]) ∧ Below w.heap.size w w' := by
  obtain ⟨p, cap, c0, hcap, h⟩ := hT.list
  clear hT h
  by_cases h0 : n < 0
  · go_enter Try.func17, Try.ntmps17
    go_wp2
    go_ret2
    exact ⟨rfl, Below.refl _ _⟩
  · have h1 : (xs.length : Int) ≤ n := by omega
    clear hn
    go_enter Try.func17, Try.ntmps17
    go_wp2
    go_ret2
    exact ⟨rfl, Below.refl _ _⟩

set_option maxRecDepth 100000 in
theorem clone_any (w : World) (s : ByteArray) (hs : s.size ≤ 281474976710656) :
    Calls Try.prog 16 #[.string s] w fun e w' => e = .returned (.string s) ∧ Below w.heap.size w w' := by
  have hc := Try.stringslite_Clone s w hs
  go_enter Try.func16, Try.ntmps16
  go_wp2_with fail
  refine hc.mono ?_
  rintro e w' ⟨rfl, hb⟩
  clear hc
  go_wp2
  go_ret
  exact ⟨rfl, hb⟩

set_option maxRecDepth 100000 in
theorem Find_yes (w : World) (tb : Nat) (F : List Nat) (xs : List ByteArray) (s : ByteArray) (hT : Tab w tb F xs) (hs : s ∈ xs) (hl : xs.length ≤ 65536) :
    Calls Try.prog 8 #[.pointer (some ⟨tb, 0, none⟩), .string s] w fun e w' => e = .returned (.tuple #[.int .i64 (xs.idxOf s), .bool true]) ∧ Below w.heap.size w w' := by
  have hc := find_yes w tb F xs s hT hs hl
  have c0 := hT.list
  clear hT hs
  go_enter Try.func8, Try.ntmps8
  go_wp2_with fail
  refine hc.mono ?_
  rintro e w' ⟨rfl, hb⟩
  clear hc
  go_wp2
  go_ret2
  exact ⟨rfl, hb⟩

set_option maxRecDepth 100000 in
theorem Find_no (w : World) (tb : Nat) (F : List Nat) (xs : List ByteArray) (s : ByteArray) (hT : Tab w tb F xs) (hs : s ∉ xs) (hz : s.size ≤ 281474976710656) (hl : xs.length ≤ 65536) :
    Calls Try.prog 8 #[.pointer (some ⟨tb, 0, none⟩), .string s] w fun e w' => e = .returned (.tuple #[.int .i64 0, .bool false]) ∧ Below w.heap.size w w' := by
  have hc := find_no w tb F xs s hT hs hz hl
  clear hT hs
  go_enter Try.func8, Try.ntmps8
  go_wp2_with fail
  refine hc.mono ?_
  rintro e w' ⟨rfl, hb⟩
  clear hc
  go_wp2
  go_ret2
  exact ⟨rfl, hb⟩

set_option maxRecDepth 100000 in
theorem Len_any (w : World) (tb : Nat) (F : List Nat) (xs : List ByteArray) (hT : Tab w tb F xs) :
    Calls Try.prog 12 #[.pointer (some ⟨tb, 0, none⟩)] w fun e w' => e = .returned (.int .i64 xs.length) ∧ Below w.heap.size w w' := by
  have hc := count_any w tb F xs hT
  clear hT
  go_enter Try.func12, Try.ntmps12
  go_wp2_with fail
  refine hc.mono ?_
  rintro e w' ⟨rfl, hb⟩
  clear hc
  go_wp2
  go_ret
  exact ⟨rfl, hb⟩

set_option maxRecDepth 100000 in
theorem Name_yes (w : World) (tb : Nat) (F : List Nat) (xs : List ByteArray) (n : Nat) (u : ByteArray) (hT : Tab w tb F xs) (hu : xs[n]? = some u) (hl : xs.length ≤ 65536) :
    Calls Try.prog 11 #[.pointer (some ⟨tb, 0, none⟩), .int .i64 n] w fun e w' => e = .returned (.tuple #[.string u, .bool true]) ∧ Below w.heap.size w w' := by
  have hc := key_yes w tb F xs n u hT hu hl
  have hz := hT.2.1 u (List.mem_of_getElem? hu)
  clear hT hu
  go_enter Try.func11, Try.ntmps11
  go_wp2_with fail
  refine hc.mono ?_
  rintro e w1 ⟨rfl, hb⟩
  clear hc
  have hc := clone_any w1 u hz
  go_wp2_with fail
  refine hc.mono ?_
  rintro e w2 ⟨rfl, hb2⟩
  clear hc
  go_wp2
  go_ret2
  exact ⟨rfl, hb.trans (hb2.mono hb.size)⟩

set_option maxRecDepth 100000 in
theorem Name_no (w : World) (tb : Nat) (F : List Nat) (xs : List ByteArray) (n : Int) (hT : Tab w tb F xs) (hn : n < 0 ∨ (xs.length : Int) ≤ n) :
    Calls Try.prog 11 #[.pointer (some ⟨tb, 0, none⟩), .int .i64 n] w fun e w' => e = .returned (.tuple #[.string ⟨#[]⟩, .bool false]) ∧ Below w.heap.size w w' := by
  have hc := key_no w tb F xs n hT hn
  clear hT hn
  go_enter Try.func11, Try.ntmps11
  go_wp2_with fail
  refine hc.mono ?_
  rintro e w1 ⟨rfl, hb⟩
  clear hc
  have hc := clone_any w1 ⟨#[]⟩ (by decide)
  go_wp2_with fail
  refine hc.mono ?_
  rintro e w2 ⟨rfl, hb2⟩
  clear hc
  go_wp2
  go_ret2
  exact ⟨rfl, hb.trans (hb2.mono hb.size)⟩

end Go.Proofs.Ytbgcnmebmbjdjaa

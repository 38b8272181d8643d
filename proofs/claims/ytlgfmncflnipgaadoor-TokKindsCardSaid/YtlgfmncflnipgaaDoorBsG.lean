/- A strings.Builder that a call has made: copyCheck and WriteString, over this program's own bodies (the library's laying of them does not fit: their refusing arm is cut). -/
import Derived.Test.YtlgfmncflnipgaaDoorTkUse
import Derived.Lib.Builder
import Derived.Test.YtlgfmncflnipgaaDoorBsD
import Derived.Deep.RegionHeld
import Derived.Deep.DeepCutAuto
namespace Go.Proofs.YtlgfmncflnipgaaDoor
open Go Go.RowKit Go.Shelf

theorem bldSize : (Tryd.prog.info? 35).map (·.size) = some 2 := by kernel_rfl
theorem bldLies : liesAt Tryd.prog Tryd.prog.depth 35 (2 / Tryd.prog.cellsOf 35) 0 35 1 = true := by kernel_rfl

set_option maxHeartbeats 1000000 in
set_option maxRecDepth 100000 in
/-- copyCheck: the builder holds its own address behind it. -/
theorem copyCheck_any (B b : Nat) (bs : List Value) (w : World) (h : Lib.IsBuilder 35 5 B b bs w) :
    Calls Tryd.prog 17 #[.pointer (some ⟨b, 0, none⟩)] w fun e w' => e = .returned (.tuple #[]) ∧ Lib.BuilderAt 35 5 B b (.pointer (some ⟨b, 0, none⟩)) bs w' ∧ Below B w w' := by
  obtain ⟨j, hj, hjs⟩ := Option.map_eq_some_iff.1 bldSize
  rcases h with h | h
  · have c0 := h.cell0
    have hsh := h.shape
    have hfz := h.frozen0
    have e1 : (convert 33 61 (.pointer (some ⟨b, 0, none⟩))).run Tryd.prog w = .ok (.pointer (some ⟨b, 0, none⟩)) w := Lib.run_to_unsafe w ⟨b, 0, none⟩ Tryd.underlying33 Tryd.underlying61 hj (by rw [hjs]; decide) hsh (Nat.zero_lt_succ 1)
    have e2 : (convert 61 33 (.pointer (some ⟨b, 0, none⟩))).run Tryd.prog w = .ok (.pointer (some ⟨b, 0, none⟩)) w := Lib.run_from_unsafe w ⟨b, 0, none⟩ Tryd.underlying61 Tryd.underlying33 hj hsh bldLies
    go_enter Tryd.func17, Tryd.ntmps17
    go_wp2
    rw [run_callFunc_extern Tryd.func29 (by kernel_rfl) (by kernel_rfl) (by kernel_rfl) (e := Extern.AbiNoEscape.same) (by kernel_rfl), Lib.run_noEscape]
    simp only [Result.andThen]
    rw [Oper.upon_value]
    go_wp2
    go_end0
    exact ⟨rfl, h.used _, (Below.refl B w).setCell (p := ⟨b, 0, none⟩) h.1 _⟩
  · have c0 := h.cell0
    have e1 := Lib.run_neq_ptr_same (P := Tryd.prog) w (⟨b, 0, none⟩ : Addr) Tryd.underlying33 hj
    go_enter Tryd.func17, Tryd.ntmps17
    go_wp2
    go_end0
    exact ⟨rfl, h, Below.refl B _⟩

set_option maxHeartbeats 2000000 in
set_option maxRecDepth 100000 in
/-- WriteString: the text's bytes stand behind what was there. -/
theorem writeString_any (B b : Nat) (bs : List Value) (s : ByteArray) (w : World) (h : Lib.IsBuilder 35 5 B b bs w) (hlen : bs.length + s.size ≤ 140737488355328) (hBw : B ≤ w.heap.size) :
    Calls Tryd.prog 10 #[.pointer (some ⟨b, 0, none⟩), .string s] w fun e w' => (∃ v, e = .returned v) ∧ Lib.BuilderAt 35 5 B b (.pointer (some ⟨b, 0, none⟩)) (bs ++ Lib.strCells s) w' ∧ Below B w w' := by
  obtain ⟨i0, hi, hz0, hz1, hz2⟩ := info_parts infoByte
  have h1 := copyCheck_any B b bs w h
  go_enter Tryd.func10, Tryd.ntmps10
  go_wp2_with fail
  refine h1.mono ?_
  clear h1
  rintro e w1 ⟨rfl, ⟨hB, v, hbk, hown, hne⟩, b1⟩
  have c1 : w1.cell? ⟨b, 1, none⟩ = some v := by rw [Lib.cell_of_heap hbk]; rfl
  have s1 := b1.size
  go_wp2_with (at_builtin; refine Lib.wpList_append_own_string _ rfl _ _ 22 9 rfl B 5 i0 Tryd.underlying22 Tryd.underlying9 hi hz0 hz1 hz2 _ _ _ rfl hown s rfl (by unfold maxLen; omega) (by omega) (by omega) ?_)
  intro v2 w2 o2 g2 _
  have hlt : b < w1.heap.size := (Array.getElem?_eq_some_iff.1 hbk).1
  have hb2 := (g2.block b hlt (fun e => hne e.symm)).trans hbk
  have d1 : w2.cell? ⟨b, 1, none⟩ = some v := by rw [Lib.cell_of_heap hb2]; rfl
  have f1 : w2.frozen? ⟨b, 1, none⟩ = false := Lib.frozen_of_heap hb2 1
  obtain ⟨ao, n2, cap, rfl⟩ : ∃ ao n2 cap, v2 = .slice ao n2 cap := by
    rcases o2.2 with ⟨hv, _⟩ | ⟨g, cap, cur, hv, _⟩
    · exact ⟨_, _, _, hv⟩
    · exact ⟨_, _, _, hv⟩
  go_wp2
  go_ret2
  exact ⟨⟨_, rfl⟩, Lib.BuilderAt.put (T := 35) (e := 5) hB hb2 (bs' := bs ++ Lib.strCells s) (by simpa [Lib.strCells_length] using o2) (by decide), (b1.grown g2 (by omega) (fun k hk => (hown.lt k hk).1)).setCell (p := ⟨b, 1, none⟩) hB _⟩

end Go.Proofs.YtlgfmncflnipgaaDoor

/- tok.signOf at every kind. -/
namespace Go.Proofs.YtlgfmncflnipgaaDoor
open Go Go.RowKit Go.Shelf

/-- The text of a sign's kind. -/
def sgnB (k : Int) : ByteArray := if k = 11 then txtOf [58] else if k = 12 then txtOf [59] else if k = 13 then txtOf [44] else if k = 14 then txtOf [123] else if k = 15 then txtOf [125] else if k = 16 then txtOf [40] else if k = 17 then txtOf [41] else if k = 18 then txtOf [91] else if k = 19 then txtOf [93] else ⟨#[]⟩
theorem sgnB_size (k : Int) : (sgnB k).size ≤ 4 := by
  have key : ∀ c : Int, (txtOf [c]).size ≤ 4 := fun c => by
    have := encs_len [c]
    show ((encs [c]).toArray).size ≤ 4
    rw [List.size_toArray]
    simpa using this
  unfold sgnB
  repeat' split
  all_goals first | exact key _ | decide
theorem int_new (W : World) (c : Int) : IntsAt (W.alloc (.cells #[.int .i64 c] 3)).heap.size (W.alloc (.cells #[.int .i64 c] 3)) (.slice (some ⟨W.heap.size, 0, none⟩) 1 1) [c] :=
  .inr ⟨W.heap.size, 0, 1, rfl, Nat.le_refl _, by unfold maxLen; omega, by rw [World.size_alloc]; exact Nat.lt_succ_self _, fun j u hj => by
    rw [cell_of_block (World.alloc_heap_new W _) _, Nat.zero_add]
    cases j with
    | zero => simpa using hj
    | succ j => simp at hj⟩

set_option maxRecDepth 100000 in
set_option maxHeartbeats 4000000 in
theorem signOf_any (kd : Int) (w : World) (hS : SignsAt w.heap.size w) :
    Calls Tryd.prog 20 #[.int .i64 kd] w fun e w' => e = .returned (.string (sgnB kd)) ∧ Below w.heap.size w w' := by
  obtain ⟨hlt, t0, fr0, hrow⟩ := hS
  obtain ⟨z, hz⟩ : ∃ z, sgnB kd = z := ⟨_, rfl⟩
  rw [hz]
  go_enter Tryd.func20, Tryd.ntmps20
  go_upto_region 1 with fail
  refine wp_region_lit ?_
  refine wpList_load_row rfl 65 _ rfl 0 rfl t0 signRow fr0 _ hrow Tryd.underlying65 rfl infoSigns ?_
  clear hrow
  have i0 := sign_at0
  have i1 := sign_at1
  have i2 := sign_at2
  have i3 := sign_at3
  have i4 := sign_at4
  have i5 := sign_at5
  have i6 := sign_at6
  have i7 := sign_at7
  have i8 := sign_at8
  generalize Value.agg signRow = row at *
  go_wp2
  go_loopw [6] (fun i wr => ∃ k : Nat, i = .int .i64 k ∧ k ≤ 9 ∧ Hid (kd < 11 ∨ 11 + (k : Int) ≤ kd) ∧ Below w.heap.size w wr) (fun i _ => 9 - (intOf i).toNat)
  case atStart => exact ⟨0, rfl, by omega, by show _ ∨ _; omega, Below.refl _ _⟩
  case round =>
    obtain ⟨k, rfl, hk, ha, hb⟩ := hrel
    have hsz := hb.size
    obtain rfl | rfl | rfl | rfl | rfl | rfl | rfl | rfl | rfl | rfl : k = 0 ∨ k = 1 ∨ k = 2 ∨ k = 3 ∨ k = 4 ∨ k = 5 ∨ k = 6 ∨ k = 7 ∨ k = 8 ∨ k = 9 := by omega
    · by_cases hp : kd = 11
      · subst hp
        have hI := int_new (wr.alloc (.cells #[.int .i64 58, .int .i64 11] 64)) 58
        have b1 : Below wr.heap.size wr ((wr.alloc (.cells #[.int .i64 58, .int .i64 11] 64)).alloc (.cells #[.int .i64 58] 3)) := ((Below.refl _ wr).alloc (Nat.le_refl _) _).alloc (by rw [World.size_alloc]; omega) _
        have h1 := encoded_any _ _ _ hI (by simp)
        rw [World.size_alloc] at h1
        clear hI
        rw [show txtOf [58] = z from hz] at h1
        clear hz
        go_wp2_with fail
        refine h1.mono ?_
        clear h1
        rintro e w2 ⟨rfl, b2⟩
        go_wp2
        go_ret
        exact ⟨rfl, (hb.trans (b1.mono hb.size)).trans (b2.mono (by have := b1.size; omega))⟩
      · have hp' : ((11 : Int) == kd) = false := by simp; omega
        have HA : Hid (kd < 11 ∨ 11 + ((0+1 : Nat) : Int) ≤ kd) := by have ha' : kd < 11 ∨ 11 + ((0 : Nat) : Int) ≤ kd := ha; show _ ∨ _; omega
        have HZ : Hid (sgnB kd = z) := hz
        clear ha hz
        go_wp2
        exact ⟨⟨1, rfl, by omega, HA, hb.alloc hb.size _⟩, by simp [intOf]⟩
    · by_cases hp : kd = 12
      · subst hp
        have hI := int_new (wr.alloc (.cells #[.int .i64 59, .int .i64 12] 64)) 59
        have b1 : Below wr.heap.size wr ((wr.alloc (.cells #[.int .i64 59, .int .i64 12] 64)).alloc (.cells #[.int .i64 59] 3)) := ((Below.refl _ wr).alloc (Nat.le_refl _) _).alloc (by rw [World.size_alloc]; omega) _
        have h1 := encoded_any _ _ _ hI (by simp)
        rw [World.size_alloc] at h1
        clear hI
        rw [show txtOf [59] = z from hz] at h1
        clear hz
        go_wp2_with fail
        refine h1.mono ?_
        clear h1
        rintro e w2 ⟨rfl, b2⟩
        go_wp2
        go_ret
        exact ⟨rfl, (hb.trans (b1.mono hb.size)).trans (b2.mono (by have := b1.size; omega))⟩
      · have hp' : ((12 : Int) == kd) = false := by simp; omega
        have HA : Hid (kd < 11 ∨ 11 + ((1+1 : Nat) : Int) ≤ kd) := by have ha' : kd < 11 ∨ 11 + ((1 : Nat) : Int) ≤ kd := ha; show _ ∨ _; omega
        have HZ : Hid (sgnB kd = z) := hz
        clear ha hz
        go_wp2
        exact ⟨⟨2, rfl, by omega, HA, hb.alloc hb.size _⟩, by simp [intOf]⟩
    · by_cases hp : kd = 13
      · subst hp
        have hI := int_new (wr.alloc (.cells #[.int .i64 44, .int .i64 13] 64)) 44
        have b1 : Below wr.heap.size wr ((wr.alloc (.cells #[.int .i64 44, .int .i64 13] 64)).alloc (.cells #[.int .i64 44] 3)) := ((Below.refl _ wr).alloc (Nat.le_refl _) _).alloc (by rw [World.size_alloc]; omega) _
        have h1 := encoded_any _ _ _ hI (by simp)
        rw [World.size_alloc] at h1
        clear hI
        rw [show txtOf [44] = z from hz] at h1
        clear hz
        go_wp2_with fail
        refine h1.mono ?_
        clear h1
        rintro e w2 ⟨rfl, b2⟩
        go_wp2
        go_ret
        exact ⟨rfl, (hb.trans (b1.mono hb.size)).trans (b2.mono (by have := b1.size; omega))⟩
      · have hp' : ((13 : Int) == kd) = false := by simp; omega
        have HA : Hid (kd < 11 ∨ 11 + ((2+1 : Nat) : Int) ≤ kd) := by have ha' : kd < 11 ∨ 11 + ((2 : Nat) : Int) ≤ kd := ha; show _ ∨ _; omega
        have HZ : Hid (sgnB kd = z) := hz
        clear ha hz
        go_wp2
        exact ⟨⟨3, rfl, by omega, HA, hb.alloc hb.size _⟩, by simp [intOf]⟩
    · by_cases hp : kd = 14
      · subst hp
        have hI := int_new (wr.alloc (.cells #[.int .i64 123, .int .i64 14] 64)) 123
        have b1 : Below wr.heap.size wr ((wr.alloc (.cells #[.int .i64 123, .int .i64 14] 64)).alloc (.cells #[.int .i64 123] 3)) := ((Below.refl _ wr).alloc (Nat.le_refl _) _).alloc (by rw [World.size_alloc]; omega) _
        have h1 := encoded_any _ _ _ hI (by simp)
        rw [World.size_alloc] at h1
        clear hI
        rw [show txtOf [123] = z from hz] at h1
        clear hz
        go_wp2_with fail
        refine h1.mono ?_
        clear h1
        rintro e w2 ⟨rfl, b2⟩
        go_wp2
        go_ret
        exact ⟨rfl, (hb.trans (b1.mono hb.size)).trans (b2.mono (by have := b1.size; omega))⟩
      · have hp' : ((14 : Int) == kd) = false := by simp; omega
        have HA : Hid (kd < 11 ∨ 11 + ((3+1 : Nat) : Int) ≤ kd) := by have ha' : kd < 11 ∨ 11 + ((3 : Nat) : Int) ≤ kd := ha; show _ ∨ _; omega
        have HZ : Hid (sgnB kd = z) := hz
        clear ha hz
        go_wp2
        exact ⟨⟨4, rfl, by omega, HA, hb.alloc hb.size _⟩, by simp [intOf]⟩
    · by_cases hp : kd = 15
      · subst hp
        have hI := int_new (wr.alloc (.cells #[.int .i64 125, .int .i64 15] 64)) 125
        have b1 : Below wr.heap.size wr ((wr.alloc (.cells #[.int .i64 125, .int .i64 15] 64)).alloc (.cells #[.int .i64 125] 3)) := ((Below.refl _ wr).alloc (Nat.le_refl _) _).alloc (by rw [World.size_alloc]; omega) _
        have h1 := encoded_any _ _ _ hI (by simp)
        rw [World.size_alloc] at h1
        clear hI
        rw [show txtOf [125] = z from hz] at h1
        clear hz
        go_wp2_with fail
        refine h1.mono ?_
        clear h1
        rintro e w2 ⟨rfl, b2⟩
        go_wp2
        go_ret
        exact ⟨rfl, (hb.trans (b1.mono hb.size)).trans (b2.mono (by have := b1.size; omega))⟩
      · have hp' : ((15 : Int) == kd) = false := by simp; omega
        have HA : Hid (kd < 11 ∨ 11 + ((4+1 : Nat) : Int) ≤ kd) := by have ha' : kd < 11 ∨ 11 + ((4 : Nat) : Int) ≤ kd := ha; show _ ∨ _; omega
        have HZ : Hid (sgnB kd = z) := hz
        clear ha hz
        go_wp2
        exact ⟨⟨5, rfl, by omega, HA, hb.alloc hb.size _⟩, by simp [intOf]⟩
    · by_cases hp : kd = 16
      · subst hp
        have hI := int_new (wr.alloc (.cells #[.int .i64 40, .int .i64 16] 64)) 40
        have b1 : Below wr.heap.size wr ((wr.alloc (.cells #[.int .i64 40, .int .i64 16] 64)).alloc (.cells #[.int .i64 40] 3)) := ((Below.refl _ wr).alloc (Nat.le_refl _) _).alloc (by rw [World.size_alloc]; omega) _
        have h1 := encoded_any _ _ _ hI (by simp)
        rw [World.size_alloc] at h1
        clear hI
        rw [show txtOf [40] = z from hz] at h1
        clear hz
        go_wp2_with fail
        refine h1.mono ?_
        clear h1
        rintro e w2 ⟨rfl, b2⟩
        go_wp2
        go_ret
        exact ⟨rfl, (hb.trans (b1.mono hb.size)).trans (b2.mono (by have := b1.size; omega))⟩
      · have hp' : ((16 : Int) == kd) = false := by simp; omega
        have HA : Hid (kd < 11 ∨ 11 + ((5+1 : Nat) : Int) ≤ kd) := by have ha' : kd < 11 ∨ 11 + ((5 : Nat) : Int) ≤ kd := ha; show _ ∨ _; omega
        have HZ : Hid (sgnB kd = z) := hz
        clear ha hz
        go_wp2
        exact ⟨⟨6, rfl, by omega, HA, hb.alloc hb.size _⟩, by simp [intOf]⟩
    · by_cases hp : kd = 17
      · subst hp
        have hI := int_new (wr.alloc (.cells #[.int .i64 41, .int .i64 17] 64)) 41
        have b1 : Below wr.heap.size wr ((wr.alloc (.cells #[.int .i64 41, .int .i64 17] 64)).alloc (.cells #[.int .i64 41] 3)) := ((Below.refl _ wr).alloc (Nat.le_refl _) _).alloc (by rw [World.size_alloc]; omega) _
        have h1 := encoded_any _ _ _ hI (by simp)
        rw [World.size_alloc] at h1
        clear hI
        rw [show txtOf [41] = z from hz] at h1
        clear hz
        go_wp2_with fail
        refine h1.mono ?_
        clear h1
        rintro e w2 ⟨rfl, b2⟩
        go_wp2
        go_ret
        exact ⟨rfl, (hb.trans (b1.mono hb.size)).trans (b2.mono (by have := b1.size; omega))⟩
      · have hp' : ((17 : Int) == kd) = false := by simp; omega
        have HA : Hid (kd < 11 ∨ 11 + ((6+1 : Nat) : Int) ≤ kd) := by have ha' : kd < 11 ∨ 11 + ((6 : Nat) : Int) ≤ kd := ha; show _ ∨ _; omega
        have HZ : Hid (sgnB kd = z) := hz
        clear ha hz
        go_wp2
        exact ⟨⟨7, rfl, by omega, HA, hb.alloc hb.size _⟩, by simp [intOf]⟩
    · by_cases hp : kd = 18
      · subst hp
        have hI := int_new (wr.alloc (.cells #[.int .i64 91, .int .i64 18] 64)) 91
        have b1 : Below wr.heap.size wr ((wr.alloc (.cells #[.int .i64 91, .int .i64 18] 64)).alloc (.cells #[.int .i64 91] 3)) := ((Below.refl _ wr).alloc (Nat.le_refl _) _).alloc (by rw [World.size_alloc]; omega) _
        have h1 := encoded_any _ _ _ hI (by simp)
        rw [World.size_alloc] at h1
        clear hI
        rw [show txtOf [91] = z from hz] at h1
        clear hz
        go_wp2_with fail
        refine h1.mono ?_
        clear h1
        rintro e w2 ⟨rfl, b2⟩
        go_wp2
        go_ret
        exact ⟨rfl, (hb.trans (b1.mono hb.size)).trans (b2.mono (by have := b1.size; omega))⟩
      · have hp' : ((18 : Int) == kd) = false := by simp; omega
        have HA : Hid (kd < 11 ∨ 11 + ((7+1 : Nat) : Int) ≤ kd) := by have ha' : kd < 11 ∨ 11 + ((7 : Nat) : Int) ≤ kd := ha; show _ ∨ _; omega
        have HZ : Hid (sgnB kd = z) := hz
        clear ha hz
        go_wp2
        exact ⟨⟨8, rfl, by omega, HA, hb.alloc hb.size _⟩, by simp [intOf]⟩
    · by_cases hp : kd = 19
      · subst hp
        have hI := int_new (wr.alloc (.cells #[.int .i64 93, .int .i64 19] 64)) 93
        have b1 : Below wr.heap.size wr ((wr.alloc (.cells #[.int .i64 93, .int .i64 19] 64)).alloc (.cells #[.int .i64 93] 3)) := ((Below.refl _ wr).alloc (Nat.le_refl _) _).alloc (by rw [World.size_alloc]; omega) _
        have h1 := encoded_any _ _ _ hI (by simp)
        rw [World.size_alloc] at h1
        clear hI
        rw [show txtOf [93] = z from hz] at h1
        clear hz
        go_wp2_with fail
        refine h1.mono ?_
        clear h1
        rintro e w2 ⟨rfl, b2⟩
        go_wp2
        go_ret
        exact ⟨rfl, (hb.trans (b1.mono hb.size)).trans (b2.mono (by have := b1.size; omega))⟩
      · have hp' : ((19 : Int) == kd) = false := by simp; omega
        have HA : Hid (kd < 11 ∨ 11 + ((8+1 : Nat) : Int) ≤ kd) := by have ha' : kd < 11 ∨ 11 + ((8 : Nat) : Int) ≤ kd := ha; show _ ∨ _; omega
        have HZ : Hid (sgnB kd = z) := hz
        clear ha hz
        go_wp2
        exact ⟨⟨9, rfl, by omega, HA, hb.alloc hb.size _⟩, by simp [intOf]⟩
    · have e0 : sgnB kd = ⟨#[]⟩ := by
        have ha' : kd < 11 ∨ 11 + ((9 : Nat) : Int) ≤ kd := ha
        unfold sgnB
        repeat' split
        all_goals first | rfl | omega
      obtain rfl : (⟨#[]⟩ : ByteArray) = z := by rw [← hz, e0]
      clear ha e0 hz
      go_wp2
      go_ret
      exact ⟨rfl, hb⟩

end Go.Proofs.YtlgfmncflnipgaaDoor

/- What tok.written tells of a token. -/
namespace Go.Proofs.YtlgfmncflnipgaaDoor
open Go Go.RowKit Go.Shelf

/-! ### one token -/
def nB (n : Int) : ByteArray := ⟨(Nm.txt n).toArray⟩
theorem nB_size (n : Int) : (nB n).size ≤ 40 := by
  have h1 := Nm.capI_ge n
  have h2 := Nm.capI_le n
  have h3 := Nm.mag_len (Nm.capI n).natAbs (by omega)
  show ((Nm.txt n).toArray).size ≤ 40
  rw [List.size_toArray]
  unfold Nm.txt
  split
  · rw [List.length_cons]; omega
  · omega
theorem numText_one (n : Int) (w : World) (hT : Nm.Tabs w.heap.size w) : Calls Tryd.prog 18 #[.int .i64 n] w fun e w' => e = .returned (.string (nB n)) ∧ Below w.heap.size w w' := by
  refine (Nm.text_any n w hT).mono ?_
  rintro e w' ⟨r, rfl, hr, b⟩
  rw [Nm.eq_list hr]
  exact ⟨rfl, b⟩
/-- One token as a text. -/
def wrt (kd : Int) (tx : ByteArray) (n c : Int) : ByteArray :=
  if kd = 1 then tx else if kd = 2 then ⟨#[64]⟩ ++ tx else if kd = 3 then ⟨#[35]⟩ ++ tx else if kd = 4 then ⟨#[34]⟩ ++ tx ++ ⟨#[34]⟩ else if kd = 5 then ⟨#[34]⟩ else if kd = 6 then nB n else if kd = 7 then nB n ++ ⟨#[37]⟩ else if kd = 8 then nB n ++ tx else if kd = 9 then ⟨#[32]⟩ else if kd = 10 then txtOf [c] else if kd = 20 then tx ++ ⟨#[40]⟩ else sgnB kd
set_option maxHeartbeats 2000000 in
theorem wrt_size (kd : Int) (tx : ByteArray) (n c : Int) : (wrt kd tx n c).size ≤ tx.size + 48 := by
  have h1 := nB_size n
  have h2 := sgnB_size kd
  have h3 : (txtOf [c]).size ≤ 4 := by
    have := encs_len [c]
    show ((encs [c]).toArray).size ≤ 4
    rw [List.size_toArray]
    simpa using this
  have e1 : (⟨#[64]⟩ : ByteArray).size = 1 := rfl
  have e2 : (⟨#[35]⟩ : ByteArray).size = 1 := rfl
  have e3 : (⟨#[34]⟩ : ByteArray).size = 1 := rfl
  have e4 : (⟨#[37]⟩ : ByteArray).size = 1 := rfl
  have e5 : (⟨#[40]⟩ : ByteArray).size = 1 := rfl
  have e6 : (⟨#[32]⟩ : ByteArray).size = 1 := rfl
  unfold wrt
  repeat' split
  all_goals try simp only [ByteArray.size_append]
  all_goals omega

end Go.Proofs.YtlgfmncflnipgaaDoor

/- tok.written, at tokens of some kinds. -/
namespace Go.Proofs.YtlgfmncflnipgaaDoor
open Go Go.RowKit Go.Shelf

set_option maxRecDepth 100000 in
set_option maxHeartbeats 4000000 in
theorem written_1 (tx : ByteArray) (n : Int) (wh : Bool) (c : Int) (w : World) (_hx : tx.size ≤ 1000000) (hT : RTabs w.heap.size w) :
    Calls Tryd.prog 11 #[.agg #[.int .i64 1, .string tx, .int .i64 n, .bool wh, .int .i64 c]] w fun e w' => e = .returned (.string (wrt 1 tx n c)) ∧ Below w.heap.size w w' := by
  have b1 : Below w.heap.size w (w.alloc (.cells #[.int .i64 1, .string tx, .int .i64 n, .bool wh, .int .i64 c] 27)) := (Below.refl _ w).alloc (Nat.le_refl _) _
  have hT1 : RTabs (w.alloc (.cells #[.int .i64 1, .string tx, .int .i64 n, .bool wh, .int .i64 c] 27)).heap.size _ := (hT.below b1).mono b1.size
  have hs1 : (w.alloc (.cells #[.int .i64 1, .string tx, .int .i64 n, .bool wh, .int .i64 c] 27)).heap.size = w.heap.size + 1 := World.size_alloc _ _
  have hn := nB_size n
  have hnt := fun X (h : Nm.Tabs X.heap.size X) => numText_one n X h
  generalize hN : nB n = nb at *
  have hw : wrt 1 tx n c = tx := rfl
  rw [hw]
  clear hw
  clear hnt hN
  go_enter Tryd.func11, Tryd.ntmps11
  go_wp2
  go_ret
  exact ⟨rfl, b1⟩

set_option maxRecDepth 100000 in
set_option maxHeartbeats 4000000 in
theorem written_2 (tx : ByteArray) (n : Int) (wh : Bool) (c : Int) (w : World) (_hx : tx.size ≤ 1000000) (hT : RTabs w.heap.size w) :
    Calls Tryd.prog 11 #[.agg #[.int .i64 2, .string tx, .int .i64 n, .bool wh, .int .i64 c]] w fun e w' => e = .returned (.string (wrt 2 tx n c)) ∧ Below w.heap.size w w' := by
  have b1 : Below w.heap.size w (w.alloc (.cells #[.int .i64 2, .string tx, .int .i64 n, .bool wh, .int .i64 c] 27)) := (Below.refl _ w).alloc (Nat.le_refl _) _
  have hT1 : RTabs (w.alloc (.cells #[.int .i64 2, .string tx, .int .i64 n, .bool wh, .int .i64 c] 27)).heap.size _ := (hT.below b1).mono b1.size
  have hs1 : (w.alloc (.cells #[.int .i64 2, .string tx, .int .i64 n, .bool wh, .int .i64 c] 27)).heap.size = w.heap.size + 1 := World.size_alloc _ _
  have hn := nB_size n
  have hnt := fun X (h : Nm.Tabs X.heap.size X) => numText_one n X h
  generalize hN : nB n = nb at *
  have hw : wrt 2 tx n c = ⟨#[64]⟩ ++ tx := rfl
  rw [hw]
  clear hw
  clear hnt hN
  go_enter Tryd.func11, Tryd.ntmps11
  go_wp2
  go_ret
  exact ⟨rfl, b1⟩

set_option maxRecDepth 100000 in
set_option maxHeartbeats 4000000 in
theorem written_3 (tx : ByteArray) (n : Int) (wh : Bool) (c : Int) (w : World) (_hx : tx.size ≤ 1000000) (hT : RTabs w.heap.size w) :
    Calls Tryd.prog 11 #[.agg #[.int .i64 3, .string tx, .int .i64 n, .bool wh, .int .i64 c]] w fun e w' => e = .returned (.string (wrt 3 tx n c)) ∧ Below w.heap.size w w' := by
  have b1 : Below w.heap.size w (w.alloc (.cells #[.int .i64 3, .string tx, .int .i64 n, .bool wh, .int .i64 c] 27)) := (Below.refl _ w).alloc (Nat.le_refl _) _
  have hT1 : RTabs (w.alloc (.cells #[.int .i64 3, .string tx, .int .i64 n, .bool wh, .int .i64 c] 27)).heap.size _ := (hT.below b1).mono b1.size
  have hs1 : (w.alloc (.cells #[.int .i64 3, .string tx, .int .i64 n, .bool wh, .int .i64 c] 27)).heap.size = w.heap.size + 1 := World.size_alloc _ _
  have hn := nB_size n
  have hnt := fun X (h : Nm.Tabs X.heap.size X) => numText_one n X h
  generalize hN : nB n = nb at *
  have hw : wrt 3 tx n c = ⟨#[35]⟩ ++ tx := rfl
  rw [hw]
  clear hw
  clear hnt hN
  go_enter Tryd.func11, Tryd.ntmps11
  go_wp2
  go_ret
  exact ⟨rfl, b1⟩

end Go.Proofs.YtlgfmncflnipgaaDoor

/- tok.written, at tokens of some kinds. -/
namespace Go.Proofs.YtlgfmncflnipgaaDoor
open Go Go.RowKit Go.Shelf

set_option maxRecDepth 100000 in
set_option maxHeartbeats 4000000 in
theorem written_4 (tx : ByteArray) (n : Int) (wh : Bool) (c : Int) (w : World) (_hx : tx.size ≤ 1000000) (hT : RTabs w.heap.size w) :
    Calls Tryd.prog 11 #[.agg #[.int .i64 4, .string tx, .int .i64 n, .bool wh, .int .i64 c]] w fun e w' => e = .returned (.string (wrt 4 tx n c)) ∧ Below w.heap.size w w' := by
  have b1 : Below w.heap.size w (w.alloc (.cells #[.int .i64 4, .string tx, .int .i64 n, .bool wh, .int .i64 c] 27)) := (Below.refl _ w).alloc (Nat.le_refl _) _
  have hT1 : RTabs (w.alloc (.cells #[.int .i64 4, .string tx, .int .i64 n, .bool wh, .int .i64 c] 27)).heap.size _ := (hT.below b1).mono b1.size
  have hs1 : (w.alloc (.cells #[.int .i64 4, .string tx, .int .i64 n, .bool wh, .int .i64 c] 27)).heap.size = w.heap.size + 1 := World.size_alloc _ _
  have hn := nB_size n
  have hnt := fun X (h : Nm.Tabs X.heap.size X) => numText_one n X h
  generalize hN : nB n = nb at *
  have hw : wrt 4 tx n c = ⟨#[34]⟩ ++ tx ++ ⟨#[34]⟩ := rfl
  rw [hw]
  clear hw
  clear hnt hN
  go_enter Tryd.func11, Tryd.ntmps11
  go_wp2
  go_ret
  exact ⟨rfl, b1⟩

set_option maxRecDepth 100000 in
set_option maxHeartbeats 4000000 in
theorem written_5 (tx : ByteArray) (n : Int) (wh : Bool) (c : Int) (w : World) (_hx : tx.size ≤ 1000000) (hT : RTabs w.heap.size w) :
    Calls Tryd.prog 11 #[.agg #[.int .i64 5, .string tx, .int .i64 n, .bool wh, .int .i64 c]] w fun e w' => e = .returned (.string (wrt 5 tx n c)) ∧ Below w.heap.size w w' := by
  have b1 : Below w.heap.size w (w.alloc (.cells #[.int .i64 5, .string tx, .int .i64 n, .bool wh, .int .i64 c] 27)) := (Below.refl _ w).alloc (Nat.le_refl _) _
  have hT1 : RTabs (w.alloc (.cells #[.int .i64 5, .string tx, .int .i64 n, .bool wh, .int .i64 c] 27)).heap.size _ := (hT.below b1).mono b1.size
  have hs1 : (w.alloc (.cells #[.int .i64 5, .string tx, .int .i64 n, .bool wh, .int .i64 c] 27)).heap.size = w.heap.size + 1 := World.size_alloc _ _
  have hn := nB_size n
  have hnt := fun X (h : Nm.Tabs X.heap.size X) => numText_one n X h
  generalize hN : nB n = nb at *
  have hw : wrt 5 tx n c = ⟨#[34]⟩ := rfl
  rw [hw]
  clear hw
  clear hnt hN
  go_enter Tryd.func11, Tryd.ntmps11
  go_wp2
  go_ret
  exact ⟨rfl, b1⟩

set_option maxRecDepth 100000 in
set_option maxHeartbeats 4000000 in
theorem written_6 (tx : ByteArray) (n : Int) (wh : Bool) (c : Int) (w : World) (_hx : tx.size ≤ 1000000) (hT : RTabs w.heap.size w) :
    Calls Tryd.prog 11 #[.agg #[.int .i64 6, .string tx, .int .i64 n, .bool wh, .int .i64 c]] w fun e w' => e = .returned (.string (wrt 6 tx n c)) ∧ Below w.heap.size w w' := by
  have b1 : Below w.heap.size w (w.alloc (.cells #[.int .i64 6, .string tx, .int .i64 n, .bool wh, .int .i64 c] 27)) := (Below.refl _ w).alloc (Nat.le_refl _) _
  have hT1 : RTabs (w.alloc (.cells #[.int .i64 6, .string tx, .int .i64 n, .bool wh, .int .i64 c] 27)).heap.size _ := (hT.below b1).mono b1.size
  have hs1 : (w.alloc (.cells #[.int .i64 6, .string tx, .int .i64 n, .bool wh, .int .i64 c] 27)).heap.size = w.heap.size + 1 := World.size_alloc _ _
  have hn := nB_size n
  have hnt := fun X (h : Nm.Tabs X.heap.size X) => numText_one n X h
  generalize hN : nB n = nb at *
  have hw : wrt 6 tx n c = nb := by rw [← hN]; rfl
  rw [hw]
  clear hw
  have h2 := hnt _ hT1.2
  clear hnt hN
  go_enter Tryd.func11, Tryd.ntmps11
  go_wp2_with fail
  refine h2.mono ?_
  clear h2
  rintro e w2 ⟨rfl, b2⟩
  go_wp2
  go_ret
  exact ⟨rfl, b1.trans (b2.mono (by omega))⟩

set_option maxRecDepth 100000 in
set_option maxHeartbeats 4000000 in
theorem written_7 (tx : ByteArray) (n : Int) (wh : Bool) (c : Int) (w : World) (_hx : tx.size ≤ 1000000) (hT : RTabs w.heap.size w) :
    Calls Tryd.prog 11 #[.agg #[.int .i64 7, .string tx, .int .i64 n, .bool wh, .int .i64 c]] w fun e w' => e = .returned (.string (wrt 7 tx n c)) ∧ Below w.heap.size w w' := by
  have b1 : Below w.heap.size w (w.alloc (.cells #[.int .i64 7, .string tx, .int .i64 n, .bool wh, .int .i64 c] 27)) := (Below.refl _ w).alloc (Nat.le_refl _) _
  have hT1 : RTabs (w.alloc (.cells #[.int .i64 7, .string tx, .int .i64 n, .bool wh, .int .i64 c] 27)).heap.size _ := (hT.below b1).mono b1.size
  have hs1 : (w.alloc (.cells #[.int .i64 7, .string tx, .int .i64 n, .bool wh, .int .i64 c] 27)).heap.size = w.heap.size + 1 := World.size_alloc _ _
  have hn := nB_size n
  have hnt := fun X (h : Nm.Tabs X.heap.size X) => numText_one n X h
  generalize hN : nB n = nb at *
  have hw : wrt 7 tx n c = nb ++ ⟨#[37]⟩ := by rw [← hN]; rfl
  rw [hw]
  clear hw
  have h2 := hnt _ hT1.2
  clear hnt hN
  go_enter Tryd.func11, Tryd.ntmps11
  go_wp2_with fail
  refine h2.mono ?_
  clear h2
  rintro e w2 ⟨rfl, b2⟩
  go_wp2
  go_ret
  exact ⟨rfl, b1.trans (b2.mono (by omega))⟩

end Go.Proofs.YtlgfmncflnipgaaDoor

/- tok.written, at tokens of some kinds. -/
namespace Go.Proofs.YtlgfmncflnipgaaDoor
open Go Go.RowKit Go.Shelf

set_option maxRecDepth 100000 in
set_option maxHeartbeats 4000000 in
theorem written_8 (tx : ByteArray) (n : Int) (wh : Bool) (c : Int) (w : World) (_hx : tx.size ≤ 1000000) (hT : RTabs w.heap.size w) :
    Calls Tryd.prog 11 #[.agg #[.int .i64 8, .string tx, .int .i64 n, .bool wh, .int .i64 c]] w fun e w' => e = .returned (.string (wrt 8 tx n c)) ∧ Below w.heap.size w w' := by
  have b1 : Below w.heap.size w (w.alloc (.cells #[.int .i64 8, .string tx, .int .i64 n, .bool wh, .int .i64 c] 27)) := (Below.refl _ w).alloc (Nat.le_refl _) _
  have hT1 : RTabs (w.alloc (.cells #[.int .i64 8, .string tx, .int .i64 n, .bool wh, .int .i64 c] 27)).heap.size _ := (hT.below b1).mono b1.size
  have hs1 : (w.alloc (.cells #[.int .i64 8, .string tx, .int .i64 n, .bool wh, .int .i64 c] 27)).heap.size = w.heap.size + 1 := World.size_alloc _ _
  have hn := nB_size n
  have hnt := fun X (h : Nm.Tabs X.heap.size X) => numText_one n X h
  generalize hN : nB n = nb at *
  have hw : wrt 8 tx n c = nb ++ tx := by rw [← hN]; rfl
  rw [hw]
  clear hw
  have c1 : (w.alloc (.cells #[.int .i64 8, .string tx, .int .i64 n, .bool wh, .int .i64 c] 27)).cell? ⟨w.heap.size, 1, none⟩ = some (.string tx) := by rw [cell_of_block (World.alloc_heap_new w _) _]; rfl
  have c2 : (w.alloc (.cells #[.int .i64 8, .string tx, .int .i64 n, .bool wh, .int .i64 c] 27)).cell? ⟨w.heap.size, 2, none⟩ = some (.int .i64 n) := by rw [cell_of_block (World.alloc_heap_new w _) _]; rfl
  go_enter Tryd.func11, Tryd.ntmps11
  go_upto_region 17 with fail
  generalize w.alloc (.cells #[.int .i64 8, .string tx, .int .i64 n, .bool wh, .int .i64 c] 27) = W at *
  have HLW : Hid (Calls Tryd.prog 18 #[.int .i64 n] W.drew fun e w' => e = .returned (.string nb) ∧ Below W.drew.heap.size W.drew w') := hnt W.drew (hT1.2.next ⟨rfl, rfl, rfl, Nat.le_refl _, fun _ _ => rfl⟩)
  have HS5 : Hid (∀ X : World, Below W.heap.size W X → X.cell? ⟨w.heap.size, 1, none⟩ = some (.string tx) ∧ X.cell? ⟨w.heap.size, 2, none⟩ = some (.int .i64 n)) := fun X hX => ⟨(hX.cell (p := ⟨w.heap.size, 1, none⟩) (show w.heap.size < _ by omega)).trans c1, (hX.cell (p := ⟨w.heap.size, 2, none⟩) (show w.heap.size < _ by omega)).trans c2⟩
  clear hnt hN hT hT1
  go_cut [2] (fun s4 wx => s4 = .string (nb ++ tx) ∧ Below W.heap.size W wx)
  case first =>
    go_region_held (fun X => X.cell? ⟨w.heap.size, 1, none⟩ = some (.string tx) ∧ X.cell? ⟨w.heap.size, 2, none⟩ = some (.int .i64 n)) (first | exact (show ∀ X : World, Below W.heap.size W X → X.cell? ⟨w.heap.size, 1, none⟩ = some (.string tx) ∧ X.cell? ⟨w.heap.size, 2, none⟩ = some (.int .i64 n) from HS5) _ (by assumption) | go_keep)
      (first | (go_at_call 18; refine Calls.mono (show Calls Tryd.prog 18 #[.int .i64 n] W.drew fun e w' => e = .returned (.string nb) ∧ Below W.drew.heap.size W.drew w' from HLW) ?_; rintro e w8 ⟨rfl, b8⟩; have b8' : Below W.heap.size W w8 := ⟨b8.os, b8.tape, b8.output, b8.size, b8.block⟩; clear b8))
    go_wp2_with fail
    go_meet
    exact ⟨rfl, b8'⟩
  case rest =>
    obtain ⟨rfl, b9⟩ := hcut
    go_wp2
    go_ret
    exact ⟨rfl, b1.trans (b9.mono (by omega))⟩

set_option maxRecDepth 100000 in
set_option maxHeartbeats 4000000 in
theorem written_9 (tx : ByteArray) (n : Int) (wh : Bool) (c : Int) (w : World) (_hx : tx.size ≤ 1000000) (hT : RTabs w.heap.size w) :
    Calls Tryd.prog 11 #[.agg #[.int .i64 9, .string tx, .int .i64 n, .bool wh, .int .i64 c]] w fun e w' => e = .returned (.string (wrt 9 tx n c)) ∧ Below w.heap.size w w' := by
  have b1 : Below w.heap.size w (w.alloc (.cells #[.int .i64 9, .string tx, .int .i64 n, .bool wh, .int .i64 c] 27)) := (Below.refl _ w).alloc (Nat.le_refl _) _
  have hT1 : RTabs (w.alloc (.cells #[.int .i64 9, .string tx, .int .i64 n, .bool wh, .int .i64 c] 27)).heap.size _ := (hT.below b1).mono b1.size
  have hs1 : (w.alloc (.cells #[.int .i64 9, .string tx, .int .i64 n, .bool wh, .int .i64 c] 27)).heap.size = w.heap.size + 1 := World.size_alloc _ _
  have hn := nB_size n
  have hnt := fun X (h : Nm.Tabs X.heap.size X) => numText_one n X h
  generalize hN : nB n = nb at *
  have hw : wrt 9 tx n c = ⟨#[32]⟩ := rfl
  rw [hw]
  clear hw
  clear hnt hN
  go_enter Tryd.func11, Tryd.ntmps11
  go_wp2
  go_ret
  exact ⟨rfl, b1⟩

end Go.Proofs.YtlgfmncflnipgaaDoor

/- tok.written, at tokens of some kinds. -/
namespace Go.Proofs.YtlgfmncflnipgaaDoor
open Go Go.RowKit Go.Shelf

set_option maxRecDepth 100000 in
set_option maxHeartbeats 4000000 in
theorem written_10 (tx : ByteArray) (n : Int) (wh : Bool) (c : Int) (w : World) (_hx : tx.size ≤ 1000000) (hT : RTabs w.heap.size w) :
    Calls Tryd.prog 11 #[.agg #[.int .i64 10, .string tx, .int .i64 n, .bool wh, .int .i64 c]] w fun e w' => e = .returned (.string (wrt 10 tx n c)) ∧ Below w.heap.size w w' := by
  have b1 : Below w.heap.size w (w.alloc (.cells #[.int .i64 10, .string tx, .int .i64 n, .bool wh, .int .i64 c] 27)) := (Below.refl _ w).alloc (Nat.le_refl _) _
  have hT1 : RTabs (w.alloc (.cells #[.int .i64 10, .string tx, .int .i64 n, .bool wh, .int .i64 c] 27)).heap.size _ := (hT.below b1).mono b1.size
  have hs1 : (w.alloc (.cells #[.int .i64 10, .string tx, .int .i64 n, .bool wh, .int .i64 c] 27)).heap.size = w.heap.size + 1 := World.size_alloc _ _
  have hn := nB_size n
  have hnt := fun X (h : Nm.Tabs X.heap.size X) => numText_one n X h
  generalize hN : nB n = nb at *
  rw [show wrt 10 tx n c = txtOf [c] from rfl]
  have hI := int_new (w.alloc (.cells #[.int .i64 10, .string tx, .int .i64 n, .bool wh, .int .i64 c] 27)) c
  have b2 : Below w.heap.size w ((w.alloc (.cells #[.int .i64 10, .string tx, .int .i64 n, .bool wh, .int .i64 c] 27)).alloc (.cells #[.int .i64 c] 3)) := b1.alloc (by rw [World.size_alloc]; omega) _
  have h1 := encoded_any _ _ _ hI (by simp)
  rw [World.size_alloc w] at h1
  clear hI hnt hN
  generalize txtOf [c] = z at *
  go_enter Tryd.func11, Tryd.ntmps11
  go_wp2_with fail
  refine h1.mono ?_
  clear h1
  rintro e w2 ⟨rfl, b3⟩
  go_wp2
  go_ret
  exact ⟨rfl, b2.trans (b3.mono b2.size)⟩

set_option maxRecDepth 100000 in
set_option maxHeartbeats 4000000 in
theorem written_20 (tx : ByteArray) (n : Int) (wh : Bool) (c : Int) (w : World) (_hx : tx.size ≤ 1000000) (hT : RTabs w.heap.size w) :
    Calls Tryd.prog 11 #[.agg #[.int .i64 20, .string tx, .int .i64 n, .bool wh, .int .i64 c]] w fun e w' => e = .returned (.string (wrt 20 tx n c)) ∧ Below w.heap.size w w' := by
  have b1 : Below w.heap.size w (w.alloc (.cells #[.int .i64 20, .string tx, .int .i64 n, .bool wh, .int .i64 c] 27)) := (Below.refl _ w).alloc (Nat.le_refl _) _
  have hT1 : RTabs (w.alloc (.cells #[.int .i64 20, .string tx, .int .i64 n, .bool wh, .int .i64 c] 27)).heap.size _ := (hT.below b1).mono b1.size
  have hs1 : (w.alloc (.cells #[.int .i64 20, .string tx, .int .i64 n, .bool wh, .int .i64 c] 27)).heap.size = w.heap.size + 1 := World.size_alloc _ _
  have hn := nB_size n
  have hnt := fun X (h : Nm.Tabs X.heap.size X) => numText_one n X h
  generalize hN : nB n = nb at *
  have hw : wrt 20 tx n c = tx ++ ⟨#[40]⟩ := rfl
  rw [hw]
  clear hw
  clear hnt hN
  go_enter Tryd.func11, Tryd.ntmps11
  go_wp2
  go_ret
  exact ⟨rfl, b1⟩

set_option maxRecDepth 100000 in
set_option maxHeartbeats 4000000 in
theorem written_sign (kd : Int) (tx : ByteArray) (n : Int) (wh : Bool) (c : Int) (w : World) (_hx : tx.size ≤ 1000000) (hT : RTabs w.heap.size w) (k1 : kd ≠ 1) (k2 : kd ≠ 2) (k3 : kd ≠ 3) (k4 : kd ≠ 4) (k5 : kd ≠ 5) (k6 : kd ≠ 6) (k7 : kd ≠ 7) (k8 : kd ≠ 8) (k9 : kd ≠ 9) (k10 : kd ≠ 10) (k20 : kd ≠ 20) :
    Calls Tryd.prog 11 #[.agg #[.int .i64 kd, .string tx, .int .i64 n, .bool wh, .int .i64 c]] w fun e w' => e = .returned (.string (wrt kd tx n c)) ∧ Below w.heap.size w w' := by
  have b1 : Below w.heap.size w (w.alloc (.cells #[.int .i64 kd, .string tx, .int .i64 n, .bool wh, .int .i64 c] 27)) := (Below.refl _ w).alloc (Nat.le_refl _) _
  have hT1 : RTabs (w.alloc (.cells #[.int .i64 kd, .string tx, .int .i64 n, .bool wh, .int .i64 c] 27)).heap.size _ := (hT.below b1).mono b1.size
  have hs1 : (w.alloc (.cells #[.int .i64 kd, .string tx, .int .i64 n, .bool wh, .int .i64 c] 27)).heap.size = w.heap.size + 1 := World.size_alloc _ _
  have hn := nB_size n
  have hnt := fun X (h : Nm.Tabs X.heap.size X) => numText_one n X h
  generalize hN : nB n = nb at *
  have e : wrt kd tx n c = sgnB kd := by
    unfold wrt
    simp only [k1, k2, k3, k4, k5, k6, k7, k8, k9, k10, k20, if_false]
  rw [e]
  have h1 := signOf_any kd _ hT1.1
  have q1 : (kd == 1) = false := by simpa using k1
  have q2 : (kd == 2) = false := by simpa using k2
  have q3 : (kd == 3) = false := by simpa using k3
  have q4 : (kd == 4) = false := by simpa using k4
  have q5 : (kd == 5) = false := by simpa using k5
  have q6 : (kd == 6) = false := by simpa using k6
  have q7 : (kd == 7) = false := by simpa using k7
  have q8 : (kd == 8) = false := by simpa using k8
  have q9 : (kd == 9) = false := by simpa using k9
  have q10 : (kd == 10) = false := by simpa using k10
  have q20 : (kd == 20) = false := by simpa using k20
  clear hnt hN e k1 k2 k3 k4 k5 k6 k7 k8 k9 k10 k20
  generalize sgnB kd = z at *
  go_enter Tryd.func11, Tryd.ntmps11
  go_wp2_with fail
  refine h1.mono ?_
  clear h1
  rintro e w2 ⟨rfl, b2⟩
  go_wp2
  go_ret
  exact ⟨rfl, b1.trans (b2.mono (by omega))⟩

end Go.Proofs.YtlgfmncflnipgaaDoor

/- tok.written, at every token whose text is not too long. -/
namespace Go.Proofs.YtlgfmncflnipgaaDoor
open Go Go.RowKit Go.Shelf

theorem written_any (kd : Int) (tx : ByteArray) (n : Int) (wh : Bool) (c : Int) (w : World) (_hx : tx.size ≤ 1000000) (hT : RTabs w.heap.size w) :
    Calls Tryd.prog 11 #[.agg #[.int .i64 kd, .string tx, .int .i64 n, .bool wh, .int .i64 c]] w fun e w' => e = .returned (.string (wrt kd tx n c)) ∧ Below w.heap.size w w' := by
  by_cases k1 : kd = 1
  · subst k1
    exact written_1 tx n wh c w _hx hT
  by_cases k2 : kd = 2
  · subst k2
    exact written_2 tx n wh c w _hx hT
  by_cases k3 : kd = 3
  · subst k3
    exact written_3 tx n wh c w _hx hT
  by_cases k4 : kd = 4
  · subst k4
    exact written_4 tx n wh c w _hx hT
  by_cases k5 : kd = 5
  · subst k5
    exact written_5 tx n wh c w _hx hT
  by_cases k6 : kd = 6
  · subst k6
    exact written_6 tx n wh c w _hx hT
  by_cases k7 : kd = 7
  · subst k7
    exact written_7 tx n wh c w _hx hT
  by_cases k8 : kd = 8
  · subst k8
    exact written_8 tx n wh c w _hx hT
  by_cases k9 : kd = 9
  · subst k9
    exact written_9 tx n wh c w _hx hT
  by_cases k10 : kd = 10
  · subst k10
    exact written_10 tx n wh c w _hx hT
  by_cases k20 : kd = 20
  · subst k20
    exact written_20 tx n wh c w _hx hT
  exact written_sign kd tx n wh c w _hx hT k1 k2 k3 k4 k5 k6 k7 k8 k9 k10 k20

end Go.Proofs.YtlgfmncflnipgaaDoor

/- tok.Text at every slice of tokens whose texts are not too long: it hangs on the tokens alone. -/
namespace Go.Proofs.YtlgfmncflnipgaaDoor
open Go Go.RowKit Go.Shelf

/-- The text of tokens. -/
def wrtT (t : Tk) : ByteArray := wrt t.kind (txtOf t.text) t.n t.c
def wrtL (l : List Tk) : List UInt8 := l.flatMap fun t => (wrtT t).data.toList
theorem bld_keep {B b : Nat} {bs : List Value} {X Y : World} (h : Lib.IsBuilder 35 5 B b bs X) (hb : Below X.heap.size X Y) : Lib.IsBuilder 35 5 B b bs Y := by
  have no : ∀ x : Value, x.ownBlock = none ∨ x.ownBlock ≠ none := fun x => by
    cases x.ownBlock with
    | none => exact .inl rfl
    | some j => exact .inr (by simp)
  have one : ∀ p, Lib.BuilderAt 35 5 B b p bs X → Lib.BuilderAt 35 5 B b p bs Y := fun p ⟨hB, v, hbk, hown, hne⟩ =>
    ⟨hB, v, (hb.block b (Array.getElem?_eq_some_iff.1 hbk).1).trans hbk, hown.kept ⟨hb.os, hb.tape, hb.output, hb.size, fun i hi _ => hb.block i hi⟩ (no _), hne⟩
  rcases h with h | h
  · exact .inl (one _ h)
  · exact .inr (one _ h)
theorem wrtL_next {l : List Tk} {k : Nat} (h : k < l.length) : Lib.byteCells (wrtL (l.take (k + 1))) = Lib.byteCells (wrtL (l.take k)) ++ Lib.strCells (wrtT l[k]) := by
  unfold wrtL Lib.byteCells Lib.strCells
  rw [List.take_succ_eq_append_getElem h, List.flatMap_append, List.map_append]
  simp
theorem wrtL_len (l : List Tk) (h : ∀ t ∈ l, (txtOf t.text).size ≤ 1000000) : ∀ k, (wrtL (l.take k)).length ≤ 1000048 * k
  | 0 => by simp [wrtL]
  | k + 1 => by
    have ih := wrtL_len l h k
    by_cases hk : k < l.length
    · have h1 := wrt_size l[k].kind (txtOf l[k].text) l[k].n l[k].c
      have h2 := h _ (List.getElem_mem hk)
      have e : (wrtL (l.take (k + 1))).length = (wrtL (l.take k)).length + (wrtT l[k]).size := by
        have := congrArg List.length (wrtL_next hk)
        simpa [Lib.byteCells, Lib.strCells_length] using this
      have h3 : (wrtT l[k]).size ≤ (txtOf l[k].text).size + 48 := h1
      omega
    · rw [List.take_of_length_le (by omega)]
      rw [List.take_of_length_le (by omega)] at ih
      omega

set_option maxRecDepth 100000 in
set_option maxHeartbeats 4000000 in
theorem text_any (v : Value) (l : List Tk) (w : World) (hv : TksAt w.heap.size w v l) (hT : RTabs w.heap.size w) (hl : l.length ≤ 100000) (hx : ∀ t ∈ l, (txtOf t.text).size ≤ 1000000) :
    Calls Tryd.prog 7 #[v] w fun e w' => e = .returned (.string ⟨(wrtL l).toArray⟩) ∧ Below w.heap.size w w' := by
  obtain ⟨p, cap, rfl⟩ := hv.len
  have b0 : Below w.heap.size w (w.alloc (.cells #[.pointer none, .slice none 0 0] 35)) := (Below.refl _ w).alloc (Nat.le_refl _) _
  have hB0 := Lib.fresh_isBuilder 35 5 w
  have HL : Hid (∀ k, (wrtL (l.take k)).length ≤ 1000048 * k) := wrtL_len l hx
  have HX : Hid (∀ t ∈ l, (txtOf t.text).size ≤ 1000000) := hx
  clear hx
  go_enter Tryd.func7, Tryd.ntmps7
  go_wp2_with fail
  generalize w.alloc (.cells #[.pointer none, .slice none 0 0] 35) = W at *
  go_loopw [8] (fun x wr => ∃ k : Nat, x = .int .i64 k ∧ k ≤ l.length ∧ Lib.IsBuilder 35 5 w.heap.size w.heap.size (Lib.byteCells (wrtL (l.take k))) wr ∧ Below w.heap.size w wr) (fun x _ => l.length - (intOf x).toNat)
  case atStart => exact ⟨0, rfl, Nat.zero_le _, hB0, b0⟩
  case round =>
    obtain ⟨k, rfl, hk, hB, hb⟩ := hrel
    clear hB0 b0
    by_cases hlt : k < l.length
    · have hki : (k : Int) < (l.length : Int) := by omega
      have hnx := wrtL_next hlt
      have hlk := (show ∀ k, (wrtL (l.take k)).length ≤ 1000048 * k from HL) k
      have htx := (show ∀ t ∈ l, (txtOf t.text).size ≤ 1000000 from HX) l[k] (List.getElem_mem hlt)
      obtain ⟨bk, off, hp, c0, c1, c2, c3, c4⟩ : ∃ bk off, p = some ⟨bk, off, none⟩ ∧ CellsAt wr bk (off + k * 5) l[k] := by
        rcases hv.below hb with ⟨rfl, _⟩ | ⟨bk, off, cap, e, hbk, h⟩
        · simp at hlt
        · cases e
          exact ⟨bk, off, rfl, h k _ (List.getElem?_eq_getElem hlt)⟩
      subst hp
      have hws := wrt_size l[k].kind (txtOf l[k].text) l[k].n l[k].c
      have hbl : (Lib.byteCells (wrtL (l.take k))).length = (wrtL (l.take k)).length := by simp [Lib.byteCells]
      rw [show wrtT l[k] = wrt l[k].kind (txtOf l[k].text) l[k].n l[k].c from rfl] at hnx
      generalize l[k] = t at *
      generalize Lib.byteCells (wrtL (l.take k)) = bs at *
      obtain ⟨kd, tx0, n, wh, c⟩ := t
      simp only at c0 c1 c2 c3 c4 hnx htx hws
      generalize txtOf tx0 = tx at *
      have b1 : Below wr.heap.size wr (wr.alloc (.cells #[.int .i64 kd, .string tx, .int .i64 n, .bool wh, .int .i64 c] 27)) := (Below.refl _ wr).alloc (Nat.le_refl _) _
      have hb1 := hb.trans (b1.mono hb.size)
      have h2 := written_any kd tx n wh c (wr.alloc (.cells #[.int .i64 kd, .string tx, .int .i64 n, .bool wh, .int .i64 c] 27)) htx ((hT.below hb1).mono hb1.size)
      have hB1 := bld_keep hB b1
      generalize wrt kd tx n c = z at *
      go_wp2_with fail
      generalize wr.alloc (.cells #[.int .i64 kd, .string tx, .int .i64 n, .bool wh, .int .i64 c] 27) = X at *
      refine h2.mono ?_
      clear h2
      rintro e w2 ⟨rfl, b2⟩
      have hb2 := hb1.trans (b2.mono hb1.size)
      have hB2 := bld_keep hB1 b2
      have h3 := writeString_any w.heap.size w.heap.size bs z w2 hB2 (by omega) hb2.size
      go_wp2_with fail
      refine h3.mono ?_
      clear h3
      rintro e w3 ⟨⟨rv, rfl⟩, hB3, b3⟩
      rw [← hnx] at hB3
      go_wp2
      exact ⟨⟨k + 1, by go_num, by omega, .inr hB3, hb2.trans b3⟩, by simp [intOf]; omega⟩
    · have hki : ¬ (k : Int) < (l.length : Int) := by omega
      rw [List.take_of_length_le (by omega)] at hB
      have h1 := Tryd.Builder_String_any w.heap.size w.heap.size (wrtL l) wr hB hb.size
      go_wp2_with fail
      refine h1.mono ?_
      clear h1
      rintro e w2 ⟨rfl, b2⟩
      go_wp2
      go_ret
      exact ⟨rfl, hb.trans b2⟩

end Go.Proofs.YtlgfmncflnipgaaDoor

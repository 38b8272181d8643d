/- For every two integers and every slice of truth values: the law tapestrierlaw7.ValueWide returns true and leaves its arguments as they were; no condition (its card: the table of words read off the program's text). -/
import Derived.Test.YtghjpefkeobfnaaDoorVlAlive
import Derived.Test.YtghjpefkeobfnaaDoorVlBools
namespace Go.Proofs.YtghjpefkeobfnaaDoor
open Go Go.ChangeShapes Go.WideShapes Go.ChangeAt Go.RowKit Vl
open Go.ChangeMaps (open_string shut_string)

theorem row_below {W W' : World} {g n n₀ : Nat} {f : Nat → UInt8} (h : Lw.Row W g n f) (hb : Below n₀ W W') (hg : g < n₀) : Lw.Row W' g n f := fun j hj => by
  refine ⟨(hb.cell (p := ⟨g, j, none⟩) hg).trans (h j hj).1, ?_⟩
  have := (h j hj).2
  unfold World.frozen? at this ⊢
  rw [hb.block g hg]
  exact this
/-- The first k letters as they are asked for: great ones where it is said. -/
def mixB (up : List Bool) (k j : Nat) (c : UInt8) : UInt8 := if j < k ∧ up[j]?.getD false = true then UInt8.ofNat (c.toNat - 32) else c
def mix (x : List UInt8) (up : List Bool) (k : Nat) : List UInt8 := x.mapIdx (mixB up k)
theorem mix_len (x : List UInt8) (up : List Bool) (k : Nat) : (mix x up k).length = x.length := by simp [mix]
def mixF (x : List UInt8) (up : List Bool) (k j : Nat) : UInt8 := (mix x up k)[j]?.getD 0
theorem mixF_at {x : List UInt8} {up : List Bool} {k j : Nat} {c : UInt8} (h : x[j]? = some c) : mixF x up k j = mixB up k j c := by
  unfold mixF mix
  rw [List.getElem?_mapIdx, h]
  rfl
theorem mixF_zero (x : List UInt8) (up : List Bool) : mixF x up 0 = fun j => x[j]?.getD 0 := funext fun j => by
  unfold mixF mix
  rw [List.getElem?_mapIdx]
  cases x[j]? with
  | none => rfl
  | some c => simp [mixB]
theorem mixF_next {x : List UInt8} {up : List Bool} {k : Nat} {c : UInt8} (hx : x[k]? = some c) : mixF x up (k + 1) = fun j => if j = k then (if up[k]?.getD false = true then UInt8.ofNat (c.toNat - 32) else c) else mixF x up k j := funext fun j => by
  by_cases e : j = k
  · subst e
    rw [mixF_at hx, if_pos rfl]
    unfold mixB
    by_cases h : up[j]?.getD false = true
    · rw [if_pos h, if_pos ⟨by omega, h⟩]
    · rw [if_neg h, if_neg (fun q => h q.2)]
  · rw [if_neg e]
    cases h : x[j]? with
    | none => simp [mixF, mix, h]
    | some d =>
      rw [mixF_at h, mixF_at h]
      unfold mixB
      by_cases g : j < k
      · simp [g, show j < k + 1 by omega]
      · rw [if_neg (by omega), if_neg (by omega)]
theorem low_mix {x : List UInt8} (hx : ∀ c ∈ x, 97 ≤ c.toNat ∧ c.toNat ≤ 122) (up : List Bool) (k : Nat) : Lw.low (mix x up k) = x := by
  apply List.ext_getElem?
  intro j
  unfold Lw.low mix
  rw [List.getElem?_map, List.getElem?_mapIdx]
  cases h : x[j]? with
  | none => rfl
  | some c =>
    have hc := hx c (List.mem_of_getElem? h)
    simp only [Option.map_some, Option.some.injEq]
    unfold mixB
    split
    · apply UInt8.toNat_inj.1
      rw [Lw.lowB_hit (by rw [UInt8.toNat_ofNat']; omega) (by rw [UInt8.toNat_ofNat']; omega), UInt8.toNat_ofNat']
      omega
    · exact Lw.lowB_miss (by omega)
theorem wide_facts : ∀ (k : Nat) (x : List UInt8), wideT[k]? = some x → (∀ c ∈ x, 97 ≤ c.toNat ∧ c.toNat ≤ 122) ∧ x.length ≤ 7 ∧ ∀ p, wordV p x = (7 + (k : Int), 0, true)
  | 0, x, h => by cases h; exact ⟨by decide, by decide, fun p => by simp [wordV, wordL, wordsT, hits]⟩
  | 1, x, h => by cases h; exact ⟨by decide, by decide, fun p => by simp [wordV, wordL, wordsT, hits]⟩
  | 2, x, h => by cases h; exact ⟨by decide, by decide, fun p => by simp [wordV, wordL, wordsT, hits]⟩
  | k + 3, x, h => by simp [wideT] at h

set_option maxRecDepth 100000 in
set_option maxHeartbeats 4000000 in
theorem valueWide_walk (w : World) (hS : WordsAt w.heap.size w) (p : Int) (_hp : (Lit.int .i64 p).wf = true) (m : Int) (_hm : (Lit.int .i64 m).wf = true) (v : Value) (up : List Bool) (hv : BoolsAt w.heap.size w v up) :
    Calls Tryd.prog 7 #[.int .i64 p, .int .i64 m, v] w fun e w' => e = .returned (.bool true) ∧ Below w.heap.size w w' := by
  have h0 := alive7_any w hS
  obtain ⟨q, cap, rfl⟩ := hv.len
  go_enter Tryd.func7, Tryd.ntmps7
  go_wp2_with fail
  refine h0.mono ?_
  clear h0
  rintro e w1 ⟨rfl, b1⟩
  have bL : Below w1.heap.size w1 (w1.alloc (.cells #[.string ⟨#[105, 110, 104, 101, 114, 105, 116]⟩, .string ⟨#[105, 110, 105, 116, 105, 97, 108]⟩, .string ⟨#[117, 110, 115, 101, 116]⟩] 9)) := (Below.refl _ _).alloc (Nat.le_refl _) _
  have hcL : ∀ (k : Nat) (x : List UInt8), wideT[k]? = some x → (w1.alloc (.cells #[.string ⟨#[105, 110, 104, 101, 114, 105, 116]⟩, .string ⟨#[105, 110, 105, 116, 105, 97, 108]⟩, .string ⟨#[117, 110, 115, 101, 116]⟩] 9)).cell? ⟨w1.heap.size, k, none⟩ = some (.string ⟨x.toArray⟩) := fun k x hk => by
    rw [cell_of_block (heap_alloc_new w1 _)]
    match k, hk with
    | 0, hk => cases hk; rfl
    | 1, hk => cases hk; rfl
    | 2, hk => cases hk; rfl
    | k + 3, hk => simp [wideT] at hk
  have b2 := below_next b1 bL
  replace hS := (hS.next b1).next bL
  replace hv : BoolsAt w.heap.size _ (.slice q up.length cap) up := hv.below b2
  go_upto_region 3 with fail
  generalize w1.alloc (.cells #[.string ⟨#[105, 110, 104, 101, 114, 105, 116]⟩, .string ⟨#[105, 110, 105, 116, 105, 97, 108]⟩, .string ⟨#[117, 110, 115, 101, 116]⟩] 9) = w2 at *
  by_cases hm0 : m < 0
  · clear hcL hv hS
    go_wp2
    go_ret
    exact ⟨rfl, b2⟩
  by_cases hm2 : 2 < m
  · clear hcL hv hS
    go_wp2
    go_ret
    exact ⟨rfl, b2⟩
  obtain ⟨k0, rfl⟩ : ∃ k : Nat, m = k := ⟨m.toNat, by omega⟩
  have hk0 : k0 < 3 := by omega
  have hk0i : (k0 : Int) < 3 := by omega
  obtain ⟨x, hx⟩ : ∃ x, wideT[k0]? = some x := ⟨_, List.getElem?_eq_getElem (show k0 < wideT.length from hk0)⟩
  have hcx := hcL k0 x hx
  obtain ⟨hlet, hxl, hwv⟩ := wide_facts k0 x hx
  obtain ⟨capb, W3, hconv, hb3, hr3⟩ := Lw.conv_in ⟨x.toArray⟩ w2
  have hxs : (⟨x.toArray⟩ : ByteArray).size = x.length := by simp [ByteArray.size]
  rw [hxs] at hconv hr3
  rw [show (⟨x.toArray⟩ : ByteArray).data.toList = x from rfl] at hr3
  have hw7 : IntKind.i64.wrap (7 + (k0 : Int)) = 7 + (k0 : Int) := by rw [IntKind.wrap_i64]; omega
  have hsz3 : w2.heap.size < W3.heap.size ∨ x.length = 0 := by
    by_cases h0 : x.length = 0
    · exact .inr h0
    · exact .inl (World.block_lt_of_cell? W3 ⟨w2.heap.size, 0, none⟩ (hr3 0 (by omega)).1)
  have hx0 : x.length ≠ 0 := by
    obtain rfl | rfl | rfl : k0 = 0 ∨ k0 = 1 ∨ k0 = 2 := by omega
    all_goals (cases hx; decide)
  have hlt3 : w2.heap.size < W3.heap.size := by omega
  clear hcL hsz3 hx
  rw [← mixF_zero x up] at hr3
  go_wp2
  go_loopw [10] (fun i wr => ∃ k : Nat, i = .int .i64 k ∧ k ≤ x.length ∧ Lw.Row wr w2.heap.size x.length (mixF x up k) ∧ Below w2.heap.size w2 wr ∧ w2.heap.size < wr.heap.size) (fun i _ => x.length - (intOf i).toNat)
  case atStart => exact ⟨0, rfl, Nat.zero_le _, hr3, hb3, hlt3⟩
  case round =>
    obtain ⟨k, rfl, hk, hr, hbr, hltr⟩ := hrel
    clear hconv hr3 hb3 hlt3 hcx
    by_cases hlt : k < x.length ∧ k < up.length
    · have hk1 : (k : Int) < (x.length : Int) := by omega
      have hk2 : (k : Int) < (up.length : Int) := by omega
      have hxk : x[k]? = some x[k] := List.getElem?_eq_getElem hlt.1
      have hcc := hlet x[k] (List.getElem_mem hlt.1)
      have hrk := hr k hlt.1
      rw [mixF_at hxk, show mixB up k k x[k] = x[k] from if_neg (by omega)] at hrk
      have hnx := mixF_next (up := up) hxk
      obtain ⟨bk, off, u, rfl, hu, hcu, hbk⟩ := (hv.below (hbr.mono b2.size)).get hlt.2
      rw [hu] at hnx
      generalize x[k] = c at *
      obtain ⟨hc1, hc2⟩ := hrk
      have hcl := c.toNat_lt
      cases u with
      | true =>
        have hw32 : IntKind.u8.wrap ((c.toNat : Int) - 32) = ((UInt8.ofNat (c.toNat - 32)).toNat : Int) := by
          rw [IntKind.wrap_u8, UInt8.toNat_ofNat']
          omega
        have hrn := hr.set hlt.1 (UInt8.ofNat (c.toNat - 32))
        simp only [Option.getD_some, if_true] at hnx
        rw [← hnx] at hrn
        have hbn : Below w2.heap.size w2 (wr.setCell ⟨w2.heap.size, k, none⟩ (.int .u8 ((UInt8.ofNat (c.toNat - 32)).toNat : Nat))) := hbr.setCell (p := ⟨w2.heap.size, k, none⟩) (Nat.le_refl _) _
        generalize (UInt8.ofNat (c.toNat - 32)).toNat = z at *
        clear hr hnx hv hxk
        go_wp2
        exact ⟨⟨k + 1, by go_num, by omega, hrn, hbn, by simpa [World.setCell] using hltr⟩, by simp [intOf]; omega⟩
      | false =>
        have hrn := hr
        rw [show mixF x up k = mixF x up (k + 1) by
          rw [hnx]
          funext j
          by_cases e : j = k
          · subst e
            rw [mixF_at hxk]
            simp [mixB]
          · simp [e]] at hrn
        clear hr hnx hv hxk
        go_wp2
        exact ⟨⟨k + 1, by go_num, by omega, hrn, hbr, hltr⟩, by simp [intOf]; omega⟩
    · have hlen : (mix x up k).length = x.length := mix_len x up k
      have hconvX : ∀ X, Below wr.heap.size wr X → (convert 48 9 (.slice (some ⟨w2.heap.size, 0, none⟩) x.length capb)).run Tryd.prog X = .ok (.string ⟨(mix x up k).toArray⟩) X := fun X hX => by
        have := Lw.conv_out (mix x up k) w2.heap.size capb X (mixF x up k) (by rw [hlen]; exact row_below hr hX hltr) (fun j u hj => by unfold mixF; rw [hj]; rfl)
        rwa [hlen] at this
      have hlow := low_mix hlet up k
      have hbwr := below_next b2 hbr
      have hSr := hS.next hbr
      clear hr hv hS
      generalize mix x up k = l at *
      have hP : parseV p [⟨1, ⟨l.toArray⟩, 0, false, 0⟩] = if 0 ≤ p ∧ p ≤ 7 then (7 + (k0 : Int), 0, true) else no := by
        rw [parseV_one]
        by_cases h : 0 ≤ p ∧ p ≤ 7
        · rw [if_pos h, if_pos h]
          show wordV p (Lw.low l) = _
          rw [hlow, hwv]
        · rw [if_neg h, if_neg h]
      have hmax : (⟨l.toArray⟩ : ByteArray).size ≤ maxLen := by
        rw [show (⟨l.toArray⟩ : ByteArray).size = l.length by simp [ByteArray.size]]
        unfold maxLen
        omega
      have h1 := parse_new p ⟨1, ⟨l.toArray⟩, 0, false, 0⟩ wr hSr hmax
      rw [hP] at h1
      obtain ⟨v1, v2, v3, hV⟩ : ∃ v1 v2 v3, (if 0 ≤ p ∧ p ≤ 7 then (7 + (k0 : Int), 0, true) else no) = (v1, v2, v3) := ⟨_, _, _, rfl⟩
      rw [hV] at h1
      unfold ret at h1
      simp only at h1
      have hc0 := hconvX wr (Below.refl _ _)
      have HCX : Hid (∀ X, Below wr.heap.size wr X → (convert 48 9 (.slice (some ⟨w2.heap.size, 0, none⟩) x.length capb)).run Tryd.prog X = .ok (.string ⟨l.toArray⟩) X) := hconvX
      clear hconvX hlow hwv hlet hP hlen
      generalize hz : (⟨l.toArray⟩ : ByteArray) = z at *
      clear hz
      have rest : ∀ (X : World), Below wr.heap.size wr X → Calls Tryd.prog 10 #[.int .i64 p, .slice (some ⟨X.heap.size, 0, none⟩) 2 2] (X.alloc (.cells #[.int .i64 1, .string z, .int .i64 0, .bool false, .int .i64 0, .int .i64 1, .string z, .int .i64 0, .bool false, .int .i64 0] 25)) fun e w' => e = ret no ∧ Below X.heap.size X w' := fun X hX => by
        have bA : Below X.heap.size X (X.alloc (.cells #[.int .i64 1, .string z, .int .i64 0, .bool false, .int .i64 0, .int .i64 1, .string z, .int .i64 0, .bool false, .int .i64 0] 25)) := (Below.refl _ _).alloc (Nat.le_refl _) _
        have hsz : (X.alloc (.cells #[.int .i64 1, .string z, .int .i64 0, .bool false, .int .i64 0, .int .i64 1, .string z, .int .i64 0, .bool false, .int .i64 0] 25)).heap.size = X.heap.size + 1 := World.size_alloc _ _
        exact (parse_any p (.slice (some ⟨X.heap.size, 0, none⟩) 2 2) [⟨1, z, 0, false, 0⟩, ⟨1, z, 0, false, 0⟩] _ ((hSr.next hX).next bA) (by rw [hsz]; exact bts_new X [⟨1, z, 0, false, 0⟩, ⟨1, z, 0, false, 0⟩] (by simp)) (fun u hu => by
          simp at hu
          subst hu
          exact hmax)).mono fun e w' ⟨he, hb⟩ => ⟨he, below_next bA hb⟩
      have REST : Hid (∀ (X : World), Below wr.heap.size wr X → Calls Tryd.prog 10 #[.int .i64 p, .slice (some ⟨X.heap.size, 0, none⟩) 2 2] (X.alloc (.cells #[.int .i64 1, .string z, .int .i64 0, .bool false, .int .i64 0, .int .i64 1, .string z, .int .i64 0, .bool false, .int .i64 0] 25)) fun e w' => e = ret no ∧ Below X.heap.size X w') := rest
      clear rest hSr
      have hex : (¬ (k : Int) < (x.length : Int)) ∨ ((k : Int) < (x.length : Int) ∧ ¬ (k : Int) < (up.length : Int)) := by omega
      clear hlt
      rcases hex with hk1 | ⟨hk1, hk2⟩
      all_goals
        go_wp2_with fail
        refine h1.mono ?_
        clear h1 hc0
        rintro e w4 ⟨rfl, b4⟩
        have bE : Below w4.heap.size w4 (w4.alloc (.cells #[.int .i64 v1, .int .i64 v2] 27)) := (Below.refl _ _).alloc (Nat.le_refl _) _
        have kE : Blk (w4.alloc (.cells #[.int .i64 v1, .int .i64 v2] 27)) w4.heap.size _ _ := Blk.new w4 27 [.int .i64 v1, .int .i64 v2]
        have b5 := below_next b4 bE
        have b05 := below_next hbwr b5
        have hc5 := (show ∀ X, Below wr.heap.size wr X → (convert 48 9 (.slice (some ⟨w2.heap.size, 0, none⟩) x.length capb)).run Tryd.prog X = .ok (.string z) X from HCX) _ b5
        have h5 := (show ∀ (X : World), Below wr.heap.size wr X → Calls Tryd.prog 10 #[.int .i64 p, .slice (some ⟨X.heap.size, 0, none⟩) 2 2] (X.alloc (.cells #[.int .i64 1, .string z, .int .i64 0, .bool false, .int .i64 0, .int .i64 1, .string z, .int .i64 0, .bool false, .int .i64 0] 25)) fun e w' => e = ret no ∧ Below X.heap.size X w' from REST) _ b5
        clear HCX REST
        go_upto_region 12 with fail
        generalize w4.alloc (.cells #[.int .i64 v1, .int .i64 v2] 27) = w5 at *
        unfold ret no at h5
        simp only at h5
        have hB5 := kE.lt
        go_wp2_with fail
        refine h5.mono ?_
        clear h5 hc5
        rintro e w6 ⟨rfl, b6⟩
        have kE6 := kE.below b6 hB5
        have hB6 := kE6.lt
        obtain ⟨⟨c0, c1⟩, _⟩ := blk2 kE6
        have b06 := below_next b05 b6
        clear kE kE6
        by_cases i1 : 0 ≤ p
        · by_cases i2 : p < 8
          · rw [if_pos (by omega)] at hV
            obtain ⟨rfl, rfl, rfl⟩ : 7 + (k0 : Int) = v1 ∧ (0 : Int) = v2 ∧ true = v3 := by simpa using hV
            clear hV
            go_wp2
            go_ret
            exact ⟨rfl, b06.alloc b06.size _⟩
          · have i4 : decide (p < 8) = false := decide_eq_false (by omega)
            rw [if_neg (by omega)] at hV
            clear i2
            obtain ⟨rfl, rfl, rfl⟩ : (0 : Int) = v1 ∧ (0 : Int) = v2 ∧ false = v3 := by simpa [no] using hV
            clear hV
            go_wp2
            go_ret
            exact ⟨rfl, b06.alloc b06.size _⟩
        · rw [if_neg (by omega)] at hV
          obtain ⟨rfl, rfl, rfl⟩ : (0 : Int) = v1 ∧ (0 : Int) = v2 ∧ false = v3 := by simpa [no] using hV
          clear hV
          go_wp2
          go_ret
          exact ⟨rfl, b06.alloc b06.size _⟩

theorem valueWide_met (os : Os) : laidMet Tryd.prog Rows.valueWideRow.laid ((laidIn (World.holding Tryd.prog os ⟨#[], #[], []⟩)).forCall (fun _ _ => 0) ⟨#[], #[.int .i64 0, .int .i64 0, .slice none 0 0], []⟩).memory :=
  laidMet_of_run' 8 (by kernel_rfl) (by kernel_rfl)
theorem valueWide_reads (os : Os) {H : Type} (enc : TypeId × Value → H) : ∃ places, DataW.whole enc Tryd.prog ((laidIn (World.holding Tryd.prog os ⟨#[], #[], []⟩)).forCall (fun _ _ => 0) ⟨#[], #[.int .i64 0, .int .i64 0, .slice none 0 0], []⟩).memory Tryd.f7.params.toList Rows.valueWideSpec.vars false (#[.int .i64 0, .int .i64 0, .slice none 0 0] : Array Value).toList 8 = some ([.lit (.int .i64 0), .lit (.int .i64 0), .nil], [], places) :=
  ⟨[], by kernel_rfl⟩

set_option maxRecDepth 100000 in
theorem valueWide_lifted (os : Os) (started : os.Started) (H : Type) (enc : TypeId × Value → H) (F : Stop.Interp) :
    ReturnsInHanded {} Tryd.checked os 7 .any ((OpenSpec.ofChange Rows.valueWideSpec).preRow enc Tryd.prog Tryd.f7 Rows.valueWideRow.domain false Rows.valueWideRow.laid) (((OpenSpec.ofChange Rows.valueWideSpec).at F).post enc Tryd.prog Tryd.f7 false true false false) := by
  obtain ⟨places, hx⟩ := valueWide_reads os enc
  refine returnsInHanded_of_row (C := Tryd.checked) (s := OpenSpec.ofChange Rows.valueWideSpec) ownNone started (by kernel_rfl) Tryd.func7
    (witness_row_at (enc := enc) (C := Tryd.checked) false (laidIn (World.holding Tryd.prog os ⟨#[], #[], []⟩)) #[.int .i64 0, .int .i64 0, .slice none 0 0] rfl (by kernel_rfl) (by kernel_rfl) (by kernel_rfl)
      (OpenSpec.preRow_of_cond 8 hx (by kernel_rfl) (fun k hk => by cases hk) (by kernel_rfl) (valueWide_met os))) ?_
  intro W base args ds gs before hval hW _ _ _ hL hS _
  have hW' := hW
  obtain ⟨p, q, hA0, hV, rfl, hfz, hnd⟩ := hW
  have hA : DataW.TrodAll enc Tryd.prog W 0 (fun _ => true) true Tryd.f7.params.toList args.toList ds p := hA0
  rw [Tryd.params7] at hA hval
  obtain ⟨v0, vs0, d0, ds0, p0, q0, hargs, rfl, rfl, h0, r0⟩ := trodAll_cons hA
  obtain ⟨v1, vs1, d1, ds1, p1, q1, rfl, rfl, rfl, h1, r1⟩ := trodAll_cons r0
  obtain ⟨v2, vs2, d2, ds2, p2, q2, rfl, rfl, rfl, h2, r2⟩ := trodAll_cons r1
  obtain ⟨rfl, rfl, rfl⟩ := trodAll_nil r2
  obtain rfl : args = #[v0, v1, v2] := by cases args; simp_all
  obtain ⟨rfl, rfl⟩ := trodVars_none hV
  obtain ⟨a0, rfl, rfl, rfl, w0⟩ := open_int Tryd.underlying3 (hval 0 3 v0 rfl rfl) h0
  obtain ⟨a1, rfl, rfl, rfl, w1⟩ := open_int Tryd.underlying3 (hval 1 3 v1 rfl rfl) h1
  obtain ⟨a2, len2, cap2, rfl⟩ := okWide_slice Tryd.underlying46 (hval 2 46 v2 rfl rfl)
  have k2 := h2
  have lt2 : ∀ x ∈ p2, x.block < W.heap.size := by obtain ⟨m, hm⟩ := k2; exact DataW.trod_lt m _ _ _ hm
  obtain ⟨z2, w2⟩ := boolsAt_of_reads k2
  clear hA0
  refine (valueWide_walk W (tabs_of_laid hL hS) a0 w0 a1 w1 _ z2 w2).mono fun e W' ⟨he, bel⟩ => ?_
  subst he
  exact ⟨_, rfl, _, _, _, [], _, [], hW', trodAll_mk1 (shut_bool Tryd.underlying4 _), (trodAll_cons_mk (shut_int Tryd.underlying3 w0) (trodAll_cons_mk (shut_int Tryd.underlying3 w1) (trodAll_cons_mk (Below.trod laidOut (by kernel_rfl) (of_decide_eq_true (by kernel_rfl)) k2 bel lt2) trodAll_mk0))), rfl, bel.frame _, fun h => by cases h⟩

theorem valueWide_said : Rows.ValueWideSaid :=
  OpenClaim.holds_of_cond 7 Tryd.f7 rfl rfl rfl rfl rfl rfl rfl ⟨rfl, rfl, rfl, rfl, rfl⟩ rfl rfl rfl rfl rfl (by kernel_rfl) Tryd.func7 (by kernel_rfl)
    (of_decide_eq_true (by kernel_rfl)) (by unfold Func.isWrapper; first | (rw [if_pos (by decide +kernel)]; kernel_rfl) | (rw [if_neg (by decide +kernel)]; exact ⟨rfl, rfl⟩))
    (fun os started H enc _ F => by rw [OpenClaim.pre_eq_preRow]; exact valueWide_lifted os started H enc F)

theorem valueWide_plain (f : FuncId) (fn : Func) (hf : Tryd.pinned.checked.prog.funcNamed "tapestrier/tapestrierlaw7.ValueWide" = some f) (hfn : Tryd.pinned.checked.prog.funcs[f]? = some fn) :
    false = Tryd.pinned.checked.prog.looks [] ∧ ∀ (j : Nat) t, fn.params[j]? = some t → Tryd.pinned.checked.prog.wantsStandIn t = false := by
  obtain rfl : f = 7 := Option.some.inj ((show Tryd.prog.funcNamed "tapestrier/tapestrierlaw7.ValueWide" = some 7 by kernel_rfl).symm.trans hf) |>.symm
  obtain rfl : fn = Tryd.f7 := (Option.some.inj (Tryd.func7.symm.trans hfn)).symm
  refine ⟨by kernel_rfl, fun j t ht => ?_⟩
  rw [Tryd.params7] at ht
  have hm : t ∈ [3, 46] := by simpa using Array.mem_of_getElem? ht
  have hall : ([3, 46].all fun u => !Tryd.prog.wantsStandIn u) = true := by kernel_rfl
  exact (show Tryd.prog.wantsStandIn t = false by simpa using List.all_eq_true.1 hall t hm)

theorem valueWide_card : Rows.ValueWideCardSaid :=
  Claim7.holds_tied_plain_at .later [] _ _ _ _ valueWide_said (fun _ h => by cases h) (by kernel_rfl) (fun _ h => by cases h) valueWide_row_tie rfl ⟨rfl, rfl⟩ (by kernel_rfl) rfl valueWide_plain (by kernel_rfl)
#print axioms valueWide_card


end Go.Proofs.YtghjpefkeobfnaaDoor

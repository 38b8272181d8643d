/- For every integer: the law tapestrierlaw7.ValueWords returns true and leaves its argument as it was; no condition (its card: the table of words read off the program's text). -/
import Derived.Test.YtghjpefkeobfnabDoorVlAlive
import Derived.Test.YtghjpefkeobfnabDoorVlLaid
import Derived.Deep.RegionLaw
namespace Go.Proofs.YtghjpefkeobfnabDoor
open Go Go.ChangeShapes Go.WideShapes Go.ChangeAt Go.RowKit Vl
open Go.ChangeMaps (open_string shut_string)

/-- The law's own table: a word, its property, its number. -/
def wsT : List (List UInt8 × Int × Int) := [([98, 108, 97, 99, 107], 0, 0), ([119, 104, 105, 116, 101], 0, 16777215), ([114, 101, 100], 0, 16711680), ([103, 114, 101, 101, 110], 0, 32768), ([98, 108, 117, 101], 0, 255), ([108, 101, 102, 116], 2, 0), ([114, 105, 103, 104, 116], 2, 1), ([99, 101, 110, 116, 101, 114], 2, 2), ([110, 111, 110, 101], 3, 0), ([98, 108, 111, 99, 107], 3, 1), ([105, 110, 108, 105, 110, 101], 3, 2), ([97, 117, 116, 111], 4, 0), ([97, 117, 116, 111], 7, 0)]
def wsS : List Value := wsT.map fun r => .string ⟨r.1.toArray⟩
def wsP : List Value := wsT.map fun r => .int .i64 r.2.1
def wsN : List Value := wsT.map fun r => .int .i64 r.2.2
def wordTk (kind : Int) (x : List UInt8) : Bt := ⟨kind, ⟨x.toArray⟩, 0, false, 0⟩
/-- Whether the word k is one of the property i. -/
def wantW (k i : Nat) (p : Int) : Bool := decide ((i : Int) = p) || (decide (11 ≤ k) && (decide (i = 4) || decide (i = 7)))
theorem ws_all : ∀ k, k < 13 → ∀ i : Nat, i < 8 → parseV (i : Int) [wordTk 1 (wsT.getD k ([], 0, 0)).1] = if wantW k i (wsT.getD k ([], 0, 0)).2.1 then ((if k < 5 then 6 else 1), (wsT.getD k ([], 0, 0)).2.2, true) else no := by decide +kernel
theorem ws_str : ∀ k, k < 13 → parseV (wsT.getD k ([], 0, 0)).2.1 [wordTk 4 (wsT.getD k ([], 0, 0)).1] = no := by decide +kernel
theorem ws_auto : ∀ k, k < 13 → 11 ≤ k → (wsT.getD k ([], 0, 0)).2.1 = 4 ∨ (wsT.getD k ([], 0, 0)).2.1 = 7 := by decide +kernel
theorem ws_short : ∀ k, k < 13 → (wsT.getD k ([], 0, 0)).1.length ≤ 10 := by decide +kernel

theorem grown_of_below7 {w w' : World} (h : Below w.heap.size w w') (row : Option Nat) : w.grownBy w' row := ⟨h.os, h.tape, h.output, h.size, fun i hi _ => h.block i hi⟩
theorem grown_set0 (w : World) (row : Option Nat) : w.grownBy w.drew row := grown_of_below7 (below_drew (Below.refl _ _)) row

set_option maxRecDepth 100000 in
set_option maxHeartbeats 4000000 in
theorem valueWords_walk (w : World) (hS : WordsAt w.heap.size w) (m : Int) (_hm : (Lit.int .i64 m).wf = true) :
    Calls Tryd.prog 3 #[.int .i64 m] w fun e w' => e = .returned (.bool true) ∧ Below w.heap.size w w' := by
  have h0 := alive7_any w hS
  go_enter Tryd.func3, Tryd.ntmps3
  go_wp2_with fail
  refine h0.mono ?_
  clear h0
  rintro e w1 ⟨rfl, b1⟩
  have bT : Below w1.heap.size w1 (((w1.alloc (.cells #[.string ⟨#[98, 108, 97, 99, 107]⟩, .string ⟨#[119, 104, 105, 116, 101]⟩, .string ⟨#[114, 101, 100]⟩, .string ⟨#[103, 114, 101, 101, 110]⟩, .string ⟨#[98, 108, 117, 101]⟩, .string ⟨#[108, 101, 102, 116]⟩, .string ⟨#[114, 105, 103, 104, 116]⟩, .string ⟨#[99, 101, 110, 116, 101, 114]⟩, .string ⟨#[110, 111, 110, 101]⟩, .string ⟨#[98, 108, 111, 99, 107]⟩, .string ⟨#[105, 110, 108, 105, 110, 101]⟩, .string ⟨#[97, 117, 116, 111]⟩, .string ⟨#[97, 117, 116, 111]⟩] 9)).alloc (.cells #[.int .i64 0, .int .i64 0, .int .i64 0, .int .i64 0, .int .i64 0, .int .i64 2, .int .i64 2, .int .i64 2, .int .i64 3, .int .i64 3, .int .i64 3, .int .i64 4, .int .i64 7] 3)).alloc (.cells #[.int .i64 0, .int .i64 16777215, .int .i64 16711680, .int .i64 32768, .int .i64 255, .int .i64 0, .int .i64 1, .int .i64 2, .int .i64 0, .int .i64 1, .int .i64 2, .int .i64 0, .int .i64 0] 3)) := (((Below.refl _ w1).alloc (Nat.le_refl _) _).alloc (by rw [World.size_alloc]; omega) _).alloc (by rw [World.size_alloc, World.size_alloc]; omega) _
  have k1 : Blk (((w1.alloc (.cells #[.string ⟨#[98, 108, 97, 99, 107]⟩, .string ⟨#[119, 104, 105, 116, 101]⟩, .string ⟨#[114, 101, 100]⟩, .string ⟨#[103, 114, 101, 101, 110]⟩, .string ⟨#[98, 108, 117, 101]⟩, .string ⟨#[108, 101, 102, 116]⟩, .string ⟨#[114, 105, 103, 104, 116]⟩, .string ⟨#[99, 101, 110, 116, 101, 114]⟩, .string ⟨#[110, 111, 110, 101]⟩, .string ⟨#[98, 108, 111, 99, 107]⟩, .string ⟨#[105, 110, 108, 105, 110, 101]⟩, .string ⟨#[97, 117, 116, 111]⟩, .string ⟨#[97, 117, 116, 111]⟩] 9)).alloc (.cells #[.int .i64 0, .int .i64 0, .int .i64 0, .int .i64 0, .int .i64 0, .int .i64 2, .int .i64 2, .int .i64 2, .int .i64 3, .int .i64 3, .int .i64 3, .int .i64 4, .int .i64 7] 3)).alloc (.cells #[.int .i64 0, .int .i64 16777215, .int .i64 16711680, .int .i64 32768, .int .i64 255, .int .i64 0, .int .i64 1, .int .i64 2, .int .i64 0, .int .i64 1, .int .i64 2, .int .i64 0, .int .i64 0] 3)) w1.heap.size 9 wsS := ((Blk.new w1 9 wsS).kept (World.grownBy_alloc _ _ none) (by simp)).kept (World.grownBy_alloc _ _ none) (by simp)
  have k2 : Blk (((w1.alloc (.cells #[.string ⟨#[98, 108, 97, 99, 107]⟩, .string ⟨#[119, 104, 105, 116, 101]⟩, .string ⟨#[114, 101, 100]⟩, .string ⟨#[103, 114, 101, 101, 110]⟩, .string ⟨#[98, 108, 117, 101]⟩, .string ⟨#[108, 101, 102, 116]⟩, .string ⟨#[114, 105, 103, 104, 116]⟩, .string ⟨#[99, 101, 110, 116, 101, 114]⟩, .string ⟨#[110, 111, 110, 101]⟩, .string ⟨#[98, 108, 111, 99, 107]⟩, .string ⟨#[105, 110, 108, 105, 110, 101]⟩, .string ⟨#[97, 117, 116, 111]⟩, .string ⟨#[97, 117, 116, 111]⟩] 9)).alloc (.cells #[.int .i64 0, .int .i64 0, .int .i64 0, .int .i64 0, .int .i64 0, .int .i64 2, .int .i64 2, .int .i64 2, .int .i64 3, .int .i64 3, .int .i64 3, .int .i64 4, .int .i64 7] 3)).alloc (.cells #[.int .i64 0, .int .i64 16777215, .int .i64 16711680, .int .i64 32768, .int .i64 255, .int .i64 0, .int .i64 1, .int .i64 2, .int .i64 0, .int .i64 1, .int .i64 2, .int .i64 0, .int .i64 0] 3)) (w1.heap.size + 1) 3 wsP := by
    have := (Blk.new (w1.alloc (.cells #[.string ⟨#[98, 108, 97, 99, 107]⟩, .string ⟨#[119, 104, 105, 116, 101]⟩, .string ⟨#[114, 101, 100]⟩, .string ⟨#[103, 114, 101, 101, 110]⟩, .string ⟨#[98, 108, 117, 101]⟩, .string ⟨#[108, 101, 102, 116]⟩, .string ⟨#[114, 105, 103, 104, 116]⟩, .string ⟨#[99, 101, 110, 116, 101, 114]⟩, .string ⟨#[110, 111, 110, 101]⟩, .string ⟨#[98, 108, 111, 99, 107]⟩, .string ⟨#[105, 110, 108, 105, 110, 101]⟩, .string ⟨#[97, 117, 116, 111]⟩, .string ⟨#[97, 117, 116, 111]⟩] 9)) 3 wsP).kept (World.grownBy_alloc _ (.cells #[.int .i64 0, .int .i64 16777215, .int .i64 16711680, .int .i64 32768, .int .i64 255, .int .i64 0, .int .i64 1, .int .i64 2, .int .i64 0, .int .i64 1, .int .i64 2, .int .i64 0, .int .i64 0] 3) none) (by simp)
    rwa [World.size_alloc] at this
  have k3 : Blk (((w1.alloc (.cells #[.string ⟨#[98, 108, 97, 99, 107]⟩, .string ⟨#[119, 104, 105, 116, 101]⟩, .string ⟨#[114, 101, 100]⟩, .string ⟨#[103, 114, 101, 101, 110]⟩, .string ⟨#[98, 108, 117, 101]⟩, .string ⟨#[108, 101, 102, 116]⟩, .string ⟨#[114, 105, 103, 104, 116]⟩, .string ⟨#[99, 101, 110, 116, 101, 114]⟩, .string ⟨#[110, 111, 110, 101]⟩, .string ⟨#[98, 108, 111, 99, 107]⟩, .string ⟨#[105, 110, 108, 105, 110, 101]⟩, .string ⟨#[97, 117, 116, 111]⟩, .string ⟨#[97, 117, 116, 111]⟩] 9)).alloc (.cells #[.int .i64 0, .int .i64 0, .int .i64 0, .int .i64 0, .int .i64 0, .int .i64 2, .int .i64 2, .int .i64 2, .int .i64 3, .int .i64 3, .int .i64 3, .int .i64 4, .int .i64 7] 3)).alloc (.cells #[.int .i64 0, .int .i64 16777215, .int .i64 16711680, .int .i64 32768, .int .i64 255, .int .i64 0, .int .i64 1, .int .i64 2, .int .i64 0, .int .i64 1, .int .i64 2, .int .i64 0, .int .i64 0] 3)) (w1.heap.size + 2) 3 wsN := by
    have := Blk.new ((w1.alloc (.cells #[.string ⟨#[98, 108, 97, 99, 107]⟩, .string ⟨#[119, 104, 105, 116, 101]⟩, .string ⟨#[114, 101, 100]⟩, .string ⟨#[103, 114, 101, 101, 110]⟩, .string ⟨#[98, 108, 117, 101]⟩, .string ⟨#[108, 101, 102, 116]⟩, .string ⟨#[114, 105, 103, 104, 116]⟩, .string ⟨#[99, 101, 110, 116, 101, 114]⟩, .string ⟨#[110, 111, 110, 101]⟩, .string ⟨#[98, 108, 111, 99, 107]⟩, .string ⟨#[105, 110, 108, 105, 110, 101]⟩, .string ⟨#[97, 117, 116, 111]⟩, .string ⟨#[97, 117, 116, 111]⟩] 9)).alloc (.cells #[.int .i64 0, .int .i64 0, .int .i64 0, .int .i64 0, .int .i64 0, .int .i64 2, .int .i64 2, .int .i64 2, .int .i64 3, .int .i64 3, .int .i64 3, .int .i64 4, .int .i64 7] 3)) 3 wsN
    rwa [World.size_alloc, World.size_alloc] at this
  have b2 := below_next b1 bT
  replace hS := (hS.next b1).next bT
  go_upto_region 5 with fail
  generalize (((w1.alloc (.cells #[.string ⟨#[98, 108, 97, 99, 107]⟩, .string ⟨#[119, 104, 105, 116, 101]⟩, .string ⟨#[114, 101, 100]⟩, .string ⟨#[103, 114, 101, 101, 110]⟩, .string ⟨#[98, 108, 117, 101]⟩, .string ⟨#[108, 101, 102, 116]⟩, .string ⟨#[114, 105, 103, 104, 116]⟩, .string ⟨#[99, 101, 110, 116, 101, 114]⟩, .string ⟨#[110, 111, 110, 101]⟩, .string ⟨#[98, 108, 111, 99, 107]⟩, .string ⟨#[105, 110, 108, 105, 110, 101]⟩, .string ⟨#[97, 117, 116, 111]⟩, .string ⟨#[97, 117, 116, 111]⟩] 9)).alloc (.cells #[.int .i64 0, .int .i64 0, .int .i64 0, .int .i64 0, .int .i64 0, .int .i64 2, .int .i64 2, .int .i64 2, .int .i64 3, .int .i64 3, .int .i64 3, .int .i64 4, .int .i64 7] 3)).alloc (.cells #[.int .i64 0, .int .i64 16777215, .int .i64 16711680, .int .i64 32768, .int .i64 255, .int .i64 0, .int .i64 1, .int .i64 2, .int .i64 0, .int .i64 1, .int .i64 2, .int .i64 0, .int .i64 0] 3)) = w2 at *
  by_cases hm0 : m < 0
  · clear hS k1 k2 k3
    go_wp2
    go_ret
    exact ⟨rfl, b2⟩
  by_cases hm2 : 13 ≤ m
  · clear hS k1 k2 k3
    go_wp2
    go_ret
    exact ⟨rfl, b2⟩
  obtain ⟨k0, rfl⟩ : ∃ k : Nat, m = k := ⟨m.toNat, by omega⟩
  have hk0 : k0 < 13 := by omega
  have hk0i : (k0 : Int) < 13 := by omega
  have hall := ws_all k0 hk0
  have hstr := ws_str k0 hk0
  have hau := ws_auto k0 hk0
  have hsh := ws_short k0 hk0
  have hr : wsT[k0]? = some (wsT.getD k0 ([], 0, 0)) := by
    rw [List.getD_eq_getElem?_getD]
    cases h : wsT[k0]? with
    | none => exact absurd (List.getElem?_eq_none_iff.1 h) (by show ¬ 13 ≤ k0; omega)
    | some r => rfl
  generalize wsT.getD k0 ([], 0, 0) = r at *
  obtain ⟨x, p0, n0⟩ := r
  simp only at hall hstr hau hsh
  have C1 : w2.cell? ⟨w1.heap.size, k0, none⟩ = some (.string ⟨x.toArray⟩) := by rw [cell_of_block k1, List.getElem?_toArray, wsS, List.getElem?_map, hr]; rfl
  have C2 : w2.cell? ⟨w1.heap.size + 1, k0, none⟩ = some (.int .i64 p0) := by rw [cell_of_block k2, List.getElem?_toArray, wsP, List.getElem?_map, hr]; rfl
  have C3 : w2.cell? ⟨w1.heap.size + 2, k0, none⟩ = some (.int .i64 n0) := by rw [cell_of_block k3, List.getElem?_toArray, wsN, List.getElem?_map, hr]; rfl
  have l3 : w1.heap.size + 2 < w2.heap.size := k3.lt
  have hmax : (⟨x.toArray⟩ : ByteArray).size ≤ maxLen := by
    rw [show (⟨x.toArray⟩ : ByteArray).size = x.length by simp [ByteArray.size]]
    unfold maxLen
    omega
  unfold wordTk at hall hstr
  generalize (⟨x.toArray⟩ : ByteArray) = xs at *
  have HALL : Hid (∀ (i : Nat), i < 8 → parseV (i : Int) [⟨1, xs, 0, false, 0⟩] = if wantW k0 i p0 then ((if k0 < 5 then 6 else 1), n0, true) else no) := hall
  have HAU : Hid (11 ≤ k0 → p0 = 4 ∨ p0 = 7) := hau
  clear hall hau hr k1 k2 k3 hsh
  by_cases hc5 : k0 < 5
  case' pos =>
    have hc5i : (k0 : Int) < 5 := by omega
    have hkd : (if k0 < 5 then (6 : Int) else 1) = 6 := if_pos hc5
  case' neg =>
    have hc5i : ¬ (k0 : Int) < 5 := by omega
    have hkd : (if k0 < 5 then (6 : Int) else 1) = 1 := if_neg hc5
  all_goals
    rw [hkd] at HALL
    clear hkd
    go_wp2
    go_loopw [8] (fun i wr => ∃ k : Nat, i = .int .i64 k ∧ k ≤ 8 ∧ Below w2.heap.size w2 wr) (fun i _ => 8 - (intOf i).toNat)
    case atStart => exact ⟨0, rfl, by omega, Below.refl _ _⟩
    case round =>
      obtain ⟨k, rfl, hk, hbr⟩ := hrel
      have X1 := (hbr.cell (p := ⟨w1.heap.size, k0, none⟩) (show w1.heap.size < _ by omega)).trans C1
      have X2 := (hbr.cell (p := ⟨w1.heap.size + 1, k0, none⟩) (show w1.heap.size + 1 < _ by omega)).trans C2
      have X3 := (hbr.cell (p := ⟨w1.heap.size + 2, k0, none⟩) l3).trans C3
      have hSr := hS.next hbr
      have hbw := below_next b2 hbr
      have hszr := hbr.size
      by_cases hlt : k < 8
      · have hki : (k : Int) < 8 := by omega
        have h1 := parse_new k ⟨1, xs, 0, false, 0⟩ _ hSr hmax
        have hV := (show ∀ (i : Nat), i < 8 → parseV (i : Int) [⟨1, xs, 0, false, 0⟩] = _ from HALL) k hlt
        obtain ⟨v1, v2, v3, hV2⟩ : ∃ v1 v2 v3, parseV (k : Int) [⟨1, xs, 0, false, 0⟩] = (v1, v2, v3) := ⟨_, _, _, rfl⟩
        rw [hV2] at h1 hV
        unfold ret at h1
        simp only at h1
        clear hV2 C1 C2 C3 HALL
        go_wp2_with fail
        refine h1.mono ?_
        clear h1
        rintro e w4 ⟨rfl, b4⟩
        have Y2 := (b4.cell (p := ⟨w1.heap.size + 1, k0, none⟩) (show w1.heap.size + 1 < _ by omega)).trans X2
        have Y3 := (b4.cell (p := ⟨w1.heap.size + 2, k0, none⟩) (show w1.heap.size + 2 < _ by omega)).trans X3
        have hsz4 := b4.size
        have bE : Below w4.heap.size w4 (w4.alloc (.cells #[.int .i64 v1, .int .i64 v2] 26)) := (Below.refl _ _).alloc (Nat.le_refl _) _
        have kE : Blk (w4.alloc (.cells #[.int .i64 v1, .int .i64 v2] 26)) w4.heap.size _ _ := Blk.new w4 26 [.int .i64 v1, .int .i64 v2]
        have Z2 := (bE.cell (p := ⟨w1.heap.size + 1, k0, none⟩) (show w1.heap.size + 1 < _ by omega)).trans Y2
        have Z3 := (bE.cell (p := ⟨w1.heap.size + 2, k0, none⟩) (show w1.heap.size + 2 < _ by omega)).trans Y3
        have b5 := below_next (below_next hbr b4) bE
        clear X1 X2 X3 Y2 Y3 hSr
        go_upto_region 14 with fail
        generalize w4.alloc (.cells #[.int .i64 v1, .int .i64 v2] 26) = w5 at *
        obtain ⟨⟨z0, z1⟩, _⟩ := blk2 kE
        clear kE bE
        by_cases g11 : 11 ≤ k0
        · have g11i : (11 : Int) ≤ (k0 : Int) := by omega
          have hp := (show 11 ≤ k0 → p0 = 4 ∨ p0 = 7 from HAU) g11
          clear HAU
          rcases hp with rfl | rfl
          all_goals
            by_cases g4 : k = 4
            · subst g4
              rw [if_pos (by simp [wantW, g11])] at hV
              simp only [Prod.mk.injEq] at hV
              obtain ⟨rfl, rfl, rfl⟩ := hV
              go_wp2
              go_quiet (fail)
              go_wp2
              exact ⟨⟨5, rfl, by omega, below_next b5 (below_drewN w5 _)⟩, by simp [intOf]⟩
            by_cases g7 : k = 7
            · subst g7
              rw [if_pos (by simp [wantW, g11])] at hV
              simp only [Prod.mk.injEq] at hV
              obtain ⟨rfl, rfl, rfl⟩ := hV
              go_wp2
              go_quiet (fail)
              go_wp2
              exact ⟨⟨8, rfl, by omega, below_next b5 (below_drewN w5 _)⟩, by simp [intOf]⟩
            rw [if_neg (by simp [wantW, g4, g7]; omega)] at hV
            unfold no at hV
            simp only [Prod.mk.injEq] at hV
            obtain ⟨rfl, rfl, rfl⟩ := hV
            have e4 : ((k : Int) == 4) = false := by simp; omega
            have e7 : ((k : Int) == 7) = false := by simp; omega
            clear g4 g7
            go_wp2
            go_quiet (fail)
            go_wp2
            exact ⟨⟨k + 1, by go_num, by omega, below_next b5 (below_drewN w5 _)⟩, by simp [intOf]; omega⟩
        · have g11i : ¬ (11 : Int) ≤ (k0 : Int) := by omega
          clear HAU
          by_cases g : (k : Int) = p0
          · subst g
            rw [if_pos (by simp [wantW])] at hV
            simp only [Prod.mk.injEq] at hV
            obtain ⟨rfl, rfl, rfl⟩ := hV
            go_wp2
            go_quiet (fail)
            go_wp2
            exact ⟨⟨k + 1, by go_num, by omega, below_next b5 (below_drewN w5 _)⟩, by simp [intOf]; omega⟩
          · rw [if_neg (by simp [wantW, g, g11])] at hV
            unfold no at hV
            simp only [Prod.mk.injEq] at hV
            obtain ⟨rfl, rfl, rfl⟩ := hV
            have eg : ((k : Int) == p0) = false := by simpa using g
            clear g
            go_wp2
            go_quiet (fail)
            go_wp2
            exact ⟨⟨k + 1, by go_num, by omega, below_next b5 (below_drewN w5 _)⟩, by simp [intOf]; omega⟩
      · have hki : ¬ (k : Int) < 8 := by omega
        clear C1 C2 C3 HALL HAU
        have hs1 : w1.heap.size < wr.heap.size := by omega
        have hs2 : w1.heap.size + 1 < wr.heap.size := by omega
        have HS : Hid (∀ X : World, Below wr.heap.size wr X → X.cell? ⟨w1.heap.size, k0, none⟩ = some (.string xs) ∧ X.cell? ⟨w1.heap.size + 1, k0, none⟩ = some (.int .i64 p0)) := fun X hX => ⟨(hX.cell (p := ⟨w1.heap.size, k0, none⟩) hs1).trans X1, (hX.cell (p := ⟨w1.heap.size + 1, k0, none⟩) hs2).trans X2⟩
        have H18 : Hid (∀ (X : World) (B : Nat), Blk X B 30 [.int .i64 4, .string xs, .int .i64 0, .bool false, .int .i64 0] → Below wr.heap.size wr X → Calls Tryd.prog 7 #[.int .i64 p0, .slice (some ⟨B, 0, none⟩) 1 1] X fun e w' => e = .returned (.tuple #[.agg #[.int .i64 0, .int .i64 0], .bool false]) ∧ Below X.heap.size X w' ∧ Below wr.heap.size wr w') := fun X B hB hX => by
          obtain ⟨⟨t0, t1, t2, t3, t4⟩, _⟩ := blk5 hB
          have h := parse_any p0 (.slice (some ⟨B, 0, none⟩) 1 1) [⟨4, xs, 0, false, 0⟩] X (hSr.next hX)
            (.inr ⟨B, 0, 1, rfl, Nat.le_refl _, by unfold maxLen; omega, hB.lt, fun j t hj => by
              match j, hj with
              | 0, hj => cases hj; exact ⟨t0, t1, t2, t3, t4⟩
              | j + 1, hj => simp at hj⟩) (fun u hu => by
              obtain rfl := List.mem_singleton.1 hu
              exact hmax)
          rw [hstr] at h
          exact h.mono fun e w' ⟨he, hb⟩ => ⟨he, hb, below_next hX hb⟩
        have ad : Below wr.heap.size wr wr.drew := below_drew (Below.refl _ _)
        have a3 : Below wr.heap.size wr (wr.alloc (.cells #[.int .i64 0, .int .i64 0] 26)).drew := below_drew ((Below.refl _ _).alloc (Nat.le_refl _) _)
        have a0 : Below wr.heap.size wr (wr.alloc (.cells #[.int .i64 4, .string xs, .int .i64 0, .bool false, .int .i64 0] 30)).drew := below_drew ((Below.refl _ _).alloc (Nat.le_refl _) _)
        have a1 : Below wr.heap.size wr ((wr.alloc (.cells #[.int .i64 4, .string xs, .int .i64 0, .bool false, .int .i64 0] 30)).alloc (.cells #[.int .i64 0, .int .i64 0] 26)).drew := below_drew (((Below.refl _ _).alloc (Nat.le_refl _) _).alloc (by rw [World.size_alloc]; omega) _)
        have a2 : Below wr.heap.size wr ((wr.alloc (.cells #[.int .i64 0, .int .i64 0] 26)).alloc (.cells #[.int .i64 4, .string xs, .int .i64 0, .bool false, .int .i64 0] 30)).drew := below_drew (((Below.refl _ _).alloc (Nat.le_refl _) _).alloc (by rw [World.size_alloc]; omega) _)
        have K0 : Blk (wr.alloc (.cells #[.int .i64 4, .string xs, .int .i64 0, .bool false, .int .i64 0] 30)).drew wr.heap.size 30 [.int .i64 4, .string xs, .int .i64 0, .bool false, .int .i64 0] := (Blk.new wr 30 [.int .i64 4, .string xs, .int .i64 0, .bool false, .int .i64 0]).kept (grown_set0 _ none) (by simp)
        have K1 : Blk ((wr.alloc (.cells #[.int .i64 4, .string xs, .int .i64 0, .bool false, .int .i64 0] 30)).alloc (.cells #[.int .i64 0, .int .i64 0] 26)).drew wr.heap.size 30 [.int .i64 4, .string xs, .int .i64 0, .bool false, .int .i64 0] := ((Blk.new wr 30 [.int .i64 4, .string xs, .int .i64 0, .bool false, .int .i64 0]).kept (World.grownBy_alloc _ _ none) (by simp)).kept (grown_set0 _ none) (by simp)
        have K2 : Blk ((wr.alloc (.cells #[.int .i64 0, .int .i64 0] 26)).alloc (.cells #[.int .i64 4, .string xs, .int .i64 0, .bool false, .int .i64 0] 30)).drew (wr.heap.size + 1) 30 [.int .i64 4, .string xs, .int .i64 0, .bool false, .int .i64 0] := by
          have := (Blk.new (wr.alloc (.cells #[.int .i64 0, .int .i64 0] 26)) 30 [.int .i64 4, .string xs, .int .i64 0, .bool false, .int .i64 0]).kept (grown_set0 _ none) (by simp)
          rwa [World.size_alloc] at this
        have V1 : Blk ((wr.alloc (.cells #[.int .i64 4, .string xs, .int .i64 0, .bool false, .int .i64 0] 30)).alloc (.cells #[.int .i64 0, .int .i64 0] 26)).drew (wr.heap.size + 1) 26 [.int .i64 0, .int .i64 0] := by
          have := (Blk.new (wr.alloc (.cells #[.int .i64 4, .string xs, .int .i64 0, .bool false, .int .i64 0] 30)) 26 [.int .i64 0, .int .i64 0]).kept (grown_set0 _ none) (by simp)
          rwa [World.size_alloc] at this
        have V2 : Blk ((wr.alloc (.cells #[.int .i64 0, .int .i64 0] 26)).alloc (.cells #[.int .i64 4, .string xs, .int .i64 0, .bool false, .int .i64 0] 30)).drew wr.heap.size 26 [.int .i64 0, .int .i64 0] := ((Blk.new wr 26 [.int .i64 0, .int .i64 0]).kept (World.grownBy_alloc _ _ none) (by simp)).kept (grown_set0 _ none) (by simp)
        have G0 : Calls Tryd.prog 7 #[.int .i64 p0, .slice (some ⟨wr.heap.size, 0, none⟩) 1 1] (wr.alloc (.cells #[.int .i64 4, .string xs, .int .i64 0, .bool false, .int .i64 0] 30)).drew fun e w' => e = .returned (.tuple #[.agg #[.int .i64 0, .int .i64 0], .bool false]) ∧ Below wr.heap.size wr w' := ((show ∀ (X : World) (B : Nat), Blk X B 30 [.int .i64 4, .string xs, .int .i64 0, .bool false, .int .i64 0] → Below wr.heap.size wr X → Calls Tryd.prog 7 #[.int .i64 p0, .slice (some ⟨B, 0, none⟩) 1 1] X fun e w' => e = .returned (.tuple #[.agg #[.int .i64 0, .int .i64 0], .bool false]) ∧ Below X.heap.size X w' ∧ Below wr.heap.size wr w' from H18) _ _ K0 a0).mono fun e w' ⟨he, hb, hc⟩ => ⟨he, hc⟩
        have G1 : Calls Tryd.prog 7 #[.int .i64 p0, .slice (some ⟨wr.heap.size, 0, none⟩) 1 1] ((wr.alloc (.cells #[.int .i64 4, .string xs, .int .i64 0, .bool false, .int .i64 0] 30)).alloc (.cells #[.int .i64 0, .int .i64 0] 26)).drew fun e w' => e = .returned (.tuple #[.agg #[.int .i64 0, .int .i64 0], .bool false]) ∧ Below wr.heap.size wr w' ∧ (w'.cell? ⟨wr.heap.size + 1, 0, none⟩ = some (.int .i64 0) ∧ w'.cell? ⟨wr.heap.size + 1, 1, none⟩ = some (.int .i64 0)) ∧ w'.frozen? ⟨wr.heap.size + 1, 0, none⟩ = false ∧ w'.frozen? ⟨wr.heap.size + 1, 1, none⟩ = false ∧ wr.heap.size + 1 < w'.heap.size := ((show ∀ (X : World) (B : Nat), Blk X B 30 [.int .i64 4, .string xs, .int .i64 0, .bool false, .int .i64 0] → Below wr.heap.size wr X → Calls Tryd.prog 7 #[.int .i64 p0, .slice (some ⟨B, 0, none⟩) 1 1] X fun e w' => e = .returned (.tuple #[.agg #[.int .i64 0, .int .i64 0], .bool false]) ∧ Below X.heap.size X w' ∧ Below wr.heap.size wr w' from H18) _ _ K1 a1).mono fun e w' ⟨he, hb, hc⟩ => ⟨he, hc, (blk2 (V1.below hb V1.lt)).1, (blk2 (V1.below hb V1.lt)).2.1, (blk2 (V1.below hb V1.lt)).2.2, (V1.below hb V1.lt).lt⟩
        have G2 : Calls Tryd.prog 7 #[.int .i64 p0, .slice (some ⟨wr.heap.size + 1, 0, none⟩) 1 1] ((wr.alloc (.cells #[.int .i64 0, .int .i64 0] 26)).alloc (.cells #[.int .i64 4, .string xs, .int .i64 0, .bool false, .int .i64 0] 30)).drew fun e w' => e = .returned (.tuple #[.agg #[.int .i64 0, .int .i64 0], .bool false]) ∧ Below wr.heap.size wr w' ∧ (w'.cell? ⟨wr.heap.size, 0, none⟩ = some (.int .i64 0) ∧ w'.cell? ⟨wr.heap.size, 1, none⟩ = some (.int .i64 0)) ∧ w'.frozen? ⟨wr.heap.size, 0, none⟩ = false ∧ w'.frozen? ⟨wr.heap.size, 1, none⟩ = false ∧ wr.heap.size < w'.heap.size := ((show ∀ (X : World) (B : Nat), Blk X B 30 [.int .i64 4, .string xs, .int .i64 0, .bool false, .int .i64 0] → Below wr.heap.size wr X → Calls Tryd.prog 7 #[.int .i64 p0, .slice (some ⟨B, 0, none⟩) 1 1] X fun e w' => e = .returned (.tuple #[.agg #[.int .i64 0, .int .i64 0], .bool false]) ∧ Below X.heap.size X w' ∧ Below wr.heap.size wr w' from H18) _ _ K2 a2).mono fun e w' ⟨he, hb, hc⟩ => ⟨he, hc, (blk2 (V2.below hb V2.lt)).1, (blk2 (V2.below hb V2.lt)).2.1, (blk2 (V2.below hb V2.lt)).2.2, (V2.below hb V2.lt).lt⟩
        have hk1 : ∀ (X : World) (a b : Value), Below wr.heap.size wr X → Below wr.heap.size wr (set2 X (wr.heap.size + 1) a b) := fun X a b h => below_grown h (grown_set2 X _ a b) h.size (by omega)
        have hk2 : ∀ (X : World) (a b : Value), Below wr.heap.size wr X → Below wr.heap.size wr (set2 X wr.heap.size a b) := fun X a b h => below_grown h (grown_set2 X _ a b) h.size (Nat.le_refl _)
        have HK1 : Hid (∀ (X : World) (a b : Value), Below wr.heap.size wr X → Below wr.heap.size wr (set2 X (wr.heap.size + 1) a b)) := hk1
        have HK2 : Hid (∀ (X : World) (a b : Value), Below wr.heap.size wr X → Below wr.heap.size wr (set2 X wr.heap.size a b)) := hk2
        clear hk1 hk2
        clear X1 X2 X3 hSr hstr K0 K1 K2 V1 V2 H18
        go_wp2_with fail
        go_region_held (fun X => X.cell? ⟨w1.heap.size, k0, none⟩ = some (.string xs) ∧ X.cell? ⟨w1.heap.size + 1, k0, none⟩ = some (.int .i64 p0)) (first | exact (show ∀ X : World, Below wr.heap.size wr X → X.cell? ⟨w1.heap.size, k0, none⟩ = some (.string xs) ∧ X.cell? ⟨w1.heap.size + 1, k0, none⟩ = some (.int .i64 p0) from HS) _ (by assumption) | exact (show ∀ X : World, Below wr.heap.size wr X → X.cell? ⟨w1.heap.size, k0, none⟩ = some (.string xs) ∧ X.cell? ⟨w1.heap.size + 1, k0, none⟩ = some (.int .i64 p0) from HS) _ ((show ∀ (X : World) (a b : Value), Below wr.heap.size wr X → Below wr.heap.size wr (set2 X (wr.heap.size + 1) a b) from HK1) _ _ _ (by assumption)) | exact (show ∀ X : World, Below wr.heap.size wr X → X.cell? ⟨w1.heap.size, k0, none⟩ = some (.string xs) ∧ X.cell? ⟨w1.heap.size + 1, k0, none⟩ = some (.int .i64 p0) from HS) _ ((show ∀ (X : World) (a b : Value), Below wr.heap.size wr X → Below wr.heap.size wr (set2 X wr.heap.size a b) from HK2) _ _ _ (by assumption)) | go_keep)
          (first
          | (go_at_call 7; with_reducible refine Calls.mono G0 ?_; rintro e w6 ⟨rfl, c6⟩)
          | (go_at_call 7; with_reducible refine Calls.mono G1 ?_; rintro e w6 ⟨rfl, c6, ⟨y0, y1⟩, y2, y3, y4⟩)
          | (go_at_call 7; with_reducible refine Calls.mono G2 ?_; rintro e w6 ⟨rfl, c6, ⟨y0, y1⟩, y2, y3, y4⟩))
        all_goals
          go_wp2
          go_ret
          have bz := below_next hbw c6
          refine ⟨rfl, ?_⟩
          first
          | exact bz.alloc bz.size _
          | exact below_next hbw ((show ∀ (X : World) (a b : Value), Below wr.heap.size wr X → Below wr.heap.size wr (set2 X (wr.heap.size + 1) a b) from HK1) _ _ _ c6)
          | exact below_next hbw ((show ∀ (X : World) (a b : Value), Below wr.heap.size wr X → Below wr.heap.size wr (set2 X wr.heap.size a b) from HK2) _ _ _ c6)

theorem valueWords_met (os : Os) : laidMet Tryd.prog Rows.valueWordsRow.laid ((laidIn (World.holding Tryd.prog os ⟨#[], #[], []⟩)).forCall (fun _ _ => 0) ⟨#[], #[.int .i64 0], []⟩).memory :=
  laidMet_of_run' 8 (by kernel_rfl) (by kernel_rfl)
theorem valueWords_reads (os : Os) {H : Type} (enc : TypeId × Value → H) : ∃ places, DataW.whole enc Tryd.prog ((laidIn (World.holding Tryd.prog os ⟨#[], #[], []⟩)).forCall (fun _ _ => 0) ⟨#[], #[.int .i64 0], []⟩).memory Tryd.f3.params.toList Rows.valueWordsSpec.vars false (#[.int .i64 0] : Array Value).toList 8 = some ([.lit (.int .i64 0)], [], places) :=
  ⟨[], by kernel_rfl⟩

set_option maxRecDepth 100000 in
theorem valueWords_lifted (os : Os) (started : os.Started) (H : Type) (enc : TypeId × Value → H) (F : Stop.Interp) :
    ReturnsInHanded {} Tryd.checked os 3 .any ((OpenSpec.ofChange Rows.valueWordsSpec).preRow enc Tryd.prog Tryd.f3 Rows.valueWordsRow.domain false Rows.valueWordsRow.laid) (((OpenSpec.ofChange Rows.valueWordsSpec).at F).post enc Tryd.prog Tryd.f3 false true false false) := by
  obtain ⟨places, hx⟩ := valueWords_reads os enc
  refine returnsInHanded_of_row (C := Tryd.checked) (s := OpenSpec.ofChange Rows.valueWordsSpec) ownNone started (by kernel_rfl) Tryd.func3
    (witness_row_at (enc := enc) (C := Tryd.checked) false (laidIn (World.holding Tryd.prog os ⟨#[], #[], []⟩)) #[.int .i64 0] rfl (by kernel_rfl) (by kernel_rfl) (by kernel_rfl)
      (OpenSpec.preRow_of_cond 8 hx (by kernel_rfl) (fun k hk => by cases hk) (by kernel_rfl) (valueWords_met os))) ?_
  intro W base args ds gs before hval hW _ _ _ hL hS _
  have hW' := hW
  obtain ⟨p, q, hA0, hV, rfl, hfz, hnd⟩ := hW
  have hA : DataW.TrodAll enc Tryd.prog W 0 (fun _ => true) true Tryd.f3.params.toList args.toList ds p := hA0
  rw [Tryd.params3] at hA hval
  obtain ⟨v0, vs0, d0, ds0, p0, q0, hargs, rfl, rfl, h0, r0⟩ := trodAll_cons hA
  obtain ⟨rfl, rfl, rfl⟩ := trodAll_nil r0
  obtain rfl : args = #[v0] := by cases args; simp_all
  obtain ⟨rfl, rfl⟩ := trodVars_none hV
  obtain ⟨a0, rfl, rfl, rfl, w0⟩ := open_int Tryd.underlying3 (hval 0 3 v0 rfl rfl) h0
  clear hA0
  refine (valueWords_walk W (tabs_of_laid hL hS) a0 w0).mono fun e W' ⟨he, bel⟩ => ?_
  subst he
  exact ⟨_, rfl, _, _, _, [], _, [], hW', trodAll_mk1 (shut_bool Tryd.underlying4 _), (trodAll_cons_mk (shut_int Tryd.underlying3 w0) trodAll_mk0), rfl, bel.frame _, fun h => by cases h⟩

theorem valueWords_said : Rows.ValueWordsSaid :=
  OpenClaim.holds_of_cond 3 Tryd.f3 rfl rfl rfl rfl rfl rfl rfl ⟨rfl, rfl, rfl, rfl, rfl⟩ rfl rfl rfl rfl rfl (by kernel_rfl) Tryd.func3 (by kernel_rfl)
    (of_decide_eq_true (by kernel_rfl)) (by unfold Func.isWrapper; first | (rw [if_pos (by decide +kernel)]; kernel_rfl) | (rw [if_neg (by decide +kernel)]; exact ⟨rfl, rfl⟩))
    (fun os started H enc _ F => by rw [OpenClaim.pre_eq_preRow]; exact valueWords_lifted os started H enc F)

theorem valueWords_plain (f : FuncId) (fn : Func) (hf : Tryd.pinned.checked.prog.funcNamed "tapestrier/tapestrierlaw7.ValueWords" = some f) (hfn : Tryd.pinned.checked.prog.funcs[f]? = some fn) :
    false = Tryd.pinned.checked.prog.looks [] ∧ ∀ (j : Nat) t, fn.params[j]? = some t → Tryd.pinned.checked.prog.wantsStandIn t = false := by
  obtain rfl : f = 3 := Option.some.inj ((show Tryd.prog.funcNamed "tapestrier/tapestrierlaw7.ValueWords" = some 3 by kernel_rfl).symm.trans hf) |>.symm
  obtain rfl : fn = Tryd.f3 := (Option.some.inj (Tryd.func3.symm.trans hfn)).symm
  refine ⟨by kernel_rfl, fun j t ht => ?_⟩
  rw [Tryd.params3] at ht
  have hm : t ∈ [3] := by simpa using Array.mem_of_getElem? ht
  have hall : ([3].all fun u => !Tryd.prog.wantsStandIn u) = true := by kernel_rfl
  exact (show Tryd.prog.wantsStandIn t = false by simpa using List.all_eq_true.1 hall t hm)

theorem valueWords_card : Rows.ValueWordsCardSaid :=
  Claim7.holds_tied_plain_at .later [] _ _ _ _ valueWords_said (fun _ h => by cases h) (by kernel_rfl) (fun _ h => by cases h) valueWords_row_tie rfl ⟨rfl, rfl⟩ (by kernel_rfl) rfl valueWords_plain (by kernel_rfl)
#print axioms valueWords_card


end Go.Proofs.YtghjpefkeobfnabDoor

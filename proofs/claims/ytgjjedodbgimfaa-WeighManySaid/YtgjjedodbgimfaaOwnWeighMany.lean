/- For every three numbers: the law tapestrierlaw11.WeighMany returns true and leaves its arguments as they were; no condition. -/
import Derived.Test.YtgjjedodbgimfaaWgManyO
import Derived.Test.YtgjjedodbgimfaaWgArgs
import Derived.Test.YtgjjedodbgimfaaRows
namespace Go.Proofs.Ytgjjedodbgimfaa
open Go.Proofs.Ytgjjedodbgimfaa.Tre
open Go Go.ChangeShapes Go.WideShapes Go.ChangeAt Go.RowKit Sl Sr Wg

theorem and255 (x : Nat) (_hx : x ≤ 4294967296) : bits BinOp.and IntKind.i64 (x : Int) 255 = ((x % 256 : Nat) : Int) := by
  have h : (BitVec.ofInt 64 (x : Int) &&& BitVec.ofInt 64 255).toNat = x % 256 := by
    rw [BitVec.toNat_and, show (BitVec.ofInt 64 255).toNat = 2 ^ 8 - 1 from by decide, Nat.and_two_pow_sub_one_eq_mod, BitVec.toNat_ofInt]
    omega
  show IntKind.i64.wrap ((BitVec.ofInt 64 (x : Int) &&& BitVec.ofInt 64 255).toNat : Int) = _
  rw [h, IntKind.wrap_i64]
  omega
abbrev nilV : Value := .slice none 0 0
theorem frozen_blk {W : World} {B : Nat} {t : TypeId} {cs : List Value} (h : Blk W B t cs) (i : Nat) : W.frozen? ⟨B, i, none⟩ = false := by
  simp [World.frozen?, show W.heap[B]? = _ from h]
def xs (n : Nat) : List Value := (List.replicate n xT).map Value.string
theorem xs_next (n : Nat) : xs (n + 1) = xs n ++ [.string ⟨#[120]⟩] := by
  unfold xs
  rw [List.replicate_succ', List.map_append]
  rfl

set_option maxRecDepth 100000 in
set_option maxHeartbeats 4000000 in
theorem weighMany_walk (w : World) (ids : Int) (_h0 : (Lit.int .i64 ids).wf = true) (classes : Int) (_h1 : (Lit.int .i64 classes).wf = true) (tags : Int) (_h2 : (Lit.int .i64 tags).wf = true) :
    Calls Try.prog 3 #[.int .i64 ids, .int .i64 classes, .int .i64 tags] w fun e w' => e = .returned (.bool true) ∧ Below w.heap.size w w' := by
  have h1 := Wg.alive_any w
  by_cases hg : 0 ≤ ids ∧ ids ≤ 300 ∧ 0 ≤ classes ∧ classes ≤ 300 ∧ 1 ≤ tags ∧ tags ≤ 300
  case neg => exact weighMany_out w ids classes tags hg h1
  obtain ⟨i1, i2, c1, c2, t1, t2⟩ := hg
  obtain ⟨ni, rfl⟩ : ∃ n : Nat, ids = n := ⟨ids.toNat, by omega⟩
  obtain ⟨nc, rfl⟩ : ∃ n : Nat, classes = n := ⟨classes.toNat, by omega⟩
  obtain ⟨nt, rfl⟩ : ∃ n : Nat, tags = n := ⟨tags.toNat, by omega⟩
  have j1 : decide ((300 : Int) < (ni : Int)) = false := decide_eq_false (by omega)
  have j2 : decide ((300 : Int) < (nc : Int)) = false := decide_eq_false (by omega)
  have j3 : decide ((300 : Int) < (nt : Int)) = false := decide_eq_false (by omega)
  have j4 : decide ((nt : Int) < 1) = false := decide_eq_false (by omega)
  have j5 : decide ((ni : Int) < 0) = false := decide_eq_false (by omega)
  have j6 : decide ((nc : Int) < 0) = false := decide_eq_false (by omega)
  have k1 : ni ≤ 300 := by omega
  have k2 : nc ≤ 300 := by omega
  have k3 : nt ≤ 300 := by omega
  have k4 : 1 ≤ nt := by omega
  clear i1 i2 c1 c2 t1 t2
  go_enter Try.func3, Try.ntmps3
  go_wp2_with fail
  refine h1.mono ?_
  clear h1
  rintro e w1 ⟨rfl, b1⟩
  have S0 : MnSt w1 [] nilV (w1.alloc (.cells #[nilV] 25)) := ⟨Blk.new w1 25 [nilV], UndRow.nil _ _ _ _ _ _, (Below.refl _ _).alloc (Nat.le_refl _) _⟩
  go_upto_region 5 with fail
  generalize w1.alloc (.cells #[nilV] 25) = W0 at *
  clear j1 j2 j3 j4 j5 j6
  go_wp2_with fail
  go_loopw [9] (fun x wr => ∃ (k : Nat) (y : Value), x = .int .i64 k ∧ k ≤ nt ∧ MnSt w1 (selM ni nc k) y wr) (fun x _ => nt - (intOf x).toNat)
  case atStart => exact ⟨0, nilV, rfl, Nat.zero_le _, S0⟩
  case round =>
    clear S0
    obtain ⟨k, y, rfl, hk, S⟩ := hrel
    obtain ⟨qy, cy, hy⟩ := S.r.form
    rw [selM_len] at hy
    subst hy
    by_cases hlt : k < nt
    · have hki : (k : Int) < (nt : Int) := by omega
      have hmy : Hid (∀ g, (Value.slice qy k cy).ownBlock = some g → g < wr.heap.size) := fun g hg => (S.r.lt hg).2
      have hQw : w1.heap.size < wr.heap.size := S.q.lt
      have HSM := selM_next ni nc k
      replace HSM : Hid (_ = _) := HSM
      go_upto_if 50 with fail
      have bA : Below wr.heap.size wr (wr.alloc (.cells #[.int .i64 1, .string ⟨#[97]⟩, nilV, nilV, nilV, nilV] 32)) := (Below.refl _ _).alloc (Nat.le_refl _) _
      have kA : Blk (wr.alloc (.cells #[.int .i64 1, .string ⟨#[97]⟩, nilV, nilV, nilV, nilV] 32)) wr.heap.size 32 [.int .i64 1, .string ⟨#[97]⟩, nilV, nilV, nilV, nilV] := Blk.new wr 32 _
      obtain ⟨wo, hwo⟩ : ∃ wo, wo = wr := ⟨_, rfl⟩
      subst hwo
      generalize wo.alloc (.cells #[.int .i64 1, .string ⟨#[97]⟩, nilV, nilV, nilV, nilV] 32) = W1 at *
      go_cut [] (fun wx => ∃ (comb : Int) (vi vk : Value) (li lk : List ByteArray), Below wo.heap.size wo wx ∧ Blk wx wo.heap.size 32 [.int .i64 comb, .string ⟨#[97]⟩, vi, vk, nilV, nilV] ∧ StrsF (fun b => wo.heap.size ≤ b) wx vi li ∧ StrsF (fun b => wo.heap.size ≤ b) wx vk lk ∧ (comb, Cp.mk aT li lk [] []) = (if k = 0 then firstM ni nc else restM))
      case first =>
        by_cases hk0 : k = 0
        · have hk0' : ((k : Int) == 0) = true := by subst hk0; rfl
          have hfm : ((0 : Int), Cp.mk aT (List.replicate ni xT) (List.replicate nc xT) [] []) = (if k = 0 then firstM ni nc else restM) := by rw [if_pos hk0]; rfl
          replace hfm : Hid _ := hfm
          clear hk0 HSM
          rw [hk0']
          clear hk0'
          obtain ⟨⟨a0, a1, a2, a3, a4, a5⟩, _⟩ := blk6 kA
          have f0 : W1.frozen? ⟨wo.heap.size, 0, none⟩ = false := frozen_blk kA 0
          have k2 := blk_put kA 0 (.int .i64 0)
          have b2 : Below wo.heap.size wo (W1.setCell ⟨wo.heap.size, 0, none⟩ (.int .i64 0)) := bA.setCell (p := ⟨wo.heap.size, 0, none⟩) (Nat.le_refl _) _
          go_upto_region 11 with fail
          generalize W1.setCell ⟨wo.heap.size, 0, none⟩ (.int .i64 0) = W2 at *
          replace k2 : Blk W2 wo.heap.size 32 [.int .i64 0, .string ⟨#[97]⟩, nilV, nilV, nilV, nilV] := k2
          clear a0 a1 a2 a3 a4 a5 f0 kA bA
          go_wp2_with fail
          go_loopw [11] (fun x wr => ∃ (j : Nat) (vi : Value), x = .int .i64 j ∧ j ≤ ni ∧ Below wo.heap.size wo wr ∧ Blk wr wo.heap.size 32 [.int .i64 0, .string ⟨#[97]⟩, vi, nilV, nilV, nilV] ∧ wr.ownsRow (wo.heap.size + 1) 9 1 vi j (xs j)) (fun x _ => ni - (intOf x).toNat)
          case atStart => exact ⟨0, nilV, rfl, Nat.zero_le _, b2, k2, World.ownsRow_nil _ _ _ _⟩
          case round =>
            clear b2 k2
            obtain ⟨j, vi, rfl, hj, bj, kj, rj⟩ := hrel
            obtain ⟨qi, ci, rfl⟩ := owns_form rj
            by_cases hjl : j < ni
            · have hji : (j : Int) < (ni : Int) := by omega
              have hPB : wo.heap.size < wr.heap.size := kj.lt
              have bE : Below wr.heap.size wr (wr.alloc (.cells #[.string ⟨#[120]⟩] 9)) := (Below.refl _ _).alloc (Nat.le_refl _) _
              have hR4 : (wr.alloc (.cells #[.string ⟨#[120]⟩] 9)).ownsRow (wo.heap.size + 1) 9 1 (.slice qi j ci) j (xs j) := owns_same rj (fun g hg => bE.block g (owns_lt rj hg).2)
              have kE := kj.below bE kj.lt
              have bwE : Below wo.heap.size wo (wr.alloc (.cells #[.string ⟨#[120]⟩] 9)) := bj.trans (bE.mono bj.size)
              obtain ⟨i0, hi, hz0, hz1, hz2⟩ := info_parts infoStr3
              have H1 : ∀ u ∈ ([.string ⟨#[120]⟩] : List Value), u.oneCell' = true := fun u hu => by simp at hu; subst hu; rfl
              have m1 : j + 1 ≤ maxLen := by unfold maxLen; omega
              have m2 : (j + 1) * 16 ≤ 140737488355328 := by omega
              have hSZ : wo.heap.size + 1 ≤ (wr.alloc (.cells #[.string ⟨#[120]⟩] 9)).heap.size := by rw [World.size_alloc]; omega
              have HN : Hid (∀ (w7 : World) (g7 c7 : Nat), w7.ownsRow (wo.heap.size + 1) 9 1 (.slice (some ⟨g7, 0, none⟩) (j + 1) c7) (j + 1) (xs j ++ [.string ⟨#[120]⟩]) → (wr.alloc (.cells #[.string ⟨#[120]⟩] 9)).grownBy w7 (Value.slice qi j ci).ownBlock → Blk w7 wo.heap.size 32 [.int .i64 0, .string ⟨#[97]⟩, .slice qi j ci, nilV, nilV, nilV] ∧ (∃ (j' : Nat) (vi : Value), Value.int .i64 ((j : Int) + 1) = .int .i64 j' ∧ j' ≤ ni ∧ Below wo.heap.size wo (w7.setCell ⟨wo.heap.size, 2, none⟩ (.slice (some ⟨g7, 0, none⟩) (j + 1) c7)) ∧ Blk (w7.setCell ⟨wo.heap.size, 2, none⟩ (.slice (some ⟨g7, 0, none⟩) (j + 1) c7)) wo.heap.size 32 [.int .i64 0, .string ⟨#[97]⟩, vi, nilV, nilV, nilV] ∧ (w7.setCell ⟨wo.heap.size, 2, none⟩ (.slice (some ⟨g7, 0, none⟩) (j + 1) c7)).ownsRow (wo.heap.size + 1) 9 1 vi j' (xs j'))) := fun w7 g7 c7 hown hg => by
                have hne : (Value.slice qi j ci).ownBlock ≠ some wo.heap.size := owns_apart hR4 kE (fun c f e => by injection e with _ e2; exact absurd e2 (by decide))
                have k7 : Blk w7 wo.heap.size 32 [.int .i64 0, .string ⟨#[97]⟩, .slice qi j ci, nilV, nilV, nilV] := kE.kept hg (fun e => hne e.symm)
                have b7 : Below wo.heap.size wo w7 := bwE.grown hg bwE.size (fun r e => by have := (owns_lt hR4 e).1; omega)
                refine ⟨k7, j + 1, .slice (some ⟨g7, 0, none⟩) (j + 1) c7, rfl, by omega, b7.setCell (p := ⟨wo.heap.size, 2, none⟩) (Nat.le_refl _) _, blk_put k7 2 _, ?_⟩
                rw [xs_next]
                exact owns_same hown (fun g hg' => Below.heap_setCell _ _ _ _ (fun e => by have := (owns_lt hown hg').1; simp at e; omega))
              obtain ⟨⟨a0, a1, a2, a3, a4, a5⟩, _⟩ := blk6 kj
              have a2' := (blk6 kE).1.2.2.1
              clear rj kj bj bE bwE kE
              go_wp2_with (at_builtin; refine wpList_append_lies (wr.alloc (.cells #[.string ⟨#[120]⟩] 9)) rfl _ _ 26 rfl (wo.heap.size + 1) 9 i0 (.string ⟨#[]⟩) 1 16 Try.underlying26 hi hz0 hz1 hz2 rfl (by decide) (.slice qi j ci) _ _ rfl hR4 ⟨wr.heap.size, 0, none⟩ 1 1 [.string ⟨#[120]⟩] rfl rfl (cells_plain wr [.string ⟨#[120]⟩] 9) H1 (by decide) m1 m2 hSZ _ rfl ?_; intro g7 c7 w7 hown7 hgrow7 hat7 hlt7; obtain ⟨k7, hrl7⟩ := (show ∀ (w7 : World) (g7 c7 : Nat), _ → _ → _ from HN) _ _ _ hown7 hgrow7; have f2 : w7.frozen? ⟨wo.heap.size, 2, none⟩ = false := frozen_blk k7 2; have a7 := (blk6 k7).1.2.2.1)
              exact ⟨hrl7, by simp [intOf]; omega⟩
            · have hji : ¬ (j : Int) < (ni : Int) := by omega
              obtain rfl : j = ni := by omega
              obtain ⟨n2, hn2⟩ : ∃ n2, n2 = wr.heap.size := ⟨_, rfl⟩
              have hvi : Hid (∀ g, (Value.slice qi j ci).ownBlock = some g → g < n2) := fun g hg => by have := (owns_lt rj hg).2; omega
              have hPB2 : wo.heap.size < n2 := by have := kj.lt; omega
              have hn2' : n2 ≤ wr.heap.size := by omega
              clear hn2
              go_upto_region 15 with fail
              go_wp2_with fail
              go_loopw [12] (fun x wr => ∃ (i : Nat) (vk : Value), x = .int .i64 i ∧ i ≤ nc ∧ n2 ≤ wr.heap.size ∧ Below wo.heap.size wo wr ∧ Blk wr wo.heap.size 32 [.int .i64 0, .string ⟨#[97]⟩, .slice qi j ci, vk, nilV, nilV] ∧ wr.ownsRow (wo.heap.size + 1) 9 1 (.slice qi j ci) j (xs j) ∧ wr.ownsRow n2 9 1 vk i (xs i)) (fun x _ => nc - (intOf x).toNat)
              case atStart => exact ⟨0, nilV, rfl, Nat.zero_le _, hn2', bj, kj, rj, World.ownsRow_nil _ _ _ _⟩
              case round =>
                clear bj kj rj hn2'
                obtain ⟨i, vk, rfl, hi2, hn3, bj, kj, rj, rk⟩ := hrel
                obtain ⟨qk, ck, rfl⟩ := owns_form rk
                by_cases hil : i < nc
                · have hii : (i : Int) < (nc : Int) := by omega
                  have hPB : wo.heap.size < wr.heap.size := kj.lt
                  have bE : Below wr.heap.size wr (wr.alloc (.cells #[.string ⟨#[120]⟩] 9)) := (Below.refl _ _).alloc (Nat.le_refl _) _
                  have hR4 : (wr.alloc (.cells #[.string ⟨#[120]⟩] 9)).ownsRow n2 9 1 (.slice qk i ck) i (xs i) := owns_same rk (fun g hg => bE.block g (owns_lt rk hg).2)
                  have hRi : (wr.alloc (.cells #[.string ⟨#[120]⟩] 9)).ownsRow (wo.heap.size + 1) 9 1 (.slice qi j ci) j (xs j) := owns_same rj (fun g hg => bE.block g (owns_lt rj hg).2)
                  have kE := kj.below bE kj.lt
                  have bwE : Below wo.heap.size wo (wr.alloc (.cells #[.string ⟨#[120]⟩] 9)) := bj.trans (bE.mono bj.size)
                  obtain ⟨i0, hi, hz0, hz1, hz2⟩ := info_parts infoStr3
                  have H1 : ∀ u ∈ ([.string ⟨#[120]⟩] : List Value), u.oneCell' = true := fun u hu => by simp at hu; subst hu; rfl
                  have m1 : i + 1 ≤ maxLen := by unfold maxLen; omega
                  have m2 : (i + 1) * 16 ≤ 140737488355328 := by omega
                  have hSZ : n2 ≤ (wr.alloc (.cells #[.string ⟨#[120]⟩] 9)).heap.size := by rw [World.size_alloc]; omega
                  have HN : Hid (∀ (w7 : World) (g7 c7 : Nat), w7.ownsRow n2 9 1 (.slice (some ⟨g7, 0, none⟩) (i + 1) c7) (i + 1) (xs i ++ [.string ⟨#[120]⟩]) → (wr.alloc (.cells #[.string ⟨#[120]⟩] 9)).grownBy w7 (Value.slice qk i ck).ownBlock → Blk w7 wo.heap.size 32 [.int .i64 0, .string ⟨#[97]⟩, .slice qi j ci, .slice qk i ck, nilV, nilV] ∧ (∃ (i' : Nat) (vk : Value), Value.int .i64 ((i : Int) + 1) = .int .i64 i' ∧ i' ≤ nc ∧ n2 ≤ (w7.setCell ⟨wo.heap.size, 3, none⟩ (.slice (some ⟨g7, 0, none⟩) (i + 1) c7)).heap.size ∧ Below wo.heap.size wo (w7.setCell ⟨wo.heap.size, 3, none⟩ (.slice (some ⟨g7, 0, none⟩) (i + 1) c7)) ∧ Blk (w7.setCell ⟨wo.heap.size, 3, none⟩ (.slice (some ⟨g7, 0, none⟩) (i + 1) c7)) wo.heap.size 32 [.int .i64 0, .string ⟨#[97]⟩, .slice qi j ci, vk, nilV, nilV] ∧ (w7.setCell ⟨wo.heap.size, 3, none⟩ (.slice (some ⟨g7, 0, none⟩) (i + 1) c7)).ownsRow (wo.heap.size + 1) 9 1 (.slice qi j ci) j (xs j) ∧ (w7.setCell ⟨wo.heap.size, 3, none⟩ (.slice (some ⟨g7, 0, none⟩) (i + 1) c7)).ownsRow n2 9 1 vk i' (xs i'))) := fun w7 g7 c7 hown hg => by
                    have hne : (Value.slice qk i ck).ownBlock ≠ some wo.heap.size := owns_apart hR4 kE (fun c f e => by injection e with _ e2; exact absurd e2 (by decide))
                    have hne2 : (Value.slice qi j ci).ownBlock ≠ some wo.heap.size := owns_apart hRi kE (fun c f e => by injection e with _ e2; exact absurd e2 (by decide))
                    have k7 : Blk w7 wo.heap.size 32 [.int .i64 0, .string ⟨#[97]⟩, .slice qi j ci, .slice qk i ck, nilV, nilV] := kE.kept hg (fun e => hne e.symm)
                    have b7 : Below wo.heap.size wo w7 := bwE.grown hg bwE.size (fun r e => by have := (owns_lt hR4 e).1; omega)
                    have hri7 : w7.ownsRow (wo.heap.size + 1) 9 1 (.slice qi j ci) j (xs j) := owns_same hRi (fun g hg' => hg.block g (owns_lt hRi hg').2 (fun e => by have h1 := (owns_lt hR4 e.symm).1; have h2 := (show ∀ g, _ → _ from hvi) g hg'; omega))
                    refine ⟨k7, i + 1, .slice (some ⟨g7, 0, none⟩) (i + 1) c7, rfl, by omega, ?_, b7.setCell (p := ⟨wo.heap.size, 3, none⟩) (Nat.le_refl _) _, blk_put k7 3 _, ?_, ?_⟩
                    · rw [World.size_setCell]; exact Nat.le_trans hSZ hg.size
                    · exact owns_same hri7 (fun g hg' => Below.heap_setCell _ _ _ _ (fun e => hne2 (by simp at e; rw [← e]; exact hg')))
                    · rw [xs_next]
                      exact owns_same hown (fun g hg' => Below.heap_setCell _ _ _ _ (fun e => by have := (owns_lt hown hg').1; simp at e; omega))
                  obtain ⟨⟨a0, a1, a2, a3, a4, a5⟩, _⟩ := blk6 kj
                  have a3' := (blk6 kE).1.2.2.2.1
                  clear rj rk kj bj bE bwE kE hRi
                  go_wp2_with (at_builtin; refine wpList_append_lies (wr.alloc (.cells #[.string ⟨#[120]⟩] 9)) rfl _ _ 26 rfl n2 9 i0 (.string ⟨#[]⟩) 1 16 Try.underlying26 hi hz0 hz1 hz2 rfl (by decide) (.slice qk i ck) _ _ rfl hR4 ⟨wr.heap.size, 0, none⟩ 1 1 [.string ⟨#[120]⟩] rfl rfl (cells_plain wr [.string ⟨#[120]⟩] 9) H1 (by decide) m1 m2 hSZ _ rfl ?_; intro g7 c7 w7 hown7 hgrow7 hat7 hlt7; obtain ⟨k7, hrl7⟩ := (show ∀ (w7 : World) (g7 c7 : Nat), _ → _ → _ from HN) _ _ _ hown7 hgrow7; have f2 : w7.frozen? ⟨wo.heap.size, 3, none⟩ = false := frozen_blk k7 3; have a7 := (blk6 k7).1.2.2.2.1)
                  exact ⟨hrl7, by simp [intOf]; omega⟩
                · have hii : ¬ (i : Int) < (nc : Int) := by omega
                  obtain rfl : i = nc := by omega
                  have hsi : StrsF (fun b => wo.heap.size ≤ b) wr (.slice qi j ci) (List.replicate j xT) := strs_done (by rw [List.length_replicate]; exact rj) (by omega)
                  have hsk : StrsF (fun b => wo.heap.size ≤ b) wr (.slice qk i ck) (List.replicate i xT) := strs_done (by rw [List.length_replicate]; exact rk) (by omega)
                  clear rj rk
                  go_wp2
                  go_meet
                  exact ⟨0, _, _, _, _, bj, kj, hsi, hsk, hfm⟩
        · have hk0' : ((k : Int) == 0) = false := by rw [beq_eq_false_iff_ne]; omega
          have hfm : ((1 : Int), Cp.mk aT [] [] [] []) = (if k = 0 then firstM ni nc else restM) := by rw [if_neg hk0]; rfl
          clear HSM
          go_wp2
          go_meet
          exact ⟨1, _, _, [], [], bA, kA, FinRow.nil _ _ _ _, FinRow.nil _ _ _ _, hfm⟩
      case rest =>
        obtain ⟨comb, vi, vk, li, lk, bX, kX, hsi, hsk, hfm⟩ := hcut
        rw [← hfm] at HSM
        clear hfm kA bA
        obtain ⟨qi, ci, rfl, _⟩ := FinRow.form hsi
        obtain ⟨qk, ck, rfl, _⟩ := FinRow.form hsk
        replace S := S.below bX
        obtain ⟨css, r1, r2, r3, r4⟩ := S.r
        obtain ⟨i0, hi, hz0, hz1, hz2⟩ := info_parts infoPt3
        obtain ⟨⟨x0, x1, x2, x3, x4, x5⟩, _⟩ := blk6 kX
        obtain ⟨y0, e0⟩ := blk1 S.q
        rw [selM_len] at r1
        have bE : Below wc.heap.size wc (wc.alloc (.cells #[.int .i64 comb, .string ⟨#[97]⟩, .slice qi li.length ci, .slice qk lk.length ck, nilV, nilV] 32)) := (Below.refl _ _).alloc (Nat.le_refl _) _
        have fE : Fr (fun b => wo.heap.size ≤ b) (fun b => wo.heap.size ≤ b) wc (wc.alloc (.cells #[.int .i64 comb, .string ⟨#[97]⟩, .slice qi li.length ci, .slice qk lk.length ck, nilV, nilV] 32)) := Fr.of_below bE (fun _ hb _ => hb)
        have hcpE : CpT (SelsAt 0 (fun b => wo.heap.size ≤ b) (wc.alloc (.cells #[.int .i64 comb, .string ⟨#[97]⟩, .slice qi li.length ci, .slice qk lk.length ck, nilV, nilV] 32))) (fun b => wo.heap.size ≤ b) (wc.alloc (.cells #[.int .i64 comb, .string ⟨#[97]⟩, .slice qi li.length ci, .slice qk lk.length ck, nilV, nilV] 32)) [.string ⟨#[97]⟩, .slice qi li.length ci, .slice qk lk.length ck, nilV, nilV] (.mk aT li lk [] []) := ⟨_, _, _, _, rfl, FinRow.fr hsi fE (fun _ _ h => h), FinRow.fr hsk fE (fun _ _ h => h), FinRow.nil _ _ _ _, FinRow.nil _ _ _ _⟩
        have hR4 : (wc.alloc (.cells #[.int .i64 comb, .string ⟨#[97]⟩, .slice qi li.length ci, .slice qk lk.length ck, nilV, nilV] 32)).ownsRow w1.heap.size 32 6 (.slice qy k cy) k css.flatten := owns_same r1 (fun g hg => bE.block g (owns_lt r1 hg).2)
        have H1 : ∀ u ∈ ([.int .i64 comb, .string ⟨#[97]⟩, .slice qi li.length ci, .slice qk lk.length ck, nilV, nilV] : List Value), u.oneCell' = true := fun u hu => by simp at hu; rcases hu with rfl | rfl | rfl | rfl | rfl <;> rfl
        have m1 : k + 1 ≤ maxLen := by unfold maxLen; omega
        have m2 : (k + 1) * 120 ≤ 140737488355328 := by omega
        have hSZ : w1.heap.size ≤ (wc.alloc (.cells #[.int .i64 comb, .string ⟨#[97]⟩, .slice qi li.length ci, .slice qk lk.length ck, nilV, nilV] 32)).heap.size := by rw [World.size_alloc]; have := S.q.lt; omega
        have HB7 : Hid (∀ w7, (wc.alloc (.cells #[.int .i64 comb, .string ⟨#[97]⟩, .slice qi li.length ci, .slice qk lk.length ck, nilV, nilV] 32)).grownBy w7 (Value.slice qy k cy).ownBlock → Blk w7 w1.heap.size 25 [.slice qy k cy]) := fun w7 hg => (S.below bE).q.kept hg (fun e => (S.below bE).r.off (S.below bE).q (by decide) e.symm)
        have HF : Hid (∀ (w7 : World) (g7 c7 : Nat), w7.ownsRow w1.heap.size 32 6 (.slice (some ⟨g7, 0, none⟩) (k + 1) c7) (k + 1) (css.flatten ++ [.int .i64 comb, .string ⟨#[97]⟩, .slice qi li.length ci, .slice qk lk.length ck, nilV, nilV]) → (wc.alloc (.cells #[.int .i64 comb, .string ⟨#[97]⟩, .slice qi li.length ci, .slice qk lk.length ck, nilV, nilV] 32)).grownBy w7 (Value.slice qy k cy).ownBlock → ((Value.slice qy k cy).ownBlock = some g7 ∨ g7 = (wc.alloc (.cells #[.int .i64 comb, .string ⟨#[97]⟩, .slice qi li.length ci, .slice qk lk.length ck, nilV, nilV] 32)).heap.size) → MnSt w1 (selM ni nc (k + 1)) (.slice (some ⟨g7, 0, none⟩) (k + 1) c7) (w7.setCell ⟨w1.heap.size, 0, none⟩ (.slice (some ⟨g7, 0, none⟩) (k + 1) c7))) := fun w7 g7 c7 hown hg hat => by
          rw [show selM ni nc (k + 1) = _ from HSM]
          exact S.push bE r2 r3 r4 (cells := [.string ⟨#[97]⟩, .slice qi li.length ci, .slice qk lk.length ck, nilV, nilV]) rfl hcpE hQw hmy (by rw [selM_len]; exact hown) hg (fun g hg' => by rw [slot_own hg']; exact hat.imp id (fun h => by rw [h]; exact Nat.le_refl _))
        clear S bE fE r1 r2 r3 r4 kX hsi hsk hcpE bX HSM
        go_wp2_with (at_builtin; refine wpList_append_lies (wc.alloc (.cells #[.int .i64 comb, .string ⟨#[97]⟩, .slice qi li.length ci, .slice qk lk.length ck, nilV, nilV] 32)) rfl _ _ 23 rfl w1.heap.size 32 i0 (.agg #[.int .i64 0, .string ⟨#[]⟩, .slice none 0 0, .slice none 0 0, .slice none 0 0, .slice none 0 0]) 6 120 Try.underlying23 hi hz0 hz1 hz2 rfl (by decide) (.slice qy k cy) _ _ rfl hR4 ⟨wc.heap.size, 0, none⟩ 1 1 [.int .i64 comb, .string ⟨#[97]⟩, .slice qi li.length ci, .slice qk lk.length ck, nilV, nilV] rfl rfl (cells_plain wc [.int .i64 comb, .string ⟨#[97]⟩, .slice qi li.length ci, .slice qk lk.length ck, nilV, nilV] 32) H1 (by decide) m1 m2 hSZ _ rfl ?_; intro g7 c7 w7 hown7 hgrow7 hat7 hlt7; obtain ⟨y0, e0⟩ := blk1 ((show ∀ w7, _ → _ from HB7) w7 hgrow7))
        have S7 := (show ∀ (w7 : World) (g7 c7 : Nat), _ → _ → _ → _ from HF) _ _ _ hown7 hgrow7 hat7
        first
          | exact ⟨⟨k + 1, _, by go_num, by omega, S7⟩, by simp [intOf]; omega⟩
          | (refine ⟨?_, by simp [intOf]; omega⟩; (repeat apply Exists.intro); exact ⟨⟨k + 1, _, by go_num, by omega, S7⟩, rfl⟩)
    · have hki : ¬ (k : Int) < (nt : Int) := by omega
      obtain rfl : k = nt := by omega
      have hp := S.done
      have hcall := Wg.of_any _ _ _ hp
      rw [selM_weight ni nc k k4] at hcall
      obtain ⟨y0, _⟩ := blk1 S.q
      have bS := S.bl
      have l1 := least_any ni k1
      have l2 := least_any nc k2
      have l3 := least_any k k3
      clear S hp
      go_upto_region 20 with fail
      go_wp2_with fail
      refine hcall.mono ?_
      clear hcall y0
      rintro e w5 ⟨rfl, b5⟩
      have hA : min ni 255 ≤ 255 := by omega
      have hB : min nc 255 ≤ 255 := by omega
      have hC : min k 255 ≤ 255 := by omega
      have l1' := l1 w5
      have l2' := l2 w5
      have l3' := l3 w5
      clear l1 l2 l3
      generalize min ni 255 = A at *
      generalize min nc 255 = B at *
      generalize min k 255 = C at *
      have E1 : ((65536 * A + 256 * B + C : Nat) : Int) / 65536 = (A : Int) := by omega
      have E2 : bits BinOp.and IntKind.i64 (((65536 * A + 256 * B + C : Nat) : Int) / 256) 255 = (B : Int) := by
        rw [show ((65536 * A + 256 * B + C : Nat) : Int) / 256 = ((256 * A + B : Nat) : Int) by omega, and255 _ (by omega)]
        omega
      have E3 : bits BinOp.and IntKind.i64 ((65536 * A + 256 * B + C : Nat) : Int) 255 = (C : Int) := by
        rw [and255 _ (by omega)]
        omega
      generalize 65536 * A + 256 * B + C = N at *
      clear hA hB hC
      go_upto_region 21 with fail
      go_wp2_with fail
      refine l1'.mono ?_
      clear l1'
      rintro e w6 ⟨rfl, rfl⟩
      go_wp2_with fail
      refine l2'.mono ?_
      clear l2'
      rintro e w7 ⟨rfl, rfl⟩
      go_wp2_with fail
      refine l3'.mono ?_
      clear l3'
      rintro e w8 ⟨rfl, rfl⟩
      go_wp2
      go_ret
      exact ⟨rfl, below_next (below_next b1 bS) b5⟩

set_option maxRecDepth 100000 in
theorem weighMany_lifted (os : Os) (started : os.Started) (H : Type) (enc : TypeId × Value → H) :
    ReturnsInHanded {} Try.checked os 3 .any (Rows.weighManySpec.pre6 enc Try.prog Try.f3 Rows.weighManyRow.domain false) (Rows.weighManySpec.post enc Try.prog Try.f3 false true false false) := by
  refine returnsInHanded_of_change_sized (C := Try.checked) ownNone started (by kernel_rfl) Try.func3
    (ChangeSpec.witness6 (enc := enc) (C := Try.checked) false ⟨#[], #[.int .i64 0, .int .i64 0, .int .i64 0], []⟩ 8 (by kernel_rfl) (by kernel_rfl) (by kernel_rfl) (by kernel_rfl)) ?_
  intro W base args ds gs before hval hW _ hsz0 _
  have hW' := hW
  obtain ⟨p, q, hA0, hV, rfl, hfz, hnd⟩ := hW
  have hA : DataW.TrodAll enc Try.prog W 0 (fun _ => true) true Try.f3.params.toList args.toList ds p := hA0
  rw [Try.params3] at hA hval hsz0
  obtain ⟨v0, vs0, d0, ds0, p0, q0, hargs, rfl, rfl, h0, r0⟩ := trodAll_cons hA
  obtain ⟨v1, vs1, d1, ds1, p1, q1, rfl, rfl, rfl, h1, r1⟩ := trodAll_cons r0
  obtain ⟨v2, vs2, d2, ds2, p2, q2, rfl, rfl, rfl, h2, r2⟩ := trodAll_cons r1
  obtain ⟨rfl, rfl, rfl⟩ := trodAll_nil r2
  obtain rfl : args = #[v0, v1, v2] := by cases args; simp_all
  obtain ⟨rfl, rfl⟩ := trodVars_none hV
  obtain ⟨a0, rfl, rfl, rfl, w0⟩ := open_int Try.underlying3 (hval 0 3 v0 rfl rfl) h0
  obtain ⟨a1, rfl, rfl, rfl, w1⟩ := open_int Try.underlying3 (hval 1 3 v1 rfl rfl) h1
  obtain ⟨a2, rfl, rfl, rfl, w2⟩ := open_int Try.underlying3 (hval 2 3 v2 rfl rfl) h2
  clear hA0
  refine (weighMany_walk W a0 w0 a1 w1 a2 w2).mono fun e W' ⟨he, bel⟩ => ?_
  subst he
  exact ⟨_, rfl, _, _, _, [], _, [], hW', trodAll_mk1 (shut_bool Try.underlying4 _), (trodAll_cons_mk (shut_int Try.underlying3 w0) (trodAll_cons_mk (shut_int Try.underlying3 w1) (trodAll_cons_mk (shut_int Try.underlying3 w2) trodAll_mk0))), rfl, bel.frame _, fun h => by cases h⟩

theorem weighMany_said : Rows.WeighManySaid :=
  OpenClaim.holds_of_wide 3 Try.f3 rfl rfl rfl rfl rfl rfl rfl ⟨rfl, rfl, rfl, rfl, rfl⟩ rfl rfl rfl rfl rfl (by kernel_rfl) Try.func3 (by kernel_rfl)
    (of_decide_eq_true (by kernel_rfl)) (by unfold Func.isWrapper; first | (rw [if_pos (by decide +kernel)]; kernel_rfl) | (rw [if_neg (by decide +kernel)]; exact ⟨rfl, rfl⟩))
    (fun os started H enc _ => weighMany_lifted os started H enc)
#print axioms weighMany_said


end Go.Proofs.Ytgjjedodbgimfaa

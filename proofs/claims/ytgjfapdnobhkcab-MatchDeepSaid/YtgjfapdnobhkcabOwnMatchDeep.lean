/- For every two integers: the law tapestrierlaw10.MatchDeep returns true; no condition. -/
import Derived.Test.YtgjfapdnobhkcabMtBare
import Derived.Test.YtgjfapdnobhkcabDmArgs
import Derived.Test.YtgjfapdnobhkcabRows
namespace Go.Proofs.Ytgjfapdnobhkcab
open Go Go.ChangeShapes Go.WideShapes Go.ChangeAt Go.RowKit Dm Mt
open Go.ChangeMaps (open_string shut_string)

def chainV : Nat → List Nv
  | 0 => []
  | m + 1 => chainV m ++ [bare ((m : Int) - 1)]
theorem chainV_len : ∀ m, (chainV m).length = m
  | 0 => rfl
  | m + 1 => by
    show (chainV m ++ [bare ((m : Int) - 1)]).length = _
    rw [List.length_append, chainV_len m]
    rfl
theorem chainV_nd : ∀ m, (chainV m).map Nv.nd = chainN m
  | 0 => rfl
  | m + 1 => by
    show (chainV m ++ [bare ((m : Int) - 1)]).map Nv.nd = chainN m ++ [bareN ((m : Int) - 1)]
    rw [List.map_append, chainV_nd m]
    rfl
theorem chainV_bare : ∀ m, ∀ n ∈ chainV m, ∃ p, n = bare p
  | 0, n, h => by cases h
  | m + 1, n, h => by
    rcases List.mem_append.1 h with h | h
    · exact chainV_bare m n h
    · exact ⟨_, List.mem_singleton.1 h⟩
theorem chainV_at : ∀ m j, j < m → (chainV m)[j]? = some (bare ((j : Int) - 1))
  | 0, _, h => by omega
  | m + 1, j, h => by
    show (chainV m ++ [bare ((m : Int) - 1)])[j]? = _
    by_cases hj : j < m
    · rw [List.getElem?_append_left (by rw [chainV_len]; exact hj)]
      exact chainV_at m j hj
    · obtain rfl : j = m := by omega
      rw [List.getElem?_append_right (by rw [chainV_len]; exact Nat.le_refl _), chainV_len, Nat.sub_self]
      rfl
theorem nodes_own {W : World} {b : Nat} {v : Value} {l : List Nv} (h : W.ownsRow b 28 5 v l.length (l.flatMap nvCells)) (hc : ∀ n ∈ l, StrsAt W.heap.size W n.cv n.nd.cls) (ha : ∀ n ∈ l, PairsAt W.heap.size W n.av n.nd.ats) : NodesAt W.heap.size W v l :=
  ⟨SlAt.of_owns (sz := 5) (f := nvCells) (fun _ => rfl) h, hc, ha⟩
/-- The first so many of them. -/
theorem chain_cut {n : Nat} {W : World} {b off c m k : Nat} (h : NodesAt n W (.slice (some ⟨b, off, none⟩) m c) (chainV m)) (h0 : 0 < k) (hk : k ≤ m) : NodesAt n W (.slice (some ⟨b, off, none⟩) k c) (chainV k) := by
  refine ⟨?_, fun x hx => by obtain ⟨p, rfl⟩ := chainV_bare k x hx; exact strs_nil _ _, fun x hx => by obtain ⟨p, rfl⟩ := chainV_bare k x hx; exact pairs_nil _ _⟩
  rcases h.row with ⟨h1, _⟩ | ⟨bk, o, cap, e, h1, h2, h3, h4⟩
  · have := congrArg List.length h1
    rw [chainV_len] at this
    simp at this
    omega
  · rw [chainV_len] at h1 e
    cases e
    refine .inr ⟨b, off, c, by rw [chainV_len], by rw [chainV_len]; omega, h2, h3, fun j x hx => ?_⟩
    have hj : j < k := by have := (List.getElem?_eq_some_iff.1 hx).1; rwa [chainV_len] at this
    rw [chainV_at k j hj] at hx
    exact h4 j x (by rw [chainV_at m j (by omega)]; exact hx)

def partC : List Value := [.int .i64 2, .string ⟨#[]⟩, .slice none 0 0, .slice none 0 0, .slice none 0 0, .slice none 0 0]
theorem infoPart : (Try.prog.info? 58).map (fun i => (i.zero, i.size, i.bytes)) = some (some (.agg #[.int .i64 0, .string ⟨#[]⟩, .slice none 0 0, .slice none 0 0, .slice none 0 0, .slice none 0 0]), 6, 120) := by kernel_rfl
/-- A chain's parts in a row. -/
theorem parts_chain {n k : Nat} {W : World} {v : Value} (h : SlAt 6 (fun _ : Pt => partC) n W v (chS k)) : PartsAt 0 n W v (chS k) := by
  rcases h with ⟨h1, h2⟩ | ⟨bk, off, cap, e, h1, h2, h3, h4⟩
  · refine .inl ⟨h1, ?_⟩
    rcases h2 with rfl | ⟨x, c, rfl, _⟩
    · exact ⟨_, _, rfl⟩
    · exact ⟨_, _, rfl⟩
  · refine .inr ⟨bk, off, cap, e, h1, h2, h3, fun j x hx => ?_⟩
    have hx2 : x = (2, zeroCp) := by
      have := List.mem_of_getElem? hx
      exact List.eq_of_mem_replicate this
    subst hx2
    exact ⟨partC, rfl, ⟨_, rfl, cp_zero _ _ _, ⟨by decide, by decide⟩⟩, fun i u hu => h4 j _ hx i u hu⟩

set_option maxRecDepth 100000 in
set_option maxHeartbeats 1000000 in
theorem matchDeep_walk (w : World) (a : Int) (_ha : (Lit.int .i64 a).wf = true) (b : Int) (_hb : (Lit.int .i64 b).wf = true) :
    Calls Try.prog 7 #[.int .i64 a, .int .i64 b] w fun e w' => e = .returned (.bool true) ∧ Below w.heap.size w w' := by
  obtain ⟨i0, hi, hz0, hz1, hz2⟩ := info_parts infoNode
  obtain ⟨j0, hj, hx0, hx1, hx2⟩ := info_parts infoPart
  have h0 := Mt.alive_any w
  go_enter Try.func7, Try.ntmps7
  go_wp2_with fail
  refine h0.mono ?_
  clear h0
  rintro e w1 ⟨rfl, b1⟩
  by_cases g1 : a < 0
  · go_wp2
    go_ret
    exact ⟨rfl, b1⟩
  have g1' : decide (a < 0) = false := decide_eq_false g1
  by_cases g2 : 12 < a
  · go_wp2
    go_ret
    exact ⟨rfl, b1⟩
  have g2' : decide (12 < a) = false := decide_eq_false g2
  by_cases g3 : b < 1
  · go_wp2
    go_ret
    exact ⟨rfl, b1⟩
  have g3' : decide (b < 1) = false := decide_eq_false g3
  by_cases g4 : 60 < b
  · go_wp2
    go_ret
    exact ⟨rfl, b1⟩
  have g4' : decide (60 < b) = false := decide_eq_false g4
  obtain ⟨N, rfl⟩ : ∃ N : Nat, a = (N : Int) := ⟨a.toNat, by omega⟩
  obtain ⟨M, rfl⟩ : ∃ M : Nat, b = (M : Int) := ⟨b.toNat, by omega⟩
  have hN : N ≤ 12 := by omega
  have hM1 : 1 ≤ M := by omega
  have hM2 : M ≤ 60 := by omega
  clear g1 g2 g3 g4
  go_wp2
  clear g1' g2' g3' g4'
  go_loopw [6, 7] (fun x y wr => ∃ (k : Nat) (out : Value), x = out ∧ y = .int .i64 k ∧ k ≤ M ∧ wr.ownsRow w1.heap.size 28 5 out k ((chainV k).flatMap nvCells) ∧ Below w1.heap.size w1 wr) (fun _ y _ => M - (intOf y).toNat)
  case atStart => exact ⟨0, _, rfl, rfl, Nat.zero_le _, World.ownsRow_nil _ _ _ _, Below.refl _ _⟩
  case round =>
    obtain ⟨k, out, rfl, rfl, hk, hr, hb⟩ := hrel
    have hsz := hb.size
    obtain ⟨q, c, rfl⟩ := owns_form hr
    by_cases hlt : k < M
    · have hki : (k : Int) < (M : Int) := by omega
      have hw : IntKind.i64.wrap ((k : Int) - 1) = (k : Int) - 1 := by rw [IntKind.wrap_i64]; omega
      have HA : ∀ u ∈ nvCells (bare ((k : Int) - 1)), u.oneCell' = true := fun u hu => by simp [nvCells, bare] at hu; rcases hu with rfl | rfl | rfl | rfl | rfl <;> rfl
      have rA := hr.alloc (.cells #[.int .i64 ((k : Int) - 1), .string ⟨#[]⟩, .string ⟨#[]⟩, .slice none 0 0, .slice none 0 0] 28)
      have hsA : w1.heap.size ≤ (wr.alloc (.cells #[.int .i64 ((k : Int) - 1), .string ⟨#[]⟩, .string ⟨#[]⟩, .slice none 0 0, .slice none 0 0] 28)).heap.size := by rw [World.size_alloc]; omega
      go_wp2_with (at_builtin; refine wpList_append_own _ rfl _ _ 29 rfl w1.heap.size 28 i0 (.agg #[.int .i64 0, .string ⟨#[]⟩, .string ⟨#[]⟩, .slice none 0 0, .slice none 0 0]) 5 88 Try.underlying29 hi hz0 hz1 hz2 rfl (by decide) (.slice q k c) _ _ rfl rA ⟨wr.heap.size, 0, none⟩ 1 1 (nvCells (bare ((k : Int) - 1))) rfl rfl (cells_plain wr (nvCells (bare ((k : Int) - 1))) _) HA (by unfold maxLen; omega) (by omega) hsA ?_; intro v4 w4 hown4 hgrow4 hnil4)
      have hb4 : Below w1.heap.size w1 w4 := (hb.alloc hsz _).grown hgrow4 hsA (fun j e => (owns_lt rA e).1)
      have hown5 : w4.ownsRow w1.heap.size 28 5 v4 (k + 1) ((chainV (k + 1)).flatMap nvCells) := by
        show w4.ownsRow _ _ _ _ _ ((chainV k ++ [bare ((k : Int) - 1)]).flatMap nvCells)
        rw [List.flatMap_append]
        simpa using hown4
      exact ⟨⟨k + 1, v4, rfl, by go_num, by omega, hown5, hb4⟩, by simp [intOf]; omega⟩
    · have hki : ¬ (k : Int) < (M : Int) := by omega
      obtain rfl : k = M := by omega
      have hnodes : NodesAt wr.heap.size wr (.slice q k c) (chainV k) := nodes_own (b := w1.heap.size) (by rw [chainV_len]; exact hr) (fun n h => by obtain ⟨p, rfl⟩ := chainV_bare k n h; exact strs_nil _ _) (fun n h => by obtain ⟨p, rfl⟩ := chainV_bare k n h; exact pairs_nil _ _)
      obtain ⟨bk, off, rfl, hbk, hcap, hmx, _⟩ := hnodes.row.get (chainV_at k 0 (by omega))
      rw [chainV_len] at hcap
      unfold maxLen at hmx
      have bb := below_next b1 hb
      clear hr hb hsz b1
      by_cases hcut : 40 < k
      · have hcut' : (40 : Int) < (k : Int) := by omega
        have hc40 : 40 ≤ c := by omega
        obtain ⟨es, hV, hel, hpar⟩ := path_par (m := 40) (by omega)
        have h2 := trees_bare _ (chainV 40) es wr (chain_cut hnodes (by omega) (by omega)) (chainV_bare 40) (by rw [chainV_len]; omega) (by rw [chainV_nd]; exact hV)
        have Q1 : Hid (selectorV es 0 (isS N) = decide (N ≤ 8)) := isS_is es (by omega) N (by omega)
        have Q2 : Hid (selectorV es ((40 : Nat) - 1 : Int) (chS k) = decide (k ≤ 40)) := chS_is (p := k) hpar hel (by omega) (by omega) (by omega)
        clear hV hel hpar hnodes
        go_wp2_with fail
        refine h2.mono ?_
        clear h2
        rintro e w3 ⟨⟨tb, rb, rfl, hG⟩, b3⟩
        have bb3 := below_next bb b3
        clear b3 bb
        obtain ⟨P, hP⟩ : ∃ P, w3.alloc (.cells #[.int .i64 0, .string ⟨#[]⟩, .slice none 0 0, .slice none 0 0, .slice none 0 0, .slice none 0 0] 58) = P := ⟨_, rfl⟩
        have bP : Below w3.heap.size w3 P := by rw [← hP]; exact (Below.refl _ _).alloc (Nat.le_refl _) _
        have kP : Blk P w3.heap.size 58 [.int .i64 0, .string ⟨#[]⟩, .slice none 0 0, .slice none 0 0, .slice none 0 0, .slice none 0 0] := by rw [← hP]; exact Blk.new w3 58 [.int .i64 0, .string ⟨#[]⟩, .slice none 0 0, .slice none 0 0, .slice none 0 0, .slice none 0 0]
        have sP : P.heap.size = w3.heap.size + 1 := by rw [← hP, World.size_alloc]
        obtain ⟨R, hR⟩ : ∃ R, P.alloc (.cells #[.slice (some ⟨w3.heap.size, 0, none⟩) 1 1] 61) = R := ⟨_, rfl⟩
        have bR : Below P.heap.size P R := by rw [← hR]; exact (Below.refl _ _).alloc (Nat.le_refl _) _
        have kR : Blk R P.heap.size 61 [.slice (some ⟨w3.heap.size, 0, none⟩) 1 1] := by rw [← hR]; exact Blk.new P 61 _
        have HG : Hid (Mt.Good w3 tb es) := hG
        have START : Hid (Blk R P.heap.size 61 [.slice (some ⟨w3.heap.size, 0, none⟩) 1 1] ∧ DeepAt P.heap.size 0 R (.slice (some ⟨w3.heap.size, 0, none⟩) 1 1) ∧ Below w3.heap.size w3 R) := ⟨kR, ⟨_, rfl, by omega, kP.next bR⟩, below_next bP bR⟩
        have hBw : w3.heap.size ≤ P.heap.size := by omega
        clear hG bP kP sP bR kR
        go_wp2
        clear hR hP
        go_loopw [12] (fun y wq => ∃ (i : Nat) (sv : Value), y = .int .i64 i ∧ i ≤ N ∧ Blk wq P.heap.size 61 [sv] ∧ DeepAt P.heap.size i wq sv ∧ Below w3.heap.size w3 wq) (fun y _ => N - (intOf y).toNat)
        case atStart => exact ⟨0, _, rfl, Nat.zero_le _, START.out.1, START.out.2.1, START.out.2.2⟩
        case round =>
          rename World => wq
          clear START
          obtain ⟨i, sv, rfl, hi12, kB, hD, bq⟩ := hrel
          obtain ⟨sb, rfl⟩ := hD.form
          have hBlt := kB.lt
          by_cases hil : i < N
          · have hii : (i : Int) < (N : Int) := by omega
            obtain ⟨X1, hX1⟩ : ∃ X1, wq.alloc (.cells #[.slice (some ⟨sb, 0, none⟩) 1 1] 61) = X1 := ⟨_, rfl⟩
            have c1 : Below wq.heap.size wq X1 := by rw [← hX1]; exact (Below.refl _ _).alloc (Nat.le_refl _) _
            have k1 : Blk X1 wq.heap.size 61 [.slice (some ⟨sb, 0, none⟩) 1 1] := by rw [← hX1]; exact Blk.new wq 61 _
            obtain ⟨X2, hX2⟩ : ∃ X2, X1.alloc (.cells #[.int .i64 8, .int .i64 0, .int .i64 0, .slice (some ⟨wq.heap.size, 0, none⟩) 1 1] 54) = X2 := ⟨_, rfl⟩
            have c2 : Below X1.heap.size X1 X2 := by rw [← hX2]; exact (Below.refl _ _).alloc (Nat.le_refl _) _
            have k2 : Blk X2 X1.heap.size 54 [.int .i64 8, .int .i64 0, .int .i64 0, .slice (some ⟨wq.heap.size, 0, none⟩) 1 1] := by rw [← hX2]; exact Blk.new X1 54 [.int .i64 8, .int .i64 0, .int .i64 0, .slice (some ⟨wq.heap.size, 0, none⟩) 1 1]
            obtain ⟨X3, hX3⟩ : ∃ X3, X2.alloc (.cells #[.int .i64 0, .string ⟨#[]⟩, .slice none 0 0, .slice none 0 0, .slice none 0 0, .slice (some ⟨X1.heap.size, 0, none⟩) 1 1] 58) = X3 := ⟨_, rfl⟩
            have c3 : Below X2.heap.size X2 X3 := by rw [← hX3]; exact (Below.refl _ _).alloc (Nat.le_refl _) _
            have k3 : Blk X3 X2.heap.size 58 [.int .i64 0, .string ⟨#[]⟩, .slice none 0 0, .slice none 0 0, .slice none 0 0, .slice (some ⟨X1.heap.size, 0, none⟩) 1 1] := by rw [← hX3]; exact Blk.new X2 58 [.int .i64 0, .string ⟨#[]⟩, .slice none 0 0, .slice none 0 0, .slice none 0 0, .slice (some ⟨X1.heap.size, 0, none⟩) 1 1]
            have s1 := c1.size
            have s2 := c2.size
            have s3 := c3.size
            have c13 : Below wq.heap.size wq X3 := below_next (below_next c1 c2) c3
            have kB3 := kB.next c13
            have kB4 := blk_put kB3 0 (.slice (some ⟨X2.heap.size, 0, none⟩) 1 1)
            have g4 := grown_set X3 P.heap.size 0 (.slice (some ⟨X2.heap.size, 0, none⟩) 1 1)
            have hX4 : ∀ x, x ≠ P.heap.size → x < X3.heap.size → (X3.setCell ⟨P.heap.size, 0, none⟩ (.slice (some ⟨X2.heap.size, 0, none⟩) 1 1)).heap[x]? = X3.heap[x]? := fun x hx hl => g4.block x hl (fun e => hx (by cases e; rfl))
            have d4 : DeepAt P.heap.size (i + 1) (X3.setCell ⟨P.heap.size, 0, none⟩ (.slice (some ⟨X2.heap.size, 0, none⟩) 1 1)) (.slice (some ⟨X2.heap.size, 0, none⟩) 1 1) :=
              DeepAt.kept ⟨X2.heap.size, X1.heap.size, wq.heap.size, _, rfl, by omega, by omega, by omega, k3, k2.next c3, k1.next (below_next c2 c3), hD.kept (fun x _ hl => c13.block x hl)⟩ hX4
            have b4 : Below w3.heap.size w3 (X3.setCell ⟨P.heap.size, 0, none⟩ (.slice (some ⟨X2.heap.size, 0, none⟩) 1 1)) := Dm.below_grown (below_next bq c13) g4 (below_next bq c13).size hBw
            have FIN : Hid (Blk _ P.heap.size 61 [.slice (some ⟨X2.heap.size, 0, none⟩) 1 1] ∧ _ ∧ _) := ⟨kB4, d4, b4⟩
            obtain ⟨y0, _⟩ := blk1 kB
            obtain ⟨y3, f3⟩ := blk1 kB3
            clear kB hD bq c1 k1 c2 k2 c3 k3 s1 s2 s3 c13 kB3 kB4 g4 hX4 d4 b4
            go_wp2
            exact ⟨⟨i + 1, _, by go_num, by omega, FIN.out.1, FIN.out.2.1, FIN.out.2.2⟩, by simp [intOf]; omega⟩
          · have hii : ¬ (i : Int) < (N : Int) := by omega
            obtain rfl : i = N := by omega
            obtain ⟨Z, hZ⟩ : ∃ Z, wq.alloc (.cells #[.slice none 0 0] 61) = Z := ⟨_, rfl⟩
            have bZ : Below wq.heap.size wq Z := by rw [← hZ]; exact (Below.refl _ _).alloc (Nat.le_refl _) _
            have kZ : Blk Z wq.heap.size 61 [.slice none 0 0] := by rw [← hZ]; exact Blk.new wq 61 _
            have sZ : wq.heap.size < Z.heap.size := kZ.lt
            have HD : Hid (DeepAt P.heap.size i wq (.slice (some ⟨sb, 0, none⟩) 1 1)) := hD
            have HB : Hid (Blk wq P.heap.size 61 [.slice (some ⟨sb, 0, none⟩) 1 1]) := kB
            have HBQ : Hid (Below w3.heap.size w3 wq) := bq
            have START : Hid (Blk Z wq.heap.size 61 [.slice none 0 0] ∧ Below wq.heap.size wq Z) := ⟨kZ, bZ⟩
            clear hD kB bq kZ bZ
            go_wp2
            clear hZ
            go_loopw [14] (fun y wz => ∃ (j : Nat) (cv : Value), y = .int .i64 j ∧ j ≤ k ∧ Blk wz wq.heap.size 61 [cv] ∧ wz.ownsRow Z.heap.size 58 6 cv j ((chS j).flatMap (fun _ => partC)) ∧ Below wq.heap.size wq wz ∧ Z.heap.size ≤ wz.heap.size) (fun y _ => k - (intOf y).toNat)
            case atStart => exact ⟨0, _, rfl, Nat.zero_le _, START.out.1, World.ownsRow_nil _ _ _ _, START.out.2, Nat.le_refl _⟩
            case round =>
              rename World => wz
              clear START
              obtain ⟨j, cv, rfl, hjk, kC, hr, bz, hzs⟩ := hrel
              obtain ⟨q2, c2, rfl⟩ := owns_form hr
              by_cases hjl : j < k
              · have hji : (j : Int) < (k : Int) := by omega
                have HA : ∀ u ∈ partC, u.oneCell' = true := fun u hu => by simp [partC] at hu; rcases hu with rfl | rfl | rfl | rfl | rfl | rfl <;> rfl
                have rA := hr.alloc (.cells #[.int .i64 2, .string ⟨#[]⟩, .slice none 0 0, .slice none 0 0, .slice none 0 0, .slice none 0 0] 58)
                have bA : Below wz.heap.size wz (wz.alloc (.cells #[.int .i64 2, .string ⟨#[]⟩, .slice none 0 0, .slice none 0 0, .slice none 0 0, .slice none 0 0] 58)) := (Below.refl _ _).alloc (Nat.le_refl _) _
                have hsA : Z.heap.size ≤ (wz.alloc (.cells #[.int .i64 2, .string ⟨#[]⟩, .slice none 0 0, .slice none 0 0, .slice none 0 0, .slice none 0 0] 58)).heap.size := by rw [World.size_alloc]; omega
                have KEEP : Hid (∀ w4, (wz.alloc (.cells #[.int .i64 2, .string ⟨#[]⟩, .slice none 0 0, .slice none 0 0, .slice none 0 0, .slice none 0 0] 58)).grownBy w4 (Value.slice q2 j c2).ownBlock → Blk w4 wq.heap.size 61 [.slice q2 j c2]) := fun w4 hg => (kC.next bA).kept hg (fun e => by have := (owns_lt rA e.symm).1; omega)
                obtain ⟨y0, _⟩ := blk1 kC
                go_wp2_with (at_builtin; refine wpList_append_own _ rfl _ _ 59 rfl Z.heap.size 58 j0 (.agg #[.int .i64 0, .string ⟨#[]⟩, .slice none 0 0, .slice none 0 0, .slice none 0 0, .slice none 0 0]) 6 120 Try.underlying59 hj hx0 hx1 hx2 rfl (by decide) (.slice q2 j c2) _ _ rfl rA ⟨wz.heap.size, 0, none⟩ 1 1 partC rfl rfl (cells_plain wz partC _) HA (by unfold maxLen; omega) (by omega) hsA ?_; intro v4 w4 hown4 hgrow4 hnil4; obtain ⟨q4, c4, rfl⟩ := owns_form hown4; obtain ⟨y4, f4⟩ := blk1 (KEEP.out w4 hgrow4))
                have kC4 := KEEP.out w4 hgrow4
                have b4 : Below wq.heap.size wq w4 := (below_next bz bA).grown hgrow4 (below_next bz bA).size (fun r e => by have := (owns_lt rA e).1; omega)
                have g5 := grown_set w4 wq.heap.size 0 (.slice q4 (j + 1) c4)
                have k5 := blk_put kC4 0 (.slice q4 (j + 1) c4)
                have b5 := Dm.below_grown b4 g5 b4.size (Nat.le_refl _)
                have s4 : Z.heap.size ≤ w4.heap.size := Nat.le_trans hsA hgrow4.size
                have hown5 : w4.ownsRow Z.heap.size 58 6 (.slice q4 (j + 1) c4) (j + 1) ((chS (j + 1)).flatMap (fun _ => partC)) := by
                  have hc : chS (j + 1) = chS j ++ [(2, zeroCp)] := List.replicate_succ'
                  rw [hc, List.flatMap_append]
                  simpa using hown4
                have hown6 := hown5.kept g5 (.inr (fun e => by have := (owns_lt hown5 e).1; omega))
                exact ⟨⟨j + 1, _, by go_num, by omega, k5, hown6, b5, Nat.le_trans s4 g5.size⟩, by simp [intOf]; omega⟩
              · have hji : ¬ (j : Int) < (k : Int) := by omega
                obtain rfl : j = k := by omega
                have hcl : (chS j).length = j := List.length_replicate
                have hPC : PartsAt 0 wz.heap.size wz (.slice q2 j c2) (chS j) := parts_chain (SlAt.of_owns (b := Z.heap.size) (e := 58) (fun _ => rfl) (by rw [hcl]; exact hr))
                have hDz : DeepAt P.heap.size i wz (.slice (some ⟨sb, 0, none⟩) 1 1) := HD.out.kept (fun x _ hl => bz.block x hl)
                have q1 := (HG.out.next (below_next HBQ.out bz)).sel 0 i _ _ hDz.parts
                rw [Q1.out] at q1
                have Q3 : Hid (∀ X, Below wz.heap.size wz X → Calls Try.prog 19 #[.pointer (some ⟨tb, 0, none⟩), .int .i64 ((40 : Nat) - 1 : Int), .agg #[.slice q2 j c2]] X fun r w' => r = .returned (.bool (decide (j ≤ 40))) ∧ Below X.heap.size X w') := fun X hX => by
                  have q := (HG.out.next (below_next (below_next HBQ.out bz) hX)).sel ((40 : Nat) - 1 : Int) 0 _ _ (hPC.next hX)
                  rw [Q2.out] at q
                  exact q
                obtain ⟨y0, _⟩ := blk1 (HB.out.next bz)
                have KC : Hid (Blk wz wq.heap.size 61 [.slice q2 j c2]) := kC
                have bbz := below_next bb3 (below_next HBQ.out bz)
                obtain ⟨r1, hr1⟩ : ∃ r1, decide (i ≤ 8) = r1 := ⟨_, rfl⟩
                obtain ⟨r2, hr2⟩ : ∃ r2, decide (j ≤ 40) = r2 := ⟨_, rfl⟩
                have hr1' : decide ((i : Int) ≤ 8) = r1 := by rw [← hr1]; exact decide_eq_decide.2 (by omega)
                have hr2' : decide ((j : Int) ≤ 40) = r2 := by rw [← hr2]; exact decide_eq_decide.2 (by omega)
                rw [hr1] at q1
                rw [hr2] at Q3
                have e1 : (r1 == r1) = true := beq_self_eq_true _
                have e2 : (r2 == r2) = true := beq_self_eq_true _
                have hwl : IntKind.i64.wrap ((40 : Nat) - 1 : Int) = ((40 : Nat) - 1 : Int) := by rw [IntKind.wrap_i64]; omega
                clear hr hPC hDz kC bz hr1 hr2 hjl hcl Q1 Q2 HD HB HBQ HG hil
                go_wp2_with fail
                refine q1.mono ?_
                clear q1 y0
                rintro r x1 ⟨rfl, a1⟩
                obtain ⟨y1, _⟩ := blk1 (KC.out.next a1)
                have q2' := Q3.out x1 a1
                go_wp2_with fail
                refine q2'.mono ?_
                clear q2' y1
                rintro r x2 ⟨rfl, a2⟩
                have b9 := below_next bbz (below_next a1 a2)
                go_wp2
                go_ret
                exact ⟨rfl, b9⟩
      · have hcut' : ¬ (40 : Int) < (k : Int) := by omega
        obtain ⟨es, hV, hel, hpar⟩ := path_par (m := k) (by omega)
        have h2 := trees_bare _ (chainV k) es wr (chain_cut hnodes (by omega) (by omega)) (chainV_bare k) (by rw [chainV_len]; omega) (by rw [chainV_nd]; exact hV)
        have Q1 : Hid (selectorV es 0 (isS N) = decide (N ≤ 8)) := isS_is es (by omega) N (by omega)
        have Q2 : Hid (selectorV es ((k : Nat) - 1 : Int) (chS k) = decide (k ≤ 40)) := chS_is (p := k) hpar hel (by omega) (by omega) (by omega)
        clear hV hel hpar hnodes
        go_wp2_with fail
        refine h2.mono ?_
        clear h2
        rintro e w3 ⟨⟨tb, rb, rfl, hG⟩, b3⟩
        have bb3 := below_next bb b3
        clear b3 bb
        obtain ⟨P, hP⟩ : ∃ P, w3.alloc (.cells #[.int .i64 0, .string ⟨#[]⟩, .slice none 0 0, .slice none 0 0, .slice none 0 0, .slice none 0 0] 58) = P := ⟨_, rfl⟩
        have bP : Below w3.heap.size w3 P := by rw [← hP]; exact (Below.refl _ _).alloc (Nat.le_refl _) _
        have kP : Blk P w3.heap.size 58 [.int .i64 0, .string ⟨#[]⟩, .slice none 0 0, .slice none 0 0, .slice none 0 0, .slice none 0 0] := by rw [← hP]; exact Blk.new w3 58 [.int .i64 0, .string ⟨#[]⟩, .slice none 0 0, .slice none 0 0, .slice none 0 0, .slice none 0 0]
        have sP : P.heap.size = w3.heap.size + 1 := by rw [← hP, World.size_alloc]
        obtain ⟨R, hR⟩ : ∃ R, P.alloc (.cells #[.slice (some ⟨w3.heap.size, 0, none⟩) 1 1] 61) = R := ⟨_, rfl⟩
        have bR : Below P.heap.size P R := by rw [← hR]; exact (Below.refl _ _).alloc (Nat.le_refl _) _
        have kR : Blk R P.heap.size 61 [.slice (some ⟨w3.heap.size, 0, none⟩) 1 1] := by rw [← hR]; exact Blk.new P 61 _
        have HG : Hid (Mt.Good w3 tb es) := hG
        have START : Hid (Blk R P.heap.size 61 [.slice (some ⟨w3.heap.size, 0, none⟩) 1 1] ∧ DeepAt P.heap.size 0 R (.slice (some ⟨w3.heap.size, 0, none⟩) 1 1) ∧ Below w3.heap.size w3 R) := ⟨kR, ⟨_, rfl, by omega, kP.next bR⟩, below_next bP bR⟩
        have hBw : w3.heap.size ≤ P.heap.size := by omega
        clear hG bP kP sP bR kR
        go_wp2
        clear hR hP
        go_loopw [12] (fun y wq => ∃ (i : Nat) (sv : Value), y = .int .i64 i ∧ i ≤ N ∧ Blk wq P.heap.size 61 [sv] ∧ DeepAt P.heap.size i wq sv ∧ Below w3.heap.size w3 wq) (fun y _ => N - (intOf y).toNat)
        case atStart => exact ⟨0, _, rfl, Nat.zero_le _, START.out.1, START.out.2.1, START.out.2.2⟩
        case round =>
          rename World => wq
          clear START
          obtain ⟨i, sv, rfl, hi12, kB, hD, bq⟩ := hrel
          obtain ⟨sb, rfl⟩ := hD.form
          have hBlt := kB.lt
          by_cases hil : i < N
          · have hii : (i : Int) < (N : Int) := by omega
            obtain ⟨X1, hX1⟩ : ∃ X1, wq.alloc (.cells #[.slice (some ⟨sb, 0, none⟩) 1 1] 61) = X1 := ⟨_, rfl⟩
            have c1 : Below wq.heap.size wq X1 := by rw [← hX1]; exact (Below.refl _ _).alloc (Nat.le_refl _) _
            have k1 : Blk X1 wq.heap.size 61 [.slice (some ⟨sb, 0, none⟩) 1 1] := by rw [← hX1]; exact Blk.new wq 61 _
            obtain ⟨X2, hX2⟩ : ∃ X2, X1.alloc (.cells #[.int .i64 8, .int .i64 0, .int .i64 0, .slice (some ⟨wq.heap.size, 0, none⟩) 1 1] 54) = X2 := ⟨_, rfl⟩
            have c2 : Below X1.heap.size X1 X2 := by rw [← hX2]; exact (Below.refl _ _).alloc (Nat.le_refl _) _
            have k2 : Blk X2 X1.heap.size 54 [.int .i64 8, .int .i64 0, .int .i64 0, .slice (some ⟨wq.heap.size, 0, none⟩) 1 1] := by rw [← hX2]; exact Blk.new X1 54 [.int .i64 8, .int .i64 0, .int .i64 0, .slice (some ⟨wq.heap.size, 0, none⟩) 1 1]
            obtain ⟨X3, hX3⟩ : ∃ X3, X2.alloc (.cells #[.int .i64 0, .string ⟨#[]⟩, .slice none 0 0, .slice none 0 0, .slice none 0 0, .slice (some ⟨X1.heap.size, 0, none⟩) 1 1] 58) = X3 := ⟨_, rfl⟩
            have c3 : Below X2.heap.size X2 X3 := by rw [← hX3]; exact (Below.refl _ _).alloc (Nat.le_refl _) _
            have k3 : Blk X3 X2.heap.size 58 [.int .i64 0, .string ⟨#[]⟩, .slice none 0 0, .slice none 0 0, .slice none 0 0, .slice (some ⟨X1.heap.size, 0, none⟩) 1 1] := by rw [← hX3]; exact Blk.new X2 58 [.int .i64 0, .string ⟨#[]⟩, .slice none 0 0, .slice none 0 0, .slice none 0 0, .slice (some ⟨X1.heap.size, 0, none⟩) 1 1]
            have s1 := c1.size
            have s2 := c2.size
            have s3 := c3.size
            have c13 : Below wq.heap.size wq X3 := below_next (below_next c1 c2) c3
            have kB3 := kB.next c13
            have kB4 := blk_put kB3 0 (.slice (some ⟨X2.heap.size, 0, none⟩) 1 1)
            have g4 := grown_set X3 P.heap.size 0 (.slice (some ⟨X2.heap.size, 0, none⟩) 1 1)
            have hX4 : ∀ x, x ≠ P.heap.size → x < X3.heap.size → (X3.setCell ⟨P.heap.size, 0, none⟩ (.slice (some ⟨X2.heap.size, 0, none⟩) 1 1)).heap[x]? = X3.heap[x]? := fun x hx hl => g4.block x hl (fun e => hx (by cases e; rfl))
            have d4 : DeepAt P.heap.size (i + 1) (X3.setCell ⟨P.heap.size, 0, none⟩ (.slice (some ⟨X2.heap.size, 0, none⟩) 1 1)) (.slice (some ⟨X2.heap.size, 0, none⟩) 1 1) :=
              DeepAt.kept ⟨X2.heap.size, X1.heap.size, wq.heap.size, _, rfl, by omega, by omega, by omega, k3, k2.next c3, k1.next (below_next c2 c3), hD.kept (fun x _ hl => c13.block x hl)⟩ hX4
            have b4 : Below w3.heap.size w3 (X3.setCell ⟨P.heap.size, 0, none⟩ (.slice (some ⟨X2.heap.size, 0, none⟩) 1 1)) := Dm.below_grown (below_next bq c13) g4 (below_next bq c13).size hBw
            have FIN : Hid (Blk _ P.heap.size 61 [.slice (some ⟨X2.heap.size, 0, none⟩) 1 1] ∧ _ ∧ _) := ⟨kB4, d4, b4⟩
            obtain ⟨y0, _⟩ := blk1 kB
            obtain ⟨y3, f3⟩ := blk1 kB3
            clear kB hD bq c1 k1 c2 k2 c3 k3 s1 s2 s3 c13 kB3 kB4 g4 hX4 d4 b4
            go_wp2
            exact ⟨⟨i + 1, _, by go_num, by omega, FIN.out.1, FIN.out.2.1, FIN.out.2.2⟩, by simp [intOf]; omega⟩
          · have hii : ¬ (i : Int) < (N : Int) := by omega
            obtain rfl : i = N := by omega
            obtain ⟨Z, hZ⟩ : ∃ Z, wq.alloc (.cells #[.slice none 0 0] 61) = Z := ⟨_, rfl⟩
            have bZ : Below wq.heap.size wq Z := by rw [← hZ]; exact (Below.refl _ _).alloc (Nat.le_refl _) _
            have kZ : Blk Z wq.heap.size 61 [.slice none 0 0] := by rw [← hZ]; exact Blk.new wq 61 _
            have sZ : wq.heap.size < Z.heap.size := kZ.lt
            have HD : Hid (DeepAt P.heap.size i wq (.slice (some ⟨sb, 0, none⟩) 1 1)) := hD
            have HB : Hid (Blk wq P.heap.size 61 [.slice (some ⟨sb, 0, none⟩) 1 1]) := kB
            have HBQ : Hid (Below w3.heap.size w3 wq) := bq
            have START : Hid (Blk Z wq.heap.size 61 [.slice none 0 0] ∧ Below wq.heap.size wq Z) := ⟨kZ, bZ⟩
            clear hD kB bq kZ bZ
            go_wp2
            clear hZ
            go_loopw [14] (fun y wz => ∃ (j : Nat) (cv : Value), y = .int .i64 j ∧ j ≤ k ∧ Blk wz wq.heap.size 61 [cv] ∧ wz.ownsRow Z.heap.size 58 6 cv j ((chS j).flatMap (fun _ => partC)) ∧ Below wq.heap.size wq wz ∧ Z.heap.size ≤ wz.heap.size) (fun y _ => k - (intOf y).toNat)
            case atStart => exact ⟨0, _, rfl, Nat.zero_le _, START.out.1, World.ownsRow_nil _ _ _ _, START.out.2, Nat.le_refl _⟩
            case round =>
              rename World => wz
              clear START
              obtain ⟨j, cv, rfl, hjk, kC, hr, bz, hzs⟩ := hrel
              obtain ⟨q2, c2, rfl⟩ := owns_form hr
              by_cases hjl : j < k
              · have hji : (j : Int) < (k : Int) := by omega
                have HA : ∀ u ∈ partC, u.oneCell' = true := fun u hu => by simp [partC] at hu; rcases hu with rfl | rfl | rfl | rfl | rfl | rfl <;> rfl
                have rA := hr.alloc (.cells #[.int .i64 2, .string ⟨#[]⟩, .slice none 0 0, .slice none 0 0, .slice none 0 0, .slice none 0 0] 58)
                have bA : Below wz.heap.size wz (wz.alloc (.cells #[.int .i64 2, .string ⟨#[]⟩, .slice none 0 0, .slice none 0 0, .slice none 0 0, .slice none 0 0] 58)) := (Below.refl _ _).alloc (Nat.le_refl _) _
                have hsA : Z.heap.size ≤ (wz.alloc (.cells #[.int .i64 2, .string ⟨#[]⟩, .slice none 0 0, .slice none 0 0, .slice none 0 0, .slice none 0 0] 58)).heap.size := by rw [World.size_alloc]; omega
                have KEEP : Hid (∀ w4, (wz.alloc (.cells #[.int .i64 2, .string ⟨#[]⟩, .slice none 0 0, .slice none 0 0, .slice none 0 0, .slice none 0 0] 58)).grownBy w4 (Value.slice q2 j c2).ownBlock → Blk w4 wq.heap.size 61 [.slice q2 j c2]) := fun w4 hg => (kC.next bA).kept hg (fun e => by have := (owns_lt rA e.symm).1; omega)
                obtain ⟨y0, _⟩ := blk1 kC
                go_wp2_with (at_builtin; refine wpList_append_own _ rfl _ _ 59 rfl Z.heap.size 58 j0 (.agg #[.int .i64 0, .string ⟨#[]⟩, .slice none 0 0, .slice none 0 0, .slice none 0 0, .slice none 0 0]) 6 120 Try.underlying59 hj hx0 hx1 hx2 rfl (by decide) (.slice q2 j c2) _ _ rfl rA ⟨wz.heap.size, 0, none⟩ 1 1 partC rfl rfl (cells_plain wz partC _) HA (by unfold maxLen; omega) (by omega) hsA ?_; intro v4 w4 hown4 hgrow4 hnil4; obtain ⟨q4, c4, rfl⟩ := owns_form hown4; obtain ⟨y4, f4⟩ := blk1 (KEEP.out w4 hgrow4))
                have kC4 := KEEP.out w4 hgrow4
                have b4 : Below wq.heap.size wq w4 := (below_next bz bA).grown hgrow4 (below_next bz bA).size (fun r e => by have := (owns_lt rA e).1; omega)
                have g5 := grown_set w4 wq.heap.size 0 (.slice q4 (j + 1) c4)
                have k5 := blk_put kC4 0 (.slice q4 (j + 1) c4)
                have b5 := Dm.below_grown b4 g5 b4.size (Nat.le_refl _)
                have s4 : Z.heap.size ≤ w4.heap.size := Nat.le_trans hsA hgrow4.size
                have hown5 : w4.ownsRow Z.heap.size 58 6 (.slice q4 (j + 1) c4) (j + 1) ((chS (j + 1)).flatMap (fun _ => partC)) := by
                  have hc : chS (j + 1) = chS j ++ [(2, zeroCp)] := List.replicate_succ'
                  rw [hc, List.flatMap_append]
                  simpa using hown4
                have hown6 := hown5.kept g5 (.inr (fun e => by have := (owns_lt hown5 e).1; omega))
                exact ⟨⟨j + 1, _, by go_num, by omega, k5, hown6, b5, Nat.le_trans s4 g5.size⟩, by simp [intOf]; omega⟩
              · have hji : ¬ (j : Int) < (k : Int) := by omega
                obtain rfl : j = k := by omega
                have hcl : (chS j).length = j := List.length_replicate
                have hPC : PartsAt 0 wz.heap.size wz (.slice q2 j c2) (chS j) := parts_chain (SlAt.of_owns (b := Z.heap.size) (e := 58) (fun _ => rfl) (by rw [hcl]; exact hr))
                have hDz : DeepAt P.heap.size i wz (.slice (some ⟨sb, 0, none⟩) 1 1) := HD.out.kept (fun x _ hl => bz.block x hl)
                have q1 := (HG.out.next (below_next HBQ.out bz)).sel 0 i _ _ hDz.parts
                rw [Q1.out] at q1
                have Q3 : Hid (∀ X, Below wz.heap.size wz X → Calls Try.prog 19 #[.pointer (some ⟨tb, 0, none⟩), .int .i64 ((j : Nat) - 1 : Int), .agg #[.slice q2 j c2]] X fun r w' => r = .returned (.bool (decide (j ≤ 40))) ∧ Below X.heap.size X w') := fun X hX => by
                  have q := (HG.out.next (below_next (below_next HBQ.out bz) hX)).sel ((j : Nat) - 1 : Int) 0 _ _ (hPC.next hX)
                  rw [Q2.out] at q
                  exact q
                obtain ⟨y0, _⟩ := blk1 (HB.out.next bz)
                have KC : Hid (Blk wz wq.heap.size 61 [.slice q2 j c2]) := kC
                have bbz := below_next bb3 (below_next HBQ.out bz)
                obtain ⟨r1, hr1⟩ : ∃ r1, decide (i ≤ 8) = r1 := ⟨_, rfl⟩
                obtain ⟨r2, hr2⟩ : ∃ r2, decide (j ≤ 40) = r2 := ⟨_, rfl⟩
                have HR3 : Hid (r2 = true) := hr2.symm.trans (decide_eq_true (by omega))
                have hr1' : decide ((i : Int) ≤ 8) = r1 := by rw [← hr1]; exact decide_eq_decide.2 (by omega)
                have hr2' : decide ((j : Int) ≤ 40) = r2 := by rw [← hr2]; exact decide_eq_decide.2 (by omega)
                rw [hr1] at q1
                rw [hr2] at Q3
                have e1 : (r1 == r1) = true := beq_self_eq_true _
                have e2 : (r2 == r2) = true := beq_self_eq_true _
                have hwl : IntKind.i64.wrap ((j : Nat) - 1 : Int) = ((j : Nat) - 1 : Int) := by rw [IntKind.wrap_i64]; omega
                clear hr hPC hDz kC bz hr1 hr2 hjl hcl Q1 Q2 HD HB HBQ HG hil
                go_wp2_with fail
                refine q1.mono ?_
                clear q1 y0
                rintro r x1 ⟨rfl, a1⟩
                obtain ⟨y1, _⟩ := blk1 (KC.out.next a1)
                have q2' := Q3.out x1 a1
                go_wp2_with fail
                refine q2'.mono ?_
                clear q2' y1
                rintro r x2 ⟨rfl, a2⟩
                have b9 := below_next bbz (below_next a1 a2)
                go_wp2
                go_ret
                obtain rfl : r2 = true := HR3.out
                exact ⟨rfl, b9⟩


set_option maxRecDepth 100000 in
theorem matchDeep_lifted (os : Os) (started : os.Started) (H : Type) (enc : TypeId × Value → H) :
    ReturnsInHanded {} Try.checked os 7 .any (Rows.matchDeepSpec.pre6 enc Try.prog Try.f7 Rows.matchDeepRow.domain false) (Rows.matchDeepSpec.post enc Try.prog Try.f7 false true false false) := by
  refine returnsInHanded_of_change_sized (C := Try.checked) ownNone started (by kernel_rfl) Try.func7
    (ChangeSpec.witness6 (enc := enc) (C := Try.checked) false ⟨#[], #[.int .i64 0, .int .i64 0], []⟩ 8 (by kernel_rfl) (by kernel_rfl) (by kernel_rfl) (by kernel_rfl)) ?_
  intro W base args ds gs before hval hW _ hsz0 _
  have hW' := hW
  obtain ⟨p, q, hA0, hV, rfl, hfz, hnd⟩ := hW
  have hA : DataW.TrodAll enc Try.prog W 0 (fun _ => true) true Try.f7.params.toList args.toList ds p := hA0
  rw [Try.params7] at hA hval hsz0
  obtain ⟨v0, vs0, d0, ds0, p0, q0, hargs, rfl, rfl, h0, r0⟩ := trodAll_cons hA
  obtain ⟨v1, vs1, d1, ds1, p1, q1, rfl, rfl, rfl, h1, r1⟩ := trodAll_cons r0
  obtain ⟨rfl, rfl, rfl⟩ := trodAll_nil r1
  obtain rfl : args = #[v0, v1] := by cases args; simp_all
  obtain ⟨rfl, rfl⟩ := trodVars_none hV
  obtain ⟨a0, rfl, rfl, rfl, w0⟩ := open_int Try.underlying3 (hval 0 3 v0 rfl rfl) h0
  obtain ⟨a1, rfl, rfl, rfl, w1⟩ := open_int Try.underlying3 (hval 1 3 v1 rfl rfl) h1
  clear hA0
  refine (matchDeep_walk W a0 w0 a1 w1).mono fun e W' ⟨he, bel⟩ => ?_
  subst he
  exact ⟨_, rfl, _, _, _, [], _, [], hW', trodAll_mk1 (shut_bool Try.underlying4 _), (trodAll_cons_mk (shut_int Try.underlying3 w0) (trodAll_cons_mk (shut_int Try.underlying3 w1) trodAll_mk0)), rfl, bel.frame _, fun h => by cases h⟩

theorem matchDeep_said : Rows.MatchDeepSaid :=
  OpenClaim.holds_of_wide 7 Try.f7 rfl rfl rfl rfl rfl rfl rfl ⟨rfl, rfl, rfl, rfl, rfl⟩ rfl rfl rfl rfl rfl (by kernel_rfl) Try.func7 (by kernel_rfl)
    (of_decide_eq_true (by kernel_rfl)) (by unfold Func.isWrapper; first | (rw [if_pos (by decide +kernel)]; kernel_rfl) | (rw [if_neg (by decide +kernel)]; exact ⟨rfl, rfl⟩))
    (fun os started H enc _ => matchDeep_lifted os started H enc)
#print axioms matchDeep_said


end Go.Proofs.Ytgjfapdnobhkcab

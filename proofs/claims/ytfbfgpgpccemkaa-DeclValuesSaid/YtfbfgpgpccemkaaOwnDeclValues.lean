/- For every string, slice of tokens and three truth values: the law tapestrierlaw6.DeclValues returns true and leaves its arguments as they were; no condition. -/
import Derived.Test.YtfbfgpgpccemkaaDcAlive
import Derived.Test.YtfbfgpgpccemkaaDcVal
import Derived.Test.YtfbfgpgpccemkaaRsArgs
import Derived.Deep.RegionHeld
namespace Go.Proofs.Ytfbfgpgpccemkaa
open Go Go.ChangeShapes Go.WideShapes Go.ChangeAt Go.RowKit Dc
open Go.ChangeMaps (open_string shut_string)

/-- append(s, src...) onto a row that the call owns; where the row lies behind it. -/
theorem wpList_append_src_at {P : Program} (w : World) {ops : Array Oper} {rest : List Oper} {o : Oper} {a : Act} {Q : Exit → Act → World → Prop}
    (hg : o.guard = none) (s x : Operand) (t : TypeId) (hop : o.op = Op.call { callee := Callee.builtin Builtin.append, args := #[s, x], argTypes := #[t, t] })
    (base : Nat) (e : TypeId) (i : TypeInfo) (z : Value) (size bytes : Nat) (h1 : P.underlying t = some (.slice e)) (h2 : P.info? e = some i) (h3 : i.zero = some z) (h4 : i.size = size) (h5 : i.bytes = bytes) (h6 : z.cells.size = size) (h7 : 0 < size)
    (v : Value) (k : Nat) (xs : List Value) (hs : a.eval s = v) (hown : w.ownsRow base e size v k xs) (xv : Value) (m : Nat) (news : List Value) (hx : a.eval x = xv) (hn : news.length = m * size)
    (hsrc : (xv = .slice none 0 0 ∧ m = 0) ∨ ∃ ad c, xv = .slice (some ad) m c ∧ ∀ j u, news[j]? = some u → w.cell? (ad.add j) = some u)
    (h1c : ∀ u ∈ news, u.oneCell' = true) (b1 : k + m ≤ maxLen) (b2 : (k + m) * bytes ≤ 140737488355328) (b3 : base ≤ w.heap.size)
    (hK : ∀ v' w', w'.ownsRow base e size v' (k + m) (xs ++ news) → w.grownBy w' v.ownBlock → (v'.ownBlock = v.ownBlock ∨ v'.ownBlock = some w.heap.size) → wpList P ops Q rest (a.put o.dst v') w') :
    wpList P ops Q (o :: rest) a w := by
  rcases hsrc with ⟨rfl, rfl⟩ | ⟨ad, c, rfl, hc⟩
  · have hnews : news = [] := List.eq_nil_of_length_eq_zero (by simpa using hn)
    subst hnews
    refine wpList_plain hg fun K hK' => ?_
    have hrun := run_append_owned_none (P := P) w base t o.type e i size h1 h2 _ k xs hown
    unfold Oper.wp
    simp [execOp, hop, resolve, invoke, builtin, hs, hx, hrun, Result.andThen]
    exact hK' _ _ (hK _ _ (by simpa using hown) (World.grownBy.refl _ _) (.inl rfl))
  · exact wpList_append_own_at w hg s x t hop base e i z size bytes h1 h2 h3 h4 h5 h6 h7 v k xs hs hown ad m c news hx hn hc h1c b1 b2 b3 (fun v' w' q1 q2 _ q4 => hK v' w' q1 q2 q4)

/-- THE SLICE x HOLDS THE TOKENS L, in a block of its own from b on; the block b + 1 holds a white token. -/
structure Stt (n : Nat) (w : World) (b : Nat) (L : List Bt) (x : Value) (wx : World) : Prop where
  row : wx.ownsRow b 36 5 x L.length (btsCells L)
  own : x.ownBlock ≠ some (b + 1)
  white : Blk wx (b + 1) 36 [.int .i64 9, .string ⟨#[]⟩, .int .i64 0, .bool false, .int .i64 0]
  below : Below n w wx
  base : b + 2 ≤ wx.heap.size
  low : n ≤ b
theorem Stt.push {n b : Nat} {w W w' : World} {L M : List Bt} {v v' : Value} {m : Nat} (h : Stt n w b L v W) (hm : M.length = m) (o : Obj)
    (hown : w'.ownsRow b 36 5 v' (L.length + m) (btsCells L ++ btsCells M)) (hg : (W.alloc o).grownBy w' v.ownBlock) (hat : v'.ownBlock = v.ownBlock ∨ v'.ownBlock = some (W.alloc o).heap.size) : Stt n w b (L ++ M) v' w' := by
  have hs : (W.alloc o).heap.size = W.heap.size + 1 := World.size_alloc _ _
  have hb := h.base
  have hl := h.low
  refine ⟨?_, ?_, ?_, ?_, ?_, hl⟩
  · rw [List.length_append, btsCells_append, hm]
    exact hown
  · rcases hat with e | e
    · rw [e]; exact h.own
    · rw [e, hs]; simp; omega
  · exact (h.white.kept (World.grownBy_alloc W o none) (by simp)).kept hg (fun e => h.own e.symm)
  · exact (h.below.alloc (by omega) o).grown hg (by omega) (fun j e => by have := (h.row.lt j e).1; omega)
  · have := hg.size
    omega
theorem Stt.push' {n b : Nat} {w W w' : World} {L M : List Bt} {v v' : Value} {m : Nat} (h : Stt n w b L v W) (hm : M.length = m)
    (hown : w'.ownsRow b 36 5 v' (L.length + m) (btsCells L ++ btsCells M)) (hg : W.grownBy w' v.ownBlock) (hat : v'.ownBlock = v.ownBlock ∨ v'.ownBlock = some W.heap.size) : Stt n w b (L ++ M) v' w' := by
  have hb := h.base
  have hl := h.low
  refine ⟨?_, ?_, ?_, ?_, ?_, hl⟩
  · rw [List.length_append, btsCells_append, hm]
    exact hown
  · rcases hat with e | e
    · rw [e]; exact h.own
    · rw [e]; simp; omega
  · exact h.white.kept hg (fun e => h.own e.symm)
  · exact h.below.grown hg (by omega) (fun j e => by have := (h.row.lt j e).1; omega)
  · have := hg.size
    omega
/-- What the law asks of the token at j. -/
def okAt (v : List Bt) (j : Nat) (t : Bt) : Prop := plainK t.kind ∧ t.text.size ≤ 100 ∧ (t.kind = 9 → j ≠ 0 ∧ j + 1 ≠ v.length) ∧ (j + 1 = v.length → t.kind ≠ 1)
theorem short_string {s : ByteArray} (h : s.data.toList.length ≤ reachBytes) : s.size ≤ 281474976710656 := by
  have h2 : s.size = s.data.toList.length := Array.length_toList.symm
  unfold reachBytes at h
  omega
theorem good_of {v : List Bt} (h : ∀ j t, v[j]? = some t → okAt v j t) : GoodV v := by
  refine ⟨fun u hu => ?_, fun u r e h9 => ?_, fun r u e => ?_⟩
  · obtain ⟨j, hj, rfl⟩ := List.getElem_of_mem hu
    exact (h j _ (List.getElem?_eq_getElem hj)).1
  · exact ((h 0 u (by rw [e]; rfl)).2.2.1 h9).1 rfl
  · have ho := h r.length u (by rw [e]; simp)
    have hl : r.length + 1 = v.length := by rw [e]; simp
    exact ⟨fun h9 => (ho.2.2.1 h9).2 hl, ho.2.2.2 hl⟩
theorem ownsNew (w : World) (ts : List Bt) (hl : ts.length ≤ 1000000) : (w.alloc (.cells (btsCells ts).toArray 36)).ownsRow w.heap.size 36 5 (.slice (some ⟨w.heap.size, 0, none⟩) ts.length ts.length) ts.length (btsCells ts) := by
  refine ⟨btsCells_length ts, .inr ⟨w.heap.size, ts.length, (btsCells ts).toArray, rfl, Nat.le_refl _, heap_alloc_new w _, Nat.le_refl _, by unfold maxLen; omega, ?_, ?_⟩⟩
  · rw [List.size_toArray, btsCells_length]
  · rw [← btsCells_length, List.take_length]

set_option maxRecDepth 100000 in
set_option maxHeartbeats 4000000 in
theorem declValues_walk (w : World) (s : ByteArray) (_hs : s.size ≤ 281474976710656) (v : Value) (ts : List Bt) (hv : BtsAt w.heap.size w v ts) (before behind important : Bool) :
    Calls Try.prog 6 #[.string s, v, .bool before, .bool behind, .bool important] w fun e w' => e = .returned (.bool true) ∧ Below w.heap.size w w' := by
  have h0 := alive6_any w
  obtain ⟨i0, hi, hz0, hz1, hz2⟩ := info_parts infoTk6
  obtain ⟨p, cap, rfl⟩ := hv.len
  go_enter Try.func6, Try.ntmps6
  go_wp2_with fail
  refine h0.mono ?_
  clear h0
  rintro e w1 ⟨rfl, b1⟩
  have hv1 := hv.next b1
  have hvB : ∀ X, Below w.heap.size w X → BtsAt X.heap.size X (.slice p ts.length cap) ts := fun X hX => (hv.below hX).mono hX.size
  have HV : Hid (∀ X, Below w.heap.size w X → BtsAt X.heap.size X (.slice p ts.length cap) ts) := hvB
  clear hvB
  by_cases hn : 100 < ts.length
  · have hni : (100 : Int) < (ts.length : Int) := by omega
    clear hv hv1
    go_wp2
    go_ret
    exact ⟨rfl, b1⟩
  have hni : ¬ (100 : Int) < (ts.length : Int) := by omega
  by_cases hs : 100 < s.size
  · have hsi : (100 : Int) < (s.size : Int) := by omega
    clear hv hv1
    go_wp2
    go_ret
    exact ⟨rfl, b1⟩
  have hsi : ¬ (100 : Int) < (s.size : Int) := by omega
  clear hv
  go_wp2
  go_loopw [12] (fun x wr => ∃ k : Nat, x = .int .i64 k ∧ k ≤ ts.length ∧ Hid (∀ j t, j < k → ts[j]? = some t → okAt ts j t) ∧ w1 = wr) (fun x _ => ts.length - (intOf x).toNat)
  case atStart => exact ⟨0, rfl, Nat.zero_le _, fun j t hj => absurd hj (Nat.not_lt_zero j), rfl⟩
  case round =>
    obtain ⟨k, rfl, hk, HT, rfl⟩ := hrel
    by_cases hlt : k < ts.length
    · have hki : (k : Int) < (ts.length : Int) := by omega
      obtain ⟨bk, off, rfl, hbk, _, _, hc, ht, _⟩ := hv1.get (List.getElem?_eq_getElem hlt)
      have HN : okAt ts k ts[k] → Hid (∀ j t, j < k + 1 → ts[j]? = some t → okAt ts j t) := fun ho j t hj hj2 => by
        by_cases e : j = k
        · subst e
          rw [List.getElem?_eq_getElem hlt] at hj2
          cases hj2
          exact ho
        · exact HT j t (by omega) hj2
      generalize ts[k] = t at *
      obtain ⟨kd, tx, _, _, _⟩ := t
      simp only at hc ht HN
      have hwl : IntKind.i64.wrap ((ts.length : Int) - 1) = (ts.length : Int) - 1 := by rw [IntKind.wrap_i64]; omega
      clear HT hv1
      by_cases k12 : kd = 12
      · subst k12
        clear HN
        go_wp2
        go_ret
        exact ⟨rfl, b1⟩
      have e12 : (kd == 12) = false := by simpa using k12
      by_cases k14 : kd = 14
      · subst k14
        clear HN
        go_wp2
        go_ret
        exact ⟨rfl, b1⟩
      have e14 : (kd == 14) = false := by simpa using k14
      by_cases k16 : kd = 16
      · subst k16
        clear HN
        go_wp2
        go_ret
        exact ⟨rfl, b1⟩
      have e16 : (kd == 16) = false := by simpa using k16
      by_cases k18 : kd = 18
      · subst k18
        clear HN
        go_wp2
        go_ret
        exact ⟨rfl, b1⟩
      have e18 : (kd == 18) = false := by simpa using k18
      by_cases k20 : kd = 20
      · subst k20
        clear HN
        go_wp2
        go_ret
        exact ⟨rfl, b1⟩
      have e20 : (kd == 20) = false := by simpa using k20
      by_cases h9 : kd = 9 ∧ k = 0
      · obtain ⟨rfl, hk00⟩ := h9
        have hk0 : ((k : Int) == 0) = true := by simp; omega
        clear HN hk00
        go_wp2
        go_ret
        exact ⟨rfl, b1⟩
      by_cases h9b : kd = 9 ∧ k + 1 = ts.length
      · obtain ⟨rfl, hke⟩ := h9b
        have hk0 : ((k : Int) == 0) = false := by simp; omega
        have hk1 : ((k : Int) == (ts.length : Int) - 1) = true := by simp; omega
        clear HN
        go_wp2
        go_ret
        exact ⟨rfl, b1⟩
      by_cases h1 : k + 1 = ts.length ∧ kd = 1
      · obtain ⟨hke, rfl⟩ := h1
        have hk1 : ((k : Int) == (ts.length : Int) - 1) = true := by simp; omega
        clear HN
        go_wp2
        go_ret
        exact ⟨rfl, b1⟩
      by_cases htx : 100 < tx.size
      · have htxi : (100 : Int) < (tx.size : Int) := by omega
        clear HN
        by_cases g9 : kd = 9
        · subst g9
          have hk0 : ((k : Int) == 0) = false := by simp; omega
          have hk1 : ((k : Int) == (ts.length : Int) - 1) = false := by simp; omega
          go_wp2
          go_ret
          exact ⟨rfl, b1⟩
        · have g9' : (kd == 9) = false := by simpa using g9
          by_cases gl : k + 1 = ts.length
          · have hk1 : ((k : Int) == (ts.length : Int) - 1) = true := by simp; omega
            have g1' : (kd == 1) = false := by simp; omega
            go_wp2
            go_ret
            exact ⟨rfl, b1⟩
          · have hk1 : ((k : Int) == (ts.length : Int) - 1) = false := by simp; omega
            go_wp2
            go_ret
            exact ⟨rfl, b1⟩
      · have htxi : ¬ (100 : Int) < (tx.size : Int) := by omega
        have HN2 := HN ⟨plainK_of k12 k14 k16 k18 k20, by simpa using htx, fun e => ⟨fun e0 => h9 ⟨e, e0⟩, fun e0 => h9b ⟨e, e0⟩⟩, fun e e0 => h1 ⟨e, e0⟩⟩
        clear HN
        by_cases g9 : kd = 9
        · subst g9
          have hk0 : ((k : Int) == 0) = false := by simp; omega
          have hk1 : ((k : Int) == (ts.length : Int) - 1) = false := by simp; omega
          go_wp2
          exact ⟨⟨k + 1, by go_num, by omega, HN2, by first | rfl | trivial⟩, by simp [intOf]; omega⟩
        · have g9' : (kd == 9) = false := by simpa using g9
          by_cases gl : k + 1 = ts.length
          · have hk1 : ((k : Int) == (ts.length : Int) - 1) = true := by simp; omega
            have g1' : (kd == 1) = false := by simp; omega
            go_wp2
            exact ⟨⟨k + 1, by go_num, by omega, HN2, by first | rfl | trivial⟩, by simp [intOf]; omega⟩
          · have hk1 : ((k : Int) == (ts.length : Int) - 1) = false := by simp; omega
            go_wp2
            exact ⟨⟨k + 1, by go_num, by omega, HN2, by first | rfl | trivial⟩, by simp [intOf]; omega⟩
    · have hki : ¬ (k : Int) < (ts.length : Int) := by omega
      have hall : ∀ j t, ts[j]? = some t → okAt ts j t := fun j t hj => HT j t (by have := (List.getElem?_eq_some_iff.1 hj).1; omega) hj
      have hG := good_of hall
      have htxs : ∀ t ∈ ts, t.text.size ≤ 100 := fun t ht => by
        obtain ⟨j, hj, rfl⟩ := List.getElem_of_mem ht
        exact (hall j _ (List.getElem?_eq_getElem hj)).2.1
      have hfact := decls_value (n := ⟨1, s, 0, false, 0⟩) rfl hG before behind important
      have HX : Hid (∀ t ∈ (⟨1, s, 0, false, 0⟩ : Bt) :: (onW before ++ colonT :: whiteT :: (ts ++ (onW behind ++ onI important))), t.text.size ≤ maxLen) := fun t ht => by
        have h100 : ∀ z : ByteArray, z.size ≤ 100 → z.size ≤ maxLen := fun z hz => Nat.le_trans hz (by unfold maxLen; omega)
        apply h100
        simp only [List.mem_append, List.mem_cons] at ht
        rcases ht with rfl | ht | rfl | rfl | ht | ht | ht
        · show s.size ≤ 100; omega
        · cases before <;> simp [onW] at ht; subst ht; decide
        · decide
        · decide
        · exact htxs t ht
        · cases behind <;> simp [onW] at ht; subst ht; decide
        · cases important <;> simp [onI] at ht
          rcases ht with rfl | rfl | rfl | rfl <;> decide
      have hLl : ((⟨1, s, 0, false, 0⟩ : Bt) :: (onW before ++ colonT :: whiteT :: (ts ++ (onW behind ++ onI important)))).length ≤ 200 := by
        cases before <;> cases behind <;> cases important <;> simp [onW, onI] <;> omega
      clear HT hall hG htxs
      have hrow := ownsNew w1 [⟨1, s, 0, false, 0⟩] (by simp)
      have hst : Stt w.heap.size w w1.heap.size [⟨1, s, 0, false, 0⟩] (.slice (some ⟨w1.heap.size, 0, none⟩) 1 1) ((w1.alloc (.cells (btsCells [⟨1, s, 0, false, 0⟩]).toArray 36)).alloc (.cells (btCells whiteT).toArray 36)) := by
        refine ⟨hrow.alloc _, ?_, ?_, ?_, ?_, b1.size⟩
        · simp [Value.ownBlock]
        · have := Blk.new (w1.alloc (.cells (btsCells [⟨1, s, 0, false, 0⟩]).toArray 36)) 36 (btCells whiteT)
          rwa [World.size_alloc] at this
        · exact (b1.alloc b1.size _).alloc (by rw [World.size_alloc]; have := b1.size; omega) _
        · rw [World.size_alloc, World.size_alloc]
          omega
      have bW : Below w1.heap.size w1 ((w1.alloc (.cells (btsCells [⟨1, s, 0, false, 0⟩]).toArray 36)).alloc (.cells (btCells whiteT).toArray 36)) := ((Below.refl _ w1).alloc (Nat.le_refl _) _).alloc (by rw [World.size_alloc]; omega) _
      clear hrow
      go_upto_if 99 with fail
      change Code.wp _ _ _ _ ((w1.alloc (.cells (btsCells [⟨1, s, 0, false, 0⟩]).toArray 36)).alloc (.cells (btCells whiteT).toArray 36))
      generalize ((w1.alloc (.cells (btsCells [⟨1, s, 0, false, 0⟩]).toArray 36)).alloc (.cells (btCells whiteT).toArray 36)) = W2 at *
      go_cut [14] (fun x wx => Stt w.heap.size w w1.heap.size ([⟨1, s, 0, false, 0⟩] ++ onW before) x wx)
      case first =>
        clear hfact HX hLl
        cases before with
        | false =>
          go_wp2
          go_meet
          simpa [onW] using hst
        | true =>
          obtain ⟨⟨c0, c1, c2, c3, c4⟩, _⟩ := blk5 hst.white
          have hL1 : ([(⟨1, s, 0, false, 0⟩ : Bt)]).length ≤ 1 := by simp
          go_wp2_with (at_builtin; refine wpList_append_own_at _ rfl _ _ 22 rfl w1.heap.size 36 i0 (.agg #[.int .i64 0, .string ⟨#[]⟩, .int .i64 0, .bool false, .int .i64 0]) 5 48 Try.underlying22 hi hz0 hz1 hz2 rfl (by decide) _ ([⟨1, s, 0, false, 0⟩]).length (btsCells [⟨1, s, 0, false, 0⟩]) rfl (hst.row.alloc _) _ 1 1 [.int .i64 9, .string ⟨#[]⟩, .int .i64 0, .bool false, .int .i64 0] rfl rfl (cells_new _ [.int .i64 9, .string ⟨#[]⟩, .int .i64 0, .bool false, .int .i64 0] _) (btsCells_one [whiteT]) (by unfold maxLen; omega) (by omega) (by rw [World.size_alloc]; have := hst.base; omega) ?_; intro v9 w9 hown9 hgrow9 hnil9 hat9)
          go_meet
          exact hst.push (M := onW true) rfl _ hown9 hgrow9 hat9
      case rest =>
      clear hst
      have hst := hcut
      clear hcut bW
      have hLb : ([(⟨1, s, 0, false, 0⟩ : Bt)] ++ onW before).length ≤ 2 := by cases before <;> simp [onW]
      obtain ⟨LB, hLB⟩ : ∃ LB, [(⟨1, s, 0, false, 0⟩ : Bt)] ++ onW before = LB := ⟨_, rfl⟩
      rw [hLB] at hst hLb
      obtain ⟨⟨c0, c1, c2, c3, c4⟩, _⟩ := blk5 hst.white
      go_upto_region 15 with (at_builtin; refine wpList_append_own_at _ rfl _ _ 22 rfl w1.heap.size 36 i0 (.agg #[.int .i64 0, .string ⟨#[]⟩, .int .i64 0, .bool false, .int .i64 0]) 5 48 Try.underlying22 hi hz0 hz1 hz2 rfl (by decide) _ (LB).length (btsCells LB) rfl (hst.row.alloc _) _ 2 2 [.int .i64 11, .string ⟨#[]⟩, .int .i64 0, .bool false, .int .i64 0, .int .i64 9, .string ⟨#[]⟩, .int .i64 0, .bool false, .int .i64 0] rfl rfl (cells_new _ [.int .i64 11, .string ⟨#[]⟩, .int .i64 0, .bool false, .int .i64 0, .int .i64 9, .string ⟨#[]⟩, .int .i64 0, .bool false, .int .i64 0] _) (btsCells_one [colonT, whiteT]) (by unfold maxLen; omega) (by omega) (by rw [World.size_alloc]; have := hst.base; omega) ?_; intro v9 w9 hown9 hgrow9 hnil9 hat9)
      have hst4 := hst.push (M := [colonT, whiteT]) rfl _ hown9 hgrow9 hat9
      clear c0 c1 c2 c3 c4 hst hown9 hgrow9 hat9 hnil9
      have hst := hst4
      clear hst4
      have hLc : (LB ++ [colonT, whiteT]).length ≤ 4 := by simp; omega
      have hsrc := btsSrc (HV _ hst.below)
      go_upto_if 112 with (at_builtin; refine wpList_append_src_at _ rfl _ _ 22 rfl w1.heap.size 36 i0 (.agg #[.int .i64 0, .string ⟨#[]⟩, .int .i64 0, .bool false, .int .i64 0]) 5 48 Try.underlying22 hi hz0 hz1 hz2 rfl (by decide) _ _ (btsCells (LB ++ [colonT, whiteT])) rfl hst.row _ ts.length (btsCells ts) rfl (btsCells_length ts) hsrc (btsCells_one ts) (by unfold maxLen; omega) (by omega) (by have := hst.base; omega) ?_; intro v8 w8 hown8 hgrow8 hat8)
      have hst4 := hst.push' (M := ts) rfl hown8 hgrow8 hat8
      clear hst hown8 hgrow8 hat8 hsrc
      have hst := hst4
      clear hst4
      have hLd : (LB ++ [colonT, whiteT] ++ ts).length ≤ 104 := by rw [List.length_append]; omega
      obtain ⟨LD, hLD⟩ : ∃ LD, LB ++ [colonT, whiteT] ++ ts = LD := ⟨_, rfl⟩
      rw [hLD] at hst hLd
      go_cut [14] (fun x wx => Stt w.heap.size w w1.heap.size (LD ++ onW behind) x wx)
      case first =>
        clear hfact HX hLl
        cases behind with
        | false =>
          go_wp2
          go_meet
          simpa [onW] using hst
        | true =>
          obtain ⟨⟨c0, c1, c2, c3, c4⟩, _⟩ := blk5 hst.white
          go_wp2_with (at_builtin; refine wpList_append_own_at _ rfl _ _ 22 rfl w1.heap.size 36 i0 (.agg #[.int .i64 0, .string ⟨#[]⟩, .int .i64 0, .bool false, .int .i64 0]) 5 48 Try.underlying22 hi hz0 hz1 hz2 rfl (by decide) _ (LD).length (btsCells LD) rfl (hst.row.alloc _) _ 1 1 [.int .i64 9, .string ⟨#[]⟩, .int .i64 0, .bool false, .int .i64 0] rfl rfl (cells_new _ [.int .i64 9, .string ⟨#[]⟩, .int .i64 0, .bool false, .int .i64 0] _) (btsCells_one [whiteT]) (by unfold maxLen; omega) (by omega) (by rw [World.size_alloc]; have := hst.base; omega) ?_; intro v9 w9 hown9 hgrow9 hnil9 hat9)
          go_meet
          exact hst.push (M := onW true) rfl _ hown9 hgrow9 hat9
      case rest =>
      clear hst
      have hst := hcut
      clear hcut
      have hLe : (LD ++ onW behind).length ≤ 105 := by cases behind <;> simp [onW] <;> omega
      obtain ⟨LE, hLE⟩ : ∃ LE, LD ++ onW behind = LE := ⟨_, rfl⟩
      rw [hLE] at hst hLe
      go_upto_if 117 with fail
      go_cut [14] (fun x wx => Stt w.heap.size w w1.heap.size (LE ++ onI important) x wx)
      case first =>
        clear hfact HX hLl
        cases important with
        | false =>
          go_wp2
          go_meet
          simpa [onI] using hst
        | true =>
          obtain ⟨⟨c0, c1, c2, c3, c4⟩, _⟩ := blk5 hst.white
          go_wp2_with (at_builtin; refine wpList_append_own_at _ rfl _ _ 22 rfl w1.heap.size 36 i0 (.agg #[.int .i64 0, .string ⟨#[]⟩, .int .i64 0, .bool false, .int .i64 0]) 5 48 Try.underlying22 hi hz0 hz1 hz2 rfl (by decide) _ (LE).length (btsCells LE) rfl (hst.row.alloc _) _ 4 4 [.int .i64 10, .string ⟨#[]⟩, .int .i64 0, .bool false, .int .i64 33, .int .i64 9, .string ⟨#[]⟩, .int .i64 0, .bool false, .int .i64 0, .int .i64 1, .string ⟨#[73, 109, 112, 111, 114, 116, 97, 110, 84]⟩, .int .i64 0, .bool false, .int .i64 0, .int .i64 9, .string ⟨#[]⟩, .int .i64 0, .bool false, .int .i64 0] rfl rfl (cells_new _ [.int .i64 10, .string ⟨#[]⟩, .int .i64 0, .bool false, .int .i64 33, .int .i64 9, .string ⟨#[]⟩, .int .i64 0, .bool false, .int .i64 0, .int .i64 1, .string ⟨#[73, 109, 112, 111, 114, 116, 97, 110, 84]⟩, .int .i64 0, .bool false, .int .i64 0, .int .i64 9, .string ⟨#[]⟩, .int .i64 0, .bool false, .int .i64 0] _) (btsCells_one [bangT, whiteT, impT, whiteT]) (by unfold maxLen; omega) (by omega) (by rw [World.size_alloc]; have := hst.base; omega) ?_; intro v9 w9 hown9 hgrow9 hnil9 hat9)
          go_meet
          exact hst.push (M := onI true) rfl _ hown9 hgrow9 hat9
      case rest =>
      clear hst
      obtain ⟨hrow, _, _, hbl, _, _⟩ := hcut
      have hLF : LE ++ onI important = (⟨1, s, 0, false, 0⟩ : Bt) :: (onW before ++ colonT :: whiteT :: (ts ++ (onW behind ++ onI important))) := by
        rw [← hLE, ← hLD, ← hLB]
        simp
      rw [hLF] at hrow
      clear hLF hLE hLD hLB
      generalize (⟨1, s, 0, false, 0⟩ : Bt) :: (onW before ++ colonT :: whiteT :: (ts ++ (onW behind ++ onI important))) = LF at *
      have h7 := parse_any _ LF _ (BtsAt.of_owns hrow rfl) HX (by omega)
      rw [hfact] at h7
      clear hrow hfact HX
      go_wp2_with fail
      refine h7.mono ?_
      clear h7
      rintro e w7 ⟨v7, rfl, ⟨qs, hq, hR⟩, b7⟩
      have b07 := below_next hbl b7
      obtain ⟨⟨d, x⟩, rfl⟩ : ∃ r, qs = [r] := List.length_eq_one_iff.1 (by have := congrArg List.length hq; simpa using this)
      obtain rfl : d = ⟨lowT s, ts, important⟩ := by simpa using hq
      obtain ⟨p7, cap7, rfl⟩ := hR.form
      obtain ⟨bk, off, q1, c1, rfl, a0, a1, a2, t1⟩ := hR.get (k := 0) (d := ⟨lowT s, ts, important⟩) rfl
      simp only [Nat.zero_mul, Nat.add_zero] at a0 a1 a2
      have hbk : bk < w7.heap.size := World.block_lt_of_cell? w7 ⟨bk, off, none⟩ a0
      have hlow := refLower_any s w7.drew (Nat.le_trans (Nat.le_of_not_lt hs) (by unfold maxLen; omega))
      have hS : ∀ X : World, Below w7.heap.size w7 X → X.cell? ⟨bk, off, none⟩ = some (.string (lowT s)) ∧ X.cell? ⟨bk, off + 1, none⟩ = some (.slice q1 ts.length c1) ∧ X.cell? ⟨bk, off + 2, none⟩ = some (.bool important) := fun X hX => ⟨(hX.cell (p := ⟨bk, off, none⟩) hbk).trans a0, (hX.cell (p := ⟨bk, off + 1, none⟩) hbk).trans a1, (hX.cell (p := ⟨bk, off + 2, none⟩) hbk).trans a2⟩
      have h5 := fun X (b : Below w7.heap.size w7 X) => sameBts_yes (.slice q1 ts.length c1) (.slice p ts.length cap) ts X ((t1.below b).mono b.size) (HV X (below_next b07 b))
      clear HV t1 hR hq b7
      generalize lowT s = z at *
      go_upto_region 21 with fail
      go_cut [10] (fun s4 wx => s4 = .bool true ∧ Below w7.heap.size w7 wx)
      case first =>
        have HS5 : Hid (∀ X : World, Below w7.heap.size w7 X → X.cell? ⟨bk, off, none⟩ = some (.string z) ∧ X.cell? ⟨bk, off + 1, none⟩ = some (.slice q1 ts.length c1) ∧ X.cell? ⟨bk, off + 2, none⟩ = some (.bool important)) := hS
        have H5 : Hid (∀ X, Below w7.heap.size w7 X → Calls Try.prog 16 #[.slice q1 ts.length c1, .slice p ts.length cap] X fun e w' => e = .returned (.bool true) ∧ ∃ n, w' = X.drewN n) := h5
        have HLW : Hid (Calls Try.prog 15 #[.string s] w7.drew fun e w' => e = .returned (.string z) ∧ Below w7.drew.heap.size w7.drew w') := hlow
        clear hi hz0 hz1 hz2 hn hs hni hsi hk hlt hki hv1 b1 hbl hbk hLl b07 hS h5 hlow
        go_region_held (fun X => X.cell? ⟨bk, off, none⟩ = some (.string z) ∧ X.cell? ⟨bk, off + 1, none⟩ = some (.slice q1 ts.length c1) ∧ X.cell? ⟨bk, off + 2, none⟩ = some (.bool important)) (first | exact (show ∀ X : World, Below w7.heap.size w7 X → X.cell? ⟨bk, off, none⟩ = some (.string z) ∧ X.cell? ⟨bk, off + 1, none⟩ = some (.slice q1 ts.length c1) ∧ X.cell? ⟨bk, off + 2, none⟩ = some (.bool important) from HS5) _ (by assumption) | go_keep)
          (first
          | (go_at_call 15; refine Calls.mono (show Calls Try.prog 15 #[.string s] w7.drew fun e w' => e = .returned (.string z) ∧ Below w7.drew.heap.size w7.drew w' from HLW) ?_; rintro e w8 ⟨rfl, b8⟩; have b8' : Below w7.heap.size w7 w8 := ⟨b8.os, b8.tape, b8.output, b8.size, b8.block⟩; clear b8)
          | (go_at_call 16; refine Calls.mono ((show ∀ X, Below w7.heap.size w7 X → Calls Try.prog 16 #[.slice q1 ts.length c1, .slice p ts.length cap] X fun e w' => e = .returned (.bool true) ∧ ∃ n, w' = X.drewN n from H5) _ b8') ?_; rintro e w9 ⟨rfl, n9, rfl⟩; have b9 := below_next b8' (below_drewN w8 n9)))
        go_wp2_with fail
        go_meet
        exact ⟨rfl, b9⟩
      case rest =>
        obtain ⟨rfl, b9⟩ := hcut
        go_wp2
        go_ret
        exact ⟨rfl, below_next b07 b9⟩


set_option maxRecDepth 100000 in
theorem declValues_lifted (os : Os) (started : os.Started) (H : Type) (enc : TypeId × Value → H) :
    ReturnsInHanded {} Try.checked os 6 .any (Rows.declValuesSpec.pre6 enc Try.prog Try.f6 Rows.declValuesRow.domain false) (Rows.declValuesSpec.post enc Try.prog Try.f6 false true false false) := by
  refine returnsInHanded_of_change_sized (C := Try.checked) ownNone started (by kernel_rfl) Try.func6
    (ChangeSpec.witness6 (enc := enc) (C := Try.checked) false ⟨#[], #[.string ⟨#[]⟩, .slice none 0 0, .bool false, .bool false, .bool false], []⟩ 8 (by kernel_rfl) (by kernel_rfl) (by kernel_rfl) (by kernel_rfl)) ?_
  intro W base args ds gs before hval hW _ hsz0 _
  have hW' := hW
  obtain ⟨p, q, hA0, hV, rfl, hfz, hnd⟩ := hW
  have hA : DataW.TrodAll enc Try.prog W 0 (fun _ => true) true Try.f6.params.toList args.toList ds p := hA0
  rw [Try.params6] at hA hval hsz0
  obtain ⟨v0, vs0, d0, ds0, p0, q0, hargs, rfl, rfl, h0, r0⟩ := trodAll_cons hA
  obtain ⟨v1, vs1, d1, ds1, p1, q1, rfl, rfl, rfl, h1, r1⟩ := trodAll_cons r0
  obtain ⟨v2, vs2, d2, ds2, p2, q2, rfl, rfl, rfl, h2, r2⟩ := trodAll_cons r1
  obtain ⟨v3, vs3, d3, ds3, p3, q3, rfl, rfl, rfl, h3, r3⟩ := trodAll_cons r2
  obtain ⟨v4, vs4, d4, ds4, p4, q4, rfl, rfl, rfl, h4, r4⟩ := trodAll_cons r3
  obtain ⟨rfl, rfl, rfl⟩ := trodAll_nil r4
  obtain rfl : args = #[v0, v1, v2, v3, v4] := by cases args; simp_all
  obtain ⟨rfl, rfl⟩ := trodVars_none hV
  have hsz := List.all_eq_true.1 hsz0
  obtain ⟨s0, rfl, rfl, rfl, w0⟩ := open_string Try.underlying9 (hval 0 9 v0 rfl rfl) h0
  have y0 : s0.size ≤ 281474976710656 := short_string (by simpa using hsz s0.data.toList.length (DataW.weights_mem_each (j := 0) rfl rfl _ (by simp [DataW.weights])))
  obtain ⟨a1, len1, cap1, rfl⟩ := okWide_slice Try.underlying22 (hval 1 22 v1 rfl rfl)
  have k1 := h1
  have lt1 : ∀ x ∈ p1, x.block < W.heap.size := by obtain ⟨m, hm⟩ := k1; exact DataW.trod_lt m _ _ _ hm
  obtain ⟨z1, w1⟩ := tokensAt_of_reads k1
  obtain ⟨a2, rfl, rfl, rfl⟩ := open_bool Try.underlying4 (hval 2 4 v2 rfl rfl) h2
  obtain ⟨a3, rfl, rfl, rfl⟩ := open_bool Try.underlying4 (hval 3 4 v3 rfl rfl) h3
  obtain ⟨a4, rfl, rfl, rfl⟩ := open_bool Try.underlying4 (hval 4 4 v4 rfl rfl) h4
  clear hA0
  refine (declValues_walk W s0 y0 _ z1 w1 a2 a3 a4).mono fun e W' ⟨he, bel⟩ => ?_
  subst he
  exact ⟨_, rfl, _, _, _, [], _, [], hW', trodAll_mk1 (shut_bool Try.underlying4 _), (trodAll_cons_mk (shut_string Try.underlying9 w0) (trodAll_cons_mk (Below.trod laidOut (by kernel_rfl) (of_decide_eq_true (by kernel_rfl)) k1 bel lt1) (trodAll_cons_mk (shut_bool Try.underlying4 _) (trodAll_cons_mk (shut_bool Try.underlying4 _) (trodAll_cons_mk (shut_bool Try.underlying4 _) trodAll_mk0))))), rfl, bel.frame _, fun h => by cases h⟩

theorem declValues_said : Rows.DeclValuesSaid :=
  OpenClaim.holds_of_wide 6 Try.f6 rfl rfl rfl rfl rfl rfl rfl ⟨rfl, rfl, rfl, rfl, rfl⟩ rfl rfl rfl rfl rfl (by kernel_rfl) Try.func6 (by kernel_rfl)
    (of_decide_eq_true (by kernel_rfl)) (by unfold Func.isWrapper; first | (rw [if_pos (by decide +kernel)]; kernel_rfl) | (rw [if_neg (by decide +kernel)]; exact ⟨rfl, rfl⟩))
    (fun os started H enc _ => declValues_lifted os started H enc)
#print axioms declValues_said


end Go.Proofs.Ytfbfgpgpccemkaa

/- For every name, operator and word: the law tapestrierlaw8.SelAttrs returns true and leaves its arguments as they were; no condition (its card: the table of operators read off the program's text). -/
import Derived.Test.YtdkogbpcddeikaaDoorSlAtT
import Derived.Test.YtdkogbpcddeikaaDoorSlGg
import Derived.Test.YtdkogbpcddeikaaDoorSlLaid
import Derived.Test.YtdkogbpcddeikaaDoorSmSel
import Derived.Test.YtdkogbpcddeikaaDoorBsD
namespace Go.Proofs.YtdkogbpcddeikaaDoor
open Go.Proofs.YtdkogbpcddeikaaDoor.Tre
open Go Go.ChangeShapes Go.WideShapes Go.ChangeAt Go.RowKit Sl
open Go.ChangeMaps (open_string shut_string)

def opsL : Nat → List UInt8
  | 0 => []
  | k + 1 => signB (k + 1)
def loB (u : UInt8) : Prop := 97 ≤ u.toNat ∧ u.toNat ≤ 122
theorem lo_all {s t : ByteArray} (h : ∀ j, j < (s ++ t).size → loB ((s ++ t).get! j)) : lows s.data.toList ∧ lows t.data.toList := by
  have ha : ∀ u ∈ (s ++ t).data.toList, 97 ≤ u.toNat ∧ u.toNat ≤ 122 := by
    intro u hu
    obtain ⟨j, hj, rfl⟩ := List.mem_iff_getElem.1 hu
    have hj' : j < (s ++ t).size := by rw [← Nm.len_list]; exact hj
    have e := Nm.at_list (s ++ t) j hj'
    rw [List.getElem?_eq_getElem hj] at e
    rw [Option.some.inj e]
    exact h j hj'
  have e : (s ++ t).data.toList = s.data.toList ++ t.data.toList := by simp [ByteArray.data_append]
  rw [e] at ha
  exact ⟨fun u hu => ha u (List.mem_append.2 (.inl hu)), fun u hu => ha u (List.mem_append.2 (.inr hu))⟩
theorem not_nil {s : ByteArray} (h : s.toList.isEmpty = false) : s.data.toList ≠ [] := fun e => absurd (h.symm.trans (show s.toList.isEmpty = true by
  obtain rfl : s = ⟨#[]⟩ := ByteArray.ext (by simpa using e)
  rw [ByteArray.toList_eq]
  rfl)) (by decide)
theorem word_true (wd : ByteArray) : (⟨#[34]⟩ ++ wd ++ ⟨#[34]⟩ : ByteArray) = ⟨(wordB true wd.data.toList).toArray⟩ := ByteArray.ext (by simp [wordB, ByteArray.data_append])
theorem word_false (wd : ByteArray) : wd = ⟨(wordB false wd.data.toList).toArray⟩ := ByteArray.ext (by simp [wordB])
theorem gap_size (b : Bool) : (⟨(gapB b).toArray⟩ : ByteArray).size ≤ 8 := by cases b <;> decide
theorem word_size (q : Bool) (wd : ByteArray) : (⟨(wordB q wd.data.toList).toArray⟩ : ByteArray).size ≤ wd.size + 2 := by
  show (wordB q wd.data.toList).toArray.size ≤ wd.data.size + 2
  cases q <;> simp [wordB]
theorem ops_size (k : Nat) : (⟨(opsL k).toArray⟩ : ByteArray).size ≤ 2 := by
  show (opsL k).toArray.size ≤ 2
  rw [List.size_toArray]
  cases k with
  | zero => decide
  | succ k =>
    show (signB (k + 1)).length ≤ 2
    unfold signB
    split <;> decide
theorem txt_none (nm wd : ByteArray) (q bl : Bool) : ⟨#[91]⟩ ++ ⟨(gapB bl).toArray⟩ ++ nm ++ ⟨(gapB bl).toArray⟩ = (⟨(attB nm.data.toList 0 wd.data.toList q bl).toArray⟩ : ByteArray) := ByteArray.ext (by simp [attB, ByteArray.data_append])
theorem txt_op (nm wd : ByteArray) {op : Nat} (q bl : Bool) (h : op ≠ 0) : ⟨#[91]⟩ ++ ⟨(gapB bl).toArray⟩ ++ nm ++ ⟨(gapB bl).toArray⟩ ++ ⟨(opsL op).toArray⟩ ++ ⟨(gapB bl).toArray⟩ ++ ⟨(wordB q wd.data.toList).toArray⟩ ++ ⟨(gapB bl).toArray⟩ = (⟨(attB nm.data.toList op wd.data.toList q bl).toArray⟩ : ByteArray) := by
  cases op with
  | zero => exact absurd rfl h
  | succ k => exact ByteArray.ext (by simp [attB, opsL, ByteArray.data_append])
theorem att_size (nm wd : ByteArray) (op : Nat) (q bl : Bool) (h1 : nm.size ≤ 60) (h2 : wd.size ≤ 60) : (⟨(attB nm.data.toList op wd.data.toList q bl).toArray⟩ : ByteArray).size ≤ 250 := by
  have hg := gap_size bl
  have hv := word_size q wd
  by_cases h : op = 0
  · subst h
    rw [← txt_none]
    simp only [ByteArray.size_append, show (⟨#[91]⟩ : ByteArray).size = 1 from rfl]
    omega
  · have ho := ops_size op
    rw [← txt_op nm wd q bl h]
    simp only [ByteArray.size_append, show (⟨#[91]⟩ : ByteArray).size = 1 from rfl]
    omega

set_option maxRecDepth 100000 in
set_option maxHeartbeats 8000000 in
theorem selAttrs_walk (w : World) (hT : OpsAt w.heap.size w) (nm : ByteArray) (_h1 : nm.size ≤ maxLen) (n : Int) (_hn : (Lit.int .i64 n).wf = true) (wd : ByteArray) (_h2 : wd.size ≤ maxLen) (q bl : Bool) :
    Calls Tryd.prog 4 #[.string nm, .int .i64 n, .string wd, .bool q, .bool bl] w fun e w' => e = .returned (.bool true) ∧ Below w.heap.size w w' := by
  have h0 := alive_any w hT
  go_enter Tryd.func4, Tryd.ntmps4
  go_wp2_with fail
  refine h0.mono ?_
  clear h0
  rintro e w1 ⟨rfl, b1⟩
  have hT1 := hT.next b1
  clear hT
  by_cases g1 : n < 0
  · clear hT1
    go_wp2
    go_ret
    exact ⟨rfl, b1⟩
  by_cases g2 : 6 < n
  · clear hT1
    go_wp2
    go_ret
    exact ⟨rfl, b1⟩
  by_cases g3 : (60 : Int) < (wd.size : Int)
  · clear hT1
    go_wp2
    go_ret
    exact ⟨rfl, b1⟩
  by_cases g4 : (60 : Int) < (nm.size : Int)
  · clear hT1
    go_wp2
    go_ret
    exact ⟨rfl, b1⟩
  obtain ⟨op, rfl⟩ : ∃ m : Nat, n = (m : Int) := ⟨n.toNat, by omega⟩
  have hop : op ≤ 6 := by omega
  obtain ⟨W, hW⟩ : ∃ W, w1.alloc (.cells #[.string ⟨#[]⟩, .string ⟨#[61]⟩, .string ⟨#[126, 61]⟩, .string ⟨#[124, 61]⟩, .string ⟨#[94, 61]⟩, .string ⟨#[36, 61]⟩, .string ⟨#[42, 61]⟩] 9) = W := ⟨_, rfl⟩
  have bW : Below w1.heap.size w1 W := by rw [← hW]; exact (Below.refl _ _).alloc (Nat.le_refl _) _
  have hcell : ∀ k : Nat, k ≤ 6 → W.cell? ⟨w1.heap.size, k, none⟩ = some (.string ⟨(opsL k).toArray⟩) := by
    intro k hk
    rw [← hW, cell_of_block (heap_alloc_new w1 _) k]
    obtain rfl | rfl | rfl | rfl | rfl | rfl | rfl : k = 0 ∨ k = 1 ∨ k = 2 ∨ k = 3 ∨ k = 4 ∨ k = 5 ∨ k = 6 := by omega
    all_goals rfl
  go_upto_region 5 with fail
  have c1 := hcell op hop
  have hlt := World.block_lt_of_cell? W ⟨w1.heap.size, op, none⟩ c1
  have hTW := hT1.next bW
  have bb := below_next b1 bW
  clear hcell hT1 hW bW b1
  generalize w1.heap.size = B0 at *
  obtain ⟨ls, hls⟩ : ∃ ls, nm ++ wd = ls := ⟨_, rfl⟩
  have hsz : ls.size ≤ 120 := by rw [← hls, ByteArray.size_append]; omega
  go_wp2
  go_loopw [14] (fun i wr => ∃ k : Nat, i = .int .i64 k ∧ k ≤ ls.size ∧ wr = W ∧ ∀ j, j < k → loB (ls.get! j)) (fun i _ => ls.size - (intOf i).toNat)
  case atStart => exact ⟨0, rfl, Nat.zero_le _, rfl, fun j hj => absurd hj (Nat.not_lt_zero j)⟩
  case round =>
    obtain ⟨k, rfl, hk, rfl, hall⟩ := hrel
    by_cases hlt' : k < ls.size
    · have hnext : loB (ls.get! k) → ∀ j, j < k + 1 → loB (ls.get! j) := fun hd j hj => by
        by_cases e : j = k
        · subst e; exact hd
        · exact hall j (by omega)
      have hget := Nm.get_at ls k hlt'
      clear hall hls c1 hTW
      generalize ls.get! k = c at *
      by_cases u1 : (c.toNat : Int) < 97
      · go_wp2
        go_ret
        exact ⟨rfl, bb⟩
      by_cases u2 : (122 : Int) < (c.toNat : Int)
      · go_wp2
        go_ret
        exact ⟨rfl, bb⟩
      go_wp2
      exact ⟨⟨k + 1, by go_num, by omega, trivial, hnext ⟨by omega, by omega⟩⟩, by simp [intOf]; omega⟩
    · have hki : ¬ (k : Int) < (ls.size : Int) := by omega
      obtain ⟨hn, hw⟩ := lo_all (s := nm) (t := wd) (by rw [hls]; exact fun j hj => hall j (by omega))
      clear hall hls hlt'
      by_cases n1 : nm.toList.isEmpty = true
      · go_wp2
        go_ret
        exact ⟨rfl, bb⟩
      replace n1 := Bool.eq_false_iff.2 n1
      by_cases x1 : wd.toList.isEmpty = true
      · go_wp2
        go_ret
        exact ⟨rfl, bb⟩
      replace x1 := Bool.eq_false_iff.2 x1
      go_upto_if 71 with fail
      go_cut [15] (fun x wx => x = .string ⟨(gapB bl).toArray⟩ ∧ wx = wr)
      case first =>
        cases bl with
        | true =>
          go_wp2
          go_meet
          exact ⟨rfl, rfl⟩
        | false =>
          go_wp2
          go_meet
          exact ⟨rfl, rfl⟩
      case rest =>
        obtain ⟨rfl, rfl⟩ := hcut
        generalize hgs : (⟨(gapB bl).toArray⟩ : ByteArray) = gs at *
        have hgz : gs.size ≤ 8 := by rw [← hgs]; exact gap_size bl
        have HT : Hid (∀ op : Nat, op ≠ 0 → ⟨#[91]⟩ ++ gs ++ nm ++ gs ++ ⟨(opsL op).toArray⟩ ++ gs ++ ⟨(wordB q wd.data.toList).toArray⟩ ++ gs = (⟨(attB nm.data.toList op wd.data.toList q bl).toArray⟩ : ByteArray)) := by
          show ∀ op : Nat, _
          intro op h
          rw [← hgs]
          exact txt_op nm wd q bl h
        have HT0 : Hid (⟨#[91]⟩ ++ gs ++ nm ++ gs = (⟨(attB nm.data.toList 0 wd.data.toList q bl).toArray⟩ : ByteArray)) := by
          show _ = _
          rw [← hgs]
          exact txt_none nm wd q bl
        clear hgs
        go_upto_if 73 with fail
        go_cut [16] (fun x wx => x = .string ⟨(wordB q wd.data.toList).toArray⟩ ∧ wx = wc)
        case first =>
          cases q with
          | true =>
            go_wp2
            go_meet
            exact ⟨congrArg Value.string (word_true wd), rfl⟩
          | false =>
            go_wp2
            go_meet
            exact ⟨congrArg Value.string (word_false wd), rfl⟩
        case rest =>
          obtain ⟨rfl, rfl⟩ := hcut
          have hvz : (⟨(wordB q wd.data.toList).toArray⟩ : ByteArray).size ≤ 62 := by
            have := word_size q wd
            omega
          obtain ⟨vs, hvs⟩ : ∃ vs, (⟨(wordB q wd.data.toList).toArray⟩ : ByteArray) = vs := ⟨_, rfl⟩
          have HT1 : Hid (∀ op : Nat, op ≠ 0 → ⟨#[91]⟩ ++ gs ++ nm ++ gs ++ ⟨(opsL op).toArray⟩ ++ gs ++ vs ++ gs = (⟨(attB nm.data.toList op wd.data.toList q bl).toArray⟩ : ByteArray)) := by rw [← hvs]; exact HT
          rw [hvs] at hvz ⊢
          clear HT hvs
          obtain ⟨w5, h5⟩ : ∃ X, X = wc := ⟨_, rfl⟩
          subst h5
          go_upto_region 21 with fail
          obtain ⟨W2, hW2⟩ : ∃ W2, w5.alloc (.cells #[.string nm, .int .i64 (op : Int), .string ⟨#[]⟩] 43) = W2 := ⟨_, rfl⟩
          have bZ : Below w5.heap.size w5 W2 := by rw [← hW2]; exact (Below.refl _ _).alloc (Nat.le_refl _) _
          have kZ : Blk W2 w5.heap.size 43 [.string nm, .int .i64 (op : Int), .string ⟨#[]⟩] := by rw [← hW2]; exact Blk.new w5 43 _
          have c2 := (bZ.cell (p := ⟨B0, op, none⟩) hlt).trans c1
          rw [hW2]
          clear hW2 c1
          go_upto_if 87 with fail
          go_cut [17] (fun x wx => x = .string ⟨(attB nm.data.toList op wd.data.toList q bl).toArray⟩ ∧ Blk wx w5.heap.size 43 [.string nm, .int .i64 (op : Int), .string (if op = 0 then ⟨#[]⟩ else wd)] ∧ Below w5.heap.size w5 wx)
          case first =>
            obtain ⟨_, f0, f1, f2⟩ := blk3 kZ
            by_cases p0 : op = 0
            · subst p0
              have hno : ¬ (0 : Int) < ((0 : Nat) : Int) := by omega
              clear c2 HT1
              go_wp2
              go_meet
              exact ⟨congrArg Value.string HT0, kZ, bZ⟩
            · have hpos : (0 : Int) < (op : Int) := by omega
              have h7 : (op : Int) < 7 := by omega
              have ho2 : (⟨(opsL op).toArray⟩ : ByteArray).size ≤ 2 := ops_size op
              have HE := (show ∀ op : Nat, _ → _ from HT1) op p0
              generalize (⟨(opsL op).toArray⟩ : ByteArray) = os at *
              replace HE : Hid (_ = _) := HE
              clear HT1 HT0
              have HK : Hid (Blk (W2.setCell ⟨w5.heap.size, 2, none⟩ (.string wd)) w5.heap.size 43 [.string nm, .int .i64 (op : Int), .string wd] ∧ Below w5.heap.size w5 (W2.setCell ⟨w5.heap.size, 2, none⟩ (.string wd))) := ⟨blk_put kZ 2 (.string wd), bZ.setCell (Nat.le_refl _) _⟩
              go_wp2
              go_meet
              exact ⟨congrArg Value.string HE, by rw [if_neg p0]; exact HK.1, HK.2⟩
          case rest =>
            clear c2 HT1 HT0 kZ bZ
            obtain ⟨rfl, kB, bB⟩ := hcut
            have hb := below_next bb bB
            have hO := hTW.next bB
            clear bb bB hTW
            generalize w5.heap.size = B1 at *
            obtain ⟨w6, h6⟩ : ∃ X, X = wc := ⟨_, rfl⟩
            subst h6
            have hm := not_nil n1
            have hx := not_nil x1
            have e1 := att_tksB op q bl true hn hw hm hx
            have e0 := att_tksB op q bl false hn hw hm hx
            have p1 := att_parse (w := wd.data.toList) q bl true hn hop
            have p2 := att_parse (w := wd.data.toList) q bl false hn hop
            have hsz5 : (⟨(attB nm.data.toList op wd.data.toList q bl).toArray⟩ : ByteArray).size ≤ 250 := att_size nm wd op q bl (by omega) (by omega)
            have t1 : (⟨(attB nm.data.toList op wd.data.toList q bl).toArray⟩ ++ ⟨#[93]⟩ : ByteArray).data.toList = attB nm.data.toList op wd.data.toList q bl ++ endX true := by simp [ByteArray.data_append, endX]
            have t0 : (⟨(attB nm.data.toList op wd.data.toList q bl).toArray⟩ : ByteArray).data.toList = attB nm.data.toList op wd.data.toList q bl ++ endX false := by simp [endX]
            rw [← t1] at e1
            rw [← t0] at e0
            clear t1 t0
            have hattA : attA nm.data.toList op wd.data.toList = ⟨nm, op, if op = 0 then ⟨#[]⟩ else wd⟩ := rfl
            rw [hattA] at p1
            clear hattA
            generalize (⟨(attB nm.data.toList op wd.data.toList q bl).toArray⟩ : ByteArray) = sa at *
            have hof := Sl.of_any (sa ++ ⟨#[93]⟩) w6 (by rw [ByteArray.size_append]; show sa.size + 1 ≤ _; omega)
            have HG1 : Hid (Sl.Good (tksB (sa ++ ⟨#[93]⟩).data.toList)) := tksB_good _ (by rw [Array.length_toList]; show (sa ++ ⟨#[93]⟩ : ByteArray).size ≤ _; rw [ByteArray.size_append]; show sa.size + 1 ≤ _; omega)
            have HG0 : Hid (Sl.Good (tksB sa.data.toList)) := tksB_good _ (by rw [Array.length_toList]; show sa.size ≤ _; omega)
            have HO0 : Hid (∀ X, _) := fun X => Sl.of_any sa X (by omega)
            rw [e1] at hof HG1
            have HF : Hid (∀ X, Calls _ _ _ X _) := fun X => e0 ▸ (show ∀ X, _ from HO0) X
            rw [e0] at HG0
            clear HO0 e1 e0
            simp only [if_true, Bool.false_eq_true, if_false] at p1 p2
            generalize attT nm.data.toList op wd.data.toList q bl (endT true) = ts1 at *
            generalize attT nm.data.toList op wd.data.toList q bl (endT false) = ts0 at *
            generalize (if op = 0 then ⟨#[]⟩ else wd : ByteArray) = tx at *
            go_wp2_with fail
            refine hof.mono ?_
            clear hof
            rintro e w7 ⟨v7, rfl, hr7, b7⟩
            have h3 := Sl.parse_any v7 ts1 w7 (BtsAt.of_owns hr7 rfl) (hO.next b7) HG1
            replace kB := kB.below b7 kB.lt
            replace hb := below_next hb b7
            replace hO := hO.next b7
            clear hr7 b7
            go_wp2_with fail
            refine h3.mono ?_
            clear h3 HG1
            rintro e w8 ⟨hcs, b8⟩
            replace kB := kB.below b8 kB.lt
            replace hb := below_next hb b8
            replace hO := hO.next b8
            rcases hcs with ⟨l, x, hl, rfl, hx⟩ | ⟨hl, _⟩
            · obtain rfl := Option.some.inj (hl.symm.trans p1)
              have hx' := Wg.SelsAt.toE 9 hx
              clear hx hl p1 b8
              obtain ⟨px, cx, rfl⟩ := Wg.SelsE.len hx'
              obtain ⟨b, off, c, rfl, hbn, h1, h2, _, ⟨x2, rfl, hx2⟩, hcell⟩ := Wg.RowT.get hx' (k := 0) rfl
              have z0 := hcell 0 _ rfl
              obtain ⟨pp, cp, rfl⟩ := Wg.RowT.len hx2
              obtain ⟨bb, oo, c, rfl, hbb, m1, m2, _, ⟨c3, rfl, hcp⟩, hcl⟩ := Wg.RowT.get hx2 (k := 0) rfl
              obtain ⟨vi, vk, va, vp, rfl, n1, n2, n3, n4⟩ := hcp
              have y4 := hcl 4 _ rfl
              obtain ⟨pa, ca, rfl⟩ := n3.len
              obtain ⟨b3, o3, c, rfl, hb3, q1, q2, _, hat, hc4⟩ := Wg.RowT.get n3 (k := 0) rfl
              obtain rfl := hat
              have a0 := hc4 0 _ rfl
              have a1 := hc4 1 _ rfl
              have a2 := hc4 2 _ rfl
              simp only [Cp.attrs, List.length_cons, List.length_nil, Nat.zero_mul, Nat.add_zero, Nat.zero_add] at z0 y4 a0 a1 a2 h1 m1 q1
              clear hcell hcl hc4 hx' hx2 n1 n2 n3 n4
              have hof := (show ∀ X, _ from HF) w8
              clear HF
              go_wp2_with fail
              refine hof.mono ?_
              clear hof
              rintro e w9 ⟨v9, rfl, hr9, b9⟩
              have h3 := Sl.parse_any v9 ts0 w9 (BtsAt.of_owns hr9 rfl) (hO.next b9) HG0
              go_wp2_with fail
              refine h3.mono ?_
              clear h3 HG0 hr9
              rintro e w10 ⟨hcs, b10⟩
              rcases hcs with ⟨l, x, hl, rfl, hx⟩ | ⟨_, rfl⟩
              · cases hl.symm.trans p2
              have bt : Below w8.heap.size w8 w10 := b9.trans (b10.mono b9.size)
              replace kB := kB.below bt kB.lt
              replace hb := below_next hb bt
              replace z0 := (bt.cell (p := ⟨b, off, none⟩) hbn).trans z0
              replace y4 := (bt.cell (p := ⟨bb, oo + 4, none⟩) hbb).trans y4
              replace a0 := (bt.cell (p := ⟨b3, o3, none⟩) hb3).trans a0
              replace a1 := (bt.cell (p := ⟨b3, o3 + 1, none⟩) hb3).trans a1
              replace a2 := (bt.cell (p := ⟨b3, o3 + 2, none⟩) hb3).trans a2
              obtain ⟨⟨k0, k1, k2⟩, _⟩ := blk3 kB
              have bD : Hid (∀ n, Below w.heap.size w (w10.drewN n)) := fun n => below_drewN' hb n
              clear b9 b10 bt hO p2 kB hb
              go_wp2
              go_quiet (fail)
              go_wp2
              go_ret
              exact ⟨rfl, (show ∀ n, _ from bD) _⟩
            · cases hl.symm.trans p1

theorem selAttrs_met (os : Os) : laidMet Tryd.prog Rows.selAttrsRow.laid ((laidIn (World.holding Tryd.prog os ⟨#[], #[], []⟩)).forCall (fun _ _ => 0) ⟨#[], #[.string ⟨#[]⟩, .int .i64 0, .string ⟨#[]⟩, .bool false, .bool false], []⟩).memory :=
  laidMet_of_run' 8 (by kernel_rfl) (by kernel_rfl)
theorem selAttrs_reads (os : Os) {H : Type} (enc : TypeId × Value → H) : ∃ places, DataW.whole enc Tryd.prog ((laidIn (World.holding Tryd.prog os ⟨#[], #[], []⟩)).forCall (fun _ _ => 0) ⟨#[], #[.string ⟨#[]⟩, .int .i64 0, .string ⟨#[]⟩, .bool false, .bool false], []⟩).memory Tryd.f4.params.toList Rows.selAttrsSpec.vars false (#[.string ⟨#[]⟩, .int .i64 0, .string ⟨#[]⟩, .bool false, .bool false] : Array Value).toList 8 = some ([.lit (.string []), .lit (.int .i64 0), .lit (.string []), .lit (.bool false), .lit (.bool false)], [], places) :=
  ⟨[], by kernel_rfl⟩

set_option maxRecDepth 100000 in
theorem selAttrs_lifted (os : Os) (started : os.Started) (H : Type) (enc : TypeId × Value → H) (F : Stop.Interp) :
    ReturnsInHanded {} Tryd.checked os 4 .any ((OpenSpec.ofChange Rows.selAttrsSpec).preRow enc Tryd.prog Tryd.f4 Rows.selAttrsRow.domain false Rows.selAttrsRow.laid) (((OpenSpec.ofChange Rows.selAttrsSpec).at F).post enc Tryd.prog Tryd.f4 false true false false) := by
  obtain ⟨places, hx⟩ := selAttrs_reads os enc
  refine returnsInHanded_of_row (C := Tryd.checked) (s := OpenSpec.ofChange Rows.selAttrsSpec) ownNone started (by kernel_rfl) Tryd.func4
    (witness_row_at (enc := enc) (C := Tryd.checked) false (laidIn (World.holding Tryd.prog os ⟨#[], #[], []⟩)) #[.string ⟨#[]⟩, .int .i64 0, .string ⟨#[]⟩, .bool false, .bool false] rfl (by kernel_rfl) (by kernel_rfl) (by kernel_rfl)
      (OpenSpec.preRow_of_cond 8 hx (by kernel_rfl) (fun k hk => by cases hk) (by kernel_rfl) (selAttrs_met os))) ?_
  intro W base args ds gs before hval hW _ _ _ hL hS _
  have hW' := hW
  obtain ⟨p, q, hA0, hV, rfl, hfz, hnd⟩ := hW
  have hA : DataW.TrodAll enc Tryd.prog W 0 (fun _ => true) true Tryd.f4.params.toList args.toList ds p := hA0
  rw [Tryd.params4] at hA hval
  obtain ⟨v0, vs0, d0, ds0, p0, q0, hargs, rfl, rfl, h0, r0⟩ := trodAll_cons hA
  obtain ⟨v1, vs1, d1, ds1, p1, q1, rfl, rfl, rfl, h1, r1⟩ := trodAll_cons r0
  obtain ⟨v2, vs2, d2, ds2, p2, q2, rfl, rfl, rfl, h2, r2⟩ := trodAll_cons r1
  obtain ⟨v3, vs3, d3, ds3, p3, q3, rfl, rfl, rfl, h3, r3⟩ := trodAll_cons r2
  obtain ⟨v4, vs4, d4, ds4, p4, q4, rfl, rfl, rfl, h4, r4⟩ := trodAll_cons r3
  obtain ⟨rfl, rfl, rfl⟩ := trodAll_nil r4
  obtain rfl : args = #[v0, v1, v2, v3, v4] := by cases args; simp_all
  obtain ⟨rfl, rfl⟩ := trodVars_none hV
  obtain ⟨s0, rfl, rfl, rfl, w0⟩ := open_string Tryd.underlying9 (hval 0 9 v0 rfl rfl) h0
  obtain ⟨a1, rfl, rfl, rfl, w1⟩ := open_int Tryd.underlying3 (hval 1 3 v1 rfl rfl) h1
  obtain ⟨s2, rfl, rfl, rfl, w2⟩ := open_string Tryd.underlying9 (hval 2 9 v2 rfl rfl) h2
  obtain ⟨a3, rfl, rfl, rfl⟩ := open_bool Tryd.underlying4 (hval 3 4 v3 rfl rfl) h3
  obtain ⟨a4, rfl, rfl, rfl⟩ := open_bool Tryd.underlying4 (hval 4 4 v4 rfl rfl) h4
  clear hA0
  refine (selAttrs_walk W (tabs_of_laid hL hS) s0 w0 a1 w1 s2 w2 a3 a4).mono fun e W' ⟨he, bel⟩ => ?_
  subst he
  exact ⟨_, rfl, _, _, _, [], _, [], hW', trodAll_mk1 (shut_bool Tryd.underlying4 _), (trodAll_cons_mk (shut_string Tryd.underlying9 w0) (trodAll_cons_mk (shut_int Tryd.underlying3 w1) (trodAll_cons_mk (shut_string Tryd.underlying9 w2) (trodAll_cons_mk (shut_bool Tryd.underlying4 _) (trodAll_cons_mk (shut_bool Tryd.underlying4 _) trodAll_mk0))))), rfl, bel.frame _, fun h => by cases h⟩

theorem selAttrs_said : Rows.SelAttrsSaid :=
  OpenClaim.holds_of_cond 4 Tryd.f4 rfl rfl rfl rfl rfl rfl rfl ⟨rfl, rfl, rfl, rfl, rfl⟩ rfl rfl rfl rfl rfl (by kernel_rfl) Tryd.func4 (by kernel_rfl)
    (of_decide_eq_true (by kernel_rfl)) (by unfold Func.isWrapper; first | (rw [if_pos (by decide +kernel)]; kernel_rfl) | (rw [if_neg (by decide +kernel)]; exact ⟨rfl, rfl⟩))
    (fun os started H enc _ F => by rw [OpenClaim.pre_eq_preRow]; exact selAttrs_lifted os started H enc F)

theorem selAttrs_plain (f : FuncId) (fn : Func) (hf : Tryd.pinned.checked.prog.funcNamed "tapestrier/tapestrierlaw8.SelAttrs" = some f) (hfn : Tryd.pinned.checked.prog.funcs[f]? = some fn) :
    false = Tryd.pinned.checked.prog.looks [] ∧ ∀ (j : Nat) t, fn.params[j]? = some t → Tryd.pinned.checked.prog.wantsStandIn t = false := by
  obtain rfl : f = 4 := Option.some.inj ((show Tryd.prog.funcNamed "tapestrier/tapestrierlaw8.SelAttrs" = some 4 by kernel_rfl).symm.trans hf) |>.symm
  obtain rfl : fn = Tryd.f4 := (Option.some.inj (Tryd.func4.symm.trans hfn)).symm
  refine ⟨by kernel_rfl, fun j t ht => ?_⟩
  rw [Tryd.params4] at ht
  have hm : t ∈ [9, 3, 9, 4] := by simpa using Array.mem_of_getElem? ht
  have hall : ([9, 3, 9, 4].all fun u => !Tryd.prog.wantsStandIn u) = true := by kernel_rfl
  exact (show Tryd.prog.wantsStandIn t = false by simpa using List.all_eq_true.1 hall t hm)

theorem selAttrs_card : Rows.SelAttrsCardSaid :=
  Claim7.holds_tied_plain_at .later [] _ _ _ _ selAttrs_said (fun _ h => by cases h) (by kernel_rfl) (fun _ h => by cases h) selAttrs_row_tie rfl ⟨rfl, rfl⟩ (by kernel_rfl) rfl selAttrs_plain (by kernel_rfl)
#print axioms selAttrs_card


end Go.Proofs.YtdkogbpcddeikaaDoor

/- For every two texts and every number of an operator: the law tapestrierlaw10.MatchAttrs returns true; no condition. -/
import Derived.Test.YtchfnnoabejlpaaMtTrees
import Derived.Test.YtchfnnoabejlpaaRfCmp
import Derived.Test.YtchfnnoabejlpaaDmArgs
import Derived.Test.YtchfnnoabejlpaaRows
import Derived.HandedShaped
namespace Go.Proofs.Ytchfnnoabejlpaa
open Go.Proofs.Ytchfnnoabejlpaa.Tre
open Go Go.ChangeShapes Go.WideShapes Go.ChangeAt Go.RowKit Dm Mt
open Go.ChangeMaps (open_string shut_string)

namespace Mt
def bA : ByteArray := ⟨#[97]⟩
def bM : ByteArray := ⟨#[109]⟩
def bN : ByteArray := ⟨#[110]⟩
/-- The law's own node. -/
def nd3 (t : ByteArray) : Nd := ⟨-1, ⟨#[]⟩, ⟨#[]⟩, [], [(⟨#[97]⟩, ⟨#[111, 116, 104, 101, 114]⟩), (⟨#[109]⟩, t), (⟨#[109]⟩, ⟨#[110, 111, 110, 101]⟩)]⟩
theorem low3 (t : ByteArray) : lowN (nd3 t) = nd3 t := rfl
def es3 (t : ByteArray) : List El := [⟨nd3 t, 0, 1, []⟩]
theorem new3 (t : ByteArray) : newV [nd3 t] = .ok (es3 t) := rfl
def atC1 (nm : ByteArray) (op : Int) (x : ByteArray) : Cp := .mk ⟨#[]⟩ [] [] [⟨nm, op, x⟩] []
theorem att_m (t x : ByteArray) (op : Int) : attrV (nd3 t) ⟨bM, op, x⟩ = textV t ⟨bM, op, x⟩ := by
  unfold attrV
  rw [show (nd3 t).ats.find? (fun p => decide (p.1 = (⟨bM, op, x⟩ : At).name)) = some (bM, t) from rfl]
theorem att_n (t x : ByteArray) (op : Int) : attrV (nd3 t) ⟨bN, op, x⟩ = false := by
  unfold attrV
  rw [show (nd3 t).ats.find? (fun p => decide (p.1 = (⟨bN, op, x⟩ : At).name)) = none from rfl]
theorem cmp3 (t : ByteArray) (a : At) : compoundV (es3 t) 0 (.mk ⟨#[]⟩ [] [] [a] []) = attrV (nd3 t) a := by
  rw [show compoundV (es3 t) 0 (.mk ⟨#[]⟩ [] [] [a] []) = ((attrV (nd3 t) a && true) && true) from rfl]
  simp
theorem rcmp3 (t : ByteArray) (a : At) : Rf.compoundV (es3 t) 0 (.mk ⟨#[]⟩ [] [] [a] []) = attrV (nd3 t) a := by
  rw [show Rf.compoundV (es3 t) 0 (.mk ⟨#[]⟩ [] [] [a] []) = ((attrV (nd3 t) a && true) && true) from rfl]
  simp
/-- Things in a block that is known whole. -/
theorem slat_new {α : Type} {sz : Nat} {f : α → List Value} (hf : ∀ x, (f x).length = sz) {w : World} {B : Nat} {T : TypeId} {l : List α} (hB : Blk w B T (l.flatMap f)) (hl : l.length ≤ 1000000) :
    SlAt sz f w.heap.size w (.slice (some ⟨B, 0, none⟩) l.length l.length) l := by
  refine .inr ⟨B, 0, l.length, rfl, Nat.le_refl _, by unfold maxLen; omega, hB.lt, fun j x hj i u hu => ?_⟩
  have hi : i < sz := by rw [← hf x]; exact (List.getElem?_eq_some_iff.1 hu).1
  rw [Nat.zero_add, cell_of_block (show w.heap[B]? = _ from hB), List.getElem?_toArray, flat_at hf l j x hj i hi]
  exact hu
theorem row_slat {α : Type} {sz : Nat} {f : α → List Value} {T : List Value → α → Prop} (hf : ∀ x, (f x).length = sz) (hT : ∀ x, T (f x) x) {n : Nat} {w : World} {v : Value} {l : List α} (h : SlAt sz f n w v l) : Wg.RowT sz T n w v l := by
  rcases h with ⟨rfl, h⟩ | ⟨B, o, c, rfl, h1, h2, h3, h4⟩
  · refine .inl ⟨rfl, ?_⟩
    rcases h with rfl | ⟨a, c, rfl, _⟩
    · exact ⟨_, _, rfl⟩
    · exact ⟨_, _, rfl⟩
  · exact .inr ⟨B, o, c, rfl, h1, h2, h3, fun j x hx => ⟨f x, hf x, hT x, fun i u hu => h4 j x hx i u hu⟩⟩
/-- What the texts of the walk tell. -/
inductive Case3 (t x : ByteArray) (op : Int) (V : Bool) : Prop
  | has : op = 0 → V = true → Case3 t x op V
  | is (b : Bool) : op = 1 → (t.toList == x.toList) = b → V = b → Case3 t x op V
  | begins0 : op = 4 → x = ⟨#[]⟩ → V = false → Case3 t x op V
  | begins1 : op = 4 → (x.toList == []) = false → x.toList.isEmpty = false → t.size < x.size → V = false → Case3 t x op V
  | begins2 (b : Bool) : op = 4 → (x.toList == []) = false → x.toList.isEmpty = false → x.size ≤ t.size → ((t.extract 0 x.size).toList == x.toList) = b → V = b → Case3 t x op V
  | ends0 : op = 5 → x = ⟨#[]⟩ → V = false → Case3 t x op V
  | ends1 : op = 5 → (x.toList == []) = false → x.toList.isEmpty = false → t.size < x.size → V = false → Case3 t x op V
  | ends2 (b : Bool) : op = 5 → (x.toList == []) = false → x.toList.isEmpty = false → x.size ≤ t.size → ((t.extract (t.size - x.size) t.size).toList == x.toList) = b → V = b → Case3 t x op V
  | other : (op == 0) = false → (op == 1) = false → (op == 4) = false → (op == 5) = false → Case3 t x op V
theorem case3 (t x : ByteArray) (op : Int) : Case3 t x op (textV t ⟨bM, op, x⟩) := by
  by_cases h0 : op = 0
  · subst h0; exact .has rfl rfl
  by_cases h1 : op = 1
  · subst h1; exact .is _ rfl (beqDec t x) rfl
  by_cases h4 : op = 4
  · subst h4
    have hv : textV t ⟨bM, 4, x⟩ = (decide (bts x ≠ []) && (bts x).isPrefixOf (bts t)) := rfl
    by_cases hx : x = ⟨#[]⟩
    · refine .begins0 rfl hx ?_
      rw [hv, hx]; rfl
    · have hb : decide (bts x ≠ []) = true := decide_eq_true (fun e => hx (btsNil.1 e))
      rw [hv, hb, Bool.true_and]
      by_cases hs : x.size ≤ t.size
      · exact .begins2 _ rfl (Bk.bytes_ne hx) (emptyNo hx) hs (Rf.piece0 t x) rfl
      · refine .begins1 rfl (Bk.bytes_ne hx) (emptyNo hx) (by omega) ?_
        rw [Bool.eq_false_iff]
        intro e
        have := (List.isPrefixOf_iff_prefix.1 e).length_le
        rw [show (bts x).length = x.size from Rf.bts_len x, show (bts t).length = t.size from Rf.bts_len t] at this
        omega
  by_cases h5 : op = 5
  · subst h5
    have hv : textV t ⟨bM, 5, x⟩ = (decide (bts x ≠ []) && (bts x).isSuffixOf (bts t)) := rfl
    by_cases hx : x = ⟨#[]⟩
    · refine .ends0 rfl hx ?_
      rw [hv, hx]; rfl
    · have hb : decide (bts x ≠ []) = true := decide_eq_true (fun e => hx (btsNil.1 e))
      rw [hv, hb, Bool.true_and]
      by_cases hs : x.size ≤ t.size
      · exact .ends2 _ rfl (Bk.bytes_ne hx) (emptyNo hx) hs (Rf.pieceE t x) rfl
      · refine .ends1 rfl (Bk.bytes_ne hx) (emptyNo hx) (by omega) ?_
        rw [Bool.eq_false_iff]
        intro e
        have := (List.isSuffixOf_iff_suffix.1 e).length_le
        rw [show (bts x).length = x.size from Rf.bts_len x, show (bts t).length = t.size from Rf.bts_len t] at this
        omega
  exact .other (by simpa using h0) (by simpa using h1) (by simpa using h4) (by simpa using h5)
end Mt

set_option maxRecDepth 100000 in
set_option maxHeartbeats 8000000 in
theorem matchAttrs_walk (w : World) (hM : Mt.ML w) (t : ByteArray) (_ht : t.size ≤ 281474976710656) (op : Int) (hop : Lit.wf (.int .i64 op) = true) (x : ByteArray) (_hx : x.size ≤ 281474976710656) :
    Calls Try.prog 7 #[.string t, .int .i64 op, .string x] w fun e w' => e = .returned (.bool true) ∧ Below w.heap.size w w' := by
  have h0 := Mt.alive_any w hM
  have HM : Hid (Mt.ML w) := hM
  clear hM
  by_cases ht : t.size ≤ 100
  case neg =>
    have hti : ¬ ((t.size : Int) ≤ 100) := by omega
    have hti' : (100 : Int) < (t.size : Int) := by omega
    go_enter Try.func7, Try.ntmps7
    go_wp2_with fail
    refine h0.mono ?_
    clear h0
    rintro e w1 ⟨rfl, b1⟩
    go_wp2
    go_ret
    exact ⟨rfl, b1⟩
  by_cases hx : x.size ≤ 100
  case neg =>
    have hti : ¬ ((100 : Int) < (t.size : Int)) := by omega
    have hti' : (100 : Int) < (x.size : Int) := by omega
    go_enter Try.func7, Try.ntmps7
    go_wp2_with fail
    refine h0.mono ?_
    clear h0
    rintro e w1 ⟨rfl, b1⟩
    go_wp2
    go_ret
    exact ⟨rfl, b1⟩
  have hti : ¬ ((100 : Int) < (t.size : Int)) := by omega
  have hxi : ¬ ((100 : Int) < (x.size : Int)) := by omega
  go_enter Try.func7, Try.ntmps7
  go_wp2_with fail
  refine h0.mono ?_
  clear h0
  rintro e w1 ⟨rfl, b1⟩
  obtain ⟨P, hP⟩ : ∃ P, w1.alloc (.cells #[.string ⟨#[97]⟩, .string ⟨#[111, 116, 104, 101, 114]⟩, .string ⟨#[109]⟩, .string t, .string ⟨#[109]⟩, .string ⟨#[110, 111, 110, 101]⟩] 61) = P := ⟨_, rfl⟩
  have bP : Below w1.heap.size w1 P := by rw [← hP]; exact (Below.refl _ _).alloc (Nat.le_refl _) _
  have kP : Blk P w1.heap.size 61 ((nd3 t).ats.flatMap paCells) := by rw [← hP]; exact Blk.new w1 61 ((nd3 t).ats.flatMap paCells)
  obtain ⟨Q, hQ⟩ : ∃ Q, P.alloc (.cells #[.int .i64 (-1), .string ⟨#[]⟩, .string ⟨#[]⟩, .slice none 0 0, .slice (some ⟨w1.heap.size, 0, none⟩) 3 3] 51) = Q := ⟨_, rfl⟩
  have bQ : Below P.heap.size P Q := by rw [← hQ]; exact (Below.refl _ _).alloc (Nat.le_refl _) _
  obtain ⟨nv, hnv⟩ : ∃ nv : Nv, nv = ⟨nd3 t, .slice none 0 0, .slice (some ⟨w1.heap.size, 0, none⟩) 3 3⟩ := ⟨_, rfl⟩
  have kQ : Blk Q P.heap.size 51 ([nv].flatMap nvCells) := by rw [← hQ, hnv]; exact Blk.new P 51 _
  have hnd : nv.nd = nd3 t := by rw [hnv]
  have hNodes : NodesAt Q.heap.size Q (.slice (some ⟨P.heap.size, 0, none⟩) 1 1) [nv] := nodes_new kQ (by simp) (fun n h => by
    rw [List.mem_singleton] at h; subst h; rw [hnv]; exact strs_nil _ _) (fun n h => by
    rw [List.mem_singleton] at h; subst h; rw [hnv]
    exact (slat_new (f := paCells) (fun _ => rfl) kP (by simp [nd3])).next bQ)
  have hOk : ∀ n ∈ [nv], NdOk n.nd := fun n h => by
    rw [List.mem_singleton] at h; subst h; rw [hnd]
    refine ⟨Nat.zero_le _, Nat.zero_le _, fun _ h => (by cases h), fun a ha => ?_, Nat.zero_le _, by simp [nd3]⟩
    simp only [nd3, List.mem_cons, List.not_mem_nil, or_false] at ha
    rcases ha with rfl | rfl | rfl
    · exact ⟨by decide, by decide⟩
    · exact ⟨show (1 : Nat) ≤ _ by decide, show t.size ≤ _ by omega⟩
    · exact ⟨by decide, by decide⟩
  have hn := new_any _ [nv] Q hNodes hOk
  have HNS : Hid (NodesAt Q.heap.size Q (.slice (some ⟨P.heap.size, 0, none⟩) 1 1) [nv]) := hNodes
  have HOK : Hid (∀ n ∈ [nv], NdOk n.nd) := hOk
  have HND : Hid (nv.nd = nd3 t) := hnd
  have b2 := below_next b1 (below_next bP bQ)
  clear hNodes hOk hnd kQ kP hnv bP bQ b1
  go_wp2_with fail
  refine hn.mono ?_
  clear hn
  rintro e w2 ⟨hm, b3⟩
  have b12 := below_next b2 b3
  have hV0 : newV ([nv].map Nv.nd) = .ok (es3 t) := by
    show newV [nv.nd] = _
    rw [HND.out]
    exact new3 t
  unfold Made at hm
  rcases hm with ⟨tb, g, cap, qs, hV, rfl, hT⟩ | ⟨z, hV, _⟩
  rotate_left
  · rw [hV0] at hV; cases hV
  have hq : qs.map Em.e = es3 t := by rw [hV0] at hV; exact (Except.ok.inj hV).symm
  have hG := (good_new hV hT HOK.out (HM.out.next b12) (fun n h p hp => by
    rw [List.mem_singleton] at h; subst h; rw [HND.out] at hp
    simp only [nd3, List.mem_cons, List.not_mem_nil, or_false] at hp
    rcases hp with rfl | rfl | rfl
    · decide
    · show t.size < _; omega
    · decide)).1
  rw [hq] at hG
  have HG : Hid (Mt.Good w2 tb (es3 t)) := hG
  have hr := refNew_any _ [nv] w2 (HNS.out.next b3) HOK.out
  have HV0 : Hid (newV ([nv].map Nv.nd) = .ok (es3 t)) := hV0
  clear hG hV hV0 hT hq b2 b3 hP hQ
  go_wp2_with fail
  refine hr.mono ?_
  clear hr
  rintro e w3 ⟨hm, b4⟩
  unfold RMade at hm
  rcases hm with ⟨rb, rnv, rdv, ns, ds, es, hV, rfl, hR, hE⟩ | ⟨z, hV, _⟩
  rotate_left
  · rw [HV0.out] at hV; cases hV
  obtain rfl : es = es3 t := by rw [HV0.out] at hV; exact (Except.ok.inj hV).symm
  have hTA : (Rf.TE.mk rb.succ.pred rb rnv rdv ns ds (es3 t)).es = es3 t := rfl
  clear hTA
  have b13 := below_next b12 b4
  obtain ⟨TT, hTT⟩ : ∃ TT : Rf.TE, TT = ⟨_, rb, rnv, rdv, ns, ds, es3 t⟩ := ⟨Rf.TE.mk w2.heap.size rb rnv rdv ns ds (es3 t), rfl⟩
  have hAt : TT.At w3 := by
    obtain ⟨o1, o2, o3⟩ := Dm.newV_ok hV
    rw [hTT]
    refine ⟨hR, hE, o1, show (es3 t).length ≤ 4096 by simp [es3], fun n hn p hp => ?_⟩
    have h4 : n.nd ∈ (es3 t).map El.nd := by rw [← hE.nds]; exact List.mem_map_of_mem hn
    have h5 : n.nd = nd3 t := by simpa [es3] using h4
    rw [h5] at hp
    simp only [nd3, List.mem_cons, List.not_mem_nil, or_false] at hp
    rcases hp with rfl | rfl | rfl
    · decide
    · show t.size ≤ _; omega
    · decide
  have HAt : Hid (TT.At w3) := hAt
  have hTp : TT.p = .pointer (some ⟨rb, 0, none⟩) := by rw [hTT]
  have hTe : TT.es = es3 t := by rw [hTT]
  clear hV hR hE hAt hTT
  obtain ⟨R1, hR1⟩ : ∃ R1, w3.alloc (.cells #[.string ⟨#[109]⟩, .int .i64 op, .string x] 63) = R1 := ⟨_, rfl⟩
  have e1 : Below w3.heap.size w3 R1 := by rw [← hR1]; exact (Below.refl _ _).alloc (Nat.le_refl _) _
  have k1 : Blk R1 w3.heap.size 63 ([(⟨bM, op, x⟩ : Tre.At)].flatMap atCells) := by rw [← hR1]; exact Blk.new w3 63 ([(⟨bM, op, x⟩ : Tre.At)].flatMap atCells)
  obtain ⟨R2, hR2⟩ : ∃ R2, R1.alloc (.cells #[.string ⟨#[]⟩, .slice none 0 0, .slice none 0 0, .slice (some ⟨w3.heap.size, 0, none⟩) 1 1, .slice none 0 0] 40) = R2 := ⟨_, rfl⟩
  have e2 : Below R1.heap.size R1 R2 := by rw [← hR2]; exact (Below.refl _ _).alloc (Nat.le_refl _) _
  have k2 : Blk R2 R1.heap.size 40 [.string ⟨#[]⟩, .slice none 0 0, .slice none 0 0, .slice (some ⟨w3.heap.size, 0, none⟩) 1 1, .slice none 0 0] := by rw [← hR2]; exact Blk.new R1 40 _
  obtain ⟨R3, hR3⟩ : ∃ R3, R2.alloc (.cells #[.string ⟨#[110]⟩, .int .i64 op, .string x] 63) = R3 := ⟨_, rfl⟩
  have e3 : Below R2.heap.size R2 R3 := by rw [← hR3]; exact (Below.refl _ _).alloc (Nat.le_refl _) _
  have k3 : Blk R3 R2.heap.size 63 ([(⟨bN, op, x⟩ : Tre.At)].flatMap atCells) := by rw [← hR3]; exact Blk.new R2 63 ([(⟨bN, op, x⟩ : Tre.At)].flatMap atCells)
  obtain ⟨R4, hR4⟩ : ∃ R4, R3.alloc (.cells #[.string ⟨#[]⟩, .slice none 0 0, .slice none 0 0, .slice (some ⟨R2.heap.size, 0, none⟩) 1 1, .slice none 0 0] 40) = R4 := ⟨_, rfl⟩
  have e4 : Below R3.heap.size R3 R4 := by rw [← hR4]; exact (Below.refl _ _).alloc (Nat.le_refl _) _
  have k4 : Blk R4 R3.heap.size 40 [.string ⟨#[]⟩, .slice none 0 0, .slice none 0 0, .slice (some ⟨R2.heap.size, 0, none⟩) 1 1, .slice none 0 0] := by rw [← hR4]; exact Blk.new R3 40 _
  have e34 := below_next e3 e4
  have e24 := below_next e2 e34
  have e14 := below_next e1 e24
  have sM : AttrsAt R4.heap.size R4 (.slice (some ⟨w3.heap.size, 0, none⟩) 1 1) [(⟨bM, op, x⟩ : Tre.At)] := (slat_new (f := atCells) (fun _ => rfl) k1 (by simp)).next e24
  have s1 : R1.heap.size = w3.heap.size + 1 := by rw [← hR1, World.size_alloc]
  have s2 : R2.heap.size = w3.heap.size + 2 := by rw [← hR2, World.size_alloc, s1]
  have s3 : R3.heap.size = w3.heap.size + 3 := by rw [← hR3, World.size_alloc, s2]
  have sN : AttrsAt R4.heap.size R4 (.slice (some ⟨w3.heap.size + 2, 0, none⟩) 1 1) [(⟨bN, op, x⟩ : Tre.At)] := by
    rw [← s2]
    exact (slat_new (f := atCells) (fun _ => rfl) k3 (by simp)).next e4
  have K2 : Hid (Blk R4 (w3.heap.size + 1) 40 [.string ⟨#[]⟩, .slice none 0 0, .slice none 0 0, .slice (some ⟨w3.heap.size, 0, none⟩) 1 1, .slice none 0 0]) := by rw [← s1]; exact k2.next e34
  have K4 : Hid (Blk R4 (w3.heap.size + 3) 40 [.string ⟨#[]⟩, .slice none 0 0, .slice none 0 0, .slice (some ⟨w3.heap.size + 2, 0, none⟩) 1 1, .slice none 0 0]) := by
    rw [← s3]
    rw [s2] at k4
    exact k4
  have HRR : Hid ((((w3.alloc (.cells #[.string ⟨#[109]⟩, .int .i64 op, .string x] 63)).alloc (.cells #[.string ⟨#[]⟩, .slice none 0 0, .slice none 0 0, .slice (some ⟨w3.heap.size, 0, none⟩) 1 1, .slice none 0 0] 40)).alloc (.cells #[.string ⟨#[110]⟩, .int .i64 op, .string x] 63)).alloc (.cells #[.string ⟨#[]⟩, .slice none 0 0, .slice none 0 0, .slice (some ⟨w3.heap.size + 2, 0, none⟩) 1 1, .slice none 0 0] 40) = R4) := by
    show _ = _
    rw [hR1, hR2, hR3, ← s2, hR4]
  obtain ⟨V, hVV⟩ : ∃ V, textV t ⟨bM, op, x⟩ = V := ⟨_, rfl⟩
  have CM : Hid (∀ X, Below R4.heap.size R4 X → Calls Try.prog 14 #[.pointer (some ⟨tb, 0, none⟩), .int .i64 0, .agg #[.string ⟨#[]⟩, .slice none 0 0, .slice none 0 0, .slice (some ⟨w3.heap.size, 0, none⟩) 1 1, .slice none 0 0]] X fun r w' => r = .returned (.bool V) ∧ Below X.heap.size X w') := fun X hX => by
    have q := (HG.out.next (below_next (below_next b4 e14) hX)).cmp 0 0 (.mk ⟨#[]⟩ [] [] [⟨bM, op, x⟩] []) (.slice none 0 0) (.slice none 0 0) (.slice (some ⟨w3.heap.size, 0, none⟩) 1 1) (.slice none 0 0) ⟨_, _, _, _, rfl, .inl ⟨rfl, .inl rfl⟩, .inl ⟨rfl, .inl rfl⟩, sM.next hX, .inl ⟨rfl, _, _, rfl⟩, Nat.zero_le _, fun _ _ => trivial⟩
    rw [cmp3, att_m, hVV] at q
    exact q
  have CN : Hid (∀ X, Below R4.heap.size R4 X → Calls Try.prog 14 #[.pointer (some ⟨tb, 0, none⟩), .int .i64 0, .agg #[.string ⟨#[]⟩, .slice none 0 0, .slice none 0 0, .slice (some ⟨w3.heap.size + 2, 0, none⟩) 1 1, .slice none 0 0]] X fun r w' => r = .returned (.bool false) ∧ Below X.heap.size X w') := fun X hX => by
    have q := (HG.out.next (below_next (below_next b4 e14) hX)).cmp 0 0 (.mk ⟨#[]⟩ [] [] [⟨bN, op, x⟩] []) (.slice none 0 0) (.slice none 0 0) (.slice (some ⟨w3.heap.size + 2, 0, none⟩) 1 1) (.slice none 0 0) ⟨_, _, _, _, rfl, .inl ⟨rfl, .inl rfl⟩, .inl ⟨rfl, .inl rfl⟩, sN.next hX, .inl ⟨rfl, _, _, rfl⟩, Nat.zero_le _, fun _ _ => trivial⟩
    rw [cmp3, att_n] at q
    exact q
  have CR : Hid (∀ X, Below R4.heap.size R4 X → Calls Try.prog 15 #[.pointer (some ⟨rb, 0, none⟩), .int .i64 0, .agg #[.string ⟨#[]⟩, .slice none 0 0, .slice none 0 0, .slice (some ⟨w3.heap.size, 0, none⟩) 1 1, .slice none 0 0]] X fun r w' => r = .returned (.bool V) ∧ Below X.heap.size X w') := fun X hX => by
    have q := Rf.compound_any TT (.mk ⟨#[]⟩ [] [] [⟨bM, op, x⟩] []) (.slice none 0 0) (.slice none 0 0) (.slice (some ⟨w3.heap.size, 0, none⟩) 1 1) (.slice none 0 0) 0 X (HAt.out.next (below_next e14 hX)) (by rw [hTe]; simp [es3]) ⟨_, _, _, _, rfl, .inl ⟨rfl, _, _, rfl⟩, .inl ⟨rfl, _, _, rfl⟩, row_slat (f := atCells) (T := Wg.AtC) (fun _ => rfl) (fun _ => rfl) (sM.next hX), .inl ⟨rfl, _, _, rfl⟩⟩ ⟨⟨fun a ha => by
      rw [List.mem_singleton.1 (show a ∈ [(⟨bM, op, x⟩ : Tre.At)] from ha)]
      show x.size ≤ _; omega, fun _ h => by cases h⟩, fun _ h => by cases h⟩
    rw [hTe, hTp, rcmp3, att_m, hVV] at q
    exact q
  have b5 := below_next b13 e14
  have hc := CM.out R4 (Below.refl _ _)
  obtain ⟨⟨c0, c1, c2, c3, c4⟩, _⟩ := blk5 K2.out
  have HC3 : Hid (Case3 t x op V) := by
    show Case3 t x op V
    rw [← hVV]; exact case3 t x op
  clear hR1 hR2 hR3 hR4 s1 s2 s3 k1 k2 k3 k4 sM sN e1 e2 e3 e4 e34 e24 e14 hVV b12 b13 hTp hTe b4
  go_wp2_with fail
  rw [show _ = R4 from HRR.out]
  refine hc.mono ?_
  clear hc c0 c1 c2 c3 c4 HRR
  rintro r w4 ⟨rfl, b6⟩
  obtain ⟨⟨c0, c1, c2, c3, c4⟩, _⟩ := blk5 (K2.out.next b6)
  have hcr := CR.out w4 b6
  have B6 := below_next b5 b6
  have FIN : ∀ X, Below w4.heap.size w4 X → Below R4.heap.size R4 X := fun X hX => below_next b6 hX
  have HF : Hid (∀ X, Below w4.heap.size w4 X → Below R4.heap.size R4 X) := FIN
  clear FIN b5 b6 CM CR
  rcases HC3.out with ⟨rfl, rfl⟩ | ⟨b, rfl, hb, rfl⟩ | ⟨rfl, rfl, rfl⟩ | ⟨rfl, u1, u2, u3, rfl⟩ | ⟨b, rfl, u1, u2, u3, hb, rfl⟩ | ⟨rfl, rfl, rfl⟩ | ⟨rfl, u1, u2, u3, rfl⟩ | ⟨b, rfl, u1, u2, u3, hb, rfl⟩ | ⟨u1, u2, u3, u4⟩
  all_goals clear HC3
  all_goals go_wp2_with fail
  all_goals
    refine hcr.mono ?_
    clear hcr c0 c1 c2 c3 c4
    rintro r w5 ⟨rfl, b7⟩
    have hf := HF.out w5 b7
    have hcn := CN.out w5 hf
    obtain ⟨⟨c0, c1, c2, c3, c4⟩, _⟩ := blk5 (K4.out.next hf)
    have B7 := below_next B6 b7
    clear hf b7
    go_wp2_with fail
    refine hcn.mono ?_
    clear hcn c0 c1 c2 c3 c4
    rintro r w6 ⟨rfl, b8⟩
    have B8 := below_next B7 b8
    go_wp2
    go_ret
    exact ⟨rfl, B8⟩


set_option maxRecDepth 100000 in
theorem matchAttrs_lifted (os : Os) (started : os.Started) (H : Type) (enc : TypeId × Value → H) :
    ReturnsInHanded {} Try.checked os 7 .any (Rows.matchAttrsSpec.pre6 enc Try.prog Try.f7 Rows.matchAttrsRow.domain false) (Rows.matchAttrsSpec.post enc Try.prog Try.f7 false true false false) := by
  refine returnsInHanded_of_change_shaped (C := Try.checked) ownNone started (by kernel_rfl) Try.func7
    (ChangeSpec.witness6 (enc := enc) (C := Try.checked) false ⟨#[], #[.string ⟨#[]⟩, .int .i64 0, .string ⟨#[]⟩], []⟩ 8 (by kernel_rfl) (by kernel_rfl) (by kernel_rfl) (by kernel_rfl)) ?_
  intro W base args ds gs before hval hW _ hsz0 hS _
  have hW' := hW
  obtain ⟨p, q, hA0, hV, rfl, hfz, hnd⟩ := hW
  have hA : DataW.TrodAll enc Try.prog W 0 (fun _ => true) true Try.f7.params.toList args.toList ds p := hA0
  rw [Try.params7] at hA hval hsz0
  obtain ⟨v0, vs0, d0, ds0, p0, q0, hargs, rfl, rfl, h0, r0⟩ := trodAll_cons hA
  obtain ⟨v1, vs1, d1, ds1, p1, q1, rfl, rfl, rfl, h1, r1⟩ := trodAll_cons r0
  obtain ⟨v2, vs2, d2, ds2, p2, q2, rfl, rfl, rfl, h2, r2⟩ := trodAll_cons r1
  obtain ⟨rfl, rfl, rfl⟩ := trodAll_nil r2
  obtain rfl : args = #[v0, v1, v2] := by cases args; simp_all
  obtain ⟨rfl, rfl⟩ := trodVars_none hV
  have hsz := List.all_eq_true.1 hsz0
  obtain ⟨s0, rfl, rfl, rfl, w0⟩ := open_string Try.underlying9 (hval 0 9 v0 rfl rfl) h0
  have y0 : s0.size ≤ 281474976710656 := short_string (by simpa using hsz s0.data.toList.length (DataW.weights_mem_each (j := 0) rfl rfl _ (by simp [DataW.weights])))
  obtain ⟨a1, rfl, rfl, rfl, w1⟩ := open_int Try.underlying3 (hval 1 3 v1 rfl rfl) h1
  obtain ⟨s2, rfl, rfl, rfl, w2⟩ := open_string Try.underlying9 (hval 2 9 v2 rfl rfl) h2
  have y2 : s2.size ≤ 281474976710656 := short_string (by simpa using hsz s2.data.toList.length (DataW.weights_mem_each (j := 2) rfl rfl _ (by simp [DataW.weights])))
  clear hA0
  refine (matchAttrs_walk W (Try.laysM144.s1_3 W hS) s0 y0 a1 w1 s2 y2).mono fun e W' ⟨he, bel⟩ => ?_
  subst he
  exact ⟨_, rfl, _, _, _, [], _, [], hW', trodAll_mk1 (shut_bool Try.underlying4 _), (trodAll_cons_mk (shut_string Try.underlying9 w0) (trodAll_cons_mk (shut_int Try.underlying3 w1) (trodAll_cons_mk (shut_string Try.underlying9 w2) trodAll_mk0))), rfl, bel.frame _, fun h => by cases h⟩

theorem matchAttrs_said : Rows.MatchAttrsSaid :=
  OpenClaim.holds_of_wide 7 Try.f7 rfl rfl rfl rfl rfl rfl rfl ⟨rfl, rfl, rfl, rfl, rfl⟩ rfl rfl rfl rfl rfl (by kernel_rfl) Try.func7 (by kernel_rfl)
    (of_decide_eq_true (by kernel_rfl)) (by unfold Func.isWrapper; first | (rw [if_pos (by decide +kernel)]; kernel_rfl) | (rw [if_neg (by decide +kernel)]; exact ⟨rfl, rfl⟩))
    (fun os started H enc _ => matchAttrs_lifted os started H enc)
#print axioms matchAttrs_said


end Go.Proofs.Ytchfnnoabejlpaa

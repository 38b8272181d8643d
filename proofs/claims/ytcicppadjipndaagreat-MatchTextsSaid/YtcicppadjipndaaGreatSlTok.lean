/- One token as a value; results of structs; slices of ints: is one among them? -/
import Derived.Test.YtcicppadjipndaaGreatSlG
namespace Go.Proofs.YtcicppadjipndaaGreat.Sl
open Go.Proofs.YtcicppadjipndaaGreat.Tre
open Go Go.RowKit

def zeroT : Bt := ⟨0, ⟨#[]⟩, 0, false, 0⟩
/-- The token at a place (a zero one: there is none). -/
def at' (r : List Bt) (k : Nat) : Bt := r[k]?.getD zeroT
theorem at_drop (ts : List Bt) (b : Nat) : at' ts b = (ts.drop b).head?.getD zeroT := by
  unfold at'
  rw [List.head?_drop]
theorem at_lt {ts : List Bt} {a : Nat} (h : (at' ts a).kind ≠ 0) : a < ts.length := by
  by_cases hl : a < ts.length
  · exact hl
  · refine absurd ?_ h
    unfold at'
    rw [List.getElem?_eq_none (by omega)]
    rfl
theorem at_cons {ts : List Bt} {a : Nat} (h : a < ts.length) : ts.drop a = at' ts a :: ts.drop (a + 1) := by
  rw [List.drop_eq_getElem_cons h, at', List.getElem?_eq_getElem h]
  rfl
theorem at_none {ts : List Bt} {a : Nat} (h : ts.length ≤ a) : ts.drop a = [] ∧ at' ts a = zeroT :=
  ⟨List.drop_eq_nil_of_le h, by unfold at'; rw [List.getElem?_eq_none h]; rfl⟩
/-- What the tokens' texts and numbers are bound by. -/
def Good (ts : List Bt) : Prop := ∀ t ∈ ts, t.text.size ≤ 1000000 ∧ -9223372036854775808 ≤ t.n ∧ t.n ≤ 9223372036854775807
theorem Good.at {ts : List Bt} (h : Good ts) (a : Nat) : (at' ts a).text.size ≤ 1000000 ∧ -9223372036854775808 ≤ (at' ts a).n ∧ (at' ts a).n ≤ 9223372036854775807 := by
  unfold at'
  cases e : ts[a]? with
  | none => decide
  | some t => exact h t (List.mem_of_getElem? e)
theorem infoTkS : (Tryz.prog.info? 105).map (·.size) = some 5 := by kernel_rfl
theorem load_tk {w : World} {g : Nat} {a b c d e : Value} (h : Blk w g 105 [a, b, c, d, e]) : (loadVar 105 ⟨g, 0, none⟩).run Tryz.prog w = .ok (.agg #[a, b, c, d, e]) w :=
  run_loadVar_row w g _ 105 #[a, b, c, d, e] (0, 0) _ h Tryz.underlying105 rfl infoTkS
theorem tkField0 (k : Int) (s : ByteArray) (n : Int) (b : Bool) (c : Int) (w : World) : (Instr.field 105 (.agg #[.int .i64 k, .string s, .int .i64 n, .bool b, .int .i64 c]) 0).run Tryz.prog w = .ok (.int .i64 k) w := by kernel_rfl
theorem tkField1 (k : Int) (s : ByteArray) (n : Int) (b : Bool) (c : Int) (w : World) : (Instr.field 105 (.agg #[.int .i64 k, .string s, .int .i64 n, .bool b, .int .i64 c]) 1).run Tryz.prog w = .ok (.string s) w := by kernel_rfl
theorem tkField4 (k : Int) (s : ByteArray) (n : Int) (b : Bool) (c : Int) (w : World) : (Instr.field 105 (.agg #[.int .i64 k, .string s, .int .i64 n, .bool b, .int .i64 c]) 4).run Tryz.prog w = .ok (.int .i64 c) w := by kernel_rfl
/-- A token as a value. -/
def tkV (t : Bt) : Value := .agg #[.int .i64 t.kind, .string t.text, .int .i64 t.n, .bool t.whole, .int .i64 t.c]
theorem results_struct {fn : Func} {p : Tmp} {ty : TypeId} (h : fn.results = #[.cell p ty]) (tmps : Array Value) (w : World) (g : Nat) (x : Value)
    (hp : tmps.getD p undef = .pointer (some ⟨g, 0, none⟩)) (hl : (loadVar ty ⟨g, 0, none⟩).run Tryz.prog w = .ok x w) :
    (results fn tmps).run Tryz.prog w = .ok x w := by
  have hp' : tmps[p]?.getD undef = .pointer (some ⟨g, 0, none⟩) := by simpa using hp
  simp [results, h, hp', asAddr, hl]
theorem results_struct_tmp {fn : Func} {p q : Tmp} {ty : TypeId} (h : fn.results = #[.cell p ty, .tmp q]) (tmps : Array Value) (w : World) (g : Nat) (x : Value)
    (hp : tmps.getD p undef = .pointer (some ⟨g, 0, none⟩)) (hl : (loadVar ty ⟨g, 0, none⟩).run Tryz.prog w = .ok x w) :
    (results fn tmps).run Tryz.prog w = .ok (.tuple #[x, tmps.getD q undef]) w := by
  have hp' : tmps[p]?.getD undef = .pointer (some ⟨g, 0, none⟩) := by simpa using hp
  simp [results, h, hp', asAddr, hl]
theorem ints_new (W : World) (l : List Int) (t : TypeId) (hl : l.length ≤ 1000000) : IntsAt (W.heap.size + 1) (W.alloc (.cells (l.map (Value.int .i64)).toArray t)) (.slice (some ⟨W.heap.size, 0, none⟩) l.length l.length) l := by
  refine .inr ⟨W.heap.size, 0, l.length, rfl, Nat.le_refl _, by unfold maxLen; omega, by omega, fun j u hj => ?_⟩
  rw [Nat.zero_add, cell_of_block (heap_alloc_new W _) j]
  simp [hj]


/-! ### a child's number, by places -/
theorem nth_bad {ts : List Bt} {a b : Nat} (hdb : ts.drop b = dropW (ts.drop a)) (h : abV (at' ts b) = none) : nthV (ts.drop a) = none := by
  unfold nthV
  rw [← hdb]
  by_cases hl : b < ts.length
  · rw [at_cons hl]
    simp [h]
  · rw [List.drop_eq_nil_of_le (by omega)]
theorem abV_real {ts : List Bt} {b : Nat} {x : Int × Int} (h : abV (at' ts b) = some x) : b < ts.length := at_lt (fun e => by
  unfold abV at h
  simp [e] at h)
theorem nth_some {ts : List Bt} {a b c : Nat} {x : Int × Int} (hdb : ts.drop b = dropW (ts.drop a)) (h : abV (at' ts b) = some x) (hc : ts.drop c = dropW (ts.drop (b + 1))) :
    nthV (ts.drop a) = if (at' ts c).kind = 17 then some (x.1, x.2, ts.drop (c + 1)) else none := by
  unfold nthV
  rw [← hdb, at_cons (abV_real h)]
  simp only [h, Option.bind_some, ← hc]
  by_cases hl : c < ts.length
  · rw [at_cons hl]
  · rw [List.drop_eq_nil_of_le (by omega), (at_none (by omega)).2]
    rfl

end Go.Proofs.YtcicppadjipndaaGreat.Sl

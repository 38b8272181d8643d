/- package match: isAhead. -/
import Derived.Test.YtgjfapdnobhkcabMtFound
import Derived.Test.YtgjfapdnobhkcabMtAhead
import Derived.Test.YtgjfapdnobhkcabMtChain
namespace Go.Proofs.Ytgjfapdnobhkcab.Mt
open Go Go.RowKit Go.Shelf Dm
attribute [local go_sem] Oper.semAt_some

theorem egAhead : ∀ args w, (callFunc 72 args).run Try.prog w = .ok (.enter 72 args) w := enters_of Try.func72 (by kernel_rfl) rfl
/-- What the iterator leans on. -/
def AheadC (E : Env) (comb : Int) (e Bn Be Bf : Nat) (X : World) : Prop := X.cell? ⟨Bn, 0, none⟩ = some (wayF E.tb comb) ∧ X.cell? ⟨Be, 0, none⟩ = some (.int .i64 e) ∧ X.cell? ⟨Bf, 0, none⟩ = some (.bool (farV comb)) ∧ Tr E.b X E.tb E.g E.cap E.qs
theorem ahead_seq (E : Env) (hE : EnvOk E) (n Bn Be Bf : Nat) (comb : Int) (e : Nat) (he : e < E.qs.length) (w : World) :
    SeqW Fence.wide n Try.prog 72 #[.pointer (some ⟨Bn, 0, none⟩), .pointer (some ⟨Be, 0, none⟩), .pointer (some ⟨Bf, 0, none⟩)] (fun x : Nat => #[.int .i64 x]) 0 (fun xs => xs = aheadV E.es comb e) (fun _ => True) (fun pre x => ∃ rest, pre ++ x :: rest = aheadV E.es comb e) 0 (AheadC E comb e Bn Be Bf) w := fun l J Jx W _ _ _ hC hY h0 => by
  have hY' : ∀ pre x W1, J pre W1 → (∃ rest, pre ++ x :: rest = aheadV E.es comb e) → W.heap.size ≤ W1.heap.size → YieldAt Fence.wide (n - 1) Try.prog l #[.int .i64 (x : Nat)] W1 fun x' W' => (x' = .returned (.bool true) ∧ J (pre ++ [x]) W' ∧ W1.heap.size ≤ W'.heap.size) ∨ (x' = .returned (.bool false) ∧ Jx (pre ++ [x]) W') := fun pre x W1 h1 h2 h3 => (hY pre x W1 h1 h2 (by omega)).mono (fun _ _ h => h.imp (fun h => ⟨h.1, h.2.1, h.2.2.below.size⟩) id)
  by_cases h1 : comb = 1 ∨ comb = 2
  · exact ahead1P_in E hE n l Bn Be Bf comb h1 e he J Jx W hC hY' h0
  by_cases h2 : comb = 3 ∨ comb = 4
  · exact ahead1B_in E hE n l Bn Be Bf comb h2 e he J Jx W hC hY' h0
  · exact ahead1N_in E hE n l Bn Be Bf comb ⟨h1, h2⟩ e he J Jx W hC hY' h0

end Go.Proofs.Ytgjfapdnobhkcab.Mt

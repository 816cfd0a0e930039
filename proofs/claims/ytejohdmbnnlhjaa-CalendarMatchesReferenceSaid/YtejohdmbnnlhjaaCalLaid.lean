/- The program's layout. -/
import Derived.Test.YtejohdmbnnlhjaaLawKit
namespace Go.Proofs.Ytejohdmbnnlhjaa
open Go.RowKit
theorem own : ownKnob Try.prog.godebug = none := by kernel_rfl
theorem laidOut : laidOutB Try.prog = true := by kernel_rfl
theorem getD64 {l : List Int} (h : ∀ n ∈ l, (Lit.int .i64 n).wf = true) (i : Nat) : -9223372036854775808 ≤ l.getD i 0 ∧ l.getD i 0 ≤ 9223372036854775807 := by
  rw [List.getD_eq_getElem?_getD]
  cases hi : l[i]? with
  | none => simp
  | some n => exact wf64 (h n (List.mem_of_getElem? hi))
end Go.Proofs.Ytejohdmbnnlhjaa

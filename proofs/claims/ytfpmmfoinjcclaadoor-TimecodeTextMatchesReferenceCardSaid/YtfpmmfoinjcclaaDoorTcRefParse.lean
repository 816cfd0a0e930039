/- The reference implementation's Parse: no rate; another length. -/
import Derived.Test.YtfpmmfoinjcclaaDoorTcRefFmtW
namespace Go.Proofs.YtfpmmfoinjcclaaDoor
open Go.RowKit

set_option maxHeartbeats 1000000 in
theorem rparse_no (a b : Int) (hx : NoRate a b) (s : ByteArray) (w : World) :
    Calls Tryd.prog 28 #[.agg #[iv a, iv b], .string s] w fun e w' => e = .returned (.tuple #[.int .i64 0, .int .i64 30]) ∧ Below w.heap.size w w' := by
  have hf := fun W => rfind_no a b W hx
  clear hx
  go_enter Tryd.func28, Tryd.ntmps28
  go_wp2_with fail
  obtain ⟨W0, hW0, hb0, hsz, k0, k1⟩ := box2 w a b
  rw [hW0]; clear hW0
  refine Calls.mono (hf _) ?_; rintro e W1 ⟨rfl, b1⟩
  have hb1 := bthen hb0 b1
  go_wp2
  go_ret2
  exact ⟨rfl, hb1.alloc hb1.size _⟩

set_option maxHeartbeats 1000000 in
theorem rparse_len (x : Rt) (hx : x ∈ rtL) (s : ByteArray) (hs : s.size ≠ 11) (w : World) :
    Calls Tryd.prog 28 #[x.val, .string s] w fun e w' => e = .returned (.tuple #[.int .i64 0, .int .i64 30]) ∧ Below w.heap.size w w' := by
  have hf := fun W => rfind_ok x hx W
  have f1 : ((s.size : Int) != 11) = true := by rw [bne_iff_ne]; omega
  have f2 : ((s.size : Int) == 11) = false := by rw [beq_eq_false_iff_ne]; omega
  unfold Rt.val Rt.row at *
  clear hx
  generalize x.num = a at *
  generalize x.den = b at *
  generalize x.base = c at *
  generalize x.drop = d at *
  clear x
  go_enter Tryd.func28, Tryd.ntmps28
  go_wp2_with fail
  obtain ⟨W0, hW0, hb0, hsz, k0, k1⟩ := box2 w a b
  rw [hW0]; clear hW0
  refine Calls.mono (hf _) ?_; rintro e W1 ⟨rfl, b1⟩
  have hb1 := bthen hb0 b1
  go_wp2
  go_ret2
  exact ⟨rfl, hb1.alloc hb1.size _⟩
end Go.Proofs.YtfpmmfoinjcclaaDoor

/- The reference implementation's SHA-256: its constants. -/
import Derived.Test.YtfgojhhphknjkaaDoorDigRefA
namespace Go.Proofs.YtfgojhhphknjkaaDoor
open Go.RowKit

set_option maxRecDepth 100000 in
set_option maxHeartbeats 1000000 in
theorem rconst_any (w : World) :
    Calls Tryd.prog 55 #[] w fun e w' => e = .returned (.slice (some ⟨w.heap.size, 0, none⟩) 64 64) ∧ Arr w' w.heap.size 54 (u32s keyL) ∧ Below w.heap.size w w' := by
  have hK : ∀ cs, cs = (u32s keyL).toArray → Arr (w.alloc (.cells cs 54)) w.heap.size 54 (u32s keyL) := fun cs h => by subst h; exact Arr.new w _ _
  have HK := Lib.hid hK
  clear hK
  go_enter Tryd.func55, Tryd.ntmps55
  go_wp2
  go_ret
  exact ⟨rfl, HK.out _ (by kernel_rfl), (Below.refl _ _).alloc (Nat.le_refl _) _⟩
end Go.Proofs.YtfgojhhphknjkaaDoor

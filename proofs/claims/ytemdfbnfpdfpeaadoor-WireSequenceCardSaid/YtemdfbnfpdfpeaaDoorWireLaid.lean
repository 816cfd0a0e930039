/- The checksum's table, as it is laid. -/
import Derived.Test.YtemdfbnfpdfpeaaDoorLawKit
import Derived.Test.YtemdfbnfpdfpeaaDoorWireSum
namespace Go.Proofs.YtemdfbnfpdfpeaaDoor
open Go.ChangeShapes Go.WideShapes Go.ChangeAt Go.WideMaps Go.WideElems Go.RowKit

theorem own : ownKnob Tryd.prog.godebug = none := by kernel_rfl
theorem laidOut : laidOutB Tryd.prog = true := by kernel_rfl
theorem gSteps : Tryd.prog.globalNamed "onair/wire.steps" = some 0 := by kernel_rfl
theorem tSteps : (Tryd.prog.globals[0]?).map (·.type) = some 52 := by kernel_rfl
theorem cellsU32 : Tryd.prog.cellsOf 43 = 1 := by kernel_rfl

def laidSteps : List (String × DataW Unit) := [("onair/wire.steps", Rows.laid_onair_wire_steps)]

theorem tab_of_laid {W : World} (h : laidMetH Tryd.prog laidSteps W) : TabAt W ∧ 0 < W.heap.size := by
  rw [MakeChecks.laidMetH_plain _ _ _ (by kernel_rfl)] at h
  obtain ⟨ps, ⟨g0, t0, cs0, f0, p0, q0, hg0, ht0, hv0, hd0, _, _⟩, _, _⟩ := h
  obtain rfl := Option.some.inj (gSteps.symm.trans hg0)
  obtain rfl := Option.some.inj (tSteps.symm.trans ht0)
  refine ⟨fun i hi => ?_, var_lt hg0 hv0⟩
  rw [World.var?_cell hg0 hv0 i]
  have h2 := laid_ints (xs := crcTab.map fun (n : Nat) => (n : Int)) Tryd.underlying52 Tryd.underlying43 cellsU32 hd0 i hi
  have h3 : (crcTab.map fun (n : Nat) => (n : Int)).getD i 0 = ((crcTab.getD i 0 : Nat) : Int) := by
    simp only [List.getD_eq_getElem?_getD, List.getElem?_map]
    cases crcTab[i]? <;> rfl
  rw [h3] at h2
  simpa using h2

theorem door_met (os : Os) (args : Array Value) : laidMetH Tryd.prog laidSteps ((World.doorLaid Tryd.prog 400 os).forCall (fun _ _ => 0) ⟨#[], args, []⟩).memory :=
  laidMetH_of_parts3 (fuel := 8) (laidMet_of_run' 8 (by kernel_rfl) (by kernel_rfl)) (by kernel_rfl) (by kernel_rfl)
end Go.Proofs.YtemdfbnfpdfpeaaDoor

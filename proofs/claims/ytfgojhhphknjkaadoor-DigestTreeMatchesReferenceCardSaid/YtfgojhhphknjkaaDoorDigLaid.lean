/- The table of keys, as it is laid. -/
import Derived.Test.YtfgojhhphknjkaaDoorLawKit
import Derived.Test.YtfgojhhphknjkaaDoorDigLaw
namespace Go.Proofs.YtfgojhhphknjkaaDoor
open Go.ChangeShapes Go.WideShapes Go.ChangeAt Go.WideMaps Go.WideElems Go.RowKit

theorem own : ownKnob Tryd.prog.godebug = none := by kernel_rfl
theorem laidOut : laidOutB Tryd.prog = true := by kernel_rfl
theorem gKeys : Tryd.prog.globalNamed "onair/digest.keys" = some 0 := by kernel_rfl
theorem tKeys : (Tryd.prog.globals[0]?).map (·.type) = some 74 := by kernel_rfl
theorem cellsU32 : Tryd.prog.cellsOf 54 = 1 := by kernel_rfl

theorem takeSmall {l : List ByteArray} (h : ∀ s ∈ l, s.size ≤ maxLen) (k : Nat) : ∀ x ∈ l.take k, x.size ≤ 9223372036854775807 := fun x hx => by
  have := h x (List.mem_of_mem_take hx); unfold maxLen at this; omega
theorem strsAt_slice {W : World} {p : Option Addr} {len : Nat} {ss : List ByteArray} (hl : len ≤ ss.length) (h : SliceAt W p len fun i => .string (ss.getD i ⟨#[]⟩)) : StrsAt W p (ss.take len) := fun i hi => by
  rw [List.length_take] at hi
  obtain ⟨b, off, e, _, hc⟩ := h i (by omega)
  refine ⟨b, off, e, ?_⟩
  rw [hc, List.getElem_take]
  show some (Value.string (ss.getD i ⟨#[]⟩)) = _
  rw [List.getD_eq_getElem?_getD, List.getElem?_eq_getElem (by omega)]; rfl

def laidKeys : List (String × DataW Unit) := [("onair/digest.keys", Rows.laid_onair_digest_keys)]

theorem tab_of_laid {W : World} (h : laidMetH Tryd.prog laidKeys W) : Keyed W := by
  rw [MakeChecks.laidMetH_plain _ _ _ (by kernel_rfl)] at h
  obtain ⟨ps, ⟨g0, t0, cs0, f0, p0, q0, hg0, ht0, hv0, hd0, _, _⟩, _, _⟩ := h
  obtain rfl := Option.some.inj (gKeys.symm.trans hg0)
  obtain rfl := Option.some.inj (tKeys.symm.trans ht0)
  refine ⟨fun i hi => ?_, var_lt hg0 hv0⟩
  rw [World.var?_cell hg0 hv0 i]
  have h2 := laid_ints (xs := keyL.map fun (n : Nat) => (n : Int)) Tryd.underlying74 Tryd.underlying54 cellsU32 hd0 i hi
  have h3 : (keyL.map fun (n : Nat) => (n : Int)).getD i 0 = ((keyL.getD i 0 : Nat) : Int) := by
    simp only [List.getD_eq_getElem?_getD, List.getElem?_map]
    cases keyL[i]? <;> rfl
  rw [h3] at h2
  simpa using h2

theorem door_met (os : Os) (args : Array Value) : laidMetH Tryd.prog laidKeys ((World.doorLaid Tryd.prog 400 os).forCall (fun _ _ => 0) ⟨#[], args, []⟩).memory :=
  laidMetH_of_parts3 (fuel := 8) (laidMet_of_run' 8 (by kernel_rfl) (by kernel_rfl)) (by kernel_rfl) (by kernel_rfl)
end Go.Proofs.YtfgojhhphknjkaaDoor

/- The fixed examples of the statements of layer 1 hold. -/
import Derived.Test.YtemdfbnfpdfpeaaDoorWireStr
import Derived.Test.YtemdfbnfpdfpeaaDoorWireSum
import Derived.Deep.QuietTactic
import Derived.BigQuiet
namespace Go.Proofs.YtemdfbnfpdfpeaaDoor
open Go.RowKit

theorem TabAt.below {n : Nat} {w w' : World} (h : TabAt w) (hb : Below n w w') (hn : 0 < n) : TabAt w' :=
  fun i hi => (hb.cell (p := ⟨0, i, none⟩) hn).trans (h i hi)

theorem bthen {a b c : World} (h : Below a.heap.size a b) (k : Below b.heap.size b c) : Below a.heap.size a c := h.trans (k.mono h.size)

theorem s1 (w : World) : Calls Tryd.prog 12 #[.int .i64 (-64)] w fun e w' => e = .returned (.tuple #[.string ⟨#[127]⟩, .int .i64 0]) ∧ Below w.heap.size w w' := by
  have := putInt_all (-64) w (by omega) (by omega)
  rwa [show putIntZ (-64) = (⟨#[127]⟩, 0) by kernel_rfl] at this
theorem s2 (w : World) : Calls Tryd.prog 12 #[.int .i64 64] w fun e w' => e = .returned (.tuple #[.string ⟨#[128, 1]⟩, .int .i64 0]) ∧ Below w.heap.size w w' := by
  have := putInt_all 64 w (by omega) (by omega)
  rwa [show putIntZ 64 = (⟨#[128, 1]⟩, 0) by kernel_rfl] at this
theorem s3 (w : World) : Calls Tryd.prog 15 #[.string ⟨#[97, 172, 2, 98]⟩, .int .i64 1] w fun e w' => e = .returned (.tuple #[.int .i64 150, .int .i64 3, .int .i64 0]) ∧ w = w' := by
  have := int_all ⟨#[97, 172, 2, 98]⟩ 1 w (by decide) (by omega) (by omega)
  rwa [show intZ ⟨#[97, 172, 2, 98]⟩ 1 = (150, 3, 0) by kernel_rfl] at this
theorem s4 (w : World) : Calls Tryd.prog 15 #[.string ⟨#[128, 0]⟩, .int .i64 0] w fun e w' => e = .returned (.tuple #[.int .i64 0, .int .i64 0, .int .i64 10]) ∧ w = w' := by
  have := int_all ⟨#[128, 0]⟩ 0 w (by decide) (by omega) (by omega)
  rwa [show intZ ⟨#[128, 0]⟩ 0 = (0, 0, 10) by kernel_rfl] at this
theorem s5 (w : World) : Calls Tryd.prog 19 #[.string ⟨#[97, 98]⟩] w fun e w' => e = .returned (.tuple #[.string ⟨#[4, 97, 98]⟩, .int .i64 0]) ∧ Below w.heap.size w w' := by
  have := putString_all ⟨#[97, 98]⟩ w (by decide)
  rwa [show putStringZ ⟨#[97, 98]⟩ = (⟨#[4, 97, 98]⟩, 0) by kernel_rfl] at this
theorem s6 (w : World) : Calls Tryd.prog 17 #[.string ⟨#[4, 97, 98, 99]⟩, .int .i64 0] w fun e w' => e = .returned (.tuple #[.string ⟨#[97, 98]⟩, .int .i64 3, .int .i64 0]) ∧ Below w.heap.size w w' := by
  have := string_all ⟨#[4, 97, 98, 99]⟩ 0 w (by decide) (by omega) (by omega)
  rwa [show stringZ ⟨#[4, 97, 98, 99]⟩ 0 = (⟨#[97, 98]⟩, 3, 0) by kernel_rfl] at this
theorem s7 (w : World) : Calls Tryd.prog 17 #[.string ⟨#[4, 97]⟩, .int .i64 0] w fun e w' => e = .returned (.tuple #[.string ⟨#[]⟩, .int .i64 0, .int .i64 10]) ∧ Below w.heap.size w w' := by
  have := string_all ⟨#[4, 97]⟩ 0 w (by decide) (by omega) (by omega)
  rwa [show stringZ ⟨#[4, 97]⟩ 0 = (⟨#[]⟩, 0, 10) by kernel_rfl] at this
theorem s8 (w : World) : Calls Tryd.prog 12 #[.int .i64 4611686018427387904] w fun e w' => e = .returned (.tuple #[.string ⟨#[]⟩, .int .i64 10]) ∧ Below w.heap.size w w' := by
  have := putInt_all 4611686018427387904 w (by omega) (by omega)
  rwa [show putIntZ 4611686018427387904 = (⟨#[]⟩, 10) by kernel_rfl] at this
theorem s9 (w : World) : Calls Tryd.prog 15 #[.string ⟨#[]⟩, .int .i64 1] w fun e w' => e = .returned (.tuple #[.int .i64 0, .int .i64 0, .int .i64 2]) ∧ w = w' := by
  have := int_all ⟨#[]⟩ 1 w (by decide) (by omega) (by omega)
  rwa [show intZ ⟨#[]⟩ 1 = (0, 0, 2) by kernel_rfl] at this
theorem s10 (w : World) (hT : TabAt w) : Calls Tryd.prog 21 #[.string ⟨#[49, 50, 51, 52, 53, 54, 55, 56, 57]⟩] w fun e w' => e = .returned (.int .i64 3808858755) ∧ w = w' := by
  have := sum_any ⟨#[49, 50, 51, 52, 53, 54, 55, 56, 57]⟩ w (by decide) hT
  rwa [show crcSum (⟨#[49, 50, 51, 52, 53, 54, 55, 56, 57]⟩ : ByteArray).data.toList = 3808858755 by kernel_rfl] at this

set_option maxRecDepth 100000 in
set_option maxHeartbeats 2000000 in
theorem sane_any (w : World) (hT : TabAt w) (h0 : 0 < w.heap.size) :
    Calls Tryd.prog 10 #[] w fun e w' => e = .returned (.bool true) ∧ Below w.heap.size w w' := by
  have HT := Lib.hid hT; clear hT
  go_enter Tryd.func10, Tryd.ntmps10
  go_wp2_with fail
  refine (s1 _).mono ?_; rintro e w1 ⟨rfl, b1⟩
  go_wp2_with fail
  refine (s2 _).mono ?_; rintro e w2 ⟨rfl, b2⟩
  go_wp2_with fail
  refine (s3 _).mono ?_; rintro e w3 ⟨rfl, rfl⟩
  go_wp2_with fail
  refine (s4 _).mono ?_; rintro e w3 ⟨rfl, rfl⟩
  go_wp2_with fail
  refine (s5 _).mono ?_; rintro e w3 ⟨rfl, b3⟩
  go_wp2_with fail
  refine (s6 _).mono ?_; rintro e w4 ⟨rfl, b4⟩
  go_wp2_with fail
  refine (s7 _).mono ?_; rintro e w5 ⟨rfl, b5⟩
  go_wp2_with fail
  refine (s8 _).mono ?_; rintro e w6 ⟨rfl, b6⟩
  go_wp2_with fail
  refine (s9 _).mono ?_; rintro e w7 ⟨rfl, rfl⟩
  have hb := bthen (bthen (bthen (bthen (bthen b1 b2) b3) b4) b5) b6
  have hs := s10 w6 (HT.out.below hb h0)
  go_wp2_with (go_at_call 21; refine hs.mono ?_; rintro e w7 ⟨rfl, rfl⟩)
  trace_state
  go_ret
  exact ⟨rfl, hb⟩
end Go.Proofs.YtemdfbnfpdfpeaaDoor

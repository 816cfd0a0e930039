/- Parse in one; the fixed examples; the table's memory at the start. -/
import Derived.Test.YtfpmmfoinjcclaaDoorTcParse2
import Derived.Test.YtfpmmfoinjcclaaDoorTcRef
import Derived.Test.YtfpmmfoinjcclaaDoorLawKit
namespace Go.Proofs.YtfpmmfoinjcclaaDoor
open Go.ChangeShapes Go.WideShapes Go.ChangeAt Go.WideMaps Go.WideElems Go.RowKit

def parseO (x : Rt) (s : ByteArray) : Option Nat := if s.size = 11 then parseZ x (nb s) else none
def numO (o : Option Nat) : Int := match o with | some n => (n : Int) | none => 0
def errO (o : Option Nat) : Int := match o with | some _ => 0 | none => 30

theorem parse_any (x : Rt) (hx : x ∈ rtL) (s : ByteArray) (hz : s.size ≤ maxLen) (w : World) (hF : FmtAt w) :
    Calls Tryd.prog 27 #[x.val, .string s] w fun e w' => e = .returned (.tuple #[.int .i64 (numO (parseO x s)), .int .i64 (errO (parseO x s))]) ∧ Below w.heap.size w w' := by
  unfold parseO
  by_cases hs : s.size = 11
  · rw [if_pos hs]
    by_cases hsp : (nb s).getD 2 0 = 58 ∧ (nb s).getD 5 0 = 58 ∧ (nb s).getD 8 0 = x.sep
    · exact parse_sepok x hx s hs hsp w hF
    · have : parseZ x (nb s) = none := by unfold parseZ; rw [if_neg hsp]
      rw [this]
      exact parse_sep x hx s hs hsp w hF
  · rw [if_neg hs]
    exact parse_len x hx s hz hs w hF

theorem y1 (w : World) (hF : FmtAt w) : Calls Tryd.prog 25 #[.agg #[.int .i64 30000, .int .i64 1001], .int .i64 1799] w fun e w' => e = .returned (.tuple #[.string ⟨#[48, 48, 58, 48, 48, 58, 53, 57, 59, 50, 57]⟩, .int .i64 0]) ∧ Below w.heap.size w w' := by
  have := format_ok ⟨30000, 1001, 30, 2⟩ (by decide) 1799 (by decide) w hF
  rwa [show strN (fmtL ⟨30000, 1001, 30, 2⟩ (1799 % Rt.day ⟨30000, 1001, 30, 2⟩)) = ⟨#[48, 48, 58, 48, 48, 58, 53, 57, 59, 50, 57]⟩ by kernel_rfl] at this
theorem y2 (w : World) (hF : FmtAt w) : Calls Tryd.prog 25 #[.agg #[.int .i64 30000, .int .i64 1001], .int .i64 1800] w fun e w' => e = .returned (.tuple #[.string ⟨#[48, 48, 58, 48, 49, 58, 48, 48, 59, 48, 50]⟩, .int .i64 0]) ∧ Below w.heap.size w w' := by
  have := format_ok ⟨30000, 1001, 30, 2⟩ (by decide) 1800 (by decide) w hF
  rwa [show strN (fmtL ⟨30000, 1001, 30, 2⟩ (1800 % Rt.day ⟨30000, 1001, 30, 2⟩)) = ⟨#[48, 48, 58, 48, 49, 58, 48, 48, 59, 48, 50]⟩ by kernel_rfl] at this
theorem y3 (w : World) (hF : FmtAt w) : Calls Tryd.prog 25 #[.agg #[.int .i64 30000, .int .i64 1001], .int .i64 17982] w fun e w' => e = .returned (.tuple #[.string ⟨#[48, 48, 58, 49, 48, 58, 48, 48, 59, 48, 48]⟩, .int .i64 0]) ∧ Below w.heap.size w w' := by
  have := format_ok ⟨30000, 1001, 30, 2⟩ (by decide) 17982 (by decide) w hF
  rwa [show strN (fmtL ⟨30000, 1001, 30, 2⟩ (17982 % Rt.day ⟨30000, 1001, 30, 2⟩)) = ⟨#[48, 48, 58, 49, 48, 58, 48, 48, 59, 48, 48]⟩ by kernel_rfl] at this
theorem y4 (w : World) (hF : FmtAt w) : Calls Tryd.prog 27 #[.agg #[.int .i64 30000, .int .i64 1001], .string ⟨#[48, 48, 58, 48, 49, 58, 48, 48, 59, 48, 48]⟩] w fun e w' => e = .returned (.tuple #[.int .i64 0, .int .i64 30]) ∧ Below w.heap.size w w' := by
  have := parse_any ⟨30000, 1001, 30, 2⟩ (by decide) ⟨#[48, 48, 58, 48, 49, 58, 48, 48, 59, 48, 48]⟩ (by decide) w hF
  rwa [show numO (parseO ⟨30000, 1001, 30, 2⟩ ⟨#[48, 48, 58, 48, 49, 58, 48, 48, 59, 48, 48]⟩) = 0 by kernel_rfl, show errO (parseO ⟨30000, 1001, 30, 2⟩ ⟨#[48, 48, 58, 48, 49, 58, 48, 48, 59, 48, 48]⟩) = 30 by kernel_rfl] at this
theorem y5 (w : World) (hF : FmtAt w) : Calls Tryd.prog 27 #[.agg #[.int .i64 60000, .int .i64 1001], .string ⟨#[48, 48, 58, 48, 49, 58, 48, 48, 59, 48, 52]⟩] w fun e w' => e = .returned (.tuple #[.int .i64 3600, .int .i64 0]) ∧ Below w.heap.size w w' := by
  have := parse_any ⟨60000, 1001, 60, 4⟩ (by decide) ⟨#[48, 48, 58, 48, 49, 58, 48, 48, 59, 48, 52]⟩ (by decide) w hF
  rwa [show numO (parseO ⟨60000, 1001, 60, 4⟩ ⟨#[48, 48, 58, 48, 49, 58, 48, 48, 59, 48, 52]⟩) = 3600 by kernel_rfl, show errO (parseO ⟨60000, 1001, 60, 4⟩ ⟨#[48, 48, 58, 48, 49, 58, 48, 48, 59, 48, 52]⟩) = 0 by kernel_rfl] at this
theorem y6 (w : World) (hF : FmtAt w) : Calls Tryd.prog 15 #[.agg #[.int .i64 30000, .int .i64 1001], .int .i64 1799] w fun e w' => e = .returned (.int .i64 60) ∧ Below w.heap.size w w' := by
  have := seconds_ok ⟨30000, 1001, 30, 2⟩ (by decide) 1799 (by decide) w hF
  exact this
theorem y7 (w : World) (hF : FmtAt w) : Calls Tryd.prog 15 #[.agg #[.int .i64 30000, .int .i64 1001], .int .i64 1798] w fun e w' => e = .returned (.int .i64 59) ∧ Below w.heap.size w w' := by
  have := seconds_ok ⟨30000, 1001, 30, 2⟩ (by decide) 1798 (by decide) w hF
  exact this
theorem y8 (w : World) (hF : FmtAt w) : Calls Tryd.prog 17 #[.agg #[.int .i64 30000, .int .i64 1001], .int .i64 60] w fun e w' => e = .returned (.int .i64 1799) ∧ Below w.heap.size w w' := by
  have := frames_ok ⟨30000, 1001, 30, 2⟩ (by decide) 60 (by decide) w hF
  exact this
theorem y9 (w : World) (hF : FmtAt w) : Calls Tryd.prog 19 #[.agg #[.int .i64 24000, .int .i64 1001], .int .i64 3] w fun e w' => e = .returned (.int .i64 11261) ∧ Below w.heap.size w w' := by
  have := ticks_ok ⟨24000, 1001, 24, 0⟩ (by decide) 3 (by decide) w hF
  exact this
theorem y10 (w : World) (hF : FmtAt w) : Calls Tryd.prog 21 #[.agg #[.int .i64 30000, .int .i64 1001], .int .i64 1, .agg #[.int .i64 25, .int .i64 1]] w fun e w' => e = .returned (.int .i64 1) ∧ Below w.heap.size w w' := by
  have := convert_ok ⟨30000, 1001, 30, 2⟩ ⟨25, 1, 25, 0⟩ (by decide) (by decide) 1 (by decide) w hF
  exact this
theorem y11 (w : World) (hF : FmtAt w) : Calls Tryd.prog 15 #[.agg #[.int .i64 0, .int .i64 0], .int .i64 0] w fun e w' => e = .returned (.int .i64 (-1)) ∧ Below w.heap.size w w' := by
  have := seconds_no 0 0 (by unfold NoRate; decide) 0 w hF
  exact this

set_option maxRecDepth 100000 in
set_option maxHeartbeats 4000000 in
theorem sane_any (w : World) (hF : FmtAt w) :
    Calls Tryd.prog 12 #[] w fun e w' => e = .returned (.bool true) ∧ Below w.heap.size w w' := by
  have HF := fun W (hb : Below w.heap.size w W) => hF.below hb
  go_enter Tryd.func12, Tryd.ntmps12
  go_wp2_with fail
  obtain ⟨W0, hW0, hb0, hsz, k0, k1⟩ := box2 w 30000 1001
  rw [hW0]; clear hW0
  refine Calls.mono (y1 _ (HF _ hb0)) ?_; rintro e w1 ⟨rfl, c1⟩
  have hb1 := bthen hb0 c1
  obtain ⟨k0, k1⟩ := keep2 k0 k1 c1 (by omega)
  have hsz : w.heap.size < w1.heap.size := by have := c1.size; omega
  go_wp2_with fail
  refine Calls.mono (y2 _ (HF _ hb1)) ?_; rintro e w2 ⟨rfl, c2⟩
  have hb2 := bthen hb1 c2
  obtain ⟨k0, k1⟩ := keep2 k0 k1 c2 (by omega)
  have hsz : w.heap.size < w2.heap.size := by have := c2.size; omega
  go_wp2_with fail
  refine Calls.mono (y3 _ (HF _ hb2)) ?_; rintro e w3 ⟨rfl, c3⟩
  have hb3 := bthen hb2 c3
  obtain ⟨k0, k1⟩ := keep2 k0 k1 c3 (by omega)
  have hsz : w.heap.size < w3.heap.size := by have := c3.size; omega
  go_wp2_with fail
  refine Calls.mono (y4 _ (HF _ hb3)) ?_; rintro e w4 ⟨rfl, c4⟩
  have hb4 := bthen hb3 c4
  obtain ⟨k0, k1⟩ := keep2 k0 k1 c4 (by omega)
  have hsz : w.heap.size < w4.heap.size := by have := c4.size; omega
  go_wp2_with fail
  refine Calls.mono (y5 _ (HF _ hb4)) ?_; rintro e w5 ⟨rfl, c5⟩
  have hb5 := bthen hb4 c5
  obtain ⟨k0, k1⟩ := keep2 k0 k1 c5 (by omega)
  have hsz : w.heap.size < w5.heap.size := by have := c5.size; omega
  go_wp2_with fail
  refine Calls.mono (y6 _ (HF _ hb5)) ?_; rintro e w6 ⟨rfl, c6⟩
  have hb6 := bthen hb5 c6
  obtain ⟨k0, k1⟩ := keep2 k0 k1 c6 (by omega)
  have hsz : w.heap.size < w6.heap.size := by have := c6.size; omega
  go_wp2_with fail
  refine Calls.mono (y7 _ (HF _ hb6)) ?_; rintro e w7 ⟨rfl, c7⟩
  have hb7 := bthen hb6 c7
  obtain ⟨k0, k1⟩ := keep2 k0 k1 c7 (by omega)
  have hsz : w.heap.size < w7.heap.size := by have := c7.size; omega
  go_wp2_with fail
  refine Calls.mono (y8 _ (HF _ hb7)) ?_; rintro e w8 ⟨rfl, c8⟩
  have hb8 := bthen hb7 c8
  obtain ⟨k0, k1⟩ := keep2 k0 k1 c8 (by omega)
  have hsz : w.heap.size < w8.heap.size := by have := c8.size; omega
  go_wp2_with fail
  refine Calls.mono (y9 _ (HF _ hb8)) ?_; rintro e w9 ⟨rfl, c9⟩
  have hb9 := bthen hb8 c9
  obtain ⟨k0, k1⟩ := keep2 k0 k1 c9 (by omega)
  have hsz : w.heap.size < w9.heap.size := by have := c9.size; omega
  go_wp2_with fail
  refine Calls.mono (y10 _ (HF _ hb9)) ?_; rintro e w10 ⟨rfl, c10⟩
  have hb10 := bthen hb9 c10
  obtain ⟨k0, k1⟩ := keep2 k0 k1 c10 (by omega)
  have hsz : w.heap.size < w10.heap.size := by have := c10.size; omega
  go_wp2_with fail
  refine Calls.mono (y11 _ (HF _ hb10)) ?_; rintro e w11 ⟨rfl, c11⟩
  have hb11 := bthen hb10 c11
  obtain ⟨k0, k1⟩ := keep2 k0 k1 c11 (by omega)
  have hsz : w.heap.size < w11.heap.size := by have := c11.size; omega
  go_wp2_with fail
  go_ret
  exact ⟨rfl, hb11⟩
end Go.Proofs.YtfpmmfoinjcclaaDoor

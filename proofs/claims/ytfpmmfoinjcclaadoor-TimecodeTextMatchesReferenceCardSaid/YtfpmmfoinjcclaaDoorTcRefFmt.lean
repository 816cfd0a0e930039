/- The reference implementation's Format: the minutes of the day, one after another. -/
import Derived.Test.YtfpmmfoinjcclaaDoorTcRefText
import Derived.Test.YtfpmmfoinjcclaaDoorTcRefApi
import Derived.Test.YtfpmmfoinjcclaaDoorTcRound
namespace Go.Proofs.YtfpmmfoinjcclaaDoor
open Go.RowKit

/-- How many are dropped at the beginning of a minute. -/
def skipZ (x : Rt) (m : Nat) : Nat := if m % 10 = 0 then 0 else x.drop
theorem dropped_succ (x : Rt) (m : Nat) : droppedZ x (m + 1) = droppedZ x m + skipZ x m := by
  unfold droppedZ skipZ
  split
  · rw [show m + 1 - (m + 1 + 9) / 10 = m - (m + 9) / 10 by omega]; rfl
  · rw [show m + 1 - (m + 1 + 9) / 10 = m - (m + 9) / 10 + 1 by omega, Nat.mul_add, Nat.mul_one]
theorem dropped_zero (x : Rt) : droppedZ x 0 = 0 := by simp [droppedZ]

theorem dropped_le (x : Rt) (k j : Nat) : droppedZ x (k + j) ≤ droppedZ x k + x.drop * j := by
  unfold droppedZ
  rw [← Nat.mul_add]
  exact Nat.mul_le_mul_left _ (by omega)
theorem rest_ge {x : Rt} (h : x ∈ rtL) {c : Nat} (h4 : c / x.base % 60 = 0 → c % x.base < x.drop → c / x.minute % 10 = 0) :
    c / x.minute * x.minute + skipZ x (c / x.minute) ≤ c := by
  unfold skipZ
  split
  · exact Nat.div_mul_le_self _ _
  · rcases rt_cases h with rfl | rfl | rfl | rfl | rfl | rfl | rfl | rfl <;> simp only [Rt.minute, Nat.reduceMul] at * <;> omega

/-- The minute of an index: every earlier minute has passed; in it the index and what is dropped make the timecode's place. -/
theorem fmt_minute {x : Rt} (h : x ∈ rtL) {n : Nat} (hn : n < x.day) :
    countZ x n / x.minute < 1440 ∧ (∀ k, k < countZ x n / x.minute → (k + 1) * x.minute ≤ n + droppedZ x (k + 1)) ∧
    n + droppedZ x (countZ x n / x.minute + 1) = countZ x n := by
  obtain ⟨h1, h2, h3, h4⟩ := count_in h hn
  have he : n + droppedZ x (countZ x n / x.minute + 1) = countZ x n := by rw [← h2]; rfl
  generalize countZ x n = c at *
  refine ⟨?_, ?_, he⟩
  · rcases rt_cases h with rfl | rfl | rfl | rfl | rfl | rfl | rfl | rfl <;> simp only [Rt.minute] at * <;> omega
  · intro k hk
    have h5 := rest_ge h h4
    rw [dropped_succ] at he
    obtain ⟨j, hj⟩ : ∃ j, c / x.minute = k + 1 + j := ⟨c / x.minute - (k + 1), by omega⟩
    rw [hj] at he h5
    have h6 := dropped_le x (k + 1) j
    have h7 : x.drop * j ≤ j * x.minute := by
      rw [Nat.mul_comm]
      refine Nat.mul_le_mul_left _ ?_
      rcases rt_cases h with rfl | rfl | rfl | rfl | rfl | rfl | rfl | rfl <;> decide
    rw [Nat.add_mul (k + 1) j] at h5
    omega
end Go.Proofs.YtfpmmfoinjcclaaDoor

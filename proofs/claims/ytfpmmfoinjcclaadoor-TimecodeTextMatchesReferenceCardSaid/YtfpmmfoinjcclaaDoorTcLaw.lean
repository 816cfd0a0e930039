/- What the statements' walks share. -/
import Derived.Test.YtfpmmfoinjcclaaDoorTcSane
namespace Go.Proofs.YtfpmmfoinjcclaaDoor
open Go.RowKit

theorem pick_nat {c n : Int} (hn : 1 ≤ n) : ∃ k : Nat, pickZ c n = (k : Int) ∧ (k : Int) < n := by
  unfold pickZ
  have h1 := Int.emod_nonneg (if c < 0 then -(c + 1) else c) (show n ≠ 0 by omega)
  have h2 := Int.emod_lt_of_pos (if c < 0 then -(c + 1) else c) (show 0 < n by omega)
  exact ⟨(pickZ c n).toNat, by unfold pickZ; omega, by unfold pickZ; omega⟩

/-- A law's rate: one of the eight. -/
theorem law_rate (c : Int) (h1 : -9223372036854775808 ≤ c) (h2 : c ≤ 9223372036854775807) : ∃ (i : Nat) (x : Rt), i < 8 ∧ x = rtAt i ∧ x ∈ rtL ∧ pickZ c 8 = (i : Int) ∧
    ∀ w, Calls Tryd.prog 13 #[.int .i64 c] w fun e w' => e = .returned x.val ∧ Below w.heap.size w w' := by
  obtain ⟨k, hk, hk8⟩ := pick_nat (c := c) (n := 8) (by decide)
  exact ⟨k, rtAt k, by omega, rfl, rtAt_mem (by omega), hk, fun w => rate_any c w h1 h2 k hk (by omega)⟩

theorem law_pick (c n : Int) (h1 : -9223372036854775808 ≤ c) (h2 : c ≤ 9223372036854775807) (h3 : 1 ≤ n) (h4 : n ≤ 9223372036854775807) : ∃ k : Nat, (k : Int) < n ∧
    ∀ w, Calls Tryd.prog 14 #[.int .i64 c, .int .i64 n] w fun e w' => e = .returned (.int .i64 (k : Int)) ∧ w = w' := by
  obtain ⟨k, hk, hk8⟩ := pick_nat (c := c) (n := n) h3
  exact ⟨k, hk8, fun w => by rw [← hk]; exact pick_any c n w h1 h2 h3 h4⟩
theorem eqN {a b : Nat} (h : a = b) : ((a : Int) == (b : Int)) = true := by rw [beq_iff_eq]; omega
theorem neN {a b : Nat} (h : a ≠ b) : ((a : Int) == (b : Int)) = false := by rw [beq_eq_false_iff_ne]; omega
theorem bneT {a b : Int} (h : a ≠ b) : (a != b) = true := by rw [bne_iff_ne]; exact h
theorem bneF {a b : Int} (h : a = b) : (a != b) = false := by rw [h]; simp
end Go.Proofs.YtfpmmfoinjcclaaDoor

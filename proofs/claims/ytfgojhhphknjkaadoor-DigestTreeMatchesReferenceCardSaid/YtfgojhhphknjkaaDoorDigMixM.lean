/- What a round computes, in the walk's spelling. -/
import Derived.Test.YtfgojhhphknjkaaDoorDigSched
namespace Go.Proofs.YtfgojhhphknjkaaDoor
open Go.RowKit

theorem key_lt (i : Nat) : keyL.getD i 0 < 4294967296 := getD_lt (by decide) (by decide) i
def St.lt (s : St) : Prop := s.a < 4294967296 ∧ s.b < 4294967296 ∧ s.c < 4294967296 ∧ s.d < 4294967296 ∧ s.e < 4294967296 ∧ s.f < 4294967296 ∧ s.g < 4294967296 ∧ s.h < 4294967296
theorem rnd_lt {s : St} (h : s.lt) (k w : Nat) : (rnd s k w).lt := by
  obtain ⟨h1, h2, h3, h4, h5, h6, h7, h8⟩ := h
  exact ⟨Nat.mod_lt _ (by decide), h1, h2, h3, Nat.mod_lt _ (by decide), h5, h6, h7⟩
theorem rnds_lt {b : List Nat} {s : St} (h : s.lt) : ∀ n, (rnds b s n).lt
  | 0 => h
  | n + 1 => rnd_lt (rnds_lt h n) _ _
theorem plus_lt (s r : St) : (s.plus r).lt := ⟨Nat.mod_lt _ (by decide), Nat.mod_lt _ (by decide), Nat.mod_lt _ (by decide), Nat.mod_lt _ (by decide), Nat.mod_lt _ (by decide), Nat.mod_lt _ (by decide), Nat.mod_lt _ (by decide), Nat.mod_lt _ (by decide)⟩
theorem xor_lt {x y : Nat} (hx : x < 4294967296) (hy : y < 4294967296) : x ^^^ y < 4294967296 := Nat.xor_lt_two_pow (n := 32) hx hy
theorem and_lt {x y : Nat} (hx : x < 4294967296) : x &&& y < 4294967296 := Nat.lt_of_le_of_lt Nat.and_le_left hx
theorem and_nat {x y z : Nat} (hx : x < 4294967296) (hy : y < 4294967296) (h : z = x &&& y) : bits .and .u32 (x : Int) (y : Int) = (z : Int) := by rw [h]; exact u32_and_nat x y hx hy

/-- The words that a round computes, in the walk's spelling. -/
theorem round_words (s : St) (h : s.lt) : ∃ x c y m : Nat,
    bits .xor .u32 (bits .xor .u32 (rotr s.e 6 : Nat) (rotr s.e 11 : Nat)) (rotr s.e 25 : Nat) = (x : Int) ∧ x = be1 s.e ∧ x < 4294967296 ∧
    bits .xor .u32 (bits .and .u32 (s.e : Int) (s.f : Int)) (bits .and .u32 (bits .xor .u32 IntKind.u32.max (s.e : Int)) (s.g : Int)) = (c : Int) ∧ c = cho s.e s.f s.g ∧ c < 4294967296 ∧
    bits .xor .u32 (bits .xor .u32 (rotr s.a 2 : Nat) (rotr s.a 13 : Nat)) (rotr s.a 22 : Nat) = (y : Int) ∧ y = be0 s.a ∧ y < 4294967296 ∧
    bits .xor .u32 (bits .xor .u32 (bits .and .u32 (s.a : Int) (s.b : Int)) (bits .and .u32 (s.a : Int) (s.c : Int))) (bits .and .u32 (s.b : Int) (s.c : Int)) = (m : Int) ∧ m = maj s.a s.b s.c ∧ m < 4294967296 := by
  obtain ⟨h1, h2, h3, h4, h5, h6, h7, h8⟩ := h
  have r := fun (x n : Nat) (hx : x < 4294967296) => rotr_lt (n := n) hx
  refine ⟨be1 s.e, cho s.e s.f s.g, be0 s.a, maj s.a s.b s.c, ?_, rfl, xor_lt (xor_lt (r _ _ h5) (r _ _ h5)) (r _ _ h5), ?_, rfl, xor_lt (and_lt h5) (and_lt (xor_lt h5 (by decide))), ?_, rfl, xor_lt (xor_lt (r _ _ h1) (r _ _ h1)) (r _ _ h1), ?_, rfl, xor_lt (xor_lt (and_lt h1) (and_lt h1)) (and_lt h2)⟩
  · rw [xor_nat (r _ _ h5) (r _ _ h5) rfl]; exact xor_nat (xor_lt (r _ _ h5) (r _ _ h5)) (r _ _ h5) rfl
  · rw [and_nat h5 h6 rfl, show IntKind.u32.max = ((4294967295 : Nat) : Int) from rfl, xor_nat (by decide) h5 (Nat.xor_comm _ _), and_nat (xor_lt h5 (by decide)) h7 rfl]
    exact xor_nat (and_lt h5) (and_lt (xor_lt h5 (by decide))) rfl
  · rw [xor_nat (r _ _ h1) (r _ _ h1) rfl]; exact xor_nat (xor_lt (r _ _ h1) (r _ _ h1)) (r _ _ h1) rfl
  · rw [and_nat h1 h2 rfl, and_nat h1 h3 rfl, and_nat h2 h3 rfl, xor_nat (and_lt h1) (and_lt h1) rfl]
    exact xor_nat (xor_lt (and_lt h1) (and_lt h1)) (and_lt h2) rfl
end Go.Proofs.YtfgojhhphknjkaaDoor

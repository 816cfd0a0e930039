/- The groups of 7 bits of an integer, as plain mathematics. -/
import Derived.Laws.BytesArg
namespace Go.Proofs.YtemdfbnfpdfpeaaDoor

def leb : Nat → Int → List Int
  | 0, z => [z]
  | f + 1, z => if z < 128 then [z] else (z % 128 + 128) :: leb f (z / 128)
def enc (z : Int) : List Int := leb 8 z

theorem leb_fuel : ∀ (f g : Nat) (z : Int), z < 128 ^ (f + 1) → z < 128 ^ (g + 1) → leb f z = leb g z
  | 0, 0, _, _, _ => rfl
  | 0, g + 1, z, h, _ => by rw [leb, leb, if_pos (by simpa using h)]
  | f + 1, 0, z, _, h => by rw [leb, leb, if_pos (by simpa using h)]
  | f + 1, g + 1, z, h1, h2 => by
    rw [leb, leb]
    by_cases h : z < 128
    · rw [if_pos h, if_pos h]
    · rw [if_neg h, if_neg h, leb_fuel f g (z / 128)]
      · rw [Int.pow_succ] at h1; exact Int.ediv_lt_of_lt_mul (by omega) h1
      · rw [Int.pow_succ] at h2; exact Int.ediv_lt_of_lt_mul (by omega) h2

theorem enc_lt {z : Int} (h : z < 128) : enc z = [z] := by unfold enc; rw [leb, if_pos h]
theorem enc_ge {z : Int} (h : 128 ≤ z) (h2 : z ≤ 9223372036854775807) : enc z = (z % 128 + 128) :: enc (z / 128) := by
  unfold enc
  rw [leb, if_neg (by omega), leb_fuel 7 8 (z / 128)]
  · have : (128 : Int) ^ (7 + 1) = 72057594037927936 := by decide
    omega
  · have : (128 : Int) ^ (8 + 1) = 9223372036854775808 := by decide
    omega

theorem leb_length : ∀ (f : Nat) (z : Int), (leb f z).length ≤ f + 1 ∧ 1 ≤ (leb f z).length
  | 0, _ => by simp [leb]
  | f + 1, z => by
    rw [leb]; split
    · simp
    · have := leb_length f (z / 128); simp; omega
theorem enc_length (z : Int) : (enc z).length ≤ 9 ∧ 1 ≤ (enc z).length := leb_length 8 z
end Go.Proofs.YtemdfbnfpdfpeaaDoor

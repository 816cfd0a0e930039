/- bits.Len, and split. -/
import Derived.Test.YtfgojhhphknjkaaDoorDigWord
import Derived.Shelf.Small.Bits
import Derived.Lib.ItoaNum
namespace Go.Proofs.YtfgojhhphknjkaaDoor
open Go.RowKit

def lenRen : Go.Shelf.Ren := ⟨fun x => if x = 125 then 44 else if x = 128 then 52 else 53, fun x => if x = 3 then 3 else if x = 4 then 4 else if x = 5 then 5 else if x = 9 then 9 else if x = 46 then 53 else if x = 51 then 54 else 69, fun x => x⟩

theorem lenLays : Lays.n125 Tryd.prog lenRen := {
  mixed := by kernel_rfl
  f125 := by kernel_rfl
  f128 := by kernel_rfl
  f129 := by kernel_rfl
  t3 := by kernel_rfl
  a3 := fun w => by kernel_rfl
  z3 := fun w => by kernel_rfl
  v3 := fun w => by kernel_rfl
  t4 := by kernel_rfl
  a4 := fun w => by kernel_rfl
  z4 := fun w => by kernel_rfl
  v4 := fun w => by kernel_rfl
  t5 := by kernel_rfl
  a5 := fun w => by kernel_rfl
  z5 := fun w => by kernel_rfl
  v5 := fun w => by kernel_rfl
  t9 := by kernel_rfl
  a9 := fun w => by kernel_rfl
  z9 := fun w => by kernel_rfl
  v9 := fun w => by kernel_rfl
  t46 := by kernel_rfl
  a46 := fun w => by kernel_rfl
  z46 := fun w => by kernel_rfl
  v46 := fun w => by kernel_rfl
  t51 := by kernel_rfl
  a51 := fun w => by kernel_rfl
  z51 := fun w => by kernel_rfl
  v51 := fun w => by kernel_rfl
  t53 := by kernel_rfl
  a53 := fun w => by kernel_rfl
  z53 := fun w => by kernel_rfl
  v53 := fun w => by kernel_rfl }

theorem len_any (x : Nat) (h2 : x ≤ 18446744073709551615) (w : World) : Calls Tryd.prog 44 #[.int .u64 x] w fun e w' => e = .returned (.int .i64 (Lib.bitLen x : Nat)) ∧ w = w' :=
  (Any.bits_Len lenLays x w (by omega) (by omega)).mono fun e w' h => ⟨by rw [h.1]; rfl, h.2.symm⟩

/-- The greatest power of two below n, for n from 2 on. -/
def splitZ (n : Nat) : Nat := 2 ^ (Lib.bitLen (n - 1) - 1)

theorem bitLen_bd {x : Nat} (h0 : x ≠ 0) (h : x < 18446744073709551616) : 1 ≤ Lib.bitLen x ∧ 2 ^ (Lib.bitLen x - 1) ≤ x ∧ x < 2 ^ Lib.bitLen x := Lib.bitLenAux_bounds 64 x h h0

theorem splitZ_spec {n : Nat} (h : 2 ≤ n) (h9 : n ≤ 9223372036854775807) : 1 ≤ splitZ n ∧ splitZ n < n ∧ n ≤ 2 * splitZ n := by
  have hs := bitLen_bd (x := n - 1) (by omega) (by omega)
  have h3 : 2 ^ Lib.bitLen (n - 1) = 2 * 2 ^ (Lib.bitLen (n - 1) - 1) := by
    rw [← Nat.pow_succ']; congr 1; omega
  have hp : 1 ≤ 2 ^ (Lib.bitLen (n - 1) - 1) := Nat.one_le_two_pow
  unfold splitZ
  omega

set_option maxHeartbeats 400000 in
theorem split_any (n : Nat) (h1 : 2 ≤ n) (h2 : n ≤ 9223372036854775807) (w : World) : Calls Tryd.prog 35 #[.int .i64 n] w fun e w' => e = .returned (.int .i64 (splitZ n : Nat)) ∧ w = w' := by
  have hs := splitZ_spec h1 h2
  have hspec := bitLen_bd (x := n - 1) (by omega) (by omega)
  have hb63 : Lib.bitLen (n - 1) ≤ 63 := by
    rcases Nat.lt_or_ge 63 (Lib.bitLen (n - 1)) with h | h
    · have h4 := hspec.2.1
      have : 2 ^ 63 ≤ 2 ^ (Lib.bitLen (n - 1) - 1) := Nat.pow_le_pow_right (by decide) (by omega)
      omega
    · exact h
  have hlen := fun W => len_any (n - 1) (by omega) W
  have hcv : (n : Int) - 1 = ((n - 1 : Nat) : Int) := by omega
  have hspl : Hid (splitZ n = 2 ^ (Lib.bitLen (n - 1) - 1)) := Lib.hid rfl
  have hb0 := hspec.1
  clear hspec
  generalize Lib.bitLen (n - 1) = b at *
  have hb1 : (b : Int) - 1 = ((b - 1 : Nat) : Int) := by omega
  have hpow : wrap64 ((2 : Int) ^ (b - 1)) = ((splitZ n : Nat) : Int) := by
    have e : ((2 : Int) ^ (b - 1)) = ((splitZ n : Nat) : Int) := by rw [hspl.out, Int.natCast_pow]; rfl
    rw [e]; unfold wrap64; omega
  go_enter Tryd.func35, Tryd.ntmps35
  go_wp2_with (go_at_call 44; refine (hlen _).mono ?_; rintro e w' ⟨rfl, rfl⟩)
  go_ret
  exact ⟨ret_int hpow, rfl⟩
end Go.Proofs.YtfgojhhphknjkaaDoor

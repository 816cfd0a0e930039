/- Sum is the table-driven checksum. -/
import Derived.Test.YtemdfbnfpdfpeaaDoorWireFnsA
import Derived.WalkKit
import Derived.Lib.Hide
namespace Go.Proofs.YtemdfbnfpdfpeaaDoor
open Go.RowKit

def crcTab : List Nat := [0, 274646895, 549293790, 820201905, 1098587580, 1361435347, 1640403810, 1905808397, 2197175160, 2460548119, 2722870694, 2987750089, 3280807620, 3553878443, 3811616794, 4084100981]
def crcHalf (r : Nat) : Nat := r / 16 ^^^ crcTab.getD (r % 16) 0
def crcStep (r : Nat) (b : UInt8) : Nat := crcHalf (crcHalf (r ^^^ b.toNat))
def crcReg (l : List UInt8) : Nat := l.foldl crcStep 4294967295
def crcSum (l : List UInt8) : Nat := crcReg l ^^^ 4294967295

/-- The table's cells. -/
def TabAt (w : World) : Prop := ∀ i : Nat, i < 16 → w.cell? ⟨0, i, none⟩ = some (.int .u32 (crcTab.getD i 0 : Nat))

theorem crcTab_lt (i : Nat) : crcTab.getD i 0 < 4294967296 := by
  by_cases h : i < 16
  · have : ∀ i : Fin 16, crcTab.getD i.1 0 < 4294967296 := by decide
    exact this ⟨i, h⟩
  · rw [List.getD_eq_getElem?_getD, List.getElem?_eq_none (by simp [crcTab]; omega)]; decide
theorem crcHalf_lt {r : Nat} (h : r < 4294967296) : crcHalf r < 4294967296 :=
  Nat.xor_lt_two_pow (n := 32) (by omega) (crcTab_lt _)
theorem crcStep_lt {r : Nat} (b : UInt8) (h : r < 4294967296) : crcStep r b < 4294967296 :=
  crcHalf_lt (crcHalf_lt (Nat.xor_lt_two_pow (n := 32) h (by have := b.toNat_lt; omega)))

theorem half_facts (w : World) (hT : TabAt w) (x : Nat) (hx : x < 4294967296) : ∃ t y : Nat, w.cell? ⟨0, x % 16, none⟩ = some (.int .u32 t) ∧ bits .xor .u32 ((x : Int) / 16) (t : Int) = (y : Int) ∧ y < 4294967296 ∧ Hid (y = crcHalf x) := by
  refine ⟨crcTab.getD (x % 16) 0, crcHalf x, hT _ (by omega), ?_, crcHalf_lt hx, Lib.hid rfl⟩
  rw [show ((x : Int) / 16) = ((x / 16 : Nat) : Int) by omega, u32_xor_nat _ _ (by omega) (crcTab_lt _)]; rfl

theorem take_snoc (s : ByteArray) (k : Nat) (h : k < s.size) : s.data.toList.take (k + 1) = s.data.toList.take k ++ [s[k]] := by
  rw [List.take_succ_eq_append_getElem (by simpa using h)]; rfl

set_option maxRecDepth 100000 in
set_option maxHeartbeats 1000000 in
theorem sum_any (s : ByteArray) (w : World) (hs : s.size ≤ 140737488351232) (hT : TabAt w) :
    Calls Tryd.prog 21 #[.string s] w fun e w' => e = .returned (.int .i64 (crcSum s.data.toList : Nat)) ∧ w = w' := by
  have HT := Lib.hid hT; clear hT
  go_enter Tryd.func21, Tryd.ntmps21
  go_wp2
  go_loop [3, 7] (fun r i => ∃ (k n : Nat), k ≤ s.size ∧ i = .int .i64 k ∧ r = .int .u32 n ∧ n < 4294967296 ∧ Hid (n = crcReg (s.data.toList.take k))) (fun _ i => s.size - (intOf i).toNat)
  case atStart => exact ⟨0, 4294967295, Nat.zero_le _, rfl, rfl, by omega, Lib.hid rfl⟩
  case round =>
    obtain ⟨k, n, hk, rfl, rfl, hn, H⟩ := hrel
    by_cases hlt : k < s.size
    · obtain ⟨b, hb⟩ : ∃ b : Nat, s[k].toNat = b := ⟨_, rfl⟩
      have hb1 : b < 256 := by have := s[k].toNat_lt; omega
      obtain ⟨x, hx, Hx, hx1⟩ : ∃ x : Nat, bits .xor .u32 (n : Int) (b : Int) = (x : Int) ∧ Hid (x = n ^^^ b) ∧ x < 4294967296 :=
        ⟨n ^^^ b, u32_xor_nat _ _ hn (by omega), Lib.hid rfl, Nat.xor_lt_two_pow (n := 32) hn (by omega)⟩
      obtain ⟨t1, y, ht1, hy, hy1, Hy⟩ := half_facts w HT.out x hx1
      obtain ⟨t2, z, ht2, hz, hz1, Hz⟩ := half_facts w HT.out y hy1
      have Hreg : Hid (z = crcReg (s.data.toList.take (k + 1))) := by
        refine Lib.hid ?_
        rw [take_snoc s k hlt, crcReg, List.foldl_append, ← crcReg, ← H.out, Hz.out, Hy.out, Hx.out, ← hb]; rfl
      go_wp2
      go_round
      case rel => exact ⟨k + 1, z, by omega, by go_num, rfl, hz1, Hreg⟩
      case measure => simp [intOf]; omega
    · obtain rfl : k = s.size := by omega
      obtain ⟨m, hm, hm1, Hm⟩ : ∃ m : Nat, bits .xor .u32 IntKind.u32.max (n : Int) = (m : Int) ∧ m < 4294967296 ∧ Hid (m = n ^^^ 4294967295) := by
        refine ⟨4294967295 ^^^ n, u32_xor_nat 4294967295 n (by omega) hn, Nat.xor_lt_two_pow (n := 32) (by omega) hn, Lib.hid (Nat.xor_comm _ _)⟩
      have hsg : IntKind.u32.signed = false := rfl
      go_wp2
      go_ret
      exact ⟨ret_int (by rw [Hm.out, H.out, List.take_of_length_le (by simp)]; rfl), rfl⟩
end Go.Proofs.YtemdfbnfpdfpeaaDoor

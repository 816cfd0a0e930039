/- The reference implementation of layer 1: the same values. -/
import Derived.Test.YtemdfbnfpdfpeaaDoorWireRT
import Derived.Test.YtemdfbnfpdfpeaaDoorWireBits
import Derived.OwnWalk
namespace Go.Proofs.YtemdfbnfpdfpeaaDoor
open Go.RowKit

set_option maxHeartbeats 400000 in
theorem zigzag_any (n : Int) (w : World) (h1 : -4611686018427387903 ≤ n) (h2 : n ≤ 4611686018427387903) :
    Calls Tryd.prog 25 #[.int .i64 n] w fun e w' => e = .returned (.int .u64 (foldZ n)) ∧ w = w' := by
  unfold foldZ
  by_cases h : n < 0
  · rw [if_pos h]
    go_enter Tryd.func25, Tryd.ntmps25
    go_wp2
    go_ret
    exact ⟨ret_int (by omega), rfl⟩
  · rw [if_neg h]
    go_enter Tryd.func25, Tryd.ntmps25
    go_wp2
    go_ret
    exact ⟨ret_int (by omega), rfl⟩

set_option maxRecDepth 100000 in
set_option maxHeartbeats 2000000 in
theorem refPutInt_any (k : Int) (w : World) (hk1 : -4611686018427387903 ≤ k) (hk2 : k ≤ 4611686018427387903) :
    Calls Tryd.prog 13 #[.int .i64 k] w fun e W' => e = .returned (.tuple #[.string (strOfNums (enc (foldZ k))), .int .i64 0]) ∧ Below w.heap.size w W' := by
  have hb1 : decide (k < -4611686018427387903) = false := by simp; omega
  have hb2 : decide (4611686018427387903 < k) = false := by simp; omega
  have hZ := foldZ_bd hk1 hk2
  have hel := (enc_length (foldZ k)).1
  obtain ⟨i0, hi, hz0, hz1, hz2⟩ := info_parts infoU8
  have hzz := zigzag_any k w hk1 hk2
  generalize foldZ k = Z at *
  go_enter Tryd.func13, Tryd.ntmps13
  go_wp2_with (go_at_call 25; refine hzz.mono ?_; rintro e w' ⟨rfl, rfl⟩)
  clear hzz
  go_loopw [4, 5] (fun z v wr => ∃ (r : Int) (pre : List Int), z = .int .u64 r ∧ 0 ≤ r ∧ r ≤ 9223372036854775806 ∧ Hid (enc Z = pre ++ enc r) ∧ wr.ownsRow w.heap.size 5 1 v pre.length (pre.map (Value.int .u8)) ∧ Below w.heap.size w wr) (fun z _ _ => (intOf z).toNat)
  case atStart => exact ⟨Z, [], rfl, hZ.1, hZ.2, Lib.hid rfl, World.ownsRow_nil _ _ _ _, Below.refl _ _⟩
  case round =>
    obtain ⟨r, pre, rfl, hr0, hr1, He, hown, hB⟩ := hrel
    have hpl : pre.length < 9 := by
      have h1 := congrArg List.length He.out
      have h2 := (enc_length r).2
      rw [List.length_append] at h1; omega
    by_cases hlt : r < 128
    · go_wp2_with (at_builtin; refine wpList_append_own _ rfl _ _ 38 rfl w.heap.size 5 i0 (.int .u8 0) 1 1 Tryd.underlying38 hi hz0 hz1 hz2 rfl (by decide) _ _ _ rfl (hown.alloc _) ⟨wr.heap.size, 0, none⟩ 1 1 [.int .u8 r] rfl rfl (cell_one_new _ _ _) (by simp [Value.oneCell']) (by unfold maxLen; omega) (by omega) (by have := hB.size; simp; omega) ?_; intro v' w1 hown' hgrow _; have hcv := conv_row (k := pre.length + 1) (xs := pre ++ [r]) (by simp) (by simpa using hown'))
      go_ret2
      have hxs : enc Z = pre ++ [r] := by rw [He.out, enc_lt hlt]
      rw [hxs]
      exact ⟨rfl, (hB.alloc hB.size _).grown hgrow (by have := hB.size; simp; omega) (fun j ej => (hown.lt j ej).1)⟩
    · go_wp2_with (at_builtin; refine wpList_append_own _ rfl _ _ 38 rfl w.heap.size 5 i0 (.int .u8 0) 1 1 Tryd.underlying38 hi hz0 hz1 hz2 rfl (by decide) _ _ _ rfl (hown.alloc _) ⟨wr.heap.size, 0, none⟩ 1 1 [.int .u8 (r % 128 + 128)] rfl rfl (cell_one_new _ _ _) (by simp [Value.oneCell']) (by unfold maxLen; omega) (by omega) (by have := hB.size; simp; omega) ?_; intro v' w1 hown' hgrow _)
      go_roundw
      case rel => exact ⟨r / 128, pre ++ [r % 128 + 128], rfl, by omega, by omega, Lib.hid (by rw [He.out, enc_ge (by omega) (by omega)]; simp), by simpa using hown', (hB.alloc hB.size _).grown hgrow (by have := hB.size; simp; omega) (fun j ej => (hown.lt j ej).1)⟩
      case measure => simp [intOf]; omega
set_option maxHeartbeats 400000 in
theorem refPutInt_all (k : Int) (w : World) (h1 : -9223372036854775808 ≤ k) (h2 : k ≤ 9223372036854775807) :
    Calls Tryd.prog 13 #[.int .i64 k] w fun e w' => e = .returned (.tuple #[.string (putIntZ k).1, .int .i64 (putIntZ k).2]) ∧ Below w.heap.size w w' := by
  by_cases h : -4611686018427387903 ≤ k ∧ k ≤ 4611686018427387903
  · have : putIntZ k = (strOfNums (enc (foldZ k)), 0) := if_pos h
    rw [this]
    exact refPutInt_any k w h.1 h.2
  · have : putIntZ k = (⟨#[]⟩, 10) := if_neg h
    rw [this]
    clear this
    by_cases hlo : k < -4611686018427387903
    · go_enter Tryd.func13, Tryd.ntmps13
      go_wp2
      go_ret2
      exact ⟨rfl, Below.refl _ _⟩
    · have hhi : 4611686018427387903 < k := by omega
      clear h
      go_enter Tryd.func13, Tryd.ntmps13
      go_wp2
      go_ret2
      exact ⟨rfl, Below.refl _ _⟩

set_option maxRecDepth 100000 in
set_option maxHeartbeats 400000 in
theorem refPutString_all (s : ByteArray) (w : World) (hs : s.size ≤ 140737488351232) :
    Calls Tryd.prog 20 #[.string s] w fun e w' => e = .returned (.tuple #[.string (putStringZ s).1, .int .i64 (putStringZ s).2]) ∧ Below w.heap.size w w' := by
  by_cases h : 65536 < s.size
  · have : putStringZ s = (⟨#[]⟩, 10) := if_pos h
    rw [this]; clear this
    go_enter Tryd.func20, Tryd.ntmps20
    go_wp2
    go_ret2
    exact ⟨rfl, Below.refl _ _⟩
  · have : putStringZ s = (strOfNums (enc (2 * (s.size : Int))) ++ s, 0) := if_neg h
    rw [this]; clear this
    have hz : foldZ (s.size : Int) = 2 * s.size := by unfold foldZ; rw [if_neg (by omega)]
    have Hz := Lib.hid hz; clear hz
    have hsz : (strOfNums (enc (foldZ (s.size : Int)))).size ≤ 9 := by rw [strOfNums_size]; exact (enc_length _).1
    go_enter Tryd.func20, Tryd.ntmps20
    go_wp2_with (go_at_call 13; refine (refPutInt_any _ _ (by omega) (by omega)).mono ?_; rintro e w' ⟨rfl, hb⟩)
    go_ret2
    exact ⟨by rw [Hz.out]; rfl, hb⟩

set_option maxRecDepth 100000 in
set_option maxHeartbeats 1000000 in
theorem refSum_any (s : ByteArray) (w : World) (hs : s.size ≤ 140737488351232) :
    Calls Tryd.prog 22 #[.string s] w fun e w' => e = .returned (.int .i64 (crcSum s.data.toList : Nat)) ∧ w = w' := by
  go_enter Tryd.func22, Tryd.ntmps22
  go_wp2
  go_loop [3, 4] (fun r i => ∃ (k n : Nat), k ≤ s.size ∧ i = .int .i64 k ∧ r = .int .u32 n ∧ n < 4294967296 ∧ Hid (n = crcReg (s.data.toList.take k))) (fun _ i => s.size - (intOf i).toNat)
  case atStart => exact ⟨0, 4294967295, Nat.zero_le _, rfl, rfl, by omega, Lib.hid rfl⟩
  case round =>
    obtain ⟨k, n, hk, rfl, rfl, hn, H⟩ := hrel
    by_cases hlt : k < s.size
    · obtain ⟨b, hb⟩ : ∃ b : Nat, s[k].toNat = b := ⟨_, rfl⟩
      have hb1 : b < 256 := by have := s[k].toNat_lt; omega
      obtain ⟨x, hx, Hx, hx1⟩ : ∃ x : Nat, bits .xor .u32 (n : Int) (b : Int) = (x : Int) ∧ Hid (x = n ^^^ b) ∧ x < 4294967296 :=
        ⟨n ^^^ b, u32_xor_nat _ _ hn (by omega), Lib.hid rfl, Nat.xor_lt_two_pow (n := 32) hn (by omega)⟩
      have Hreg : Hid (bitN 8 x = crcReg (s.data.toList.take (k + 1))) := by
        refine Lib.hid ?_
        rw [take_snoc s k hlt, crcReg, List.foldl_append, ← crcReg, ← H.out, Hx.out, ← hb]
        exact (step_bits n s[k]).symm
      go_wp2
      go_loop [3, 5] (fun r i => ∃ (j m : Nat), j ≤ 8 ∧ i = .int .i64 j ∧ r = .int .u32 m ∧ m < 4294967296 ∧ Hid (bitN 8 x = bitN (8 - j) m)) (fun _ i => 8 - (intOf i).toNat)
      case atStart => exact ⟨0, x, by omega, rfl, rfl, hx1, Lib.hid rfl⟩
      case round =>
        obtain ⟨j, m, hj, rfl, rfl, hm, Hm⟩ := hrel
        by_cases hj8 : j < 8
        · have hbm := bit_lt hm
          have Hb : Hid (bitN 8 x = bitN (8 - (j + 1)) (crcBit m)) := Lib.hid (by rw [Hm.out, show 8 - j = 8 - (j + 1) + 1 by omega]; rfl)
          by_cases hodd : m % 2 = 1
          · have t1 : ((m : Int) % 2 == 1) = true := by simp only [beq_iff_eq]; omega
            have hxp : bits .xor .u32 ((m : Int) / 2) 2197175160 = (crcBit m : Int) := by
              have := u32_xor_nat (m / 2) 2197175160 (by omega) (by omega)
              rw [show ((m : Int) / 2) = ((m / 2 : Nat) : Int) by omega]
              unfold crcBit; rw [hodd, Nat.one_mul]; exact this
            go_wp2
            go_round
            case rel => exact ⟨j + 1, crcBit m, by omega, by go_num, rfl, hbm, Hb⟩
            case measure => simp [intOf]; omega
          · have t1 : ((m : Int) % 2 == 1) = false := by simp only [beq_eq_false_iff_ne]; omega
            have hd : crcBit m = m / 2 := by unfold crcBit; rw [show m % 2 = 0 by omega, Nat.zero_mul, Nat.xor_zero]
            have Hd := Lib.hid hd
            clear hd
            go_wp2
            go_round
            case rel => exact ⟨j + 1, m / 2, by omega, by go_num, by simp, by omega, Lib.hid (by rw [← Hd.out]; exact Hb.out)⟩
            case measure => simp [intOf]; omega
        · obtain rfl : j = 8 := by omega
          go_wp2
          go_round
          case rel => exact ⟨k + 1, m, by omega, by go_num, rfl, hm, Lib.hid (by rw [← Hreg.out, Hm.out]; rfl)⟩
          case measure => simp [intOf]; omega
    · obtain rfl : k = s.size := by omega
      obtain ⟨m, hm, hm1, Hm⟩ : ∃ m : Nat, bits .xor .u32 IntKind.u32.max (n : Int) = (m : Int) ∧ m < 4294967296 ∧ Hid (m = n ^^^ 4294967295) := by
        refine ⟨4294967295 ^^^ n, u32_xor_nat 4294967295 n (by omega) hn, Nat.xor_lt_two_pow (n := 32) (by omega) hn, Lib.hid (Nat.xor_comm _ _)⟩
      have hsg : IntKind.u32.signed = false := rfl
      go_wp2
      go_ret
      exact ⟨ret_int (by rw [Hm.out, H.out, List.take_of_length_le (by simp)]; rfl), rfl⟩
end Go.Proofs.YtemdfbnfpdfpeaaDoor

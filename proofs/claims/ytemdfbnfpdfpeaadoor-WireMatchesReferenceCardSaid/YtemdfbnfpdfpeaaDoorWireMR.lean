/- WireMatchesReference's walk. -/
import Derived.Test.YtemdfbnfpdfpeaaDoorWireRefB
import Derived.Test.YtemdfbnfpdfpeaaDoorWireSane
namespace Go.Proofs.YtemdfbnfpdfpeaaDoor
open Go.RowKit

theorem putIntZ_size (k : Int) : (putIntZ k).1.size ≤ 9 := by
  unfold putIntZ; split
  · rw [encS_size]; exact (enc_length _).1
  · decide

set_option maxRecDepth 100000 in
set_option maxHeartbeats 4000000 in
theorem matches_any (n : Int) (s : ByteArray) (k : Int) (w : World) (hn : -9223372036854775808 ≤ n ∧ n ≤ 9223372036854775807) (hs : s.size ≤ 140737488351232) (hk : -9223372036854775808 ≤ k ∧ k ≤ 9223372036854775807)
    (hT : TabAt w) (h0 : 0 < w.heap.size) :
    Calls Tryd.prog 3 #[.int .i64 n, .string s, .int .i64 k] w fun e w' => e = .returned (.bool true) ∧ Below w.heap.size w w' := by
  have HT := Lib.hid hT; clear hT
  have nb := numFrom_bd n
  have N1 := fun W => numberFrom_any n W hn.1 hn.2
  have hu : (s.extract 0 (min (s.size : Int) 300).toNat).size ≤ 300 := by rw [ByteArray.size_extract]; omega
  generalize numFrom n = m at *
  go_enter Tryd.func3, Tryd.ntmps3
  go_wp2_with fail
  refine (sane_any _ HT.out h0).mono ?_; rintro e w1 ⟨rfl, b1⟩
  go_wp2_with fail
  refine (N1 _).mono ?_; rintro e w2 ⟨rfl, b2⟩
  clear N1
  generalize s.extract 0 (min (s.size : Int) 300).toNat = u at *
  go_wp2_with fail
  have b3 : Below w2.heap.size w2 (w2.alloc (.cells #[.int .i64 n, .int .i64 m] 3)) := (Below.refl _ _).alloc (Nat.le_refl _) _
  have z3 : w2.heap.size < (w2.alloc (.cells #[.int .i64 n, .int .i64 m] 3)).heap.size := by simp
  have d0 : (w2.alloc (.cells #[.int .i64 n, .int .i64 m] 3)).cell? ⟨w2.heap.size, 0, none⟩ = some (.int .i64 n) := by simp
  have d1 : (w2.alloc (.cells #[.int .i64 n, .int .i64 m] 3)).cell? ⟨w2.heap.size, 1, none⟩ = some (.int .i64 m) := by simp
  generalize w2.alloc (.cells #[.int .i64 n, .int .i64 m] 3) = w3 at *
  go_loopw [44] (fun i wr => ∃ j : Nat, i = .int .i64 j ∧ j ≤ 2 ∧ Below w3.heap.size w3 wr) (fun i _ => 2 - (intOf i).toNat)
  case atStart => exact ⟨0, rfl, by omega, Below.refl _ _⟩
  case round =>
    obtain ⟨j, rfl, hj, hb⟩ := hrel
    by_cases hj2 : j < 2
    · obtain ⟨x, hx1, hx2, ck⟩ : ∃ x : Int, -9223372036854775808 ≤ x ∧ x ≤ 9223372036854775807 ∧ wr.cell? ⟨w2.heap.size, j, none⟩ = some (.int .i64 x) := by
        have h : j = 0 ∨ j = 1 := by omega
        rcases h with rfl | rfl
        · exact ⟨n, hn.1, hn.2, (hb.cell (p := ⟨w2.heap.size, 0, none⟩) z3).trans d0⟩
        · exact ⟨m, by omega, by omega, (hb.cell (p := ⟨w2.heap.size, 1, none⟩) z3).trans d1⟩
      have hP := fun W => putInt_all x W hx1 hx2
      have hR := fun W => refPutInt_all x W hx1 hx2
      clear d0 d1
      generalize putIntZ x = P at *
      go_wp2_with fail
      refine (hP _).mono ?_; rintro e w4 ⟨rfl, b4⟩
      go_wp2_with fail
      refine (hR _).mono ?_; rintro e w5 ⟨rfl, b5⟩
      clear hP hR ck
      go_wp2
      go_roundw
      case rel => exact ⟨j + 1, by go_num, by omega, hb.trans ((bthen b4 b5).mono hb.size)⟩
      case measure => simp [intOf]; omega
    · obtain rfl : j = 2 := by omega
      clear d0 d1
      have pb := pickZ_bd k ((u.size : Int) + 2) (by omega)
      have hp := fun W => pick_any k ((u.size : Int) + 2) W hk.1 hk.2 (by omega) (by omega)
      generalize pickZ k ((u.size : Int) + 2) = q at *
      have hbw : Below w.heap.size w wr := bthen (bthen (bthen b1 b2) b3) hb
      clear b1 b2 b3 hb z3
      go_wp2_with (go_at_call 14; refine (hp _).mono ?_; rintro e w' ⟨rfl, rfl⟩)
      have b3 : Below wr.heap.size wr (wr.alloc (.cells #[.int .i64 k, .int .i64 q] 3)) := (Below.refl _ _).alloc (Nat.le_refl _) _
      have z3 : wr.heap.size < (wr.alloc (.cells #[.int .i64 k, .int .i64 q] 3)).heap.size := by simp
      have d0 : (wr.alloc (.cells #[.int .i64 k, .int .i64 q] 3)).cell? ⟨wr.heap.size, 0, none⟩ = some (.int .i64 k) := by simp
      have d1 : (wr.alloc (.cells #[.int .i64 k, .int .i64 q] 3)).cell? ⟨wr.heap.size, 1, none⟩ = some (.int .i64 q) := by simp
      have hb4 : Below w.heap.size w (wr.alloc (.cells #[.int .i64 k, .int .i64 q] 3)) := bthen hbw b3
      clear hp b3 hbw
      generalize wr.alloc (.cells #[.int .i64 k, .int .i64 q] 3) = w4 at *
      obtain ⟨B, hB⟩ : ∃ B, wr.heap.size = B := ⟨_, rfl⟩
      rw [hB] at z3 d0 d1 ⊢
      clear hB
      go_loopw [75] (fun i wr => ∃ j : Nat, i = .int .i64 j ∧ j ≤ 2 ∧ Below w4.heap.size w4 wr) (fun i _ => 2 - (intOf i).toNat)
      case atStart => exact ⟨0, rfl, by omega, Below.refl _ _⟩
      case round =>
        obtain ⟨j, rfl, hj, hb⟩ := hrel
        by_cases hj2 : j < 2
        · obtain ⟨x, hx1, hx2, ck⟩ : ∃ x : Int, -9223372036854775808 ≤ x ∧ x ≤ 9223372036854775807 ∧ wr.cell? ⟨B, j, none⟩ = some (.int .i64 x) := by
            have h : j = 0 ∨ j = 1 := by omega
            rcases h with rfl | rfl
            · exact ⟨k, hk.1, hk.2, (hb.cell (p := ⟨B, 0, none⟩) z3).trans d0⟩
            · exact ⟨q, by omega, by omega, (hb.cell (p := ⟨B, 1, none⟩) z3).trans d1⟩
          have hI := fun W => int_all u x W (by omega) hx1 hx2
          have hRI := fun W => refInt_all u x W (by omega) hx1 hx2
          have hS := fun W => string_all u x W (by omega) hx1 hx2
          have hRS := fun W => refString_all u x W (by omega) hx1 hx2
          clear d0 d1
          generalize intZ u x = I at *
          generalize stringZ u x = S at *
          go_wp2_with fail
          refine (hI _).mono ?_; rintro e w5 ⟨rfl, rfl⟩
          go_wp2_with fail
          refine (hRI _).mono ?_; rintro e w5 ⟨rfl, b5⟩
          clear hI hRI ck
          go_wp2_with fail
          refine (hS _).mono ?_; rintro e w6 ⟨rfl, b6⟩
          go_wp2_with fail
          refine (hRS _).mono ?_; rintro e w7 ⟨rfl, b7⟩
          clear hS hRS
          go_wp2
          go_roundw
          case rel => exact ⟨j + 1, by go_num, by omega, hb.trans ((bthen (bthen b5 b6) b7).mono hb.size)⟩
          case measure => simp [intOf]; omega
        · obtain rfl : j = 2 := by omega
          clear d0 d1
          have hP := fun W => putString_all u W (by omega)
          have hR := fun W => refPutString_all u W (by omega)
          generalize putStringZ u = P at *
          go_wp2_with fail
          refine (hP _).mono ?_; rintro e w5 ⟨rfl, b5⟩
          go_wp2_with fail
          refine (hR _).mono ?_; rintro e w6 ⟨rfl, b6⟩
          clear hP hR
          have hbw : Below w.heap.size w w6 := bthen (bthen (bthen hb4 hb) b5) b6
          have hS := sum_any u w6 (by omega) (HT.out.below hbw h0)
          have hR := refSum_any u w6 (by omega)
          generalize crcSum u.data.toList = X at *
          go_wp2_with (first | (go_at_call 21; refine hS.mono ?_; rintro e w7 ⟨rfl, rfl⟩) | (go_at_call 22; refine hR.mono ?_; rintro e w7 ⟨rfl, rfl⟩))
          go_ret
          exact ⟨rfl, hbw⟩
end Go.Proofs.YtemdfbnfpdfpeaaDoor

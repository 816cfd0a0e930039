/- WireUnique's walk. -/
import Derived.Test.YtemdfbnfpdfpeaaDoorWireRT
namespace Go.Proofs.YtemdfbnfpdfpeaaDoor
open Go.RowKit

theorem extract_eq {t E : ByteArray} {k e : Nat} (hk : k ≤ e) (h : (t.data.toList.drop k).take (e - k) = E.data.toList) : t.extract k e = E := by
  apply ba_ext
  rw [extract_list, ← h, List.drop_take]

theorem uniq (t : ByteArray) (k : Nat) (hk : k ≤ t.size) :
    (intZ t k = (0, 0, 10) ∧ stringZ t k = (⟨#[]⟩, 0, 10)) ∨
    ∃ (n : Int) (e : Nat) (E : ByteArray), intZ t k = (n, (e : Int), 0) ∧ -4611686018427387903 ≤ n ∧ n ≤ 4611686018427387903 ∧ k ≤ e ∧ e ≤ t.size ∧ putIntZ n = (E, 0) ∧ t.extract k e = E ∧
      (stringZ t k = (⟨#[]⟩, 0, 10) ∨ ∃ (v S : ByteArray) (f : Nat), stringZ t k = (v, (f : Int), 0) ∧ k ≤ f ∧ f ≤ t.size ∧ putStringZ v = (S, 0) ∧ t.extract k f = S ∧ v.size ≤ 65536) := by
  rcases intZ_cases t k with ⟨_, h⟩ | ⟨hz, -⟩ | ⟨z, m, hz, hk0, hd, hz0, hz1, hn, hle⟩
  · omega
  · left; exact ⟨hz, by unfold stringZ; rw [hz]; rfl⟩
  · right
    have hb := unfoldZ_bd hz0 hz1
    have hi : (intZ t k).2.2 = 0 := by rw [hz]
    obtain ⟨n0, e0, h1, h2, h3, h4, h5, h6, h7⟩ := intZ_inv hi
    obtain rfl : k = n0 := by omega
    rw [hz] at h2 h5 h6 h7
    have he : e0 = k + m := by simp at h2; omega
    subst he
    simp only [] at h7
    have hE : t.extract k (k + m) = strOfNums (enc (foldZ (unfoldZ z))) := extract_eq h3 h7
    refine ⟨unfoldZ z, k + m, _, by rw [hz]; simp, hb.1, hb.2, h3, h4, if_pos ⟨hb.1, hb.2⟩, hE, ?_⟩
    by_cases hbad : unfoldZ z < 0 ∨ 65536 < unfoldZ z ∨ (t.size : Int) - ((k : Int) + (m : Nat)) < unfoldZ z
    · left; unfold stringZ; rw [hz]; simp only []; rw [if_neg (by simp), if_pos hbad]
    · right
      obtain ⟨q, hq⟩ := Int.eq_ofNat_of_zero_le (show 0 ≤ unfoldZ z by omega)
      have hv : (t.extract (k + m) (k + m + q)).size = q := by rw [ByteArray.size_extract]; omega
      refine ⟨t.extract (k + m) (k + m + q), strOfNums (enc (foldZ (q : Int))) ++ t.extract (k + m) (k + m + q), k + m + q, ?_, by omega, by omega, ?_, ?_, by omega⟩
      · unfold stringZ; rw [hz]; simp only []; rw [if_neg (by simp), if_neg hbad, hq, show ((k : Int) + (m : Nat)).toNat = k + m by omega, show ((k : Int) + (m : Nat) + (q : Nat)).toNat = k + m + q by omega]
        simp
      · rw [putStringZ_le (by omega), hv]
      · rw [← hq, ← hE]
        apply ba_ext
        rw [app_list]
        simp only [extract_list]
        rw [List.drop_take, List.drop_take, List.drop_take, show k + m + q - k = m + q by omega, show k + m - k = m by omega, show k + m + q - (k + m) = q by omega, List.take_add, List.drop_drop]

theorem conv_byte (W : World) (b : Nat) (c : Int) (h : W.cell? ⟨b, 0, none⟩ = some (.int .u8 c)) : (convert 38 9 (.slice (some ⟨b, 0, none⟩) 1 1)).run Tryd.prog W = .ok (.string (strOfNums [c])) W := by
  refine run_convert_bytes_arg (P := Tryd.prog) W 38 5 Tryd.underlying38 Tryd.underlying5 b 0 1 1 [c] rfl (fun i hi => ?_) 9 Tryd.underlying9
  obtain rfl : i = 0 := by omega
  simpa using h

set_option maxRecDepth 100000 in
set_option maxHeartbeats 2000000 in
theorem unique_any (s : ByteArray) (at' c : Int) (w : World) (hs : s.size ≤ 140737488351232) (h1 : -9223372036854775808 ≤ at') (h2 : at' ≤ 9223372036854775807) (hc0 : 0 ≤ c) (hc1 : c ≤ 255)
    (hT : TabAt w) (h0 : 0 < w.heap.size) :
    Calls Tryd.prog 5 #[.string s, .int .i64 at', .int .u8 c] w fun e w' => e = .returned (.bool true) ∧ Below w.heap.size w w' := by
  have HT := Lib.hid hT; clear hT
  go_enter Tryd.func5, Tryd.ntmps5
  go_wp2_with fail
  refine (sane_any _ HT.out h0).mono ?_; rintro e w1 ⟨rfl, b1⟩
  have hcv := conv_byte (w1.alloc (.cells #[.int .u8 c] 5)).drew w1.heap.size c (by simp)
  have hsz : (strOfNums [c]).size = 1 := strOfNums_size _
  go_wp2_with fail
  go_region
  have hts : (strOfNums [c] ++ s.extract 0 (min (s.size : Int) 300).toNat).size ≤ 301 := by rw [ByteArray.size_append, hsz, ByteArray.size_extract]; omega
  have b2 : Below w1.heap.size w1 (w1.alloc (.cells #[.int .u8 c] 5)).drew := ((Below.refl _ _).alloc (Nat.le_refl _) _).drew
  clear hcv hsz
  generalize strOfNums [c] ++ s.extract 0 (min (s.size : Int) 300).toNat = t at *
  have pb := pickZ_bd at' ((t.size : Int) + 1) (by omega)
  obtain ⟨q, hq⟩ := Int.eq_ofNat_of_zero_le pb.1
  have hq1 : q ≤ t.size := by omega
  have hp := fun W => pick_any at' ((t.size : Int) + 1) W h1 h2 (by omega) (by omega)
  rw [hq] at hp
  clear pb hq
  generalize (w1.alloc (.cells #[.int .u8 c] 5)).drew = w2 at *
  go_wp2_with (go_at_call 14; refine (hp _).mono ?_; rintro e w' ⟨rfl, rfl⟩)
  have d0 : (w2.alloc (.cells #[.int .i64 0, .int .i64 q] 3)).cell? ⟨w2.heap.size, 0, none⟩ = some (.int .i64 0) := by simp
  have d1 : (w2.alloc (.cells #[.int .i64 0, .int .i64 q] 3)).cell? ⟨w2.heap.size, 1, none⟩ = some (.int .i64 q) := by simp
  have b3 : Below w2.heap.size w2 (w2.alloc (.cells #[.int .i64 0, .int .i64 q] 3)) := (Below.refl _ _).alloc (Nat.le_refl _) _
  have z3 : w2.heap.size < (w2.alloc (.cells #[.int .i64 0, .int .i64 q] 3)).heap.size := by simp
  generalize w2.alloc (.cells #[.int .i64 0, .int .i64 q] 3) = w3 at *
  go_loopw [38] (fun i wr => ∃ j : Nat, i = .int .i64 j ∧ j ≤ 2 ∧ Below w3.heap.size w3 wr) (fun i _ => 2 - (intOf i).toNat)
  case atStart => exact ⟨0, rfl, by omega, Below.refl _ _⟩
  case round =>
    obtain ⟨j, rfl, hj, hb⟩ := hrel
    by_cases hj2 : j < 2
    · obtain ⟨k, hk, ck⟩ : ∃ k : Nat, k ≤ t.size ∧ wr.cell? ⟨w2.heap.size, j, none⟩ = some (.int .i64 k) := by
        have h : j = 0 ∨ j = 1 := by omega
        rcases h with rfl | rfl
        · exact ⟨0, by omega, (hb.cell (p := ⟨w2.heap.size, 0, none⟩) z3).trans d0⟩
        · exact ⟨q, hq1, (hb.cell (p := ⟨w2.heap.size, 1, none⟩) z3).trans d1⟩
      have hI := int_all t k wr (by omega) (by omega) (by omega)
      have hSt := fun W => string_all t k W (by omega) (by omega) (by omega)
      clear d0 d1 hp
      rcases uniq t k hk with ⟨e1, e2⟩ | ⟨n, en, E, e1, n1, n2, k1, k2, e3, e4, e5⟩
      · rw [e1] at hI
        rw [e2] at hSt
        have hP := putInt_all 0 wr (by omega) (by omega)
        rw [show putIntZ 0 = (⟨#[0]⟩, 0) by kernel_rfl] at hP
        clear e1 e2
        go_wp2_with fail
        refine hI.mono ?_; rintro e w4 ⟨rfl, rfl⟩
        go_wp2_with fail
        refine hP.mono ?_; rintro e w5 ⟨rfl, b5⟩
        clear hI hP
        go_wp2_with fail
        refine (hSt _).mono ?_; rintro e w6 ⟨rfl, b6⟩
        clear hSt
        have hP := putString_all ⟨#[]⟩ w6 (by decide)
        rw [show putStringZ ⟨#[]⟩ = (⟨#[0]⟩, 0) by kernel_rfl] at hP
        go_wp2_with fail
        refine hP.mono ?_; rintro e w7 ⟨rfl, b7⟩
        clear hP ck
        go_wp2
        go_roundw
        case rel => exact ⟨j + 1, by go_num, by omega, hb.trans ((bthen (bthen b5 b6) b7).mono hb.size)⟩
        case measure => simp [intOf]; omega
      · rw [e1] at hI
        have hP := putInt_all n wr (by omega) (by omega)
        rw [e3] at hP
        clear e1 e3
        go_wp2_with fail
        refine hI.mono ?_; rintro e w4 ⟨rfl, rfl⟩
        go_wp2_with fail
        refine hP.mono ?_; rintro e w5 ⟨rfl, b5⟩
        clear hI hP
        go_wp2_with fail
        rcases e5 with e5 | ⟨v, S, f, e5, f1, f2, e6, e7, e8⟩
        · rw [e5] at hSt
          refine (hSt _).mono ?_; rintro e w6 ⟨rfl, b6⟩
          clear hSt e5
          have hP := putString_all ⟨#[]⟩ w6 (by decide)
          rw [show putStringZ ⟨#[]⟩ = (⟨#[0]⟩, 0) by kernel_rfl] at hP
          go_wp2_with fail
          refine hP.mono ?_; rintro e w7 ⟨rfl, b7⟩
          clear hP ck
          go_wp2
          go_roundw
          case rel => exact ⟨j + 1, by go_num, by omega, hb.trans ((bthen (bthen b5 b6) b7).mono hb.size)⟩
          case measure => simp [intOf]; omega
        · rw [e5] at hSt
          refine (hSt _).mono ?_; rintro e w6 ⟨rfl, b6⟩
          clear hSt e5
          have hP := putString_all v w6 (by omega)
          rw [e6] at hP
          clear e6
          go_wp2_with fail
          refine hP.mono ?_; rintro e w7 ⟨rfl, b7⟩
          clear hP ck
          go_wp2
          go_roundw
          case rel => exact ⟨j + 1, by go_num, by omega, hb.trans ((bthen (bthen b5 b6) b7).mono hb.size)⟩
          case measure => simp [intOf]; omega
    · obtain rfl : j = 2 := by omega
      clear d0 d1 hp
      go_wp2
      go_ret
      exact ⟨rfl, bthen (bthen (bthen b1 b2) b3) hb⟩
end Go.Proofs.YtemdfbnfpdfpeaaDoor

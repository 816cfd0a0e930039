/- The reference: Total, Earliest. -/
import Derived.Test.YtjocgipjmcnjfaaSpRefQ
namespace Go.Proofs.Ytjocgipjmcnjfaa
open Go.RowKit

set_option maxRecDepth 100000 in
set_option maxHeartbeats 2000000 in
theorem rtotal_any (p : Option Addr) (cap : Nat) (l : List (Int × Int)) (w : World) (hS : ShAt w w.heap.size p l) (hlen : l.length ≤ 10000) (hbd : Bd l) :
    Calls Try.prog 21 #[.slice p l.length cap] w fun e w' => e = .returned (iv (totZ l)) ∧ Below w.heap.size w w' := by
  have hn := rnorm_any p cap l w hS hlen
  have hml := nrm_len l
  have hasc := nrmZ_asc l
  have hbn := hbd.nrm
  unfold totZ
  generalize nrmZ l = M at hn hml hasc hbn ⊢
  obtain ⟨V, hV⟩ : ∃ V, sumZ M = V := ⟨_, rfl⟩
  rw [hV]
  have hVb : 0 ≤ V ∧ V ≤ 18446744073709551615 := by
    have := sumZ_le M (-9223372036854775808) 9223372036854775807 hasc (by omega) (fun s hs => by have := hbn s hs; omega)
    omega
  obtain ⟨m, hm⟩ : ∃ m, M.length = m := ⟨_, rfl⟩
  have HV := Lib.hid hV
  have HA := Lib.hid hasc
  have HB := Lib.hid hbn
  have HM := Lib.hid hm
  have hm5 : m ≤ 100000 := by omega
  obtain ⟨v0, v1⟩ := hVb
  clear hV hasc hbn hS hbd hml
  go_enter Try.func21, Try.ntmps21
  go_wp2_with fail
  refine hn.mono ?_
  rintro e w2 ⟨p2, c2, rfl, hS2, b2⟩
  rw [hm]
  clear hm hn
  go_wp2_with fail
  go_loopw [3, 5] (fun s3 s wr => ∃ k : Nat, s3 = .int .i64 (min (sumZ (M.take k)) 4611686018427387903) ∧ s = .int .i64 k ∧ k ≤ m ∧ Below w2.heap.size w2 wr) (fun _ s _ => m - (intOf s).toNat)
  case atStart => exact ⟨0, rfl, rfl, Nat.zero_le _, Below.refl _ _⟩
  case round =>
    obtain ⟨k, rfl, rfl, hk, hb⟩ := hrel
    have hmm := HM.out
    by_cases hlt : k < m
    · obtain ⟨b', o, rfl, hbl, q0, q1⟩ := (hS2.below hb) k (by omega)
      have hsz := hb.size
      have hbx := HB.out.getD (i := k) (by omega)
      have hlt2 := HA.out.1 _ (List.getElem_mem (show k < M.length by omega))
      have hst : M.take (k + 1) = M.take k ++ [M.getD k (0, 0)] := by rw [List.take_succ_eq_append_getElem (by omega), getD_at (by omega)]
      have hsum := sumZ_snoc (M.take k) (M.getD k (0, 0))
      rw [← hst] at hsum
      have bd1 := sumZ_le (M.take k) (-9223372036854775808) 9223372036854775807 (HA.out.take k) (by omega) (fun s hs => by have := HB.out s (List.mem_of_mem_take hs); omega)
      have bd2 := sumZ_le (M.take (k + 1)) (-9223372036854775808) 9223372036854775807 (HA.out.take (k + 1)) (by omega) (fun s hs => by have := HB.out s (List.mem_of_mem_take hs); omega)
      rw [← getD_at (by omega)] at hlt2
      obtain ⟨X, hX⟩ : ∃ X, M.getD k (0, 0) = X := ⟨_, rfl⟩
      rw [hX] at q0 q1 hbx hlt2 hsum
      obtain ⟨x, y⟩ := X
      dsimp only at q0 q1 hbx hlt2 hsum
      generalize hs1 : sumZ (M.take k) = S1 at hsum bd1 ⊢
      have HS2 := Lib.hid hs1
      generalize hs2 : sumZ (M.take (k + 1)) = S2 at hsum bd2
      have HS3 := Lib.hid hs2
      obtain ⟨x0, x1, y0, y1⟩ := hbx
      have hsz2 := fun W => rsize_any x y W x0 y1 (by omega)
      obtain ⟨d, hd⟩ : ∃ d, y - x = d := ⟨_, rfl⟩
      rw [hd] at hsz2 hsum
      obtain ⟨m1, hm1⟩ : ∃ m1, min S1 4611686018427387903 = m1 := ⟨_, rfl⟩
      obtain ⟨m2, hm2⟩ : ∃ m2, min d 4611686018427387903 = m2 := ⟨_, rfl⟩
      have hwr : IntKind.i64.wrap (m1 + m2) = m1 + m2 := w64 (by omega) (by omega)
      have hres : min (m1 + m2) 4611686018427387903 = min S2 4611686018427387903 := by omega
      have HRes := Lib.hid hres
      rw [hm1]
      rw [hm2] at hsz2
      have hidx : (k : Int) * 2 = ((k * 2 : Nat) : Int) := by omega
      have HS5 := Lib.hid hS2
      clear hX hst hs1 hs2 hmm hS2 x0 x1 y0 y1 bd1 bd2 hd hsum hlt2 hres hm1 hm2
      go_wp2_with fail
      refine (hsz2 _).mono ?_
      rintro e w6 ⟨rfl, b6⟩
      go_wp2_with fail
      exact ⟨⟨k + 1, by rw [HS3.out]; exact congrArg _ HRes.out, by go_num, by omega, hb.trans (b6.mono hsz)⟩, by simp [intOf] <;> omega⟩
    · obtain rfl : k = m := by omega
      have hfin : sumZ (M.take k) = V := by rw [List.take_of_length_le (by omega)]; exact HV.out
      rw [hfin]
      clear hfin hmm hS2
      go_wp2_with fail
      go_ret
      exact ⟨rfl, b2.trans (hb.mono b2.size)⟩

set_option maxRecDepth 100000 in
set_option maxHeartbeats 2000000 in
theorem rearliest_any (p : Option Addr) (cap : Nat) (l : List (Int × Int)) (x n : Int) (w : World) (hS : ShAt w w.heap.size p l) (hlen : l.length ≤ 10000) (hbd : Bd l) (x0 : -9223372036854775808 ≤ x) (x1 : x ≤ 9223372036854775807) (n1 : n ≤ 9223372036854775807) :
    Calls Try.prog 29 #[.slice p l.length cap, iv x, iv n] w fun e w' => e = .returned (.tuple #[iv (earlZ l x n).1, .bool (earlZ l x n).2]) ∧ Below w.heap.size w w' := by
  unfold earlZ
  by_cases hn0 : n ≤ 0
  · rw [if_pos hn0]
    clear hS
    go_enter Try.func29, Try.ntmps29
    go_wp2_with fail
    go_ret2
    exact ⟨rfl, Below.refl _ _⟩
  · rw [if_neg hn0]
    have hn := rnorm_any p cap l w hS hlen
    have hml := nrm_len l
    have hasc := nrmZ_asc l
    have hbn := hbd.nrm
    generalize nrmZ l = M at hn hml hasc hbn ⊢
    obtain ⟨V, hV⟩ : ∃ V, earlN M x n = V := ⟨_, rfl⟩
    rw [hV]
    obtain ⟨m, hm⟩ : ∃ m, M.length = m := ⟨_, rfl⟩
    have HV := Lib.hid hV
    have HA := Lib.hid hasc
    have HB := Lib.hid hbn
    have HM := Lib.hid hm
    have hm5 : m ≤ 100000 := by omega
    have hnu : IntKind.u64.wrap n = n := u64 (by omega) (by omega)
    have hd0 : decide (n ≤ 0) = false := by simpa using hn0
    clear hV hasc hbn hS hbd hml
    obtain ⟨V1, V2⟩ := V
    dsimp only
    go_enter Try.func29, Try.ntmps29
    go_wp2_with fail
    refine hn.mono ?_
    rintro e w2 ⟨p2, c2, rfl, hS2, b2⟩
    rw [hm]
    clear hm hn
    go_wp2_with fail
    go_loopw [9] (fun s wr => ∃ k : Nat, s = .int .i64 k ∧ k ≤ m ∧ Below w2.heap.size w2 wr ∧ ∀ i, i < k → fitB x n (M.getD i (0, 0)) = false) (fun s _ => m - (intOf s).toNat)
    case atStart => exact ⟨0, rfl, Nat.zero_le _, Below.refl _ _, fun i hi => by omega⟩
    case round =>
      obtain ⟨k, rfl, hk, hb, hall⟩ := hrel
      have HH := Lib.hid hall; clear hall
      have hmm := HM.out
      by_cases hlt : k < m
      · obtain ⟨b', o, rfl, hbl, q0, q1⟩ := (hS2.below hb) k (by omega)
        have hsz := hb.size
        have hbx := HB.out.getD (i := k) (by omega)
        obtain ⟨X, hX⟩ : ∃ X, M.getD k (0, 0) = X := ⟨_, rfl⟩
        rw [hX] at q0 q1 hbx
        have HX := Lib.hid hX
        obtain ⟨a, b⟩ := X
        dsimp only at q0 q1 hbx
        have hidx : (k : Int) * 2 = ((k * 2 : Nat) : Int) := by omega
        have HS2 := Lib.hid hS2
        clear hX hmm hS2
        obtain ⟨a0, a1, b0, b1⟩ := hbx
        obtain ⟨f, hf⟩ : ∃ f, max a x = f := ⟨_, rfl⟩
        have f0 : -9223372036854775808 ≤ f := by omega
        have f1 : f ≤ 9223372036854775807 := by omega
        obtain ⟨d, hd⟩ : ∃ d, b - f = d := ⟨_, rfl⟩
        have hwr : f < b → IntKind.u64.wrap (IntKind.u64.wrap b - IntKind.u64.wrap f) = d := fun h => by
          rw [← hd]; simp [IntKind.wrap, IntKind.bits, IntKind.signed]; omega
        have HW := Lib.hid hwr
        have HF := Lib.hid hf
        have HD := Lib.hid hd
        clear hwr hd
        by_cases hE : f < b
        · have d1 : decide (f < b) = true := by simpa using hE
          have hwr := HW.out hE
          by_cases hN : n ≤ d
          · have hyes : (V1, V2) = (f, true) := by
              rw [← HV.out]
              unfold earlN
              have hft : fitB x n (M.getD k (0, 0)) = true := by
                rw [HX.out]
                unfold fitB
                simp only
                rw [HF.out, HD.out, decide_eq_true hE, decide_eq_true hN]; rfl
              rw [find_some (by have := HM.out; omega) hft HH.out, HX.out]
              simp only
              rw [HF.out]
            simp only [Prod.mk.injEq] at hyes
            obtain ⟨rfl, rfl⟩ := hyes
            have d2 : decide (n ≤ d) = true := by simpa using hN
            go_wp2_with fail
            go_ret2
            exact ⟨rfl, b2.trans (hb.mono b2.size)⟩
          · have d2 : decide (n ≤ d) = false := by simpa using hN
            have hP : fitB x n (a, b) = false := by
              unfold fitB
              simp only
              rw [HF.out, HD.out, d2, Bool.and_false]
            have HP := Lib.hid hP
            clear hP
            go_wp2_with fail
            refine ⟨⟨k + 1, by go_num, by omega, hb, fun i hi => ?_⟩, by simp [intOf] <;> omega⟩
            rcases (by omega : i < k ∨ i = k) with h | rfl
            · exact HH.out i h
            · rw [HX.out]; exact HP.out
        · have d1 : decide (f < b) = false := by simpa using hE
          have hP : fitB x n (a, b) = false := by
            unfold fitB
            simp only
            rw [HF.out, d1, Bool.false_and]
          have HP := Lib.hid hP
          clear hP
          go_wp2_with fail
          refine ⟨⟨k + 1, by go_num, by omega, hb, fun i hi => ?_⟩, by simp [intOf] <;> omega⟩
          rcases (by omega : i < k ∨ i = k) with h | rfl
          · exact HH.out i h
          · rw [HX.out]; exact HP.out
      · obtain rfl : k = m := by omega
        have hno : (V1, V2) = ((0 : Int), false) := by
          rw [← HV.out]
          unfold earlN
          rw [find_none (fun i hi => HH.out i (by omega))]
        simp only [Prod.mk.injEq] at hno
        obtain ⟨rfl, rfl⟩ := hno
        go_wp2_with fail
        go_ret2
        exact ⟨rfl, b2.trans (hb.mono b2.size)⟩
end Go.Proofs.Ytjocgipjmcnjfaa

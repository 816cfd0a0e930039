/- Earliest, Total. -/
import Derived.Test.YtjocgipjmcnjfaaSpQuery
namespace Go.Proofs.Ytjocgipjmcnjfaa
open Go.RowKit

theorem u64 {n : Int} (h1 : 0 ≤ n) (h2 : n ≤ 18446744073709551615) : IntKind.u64.wrap n = n := by
  simp [IntKind.wrap, IntKind.bits, IntKind.signed]; omega
theorem Bd.getD {l : List (Int × Int)} (h : Bd l) {i : Nat} (hi : i < l.length) : -9223372036854775808 ≤ (l.getD i (0, 0)).1 ∧ (l.getD i (0, 0)).1 ≤ 9223372036854775807 ∧ -9223372036854775808 ≤ (l.getD i (0, 0)).2 ∧ (l.getD i (0, 0)).2 ≤ 9223372036854775807 := by
  rw [getD_at hi]; exact h _ (List.getElem_mem hi)

set_option maxRecDepth 100000 in
set_option maxHeartbeats 2000000 in
theorem total_any (p : Option Addr) (cap : Nat) (l : List (Int × Int)) (w : World) (hS : ShAt w w.heap.size p l) (hlen : l.length ≤ 100000) (hbd : Bd l) :
    Calls Try.prog 20 #[.slice p l.length cap] w fun e w' => e = .returned (iv (totZ l)) ∧ Below w.heap.size w w' := by
  have hn := norm_any p cap l w hS hlen
  have hml := nrm_len l
  have hasc := nrmZ_asc l
  have hbn := hbd.nrm
  unfold totZ
  generalize nrmZ l = M at hn hml hasc hbn ⊢
  obtain ⟨V, hV⟩ : ∃ V, sumZ M = V := ⟨_, rfl⟩
  rw [hV]
  have hVb : 0 ≤ V ∧ V ≤ 18446744073709551615 := by
    have := sumZ_le M (-9223372036854775808) 9223372036854775807 hasc (by omega) (fun s hs => by have := hbn s hs; omega)
    omega
  obtain ⟨m, hm⟩ : ∃ m, M.length = m := ⟨_, rfl⟩
  have HV := Lib.hid hV
  have HA := Lib.hid hasc
  have HB := Lib.hid hbn
  have HM := Lib.hid hm
  have hm5 : m ≤ 100000 := by omega
  obtain ⟨v0, v1⟩ := hVb
  clear hV hasc hbn hS hbd hml
  go_enter Try.func20, Try.ntmps20
  go_wp2_with fail
  refine hn.mono ?_
  rintro e w2 ⟨p2, c2, rfl, hS2, b2⟩
  rw [hm]
  clear hm hn
  go_wp2_with fail
  go_loopw [3, 9] (fun s3 s wr => ∃ k : Nat, s3 = .int .u64 (sumZ (M.take k)) ∧ s = .int .i64 k ∧ k ≤ m ∧ Below w2.heap.size w2 wr) (fun _ s _ => m - (intOf s).toNat)
  case atStart => exact ⟨0, rfl, rfl, Nat.zero_le _, Below.refl _ _⟩
  case round =>
    obtain ⟨k, rfl, rfl, hk, hb⟩ := hrel
    have hmm := HM.out
    by_cases hlt : k < m
    · obtain ⟨b', o, rfl, hbl, q0, q1⟩ := (hS2.below hb) k (by omega)
      have hsz := hb.size
      have hbx := HB.out.getD (i := k) (by omega)
      have hlt2 := HA.out.1 _ (List.getElem_mem (show k < M.length by omega))
      have hst : M.take (k + 1) = M.take k ++ [M.getD k (0, 0)] := by rw [List.take_succ_eq_append_getElem (by omega), getD_at (by omega)]
      have hsum := sumZ_snoc (M.take k) (M.getD k (0, 0))
      rw [← hst] at hsum
      have bd1 := sumZ_le (M.take k) (-9223372036854775808) 9223372036854775807 (HA.out.take k) (by omega) (fun s hs => by have := HB.out s (List.mem_of_mem_take hs); omega)
      have bd2 := sumZ_le (M.take (k + 1)) (-9223372036854775808) 9223372036854775807 (HA.out.take (k + 1)) (by omega) (fun s hs => by have := HB.out s (List.mem_of_mem_take hs); omega)
      rw [← getD_at (by omega)] at hlt2
      obtain ⟨X, hX⟩ : ∃ X, M.getD k (0, 0) = X := ⟨_, rfl⟩
      rw [hX] at q0 q1 hbx hlt2 hsum
      obtain ⟨x, y⟩ := X
      dsimp only at q0 q1 hbx hlt2 hsum
      generalize hs1 : sumZ (M.take k) = S1 at hsum bd1 ⊢
      have HS2 := Lib.hid hs1
      generalize hs2 : sumZ (M.take (k + 1)) = S2 at hsum bd2
      have HS3 := Lib.hid hs2
      obtain ⟨x0, x1, y0, y1⟩ := hbx
      have hsz2 := fun W => size_any x y W x0 y1 (by omega)
      obtain ⟨d, hd⟩ : ∃ d, y - x = d := ⟨_, rfl⟩
      rw [hd] at hsz2 hsum
      have hwr : IntKind.u64.wrap (S1 + d) = S2 := by rw [← hsum]; exact u64 (by omega) (by omega)
      have hidx : (k : Int) * 2 = ((k * 2 : Nat) : Int) := by omega
      have HS5 := Lib.hid hS2
      clear hX hst hs1 hs2 hmm hS2 x0 x1 y0 y1 bd1 bd2 hd hsum hlt2
      go_wp2_with fail
      obtain ⟨W1, hW1, b1, z1, ka⟩ := boxS wr x y
      rw [hW1]; clear hW1
      refine (hsz2 _).mono ?_
      rintro e w6 ⟨rfl, b6⟩
      go_wp2_with fail
      exact ⟨⟨k + 1, by rw [HS3.out], by go_num, by omega, (hb.trans (b1.mono hsz)).trans (b6.mono (by omega))⟩, by simp [intOf] <;> omega⟩
    · obtain rfl : k = m := by omega
      have hfin : sumZ (M.take k) = V := by rw [List.take_of_length_le (by omega)]; exact HV.out
      rw [hfin]
      clear hfin hmm hS2
      obtain ⟨r, hr⟩ : ∃ r, min V 4611686018427387903 = r := ⟨_, rfl⟩
      have hr0 : 0 ≤ r := by omega
      have hr1 : r ≤ 4611686018427387903 := by omega
      have hw := w64 (n := r) (by omega) (by omega)
      go_wp2_with fail
      go_ret
      exact ⟨by rw [hr]; rfl, b2.trans (hb.mono b2.size)⟩

set_option maxRecDepth 100000 in
set_option maxHeartbeats 2000000 in
theorem earliest_any (p : Option Addr) (cap : Nat) (l : List (Int × Int)) (x n : Int) (w : World) (hS : ShAt w w.heap.size p l) (hlen : l.length ≤ 100000) (hbd : Bd l) (x0 : -9223372036854775808 ≤ x) (x1 : x ≤ 9223372036854775807) (n1 : n ≤ 9223372036854775807) :
    Calls Try.prog 28 #[.slice p l.length cap, iv x, iv n] w fun e w' => e = .returned (.tuple #[iv (earlZ l x n).1, .bool (earlZ l x n).2]) ∧ Below w.heap.size w w' := by
  unfold earlZ
  by_cases hn0 : n ≤ 0
  · rw [if_pos hn0]
    clear hS
    go_enter Try.func28, Try.ntmps28
    go_wp2_with fail
    go_ret2
    exact ⟨rfl, Below.refl _ _⟩
  · rw [if_neg hn0]
    have hn := norm_any p cap l w hS hlen
    have hml := nrm_len l
    have hasc := nrmZ_asc l
    have hbn := hbd.nrm
    generalize nrmZ l = M at hn hml hasc hbn ⊢
    obtain ⟨V, hV⟩ : ∃ V, earlN M x n = V := ⟨_, rfl⟩
    rw [hV]
    obtain ⟨m, hm⟩ : ∃ m, M.length = m := ⟨_, rfl⟩
    have HV := Lib.hid hV
    have HA := Lib.hid hasc
    have HB := Lib.hid hbn
    have HM := Lib.hid hm
    have hm5 : m ≤ 100000 := by omega
    have hnu : IntKind.u64.wrap n = n := u64 (by omega) (by omega)
    have hd0 : decide (n ≤ 0) = false := by simpa using hn0
    clear hV hasc hbn hS hbd hml
    obtain ⟨V1, V2⟩ := V
    dsimp only
    go_enter Try.func28, Try.ntmps28
    go_wp2_with fail
    refine hn.mono ?_
    rintro e w2 ⟨p2, c2, rfl, hS2, b2⟩
    rw [hm]
    clear hm hn
    go_wp2_with fail
    go_loopw [17] (fun s wr => ∃ k : Nat, s = .int .i64 k ∧ k ≤ m ∧ Below w2.heap.size w2 wr ∧ ∀ i, i < k → fitB x n (M.getD i (0, 0)) = false) (fun s _ => m - (intOf s).toNat)
    case atStart => exact ⟨0, rfl, Nat.zero_le _, Below.refl _ _, fun i hi => by omega⟩
    case round =>
      obtain ⟨k, rfl, hk, hb, hall⟩ := hrel
      have HH := Lib.hid hall; clear hall
      have hmm := HM.out
      by_cases hlt : k < m
      · obtain ⟨b', o, rfl, hbl, q0, q1⟩ := (hS2.below hb) k (by omega)
        have hsz := hb.size
        have hbx := HB.out.getD (i := k) (by omega)
        obtain ⟨X, hX⟩ : ∃ X, M.getD k (0, 0) = X := ⟨_, rfl⟩
        rw [hX] at q0 q1 hbx
        have HX := Lib.hid hX
        obtain ⟨a, b⟩ := X
        dsimp only at q0 q1 hbx
        have hidx : (k : Int) * 2 = ((k * 2 : Nat) : Int) := by omega
        have HS2 := Lib.hid hS2
        clear hX hmm hS2
        obtain ⟨a0, a1, b0, b1⟩ := hbx
        obtain ⟨f, hf⟩ : ∃ f, max a x = f := ⟨_, rfl⟩
        have f0 : -9223372036854775808 ≤ f := by omega
        have f1 : f ≤ 9223372036854775807 := by omega
        have hem := fun W => isEmpty_any f b W
        go_wp2_with fail
        obtain ⟨W1, hW1, c1', z1, kf⟩ : ∃ W1, (wr.alloc (.cells #[iv a, iv b] 30)).alloc (.cells #[iv f, iv b] 30) = W1 ∧ Below wr.heap.size wr W1 ∧ W1.heap.size = wr.heap.size + 2 ∧ Arr W1 (wr.heap.size + 1) 30 [iv f, iv b] :=
          ⟨_, rfl, ((Below.refl _ wr).alloc (Nat.le_refl _) _).alloc (by simp) _, by simp, Arr.new' _ [iv f, iv b] (by simp)⟩
        rw [hW1]; clear hW1
        have hbW := hb.trans (c1'.mono hsz)
        refine (hem _).mono ?_
        rintro e w6 ⟨rfl, b6⟩
        have hb6 := hbW.trans (b6.mono (by omega))
        have kf6 := kf.below b6 (by omega)
        have g0 := kf6.cell (i := 0) rfl
        have g1 := kf6.cell (i := 1) rfl
        have z6 := b6.size
        by_cases hE : b ≤ f
        · have d1 : decide (b ≤ f) = true := by simpa using hE
          have hP : fitB x n (a, b) = false := by
            unfold fitB
            rw [decide_eq_false (by simp only; omega), Bool.false_and]
          have HP := Lib.hid hP
          clear hem hP hf
          rw [d1]
          go_wp2_with fail
          refine ⟨⟨k + 1, by go_num, by omega, hb6, fun i hi => ?_⟩, by simp [intOf] <;> omega⟩
          rcases (by omega : i < k ∨ i = k) with h | rfl
          · exact HH.out i h
          · rw [HX.out]; exact HP.out
        · have d1 : decide (b ≤ f) = false := by simpa using hE
          have hsz2 := fun W => size_any f b W f0 b1 (by omega)
          obtain ⟨d, hd⟩ : ∃ d, b - f = d := ⟨_, rfl⟩
          rw [hd] at hsz2
          have hfb : decide ((a, b).2 ≤ f) = false := d1
          by_cases hN : n ≤ d
          · have hyes : (V1, V2) = (f, true) := by
              rw [← HV.out]
              unfold earlN
              have hft : fitB x n (M.getD k (0, 0)) = true := by
                rw [HX.out]
                unfold fitB
                simp only
                rw [hf, decide_eq_true (by omega), decide_eq_true (by omega)]; rfl
              rw [find_some (by have := HM.out; omega) hft HH.out, HX.out]
              simp only
              rw [hf]
            simp only [Prod.mk.injEq] at hyes
            obtain ⟨rfl, rfl⟩ := hyes
            have d2 : decide (n ≤ d) = true := by simpa using hN
            clear hem hf hd hfb
            rw [d1]
            go_wp2_with fail
            refine (hsz2 _).mono ?_
            rintro e w7 ⟨rfl, b7⟩
            have kf7 := kf6.below b7 (by omega)
            have g0 := kf7.cell (i := 0) rfl
            have g1 := kf7.cell (i := 1) rfl
            go_wp2_with fail
            go_ret2
            exact ⟨rfl, b2.trans ((hb6.trans (b7.mono (by omega))).mono b2.size)⟩
          · have d2 : decide (n ≤ d) = false := by simpa using hN
            have hP : fitB x n (a, b) = false := by
              unfold fitB
              simp only
              rw [hf, decide_eq_false (show ¬ n ≤ b - f by omega), Bool.and_false]
            have HP := Lib.hid hP
            clear hem hf hd hfb hP
            rw [d1]
            go_wp2_with fail
            refine (hsz2 _).mono ?_
            rintro e w7 ⟨rfl, b7⟩
            go_wp2_with fail
            refine ⟨⟨k + 1, by go_num, by omega, hb6.trans (b7.mono (by omega)), fun i hi => ?_⟩, by simp [intOf] <;> omega⟩
            rcases (by omega : i < k ∨ i = k) with h | rfl
            · exact HH.out i h
            · rw [HX.out]; exact HP.out
      · obtain rfl : k = m := by omega
        have hno : (V1, V2) = ((0 : Int), false) := by
          rw [← HV.out]
          unfold earlN
          rw [find_none (fun i hi => HH.out i (by omega))]
        simp only [Prod.mk.injEq] at hno
        obtain ⟨rfl, rfl⟩ := hno
        go_wp2_with fail
        go_ret2
        exact ⟨rfl, b2.trans (hb.mono b2.size)⟩
end Go.Proofs.Ytjocgipjmcnjfaa

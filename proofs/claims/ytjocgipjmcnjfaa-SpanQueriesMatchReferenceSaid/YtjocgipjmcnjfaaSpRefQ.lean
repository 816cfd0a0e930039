/- The reference: Valid, Has, Covers, Earliest, Total. -/
import Derived.Test.YtjocgipjmcnjfaaSpRefN
import Derived.Test.YtjocgipjmcnjfaaSpQuery2
namespace Go.Proofs.Ytjocgipjmcnjfaa
open Go.RowKit

set_option maxRecDepth 100000 in
set_option maxHeartbeats 2000000 in
theorem rvalid_any (p : Option Addr) (cap : Nat) (l : List (Int × Int)) (w : World) (hS : ShAt w w.heap.size p l) (hlen : l.length ≤ 100000) :
    Calls Try.prog 17 #[.slice p l.length cap] w fun e w' => e = .returned (.bool (ascB l)) ∧ Below w.heap.size w w' := by
  obtain ⟨V, hV⟩ : ∃ V, ascB l = V := ⟨_, rfl⟩
  rw [hV]
  have HV := Lib.hid hV; clear hV
  obtain ⟨m, hm⟩ : ∃ m, l.length = m := ⟨_, rfl⟩
  have HM := Lib.hid hm
  rw [hm] at hlen ⊢
  clear hm
  go_enter Try.func17, Try.ntmps17
  go_wp2_with fail
  go_loopw [3] (fun s wr => ∃ k : Nat, s = .int .i64 k ∧ k ≤ m ∧ Below w.heap.size w wr ∧ ∀ i, i < k → okAt l i) (fun s _ => m - (intOf s).toNat)
  case atStart => exact ⟨0, rfl, Nat.zero_le _, Below.refl _ _, fun i hi => by omega⟩
  case round =>
    obtain ⟨k, rfl, hk, hb, hall⟩ := hrel
    have HA := Lib.hid hall; clear hall
    have hmm := HM.out
    by_cases hlt : k < m
    · obtain ⟨b, o, rfl, hbl, q0, q1⟩ := (hS.below hb) k (by omega)
      have hsz := hb.size
      obtain ⟨x, hx⟩ : ∃ x, (l.getD k (0, 0)).1 = x := ⟨_, rfl⟩
      obtain ⟨y, hy⟩ : ∃ y, (l.getD k (0, 0)).2 = y := ⟨_, rfl⟩
      rw [hx] at q0; rw [hy] at q1
      have hidx : (k : Int) * 2 = ((k * 2 : Nat) : Int) := by omega
      have HX := Lib.hid hx
      have HY := Lib.hid hy
      have HS := Lib.hid hS
      clear hx hy hS
      by_cases h1 : y ≤ x
      · have hno : V = false := by
          rw [← HV.out]
          exact ascB_no (i := k) (by have := HM.out; omega) (fun h => by have := h.1; rw [HX.out, HY.out] at this; omega)
        subst hno
        have d1 : decide (y ≤ x) = true := by simpa using h1
        clear hmm
        go_wp2_with fail
        go_quiet (fail)
        have hbq := hb.trans ((below_drewN (Below.refl wr.heap.size wr) nq).mono hsz)
        generalize wr.drewN nq = W2 at hbq ⊢
        go_wp2_with fail
        go_ret
        exact ⟨rfl, hbq⟩
      · have d1 : decide (y ≤ x) = false := by simpa using h1
        by_cases h0 : k = 0
        · have d0 : decide ((0 : Int) < (k : Int)) = false := by simp; omega
          have d0' : decide (0 < k) = false := by simp; omega
          have H0 := Lib.hid h0
          clear hmm h0
          go_wp2_with fail
          go_quiet (fail)
          have hbq := hb.trans ((below_drewN (Below.refl wr.heap.size wr) nq).mono hsz)
          generalize wr.drewN nq = W2 at hbq ⊢
          go_wp2_with fail
          refine ⟨⟨k + 1, by go_num, by omega, hbq, fun i hi => ?_⟩, by simp [intOf] <;> omega⟩
          obtain rfl : i = k := by have := H0.out; omega
          exact ⟨by rw [HX.out, HY.out]; omega, fun h => by have := H0.out; omega⟩
        · obtain ⟨j, rfl⟩ : ∃ j, k = j + 1 := ⟨k - 1, by omega⟩
          obtain ⟨b', o', hp', hbl', r0, r1⟩ := (HS.out.below hb) j (by omega)
          simp only [Option.some.injEq, Addr.mk.injEq] at hp'
          obtain ⟨rfl, rfl, -⟩ := hp'
          obtain ⟨z, hz⟩ : ∃ z, (l.getD j (0, 0)).2 = z := ⟨_, rfl⟩
          rw [hz] at r1
          have HZ := Lib.hid hz
          have e1 : ((j + 1 : Nat) : Int) - 1 = (j : Int) := by omega
          have e2 : (j : Int) * 2 = ((j * 2 : Nat) : Int) := by omega
          have w1' : IntKind.i64.wrap (((j + 1 : Nat) : Int) - 1) = (j : Int) := by rw [e1]; exact w64 (by omega) (by omega)
          have i0 : (0 : Int) < ((j + 1 : Nat) : Int) := by omega
          have i1 : (j : Int) < (m : Int) := by omega
          clear hz r0 hmm
          by_cases h2 : x ≤ z
          · have hno : V = false := by
              rw [← HV.out]
              exact ascB_no (i := j + 1) (by have := HM.out; omega) (fun h => by have := h.2 (by omega); simp only [Nat.add_sub_cancel] at this; rw [HX.out, HZ.out] at this; omega)
            subst hno
            have d2 : decide (x ≤ z) = true := by simpa using h2
            go_wp2_with fail
            go_quiet (fail)
            have hbq := hb.trans ((below_drewN (Below.refl wr.heap.size wr) nq).mono hsz)
            generalize wr.drewN nq = W2 at hbq ⊢
            go_wp2_with fail
            go_ret
            exact ⟨rfl, hbq⟩
          · have d2 : decide (x ≤ z) = false := by simpa using h2
            go_wp2_with fail
            go_quiet (fail)
            have hbq := hb.trans ((below_drewN (Below.refl wr.heap.size wr) nq).mono hsz)
            generalize wr.drewN nq = W2 at hbq ⊢
            go_wp2_with fail
            refine ⟨⟨j + 1 + 1, by go_num, by omega, hbq, fun i hi => ?_⟩, by simp [intOf] <;> omega⟩
            rcases (by omega : i < j + 1 ∨ i = j + 1) with h | rfl
            · exact HA.out i h
            · exact ⟨by rw [HX.out, HY.out]; omega, fun h => by simp only [Nat.add_sub_cancel]; rw [HX.out, HZ.out]; omega⟩
    · obtain rfl : k = m := by omega
      have hyes : V = true := by rw [← HV.out]; exact ascB_yes (by rw [hmm]; exact HA.out)
      subst hyes
      clear hmm hS
      go_wp2_with fail
      go_ret
      exact ⟨rfl, hb⟩

set_option maxRecDepth 100000 in
set_option maxHeartbeats 2000000 in
theorem rhas_any (p : Option Addr) (cap : Nat) (l : List (Int × Int)) (x : Int) (w : World) (hS : ShAt w w.heap.size p l) (hlen : l.length ≤ 100000) :
    Calls Try.prog 31 #[.slice p l.length cap, iv x] w fun e w' => e = .returned (.bool (hasZ l x)) ∧ Below w.heap.size w w' := by
  unfold hasZ
  obtain ⟨V, hV⟩ : ∃ V, (l.any fun s => inS s x) = V := ⟨_, rfl⟩
  rw [hV]
  have HV := Lib.hid hV; clear hV
  obtain ⟨m, hm⟩ : ∃ m, l.length = m := ⟨_, rfl⟩
  have HM := Lib.hid hm
  rw [hm] at hlen ⊢
  clear hm
  go_enter Try.func31, Try.ntmps31
  go_wp2_with fail
  go_loopw [5] (fun s wr => ∃ k : Nat, s = .int .i64 k ∧ k ≤ m ∧ Below w.heap.size w wr ∧ ∀ i, i < k → inS (l.getD i (0, 0)) x = false) (fun s _ => m - (intOf s).toNat)
  case atStart => exact ⟨0, rfl, Nat.zero_le _, Below.refl _ _, fun i hi => by omega⟩
  case round =>
    obtain ⟨k, rfl, hk, hb, hall⟩ := hrel
    have HA := Lib.hid hall; clear hall
    have hmm := HM.out
    by_cases hlt : k < m
    · obtain ⟨b, o, rfl, hbl, q0, q1⟩ := (hS.below hb) k (by omega)
      obtain ⟨X, hX⟩ : ∃ X, l.getD k (0, 0) = X := ⟨_, rfl⟩
      rw [hX] at q0 q1
      have HX := Lib.hid hX
      obtain ⟨a, c⟩ := X
      dsimp only at q0 q1
      have hidx : (k : Int) * 2 = ((k * 2 : Nat) : Int) := by omega
      have HS := Lib.hid hS
      clear hX hS hmm
      by_cases h1 : a ≤ x
      · have d1 : decide (a ≤ x) = true := by simpa using h1
        by_cases h2 : x < c
        · have d2 : decide (x < c) = true := by simpa using h2
          have hyes : V = true := by
            rw [← HV.out]
            exact any_yes (i := k) (by have := HM.out; omega) (by rw [HX.out]; exact inS_iff.2 ⟨h1, h2⟩)
          subst hyes
          go_wp2_with fail
          go_ret
          exact ⟨rfl, hb⟩
        · have d2 : decide (x < c) = false := by simpa using h2
          go_wp2_with fail
          refine ⟨⟨k + 1, by go_num, by omega, hb, fun i hi => ?_⟩, by simp [intOf] <;> omega⟩
          rcases (by omega : i < k ∨ i = k) with h | rfl
          · exact HA.out i h
          · rw [HX.out, ← Bool.not_eq_true, inS_iff]; simp only; omega
      · have d1 : decide (a ≤ x) = false := by simpa using h1
        go_wp2_with fail
        refine ⟨⟨k + 1, by go_num, by omega, hb, fun i hi => ?_⟩, by simp [intOf] <;> omega⟩
        rcases (by omega : i < k ∨ i = k) with h | rfl
        · exact HA.out i h
        · rw [HX.out, ← Bool.not_eq_true, inS_iff]; simp only; omega
    · obtain rfl : k = m := by omega
      have hno : V = false := by
        rw [← HV.out]
        exact any_no fun i hi => HA.out i (by omega)
      subst hno
      clear hmm hS
      go_wp2_with fail
      go_ret
      exact ⟨rfl, hb⟩

set_option maxRecDepth 100000 in
set_option maxHeartbeats 2000000 in
theorem rcovers_any (p : Option Addr) (cap : Nat) (l : List (Int × Int)) (a b : Int) (w : World) (hS : ShAt w w.heap.size p l) (hlen : l.length ≤ 10000) :
    Calls Try.prog 33 #[.slice p l.length cap, .agg #[iv a, iv b]] w fun e w' => e = .returned (.bool (covZ l (a, b))) ∧ Below w.heap.size w w' := by
  have hn := fun W (hb : Below w.heap.size w W) => rnorm_any p cap l W (hS.into hb) hlen
  have hml := nrm_len l
  obtain ⟨W0, hW0, b0, z0, ka⟩ := boxS w a b
  have c0 := ka.cell (i := 0) rfl
  have c1 := ka.cell (i := 1) rfl
  have hwl : w.heap.size < W0.heap.size := by omega
  unfold covZ
  generalize nrmZ l = M at hn hml ⊢
  obtain ⟨V, hV⟩ : ∃ V, (decide ((a, b).2 ≤ (a, b).1) || M.any (covB (a, b))) = V := ⟨_, rfl⟩
  rw [hV]
  have HV := Lib.hid hV
  clear hV hS
  go_enter Try.func33, Try.ntmps33
  go_wp2_with fail
  try rw [hW0]
  clear hW0
  refine (hn _ b0).mono ?_
  rintro e w2 ⟨p2, c2, rfl, hS2, b2⟩
  have b02 := bthen b0 b2
  have kb := ka.below b2 hwl
  obtain ⟨B, hB⟩ : ∃ B, w.heap.size = B := ⟨_, rfl⟩
  rw [hB] at kb hwl
  obtain ⟨m, hm⟩ : ∃ m, M.length = m := ⟨_, rfl⟩
  rw [hm]
  have HM := Lib.hid hm
  have hm5 : m ≤ 100000 := by omega
  have hBl := kb.lt
  clear hm hml hn ka c0 c1 b0 b2 hlen
  rw [hB]
  go_wp2_with fail
  go_loopw [6] (fun s wr => ∃ k : Nat, s = .int .i64 k ∧ k ≤ m ∧ Below w2.heap.size w2 wr ∧ ∀ i, i < k → covB (a, b) (M.getD i (0, 0)) = false) (fun s _ => m - (intOf s).toNat)
  case atStart => exact ⟨0, rfl, Nat.zero_le _, Below.refl _ _, fun i hi => by omega⟩
  case round =>
    obtain ⟨k, rfl, hk, hb, hall⟩ := hrel
    have HH := Lib.hid hall; clear hall
    have hmm := HM.out
    have kr := kb.below hb hBl
    have c0 := kr.cell (i := 0) rfl
    have c1 := kr.cell (i := 1) rfl
    have hsz := hb.size
    by_cases hlt : k < m
    · obtain ⟨b', o, rfl, hbl, q0, q1⟩ := (hS2.below hb) k (by omega)
      obtain ⟨X, hX⟩ : ∃ X, M.getD k (0, 0) = X := ⟨_, rfl⟩
      rw [hX] at q0 q1
      have HX := Lib.hid hX
      obtain ⟨x, y⟩ := X
      dsimp only at q0 q1
      have hidx : (k : Int) * 2 = ((k * 2 : Nat) : Int) := by omega
      have HS2 := Lib.hid hS2
      clear hX hmm hS2
      by_cases h1 : x ≤ a
      · have d1 : decide (x ≤ a) = true := by simpa using h1
        by_cases h2 : b ≤ y
        · have d2 : decide (b ≤ y) = true := by simpa using h2
          have hyes : V = true := by
            rw [← HV.out, any_yes (i := k) (by have := HM.out; omega) (by rw [HX.out]; unfold covB; simp only; rw [d1, d2]; rfl), Bool.or_true]
          subst hyes
          go_wp2_with fail
          go_quiet (fail)
          have hbq := hb.trans ((below_drewN (Below.refl wr.heap.size wr) nq).mono hsz)
          generalize wr.drewN nq = W2 at hbq ⊢
          go_wp2_with fail
          go_ret
          exact ⟨rfl, b02.trans (hbq.mono (by have := b02.size; omega))⟩
        · have d2 : decide (b ≤ y) = false := by simpa using h2
          go_wp2_with fail
          go_quiet (fail)
          have hbq := hb.trans ((below_drewN (Below.refl wr.heap.size wr) nq).mono hsz)
          generalize wr.drewN nq = W2 at hbq ⊢
          go_wp2_with fail
          refine ⟨⟨k + 1, by go_num, by omega, hbq, fun i hi => ?_⟩, by simp [intOf] <;> omega⟩
          rcases (by omega : i < k ∨ i = k) with h | rfl
          · exact HH.out i h
          · rw [HX.out]; unfold covB; simp only; rw [d2, Bool.and_false]
      · have d1 : decide (x ≤ a) = false := by simpa using h1
        go_wp2_with fail
        go_quiet (fail)
        have hbq := hb.trans ((below_drewN (Below.refl wr.heap.size wr) nq).mono hsz)
        generalize wr.drewN nq = W2 at hbq ⊢
        go_wp2_with fail
        refine ⟨⟨k + 1, by go_num, by omega, hbq, fun i hi => ?_⟩, by simp [intOf] <;> omega⟩
        rcases (by omega : i < k ∨ i = k) with h | rfl
        · exact HH.out i h
        · rw [HX.out]; unfold covB; simp only; rw [d1, Bool.false_and]
    · obtain rfl : k = m := by omega
      have hno : V = decide (b ≤ a) := by
        rw [← HV.out, any_no fun i hi => HH.out i (by omega), Bool.or_false]
      have HNo := Lib.hid hno
      clear hno hmm hS2
      go_wp2_with fail
      go_ret
      exact ⟨by rw [HNo.out]; rfl, b02.trans (hb.mono (by have := b02.size; omega))⟩

set_option maxRecDepth 100000 in
set_option maxHeartbeats 2000000 in
theorem rsize_any (a b : Int) (w : World) (ha : -9223372036854775808 ≤ a) (hb : b ≤ 9223372036854775807) (hab : a < b) :
    Calls Try.prog 47 #[.agg #[iv a, iv b]] w fun e w' => e = .returned (iv (min (b - a) 4611686018427387903)) ∧ Below w.heap.size w w' := by
  have d1 : decide (b ≤ a) = false := by simpa using hab
  have hb1 : Below w.heap.size w (w.alloc (.cells #[iv a, iv b] 30)) := (Below.refl _ w).alloc (Nat.le_refl _) _
  obtain ⟨d, hd⟩ : ∃ d, b - a = d := ⟨_, rfl⟩
  have hwr : IntKind.u64.wrap (IntKind.u64.wrap b - IntKind.u64.wrap a) = d := by
    rw [← hd]; simp [IntKind.wrap, IntKind.bits, IntKind.signed]; omega
  have hd0 : 0 < d := by omega
  have hd1 : d ≤ 18446744073709551615 := by omega
  rw [hd]
  by_cases hc : 4611686018427387903 < d
  · have d2 : decide (4611686018427387903 < d) = true := by simpa using hc
    rw [show min d 4611686018427387903 = 4611686018427387903 by omega]
    clear hd
    go_enter Try.func47, Try.ntmps47
    go_wp2_with fail
    go_ret
    exact ⟨rfl, hb1⟩
  · have d2 : decide (4611686018427387903 < d) = false := by simpa using hc
    rw [show min d 4611686018427387903 = d by omega]
    have hw := w64 (n := d) (by omega) (by omega)
    clear hd
    go_enter Try.func47, Try.ntmps47
    go_wp2_with fail
    go_ret
    exact ⟨rfl, hb1⟩
end Go.Proofs.Ytjocgipjmcnjfaa

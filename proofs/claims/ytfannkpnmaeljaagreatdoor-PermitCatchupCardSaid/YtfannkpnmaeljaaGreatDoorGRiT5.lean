import Derived.Test.YtfannkpnmaeljaaGreatDoorGRiT4
set_option linter.unusedVariables false
set_option linter.unusedSimpArgs false
/- The reference's Valid, kind [1, 2]. -/
namespace Go.Proofs.YtfannkpnmaeljaaGreatDoor
open Go.RowKit

set_option maxRecDepth 100000 in
set_option maxHeartbeats 4000000 in
theorem rvldA (c : Cl) (hk : c.k = 1 ∨ c.k = 2) (w : World) : Calls Tryz.prog 62 #[.agg #[iv c.k, iv c.it, iv c.fr, iv c.to, iv c.rg, iv c.n, iv c.a, iv c.b]] w fun e w' => e = .returned (.bool (vldZ c)) ∧ Below w.heap.size w w' := by
  have hv : vldZ c = (frm c.it 1 4611686018427387903 && frm c.rg 1 255 && decide (0 ≤ c.fr) && decide (c.fr < c.to) && decide (c.to ≤ 10000000000) && (c.n == 0) && (c.a == 0) && (c.b == 0)) := by
    rw [Bool.eq_iff_iff]
    unfold vldZ
    rw [if_pos hk]
    simp [tgt, zer, mnt, frm]
    omega
  have h0 := fun W => within_any c.it 1 4611686018427387903 W
  have p0 : frm c.it 1 4611686018427387903 = true → 1 ≤ c.it ∧ c.it ≤ 4611686018427387903 := fun h => frm_iff.1 h
  have h1 := fun W => within_any c.rg 1 255 W
  have p1 : frm c.rg 1 255 = true → 1 ≤ c.rg ∧ c.rg ≤ 255 := fun h => frm_iff.1 h
  obtain ⟨k, it, fr, to, rg, n, a, b⟩ := c
  simp only at *
  generalize frm it 1 4611686018427387903 = v0 at *
  generalize frm rg 1 255 = v1 at *
  have HV := Lib.hid hv
  clear hv
  generalize vldZ ⟨k, it, fr, to, rg, n, a, b⟩ = V at *
  rcases hk with rfl | rfl
  · cases v0 with
    | false =>
      clear p0
      have HF := Lib.hid (show V = false by rw [HV.out]; simp)
      go_enter Tryz.func62, Tryz.ntmps62
      go_wp2_with (first | (go_at_call 81; with_reducible refine Calls.mono (h0 _) ?_; rintro e w' ⟨rfl, rfl⟩) | (go_at_call 81; with_reducible refine Calls.mono (h1 _) ?_; rintro e w' ⟨rfl, rfl⟩))
      go_ret
      exact ⟨by rw [HF.out]; rfl, (Below.refl _ _).alloc (Nat.le_refl _) _⟩
    | true =>
      clear p0
      cases v1 with
      | false =>
        clear p1
        have HF := Lib.hid (show V = false by rw [HV.out]; simp)
        go_enter Tryz.func62, Tryz.ntmps62
        go_wp2_with (first | (go_at_call 81; with_reducible refine Calls.mono (h0 _) ?_; rintro e w' ⟨rfl, rfl⟩) | (go_at_call 81; with_reducible refine Calls.mono (h1 _) ?_; rintro e w' ⟨rfl, rfl⟩))
        go_ret
        exact ⟨by rw [HF.out]; rfl, (Below.refl _ _).alloc (Nat.le_refl _) _⟩
      | true =>
        clear p1
        by_cases g2 : 0 ≤ fr
        · by_cases g3 : fr < to
          · by_cases g4 : to ≤ 10000000000
            · cases g5 : (n == 0) with
              | false =>
                have HF := Lib.hid (show V = false by rw [HV.out]; simp [g2, g3, g4, g5])
                go_enter Tryz.func62, Tryz.ntmps62
                go_wp2_with (first | (go_at_call 81; with_reducible refine Calls.mono (h0 _) ?_; rintro e w' ⟨rfl, rfl⟩) | (go_at_call 81; with_reducible refine Calls.mono (h1 _) ?_; rintro e w' ⟨rfl, rfl⟩))
                go_ret
                exact ⟨by rw [HF.out]; rfl, (Below.refl _ _).alloc (Nat.le_refl _) _⟩
              | true =>
                cases g6 : (a == 0) with
                | false =>
                  have HF := Lib.hid (show V = false by rw [HV.out]; simp [g2, g3, g4, g5, g6])
                  go_enter Tryz.func62, Tryz.ntmps62
                  go_wp2_with (first | (go_at_call 81; with_reducible refine Calls.mono (h0 _) ?_; rintro e w' ⟨rfl, rfl⟩) | (go_at_call 81; with_reducible refine Calls.mono (h1 _) ?_; rintro e w' ⟨rfl, rfl⟩))
                  go_ret
                  exact ⟨by rw [HF.out]; rfl, (Below.refl _ _).alloc (Nat.le_refl _) _⟩
                | true =>
                  cases g7 : (b == 0) with
                  | false =>
                    have HF := Lib.hid (show V = false by rw [HV.out]; simp [g2, g3, g4, g5, g6, g7])
                    go_enter Tryz.func62, Tryz.ntmps62
                    go_wp2_with (first | (go_at_call 81; with_reducible refine Calls.mono (h0 _) ?_; rintro e w' ⟨rfl, rfl⟩) | (go_at_call 81; with_reducible refine Calls.mono (h1 _) ?_; rintro e w' ⟨rfl, rfl⟩))
                    go_ret
                    exact ⟨by rw [HF.out]; rfl, (Below.refl _ _).alloc (Nat.le_refl _) _⟩
                  | true =>
                    have HF := Lib.hid (show V = true by rw [HV.out]; simp [g2, g3, g4, g5, g6, g7])
                    go_enter Tryz.func62, Tryz.ntmps62
                    go_wp2_with (first | (go_at_call 81; with_reducible refine Calls.mono (h0 _) ?_; rintro e w' ⟨rfl, rfl⟩) | (go_at_call 81; with_reducible refine Calls.mono (h1 _) ?_; rintro e w' ⟨rfl, rfl⟩))
                    go_ret
                    exact ⟨by rw [HF.out]; rfl, (Below.refl _ _).alloc (Nat.le_refl _) _⟩
            · have HF := Lib.hid (show V = false by rw [HV.out]; simp [g2, g3, g4])
              go_enter Tryz.func62, Tryz.ntmps62
              go_wp2_with (first | (go_at_call 81; with_reducible refine Calls.mono (h0 _) ?_; rintro e w' ⟨rfl, rfl⟩) | (go_at_call 81; with_reducible refine Calls.mono (h1 _) ?_; rintro e w' ⟨rfl, rfl⟩))
              go_ret
              exact ⟨by rw [HF.out]; rfl, (Below.refl _ _).alloc (Nat.le_refl _) _⟩
          · have HF := Lib.hid (show V = false by rw [HV.out]; simp [g2, g3])
            go_enter Tryz.func62, Tryz.ntmps62
            go_wp2_with (first | (go_at_call 81; with_reducible refine Calls.mono (h0 _) ?_; rintro e w' ⟨rfl, rfl⟩) | (go_at_call 81; with_reducible refine Calls.mono (h1 _) ?_; rintro e w' ⟨rfl, rfl⟩))
            go_ret
            exact ⟨by rw [HF.out]; rfl, (Below.refl _ _).alloc (Nat.le_refl _) _⟩
        · have HF := Lib.hid (show V = false by rw [HV.out]; simp [g2])
          go_enter Tryz.func62, Tryz.ntmps62
          go_wp2_with (first | (go_at_call 81; with_reducible refine Calls.mono (h0 _) ?_; rintro e w' ⟨rfl, rfl⟩) | (go_at_call 81; with_reducible refine Calls.mono (h1 _) ?_; rintro e w' ⟨rfl, rfl⟩))
          go_ret
          exact ⟨by rw [HF.out]; rfl, (Below.refl _ _).alloc (Nat.le_refl _) _⟩
  · cases v0 with
    | false =>
      clear p0
      have HF := Lib.hid (show V = false by rw [HV.out]; simp)
      go_enter Tryz.func62, Tryz.ntmps62
      go_wp2_with (first | (go_at_call 81; with_reducible refine Calls.mono (h0 _) ?_; rintro e w' ⟨rfl, rfl⟩) | (go_at_call 81; with_reducible refine Calls.mono (h1 _) ?_; rintro e w' ⟨rfl, rfl⟩))
      go_ret
      exact ⟨by rw [HF.out]; rfl, (Below.refl _ _).alloc (Nat.le_refl _) _⟩
    | true =>
      clear p0
      cases v1 with
      | false =>
        clear p1
        have HF := Lib.hid (show V = false by rw [HV.out]; simp)
        go_enter Tryz.func62, Tryz.ntmps62
        go_wp2_with (first | (go_at_call 81; with_reducible refine Calls.mono (h0 _) ?_; rintro e w' ⟨rfl, rfl⟩) | (go_at_call 81; with_reducible refine Calls.mono (h1 _) ?_; rintro e w' ⟨rfl, rfl⟩))
        go_ret
        exact ⟨by rw [HF.out]; rfl, (Below.refl _ _).alloc (Nat.le_refl _) _⟩
      | true =>
        clear p1
        by_cases g2 : 0 ≤ fr
        · by_cases g3 : fr < to
          · by_cases g4 : to ≤ 10000000000
            · cases g5 : (n == 0) with
              | false =>
                have HF := Lib.hid (show V = false by rw [HV.out]; simp [g2, g3, g4, g5])
                go_enter Tryz.func62, Tryz.ntmps62
                go_wp2_with (first | (go_at_call 81; with_reducible refine Calls.mono (h0 _) ?_; rintro e w' ⟨rfl, rfl⟩) | (go_at_call 81; with_reducible refine Calls.mono (h1 _) ?_; rintro e w' ⟨rfl, rfl⟩))
                go_ret
                exact ⟨by rw [HF.out]; rfl, (Below.refl _ _).alloc (Nat.le_refl _) _⟩
              | true =>
                cases g6 : (a == 0) with
                | false =>
                  have HF := Lib.hid (show V = false by rw [HV.out]; simp [g2, g3, g4, g5, g6])
                  go_enter Tryz.func62, Tryz.ntmps62
                  go_wp2_with (first | (go_at_call 81; with_reducible refine Calls.mono (h0 _) ?_; rintro e w' ⟨rfl, rfl⟩) | (go_at_call 81; with_reducible refine Calls.mono (h1 _) ?_; rintro e w' ⟨rfl, rfl⟩))
                  go_ret
                  exact ⟨by rw [HF.out]; rfl, (Below.refl _ _).alloc (Nat.le_refl _) _⟩
                | true =>
                  cases g7 : (b == 0) with
                  | false =>
                    have HF := Lib.hid (show V = false by rw [HV.out]; simp [g2, g3, g4, g5, g6, g7])
                    go_enter Tryz.func62, Tryz.ntmps62
                    go_wp2_with (first | (go_at_call 81; with_reducible refine Calls.mono (h0 _) ?_; rintro e w' ⟨rfl, rfl⟩) | (go_at_call 81; with_reducible refine Calls.mono (h1 _) ?_; rintro e w' ⟨rfl, rfl⟩))
                    go_ret
                    exact ⟨by rw [HF.out]; rfl, (Below.refl _ _).alloc (Nat.le_refl _) _⟩
                  | true =>
                    have HF := Lib.hid (show V = true by rw [HV.out]; simp [g2, g3, g4, g5, g6, g7])
                    go_enter Tryz.func62, Tryz.ntmps62
                    go_wp2_with (first | (go_at_call 81; with_reducible refine Calls.mono (h0 _) ?_; rintro e w' ⟨rfl, rfl⟩) | (go_at_call 81; with_reducible refine Calls.mono (h1 _) ?_; rintro e w' ⟨rfl, rfl⟩))
                    go_ret
                    exact ⟨by rw [HF.out]; rfl, (Below.refl _ _).alloc (Nat.le_refl _) _⟩
            · have HF := Lib.hid (show V = false by rw [HV.out]; simp [g2, g3, g4])
              go_enter Tryz.func62, Tryz.ntmps62
              go_wp2_with (first | (go_at_call 81; with_reducible refine Calls.mono (h0 _) ?_; rintro e w' ⟨rfl, rfl⟩) | (go_at_call 81; with_reducible refine Calls.mono (h1 _) ?_; rintro e w' ⟨rfl, rfl⟩))
              go_ret
              exact ⟨by rw [HF.out]; rfl, (Below.refl _ _).alloc (Nat.le_refl _) _⟩
          · have HF := Lib.hid (show V = false by rw [HV.out]; simp [g2, g3])
            go_enter Tryz.func62, Tryz.ntmps62
            go_wp2_with (first | (go_at_call 81; with_reducible refine Calls.mono (h0 _) ?_; rintro e w' ⟨rfl, rfl⟩) | (go_at_call 81; with_reducible refine Calls.mono (h1 _) ?_; rintro e w' ⟨rfl, rfl⟩))
            go_ret
            exact ⟨by rw [HF.out]; rfl, (Below.refl _ _).alloc (Nat.le_refl _) _⟩
        · have HF := Lib.hid (show V = false by rw [HV.out]; simp [g2])
          go_enter Tryz.func62, Tryz.ntmps62
          go_wp2_with (first | (go_at_call 81; with_reducible refine Calls.mono (h0 _) ?_; rintro e w' ⟨rfl, rfl⟩) | (go_at_call 81; with_reducible refine Calls.mono (h1 _) ?_; rintro e w' ⟨rfl, rfl⟩))
          go_ret
          exact ⟨by rw [HF.out]; rfl, (Below.refl _ _).alloc (Nat.le_refl _) _⟩
end Go.Proofs.YtfannkpnmaeljaaGreatDoor

/- The reference's Valid, kind [3]. -/
namespace Go.Proofs.YtfannkpnmaeljaaGreatDoor
open Go.RowKit

set_option maxRecDepth 100000 in
set_option maxHeartbeats 4000000 in
theorem rvldB (c : Cl) (hk : c.k = 3) (w : World) : Calls Tryz.prog 62 #[.agg #[iv c.k, iv c.it, iv c.fr, iv c.to, iv c.rg, iv c.n, iv c.a, iv c.b]] w fun e w' => e = .returned (.bool (vldZ c)) ∧ Below w.heap.size w w' := by
  have hv : vldZ c = (frm c.it 1 4611686018427387903 && frm c.rg 1 255 && frm c.n 0 1000 && (c.fr == 0) && (c.to == 0) && (c.a == 0) && (c.b == 0)) := by
    rw [Bool.eq_iff_iff]
    unfold vldZ
    simp only [hk]
    simp [tgt, zer, mnt, frm]
    omega
  have h0 := fun W => within_any c.it 1 4611686018427387903 W
  have p0 : frm c.it 1 4611686018427387903 = true → 1 ≤ c.it ∧ c.it ≤ 4611686018427387903 := fun h => frm_iff.1 h
  have h1 := fun W => within_any c.rg 1 255 W
  have p1 : frm c.rg 1 255 = true → 1 ≤ c.rg ∧ c.rg ≤ 255 := fun h => frm_iff.1 h
  have h2 := fun W => within_any c.n 0 1000 W
  have p2 : frm c.n 0 1000 = true → 0 ≤ c.n ∧ c.n ≤ 1000 := fun h => frm_iff.1 h
  obtain ⟨k, it, fr, to, rg, n, a, b⟩ := c
  simp only at *
  generalize frm it 1 4611686018427387903 = v0 at *
  generalize frm rg 1 255 = v1 at *
  generalize frm n 0 1000 = v2 at *
  have HV := Lib.hid hv
  clear hv
  generalize vldZ ⟨k, it, fr, to, rg, n, a, b⟩ = V at *
  subst hk
  cases v0 with
  | false =>
    clear p0
    have HF := Lib.hid (show V = false by rw [HV.out]; simp)
    go_enter Tryz.func62, Tryz.ntmps62
    go_wp2_with (first | (go_at_call 81; with_reducible refine Calls.mono (h0 _) ?_; rintro e w' ⟨rfl, rfl⟩) | (go_at_call 81; with_reducible refine Calls.mono (h1 _) ?_; rintro e w' ⟨rfl, rfl⟩) | (go_at_call 81; with_reducible refine Calls.mono (h2 _) ?_; rintro e w' ⟨rfl, rfl⟩))
    go_ret
    exact ⟨by rw [HF.out]; rfl, (Below.refl _ _).alloc (Nat.le_refl _) _⟩
  | true =>
    clear p0
    cases v1 with
    | false =>
      clear p1
      have HF := Lib.hid (show V = false by rw [HV.out]; simp)
      go_enter Tryz.func62, Tryz.ntmps62
      go_wp2_with (first | (go_at_call 81; with_reducible refine Calls.mono (h0 _) ?_; rintro e w' ⟨rfl, rfl⟩) | (go_at_call 81; with_reducible refine Calls.mono (h1 _) ?_; rintro e w' ⟨rfl, rfl⟩) | (go_at_call 81; with_reducible refine Calls.mono (h2 _) ?_; rintro e w' ⟨rfl, rfl⟩))
      go_ret
      exact ⟨by rw [HF.out]; rfl, (Below.refl _ _).alloc (Nat.le_refl _) _⟩
    | true =>
      clear p1
      cases v2 with
      | false =>
        clear p2
        have HF := Lib.hid (show V = false by rw [HV.out]; simp)
        go_enter Tryz.func62, Tryz.ntmps62
        go_wp2_with (first | (go_at_call 81; with_reducible refine Calls.mono (h0 _) ?_; rintro e w' ⟨rfl, rfl⟩) | (go_at_call 81; with_reducible refine Calls.mono (h1 _) ?_; rintro e w' ⟨rfl, rfl⟩) | (go_at_call 81; with_reducible refine Calls.mono (h2 _) ?_; rintro e w' ⟨rfl, rfl⟩))
        go_ret
        exact ⟨by rw [HF.out]; rfl, (Below.refl _ _).alloc (Nat.le_refl _) _⟩
      | true =>
        clear p2
        cases g3 : (fr == 0) with
        | false =>
          have HF := Lib.hid (show V = false by rw [HV.out]; simp [g3])
          go_enter Tryz.func62, Tryz.ntmps62
          go_wp2_with (first | (go_at_call 81; with_reducible refine Calls.mono (h0 _) ?_; rintro e w' ⟨rfl, rfl⟩) | (go_at_call 81; with_reducible refine Calls.mono (h1 _) ?_; rintro e w' ⟨rfl, rfl⟩) | (go_at_call 81; with_reducible refine Calls.mono (h2 _) ?_; rintro e w' ⟨rfl, rfl⟩))
          go_ret
          exact ⟨by rw [HF.out]; rfl, (Below.refl _ _).alloc (Nat.le_refl _) _⟩
        | true =>
          cases g4 : (to == 0) with
          | false =>
            have HF := Lib.hid (show V = false by rw [HV.out]; simp [g3, g4])
            go_enter Tryz.func62, Tryz.ntmps62
            go_wp2_with (first | (go_at_call 81; with_reducible refine Calls.mono (h0 _) ?_; rintro e w' ⟨rfl, rfl⟩) | (go_at_call 81; with_reducible refine Calls.mono (h1 _) ?_; rintro e w' ⟨rfl, rfl⟩) | (go_at_call 81; with_reducible refine Calls.mono (h2 _) ?_; rintro e w' ⟨rfl, rfl⟩))
            go_ret
            exact ⟨by rw [HF.out]; rfl, (Below.refl _ _).alloc (Nat.le_refl _) _⟩
          | true =>
            cases g5 : (a == 0) with
            | false =>
              have HF := Lib.hid (show V = false by rw [HV.out]; simp [g3, g4, g5])
              go_enter Tryz.func62, Tryz.ntmps62
              go_wp2_with (first | (go_at_call 81; with_reducible refine Calls.mono (h0 _) ?_; rintro e w' ⟨rfl, rfl⟩) | (go_at_call 81; with_reducible refine Calls.mono (h1 _) ?_; rintro e w' ⟨rfl, rfl⟩) | (go_at_call 81; with_reducible refine Calls.mono (h2 _) ?_; rintro e w' ⟨rfl, rfl⟩))
              go_ret
              exact ⟨by rw [HF.out]; rfl, (Below.refl _ _).alloc (Nat.le_refl _) _⟩
            | true =>
              cases g6 : (b == 0) with
              | false =>
                have HF := Lib.hid (show V = false by rw [HV.out]; simp [g3, g4, g5, g6])
                go_enter Tryz.func62, Tryz.ntmps62
                go_wp2_with (first | (go_at_call 81; with_reducible refine Calls.mono (h0 _) ?_; rintro e w' ⟨rfl, rfl⟩) | (go_at_call 81; with_reducible refine Calls.mono (h1 _) ?_; rintro e w' ⟨rfl, rfl⟩) | (go_at_call 81; with_reducible refine Calls.mono (h2 _) ?_; rintro e w' ⟨rfl, rfl⟩))
                go_ret
                exact ⟨by rw [HF.out]; rfl, (Below.refl _ _).alloc (Nat.le_refl _) _⟩
              | true =>
                have HF := Lib.hid (show V = true by rw [HV.out]; simp [g3, g4, g5, g6])
                go_enter Tryz.func62, Tryz.ntmps62
                go_wp2_with (first | (go_at_call 81; with_reducible refine Calls.mono (h0 _) ?_; rintro e w' ⟨rfl, rfl⟩) | (go_at_call 81; with_reducible refine Calls.mono (h1 _) ?_; rintro e w' ⟨rfl, rfl⟩) | (go_at_call 81; with_reducible refine Calls.mono (h2 _) ?_; rintro e w' ⟨rfl, rfl⟩))
                go_ret
                exact ⟨by rw [HF.out]; rfl, (Below.refl _ _).alloc (Nat.le_refl _) _⟩
end Go.Proofs.YtfannkpnmaeljaaGreatDoor

/- The reference's Valid, kind [4]. -/
namespace Go.Proofs.YtfannkpnmaeljaaGreatDoor
open Go.RowKit

set_option maxRecDepth 100000 in
set_option maxHeartbeats 4000000 in
theorem rvldC (c : Cl) (hk : c.k = 4) (w : World) : Calls Tryz.prog 62 #[.agg #[iv c.k, iv c.it, iv c.fr, iv c.to, iv c.rg, iv c.n, iv c.a, iv c.b]] w fun e w' => e = .returned (.bool (vldZ c)) ∧ Below w.heap.size w w' := by
  have hv : vldZ c = (frm c.it 1 4611686018427387903 && frm c.rg 1 255 && frm c.n 0 10000000000 && (c.fr == 0) && (c.to == 0) && (c.a == 0) && (c.b == 0)) := by
    rw [Bool.eq_iff_iff]
    unfold vldZ
    simp only [hk]
    simp [tgt, zer, mnt, frm]
    omega
  have h0 := fun W => within_any c.it 1 4611686018427387903 W
  have p0 : frm c.it 1 4611686018427387903 = true → 1 ≤ c.it ∧ c.it ≤ 4611686018427387903 := fun h => frm_iff.1 h
  have h1 := fun W => within_any c.rg 1 255 W
  have p1 : frm c.rg 1 255 = true → 1 ≤ c.rg ∧ c.rg ≤ 255 := fun h => frm_iff.1 h
  have h2 := fun W => within_any c.n 0 10000000000 W
  have p2 : frm c.n 0 10000000000 = true → 0 ≤ c.n ∧ c.n ≤ 10000000000 := fun h => frm_iff.1 h
  obtain ⟨k, it, fr, to, rg, n, a, b⟩ := c
  simp only at *
  generalize frm it 1 4611686018427387903 = v0 at *
  generalize frm rg 1 255 = v1 at *
  generalize frm n 0 10000000000 = v2 at *
  have HV := Lib.hid hv
  clear hv
  generalize vldZ ⟨k, it, fr, to, rg, n, a, b⟩ = V at *
  subst hk
  cases v0 with
  | false =>
    clear p0
    have HF := Lib.hid (show V = false by rw [HV.out]; simp)
    go_enter Tryz.func62, Tryz.ntmps62
    go_wp2_with (first | (go_at_call 81; with_reducible refine Calls.mono (h0 _) ?_; rintro e w' ⟨rfl, rfl⟩) | (go_at_call 81; with_reducible refine Calls.mono (h1 _) ?_; rintro e w' ⟨rfl, rfl⟩) | (go_at_call 81; with_reducible refine Calls.mono (h2 _) ?_; rintro e w' ⟨rfl, rfl⟩))
    go_ret
    exact ⟨by rw [HF.out]; rfl, (Below.refl _ _).alloc (Nat.le_refl _) _⟩
  | true =>
    clear p0
    cases v1 with
    | false =>
      clear p1
      have HF := Lib.hid (show V = false by rw [HV.out]; simp)
      go_enter Tryz.func62, Tryz.ntmps62
      go_wp2_with (first | (go_at_call 81; with_reducible refine Calls.mono (h0 _) ?_; rintro e w' ⟨rfl, rfl⟩) | (go_at_call 81; with_reducible refine Calls.mono (h1 _) ?_; rintro e w' ⟨rfl, rfl⟩) | (go_at_call 81; with_reducible refine Calls.mono (h2 _) ?_; rintro e w' ⟨rfl, rfl⟩))
      go_ret
      exact ⟨by rw [HF.out]; rfl, (Below.refl _ _).alloc (Nat.le_refl _) _⟩
    | true =>
      clear p1
      cases v2 with
      | false =>
        clear p2
        have HF := Lib.hid (show V = false by rw [HV.out]; simp)
        go_enter Tryz.func62, Tryz.ntmps62
        go_wp2_with (first | (go_at_call 81; with_reducible refine Calls.mono (h0 _) ?_; rintro e w' ⟨rfl, rfl⟩) | (go_at_call 81; with_reducible refine Calls.mono (h1 _) ?_; rintro e w' ⟨rfl, rfl⟩) | (go_at_call 81; with_reducible refine Calls.mono (h2 _) ?_; rintro e w' ⟨rfl, rfl⟩))
        go_ret
        exact ⟨by rw [HF.out]; rfl, (Below.refl _ _).alloc (Nat.le_refl _) _⟩
      | true =>
        clear p2
        cases g3 : (fr == 0) with
        | false =>
          have HF := Lib.hid (show V = false by rw [HV.out]; simp [g3])
          go_enter Tryz.func62, Tryz.ntmps62
          go_wp2_with (first | (go_at_call 81; with_reducible refine Calls.mono (h0 _) ?_; rintro e w' ⟨rfl, rfl⟩) | (go_at_call 81; with_reducible refine Calls.mono (h1 _) ?_; rintro e w' ⟨rfl, rfl⟩) | (go_at_call 81; with_reducible refine Calls.mono (h2 _) ?_; rintro e w' ⟨rfl, rfl⟩))
          go_ret
          exact ⟨by rw [HF.out]; rfl, (Below.refl _ _).alloc (Nat.le_refl _) _⟩
        | true =>
          cases g4 : (to == 0) with
          | false =>
            have HF := Lib.hid (show V = false by rw [HV.out]; simp [g3, g4])
            go_enter Tryz.func62, Tryz.ntmps62
            go_wp2_with (first | (go_at_call 81; with_reducible refine Calls.mono (h0 _) ?_; rintro e w' ⟨rfl, rfl⟩) | (go_at_call 81; with_reducible refine Calls.mono (h1 _) ?_; rintro e w' ⟨rfl, rfl⟩) | (go_at_call 81; with_reducible refine Calls.mono (h2 _) ?_; rintro e w' ⟨rfl, rfl⟩))
            go_ret
            exact ⟨by rw [HF.out]; rfl, (Below.refl _ _).alloc (Nat.le_refl _) _⟩
          | true =>
            cases g5 : (a == 0) with
            | false =>
              have HF := Lib.hid (show V = false by rw [HV.out]; simp [g3, g4, g5])
              go_enter Tryz.func62, Tryz.ntmps62
              go_wp2_with (first | (go_at_call 81; with_reducible refine Calls.mono (h0 _) ?_; rintro e w' ⟨rfl, rfl⟩) | (go_at_call 81; with_reducible refine Calls.mono (h1 _) ?_; rintro e w' ⟨rfl, rfl⟩) | (go_at_call 81; with_reducible refine Calls.mono (h2 _) ?_; rintro e w' ⟨rfl, rfl⟩))
              go_ret
              exact ⟨by rw [HF.out]; rfl, (Below.refl _ _).alloc (Nat.le_refl _) _⟩
            | true =>
              cases g6 : (b == 0) with
              | false =>
                have HF := Lib.hid (show V = false by rw [HV.out]; simp [g3, g4, g5, g6])
                go_enter Tryz.func62, Tryz.ntmps62
                go_wp2_with (first | (go_at_call 81; with_reducible refine Calls.mono (h0 _) ?_; rintro e w' ⟨rfl, rfl⟩) | (go_at_call 81; with_reducible refine Calls.mono (h1 _) ?_; rintro e w' ⟨rfl, rfl⟩) | (go_at_call 81; with_reducible refine Calls.mono (h2 _) ?_; rintro e w' ⟨rfl, rfl⟩))
                go_ret
                exact ⟨by rw [HF.out]; rfl, (Below.refl _ _).alloc (Nat.le_refl _) _⟩
              | true =>
                have HF := Lib.hid (show V = true by rw [HV.out]; simp [g3, g4, g5, g6])
                go_enter Tryz.func62, Tryz.ntmps62
                go_wp2_with (first | (go_at_call 81; with_reducible refine Calls.mono (h0 _) ?_; rintro e w' ⟨rfl, rfl⟩) | (go_at_call 81; with_reducible refine Calls.mono (h1 _) ?_; rintro e w' ⟨rfl, rfl⟩) | (go_at_call 81; with_reducible refine Calls.mono (h2 _) ?_; rintro e w' ⟨rfl, rfl⟩))
                go_ret
                exact ⟨by rw [HF.out]; rfl, (Below.refl _ _).alloc (Nat.le_refl _) _⟩
end Go.Proofs.YtfannkpnmaeljaaGreatDoor

/- The reference's Valid, kind [5]. -/
namespace Go.Proofs.YtfannkpnmaeljaaGreatDoor
open Go.RowKit

set_option maxRecDepth 100000 in
set_option maxHeartbeats 4000000 in
theorem rvldD (c : Cl) (hk : c.k = 5) (w : World) : Calls Tryz.prog 62 #[.agg #[iv c.k, iv c.it, iv c.fr, iv c.to, iv c.rg, iv c.n, iv c.a, iv c.b]] w fun e w' => e = .returned (.bool (vldZ c)) ∧ Below w.heap.size w w' := by
  have hv : vldZ c = (frm c.a 1 200 && frm c.b 1 200 && (c.a != c.b) && frm c.n 0 86400 && (c.it == 0) && (c.fr == 0) && (c.to == 0) && (c.rg == 0)) := by
    rw [Bool.eq_iff_iff]
    unfold vldZ
    simp only [hk]
    simp [tgt, zer, mnt, frm]
    omega
  have h0 := fun W => within_any c.it 1 4611686018427387903 W
  have p0 : frm c.it 1 4611686018427387903 = true → 1 ≤ c.it ∧ c.it ≤ 4611686018427387903 := fun h => frm_iff.1 h
  have h1 := fun W => within_any c.rg 1 255 W
  have p1 : frm c.rg 1 255 = true → 1 ≤ c.rg ∧ c.rg ≤ 255 := fun h => frm_iff.1 h
  have h2 := fun W => within_any c.a 1 200 W
  have p2 : frm c.a 1 200 = true → 1 ≤ c.a ∧ c.a ≤ 200 := fun h => frm_iff.1 h
  have h3 := fun W => within_any c.b 1 200 W
  have p3 : frm c.b 1 200 = true → 1 ≤ c.b ∧ c.b ≤ 200 := fun h => frm_iff.1 h
  have h4 := fun W => within_any c.n 0 86400 W
  have p4 : frm c.n 0 86400 = true → 0 ≤ c.n ∧ c.n ≤ 86400 := fun h => frm_iff.1 h
  obtain ⟨k, it, fr, to, rg, n, a, b⟩ := c
  simp only at *
  generalize frm it 1 4611686018427387903 = v0 at *
  generalize frm rg 1 255 = v1 at *
  generalize frm a 1 200 = v2 at *
  generalize frm b 1 200 = v3 at *
  generalize frm n 0 86400 = v4 at *
  have HV := Lib.hid hv
  clear hv
  generalize vldZ ⟨k, it, fr, to, rg, n, a, b⟩ = V at *
  subst hk
  cases v0 with
  | false =>
    clear p0
    cases v2 with
    | false =>
      clear p2
      have HF := Lib.hid (show V = false by rw [HV.out]; simp)
      go_enter Tryz.func62, Tryz.ntmps62
      go_wp2_with (first | (go_at_call 81; with_reducible refine Calls.mono (h0 _) ?_; rintro e w' ⟨rfl, rfl⟩) | (go_at_call 81; with_reducible refine Calls.mono (h1 _) ?_; rintro e w' ⟨rfl, rfl⟩) | (go_at_call 81; with_reducible refine Calls.mono (h2 _) ?_; rintro e w' ⟨rfl, rfl⟩) | (go_at_call 81; with_reducible refine Calls.mono (h3 _) ?_; rintro e w' ⟨rfl, rfl⟩) | (go_at_call 81; with_reducible refine Calls.mono (h4 _) ?_; rintro e w' ⟨rfl, rfl⟩))
      go_ret
      exact ⟨by rw [HF.out]; rfl, (Below.refl _ _).alloc (Nat.le_refl _) _⟩
    | true =>
      clear p2
      cases v3 with
      | false =>
        clear p3
        have HF := Lib.hid (show V = false by rw [HV.out]; simp)
        go_enter Tryz.func62, Tryz.ntmps62
        go_wp2_with (first | (go_at_call 81; with_reducible refine Calls.mono (h0 _) ?_; rintro e w' ⟨rfl, rfl⟩) | (go_at_call 81; with_reducible refine Calls.mono (h1 _) ?_; rintro e w' ⟨rfl, rfl⟩) | (go_at_call 81; with_reducible refine Calls.mono (h2 _) ?_; rintro e w' ⟨rfl, rfl⟩) | (go_at_call 81; with_reducible refine Calls.mono (h3 _) ?_; rintro e w' ⟨rfl, rfl⟩) | (go_at_call 81; with_reducible refine Calls.mono (h4 _) ?_; rintro e w' ⟨rfl, rfl⟩))
        go_ret
        exact ⟨by rw [HF.out]; rfl, (Below.refl _ _).alloc (Nat.le_refl _) _⟩
      | true =>
        clear p3
        cases g4 : (a != b) with
        | false =>
          have HF := Lib.hid (show V = false by rw [HV.out]; simp [g4])
          go_enter Tryz.func62, Tryz.ntmps62
          go_wp2_with (first | (go_at_call 81; with_reducible refine Calls.mono (h0 _) ?_; rintro e w' ⟨rfl, rfl⟩) | (go_at_call 81; with_reducible refine Calls.mono (h1 _) ?_; rintro e w' ⟨rfl, rfl⟩) | (go_at_call 81; with_reducible refine Calls.mono (h2 _) ?_; rintro e w' ⟨rfl, rfl⟩) | (go_at_call 81; with_reducible refine Calls.mono (h3 _) ?_; rintro e w' ⟨rfl, rfl⟩) | (go_at_call 81; with_reducible refine Calls.mono (h4 _) ?_; rintro e w' ⟨rfl, rfl⟩))
          go_ret
          exact ⟨by rw [HF.out]; rfl, (Below.refl _ _).alloc (Nat.le_refl _) _⟩
        | true =>
          cases v4 with
          | false =>
            clear p4
            have HF := Lib.hid (show V = false by rw [HV.out]; simp [g4])
            go_enter Tryz.func62, Tryz.ntmps62
            go_wp2_with (first | (go_at_call 81; with_reducible refine Calls.mono (h0 _) ?_; rintro e w' ⟨rfl, rfl⟩) | (go_at_call 81; with_reducible refine Calls.mono (h1 _) ?_; rintro e w' ⟨rfl, rfl⟩) | (go_at_call 81; with_reducible refine Calls.mono (h2 _) ?_; rintro e w' ⟨rfl, rfl⟩) | (go_at_call 81; with_reducible refine Calls.mono (h3 _) ?_; rintro e w' ⟨rfl, rfl⟩) | (go_at_call 81; with_reducible refine Calls.mono (h4 _) ?_; rintro e w' ⟨rfl, rfl⟩))
            go_ret
            exact ⟨by rw [HF.out]; rfl, (Below.refl _ _).alloc (Nat.le_refl _) _⟩
          | true =>
            clear p4
            cases g6 : (it == 0) with
            | false =>
              have HF := Lib.hid (show V = false by rw [HV.out]; simp [g4, g6])
              go_enter Tryz.func62, Tryz.ntmps62
              go_wp2_with (first | (go_at_call 81; with_reducible refine Calls.mono (h0 _) ?_; rintro e w' ⟨rfl, rfl⟩) | (go_at_call 81; with_reducible refine Calls.mono (h1 _) ?_; rintro e w' ⟨rfl, rfl⟩) | (go_at_call 81; with_reducible refine Calls.mono (h2 _) ?_; rintro e w' ⟨rfl, rfl⟩) | (go_at_call 81; with_reducible refine Calls.mono (h3 _) ?_; rintro e w' ⟨rfl, rfl⟩) | (go_at_call 81; with_reducible refine Calls.mono (h4 _) ?_; rintro e w' ⟨rfl, rfl⟩))
              go_ret
              exact ⟨by rw [HF.out]; rfl, (Below.refl _ _).alloc (Nat.le_refl _) _⟩
            | true =>
              cases g7 : (fr == 0) with
              | false =>
                have HF := Lib.hid (show V = false by rw [HV.out]; simp [g4, g6, g7])
                go_enter Tryz.func62, Tryz.ntmps62
                go_wp2_with (first | (go_at_call 81; with_reducible refine Calls.mono (h0 _) ?_; rintro e w' ⟨rfl, rfl⟩) | (go_at_call 81; with_reducible refine Calls.mono (h1 _) ?_; rintro e w' ⟨rfl, rfl⟩) | (go_at_call 81; with_reducible refine Calls.mono (h2 _) ?_; rintro e w' ⟨rfl, rfl⟩) | (go_at_call 81; with_reducible refine Calls.mono (h3 _) ?_; rintro e w' ⟨rfl, rfl⟩) | (go_at_call 81; with_reducible refine Calls.mono (h4 _) ?_; rintro e w' ⟨rfl, rfl⟩))
                go_ret
                exact ⟨by rw [HF.out]; rfl, (Below.refl _ _).alloc (Nat.le_refl _) _⟩
              | true =>
                cases g8 : (to == 0) with
                | false =>
                  have HF := Lib.hid (show V = false by rw [HV.out]; simp [g4, g6, g7, g8])
                  go_enter Tryz.func62, Tryz.ntmps62
                  go_wp2_with (first | (go_at_call 81; with_reducible refine Calls.mono (h0 _) ?_; rintro e w' ⟨rfl, rfl⟩) | (go_at_call 81; with_reducible refine Calls.mono (h1 _) ?_; rintro e w' ⟨rfl, rfl⟩) | (go_at_call 81; with_reducible refine Calls.mono (h2 _) ?_; rintro e w' ⟨rfl, rfl⟩) | (go_at_call 81; with_reducible refine Calls.mono (h3 _) ?_; rintro e w' ⟨rfl, rfl⟩) | (go_at_call 81; with_reducible refine Calls.mono (h4 _) ?_; rintro e w' ⟨rfl, rfl⟩))
                  go_ret
                  exact ⟨by rw [HF.out]; rfl, (Below.refl _ _).alloc (Nat.le_refl _) _⟩
                | true =>
                  cases g9 : (rg == 0) with
                  | false =>
                    have HF := Lib.hid (show V = false by rw [HV.out]; simp [g4, g6, g7, g8, g9])
                    go_enter Tryz.func62, Tryz.ntmps62
                    go_wp2_with (first | (go_at_call 81; with_reducible refine Calls.mono (h0 _) ?_; rintro e w' ⟨rfl, rfl⟩) | (go_at_call 81; with_reducible refine Calls.mono (h1 _) ?_; rintro e w' ⟨rfl, rfl⟩) | (go_at_call 81; with_reducible refine Calls.mono (h2 _) ?_; rintro e w' ⟨rfl, rfl⟩) | (go_at_call 81; with_reducible refine Calls.mono (h3 _) ?_; rintro e w' ⟨rfl, rfl⟩) | (go_at_call 81; with_reducible refine Calls.mono (h4 _) ?_; rintro e w' ⟨rfl, rfl⟩))
                    go_ret
                    exact ⟨by rw [HF.out]; rfl, (Below.refl _ _).alloc (Nat.le_refl _) _⟩
                  | true =>
                    have HF := Lib.hid (show V = true by rw [HV.out]; simp [g4, g6, g7, g8, g9])
                    go_enter Tryz.func62, Tryz.ntmps62
                    go_wp2_with (first | (go_at_call 81; with_reducible refine Calls.mono (h0 _) ?_; rintro e w' ⟨rfl, rfl⟩) | (go_at_call 81; with_reducible refine Calls.mono (h1 _) ?_; rintro e w' ⟨rfl, rfl⟩) | (go_at_call 81; with_reducible refine Calls.mono (h2 _) ?_; rintro e w' ⟨rfl, rfl⟩) | (go_at_call 81; with_reducible refine Calls.mono (h3 _) ?_; rintro e w' ⟨rfl, rfl⟩) | (go_at_call 81; with_reducible refine Calls.mono (h4 _) ?_; rintro e w' ⟨rfl, rfl⟩))
                    go_ret
                    exact ⟨by rw [HF.out]; rfl, (Below.refl _ _).alloc (Nat.le_refl _) _⟩
  | true =>
    clear p0
    clear p1
    cases v2 with
    | false =>
      clear p2
      have HF := Lib.hid (show V = false by rw [HV.out]; simp)
      go_enter Tryz.func62, Tryz.ntmps62
      go_wp2_with (first | (go_at_call 81; with_reducible refine Calls.mono (h0 _) ?_; rintro e w' ⟨rfl, rfl⟩) | (go_at_call 81; with_reducible refine Calls.mono (h1 _) ?_; rintro e w' ⟨rfl, rfl⟩) | (go_at_call 81; with_reducible refine Calls.mono (h2 _) ?_; rintro e w' ⟨rfl, rfl⟩) | (go_at_call 81; with_reducible refine Calls.mono (h3 _) ?_; rintro e w' ⟨rfl, rfl⟩) | (go_at_call 81; with_reducible refine Calls.mono (h4 _) ?_; rintro e w' ⟨rfl, rfl⟩))
      go_ret
      exact ⟨by rw [HF.out]; rfl, (Below.refl _ _).alloc (Nat.le_refl _) _⟩
    | true =>
      clear p2
      cases v3 with
      | false =>
        clear p3
        have HF := Lib.hid (show V = false by rw [HV.out]; simp)
        go_enter Tryz.func62, Tryz.ntmps62
        go_wp2_with (first | (go_at_call 81; with_reducible refine Calls.mono (h0 _) ?_; rintro e w' ⟨rfl, rfl⟩) | (go_at_call 81; with_reducible refine Calls.mono (h1 _) ?_; rintro e w' ⟨rfl, rfl⟩) | (go_at_call 81; with_reducible refine Calls.mono (h2 _) ?_; rintro e w' ⟨rfl, rfl⟩) | (go_at_call 81; with_reducible refine Calls.mono (h3 _) ?_; rintro e w' ⟨rfl, rfl⟩) | (go_at_call 81; with_reducible refine Calls.mono (h4 _) ?_; rintro e w' ⟨rfl, rfl⟩))
        go_ret
        exact ⟨by rw [HF.out]; rfl, (Below.refl _ _).alloc (Nat.le_refl _) _⟩
      | true =>
        clear p3
        cases g4 : (a != b) with
        | false =>
          have HF := Lib.hid (show V = false by rw [HV.out]; simp [g4])
          go_enter Tryz.func62, Tryz.ntmps62
          go_wp2_with (first | (go_at_call 81; with_reducible refine Calls.mono (h0 _) ?_; rintro e w' ⟨rfl, rfl⟩) | (go_at_call 81; with_reducible refine Calls.mono (h1 _) ?_; rintro e w' ⟨rfl, rfl⟩) | (go_at_call 81; with_reducible refine Calls.mono (h2 _) ?_; rintro e w' ⟨rfl, rfl⟩) | (go_at_call 81; with_reducible refine Calls.mono (h3 _) ?_; rintro e w' ⟨rfl, rfl⟩) | (go_at_call 81; with_reducible refine Calls.mono (h4 _) ?_; rintro e w' ⟨rfl, rfl⟩))
          go_ret
          exact ⟨by rw [HF.out]; rfl, (Below.refl _ _).alloc (Nat.le_refl _) _⟩
        | true =>
          cases v4 with
          | false =>
            clear p4
            have HF := Lib.hid (show V = false by rw [HV.out]; simp [g4])
            go_enter Tryz.func62, Tryz.ntmps62
            go_wp2_with (first | (go_at_call 81; with_reducible refine Calls.mono (h0 _) ?_; rintro e w' ⟨rfl, rfl⟩) | (go_at_call 81; with_reducible refine Calls.mono (h1 _) ?_; rintro e w' ⟨rfl, rfl⟩) | (go_at_call 81; with_reducible refine Calls.mono (h2 _) ?_; rintro e w' ⟨rfl, rfl⟩) | (go_at_call 81; with_reducible refine Calls.mono (h3 _) ?_; rintro e w' ⟨rfl, rfl⟩) | (go_at_call 81; with_reducible refine Calls.mono (h4 _) ?_; rintro e w' ⟨rfl, rfl⟩))
            go_ret
            exact ⟨by rw [HF.out]; rfl, (Below.refl _ _).alloc (Nat.le_refl _) _⟩
          | true =>
            clear p4
            cases g6 : (it == 0) with
            | false =>
              have HF := Lib.hid (show V = false by rw [HV.out]; simp [g4, g6])
              go_enter Tryz.func62, Tryz.ntmps62
              go_wp2_with (first | (go_at_call 81; with_reducible refine Calls.mono (h0 _) ?_; rintro e w' ⟨rfl, rfl⟩) | (go_at_call 81; with_reducible refine Calls.mono (h1 _) ?_; rintro e w' ⟨rfl, rfl⟩) | (go_at_call 81; with_reducible refine Calls.mono (h2 _) ?_; rintro e w' ⟨rfl, rfl⟩) | (go_at_call 81; with_reducible refine Calls.mono (h3 _) ?_; rintro e w' ⟨rfl, rfl⟩) | (go_at_call 81; with_reducible refine Calls.mono (h4 _) ?_; rintro e w' ⟨rfl, rfl⟩))
              go_ret
              exact ⟨by rw [HF.out]; rfl, (Below.refl _ _).alloc (Nat.le_refl _) _⟩
            | true =>
              cases g7 : (fr == 0) with
              | false =>
                have HF := Lib.hid (show V = false by rw [HV.out]; simp [g4, g6, g7])
                go_enter Tryz.func62, Tryz.ntmps62
                go_wp2_with (first | (go_at_call 81; with_reducible refine Calls.mono (h0 _) ?_; rintro e w' ⟨rfl, rfl⟩) | (go_at_call 81; with_reducible refine Calls.mono (h1 _) ?_; rintro e w' ⟨rfl, rfl⟩) | (go_at_call 81; with_reducible refine Calls.mono (h2 _) ?_; rintro e w' ⟨rfl, rfl⟩) | (go_at_call 81; with_reducible refine Calls.mono (h3 _) ?_; rintro e w' ⟨rfl, rfl⟩) | (go_at_call 81; with_reducible refine Calls.mono (h4 _) ?_; rintro e w' ⟨rfl, rfl⟩))
                go_ret
                exact ⟨by rw [HF.out]; rfl, (Below.refl _ _).alloc (Nat.le_refl _) _⟩
              | true =>
                cases g8 : (to == 0) with
                | false =>
                  have HF := Lib.hid (show V = false by rw [HV.out]; simp [g4, g6, g7, g8])
                  go_enter Tryz.func62, Tryz.ntmps62
                  go_wp2_with (first | (go_at_call 81; with_reducible refine Calls.mono (h0 _) ?_; rintro e w' ⟨rfl, rfl⟩) | (go_at_call 81; with_reducible refine Calls.mono (h1 _) ?_; rintro e w' ⟨rfl, rfl⟩) | (go_at_call 81; with_reducible refine Calls.mono (h2 _) ?_; rintro e w' ⟨rfl, rfl⟩) | (go_at_call 81; with_reducible refine Calls.mono (h3 _) ?_; rintro e w' ⟨rfl, rfl⟩) | (go_at_call 81; with_reducible refine Calls.mono (h4 _) ?_; rintro e w' ⟨rfl, rfl⟩))
                  go_ret
                  exact ⟨by rw [HF.out]; rfl, (Below.refl _ _).alloc (Nat.le_refl _) _⟩
                | true =>
                  cases g9 : (rg == 0) with
                  | false =>
                    have HF := Lib.hid (show V = false by rw [HV.out]; simp [g4, g6, g7, g8, g9])
                    go_enter Tryz.func62, Tryz.ntmps62
                    go_wp2_with (first | (go_at_call 81; with_reducible refine Calls.mono (h0 _) ?_; rintro e w' ⟨rfl, rfl⟩) | (go_at_call 81; with_reducible refine Calls.mono (h1 _) ?_; rintro e w' ⟨rfl, rfl⟩) | (go_at_call 81; with_reducible refine Calls.mono (h2 _) ?_; rintro e w' ⟨rfl, rfl⟩) | (go_at_call 81; with_reducible refine Calls.mono (h3 _) ?_; rintro e w' ⟨rfl, rfl⟩) | (go_at_call 81; with_reducible refine Calls.mono (h4 _) ?_; rintro e w' ⟨rfl, rfl⟩))
                    go_ret
                    exact ⟨by rw [HF.out]; rfl, (Below.refl _ _).alloc (Nat.le_refl _) _⟩
                  | true =>
                    have HF := Lib.hid (show V = true by rw [HV.out]; simp [g4, g6, g7, g8, g9])
                    go_enter Tryz.func62, Tryz.ntmps62
                    go_wp2_with (first | (go_at_call 81; with_reducible refine Calls.mono (h0 _) ?_; rintro e w' ⟨rfl, rfl⟩) | (go_at_call 81; with_reducible refine Calls.mono (h1 _) ?_; rintro e w' ⟨rfl, rfl⟩) | (go_at_call 81; with_reducible refine Calls.mono (h2 _) ?_; rintro e w' ⟨rfl, rfl⟩) | (go_at_call 81; with_reducible refine Calls.mono (h3 _) ?_; rintro e w' ⟨rfl, rfl⟩) | (go_at_call 81; with_reducible refine Calls.mono (h4 _) ?_; rintro e w' ⟨rfl, rfl⟩))
                    go_ret
                    exact ⟨by rw [HF.out]; rfl, (Below.refl _ _).alloc (Nat.le_refl _) _⟩
end Go.Proofs.YtfannkpnmaeljaaGreatDoor

import Derived.Test.YtfannkpnmaeljaaGreatDoorGRiT4
import Derived.Test.YtfannkpnmaeljaaGreatDoorGRiT5
set_option linter.unusedVariables false
set_option linter.unusedSimpArgs false
/- The reference's Valid, kind [6]. -/
namespace Go.Proofs.YtfannkpnmaeljaaGreatDoor
open Go.RowKit

set_option maxRecDepth 100000 in
set_option maxHeartbeats 4000000 in
theorem rvldE (c : Cl) (hk : c.k = 6) (w : World) : Calls Tryz.prog 62 #[.agg #[iv c.k, iv c.it, iv c.fr, iv c.to, iv c.rg, iv c.n, iv c.a, iv c.b]] w fun e w' => e = .returned (.bool (vldZ c)) ∧ Below w.heap.size w w' := by
  have hv : vldZ c = (frm c.fr 0 86340 && frm c.to 0 86340 && (c.fr % 60 == 0) && (c.to % 60 == 0) && (c.fr != c.to) && frm c.a 1 3 && (c.it == 0) && (c.rg == 0) && (c.n == 0) && (c.b == 0)) := by
    rw [Bool.eq_iff_iff]
    unfold vldZ
    simp only [hk]
    simp [tgt, zer, mnt, frm]
    omega
  have h0 := fun W => within_any c.it 1 4611686018427387903 W
  have p0 : frm c.it 1 4611686018427387903 = true → 1 ≤ c.it ∧ c.it ≤ 4611686018427387903 := fun h => frm_iff.1 h
  have h1 := fun W => within_any c.rg 1 255 W
  have p1 : frm c.rg 1 255 = true → 1 ≤ c.rg ∧ c.rg ≤ 255 := fun h => frm_iff.1 h
  have h2 := fun W => within_any c.fr 0 86340 W
  have p2 : frm c.fr 0 86340 = true → 0 ≤ c.fr ∧ c.fr ≤ 86340 := fun h => frm_iff.1 h
  have h3 := fun W => within_any c.to 0 86340 W
  have p3 : frm c.to 0 86340 = true → 0 ≤ c.to ∧ c.to ≤ 86340 := fun h => frm_iff.1 h
  have h4 := fun W => within_any c.a 1 3 W
  have p4 : frm c.a 1 3 = true → 1 ≤ c.a ∧ c.a ≤ 3 := fun h => frm_iff.1 h
  obtain ⟨k, it, fr, to, rg, n, a, b⟩ := c
  simp only at *
  generalize frm it 1 4611686018427387903 = v0 at *
  generalize frm rg 1 255 = v1 at *
  generalize frm fr 0 86340 = v2 at *
  generalize frm to 0 86340 = v3 at *
  generalize frm a 1 3 = v4 at *
  have HV := Lib.hid hv
  clear hv
  generalize vldZ ⟨k, it, fr, to, rg, n, a, b⟩ = V at *
  subst hk
  cases v0 with
  | false =>
    clear p0
    cases v2 with
    | false =>
      clear p2
      have HF := Lib.hid (show V = false by rw [HV.out]; simp)
      go_enter Tryz.func62, Tryz.ntmps62
      go_wp2_with (first | (go_at_call 81; with_reducible refine Calls.mono (h0 _) ?_; rintro e w' ⟨rfl, rfl⟩) | (go_at_call 81; with_reducible refine Calls.mono (h1 _) ?_; rintro e w' ⟨rfl, rfl⟩) | (go_at_call 81; with_reducible refine Calls.mono (h2 _) ?_; rintro e w' ⟨rfl, rfl⟩) | (go_at_call 81; with_reducible refine Calls.mono (h3 _) ?_; rintro e w' ⟨rfl, rfl⟩) | (go_at_call 81; with_reducible refine Calls.mono (h4 _) ?_; rintro e w' ⟨rfl, rfl⟩))
      go_ret
      exact ⟨by rw [HF.out]; rfl, (Below.refl _ _).alloc (Nat.le_refl _) _⟩
    | true =>
      obtain ⟨xfr, yfr⟩ := p2 rfl
      obtain ⟨mfr, rfl⟩ : ∃ m : Nat, fr = m := ⟨fr.toNat, by omega⟩
      clear p2
      cases v3 with
      | false =>
        clear p3
        have HF := Lib.hid (show V = false by rw [HV.out]; simp)
        go_enter Tryz.func62, Tryz.ntmps62
        go_wp2_with (first | (go_at_call 81; with_reducible refine Calls.mono (h0 _) ?_; rintro e w' ⟨rfl, rfl⟩) | (go_at_call 81; with_reducible refine Calls.mono (h1 _) ?_; rintro e w' ⟨rfl, rfl⟩) | (go_at_call 81; with_reducible refine Calls.mono (h2 _) ?_; rintro e w' ⟨rfl, rfl⟩) | (go_at_call 81; with_reducible refine Calls.mono (h3 _) ?_; rintro e w' ⟨rfl, rfl⟩) | (go_at_call 81; with_reducible refine Calls.mono (h4 _) ?_; rintro e w' ⟨rfl, rfl⟩))
        go_ret
        exact ⟨by rw [HF.out]; rfl, (Below.refl _ _).alloc (Nat.le_refl _) _⟩
      | true =>
        obtain ⟨xto, yto⟩ := p3 rfl
        obtain ⟨mto, rfl⟩ : ∃ m : Nat, to = m := ⟨to.toNat, by omega⟩
        clear p3
        cases g4 : ((mfr : Int) % 60 == 0) with
        | false =>
          have HF := Lib.hid (show V = false by rw [HV.out]; simp [g4])
          go_enter Tryz.func62, Tryz.ntmps62
          go_wp2_with (first | (go_at_call 81; with_reducible refine Calls.mono (h0 _) ?_; rintro e w' ⟨rfl, rfl⟩) | (go_at_call 81; with_reducible refine Calls.mono (h1 _) ?_; rintro e w' ⟨rfl, rfl⟩) | (go_at_call 81; with_reducible refine Calls.mono (h2 _) ?_; rintro e w' ⟨rfl, rfl⟩) | (go_at_call 81; with_reducible refine Calls.mono (h3 _) ?_; rintro e w' ⟨rfl, rfl⟩) | (go_at_call 81; with_reducible refine Calls.mono (h4 _) ?_; rintro e w' ⟨rfl, rfl⟩))
          go_ret
          exact ⟨by rw [HF.out]; rfl, (Below.refl _ _).alloc (Nat.le_refl _) _⟩
        | true =>
          cases g5 : ((mto : Int) % 60 == 0) with
          | false =>
            have HF := Lib.hid (show V = false by rw [HV.out]; simp [g4, g5])
            go_enter Tryz.func62, Tryz.ntmps62
            go_wp2_with (first | (go_at_call 81; with_reducible refine Calls.mono (h0 _) ?_; rintro e w' ⟨rfl, rfl⟩) | (go_at_call 81; with_reducible refine Calls.mono (h1 _) ?_; rintro e w' ⟨rfl, rfl⟩) | (go_at_call 81; with_reducible refine Calls.mono (h2 _) ?_; rintro e w' ⟨rfl, rfl⟩) | (go_at_call 81; with_reducible refine Calls.mono (h3 _) ?_; rintro e w' ⟨rfl, rfl⟩) | (go_at_call 81; with_reducible refine Calls.mono (h4 _) ?_; rintro e w' ⟨rfl, rfl⟩))
            go_ret
            exact ⟨by rw [HF.out]; rfl, (Below.refl _ _).alloc (Nat.le_refl _) _⟩
          | true =>
            cases g6 : ((mfr : Int) != (mto : Int)) with
            | false =>
              have HF := Lib.hid (show V = false by rw [HV.out]; simp [g4, g5, g6])
              go_enter Tryz.func62, Tryz.ntmps62
              go_wp2_with (first | (go_at_call 81; with_reducible refine Calls.mono (h0 _) ?_; rintro e w' ⟨rfl, rfl⟩) | (go_at_call 81; with_reducible refine Calls.mono (h1 _) ?_; rintro e w' ⟨rfl, rfl⟩) | (go_at_call 81; with_reducible refine Calls.mono (h2 _) ?_; rintro e w' ⟨rfl, rfl⟩) | (go_at_call 81; with_reducible refine Calls.mono (h3 _) ?_; rintro e w' ⟨rfl, rfl⟩) | (go_at_call 81; with_reducible refine Calls.mono (h4 _) ?_; rintro e w' ⟨rfl, rfl⟩))
              go_ret
              exact ⟨by rw [HF.out]; rfl, (Below.refl _ _).alloc (Nat.le_refl _) _⟩
            | true =>
              cases v4 with
              | false =>
                clear p4
                have HF := Lib.hid (show V = false by rw [HV.out]; simp [g4, g5, g6])
                go_enter Tryz.func62, Tryz.ntmps62
                go_wp2_with (first | (go_at_call 81; with_reducible refine Calls.mono (h0 _) ?_; rintro e w' ⟨rfl, rfl⟩) | (go_at_call 81; with_reducible refine Calls.mono (h1 _) ?_; rintro e w' ⟨rfl, rfl⟩) | (go_at_call 81; with_reducible refine Calls.mono (h2 _) ?_; rintro e w' ⟨rfl, rfl⟩) | (go_at_call 81; with_reducible refine Calls.mono (h3 _) ?_; rintro e w' ⟨rfl, rfl⟩) | (go_at_call 81; with_reducible refine Calls.mono (h4 _) ?_; rintro e w' ⟨rfl, rfl⟩))
                go_ret
                exact ⟨by rw [HF.out]; rfl, (Below.refl _ _).alloc (Nat.le_refl _) _⟩
              | true =>
                clear p4
                cases g8 : (it == 0) with
                | false =>
                  have HF := Lib.hid (show V = false by rw [HV.out]; simp [g4, g5, g6, g8])
                  go_enter Tryz.func62, Tryz.ntmps62
                  go_wp2_with (first | (go_at_call 81; with_reducible refine Calls.mono (h0 _) ?_; rintro e w' ⟨rfl, rfl⟩) | (go_at_call 81; with_reducible refine Calls.mono (h1 _) ?_; rintro e w' ⟨rfl, rfl⟩) | (go_at_call 81; with_reducible refine Calls.mono (h2 _) ?_; rintro e w' ⟨rfl, rfl⟩) | (go_at_call 81; with_reducible refine Calls.mono (h3 _) ?_; rintro e w' ⟨rfl, rfl⟩) | (go_at_call 81; with_reducible refine Calls.mono (h4 _) ?_; rintro e w' ⟨rfl, rfl⟩))
                  go_ret
                  exact ⟨by rw [HF.out]; rfl, (Below.refl _ _).alloc (Nat.le_refl _) _⟩
                | true =>
                  cases g9 : (rg == 0) with
                  | false =>
                    have HF := Lib.hid (show V = false by rw [HV.out]; simp [g4, g5, g6, g8, g9])
                    go_enter Tryz.func62, Tryz.ntmps62
                    go_wp2_with (first | (go_at_call 81; with_reducible refine Calls.mono (h0 _) ?_; rintro e w' ⟨rfl, rfl⟩) | (go_at_call 81; with_reducible refine Calls.mono (h1 _) ?_; rintro e w' ⟨rfl, rfl⟩) | (go_at_call 81; with_reducible refine Calls.mono (h2 _) ?_; rintro e w' ⟨rfl, rfl⟩) | (go_at_call 81; with_reducible refine Calls.mono (h3 _) ?_; rintro e w' ⟨rfl, rfl⟩) | (go_at_call 81; with_reducible refine Calls.mono (h4 _) ?_; rintro e w' ⟨rfl, rfl⟩))
                    go_ret
                    exact ⟨by rw [HF.out]; rfl, (Below.refl _ _).alloc (Nat.le_refl _) _⟩
                  | true =>
                    cases g10 : (n == 0) with
                    | false =>
                      have HF := Lib.hid (show V = false by rw [HV.out]; simp [g4, g5, g6, g8, g9, g10])
                      go_enter Tryz.func62, Tryz.ntmps62
                      go_wp2_with (first | (go_at_call 81; with_reducible refine Calls.mono (h0 _) ?_; rintro e w' ⟨rfl, rfl⟩) | (go_at_call 81; with_reducible refine Calls.mono (h1 _) ?_; rintro e w' ⟨rfl, rfl⟩) | (go_at_call 81; with_reducible refine Calls.mono (h2 _) ?_; rintro e w' ⟨rfl, rfl⟩) | (go_at_call 81; with_reducible refine Calls.mono (h3 _) ?_; rintro e w' ⟨rfl, rfl⟩) | (go_at_call 81; with_reducible refine Calls.mono (h4 _) ?_; rintro e w' ⟨rfl, rfl⟩))
                      go_ret
                      exact ⟨by rw [HF.out]; rfl, (Below.refl _ _).alloc (Nat.le_refl _) _⟩
                    | true =>
                      cases g11 : (b == 0) with
                      | false =>
                        have HF := Lib.hid (show V = false by rw [HV.out]; simp [g4, g5, g6, g8, g9, g10, g11])
                        go_enter Tryz.func62, Tryz.ntmps62
                        go_wp2_with (first | (go_at_call 81; with_reducible refine Calls.mono (h0 _) ?_; rintro e w' ⟨rfl, rfl⟩) | (go_at_call 81; with_reducible refine Calls.mono (h1 _) ?_; rintro e w' ⟨rfl, rfl⟩) | (go_at_call 81; with_reducible refine Calls.mono (h2 _) ?_; rintro e w' ⟨rfl, rfl⟩) | (go_at_call 81; with_reducible refine Calls.mono (h3 _) ?_; rintro e w' ⟨rfl, rfl⟩) | (go_at_call 81; with_reducible refine Calls.mono (h4 _) ?_; rintro e w' ⟨rfl, rfl⟩))
                        go_ret
                        exact ⟨by rw [HF.out]; rfl, (Below.refl _ _).alloc (Nat.le_refl _) _⟩
                      | true =>
                        have HF := Lib.hid (show V = true by rw [HV.out]; simp [g4, g5, g6, g8, g9, g10, g11])
                        go_enter Tryz.func62, Tryz.ntmps62
                        go_wp2_with (first | (go_at_call 81; with_reducible refine Calls.mono (h0 _) ?_; rintro e w' ⟨rfl, rfl⟩) | (go_at_call 81; with_reducible refine Calls.mono (h1 _) ?_; rintro e w' ⟨rfl, rfl⟩) | (go_at_call 81; with_reducible refine Calls.mono (h2 _) ?_; rintro e w' ⟨rfl, rfl⟩) | (go_at_call 81; with_reducible refine Calls.mono (h3 _) ?_; rintro e w' ⟨rfl, rfl⟩) | (go_at_call 81; with_reducible refine Calls.mono (h4 _) ?_; rintro e w' ⟨rfl, rfl⟩))
                        go_ret
                        exact ⟨by rw [HF.out]; rfl, (Below.refl _ _).alloc (Nat.le_refl _) _⟩
  | true =>
    clear p0
    clear p1
    cases v2 with
    | false =>
      clear p2
      have HF := Lib.hid (show V = false by rw [HV.out]; simp)
      go_enter Tryz.func62, Tryz.ntmps62
      go_wp2_with (first | (go_at_call 81; with_reducible refine Calls.mono (h0 _) ?_; rintro e w' ⟨rfl, rfl⟩) | (go_at_call 81; with_reducible refine Calls.mono (h1 _) ?_; rintro e w' ⟨rfl, rfl⟩) | (go_at_call 81; with_reducible refine Calls.mono (h2 _) ?_; rintro e w' ⟨rfl, rfl⟩) | (go_at_call 81; with_reducible refine Calls.mono (h3 _) ?_; rintro e w' ⟨rfl, rfl⟩) | (go_at_call 81; with_reducible refine Calls.mono (h4 _) ?_; rintro e w' ⟨rfl, rfl⟩))
      go_ret
      exact ⟨by rw [HF.out]; rfl, (Below.refl _ _).alloc (Nat.le_refl _) _⟩
    | true =>
      obtain ⟨xfr, yfr⟩ := p2 rfl
      obtain ⟨mfr, rfl⟩ : ∃ m : Nat, fr = m := ⟨fr.toNat, by omega⟩
      clear p2
      cases v3 with
      | false =>
        clear p3
        have HF := Lib.hid (show V = false by rw [HV.out]; simp)
        go_enter Tryz.func62, Tryz.ntmps62
        go_wp2_with (first | (go_at_call 81; with_reducible refine Calls.mono (h0 _) ?_; rintro e w' ⟨rfl, rfl⟩) | (go_at_call 81; with_reducible refine Calls.mono (h1 _) ?_; rintro e w' ⟨rfl, rfl⟩) | (go_at_call 81; with_reducible refine Calls.mono (h2 _) ?_; rintro e w' ⟨rfl, rfl⟩) | (go_at_call 81; with_reducible refine Calls.mono (h3 _) ?_; rintro e w' ⟨rfl, rfl⟩) | (go_at_call 81; with_reducible refine Calls.mono (h4 _) ?_; rintro e w' ⟨rfl, rfl⟩))
        go_ret
        exact ⟨by rw [HF.out]; rfl, (Below.refl _ _).alloc (Nat.le_refl _) _⟩
      | true =>
        obtain ⟨xto, yto⟩ := p3 rfl
        obtain ⟨mto, rfl⟩ : ∃ m : Nat, to = m := ⟨to.toNat, by omega⟩
        clear p3
        cases g4 : ((mfr : Int) % 60 == 0) with
        | false =>
          have HF := Lib.hid (show V = false by rw [HV.out]; simp [g4])
          go_enter Tryz.func62, Tryz.ntmps62
          go_wp2_with (first | (go_at_call 81; with_reducible refine Calls.mono (h0 _) ?_; rintro e w' ⟨rfl, rfl⟩) | (go_at_call 81; with_reducible refine Calls.mono (h1 _) ?_; rintro e w' ⟨rfl, rfl⟩) | (go_at_call 81; with_reducible refine Calls.mono (h2 _) ?_; rintro e w' ⟨rfl, rfl⟩) | (go_at_call 81; with_reducible refine Calls.mono (h3 _) ?_; rintro e w' ⟨rfl, rfl⟩) | (go_at_call 81; with_reducible refine Calls.mono (h4 _) ?_; rintro e w' ⟨rfl, rfl⟩))
          go_ret
          exact ⟨by rw [HF.out]; rfl, (Below.refl _ _).alloc (Nat.le_refl _) _⟩
        | true =>
          cases g5 : ((mto : Int) % 60 == 0) with
          | false =>
            have HF := Lib.hid (show V = false by rw [HV.out]; simp [g4, g5])
            go_enter Tryz.func62, Tryz.ntmps62
            go_wp2_with (first | (go_at_call 81; with_reducible refine Calls.mono (h0 _) ?_; rintro e w' ⟨rfl, rfl⟩) | (go_at_call 81; with_reducible refine Calls.mono (h1 _) ?_; rintro e w' ⟨rfl, rfl⟩) | (go_at_call 81; with_reducible refine Calls.mono (h2 _) ?_; rintro e w' ⟨rfl, rfl⟩) | (go_at_call 81; with_reducible refine Calls.mono (h3 _) ?_; rintro e w' ⟨rfl, rfl⟩) | (go_at_call 81; with_reducible refine Calls.mono (h4 _) ?_; rintro e w' ⟨rfl, rfl⟩))
            go_ret
            exact ⟨by rw [HF.out]; rfl, (Below.refl _ _).alloc (Nat.le_refl _) _⟩
          | true =>
            cases g6 : ((mfr : Int) != (mto : Int)) with
            | false =>
              have HF := Lib.hid (show V = false by rw [HV.out]; simp [g4, g5, g6])
              go_enter Tryz.func62, Tryz.ntmps62
              go_wp2_with (first | (go_at_call 81; with_reducible refine Calls.mono (h0 _) ?_; rintro e w' ⟨rfl, rfl⟩) | (go_at_call 81; with_reducible refine Calls.mono (h1 _) ?_; rintro e w' ⟨rfl, rfl⟩) | (go_at_call 81; with_reducible refine Calls.mono (h2 _) ?_; rintro e w' ⟨rfl, rfl⟩) | (go_at_call 81; with_reducible refine Calls.mono (h3 _) ?_; rintro e w' ⟨rfl, rfl⟩) | (go_at_call 81; with_reducible refine Calls.mono (h4 _) ?_; rintro e w' ⟨rfl, rfl⟩))
              go_ret
              exact ⟨by rw [HF.out]; rfl, (Below.refl _ _).alloc (Nat.le_refl _) _⟩
            | true =>
              cases v4 with
              | false =>
                clear p4
                have HF := Lib.hid (show V = false by rw [HV.out]; simp [g4, g5, g6])
                go_enter Tryz.func62, Tryz.ntmps62
                go_wp2_with (first | (go_at_call 81; with_reducible refine Calls.mono (h0 _) ?_; rintro e w' ⟨rfl, rfl⟩) | (go_at_call 81; with_reducible refine Calls.mono (h1 _) ?_; rintro e w' ⟨rfl, rfl⟩) | (go_at_call 81; with_reducible refine Calls.mono (h2 _) ?_; rintro e w' ⟨rfl, rfl⟩) | (go_at_call 81; with_reducible refine Calls.mono (h3 _) ?_; rintro e w' ⟨rfl, rfl⟩) | (go_at_call 81; with_reducible refine Calls.mono (h4 _) ?_; rintro e w' ⟨rfl, rfl⟩))
                go_ret
                exact ⟨by rw [HF.out]; rfl, (Below.refl _ _).alloc (Nat.le_refl _) _⟩
              | true =>
                clear p4
                cases g8 : (it == 0) with
                | false =>
                  have HF := Lib.hid (show V = false by rw [HV.out]; simp [g4, g5, g6, g8])
                  go_enter Tryz.func62, Tryz.ntmps62
                  go_wp2_with (first | (go_at_call 81; with_reducible refine Calls.mono (h0 _) ?_; rintro e w' ⟨rfl, rfl⟩) | (go_at_call 81; with_reducible refine Calls.mono (h1 _) ?_; rintro e w' ⟨rfl, rfl⟩) | (go_at_call 81; with_reducible refine Calls.mono (h2 _) ?_; rintro e w' ⟨rfl, rfl⟩) | (go_at_call 81; with_reducible refine Calls.mono (h3 _) ?_; rintro e w' ⟨rfl, rfl⟩) | (go_at_call 81; with_reducible refine Calls.mono (h4 _) ?_; rintro e w' ⟨rfl, rfl⟩))
                  go_ret
                  exact ⟨by rw [HF.out]; rfl, (Below.refl _ _).alloc (Nat.le_refl _) _⟩
                | true =>
                  cases g9 : (rg == 0) with
                  | false =>
                    have HF := Lib.hid (show V = false by rw [HV.out]; simp [g4, g5, g6, g8, g9])
                    go_enter Tryz.func62, Tryz.ntmps62
                    go_wp2_with (first | (go_at_call 81; with_reducible refine Calls.mono (h0 _) ?_; rintro e w' ⟨rfl, rfl⟩) | (go_at_call 81; with_reducible refine Calls.mono (h1 _) ?_; rintro e w' ⟨rfl, rfl⟩) | (go_at_call 81; with_reducible refine Calls.mono (h2 _) ?_; rintro e w' ⟨rfl, rfl⟩) | (go_at_call 81; with_reducible refine Calls.mono (h3 _) ?_; rintro e w' ⟨rfl, rfl⟩) | (go_at_call 81; with_reducible refine Calls.mono (h4 _) ?_; rintro e w' ⟨rfl, rfl⟩))
                    go_ret
                    exact ⟨by rw [HF.out]; rfl, (Below.refl _ _).alloc (Nat.le_refl _) _⟩
                  | true =>
                    cases g10 : (n == 0) with
                    | false =>
                      have HF := Lib.hid (show V = false by rw [HV.out]; simp [g4, g5, g6, g8, g9, g10])
                      go_enter Tryz.func62, Tryz.ntmps62
                      go_wp2_with (first | (go_at_call 81; with_reducible refine Calls.mono (h0 _) ?_; rintro e w' ⟨rfl, rfl⟩) | (go_at_call 81; with_reducible refine Calls.mono (h1 _) ?_; rintro e w' ⟨rfl, rfl⟩) | (go_at_call 81; with_reducible refine Calls.mono (h2 _) ?_; rintro e w' ⟨rfl, rfl⟩) | (go_at_call 81; with_reducible refine Calls.mono (h3 _) ?_; rintro e w' ⟨rfl, rfl⟩) | (go_at_call 81; with_reducible refine Calls.mono (h4 _) ?_; rintro e w' ⟨rfl, rfl⟩))
                      go_ret
                      exact ⟨by rw [HF.out]; rfl, (Below.refl _ _).alloc (Nat.le_refl _) _⟩
                    | true =>
                      cases g11 : (b == 0) with
                      | false =>
                        have HF := Lib.hid (show V = false by rw [HV.out]; simp [g4, g5, g6, g8, g9, g10, g11])
                        go_enter Tryz.func62, Tryz.ntmps62
                        go_wp2_with (first | (go_at_call 81; with_reducible refine Calls.mono (h0 _) ?_; rintro e w' ⟨rfl, rfl⟩) | (go_at_call 81; with_reducible refine Calls.mono (h1 _) ?_; rintro e w' ⟨rfl, rfl⟩) | (go_at_call 81; with_reducible refine Calls.mono (h2 _) ?_; rintro e w' ⟨rfl, rfl⟩) | (go_at_call 81; with_reducible refine Calls.mono (h3 _) ?_; rintro e w' ⟨rfl, rfl⟩) | (go_at_call 81; with_reducible refine Calls.mono (h4 _) ?_; rintro e w' ⟨rfl, rfl⟩))
                        go_ret
                        exact ⟨by rw [HF.out]; rfl, (Below.refl _ _).alloc (Nat.le_refl _) _⟩
                      | true =>
                        have HF := Lib.hid (show V = true by rw [HV.out]; simp [g4, g5, g6, g8, g9, g10, g11])
                        go_enter Tryz.func62, Tryz.ntmps62
                        go_wp2_with (first | (go_at_call 81; with_reducible refine Calls.mono (h0 _) ?_; rintro e w' ⟨rfl, rfl⟩) | (go_at_call 81; with_reducible refine Calls.mono (h1 _) ?_; rintro e w' ⟨rfl, rfl⟩) | (go_at_call 81; with_reducible refine Calls.mono (h2 _) ?_; rintro e w' ⟨rfl, rfl⟩) | (go_at_call 81; with_reducible refine Calls.mono (h3 _) ?_; rintro e w' ⟨rfl, rfl⟩) | (go_at_call 81; with_reducible refine Calls.mono (h4 _) ?_; rintro e w' ⟨rfl, rfl⟩))
                        go_ret
                        exact ⟨by rw [HF.out]; rfl, (Below.refl _ _).alloc (Nat.le_refl _) _⟩
end Go.Proofs.YtfannkpnmaeljaaGreatDoor

/- The reference's Runs, Catchup, Gap. -/
namespace Go.Proofs.YtfannkpnmaeljaaGreatDoor
open Go.RowKit

set_option maxRecDepth 100000 in
set_option maxHeartbeats 4000000 in
theorem rvld0 (c : Cl) (hk : ¬ (c.k = 1 ∨ c.k = 2) ∧ ¬ c.k = 3 ∧ ¬ c.k = 4 ∧ ¬ c.k = 5 ∧ ¬ c.k = 6) (w : World) : Calls Tryz.prog 62 #[.agg #[iv c.k, iv c.it, iv c.fr, iv c.to, iv c.rg, iv c.n, iv c.a, iv c.b]] w fun e w' => e = .returned (.bool (vldZ c)) ∧ Below w.heap.size w w' := by
  have hv : vldZ c = false := by unfold vldZ; simp [hk]
  have h0 := fun W => within_any c.it 1 4611686018427387903 W
  have h1 := fun W => within_any c.rg 1 255 W
  rw [hv]
  obtain ⟨k, it, fr, to, rg, n, a, b⟩ := c
  simp only at *
  generalize frm it 1 4611686018427387903 = v0 at *
  generalize frm rg 1 255 = v1 at *
  obtain ⟨k12, k3, k4, k5, k6⟩ := hk
  have k1 : ¬ k = 1 := fun h => k12 (.inl h)
  have k2 : ¬ k = 2 := fun h => k12 (.inr h)
  clear k12 hv
  cases v0 <;> (
    go_enter Tryz.func62, Tryz.ntmps62
    go_wp2_with (first | (go_at_call 81; with_reducible refine Calls.mono (h0 _) ?_; rintro e w' ⟨rfl, rfl⟩) | (go_at_call 81; with_reducible refine Calls.mono (h1 _) ?_; rintro e w' ⟨rfl, rfl⟩))
    go_ret
    exact ⟨rfl, (Below.refl _ _).alloc (Nat.le_refl _) _⟩)
theorem rcvalid_any (c : Cl) (w : World) : Calls Tryz.prog 62 #[.agg #[iv c.k, iv c.it, iv c.fr, iv c.to, iv c.rg, iv c.n, iv c.a, iv c.b]] w fun e w' => e = .returned (.bool (vldZ c)) ∧ Below w.heap.size w w' := by
  by_cases h12 : c.k = 1 ∨ c.k = 2
  · exact rvldA c h12 w
  by_cases h3 : c.k = 3
  · exact rvldB c h3 w
  by_cases h4 : c.k = 4
  · exact rvldC c h4 w
  by_cases h5 : c.k = 5
  · exact rvldD c h5 w
  by_cases h6 : c.k = 6
  · exact rvldE c h6 w
  · exact rvld0 c ⟨h12, h3, h4, h5, h6⟩ w

theorem vld_rg {c : Cl} (h : vldZ c = true) : 0 ≤ c.rg ∧ c.rg ≤ 255 := by
  unfold vldZ at h
  split at h
  · simp [tgt, frm] at h; omega
  split at h
  · simp [tgt, frm] at h; omega
  split at h
  · simp [tgt, frm] at h; omega
  split at h
  · simp [zer] at h; omega
  split at h
  · simp [zer] at h; omega
  · cases h

set_option maxHeartbeats 1000000 in
theorem rrhas_any (rg r : Int) (h0 : 0 ≤ rg ∧ rg ≤ 255) (w : World) : Calls Tryz.prog 95 #[iv rg, iv r] w fun e w' => e = .returned (.bool (conZ rg r)) ∧ w = w' := by
  obtain ⟨N, rfl⟩ : ∃ N : Nat, rg = N := ⟨rg.toNat, by omega⟩
  obtain ⟨V, hV⟩ : ∃ V, conZ N r = V := ⟨_, rfl⟩
  rw [hV]
  have HV := Lib.hid hV
  have hN : N ≤ 255 := by omega
  clear hV h0
  go_enter Tryz.func95, Tryz.ntmps95
  go_wp2_with fail
  go_loop [0, 5] (fun g i => ∃ k x : Nat, i = .int .i64 k ∧ g = .int .i64 x ∧ k ≤ 8 ∧ x ≤ 255 ∧ Hid (N / 2 ^ k = x) ∧ ∀ j : Nat, j < k → r ≠ j) (fun _ i => 8 - (intOf i).toNat)
  case atStart => exact ⟨0, N, rfl, rfl, by omega, hN, Lib.hid (by simp), fun j hj => by omega⟩
  case round =>
    obtain ⟨k, x, rfl, rfl, hk, hx255, hx, hr⟩ := hrel
    by_cases hlt : k < 8
    · by_cases he : r = k
      · subst he
        have hc : conZ N (k : Int) = ((x : Int) % 2 == 1) := by
          show (frm (k : Int) 0 7 && bitZ N (k : Int).toNat) = _
          rw [frm_iff.2 ⟨by omega, by omega⟩, Bool.true_and]
          unfold bitZ
          rw [Int.toNat_natCast, ← hx.out]
          rw [Bool.eq_iff_iff, decide_eq_true_eq, beq_iff_eq]
          push_cast
          exact Iff.rfl
        rw [hc] at HV
        have i1 : decide ((k : Int) < 8) = true := decide_eq_true (by omega)
        clear hr
        cases g : ((x : Int) % 2 == 1) <;> (
          rw [g] at HV
          have HW := HV.out.symm
          subst HW
          clear HV hc
          go_wp2_with fail
          go_ret
          exact ⟨rfl, rfl⟩)
      · have he2 : ((k : Int) == r) = false := by simpa using fun h => he h.symm
        have HR := Lib.hid hr
        have hw : wrap64 ((x : Int) / 2) = ((x / 2 : Nat) : Int) := by unfold wrap64; omega
        clear hr he
        go_wp2_with fail
        go_round
        case rel =>
          refine ⟨k + 1, x / 2, by go_num, by first | rfl | (congr 1; omega), by omega, by omega, Lib.hid (by rw [Nat.pow_succ, ← Nat.div_div_eq_div_mul, hx.out]), fun j hj => ?_⟩
          rcases (by omega : j < k ∨ j = k) with h | rfl
          · exact HR.out j h
          · intro h; simp [h] at he2
        case measure => simp [intOf]; omega
    · obtain rfl : k = 8 := by omega
      have hc : conZ N r = false := by
        show (frm r 0 7 && _) = _
        cases hf : frm r 0 7 with
        | false => rfl
        | true =>
          have := frm_iff.1 hf
          exact absurd (show r = ((r.toNat : Nat) : Int) by omega) (hr r.toNat (by omega))
      rw [hc] at HV
      have HW := HV.out.symm
      subst HW
      clear hr
      go_wp2_with fail
      go_ret
      exact ⟨rfl, rfl⟩

def cntZ (c : Cl) (kd it r : Int) : Bool := (c.k == kd) && vldZ c && (c.it == it) && conZ c.rg r
set_option maxRecDepth 100000 in
set_option maxHeartbeats 1000000 in
theorem counts_any (c : Cl) (kd it r : Int) (w : World) : Calls Tryz.prog 76 #[.agg #[iv c.k, iv c.it, iv c.fr, iv c.to, iv c.rg, iv c.n, iv c.a, iv c.b], iv kd, iv it, iv r] w fun e w' => e = .returned (.bool (cntZ c kd it r)) ∧ Below w.heap.size w w' := by
  have hVal := fun W => rcvalid_any c W
  have hHas := fun (h : 0 ≤ c.rg ∧ c.rg ≤ 255) W => rrhas_any c.rg r h W
  have hrg := vld_rg (c := c)
  have hv : cntZ c kd it r = ((c.k == kd) && vldZ c && (c.it == it) && conZ c.rg r) := rfl
  obtain ⟨ck, cit, cfr, cto, crg, cn, ca, cb⟩ := c
  simp only at *
  generalize vldZ ⟨ck, cit, cfr, cto, crg, cn, ca, cb⟩ = v at *
  generalize conZ crg r = q at *
  generalize cntZ ⟨ck, cit, cfr, cto, crg, cn, ca, cb⟩ kd it r = V at *
  have b0 : Below w.heap.size w (w.alloc (.cells #[iv ck, iv cit, iv cfr, iv cto, iv crg, iv cn, iv ca, iv cb] 53)) := (Below.refl _ _).alloc (Nat.le_refl _) _
  cases e1 : (ck == kd) with
  | false =>
    rw [e1] at hv
    have HF : Hid (V = false) := Lib.hid (by rw [hv]; simp)
    clear hv hVal hHas hrg
    go_enter Tryz.func76, Tryz.ntmps76
    go_wp2_with fail
    go_ret
    exact ⟨by rw [HF.out]; rfl, b0⟩
  | true =>
    rw [e1] at hv
    cases v with
    | false =>
      have HF : Hid (V = false) := Lib.hid (by rw [hv]; simp)
      clear hv hHas hrg
      go_enter Tryz.func76, Tryz.ntmps76
      go_wp2_with fail
      refine (hVal _).mono ?_
      rintro e w1 ⟨rfl, b1⟩
      have b2 := bthen b0 b1
      clear b1 hVal
      go_wp2_with fail
      go_ret
      exact ⟨by rw [HF.out]; rfl, b2⟩
    | true =>
      have hHas := hHas (hrg rfl)
      clear hrg
      cases e2 : (cit == it) with
      | false =>
        rw [e2] at hv
        have HF : Hid (V = false) := Lib.hid (by rw [hv]; simp)
        clear hv hHas
        go_enter Tryz.func76, Tryz.ntmps76
        go_wp2_with fail
        refine (hVal _).mono ?_
        rintro e w1 ⟨rfl, b1⟩
        have A1 := (Arr.new w 53 [iv ck, iv cit, iv cfr, iv cto, iv crg, iv cn, iv ca, iv cb]).below b1 (by simp)
        have q1 := A1.cell (i := 1) rfl
        have b2 := bthen b0 b1
        clear b1 hVal A1
        go_wp2_with fail
        go_ret
        exact ⟨by rw [HF.out]; rfl, b2⟩
      | true =>
        rw [e2] at hv
        have HF : Hid (V = q) := Lib.hid (by rw [hv]; simp)
        clear hv
        go_enter Tryz.func76, Tryz.ntmps76
        go_wp2_with fail
        refine (hVal _).mono ?_
        rintro e w1 ⟨rfl, b1⟩
        have A1 := (Arr.new w 53 [iv ck, iv cit, iv cfr, iv cto, iv crg, iv cn, iv ca, iv cb]).below b1 (by simp)
        have q1 := A1.cell (i := 1) rfl
        have q4 := A1.cell (i := 4) rfl
        have b2 := bthen b0 b1
        clear b1 hVal A1
        go_wp2_with fail
        refine (hHas _).mono ?_
        rintro e w2 ⟨rfl, rfl⟩
        go_wp2_with fail
        go_ret
        exact ⟨by rw [HF.out]; rfl, b2⟩

theorem cnt_abt (c : Cl) (kd it r : Int) : cntZ c kd it r = (decide (c.k = kd) && abtZ c it r) := by
  unfold cntZ abtZ
  rw [show (c.k == kd) = decide (c.k = kd) from rfl, show (c.it == it) = decide (c.it = it) from rfl]
  cases decide (c.k = kd) <;> cases vldZ c <;> cases decide (c.it = it) <;> cases conZ c.rg r <;> rfl
theorem last_snoc (l : List Cl) (c : Cl) (kd it r z : Int) : lastZ (l ++ [c]) kd it r z = if cntZ c kd it r = true then c.n else lastZ l kd it r z := by
  unfold lastZ
  rw [List.filter_append, List.foldl_append, cnt_abt]
  cases h : abtZ c it r with
  | false => simp [h]
  | true => simp [h]
end Go.Proofs.YtfannkpnmaeljaaGreatDoor

/- The reference's Runs, Catchup, Gap. -/
namespace Go.Proofs.YtfannkpnmaeljaaGreatDoor
open Go.RowKit

set_option maxRecDepth 100000 in
set_option maxHeartbeats 4000000 in
theorem rruns_any (p : Option Addr) (cap : Nat) (l : List Cl) (it r : Int) (w : World) (hS : ClAt w w.heap.size p l) (hlen : l.length ≤ 100000) :
    Calls Tryz.prog 47 #[.slice p l.length cap, iv it, iv r] w fun e w' => e = .returned (iv (lastZ l 3 it r (-1))) ∧ Below w.heap.size w w' := by
  have HS := Lib.hid hS
  clear hS
  obtain ⟨V, hV⟩ : ∃ V, lastZ l 3 it r (-1) = V := ⟨_, rfl⟩
  rw [hV]
  have HV := Lib.hid hV
  clear hV
  go_enter Tryz.func47, Tryz.ntmps47
  go_wp2_with fail
  go_loopw [7] (fun i wr => ∃ j : Int, i = .int .i64 j ∧ -1 ≤ j ∧ j < l.length ∧ Hid (lastZ (l.take (j + 1).toNat) 3 it r (-1) = V) ∧ Below w.heap.size w wr) (fun i _ => (intOf i + 1).toNat)
  case atStart => exact ⟨(l.length : Int) - 1, rfl, by omega, by omega, Lib.hid (by rw [show ((l.length : Int) - 1 + 1).toNat = l.length by omega, List.take_length]; exact HV.out), Below.refl _ _⟩
  case round =>
    clear HV
    obtain ⟨j, rfl, h1, h2, HG, hb⟩ := hrel
    by_cases hj : 0 ≤ j
    · obtain ⟨k, rfl⟩ : ∃ k : Nat, j = k := ⟨j.toNat, by omega⟩
      have hlt : k < l.length := by omega
      obtain ⟨B, o, rfl, hB, c0, c1, c2, c3, c4, c5, c6, c7⟩ := (HS.out.below hb).cells hlt
      obtain ⟨c, hc0⟩ : ∃ c, l.getD k Cl.zero = c := ⟨_, rfl⟩
      rw [show ((k : Int) + 1).toNat = k + 1 by omega, take_snoc hlt, hc0, last_snoc] at HG
      rw [hc0] at c0 c1 c2 c3 c4 c5 c6 c7
      have hCnt := fun W => counts_any c 3 it r W
      obtain ⟨ck, cit, cfr, cto, crg, cn, ca, cb⟩ := c
      simp only at c0 c1 c2 c3 c4 c5 c6 c7 hCnt HG
      generalize cntZ ⟨ck, cit, cfr, cto, crg, cn, ca, cb⟩ 3 it r = v at *
      have hk0 : (0 : Int) ≤ (k : Int) := by omega
      cases v with
      | false =>
        have HF : Hid (lastZ (l.take k) 3 it r (-1) = V) := Lib.hid (by simpa using HG.out)
        clear HG hc0
        go_wp2_with fail
        refine (hCnt _).mono ?_
        rintro e w1 ⟨rfl, b1⟩
        have b2 := hb.trans (b1.mono hb.size)
        clear b1 hCnt c0 c1 c2 c3 c4 c5 c6 c7
        go_wp2_with fail
        go_roundw
        case rel => exact ⟨(k : Int) - 1, by first | rfl | go_num, by omega, by omega, Lib.hid (by rw [show ((k : Int) - 1 + 1).toNat = k by omega]; exact HF.out), b2⟩
        case measure => simp [intOf]
      | true =>
        have HF : Hid (cn = V) := Lib.hid (by simpa using HG.out)
        clear HG
        go_wp2_with fail
        refine (hCnt _).mono ?_
        rintro e w1 ⟨rfl, b1⟩
        have b2 := hb.trans (b1.mono hb.size)
        obtain ⟨B', o', hB', -, -, -, -, -, -, c5, -, -⟩ := (HS.out.below b2).cells hlt
        simp only [Option.some.injEq, Addr.mk.injEq, and_true] at hB'
        obtain ⟨rfl, rfl⟩ := hB'
        rw [hc0] at c5
        simp only at c5
        clear b1 hCnt c0 c1 c2 c3 c4 c6 c7 hc0
        go_wp2_with fail
        go_ret
        exact ⟨by rw [← HF.out]; rfl, b2⟩
    · obtain rfl : j = -1 := by omega
      have HF : Hid (V = (-1)) := Lib.hid (by rw [← HG.out]; rfl)
      go_wp2_with fail
      go_ret
      exact ⟨by rw [HF.out]; rfl, hb⟩
set_option maxRecDepth 100000 in
set_option maxHeartbeats 4000000 in
theorem rcatchup_any (p : Option Addr) (cap : Nat) (l : List Cl) (it r : Int) (w : World) (hS : ClAt w w.heap.size p l) (hlen : l.length ≤ 100000) :
    Calls Tryz.prog 56 #[.slice p l.length cap, iv it, iv r] w fun e w' => e = .returned (iv (lastZ l 4 it r 0)) ∧ Below w.heap.size w w' := by
  have HS := Lib.hid hS
  clear hS
  obtain ⟨V, hV⟩ : ∃ V, lastZ l 4 it r 0 = V := ⟨_, rfl⟩
  rw [hV]
  have HV := Lib.hid hV
  clear hV
  go_enter Tryz.func56, Tryz.ntmps56
  go_wp2_with fail
  go_loopw [7] (fun i wr => ∃ j : Int, i = .int .i64 j ∧ -1 ≤ j ∧ j < l.length ∧ Hid (lastZ (l.take (j + 1).toNat) 4 it r 0 = V) ∧ Below w.heap.size w wr) (fun i _ => (intOf i + 1).toNat)
  case atStart => exact ⟨(l.length : Int) - 1, rfl, by omega, by omega, Lib.hid (by rw [show ((l.length : Int) - 1 + 1).toNat = l.length by omega, List.take_length]; exact HV.out), Below.refl _ _⟩
  case round =>
    clear HV
    obtain ⟨j, rfl, h1, h2, HG, hb⟩ := hrel
    by_cases hj : 0 ≤ j
    · obtain ⟨k, rfl⟩ : ∃ k : Nat, j = k := ⟨j.toNat, by omega⟩
      have hlt : k < l.length := by omega
      obtain ⟨B, o, rfl, hB, c0, c1, c2, c3, c4, c5, c6, c7⟩ := (HS.out.below hb).cells hlt
      obtain ⟨c, hc0⟩ : ∃ c, l.getD k Cl.zero = c := ⟨_, rfl⟩
      rw [show ((k : Int) + 1).toNat = k + 1 by omega, take_snoc hlt, hc0, last_snoc] at HG
      rw [hc0] at c0 c1 c2 c3 c4 c5 c6 c7
      have hCnt := fun W => counts_any c 4 it r W
      obtain ⟨ck, cit, cfr, cto, crg, cn, ca, cb⟩ := c
      simp only at c0 c1 c2 c3 c4 c5 c6 c7 hCnt HG
      generalize cntZ ⟨ck, cit, cfr, cto, crg, cn, ca, cb⟩ 4 it r = v at *
      have hk0 : (0 : Int) ≤ (k : Int) := by omega
      cases v with
      | false =>
        have HF : Hid (lastZ (l.take k) 4 it r 0 = V) := Lib.hid (by simpa using HG.out)
        clear HG hc0
        go_wp2_with fail
        refine (hCnt _).mono ?_
        rintro e w1 ⟨rfl, b1⟩
        have b2 := hb.trans (b1.mono hb.size)
        clear b1 hCnt c0 c1 c2 c3 c4 c5 c6 c7
        go_wp2_with fail
        go_roundw
        case rel => exact ⟨(k : Int) - 1, by first | rfl | go_num, by omega, by omega, Lib.hid (by rw [show ((k : Int) - 1 + 1).toNat = k by omega]; exact HF.out), b2⟩
        case measure => simp [intOf]
      | true =>
        have HF : Hid (cn = V) := Lib.hid (by simpa using HG.out)
        clear HG
        go_wp2_with fail
        refine (hCnt _).mono ?_
        rintro e w1 ⟨rfl, b1⟩
        have b2 := hb.trans (b1.mono hb.size)
        obtain ⟨B', o', hB', -, -, -, -, -, -, c5, -, -⟩ := (HS.out.below b2).cells hlt
        simp only [Option.some.injEq, Addr.mk.injEq, and_true] at hB'
        obtain ⟨rfl, rfl⟩ := hB'
        rw [hc0] at c5
        simp only at c5
        clear b1 hCnt c0 c1 c2 c3 c4 c6 c7 hc0
        go_wp2_with fail
        go_ret
        exact ⟨by rw [← HF.out]; rfl, b2⟩
    · obtain rfl : j = -1 := by omega
      have HF : Hid (V = 0) := Lib.hid (by rw [← HG.out]; rfl)
      go_wp2_with fail
      go_ret
      exact ⟨by rw [HF.out]; rfl, hb⟩
set_option maxRecDepth 100000 in
set_option maxHeartbeats 4000000 in
theorem rgap_any (p : Option Addr) (cap : Nat) (l : List Cl) (a b : Int) (w : World) (hS : ClAt w w.heap.size p l) (hlen : l.length ≤ 100000) :
    Calls Tryz.prog 52 #[.slice p l.length cap, iv a, iv b] w fun e w' => e = .returned (iv (gapZ l a b)) ∧ Below w.heap.size w w' := by
  have HS := Lib.hid hS
  clear hS
  obtain ⟨V, hV⟩ : ∃ V, gapZ l a b = V := ⟨_, rfl⟩
  rw [hV]
  have HV := Lib.hid hV
  clear hV
  go_enter Tryz.func52, Tryz.ntmps52
  go_wp2_with fail
  go_loopw [7, 8] (fun g i wr => ∃ (k : Nat) (gz : Int), i = .int .i64 k ∧ k ≤ l.length ∧ g = iv gz ∧ Hid (gz = gapZ (l.take k) a b) ∧ Below w.heap.size w wr) (fun _ i _ => l.length - (intOf i).toNat)
  case atStart => exact ⟨0, 0, rfl, by omega, rfl, Lib.hid rfl, Below.refl _ _⟩
  case round =>
    obtain ⟨k, gz, rfl, hk, rfl, HG, hb⟩ := hrel
    have hszr := hb.size
    by_cases hlt : k < l.length
    · obtain ⟨B, o, rfl, hB, c0, c1, c2, c3, c4, c5, c6, c7⟩ := (HS.out.below hb).cells hlt
      obtain ⟨c, hc0⟩ : ∃ c, l.getD k Cl.zero = c := ⟨_, rfl⟩
      rw [hc0] at c0 c1 c2 c3 c4 c5 c6 c7
      have hVal := fun W => rcvalid_any c W
      have hstep : gapZ (l.take (k + 1)) a b = if (pairB c a b && decide (c.k = 5) && vldZ c) = true then max gz c.n else gz := by
        rw [take_snoc hlt, hc0]
        unfold gapZ
        rw [List.foldl_append]
        show (if _ then max (gapZ (l.take k) a b) c.n else gapZ (l.take k) a b) = _
        rw [← HG.out]
      clear hc0
      obtain ⟨ck, cit, cfr, cto, crg, cn, ca, cb⟩ := c
      simp only at c0 c1 c2 c3 c4 c5 c6 c7 hVal hstep
      generalize vldZ ⟨ck, cit, cfr, cto, crg, cn, ca, cb⟩ = v at *
      have hpr : pairB ⟨ck, cit, cfr, cto, crg, cn, ca, cb⟩ a b = ((ca == a) && (cb == b) || (ca == b) && (cb == a)) := rfl
      rw [hpr] at hstep
      have hk5 : decide (ck = 5) = (ck == 5) := rfl
      rw [hk5] at hstep
      have i1 : (0 : Int) ≤ (k : Int) := by omega
      have i2 : (k : Int) < (l.length : Int) := by omega
      clear hpr hk5
      have b0 : Below w.heap.size w (wr.alloc (.cells #[iv ck, iv cit, iv cfr, iv cto, iv crg, iv cn, iv ca, iv cb] 53)) := hb.alloc hszr _
      cases e5 : (ck == 5) with
      | false =>
        rw [e5] at hstep
        have HST : Hid (gapZ (l.take (k + 1)) a b = gz) := Lib.hid (by rw [hstep]; simp)
        clear hstep hVal
        go_wp2_with fail
        go_roundw
        case rel => exact ⟨k + 1, gz, by go_num, by omega, rfl, Lib.hid HST.out.symm, b0⟩
        case measure => simp [intOf]; omega
      | true =>
        rw [e5] at hstep
        cases v with
        | false =>
          have HST : Hid (gapZ (l.take (k + 1)) a b = gz) := Lib.hid (by rw [hstep]; simp)
          clear hstep
          go_wp2_with fail
          refine (hVal _).mono ?_
          rintro e w1 ⟨rfl, b1⟩
          have b2 := b0.trans (b1.mono b0.size)
          clear b1 hVal
          go_wp2_with fail
          go_roundw
          case rel => exact ⟨k + 1, gz, by go_num, by omega, rfl, Lib.hid HST.out.symm, b2⟩
          case measure => simp [intOf]; omega
        | true =>
          go_wp2_with fail
          refine (hVal _).mono ?_
          rintro e w1 ⟨rfl, b1⟩
          have A1 := (Arr.new wr 53 [iv ck, iv cit, iv cfr, iv cto, iv crg, iv cn, iv ca, iv cb]).below b1 (by simp)
          have q5 := A1.cell (i := 5) rfl
          have q6 := A1.cell (i := 6) rfl
          have q7 := A1.cell (i := 7) rfl
          have b2 := b0.trans (b1.mono b0.size)
          clear b1 hVal A1
          cases e1 : (ca == a) <;> cases e2 : (cb == b) <;> cases e3 : (ca == b) <;> cases e4 : (cb == a)
          all_goals
            rw [e1, e2, e3, e4] at hstep
            first
            | (have HST : Hid (gapZ (l.take (k + 1)) a b = gz) := Lib.hid (by rw [hstep]; simp; done)
               clear hstep
               go_wp2_with fail
               go_roundw
               case rel => exact ⟨k + 1, gz, by go_num, by omega, rfl, Lib.hid HST.out.symm, b2⟩
               case measure => simp [intOf]; omega
               done)
            | (have HST : Hid (gapZ (l.take (k + 1)) a b = max gz cn) := Lib.hid (by rw [hstep]; simp; done)
               clear hstep
               go_wp2_with fail
               go_roundw
               case rel => exact ⟨k + 1, max gz cn, by go_num, by omega, by first | rfl | ((show Value.int .i64 _ = Value.int .i64 (max gz cn)); congr 1; split <;> omega), Lib.hid HST.out.symm, b2⟩
               case measure => simp [intOf]; omega)
    · obtain rfl : k = l.length := by omega
      rw [List.take_length] at HG
      have hgv : Hid (gz = V) := Lib.hid (HG.out.trans HV.out)
      go_wp2_with fail
      go_ret
      exact ⟨by rw [hgv.out]; rfl, hb⟩
end Go.Proofs.YtfannkpnmaeljaaGreatDoor

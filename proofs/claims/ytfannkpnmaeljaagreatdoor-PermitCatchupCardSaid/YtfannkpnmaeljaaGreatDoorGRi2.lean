import Derived.Test.YtfannkpnmaeljaaGreatDoorGRi1
set_option linter.unusedVariables false
set_option linter.unusedSimpArgs false
/- Valid. -/
namespace Go.Proofs.YtfannkpnmaeljaaGreatDoor
open Go.RowKit

set_option maxRecDepth 100000 in
set_option maxHeartbeats 4000000 in
theorem vld6 (c : Cl) (hk : c.k = 6) (w : World) : Calls Tryz.prog 80 #[.agg #[iv c.k, iv c.it, iv c.fr, iv c.to, iv c.rg, iv c.n, iv c.a, iv c.b]] w fun e w' => e = .returned (.bool (vldZ c)) ∧ Below w.heap.size w w' := by
  have hT := fun W => hasTarget_any c W
  have hv : vldZ c = (frm c.a 1 3 && (mnt c.fr && mnt c.to && !decide (c.fr = c.to)) && zer [c.it, c.rg, c.n, c.b]) := by
    unfold vldZ
    simp [hk]
  have hZ := fun (W : World) => areZero_any [c.it, c.rg, c.n, c.b] W.heap.size 4 (W.alloc (.cells #[iv c.it, iv c.rg, iv c.n, iv c.b] 3)) 3 (Arr.new W _ _) (by simp)
  have h2 := fun W => isMinute_any c.fr W
  have h3 := fun W => isMinute_any c.to W
  have h1 := fun W => isFrom_any c.a 1 3 W
  obtain ⟨k, it, fr, to, rg, n, a, b⟩ := c
  simp only at *
  generalize tgt ⟨k, it, fr, to, rg, n, a, b⟩ = vT at *
  generalize mnt fr = v2 at *
  generalize mnt to = v3 at *
  generalize frm a 1 3 = v1 at *
  generalize zer [it, rg, n, b] = vZ at *
  have HV := Lib.hid hv
  clear hv
  generalize vldZ ⟨k, it, fr, to, rg, n, a, b⟩ = V at *
  subst hk
  have A0 := Arr.new w 53 [iv 6, iv it, iv fr, iv to, iv rg, iv n, iv a, iv b]
  have B0 : Below w.heap.size w (w.alloc (.cells #[iv 6, iv it, iv fr, iv to, iv rg, iv n, iv a, iv b] 53)) := (Below.refl _ _).alloc (Nat.le_refl _) _
  have hl0 := A0.lt
  go_enter Tryz.func80, Tryz.ntmps80
  go_wp2_with fail
  obtain ⟨W0, hW0⟩ : ∃ W0, w.alloc (.cells #[iv 6, iv it, iv fr, iv to, iv rg, iv n, iv a, iv b] 53) = W0 := ⟨_, rfl⟩
  have A1 : Arr W0 w.heap.size 53 [iv 6, iv it, iv fr, iv to, iv rg, iv n, iv a, iv b] := by rw [← hW0]; exact A0
  rw [hW0] at B0
  rw [hW0]
  have q1 := A1.cell (i := 1) rfl
  have q2 := A1.cell (i := 2) rfl
  have q3 := A1.cell (i := 3) rfl
  have q4 := A1.cell (i := 4) rfl
  have q5 := A1.cell (i := 5) rfl
  have q6 := A1.cell (i := 6) rfl
  have q7 := A1.cell (i := 7) rfl
  clear hW0 A0 hl0
  cases v2 with
  | false =>
    cases v1 with
    | false =>
      have HF := Lib.hid (show V = false by rw [HV.out]; simp)
      go_wp2_with (first | (go_at_call 101; with_reducible refine Calls.mono (h2 _) ?_; rintro e w' ⟨rfl, rfl⟩) | (go_at_call 101; with_reducible refine Calls.mono (h3 _) ?_; rintro e w' ⟨rfl, rfl⟩) | (go_at_call 100; with_reducible refine Calls.mono (h1 _) ?_; rintro e w' ⟨rfl, rfl⟩))
      go_ret
      exact ⟨by rw [HF.out]; rfl, B0⟩
    | true =>
      have HF := Lib.hid (show V = false by rw [HV.out]; simp)
      go_wp2_with (first | (go_at_call 101; with_reducible refine Calls.mono (h2 _) ?_; rintro e w' ⟨rfl, rfl⟩) | (go_at_call 101; with_reducible refine Calls.mono (h3 _) ?_; rintro e w' ⟨rfl, rfl⟩) | (go_at_call 100; with_reducible refine Calls.mono (h1 _) ?_; rintro e w' ⟨rfl, rfl⟩))
      go_ret
      exact ⟨by rw [HF.out]; rfl, B0⟩
  | true =>
    cases v3 with
    | false =>
      cases v1 with
      | false =>
        have HF := Lib.hid (show V = false by rw [HV.out]; simp)
        go_wp2_with (first | (go_at_call 101; with_reducible refine Calls.mono (h2 _) ?_; rintro e w' ⟨rfl, rfl⟩) | (go_at_call 101; with_reducible refine Calls.mono (h3 _) ?_; rintro e w' ⟨rfl, rfl⟩) | (go_at_call 100; with_reducible refine Calls.mono (h1 _) ?_; rintro e w' ⟨rfl, rfl⟩))
        go_ret
        exact ⟨by rw [HF.out]; rfl, B0⟩
      | true =>
        have HF := Lib.hid (show V = false by rw [HV.out]; simp)
        go_wp2_with (first | (go_at_call 101; with_reducible refine Calls.mono (h2 _) ?_; rintro e w' ⟨rfl, rfl⟩) | (go_at_call 101; with_reducible refine Calls.mono (h3 _) ?_; rintro e w' ⟨rfl, rfl⟩) | (go_at_call 100; with_reducible refine Calls.mono (h1 _) ?_; rintro e w' ⟨rfl, rfl⟩))
        go_ret
        exact ⟨by rw [HF.out]; rfl, B0⟩
    | true =>
      by_cases g1 : fr = to
      · have eg1 : (fr != to) = false := by simp [g1]
        cases v1 with
        | false =>
          have HF := Lib.hid (show V = false by rw [HV.out]; simp [g1])
          clear g1
          go_wp2_with (first | (go_at_call 101; with_reducible refine Calls.mono (h2 _) ?_; rintro e w' ⟨rfl, rfl⟩) | (go_at_call 101; with_reducible refine Calls.mono (h3 _) ?_; rintro e w' ⟨rfl, rfl⟩) | (go_at_call 100; with_reducible refine Calls.mono (h1 _) ?_; rintro e w' ⟨rfl, rfl⟩))
          go_ret
          exact ⟨by rw [HF.out]; rfl, B0⟩
        | true =>
          have HF := Lib.hid (show V = false by rw [HV.out]; simp [g1])
          clear g1
          go_wp2_with (first | (go_at_call 101; with_reducible refine Calls.mono (h2 _) ?_; rintro e w' ⟨rfl, rfl⟩) | (go_at_call 101; with_reducible refine Calls.mono (h3 _) ?_; rintro e w' ⟨rfl, rfl⟩) | (go_at_call 100; with_reducible refine Calls.mono (h1 _) ?_; rintro e w' ⟨rfl, rfl⟩))
          go_ret
          exact ⟨by rw [HF.out]; rfl, B0⟩
      · have eg1 : (fr != to) = true := by simp [g1]
        cases v1 with
        | false =>
          have HF := Lib.hid (show V = false by rw [HV.out]; simp [g1])
          clear g1
          go_wp2_with (first | (go_at_call 101; with_reducible refine Calls.mono (h2 _) ?_; rintro e w' ⟨rfl, rfl⟩) | (go_at_call 101; with_reducible refine Calls.mono (h3 _) ?_; rintro e w' ⟨rfl, rfl⟩) | (go_at_call 100; with_reducible refine Calls.mono (h1 _) ?_; rintro e w' ⟨rfl, rfl⟩))
          go_ret
          exact ⟨by rw [HF.out]; rfl, B0⟩
        | true =>
          have HF := Lib.hid (show V = vZ by rw [HV.out]; simp [g1])
          go_wp2_with (first | (go_at_call 101; with_reducible refine Calls.mono (h2 _) ?_; rintro e w' ⟨rfl, rfl⟩) | (go_at_call 101; with_reducible refine Calls.mono (h3 _) ?_; rintro e w' ⟨rfl, rfl⟩) | (go_at_call 100; with_reducible refine Calls.mono (h1 _) ?_; rintro e w' ⟨rfl, rfl⟩))
          refine (hZ _).mono ?_
          rintro e w2 ⟨rfl, rfl⟩
          go_wp2_with fail
          go_ret
          exact ⟨by rw [HF.out]; rfl, B0.alloc B0.size _⟩
end Go.Proofs.YtfannkpnmaeljaaGreatDoor

/- Valid. -/
namespace Go.Proofs.YtfannkpnmaeljaaGreatDoor
open Go.RowKit

set_option maxRecDepth 100000 in
set_option maxHeartbeats 4000000 in
theorem vld0 (c : Cl) (hk : ¬ (c.k = 1 ∨ c.k = 2) ∧ ¬ c.k = 3 ∧ ¬ c.k = 4 ∧ ¬ c.k = 5 ∧ ¬ c.k = 6) (w : World) : Calls Tryz.prog 80 #[.agg #[iv c.k, iv c.it, iv c.fr, iv c.to, iv c.rg, iv c.n, iv c.a, iv c.b]] w fun e w' => e = .returned (.bool (vldZ c)) ∧ Below w.heap.size w w' := by
  have hv : vldZ c = false := by unfold vldZ; simp [hk]
  rw [hv]
  obtain ⟨k, it, fr, to, rg, n, a, b⟩ := c
  simp only at *
  obtain ⟨k12, k3, k4, k5, k6⟩ := hk
  have k1 : ¬ k = 1 := fun h => k12 (.inl h)
  have k2 : ¬ k = 2 := fun h => k12 (.inr h)
  clear k12 hv
  go_enter Tryz.func80, Tryz.ntmps80
  go_wp2_with fail
  go_ret
  exact ⟨rfl, (Below.refl _ _).alloc (Nat.le_refl _) _⟩

theorem cvalid_any (c : Cl) (w : World) : Calls Tryz.prog 80 #[.agg #[iv c.k, iv c.it, iv c.fr, iv c.to, iv c.rg, iv c.n, iv c.a, iv c.b]] w fun e w' => e = .returned (.bool (vldZ c)) ∧ Below w.heap.size w w' := by
  by_cases h12 : c.k = 1 ∨ c.k = 2
  · exact vld12 c h12 w
  by_cases h3 : c.k = 3
  · exact vld3 c h3 w
  by_cases h4 : c.k = 4
  · exact vld4 c h4 w
  by_cases h5 : c.k = 5
  · exact vld5 c h5 w
  by_cases h6 : c.k = 6
  · exact vld6 c h6 w
  · exact vld0 c ⟨h12, h3, h4, h5, h6⟩ w
end Go.Proofs.YtfannkpnmaeljaaGreatDoor

/- Gap, Watersheds; whether a set contains a region. -/
namespace Go.Proofs.YtfannkpnmaeljaaGreatDoor
open Go.RowKit

theorem take_snoc {l : List Cl} {k : Nat} (h : k < l.length) : l.take (k + 1) = l.take k ++ [l.getD k Cl.zero] := by
  rw [List.take_add_one, List.getElem?_eq_getElem h, List.getD_eq_getElem?_getD, List.getElem?_eq_getElem h]; rfl
theorem and1 (n : Int) : bits .and .i64 n 1 = n % 2 := by
  have h1 : (BitVec.ofInt 64 1).toNat = 2 ^ 1 - 1 := by decide
  have key : (BitVec.ofInt 64 n &&& BitVec.ofInt 64 1).toNat = (n % ((2 ^ 64 : Nat) : Int)).toNat % 2 ^ 1 := by
    rw [BitVec.toNat_and, BitVec.toNat_ofInt, h1, Nat.and_two_pow_sub_one_eq_mod]
  show IntKind.i64.wrap ((BitVec.ofInt 64 n &&& BitVec.ofInt 64 1).toNat : Nat) = n % 2
  rw [key, IntKind.wrap_i64]
  omega
set_option maxHeartbeats 1000000 in
theorem ccontains_any (rg r : Int) (w : World) : Calls Tryz.prog 115 #[iv rg, iv r] w fun e w' => e = .returned (.bool (conZ rg r)) ∧ w = w' := by
  have h := fun W => isRegion_any r W
  have hr : conZ rg r = (frm r 0 7 && bitZ rg r.toNat) := rfl
  have hp : frm r 0 7 = true → 0 ≤ r ∧ r ≤ 7 := fun h => frm_iff.1 h
  cases hv : frm r 0 7 with
  | false =>
    rw [hv] at hr h
    have HR := Lib.hid hr
    clear hr hp hv
    go_enter Tryz.func115, Tryz.ntmps115
    go_wp2_with fail
    refine (h _).mono ?_; rintro e w' ⟨rfl, rfl⟩
    go_wp2_with fail
    go_ret
    exact ⟨by rw [HR.out]; rfl, rfl⟩
  | true =>
    obtain ⟨h0, h1⟩ := hp hv
    rw [hv] at hr h
    obtain ⟨m, rfl⟩ : ∃ m : Nat, r = m := ⟨r.toNat, by omega⟩
    have HR := Lib.hid hr
    clear hr hp hv
    go_enter Tryz.func115, Tryz.ntmps115
    go_wp2_with fail
    refine (h _).mono ?_; rintro e w' ⟨rfl, rfl⟩
    go_wp2_with fail
    go_ret
    refine ⟨?_, rfl⟩
    rw [HR.out, and1]
    rfl

/-- A clause's cells. -/
theorem ClAt.cells {w : World} {n₀ : Nat} {p : Option Addr} {l : List Cl} (h : ClAt w n₀ p l) {k : Nat} (hk : k < l.length) : ∃ b o, p = some ⟨b, o, none⟩ ∧ b < n₀ ∧
    w.cell? ⟨b, o + k * 8, none⟩ = some (iv (l.getD k Cl.zero).k) ∧ w.cell? ⟨b, o + k * 8 + 1, none⟩ = some (iv (l.getD k Cl.zero).it) ∧ w.cell? ⟨b, o + k * 8 + 2, none⟩ = some (iv (l.getD k Cl.zero).fr) ∧ w.cell? ⟨b, o + k * 8 + 3, none⟩ = some (iv (l.getD k Cl.zero).to) ∧
    w.cell? ⟨b, o + k * 8 + 4, none⟩ = some (iv (l.getD k Cl.zero).rg) ∧ w.cell? ⟨b, o + k * 8 + 5, none⟩ = some (iv (l.getD k Cl.zero).n) ∧ w.cell? ⟨b, o + k * 8 + 6, none⟩ = some (iv (l.getD k Cl.zero).a) ∧ w.cell? ⟨b, o + k * 8 + 7, none⟩ = some (iv (l.getD k Cl.zero).b) := by
  obtain ⟨b, o, e, hb, hc⟩ := h k hk
  exact ⟨b, o, e, hb, hc 0 (by decide), hc 1 (by decide), hc 2 (by decide), hc 3 (by decide), hc 4 (by decide), hc 5 (by decide), hc 6 (by decide), hc 7 (by decide)⟩

set_option maxRecDepth 100000 in
set_option maxHeartbeats 4000000 in
theorem gap_any (p : Option Addr) (cap : Nat) (l : List Cl) (a b : Int) (w : World) (hS : ClAt w w.heap.size p l) (hlen : l.length ≤ 100000) :
    Calls Tryz.prog 51 #[.slice p l.length cap, iv a, iv b] w fun e w' => e = .returned (iv (gapZ l a b)) ∧ Below w.heap.size w w' := by
  have HS := Lib.hid hS
  clear hS
  obtain ⟨V, hV⟩ : ∃ V, gapZ l a b = V := ⟨_, rfl⟩
  rw [hV]
  have HV := Lib.hid hV
  clear hV
  go_enter Tryz.func51, Tryz.ntmps51
  go_wp2_with fail
  go_loopw [7, 13] (fun g i wr => ∃ (k : Nat) (gz : Int), i = .int .i64 k ∧ k ≤ l.length ∧ g = iv gz ∧ Hid (gz = gapZ (l.take k) a b) ∧ Below w.heap.size w wr) (fun _ i _ => l.length - (intOf i).toNat)
  case atStart => exact ⟨0, 0, rfl, by omega, rfl, Lib.hid rfl, Below.refl _ _⟩
  case round =>
    obtain ⟨k, gz, rfl, hk, rfl, HG, hb⟩ := hrel
    have hszr := hb.size
    by_cases hlt : k < l.length
    · obtain ⟨B, o, rfl, hB, c0, c1, c2, c3, c4, c5, c6, c7⟩ := (HS.out.below hb).cells hlt
      obtain ⟨c, hc0⟩ : ∃ c, l.getD k Cl.zero = c := ⟨_, rfl⟩
      rw [hc0] at c0 c1 c2 c3 c4 c5 c6 c7
      have hVal := fun W => cvalid_any c W
      have hstep : gapZ (l.take (k + 1)) a b = if (pairB c a b && decide (c.k = 5) && vldZ c) = true then max gz c.n else gz := by
        rw [take_snoc hlt, hc0]
        unfold gapZ
        rw [List.foldl_append]
        show (if _ then max (gapZ (l.take k) a b) c.n else gapZ (l.take k) a b) = _
        rw [← HG.out]
      clear hc0
      obtain ⟨ck, cit, cfr, cto, crg, cn, ca, cb⟩ := c
      simp only at c0 c1 c2 c3 c4 c5 c6 c7 hVal hstep
      generalize vldZ ⟨ck, cit, cfr, cto, crg, cn, ca, cb⟩ = v at *
      have hpr : pairB ⟨ck, cit, cfr, cto, crg, cn, ca, cb⟩ a b = ((ca == a) && (cb == b) || (ca == b) && (cb == a)) := rfl
      rw [hpr] at hstep
      have hk5 : decide (ck = 5) = (ck == 5) := rfl
      rw [hk5] at hstep
      have i1 : (0 : Int) ≤ (k : Int) := by omega
      have i2 : (k : Int) < (l.length : Int) := by omega
      clear hpr hk5
      have b0 : Below w.heap.size w (wr.alloc (.cells #[iv ck, iv cit, iv cfr, iv cto, iv crg, iv cn, iv ca, iv cb] 53)) := hb.alloc hszr _
      cases e1 : (ca == a) <;> cases e2 : (cb == b) <;> cases e3 : (ca == b) <;> cases e4 : (cb == a)
      all_goals
        rw [e1, e2, e3, e4] at hstep
        first
        | (have HST : Hid (gapZ (l.take (k + 1)) a b = gz) := Lib.hid (by rw [hstep]; simp; done)
           clear hstep hVal
           go_wp2_with fail
           go_roundw
           case rel => exact ⟨k + 1, gz, by go_num, by omega, rfl, Lib.hid HST.out.symm, b0⟩
           case measure => simp [intOf]; omega
           done)
        | (cases e5 : (ck == 5)
           · rw [e5] at hstep
             have HST : Hid (gapZ (l.take (k + 1)) a b = gz) := Lib.hid (by rw [hstep]; simp; done)
             clear hstep hVal
             go_wp2_with fail
             go_roundw
             case rel => exact ⟨k + 1, gz, by go_num, by omega, rfl, Lib.hid HST.out.symm, b0⟩
             case measure => simp [intOf]; omega
           · rw [e5] at hstep
             cases v with
             | false =>
               have HST : Hid (gapZ (l.take (k + 1)) a b = gz) := Lib.hid (by rw [hstep]; simp; done)
               clear hstep
               go_wp2_with fail
               refine (hVal _).mono ?_
               rintro e w1 ⟨rfl, b1⟩
               have b2 := b0.trans (b1.mono b0.size)
               clear b1 hVal
               go_wp2_with fail
               go_roundw
               case rel => exact ⟨k + 1, gz, by go_num, by omega, rfl, Lib.hid HST.out.symm, b2⟩
               case measure => simp [intOf]; omega
             | true =>
               have HST : Hid (gapZ (l.take (k + 1)) a b = max gz cn) := Lib.hid (by rw [hstep]; simp; done)
               clear hstep
               go_wp2_with fail
               refine (hVal _).mono ?_
               rintro e w1 ⟨rfl, b1⟩
               have A1 := (Arr.new wr 53 [iv ck, iv cit, iv cfr, iv cto, iv crg, iv cn, iv ca, iv cb]).below b1 (by simp)
               have q5 := A1.cell (i := 5) rfl
               have b2 := b0.trans (b1.mono b0.size)
               clear b1 hVal A1
               go_wp2_with fail
               go_roundw
               case rel => exact ⟨k + 1, max gz cn, by go_num, by omega, by (show Value.int .i64 _ = Value.int .i64 (max gz cn)); (first | rfl | (congr 1; split <;> omega)), Lib.hid HST.out.symm, b2⟩
               case measure => simp [intOf]; omega)
    · obtain rfl : k = l.length := by omega
      rw [List.take_length] at HG
      have hgv : Hid (gz = V) := Lib.hid (HG.out.trans HV.out)
      go_wp2_with fail
      go_ret
      exact ⟨by rw [hgv.out]; rfl, hb⟩
end Go.Proofs.YtfannkpnmaeljaaGreatDoor

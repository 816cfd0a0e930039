/- The counting functions of timecode. -/
import Derived.Test.YtfpmmfoinjcclaaDoorTcFns
import Derived.Deep.QuietTactic
import Derived.BigQuiet
import Derived.StillTailTactics
import Derived.Deep.RegionHeld3
import Derived.OwnWalk
namespace Go.Proofs.YtfpmmfoinjcclaaDoor
open Go.RowKit

theorem box4 (w : World) (a b c d : Int) : ∃ W0, w.alloc (.cells #[iv a, iv b, iv c, iv d] 54) = W0 ∧ Below w.heap.size w W0 ∧ W0.heap.size = w.heap.size + 1 ∧
    W0.cell? ⟨w.heap.size, 0, none⟩ = some (iv a) ∧ W0.cell? ⟨w.heap.size, 1, none⟩ = some (iv b) ∧ W0.cell? ⟨w.heap.size, 2, none⟩ = some (iv c) ∧ W0.cell? ⟨w.heap.size, 3, none⟩ = some (iv d) :=
  have k := Arr.new w 54 [iv a, iv b, iv c, iv d]
  ⟨_, rfl, (Below.refl _ _).alloc (Nat.le_refl _) _, by simp, k.cell rfl, k.cell rfl, k.cell rfl, k.cell rfl⟩
theorem held4 {w w8 w9 : World} {B : Nat} {a b c d : Int} (hB : B < w.heap.size)
    (h : w8.cell? ⟨B, 0, none⟩ = some (iv a) ∧ w8.cell? ⟨B, 1, none⟩ = some (iv b) ∧ w8.cell? ⟨B, 2, none⟩ = some (iv c) ∧ w8.cell? ⟨B, 3, none⟩ = some (iv d) ∧ Below w.heap.size w w8) (hb : Below w8.heap.size w8 w9) :
    w9.cell? ⟨B, 0, none⟩ = some (iv a) ∧ w9.cell? ⟨B, 1, none⟩ = some (iv b) ∧ w9.cell? ⟨B, 2, none⟩ = some (iv c) ∧ w9.cell? ⟨B, 3, none⟩ = some (iv d) ∧ Below w.heap.size w w9 := by
  obtain ⟨h0, h1, h2, h3, h4⟩ := h
  have hs := h4.size
  exact ⟨(hb.cell (p := ⟨B, 0, none⟩) (by simp; omega)).trans h0, (hb.cell (p := ⟨B, 1, none⟩) (by simp; omega)).trans h1, (hb.cell (p := ⟨B, 2, none⟩) (by simp; omega)).trans h2, (hb.cell (p := ⟨B, 3, none⟩) (by simp; omega)).trans h3, bthen h4 hb⟩

set_option maxHeartbeats 400000 in
theorem isFrame_any (n : Int) (w : World) :
    Calls Tryd.prog 33 #[.int .i64 n] w fun e w' => e = .returned (.bool (decide (0 ≤ n ∧ n ≤ 100000000))) ∧ w = w' := by
  by_cases h : 0 ≤ n
  · go_enter Tryd.func33, Tryd.ntmps33
    go_wp2
    go_ret
    exact ⟨by simp [h], rfl⟩
  · go_enter Tryd.func33, Tryd.ntmps33
    go_wp2
    go_ret
    have hd : decide (0 ≤ n) = false := by simpa using h
    exact ⟨by simp [hd], rfl⟩

set_option maxHeartbeats 400000 in
theorem ceil_any (a b : Int) (w : World) (h1 : 0 ≤ a) (h2 : 1 ≤ b) (h3 : a ≤ 4611686018427387903) (h4 : b ≤ 4611686018427387903) :
    Calls Tryd.prog 35 #[.int .i64 a, .int .i64 b] w fun e w' => e = .returned (.int .i64 ((a + b - 1) / b)) ∧ w = w' := by
  go_enter Tryd.func35, Tryd.ntmps35
  go_wp2
  go_ret
  exact ⟨rfl, rfl⟩

theorem w64 {n : Int} (h1 : -9223372036854775808 ≤ n) (h2 : n ≤ 9223372036854775807) : IntKind.i64.wrap n = n := by
  rw [IntKind.wrap_i64]; omega

theorem below_drewN {B : Nat} {a w : World} (h : Below B a w) (n : Nat) : Below B a (w.drewN n) := ⟨h.os, h.tape, h.output, h.size, h.block⟩
set_option maxHeartbeats 400000 in
theorem minute_any (a b c d M : Nat) (w : World) (hc : c ≤ 60) (hM : M = 60 * c) :
    Calls Tryd.prog 46 #[.agg #[iv a, iv b, iv c, iv d]] w fun e w' => e = .returned (.int .i64 (M : Int)) ∧ Below w.heap.size w w' := by
  have e1 : 60 * (c : Int) = (M : Int) := by omega
  clear hM
  go_enter Tryd.func46, Tryd.ntmps46
  go_wp2
  go_ret
  exact ⟨by simp [e1], (Below.refl _ _).alloc (Nat.le_refl _) _⟩

set_option maxHeartbeats 400000 in
theorem sep_any (a b c d : Nat) (w : World) :
    Calls Tryd.prog 42 #[.agg #[iv a, iv b, iv c, iv d]] w fun e w' => e = .returned (.int .u8 (if 0 < d then 59 else 58)) ∧ Below w.heap.size w w' := by
  by_cases h : 0 < d
  · rw [if_pos h]
    go_enter Tryd.func42, Tryd.ntmps42
    go_wp2
    go_ret
    exact ⟨rfl, (Below.refl _ _).alloc (Nat.le_refl _) _⟩
  · rw [if_neg h]
    go_enter Tryd.func42, Tryd.ntmps42
    go_wp2
    go_ret
    exact ⟨rfl, (Below.refl _ _).alloc (Nat.le_refl _) _⟩

set_option maxHeartbeats 2000000 in
theorem ten_any (a b c d T : Nat) (w : World) (hc : c ≤ 60) (hd : d ≤ 4) (hT : T + 9 * d = 600 * c) :
    Calls Tryd.prog 47 #[.agg #[iv a, iv b, iv c, iv d]] w fun e w' => e = .returned (.int .i64 (T : Int)) ∧ Below w.heap.size w w' := by
  obtain ⟨M, hM⟩ : ∃ M, M = 60 * c := ⟨_, rfl⟩
  have e1 : IntKind.i64.wrap (10 * (M : Int)) = 10 * (M : Int) := w64 (by omega) (by omega)
  have e2 : IntKind.i64.wrap (9 * (d : Int)) = 9 * (d : Int) := w64 (by omega) (by omega)
  have e3 : IntKind.i64.wrap (10 * (M : Int) - 9 * (d : Int)) = (T : Int) := by rw [w64 (by omega) (by omega)]; omega
  have HM := Lib.hid hM; clear hM hT
  go_enter Tryd.func47, Tryd.ntmps47
  go_wp2_with fail
  obtain ⟨W0, hW0, hb0, hsz, k0, k1, k2, k3⟩ := box4 w a b c d
  rw [hW0]; clear hW0
  have hlt : w.heap.size < W0.heap.size := by omega
  have hS : (fun w' => w'.cell? ⟨w.heap.size, 0, none⟩ = some (iv a) ∧ w'.cell? ⟨w.heap.size, 1, none⟩ = some (iv b) ∧ w'.cell? ⟨w.heap.size, 2, none⟩ = some (iv c) ∧ w'.cell? ⟨w.heap.size, 3, none⟩ = some (iv d) ∧ Below W0.heap.size W0 w') W0.drew := ⟨k0, k1, k2, k3, (Below.refl _ _).drew⟩
  go_region_held3 (fun w' => w'.cell? ⟨w.heap.size, 0, none⟩ = some (iv a) ∧ w'.cell? ⟨w.heap.size, 1, none⟩ = some (iv b) ∧ w'.cell? ⟨w.heap.size, 2, none⟩ = some (iv c) ∧ w'.cell? ⟨w.heap.size, 3, none⟩ = some (iv d) ∧ Below W0.heap.size W0 w') (first | assumption | exact hS | exact held4 (by assumption) (by assumption) (by assumption) | fail)
    (first | (go_at_call 46; with_reducible refine Calls.mono (minute_any a b c d M _ hc HM.out) ?_; rintro e w1 ⟨rfl, b1⟩) | fail)
  have hz := (show (fun w' => w'.cell? ⟨w.heap.size, 0, none⟩ = some (iv a) ∧ w'.cell? ⟨w.heap.size, 1, none⟩ = some (iv b) ∧ w'.cell? ⟨w.heap.size, 2, none⟩ = some (iv c) ∧ w'.cell? ⟨w.heap.size, 3, none⟩ = some (iv d) ∧ Below W0.heap.size W0 w') w1 by assumption).2.2.2.2
  go_wp2
  go_ret
  exact ⟨rfl, hb0.trans (hz.mono (by omega))⟩

set_option maxHeartbeats 2000000 in
theorem day_any (a b c d D : Nat) (w : World) (hc : c ≤ 60) (hc2 : 1 ≤ c) (hd : d ≤ 4) (hD : D + 1296 * d = 86400 * c) :
    Calls Tryd.prog 38 #[.agg #[iv a, iv b, iv c, iv d]] w fun e w' => e = .returned (.int .i64 (D : Int)) ∧ Below w.heap.size w w' := by
  obtain ⟨T, hT⟩ : ∃ T, T + 9 * d = 600 * c := ⟨600 * c - 9 * d, by omega⟩
  have eD : 144 * (T : Int) = (D : Int) := by omega
  have hT2 : (T : Int) ≤ 100000 := by omega
  go_enter Tryd.func38, Tryd.ntmps38
  go_wp2_with fail
  refine Calls.mono (ten_any a b c d T _ hc hd hT) ?_; rintro e w1 ⟨rfl, b1⟩
  clear hT hD
  go_wp2
  go_ret
  exact ⟨by simp [eD], ((Below.refl _ _).alloc (Nat.le_refl _) _).trans (b1.mono (by simp))⟩

set_option maxHeartbeats 2000000 in
theorem dropped_any (a b c d m : Nat) (w : World) (hd : d ≤ 4) (hm : m ≤ 1000000) :
    Calls Tryd.prog 39 #[.agg #[iv a, iv b, iv c, iv d], .int .i64 (m : Int)] w fun e w' => e = .returned (.int .i64 ((d * (m - (m + 9) / 10) : Nat) : Int)) ∧ Below w.heap.size w w' := by
  have hcl := fun W => ceil_any (m : Int) 10 W (by omega) (by omega) (by omega) (by omega)
  obtain ⟨k, hk⟩ : ∃ k : Nat, (m : Int) - ((m : Int) + 10 - 1) / 10 = (k : Int) ∧ m - (m + 9) / 10 = k := ⟨m - (m + 9) / 10, by omega, rfl⟩
  rw [hk.2]
  obtain ⟨q, hq⟩ : ∃ q, ((m : Int) + 10 - 1) / 10 = q := ⟨_, rfl⟩
  rw [hq] at hk hcl
  have hdk : d * k ≤ 4 * k := Nat.mul_le_mul_right k hd
  obtain ⟨z, hz⟩ : ∃ z, d * k = z := ⟨_, rfl⟩
  rw [hz] at hdk ⊢
  have hk1 : IntKind.i64.wrap ((m : Int) - q) = (k : Int) := by rw [w64 (by omega) (by omega)]; exact hk.1
  have hz' : IntKind.i64.wrap ((d : Int) * (k : Int)) = (z : Int) := by
    rw [← Int.natCast_mul, hz]; exact w64 (by omega) (by omega)
  clear hk hq hz
  go_enter Tryd.func39, Tryd.ntmps39
  go_wp2_with fail
  obtain ⟨W0, hW0, hb0, hsz, k0, k1, k2, k3⟩ := box4 w a b c d
  rw [hW0]; clear hW0
  go_quiet ((go_at_call 35; exact Calls.quiet_of_same (Calls.mono (hcl _) (fun _ _ h => ⟨h.1, h.2.symm⟩))))
  go_wp2
  go_ret
  exact ⟨rfl, below_drewN hb0 _⟩

set_option maxHeartbeats 4000000 in
theorem started_any (a b c d n T M : Nat) (w : World) (hc : c ≤ 60) (hc2 : 1 ≤ c) (hd : d ≤ 4) (hn : n ≤ 5184000) (hT : T + 9 * d = 600 * c) (hM : M = 60 * c) :
    Calls Tryd.prog 40 #[.agg #[iv a, iv b, iv c, iv d], .int .i64 (n : Int)] w fun e w' => e = .returned (.int .i64 ((if n % T < M then 10 * (n / T) + 1 else 10 * (n / T) + 2 + (n % T - M) / (M - d) : Nat) : Int)) ∧ Below w.heap.size w w' := by
  obtain ⟨q, hq⟩ : ∃ q : Nat, n / T = q := ⟨_, rfl⟩
  obtain ⟨r, hr⟩ : ∃ r : Nat, n % T = r := ⟨_, rfl⟩
  have hq' : ((n : Int)).tdiv (T : Int) = (q : Int) := by rw [Int.tdiv_eq_ediv_of_nonneg (by omega), ← Int.natCast_ediv, hq]
  have hr' : ((n : Int)).tmod (T : Int) = (r : Int) := by rw [Int.tmod_eq_emod_of_nonneg (by omega), ← Int.natCast_emod, hr]
  have hq2 : ((n : Int)) / (T : Int) = (q : Int) := by rw [← Int.natCast_ediv, hq]
  have hr2 : ((n : Int)) % (T : Int) = (r : Int) := by rw [← Int.natCast_emod, hr]
  have hqn : q ≤ n := by rw [← hq]; exact Nat.div_le_self _ _
  have hrn : r ≤ n := by rw [← hr]; exact Nat.mod_le _ _
  have hwq : IntKind.i64.wrap (q : Int) = (q : Int) := w64 (by omega) (by omega)
  have hwr : IntKind.i64.wrap (r : Int) = (r : Int) := w64 (by omega) (by omega)
  have hT0 : ¬ T = 0 := by omega
  have hT1 : ((T : Int) == 0) = false := by rw [beq_eq_false_iff_ne]; omega
  rw [hq, hr]
  obtain ⟨Z, hZ⟩ : ∃ Z : Nat, (if r < M then 10 * q + 1 else 10 * q + 2 + (r - M) / (M - d)) = Z := ⟨_, rfl⟩
  rw [hZ]
  have HZ := Lib.hid hZ; clear hZ
  have HM := Lib.hid hM; have HT := Lib.hid hT; have HQ := Lib.hid (And.intro hq hr); clear hM hT hq hr
  go_enter Tryd.func40, Tryd.ntmps40
  go_wp2_with fail
  obtain ⟨W0, hW0, hb0, hsz, k0, k1, k2, k3⟩ := box4 w a b c d
  rw [hW0]; clear hW0
  have hlt : w.heap.size < W0.heap.size := by omega
  have hS : (fun w' => w'.cell? ⟨w.heap.size, 0, none⟩ = some (iv a) ∧ w'.cell? ⟨w.heap.size, 1, none⟩ = some (iv b) ∧ w'.cell? ⟨w.heap.size, 2, none⟩ = some (iv c) ∧ w'.cell? ⟨w.heap.size, 3, none⟩ = some (iv d) ∧ Below W0.heap.size W0 w') W0.drew := ⟨k0, k1, k2, k3, (Below.refl _ _).drew⟩
  go_region_held3 (fun w' => w'.cell? ⟨w.heap.size, 0, none⟩ = some (iv a) ∧ w'.cell? ⟨w.heap.size, 1, none⟩ = some (iv b) ∧ w'.cell? ⟨w.heap.size, 2, none⟩ = some (iv c) ∧ w'.cell? ⟨w.heap.size, 3, none⟩ = some (iv d) ∧ Below W0.heap.size W0 w') (first | assumption | exact hS | exact held4 (by assumption) (by assumption) (by assumption) | fail)
    (first | (go_at_call 47; with_reducible refine Calls.mono (ten_any a b c d T _ hc hd HT.out) ?_; rintro e w1 ⟨rfl, b1⟩) | fail)
  have hS1 := (show w1.cell? ⟨w.heap.size, 0, none⟩ = some (iv a) ∧ w1.cell? ⟨w.heap.size, 1, none⟩ = some (iv b) ∧ w1.cell? ⟨w.heap.size, 2, none⟩ = some (iv c) ∧ w1.cell? ⟨w.heap.size, 3, none⟩ = some (iv d) ∧ Below W0.heap.size W0 w1 by assumption)
  obtain ⟨k0, k1, k2, k3, hz⟩ := id hS1
  go_wp2_with fail
  refine Calls.mono (minute_any a b c d M _ hc HM.out) ?_; rintro e w2 ⟨rfl, b2⟩
  have hS2 := held4 hlt hS1 b2
  clear k0 k1 k2 k3 hS hS1
  have hS : w2.drew.cell? ⟨w.heap.size, 0, none⟩ = some (iv a) ∧ w2.drew.cell? ⟨w.heap.size, 1, none⟩ = some (iv b) ∧ w2.drew.cell? ⟨w.heap.size, 2, none⟩ = some (iv c) ∧ w2.drew.cell? ⟨w.heap.size, 3, none⟩ = some (iv d) ∧ Below W0.heap.size W0 w2.drew := ⟨hS2.1, hS2.2.1, hS2.2.2.1, hS2.2.2.2.1, hS2.2.2.2.2.drew⟩
  have hM60 : M ≤ 3600 := by have := HM.out; omega
  by_cases hrM : r < M
  · go_wp2
    go_ret
    exact ⟨ret_int (by rw [← HZ.out, if_pos hrM]; omega), hb0.trans (hS2.2.2.2.2.mono (by omega))⟩
  · have hdM : d < M := by have := HM.out; omega
    obtain ⟨y, hy⟩ : ∃ y : Nat, (r - M) / (M - d) = y := ⟨_, rfl⟩
    have e0 : IntKind.i64.wrap (10 * (q : Int)) = 10 * (q : Int) := w64 (by omega) (by omega)
    have e1 : IntKind.i64.wrap (10 * (q : Int) + 2) = 10 * (q : Int) + 2 := w64 (by omega) (by omega)
    obtain ⟨u, hu⟩ : ∃ u : Nat, r - M = u := ⟨_, rfl⟩
    obtain ⟨v, hv⟩ : ∃ v : Nat, M - d = v := ⟨_, rfl⟩
    have e2 : IntKind.i64.wrap ((r : Int) - (M : Int)) = (u : Int) := by rw [w64 (by omega) (by omega)]; omega
    have e3 : IntKind.i64.wrap ((M : Int) - (d : Int)) = (v : Int) := by rw [w64 (by omega) (by omega)]; omega
    rw [hu, hv] at hy
    have e4 : ((u : Int)).tdiv (v : Int) = (y : Int) := by rw [Int.tdiv_eq_ediv_of_nonneg (by omega), ← Int.natCast_ediv, hy]
    have e5 : ((u : Int)) / (v : Int) = (y : Int) := by rw [← Int.natCast_ediv, hy]
    have hyu : y ≤ u := by rw [← hy]; exact Nat.div_le_self _ _
    have e6 : IntKind.i64.wrap (y : Int) = (y : Int) := w64 (by omega) (by omega)
    have e7 : IntKind.i64.wrap (10 * (q : Int) + 2 + (y : Int)) = 10 * (q : Int) + 2 + (y : Int) := w64 (by omega) (by omega)
    have hv0 : ¬ v = 0 := by omega
    have hv1 : ((v : Int) == 0) = false := by rw [beq_eq_false_iff_ne]; omega
    have HY := Lib.hid (show (r - M) / (M - d) = y by rw [hu, hv, hy])
    clear hu hv hy
    go_wp2_with fail
    go_region_held3 (fun w' => w'.cell? ⟨w.heap.size, 0, none⟩ = some (iv a) ∧ w'.cell? ⟨w.heap.size, 1, none⟩ = some (iv b) ∧ w'.cell? ⟨w.heap.size, 2, none⟩ = some (iv c) ∧ w'.cell? ⟨w.heap.size, 3, none⟩ = some (iv d) ∧ Below W0.heap.size W0 w') (first | assumption | exact hS | exact held4 (by assumption) (by assumption) (by assumption) | fail)
      (first | (go_at_call 46; with_reducible refine Calls.mono (minute_any a b c d M _ hc HM.out) ?_; rintro e w3 ⟨rfl, b3⟩) | fail)
    have hz := (show w3.cell? ⟨w.heap.size, 0, none⟩ = some (iv a) ∧ w3.cell? ⟨w.heap.size, 1, none⟩ = some (iv b) ∧ w3.cell? ⟨w.heap.size, 2, none⟩ = some (iv c) ∧ w3.cell? ⟨w.heap.size, 3, none⟩ = some (iv d) ∧ Below W0.heap.size W0 w3 by assumption).2.2.2.2
    go_wp2
    go_ret
    exact ⟨ret_int (by rw [← HZ.out, if_neg hrM, HY.out]; omega), hb0.trans (hz.mono (by omega))⟩
end Go.Proofs.YtfpmmfoinjcclaaDoor

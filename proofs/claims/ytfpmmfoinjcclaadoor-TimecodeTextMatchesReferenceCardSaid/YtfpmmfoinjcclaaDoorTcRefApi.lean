/- The reference's small functions. -/
import Derived.Test.YtfpmmfoinjcclaaDoorTcRef
namespace Go.Proofs.YtfpmmfoinjcclaaDoor
open Go.RowKit

theorem rfind_ok (x : Rt) (hx : x ∈ rtL) (w : World) :
    Calls Tryd.prog 29 #[x.val] w fun e w' => e = .returned (.tuple #[x.row, .bool true]) ∧ Below w.heap.size w w' := by
  obtain ⟨i, hi, rfl⟩ := rt_at hx
  exact refFind_ok i hi w

set_option maxRecDepth 100000 in
set_option maxHeartbeats 2000000 in
theorem rfind_no (a b : Int) (w : World) (hno : NoRate a b) :
    Calls Tryd.prog 29 #[.agg #[iv a, iv b]] w fun e w' => e = .returned (.tuple #[.agg #[iv 0, iv 0, iv 0, iv 0], .bool false]) ∧ Below w.heap.size w w' := by
  go_enter Tryd.func29, Tryd.ntmps29
  go_wp2_with fail
  obtain ⟨W0, hW0, hb0, hsz, ka, kz⟩ : ∃ W0, (w.alloc (.cells #[iv a, iv b] 23)).alloc (.cells #[iv 0, iv 0, iv 0, iv 0] 39) = W0 ∧ Below w.heap.size w W0 ∧ W0.heap.size = w.heap.size + 2 ∧ Arr W0 w.heap.size 23 [iv a, iv b] ∧ Arr W0 (w.heap.size + 1) 39 [iv 0, iv 0, iv 0, iv 0] :=
    ⟨_, rfl, ((Below.refl _ _).alloc (Nat.le_refl _) _).alloc (by simp) _, by simp, (Arr.new w 23 [iv a, iv b]).alloc _, Arr.new' _ [iv 0, iv 0, iv 0, iv 0] (by simp)⟩
  rw [hW0]; clear hW0
  refine Calls.mono (table_any _) ?_; rintro e W1 ⟨rfl, b1, hT, hsz1⟩
  rw [hsz] at hT hsz1 ⊢
  have ka := ka.below b1 (by omega)
  have kz := kz.below b1 (by omega)
  have hb1 := bthen hb0 b1
  have k0 := ka.cell (i := 0) rfl
  have k1 := ka.cell (i := 1) rfl
  go_wp2_with fail
  go_loopw [5] (fun j wr => ∃ k : Nat, j = .int .i64 k ∧ k ≤ 8 ∧ Below W1.heap.size W1 wr) (fun j _ => 8 - (intOf j).toNat)
  case atStart => exact ⟨0, rfl, by omega, Below.refl _ _⟩
  case round =>
    obtain ⟨k, rfl, hk, hB⟩ := hrel
    by_cases hk8 : k < 8
    · have i1 : (0 : Int) ≤ (k : Int) := by omega
      have i2 : (k : Int) < 8 := by omega
      have k0' := (hB.cell (p := ⟨w.heap.size, 0, none⟩) (by simp; omega)).trans k0
      have k1' := (hB.cell (p := ⟨w.heap.size, 1, none⟩) (by simp; omega)).trans k1
      have hT' := hT.below hB (by omega)
      have hrow := hT'.row hk8
      have hne := hno _ (rtAt_mem hk8)
      generalize rtAt k = y at *
      obtain ⟨r0, r1, r2, r3⟩ := hrow
      generalize y.num = yn at *
      generalize y.den = yd at *
      by_cases hn : (yn : Int) = a
      · have hd : ¬ (yd : Int) = b := fun h => hne ⟨by omega, by omega⟩
        have d1 : ((yn : Int) == a) = true := by rw [beq_iff_eq]; omega
        have d2 : ((yd : Int) == b) = false := by rw [beq_eq_false_iff_ne]; omega
        clear hne hn
        go_wp2_with fail
        go_quiet (fail)
        go_wp2
        go_roundw
        case rel => exact ⟨k + 1, by go_num, by omega, below_drewN hB _⟩
        case measure => simp [intOf]; omega
      · have d1 : ((yn : Int) == a) = false := by rw [beq_eq_false_iff_ne]; omega
        clear hne
        go_wp2_with fail
        go_quiet (fail)
        go_wp2
        go_roundw
        case rel => exact ⟨k + 1, by go_num, by omega, below_drewN hB _⟩
        case measure => simp [intOf]; omega
    · obtain rfl : k = 8 := by omega
      have kz' := (kz.below hB (by omega))
      have hbr : Below w.heap.size w wr := hb1.trans (hB.mono hb1.size)
      have z0 := kz'.cell (i := 0) rfl
      have z1 := kz'.cell (i := 1) rfl
      have z2 := kz'.cell (i := 2) rfl
      have z3 := kz'.cell (i := 3) rfl
      have f0 := fun i => kz'.frozen i
      go_wp2_with fail
      have kf := (((kz'.set 0 (iv 0)).set 1 (iv 0)).set 2 (iv 0)).set 3 (iv 0)
      have hbF := ((((hbr.setCell (p := ⟨w.heap.size + 1, 0, none⟩) (by simp) (iv 0)).setCell (p := ⟨w.heap.size + 1, 1, none⟩) (by simp) (iv 0)).setCell (p := ⟨w.heap.size + 1, 2, none⟩) (by simp) (iv 0)).setCell (p := ⟨w.heap.size + 1, 3, none⟩) (by simp) (iv 0))
      generalize (((wr.setCell ⟨w.heap.size + 1, 0, none⟩ (iv 0)).setCell ⟨w.heap.size + 1, 1, none⟩ (iv 0)).setCell ⟨w.heap.size + 1, 2, none⟩ (iv 0)).setCell ⟨w.heap.size + 1, 3, none⟩ (iv 0) = WF at *
      have e0 := kf.cell (i := 0) rfl
      have e1 := kf.cell (i := 1) rfl
      have e2 := kf.cell (i := 2) rfl
      have e3 := kf.cell (i := 3) rfl
      exact bodyPost_ret (v := .tuple #[.agg #[iv 0, iv 0, iv 0, iv 0], .bool false]) (by simp [results, Tryd.results29, go_sem, e0, e1, e2, e3]) rfl ⟨rfl, hbF⟩

set_option maxHeartbeats 400000 in
theorem risFrame_any (n : Int) (w : World) :
    Calls Tryd.prog 34 #[.int .i64 n] w fun e w' => e = .returned (.bool (decide (0 ≤ n ∧ n ≤ 100000000))) ∧ w = w' := by
  by_cases h : 0 ≤ n
  · go_enter Tryd.func34, Tryd.ntmps34
    go_wp2
    go_ret
    exact ⟨by simp [h], rfl⟩
  · go_enter Tryd.func34, Tryd.ntmps34
    go_wp2
    go_ret
    have hd : decide (0 ≤ n) = false := by simpa using h
    exact ⟨by simp [hd], rfl⟩

set_option maxHeartbeats 400000 in
theorem rceil_any (a b : Int) (w : World) (h1 : 0 ≤ a) (h2 : 1 ≤ b) (h3 : a ≤ 4611686018427387903) (h4 : b ≤ 4611686018427387903) :
    Calls Tryd.prog 36 #[.int .i64 a, .int .i64 b] w fun e w' => e = .returned (.int .i64 ((a + b - 1) / b)) ∧ w = w' := by
  go_enter Tryd.func36, Tryd.ntmps36
  go_wp2
  go_ret
  exact ⟨rfl, rfl⟩

set_option maxHeartbeats 1000000 in
theorem rvalid_ok (x : Rt) (hx : x ∈ rtL) (w : World) (hF : FmtAt w) :
    Calls Tryd.prog 24 #[x.val] w fun e w' => e = .returned (.bool true) ∧ Below w.heap.size w w' := by
  have hf := fun W (h : Below w.heap.size w W) => rfind_ok x hx W
  unfold Rt.val Rt.row at *
  go_enter Tryd.func24, Tryd.ntmps24
  go_wp2_with fail
  refine Calls.mono (hf _ ((Below.refl _ _).alloc (Nat.le_refl _) _)) ?_; rintro e w1 ⟨rfl, b1⟩
  go_wp2
  go_ret
  exact ⟨rfl, (((Below.refl _ _).alloc (Nat.le_refl _) _).trans (b1.mono (by simp))).alloc (by have := b1.size; simp at this; omega) _⟩

set_option maxHeartbeats 1000000 in
theorem rvalid_no (a b : Int) (hx : NoRate a b) (w : World) (hF : FmtAt w) :
    Calls Tryd.prog 24 #[.agg #[iv a, iv b]] w fun e w' => e = .returned (.bool false) ∧ Below w.heap.size w w' := by
  have hf := fun W (h : Below w.heap.size w W) => rfind_no a b W hx
  go_enter Tryd.func24, Tryd.ntmps24
  go_wp2_with fail
  refine Calls.mono (hf _ ((Below.refl _ _).alloc (Nat.le_refl _) _)) ?_; rintro e w1 ⟨rfl, b1⟩
  go_wp2
  go_ret
  exact ⟨rfl, (((Below.refl _ _).alloc (Nat.le_refl _) _).trans (b1.mono (by simp))).alloc (by have := b1.size; simp at this; omega) _⟩

set_option maxHeartbeats 1000000 in
theorem rseconds_ok (x : Rt) (hx : x ∈ rtL) (n : Nat) (hn : n ≤ 100000000) (w : World) (hF : FmtAt w) :
    Calls Tryd.prog 16 #[x.val, .int .i64 n] w fun e w' => e = .returned (.int .i64 ((n * x.den / x.num : Nat) : Int)) ∧ Below w.heap.size w w' := by
  have hf := fun W (h : Below w.heap.size w W) => rvalid_ok x hx W (hF.below h)
  obtain ⟨x1, x2, x3, x4, -, -, -⟩ := rt_bd hx
  unfold Rt.val at *
  clear hx hF
  generalize x.num = a at *
  generalize x.den = b at *
  have hp := prod_le hn x4
  obtain ⟨p, hpp⟩ : ∃ p, n * b = p := ⟨_, rfl⟩
  rw [hpp] at hp ⊢
  obtain ⟨q, hq⟩ : ∃ q, p / a = q := ⟨_, rfl⟩
  rw [hq]
  have hqp : q ≤ p := by rw [← hq]; exact Nat.div_le_self _ _
  have e1 := wprod hpp (by omega)
  have e2 := quo_nat hq
  have e3 := tquo_nat hq
  have e4 : IntKind.i64.wrap (q : Int) = (q : Int) := w64 (by omega) (by omega)
  have a0 : ¬ a = 0 := by omega
  have a1 : ((a : Int) == 0) = false := by rw [beq_eq_false_iff_ne]; omega
  have hn1 : (n : Int) ≤ 100000000 := by omega
  clear hpp hq
  go_enter Tryd.func16, Tryd.ntmps16
  go_wp2_with fail
  obtain ⟨W0, hW0, hb0, hsz, k0, k1⟩ := box2 w a b
  rw [hW0]; clear hW0
  refine Calls.mono (hf _ hb0) ?_; rintro e w1 ⟨rfl, b1⟩
  obtain ⟨c0, c1⟩ := keep2 k0 k1 b1 (by omega)
  go_wp2_with (go_at_call 34; refine Calls.mono (risFrame_any _ _) ?_; rintro e w1 ⟨rfl, rfl⟩)
  go_ret
  exact ⟨rfl, hb0.trans (b1.mono (by omega))⟩

set_option maxHeartbeats 1000000 in
theorem rseconds_no (a b : Int) (hx : NoRate a b) (n : Int) (w : World) (hF : FmtAt w) :
    Calls Tryd.prog 16 #[.agg #[iv a, iv b], .int .i64 n] w fun e w' => e = .returned (.int .i64 (-1)) ∧ Below w.heap.size w w' := by
  have hf := fun W (h : Below w.heap.size w W) => rvalid_no a b hx W (hF.below h)
  go_enter Tryd.func16, Tryd.ntmps16
  go_wp2_with fail
  obtain ⟨W0, hW0, hb0, hsz, k0, k1⟩ := box2 w a b
  rw [hW0]; clear hW0
  refine Calls.mono (hf _ hb0) ?_; rintro e w1 ⟨rfl, b1⟩
  go_wp2_with fail
  go_ret
  exact ⟨rfl, hb0.trans (b1.mono (by omega))⟩

set_option maxHeartbeats 1000000 in
theorem rseconds_out (x : Rt) (hx : x ∈ rtL) (n : Int) (hn : ¬ (0 ≤ n ∧ n ≤ 100000000)) (w : World) (hF : FmtAt w) :
    Calls Tryd.prog 16 #[x.val, .int .i64 n] w fun e w' => e = .returned (.int .i64 (-1)) ∧ Below w.heap.size w w' := by
  have hf := fun W (h : Below w.heap.size w W) => rvalid_ok x hx W (hF.below h)
  unfold Rt.val at *
  clear hx hF
  generalize x.num = a at *
  generalize x.den = b at *
  have hd : (decide (0 ≤ n) && decide (n ≤ 100000000)) = false := by rw [← Bool.decide_and, decide_eq_false_iff_not]; exact hn
  have hd2 : decide (0 ≤ n ∧ n ≤ 100000000) = false := by rw [decide_eq_false_iff_not]; exact hn
  go_enter Tryd.func16, Tryd.ntmps16
  go_wp2_with fail
  obtain ⟨W0, hW0, hb0, hsz, k0, k1⟩ := box2 w a b
  rw [hW0]; clear hW0
  refine Calls.mono (hf _ hb0) ?_; rintro e w1 ⟨rfl, b1⟩
  go_wp2_with (go_at_call 34; refine Calls.mono (risFrame_any _ _) ?_; rintro e w1 ⟨rfl, rfl⟩)
  go_ret
  exact ⟨rfl, hb0.trans (b1.mono (by omega))⟩

set_option maxHeartbeats 1000000 in
theorem rframes_no (a b : Int) (hx : NoRate a b) (n : Int) (w : World) (hF : FmtAt w) :
    Calls Tryd.prog 18 #[.agg #[iv a, iv b], .int .i64 n] w fun e w' => e = .returned (.int .i64 (-1)) ∧ Below w.heap.size w w' := by
  have hf := fun W (h : Below w.heap.size w W) => rvalid_no a b hx W (hF.below h)
  go_enter Tryd.func18, Tryd.ntmps18
  go_wp2_with fail
  obtain ⟨W0, hW0, hb0, hsz, k0, k1⟩ := box2 w a b
  rw [hW0]; clear hW0
  refine Calls.mono (hf _ hb0) ?_; rintro e w1 ⟨rfl, b1⟩
  go_wp2_with fail
  go_ret
  exact ⟨rfl, hb0.trans (b1.mono (by omega))⟩

set_option maxHeartbeats 1000000 in
theorem rframes_out (x : Rt) (hx : x ∈ rtL) (n : Int) (hn : ¬ (0 ≤ n ∧ n ≤ 10000000000)) (w : World) (hF : FmtAt w) :
    Calls Tryd.prog 18 #[x.val, .int .i64 n] w fun e w' => e = .returned (.int .i64 (-1)) ∧ Below w.heap.size w w' := by
  have hf := fun W (h : Below w.heap.size w W) => rvalid_ok x hx W (hF.below h)
  unfold Rt.val at *
  clear hx hF
  generalize x.num = a at *
  generalize x.den = b at *
  rcases (by omega : n < 0 ∨ 10000000000 < n) with hn | hn
  · go_enter Tryd.func18, Tryd.ntmps18
    go_wp2_with fail
    obtain ⟨W0, hW0, hb0, hsz, k0, k1⟩ := box2 w a b
    rw [hW0]; clear hW0
    refine Calls.mono (hf _ hb0) ?_; rintro e w1 ⟨rfl, b1⟩
    go_wp2_with fail
    go_ret
    exact ⟨rfl, hb0.trans (b1.mono (by omega))⟩
  · have hnn : ¬ n < 0 := by omega
    go_enter Tryd.func18, Tryd.ntmps18
    go_wp2_with fail
    obtain ⟨W0, hW0, hb0, hsz, k0, k1⟩ := box2 w a b
    rw [hW0]; clear hW0
    refine Calls.mono (hf _ hb0) ?_; rintro e w1 ⟨rfl, b1⟩
    go_wp2_with fail
    go_ret
    exact ⟨rfl, hb0.trans (b1.mono (by omega))⟩

set_option maxHeartbeats 1000000 in
theorem rticks_no (a b : Int) (hx : NoRate a b) (n : Int) (w : World) (hF : FmtAt w) :
    Calls Tryd.prog 20 #[.agg #[iv a, iv b], .int .i64 n] w fun e w' => e = .returned (.int .i64 (-1)) ∧ Below w.heap.size w w' := by
  have hf := fun W (h : Below w.heap.size w W) => rvalid_no a b hx W (hF.below h)
  go_enter Tryd.func20, Tryd.ntmps20
  go_wp2_with fail
  obtain ⟨W0, hW0, hb0, hsz, k0, k1⟩ := box2 w a b
  rw [hW0]; clear hW0
  refine Calls.mono (hf _ hb0) ?_; rintro e w1 ⟨rfl, b1⟩
  go_wp2_with fail
  go_ret
  exact ⟨rfl, hb0.trans (b1.mono (by omega))⟩

set_option maxHeartbeats 1000000 in
theorem rticks_out (x : Rt) (hx : x ∈ rtL) (n : Int) (hn : ¬ (0 ≤ n ∧ n ≤ 100000000)) (w : World) (hF : FmtAt w) :
    Calls Tryd.prog 20 #[x.val, .int .i64 n] w fun e w' => e = .returned (.int .i64 (-1)) ∧ Below w.heap.size w w' := by
  have hf := fun W (h : Below w.heap.size w W) => rvalid_ok x hx W (hF.below h)
  unfold Rt.val at *
  clear hx hF
  generalize x.num = a at *
  generalize x.den = b at *
  have hd : (decide (0 ≤ n) && decide (n ≤ 100000000)) = false := by rw [← Bool.decide_and, decide_eq_false_iff_not]; exact hn
  have hd2 : decide (0 ≤ n ∧ n ≤ 100000000) = false := by rw [decide_eq_false_iff_not]; exact hn
  go_enter Tryd.func20, Tryd.ntmps20
  go_wp2_with fail
  obtain ⟨W0, hW0, hb0, hsz, k0, k1⟩ := box2 w a b
  rw [hW0]; clear hW0
  refine Calls.mono (hf _ hb0) ?_; rintro e w1 ⟨rfl, b1⟩
  go_wp2_with (go_at_call 34; refine Calls.mono (risFrame_any _ _) ?_; rintro e w1 ⟨rfl, rfl⟩)
  go_ret
  exact ⟨rfl, hb0.trans (b1.mono (by omega))⟩

set_option maxHeartbeats 1000000 in
theorem rframes_ok (x : Rt) (hx : x ∈ rtL) (n : Nat) (hn : n ≤ 10000000000) (w : World) (hF : FmtAt w) :
    Calls Tryd.prog 18 #[x.val, .int .i64 n] w fun e w' => e = .returned (.int .i64 (((n * x.num + x.den - 1) / x.den : Nat) : Int)) ∧ Below w.heap.size w w' := by
  have hf := fun W (h : Below w.heap.size w W) => rvalid_ok x hx W (hF.below h)
  obtain ⟨x1, x2, x3, x4, -, -, -⟩ := rt_bd hx
  unfold Rt.val at *
  clear hx hF
  generalize x.num = a at *
  generalize x.den = b at *
  have hp := prod_le hn x2
  obtain ⟨p, hpp⟩ : ∃ p, n * a = p := ⟨_, rfl⟩
  rw [hpp] at hp ⊢
  have hcl := fun W => rceil_any (p : Int) (b : Int) W (by omega) (by omega) (by omega) (by omega)
  obtain ⟨q, hq⟩ : ∃ q, (p + b - 1) / b = q := ⟨_, rfl⟩
  rw [hq]
  rw [show (p : Int) + (b : Int) - 1 = ((p + b - 1 : Nat) : Int) by omega, ← Int.natCast_ediv, hq] at hcl
  have e1 := wprod hpp (by omega)
  have hn1 : (n : Int) ≤ 10000000000 := by omega
  have hn0 : ¬ (n : Int) < 0 := by omega
  clear hpp hq
  go_enter Tryd.func18, Tryd.ntmps18
  go_wp2_with fail
  obtain ⟨W0, hW0, hb0, hsz, k0, k1⟩ := box2 w a b
  rw [hW0]; clear hW0
  refine Calls.mono (hf _ hb0) ?_; rintro e w1 ⟨rfl, b1⟩
  obtain ⟨c0, c1⟩ := keep2 k0 k1 b1 (by omega)
  go_wp2_with (go_at_call 36; refine Calls.mono (hcl _) ?_; rintro e w1 ⟨rfl, rfl⟩)
  go_ret
  exact ⟨rfl, hb0.trans (b1.mono (by omega))⟩

set_option maxHeartbeats 1000000 in
theorem rticks_ok (x : Rt) (hx : x ∈ rtL) (n : Nat) (hn : n ≤ 100000000) (w : World) (hF : FmtAt w) :
    Calls Tryd.prog 20 #[x.val, .int .i64 n] w fun e w' => e = .returned (.int .i64 ((n * 90000 * x.den / x.num % 8589934592 : Nat) : Int)) ∧ Below w.heap.size w w' := by
  have hf := fun W (h : Below w.heap.size w W) => rvalid_ok x hx W (hF.below h)
  obtain ⟨x1, x2, x3, x4, -, -, -⟩ := rt_bd hx
  unfold Rt.val at *
  clear hx hF
  generalize x.num = a at *
  generalize x.den = b at *
  have hp := prod_le (show n * 90000 ≤ 9000000000000 by omega) x4
  obtain ⟨m, hm⟩ : ∃ m, n * 90000 = m := ⟨_, rfl⟩
  rw [hm] at hp ⊢
  obtain ⟨p, hpp⟩ : ∃ p, m * b = p := ⟨_, rfl⟩
  rw [hpp] at hp ⊢
  obtain ⟨q, hq⟩ : ∃ q, p / a = q := ⟨_, rfl⟩
  rw [hq]
  have hqp : q ≤ p := by rw [← hq]; exact Nat.div_le_self _ _
  obtain ⟨r, hr⟩ : ∃ r, q % 8589934592 = r := ⟨_, rfl⟩
  rw [hr]
  have e0 : IntKind.i64.wrap ((n : Int) * 90000) = (m : Int) := by rw [w64 (by omega) (by omega)]; omega
  have e0' : (n : Int) * 90000 = (m : Int) := by omega
  have e1 := wprod hpp (by omega)
  have e2 := quo_nat hq
  have e3 := tquo_nat hq
  have e4 : IntKind.i64.wrap (q : Int) = (q : Int) := w64 (by omega) (by omega)
  have e5 : (q : Int).tmod 8589934592 = (r : Int) := by rw [Int.tmod_eq_emod_of_nonneg (by omega)]; omega
  have e6 : (q : Int) % 8589934592 = (r : Int) := by omega
  have e7 : IntKind.i64.wrap (r : Int) = (r : Int) := w64 (by omega) (by omega)
  have a0 : ¬ a = 0 := by omega
  have a1 : ((a : Int) == 0) = false := by rw [beq_eq_false_iff_ne]; omega
  have hn1 : (n : Int) ≤ 100000000 := by omega
  clear hpp hq hm hr
  go_enter Tryd.func20, Tryd.ntmps20
  go_wp2_with fail
  obtain ⟨W0, hW0, hb0, hsz, k0, k1⟩ := box2 w a b
  rw [hW0]; clear hW0
  refine Calls.mono (hf _ hb0) ?_; rintro e w1 ⟨rfl, b1⟩
  obtain ⟨c0, c1⟩ := keep2 k0 k1 b1 (by omega)
  go_wp2_with (go_at_call 34; refine Calls.mono (risFrame_any _ _) ?_; rintro e w1 ⟨rfl, rfl⟩)
  go_ret
  exact ⟨rfl, hb0.trans (b1.mono (by omega))⟩

set_option maxHeartbeats 2000000 in
theorem rconvert_ok (x y : Rt) (hx : x ∈ rtL) (hy : y ∈ rtL) (n : Nat) (hn : n ≤ 100000000) (w : World) (hF : FmtAt w) :
    Calls Tryd.prog 22 #[x.val, .int .i64 n, y.val] w fun e w' => e = .returned (.int .i64 ((convertZ x y n : Nat) : Int)) ∧ Below w.heap.size w w' := by
  have hf := fun W (h : Below w.heap.size w W) => rvalid_ok x hx W (hF.below h)
  have hg := fun W (h : Below w.heap.size w W) => rvalid_ok y hy W (hF.below h)
  obtain ⟨x1, x2, x3, x4, -, -, -⟩ := rt_bd hx
  obtain ⟨y1, y2, y3, y4, -, -, -⟩ := rt_bd hy
  unfold convertZ
  unfold Rt.val at *
  clear hx hF hy
  generalize x.num = a at *
  generalize x.den = b at *
  generalize y.num = c at *
  generalize y.den = d at *
  have hp := prod_le hn x4
  obtain ⟨p, hpp⟩ : ∃ p, n * b = p := ⟨_, rfl⟩
  rw [hpp] at hp ⊢
  have hu := prod_le hp y2
  obtain ⟨u, huu⟩ : ∃ u, p * c = u := ⟨_, rfl⟩
  rw [huu] at hu ⊢
  have hv := prod_le x2 y4
  have hv0 := prod_le x1 y3
  obtain ⟨v, hvv⟩ : ∃ v, a * d = v := ⟨_, rfl⟩
  rw [hvv] at hv hv0 ⊢
  have hcl := fun W => rceil_any (u : Int) (v : Int) W (by omega) (by omega) (by omega) (by omega)
  obtain ⟨q, hq⟩ : ∃ q, (u + v - 1) / v = q := ⟨_, rfl⟩
  rw [hq]
  rw [show (u : Int) + (v : Int) - 1 = ((u + v - 1 : Nat) : Int) by omega, ← Int.natCast_ediv, hq] at hcl
  have e1 := wprod hpp (by omega)
  have e2 := wprod huu (by omega)
  have e3 := wprod hvv (by omega)
  have hn1 : (n : Int) ≤ 100000000 := by omega
  clear hpp hq huu hvv
  go_enter Tryd.func22, Tryd.ntmps22
  go_wp2_with fail
  obtain ⟨W0, hW0, hb0, hsz, k0, k1⟩ := box2 w a b
  rw [hW0]; clear hW0
  obtain ⟨W1, hW1, hb1, hsz1, l0, l1⟩ := box2 W0 c d
  obtain ⟨k0, k1⟩ := keep2 k0 k1 hb1 (by omega)
  rw [hW1]; clear hW1
  rw [hsz] at l0 l1
  have hb01 := bthen hb0 hb1
  refine Calls.mono (hf _ hb01) ?_; rintro e w1 ⟨rfl, b1⟩
  obtain ⟨k0, k1⟩ := keep2 k0 k1 b1 (by omega)
  obtain ⟨l0, l1⟩ := keep2 l0 l1 b1 (by omega)
  have hb02 := bthen hb01 b1
  go_wp2_with fail
  refine Calls.mono (hg _ hb02) ?_; rintro e w2 ⟨rfl, b2⟩
  have hs2 := b1.size
  obtain ⟨k0, k1⟩ := keep2 k0 k1 b2 (by omega)
  obtain ⟨l0, l1⟩ := keep2 l0 l1 b2 (by omega)
  have hb03 := bthen hb02 b2
  go_wp2_with (first | (go_at_call 34; refine Calls.mono (risFrame_any _ _) ?_; rintro e w1 ⟨rfl, rfl⟩) | (go_at_call 36; refine Calls.mono (hcl _) ?_; rintro e w1 ⟨rfl, rfl⟩))
  go_ret
  exact ⟨rfl, hb03⟩

set_option maxHeartbeats 2000000 in
theorem rconvert_out (x y : Rt) (hx : x ∈ rtL) (hy : y ∈ rtL) (n : Int) (hn : ¬ (0 ≤ n ∧ n ≤ 100000000)) (w : World) (hF : FmtAt w) :
    Calls Tryd.prog 22 #[x.val, .int .i64 n, y.val] w fun e w' => e = .returned (.int .i64 (-1)) ∧ Below w.heap.size w w' := by
  have hf := fun W (h : Below w.heap.size w W) => rvalid_ok x hx W (hF.below h)
  have hg := fun W (h : Below w.heap.size w W) => rvalid_ok y hy W (hF.below h)
  have hd : (decide (0 ≤ n) && decide (n ≤ 100000000)) = false := by rw [← Bool.decide_and, decide_eq_false_iff_not]; exact hn
  have hd2 : decide (0 ≤ n ∧ n ≤ 100000000) = false := by rw [decide_eq_false_iff_not]; exact hn
  unfold Rt.val at *
  clear hx hF hy
  generalize x.num = a at *
  generalize x.den = b at *
  generalize y.num = c at *
  generalize y.den = d at *
  go_enter Tryd.func22, Tryd.ntmps22
  go_wp2_with fail
  obtain ⟨W0, hW0, hb0, hsz, k0, k1⟩ := box2 w a b
  rw [hW0]; clear hW0
  obtain ⟨W1, hW1, hb1, hsz1, l0, l1⟩ := box2 W0 c d
  obtain ⟨k0, k1⟩ := keep2 k0 k1 hb1 (by omega)
  rw [hW1]; clear hW1
  rw [hsz] at l0 l1
  have hb01 := bthen hb0 hb1
  refine Calls.mono (hf _ hb01) ?_; rintro e w1 ⟨rfl, b1⟩
  obtain ⟨k0, k1⟩ := keep2 k0 k1 b1 (by omega)
  obtain ⟨l0, l1⟩ := keep2 l0 l1 b1 (by omega)
  have hb02 := bthen hb01 b1
  go_wp2_with fail
  refine Calls.mono (hg _ hb02) ?_; rintro e w2 ⟨rfl, b2⟩
  have hs2 := b1.size
  obtain ⟨k0, k1⟩ := keep2 k0 k1 b2 (by omega)
  obtain ⟨l0, l1⟩ := keep2 l0 l1 b2 (by omega)
  have hb03 := bthen hb02 b2
  go_wp2_with (go_at_call 34; refine Calls.mono (risFrame_any _ _) ?_; rintro e w1 ⟨rfl, rfl⟩)
  go_ret
  exact ⟨rfl, hb03⟩

set_option maxHeartbeats 2000000 in
theorem rconvert_no2 (x : Rt) (c d : Int) (hx : x ∈ rtL) (hy : NoRate c d) (n : Int) (w : World) (hF : FmtAt w) :
    Calls Tryd.prog 22 #[x.val, .int .i64 n, .agg #[iv c, iv d]] w fun e w' => e = .returned (.int .i64 (-1)) ∧ Below w.heap.size w w' := by
  have hf := fun W (h : Below w.heap.size w W) => rvalid_ok x hx W (hF.below h)
  have hg := fun W (h : Below w.heap.size w W) => rvalid_no c d hy W (hF.below h)
  unfold Rt.val at *
  clear hx hF hy
  generalize x.num = a at *
  generalize x.den = b at *
  go_enter Tryd.func22, Tryd.ntmps22
  go_wp2_with fail
  obtain ⟨W0, hW0, hb0, hsz, k0, k1⟩ := box2 w a b
  rw [hW0]; clear hW0
  obtain ⟨W1, hW1, hb1, hsz1, l0, l1⟩ := box2 W0 c d
  obtain ⟨k0, k1⟩ := keep2 k0 k1 hb1 (by omega)
  rw [hW1]; clear hW1
  rw [hsz] at l0 l1
  have hb01 := bthen hb0 hb1
  refine Calls.mono (hf _ hb01) ?_; rintro e w1 ⟨rfl, b1⟩
  obtain ⟨k0, k1⟩ := keep2 k0 k1 b1 (by omega)
  obtain ⟨l0, l1⟩ := keep2 l0 l1 b1 (by omega)
  have hb02 := bthen hb01 b1
  go_wp2_with fail
  refine Calls.mono (hg _ hb02) ?_; rintro e w2 ⟨rfl, b2⟩
  have hs2 := b1.size
  obtain ⟨k0, k1⟩ := keep2 k0 k1 b2 (by omega)
  obtain ⟨l0, l1⟩ := keep2 l0 l1 b2 (by omega)
  have hb03 := bthen hb02 b2
  go_wp2_with fail
  go_ret
  exact ⟨rfl, hb03⟩

set_option maxHeartbeats 2000000 in
theorem rconvert_no (a b : Int) (c d : Int) (hx : NoRate a b) (n : Int) (w : World) (hF : FmtAt w) :
    Calls Tryd.prog 22 #[.agg #[iv a, iv b], .int .i64 n, .agg #[iv c, iv d]] w fun e w' => e = .returned (.int .i64 (-1)) ∧ Below w.heap.size w w' := by
  have hf := fun W (h : Below w.heap.size w W) => rvalid_no a b hx W (hF.below h)
  clear hx hF
  go_enter Tryd.func22, Tryd.ntmps22
  go_wp2_with fail
  obtain ⟨W0, hW0, hb0, hsz, k0, k1⟩ := box2 w a b
  rw [hW0]; clear hW0
  obtain ⟨W1, hW1, hb1, hsz1, l0, l1⟩ := box2 W0 c d
  obtain ⟨k0, k1⟩ := keep2 k0 k1 hb1 (by omega)
  rw [hW1]; clear hW1
  rw [hsz] at l0 l1
  have hb01 := bthen hb0 hb1
  refine Calls.mono (hf _ hb01) ?_; rintro e w1 ⟨rfl, b1⟩
  go_wp2_with fail
  go_ret
  exact ⟨rfl, bthen hb01 b1⟩
end Go.Proofs.YtfpmmfoinjcclaaDoor

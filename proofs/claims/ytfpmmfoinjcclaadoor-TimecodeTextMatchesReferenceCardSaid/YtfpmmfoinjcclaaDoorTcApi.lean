/- Valid, Seconds, Frames, Ticks, Convert. -/
import Derived.Test.YtfpmmfoinjcclaaDoorTcNum
namespace Go.Proofs.YtfpmmfoinjcclaaDoor
open Go.RowKit

/-- The rate is not one of the eight. -/
def NoRate (a b : Int) : Prop := ∀ x ∈ rtL, ¬ (a = x.num ∧ b = x.den)
theorem box2 (w : World) (a b : Int) : ∃ W0, w.alloc (.cells #[iv a, iv b] 23) = W0 ∧ Below w.heap.size w W0 ∧ W0.heap.size = w.heap.size + 1 ∧
    W0.cell? ⟨w.heap.size, 0, none⟩ = some (iv a) ∧ W0.cell? ⟨w.heap.size, 1, none⟩ = some (iv b) :=
  have k := Arr.new w 23 [iv a, iv b]
  ⟨_, rfl, (Below.refl _ _).alloc (Nat.le_refl _) _, by simp, k.cell rfl, k.cell rfl⟩
theorem keep2 {w8 w9 : World} {B : Nat} {a b : Int} (h0 : w8.cell? ⟨B, 0, none⟩ = some (iv a)) (h1 : w8.cell? ⟨B, 1, none⟩ = some (iv b)) (hb : Below w8.heap.size w8 w9) (hB : B < w8.heap.size) :
    w9.cell? ⟨B, 0, none⟩ = some (iv a) ∧ w9.cell? ⟨B, 1, none⟩ = some (iv b) :=
  ⟨(hb.cell (p := ⟨B, 0, none⟩) hB).trans h0, (hb.cell (p := ⟨B, 1, none⟩) hB).trans h1⟩
theorem rt_bd {x : Rt} (h : x ∈ rtL) : 24 ≤ x.num ∧ x.num ≤ 60000 ∧ 1 ≤ x.den ∧ x.den ≤ 1001 ∧ 24 ≤ x.base ∧ x.base ≤ 60 ∧ x.drop ≤ 4 := by
  rcases rt_cases h with rfl | rfl | rfl | rfl | rfl | rfl | rfl | rfl <;> decide
theorem prod_le {a b X Y : Nat} (h : a ≤ X) (k : b ≤ Y) : a * b ≤ X * Y := Nat.mul_le_mul h k
theorem wprod {a b p : Nat} (h : a * b = p) (hp : p ≤ 9223372036854775807) : IntKind.i64.wrap ((a : Int) * (b : Int)) = (p : Int) := by
  rw [← Int.natCast_mul, h]; exact w64 (by omega) (by omega)
theorem quo_nat {a b q : Nat} (h : a / b = q) : (a : Int) / (b : Int) = (q : Int) := by rw [← Int.natCast_ediv, h]
theorem tquo_nat {a b q : Nat} (h : a / b = q) : (a : Int).tdiv (b : Int) = (q : Int) := by rw [Int.tdiv_eq_ediv_of_nonneg (by omega), ← Int.natCast_ediv, h]

set_option maxHeartbeats 1000000 in
theorem valid_ok (x : Rt) (hx : x ∈ rtL) (w : World) (hF : FmtAt w) :
    Calls Tryd.prog 23 #[x.val] w fun e w' => e = .returned (.bool true) ∧ Below w.heap.size w w' := by
  have hf := fun W (h : Below w.heap.size w W) => find_ok x hx W (hF.below h)
  unfold Rt.val Rt.row at *
  go_enter Tryd.func23, Tryd.ntmps23
  go_wp2_with fail
  refine Calls.mono (hf _ ((Below.refl _ _).alloc (Nat.le_refl _) _)) ?_; rintro e w1 ⟨rfl, b1⟩
  go_wp2
  go_ret
  exact ⟨rfl, (((Below.refl _ _).alloc (Nat.le_refl _) _).trans (b1.mono (by simp))).alloc (by have := b1.size; simp at this; omega) _⟩

set_option maxHeartbeats 1000000 in
theorem valid_no (a b : Int) (hx : NoRate a b) (w : World) (hF : FmtAt w) :
    Calls Tryd.prog 23 #[.agg #[iv a, iv b]] w fun e w' => e = .returned (.bool false) ∧ Below w.heap.size w w' := by
  have hf := fun W (h : Below w.heap.size w W) => find_no a b W (hF.below h) hx
  go_enter Tryd.func23, Tryd.ntmps23
  go_wp2_with fail
  refine Calls.mono (hf _ ((Below.refl _ _).alloc (Nat.le_refl _) _)) ?_; rintro e w1 ⟨rfl, b1⟩
  go_wp2
  go_ret
  exact ⟨rfl, (((Below.refl _ _).alloc (Nat.le_refl _) _).trans (b1.mono (by simp))).alloc (by have := b1.size; simp at this; omega) _⟩

set_option maxHeartbeats 1000000 in
theorem seconds_ok (x : Rt) (hx : x ∈ rtL) (n : Nat) (hn : n ≤ 100000000) (w : World) (hF : FmtAt w) :
    Calls Tryd.prog 15 #[x.val, .int .i64 n] w fun e w' => e = .returned (.int .i64 ((n * x.den / x.num : Nat) : Int)) ∧ Below w.heap.size w w' := by
  have hf := fun W (h : Below w.heap.size w W) => valid_ok x hx W (hF.below h)
  obtain ⟨x1, x2, x3, x4, -, -, -⟩ := rt_bd hx
  unfold Rt.val at *
  clear hx hF
  generalize x.num = a at *
  generalize x.den = b at *
  have hp := prod_le hn x4
  obtain ⟨p, hpp⟩ : ∃ p, n * b = p := ⟨_, rfl⟩
  rw [hpp] at hp ⊢
  obtain ⟨q, hq⟩ : ∃ q, p / a = q := ⟨_, rfl⟩
  rw [hq]
  have hqp : q ≤ p := by rw [← hq]; exact Nat.div_le_self _ _
  have e1 := wprod hpp (by omega)
  have e2 := quo_nat hq
  have e3 := tquo_nat hq
  have e4 : IntKind.i64.wrap (q : Int) = (q : Int) := w64 (by omega) (by omega)
  have a0 : ¬ a = 0 := by omega
  have a1 : ((a : Int) == 0) = false := by rw [beq_eq_false_iff_ne]; omega
  have hn1 : (n : Int) ≤ 100000000 := by omega
  clear hpp hq
  go_enter Tryd.func15, Tryd.ntmps15
  go_wp2_with fail
  obtain ⟨W0, hW0, hb0, hsz, k0, k1⟩ := box2 w a b
  rw [hW0]; clear hW0
  refine Calls.mono (hf _ hb0) ?_; rintro e w1 ⟨rfl, b1⟩
  obtain ⟨c0, c1⟩ := keep2 k0 k1 b1 (by omega)
  go_wp2_with (go_at_call 33; refine Calls.mono (isFrame_any _ _) ?_; rintro e w1 ⟨rfl, rfl⟩)
  go_ret
  exact ⟨rfl, hb0.trans (b1.mono (by omega))⟩

set_option maxHeartbeats 1000000 in
theorem seconds_no (a b : Int) (hx : NoRate a b) (n : Int) (w : World) (hF : FmtAt w) :
    Calls Tryd.prog 15 #[.agg #[iv a, iv b], .int .i64 n] w fun e w' => e = .returned (.int .i64 (-1)) ∧ Below w.heap.size w w' := by
  have hf := fun W (h : Below w.heap.size w W) => valid_no a b hx W (hF.below h)
  go_enter Tryd.func15, Tryd.ntmps15
  go_wp2_with fail
  obtain ⟨W0, hW0, hb0, hsz, k0, k1⟩ := box2 w a b
  rw [hW0]; clear hW0
  refine Calls.mono (hf _ hb0) ?_; rintro e w1 ⟨rfl, b1⟩
  go_wp2_with fail
  go_ret
  exact ⟨rfl, hb0.trans (b1.mono (by omega))⟩

set_option maxHeartbeats 1000000 in
theorem seconds_out (x : Rt) (hx : x ∈ rtL) (n : Int) (hn : ¬ (0 ≤ n ∧ n ≤ 100000000)) (w : World) (hF : FmtAt w) :
    Calls Tryd.prog 15 #[x.val, .int .i64 n] w fun e w' => e = .returned (.int .i64 (-1)) ∧ Below w.heap.size w w' := by
  have hf := fun W (h : Below w.heap.size w W) => valid_ok x hx W (hF.below h)
  unfold Rt.val at *
  clear hx hF
  generalize x.num = a at *
  generalize x.den = b at *
  have hd : (decide (0 ≤ n) && decide (n ≤ 100000000)) = false := by rw [← Bool.decide_and, decide_eq_false_iff_not]; exact hn
  have hd2 : decide (0 ≤ n ∧ n ≤ 100000000) = false := by rw [decide_eq_false_iff_not]; exact hn
  go_enter Tryd.func15, Tryd.ntmps15
  go_wp2_with fail
  obtain ⟨W0, hW0, hb0, hsz, k0, k1⟩ := box2 w a b
  rw [hW0]; clear hW0
  refine Calls.mono (hf _ hb0) ?_; rintro e w1 ⟨rfl, b1⟩
  go_wp2_with (go_at_call 33; refine Calls.mono (isFrame_any _ _) ?_; rintro e w1 ⟨rfl, rfl⟩)
  go_ret
  exact ⟨rfl, hb0.trans (b1.mono (by omega))⟩

set_option maxHeartbeats 1000000 in
theorem frames_no (a b : Int) (hx : NoRate a b) (n : Int) (w : World) (hF : FmtAt w) :
    Calls Tryd.prog 17 #[.agg #[iv a, iv b], .int .i64 n] w fun e w' => e = .returned (.int .i64 (-1)) ∧ Below w.heap.size w w' := by
  have hf := fun W (h : Below w.heap.size w W) => valid_no a b hx W (hF.below h)
  go_enter Tryd.func17, Tryd.ntmps17
  go_wp2_with fail
  obtain ⟨W0, hW0, hb0, hsz, k0, k1⟩ := box2 w a b
  rw [hW0]; clear hW0
  refine Calls.mono (hf _ hb0) ?_; rintro e w1 ⟨rfl, b1⟩
  go_wp2_with fail
  go_ret
  exact ⟨rfl, hb0.trans (b1.mono (by omega))⟩

set_option maxHeartbeats 1000000 in
theorem frames_out (x : Rt) (hx : x ∈ rtL) (n : Int) (hn : ¬ (0 ≤ n ∧ n ≤ 10000000000)) (w : World) (hF : FmtAt w) :
    Calls Tryd.prog 17 #[x.val, .int .i64 n] w fun e w' => e = .returned (.int .i64 (-1)) ∧ Below w.heap.size w w' := by
  have hf := fun W (h : Below w.heap.size w W) => valid_ok x hx W (hF.below h)
  unfold Rt.val at *
  clear hx hF
  generalize x.num = a at *
  generalize x.den = b at *
  rcases (by omega : n < 0 ∨ 10000000000 < n) with hn | hn
  · go_enter Tryd.func17, Tryd.ntmps17
    go_wp2_with fail
    obtain ⟨W0, hW0, hb0, hsz, k0, k1⟩ := box2 w a b
    rw [hW0]; clear hW0
    refine Calls.mono (hf _ hb0) ?_; rintro e w1 ⟨rfl, b1⟩
    go_wp2_with fail
    go_ret
    exact ⟨rfl, hb0.trans (b1.mono (by omega))⟩
  · have hnn : ¬ n < 0 := by omega
    go_enter Tryd.func17, Tryd.ntmps17
    go_wp2_with fail
    obtain ⟨W0, hW0, hb0, hsz, k0, k1⟩ := box2 w a b
    rw [hW0]; clear hW0
    refine Calls.mono (hf _ hb0) ?_; rintro e w1 ⟨rfl, b1⟩
    go_wp2_with fail
    go_ret
    exact ⟨rfl, hb0.trans (b1.mono (by omega))⟩

set_option maxHeartbeats 1000000 in
theorem ticks_no (a b : Int) (hx : NoRate a b) (n : Int) (w : World) (hF : FmtAt w) :
    Calls Tryd.prog 19 #[.agg #[iv a, iv b], .int .i64 n] w fun e w' => e = .returned (.int .i64 (-1)) ∧ Below w.heap.size w w' := by
  have hf := fun W (h : Below w.heap.size w W) => valid_no a b hx W (hF.below h)
  go_enter Tryd.func19, Tryd.ntmps19
  go_wp2_with fail
  obtain ⟨W0, hW0, hb0, hsz, k0, k1⟩ := box2 w a b
  rw [hW0]; clear hW0
  refine Calls.mono (hf _ hb0) ?_; rintro e w1 ⟨rfl, b1⟩
  go_wp2_with fail
  go_ret
  exact ⟨rfl, hb0.trans (b1.mono (by omega))⟩

set_option maxHeartbeats 1000000 in
theorem ticks_out (x : Rt) (hx : x ∈ rtL) (n : Int) (hn : ¬ (0 ≤ n ∧ n ≤ 100000000)) (w : World) (hF : FmtAt w) :
    Calls Tryd.prog 19 #[x.val, .int .i64 n] w fun e w' => e = .returned (.int .i64 (-1)) ∧ Below w.heap.size w w' := by
  have hf := fun W (h : Below w.heap.size w W) => valid_ok x hx W (hF.below h)
  unfold Rt.val at *
  clear hx hF
  generalize x.num = a at *
  generalize x.den = b at *
  have hd : (decide (0 ≤ n) && decide (n ≤ 100000000)) = false := by rw [← Bool.decide_and, decide_eq_false_iff_not]; exact hn
  have hd2 : decide (0 ≤ n ∧ n ≤ 100000000) = false := by rw [decide_eq_false_iff_not]; exact hn
  go_enter Tryd.func19, Tryd.ntmps19
  go_wp2_with fail
  obtain ⟨W0, hW0, hb0, hsz, k0, k1⟩ := box2 w a b
  rw [hW0]; clear hW0
  refine Calls.mono (hf _ hb0) ?_; rintro e w1 ⟨rfl, b1⟩
  go_wp2_with (go_at_call 33; refine Calls.mono (isFrame_any _ _) ?_; rintro e w1 ⟨rfl, rfl⟩)
  go_ret
  exact ⟨rfl, hb0.trans (b1.mono (by omega))⟩

set_option maxHeartbeats 1000000 in
theorem frames_ok (x : Rt) (hx : x ∈ rtL) (n : Nat) (hn : n ≤ 10000000000) (w : World) (hF : FmtAt w) :
    Calls Tryd.prog 17 #[x.val, .int .i64 n] w fun e w' => e = .returned (.int .i64 (((n * x.num + x.den - 1) / x.den : Nat) : Int)) ∧ Below w.heap.size w w' := by
  have hf := fun W (h : Below w.heap.size w W) => valid_ok x hx W (hF.below h)
  obtain ⟨x1, x2, x3, x4, -, -, -⟩ := rt_bd hx
  unfold Rt.val at *
  clear hx hF
  generalize x.num = a at *
  generalize x.den = b at *
  have hp := prod_le hn x2
  obtain ⟨p, hpp⟩ : ∃ p, n * a = p := ⟨_, rfl⟩
  rw [hpp] at hp ⊢
  have hcl := fun W => ceil_any (p : Int) (b : Int) W (by omega) (by omega) (by omega) (by omega)
  obtain ⟨q, hq⟩ : ∃ q, (p + b - 1) / b = q := ⟨_, rfl⟩
  rw [hq]
  rw [show (p : Int) + (b : Int) - 1 = ((p + b - 1 : Nat) : Int) by omega, ← Int.natCast_ediv, hq] at hcl
  have e1 := wprod hpp (by omega)
  have hn1 : (n : Int) ≤ 10000000000 := by omega
  have hn0 : ¬ (n : Int) < 0 := by omega
  clear hpp hq
  go_enter Tryd.func17, Tryd.ntmps17
  go_wp2_with fail
  obtain ⟨W0, hW0, hb0, hsz, k0, k1⟩ := box2 w a b
  rw [hW0]; clear hW0
  refine Calls.mono (hf _ hb0) ?_; rintro e w1 ⟨rfl, b1⟩
  obtain ⟨c0, c1⟩ := keep2 k0 k1 b1 (by omega)
  go_wp2_with (go_at_call 35; refine Calls.mono (hcl _) ?_; rintro e w1 ⟨rfl, rfl⟩)
  go_ret
  exact ⟨rfl, hb0.trans (b1.mono (by omega))⟩

set_option maxHeartbeats 1000000 in
theorem ticks_ok (x : Rt) (hx : x ∈ rtL) (n : Nat) (hn : n ≤ 100000000) (w : World) (hF : FmtAt w) :
    Calls Tryd.prog 19 #[x.val, .int .i64 n] w fun e w' => e = .returned (.int .i64 ((n * 90000 * x.den / x.num % 8589934592 : Nat) : Int)) ∧ Below w.heap.size w w' := by
  have hf := fun W (h : Below w.heap.size w W) => valid_ok x hx W (hF.below h)
  obtain ⟨x1, x2, x3, x4, -, -, -⟩ := rt_bd hx
  unfold Rt.val at *
  clear hx hF
  generalize x.num = a at *
  generalize x.den = b at *
  have hp := prod_le (show n * 90000 ≤ 9000000000000 by omega) x4
  obtain ⟨m, hm⟩ : ∃ m, n * 90000 = m := ⟨_, rfl⟩
  rw [hm] at hp ⊢
  obtain ⟨p, hpp⟩ : ∃ p, m * b = p := ⟨_, rfl⟩
  rw [hpp] at hp ⊢
  obtain ⟨q, hq⟩ : ∃ q, p / a = q := ⟨_, rfl⟩
  rw [hq]
  have hqp : q ≤ p := by rw [← hq]; exact Nat.div_le_self _ _
  obtain ⟨r, hr⟩ : ∃ r, q % 8589934592 = r := ⟨_, rfl⟩
  rw [hr]
  have e0 : IntKind.i64.wrap ((n : Int) * 90000) = (m : Int) := by rw [w64 (by omega) (by omega)]; omega
  have e0' : (n : Int) * 90000 = (m : Int) := by omega
  have e1 := wprod hpp (by omega)
  have e2 := quo_nat hq
  have e3 := tquo_nat hq
  have e4 : IntKind.i64.wrap (q : Int) = (q : Int) := w64 (by omega) (by omega)
  have e5 : (q : Int).tmod 8589934592 = (r : Int) := by rw [Int.tmod_eq_emod_of_nonneg (by omega)]; omega
  have e6 : (q : Int) % 8589934592 = (r : Int) := by omega
  have e7 : IntKind.i64.wrap (r : Int) = (r : Int) := w64 (by omega) (by omega)
  have a0 : ¬ a = 0 := by omega
  have a1 : ((a : Int) == 0) = false := by rw [beq_eq_false_iff_ne]; omega
  have hn1 : (n : Int) ≤ 100000000 := by omega
  clear hpp hq hm hr
  go_enter Tryd.func19, Tryd.ntmps19
  go_wp2_with fail
  obtain ⟨W0, hW0, hb0, hsz, k0, k1⟩ := box2 w a b
  rw [hW0]; clear hW0
  refine Calls.mono (hf _ hb0) ?_; rintro e w1 ⟨rfl, b1⟩
  obtain ⟨c0, c1⟩ := keep2 k0 k1 b1 (by omega)
  go_wp2_with (go_at_call 33; refine Calls.mono (isFrame_any _ _) ?_; rintro e w1 ⟨rfl, rfl⟩)
  go_ret
  exact ⟨rfl, hb0.trans (b1.mono (by omega))⟩

/-- A frame's number at another rate. -/
def convertZ (x y : Rt) (n : Nat) : Nat := (n * x.den * y.num + x.num * y.den - 1) / (x.num * y.den)

set_option maxHeartbeats 2000000 in
theorem convert_ok (x y : Rt) (hx : x ∈ rtL) (hy : y ∈ rtL) (n : Nat) (hn : n ≤ 100000000) (w : World) (hF : FmtAt w) :
    Calls Tryd.prog 21 #[x.val, .int .i64 n, y.val] w fun e w' => e = .returned (.int .i64 ((convertZ x y n : Nat) : Int)) ∧ Below w.heap.size w w' := by
  have hf := fun W (h : Below w.heap.size w W) => valid_ok x hx W (hF.below h)
  have hg := fun W (h : Below w.heap.size w W) => valid_ok y hy W (hF.below h)
  obtain ⟨x1, x2, x3, x4, -, -, -⟩ := rt_bd hx
  obtain ⟨y1, y2, y3, y4, -, -, -⟩ := rt_bd hy
  unfold convertZ
  unfold Rt.val at *
  clear hx hF hy
  generalize x.num = a at *
  generalize x.den = b at *
  generalize y.num = c at *
  generalize y.den = d at *
  have hp := prod_le hn x4
  obtain ⟨p, hpp⟩ : ∃ p, n * b = p := ⟨_, rfl⟩
  rw [hpp] at hp ⊢
  have hu := prod_le hp y2
  obtain ⟨u, huu⟩ : ∃ u, p * c = u := ⟨_, rfl⟩
  rw [huu] at hu ⊢
  have hv := prod_le x2 y4
  have hv0 := prod_le x1 y3
  obtain ⟨v, hvv⟩ : ∃ v, a * d = v := ⟨_, rfl⟩
  rw [hvv] at hv hv0 ⊢
  have hcl := fun W => ceil_any (u : Int) (v : Int) W (by omega) (by omega) (by omega) (by omega)
  obtain ⟨q, hq⟩ : ∃ q, (u + v - 1) / v = q := ⟨_, rfl⟩
  rw [hq]
  rw [show (u : Int) + (v : Int) - 1 = ((u + v - 1 : Nat) : Int) by omega, ← Int.natCast_ediv, hq] at hcl
  have e1 := wprod hpp (by omega)
  have e2 := wprod huu (by omega)
  have e3 := wprod hvv (by omega)
  have hn1 : (n : Int) ≤ 100000000 := by omega
  clear hpp hq huu hvv
  go_enter Tryd.func21, Tryd.ntmps21
  go_wp2_with fail
  obtain ⟨W0, hW0, hb0, hsz, k0, k1⟩ := box2 w a b
  rw [hW0]; clear hW0
  obtain ⟨W1, hW1, hb1, hsz1, l0, l1⟩ := box2 W0 c d
  obtain ⟨k0, k1⟩ := keep2 k0 k1 hb1 (by omega)
  rw [hW1]; clear hW1
  rw [hsz] at l0 l1
  have hb01 := bthen hb0 hb1
  refine Calls.mono (hf _ hb01) ?_; rintro e w1 ⟨rfl, b1⟩
  obtain ⟨k0, k1⟩ := keep2 k0 k1 b1 (by omega)
  obtain ⟨l0, l1⟩ := keep2 l0 l1 b1 (by omega)
  have hb02 := bthen hb01 b1
  go_wp2_with fail
  refine Calls.mono (hg _ hb02) ?_; rintro e w2 ⟨rfl, b2⟩
  have hs2 := b1.size
  obtain ⟨k0, k1⟩ := keep2 k0 k1 b2 (by omega)
  obtain ⟨l0, l1⟩ := keep2 l0 l1 b2 (by omega)
  have hb03 := bthen hb02 b2
  go_wp2_with (first | (go_at_call 33; refine Calls.mono (isFrame_any _ _) ?_; rintro e w1 ⟨rfl, rfl⟩) | (go_at_call 35; refine Calls.mono (hcl _) ?_; rintro e w1 ⟨rfl, rfl⟩))
  go_ret
  exact ⟨rfl, hb03⟩

set_option maxHeartbeats 2000000 in
theorem convert_out (x y : Rt) (hx : x ∈ rtL) (hy : y ∈ rtL) (n : Int) (hn : ¬ (0 ≤ n ∧ n ≤ 100000000)) (w : World) (hF : FmtAt w) :
    Calls Tryd.prog 21 #[x.val, .int .i64 n, y.val] w fun e w' => e = .returned (.int .i64 (-1)) ∧ Below w.heap.size w w' := by
  have hf := fun W (h : Below w.heap.size w W) => valid_ok x hx W (hF.below h)
  have hg := fun W (h : Below w.heap.size w W) => valid_ok y hy W (hF.below h)
  have hd : (decide (0 ≤ n) && decide (n ≤ 100000000)) = false := by rw [← Bool.decide_and, decide_eq_false_iff_not]; exact hn
  have hd2 : decide (0 ≤ n ∧ n ≤ 100000000) = false := by rw [decide_eq_false_iff_not]; exact hn
  unfold Rt.val at *
  clear hx hF hy
  generalize x.num = a at *
  generalize x.den = b at *
  generalize y.num = c at *
  generalize y.den = d at *
  go_enter Tryd.func21, Tryd.ntmps21
  go_wp2_with fail
  obtain ⟨W0, hW0, hb0, hsz, k0, k1⟩ := box2 w a b
  rw [hW0]; clear hW0
  obtain ⟨W1, hW1, hb1, hsz1, l0, l1⟩ := box2 W0 c d
  obtain ⟨k0, k1⟩ := keep2 k0 k1 hb1 (by omega)
  rw [hW1]; clear hW1
  rw [hsz] at l0 l1
  have hb01 := bthen hb0 hb1
  refine Calls.mono (hf _ hb01) ?_; rintro e w1 ⟨rfl, b1⟩
  obtain ⟨k0, k1⟩ := keep2 k0 k1 b1 (by omega)
  obtain ⟨l0, l1⟩ := keep2 l0 l1 b1 (by omega)
  have hb02 := bthen hb01 b1
  go_wp2_with fail
  refine Calls.mono (hg _ hb02) ?_; rintro e w2 ⟨rfl, b2⟩
  have hs2 := b1.size
  obtain ⟨k0, k1⟩ := keep2 k0 k1 b2 (by omega)
  obtain ⟨l0, l1⟩ := keep2 l0 l1 b2 (by omega)
  have hb03 := bthen hb02 b2
  go_wp2_with (go_at_call 33; refine Calls.mono (isFrame_any _ _) ?_; rintro e w1 ⟨rfl, rfl⟩)
  go_ret
  exact ⟨rfl, hb03⟩

set_option maxHeartbeats 2000000 in
theorem convert_no2 (x : Rt) (c d : Int) (hx : x ∈ rtL) (hy : NoRate c d) (n : Int) (w : World) (hF : FmtAt w) :
    Calls Tryd.prog 21 #[x.val, .int .i64 n, .agg #[iv c, iv d]] w fun e w' => e = .returned (.int .i64 (-1)) ∧ Below w.heap.size w w' := by
  have hf := fun W (h : Below w.heap.size w W) => valid_ok x hx W (hF.below h)
  have hg := fun W (h : Below w.heap.size w W) => valid_no c d hy W (hF.below h)
  unfold Rt.val at *
  clear hx hF hy
  generalize x.num = a at *
  generalize x.den = b at *
  go_enter Tryd.func21, Tryd.ntmps21
  go_wp2_with fail
  obtain ⟨W0, hW0, hb0, hsz, k0, k1⟩ := box2 w a b
  rw [hW0]; clear hW0
  obtain ⟨W1, hW1, hb1, hsz1, l0, l1⟩ := box2 W0 c d
  obtain ⟨k0, k1⟩ := keep2 k0 k1 hb1 (by omega)
  rw [hW1]; clear hW1
  rw [hsz] at l0 l1
  have hb01 := bthen hb0 hb1
  refine Calls.mono (hf _ hb01) ?_; rintro e w1 ⟨rfl, b1⟩
  obtain ⟨k0, k1⟩ := keep2 k0 k1 b1 (by omega)
  obtain ⟨l0, l1⟩ := keep2 l0 l1 b1 (by omega)
  have hb02 := bthen hb01 b1
  go_wp2_with fail
  refine Calls.mono (hg _ hb02) ?_; rintro e w2 ⟨rfl, b2⟩
  have hs2 := b1.size
  obtain ⟨k0, k1⟩ := keep2 k0 k1 b2 (by omega)
  obtain ⟨l0, l1⟩ := keep2 l0 l1 b2 (by omega)
  have hb03 := bthen hb02 b2
  go_wp2_with fail
  go_ret
  exact ⟨rfl, hb03⟩

set_option maxHeartbeats 2000000 in
theorem convert_no (a b : Int) (c d : Int) (hx : NoRate a b) (n : Int) (w : World) (hF : FmtAt w) :
    Calls Tryd.prog 21 #[.agg #[iv a, iv b], .int .i64 n, .agg #[iv c, iv d]] w fun e w' => e = .returned (.int .i64 (-1)) ∧ Below w.heap.size w w' := by
  have hf := fun W (h : Below w.heap.size w W) => valid_no a b hx W (hF.below h)
  clear hx hF
  go_enter Tryd.func21, Tryd.ntmps21
  go_wp2_with fail
  obtain ⟨W0, hW0, hb0, hsz, k0, k1⟩ := box2 w a b
  rw [hW0]; clear hW0
  obtain ⟨W1, hW1, hb1, hsz1, l0, l1⟩ := box2 W0 c d
  obtain ⟨k0, k1⟩ := keep2 k0 k1 hb1 (by omega)
  rw [hW1]; clear hW1
  rw [hsz] at l0 l1
  have hb01 := bthen hb0 hb1
  refine Calls.mono (hf _ hb01) ?_; rintro e w1 ⟨rfl, b1⟩
  go_wp2_with fail
  go_ret
  exact ⟨rfl, bthen hb01 b1⟩
end Go.Proofs.YtfpmmfoinjcclaaDoor

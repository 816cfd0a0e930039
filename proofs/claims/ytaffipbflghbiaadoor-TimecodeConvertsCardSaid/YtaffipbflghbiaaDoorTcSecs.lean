/- TimecodeSeconds -/
import Derived.Test.YtaffipbflghbiaaDoorTcLaw
namespace Go.Proofs.YtaffipbflghbiaaDoor
open Go.RowKit

theorem rt_ratio {x : Rt} (h : x ∈ rtL) : 23 * x.den ≤ x.num ∧ x.num ≤ 60 * x.den := by
  rcases rt_cases h with rfl | rfl | rfl | rfl | rfl | rfl | rfl | rfl <;> decide
theorem held2 {w w8 w9 : World} {B : Nat} {a b : Int} (hB : B < w.heap.size)
    (h : w8.cell? ⟨B, 0, none⟩ = some (iv a) ∧ w8.cell? ⟨B, 1, none⟩ = some (iv b) ∧ Below w.heap.size w w8) (hb : Below w8.heap.size w8 w9) :
    w9.cell? ⟨B, 0, none⟩ = some (iv a) ∧ w9.cell? ⟨B, 1, none⟩ = some (iv b) ∧ Below w.heap.size w w9 := by
  obtain ⟨h0, h1, h4⟩ := h
  have hs := h4.size
  exact ⟨(hb.cell (p := ⟨B, 0, none⟩) (by simp; omega)).trans h0, (hb.cell (p := ⟨B, 1, none⟩) (by simp; omega)).trans h1, bthen h4 hb⟩

/-- The first frame of a second. -/
theorem ceil_facts {u b : Nat} (hb : 0 < b) : u ≤ (u + b - 1) / b * b ∧ (u + b - 1) / b * b < u + b := by
  have h1 := Nat.div_add_mod (u + b - 1) b
  have h2 := Nat.mod_lt (u + b - 1) hb
  rw [Nat.mul_comm] at h1
  omega
theorem frames_facts {a b : Nat} (hb : 0 < b) (h1 : 23 * b ≤ a) (h2 : a ≤ 60 * b) (s : Nat) :
    s * a ≤ (s * a + b - 1) / b * b ∧ (s * a + b - 1) / b * b < s * a + b ∧ (s * a + b - 1) / b * b / a = s ∧ (s * a + b - 1) / b ≤ 60 * s := by
  obtain ⟨f1, f2⟩ := ceil_facts (u := s * a) hb
  refine ⟨f1, f2, ?_, ?_⟩
  · rw [Nat.div_eq_iff (by omega)]
    generalize (s * a + b - 1) / b * b = p at *
    generalize s * a = q at *
    omega
  · have h3 : s * a ≤ s * (60 * b) := Nat.mul_le_mul_left s h2
    have h4 : s * (60 * b) = 60 * s * b := by rw [← Nat.mul_assoc, Nat.mul_comm s 60]
    have h5 : (s * a + b - 1) / b * b < (60 * s + 1) * b := by rw [Nat.add_mul, Nat.one_mul]; omega
    have := Nat.lt_of_mul_lt_mul_right h5
    omega
theorem back_facts {a b : Nat} (hb : 0 < b) (ha : 0 < a) (n : Nat) : (n * b / a * a + b - 1) / b ≤ n := by
  obtain ⟨f1, f2⟩ := ceil_facts (u := n * b / a * a) hb
  have h1 : n * b / a * a ≤ n * b := Nat.div_mul_le_self _ _
  have h5 : (n * b / a * a + b - 1) / b * b < (n + 1) * b := by rw [Nat.add_mul, Nat.one_mul]; omega
  have := Nat.lt_of_mul_lt_mul_right h5
  omega

set_option maxRecDepth 100000 in
set_option maxHeartbeats 1000000 in
theorem seconds_law (c s0 n : Int) (w : World) (c1 : -9223372036854775808 ≤ c) (c2 : c ≤ 9223372036854775807) (s1 : -9223372036854775808 ≤ s0) (s2 : s0 ≤ 9223372036854775807) (n1 : -9223372036854775808 ≤ n) (n2 : n ≤ 9223372036854775807) (hF : FmtAt w) :
    Calls Tryd.prog 8 #[.int .i64 c, .int .i64 s0, .int .i64 n] w fun e w' => e = .returned (.bool true) ∧ Below w.heap.size w w' := by
  have HF := fun W (hb : Below w.heap.size w W) => hF.below hb
  obtain ⟨i, x, hi8, hxi, hx, -, hrate⟩ := law_rate c c1 c2
  obtain ⟨s, hs, hps⟩ := law_pick s0 1000000 s1 s2 (by decide) (by decide)
  obtain ⟨k, hk, hpk⟩ := law_pick n 100000001 n1 n2 (by decide) (by decide)
  obtain ⟨b1, b2, b3, b4, -, -, -⟩ := rt_bd hx
  obtain ⟨r1, r2⟩ := rt_ratio hx
  obtain ⟨f1, f2, f3, f4⟩ := frames_facts (a := x.num) (b := x.den) (by omega) r1 r2 s
  have g4 := back_facts (a := x.num) (b := x.den) (by omega) (by omega) k
  obtain ⟨q, hq⟩ : ∃ q, k * x.den / x.num = q := ⟨_, rfl⟩
  obtain ⟨-, -, g3, -⟩ := frames_facts (a := x.num) (b := x.den) (by omega) r1 r2 q
  rw [hq] at g4
  have hqk : q ≤ k * 1001 := by rw [← hq]; exact Nat.le_trans (Nat.div_le_self _ _) (Nat.mul_le_mul_left k b4)
  have hq10 : q ≤ 10000000000 := by
    rw [← hq]
    have h1 : k * x.den ≤ 100000000 * 1001 := prod_le (by omega) b4
    have h2 : k * x.den / x.num ≤ 100000000 * 1001 / 24 := Nat.div_le_div h1 b1 (by decide)
    have h3 : 100000000 * 1001 / 24 ≤ 10000000000 := by decide
    omega
  have hFr := fun W (hb : Below w.heap.size w W) => frames_ok x hx s (by omega) W (HF W hb)
  obtain ⟨f, hf⟩ : ∃ f, (s * x.num + x.den - 1) / x.den = f := ⟨_, rfl⟩
  rw [hf] at f1 f2 f3 f4
  have hSf := fun W (hb : Below w.heap.size w W) => seconds_ok x hx f (by omega) W (HF W hb)
  have hSk := fun W (hb : Below w.heap.size w W) => seconds_ok x hx k (by omega) W (HF W hb)
  have hFg := fun W (hb : Below w.heap.size w W) => frames_ok x hx q hq10 W (HF W hb)
  obtain ⟨g, hg⟩ : ∃ g, (q * x.num + x.den - 1) / x.den = g := ⟨_, rfl⟩
  rw [hg] at g4 g3
  have hSg := fun W (hb : Below w.heap.size w W) => seconds_ok x hx g (by omega) W (HF W hb)
  simp only [hf, hg, hq, f3, g3] at hFr hSf hSk hFg hSg
  have pb1 := prod_le (show f ≤ 60000000 by omega) b4
  have pb2 := prod_le (show s ≤ 1000000 by omega) b2
  obtain ⟨P1, hP1⟩ : ∃ P1, f * x.den = P1 := ⟨_, rfl⟩
  obtain ⟨P2, hP2⟩ : ∃ P2, s * x.num = P2 := ⟨_, rfl⟩
  rw [hP1] at f1 f2 pb1
  rw [hP2] at f1 f2 pb2
  have e1 := wprod hP1 (by omega)
  have e2 := wprod hP2 (by omega)
  have hf1 : ∀ f1, f = f1 + 1 → f1 * x.den + x.den = P1 := fun f1 h => by rw [← hP1, h, Nat.add_mul, Nat.one_mul]
  clear hf hg hq hxi f3 g3 hP1 hP2 hqk
  unfold Rt.val at *
  clear hx
  generalize x.num = a at *
  generalize x.den = b at *
  clear x
  have q1 : decide (P1 < P2) = false := decide_eq_false (by omega)
  have q2 : decide ((P1 : Int) < (P2 : Int)) = false := decide_eq_false (by omega)
  have q3 : (g : Int) ≤ (k : Int) := by omega
  go_enter Tryd.func8, Tryd.ntmps8
  go_wp2_with fail
  refine Calls.mono (sane_any _ hF) ?_; rintro e w1 ⟨rfl, c1'⟩
  go_wp2_with fail
  refine Calls.mono (hrate _) ?_; rintro e w2 ⟨rfl, c2'⟩
  have hb2 := bthen c1' c2'
  go_wp2_with (first | (go_at_call 14; with_reducible refine Calls.mono (hps _) ?_; rintro e w3 ⟨rfl, rfl⟩) | (go_at_call 14; with_reducible refine Calls.mono (hpk _) ?_; rintro e w3 ⟨rfl, rfl⟩) | fail)
  obtain ⟨w3, hW3, hb3, hsz3, k0, k1⟩ := box2 w2 a b
  rw [hW3]; clear hW3
  have hb3' := bthen hb2 hb3
  obtain ⟨T, hT⟩ : ∃ T, w2.heap.size = T := ⟨_, rfl⟩
  rw [hT] at k0 k1 hsz3 ⊢
  clear hT
  refine Calls.mono (hFr _ hb3') ?_; rintro e w4 ⟨rfl, c4⟩
  have hb4 := bthen hb3' c4
  obtain ⟨k0, k1⟩ := keep2 k0 k1 c4 (by omega)
  have hsz4 : T < w4.heap.size := by have := c4.size; omega
  go_wp2_with fail
  refine Calls.mono (hSf _ hb4) ?_; rintro e w5 ⟨rfl, c5⟩
  have hb5 := bthen hb4 c5
  obtain ⟨k0, k1⟩ := keep2 k0 k1 c5 hsz4
  have hsz5 : T < w5.heap.size := by have := c5.size; omega
  have hS5d : (fun w' => w'.cell? ⟨T, 0, none⟩ = some (iv a) ∧ w'.cell? ⟨T, 1, none⟩ = some (iv b) ∧ Below w5.heap.size w5 w') w5.drew := ⟨k0, k1, (Below.refl _ _).drew⟩
  have u1 : decide ((f : Int) < 0) = false := decide_eq_false (by omega)
  have u2 : ((s : Int) != (s : Int)) = false := bneF rfl
  have hb5d := hb5.drew
  have t1 : decide ((0 : Int) ≤ (g : Int)) = true := decide_eq_true (by omega)
  have t2 : decide ((g : Int) ≤ (k : Int)) = true := decide_eq_true (by omega)
  have t3 : decide (g ≤ k) = true := decide_eq_true (by omega)
  by_cases hf0 : f = 0
  · have u3 : decide (0 < (f : Int)) = false := decide_eq_false (by omega)
    have u3' : decide (0 < f) = false := decide_eq_false (by omega)
    clear hf1 hf0 f1 f2 f4 pb1 pb2 hq10 q3
    go_wp2_with fail
    go_region_held3 (fun w' => w'.cell? ⟨T, 0, none⟩ = some (iv a) ∧ w'.cell? ⟨T, 1, none⟩ = some (iv b) ∧ Below w5.heap.size w5 w') (first | assumption | exact hS5d | exact held2 hsz5 (by assumption) b7 | exact held2 hsz5 (by assumption) b6 | fail)
      (first | (go_at_call 15; with_reducible refine Calls.mono (hSk _ (by assumption)) ?_; rintro e w6 ⟨rfl, b6⟩; have hb6 := bthen hb5d b6) | (go_at_call 17; with_reducible refine Calls.mono (hFg _ (by assumption)) ?_; rintro e w7 ⟨rfl, b7⟩; have hb7 := bthen hb6 b7) | fail)
    have hS7 := (show w7.cell? ⟨T, 0, none⟩ = some (iv a) ∧ w7.cell? ⟨T, 1, none⟩ = some (iv b) ∧ Below w5.heap.size w5 w7 by assumption)
    have hS7d : w7.drew.cell? ⟨T, 0, none⟩ = some (iv a) ∧ w7.drew.cell? ⟨T, 1, none⟩ = some (iv b) ∧ Below w5.heap.size w5 w7.drew := ⟨hS7.1, hS7.2.1, hS7.2.2.drew⟩
    have hb7d := hb7.drew
    go_wp2_with fail
    go_region_held3 (fun w' => w'.cell? ⟨T, 0, none⟩ = some (iv a) ∧ w'.cell? ⟨T, 1, none⟩ = some (iv b) ∧ Below w5.heap.size w5 w') (first | assumption | exact hS7d | exact held2 hsz5 (by assumption) b9 | exact held2 hsz5 (by assumption) b8 | fail)
      (first | (go_at_call 15; with_reducible refine Calls.mono (hSg _ (by assumption)) ?_; rintro e w8 ⟨rfl, b8⟩; have hb8 := bthen hb7d b8) | (go_at_call 15; with_reducible refine Calls.mono (hSk _ (by assumption)) ?_; rintro e w9 ⟨rfl, b9⟩; have hb9 := bthen hb8 b9) | fail)
    all_goals
      go_wp2
      go_ret
      exact ⟨rfl, hb9⟩
  · obtain ⟨fp, hff⟩ : ∃ fp, f = fp + 1 := ⟨f - 1, by omega⟩
    have hP3 := hf1 fp hff
    obtain ⟨P3, hP3'⟩ : ∃ P3, fp * b = P3 := ⟨_, rfl⟩
    rw [hP3'] at hP3
    have e3 := wprod hP3' (by omega)
    have e4 : IntKind.i64.wrap ((f : Int) - 1) = (fp : Int) := by rw [w64 (by omega) (by omega)]; omega
    have u3 : decide (0 < (f : Int)) = true := decide_eq_true (by omega)
    have u3' : decide (0 < f) = true := decide_eq_true (by omega)
    have u4 : decide ((P2 : Int) ≤ (P3 : Int)) = false := decide_eq_false (by omega)
    have u4' : decide (P2 ≤ P3) = false := decide_eq_false (by omega)
    clear hf1 f1 hff hP3 hP3' hf0 f2 f4 pb1 pb2 hq10 q3
    go_wp2_with fail
    go_region_held3 (fun w' => w'.cell? ⟨T, 0, none⟩ = some (iv a) ∧ w'.cell? ⟨T, 1, none⟩ = some (iv b) ∧ Below w5.heap.size w5 w') (first | assumption | exact hS5d | exact held2 hsz5 (by assumption) b7 | exact held2 hsz5 (by assumption) b6 | fail)
      (first | (go_at_call 15; with_reducible refine Calls.mono (hSk _ (by assumption)) ?_; rintro e w6 ⟨rfl, b6⟩; have hb6 := bthen hb5d b6) | (go_at_call 17; with_reducible refine Calls.mono (hFg _ (by assumption)) ?_; rintro e w7 ⟨rfl, b7⟩; have hb7 := bthen hb6 b7) | fail)
    have hS7 := (show w7.cell? ⟨T, 0, none⟩ = some (iv a) ∧ w7.cell? ⟨T, 1, none⟩ = some (iv b) ∧ Below w5.heap.size w5 w7 by assumption)
    have hS7d : w7.drew.cell? ⟨T, 0, none⟩ = some (iv a) ∧ w7.drew.cell? ⟨T, 1, none⟩ = some (iv b) ∧ Below w5.heap.size w5 w7.drew := ⟨hS7.1, hS7.2.1, hS7.2.2.drew⟩
    have hb7d := hb7.drew
    go_wp2_with fail
    go_region_held3 (fun w' => w'.cell? ⟨T, 0, none⟩ = some (iv a) ∧ w'.cell? ⟨T, 1, none⟩ = some (iv b) ∧ Below w5.heap.size w5 w') (first | assumption | exact hS7d | exact held2 hsz5 (by assumption) b9 | exact held2 hsz5 (by assumption) b8 | fail)
      (first | (go_at_call 15; with_reducible refine Calls.mono (hSg _ (by assumption)) ?_; rintro e w8 ⟨rfl, b8⟩; have hb8 := bthen hb7d b8) | (go_at_call 15; with_reducible refine Calls.mono (hSk _ (by assumption)) ?_; rintro e w9 ⟨rfl, b9⟩; have hb9 := bthen hb8 b9) | fail)
    all_goals
      go_wp2
      go_ret
      exact ⟨rfl, hb9⟩
end Go.Proofs.YtaffipbflghbiaaDoor

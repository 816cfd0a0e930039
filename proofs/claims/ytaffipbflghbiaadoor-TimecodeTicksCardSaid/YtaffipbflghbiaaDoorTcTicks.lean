/- TimecodeTicks -/
import Derived.Test.YtaffipbflghbiaaDoorTcLaw
namespace Go.Proofs.YtaffipbflghbiaaDoor
open Go.RowKit


theorem step_div {p r a : Nat} (ha : 0 < a) : (p + r) / a = p / a + r / a ∨ ((p + r) / a = p / a + r / a + 1 ∧ r % a ≠ 0) := by
  rw [Nat.add_div ha]
  by_cases h : a ≤ p % a + r % a
  · rw [if_pos h]
    have := Nat.mod_lt p ha
    exact .inr ⟨rfl, by omega⟩
  · rw [if_neg h]; exact .inl rfl

def ticksZ (x : Rt) (n : Nat) : Nat := n * 90000 * x.den / x.num % 8589934592
theorem ticks_step {x : Rt} (hx : x ∈ rtL) (n : Nat) : ∃ d, ((ticksZ x n ≤ ticksZ x (n + 1) ∧ ticksZ x (n + 1) = ticksZ x n + d) ∨ (ticksZ x (n + 1) < ticksZ x n ∧ ticksZ x (n + 1) + 8589934592 = ticksZ x n + d)) ∧
    (d = 90000 * x.den / x.num ∨ (d ≠ 90000 * x.den / x.num ∧ d = 90000 * x.den / x.num + 1 ∧ 90000 * x.den % x.num ≠ 0)) := by
  obtain ⟨b1, b2, b3, b4, -, -, -⟩ := rt_bd hx
  have hs := step_div (p := n * 90000 * x.den) (r := 90000 * x.den) (a := x.num) (by omega)
  have hn : (n + 1) * 90000 * x.den = n * 90000 * x.den + 90000 * x.den := by rw [Nat.add_mul, Nat.add_mul, Nat.one_mul]
  unfold ticksZ
  rw [hn]
  have hlow : 90000 * x.den / x.num < 10000000 := by
    rw [Nat.div_lt_iff_lt_mul (by omega)]; omega
  obtain ⟨p, hp⟩ : ∃ p, n * 90000 * x.den = p := ⟨_, rfl⟩
  obtain ⟨r, hr⟩ : ∃ r, 90000 * x.den = r := ⟨_, rfl⟩
  rw [hp, hr] at hs ⊢
  rw [hr] at hlow
  generalize x.num = a at *
  clear hn hp
  obtain ⟨Q, hQ⟩ : ∃ Q, (p + r) / a = Q := ⟨_, rfl⟩
  obtain ⟨P, hP⟩ : ∃ P, p / a = P := ⟨_, rfl⟩
  obtain ⟨K, hK⟩ : ∃ K, r / a = K := ⟨_, rfl⟩
  rw [hQ, hP, hK] at hs
  rw [hQ, hP, hK]
  rw [hK] at hlow
  clear hQ hP hK
  rcases hs with hs | ⟨hs, hr⟩
  · refine ⟨K, ?_, .inl rfl⟩
    rw [hs]; omega
  · refine ⟨K + 1, ?_, .inr ⟨by omega, rfl, hr⟩⟩
    rw [hs]; omega

set_option maxRecDepth 100000 in
set_option maxHeartbeats 4000000 in
theorem ticks_law (c n : Int) (w : World) (c1 : -9223372036854775808 ≤ c) (c2 : c ≤ 9223372036854775807) (n1 : -9223372036854775808 ≤ n) (n2 : n ≤ 9223372036854775807) (hF : FmtAt w) :
    Calls Tryd.prog 11 #[.int .i64 c, .int .i64 n] w fun e w' => e = .returned (.bool true) ∧ Below w.heap.size w w' := by
  have HF := fun W (hb : Below w.heap.size w W) => hF.below hb
  obtain ⟨i, x, hi8, hxi, hx, -, hrate⟩ := law_rate c c1 c2
  obtain ⟨k, hk, hpick⟩ := law_pick n 100000000 n1 n2 (by decide) (by decide)
  obtain ⟨b1, b2, b3, b4, -, -, -⟩ := rt_bd hx
  obtain ⟨k1, hk1⟩ : ∃ k1, k + 1 = k1 := ⟨_, rfl⟩
  have hst := ticks_step hx k
  rw [hk1] at hst
  have ht0 := fun W (hb : Below w.heap.size w W) => ticks_ok x hx 0 (by decide) W (HF W hb)
  have ht1 := fun W (hb : Below w.heap.size w W) => ticks_ok x hx k (by omega) W (HF W hb)
  have ht2 := fun W (hb : Below w.heap.size w W) => ticks_ok x hx k1 (by omega) W (HF W hb)
  have z0 : 0 * 90000 * x.den / x.num % 8589934592 = 0 := by simp
  rw [z0] at ht0
  obtain ⟨A, hA⟩ : ∃ A, ticksZ x k = A := ⟨_, rfl⟩
  obtain ⟨B, hB⟩ : ∃ B, ticksZ x k1 = B := ⟨_, rfl⟩
  have hA' : k * 90000 * x.den / x.num % 8589934592 = A := hA
  have hB' : k1 * 90000 * x.den / x.num % 8589934592 = B := hB
  rw [hA'] at ht1
  rw [hB'] at ht2
  rw [hA, hB] at hst
  have hAb : A < 8589934592 := by rw [← hA]; exact Nat.mod_lt _ (by decide)
  have hBb : B < 8589934592 := by rw [← hB]; exact Nat.mod_lt _ (by decide)
  clear hA hB hA' hB' hxi z0
  unfold Rt.val at *
  clear hx
  generalize x.num = a at *
  generalize x.den = b at *
  clear x
  obtain ⟨P, hP⟩ : ∃ P, 90000 * b = P := ⟨_, rfl⟩
  obtain ⟨K, hK⟩ : ∃ K, P / a = K := ⟨_, rfl⟩
  obtain ⟨R, hR⟩ : ∃ R, P % a = R := ⟨_, rfl⟩
  rw [hP, hK, hR] at hst
  have hKP : K ≤ P := by rw [← hK]; exact Nat.div_le_self _ _
  have hRP : R ≤ P := by rw [← hR]; exact Nat.mod_le _ _
  have e1 : IntKind.i64.wrap (90000 * (b : Int)) = (P : Int) := by rw [w64 (by omega) (by omega)]; omega
  have e1' : 90000 * (b : Int) = (P : Int) := by omega
  have e2 := quo_nat hK
  have e3 := tquo_nat hK
  have e4 : IntKind.i64.wrap (K : Int) = (K : Int) := w64 (by omega) (by omega)
  have e5 : (P : Int) % (a : Int) = (R : Int) := by rw [← Int.natCast_emod, hR]
  have e6 : (P : Int).tmod (a : Int) = (R : Int) := by rw [Int.tmod_eq_emod_of_nonneg (by omega)]; exact e5
  have e7 : IntKind.i64.wrap (R : Int) = (R : Int) := w64 (by omega) (by omega)
  have a0 : ¬ a = 0 := by omega
  have a1 : ((a : Int) == 0) = false := by rw [beq_eq_false_iff_ne]; omega
  have e8 : IntKind.i64.wrap ((k : Int) + 1) = (k1 : Int) := by rw [w64 (by omega) (by omega)]; omega
  have e8' : (k : Int) + 1 = (k1 : Int) := by omega
  have e9 : IntKind.i64.wrap ((K : Int) + 1) = (K : Int) + 1 := w64 (by omega) (by omega)
  have A3 : (A : Int) < 8589934592 := by omega
  have B3 : (B : Int) < 8589934592 := by omega
  obtain ⟨d, hd1, hd2⟩ := hst
  obtain ⟨A', hA'⟩ : ∃ A' : Int, (A : Int) = A' := ⟨_, rfl⟩
  obtain ⟨B', hB'⟩ : ∃ B' : Int, (B : Int) = B' := ⟨_, rfl⟩
  rw [hA'] at ht1
  rw [hB'] at ht2
  have A0 : ¬ A' < 0 := by omega
  have B0 : ¬ B' < 0 := by omega
  have A5 : ¬ 8589934592 ≤ A' := by omega
  have B5 : ¬ 8589934592 ≤ B' := by omega
  have hor : (decide (A' < 0) || decide (B' < 0) || decide (8589934592 ≤ A') || decide (8589934592 ≤ B')) = false := by simp only [decide_eq_false A0, decide_eq_false B0, decide_eq_false A5, decide_eq_false B5, Bool.or_false]
  have HOR := Lib.hid hor; clear hor
  clear hP hK hR hk1
  go_enter Tryd.func11, Tryd.ntmps11
  go_wp2_with fail
  refine Calls.mono (sane_any _ hF) ?_; rintro e w1 ⟨rfl, g1⟩
  go_wp2_with fail
  refine Calls.mono (hrate _) ?_; rintro e w2 ⟨rfl, g2⟩
  have hb2 := bthen g1 g2
  go_wp2_with (go_at_call 14; refine Calls.mono (hpick _) ?_; rintro e w3 ⟨rfl, rfl⟩)
  obtain ⟨w3, hW3, hb3, hsz3, k0, k1'⟩ := box2 w2 a b
  rw [hW3]; clear hW3
  have hb3' := bthen hb2 hb3
  obtain ⟨T, hT⟩ : ∃ T, w2.heap.size = T := ⟨_, rfl⟩
  rw [hT] at k0 k1' hsz3 ⊢
  refine Calls.mono (ht1 _ hb3') ?_; rintro e w4 ⟨rfl, g4⟩
  have hb4 := bthen hb3' g4
  obtain ⟨k0, k1'⟩ := keep2 k0 k1' g4 (by omega)
  have hsz4 : T < w4.heap.size := by have := g4.size; omega
  go_wp2_with fail
  refine Calls.mono (ht2 _ hb4) ?_; rintro e w5 ⟨rfl, g5⟩
  have hb5 := bthen hb4 g5
  obtain ⟨k0, k1'⟩ := keep2 k0 k1' g5 hsz4
  have hsz5 : T < w5.heap.size := by have := g5.size; omega
  clear hT
  rcases hd1 with ⟨hle, hd1⟩ | ⟨hlt, hd1⟩
  · have d1 : IntKind.i64.wrap (B' - A') = (d : Int) := by rw [w64 (by omega) (by omega)]; omega
    have d2 : B' - A' = (d : Int) := by omega
    have d3 : ¬ (d : Int) < 0 := by omega
    have d4 : (decide ((d : Int) < 0)) = false := decide_eq_false d3
    clear hd1 hle hAb hBb A3 B3 hA' hB'
    rcases hd2 with hd2 | hd2
    · have f1 : ((d : Int) == (K : Int)) = true := eqN hd2
      clear hd2
      iterate 50 (first | go_values | go_skip | go_guarded | go_step | go_upon | go_back | (simp only [Int.not_lt, Int.not_le] at *; go_simp))
      rw [HOR.out]
      go_wp2_with fail
      refine Calls.mono (ht0 _ hb5) ?_; rintro e w6 ⟨rfl, g6⟩
      go_wp2
      go_ret
      exact ⟨rfl, bthen hb5 g6⟩
    · obtain ⟨hne, hd3, hR0⟩ := hd2
      have f1 : ((d : Int) == (K : Int)) = false := neN hne
      have f2 : ((d : Int) == (K : Int) + 1) = true := by rw [beq_iff_eq]; omega
      have f3 : ((R : Int) == 0) = false := by rw [beq_eq_false_iff_ne]; omega
      have f4 : ((R : Int) != 0) = true := bneT (by omega)
      clear hne hd3 hR0
      iterate 50 (first | go_values | go_skip | go_guarded | go_step | go_upon | go_back | (simp only [Int.not_lt, Int.not_le] at *; go_simp))
      rw [HOR.out]
      go_wp2_with fail
      refine Calls.mono (ht0 _ hb5) ?_; rintro e w6 ⟨rfl, g6⟩
      go_wp2
      go_ret
      exact ⟨rfl, bthen hb5 g6⟩
  · obtain ⟨m, hm⟩ : ∃ m : Int, B' - A' = m := ⟨_, rfl⟩
    have d1 : IntKind.i64.wrap (B' - A') = m := by rw [w64 (by omega) (by omega)]; omega
    have d3 : m < 0 := by omega
    have d3' : decide (m < 0) = true := decide_eq_true d3
    have d4 : IntKind.i64.wrap (m + 8589934592) = (d : Int) := by rw [w64 (by omega) (by omega)]; omega
    have d5 : m + 8589934592 = (d : Int) := by omega
    clear hd1 hlt hAb hBb A3 B3 hA' hB'
    rcases hd2 with hd2 | hd2
    · have f1 : ((d : Int) == (K : Int)) = true := eqN hd2
      clear hd2
      iterate 50 (first | go_values | go_skip | go_guarded | go_step | go_upon | go_back | (simp only [Int.not_lt, Int.not_le] at *; go_simp))
      rw [HOR.out]
      go_wp2_with fail
      refine Calls.mono (ht0 _ hb5) ?_; rintro e w6 ⟨rfl, g6⟩
      go_wp2
      go_ret
      exact ⟨rfl, bthen hb5 g6⟩
    · obtain ⟨hne, hd3, hR0⟩ := hd2
      have f1 : ((d : Int) == (K : Int)) = false := neN hne
      have f2 : ((d : Int) == (K : Int) + 1) = true := by rw [beq_iff_eq]; omega
      have f3 : ((R : Int) == 0) = false := by rw [beq_eq_false_iff_ne]; omega
      have f4 : ((R : Int) != 0) = true := bneT (by omega)
      clear hne hd3 hR0
      iterate 50 (first | go_values | go_skip | go_guarded | go_step | go_upon | go_back | (simp only [Int.not_lt, Int.not_le] at *; go_simp))
      rw [HOR.out]
      go_wp2_with fail
      refine Calls.mono (ht0 _ hb5) ?_; rintro e w6 ⟨rfl, g6⟩
      go_wp2
      go_ret
      exact ⟨rfl, bthen hb5 g6⟩
end Go.Proofs.YtaffipbflghbiaaDoor

/- TimecodeConverts -/
import Derived.Test.YtaffipbflghbiaaDoorTcSecs
namespace Go.Proofs.YtaffipbflghbiaaDoor
open Go.RowKit

/-- Rounded up: the least number that is large enough. -/
theorem ceil_le_of {u b k : Nat} (hb : 0 < b) (h : u ≤ k * b) : (u + b - 1) / b ≤ k := by
  obtain ⟨_, h2⟩ := ceil_facts (u := u) hb
  have h3 : (u + b - 1) / b * b < (k + 1) * b := by rw [Nat.add_mul, Nat.one_mul]; omega
  have := Nat.lt_of_mul_lt_mul_right h3
  omega
theorem le_ceil_of {u b k : Nat} (hb : 0 < b) (h : k * b ≤ u) : k ≤ (u + b - 1) / b := by
  obtain ⟨h1, _⟩ := ceil_facts (u := u) hb
  have h3 : k * b ≤ (u + b - 1) / b * b := Nat.le_trans h h1
  exact Nat.le_of_mul_le_mul_right h3 hb
theorem ceil_mono {u v b : Nat} (hb : 0 < b) (h : u ≤ v) : (u + b - 1) / b ≤ (v + b - 1) / b := Nat.div_le_div_right (by omega)
theorem convert_same {x : Rt} (h1 : 0 < x.num) (h2 : 0 < x.den) (n : Nat) : convertZ x x n = n := by
  unfold convertZ
  have hb : 0 < x.num * x.den := Nat.mul_pos h1 h2
  have he : n * x.den * x.num = n * (x.num * x.den) := by rw [Nat.mul_assoc, Nat.mul_comm x.den]
  rw [he]
  exact Nat.le_antisymm (ceil_le_of hb (Nat.le_refl _)) (le_ceil_of hb (Nat.le_refl _))
theorem convert_mono {x y : Rt} (h1 : 0 < x.num) (h2 : 0 < y.den) {n m : Nat} (h : n ≤ m) : convertZ x y n ≤ convertZ x y m :=
  ceil_mono (Nat.mul_pos h1 h2) (Nat.mul_le_mul_right _ (Nat.mul_le_mul_right _ h))
theorem convert_bd {x y : Rt} (h1 : 0 < x.num) (h2 : 0 < y.den) (hx : 23 * x.den ≤ x.num) (hy : y.num ≤ 60 * y.den) (n : Nat) : convertZ x y n ≤ 3 * n := by
  refine ceil_le_of (Nat.mul_pos h1 h2) ?_
  have a1 : n * x.den * y.num ≤ n * x.den * (60 * y.den) := Nat.mul_le_mul_left _ hy
  have a2 : n * x.den * (60 * y.den) = n * (60 * x.den * y.den) := by
    simp only [Nat.mul_assoc, Nat.mul_left_comm, Nat.mul_comm]
  have a3 : 60 * x.den * y.den ≤ 3 * x.num * y.den := Nat.mul_le_mul_right _ (by omega)
  have a4 : n * (60 * x.den * y.den) ≤ n * (3 * x.num * y.den) := Nat.mul_le_mul_left _ a3
  have a5 : n * (3 * x.num * y.den) = 3 * n * (x.num * y.den) := by
    simp only [Nat.mul_assoc, Nat.mul_left_comm, Nat.mul_comm]
  omega
/-- What the law's two tests ask. -/
theorem convert_begins {x y : Rt} (h1 : 0 < x.num) (h2 : 0 < y.den) (n : Nat) :
    n * x.den * y.num ≤ convertZ x y n * y.den * x.num ∧ (∀ a1, convertZ x y n = a1 + 1 → a1 * y.den * x.num < n * x.den * y.num) := by
  have hb : 0 < x.num * y.den := Nat.mul_pos h1 h2
  obtain ⟨f1, f2⟩ := ceil_facts (u := n * x.den * y.num) hb
  have e : ∀ a, a * y.den * x.num = a * (x.num * y.den) := fun a => by rw [Nat.mul_assoc, Nat.mul_comm y.den]
  refine ⟨by rw [e]; exact f1, fun a1 ha => ?_⟩
  rw [e]
  have f2' : convertZ x y n * (x.num * y.den) < n * x.den * y.num + x.num * y.den := f2
  rw [ha, Nat.add_mul, Nat.one_mul] at f2'
  omega
theorem convert_back {x y : Rt} (h1 : 0 < x.num) (h2 : 0 < x.den) (h3 : 0 < y.num) (h4 : 0 < y.den) (n : Nat) : n ≤ convertZ y x (convertZ x y n) := by
  refine le_ceil_of (Nat.mul_pos h3 h2) ?_
  have := (convert_begins (x := x) (y := y) h1 h4 n).1
  rw [show n * (y.num * x.den) = n * x.den * y.num by rw [Nat.mul_assoc, Nat.mul_comm x.den]]
  exact this

set_option maxRecDepth 100000 in
set_option maxHeartbeats 4000000 in
theorem converts_law (c d n m : Int) (w : World) (c1 : -9223372036854775808 ≤ c) (c2 : c ≤ 9223372036854775807) (d1 : -9223372036854775808 ≤ d) (d2 : d ≤ 9223372036854775807) (n1 : -9223372036854775808 ≤ n) (n2 : n ≤ 9223372036854775807) (m1 : -9223372036854775808 ≤ m) (m2 : m ≤ 9223372036854775807) (hF : FmtAt w) :
    Calls Tryd.prog 10 #[.int .i64 c, .int .i64 d, .int .i64 n, .int .i64 m] w fun e w' => e = .returned (.bool true) ∧ Below w.heap.size w w' := by
  have HF := fun W (hb : Below w.heap.size w W) => hF.below hb
  obtain ⟨-, x, -, -, hx, -, hrate⟩ := law_rate c c1 c2
  obtain ⟨-, y, -, -, hy, -, hrate2⟩ := law_rate d d1 d2
  obtain ⟨k, hk, hpk⟩ := law_pick n 1000001 n1 n2 (by decide) (by decide)
  obtain ⟨j, hj, hpj⟩ := law_pick m 1000001 m1 m2 (by decide) (by decide)
  obtain ⟨x1, x2, x3, x4, -, -, -⟩ := rt_bd hx
  obtain ⟨y1, y2, y3, y4, -, -, -⟩ := rt_bd hy
  obtain ⟨rx1, rx2⟩ := rt_ratio hx
  obtain ⟨ry1, ry2⟩ := rt_ratio hy
  have hA := fun W (hb : Below w.heap.size w W) => convert_ok x y hx hy k (by omega) W (HF W hb)
  have hB := fun W (hb : Below w.heap.size w W) => convert_ok x y hx hy j (by omega) W (HF W hb)
  have hN := fun W (hb : Below w.heap.size w W) => convert_ok x x hx hx k (by omega) W (HF W hb)
  rw [convert_same (by omega) (by omega)] at hN
  have hAbd := convert_bd (x := x) (y := y) (by omega) (by omega) rx1 ry2 k
  have hAB : k ≤ j → convertZ x y k ≤ convertZ x y j := fun h => convert_mono (by omega) (by omega) h
  have hBA : j ≤ k → convertZ x y j ≤ convertZ x y k := fun h => convert_mono (by omega) (by omega) h
  obtain ⟨hbeg, hfst⟩ := convert_begins (x := x) (y := y) (by omega) (by omega) k
  have hback := convert_back (x := x) (y := y) (by omega) (by omega) (by omega) (by omega) k
  have hlater := convert_mono (x := y) (y := x) (by omega) (by omega) (Nat.le_succ (convertZ x y k))
  obtain ⟨A, hAe⟩ : ∃ A, convertZ x y k = A := ⟨_, rfl⟩
  obtain ⟨B, hBe⟩ : ∃ B, convertZ x y j = B := ⟨_, rfl⟩
  rw [hAe] at hA hAbd hAB hBA hbeg hfst hback hlater
  rw [hBe] at hB hAB hBA
  have hlater' : convertZ y x A ≤ convertZ y x (A + 1) := hlater
  obtain ⟨A1, hA1⟩ : ∃ A1, A + 1 = A1 := ⟨_, rfl⟩
  rw [hA1] at hlater'
  have hBK := fun W (hb : Below w.heap.size w W) => convert_ok y x hy hx A (by omega) W (HF W hb)
  have hLT := fun W (hb : Below w.heap.size w W) => convert_ok y x hy hx A1 (by omega) W (HF W hb)
  obtain ⟨BK, hBKe⟩ : ∃ BK, convertZ y x A = BK := ⟨_, rfl⟩
  obtain ⟨LT, hLTe⟩ : ∃ LT, convertZ y x A1 = LT := ⟨_, rfl⟩
  rw [hBKe] at hBK hback hlater'
  rw [hLTe] at hLT hlater'
  have eA1 : IntKind.i64.wrap ((A : Int) + 1) = (A1 : Int) := by rw [w64 (by omega) (by omega)]; omega
  have eA1' : (A : Int) + 1 = (A1 : Int) := by omega
  clear hlater hLTe hBKe hAe hBe
  unfold Rt.val at *
  clear hx hy
  generalize x.num = xa at *
  generalize x.den = xb at *
  generalize y.num = ya at *
  generalize y.den = yb at *
  clear x y
  have hA3 : A ≤ 3000000 := by omega
  have p1 := prod_le hA3 y4
  obtain ⟨P1, hP1⟩ : ∃ P1, A * yb = P1 := ⟨_, rfl⟩
  rw [hP1] at p1 hbeg
  have p2 := prod_le p1 x2
  obtain ⟨P2, hP2⟩ : ∃ P2, P1 * xa = P2 := ⟨_, rfl⟩
  rw [hP2] at p2 hbeg
  have q1 := prod_le (show k ≤ 1000000 by omega) x4
  obtain ⟨Q1, hQ1⟩ : ∃ Q1, k * xb = Q1 := ⟨_, rfl⟩
  rw [hQ1] at q1 hbeg hfst
  have q2 := prod_le q1 y2
  obtain ⟨Q2, hQ2⟩ : ∃ Q2, Q1 * ya = Q2 := ⟨_, rfl⟩
  rw [hQ2] at q2 hbeg hfst
  have e1 := wprod hP1 (by omega)
  have e2 := wprod hP2 (by omega)
  have e3 := wprod hQ1 (by omega)
  have e4 := wprod hQ2 (by omega)
  have hfirst : A = 0 ∨ ∃ A0 R1 R2 : Nat, IntKind.i64.wrap ((A : Int) - 1) = (A0 : Int) ∧ IntKind.i64.wrap ((A0 : Int) * (yb : Int)) = (R1 : Int) ∧ IntKind.i64.wrap ((R1 : Int) * (xa : Int)) = (R2 : Int) ∧ R2 < Q2 ∧ 1 ≤ A := by
    rcases Nat.eq_zero_or_pos A with h | h
    · exact .inl h
    · have hlt := hfst (A - 1) (by omega)
      have r1 := prod_le (show A - 1 ≤ 3000000 by omega) y4
      have r2 := prod_le r1 x2
      exact .inr ⟨A - 1, (A - 1) * yb, (A - 1) * yb * xa, by rw [w64 (by omega) (by omega)]; omega, wprod rfl (by omega), wprod rfl (by omega), hlt, h⟩
  have b1 : decide (Q2 ≤ P2) = true := decide_eq_true hbeg
  have b1' : decide ((Q2 : Int) ≤ (P2 : Int)) = true := decide_eq_true (by omega)
  have b2 : decide (k ≤ BK) = true := decide_eq_true hback
  have b2' : decide ((k : Int) ≤ (BK : Int)) = true := decide_eq_true (by omega)
  have b3 : decide (BK ≤ LT) = true := decide_eq_true hlater'
  have b3' : decide ((BK : Int) ≤ (LT : Int)) = true := decide_eq_true (by omega)
  have b4' : decide ((A : Int) < 0) = false := decide_eq_false (by omega)
  clear hbeg hback hlater' hfst hP1 hP2 hQ1 hQ2 p1 p2 q1 q2 hAbd hA1 rx1 rx2 ry1 ry2
  go_enter Tryd.func10, Tryd.ntmps10
  go_wp2_with fail
  refine Calls.mono (sane_any _ hF) ?_; rintro e w1 ⟨rfl, g1⟩
  go_wp2_with fail
  refine Calls.mono (hrate _) ?_; rintro e w2 ⟨rfl, g2⟩
  have hb2 := bthen g1 g2
  obtain ⟨w3, hW3, hb3, hsz3, k0, k1⟩ := box2 w2 xa xb
  have hb3' := bthen hb2 hb3
  go_wp2_with fail
  clear hW3
  obtain ⟨T, hT⟩ : ∃ T, w2.heap.size = T := ⟨_, rfl⟩
  rw [hT] at k0 k1 hsz3 ⊢
  clear hT
  refine Calls.mono (hrate2 _) ?_; rintro e w4 ⟨rfl, g4⟩
  have hb4 := bthen hb3' g4
  obtain ⟨k0, k1⟩ := keep2 k0 k1 g4 (by omega)
  have hsz4 : T < w4.heap.size := by have := g4.size; omega
  obtain ⟨w5, hW5, hb5, hsz5, l0, l1⟩ := box2 w4 ya yb
  obtain ⟨k0, k1⟩ := keep2 k0 k1 hb5 hsz4
  have hb5' := bthen hb4 hb5
  go_wp2_with (first | (go_at_call 14; with_reducible refine Calls.mono (hpk _) ?_; rintro e w3 ⟨rfl, rfl⟩) | (go_at_call 14; with_reducible refine Calls.mono (hpj _) ?_; rintro e w3 ⟨rfl, rfl⟩) | fail)
  clear hW5
  obtain ⟨U, hU⟩ : ∃ U, w4.heap.size = U := ⟨_, rfl⟩
  rw [hU] at l0 l1 hsz5 hsz4 ⊢
  clear hU
  refine Calls.mono (hA _ hb5') ?_; rintro e w6 ⟨rfl, g6⟩
  have hb6 := bthen hb5' g6
  obtain ⟨k0, k1⟩ := keep2 k0 k1 g6 (by omega)
  obtain ⟨l0, l1⟩ := keep2 l0 l1 g6 (by omega)
  have hsz6 : U < w6.heap.size := by have := g6.size; omega
  go_wp2_with fail
  refine Calls.mono (hB _ hb6) ?_; rintro e w7 ⟨rfl, g7⟩
  have hb7 := bthen hb6 g7
  obtain ⟨k0, k1⟩ := keep2 k0 k1 g7 (by omega)
  obtain ⟨l0, l1⟩ := keep2 l0 l1 g7 (by omega)
  have hsz7 : U < w7.heap.size := by have := g7.size; omega
  go_wp2_with fail
  refine Calls.mono (hN _ hb7) ?_; rintro e w8 ⟨rfl, g8⟩
  have hb8 := bthen hb7 g8
  obtain ⟨k0, k1⟩ := keep2 k0 k1 g8 (by omega)
  obtain ⟨l0, l1⟩ := keep2 l0 l1 g8 (by omega)
  have hsz8 : U < w8.heap.size := by have := g8.size; omega
  have nn : ((k : Int) != (k : Int)) = false := bneF rfl
  rcases (by omega : k < j ∨ k = j ∨ j < k) with hnm | hnm | hnm
  · have hAB := hAB (by omega)
    have s1 : decide (k ≤ j) = true := decide_eq_true (by omega)
    have s1' : decide ((k : Int) ≤ (j : Int)) = true := decide_eq_true (by omega)
    have s2 : decide (B < A) = false := decide_eq_false (by omega)
    have s2' : decide ((B : Int) < (A : Int)) = false := decide_eq_false (by omega)
    have s3 : decide (j ≤ k) = false := decide_eq_false (by omega)
    have s3' : decide ((j : Int) ≤ (k : Int)) = false := decide_eq_false (by omega)
    clear hnm hAB hBA
    go_wp2_with fail
    refine Calls.mono (hBK _ hb8) ?_; rintro e w9 ⟨rfl, g9⟩
    have hb9 := bthen hb8 g9
    obtain ⟨k0, k1⟩ := keep2 k0 k1 g9 (by omega)
    obtain ⟨l0, l1⟩ := keep2 l0 l1 g9 (by omega)
    have hsz9 : U < w9.heap.size := by have := g9.size; omega
    go_wp2_with fail
    refine Calls.mono (hLT _ hb9) ?_; rintro e w10 ⟨rfl, g10⟩
    have hb10 := bthen hb9 g10
    obtain ⟨k0, k1⟩ := keep2 k0 k1 g10 (by omega)
    obtain ⟨l0, l1⟩ := keep2 l0 l1 g10 (by omega)
    clear hBK hLT hA hB hN
    rcases hfirst with hA0 | ⟨A0, R1, R2, e5, e6, e7, hR⟩
    · have f1 : ((A : Int) == 0) = true := by rw [beq_iff_eq]; omega
      clear hA0
      go_wp2
      go_ret
      exact ⟨rfl, hb10⟩
    · obtain ⟨hR2, hA1⟩ := hR
      have f1 : ((A : Int) == 0) = false := by rw [beq_eq_false_iff_ne]; omega
      have f2 : decide (R2 < Q2) = true := decide_eq_true hR2
      have f2' : decide ((R2 : Int) < (Q2 : Int)) = true := decide_eq_true (by omega)
      clear hR2 hA1
      go_wp2
      go_ret
      exact ⟨rfl, hb10⟩
  · have hAB := hAB (by omega)
    have hBA := hBA (by omega)
    have s1 : decide (k ≤ j) = true := decide_eq_true (by omega)
    have s1' : decide ((k : Int) ≤ (j : Int)) = true := decide_eq_true (by omega)
    have s2 : decide (B < A) = false := decide_eq_false (by omega)
    have s2' : decide ((B : Int) < (A : Int)) = false := decide_eq_false (by omega)
    have s3 : decide (j ≤ k) = true := decide_eq_true (by omega)
    have s3' : decide ((j : Int) ≤ (k : Int)) = true := decide_eq_true (by omega)
    have s4 : decide (A < B) = false := decide_eq_false (by omega)
    have s4' : decide ((A : Int) < (B : Int)) = false := decide_eq_false (by omega)
    clear hnm hAB hBA
    go_wp2_with fail
    refine Calls.mono (hBK _ hb8) ?_; rintro e w9 ⟨rfl, g9⟩
    have hb9 := bthen hb8 g9
    obtain ⟨k0, k1⟩ := keep2 k0 k1 g9 (by omega)
    obtain ⟨l0, l1⟩ := keep2 l0 l1 g9 (by omega)
    have hsz9 : U < w9.heap.size := by have := g9.size; omega
    go_wp2_with fail
    refine Calls.mono (hLT _ hb9) ?_; rintro e w10 ⟨rfl, g10⟩
    have hb10 := bthen hb9 g10
    obtain ⟨k0, k1⟩ := keep2 k0 k1 g10 (by omega)
    obtain ⟨l0, l1⟩ := keep2 l0 l1 g10 (by omega)
    clear hBK hLT hA hB hN
    rcases hfirst with hA0 | ⟨A0, R1, R2, e5, e6, e7, hR⟩
    · have f1 : ((A : Int) == 0) = true := by rw [beq_iff_eq]; omega
      clear hA0
      go_wp2
      go_ret
      exact ⟨rfl, hb10⟩
    · obtain ⟨hR2, hA1⟩ := hR
      have f1 : ((A : Int) == 0) = false := by rw [beq_eq_false_iff_ne]; omega
      have f2 : decide (R2 < Q2) = true := decide_eq_true hR2
      have f2' : decide ((R2 : Int) < (Q2 : Int)) = true := decide_eq_true (by omega)
      clear hR2 hA1
      go_wp2
      go_ret
      exact ⟨rfl, hb10⟩
  · have hBA := hBA (by omega)
    have s1 : decide (k ≤ j) = false := decide_eq_false (by omega)
    have s1' : decide ((k : Int) ≤ (j : Int)) = false := decide_eq_false (by omega)
    have s3 : decide (j ≤ k) = true := decide_eq_true (by omega)
    have s3' : decide ((j : Int) ≤ (k : Int)) = true := decide_eq_true (by omega)
    have s4 : decide (A < B) = false := decide_eq_false (by omega)
    have s4' : decide ((A : Int) < (B : Int)) = false := decide_eq_false (by omega)
    clear hnm hAB hBA
    go_wp2_with fail
    refine Calls.mono (hBK _ hb8) ?_; rintro e w9 ⟨rfl, g9⟩
    have hb9 := bthen hb8 g9
    obtain ⟨k0, k1⟩ := keep2 k0 k1 g9 (by omega)
    obtain ⟨l0, l1⟩ := keep2 l0 l1 g9 (by omega)
    have hsz9 : U < w9.heap.size := by have := g9.size; omega
    go_wp2_with fail
    refine Calls.mono (hLT _ hb9) ?_; rintro e w10 ⟨rfl, g10⟩
    have hb10 := bthen hb9 g10
    obtain ⟨k0, k1⟩ := keep2 k0 k1 g10 (by omega)
    obtain ⟨l0, l1⟩ := keep2 l0 l1 g10 (by omega)
    clear hBK hLT hA hB hN
    rcases hfirst with hA0 | ⟨A0, R1, R2, e5, e6, e7, hR⟩
    · have f1 : ((A : Int) == 0) = true := by rw [beq_iff_eq]; omega
      clear hA0
      go_wp2
      go_ret
      exact ⟨rfl, hb10⟩
    · obtain ⟨hR2, hA1⟩ := hR
      have f1 : ((A : Int) == 0) = false := by rw [beq_eq_false_iff_ne]; omega
      have f2 : decide (R2 < Q2) = true := decide_eq_true hR2
      have f2' : decide ((R2 : Int) < (Q2 : Int)) = true := decide_eq_true (by omega)
      clear hR2 hA1
      go_wp2
      go_ret
      exact ⟨rfl, hb10⟩
end Go.Proofs.YtaffipbflghbiaaDoor

/- CalendarMatchesReference. -/
import Derived.Test.YtejohdmbnnlhjaaCalRefF
import Derived.Test.YtejohdmbnnlhjaaCalDays
import Derived.Deep.RegionHeld3
import Derived.StillTailTactics
namespace Go.Proofs.Ytejohdmbnnlhjaa
open Go.RowKit

theorem inv0 {P Q : Prop} {n : Nat} {v W : World} (h : P ∧ Q ∧ Below n v W) : Below n v W := h.2.2
theorem keepA {W W' : World} {N n : Nat} {x : Int} (hS : W'.cell? ⟨N, 0, none⟩ = some (iv x) ∧ Below n W W') (hN : N < W.heap.size) (hn : n ≤ W.heap.size) (o : Obj) :
    (W'.alloc o).cell? ⟨N, 0, none⟩ = some (iv x) ∧ Below n W (W'.alloc o) := by
  have hs := hS.2.size
  have b : Below W'.heap.size W' (W'.alloc o) := (Below.refl _ W').alloc (Nat.le_refl _) _
  exact ⟨(b.cell (p := ⟨N, 0, none⟩) (by simp; omega)).trans hS.1, hS.2.trans (b.mono (by omega))⟩
theorem keepB {W W' : World} {N n : Nat} {x y : Int} (hS : W'.cell? ⟨N, 1, none⟩ = some (iv x) ∧ W'.cell? ⟨N, 2, none⟩ = some (iv y) ∧ Below n W W') (hN : N < W.heap.size) (hn : n ≤ W.heap.size) (o : Obj) :
    (W'.alloc o).cell? ⟨N, 1, none⟩ = some (iv x) ∧ (W'.alloc o).cell? ⟨N, 2, none⟩ = some (iv y) ∧ Below n W (W'.alloc o) := by
  have hs := hS.2.2.size
  have b : Below W'.heap.size W' (W'.alloc o) := (Below.refl _ W').alloc (Nat.le_refl _) _
  exact ⟨(b.cell (p := ⟨N, 1, none⟩) (by simp; omega)).trans hS.1, (b.cell (p := ⟨N, 2, none⟩) (by simp; omega)).trans hS.2.1, hS.2.2.trans (b.mono (by omega))⟩
theorem keepC {W W' W'' : World} {B C n : Nat} {x y z : Int} {v : Value} (hS : W'.cell? ⟨B, 0, none⟩ = some (iv x) ∧ W'.cell? ⟨B, 1, none⟩ = some v ∧ W'.cell? ⟨C, 0, none⟩ = some (iv y) ∧ W'.cell? ⟨C, 1, none⟩ = some (iv z) ∧ Below n W W') (hB : B < W.heap.size) (hC : C < W.heap.size) (hn : n ≤ W.heap.size) (b : Below W'.heap.size W' W'') :
    W''.cell? ⟨B, 0, none⟩ = some (iv x) ∧ W''.cell? ⟨B, 1, none⟩ = some v ∧ W''.cell? ⟨C, 0, none⟩ = some (iv y) ∧ W''.cell? ⟨C, 1, none⟩ = some (iv z) ∧ Below n W W'' := by
  have hs := hS.2.2.2.2.size
  exact ⟨(b.cell (p := ⟨B, 0, none⟩) (by simp; omega)).trans hS.1, (b.cell (p := ⟨B, 1, none⟩) (by simp; omega)).trans hS.2.1, (b.cell (p := ⟨C, 0, none⟩) (by simp; omega)).trans hS.2.2.1, (b.cell (p := ⟨C, 1, none⟩) (by simp; omega)).trans hS.2.2.2.1, hS.2.2.2.2.trans (b.mono (by omega))⟩
theorem inv5 {P Q R S : Prop} {n : Nat} {v W : World} (h : P ∧ Q ∧ R ∧ S ∧ Below n v W) : Below n v W := h.2.2.2.2
theorem local_bd {off s : Int} {sh : List (Int × Int)} : -1 ≤ (localZ off sh s).1 ∧ (localZ off sh s).1 ≤ 115742 := by
  unfold localZ
  split
  · rename_i h
    rw [Bool.and_eq_true] at h
    have h1 := offZ_ok (s := s) h.1
    have h2 := okSec_iff.1 h.2
    simp only
    omega
  · simp

set_option maxRecDepth 100000 in
set_option maxHeartbeats 4000000 in
theorem matches_law (off : Int) (p : Option Addr) (len cap : Nat) (sh : List (Int × Int)) (s day n0 n1 n2 : Int) (w : World) (hlen : len ≤ 9223372036854775807) (hlc : len ≤ cap) (hcap : cap ≤ 9223372036854775807) (hsh : sh.length = min len 45) (hS : ShAt w w.heap.size p sh)
    (s1 : -9223372036854775808 ≤ s) (s2 : s ≤ 9223372036854775807) (d1 : -9223372036854775808 ≤ day) (d2 : day ≤ 9223372036854775807) (m1 : -9223372036854775808 ≤ n0) (m2 : n0 ≤ 9223372036854775807) (m3 : -9223372036854775808 ≤ n1) (m4 : n1 ≤ 9223372036854775807) (m5 : -9223372036854775808 ≤ n2) (m6 : n2 ≤ 9223372036854775807) :
    Calls Try.prog 3 #[.agg #[iv off, .slice p len cap], .int .i64 s, .int .i64 day, .agg #[iv n0, iv n1, iv n2]] w fun e w' => e = .returned (.bool true) ∧ Below w.heap.size w w' := by
  obtain ⟨q1, hq1⟩ : ∃ q, pickZ day 20 = q := ⟨_, rfl⟩
  have hp1 := fun W => pick_any day 20 W d1 d2 (by decide) (by decide)
  rw [hq1] at hp1
  obtain ⟨q2, hq2⟩ : ∃ q, pickZ n0 86400 = q := ⟨_, rfl⟩
  have hp2 := fun W => pick_any n0 86400 W m1 m2 (by decide) (by decide)
  rw [hq2] at hp2
  obtain ⟨q3, hq3⟩ : ∃ q, pickZ n1 86400 = q := ⟨_, rfl⟩
  have hp3 := fun W => pick_any n1 86400 W m3 m4 (by decide) (by decide)
  rw [hq3] at hp3
  obtain ⟨q4, hq4⟩ : ∃ q, pickZ n2 86400 = q := ⟨_, rfl⟩
  have hp4 := fun W => pick_any n2 86400 W m5 m6 (by decide) (by decide)
  rw [hq4] at hp4
  clear hq1 hq2 hq3 hq4 m1 m2 m3 m4 m5 m6 d1 d2 s1 s2
  have hl : sh.length ≤ 1000 := by omega
  have hraw := fun W => raw_any off p len cap W hlen hlc hcap
  rw [← hsh] at hraw
  obtain ⟨c, hc⟩ : ∃ c, (localZ off sh s).1 = c := ⟨_, rfl⟩
  obtain ⟨d, hd⟩ : ∃ d, (localZ off sh s).2 = d := ⟨_, rfl⟩
  obtain ⟨c1, c2⟩ : -1 ≤ c ∧ c ≤ 115742 := hc ▸ local_bd
  obtain ⟨e1, e2⟩ : 0 ≤ d ∧ d < 86400 := hd ▸ local_in
  have y1 := fun W (h : Below w.heap.size w W) => local_any off s p cap sh W ((hS.below h).mono h.size) hl
  have y2 := fun W (h : Below w.heap.size w W) => rlocal_any off s p cap sh W ((hS.below h).mono h.size) hl
  rw [hc, hd] at y1 y2
  have y3 := fun W (h : Below w.heap.size w W) => valid_any off p cap w.heap.size sh W h.size (hS.below h) hl
  have y4 := fun W (h : Below w.heap.size w W) => rvalid_any off p cap w.heap.size sh W h.size (hS.below h) hl
  obtain ⟨V, hV⟩ : ∃ V, validZ off sh = V := ⟨_, rfl⟩
  rw [hV] at y3 y4
  have HS := Lib.hid hS
  clear hV hc hd hS hlen hlc hcap hsh
  go_enter Try.func3, Try.ntmps3
  go_wp2_with fail
  obtain ⟨W0, hW0, u0, z0, ka, kn⟩ : ∃ W0, (w.alloc (.cells #[.int .i64 off, .slice p len cap] 24)).alloc (.cells #[.int .i64 n0, .int .i64 n1, .int .i64 n2] 25) = W0 ∧ Below w.heap.size w W0 ∧ W0.heap.size = w.heap.size + 2 ∧
      Arr W0 w.heap.size 24 [iv off, .slice p len cap] ∧ Arr W0 (w.heap.size + 1) 25 [iv n0, iv n1, iv n2] :=
    ⟨_, rfl, ((Below.refl _ w).alloc (Nat.le_refl _) _).alloc (by simp) _, by simp, (Arr.new w _ [iv off, .slice p len cap]).alloc _, Arr.new' _ [iv n0, iv n1, iv n2] (by simp)⟩
  rw [hW0]; clear hW0
  refine Calls.mono (sane_any _) ?_; rintro e v1 ⟨rfl, u1⟩
  have x1 := u1.size
  have ka := ka.below u1 (by omega)
  have kn := kn.below u1 (by omega)
  have a0 := ka.cell (i := 0) rfl
  have a1 := ka.cell (i := 1) rfl
  have u01 := bthen u0 u1
  go_wp2_with fail
  refine Calls.mono (hraw _) ?_; rintro e v2 ⟨rfl, u2⟩
  have x2 := u2.size
  have kn := kn.below u2 (by omega)
  have u02 := bthen u01 u2
  clear hraw ka a0 a1 u0 u1 u2 u01
  go_wp2_with fail
  obtain ⟨W3, hW3, u3, z3, kz⟩ := boxZ' v2 off (.slice p sh.length cap)
  rw [hW3]; clear hW3
  have kn := kn.below u3 (by omega)
  have u03 := bthen u02 u3
  refine Calls.mono (y1 _ u03) ?_; rintro e v4 ⟨rfl, u4⟩
  have x4 := u4.size
  have kz := kz.below u4 (by omega)
  have kn := kn.below u4 (by omega)
  have u04 := bthen u03 u4
  have c0 := kz.cell (i := 0) rfl
  have c1' := kz.cell (i := 1) rfl
  go_wp2_with fail
  refine Calls.mono (y2 _ u04) ?_; rintro e v5 ⟨rfl, u5⟩
  have x5 := u5.size
  have kz := kz.below u5 (by omega)
  have kn := kn.below u5 (by omega)
  have u05 := bthen u04 u5
  have g1 : w.heap.size + 2 ≤ v2.heap.size := by omega
  have g2 : v2.heap.size < v5.heap.size := by omega
  clear y1 y2 c0 c1' u3 u4 u5 u02 u03 u04 x4 x5 z3 x1 x2 z0
  obtain ⟨Z, hZe⟩ : ∃ Z, v2.heap.size = Z := ⟨_, rfl⟩
  obtain ⟨N, hNe⟩ : ∃ N, w.heap.size + 1 = N := ⟨_, rfl⟩
  rw [hZe] at kz g1 g2 ⊢
  rw [hNe] at kn ⊢
  have g3 : N < Z := by omega
  have c0 := kz.cell (i := 0) rfl
  have c1' := kz.cell (i := 1) rfl
  have r3 := fun W (h : Below v5.heap.size v5 W) => y3 W (bthen u05 h)
  have r4 := fun W (h : Below v5.heap.size v5 W) => y4 W (bthen u05 h)
  have HN := Lib.hid hNe
  have t1 : (V != V) = false := by simp
  have t2 : (c != c) = false := by simp
  have t3 : (d != d) = false := by simp
  clear hZe hNe y3 y4 g1
  have hst : v5.drew.cell? ⟨Z, 0, none⟩ = some (iv off) ∧ v5.drew.cell? ⟨Z, 1, none⟩ = some (.slice p sh.length cap) ∧ Below v5.heap.size v5 v5.drew := ⟨c0, c1', (Below.refl _ _).drew⟩
  go_wp2_with fail
  go_region_held3 (fun w' => w'.cell? ⟨Z, 0, none⟩ = some (iv off) ∧ w'.cell? ⟨Z, 1, none⟩ = some (.slice p sh.length cap) ∧ Below v5.heap.size v5 w') (first | assumption | exact hst | exact keepV (by assumption) g2 (Nat.le_refl _) b6 | fail)
    (first | (go_at_call 13; (with_reducible refine Calls.mono (r3 _ (inv0 (by assumption))) ?_); rintro e w6 ⟨rfl, b6⟩) | (go_at_call 14; (with_reducible refine Calls.mono (r4 _ (inv0 (by assumption))) ?_); rintro e w6 ⟨rfl, b6⟩))
  rename_i hHeld
  have u6 := inv0 hHeld
  have x6 := u6.size
  have kz := kz.below u6 g2
  have kn := kn.below u6 (by omega)
  have u06 := bthen u05 u6
  have g2 : Z < w6.heap.size := by omega
  clear hHeld b6 u6 u05 c0 c1' hst r3 r4 t1 t2 t3 x6
  have k0 := kn.cell (i := 0) rfl
  have k1 := kn.cell (i := 1) rfl
  have k2 := kn.cell (i := 2) rfl
  have i1 : IntKind.i64.wrap (c + 1) = c + 1 := w64 (by omega) (by omega)
  go_wp2_with (go_at_call 15; (with_reducible refine Calls.mono (hp1 _) ?_); rintro e w' ⟨rfl, rfl⟩)
  obtain ⟨A, hAe⟩ : ∃ A, w6.heap.size = A := ⟨_, rfl⟩
  obtain ⟨W7, hW7, u7, z7, kA⟩ : ∃ W7, w6.alloc (.cells #[.int .i64 day, .int .i64 c, .int .i64 (c + 1), .int .i64 q1] 3) = W7 ∧ Below w6.heap.size w6 W7 ∧ W7.heap.size = w6.heap.size + 1 ∧ Arr W7 w6.heap.size 3 [iv day, iv c, iv (c + 1), iv q1] :=
    ⟨_, rfl, (Below.refl _ w6).alloc (Nat.le_refl _) _, by simp, Arr.new w6 _ [iv day, iv c, iv (c + 1), iv q1]⟩
  rw [hW7]; clear hW7
  have kz := kz.below u7 (by omega)
  have kn := kn.below u7 (by omega)
  have u07 := bthen u06 u7
  have hAl : w6.heap.size < W7.heap.size := by omega
  have hZl : Z < W7.heap.size := by omega
  have hNl : N < W7.heap.size := by omega
  have hA0 : Z < A := by omega
  rw [hAe] at hAl kA z7 ⊢
  have hK : ∀ j : Nat, j < 4 → ∃ x, W7.cell? ⟨A, j, none⟩ = some (iv x) := by
    intro j hj
    match j, hj with
    | 0, _ => exact ⟨_, kA.cell (i := 0) rfl⟩
    | 1, _ => exact ⟨_, kA.cell (i := 1) rfl⟩
    | 2, _ => exact ⟨_, kA.cell (i := 2) rfl⟩
    | 3, _ => exact ⟨_, kA.cell (i := 3) rfl⟩
  have HK := Lib.hid hK
  have hY : ∀ (x t : Int) W, Below w.heap.size w W → (Calls Try.prog 16 #[.agg #[iv off, .slice p sh.length cap], .int .i64 x] W fun e w' => e = .returned (.int .i64 (lengthZ off sh x)) ∧ Below W.heap.size W w') ∧
      (Calls Try.prog 17 #[.agg #[iv off, .slice p sh.length cap], .int .i64 x] W fun e w' => e = .returned (.int .i64 (lengthZ off sh x)) ∧ Below W.heap.size W w') ∧
      Calls Try.prog 19 #[.agg #[iv off, .slice p sh.length cap], .int .i64 x, .int .i64 t] W (IntsOut W (atT off sh x t)) ∧
      Calls Try.prog 20 #[.agg #[iv off, .slice p sh.length cap], .int .i64 x, .int .i64 t] W (IntsOut W (atT off sh x t)) := fun x t W h => by
    have hs := (HS.out.below h).mono h.size
    exact ⟨length_any off x p cap sh W hs hl, rlength_any off x p cap sh W hs hl, at_any off x t p cap sh W hs hl, rat_any off x t p cap sh W hs hl⟩
  have HY := Lib.hid hY
  clear hK hY kA hAe z7 u7 u06 k0 k1 k2 c1 c2 e1 e2
  go_loopw [59] (fun jv wr => ∃ j : Nat, jv = .int .i64 j ∧ j ≤ 4 ∧ Below W7.heap.size W7 wr) (fun jv _ => 4 - (intOf jv).toNat)
  case atStart => exact ⟨0, rfl, by omega, Below.refl _ _⟩
  case round =>
    obtain ⟨wo, rfl⟩ : ∃ wo : World, wo = wr := ⟨_, rfl⟩
    obtain ⟨j, rfl, hj4, hB⟩ := hrel
    have hBs := hB.size
    have kzr := kz.below hB hZl
    have knr := kn.below hB hNl
    by_cases hj : j < 4
    · obtain ⟨x, hx⟩ := HK.out j hj
      have hxw := (hB.cell (p := ⟨A, j, none⟩) hAl).trans hx
      have j0 : (0 : Int) ≤ (j : Int) := by omega
      have j1 : (j : Int) < 4 := by omega
      have k0 := knr.cell (i := 0) rfl
      clear hx
      go_wp2_with fail
      have hst : wo.drew.cell? ⟨N, 0, none⟩ = some (iv n0) ∧ Below wo.heap.size wo wo.drew := ⟨k0, (Below.refl _ _).drew⟩
      have hNo : N < wo.heap.size := by omega
      go_region_held3 (fun w' => w'.cell? ⟨N, 0, none⟩ = some (iv n0) ∧ Below wo.heap.size wo w') (first | assumption | exact hst | exact keepA (by assumption) hNo (Nat.le_refl _) _ | fail)
        (first | (go_at_call 15; (with_reducible refine Calls.mono (hp2 _) ?_); rintro e w' ⟨rfl, rfl⟩) | fail)
      clear hst k0
      go_wp2_with fail
      obtain ⟨B, hBe⟩ : ∃ B, wo.heap.size = B := ⟨_, rfl⟩
      obtain ⟨W8, hW8, u8, z8, kB⟩ : ∃ W8, (wo.alloc (.cells #[.int .i64 n0, .int .i64 q2, .int .i64 d] 3)).drew = W8 ∧ Below wo.heap.size wo W8 ∧ W8.heap.size = wo.heap.size + 1 ∧ Arr W8 wo.heap.size 3 [iv n0, iv q2, iv d] :=
        ⟨_, rfl, ((Below.refl _ wo).alloc (Nat.le_refl _) _).drew, by simp, Arr.new wo _ [iv n0, iv q2, iv d]⟩
      rw [hW8]; clear hW8
      have y78 : Below W7.heap.size W7 W8 := hB.trans (u8.mono hBs)
      have hBl : wo.heap.size < W8.heap.size := by omega
      have hZ8 : Z < W8.heap.size := by omega
      have kz8 := kzr.below u8 (by omega)
      rw [hBe] at hBl kB ⊢
      have hK2 : ∀ i : Nat, i < 3 → ∃ t, W8.cell? ⟨B, i, none⟩ = some (iv t) := by
        intro i hi
        match i, hi with
        | 0, _ => exact ⟨_, kB.cell (i := 0) rfl⟩
        | 1, _ => exact ⟨_, kB.cell (i := 1) rfl⟩
        | 2, _ => exact ⟨_, kB.cell (i := 2) rfl⟩
      have HK2 := Lib.hid hK2
      have u08 := bthen u07 y78
      have z78 := y78.size
      clear hK2 kB hBe z8 u8 hxw hNo kzr knr hB hBs
      go_loopw [71] (fun jv wr => ∃ i : Nat, jv = .int .i64 i ∧ i ≤ 3 ∧ Below W8.heap.size W8 wr) (fun jv _ => 3 - (intOf jv).toNat)
      case atStart => exact ⟨0, rfl, by omega, Below.refl _ _⟩
      case round =>
        obtain ⟨i, rfl, hi3, hBr⟩ := hrel
        have hBrs := hBr.size
        by_cases hi : i < 3
        · obtain ⟨t, ht⟩ := HK2.out i hi
          have htw := (hBr.cell (p := ⟨B, i, none⟩) hBl).trans ht
          have i0 : (0 : Int) ≤ (i : Int) := by omega
          have i2 : (i : Int) < 3 := by omega
          have hZr : Z < wr.heap.size := by omega
          have kzr := kz8.below hBr hZ8
          have c0 := kzr.cell (i := 0) rfl
          have c1 := kzr.cell (i := 1) rfl
          have hbr : Below w.heap.size w wr := bthen u08 hBr
          have r5 := fun W (h : Below wr.heap.size wr W) => (HY.out x t W (bthen hbr h)).1
          have r6 := fun W (h : Below wr.heap.size wr W) => (HY.out x t W (bthen hbr h)).2.1
          have r7 := fun W (h : Below wr.heap.size wr W) => (HY.out x t W (bthen hbr h)).2.2.1
          have r8 := fun W (h : Below wr.heap.size wr W) => (HY.out x t W (bthen hbr h)).2.2.2
          obtain ⟨m, hm⟩ : ∃ m, lengthZ off sh x = m := ⟨_, rfl⟩
          rw [hm] at r5 r6
          obtain ⟨L, hL⟩ : ∃ L, atT off sh x t = L := ⟨_, rfl⟩
          rw [hL] at r7 r8
          have t1 : (m != m) = false := by simp
          clear hm hL ht kzr
          go_wp2_with fail
          have hst : wr.drew.cell? ⟨Z, 0, none⟩ = some (iv off) ∧ wr.drew.cell? ⟨Z, 1, none⟩ = some (.slice p sh.length cap) ∧ Below wr.heap.size wr wr.drew := ⟨c0, c1, (Below.refl _ _).drew⟩
          clear c0 c1 htw
          go_region_held3 (fun w' => w'.cell? ⟨Z, 0, none⟩ = some (iv off) ∧ w'.cell? ⟨Z, 1, none⟩ = some (.slice p sh.length cap) ∧ Below wr.heap.size wr w') (first | assumption | exact hst | exact keepV (by assumption) hZr (Nat.le_refl _) b1 | exact keepV (by assumption) hZr (Nat.le_refl _) b2 | exact keepV (by assumption) hZr (Nat.le_refl _) b3 | exact keepV (by assumption) hZr (Nat.le_refl _) b4 | exact keepV (by assumption) hZr (Nat.le_refl _) b5 | fail)
            (first | (go_at_call 16; (with_reducible refine Calls.mono (r5 _ (inv0 (by assumption))) ?_); rintro e wa ⟨rfl, b1⟩) | (go_at_call 17; (with_reducible refine Calls.mono (r6 _ (inv0 (by assumption))) ?_); rintro e wb ⟨rfl, b2⟩) | (go_at_call 19; (with_reducible refine Calls.mono (r7 _ (inv0 (by assumption))) ?_); rintro e wc ⟨v3, rfl, o3, b3⟩; obtain ⟨pm, cm, rfl, hMm, hcm⟩ := ints_at o3; have hcm : IntAt wc pm L := hcm) | (go_at_call 20; (with_reducible refine Calls.mono (r8 _ (inv0 (by assumption))) ?_); rintro e wf ⟨v4, rfl, o4, b4⟩; obtain ⟨pn, cn, rfl, hMn, hcn⟩ := ints_at o4; have hcn : IntAt wf pn L := hcn) | (go_at_call 18; (with_reducible refine Calls.mono (same_any L pm pn cm cn _ (IntAt.below hcm b4) hcn hMn) ?_); rintro e wg ⟨rfl, b5⟩))
          rename_i hHeld
          have bl := inv0 hHeld
          have hlast := hBr.trans (bl.mono hBrs)
          clear hHeld bl b1 b2 b3 b4 b5 o3 o4 hcm hcn r5 r6 r7 r8 hst
          go_wp2_with fail
          go_roundw
          case rel => exact ⟨i + 1, by go_num, by omega, hlast⟩
          case measure => simp [intOf]; omega
        · obtain rfl : i = 3 := by omega
          have hlast := y78.trans (hBr.mono z78)
          clear HK2 kz8
          go_wp2_with fail
          go_roundw
          case rel => exact ⟨j + 1, by go_num, by omega, hlast⟩
          case measure => simp [intOf]; omega
    · obtain rfl : j = 4 := by omega
      have u0o := bthen u07 hB
      have hZo : Z < wo.heap.size := by omega
      have hNo : N < wo.heap.size := by omega
      have k1 := knr.cell (i := 1) rfl
      have k2 := knr.cell (i := 2) rfl
      clear HK HY u07 hB hBs hAl hA0 g2 hj hj4 kz kn knr b6 i1 hZl hNl
      go_wp2_with fail
      have hst : wo.drew.cell? ⟨N, 1, none⟩ = some (iv n1) ∧ wo.drew.cell? ⟨N, 2, none⟩ = some (iv n2) ∧ Below wo.heap.size wo wo.drew := ⟨k1, k2, (Below.refl _ _).drew⟩
      go_region_held3 (fun w' => w'.cell? ⟨N, 1, none⟩ = some (iv n1) ∧ w'.cell? ⟨N, 2, none⟩ = some (iv n2) ∧ Below wo.heap.size wo w') (first | assumption | exact hst | exact keepB (by assumption) hNo (Nat.le_refl _) _ | fail)
        (first | (go_at_call 15; (with_reducible refine Calls.mono (hp3 _) ?_); rintro e w' ⟨rfl, rfl⟩) | (go_at_call 15; (with_reducible refine Calls.mono (hp4 _) ?_); rintro e w' ⟨rfl, rfl⟩) | fail)
      clear hst k1 k2
      go_wp2_with fail
      obtain ⟨B, hBe⟩ : ∃ B, wo.heap.size = B := ⟨_, rfl⟩
      obtain ⟨W8, hW8, u8, z8, kB⟩ : ∃ W8, (wo.alloc (.cells #[.int .i64 n1, .int .i64 n2, .int .i64 q3, .int .i64 q4, .int .i64 d, .int .i64 d, .int .i64 d, .int .i64 q3] 36)).drew = W8 ∧ Below wo.heap.size wo W8 ∧ W8.heap.size = wo.heap.size + 1 ∧ Arr W8 wo.heap.size 36 [iv n1, iv n2, iv q3, iv q4, iv d, iv d, iv d, iv q3] :=
        ⟨_, rfl, ((Below.refl _ wo).alloc (Nat.le_refl _) _).drew, by simp, Arr.new wo _ [iv n1, iv n2, iv q3, iv q4, iv d, iv d, iv d, iv q3]⟩
      rw [hW8]; clear hW8
      have hBl : wo.heap.size < W8.heap.size := by omega
      have hZ8 : Z < W8.heap.size := by omega
      have kz8 := kzr.below u8 (by omega)
      have hZB : Z < wo.heap.size := hZo
      rw [hBe] at hBl kB hZB ⊢
      have hK2 : ∀ i : Nat, i < 4 → ∃ a b, W8.cell? ⟨B, i * 2, none⟩ = some (iv a) ∧ W8.cell? ⟨B, i * 2 + 1, none⟩ = some (iv b) := by
        intro i hi
        match i, hi with
        | 0, _ => exact ⟨_, _, kB.cell (i := 0) rfl, kB.cell (i := 1) rfl⟩
        | 1, _ => exact ⟨_, _, kB.cell (i := 2) rfl, kB.cell (i := 3) rfl⟩
        | 2, _ => exact ⟨_, _, kB.cell (i := 4) rfl, kB.cell (i := 5) rfl⟩
        | 3, _ => exact ⟨_, _, kB.cell (i := 6) rfl, kB.cell (i := 7) rfl⟩
      have HK2 := Lib.hid hK2
      have u08 := bthen u0o u8
      have hY : ∀ (x t : Int) W, Below w.heap.size w W → (Calls Try.prog 21 #[.agg #[iv off, .slice p sh.length cap], .int .i64 s, .int .i64 x, .int .i64 t] W fun e w' => e = .returned (.bool (withinZ off sh s x t)) ∧ Below W.heap.size W w') ∧
          (Calls Try.prog 22 #[.agg #[iv off, .slice p sh.length cap], .int .i64 s, .int .i64 x, .int .i64 t] W fun e w' => e = .returned (.bool (withinZ off sh s x t)) ∧ Below W.heap.size W w') := fun x t W h => by
        have hs := (HS.out.below h).mono h.size
        exact ⟨within_any off s x t p cap sh W hs hl, rwithin_any off s x t p cap sh W hs hl⟩
      have HY := Lib.hid hY
      clear hK2 kB hBe z8 u8 hY u0o hNo hZo kzr
      go_loopw [118] (fun jv wr => ∃ i : Nat, jv = .int .i64 i ∧ i ≤ 4 ∧ Below W8.heap.size W8 wr) (fun jv _ => 4 - (intOf jv).toNat)
      case atStart => exact ⟨0, rfl, by omega, Below.refl _ _⟩
      case round =>
        obtain ⟨i, rfl, hi3, hBr⟩ := hrel
        have hBrs := hBr.size
        by_cases hi : i < 4
        · obtain ⟨x, t, hx, ht⟩ := HK2.out i hi
          have hxw := (hBr.cell (p := ⟨B, i * 2, none⟩) hBl).trans hx
          have htw := (hBr.cell (p := ⟨B, i * 2 + 1, none⟩) hBl).trans ht
          have i0 : (0 : Int) ≤ (i : Int) := by omega
          have i2 : (i : Int) < 4 := by omega
          have kzr := kz8.below hBr hZ8
          have hZr : Z < wr.heap.size := by omega
          clear hx ht kz8 HK2
          go_wp2_with fail
          obtain ⟨C, hCe⟩ : ∃ C, wr.heap.size = C := ⟨_, rfl⟩
          obtain ⟨W9, hW9, u9, z9, kC⟩ : ∃ W9, wr.alloc (.cells #[.int .i64 x, .int .i64 t] 36) = W9 ∧ Below wr.heap.size wr W9 ∧ W9.heap.size = wr.heap.size + 1 ∧ Arr W9 wr.heap.size 36 [iv x, iv t] :=
            ⟨_, rfl, (Below.refl _ wr).alloc (Nat.le_refl _) _, by simp, Arr.new wr _ [iv x, iv t]⟩
          rw [hW9]; clear hW9
          have hCl : wr.heap.size < W9.heap.size := by omega
          have hZ9 : Z < W9.heap.size := by omega
          have kz9 := kzr.below u9 hZr
          have h89 : Below W8.heap.size W8 W9 := hBr.trans (u9.mono hBrs)
          have g8 : W8.heap.size ≤ W9.heap.size := by omega
          have h09 : Below w.heap.size w W9 := bthen u08 h89
          rw [hCe] at hCl kC ⊢
          have c0 := kz9.cell (i := 0) rfl
          have c1 := kz9.cell (i := 1) rfl
          have c2 := kC.cell (i := 0) rfl
          have c3 := kC.cell (i := 1) rfl
          have r5 := fun W (h : Below W9.heap.size W9 W) => (HY.out x t W (bthen h09 h)).1
          have r6 := fun W (h : Below W9.heap.size W9 W) => (HY.out x t W (bthen h09 h)).2
          obtain ⟨b, hb⟩ : ∃ b, withinZ off sh s x t = b := ⟨_, rfl⟩
          rw [hb] at r5 r6
          have t1 : (b != b) = false := by simp
          have hst : W9.drew.cell? ⟨Z, 0, none⟩ = some (iv off) ∧ W9.drew.cell? ⟨Z, 1, none⟩ = some (.slice p sh.length cap) ∧ W9.drew.cell? ⟨C, 0, none⟩ = some (iv x) ∧ W9.drew.cell? ⟨C, 1, none⟩ = some (iv t) ∧ Below W9.heap.size W9 W9.drew := ⟨c0, c1, c2, c3, (Below.refl _ _).drew⟩
          clear hb hCe HY kzr kz9 kC c0 c1 c2 c3 hxw htw
          go_wp2_with fail
          go_region_held3 (fun w' => w'.cell? ⟨Z, 0, none⟩ = some (iv off) ∧ w'.cell? ⟨Z, 1, none⟩ = some (.slice p sh.length cap) ∧ w'.cell? ⟨C, 0, none⟩ = some (iv x) ∧ w'.cell? ⟨C, 1, none⟩ = some (iv t) ∧ Below W9.heap.size W9 w') (first | assumption | exact hst | exact keepC (by assumption) hZ9 hCl (Nat.le_refl _) b1 | exact keepC (by assumption) hZ9 hCl (Nat.le_refl _) b2 | fail)
            (first | (go_at_call 21; (with_reducible refine Calls.mono (r5 _ (inv5 (by assumption))) ?_); rintro e wa ⟨rfl, b1⟩) | (go_at_call 22; (with_reducible refine Calls.mono (r6 _ (inv5 (by assumption))) ?_); rintro e wb ⟨rfl, b2⟩))
          rename_i hHeld
          have bl := inv5 hHeld
          have hlast := h89.trans (bl.mono g8)
          clear hHeld bl b1 b2 r5 r6 hst
          go_wp2_with fail
          go_roundw
          case rel => exact ⟨i + 1, by go_num, by omega, hlast⟩
          case measure => simp [intOf]; omega
        · obtain rfl : i = 4 := by omega
          have hlast := bthen u08 hBr
          clear HK2 HY kz8
          go_wp2_with fail
          go_ret
          exact ⟨rfl, hlast⟩
end Go.Proofs.Ytejohdmbnnlhjaa

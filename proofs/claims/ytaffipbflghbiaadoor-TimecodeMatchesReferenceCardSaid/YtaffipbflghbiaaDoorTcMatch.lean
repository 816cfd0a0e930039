/- TimecodeMatchesReference -/
import Derived.Test.YtaffipbflghbiaaDoorTcTot
import Derived.Test.YtaffipbflghbiaaDoorTcClose
namespace Go.Proofs.YtaffipbflghbiaaDoor
open Go.RowKit

theorem heldR {w w8 w9 : World} {A B : Nat} {a b g h : Int} (hb : Below w8.heap.size w8 w9) (hB : A < w.heap.size ∧ B < w.heap.size)
    (hS : w8.cell? ⟨A, 0, none⟩ = some (iv a) ∧ w8.cell? ⟨A, 1, none⟩ = some (iv b) ∧ w8.cell? ⟨B, 0, none⟩ = some (iv g) ∧ w8.cell? ⟨B, 1, none⟩ = some (iv h) ∧ Below w.heap.size w w8) :
    w9.cell? ⟨A, 0, none⟩ = some (iv a) ∧ w9.cell? ⟨A, 1, none⟩ = some (iv b) ∧ w9.cell? ⟨B, 0, none⟩ = some (iv g) ∧ w9.cell? ⟨B, 1, none⟩ = some (iv h) ∧ Below w.heap.size w w9 := by
  obtain ⟨h0, h1, h2, h3, h4⟩ := hS
  have hs := h4.size
  exact ⟨(hb.cell (p := ⟨A, 0, none⟩) (by simp; omega)).trans h0, (hb.cell (p := ⟨A, 1, none⟩) (by simp; omega)).trans h1, (hb.cell (p := ⟨B, 0, none⟩) (by simp; omega)).trans h2, (hb.cell (p := ⟨B, 1, none⟩) (by simp; omega)).trans h3, bthen h4 hb⟩

set_option maxRecDepth 100000 in
set_option maxHeartbeats 4000000 in
theorem match_law (a b g h c d n : Int) (w : World) (c1 : -9223372036854775808 ≤ c) (c2 : c ≤ 9223372036854775807) (d1 : -9223372036854775808 ≤ d) (d2 : d ≤ 9223372036854775807) (n1 : -9223372036854775808 ≤ n) (n2 : n ≤ 9223372036854775807) (hF : FmtAt w) :
    Calls Tryd.prog 3 #[.agg #[iv a, iv b], .agg #[iv g, iv h], .int .i64 c, .int .i64 d, .int .i64 n] w fun e w' => e = .returned (.bool true) ∧ Below w.heap.size w w' := by
  have HF := fun W (hb : Below w.heap.size w W) => hF.below hb
  obtain ⟨-, x, -, -, hx, -, hrate⟩ := law_rate c c1 c2
  obtain ⟨-, y, -, -, hy, -, hrate2⟩ := law_rate d d1 d2
  obtain ⟨k, hk, hpk⟩ := law_pick n 100000002 n1 n2 (by decide) (by decide)
  obtain ⟨j, hj, hpj⟩ := law_pick n 3000 n1 n2 (by decide) (by decide)
  unfold Rt.val at hrate hrate2
  generalize (x.num : Int) = xa at *
  generalize (x.den : Int) = xb at *
  generalize (y.num : Int) = ya at *
  generalize (y.den : Int) = yb at *
  clear hx hy x y
  go_enter Tryd.func3, Tryd.ntmps3
  go_wp2_with fail
  obtain ⟨W1, hW1, hb1, hsz1, k0, k1⟩ := box2 w a b
  obtain ⟨W2, hW2, hb2, hsz2, l0, l1⟩ := box2 W1 g h
  obtain ⟨k0, k1⟩ := keep2 k0 k1 hb2 (by omega)
  rw [hsz1] at l0 l1
  have kA : Arr W2 w.heap.size 23 [iv a, iv b] := by
    have h1 := (Arr.new w 23 [iv a, iv b]).alloc (.cells #[iv g, iv h] 23)
    rw [← hW2, ← hW1]; exact h1
  have kB : Arr W2 (w.heap.size + 1) 23 [iv g, iv h] := by
    rw [← hW2, ← hsz1]; exact Arr.new W1 23 [iv g, iv h]
  have hb02 := bthen hb1 hb2
  have hszW : w.heap.size + 1 < W2.heap.size := by omega
  rw [hW1, hW2]
  clear hW1 hW2 k0 k1 l0 l1 hsz1 hsz2 hb1 hb2
  refine Calls.mono (sane_any _ (HF _ hb02)) ?_; rintro e w1 ⟨rfl, g1⟩
  have hb1 := bthen hb02 g1
  have kA := kA.below g1 (by omega)
  have kB := kB.below g1 (by omega)
  have hszw : w.heap.size + 1 < w1.heap.size := by have := g1.size; omega
  by_cases hc : 0 ≤ c
  · by_cases hd : 0 ≤ d
    · have hcd : decide (0 ≤ c) = true := decide_eq_true hc
      have hdd : decide (0 ≤ d) = true := decide_eq_true hd
      go_wp2_with fail
      refine Calls.mono (hrate _) ?_; rintro e q21 ⟨rfl, g21⟩
      have hb21 := bthen hb1 g21
      have kA := kA.below g21 (by have := hb1.size; omega)
      have kB := kB.below g21 (by have := hb1.size; omega)
      have hsz21 : w.heap.size + 1 < q21.heap.size := by have := g21.size; omega
      have z0 := kA.cell (i := 0) rfl
      have z1 := kA.cell (i := 1) rfl
      have f0 := fun i => kA.frozen i
      go_wp2_with fail
      have kA' := (kA.set 0 (iv xa)).set 1 (iv xb)
      have kB' := (kB.set_other (C := w.heap.size) 0 (iv xa) (by omega)).set_other (C := w.heap.size) 1 (iv xb) (by omega)
      have hbs := (hb21.setCell (p := ⟨w.heap.size, 0, none⟩) (by simp) (iv xa)).setCell (p := ⟨w.heap.size, 1, none⟩) (by simp) (iv xb)
      have hszs : w.heap.size + 1 < ((q21.setCell ⟨w.heap.size, 0, none⟩ (iv xa)).setCell ⟨w.heap.size, 1, none⟩ (iv xb)).heap.size := by simpa using hsz21
      clear z0 z1 f0 kA kB
      generalize (q21.setCell ⟨w.heap.size, 0, none⟩ (iv xa)).setCell ⟨w.heap.size, 1, none⟩ (iv xb) = u1 at *
      have kA : Arr u1 w.heap.size 23 _ := kA'
      have kB : Arr u1 (w.heap.size + 1) 23 _ := kB'
      clear kA' kB'
      have hbu := hbs; clear hbs
      have hszu := hszs; clear hszs
      go_wp2_with fail
      refine Calls.mono (hrate2 _) ?_; rintro e q22 ⟨rfl, g22⟩
      have hb22 := bthen hbu g22
      have kA := kA.below g22 (by have := hbu.size; omega)
      have kB := kB.below g22 (by have := hbu.size; omega)
      have hsz22 : w.heap.size + 1 < q22.heap.size := by have := g22.size; omega
      have z0 := kB.cell (i := 0) rfl
      have z1 := kB.cell (i := 1) rfl
      have f0 := fun i => kB.frozen i
      go_wp2_with fail
      have kB' := (kB.set 0 (iv ya)).set 1 (iv yb)
      have kA' := (kA.set_other (C := w.heap.size + 1) 0 (iv ya) (by omega)).set_other (C := w.heap.size + 1) 1 (iv yb) (by omega)
      have hbs := (hb22.setCell (p := ⟨w.heap.size + 1, 0, none⟩) (by simp) (iv ya)).setCell (p := ⟨w.heap.size + 1, 1, none⟩) (by simp) (iv yb)
      have hszs : w.heap.size + 1 < ((q22.setCell ⟨w.heap.size + 1, 0, none⟩ (iv ya)).setCell ⟨w.heap.size + 1, 1, none⟩ (iv yb)).heap.size := by simpa using hsz22
      clear z0 z1 f0 kA kB
      generalize (q22.setCell ⟨w.heap.size + 1, 0, none⟩ (iv ya)).setCell ⟨w.heap.size + 1, 1, none⟩ (iv yb) = u2 at *
      have kA : Arr u2 w.heap.size 23 _ := kA'
      have kB : Arr u2 (w.heap.size + 1) 23 _ := kB'
      clear kA' kB'
      have hbv := hbs
      have k0 := kA.cell (i := 0) rfl
      have k1 := kA.cell (i := 1) rfl
      have l0 := kB.cell (i := 0) rfl
      have l1 := kB.cell (i := 1) rfl
      have hlt : w.heap.size < u2.heap.size ∧ w.heap.size + 1 < u2.heap.size := by have := kA.lt; have := kB.lt; omega
      have HF3 := fun W (hb : Below u2.heap.size u2 W) => HF W (bthen hbv hb)
      clear hrate hrate2
      go_wp2_with (first | (go_at_call 14; with_reducible refine Calls.mono (hpk _) ?_; rintro e u2 ⟨rfl, rfl⟩) | (go_at_call 14; with_reducible refine Calls.mono (hpj _) ?_; rintro e u2 ⟨rfl, rfl⟩) | fail)
      obtain ⟨w4, hW4, hb34, hsz4, v0, v1, v2⟩ := box3 u2 n k j
      rw [hW4]; clear hW4
      obtain ⟨T, hT⟩ : ∃ T, u2.heap.size = T := ⟨_, rfl⟩
      have hS40 := heldR hb34 hlt ⟨k0, k1, l0, l1, Below.refl _ _⟩
      have hS4 : w4.cell? ⟨w.heap.size, 0, none⟩ = some (iv xa) ∧ w4.cell? ⟨w.heap.size, 1, none⟩ = some (iv xb) ∧ w4.cell? ⟨w.heap.size + 1, 0, none⟩ = some (iv ya) ∧ w4.cell? ⟨w.heap.size + 1, 1, none⟩ = some (iv yb) ∧ Below w4.heap.size w4 w4 := ⟨hS40.1, hS40.2.1, hS40.2.2.1, hS40.2.2.2.1, Below.refl _ _⟩
      clear hS40
      have hlt4 : w.heap.size < w4.heap.size ∧ w.heap.size + 1 < w4.heap.size := by omega
      have hbw4 := bthen hbv hb34
      rw [hT] at v0 v1 v2 hsz4 ⊢
      clear k0 k1 l0 l1
      go_loopw [30] (fun q wr => ∃ Q : Nat, q = .int .i64 Q ∧ Q ≤ 3 ∧ Below w4.heap.size w4 wr) (fun q _ => 3 - (intOf q).toNat)
      case atStart => exact ⟨0, rfl, by omega, Below.refl _ _⟩
      case round =>
        obtain ⟨Q, rfl, hQ, hB⟩ := hrel
        have hS5 := heldR hB hlt4 hS4
        have hS5d : wr.drew.cell? ⟨w.heap.size, 0, none⟩ = some (iv xa) ∧ wr.drew.cell? ⟨w.heap.size, 1, none⟩ = some (iv xb) ∧ wr.drew.cell? ⟨w.heap.size + 1, 0, none⟩ = some (iv ya) ∧ wr.drew.cell? ⟨w.heap.size + 1, 1, none⟩ = some (iv yb) ∧ Below w4.heap.size w4 wr.drew := ⟨hS5.1, hS5.2.1, hS5.2.2.1, hS5.2.2.2.1, hS5.2.2.2.2.drew⟩
        have HF4 := fun (W : World) (h : W.cell? ⟨w.heap.size, 0, none⟩ = some (iv xa) ∧ W.cell? ⟨w.heap.size, 1, none⟩ = some (iv xb) ∧ W.cell? ⟨w.heap.size + 1, 0, none⟩ = some (iv ya) ∧ W.cell? ⟨w.heap.size + 1, 1, none⟩ = some (iv yb) ∧ Below w4.heap.size w4 W) => HF W (bthen hbw4 h.2.2.2.2)
        have v0 := (hB.cell (p := ⟨T, 0, none⟩) (by simp; omega)).trans v0
        have v1 := (hB.cell (p := ⟨T, 1, none⟩) (by simp; omega)).trans v1
        have v2 := (hB.cell (p := ⟨T, 2, none⟩) (by simp; omega)).trans v2
        by_cases hQ3 : Q < 3
        · obtain ⟨kk, hkk⟩ : ∃ kk, wr.cell? ⟨T, Q, none⟩ = some (iv kk) := by
            rcases (by omega : Q = 0 ∨ Q = 1 ∨ Q = 2) with rfl | rfl | rfl
            · exact ⟨_, v0⟩
            · exact ⟨_, v1⟩
            · exact ⟨_, v2⟩
          have q0 : (0 : Int) ≤ (Q : Int) := by omega
          have q3 : (Q : Int) < 3 := by omega
          clear v0 v1 v2 hS5 hS4
          go_wp2_with fail
          go_region_held3 (fun w' => w'.cell? ⟨w.heap.size, 0, none⟩ = some (iv xa) ∧ w'.cell? ⟨w.heap.size, 1, none⟩ = some (iv xb) ∧ w'.cell? ⟨w.heap.size + 1, 0, none⟩ = some (iv ya) ∧ w'.cell? ⟨w.heap.size + 1, 1, none⟩ = some (iv yb) ∧ Below w4.heap.size w4 w') (first | assumption | exact hS5d | exact heldR (by assumption) hlt4 (by assumption) | fail)
            (first | (go_at_call 15; with_reducible refine Calls.mono (seconds_t xa xb kk _ (HF4 _ (by assumption))) ?_; rintro e x1 ⟨rfl, y1⟩) | (go_at_call 17; with_reducible refine Calls.mono (frames_t xa xb kk _ (HF4 _ (by assumption))) ?_; rintro e x2 ⟨rfl, y2⟩) | (go_at_call 19; with_reducible refine Calls.mono (ticks_t xa xb kk _ (HF4 _ (by assumption))) ?_; rintro e x3 ⟨rfl, y3⟩) | (go_at_call 21; with_reducible refine Calls.mono (convert_t xa xb kk ya yb _ (HF4 _ (by assumption))) ?_; rintro e x4 ⟨rfl, y4⟩) | (go_at_call 16; with_reducible refine Calls.mono (rseconds_t xa xb kk _ (HF4 _ (by assumption))) ?_; rintro e x5 ⟨rfl, y5⟩) | (go_at_call 18; with_reducible refine Calls.mono (rframes_t xa xb kk _ (HF4 _ (by assumption))) ?_; rintro e x6 ⟨rfl, y6⟩) | (go_at_call 20; with_reducible refine Calls.mono (rticks_t xa xb kk _ (HF4 _ (by assumption))) ?_; rintro e x7 ⟨rfl, y7⟩) | (go_at_call 22; with_reducible refine Calls.mono (rconvert_t xa xb kk ya yb _ (HF4 _ (by assumption))) ?_; rintro e x8 ⟨rfl, y8⟩) | fail)
          all_goals
            have hS8 := (show x8.cell? ⟨w.heap.size, 0, none⟩ = some (iv xa) ∧ x8.cell? ⟨w.heap.size, 1, none⟩ = some (iv xb) ∧ x8.cell? ⟨w.heap.size + 1, 0, none⟩ = some (iv ya) ∧ x8.cell? ⟨w.heap.size + 1, 1, none⟩ = some (iv yb) ∧ Below w4.heap.size w4 x8 by assumption)
            go_wp2
            go_roundw
            case rel => exact ⟨Q + 1, by go_num, by omega, hS8.2.2.2.2⟩
            case measure => simp [intOf]; omega
        · obtain rfl : Q = 3 := by omega
          clear v0 v1 v2 hS5 hS4
          go_wp2_with fail
          go_region_held3 (fun w' => w'.cell? ⟨w.heap.size, 0, none⟩ = some (iv xa) ∧ w'.cell? ⟨w.heap.size, 1, none⟩ = some (iv xb) ∧ w'.cell? ⟨w.heap.size + 1, 0, none⟩ = some (iv ya) ∧ w'.cell? ⟨w.heap.size + 1, 1, none⟩ = some (iv yb) ∧ Below w4.heap.size w4 w') (first | assumption | exact hS5d | exact heldR (by assumption) hlt4 (by assumption) | fail)
            (first | (go_at_call 23; with_reducible refine Calls.mono (valid_t xa xb _ (HF4 _ (by assumption))) ?_; rintro e x9 ⟨rfl, y9⟩) | (go_at_call 24; with_reducible refine Calls.mono (rvalid_t xa xb _ (HF4 _ (by assumption))) ?_; rintro e x10 ⟨rfl, y10⟩) | fail)
          all_goals
            have hS8 := (show x10.cell? ⟨w.heap.size, 0, none⟩ = some (iv xa) ∧ x10.cell? ⟨w.heap.size, 1, none⟩ = some (iv xb) ∧ x10.cell? ⟨w.heap.size + 1, 0, none⟩ = some (iv ya) ∧ x10.cell? ⟨w.heap.size + 1, 1, none⟩ = some (iv yb) ∧ Below w4.heap.size w4 x10 by assumption)
            go_wp2
            go_ret
            exact ⟨rfl, bthen hbw4 hS8.2.2.2.2⟩
    · have hcd : decide (0 ≤ c) = true := decide_eq_true hc
      have hdd : decide (0 ≤ d) = false := decide_eq_false hd
      go_wp2_with fail
      refine Calls.mono (hrate _) ?_; rintro e q21 ⟨rfl, g21⟩
      have hb21 := bthen hb1 g21
      have kA := kA.below g21 (by have := hb1.size; omega)
      have kB := kB.below g21 (by have := hb1.size; omega)
      have hsz21 : w.heap.size + 1 < q21.heap.size := by have := g21.size; omega
      have z0 := kA.cell (i := 0) rfl
      have z1 := kA.cell (i := 1) rfl
      have f0 := fun i => kA.frozen i
      go_wp2_with fail
      have kA' := (kA.set 0 (iv xa)).set 1 (iv xb)
      have kB' := (kB.set_other (C := w.heap.size) 0 (iv xa) (by omega)).set_other (C := w.heap.size) 1 (iv xb) (by omega)
      have hbs := (hb21.setCell (p := ⟨w.heap.size, 0, none⟩) (by simp) (iv xa)).setCell (p := ⟨w.heap.size, 1, none⟩) (by simp) (iv xb)
      have hszs : w.heap.size + 1 < ((q21.setCell ⟨w.heap.size, 0, none⟩ (iv xa)).setCell ⟨w.heap.size, 1, none⟩ (iv xb)).heap.size := by simpa using hsz21
      clear z0 z1 f0 kA kB
      generalize (q21.setCell ⟨w.heap.size, 0, none⟩ (iv xa)).setCell ⟨w.heap.size, 1, none⟩ (iv xb) = u1 at *
      have kA : Arr u1 w.heap.size 23 _ := kA'
      have kB : Arr u1 (w.heap.size + 1) 23 _ := kB'
      clear kA' kB'
      have hbu := hbs; clear hbs
      have hszu := hszs; clear hszs
      have k0 := kA.cell (i := 0) rfl
      have k1 := kA.cell (i := 1) rfl
      have l0 := kB.cell (i := 0) rfl
      have l1 := kB.cell (i := 1) rfl
      have hlt : w.heap.size < u1.heap.size ∧ w.heap.size + 1 < u1.heap.size := by have := kA.lt; have := kB.lt; omega
      have HF3 := fun W (hb : Below u1.heap.size u1 W) => HF W (bthen hbu hb)
      clear hrate hrate2
      go_wp2_with (first | (go_at_call 14; with_reducible refine Calls.mono (hpk _) ?_; rintro e u1 ⟨rfl, rfl⟩) | (go_at_call 14; with_reducible refine Calls.mono (hpj _) ?_; rintro e u1 ⟨rfl, rfl⟩) | fail)
      obtain ⟨w4, hW4, hb34, hsz4, v0, v1, v2⟩ := box3 u1 n k j
      rw [hW4]; clear hW4
      obtain ⟨T, hT⟩ : ∃ T, u1.heap.size = T := ⟨_, rfl⟩
      have hS40 := heldR hb34 hlt ⟨k0, k1, l0, l1, Below.refl _ _⟩
      have hS4 : w4.cell? ⟨w.heap.size, 0, none⟩ = some (iv xa) ∧ w4.cell? ⟨w.heap.size, 1, none⟩ = some (iv xb) ∧ w4.cell? ⟨w.heap.size + 1, 0, none⟩ = some (iv g) ∧ w4.cell? ⟨w.heap.size + 1, 1, none⟩ = some (iv h) ∧ Below w4.heap.size w4 w4 := ⟨hS40.1, hS40.2.1, hS40.2.2.1, hS40.2.2.2.1, Below.refl _ _⟩
      clear hS40
      have hlt4 : w.heap.size < w4.heap.size ∧ w.heap.size + 1 < w4.heap.size := by omega
      have hbw4 := bthen hbu hb34
      rw [hT] at v0 v1 v2 hsz4 ⊢
      clear k0 k1 l0 l1
      go_loopw [30] (fun q wr => ∃ Q : Nat, q = .int .i64 Q ∧ Q ≤ 3 ∧ Below w4.heap.size w4 wr) (fun q _ => 3 - (intOf q).toNat)
      case atStart => exact ⟨0, rfl, by omega, Below.refl _ _⟩
      case round =>
        obtain ⟨Q, rfl, hQ, hB⟩ := hrel
        have hS5 := heldR hB hlt4 hS4
        have hS5d : wr.drew.cell? ⟨w.heap.size, 0, none⟩ = some (iv xa) ∧ wr.drew.cell? ⟨w.heap.size, 1, none⟩ = some (iv xb) ∧ wr.drew.cell? ⟨w.heap.size + 1, 0, none⟩ = some (iv g) ∧ wr.drew.cell? ⟨w.heap.size + 1, 1, none⟩ = some (iv h) ∧ Below w4.heap.size w4 wr.drew := ⟨hS5.1, hS5.2.1, hS5.2.2.1, hS5.2.2.2.1, hS5.2.2.2.2.drew⟩
        have HF4 := fun (W : World) (h : W.cell? ⟨w.heap.size, 0, none⟩ = some (iv xa) ∧ W.cell? ⟨w.heap.size, 1, none⟩ = some (iv xb) ∧ W.cell? ⟨w.heap.size + 1, 0, none⟩ = some (iv g) ∧ W.cell? ⟨w.heap.size + 1, 1, none⟩ = some (iv h) ∧ Below w4.heap.size w4 W) => HF W (bthen hbw4 h.2.2.2.2)
        have v0 := (hB.cell (p := ⟨T, 0, none⟩) (by simp; omega)).trans v0
        have v1 := (hB.cell (p := ⟨T, 1, none⟩) (by simp; omega)).trans v1
        have v2 := (hB.cell (p := ⟨T, 2, none⟩) (by simp; omega)).trans v2
        by_cases hQ3 : Q < 3
        · obtain ⟨kk, hkk⟩ : ∃ kk, wr.cell? ⟨T, Q, none⟩ = some (iv kk) := by
            rcases (by omega : Q = 0 ∨ Q = 1 ∨ Q = 2) with rfl | rfl | rfl
            · exact ⟨_, v0⟩
            · exact ⟨_, v1⟩
            · exact ⟨_, v2⟩
          have q0 : (0 : Int) ≤ (Q : Int) := by omega
          have q3 : (Q : Int) < 3 := by omega
          clear v0 v1 v2 hS5 hS4
          go_wp2_with fail
          go_region_held3 (fun w' => w'.cell? ⟨w.heap.size, 0, none⟩ = some (iv xa) ∧ w'.cell? ⟨w.heap.size, 1, none⟩ = some (iv xb) ∧ w'.cell? ⟨w.heap.size + 1, 0, none⟩ = some (iv g) ∧ w'.cell? ⟨w.heap.size + 1, 1, none⟩ = some (iv h) ∧ Below w4.heap.size w4 w') (first | assumption | exact hS5d | exact heldR (by assumption) hlt4 (by assumption) | fail)
            (first | (go_at_call 15; with_reducible refine Calls.mono (seconds_t xa xb kk _ (HF4 _ (by assumption))) ?_; rintro e x1 ⟨rfl, y1⟩) | (go_at_call 17; with_reducible refine Calls.mono (frames_t xa xb kk _ (HF4 _ (by assumption))) ?_; rintro e x2 ⟨rfl, y2⟩) | (go_at_call 19; with_reducible refine Calls.mono (ticks_t xa xb kk _ (HF4 _ (by assumption))) ?_; rintro e x3 ⟨rfl, y3⟩) | (go_at_call 21; with_reducible refine Calls.mono (convert_t xa xb kk g h _ (HF4 _ (by assumption))) ?_; rintro e x4 ⟨rfl, y4⟩) | (go_at_call 16; with_reducible refine Calls.mono (rseconds_t xa xb kk _ (HF4 _ (by assumption))) ?_; rintro e x5 ⟨rfl, y5⟩) | (go_at_call 18; with_reducible refine Calls.mono (rframes_t xa xb kk _ (HF4 _ (by assumption))) ?_; rintro e x6 ⟨rfl, y6⟩) | (go_at_call 20; with_reducible refine Calls.mono (rticks_t xa xb kk _ (HF4 _ (by assumption))) ?_; rintro e x7 ⟨rfl, y7⟩) | (go_at_call 22; with_reducible refine Calls.mono (rconvert_t xa xb kk g h _ (HF4 _ (by assumption))) ?_; rintro e x8 ⟨rfl, y8⟩) | fail)
          all_goals
            have hS8 := (show x8.cell? ⟨w.heap.size, 0, none⟩ = some (iv xa) ∧ x8.cell? ⟨w.heap.size, 1, none⟩ = some (iv xb) ∧ x8.cell? ⟨w.heap.size + 1, 0, none⟩ = some (iv g) ∧ x8.cell? ⟨w.heap.size + 1, 1, none⟩ = some (iv h) ∧ Below w4.heap.size w4 x8 by assumption)
            go_wp2
            go_roundw
            case rel => exact ⟨Q + 1, by go_num, by omega, hS8.2.2.2.2⟩
            case measure => simp [intOf]; omega
        · obtain rfl : Q = 3 := by omega
          clear v0 v1 v2 hS5 hS4
          go_wp2_with fail
          go_region_held3 (fun w' => w'.cell? ⟨w.heap.size, 0, none⟩ = some (iv xa) ∧ w'.cell? ⟨w.heap.size, 1, none⟩ = some (iv xb) ∧ w'.cell? ⟨w.heap.size + 1, 0, none⟩ = some (iv g) ∧ w'.cell? ⟨w.heap.size + 1, 1, none⟩ = some (iv h) ∧ Below w4.heap.size w4 w') (first | assumption | exact hS5d | exact heldR (by assumption) hlt4 (by assumption) | fail)
            (first | (go_at_call 23; with_reducible refine Calls.mono (valid_t xa xb _ (HF4 _ (by assumption))) ?_; rintro e x9 ⟨rfl, y9⟩) | (go_at_call 24; with_reducible refine Calls.mono (rvalid_t xa xb _ (HF4 _ (by assumption))) ?_; rintro e x10 ⟨rfl, y10⟩) | fail)
          all_goals
            have hS8 := (show x10.cell? ⟨w.heap.size, 0, none⟩ = some (iv xa) ∧ x10.cell? ⟨w.heap.size, 1, none⟩ = some (iv xb) ∧ x10.cell? ⟨w.heap.size + 1, 0, none⟩ = some (iv g) ∧ x10.cell? ⟨w.heap.size + 1, 1, none⟩ = some (iv h) ∧ Below w4.heap.size w4 x10 by assumption)
            go_wp2
            go_ret
            exact ⟨rfl, bthen hbw4 hS8.2.2.2.2⟩
  · by_cases hd : 0 ≤ d
    · have hcd : decide (0 ≤ c) = false := decide_eq_false hc
      have hdd : decide (0 ≤ d) = true := decide_eq_true hd
      go_wp2_with fail
      refine Calls.mono (hrate2 _) ?_; rintro e q22 ⟨rfl, g22⟩
      have hb22 := bthen hb1 g22
      have kA := kA.below g22 (by have := hb1.size; omega)
      have kB := kB.below g22 (by have := hb1.size; omega)
      have hsz22 : w.heap.size + 1 < q22.heap.size := by have := g22.size; omega
      have z0 := kB.cell (i := 0) rfl
      have z1 := kB.cell (i := 1) rfl
      have f0 := fun i => kB.frozen i
      go_wp2_with fail
      have kB' := (kB.set 0 (iv ya)).set 1 (iv yb)
      have kA' := (kA.set_other (C := w.heap.size + 1) 0 (iv ya) (by omega)).set_other (C := w.heap.size + 1) 1 (iv yb) (by omega)
      have hbs := (hb22.setCell (p := ⟨w.heap.size + 1, 0, none⟩) (by simp) (iv ya)).setCell (p := ⟨w.heap.size + 1, 1, none⟩) (by simp) (iv yb)
      have hszs : w.heap.size + 1 < ((q22.setCell ⟨w.heap.size + 1, 0, none⟩ (iv ya)).setCell ⟨w.heap.size + 1, 1, none⟩ (iv yb)).heap.size := by simpa using hsz22
      clear z0 z1 f0 kA kB
      generalize (q22.setCell ⟨w.heap.size + 1, 0, none⟩ (iv ya)).setCell ⟨w.heap.size + 1, 1, none⟩ (iv yb) = u2 at *
      have kA : Arr u2 w.heap.size 23 _ := kA'
      have kB : Arr u2 (w.heap.size + 1) 23 _ := kB'
      clear kA' kB'
      have hbv := hbs
      have k0 := kA.cell (i := 0) rfl
      have k1 := kA.cell (i := 1) rfl
      have l0 := kB.cell (i := 0) rfl
      have l1 := kB.cell (i := 1) rfl
      have hlt : w.heap.size < u2.heap.size ∧ w.heap.size + 1 < u2.heap.size := by have := kA.lt; have := kB.lt; omega
      have HF3 := fun W (hb : Below u2.heap.size u2 W) => HF W (bthen hbv hb)
      clear hrate hrate2
      go_wp2_with (first | (go_at_call 14; with_reducible refine Calls.mono (hpk _) ?_; rintro e u2 ⟨rfl, rfl⟩) | (go_at_call 14; with_reducible refine Calls.mono (hpj _) ?_; rintro e u2 ⟨rfl, rfl⟩) | fail)
      obtain ⟨w4, hW4, hb34, hsz4, v0, v1, v2⟩ := box3 u2 n k j
      rw [hW4]; clear hW4
      obtain ⟨T, hT⟩ : ∃ T, u2.heap.size = T := ⟨_, rfl⟩
      have hS40 := heldR hb34 hlt ⟨k0, k1, l0, l1, Below.refl _ _⟩
      have hS4 : w4.cell? ⟨w.heap.size, 0, none⟩ = some (iv a) ∧ w4.cell? ⟨w.heap.size, 1, none⟩ = some (iv b) ∧ w4.cell? ⟨w.heap.size + 1, 0, none⟩ = some (iv ya) ∧ w4.cell? ⟨w.heap.size + 1, 1, none⟩ = some (iv yb) ∧ Below w4.heap.size w4 w4 := ⟨hS40.1, hS40.2.1, hS40.2.2.1, hS40.2.2.2.1, Below.refl _ _⟩
      clear hS40
      have hlt4 : w.heap.size < w4.heap.size ∧ w.heap.size + 1 < w4.heap.size := by omega
      have hbw4 := bthen hbv hb34
      rw [hT] at v0 v1 v2 hsz4 ⊢
      clear k0 k1 l0 l1
      go_loopw [30] (fun q wr => ∃ Q : Nat, q = .int .i64 Q ∧ Q ≤ 3 ∧ Below w4.heap.size w4 wr) (fun q _ => 3 - (intOf q).toNat)
      case atStart => exact ⟨0, rfl, by omega, Below.refl _ _⟩
      case round =>
        obtain ⟨Q, rfl, hQ, hB⟩ := hrel
        have hS5 := heldR hB hlt4 hS4
        have hS5d : wr.drew.cell? ⟨w.heap.size, 0, none⟩ = some (iv a) ∧ wr.drew.cell? ⟨w.heap.size, 1, none⟩ = some (iv b) ∧ wr.drew.cell? ⟨w.heap.size + 1, 0, none⟩ = some (iv ya) ∧ wr.drew.cell? ⟨w.heap.size + 1, 1, none⟩ = some (iv yb) ∧ Below w4.heap.size w4 wr.drew := ⟨hS5.1, hS5.2.1, hS5.2.2.1, hS5.2.2.2.1, hS5.2.2.2.2.drew⟩
        have HF4 := fun (W : World) (h : W.cell? ⟨w.heap.size, 0, none⟩ = some (iv a) ∧ W.cell? ⟨w.heap.size, 1, none⟩ = some (iv b) ∧ W.cell? ⟨w.heap.size + 1, 0, none⟩ = some (iv ya) ∧ W.cell? ⟨w.heap.size + 1, 1, none⟩ = some (iv yb) ∧ Below w4.heap.size w4 W) => HF W (bthen hbw4 h.2.2.2.2)
        have v0 := (hB.cell (p := ⟨T, 0, none⟩) (by simp; omega)).trans v0
        have v1 := (hB.cell (p := ⟨T, 1, none⟩) (by simp; omega)).trans v1
        have v2 := (hB.cell (p := ⟨T, 2, none⟩) (by simp; omega)).trans v2
        by_cases hQ3 : Q < 3
        · obtain ⟨kk, hkk⟩ : ∃ kk, wr.cell? ⟨T, Q, none⟩ = some (iv kk) := by
            rcases (by omega : Q = 0 ∨ Q = 1 ∨ Q = 2) with rfl | rfl | rfl
            · exact ⟨_, v0⟩
            · exact ⟨_, v1⟩
            · exact ⟨_, v2⟩
          have q0 : (0 : Int) ≤ (Q : Int) := by omega
          have q3 : (Q : Int) < 3 := by omega
          clear v0 v1 v2 hS5 hS4
          go_wp2_with fail
          go_region_held3 (fun w' => w'.cell? ⟨w.heap.size, 0, none⟩ = some (iv a) ∧ w'.cell? ⟨w.heap.size, 1, none⟩ = some (iv b) ∧ w'.cell? ⟨w.heap.size + 1, 0, none⟩ = some (iv ya) ∧ w'.cell? ⟨w.heap.size + 1, 1, none⟩ = some (iv yb) ∧ Below w4.heap.size w4 w') (first | assumption | exact hS5d | exact heldR (by assumption) hlt4 (by assumption) | fail)
            (first | (go_at_call 15; with_reducible refine Calls.mono (seconds_t a b kk _ (HF4 _ (by assumption))) ?_; rintro e x1 ⟨rfl, y1⟩) | (go_at_call 17; with_reducible refine Calls.mono (frames_t a b kk _ (HF4 _ (by assumption))) ?_; rintro e x2 ⟨rfl, y2⟩) | (go_at_call 19; with_reducible refine Calls.mono (ticks_t a b kk _ (HF4 _ (by assumption))) ?_; rintro e x3 ⟨rfl, y3⟩) | (go_at_call 21; with_reducible refine Calls.mono (convert_t a b kk ya yb _ (HF4 _ (by assumption))) ?_; rintro e x4 ⟨rfl, y4⟩) | (go_at_call 16; with_reducible refine Calls.mono (rseconds_t a b kk _ (HF4 _ (by assumption))) ?_; rintro e x5 ⟨rfl, y5⟩) | (go_at_call 18; with_reducible refine Calls.mono (rframes_t a b kk _ (HF4 _ (by assumption))) ?_; rintro e x6 ⟨rfl, y6⟩) | (go_at_call 20; with_reducible refine Calls.mono (rticks_t a b kk _ (HF4 _ (by assumption))) ?_; rintro e x7 ⟨rfl, y7⟩) | (go_at_call 22; with_reducible refine Calls.mono (rconvert_t a b kk ya yb _ (HF4 _ (by assumption))) ?_; rintro e x8 ⟨rfl, y8⟩) | fail)
          all_goals
            have hS8 := (show x8.cell? ⟨w.heap.size, 0, none⟩ = some (iv a) ∧ x8.cell? ⟨w.heap.size, 1, none⟩ = some (iv b) ∧ x8.cell? ⟨w.heap.size + 1, 0, none⟩ = some (iv ya) ∧ x8.cell? ⟨w.heap.size + 1, 1, none⟩ = some (iv yb) ∧ Below w4.heap.size w4 x8 by assumption)
            go_wp2
            go_roundw
            case rel => exact ⟨Q + 1, by go_num, by omega, hS8.2.2.2.2⟩
            case measure => simp [intOf]; omega
        · obtain rfl : Q = 3 := by omega
          clear v0 v1 v2 hS5 hS4
          go_wp2_with fail
          go_region_held3 (fun w' => w'.cell? ⟨w.heap.size, 0, none⟩ = some (iv a) ∧ w'.cell? ⟨w.heap.size, 1, none⟩ = some (iv b) ∧ w'.cell? ⟨w.heap.size + 1, 0, none⟩ = some (iv ya) ∧ w'.cell? ⟨w.heap.size + 1, 1, none⟩ = some (iv yb) ∧ Below w4.heap.size w4 w') (first | assumption | exact hS5d | exact heldR (by assumption) hlt4 (by assumption) | fail)
            (first | (go_at_call 23; with_reducible refine Calls.mono (valid_t a b _ (HF4 _ (by assumption))) ?_; rintro e x9 ⟨rfl, y9⟩) | (go_at_call 24; with_reducible refine Calls.mono (rvalid_t a b _ (HF4 _ (by assumption))) ?_; rintro e x10 ⟨rfl, y10⟩) | fail)
          all_goals
            have hS8 := (show x10.cell? ⟨w.heap.size, 0, none⟩ = some (iv a) ∧ x10.cell? ⟨w.heap.size, 1, none⟩ = some (iv b) ∧ x10.cell? ⟨w.heap.size + 1, 0, none⟩ = some (iv ya) ∧ x10.cell? ⟨w.heap.size + 1, 1, none⟩ = some (iv yb) ∧ Below w4.heap.size w4 x10 by assumption)
            go_wp2
            go_ret
            exact ⟨rfl, bthen hbw4 hS8.2.2.2.2⟩
    · have hcd : decide (0 ≤ c) = false := decide_eq_false hc
      have hdd : decide (0 ≤ d) = false := decide_eq_false hd
      have k0 := kA.cell (i := 0) rfl
      have k1 := kA.cell (i := 1) rfl
      have l0 := kB.cell (i := 0) rfl
      have l1 := kB.cell (i := 1) rfl
      have hlt : w.heap.size < w1.heap.size ∧ w.heap.size + 1 < w1.heap.size := by have := kA.lt; have := kB.lt; omega
      have HF3 := fun W (hb : Below w1.heap.size w1 W) => HF W (bthen hb1 hb)
      clear hrate hrate2
      go_wp2_with (first | (go_at_call 14; with_reducible refine Calls.mono (hpk _) ?_; rintro e w1 ⟨rfl, rfl⟩) | (go_at_call 14; with_reducible refine Calls.mono (hpj _) ?_; rintro e w1 ⟨rfl, rfl⟩) | fail)
      obtain ⟨w4, hW4, hb34, hsz4, v0, v1, v2⟩ := box3 w1 n k j
      rw [hW4]; clear hW4
      obtain ⟨T, hT⟩ : ∃ T, w1.heap.size = T := ⟨_, rfl⟩
      have hS40 := heldR hb34 hlt ⟨k0, k1, l0, l1, Below.refl _ _⟩
      have hS4 : w4.cell? ⟨w.heap.size, 0, none⟩ = some (iv a) ∧ w4.cell? ⟨w.heap.size, 1, none⟩ = some (iv b) ∧ w4.cell? ⟨w.heap.size + 1, 0, none⟩ = some (iv g) ∧ w4.cell? ⟨w.heap.size + 1, 1, none⟩ = some (iv h) ∧ Below w4.heap.size w4 w4 := ⟨hS40.1, hS40.2.1, hS40.2.2.1, hS40.2.2.2.1, Below.refl _ _⟩
      clear hS40
      have hlt4 : w.heap.size < w4.heap.size ∧ w.heap.size + 1 < w4.heap.size := by omega
      have hbw4 := bthen hb1 hb34
      rw [hT] at v0 v1 v2 hsz4 ⊢
      clear k0 k1 l0 l1
      go_loopw [30] (fun q wr => ∃ Q : Nat, q = .int .i64 Q ∧ Q ≤ 3 ∧ Below w4.heap.size w4 wr) (fun q _ => 3 - (intOf q).toNat)
      case atStart => exact ⟨0, rfl, by omega, Below.refl _ _⟩
      case round =>
        obtain ⟨Q, rfl, hQ, hB⟩ := hrel
        have hS5 := heldR hB hlt4 hS4
        have hS5d : wr.drew.cell? ⟨w.heap.size, 0, none⟩ = some (iv a) ∧ wr.drew.cell? ⟨w.heap.size, 1, none⟩ = some (iv b) ∧ wr.drew.cell? ⟨w.heap.size + 1, 0, none⟩ = some (iv g) ∧ wr.drew.cell? ⟨w.heap.size + 1, 1, none⟩ = some (iv h) ∧ Below w4.heap.size w4 wr.drew := ⟨hS5.1, hS5.2.1, hS5.2.2.1, hS5.2.2.2.1, hS5.2.2.2.2.drew⟩
        have HF4 := fun (W : World) (h : W.cell? ⟨w.heap.size, 0, none⟩ = some (iv a) ∧ W.cell? ⟨w.heap.size, 1, none⟩ = some (iv b) ∧ W.cell? ⟨w.heap.size + 1, 0, none⟩ = some (iv g) ∧ W.cell? ⟨w.heap.size + 1, 1, none⟩ = some (iv h) ∧ Below w4.heap.size w4 W) => HF W (bthen hbw4 h.2.2.2.2)
        have v0 := (hB.cell (p := ⟨T, 0, none⟩) (by simp; omega)).trans v0
        have v1 := (hB.cell (p := ⟨T, 1, none⟩) (by simp; omega)).trans v1
        have v2 := (hB.cell (p := ⟨T, 2, none⟩) (by simp; omega)).trans v2
        by_cases hQ3 : Q < 3
        · obtain ⟨kk, hkk⟩ : ∃ kk, wr.cell? ⟨T, Q, none⟩ = some (iv kk) := by
            rcases (by omega : Q = 0 ∨ Q = 1 ∨ Q = 2) with rfl | rfl | rfl
            · exact ⟨_, v0⟩
            · exact ⟨_, v1⟩
            · exact ⟨_, v2⟩
          have q0 : (0 : Int) ≤ (Q : Int) := by omega
          have q3 : (Q : Int) < 3 := by omega
          clear v0 v1 v2 hS5 hS4
          go_wp2_with fail
          go_region_held3 (fun w' => w'.cell? ⟨w.heap.size, 0, none⟩ = some (iv a) ∧ w'.cell? ⟨w.heap.size, 1, none⟩ = some (iv b) ∧ w'.cell? ⟨w.heap.size + 1, 0, none⟩ = some (iv g) ∧ w'.cell? ⟨w.heap.size + 1, 1, none⟩ = some (iv h) ∧ Below w4.heap.size w4 w') (first | assumption | exact hS5d | exact heldR (by assumption) hlt4 (by assumption) | fail)
            (first | (go_at_call 15; with_reducible refine Calls.mono (seconds_t a b kk _ (HF4 _ (by assumption))) ?_; rintro e x1 ⟨rfl, y1⟩) | (go_at_call 17; with_reducible refine Calls.mono (frames_t a b kk _ (HF4 _ (by assumption))) ?_; rintro e x2 ⟨rfl, y2⟩) | (go_at_call 19; with_reducible refine Calls.mono (ticks_t a b kk _ (HF4 _ (by assumption))) ?_; rintro e x3 ⟨rfl, y3⟩) | (go_at_call 21; with_reducible refine Calls.mono (convert_t a b kk g h _ (HF4 _ (by assumption))) ?_; rintro e x4 ⟨rfl, y4⟩) | (go_at_call 16; with_reducible refine Calls.mono (rseconds_t a b kk _ (HF4 _ (by assumption))) ?_; rintro e x5 ⟨rfl, y5⟩) | (go_at_call 18; with_reducible refine Calls.mono (rframes_t a b kk _ (HF4 _ (by assumption))) ?_; rintro e x6 ⟨rfl, y6⟩) | (go_at_call 20; with_reducible refine Calls.mono (rticks_t a b kk _ (HF4 _ (by assumption))) ?_; rintro e x7 ⟨rfl, y7⟩) | (go_at_call 22; with_reducible refine Calls.mono (rconvert_t a b kk g h _ (HF4 _ (by assumption))) ?_; rintro e x8 ⟨rfl, y8⟩) | fail)
          all_goals
            have hS8 := (show x8.cell? ⟨w.heap.size, 0, none⟩ = some (iv a) ∧ x8.cell? ⟨w.heap.size, 1, none⟩ = some (iv b) ∧ x8.cell? ⟨w.heap.size + 1, 0, none⟩ = some (iv g) ∧ x8.cell? ⟨w.heap.size + 1, 1, none⟩ = some (iv h) ∧ Below w4.heap.size w4 x8 by assumption)
            go_wp2
            go_roundw
            case rel => exact ⟨Q + 1, by go_num, by omega, hS8.2.2.2.2⟩
            case measure => simp [intOf]; omega
        · obtain rfl : Q = 3 := by omega
          clear v0 v1 v2 hS5 hS4
          go_wp2_with fail
          go_region_held3 (fun w' => w'.cell? ⟨w.heap.size, 0, none⟩ = some (iv a) ∧ w'.cell? ⟨w.heap.size, 1, none⟩ = some (iv b) ∧ w'.cell? ⟨w.heap.size + 1, 0, none⟩ = some (iv g) ∧ w'.cell? ⟨w.heap.size + 1, 1, none⟩ = some (iv h) ∧ Below w4.heap.size w4 w') (first | assumption | exact hS5d | exact heldR (by assumption) hlt4 (by assumption) | fail)
            (first | (go_at_call 23; with_reducible refine Calls.mono (valid_t a b _ (HF4 _ (by assumption))) ?_; rintro e x9 ⟨rfl, y9⟩) | (go_at_call 24; with_reducible refine Calls.mono (rvalid_t a b _ (HF4 _ (by assumption))) ?_; rintro e x10 ⟨rfl, y10⟩) | fail)
          all_goals
            have hS8 := (show x10.cell? ⟨w.heap.size, 0, none⟩ = some (iv a) ∧ x10.cell? ⟨w.heap.size, 1, none⟩ = some (iv b) ∧ x10.cell? ⟨w.heap.size + 1, 0, none⟩ = some (iv g) ∧ x10.cell? ⟨w.heap.size + 1, 1, none⟩ = some (iv h) ∧ Below w4.heap.size w4 x10 by assumption)
            go_wp2
            go_ret
            exact ⟨rfl, bthen hbw4 hS8.2.2.2.2⟩
end Go.Proofs.YtaffipbflghbiaaDoor

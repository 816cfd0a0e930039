/- The statements' own functions: pick, Table, rate, Find, Day. -/
import Derived.Test.YtfpmmfoinjcclaaDoorTcOwn
namespace Go.Proofs.YtfpmmfoinjcclaaDoor
open Go.RowKit

def pickZ (c n : Int) : Int := (if c < 0 then -(c + 1) else c) % n
set_option maxHeartbeats 400000 in
theorem pick_any (c n : Int) (w : World) (h1 : -9223372036854775808 ≤ c) (h2 : c ≤ 9223372036854775807) (h3 : 1 ≤ n) (h4 : n ≤ 9223372036854775807) :
    Calls Tryd.prog 14 #[.int .i64 c, .int .i64 n] w fun e w' => e = .returned (.int .i64 (pickZ c n)) ∧ w = w' := by
  unfold pickZ
  by_cases h : c < 0
  · rw [if_pos h]
    go_enter Tryd.func14, Tryd.ntmps14
    go_wp2
    go_ret
    exact ⟨ret_int (by rw [← Int.neg_tmod, Int.tmod_eq_emod_of_nonneg (by omega)]), rfl⟩
  · rw [if_neg h]
    go_enter Tryd.func14, Tryd.ntmps14
    go_wp2
    go_ret
    exact ⟨rfl, rfl⟩

/-- The table that Table makes lies in block B. -/
def TabAt (W : World) (B : Nat) : Prop := W.heap[B]? = some (.cells fmtV.toArray 39 (0, 0))
theorem TabAt.below {W W' : World} {B n : Nat} (h : TabAt W B) (hb : Below n W W') (hB : B < n) : TabAt W' B := (hb.block B hB).trans h
theorem TabAt.lt {W : World} {B : Nat} (h : TabAt W B) : B < W.heap.size := (Array.getElem?_eq_some_iff.1 h).1
theorem TabAt.cell {W : World} {B : Nat} (h : TabAt W B) {i : Nat} {v : Value} (hv : fmtV[i]? = some v) : W.cell? ⟨B, i, none⟩ = some v := by
  rw [cell_of_row _ _ i _ 39 (0, 0) h]
  simpa using hv
theorem TabAt.row {W : World} {B : Nat} (h : TabAt W B) {k : Nat} (hk : k < 8) :
    W.cell? ⟨B, k * 4, none⟩ = some (iv (rtAt k).num) ∧ W.cell? ⟨B, k * 4 + 1, none⟩ = some (iv (rtAt k).den) ∧ W.cell? ⟨B, k * 4 + 2, none⟩ = some (iv (rtAt k).base) ∧ W.cell? ⟨B, k * 4 + 3, none⟩ = some (iv (rtAt k).drop) := by
  match k, hk with
  | 0, _ | 1, _ | 2, _ | 3, _ | 4, _ | 5, _ | 6, _ | 7, _ => exact ⟨h.cell rfl, h.cell rfl, h.cell rfl, h.cell rfl⟩

set_option maxRecDepth 100000 in
set_option maxHeartbeats 2000000 in
theorem table_any (w : World) :
    Calls Tryd.prog 31 #[] w fun e w' => e = .returned (.slice (some ⟨w.heap.size, 0, none⟩) 8 8) ∧ Below w.heap.size w w' ∧ TabAt w' w.heap.size ∧ w'.heap.size = w.heap.size + 1 := by
  go_enter Tryd.func31, Tryd.ntmps31
  go_wp2
  go_ret
  exact ⟨rfl, (Below.refl _ _).alloc (Nat.le_refl _) _, heap_alloc_new _ _, by simp⟩

set_option maxRecDepth 100000 in
set_option maxHeartbeats 2000000 in
theorem rate_any (c : Int) (w : World) (h1 : -9223372036854775808 ≤ c) (h2 : c ≤ 9223372036854775807) (k : Nat) (hk : pickZ c 8 = (k : Int)) (hk8 : k < 8) :
    Calls Tryd.prog 13 #[.int .i64 c] w fun e w' => e = .returned (rtAt k).val ∧ Below w.heap.size w w' := by
  have hpk := fun W => pick_any c 8 W h1 h2 (by decide) (by decide)
  rw [hk] at hpk
  have hrow := fun W B (h : TabAt W B) => h.row hk8
  unfold Rt.val
  generalize rtAt k = x at *
  have i1 : (0 : Int) ≤ (k : Int) := by omega
  have i2 : (k : Int) < 8 := by omega
  go_enter Tryd.func13, Tryd.ntmps13
  go_wp2_with fail
  have hka := Arr.new w 23 [iv 0, iv 0]
  have hb0 : Below w.heap.size w (w.alloc (.cells #[iv 0, iv 0] 23)) := (Below.refl _ _).alloc (Nat.le_refl _) _
  have hs0 : (w.alloc (.cells #[iv 0, iv 0] 23)).heap.size = w.heap.size + 1 := by simp
  obtain ⟨W0, hW0⟩ : ∃ W0, w.alloc (.cells #[iv 0, iv 0] 23) = W0 := ⟨_, rfl⟩
  have hka : Arr W0 w.heap.size 23 [iv 0, iv 0] := by rw [← hW0]; exact hka
  rw [hW0] at hb0 hs0 ⊢; clear hW0
  refine Calls.mono (table_any _) ?_; rintro e w1 ⟨rfl, b1, hT, hsz⟩
  rw [hs0] at hT hsz ⊢
  have hka := hka.below b1 (by omega)
  have hb1 := bthen hb0 b1
  obtain ⟨r0, r1, r2, r3⟩ := hrow _ _ hT
  have z0 := hka.cell (i := 0) rfl
  have z1 := hka.cell (i := 1) rfl
  have f0 := fun i => hka.frozen i
  go_wp2_with (go_at_call 14; refine Calls.mono (hpk _) ?_; rintro e w1 ⟨rfl, rfl⟩)
  have kf := ((hka.set 0 (iv x.num)).set 1 (iv x.den))
  have hbF := ((hb1.setCell (p := ⟨w.heap.size, 0, none⟩) (by simp) (iv x.num)).setCell (p := ⟨w.heap.size, 1, none⟩) (by simp) (iv x.den))
  generalize (w1.setCell ⟨w.heap.size, 0, none⟩ (iv x.num)).setCell ⟨w.heap.size, 1, none⟩ (iv x.den) = WF at *
  have e0 := kf.cell (i := 0) rfl
  have e1 := kf.cell (i := 1) rfl
  exact bodyPost_ret (v := .agg #[iv x.num, iv x.den]) (by simp [results, Tryd.results13, go_sem, e0, e1]) rfl ⟨rfl, hbF⟩

set_option maxHeartbeats 1000000 in
theorem refDay_any (a b c d D : Nat) (w : World) (hc : c ≤ 60) (hc2 : 1 ≤ c) (hd : d ≤ 4) (hD : D + 1296 * d = 86400 * c) :
    Calls Tryd.prog 30 #[.agg #[iv a, iv b, iv c, iv d]] w fun e w' => e = .returned (.int .i64 (D : Int)) ∧ Below w.heap.size w w' := by
  have e1 : 86400 * (c : Int) - 1296 * (d : Int) = (D : Int) := by omega
  have hc' : (c : Int) ≤ 60 := by omega
  have hd' : (d : Int) ≤ 4 := by omega
  clear hD
  go_enter Tryd.func30, Tryd.ntmps30
  go_wp2
  go_ret
  exact ⟨by simp [e1], (Below.refl _ _).alloc (Nat.le_refl _) _⟩

set_option maxRecDepth 100000 in
set_option maxHeartbeats 2000000 in
theorem refFind_ok (i : Nat) (hi8 : i < 8) (w : World) :
    Calls Tryd.prog 29 #[(rtAt i).val] w fun e w' => e = .returned (.tuple #[(rtAt i).row, .bool true]) ∧ Below w.heap.size w w' := by
  have hinj : ∀ k, k < i → ¬ (((rtAt k).num : Int) = (rtAt i).num ∧ ((rtAt k).den : Int) = (rtAt i).den) := fun k hk hc => by
    have := rtAt_inj (show k < 8 by omega) hi8 (by omega)
    omega
  unfold Rt.val Rt.row
  obtain ⟨x, hx⟩ : ∃ x, rtAt i = x := ⟨_, rfl⟩
  rw [hx] at hinj ⊢
  have HX := Lib.hid hx; clear hx
  go_enter Tryd.func29, Tryd.ntmps29
  go_wp2_with fail
  obtain ⟨W0, hW0, hb0, hsz, ka, kz⟩ : ∃ W0, (w.alloc (.cells #[iv x.num, iv x.den] 23)).alloc (.cells #[iv 0, iv 0, iv 0, iv 0] 39) = W0 ∧ Below w.heap.size w W0 ∧ W0.heap.size = w.heap.size + 2 ∧ Arr W0 w.heap.size 23 [iv x.num, iv x.den] ∧ Arr W0 (w.heap.size + 1) 39 [iv 0, iv 0, iv 0, iv 0] :=
    ⟨_, rfl, ((Below.refl _ _).alloc (Nat.le_refl _) _).alloc (by simp) _, by simp, (Arr.new w 23 [iv x.num, iv x.den]).alloc _, Arr.new' _ [iv 0, iv 0, iv 0, iv 0] (by simp)⟩
  rw [hW0]; clear hW0
  refine Calls.mono (table_any _) ?_; rintro e W1 ⟨rfl, b1, hT, hsz1⟩
  rw [hsz] at hT hsz1 ⊢
  have ka := ka.below b1 (by omega)
  have kz := kz.below b1 (by omega)
  have hb1 := bthen hb0 b1
  have k0 := ka.cell (i := 0) rfl
  have k1 := ka.cell (i := 1) rfl
  go_wp2_with fail
  go_loopw [5] (fun j wr => ∃ k : Nat, j = .int .i64 k ∧ k ≤ i ∧ Below W1.heap.size W1 wr) (fun j _ => 8 - (intOf j).toNat)
  case atStart => exact ⟨0, rfl, by omega, Below.refl _ _⟩
  case round =>
    obtain ⟨k, rfl, hk, hB⟩ := hrel
    have hk8 : k < 8 := by omega
    have i1 : (0 : Int) ≤ (k : Int) := by omega
    have i2 : (k : Int) < 8 := by omega
    have k0' := (hB.cell (p := ⟨w.heap.size, 0, none⟩) (by simp; omega)).trans k0
    have k1' := (hB.cell (p := ⟨w.heap.size, 1, none⟩) (by simp; omega)).trans k1
    have hT' := hT.below hB (by omega)
    have hrow := hT'.row hk8
    by_cases hk1 : k < i
    · have hne := hinj k hk1
      generalize rtAt k = y at *
      obtain ⟨r0, r1, r2, r3⟩ := hrow
      generalize y.num = yn at *
      generalize y.den = yd at *
      generalize hxn : x.num = xn at *
      generalize hxd : x.den = xd at *
      by_cases hn : yn = xn
      · have hd : ¬ yd = xd := fun h => hne ⟨by omega, by omega⟩
        have d1 : ((yn : Int) == (xn : Int)) = true := by rw [beq_iff_eq]; omega
        have d2 : ((yd : Int) == (xd : Int)) = false := by rw [beq_eq_false_iff_ne]; omega
        clear hne hinj
        go_wp2_with fail
        go_quiet (fail)
        go_wp2
        go_roundw
        case rel => exact ⟨k + 1, by go_num, by omega, below_drewN hB _⟩
        case measure => simp [intOf]; omega
      · have d1 : ((yn : Int) == (xn : Int)) = false := by rw [beq_eq_false_iff_ne]; omega
        clear hne hinj
        go_wp2_with fail
        go_quiet (fail)
        go_wp2
        go_roundw
        case rel => exact ⟨k + 1, by go_num, by omega, below_drewN hB _⟩
        case measure => simp [intOf]; omega
    · obtain rfl : k = i := by omega
      rw [HX.out] at hrow
      obtain ⟨r0, r1, r2, r3⟩ := hrow
      have kz' := (kz.below hB (by omega))
      have hbr : Below w.heap.size w wr := hb1.trans (hB.mono hb1.size)
      clear hinj
      go_wp2_with fail
      go_quiet (fail)
      have r0 : (wr.drewN nq).cell? ⟨w.heap.size + 2, k * 4, none⟩ = some (iv x.num) := r0
      have r1 : (wr.drewN nq).cell? ⟨w.heap.size + 2, k * 4 + 1, none⟩ = some (iv x.den) := r1
      have r2 : (wr.drewN nq).cell? ⟨w.heap.size + 2, k * 4 + 2, none⟩ = some (iv x.base) := r2
      have r3 : (wr.drewN nq).cell? ⟨w.heap.size + 2, k * 4 + 3, none⟩ = some (iv x.drop) := r3
      have kz' : Arr (wr.drewN nq) (w.heap.size + 1) 39 [iv 0, iv 0, iv 0, iv 0] := kz'
      have hbr := below_drewN hbr nq
      generalize wr.drewN nq = W2 at *
      have z0 := kz'.cell (i := 0) rfl
      have z1 := kz'.cell (i := 1) rfl
      have z2 := kz'.cell (i := 2) rfl
      have z3 := kz'.cell (i := 3) rfl
      have f0 := fun i => kz'.frozen i
      go_wp2_with fail
      have kf := (((kz'.set 0 (iv x.num)).set 1 (iv x.den)).set 2 (iv x.base)).set 3 (iv x.drop)
      have hbF := ((((hbr.setCell (p := ⟨w.heap.size + 1, 0, none⟩) (by simp) (iv x.num)).setCell (p := ⟨w.heap.size + 1, 1, none⟩) (by simp) (iv x.den)).setCell (p := ⟨w.heap.size + 1, 2, none⟩) (by simp) (iv x.base)).setCell (p := ⟨w.heap.size + 1, 3, none⟩) (by simp) (iv x.drop))
      generalize (((W2.setCell ⟨w.heap.size + 1, 0, none⟩ (iv x.num)).setCell ⟨w.heap.size + 1, 1, none⟩ (iv x.den)).setCell ⟨w.heap.size + 1, 2, none⟩ (iv x.base)).setCell ⟨w.heap.size + 1, 3, none⟩ (iv x.drop) = WF at *
      have e0 := kf.cell (i := 0) rfl
      have e1 := kf.cell (i := 1) rfl
      have e2 := kf.cell (i := 2) rfl
      have e3 := kf.cell (i := 3) rfl
      exact bodyPost_ret (v := .tuple #[.agg #[iv x.num, iv x.den, iv x.base, iv x.drop], .bool true]) (by simp [results, Tryd.results29, go_sem, e0, e1, e2, e3]) rfl ⟨rfl, hbF⟩
end Go.Proofs.YtfpmmfoinjcclaaDoor

import Derived.Test.YtfannkpnmaeljaaGreatDoorGTc1
import Derived.Deep.AppendLies
import Derived.Test.YtfannkpnmaeljaaGreatDoorLawKit
set_option linter.unusedVariables false
set_option linter.unusedSimpArgs false
/- The statements' own functions: pick, Table, rate, Find, Day. -/
namespace Go.Proofs.YtfannkpnmaeljaaGreatDoor.Tc
open Go.RowKit

def pickZ (c n : Int) : Int := (if c < 0 then -(c + 1) else c) % n
/-- The table that Table makes lies in block B. -/
def TabAt (W : World) (B : Nat) : Prop := W.heap[B]? = some (.cells fmtV.toArray 110 (0, 0))
theorem TabAt.below {W W' : World} {B n : Nat} (h : TabAt W B) (hb : Below n W W') (hB : B < n) : TabAt W' B := (hb.block B hB).trans h
theorem TabAt.lt {W : World} {B : Nat} (h : TabAt W B) : B < W.heap.size := (Array.getElem?_eq_some_iff.1 h).1
theorem TabAt.cell {W : World} {B : Nat} (h : TabAt W B) {i : Nat} {v : Value} (hv : fmtV[i]? = some v) : W.cell? ⟨B, i, none⟩ = some v := by
  rw [cell_of_row _ _ i _ 110 (0, 0) h]
  simpa using hv
theorem TabAt.row {W : World} {B : Nat} (h : TabAt W B) {k : Nat} (hk : k < 8) :
    W.cell? ⟨B, k * 4, none⟩ = some (iv (rtAt k).num) ∧ W.cell? ⟨B, k * 4 + 1, none⟩ = some (iv (rtAt k).den) ∧ W.cell? ⟨B, k * 4 + 2, none⟩ = some (iv (rtAt k).base) ∧ W.cell? ⟨B, k * 4 + 3, none⟩ = some (iv (rtAt k).drop) := by
  match k, hk with
  | 0, _ | 1, _ | 2, _ | 3, _ | 4, _ | 5, _ | 6, _ | 7, _ => exact ⟨h.cell rfl, h.cell rfl, h.cell rfl, h.cell rfl⟩

set_option maxRecDepth 100000 in
set_option maxHeartbeats 2000000 in
theorem table_any (w : World) :
    Calls Tryz.prog 112 #[] w fun e w' => e = .returned (.slice (some ⟨w.heap.size, 0, none⟩) 8 8) ∧ Below w.heap.size w w' ∧ TabAt w' w.heap.size ∧ w'.heap.size = w.heap.size + 1 := by
  go_enter Tryz.func112, Tryz.ntmps112
  go_wp2
  go_ret
  exact ⟨rfl, (Below.refl _ _).alloc (Nat.le_refl _) _, heap_alloc_new _ _, by simp⟩

set_option maxRecDepth 100000 in
set_option maxHeartbeats 2000000 in
theorem refFind_ok (i : Nat) (hi8 : i < 8) (w : World) :
    Calls Tryz.prog 90 #[(rtAt i).val] w fun e w' => e = .returned (.tuple #[(rtAt i).row, .bool true]) ∧ Below w.heap.size w w' := by
  have hinj : ∀ k, k < i → ¬ (((rtAt k).num : Int) = (rtAt i).num ∧ ((rtAt k).den : Int) = (rtAt i).den) := fun k hk hc => by
    have := rtAt_inj (show k < 8 by omega) hi8 (by omega)
    omega
  unfold Rt.val Rt.row
  obtain ⟨x, hx⟩ : ∃ x, rtAt i = x := ⟨_, rfl⟩
  rw [hx] at hinj ⊢
  have HX := Lib.hid hx; clear hx
  go_enter Tryz.func90, Tryz.ntmps90
  go_wp2_with fail
  obtain ⟨W0, hW0, hb0, hsz, ka, kz⟩ : ∃ W0, (w.alloc (.cells #[iv x.num, iv x.den] 23)).alloc (.cells #[iv 0, iv 0, iv 0, iv 0] 110) = W0 ∧ Below w.heap.size w W0 ∧ W0.heap.size = w.heap.size + 2 ∧ Arr W0 w.heap.size 23 [iv x.num, iv x.den] ∧ Arr W0 (w.heap.size + 1) 110 [iv 0, iv 0, iv 0, iv 0] :=
    ⟨_, rfl, ((Below.refl _ _).alloc (Nat.le_refl _) _).alloc (by simp) _, by simp, (Arr.new w 23 [iv x.num, iv x.den]).alloc _, Arr.new' _ [iv 0, iv 0, iv 0, iv 0] (by simp)⟩
  rw [hW0]; clear hW0
  refine Calls.mono (table_any _) ?_; rintro e W1 ⟨rfl, b1, hT, hsz1⟩
  rw [hsz] at hT hsz1 ⊢
  have ka := ka.below b1 (by omega)
  have kz := kz.below b1 (by omega)
  have hb1 := bthen hb0 b1
  have k0 := ka.cell (i := 0) rfl
  have k1 := ka.cell (i := 1) rfl
  go_wp2_with fail
  go_loopw [5] (fun j wr => ∃ k : Nat, j = .int .i64 k ∧ k ≤ i ∧ Below W1.heap.size W1 wr) (fun j _ => 8 - (intOf j).toNat)
  case atStart => exact ⟨0, rfl, by omega, Below.refl _ _⟩
  case round =>
    obtain ⟨k, rfl, hk, hB⟩ := hrel
    have hk8 : k < 8 := by omega
    have i1 : (0 : Int) ≤ (k : Int) := by omega
    have i2 : (k : Int) < 8 := by omega
    have k0' := (hB.cell (p := ⟨w.heap.size, 0, none⟩) (by simp; omega)).trans k0
    have k1' := (hB.cell (p := ⟨w.heap.size, 1, none⟩) (by simp; omega)).trans k1
    have hT' := hT.below hB (by omega)
    have hrow := hT'.row hk8
    by_cases hk1 : k < i
    · have hne := hinj k hk1
      generalize rtAt k = y at *
      obtain ⟨r0, r1, r2, r3⟩ := hrow
      generalize y.num = yn at *
      generalize y.den = yd at *
      generalize hxn : x.num = xn at *
      generalize hxd : x.den = xd at *
      by_cases hn : yn = xn
      · have hd : ¬ yd = xd := fun h => hne ⟨by omega, by omega⟩
        have d1 : ((yn : Int) == (xn : Int)) = true := by rw [beq_iff_eq]; omega
        have d2 : ((yd : Int) == (xd : Int)) = false := by rw [beq_eq_false_iff_ne]; omega
        clear hne hinj
        go_wp2_with fail
        go_quiet (fail)
        go_wp2
        go_roundw
        case rel => exact ⟨k + 1, by go_num, by omega, below_drewN hB _⟩
        case measure => simp [intOf]; omega
      · have d1 : ((yn : Int) == (xn : Int)) = false := by rw [beq_eq_false_iff_ne]; omega
        clear hne hinj
        go_wp2_with fail
        go_quiet (fail)
        go_wp2
        go_roundw
        case rel => exact ⟨k + 1, by go_num, by omega, below_drewN hB _⟩
        case measure => simp [intOf]; omega
    · obtain rfl : k = i := by omega
      rw [HX.out] at hrow
      obtain ⟨r0, r1, r2, r3⟩ := hrow
      have kz' := (kz.below hB (by omega))
      have hbr : Below w.heap.size w wr := hb1.trans (hB.mono hb1.size)
      clear hinj
      go_wp2_with fail
      go_quiet (fail)
      have r0 : (wr.drewN nq).cell? ⟨w.heap.size + 2, k * 4, none⟩ = some (iv x.num) := r0
      have r1 : (wr.drewN nq).cell? ⟨w.heap.size + 2, k * 4 + 1, none⟩ = some (iv x.den) := r1
      have r2 : (wr.drewN nq).cell? ⟨w.heap.size + 2, k * 4 + 2, none⟩ = some (iv x.base) := r2
      have r3 : (wr.drewN nq).cell? ⟨w.heap.size + 2, k * 4 + 3, none⟩ = some (iv x.drop) := r3
      have kz' : Arr (wr.drewN nq) (w.heap.size + 1) 110 [iv 0, iv 0, iv 0, iv 0] := kz'
      have hbr := below_drewN hbr nq
      generalize wr.drewN nq = W2 at *
      have z0 := kz'.cell (i := 0) rfl
      have z1 := kz'.cell (i := 1) rfl
      have z2 := kz'.cell (i := 2) rfl
      have z3 := kz'.cell (i := 3) rfl
      have f0 := fun i => kz'.frozen i
      go_wp2_with fail
      have kf := (((kz'.set 0 (iv x.num)).set 1 (iv x.den)).set 2 (iv x.base)).set 3 (iv x.drop)
      have hbF := ((((hbr.setCell (p := ⟨w.heap.size + 1, 0, none⟩) (by simp) (iv x.num)).setCell (p := ⟨w.heap.size + 1, 1, none⟩) (by simp) (iv x.den)).setCell (p := ⟨w.heap.size + 1, 2, none⟩) (by simp) (iv x.base)).setCell (p := ⟨w.heap.size + 1, 3, none⟩) (by simp) (iv x.drop))
      generalize (((W2.setCell ⟨w.heap.size + 1, 0, none⟩ (iv x.num)).setCell ⟨w.heap.size + 1, 1, none⟩ (iv x.den)).setCell ⟨w.heap.size + 1, 2, none⟩ (iv x.base)).setCell ⟨w.heap.size + 1, 3, none⟩ (iv x.drop) = WF at *
      have e0 := kf.cell (i := 0) rfl
      have e1 := kf.cell (i := 1) rfl
      have e2 := kf.cell (i := 2) rfl
      have e3 := kf.cell (i := 3) rfl
      exact bodyPost_ret (v := .tuple #[.agg #[iv x.num, iv x.den, iv x.base, iv x.drop], .bool true]) (by simp [results, Tryz.results90, go_sem, e0, e1, e2, e3]) rfl ⟨rfl, hbF⟩
end Go.Proofs.YtfannkpnmaeljaaGreatDoor.Tc

/- The reference's small functions. -/
namespace Go.Proofs.YtfannkpnmaeljaaGreatDoor.Tc
open Go.RowKit

theorem rfind_ok (x : Rt) (hx : x ∈ rtL) (w : World) :
    Calls Tryz.prog 90 #[x.val] w fun e w' => e = .returned (.tuple #[x.row, .bool true]) ∧ Below w.heap.size w w' := by
  obtain ⟨i, hi, rfl⟩ := rt_at hx
  exact refFind_ok i hi w

set_option maxRecDepth 100000 in
set_option maxHeartbeats 2000000 in
theorem rfind_no (a b : Int) (w : World) (hno : NoRate a b) :
    Calls Tryz.prog 90 #[.agg #[iv a, iv b]] w fun e w' => e = .returned (.tuple #[.agg #[iv 0, iv 0, iv 0, iv 0], .bool false]) ∧ Below w.heap.size w w' := by
  go_enter Tryz.func90, Tryz.ntmps90
  go_wp2_with fail
  obtain ⟨W0, hW0, hb0, hsz, ka, kz⟩ : ∃ W0, (w.alloc (.cells #[iv a, iv b] 23)).alloc (.cells #[iv 0, iv 0, iv 0, iv 0] 110) = W0 ∧ Below w.heap.size w W0 ∧ W0.heap.size = w.heap.size + 2 ∧ Arr W0 w.heap.size 23 [iv a, iv b] ∧ Arr W0 (w.heap.size + 1) 110 [iv 0, iv 0, iv 0, iv 0] :=
    ⟨_, rfl, ((Below.refl _ _).alloc (Nat.le_refl _) _).alloc (by simp) _, by simp, (Arr.new w 23 [iv a, iv b]).alloc _, Arr.new' _ [iv 0, iv 0, iv 0, iv 0] (by simp)⟩
  rw [hW0]; clear hW0
  refine Calls.mono (table_any _) ?_; rintro e W1 ⟨rfl, b1, hT, hsz1⟩
  rw [hsz] at hT hsz1 ⊢
  have ka := ka.below b1 (by omega)
  have kz := kz.below b1 (by omega)
  have hb1 := bthen hb0 b1
  have k0 := ka.cell (i := 0) rfl
  have k1 := ka.cell (i := 1) rfl
  go_wp2_with fail
  go_loopw [5] (fun j wr => ∃ k : Nat, j = .int .i64 k ∧ k ≤ 8 ∧ Below W1.heap.size W1 wr) (fun j _ => 8 - (intOf j).toNat)
  case atStart => exact ⟨0, rfl, by omega, Below.refl _ _⟩
  case round =>
    obtain ⟨k, rfl, hk, hB⟩ := hrel
    by_cases hk8 : k < 8
    · have i1 : (0 : Int) ≤ (k : Int) := by omega
      have i2 : (k : Int) < 8 := by omega
      have k0' := (hB.cell (p := ⟨w.heap.size, 0, none⟩) (by simp; omega)).trans k0
      have k1' := (hB.cell (p := ⟨w.heap.size, 1, none⟩) (by simp; omega)).trans k1
      have hT' := hT.below hB (by omega)
      have hrow := hT'.row hk8
      have hne := hno _ (rtAt_mem hk8)
      generalize rtAt k = y at *
      obtain ⟨r0, r1, r2, r3⟩ := hrow
      generalize y.num = yn at *
      generalize y.den = yd at *
      by_cases hn : (yn : Int) = a
      · have hd : ¬ (yd : Int) = b := fun h => hne ⟨by omega, by omega⟩
        have d1 : ((yn : Int) == a) = true := by rw [beq_iff_eq]; omega
        have d2 : ((yd : Int) == b) = false := by rw [beq_eq_false_iff_ne]; omega
        clear hne hn
        go_wp2_with fail
        go_quiet (fail)
        go_wp2
        go_roundw
        case rel => exact ⟨k + 1, by go_num, by omega, below_drewN hB _⟩
        case measure => simp [intOf]; omega
      · have d1 : ((yn : Int) == a) = false := by rw [beq_eq_false_iff_ne]; omega
        clear hne
        go_wp2_with fail
        go_quiet (fail)
        go_wp2
        go_roundw
        case rel => exact ⟨k + 1, by go_num, by omega, below_drewN hB _⟩
        case measure => simp [intOf]; omega
    · obtain rfl : k = 8 := by omega
      have kz' := (kz.below hB (by omega))
      have hbr : Below w.heap.size w wr := hb1.trans (hB.mono hb1.size)
      have z0 := kz'.cell (i := 0) rfl
      have z1 := kz'.cell (i := 1) rfl
      have z2 := kz'.cell (i := 2) rfl
      have z3 := kz'.cell (i := 3) rfl
      have f0 := fun i => kz'.frozen i
      go_wp2_with fail
      have kf := (((kz'.set 0 (iv 0)).set 1 (iv 0)).set 2 (iv 0)).set 3 (iv 0)
      have hbF := ((((hbr.setCell (p := ⟨w.heap.size + 1, 0, none⟩) (by simp) (iv 0)).setCell (p := ⟨w.heap.size + 1, 1, none⟩) (by simp) (iv 0)).setCell (p := ⟨w.heap.size + 1, 2, none⟩) (by simp) (iv 0)).setCell (p := ⟨w.heap.size + 1, 3, none⟩) (by simp) (iv 0))
      generalize (((wr.setCell ⟨w.heap.size + 1, 0, none⟩ (iv 0)).setCell ⟨w.heap.size + 1, 1, none⟩ (iv 0)).setCell ⟨w.heap.size + 1, 2, none⟩ (iv 0)).setCell ⟨w.heap.size + 1, 3, none⟩ (iv 0) = WF at *
      have e0 := kf.cell (i := 0) rfl
      have e1 := kf.cell (i := 1) rfl
      have e2 := kf.cell (i := 2) rfl
      have e3 := kf.cell (i := 3) rfl
      exact bodyPost_ret (v := .tuple #[.agg #[iv 0, iv 0, iv 0, iv 0], .bool false]) (by simp [results, Tryz.results90, go_sem, e0, e1, e2, e3]) rfl ⟨rfl, hbF⟩

set_option maxHeartbeats 400000 in
theorem risFrame_any (n : Int) (w : World) :
    Calls Tryz.prog 72 #[.int .i64 n] w fun e w' => e = .returned (.bool (decide (0 ≤ n ∧ n ≤ 100000000))) ∧ w = w' := by
  by_cases h : 0 ≤ n
  · go_enter Tryz.func72, Tryz.ntmps72
    go_wp2
    go_ret
    exact ⟨by simp [h], rfl⟩
  · go_enter Tryz.func72, Tryz.ntmps72
    go_wp2
    go_ret
    have hd : decide (0 ≤ n) = false := by simpa using h
    exact ⟨by simp [hd], rfl⟩

set_option maxHeartbeats 400000 in
theorem rceil_any (a b : Int) (w : World) (h1 : 0 ≤ a) (h2 : 1 ≤ b) (h3 : a ≤ 4611686018427387903) (h4 : b ≤ 4611686018427387903) :
    Calls Tryz.prog 71 #[.int .i64 a, .int .i64 b] w fun e w' => e = .returned (.int .i64 ((a + b - 1) / b)) ∧ w = w' := by
  go_enter Tryz.func71, Tryz.ntmps71
  go_wp2
  go_ret
  exact ⟨rfl, rfl⟩

set_option maxHeartbeats 1000000 in
theorem rvalid_ok (x : Rt) (hx : x ∈ rtL) (w : World) (hF : FmtAt w) :
    Calls Tryz.prog 69 #[x.val] w fun e w' => e = .returned (.bool true) ∧ Below w.heap.size w w' := by
  have hf := fun W (h : Below w.heap.size w W) => rfind_ok x hx W
  unfold Rt.val Rt.row at *
  go_enter Tryz.func69, Tryz.ntmps69
  go_wp2_with fail
  refine Calls.mono (hf _ ((Below.refl _ _).alloc (Nat.le_refl _) _)) ?_; rintro e w1 ⟨rfl, b1⟩
  go_wp2
  go_ret
  exact ⟨rfl, (((Below.refl _ _).alloc (Nat.le_refl _) _).trans (b1.mono (by simp))).alloc (by have := b1.size; simp at this; omega) _⟩

set_option maxHeartbeats 1000000 in
theorem rvalid_no (a b : Int) (hx : NoRate a b) (w : World) (hF : FmtAt w) :
    Calls Tryz.prog 69 #[.agg #[iv a, iv b]] w fun e w' => e = .returned (.bool false) ∧ Below w.heap.size w w' := by
  have hf := fun W (h : Below w.heap.size w W) => rfind_no a b W hx
  go_enter Tryz.func69, Tryz.ntmps69
  go_wp2_with fail
  refine Calls.mono (hf _ ((Below.refl _ _).alloc (Nat.le_refl _) _)) ?_; rintro e w1 ⟨rfl, b1⟩
  go_wp2
  go_ret
  exact ⟨rfl, (((Below.refl _ _).alloc (Nat.le_refl _) _).trans (b1.mono (by simp))).alloc (by have := b1.size; simp at this; omega) _⟩

set_option maxHeartbeats 1000000 in
theorem rseconds_ok (x : Rt) (hx : x ∈ rtL) (n : Nat) (hn : n ≤ 100000000) (w : World) (hF : FmtAt w) :
    Calls Tryz.prog 44 #[x.val, .int .i64 n] w fun e w' => e = .returned (.int .i64 ((n * x.den / x.num : Nat) : Int)) ∧ Below w.heap.size w w' := by
  have hf := fun W (h : Below w.heap.size w W) => rvalid_ok x hx W (hF.below h)
  obtain ⟨x1, x2, x3, x4, -, -, -⟩ := rt_bd hx
  unfold Rt.val at *
  clear hx hF
  generalize x.num = a at *
  generalize x.den = b at *
  have hp := prod_le hn x4
  obtain ⟨p, hpp⟩ : ∃ p, n * b = p := ⟨_, rfl⟩
  rw [hpp] at hp ⊢
  obtain ⟨q, hq⟩ : ∃ q, p / a = q := ⟨_, rfl⟩
  rw [hq]
  have hqp : q ≤ p := by rw [← hq]; exact Nat.div_le_self _ _
  have e1 := wprod hpp (by omega)
  have e2 := quo_nat hq
  have e3 := tquo_nat hq
  have e4 : IntKind.i64.wrap (q : Int) = (q : Int) := w64 (by omega) (by omega)
  have a0 : ¬ a = 0 := by omega
  have a1 : ((a : Int) == 0) = false := by rw [beq_eq_false_iff_ne]; omega
  have hn1 : (n : Int) ≤ 100000000 := by omega
  clear hpp hq
  go_enter Tryz.func44, Tryz.ntmps44
  go_wp2_with fail
  obtain ⟨W0, hW0, hb0, hsz, k0, k1⟩ := box2 w a b
  rw [hW0]; clear hW0
  refine Calls.mono (hf _ hb0) ?_; rintro e w1 ⟨rfl, b1⟩
  obtain ⟨c0, c1⟩ := keep2 k0 k1 b1 (by omega)
  go_wp2_with (go_at_call 72; refine Calls.mono (risFrame_any _ _) ?_; rintro e w1 ⟨rfl, rfl⟩)
  go_ret
  exact ⟨rfl, hb0.trans (b1.mono (by omega))⟩

set_option maxHeartbeats 1000000 in
theorem rseconds_no (a b : Int) (hx : NoRate a b) (n : Int) (w : World) (hF : FmtAt w) :
    Calls Tryz.prog 44 #[.agg #[iv a, iv b], .int .i64 n] w fun e w' => e = .returned (.int .i64 (-1)) ∧ Below w.heap.size w w' := by
  have hf := fun W (h : Below w.heap.size w W) => rvalid_no a b hx W (hF.below h)
  go_enter Tryz.func44, Tryz.ntmps44
  go_wp2_with fail
  obtain ⟨W0, hW0, hb0, hsz, k0, k1⟩ := box2 w a b
  rw [hW0]; clear hW0
  refine Calls.mono (hf _ hb0) ?_; rintro e w1 ⟨rfl, b1⟩
  go_wp2_with fail
  go_ret
  exact ⟨rfl, hb0.trans (b1.mono (by omega))⟩

set_option maxHeartbeats 1000000 in
theorem rseconds_out (x : Rt) (hx : x ∈ rtL) (n : Int) (hn : ¬ (0 ≤ n ∧ n ≤ 100000000)) (w : World) (hF : FmtAt w) :
    Calls Tryz.prog 44 #[x.val, .int .i64 n] w fun e w' => e = .returned (.int .i64 (-1)) ∧ Below w.heap.size w w' := by
  have hf := fun W (h : Below w.heap.size w W) => rvalid_ok x hx W (hF.below h)
  unfold Rt.val at *
  clear hx hF
  generalize x.num = a at *
  generalize x.den = b at *
  have hd : (decide (0 ≤ n) && decide (n ≤ 100000000)) = false := by rw [← Bool.decide_and, decide_eq_false_iff_not]; exact hn
  have hd2 : decide (0 ≤ n ∧ n ≤ 100000000) = false := by rw [decide_eq_false_iff_not]; exact hn
  go_enter Tryz.func44, Tryz.ntmps44
  go_wp2_with fail
  obtain ⟨W0, hW0, hb0, hsz, k0, k1⟩ := box2 w a b
  rw [hW0]; clear hW0
  refine Calls.mono (hf _ hb0) ?_; rintro e w1 ⟨rfl, b1⟩
  go_wp2_with (go_at_call 72; refine Calls.mono (risFrame_any _ _) ?_; rintro e w1 ⟨rfl, rfl⟩)
  go_ret
  exact ⟨rfl, hb0.trans (b1.mono (by omega))⟩

set_option maxHeartbeats 1000000 in
theorem rframes_no (a b : Int) (hx : NoRate a b) (n : Int) (w : World) (hF : FmtAt w) :
    Calls Tryz.prog 43 #[.agg #[iv a, iv b], .int .i64 n] w fun e w' => e = .returned (.int .i64 (-1)) ∧ Below w.heap.size w w' := by
  have hf := fun W (h : Below w.heap.size w W) => rvalid_no a b hx W (hF.below h)
  go_enter Tryz.func43, Tryz.ntmps43
  go_wp2_with fail
  obtain ⟨W0, hW0, hb0, hsz, k0, k1⟩ := box2 w a b
  rw [hW0]; clear hW0
  refine Calls.mono (hf _ hb0) ?_; rintro e w1 ⟨rfl, b1⟩
  go_wp2_with fail
  go_ret
  exact ⟨rfl, hb0.trans (b1.mono (by omega))⟩

set_option maxHeartbeats 1000000 in
theorem rframes_out (x : Rt) (hx : x ∈ rtL) (n : Int) (hn : ¬ (0 ≤ n ∧ n ≤ 10000000000)) (w : World) (hF : FmtAt w) :
    Calls Tryz.prog 43 #[x.val, .int .i64 n] w fun e w' => e = .returned (.int .i64 (-1)) ∧ Below w.heap.size w w' := by
  have hf := fun W (h : Below w.heap.size w W) => rvalid_ok x hx W (hF.below h)
  unfold Rt.val at *
  clear hx hF
  generalize x.num = a at *
  generalize x.den = b at *
  rcases (by omega : n < 0 ∨ 10000000000 < n) with hn | hn
  · go_enter Tryz.func43, Tryz.ntmps43
    go_wp2_with fail
    obtain ⟨W0, hW0, hb0, hsz, k0, k1⟩ := box2 w a b
    rw [hW0]; clear hW0
    refine Calls.mono (hf _ hb0) ?_; rintro e w1 ⟨rfl, b1⟩
    go_wp2_with fail
    go_ret
    exact ⟨rfl, hb0.trans (b1.mono (by omega))⟩
  · have hnn : ¬ n < 0 := by omega
    go_enter Tryz.func43, Tryz.ntmps43
    go_wp2_with fail
    obtain ⟨W0, hW0, hb0, hsz, k0, k1⟩ := box2 w a b
    rw [hW0]; clear hW0
    refine Calls.mono (hf _ hb0) ?_; rintro e w1 ⟨rfl, b1⟩
    go_wp2_with fail
    go_ret
    exact ⟨rfl, hb0.trans (b1.mono (by omega))⟩

set_option maxHeartbeats 1000000 in
theorem rframes_ok (x : Rt) (hx : x ∈ rtL) (n : Nat) (hn : n ≤ 10000000000) (w : World) (hF : FmtAt w) :
    Calls Tryz.prog 43 #[x.val, .int .i64 n] w fun e w' => e = .returned (.int .i64 (((n * x.num + x.den - 1) / x.den : Nat) : Int)) ∧ Below w.heap.size w w' := by
  have hf := fun W (h : Below w.heap.size w W) => rvalid_ok x hx W (hF.below h)
  obtain ⟨x1, x2, x3, x4, -, -, -⟩ := rt_bd hx
  unfold Rt.val at *
  clear hx hF
  generalize x.num = a at *
  generalize x.den = b at *
  have hp := prod_le hn x2
  obtain ⟨p, hpp⟩ : ∃ p, n * a = p := ⟨_, rfl⟩
  rw [hpp] at hp ⊢
  have hcl := fun W => rceil_any (p : Int) (b : Int) W (by omega) (by omega) (by omega) (by omega)
  obtain ⟨q, hq⟩ : ∃ q, (p + b - 1) / b = q := ⟨_, rfl⟩
  rw [hq]
  rw [show (p : Int) + (b : Int) - 1 = ((p + b - 1 : Nat) : Int) by omega, ← Int.natCast_ediv, hq] at hcl
  have e1 := wprod hpp (by omega)
  have hn1 : (n : Int) ≤ 10000000000 := by omega
  have hn0 : ¬ (n : Int) < 0 := by omega
  clear hpp hq
  go_enter Tryz.func43, Tryz.ntmps43
  go_wp2_with fail
  obtain ⟨W0, hW0, hb0, hsz, k0, k1⟩ := box2 w a b
  rw [hW0]; clear hW0
  refine Calls.mono (hf _ hb0) ?_; rintro e w1 ⟨rfl, b1⟩
  obtain ⟨c0, c1⟩ := keep2 k0 k1 b1 (by omega)
  go_wp2_with (go_at_call 71; refine Calls.mono (hcl _) ?_; rintro e w1 ⟨rfl, rfl⟩)
  go_ret
  exact ⟨rfl, hb0.trans (b1.mono (by omega))⟩

end Go.Proofs.YtfannkpnmaeljaaGreatDoor.Tc

/- Format. -/
namespace Go.Proofs.YtfannkpnmaeljaaGreatDoor.Tc
open Go.RowKit

theorem keep4 {w w8 w9 : World} {B n : Nat} {a b c d : Int} (hB : B < n) (hn : n ≤ w.heap.size)
    (h : w8.cell? ⟨B, 0, none⟩ = some (iv a) ∧ w8.cell? ⟨B, 1, none⟩ = some (iv b) ∧ w8.cell? ⟨B, 2, none⟩ = some (iv c) ∧ w8.cell? ⟨B, 3, none⟩ = some (iv d) ∧ Below n w w8) (hb : Below n w8 w9) :
    w9.cell? ⟨B, 0, none⟩ = some (iv a) ∧ w9.cell? ⟨B, 1, none⟩ = some (iv b) ∧ w9.cell? ⟨B, 2, none⟩ = some (iv c) ∧ w9.cell? ⟨B, 3, none⟩ = some (iv d) ∧ Below n w w9 := by
  obtain ⟨h0, h1, h2, h3, h4⟩ := h
  exact ⟨(hb.cell (p := ⟨B, 0, none⟩) hB).trans h0, (hb.cell (p := ⟨B, 1, none⟩) hB).trans h1, (hb.cell (p := ⟨B, 2, none⟩) hB).trans h2, (hb.cell (p := ⟨B, 3, none⟩) hB).trans h3, h4.trans hb⟩
theorem keep4a {w w8 : World} {B : Nat} {a b c d : Int} (hB : B < w.heap.size)
    (h : w8.cell? ⟨B, 0, none⟩ = some (iv a) ∧ w8.cell? ⟨B, 1, none⟩ = some (iv b) ∧ w8.cell? ⟨B, 2, none⟩ = some (iv c) ∧ w8.cell? ⟨B, 3, none⟩ = some (iv d) ∧ Below w.heap.size w w8) (o : Obj) :
    (w8.alloc o).cell? ⟨B, 0, none⟩ = some (iv a) ∧ (w8.alloc o).cell? ⟨B, 1, none⟩ = some (iv b) ∧ (w8.alloc o).cell? ⟨B, 2, none⟩ = some (iv c) ∧ (w8.alloc o).cell? ⟨B, 3, none⟩ = some (iv d) ∧ Below w.heap.size w (w8.alloc o) :=
  keep4 hB (Nat.le_refl _) h ((Below.refl _ w8).alloc h.2.2.2.2.size o)
theorem keep4g {w w8 w9 : World} {B : Nat} {a b c d : Int} (hB : B < w.heap.size)
    (h : w8.cell? ⟨B, 0, none⟩ = some (iv a) ∧ w8.cell? ⟨B, 1, none⟩ = some (iv b) ∧ w8.cell? ⟨B, 2, none⟩ = some (iv c) ∧ w8.cell? ⟨B, 3, none⟩ = some (iv d) ∧ Below w.heap.size w w8) {e : TypeId} {size : Nat} {v : Value} {n : Nat} {xs : List Value} (hg : w8.grownBy w9 v.ownBlock) (own : w8.ownsRow w.heap.size e size v n xs) :
    w9.cell? ⟨B, 0, none⟩ = some (iv a) ∧ w9.cell? ⟨B, 1, none⟩ = some (iv b) ∧ w9.cell? ⟨B, 2, none⟩ = some (iv c) ∧ w9.cell? ⟨B, 3, none⟩ = some (iv d) ∧ Below w.heap.size w w9 :=
  keep4 hB (Nat.le_refl _) h ((Below.refl _ w8).grown hg h.2.2.2.2.size (own_le own))
theorem made11 : madeCells (Value.int .u8 0).cells (11 * 1) = (u8s (List.replicate 11 0)).toArray := by kernel_rfl

end Go.Proofs.YtfannkpnmaeljaaGreatDoor.Tc

/- Parse. -/
namespace Go.Proofs.YtfannkpnmaeljaaGreatDoor.Tc
open Go.RowKit

def nb (s : ByteArray) : List Nat := s.data.toList.map UInt8.toNat
theorem nb_len (s : ByteArray) : (nb s).length = s.size := by simp [nb]
theorem nb_lt (s : ByteArray) : ∀ x ∈ nb s, x < 256 := by
  intro x hx
  simp only [nb, List.mem_map] at hx
  obtain ⟨b, _, rfl⟩ := hx
  exact b.toNat_lt
theorem byte_at {s : ByteArray} {k : Nat} (h : k < s.size) : (s[k]'h).toNat = (nb s).getD k 0 := by
  unfold nb
  rw [List.getD_eq_getElem?_getD, List.getElem?_map]
  have : s.data.toList[k]? = some (s[k]'h) := by
    rw [List.getElem?_eq_getElem (by simpa using h)]; rfl
  rw [this]; rfl


def numZ (a b lim : Nat) : Nat × Bool := if (a + 208) % 256 ≤ 9 ∧ (b + 208) % 256 ≤ 9 then (10 * ((a + 208) % 256) + (b + 208) % 256, decide (10 * ((a + 208) % 256) + (b + 208) % 256 < lim)) else (0, false)
theorem num2_numZ {a b lim : Nat} (ha : a < 256) (hb : b < 256) : num2 a b lim = if (numZ a b lim).2 = true then some (numZ a b lim).1 else none := by
  unfold num2 numZ
  by_cases h : (a + 208) % 256 ≤ 9 ∧ (b + 208) % 256 ≤ 9
  · rw [if_pos h]
    obtain ⟨h1, h2⟩ := h
    have e1 : a - 48 = (a + 208) % 256 := by omega
    have e2 : b - 48 = (b + 208) % 256 := by omega
    rw [e1, e2]
    by_cases hl : 10 * ((a + 208) % 256) + (b + 208) % 256 < lim
    · rw [if_pos ⟨by omega, by omega, hl⟩]; simp [hl]
    · rw [if_neg (by omega)]; simp [hl]
  · rw [if_neg h, if_neg (by omega)]; simp

end Go.Proofs.YtfannkpnmaeljaaGreatDoor.Tc

/- Parse, where the separators are right. -/
namespace Go.Proofs.YtfannkpnmaeljaaGreatDoor.Tc
open Go.RowKit

theorem parse_numZ {x : Rt} {l : List Nat} (hl : ∀ y ∈ l, y < 256) (hsp : l.getD 2 0 = 58 ∧ l.getD 5 0 = 58 ∧ l.getD 8 0 = x.sep) :
    parseZ x l = if ((numZ (l.getD 0 0) (l.getD 1 0) 24).2 = true ∧ (numZ (l.getD 3 0) (l.getD 4 0) 60).2 = true ∧ (numZ (l.getD 6 0) (l.getD 7 0) 60).2 = true ∧ (numZ (l.getD 9 0) (l.getD 10 0) x.base).2 = true) then
      (if (numZ (l.getD 3 0) (l.getD 4 0) 60).1 % 10 ≠ 0 ∧ (numZ (l.getD 6 0) (l.getD 7 0) 60).1 = 0 ∧ (numZ (l.getD 9 0) (l.getD 10 0) x.base).1 < x.drop then none
       else some (indexZ x (60 * (numZ (l.getD 0 0) (l.getD 1 0) 24).1 + (numZ (l.getD 3 0) (l.getD 4 0) 60).1) (numZ (l.getD 6 0) (l.getD 7 0) 60).1 (numZ (l.getD 9 0) (l.getD 10 0) x.base).1)) else none := by
  unfold parseZ
  rw [if_pos hsp]
  have g := fun i => getD_lt hl (by decide) i
  rw [num2_numZ (g 0) (g 1), num2_numZ (g 3) (g 4), num2_numZ (g 6) (g 7), num2_numZ (g 9) (g 10)]
  generalize numZ (l.getD 0 0) (l.getD 1 0) 24 = A
  generalize numZ (l.getD 3 0) (l.getD 4 0) 60 = B
  generalize numZ (l.getD 6 0) (l.getD 7 0) 60 = C
  generalize numZ (l.getD 9 0) (l.getD 10 0) x.base = D
  obtain ⟨A1, A2⟩ := A
  obtain ⟨B1, B2⟩ := B
  obtain ⟨C1, C2⟩ := C
  obtain ⟨D1, D2⟩ := D
  cases A2 <;> cases B2 <;> cases C2 <;> cases D2 <;> simp
theorem numZ_lt {a b lim : Nat} (h : (numZ a b lim).2 = true) : (numZ a b lim).1 < lim := by
  unfold numZ at *
  split at h <;> simp_all

end Go.Proofs.YtfannkpnmaeljaaGreatDoor.Tc

/- Parse in one; the fixed examples; the table's memory at the start. -/
namespace Go.Proofs.YtfannkpnmaeljaaGreatDoor.Tc
open Go.ChangeShapes Go.WideShapes Go.ChangeAt Go.WideMaps Go.WideElems Go.RowKit

def parseO (x : Rt) (s : ByteArray) : Option Nat := if s.size = 11 then parseZ x (nb s) else none
def numO (o : Option Nat) : Int := match o with | some n => (n : Int) | none => 0
def errO (o : Option Nat) : Int := match o with | some _ => 0 | none => 30

theorem y6 (w : World) (hF : FmtAt w) : Calls Tryz.prog 33 #[.agg #[.int .i64 30000, .int .i64 1001], .int .i64 1799] w fun e w' => e = .returned (.int .i64 60) ∧ Below w.heap.size w w' := by
  have := seconds_ok ⟨30000, 1001, 30, 2⟩ (by decide) 1799 (by decide) w hF
  exact this
theorem y7 (w : World) (hF : FmtAt w) : Calls Tryz.prog 33 #[.agg #[.int .i64 30000, .int .i64 1001], .int .i64 1798] w fun e w' => e = .returned (.int .i64 59) ∧ Below w.heap.size w w' := by
  have := seconds_ok ⟨30000, 1001, 30, 2⟩ (by decide) 1798 (by decide) w hF
  exact this
theorem y8 (w : World) (hF : FmtAt w) : Calls Tryz.prog 27 #[.agg #[.int .i64 30000, .int .i64 1001], .int .i64 60] w fun e w' => e = .returned (.int .i64 1799) ∧ Below w.heap.size w w' := by
  have := frames_ok ⟨30000, 1001, 30, 2⟩ (by decide) 60 (by decide) w hF
  exact this
theorem y11 (w : World) (hF : FmtAt w) : Calls Tryz.prog 33 #[.agg #[.int .i64 0, .int .i64 0], .int .i64 0] w fun e w' => e = .returned (.int .i64 (-1)) ∧ Below w.heap.size w w' := by
  have := seconds_no 0 0 (by unfold NoRate; decide) 0 w hF
  exact this

end Go.Proofs.YtfannkpnmaeljaaGreatDoor.Tc

/- What the statements' walks share. -/
namespace Go.Proofs.YtfannkpnmaeljaaGreatDoor.Tc
open Go.RowKit

theorem pick_nat {c n : Int} (hn : 1 ≤ n) : ∃ k : Nat, pickZ c n = (k : Int) ∧ (k : Int) < n := by
  unfold pickZ
  have h1 := Int.emod_nonneg (if c < 0 then -(c + 1) else c) (show n ≠ 0 by omega)
  have h2 := Int.emod_lt_of_pos (if c < 0 then -(c + 1) else c) (show 0 < n by omega)
  exact ⟨(pickZ c n).toNat, by unfold pickZ; omega, by unfold pickZ; omega⟩

theorem eqN {a b : Nat} (h : a = b) : ((a : Int) == (b : Int)) = true := by rw [beq_iff_eq]; omega
theorem neN {a b : Nat} (h : a ≠ b) : ((a : Int) == (b : Int)) = false := by rw [beq_eq_false_iff_ne]; omega
theorem bneT {a b : Int} (h : a ≠ b) : (a != b) = true := by rw [bne_iff_ne]; exact h
theorem bneF {a b : Int} (h : a = b) : (a != b) = false := by rw [h]; simp
end Go.Proofs.YtfannkpnmaeljaaGreatDoor.Tc

/- Both implementations' functions as total functions. -/
namespace Go.Proofs.YtfannkpnmaeljaaGreatDoor.Tc
open Go.RowKit

def rtOf (a b : Int) : Option Rt := rtL.find? fun x => decide (a = (x.num : Int)) && decide (b = (x.den : Int))
theorem rtOf_some {a b : Int} {x : Rt} (h : rtOf a b = some x) : x ∈ rtL ∧ a = x.num ∧ b = x.den := by
  unfold rtOf at h
  have h1 := List.mem_of_find?_eq_some h
  have h2 := List.find?_some h
  simp only [Bool.and_eq_true, decide_eq_true_eq] at h2
  exact ⟨h1, h2.1, h2.2⟩
theorem rtOf_none {a b : Int} (h : rtOf a b = none) : NoRate a b := by
  intro x hx hc
  unfold rtOf at h
  rw [List.find?_eq_none] at h
  have := h x hx
  simp only [Bool.and_eq_true, decide_eq_true_eq] at this
  exact this hc
def secF (a b n : Int) : Int := match rtOf a b with | some x => if 0 ≤ n ∧ n ≤ 100000000 then ((n.toNat * x.den / x.num : Nat) : Int) else -1 | none => -1
def frmF (a b n : Int) : Int := match rtOf a b with | some x => if 0 ≤ n ∧ n ≤ 10000000000 then (((n.toNat * x.num + x.den - 1) / x.den : Nat) : Int) else -1 | none => -1
def tckF (a b n : Int) : Int := match rtOf a b with | some x => if 0 ≤ n ∧ n ≤ 100000000 then ((n.toNat * 90000 * x.den / x.num % 8589934592 : Nat) : Int) else -1 | none => -1
def convF (a b n c d : Int) : Int := match rtOf a b with | some x => (match rtOf c d with | some y => if 0 ≤ n ∧ n ≤ 100000000 then ((convertZ x y n.toNat : Nat) : Int) else -1 | none => -1) | none => -1

theorem seconds_t (a b n : Int) (w : World) (hF : FmtAt w) :
    Calls Tryz.prog 33 #[.agg #[iv a, iv b], .int .i64 n] w fun e w' => e = .returned (.int .i64 (secF a b n)) ∧ Below w.heap.size w w' := by
  unfold secF
  cases h : rtOf a b with
  | none => exact seconds_no a b (rtOf_none h) n w hF
  | some x =>
    obtain ⟨hx, rfl, rfl⟩ := rtOf_some h
    by_cases hn : 0 ≤ n ∧ n ≤ 100000000
    · obtain ⟨k, rfl⟩ : ∃ k : Nat, n = (k : Int) := ⟨n.toNat, by omega⟩
      simp only [if_pos hn, Int.toNat_natCast]
      exact seconds_ok x hx k (by omega) w hF
    · simp only [if_neg hn]
      exact seconds_out x hx n hn w hF

theorem frames_t (a b n : Int) (w : World) (hF : FmtAt w) :
    Calls Tryz.prog 27 #[.agg #[iv a, iv b], .int .i64 n] w fun e w' => e = .returned (.int .i64 (frmF a b n)) ∧ Below w.heap.size w w' := by
  unfold frmF
  cases h : rtOf a b with
  | none => exact frames_no a b (rtOf_none h) n w hF
  | some x =>
    obtain ⟨hx, rfl, rfl⟩ := rtOf_some h
    by_cases hn : 0 ≤ n ∧ n ≤ 10000000000
    · obtain ⟨k, rfl⟩ : ∃ k : Nat, n = (k : Int) := ⟨n.toNat, by omega⟩
      simp only [if_pos hn, Int.toNat_natCast]
      exact frames_ok x hx k (by omega) w hF
    · simp only [if_neg hn]
      exact frames_out x hx n hn w hF

theorem valid_t (a b : Int) (w : World) (hF : FmtAt w) :
    Calls Tryz.prog 50 #[.agg #[iv a, iv b]] w fun e w' => e = .returned (.bool (rtOf a b).isSome) ∧ Below w.heap.size w w' := by
  cases h : rtOf a b with
  | none => exact valid_no a b (rtOf_none h) w hF
  | some x =>
    obtain ⟨hx, rfl, rfl⟩ := rtOf_some h
    exact valid_ok x hx w hF

theorem rseconds_t (a b n : Int) (w : World) (hF : FmtAt w) :
    Calls Tryz.prog 44 #[.agg #[iv a, iv b], .int .i64 n] w fun e w' => e = .returned (.int .i64 (secF a b n)) ∧ Below w.heap.size w w' := by
  unfold secF
  cases h : rtOf a b with
  | none => exact rseconds_no a b (rtOf_none h) n w hF
  | some x =>
    obtain ⟨hx, rfl, rfl⟩ := rtOf_some h
    by_cases hn : 0 ≤ n ∧ n ≤ 100000000
    · obtain ⟨k, rfl⟩ : ∃ k : Nat, n = (k : Int) := ⟨n.toNat, by omega⟩
      simp only [if_pos hn, Int.toNat_natCast]
      exact rseconds_ok x hx k (by omega) w hF
    · simp only [if_neg hn]
      exact rseconds_out x hx n hn w hF

theorem rframes_t (a b n : Int) (w : World) (hF : FmtAt w) :
    Calls Tryz.prog 43 #[.agg #[iv a, iv b], .int .i64 n] w fun e w' => e = .returned (.int .i64 (frmF a b n)) ∧ Below w.heap.size w w' := by
  unfold frmF
  cases h : rtOf a b with
  | none => exact rframes_no a b (rtOf_none h) n w hF
  | some x =>
    obtain ⟨hx, rfl, rfl⟩ := rtOf_some h
    by_cases hn : 0 ≤ n ∧ n ≤ 10000000000
    · obtain ⟨k, rfl⟩ : ∃ k : Nat, n = (k : Int) := ⟨n.toNat, by omega⟩
      simp only [if_pos hn, Int.toNat_natCast]
      exact rframes_ok x hx k (by omega) w hF
    · simp only [if_neg hn]
      exact rframes_out x hx n hn w hF

theorem rvalid_t (a b : Int) (w : World) (hF : FmtAt w) :
    Calls Tryz.prog 69 #[.agg #[iv a, iv b]] w fun e w' => e = .returned (.bool (rtOf a b).isSome) ∧ Below w.heap.size w w' := by
  cases h : rtOf a b with
  | none => exact rvalid_no a b (rtOf_none h) w hF
  | some x =>
    obtain ⟨hx, rfl, rfl⟩ := rtOf_some h
    exact rvalid_ok x hx w hF

end Go.Proofs.YtfannkpnmaeljaaGreatDoor.Tc

/- The table of rates, as it is laid. -/
namespace Go.Proofs.YtfannkpnmaeljaaGreatDoor.Tc
open Go.ChangeShapes Go.WideShapes Go.ChangeAt Go.WideMaps Go.WideElems Go.RowKit

theorem own : ownKnob Tryz.prog.godebug = none := by kernel_rfl
theorem laidOut : laidOutB Tryz.prog = true := by kernel_rfl
theorem gFmt : Tryz.prog.globalNamed "onair/timecode.formats" = some 0 := by kernel_rfl
theorem tFmt : (Tryz.prog.globals[0]?).map (·.type) = some 120 := by kernel_rfl

section
variable {H : Type} {enc : TypeId × Value → H} {w : World} {base : Nat} {spare : Nat → Bool} {held : Bool}
theorem laid_int {fuel : Nat} {cs : List Value} {n : Int} {q : List MemPlace} (h : DataW.trod enc Tryz.prog w base spare held fuel 3 cs = some (.lit (.int .i64 n), q)) : cs = [iv n] := by
  obtain ⟨z, e1, e2, _⟩ := DataW.trod_int Tryz.underlying3 h
  have e3 := congrArg Prod.fst e2
  simp at e3
  rw [e1, e3]
set_option maxRecDepth 100000 in
theorem laid_rate {fuel : Nat} {cs : List Value} {a b : Int} {q : List MemPlace} (h : DataW.trod enc Tryz.prog w base spare held fuel 23 cs = some (.agg [.lit (.int .i64 a), .lit (.int .i64 b)], q)) : cs = [iv a, iv b] := by
  obtain ⟨y0, y1, n, hx, hl, h0, h1⟩ := trod_struct2 Tryz.underlying23 h
  simp only [Prod.mk.injEq, DataW.agg.injEq, List.cons.injEq, and_true] at hx
  obtain ⟨⟨e0, e1⟩, -⟩ := hx
  obtain ⟨y0, p0⟩ := y0
  obtain ⟨y1, p1⟩ := y1
  subst e0 e1
  have g0 := laid_int h0
  have g1 := laid_int h1
  have hl2 : cs.length = 2 := hl.trans (by kernel_rfl)
  match cs, hl2 with
  | [c0, c1], _ => 
    have e0 : [c0] = [iv a] := g0
    have e1 : [c1] = [iv b] := g1
    simp only [List.cons.injEq, and_true] at e0 e1
    rw [e0, e1]
set_option maxRecDepth 100000 in
theorem laid_row {fuel : Nat} {cs : List Value} {a b c d : Int} {q : List MemPlace} (h : DataW.trod enc Tryz.prog w base spare held fuel 99 cs = some (.agg [.agg [.lit (.int .i64 a), .lit (.int .i64 b)], .lit (.int .i64 c), .lit (.int .i64 d)], q)) : cs = [iv a, iv b, iv c, iv d] := by
  obtain ⟨xs, n, _, hx, hl, hlen, hf⟩ := DataW.trod_struct Tryz.underlying99 h
  match xs, hlen with
  | [y0, y1, y2], _ =>
    simp only [Prod.mk.injEq, DataW.agg.injEq, List.map_cons, List.map_nil, List.cons.injEq, and_true] at hx
    obtain ⟨⟨e0, e1, e2⟩, -⟩ := hx
    obtain ⟨y0, p0⟩ := y0
    obtain ⟨y1, p1⟩ := y1
    obtain ⟨y2, p2⟩ := y2
    subst e0 e1 e2
    have g0 := laid_rate (hf 0 _ rfl)
    have g1 := laid_int (hf 1 _ rfl)
    have g2 := laid_int (hf 2 _ rfl)
    have hl2 : cs.length = 4 := hl.trans (by kernel_rfl)
    match cs, hl2 with
    | [c0, c1, c2, c3], _ =>
      have e0 : [c0, c1] = [iv a, iv b] := g0
      have e1 : [c2] = [iv c] := g1
      have e2 : [c3] = [iv d] := g2
      simp only [List.cons.injEq, and_true] at e0 e1 e2
      rw [e0.1, e0.2, e1, e2]

theorem fmtV_row {i r : Nat} (hi : i < 8) (hr : r < 4) : fmtV[i * 4 + r]? = (fmtRow (rtAt i))[r]? := by
  match i, hi, r, hr with
  | 0, _, 0, _ => rfl
  | 0, _, 1, _ => rfl
  | 0, _, 2, _ => rfl
  | 0, _, 3, _ => rfl
  | 1, _, 0, _ => rfl
  | 1, _, 1, _ => rfl
  | 1, _, 2, _ => rfl
  | 1, _, 3, _ => rfl
  | 2, _, 0, _ => rfl
  | 2, _, 1, _ => rfl
  | 2, _, 2, _ => rfl
  | 2, _, 3, _ => rfl
  | 3, _, 0, _ => rfl
  | 3, _, 1, _ => rfl
  | 3, _, 2, _ => rfl
  | 3, _, 3, _ => rfl
  | 4, _, 0, _ => rfl
  | 4, _, 1, _ => rfl
  | 4, _, 2, _ => rfl
  | 4, _, 3, _ => rfl
  | 5, _, 0, _ => rfl
  | 5, _, 1, _ => rfl
  | 5, _, 2, _ => rfl
  | 5, _, 3, _ => rfl
  | 6, _, 0, _ => rfl
  | 6, _, 1, _ => rfl
  | 6, _, 2, _ => rfl
  | 6, _, 3, _ => rfl
  | 7, _, 0, _ => rfl
  | 7, _, 1, _ => rfl
  | 7, _, 2, _ => rfl
  | 7, _, 3, _ => rfl

theorem laid_fmt {fuel : Nat} {cs : List Value} {q : List MemPlace} (h : DataW.trod enc Tryz.prog w base spare held fuel 120 cs = some (Rows.laid_onair_timecode_formats, q)) : cs = fmtV := by
  obtain ⟨xs, m, _, hx, hl, hn, hel⟩ := DataW.trod_array Tryz.underlying120 h
  have hc : Tryz.prog.cellsOf 99 = 4 := by kernel_rfl
  have hl2 : cs.length = 32 := hl.trans (by kernel_rfl)
  rw [hc] at hel
  match xs, hn with
  | [x0, x1, x2, x3, x4, x5, x6, x7], _ =>
    unfold Rows.laid_onair_timecode_formats at hx
    simp only [Prod.mk.injEq, DataW.agg.injEq, List.map_cons, List.map_nil, List.cons.injEq, and_true] at hx
    obtain ⟨⟨e0, e1, e2, e3, e4, e5, e6, e7⟩, -⟩ := hx
    obtain ⟨x0, p0⟩ := x0
    obtain ⟨x1, p1⟩ := x1
    obtain ⟨x2, p2⟩ := x2
    obtain ⟨x3, p3⟩ := x3
    obtain ⟨x4, p4⟩ := x4
    obtain ⟨x5, p5⟩ := x5
    obtain ⟨x6, p6⟩ := x6
    obtain ⟨x7, p7⟩ := x7
    subst e0 e1 e2 e3 e4 e5 e6 e7
    have hrow : ∀ i, i < 8 → (cs.drop (i * 4)).take 4 = fmtRow (rtAt i) := by
      intro i hi
      match i, hi with
      | 0, _ => exact laid_row (hel 0 (by decide))
      | 1, _ => exact laid_row (hel 1 (by decide))
      | 2, _ => exact laid_row (hel 2 (by decide))
      | 3, _ => exact laid_row (hel 3 (by decide))
      | 4, _ => exact laid_row (hel 4 (by decide))
      | 5, _ => exact laid_row (hel 5 (by decide))
      | 6, _ => exact laid_row (hel 6 (by decide))
      | 7, _ => exact laid_row (hel 7 (by decide))
    refine List.ext_getElem? fun n => ?_
    by_cases h32 : n < 32
    · have h1 := congrArg (fun l => l[n % 4]?) (hrow (n / 4) (by omega))
      simp only [List.getElem?_take, List.getElem?_drop] at h1
      rw [if_pos (by omega), show n / 4 * 4 + n % 4 = n by omega, ← fmtV_row (by omega) (by omega), show n / 4 * 4 + n % 4 = n by omega] at h1
      exact h1
    · rw [List.getElem?_eq_none (by omega), List.getElem?_eq_none (by show 32 ≤ n; omega)]
end

def laidFmt : List (String × DataW Unit) := [("onair/timecode.formats", Rows.laid_onair_timecode_formats)]

theorem fmt_of_laid {W : World} (h : laidMetH Tryz.prog laidFmt W) : FmtAt W := by
  rw [MakeChecks.laidMetH_plain _ _ _ (by kernel_rfl)] at h
  obtain ⟨ps, ⟨g0, t0, cs0, f0, p0, q0, hg0, ht0, hv0, hd0, _, _⟩, _, _⟩ := h
  obtain rfl := Option.some.inj (gFmt.symm.trans hg0)
  obtain rfl := Option.some.inj (tFmt.symm.trans ht0)
  have hcs := laid_fmt hd0
  have hcs2 : cs0 = fmtV.toArray := by rw [← hcs]
  simp only [World.var?, hg0, Option.bind_some] at hv0
  cases hh : W.heap[0]? with
  | none => rw [hh] at hv0; simp at hv0
  | some o =>
    rw [hh] at hv0
    cases o with
    | cells cs t fr =>
      simp at hv0
      exact ⟨t, fr, by rw [hh, hv0, hcs2]⟩
    | _ => simp at hv0

theorem door_met (os : Os) (args : Array Value) : laidMetH Tryz.prog laidFmt ((World.doorLaid Tryz.prog 400 os).forCall (fun _ _ => 0) ⟨#[], args, []⟩).memory :=
  laidMetH_of_parts3 (fuel := 8) (laidMet_of_run' 8 (by kernel_rfl) (by kernel_rfl)) (by kernel_rfl) (by kernel_rfl)
end Go.Proofs.YtfannkpnmaeljaaGreatDoor.Tc

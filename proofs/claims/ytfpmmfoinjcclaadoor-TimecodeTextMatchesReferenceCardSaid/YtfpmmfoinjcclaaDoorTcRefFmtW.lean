/- The reference implementation's Format: the walk. -/
import Derived.Test.YtfpmmfoinjcclaaDoorTcRefFmt
namespace Go.Proofs.YtfpmmfoinjcclaaDoor
open Go.RowKit

theorem fmt_text {x : Rt} (h : x ∈ rtL) (n m at_ : Nat) (hm : m = countZ x n / x.minute) (ha : m * x.minute + at_ = countZ x n) (hat : at_ < x.minute) :
    txtL (if 0 < x.drop then 59 else 58) (m / 60) (m % 60) (at_ / x.base) (at_ % x.base) = fmtL x n ∧ at_ / x.base < 60 ∧ at_ % x.base < 60 := by
  have h1 : m / 60 = countZ x n / x.base / 3600 ∧ m % 60 = countZ x n / x.base / 60 % 60 ∧ at_ / x.base = countZ x n / x.base % 60 ∧ at_ % x.base = countZ x n % x.base ∧ at_ / x.base < 60 ∧ at_ % x.base < 60 := by
    generalize countZ x n = c at *
    rcases rt_cases h with rfl | rfl | rfl | rfl | rfl | rfl | rfl | rfl <;> simp only [Rt.minute, Nat.reduceMul] at * <;> omega
  obtain ⟨a1, a2, a3, a4, a5, a6⟩ := h1
  refine ⟨?_, a5, a6⟩
  rw [a1, a2, a3, a4]
  rfl

set_option maxRecDepth 100000 in
set_option maxHeartbeats 4000000 in
theorem rformat_ok (x : Rt) (hx : x ∈ rtL) (n : Nat) (hn : n ≤ 100000000) (w : World) :
    Calls Tryd.prog 26 #[x.val, .int .i64 (n : Int)] w fun e w' => e = .returned (.tuple #[.string (strN (fmtL x (n % x.day))), .int .i64 0]) ∧ Below w.heap.size w w' := by
  have hfind := fun W => rfind_ok x hx W
  obtain ⟨-, -, -, -, x5, x6, x7⟩ := rt_bd hx
  obtain ⟨y1, y2⟩ := day_pos hx
  have hD : x.day + 1296 * x.drop = 86400 * x.base := by unfold Rt.day; omega
  have hday := fun W => refDay_any x.num x.den x.base x.drop x.day W x6 (by omega) x7 hD
  have hid := Nat.mod_lt n y1
  obtain ⟨m1, m2, m3⟩ := fmt_minute hx hid
  have htx := fun m at_ => fmt_text hx (n % x.day) m at_
  have hmod : ((n : Int)).tmod (x.day : Int) = ((n % x.day : Nat) : Int) := by rw [Int.tmod_eq_emod_of_nonneg (by omega), ← Int.natCast_emod]
  have hmod2 : ((n : Int)) % (x.day : Int) = ((n % x.day : Nat) : Int) := by rw [← Int.natCast_emod]
  have hds := dropped_succ x
  have hd0 := dropped_zero x
  have hsk : ∀ m, skipZ x m = (if m % 10 = 0 then 0 else x.drop) := fun _ => rfl
  have hmin : x.minute = 60 * x.base := rfl
  unfold Rt.val Rt.row at *
  obtain ⟨F, hF⟩ : ∃ F, fmtL x (n % x.day) = F := ⟨_, rfl⟩
  rw [hF] at htx ⊢
  generalize countZ x (n % x.day) = C at *
  generalize droppedZ x = dz at *
  generalize skipZ x = sk at *
  generalize x.minute = M at *
  generalize n % x.day = idx at *
  generalize x.day = D at *
  generalize x.num = a at *
  generalize x.den = b at *
  generalize x.base = c at *
  generalize x.drop = d at *
  clear hF hx x
  obtain ⟨K, hK⟩ : ∃ K, C / M = K := ⟨_, rfl⟩
  rw [hK] at m1 m2 m3
  have hKC : K * M ≤ C ∧ C < K * M + M := by
    have h1 := Nat.div_mul_le_self C M
    have h2 := Nat.lt_div_mul_add (a := C) (b := M) (by omega)
    rw [hK] at h1 h2
    exact ⟨h1, h2⟩
  have D0 : ¬ D = 0 := by omega
  have D1 : ((D : Int) == 0) = false := by rw [beq_eq_false_iff_ne]; omega
  have c0 : ¬ c = 0 := by omega
  have c1 : ((c : Int) == 0) = false := by rw [beq_eq_false_iff_ne]; omega
  have w1 : IntKind.i64.wrap (idx : Int) = (idx : Int) := w64 (by omega) (by omega)
  have hnn : (n : Int) ≤ 100000000 := by omega
  have hcc : (c : Int) ≤ 60 := by omega
  have hdr := fun m W h => rdropped_any a b c d m W h
  have HTX := Lib.hid htx
  have HM2 := Lib.hid m2
  clear htx m2
  go_enter Tryd.func26, Tryd.ntmps26
  go_wp2_with fail
  obtain ⟨W0, hW0, hb0, hsz, k0, k1⟩ := box2 w a b
  rw [hW0]; clear hW0
  refine Calls.mono (hfind _) ?_; rintro e W1 ⟨rfl, b1⟩
  have hb1 := bthen hb0 b1
  clear k0 k1 b1 hsz
  go_wp2_with (go_at_call 34; refine Calls.mono (risFrame_any _ _) ?_; rintro e w1 ⟨rfl, rfl⟩)
  obtain ⟨W2, hW2, hb2, hsz2, k0, k1, k2, k3⟩ := box4r W1 a b c d
  change Calls _ _ _ (W1.alloc (.cells #[iv a, iv b, iv c, iv d] 39)) _
  rw [hW2]; clear hW2
  obtain ⟨T6, hT6⟩ : ∃ T6, W1.heap.size = T6 := ⟨_, rfl⟩
  rw [hT6] at k0 k1 k2 k3 hsz2 ⊢
  have hb02 := bthen hb1 hb2
  refine Calls.mono (hday _) ?_; rintro e W3 ⟨rfl, b3⟩
  obtain ⟨l0, l1, l2, l3⟩ := keep4' k0 k1 k2 k3 b3 (by omega)
  clear k0 k1 k2 k3
  have hb3 := bthen hb02 b3
  have hT3 : T6 < W3.heap.size := by have := b3.size; omega
  clear hday hfind b3 hb02 hb2 hT6 hsz2
  go_wp2_with fail
  have hMl : M ≤ 3600 := by omega
  have h60 : (60 : Int) * (c : Int) = (M : Int) := by omega
  have w60 : IntKind.i64.wrap (60 * (c : Int)) = (M : Int) := by rw [w64 (by omega) (by omega)]; exact h60
  have HM := Lib.hid hmin
  clear D0 D1 hmod hmod2 y1 hD h60
  go_loopw [8, 9] (fun nv mv wr => ∃ k nn : Nat, mv = .int .i64 k ∧ nv = .int .i64 nn ∧ k ≤ K ∧ nn ≤ 6000000 ∧ nn + k * M = idx + dz k ∧ Below W3.heap.size W3 wr) (fun _ j _ => 1440 - (intOf j).toNat)
  case atStart => exact ⟨0, idx, rfl, rfl, by omega, by omega, by omega, Below.refl _ _⟩
  case round =>
    obtain ⟨k, nn, rfl, rfl, hk, hnl, hkn, hB⟩ := hrel
    obtain ⟨k0, k1, k2, k3⟩ := keep4' l0 l1 l2 l3 hB (by omega)
    have hbr := bthen hb3 hB
    have hk14 : (k : Int) < 1440 := by omega
    have hds' := hds k
    have hdrk := fun W => hdr k W (by omega)
    rw [← hsk k] at hdrk
    have hsd : sk k ≤ 4 := by rw [hsk]; split <;> omega
    obtain ⟨s, hs⟩ : ∃ s, sk k = s := ⟨_, rfl⟩
    rw [hs] at hdrk hds' hsd
    obtain ⟨L, hL⟩ : ∃ L, M - s = L := ⟨_, rfl⟩
    have hL1 : (M : Int) - (s : Int) = (L : Int) := by omega
    have wL : IntKind.i64.wrap ((M : Int) - (s : Int)) = (L : Int) := by rw [w64 (by omega) (by omega)]; omega
    have hsz3 := hB.size
    by_cases hkK : k < K
    · have h2 := HM2.out k hkK
      rw [hds', Nat.succ_mul] at h2
      have hge : L ≤ nn := by omega
      have f1 : decide ((nn : Int) < 60 * (c : Int) - (s : Int)) = false := decide_eq_false (by omega)
      have f2 : decide (nn < L) = false := decide_eq_false (by omega)
      obtain ⟨n2, hn2⟩ : ∃ n2, nn - L = n2 := ⟨_, rfl⟩
      have wn : IntKind.i64.wrap ((nn : Int) - (L : Int)) = (n2 : Int) := by rw [w64 (by omega) (by omega)]; omega
      have hnext : n2 + (k + 1) * M = idx + dz (k + 1) := by rw [hds', Nat.succ_mul]; omega
      have HN := Lib.hid hnext
      clear hnext h2 hkn hds' hds hL1
      go_wp2_with fail
      refine Calls.mono (hdrk _) ?_; rintro e W4 ⟨rfl, b4⟩
      obtain ⟨k0, k1, k2, k3⟩ := keep4' k0 k1 k2 k3 b4 (by omega)
      go_wp2_with fail
      go_roundw
      case rel => exact ⟨k + 1, n2, by go_num, by rw [show (nn : Int) - (60 * (c : Int) - (s : Int)) = (n2 : Int) by have := HM.out; omega], by omega, by omega, HN.out, bthen hB b4⟩
      case measure => simp [intOf]; omega
    · obtain rfl : k = K := by omega
      obtain ⟨A, hA⟩ : ∃ A, nn + s = A := ⟨_, rfl⟩
      have hAC : k * M + A = C := by omega
      have hAM : A < M := by omega
      have f1 : decide ((nn : Int) < 60 * (c : Int) - (s : Int)) = true := decide_eq_true (by omega)
      have f2 : decide (nn < L) = true := decide_eq_true (by omega)
      have wA : IntKind.i64.wrap ((nn : Int) + (s : Int)) = (A : Int) := by rw [w64 (by omega) (by omega)]; omega
      obtain ⟨t1, t2, t3⟩ := HTX.out k A hK.symm hAC hAM
      obtain ⟨q, hq⟩ : ∃ q, A / c = q := ⟨_, rfl⟩
      obtain ⟨r, hr⟩ : ∃ r, A % c = r := ⟨_, rfl⟩
      have e1 := quo_nat hq
      have e2 := tquo_nat hq
      have e3 : (A : Int) % (c : Int) = (r : Int) := by rw [← Int.natCast_emod, hr]
      have e4 : (A : Int).tmod (c : Int) = (r : Int) := by rw [Int.tmod_eq_emod_of_nonneg (by omega)]; exact e3
      have hAs : (nn : Int) + (s : Int) = (A : Int) := by omega
      have e5 : ((nn : Int) + (s : Int)).tdiv (c : Int) = (q : Int) := by rw [hAs]; exact e2
      have e6 : ((nn : Int) + (s : Int)) / (c : Int) = (q : Int) := by rw [hAs]; exact e1
      have e7 : ((nn : Int) + (s : Int)).tmod (c : Int) = (r : Int) := by rw [hAs]; exact e4
      have e8 : ((nn : Int) + (s : Int)) % (c : Int) = (r : Int) := by rw [hAs]; exact e3
      clear hAs
      rw [hq] at t1 t2
      rw [hr] at t1 t3
      have hTx := fun W => rtext_any a b c d k q r W x7 (by omega) (by omega) (by omega)
      rw [t1] at hTx
      have w2 : IntKind.i64.wrap (q : Int) = (q : Int) := w64 (by omega) (by omega)
      have w3 : IntKind.i64.wrap (r : Int) = (r : Int) := w64 (by omega) (by omega)
      obtain ⟨sF, hsF⟩ : ∃ sF, strN F = sF := ⟨_, rfl⟩
      rw [hsF] at hTx
      have HSF := Lib.hid hsF
      clear hsF t1 hq hr hkn hds' hds hL1 hKC hA
      go_wp2_with fail
      refine Calls.mono (hdrk _) ?_; rintro e W4 ⟨rfl, b4⟩
      obtain ⟨k0, k1, k2, k3⟩ := keep4' k0 k1 k2 k3 b4 (by omega)
      have hb4 := bthen hbr b4
      go_wp2_with fail
      have hT4 : T6 < W4.heap.size := by have := b4.size; omega
      have hS4 : W4.drew.cell? ⟨T6, 0, none⟩ = some (iv a) ∧ W4.drew.cell? ⟨T6, 1, none⟩ = some (iv b) ∧ W4.drew.cell? ⟨T6, 2, none⟩ = some (iv c) ∧ W4.drew.cell? ⟨T6, 3, none⟩ = some (iv d) ∧ Below W4.heap.size W4 W4.drew := ⟨k0, k1, k2, k3, (Below.refl _ W4).drew⟩
      clear e5 e6 e7 e8
      go_region_held3 (fun w' => w'.cell? ⟨T6, 0, none⟩ = some (iv a) ∧ w'.cell? ⟨T6, 1, none⟩ = some (iv b) ∧ w'.cell? ⟨T6, 2, none⟩ = some (iv c) ∧ w'.cell? ⟨T6, 3, none⟩ = some (iv d) ∧ Below W4.heap.size W4 w') (first | assumption | exact hS4 | exact held4 hT4 (by assumption) b5 | fail)
        (first | (go_at_call 44; with_reducible refine Calls.mono (hTx _) ?_; rintro e W5 ⟨rfl, b5⟩) | fail)
      have hS5 := (show W5.cell? ⟨T6, 0, none⟩ = some (iv a) ∧ W5.cell? ⟨T6, 1, none⟩ = some (iv b) ∧ W5.cell? ⟨T6, 2, none⟩ = some (iv c) ∧ W5.cell? ⟨T6, 3, none⟩ = some (iv d) ∧ Below W4.heap.size W4 W5 by assumption)
      have hb5 := bthen hb4 hS5.2.2.2.2
      go_wp2
      go_ret2
      exact ⟨by rw [HSF.out]; rfl, hb5⟩

set_option maxHeartbeats 1000000 in
theorem rformat_no (a b : Int) (hx : NoRate a b) (n : Int) (w : World) :
    Calls Tryd.prog 26 #[.agg #[iv a, iv b], .int .i64 n] w fun e w' => e = .returned (.tuple #[.string ⟨#[]⟩, .int .i64 30]) ∧ Below w.heap.size w w' := by
  have hf := fun W => rfind_no a b W hx
  go_enter Tryd.func26, Tryd.ntmps26
  go_wp2_with fail
  obtain ⟨W0, hW0, hb0, hsz, k0, k1⟩ := box2 w a b
  rw [hW0]; clear hW0
  refine Calls.mono (hf _) ?_; rintro e W1 ⟨rfl, b1⟩
  have hb1 := bthen hb0 b1
  go_wp2
  go_ret2
  exact ⟨rfl, hb1.alloc hb1.size _⟩

set_option maxHeartbeats 1000000 in
theorem rformat_out (x : Rt) (hx : x ∈ rtL) (n : Int) (hn : ¬ (0 ≤ n ∧ n ≤ 100000000)) (w : World) :
    Calls Tryd.prog 26 #[x.val, .int .i64 n] w fun e w' => e = .returned (.tuple #[.string ⟨#[]⟩, .int .i64 30]) ∧ Below w.heap.size w w' := by
  have hf := fun W => rfind_ok x hx W
  have hd : decide (0 ≤ n ∧ n ≤ 100000000) = false := decide_eq_false hn
  have hF := fun W => by have h := risFrame_any n W; rw [hd] at h; exact h
  unfold Rt.val Rt.row at *
  clear hx hn hd
  generalize x.num = a at *
  generalize x.den = b at *
  generalize x.base = c at *
  generalize x.drop = d at *
  clear x
  go_enter Tryd.func26, Tryd.ntmps26
  go_wp2_with fail
  obtain ⟨W0, hW0, hb0, hsz, k0, k1⟩ := box2 w a b
  rw [hW0]; clear hW0
  refine Calls.mono (hf _) ?_; rintro e W1 ⟨rfl, b1⟩
  have hb1 := bthen hb0 b1
  go_wp2_with (go_at_call 34; refine Calls.mono (hF _) ?_; rintro e w1 ⟨rfl, rfl⟩)
  go_ret2
  exact ⟨rfl, hb1.alloc hb1.size _⟩
end Go.Proofs.YtfpmmfoinjcclaaDoor

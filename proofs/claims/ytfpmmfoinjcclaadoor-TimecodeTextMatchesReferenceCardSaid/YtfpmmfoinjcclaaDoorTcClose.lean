/- TimecodeClose -/
import Derived.Test.YtfpmmfoinjcclaaDoorTcRound
namespace Go.Proofs.YtfpmmfoinjcclaaDoor
open Go.RowKit

theorem close_math {x : Rt} (h : x ∈ rtL) {n : Nat} (hn : n < x.day) : x.num = 24000 ∨ (countZ x n / x.base ≤ n * x.den / x.num + 1 ∧ n * x.den / x.num ≤ countZ x n / x.base + 1) := by
  unfold countZ
  obtain ⟨k, hk⟩ : ∃ k, startedZ x n = k := ⟨_, rfl⟩
  rw [hk]
  unfold startedZ at hk
  by_cases hlt : n % x.ten < x.minute
  · rw [if_pos hlt] at hk
    rcases rt_cases h with rfl | rfl | rfl | rfl | rfl | rfl | rfl | rfl <;> simp only [droppedZ, Rt.ten, Rt.minute, Rt.day, Nat.reduceMul, Nat.reduceSub, Nat.zero_mul, Nat.add_zero] at * <;> first | omega | exact .inl trivial
  · rw [if_neg hlt] at hk
    rcases rt_cases h with rfl | rfl | rfl | rfl | rfl | rfl | rfl | rfl <;> simp only [droppedZ, Rt.ten, Rt.minute, Rt.day, Nat.reduceMul, Nat.reduceSub, Nat.zero_mul, Nat.add_zero] at * <;> first | omega | exact .inl trivial

/-- The digits of a timecode, byte for byte. -/
theorem fmt_bytes {x : Rt} (hx : x ∈ rtL) {n : Nat} (hn : n < x.day) : ∃ (h m u : Nat), h < 24 ∧ m < 60 ∧ u < 60 ∧ countZ x n / x.base = 3600 * h + 60 * m + u ∧ (strN (fmtL x n)).size = 11 ∧
    ((nb (strN (fmtL x n))).getD 0 0 = 48 + h / 10 ∧ (nb (strN (fmtL x n))).getD 1 0 = 48 + h % 10) ∧ ((nb (strN (fmtL x n))).getD 3 0 = 48 + m / 10 ∧ (nb (strN (fmtL x n))).getD 4 0 = 48 + m % 10) ∧ ((nb (strN (fmtL x n))).getD 6 0 = 48 + u / 10 ∧ (nb (strN (fmtL x n))).getD 7 0 = 48 + u % 10) := by
  obtain ⟨c1, c2, c3, c4⟩ := count_in hx hn
  obtain ⟨-, -, -, -, b5, b6, b7⟩ := rt_bd hx
  have hh : countZ x n / x.base < 86400 := by rw [Nat.div_lt_iff_lt_mul (by omega)]; exact c1
  refine ⟨countZ x n / x.base / 3600, countZ x n / x.base / 60 % 60, countZ x n / x.base % 60, by omega, by omega, by omega, by omega, by rw [strN_size (fmtL_lt hx hn)]; exact fmt_len x n, ?_⟩
  rw [nb_strN (fmtL_lt hx hn)]
  exact ⟨⟨rfl, rfl⟩, ⟨rfl, rfl⟩, ⟨rfl, rfl⟩⟩

theorem box3 (w : World) (a b c : Int) : ∃ W0, w.alloc (.cells #[iv a, iv b, iv c] 3) = W0 ∧ Below w.heap.size w W0 ∧ W0.heap.size = w.heap.size + 1 ∧
    W0.cell? ⟨w.heap.size, 0, none⟩ = some (iv a) ∧ W0.cell? ⟨w.heap.size, 1, none⟩ = some (iv b) ∧ W0.cell? ⟨w.heap.size, 2, none⟩ = some (iv c) :=
  have k := Arr.new w 3 [iv a, iv b, iv c]
  ⟨_, rfl, (Below.refl _ _).alloc (Nat.le_refl _) _, by simp, k.cell rfl, k.cell rfl, k.cell rfl⟩
/-- What the loop has summed. -/
def Tv (h m u : Nat) : Nat → Nat
  | 0 => 0
  | 1 => h
  | 2 => 60 * h + m
  | _ => 3600 * h + 60 * m + u

set_option maxRecDepth 100000 in
set_option maxHeartbeats 2000000 in
theorem close_law (c n : Int) (w : World) (c1 : -9223372036854775808 ≤ c) (c2 : c ≤ 9223372036854775807) (n1 : -9223372036854775808 ≤ n) (n2 : n ≤ 9223372036854775807) (hF : FmtAt w) :
    Calls Tryd.prog 9 #[.int .i64 c, .int .i64 n] w fun e w' => e = .returned (.bool true) ∧ Below w.heap.size w w' := by
  have HF := fun W (hb : Below w.heap.size w W) => hF.below hb
  obtain ⟨i, x, hi8, hxi, hx, hpi, -⟩ := law_rate c c1 c2
  have hpk8 := fun W => pick_any c 8 W c1 c2 (by decide) (by decide)
  rw [hpi] at hpk8
  obtain ⟨-, -, -, -, x5, x6, x7⟩ := rt_bd hx
  obtain ⟨y1, y2⟩ := day_pos hx
  have hD : x.day + 1296 * x.drop = 86400 * x.base := by unfold Rt.day; omega
  obtain ⟨k, hk, hpk⟩ := law_pick n x.day n1 n2 (by omega) (by omega)
  have hday := fun W => refDay_any x.num x.den x.base x.drop x.day W x6 (by omega) x7 hD
  have hkD : k < x.day := by omega
  have hF1 := fun W (hb : Below w.heap.size w W) => format_ok x hx k (by omega) W (HF W hb)
  rw [Nat.mod_eq_of_lt hkD] at hF1
  have hS1 := fun W (hb : Below w.heap.size w W) => seconds_ok x hx k (by omega) W (HF W hb)
  obtain ⟨h, m, u, h24, m60, u60, hq, hsz11, ⟨t0, t1⟩, ⟨t3, t4⟩, ⟨t6, t7⟩⟩ := fmt_bytes hx hkD
  have hcl := close_math hx hkD
  have hrow := fun W B (h : TabAt W B) => h.row hi8
  rw [← hxi] at hrow
  have hab : x.num = 24000 ∨ x.num ≠ 24000 := by omega
  obtain ⟨t, ht⟩ : ∃ t, strN (fmtL x k) = t := ⟨_, rfl⟩
  rw [ht] at hF1 hsz11 t0 t1 t3 t4 t6 t7
  rw [hq] at hcl
  obtain ⟨z, hz⟩ : ∃ z, k * x.den / x.num = z := ⟨_, rfl⟩
  rw [hz] at hS1 hcl
  have hzb : z ≤ 10010000000 := by
    rw [← hz]
    have h1 : k * x.den ≤ 10000000 * 1001 := prod_le (by omega) (rt_bd hx).2.2.2.1
    exact Nat.le_trans (Nat.div_le_self _ _) (by omega)
  unfold Rt.val at *
  clear hx ht hq hz hkD hxi hpi hD y1 hF
  generalize x.day = D at *
  generalize x.num = a at *
  generalize x.den = b at *
  generalize x.base = bb at *
  generalize x.drop = dd at *
  clear x
  go_enter Tryd.func9, Tryd.ntmps9
  go_wp2_with fail
  refine Calls.mono (sane_any _ (HF _ (Below.refl _ _))) ?_; rintro e w1 ⟨rfl, g1⟩
  go_wp2_with fail
  refine Calls.mono (table_any _) ?_; rintro e w2 ⟨rfl, g2, hT, hsz2⟩
  have hb2 := bthen g1 g2
  obtain ⟨r0, r1, r2, r3⟩ := hrow _ _ hT
  have i1 : (0 : Int) ≤ (i : Int) := by omega
  have i2 : (i : Int) < 8 := by omega
  go_wp2_with (first | (go_at_call 14; with_reducible refine Calls.mono (hpk8 _) ?_; rintro e w3 ⟨rfl, rfl⟩) | fail)
  obtain ⟨w3, hW3, hb3, hsz3, l0, l1, l2, l3⟩ := box4r w2 a b bb dd
  rw [hW3]; clear hW3
  have hb3' := bthen hb2 hb3
  rw [hsz2] at l0 l1 l2 l3 hsz3
  clear hsz2
  obtain ⟨U, hU⟩ : ∃ U, w1.heap.size + 1 = U := ⟨_, rfl⟩
  rw [hU] at l0 l1 l2 l3 hsz3 ⊢
  clear hU r0 r1 r2 r3 hT
  refine Calls.mono (hday _) ?_; rintro e w4 ⟨rfl, g4⟩
  have hb4 := bthen hb3' g4
  obtain ⟨l0, l1, l2, l3⟩ := keep4' l0 l1 l2 l3 g4 (by omega)
  have hsz4 : U < w4.heap.size := by have := g4.size; omega
  go_wp2_with (first | (go_at_call 14; with_reducible refine Calls.mono (hpk _) ?_; rintro e w3 ⟨rfl, rfl⟩) | fail)
  refine Calls.mono (hF1 _ hb4) ?_; rintro e w5 ⟨rfl, g5⟩
  have hb5 := bthen hb4 g5
  obtain ⟨l0, l1, l2, l3⟩ := keep4' l0 l1 l2 l3 g5 (by omega)
  have hsz5 : U < w5.heap.size := by have := g5.size; omega
  go_wp2_with fail
  obtain ⟨w6, hW6, hb6, hsz6, v0, v1, v2⟩ := box3 w5 0 3 6
  obtain ⟨l0, l1, l2, l3⟩ := keep4' l0 l1 l2 l3 hb6 (by omega)
  have hb6' := bthen hb5 hb6
  rw [hW6]; clear hW6
  obtain ⟨V, hV⟩ : ∃ V, w5.heap.size = V := ⟨_, rfl⟩
  rw [hV] at v0 v1 v2 hsz6 hsz5 ⊢
  clear hV
  have z0 : 0 < t.size := by omega
  have z1 : 1 < t.size := by omega
  have z3 : 3 < t.size := by omega
  have z4 : 4 < t.size := by omega
  have z6 : 6 < t.size := by omega
  have z7 : 7 < t.size := by omega
  go_loopw [9, 39] (fun tv j wr => ∃ kk : Nat, kk ≤ 3 ∧ j = .int .i64 kk ∧ tv = .int .i64 (Tv h m u kk : Nat) ∧ Below w6.heap.size w6 wr) (fun _ j _ => 3 - (intOf j).toNat)
  case atStart => exact ⟨0, by omega, rfl, rfl, Below.refl _ _⟩
  case round =>
    obtain ⟨kk, hkk, rfl, rfl, hB⟩ := hrel
    obtain ⟨l0, l1, l2, l3⟩ := keep4' l0 l1 l2 l3 hB (by omega)
    have v0 := (hB.cell (p := ⟨V, 0, none⟩) (by simp; omega)).trans v0
    have v1 := (hB.cell (p := ⟨V, 1, none⟩) (by simp; omega)).trans v1
    have v2 := (hB.cell (p := ⟨V, 2, none⟩) (by simp; omega)).trans v2
    have hbr := bthen hb6' hB
    rcases (by omega : kk = 0 ∨ kk = 1 ∨ kk = 2 ∨ kk = 3) with rfl | rfl | rfl | rfl
    · obtain ⟨T0, hT0⟩ : ∃ T0 : Nat, Tv h m u 0 = T0 := ⟨_, rfl⟩
      obtain ⟨T1, hT1⟩ : ∃ T1 : Nat, Tv h m u (0 + 1) = T1 := ⟨_, rfl⟩
      have hT01 : T1 = T0 * 60 + h / 10 * 10 + h % 10 ∧ T0 ≤ 1440 := by rw [← hT0, ← hT1]; unfold Tv; simp only; omega
      rw [hT0]
      have HT1 := Lib.hid hT1
      obtain ⟨q, hq⟩ : ∃ q, h / 10 = q := ⟨_, rfl⟩
      obtain ⟨r, hr⟩ : ∃ r, h % 10 = r := ⟨_, rfl⟩
      rw [hq, hr] at hT01
      have p0 := byte_at z0
      have p1 := byte_at z1
      rw [t0, hq] at p0
      rw [t1, hr] at p1
      have q9 : q ≤ 9 := by omega
      have r9 : r ≤ 9 := by omega
      have T14 := hT01.2
      obtain ⟨X, hX⟩ : ∃ X, 48 + q = X := ⟨_, rfl⟩
      obtain ⟨Y, hY⟩ : ∃ Y, 48 + r = Y := ⟨_, rfl⟩
      rw [hX] at p0
      rw [hY] at p1
      have e1 : IntKind.u8.wrap ((X : Int) - 48) = (q : Int) := by rw [IntKind.wrap_u8]; omega
      have e2 : IntKind.u8.wrap ((Y : Int) - 48) = (r : Int) := by rw [IntKind.wrap_u8]; omega
      have e3 : IntKind.i64.wrap ((T0 : Int) * 60) = (T0 : Int) * 60 := w64 (by omega) (by omega)
      have e4 : IntKind.i64.wrap ((q : Int) * 10) = (q : Int) * 10 := w64 (by omega) (by omega)
      have e5 : IntKind.i64.wrap ((T0 : Int) * 60 + (q : Int) * 10) = (T0 : Int) * 60 + (q : Int) * 10 := w64 (by omega) (by omega)
      have e6 : IntKind.i64.wrap ((T0 : Int) * 60 + (q : Int) * 10 + (r : Int)) = (T1 : Int) := by rw [w64 (by omega) (by omega)]; omega
      have e7 : IntKind.i64.wrap (q : Int) = (q : Int) := w64 (by omega) (by omega)
      have e8 : IntKind.i64.wrap (r : Int) = (r : Int) := w64 (by omega) (by omega)
      clear hT01 hq hr hX hY hT0 hT1 t0 t1 t3 t4 t6 t7 hcl hab
      go_wp2_with fail
      go_quiet (fail)
      go_wp2
      go_roundw
      case rel => exact ⟨0 + 1, by omega, by go_num, by rw [HT1.out], below_drewN hB _⟩
      case measure => simp [intOf]
    · obtain ⟨T0, hT0⟩ : ∃ T0 : Nat, Tv h m u 1 = T0 := ⟨_, rfl⟩
      obtain ⟨T1, hT1⟩ : ∃ T1 : Nat, Tv h m u (1 + 1) = T1 := ⟨_, rfl⟩
      have hT01 : T1 = T0 * 60 + m / 10 * 10 + m % 10 ∧ T0 ≤ 1440 := by rw [← hT0, ← hT1]; unfold Tv; simp only; omega
      rw [hT0]
      have HT1 := Lib.hid hT1
      obtain ⟨q, hq⟩ : ∃ q, m / 10 = q := ⟨_, rfl⟩
      obtain ⟨r, hr⟩ : ∃ r, m % 10 = r := ⟨_, rfl⟩
      rw [hq, hr] at hT01
      have p0 := byte_at z3
      have p1 := byte_at z4
      rw [t3, hq] at p0
      rw [t4, hr] at p1
      have q9 : q ≤ 9 := by omega
      have r9 : r ≤ 9 := by omega
      have T14 := hT01.2
      obtain ⟨X, hX⟩ : ∃ X, 48 + q = X := ⟨_, rfl⟩
      obtain ⟨Y, hY⟩ : ∃ Y, 48 + r = Y := ⟨_, rfl⟩
      rw [hX] at p0
      rw [hY] at p1
      have e1 : IntKind.u8.wrap ((X : Int) - 48) = (q : Int) := by rw [IntKind.wrap_u8]; omega
      have e2 : IntKind.u8.wrap ((Y : Int) - 48) = (r : Int) := by rw [IntKind.wrap_u8]; omega
      have e3 : IntKind.i64.wrap ((T0 : Int) * 60) = (T0 : Int) * 60 := w64 (by omega) (by omega)
      have e4 : IntKind.i64.wrap ((q : Int) * 10) = (q : Int) * 10 := w64 (by omega) (by omega)
      have e5 : IntKind.i64.wrap ((T0 : Int) * 60 + (q : Int) * 10) = (T0 : Int) * 60 + (q : Int) * 10 := w64 (by omega) (by omega)
      have e6 : IntKind.i64.wrap ((T0 : Int) * 60 + (q : Int) * 10 + (r : Int)) = (T1 : Int) := by rw [w64 (by omega) (by omega)]; omega
      have e7 : IntKind.i64.wrap (q : Int) = (q : Int) := w64 (by omega) (by omega)
      have e8 : IntKind.i64.wrap (r : Int) = (r : Int) := w64 (by omega) (by omega)
      clear hT01 hq hr hX hY hT0 hT1 t0 t1 t3 t4 t6 t7 hcl hab
      go_wp2_with fail
      go_quiet (fail)
      go_wp2
      go_roundw
      case rel => exact ⟨1 + 1, by omega, by go_num, by rw [HT1.out], below_drewN hB _⟩
      case measure => simp [intOf]
    · obtain ⟨T0, hT0⟩ : ∃ T0 : Nat, Tv h m u 2 = T0 := ⟨_, rfl⟩
      obtain ⟨T1, hT1⟩ : ∃ T1 : Nat, Tv h m u (2 + 1) = T1 := ⟨_, rfl⟩
      have hT01 : T1 = T0 * 60 + u / 10 * 10 + u % 10 ∧ T0 ≤ 1440 := by rw [← hT0, ← hT1]; unfold Tv; simp only; omega
      rw [hT0]
      have HT1 := Lib.hid hT1
      obtain ⟨q, hq⟩ : ∃ q, u / 10 = q := ⟨_, rfl⟩
      obtain ⟨r, hr⟩ : ∃ r, u % 10 = r := ⟨_, rfl⟩
      rw [hq, hr] at hT01
      have p0 := byte_at z6
      have p1 := byte_at z7
      rw [t6, hq] at p0
      rw [t7, hr] at p1
      have q9 : q ≤ 9 := by omega
      have r9 : r ≤ 9 := by omega
      have T14 := hT01.2
      obtain ⟨X, hX⟩ : ∃ X, 48 + q = X := ⟨_, rfl⟩
      obtain ⟨Y, hY⟩ : ∃ Y, 48 + r = Y := ⟨_, rfl⟩
      rw [hX] at p0
      rw [hY] at p1
      have e1 : IntKind.u8.wrap ((X : Int) - 48) = (q : Int) := by rw [IntKind.wrap_u8]; omega
      have e2 : IntKind.u8.wrap ((Y : Int) - 48) = (r : Int) := by rw [IntKind.wrap_u8]; omega
      have e3 : IntKind.i64.wrap ((T0 : Int) * 60) = (T0 : Int) * 60 := w64 (by omega) (by omega)
      have e4 : IntKind.i64.wrap ((q : Int) * 10) = (q : Int) * 10 := w64 (by omega) (by omega)
      have e5 : IntKind.i64.wrap ((T0 : Int) * 60 + (q : Int) * 10) = (T0 : Int) * 60 + (q : Int) * 10 := w64 (by omega) (by omega)
      have e6 : IntKind.i64.wrap ((T0 : Int) * 60 + (q : Int) * 10 + (r : Int)) = (T1 : Int) := by rw [w64 (by omega) (by omega)]; omega
      have e7 : IntKind.i64.wrap (q : Int) = (q : Int) := w64 (by omega) (by omega)
      have e8 : IntKind.i64.wrap (r : Int) = (r : Int) := w64 (by omega) (by omega)
      clear hT01 hq hr hX hY hT0 hT1 t0 t1 t3 t4 t6 t7 hcl hab
      go_wp2_with fail
      go_quiet (fail)
      go_wp2
      go_roundw
      case rel => exact ⟨2 + 1, by omega, by go_num, by rw [HT1.out], below_drewN hB _⟩
      case measure => simp [intOf]
    · obtain ⟨Q, hQ⟩ : ∃ Q : Nat, Tv h m u 3 = Q := ⟨_, rfl⟩
      have hQ2 : Q = 3600 * h + 60 * m + u := hQ.symm
      rw [hQ]
      rw [← hQ2] at hcl
      obtain ⟨dl, hdl⟩ : ∃ dl : Int, (Q : Int) - (z : Int) = dl := ⟨_, rfl⟩
      have e1 : IntKind.i64.wrap ((Q : Int) - (z : Int)) = dl := by rw [w64 (by omega) (by omega)]; exact hdl
      rcases hab with ha | ha
      · have f1 : ((a : Int) == 24000) = true := by rw [beq_iff_eq]; omega
        clear hcl ha hdl hQ hQ2 t0 t1 t3 t4 t6 t7
        go_wp2_with fail
        refine Calls.mono (hS1 _ hbr) ?_; rintro e w7 ⟨rfl, g7⟩
        obtain ⟨l0, l1, l2, l3⟩ := keep4' l0 l1 l2 l3 g7 (by have := hB.size; omega)
        go_wp2
        go_ret
        exact ⟨rfl, bthen hbr g7⟩
      · have f1 : ((a : Int) == 24000) = false := by rw [beq_eq_false_iff_ne]; omega
        have f2 : decide (-1 ≤ dl) = true := decide_eq_true (by omega)
        have f3 : decide (dl ≤ 1) = true := decide_eq_true (by omega)
        clear hcl ha hdl hQ hQ2 t0 t1 t3 t4 t6 t7
        go_wp2_with fail
        refine Calls.mono (hS1 _ hbr) ?_; rintro e w7 ⟨rfl, g7⟩
        obtain ⟨l0, l1, l2, l3⟩ := keep4' l0 l1 l2 l3 g7 (by have := hB.size; omega)
        go_wp2
        go_ret
        exact ⟨rfl, bthen hbr g7⟩
end Go.Proofs.YtfpmmfoinjcclaaDoor

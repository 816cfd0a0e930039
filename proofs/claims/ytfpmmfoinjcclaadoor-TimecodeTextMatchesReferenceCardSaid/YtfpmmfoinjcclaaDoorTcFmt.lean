/- Format. -/
import Derived.Test.YtfpmmfoinjcclaaDoorTcOwn
import Derived.Deep.AppendLies
namespace Go.Proofs.YtfpmmfoinjcclaaDoor
open Go.RowKit

theorem keep4 {w w8 w9 : World} {B n : Nat} {a b c d : Int} (hB : B < n) (hn : n ≤ w.heap.size)
    (h : w8.cell? ⟨B, 0, none⟩ = some (iv a) ∧ w8.cell? ⟨B, 1, none⟩ = some (iv b) ∧ w8.cell? ⟨B, 2, none⟩ = some (iv c) ∧ w8.cell? ⟨B, 3, none⟩ = some (iv d) ∧ Below n w w8) (hb : Below n w8 w9) :
    w9.cell? ⟨B, 0, none⟩ = some (iv a) ∧ w9.cell? ⟨B, 1, none⟩ = some (iv b) ∧ w9.cell? ⟨B, 2, none⟩ = some (iv c) ∧ w9.cell? ⟨B, 3, none⟩ = some (iv d) ∧ Below n w w9 := by
  obtain ⟨h0, h1, h2, h3, h4⟩ := h
  exact ⟨(hb.cell (p := ⟨B, 0, none⟩) hB).trans h0, (hb.cell (p := ⟨B, 1, none⟩) hB).trans h1, (hb.cell (p := ⟨B, 2, none⟩) hB).trans h2, (hb.cell (p := ⟨B, 3, none⟩) hB).trans h3, h4.trans hb⟩
theorem keep4a {w w8 : World} {B : Nat} {a b c d : Int} (hB : B < w.heap.size)
    (h : w8.cell? ⟨B, 0, none⟩ = some (iv a) ∧ w8.cell? ⟨B, 1, none⟩ = some (iv b) ∧ w8.cell? ⟨B, 2, none⟩ = some (iv c) ∧ w8.cell? ⟨B, 3, none⟩ = some (iv d) ∧ Below w.heap.size w w8) (o : Obj) :
    (w8.alloc o).cell? ⟨B, 0, none⟩ = some (iv a) ∧ (w8.alloc o).cell? ⟨B, 1, none⟩ = some (iv b) ∧ (w8.alloc o).cell? ⟨B, 2, none⟩ = some (iv c) ∧ (w8.alloc o).cell? ⟨B, 3, none⟩ = some (iv d) ∧ Below w.heap.size w (w8.alloc o) :=
  keep4 hB (Nat.le_refl _) h ((Below.refl _ w8).alloc h.2.2.2.2.size o)
theorem keep4g {w w8 w9 : World} {B : Nat} {a b c d : Int} (hB : B < w.heap.size)
    (h : w8.cell? ⟨B, 0, none⟩ = some (iv a) ∧ w8.cell? ⟨B, 1, none⟩ = some (iv b) ∧ w8.cell? ⟨B, 2, none⟩ = some (iv c) ∧ w8.cell? ⟨B, 3, none⟩ = some (iv d) ∧ Below w.heap.size w w8) {e : TypeId} {size : Nat} {v : Value} {n : Nat} {xs : List Value} (hg : w8.grownBy w9 v.ownBlock) (own : w8.ownsRow w.heap.size e size v n xs) :
    w9.cell? ⟨B, 0, none⟩ = some (iv a) ∧ w9.cell? ⟨B, 1, none⟩ = some (iv b) ∧ w9.cell? ⟨B, 2, none⟩ = some (iv c) ∧ w9.cell? ⟨B, 3, none⟩ = some (iv d) ∧ Below w.heap.size w w9 :=
  keep4 hB (Nat.le_refl _) h ((Below.refl _ w8).grown hg h.2.2.2.2.size (own_le own))
theorem made11 : madeCells (Value.int .u8 0).cells (11 * 1) = (u8s (List.replicate 11 0)).toArray := by kernel_rfl

set_option maxRecDepth 100000 in
set_option maxHeartbeats 4000000 in
theorem format_ok (x : Rt) (hx : x ∈ rtL) (n : Nat) (hn : n ≤ 100000000) (w : World) (hF : FmtAt w) :
    Calls Tryd.prog 25 #[x.val, .int .i64 (n : Int)] w fun e w' => e = .returned (.tuple #[.string (strN (fmtL x (n % x.day))), .int .i64 0]) ∧ Below w.heap.size w w' := by
  obtain ⟨i0, hi, hz0, hz1, hz2⟩ := info_parts infoU8
  have hfind := fun W (h : Below w.heap.size w W) => find_ok x hx W (hF.below h)
  obtain ⟨-, -, -, -, x5, x6, x7⟩ := rt_bd hx
  obtain ⟨y1, y2⟩ := day_pos hx
  have hcnt := count_in hx (Nat.mod_lt n y1)
  have hid : n % x.day ≤ 5184000 := by have := Nat.mod_lt n y1; omega
  have hD : x.day + 1296 * x.drop = 86400 * x.base := by unfold Rt.day; omega
  have hT : x.ten + 9 * x.drop = 600 * x.base := by unfold Rt.ten; omega
  have hM : x.minute = 60 * x.base := rfl
  have hday := fun W => day_any x.num x.den x.base x.drop x.day W x6 (by omega) x7 hD
  have hst := fun W => started_any x.num x.den x.base x.drop (n % x.day) x.ten x.minute W x6 (by omega) x7 hid hT hM
  obtain ⟨s, hs⟩ : ∃ s, startedZ x (n % x.day) = s := ⟨_, rfl⟩
  have hs2 : (if n % x.day % x.ten < x.minute then 10 * (n % x.day / x.ten) + 1 else 10 * (n % x.day / x.ten) + 2 + (n % x.day % x.ten - x.minute) / (x.minute - x.drop)) = s := hs
  rw [hs2] at hst
  have hsl : s ≤ 1000000 := by
    rw [← hs]; rw [hcnt.2.1]
    have : countZ x (n % x.day) / x.minute ≤ countZ x (n % x.day) := Nat.div_le_self _ _
    have h1 : countZ x (n % x.day) < 1440 * x.minute := by have := hcnt.1; rw [hM]; omega
    have h2 : countZ x (n % x.day) / x.minute < 1440 := by rw [Nat.div_lt_iff_lt_mul (by rw [hM]; omega)]; exact h1
    omega
  have hdr := fun W => dropped_any x.num x.den x.base x.drop s W x7 hsl
  obtain ⟨E, hE⟩ : ∃ E, x.drop * (s - (s + 9) / 10) = E := ⟨_, rfl⟩
  rw [hE] at hdr
  obtain ⟨C, hC⟩ : ∃ C, countZ x (n % x.day) = C := ⟨_, rfl⟩
  have hCE : n % x.day + E = C := by rw [← hC]; unfold countZ; rw [hs]; unfold droppedZ; rw [hE]
  rw [hC] at hcnt
  have hCb := hcnt.1
  have hsep := fun W => sep_any x.num x.den x.base x.drop W
  have hpe : (if 0 < x.drop then (59 : Int) else 58) = ((x.sep : Nat) : Int) := by unfold Rt.sep; split <;> rfl
  rw [hpe] at hsep
  have hpl : x.sep < 256 := by unfold Rt.sep; split <;> decide
  have hfmt : Hid (fmtL x (n % x.day) = txtL x.sep (C / x.base / 3600) (C / x.base / 60 % 60) (C / x.base % 60) (C % x.base)) := Lib.hid (by unfold fmtL; rw [hC])
  generalize fmtL x (n % x.day) = L at *
  unfold Rt.val Rt.row at *
  clear hs2 hs hE hC hcnt hpe hM hT hD hx hF
  have hmod : ((n : Int)).tmod (x.day : Int) = ((n % x.day : Nat) : Int) := by rw [Int.tmod_eq_emod_of_nonneg (by omega), ← Int.natCast_emod]
  have hmod2 : ((n : Int)) % (x.day : Int) = ((n % x.day : Nat) : Int) := by rw [← Int.natCast_emod]
  generalize n % x.day = idx at *
  generalize x.day = D at *
  generalize x.sep = p at *
  generalize x.num = a at *
  generalize x.den = b at *
  generalize x.base = c at *
  generalize x.drop = d at *
  clear x
  have D0 : ¬ D = 0 := by omega
  have D1 : ((D : Int) == 0) = false := by rw [beq_eq_false_iff_ne]; omega
  have c0 : ¬ c = 0 := by omega
  have c1 : ((c : Int) == 0) = false := by rw [beq_eq_false_iff_ne]; omega
  have w1 : IntKind.i64.wrap (idx : Int) = (idx : Int) := w64 (by omega) (by omega)
  have w2 : IntKind.i64.wrap ((idx : Int) + (E : Int)) = (C : Int) := by rw [w64 (by omega) (by omega)]; omega
  obtain ⟨q, hq⟩ : ∃ q, C / c = q := ⟨_, rfl⟩
  obtain ⟨f, hf⟩ : ∃ f, C % c = f := ⟨_, rfl⟩
  rw [hq, hf] at hfmt
  have hfc : f < c := by rw [← hf]; exact Nat.mod_lt _ (by omega)
  have hq86 : q < 86400 := by rw [← hq, Nat.div_lt_iff_lt_mul (by omega)]; omega
  have e1 := quo_nat hq
  have e2 := tquo_nat hq
  have e3 : (C : Int) % (c : Int) = (f : Int) := by rw [← Int.natCast_emod, hf]
  have e4 : (C : Int).tmod (c : Int) = (f : Int) := by rw [Int.tmod_eq_emod_of_nonneg (by omega)]; exact e3
  clear hq hf
  obtain ⟨h, hh⟩ : ∃ h, q / 3600 = h := ⟨_, rfl⟩
  obtain ⟨m0, hm0⟩ : ∃ m0, q / 60 = m0 := ⟨_, rfl⟩
  obtain ⟨m, hm⟩ : ∃ m, m0 % 60 = m := ⟨_, rfl⟩
  obtain ⟨u, hu⟩ : ∃ u, q % 60 = u := ⟨_, rfl⟩
  rw [hh, hm0, hm, hu] at hfmt
  have g1 : (q : Int) / 3600 = (h : Int) := by omega
  have g2 : (q : Int).tdiv 3600 = (h : Int) := by rw [Int.tdiv_eq_ediv_of_nonneg (by omega)]; exact g1
  have g3 : (q : Int) / 60 = (m0 : Int) := by omega
  have g4 : (q : Int).tdiv 60 = (m0 : Int) := by rw [Int.tdiv_eq_ediv_of_nonneg (by omega)]; exact g3
  have g5 : (m0 : Int) % 60 = (m : Int) := by omega
  have g6 : (m0 : Int).tmod 60 = (m : Int) := by rw [Int.tmod_eq_emod_of_nonneg (by omega)]; exact g5
  have g7 : (q : Int) % 60 = (u : Int) := by omega
  have g8 : (q : Int).tmod 60 = (u : Int) := by rw [Int.tmod_eq_emod_of_nonneg (by omega)]; exact g7
  have n1 : h ≤ 99 := by omega
  have n2 : m ≤ 99 := by omega
  have n3 : u ≤ 99 := by omega
  have n4 : f ≤ 99 := by omega
  have m1 : IntKind.i64.wrap (u : Int) = (u : Int) := w64 (by omega) (by omega)
  have m2 : IntKind.i64.wrap (q : Int) = (q : Int) := w64 (by omega) (by omega)
  have m3 : IntKind.i64.wrap (f : Int) = (f : Int) := w64 (by omega) (by omega)
  have HC := Lib.hid hCE
  clear hh hm0 hm hu hCE hpl
  have hnn : (n : Int) ≤ 100000000 := by omega
  go_enter Tryd.func25, Tryd.ntmps25
  go_wp2_with fail
  obtain ⟨W0, hW0, hb0, hsz, k0, k1⟩ := box2 w a b
  rw [hW0]; clear hW0
  refine Calls.mono (hfind _ hb0) ?_; rintro e W1 ⟨rfl, b1⟩
  have hb01 := bthen hb0 b1
  go_wp2_with (go_at_call 33; refine Calls.mono (isFrame_any _ _) ?_; rintro e w1 ⟨rfl, rfl⟩)
  obtain ⟨W2, hW2, hb2, hsz2, k0, k1, k2, k3⟩ := box4 W1 a b c d
  rw [hW2]; clear hW2
  obtain ⟨T6, hT6⟩ : ∃ T6, W1.heap.size = T6 := ⟨_, rfl⟩
  rw [hT6] at k0 k1 k2 k3 hsz2 ⊢
  have hb02 := bthen hb01 hb2
  refine Calls.mono (hday _) ?_; rintro e W3 ⟨rfl, b3⟩
  have hS3 := keep4 (w := W2) (by omega) (Nat.le_refl _) ⟨k0, k1, k2, k3, Below.refl _ _⟩ b3
  clear k0 k1 k2 k3
  go_wp2_with fail
  have hlt6 : T6 < W2.heap.size := by omega
  have hS3d : W3.drew.cell? ⟨T6, 0, none⟩ = some (iv a) ∧ W3.drew.cell? ⟨T6, 1, none⟩ = some (iv b) ∧ W3.drew.cell? ⟨T6, 2, none⟩ = some (iv c) ∧ W3.drew.cell? ⟨T6, 3, none⟩ = some (iv d) ∧ Below W2.heap.size W2 W3.drew := ⟨hS3.1, hS3.2.1, hS3.2.2.1, hS3.2.2.2.1, hS3.2.2.2.2.drew⟩
  go_region_held3 (fun w' => w'.cell? ⟨T6, 0, none⟩ = some (iv a) ∧ w'.cell? ⟨T6, 1, none⟩ = some (iv b) ∧ w'.cell? ⟨T6, 2, none⟩ = some (iv c) ∧ w'.cell? ⟨T6, 3, none⟩ = some (iv d) ∧ Below W2.heap.size W2 w') (first | assumption | exact hS3d | exact held4 hlt6 (by assumption) b5 | exact held4 hlt6 (by assumption) b4 | fail)
    (first | (go_at_call 40; with_reducible refine Calls.mono (hst _) ?_; rintro e w4 ⟨rfl, b4⟩) | (go_at_call 39; with_reducible refine Calls.mono (hdr _) ?_; rintro e w5 ⟨rfl, b5⟩) | fail)
  have hS5 := (show w5.cell? ⟨T6, 0, none⟩ = some (iv a) ∧ w5.cell? ⟨T6, 1, none⟩ = some (iv b) ∧ w5.cell? ⟨T6, 2, none⟩ = some (iv c) ∧ w5.cell? ⟨T6, 3, none⟩ = some (iv d) ∧ Below W2.heap.size W2 w5 by assumption)
  obtain ⟨k0, k1, k2, k3, hb25⟩ := id hS5
  have hmk : (Instr.makeSlice 59 (.int .i64 0) (.int .i64 11)).run Tryd.prog w5 = .ok (.slice (some ⟨w5.heap.size, 0, none⟩) 0 11) (w5.alloc (.cells (u8s (List.replicate 11 0)).toArray 5)) := by
    have h := run_make (P := Tryd.prog) w5 59 5 i0 (.int .u8 0) Tryd.underlying59 hi hz0 .i64 .i64 0 11 (by omega) (by omega) (by rw [hz2]; omega) (by omega)
    rw [hz1, show (11 : Int).toNat = 11 from rfl, made11] at h
    exact h
  have own6 : (w5.alloc (.cells (u8s (List.replicate 11 0)).toArray 5)).ownsRow w5.heap.size 5 1 (.slice (some ⟨w5.heap.size, 0, none⟩) 0 11) 0 (u8s []) :=
    ⟨rfl, .inr ⟨w5.heap.size, 11, _, rfl, Nat.le_refl _, heap_alloc_new _ _, by omega, by unfold maxLen; omega, rfl, rfl⟩⟩
  have hb6 : Below w5.heap.size w5 (w5.alloc (.cells (u8s (List.replicate 11 0)).toArray 5)) := (Below.refl _ w5).alloc (Nat.le_refl _) _
  generalize (u8s (List.replicate 11 0)).toArray = c11 at *
  have hlt65 : T6 < w5.heap.size := by have := hb25.size; omega
  go_wp2_with fail
  clear hmk
  generalize w5.alloc (.cells c11 5) = W6 at *
  refine Calls.mono (appNum_any w5.heap.size h 0 _ _ _ own6 hb6.size n1 (by omega)) ?_; rintro e W7 ⟨v7, rfl, own7, b7⟩
  have hb7 := hb6.trans b7
  go_wp2_with (at_builtin; refine wpList_append_own _ rfl _ _ 59 rfl w5.heap.size 5 i0 (.int .u8 0) 1 1 Tryd.underlying59 hi hz0 hz1 hz2 rfl (by decide) _ _ _ rfl (own7.alloc _) ⟨W7.heap.size, 0, none⟩ 1 1 [.int .u8 58] rfl rfl (cells_new _ _ _) (by simp [Value.oneCell']) (by unfold maxLen; omega) (by omega) (by have := hb7.size; simp; omega) ?_; intro v8 W8 own8 g8 _)
  have hb8 := (hb7.alloc hb7.size _).grown g8 (by have := hb7.size; simp; omega) (own_le own7)
  have own8' : W8.ownsRow w5.heap.size 5 1 v8 3 (u8s (two h ++ [58])) := by simpa [u8s] using own8
  clear g8 own8 own7 own6
  refine Calls.mono (appNum_any w5.heap.size m 3 _ _ _ own8' hb8.size n2 (by omega)) ?_; rintro e W9 ⟨v9, rfl, own9, b9⟩
  have hb9 := hb8.trans b9
  go_wp2_with (at_builtin; refine wpList_append_own _ rfl _ _ 59 rfl w5.heap.size 5 i0 (.int .u8 0) 1 1 Tryd.underlying59 hi hz0 hz1 hz2 rfl (by decide) _ _ _ rfl (own9.alloc _) ⟨W9.heap.size, 0, none⟩ 1 1 [.int .u8 58] rfl rfl (cells_new _ _ _) (by simp [Value.oneCell']) (by unfold maxLen; omega) (by omega) (by have := hb9.size; simp; omega) ?_; intro v10 W10 own10 g10 _)
  have hb10 := (hb9.alloc hb9.size _).grown g10 (by have := hb9.size; simp; omega) (own_le own9)
  have own10' : W10.drew.ownsRow w5.heap.size 5 1 v10 6 (u8s (two h ++ [58] ++ two m ++ [58])) := by
    have h : W10.ownsRow w5.heap.size 5 1 v10 6 (u8s (two h ++ [58] ++ two m ++ [58])) := by simpa [u8s] using own10
    exact h
  have hS10 := keep4 (w := w5) hlt65 (Nat.le_refl _) ⟨k0, k1, k2, k3, Below.refl _ _⟩ hb10
  have hS10d : W10.drew.cell? ⟨T6, 0, none⟩ = some (iv a) ∧ W10.drew.cell? ⟨T6, 1, none⟩ = some (iv b) ∧ W10.drew.cell? ⟨T6, 2, none⟩ = some (iv c) ∧ W10.drew.cell? ⟨T6, 3, none⟩ = some (iv d) ∧ Below w5.heap.size w5 W10.drew := ⟨hS10.1, hS10.2.1, hS10.2.2.1, hS10.2.2.2.1, hS10.2.2.2.2.drew⟩
  have hb10d := hS10d.2.2.2.2
  clear g10 own10 own9 k0 k1 k2 k3 own8' hS3d hS3 hS5
  have HL : Hid (L = two h ++ [58] ++ two m ++ [58] ++ two u ++ [p] ++ two f) := Lib.hid (by rw [hfmt.out]; rfl)
  generalize two h ++ [58] ++ two m ++ [58] = X10 at own10' HL
  go_region_held3 (fun w' => w'.cell? ⟨T6, 0, none⟩ = some (iv a) ∧ w'.cell? ⟨T6, 1, none⟩ = some (iv b) ∧ w'.cell? ⟨T6, 2, none⟩ = some (iv c) ∧ w'.cell? ⟨T6, 3, none⟩ = some (iv d) ∧ Below w5.heap.size w5 w') (first | assumption | exact hS10d | exact keep4 hlt65 (Nat.le_refl _) (by assumption) b11 | exact keep4 hlt65 (Nat.le_refl _) (by assumption) (b12.mono (Below.size (hS11b))) | exact keep4a hlt65 (by assumption) _ | exact keep4g hlt65 (by assumption) hgrow13 (own12.alloc _) | fail)
    (first | (go_at_call 41; with_reducible refine Calls.mono (appNum_any w5.heap.size u 6 _ _ _ own10' hb10d.size n3 (by omega)) ?_; rintro e w11 ⟨v11, rfl, own11, b11⟩; have hS11b := hb10d.trans b11) | (go_at_call 42; with_reducible refine Calls.mono (hsep _) ?_; rintro e w12 ⟨rfl, b12⟩; have own12 := own_below own11 b12; have hb12 := hS11b.trans (b12.mono hS11b.size)) | (refine step_append_lies _ (by rfl) _ _ 59 (by rfl) w5.heap.size 5 i0 (.int .u8 0) 1 1 Tryd.underlying59 hi hz0 hz1 hz2 rfl (by omega) v11 (6 + 2) (u8s (X10 ++ two u)) (by rfl) (own12.alloc _) ⟨w12.heap.size, 0, none⟩ 1 1 [.int .u8 (p : Int)] (by rfl) (by rfl) (cells_new _ _ _) (by simp [Value.oneCell']) (by omega) (by unfold maxLen; omega) (by omega) (by have := hb12.size; simp; omega) (w12.heap.size + 1) (by simp) ?_; intro gg cap13 w13 own13 hgrow13 hat13 hlt13) | fail)
  have hS13 := (show w13.cell? ⟨T6, 0, none⟩ = some (iv a) ∧ w13.cell? ⟨T6, 1, none⟩ = some (iv b) ∧ w13.cell? ⟨T6, 2, none⟩ = some (iv c) ∧ w13.cell? ⟨T6, 3, none⟩ = some (iv d) ∧ Below w5.heap.size w5 w13 by assumption)
  obtain ⟨k0, k1, k2, k3, hb13⟩ := hS13
  have own13' : w13.ownsRow w5.heap.size 5 1 (.slice (some ⟨gg, 0, none⟩) (6 + 2 + 1) cap13) 9 (u8s (X10 ++ two u ++ [p])) := by simpa [u8s] using own13
  go_wp2_with fail
  refine Calls.mono (appNum_any w5.heap.size f 9 _ _ _ own13' hb13.size n4 (by omega)) ?_; rintro e W14 ⟨v14, rfl, own14, b14⟩
  have hcv : Sem.run Tryd.prog (convert 59 9 v14) W14 = .ok (.string (strN L)) W14 := by
    rw [HL.out]; exact strOf_u8s (by have := own14.1; rw [u8s_len] at this; omega) own14
  obtain ⟨sL, hsL⟩ : ∃ sL, strN L = sL := ⟨_, rfl⟩
  rw [hsL] at hcv
  have HSL := Lib.hid hsL; clear hsL
  go_wp2
  go_ret2
  exact ⟨by rw [HSL.out]; rfl, hb02.trans ((hb25.trans ((hb13.trans b14).mono (by have := hb25.size; omega))).mono (by have := hb02.size; omega))⟩

set_option maxHeartbeats 1000000 in
theorem format_no (a b : Int) (hx : NoRate a b) (n : Int) (w : World) (hF : FmtAt w) :
    Calls Tryd.prog 25 #[.agg #[iv a, iv b], .int .i64 n] w fun e w' => e = .returned (.tuple #[.string ⟨#[]⟩, .int .i64 30]) ∧ Below w.heap.size w w' := by
  have hf := fun W (h : Below w.heap.size w W) => find_no a b W (hF.below h) hx
  clear hx hF
  go_enter Tryd.func25, Tryd.ntmps25
  go_wp2_with fail
  obtain ⟨W0, hW0, hb0, hsz, k0, k1⟩ := box2 w a b
  rw [hW0]; clear hW0
  refine Calls.mono (hf _ hb0) ?_; rintro e W1 ⟨rfl, b1⟩
  go_wp2_with fail
  go_ret2
  exact ⟨rfl, (bthen hb0 b1).alloc (by have := (bthen hb0 b1).size; omega) _⟩

set_option maxHeartbeats 1000000 in
theorem format_out (x : Rt) (hx : x ∈ rtL) (n : Int) (hn : ¬ (0 ≤ n ∧ n ≤ 100000000)) (w : World) (hF : FmtAt w) :
    Calls Tryd.prog 25 #[x.val, .int .i64 n] w fun e w' => e = .returned (.tuple #[.string ⟨#[]⟩, .int .i64 30]) ∧ Below w.heap.size w w' := by
  have hf := fun W (h : Below w.heap.size w W) => find_ok x hx W (hF.below h)
  have hd : (decide (0 ≤ n) && decide (n ≤ 100000000)) = false := by rw [← Bool.decide_and, decide_eq_false_iff_not]; exact hn
  have hd2 : decide (0 ≤ n ∧ n ≤ 100000000) = false := by rw [decide_eq_false_iff_not]; exact hn
  unfold Rt.val Rt.row at *
  clear hx hF
  generalize x.num = a at *
  generalize x.den = b at *
  go_enter Tryd.func25, Tryd.ntmps25
  go_wp2_with fail
  obtain ⟨W0, hW0, hb0, hsz, k0, k1⟩ := box2 w a b
  rw [hW0]; clear hW0
  refine Calls.mono (hf _ hb0) ?_; rintro e W1 ⟨rfl, b1⟩
  go_wp2_with (go_at_call 33; refine Calls.mono (isFrame_any _ _) ?_; rintro e w1 ⟨rfl, rfl⟩)
  go_ret2
  exact ⟨rfl, (bthen hb0 b1).alloc (by have := (bthen hb0 b1).size; omega) _⟩
end Go.Proofs.YtfpmmfoinjcclaaDoor

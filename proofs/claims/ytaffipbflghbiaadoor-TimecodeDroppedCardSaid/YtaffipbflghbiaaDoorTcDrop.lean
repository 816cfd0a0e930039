/- TimecodeDropped: the walk. -/
import Derived.Test.YtaffipbflghbiaaDoorTcDropA
import Derived.Test.YtaffipbflghbiaaDoorTcOpen
namespace Go.Proofs.YtaffipbflghbiaaDoor
open Go.RowKit

theorem box4a (w : World) (a b c d : Int) : ∃ W0, w.alloc (.cells #[iv a, iv b, iv c, iv d] 45) = W0 ∧ Below w.heap.size w W0 ∧ W0.heap.size = w.heap.size + 1 ∧
    W0.cell? ⟨w.heap.size, 0, none⟩ = some (iv a) ∧ W0.cell? ⟨w.heap.size, 1, none⟩ = some (iv b) ∧ W0.cell? ⟨w.heap.size, 2, none⟩ = some (iv c) ∧ W0.cell? ⟨w.heap.size, 3, none⟩ = some (iv d) :=
  have k := Arr.new w 45 [iv a, iv b, iv c, iv d]
  ⟨_, rfl, (Below.refl _ _).alloc (Nat.le_refl _) _, by simp, k.cell rfl, k.cell rfl, k.cell rfl, k.cell rfl⟩
theorem c58 : strN [58] = ⟨#[58]⟩ := by kernel_rfl
theorem c59 : strN [59] = ⟨#[59]⟩ := by kernel_rfl

set_option maxRecDepth 100000 in
set_option maxHeartbeats 4000000 in
theorem dropped_law (c l0 l1 l2 l3 : Int) (semi : Bool) (w : World) (c1 : -9223372036854775808 ≤ c) (c2 : c ≤ 9223372036854775807) (p0 : -9223372036854775808 ≤ l0 ∧ l0 ≤ 9223372036854775807) (p1 : -9223372036854775808 ≤ l1 ∧ l1 ≤ 9223372036854775807) (p2 : -9223372036854775808 ≤ l2 ∧ l2 ≤ 9223372036854775807) (p3 : -9223372036854775808 ≤ l3 ∧ l3 ≤ 9223372036854775807) (hF : FmtAt w) :
    Calls Tryd.prog 7 #[.int .i64 c, .agg #[iv l0, iv l1, iv l2, iv l3], .bool semi] w fun e w' => e = .returned (.bool true) ∧ Below w.heap.size w w' := by
  have HF := fun W (hb : Below w.heap.size w W) => hF.below hb
  obtain ⟨i, x, hi8, hxi, hx, hpi, -⟩ := law_rate c c1 c2
  have hpk8 := fun W => pick_any c 8 W c1 c2 (by decide) (by decide)
  rw [hpi] at hpk8
  have hrow := fun W B (h : TabAt W B) => h.row hi8
  rw [← hxi] at hrow
  obtain ⟨y1, y2⟩ := day_pos hx
  obtain ⟨-, -, -, -, x5, x6, x7⟩ := rt_bd hx
  obtain ⟨h, h24, hp0⟩ := law_pick l0 24 p0.1 p0.2 (by decide) (by decide)
  obtain ⟨m, m60, hp1⟩ := law_pick l1 60 p1.1 p1.2 (by decide) (by decide)
  obtain ⟨s, s60, hp2⟩ := law_pick l2 60 p2.1 p2.2 (by decide) (by decide)
  obtain ⟨f, fb, hp3⟩ := law_pick l3 (x.base : Int) p3.1 p3.2 (by omega) (by omega)
  have h24 : h < 24 := by omega
  have m60 : m < 60 := by omega
  have s60 : s < 60 := by omega
  have fb : f < x.base := by omega
  have hth := fun W => ltwo_any h (by omega) W
  have htm := fun W => ltwo_any m (by omega) W
  have hts := fun W => ltwo_any s (by omega) W
  have htf := fun W => ltwo_any f (by omega) W
  have j1 : (0 : Int) ≤ (i : Int) := by omega
  have j2 : (i : Int) < 8 := by omega
  clear hxi hpi hF
  cases semi
  · obtain ⟨S, hS⟩ : ∃ S, strN (txtL 58 h m s f) = S := ⟨_, rfl⟩
    have hcat := txt_cat 58 h m s f
    rw [hS, c58] at hcat
    have hPr := fun W (hb : Below w.heap.size w W) => parse_any x hx S (by rw [← hS, strN_size (txtL_lt (by omega) (by omega) (by omega) (by omega) (by omega)), txt_len]; unfold maxLen; omega) W (HF W hb)
    have hpt := parse_txt_at hx (p := 58) h24 m60 s60 fb (by omega)
    rw [hS] at hpt
    have HO : Hid (((58 : Nat) = x.sep → ¬ (m % 10 ≠ 0 ∧ s = 0 ∧ f < x.drop) → ∃ ix : Nat, parseO x S = some ix ∧ ∀ W, Below w.heap.size w W → Calls Tryd.prog 25 #[x.val, .int .i64 (ix : Int)] W fun e w' => e = .returned (.tuple #[.string S, .int .i64 0]) ∧ Below W.heap.size W w') ∧ (((58 : Nat) ≠ x.sep ∨ (m % 10 ≠ 0 ∧ s = 0 ∧ f < x.drop)) → parseO x S = none)) := by
      refine Lib.hid ⟨fun e1 e2 => ?_, fun e1 => ?_⟩
      · rw [if_pos e1, if_neg e2] at hpt
        obtain ⟨q1, q2⟩ := fmt_of_parse hx hpt
        refine ⟨_, hpt, fun W hb => ?_⟩
        have := format_ok x hx (indexZ x (60 * h + m) s f) (by omega) W (HF W hb)
        rw [q2] at this
        exact this
      · rcases e1 with e1 | e1
        · rw [if_neg e1] at hpt; exact hpt
        · by_cases e2 : (58 : Nat) = x.sep
          · rw [if_pos e2, if_pos e1] at hpt; exact hpt
          · rw [if_neg e2] at hpt; exact hpt
    have hsepd : x.sep = if 0 < x.drop then 59 else 58 := rfl
    have hsep0 : ¬ 0 < x.drop → x.sep = 58 := fun h => by rw [hsepd, if_neg h]
    have hsep1 : 0 < x.drop → x.sep = 59 := fun h => by rw [hsepd, if_pos h]
    clear hpt hS hsepd y1 y2
    unfold Rt.val at *
    clear hx
    obtain ⟨O, hOe⟩ : ∃ O, parseO x S = O := ⟨_, rfl⟩
    rw [hOe] at hPr HO
    clear hOe
    generalize x.sep = sp at *
    generalize x.num = a at *
    generalize x.den = b at *
    generalize x.base = bb at *
    generalize x.drop = dd at *
    clear x
    go_enter Tryd.func7, Tryd.ntmps7
    go_wp2_with fail
    obtain ⟨w0, hW0, hb0, hsz0, q0, q1, q2, q3⟩ := box4a w l0 l1 l2 l3
    rw [hW0]; clear hW0
    refine Calls.mono (sane_any _ (HF _ hb0)) ?_; rintro e w1 ⟨rfl, g1⟩
    have hb1 := bthen hb0 g1
    obtain ⟨q0, q1, q2, q3⟩ := keep4' q0 q1 q2 q3 g1 (by omega)
    have hsz1 : w.heap.size < w1.heap.size := by have := g1.size; omega
    go_wp2_with fail
    refine Calls.mono (table_any _) ?_; rintro e w2 ⟨rfl, g2, hT, hsz2⟩
    have hb2 := bthen hb1 g2
    obtain ⟨q0, q1, q2, q3⟩ := keep4' q0 q1 q2 q3 g2 hsz1
    obtain ⟨r0, r1, r2, r3⟩ := hrow _ _ hT
    go_wp2_with (first | (go_at_call 14; with_reducible refine Calls.mono (hpk8 _) ?_; rintro e w3 ⟨rfl, rfl⟩) | fail)
    obtain ⟨w3, hW3, hb3, hsz3, k0, k1, k2, k3⟩ := box4r w2 a b bb dd
    obtain ⟨q0, q1, q2, q3⟩ := keep4' q0 q1 q2 q3 hb3 (by omega)
    rw [hW3]; clear hW3
    have hb3' := bthen hb2 hb3
    rw [hsz2] at k0 k1 k2 k3 hsz3
    clear hsz2 r0 r1 r2 r3 hT
    obtain ⟨U, hU⟩ : ∃ U, w1.heap.size + 1 = U := ⟨_, rfl⟩
    rw [hU] at k0 k1 k2 k3 hsz3 ⊢
    have hUw : w.heap.size < U := by omega
    clear hU
    go_wp2_with (first | (go_at_call 14; with_reducible refine Calls.mono (hp0 _) ?_; rintro e w3 ⟨rfl, rfl⟩) | (go_at_call 14; with_reducible refine Calls.mono (hp1 _) ?_; rintro e w3 ⟨rfl, rfl⟩) | (go_at_call 14; with_reducible refine Calls.mono (hp2 _) ?_; rintro e w3 ⟨rfl, rfl⟩) | (go_at_call 14; with_reducible refine Calls.mono (hp3 _) ?_; rintro e w3 ⟨rfl, rfl⟩) | fail)
    refine Calls.mono (hth _) ?_; rintro e x4 ⟨rfl, g4⟩
    have hb4 := bthen hb3' g4
    obtain ⟨k0, k1, k2, k3⟩ := keep4' k0 k1 k2 k3 g4 (by omega)
    have hsz4 : U < x4.heap.size := by have := g4.size; omega
    go_wp2_with fail
    refine Calls.mono (htm _) ?_; rintro e x5 ⟨rfl, g5⟩
    have hb5 := bthen hb4 g5
    obtain ⟨k0, k1, k2, k3⟩ := keep4' k0 k1 k2 k3 g5 (by omega)
    have hsz5 : U < x5.heap.size := by have := g5.size; omega
    go_wp2_with fail
    refine Calls.mono (hts _) ?_; rintro e x6 ⟨rfl, g6⟩
    have hb6 := bthen hb5 g6
    obtain ⟨k0, k1, k2, k3⟩ := keep4' k0 k1 k2 k3 g6 (by omega)
    have hsz6 : U < x6.heap.size := by have := g6.size; omega
    go_wp2_with fail
    refine Calls.mono (htf _) ?_; rintro e x7 ⟨rfl, g7⟩
    have hb7 := bthen hb6 g7
    obtain ⟨k0, k1, k2, k3⟩ := keep4' k0 k1 k2 k3 g7 (by omega)
    have hsz7 : U < x7.heap.size := by have := g7.size; omega
    go_wp2_with fail
    refine Calls.mono (hPr _ hb7) ?_; rintro e x8 ⟨rfl, g8⟩
    have hb7 := bthen hb7 g8
    obtain ⟨k0, k1, k2, k3⟩ := keep4' k0 k1 k2 k3 g8 (by omega)
    by_cases hdd : 0 < dd
    · have hsp := hsep1 hdd
      clear hsep0 hsep1 hPr
      rcases (by omega : ¬ s = 0 ∨ (s = 0 ∧ ¬ f < dd) ∨ (s = 0 ∧ f < dd ∧ m % 10 = 0) ∨ (s = 0 ∧ f < dd ∧ m % 10 ≠ 0)) with hz | hz | hz | hz
      · have hs0 : ((s : Int) == 0) = false := by rw [beq_eq_false_iff_ne]; omega
        have hd0 : decide (0 < dd) = true := decide_eq_true (by omega)
        have hd0' : decide ((0 : Int) < (dd : Int)) = true := decide_eq_true (by omega)
        have hO := HO.out.2 (by omega)
        rw [hO]
        clear HO hO hz
        simp only [numO, errO]
        go_wp2
        go_ret
        exact ⟨rfl, hb7⟩
      · have hs0 : ((s : Int) == 0) = true := by rw [beq_iff_eq]; omega
        have hfd : decide (f < dd) = false := decide_eq_false (by omega)
        have hfd' : decide ((f : Int) < (dd : Int)) = false := decide_eq_false (by omega)
        have hd0 : decide (0 < dd) = true := decide_eq_true (by omega)
        have hd0' : decide ((0 : Int) < (dd : Int)) = true := decide_eq_true (by omega)
        have hO := HO.out.2 (by omega)
        rw [hO]
        clear HO hO hz
        simp only [numO, errO]
        go_wp2
        go_ret
        exact ⟨rfl, hb7⟩
      · have hs0 : ((s : Int) == 0) = true := by rw [beq_iff_eq]; omega
        have hfd : decide (f < dd) = true := decide_eq_true (by omega)
        have hfd' : decide ((f : Int) < (dd : Int)) = true := decide_eq_true (by omega)
        have hm1 : (m : Int) % 10 = 0 := by omega
        have hm2 : (m : Int).tmod 10 = 0 := by rw [Int.tmod_eq_emod_of_nonneg (by omega)]; exact hm1
        have hd0 : decide (0 < dd) = true := decide_eq_true (by omega)
        have hd0' : decide ((0 : Int) < (dd : Int)) = true := decide_eq_true (by omega)
        have hO := HO.out.2 (by omega)
        rw [hO]
        clear HO hO hz
        simp only [numO, errO]
        go_wp2
        go_ret
        exact ⟨rfl, hb7⟩
      · have hs0 : ((s : Int) == 0) = true := by rw [beq_iff_eq]; omega
        have hfd : decide (f < dd) = true := decide_eq_true (by omega)
        have hfd' : decide ((f : Int) < (dd : Int)) = true := decide_eq_true (by omega)
        obtain ⟨t, ht⟩ : ∃ t, m % 10 = t := ⟨_, rfl⟩
        have hm1 : (m : Int) % 10 = (t : Int) := by omega
        have hm2 : (m : Int).tmod 10 = (t : Int) := by rw [Int.tmod_eq_emod_of_nonneg (by omega)]; exact hm1
        have hm3 : ((t : Int) == 0) = false := by rw [beq_eq_false_iff_ne]; omega
        have hm4 : ((t : Int) != 0) = true := bneT (by omega)
        have hd0 : decide (0 < dd) = true := decide_eq_true (by omega)
        have hd0' : decide ((0 : Int) < (dd : Int)) = true := decide_eq_true (by omega)
        have hO := HO.out.2 (by omega)
        rw [hO]
        clear HO hO hz ht
        simp only [numO, errO]
        go_wp2
        go_ret
        exact ⟨rfl, hb7⟩
    · have hsp := hsep0 hdd
      clear hsep0 hsep1 hPr
      rcases (by omega : ¬ s = 0 ∨ (s = 0 ∧ ¬ f < dd)) with hz | hz
      · have hs0 : ((s : Int) == 0) = false := by rw [beq_eq_false_iff_ne]; omega
        have hd0 : decide (0 < dd) = false := decide_eq_false (by omega)
        have hd0' : decide ((0 : Int) < (dd : Int)) = false := decide_eq_false (by omega)
        have hO := HO.out.1 (by omega) (by omega)
        obtain ⟨ix, hO, hFm⟩ := hO
        rw [hO]
        clear HO hO hz
        simp only [numO, errO]
        go_wp2_with fail
        refine Calls.mono (hFm _ hb7) ?_; rintro e w8 ⟨rfl, g8⟩
        go_wp2
        go_ret
        exact ⟨rfl, bthen hb7 g8⟩
      · have hs0 : ((s : Int) == 0) = true := by rw [beq_iff_eq]; omega
        have hfd : decide (f < dd) = false := decide_eq_false (by omega)
        have hfd' : decide ((f : Int) < (dd : Int)) = false := decide_eq_false (by omega)
        have hd0 : decide (0 < dd) = false := decide_eq_false (by omega)
        have hd0' : decide ((0 : Int) < (dd : Int)) = false := decide_eq_false (by omega)
        have hO := HO.out.1 (by omega) (by omega)
        obtain ⟨ix, hO, hFm⟩ := hO
        rw [hO]
        clear HO hO hz
        simp only [numO, errO]
        go_wp2_with fail
        refine Calls.mono (hFm _ hb7) ?_; rintro e w8 ⟨rfl, g8⟩
        go_wp2
        go_ret
        exact ⟨rfl, bthen hb7 g8⟩
  · obtain ⟨S, hS⟩ : ∃ S, strN (txtL 59 h m s f) = S := ⟨_, rfl⟩
    have hcat := txt_cat 59 h m s f
    rw [hS, c58, c59] at hcat
    have hPr := fun W (hb : Below w.heap.size w W) => parse_any x hx S (by rw [← hS, strN_size (txtL_lt (by omega) (by omega) (by omega) (by omega) (by omega)), txt_len]; unfold maxLen; omega) W (HF W hb)
    have hpt := parse_txt_at hx (p := 59) h24 m60 s60 fb (by omega)
    rw [hS] at hpt
    have HO : Hid (((59 : Nat) = x.sep → ¬ (m % 10 ≠ 0 ∧ s = 0 ∧ f < x.drop) → ∃ ix : Nat, parseO x S = some ix ∧ ∀ W, Below w.heap.size w W → Calls Tryd.prog 25 #[x.val, .int .i64 (ix : Int)] W fun e w' => e = .returned (.tuple #[.string S, .int .i64 0]) ∧ Below W.heap.size W w') ∧ (((59 : Nat) ≠ x.sep ∨ (m % 10 ≠ 0 ∧ s = 0 ∧ f < x.drop)) → parseO x S = none)) := by
      refine Lib.hid ⟨fun e1 e2 => ?_, fun e1 => ?_⟩
      · rw [if_pos e1, if_neg e2] at hpt
        obtain ⟨q1, q2⟩ := fmt_of_parse hx hpt
        refine ⟨_, hpt, fun W hb => ?_⟩
        have := format_ok x hx (indexZ x (60 * h + m) s f) (by omega) W (HF W hb)
        rw [q2] at this
        exact this
      · rcases e1 with e1 | e1
        · rw [if_neg e1] at hpt; exact hpt
        · by_cases e2 : (59 : Nat) = x.sep
          · rw [if_pos e2, if_pos e1] at hpt; exact hpt
          · rw [if_neg e2] at hpt; exact hpt
    have hsepd : x.sep = if 0 < x.drop then 59 else 58 := rfl
    have hsep0 : ¬ 0 < x.drop → x.sep = 58 := fun h => by rw [hsepd, if_neg h]
    have hsep1 : 0 < x.drop → x.sep = 59 := fun h => by rw [hsepd, if_pos h]
    clear hpt hS hsepd y1 y2
    unfold Rt.val at *
    clear hx
    obtain ⟨O, hOe⟩ : ∃ O, parseO x S = O := ⟨_, rfl⟩
    rw [hOe] at hPr HO
    clear hOe
    generalize x.sep = sp at *
    generalize x.num = a at *
    generalize x.den = b at *
    generalize x.base = bb at *
    generalize x.drop = dd at *
    clear x
    go_enter Tryd.func7, Tryd.ntmps7
    go_wp2_with fail
    obtain ⟨w0, hW0, hb0, hsz0, q0, q1, q2, q3⟩ := box4a w l0 l1 l2 l3
    rw [hW0]; clear hW0
    refine Calls.mono (sane_any _ (HF _ hb0)) ?_; rintro e w1 ⟨rfl, g1⟩
    have hb1 := bthen hb0 g1
    obtain ⟨q0, q1, q2, q3⟩ := keep4' q0 q1 q2 q3 g1 (by omega)
    have hsz1 : w.heap.size < w1.heap.size := by have := g1.size; omega
    go_wp2_with fail
    refine Calls.mono (table_any _) ?_; rintro e w2 ⟨rfl, g2, hT, hsz2⟩
    have hb2 := bthen hb1 g2
    obtain ⟨q0, q1, q2, q3⟩ := keep4' q0 q1 q2 q3 g2 hsz1
    obtain ⟨r0, r1, r2, r3⟩ := hrow _ _ hT
    go_wp2_with (first | (go_at_call 14; with_reducible refine Calls.mono (hpk8 _) ?_; rintro e w3 ⟨rfl, rfl⟩) | fail)
    obtain ⟨w3, hW3, hb3, hsz3, k0, k1, k2, k3⟩ := box4r w2 a b bb dd
    obtain ⟨q0, q1, q2, q3⟩ := keep4' q0 q1 q2 q3 hb3 (by omega)
    rw [hW3]; clear hW3
    have hb3' := bthen hb2 hb3
    rw [hsz2] at k0 k1 k2 k3 hsz3
    clear hsz2 r0 r1 r2 r3 hT
    obtain ⟨U, hU⟩ : ∃ U, w1.heap.size + 1 = U := ⟨_, rfl⟩
    rw [hU] at k0 k1 k2 k3 hsz3 ⊢
    have hUw : w.heap.size < U := by omega
    clear hU
    go_wp2_with (first | (go_at_call 14; with_reducible refine Calls.mono (hp0 _) ?_; rintro e w3 ⟨rfl, rfl⟩) | (go_at_call 14; with_reducible refine Calls.mono (hp1 _) ?_; rintro e w3 ⟨rfl, rfl⟩) | (go_at_call 14; with_reducible refine Calls.mono (hp2 _) ?_; rintro e w3 ⟨rfl, rfl⟩) | (go_at_call 14; with_reducible refine Calls.mono (hp3 _) ?_; rintro e w3 ⟨rfl, rfl⟩) | fail)
    refine Calls.mono (hth _) ?_; rintro e x4 ⟨rfl, g4⟩
    have hb4 := bthen hb3' g4
    obtain ⟨k0, k1, k2, k3⟩ := keep4' k0 k1 k2 k3 g4 (by omega)
    have hsz4 : U < x4.heap.size := by have := g4.size; omega
    go_wp2_with fail
    refine Calls.mono (htm _) ?_; rintro e x5 ⟨rfl, g5⟩
    have hb5 := bthen hb4 g5
    obtain ⟨k0, k1, k2, k3⟩ := keep4' k0 k1 k2 k3 g5 (by omega)
    have hsz5 : U < x5.heap.size := by have := g5.size; omega
    go_wp2_with fail
    refine Calls.mono (hts _) ?_; rintro e x6 ⟨rfl, g6⟩
    have hb6 := bthen hb5 g6
    obtain ⟨k0, k1, k2, k3⟩ := keep4' k0 k1 k2 k3 g6 (by omega)
    have hsz6 : U < x6.heap.size := by have := g6.size; omega
    go_wp2_with fail
    refine Calls.mono (htf _) ?_; rintro e x7 ⟨rfl, g7⟩
    have hb7 := bthen hb6 g7
    obtain ⟨k0, k1, k2, k3⟩ := keep4' k0 k1 k2 k3 g7 (by omega)
    have hsz7 : U < x7.heap.size := by have := g7.size; omega
    go_wp2_with fail
    refine Calls.mono (hPr _ hb7) ?_; rintro e x8 ⟨rfl, g8⟩
    have hb7 := bthen hb7 g8
    obtain ⟨k0, k1, k2, k3⟩ := keep4' k0 k1 k2 k3 g8 (by omega)
    by_cases hdd : 0 < dd
    · have hsp := hsep1 hdd
      clear hsep0 hsep1 hPr
      rcases (by omega : ¬ s = 0 ∨ (s = 0 ∧ ¬ f < dd) ∨ (s = 0 ∧ f < dd ∧ m % 10 = 0) ∨ (s = 0 ∧ f < dd ∧ m % 10 ≠ 0)) with hz | hz | hz | hz
      · have hs0 : ((s : Int) == 0) = false := by rw [beq_eq_false_iff_ne]; omega
        have hd0 : decide (0 < dd) = true := decide_eq_true (by omega)
        have hd0' : decide ((0 : Int) < (dd : Int)) = true := decide_eq_true (by omega)
        have hO := HO.out.1 (by omega) (by omega)
        obtain ⟨ix, hO, hFm⟩ := hO
        rw [hO]
        clear HO hO hz
        simp only [numO, errO]
        go_wp2_with fail
        refine Calls.mono (hFm _ hb7) ?_; rintro e w8 ⟨rfl, g8⟩
        go_wp2
        go_ret
        exact ⟨rfl, bthen hb7 g8⟩
      · have hs0 : ((s : Int) == 0) = true := by rw [beq_iff_eq]; omega
        have hfd : decide (f < dd) = false := decide_eq_false (by omega)
        have hfd' : decide ((f : Int) < (dd : Int)) = false := decide_eq_false (by omega)
        have hd0 : decide (0 < dd) = true := decide_eq_true (by omega)
        have hd0' : decide ((0 : Int) < (dd : Int)) = true := decide_eq_true (by omega)
        have hO := HO.out.1 (by omega) (by omega)
        obtain ⟨ix, hO, hFm⟩ := hO
        rw [hO]
        clear HO hO hz
        simp only [numO, errO]
        go_wp2_with fail
        refine Calls.mono (hFm _ hb7) ?_; rintro e w8 ⟨rfl, g8⟩
        go_wp2
        go_ret
        exact ⟨rfl, bthen hb7 g8⟩
      · have hs0 : ((s : Int) == 0) = true := by rw [beq_iff_eq]; omega
        have hfd : decide (f < dd) = true := decide_eq_true (by omega)
        have hfd' : decide ((f : Int) < (dd : Int)) = true := decide_eq_true (by omega)
        have hm1 : (m : Int) % 10 = 0 := by omega
        have hm2 : (m : Int).tmod 10 = 0 := by rw [Int.tmod_eq_emod_of_nonneg (by omega)]; exact hm1
        have hd0 : decide (0 < dd) = true := decide_eq_true (by omega)
        have hd0' : decide ((0 : Int) < (dd : Int)) = true := decide_eq_true (by omega)
        have hO := HO.out.1 (by omega) (by omega)
        obtain ⟨ix, hO, hFm⟩ := hO
        rw [hO]
        clear HO hO hz
        simp only [numO, errO]
        go_wp2_with fail
        refine Calls.mono (hFm _ hb7) ?_; rintro e w8 ⟨rfl, g8⟩
        go_wp2
        go_ret
        exact ⟨rfl, bthen hb7 g8⟩
      · have hs0 : ((s : Int) == 0) = true := by rw [beq_iff_eq]; omega
        have hfd : decide (f < dd) = true := decide_eq_true (by omega)
        have hfd' : decide ((f : Int) < (dd : Int)) = true := decide_eq_true (by omega)
        obtain ⟨t, ht⟩ : ∃ t, m % 10 = t := ⟨_, rfl⟩
        have hm1 : (m : Int) % 10 = (t : Int) := by omega
        have hm2 : (m : Int).tmod 10 = (t : Int) := by rw [Int.tmod_eq_emod_of_nonneg (by omega)]; exact hm1
        have hm3 : ((t : Int) == 0) = false := by rw [beq_eq_false_iff_ne]; omega
        have hm4 : ((t : Int) != 0) = true := bneT (by omega)
        have hd0 : decide (0 < dd) = true := decide_eq_true (by omega)
        have hd0' : decide ((0 : Int) < (dd : Int)) = true := decide_eq_true (by omega)
        have hO := HO.out.2 (by omega)
        rw [hO]
        clear HO hO hz ht
        simp only [numO, errO]
        go_wp2
        go_ret
        exact ⟨rfl, hb7⟩
    · have hsp := hsep0 hdd
      clear hsep0 hsep1 hPr
      rcases (by omega : ¬ s = 0 ∨ (s = 0 ∧ ¬ f < dd)) with hz | hz
      · have hs0 : ((s : Int) == 0) = false := by rw [beq_eq_false_iff_ne]; omega
        have hd0 : decide (0 < dd) = false := decide_eq_false (by omega)
        have hd0' : decide ((0 : Int) < (dd : Int)) = false := decide_eq_false (by omega)
        have hO := HO.out.2 (by omega)
        rw [hO]
        clear HO hO hz
        simp only [numO, errO]
        go_wp2
        go_ret
        exact ⟨rfl, hb7⟩
      · have hs0 : ((s : Int) == 0) = true := by rw [beq_iff_eq]; omega
        have hfd : decide (f < dd) = false := decide_eq_false (by omega)
        have hfd' : decide ((f : Int) < (dd : Int)) = false := decide_eq_false (by omega)
        have hd0 : decide (0 < dd) = false := decide_eq_false (by omega)
        have hd0' : decide ((0 : Int) < (dd : Int)) = false := decide_eq_false (by omega)
        have hO := HO.out.2 (by omega)
        rw [hO]
        clear HO hO hz
        simp only [numO, errO]
        go_wp2
        go_ret
        exact ⟨rfl, hb7⟩
end Go.Proofs.YtaffipbflghbiaaDoor

/- TimecodeRoundTrip -/
import Derived.Test.YtfpmmfoinjcclaaDoorTcText
namespace Go.Proofs.YtfpmmfoinjcclaaDoor
open Go.RowKit

/-- A rate's row, read in the law's own variable. -/
theorem keep4' {w8 w9 : World} {B : Nat} {a b c d : Int} (h0 : w8.cell? ⟨B, 0, none⟩ = some (iv a)) (h1 : w8.cell? ⟨B, 1, none⟩ = some (iv b)) (h2 : w8.cell? ⟨B, 2, none⟩ = some (iv c)) (h3 : w8.cell? ⟨B, 3, none⟩ = some (iv d)) (hb : Below w8.heap.size w8 w9) (hB : B < w8.heap.size) :
    w9.cell? ⟨B, 0, none⟩ = some (iv a) ∧ w9.cell? ⟨B, 1, none⟩ = some (iv b) ∧ w9.cell? ⟨B, 2, none⟩ = some (iv c) ∧ w9.cell? ⟨B, 3, none⟩ = some (iv d) :=
  ⟨(hb.cell (p := ⟨B, 0, none⟩) hB).trans h0, (hb.cell (p := ⟨B, 1, none⟩) hB).trans h1, (hb.cell (p := ⟨B, 2, none⟩) hB).trans h2, (hb.cell (p := ⟨B, 3, none⟩) hB).trans h3⟩
theorem box4r (w : World) (a b c d : Int) : ∃ W0, w.alloc (.cells #[iv a, iv b, iv c, iv d] 39) = W0 ∧ Below w.heap.size w W0 ∧ W0.heap.size = w.heap.size + 1 ∧
    W0.cell? ⟨w.heap.size, 0, none⟩ = some (iv a) ∧ W0.cell? ⟨w.heap.size, 1, none⟩ = some (iv b) ∧ W0.cell? ⟨w.heap.size, 2, none⟩ = some (iv c) ∧ W0.cell? ⟨w.heap.size, 3, none⟩ = some (iv d) :=
  have k := Arr.new w 39 [iv a, iv b, iv c, iv d]
  ⟨_, rfl, (Below.refl _ _).alloc (Nat.le_refl _) _, by simp, k.cell rfl, k.cell rfl, k.cell rfl, k.cell rfl⟩
def cut40 (s : ByteArray) : ByteArray := s.extract 0 (min (s.size : Int) 40).toNat

set_option maxRecDepth 100000 in
set_option maxHeartbeats 2000000 in
theorem round_law (c n : Int) (s : ByteArray) (w : World) (c1 : -9223372036854775808 ≤ c) (c2 : c ≤ 9223372036854775807) (n1 : -9223372036854775808 ≤ n) (n2 : n ≤ 9223372036854775807) (hs : s.size ≤ maxLen) (hF : FmtAt w) :
    Calls Tryd.prog 5 #[.int .i64 c, .int .i64 n, .string s] w fun e w' => e = .returned (.bool true) ∧ Below w.heap.size w w' := by
  have HF := fun W (hb : Below w.heap.size w W) => hF.below hb
  obtain ⟨i, x, hi8, hxi, hx, -, hrate⟩ := law_rate c c1 c2
  obtain ⟨k, hk, hpk⟩ := law_pick n 100000001 n1 n2 (by decide) (by decide)
  obtain ⟨-, -, -, -, x5, x6, x7⟩ := rt_bd hx
  obtain ⟨y1, y2⟩ := day_pos hx
  have hD : x.day + 1296 * x.drop = 86400 * x.base := by unfold Rt.day; omega
  have hday := fun W => refDay_any x.num x.den x.base x.drop x.day W x6 (by omega) x7 hD
  have hfind := fun W => refFind_ok i hi8 W
  rw [← hxi] at hfind
  have hF1 := fun W (hb : Below w.heap.size w W) => format_ok x hx k (by omega) W (HF W hb)
  have hkD : k % x.day < x.day := Nat.mod_lt _ y1
  have hP1 := fun W (hb : Below w.heap.size w W) => parse_any x hx (strN (fmtL x (k % x.day))) (by rw [strN_size (fmtL_lt hx hkD), fmt_len]; unfold maxLen; omega) W (HF W hb)
  simp only [parse_of_fmt hx hkD, numO, errO] at hP1
  obtain ⟨t, ht⟩ : ∃ t, strN (fmtL x (k % x.day)) = t := ⟨_, rfl⟩
  rw [ht] at hF1 hP1
  obtain ⟨idx, hidx⟩ : ∃ idx, k % x.day = idx := ⟨_, rfl⟩
  rw [hidx] at hP1
  have e1 : (k : Int) % (x.day : Int) = (idx : Int) := by rw [← Int.natCast_emod, hidx]
  have e2 : (k : Int).tmod (x.day : Int) = (idx : Int) := by rw [Int.tmod_eq_emod_of_nonneg (by omega)]; exact e1
  have D0 : ¬ x.day = 0 := by omega
  have D1 : ((x.day : Int) == 0) = false := by rw [beq_eq_false_iff_ne]; omega
  have e3 : IntKind.i64.wrap (idx : Int) = (idx : Int) := w64 (by omega) (by omega)
  have e4 : ((idx : Int) != (idx : Int)) = false := bneF rfl
  obtain ⟨sc, hsc⟩ : ∃ sc, cut40 s = sc := ⟨_, rfl⟩
  have hscl : sc.size ≤ maxLen := by rw [← hsc]; unfold cut40 maxLen; rw [ByteArray.size_extract]; omega
  have hP2 := fun W (hb : Below w.heap.size w W) => parse_any x hx sc hscl W (HF W hb)
  have HSC : Hid (cut40 s = sc) := Lib.hid hsc
  have hsc' : s.extract 0 (min (s.size : Int) 40).toNat = sc := hsc
  unfold maxLen at hs
  have i1 : (0 : Int) ≤ min (s.size : Int) 40 := by omega
  have i2 : min (s.size : Int) 40 ≤ (s.size : Int) := by omega
  have hfmt2 : ∀ m, parseO x sc = some m → m < x.day ∧ strN (fmtL x (m % x.day)) = sc := fun m h => fmt_of_parse hx h
  have hF2 := fun m (hm : m < x.day) W (hb : Below w.heap.size w W) => format_ok x hx m (by omega) W (HF W hb)
  have HQ := Lib.hid (And.intro hfmt2 hF2)
  clear hfmt2 hF2 hsc ht hidx hkD y1 y2 hscl hxi hD
  have hO : (∃ m, parseO x sc = some m) ∨ parseO x sc = none := by cases parseO x sc <;> simp
  unfold Rt.val Rt.row at *
  clear hx
  generalize x.day = D at *
  generalize x.num = a at *
  generalize x.den = b at *
  generalize x.base = bb at *
  generalize x.drop = dd at *
  go_enter Tryd.func5, Tryd.ntmps5
  go_wp2_with fail
  refine Calls.mono (sane_any _ hF) ?_; rintro e w1 ⟨rfl, g1⟩
  go_wp2_with fail
  refine Calls.mono (hrate _) ?_; rintro e w2 ⟨rfl, g2⟩
  have hb2 := bthen g1 g2
  go_wp2_with (first | (go_at_call 14; with_reducible refine Calls.mono (hpk _) ?_; rintro e w3 ⟨rfl, rfl⟩) | fail)
  obtain ⟨w3, hW3, hb3, hsz3, k0, k1⟩ := box2 w2 a b
  rw [hW3]; clear hW3
  have hb3' := bthen hb2 hb3
  obtain ⟨T, hT⟩ : ∃ T, w2.heap.size = T := ⟨_, rfl⟩
  rw [hT] at k0 k1 hsz3 ⊢
  clear hT
  refine Calls.mono (hfind _) ?_; rintro e w4 ⟨rfl, g4⟩
  have hb4 := bthen hb3' g4
  obtain ⟨k0, k1⟩ := keep2 k0 k1 g4 (by omega)
  have hsz4 : T < w4.heap.size := by have := g4.size; omega
  obtain ⟨w5, hW5, hb5, hsz5, l0, l1, l2, l3⟩ := box4r w4 a b bb dd
  obtain ⟨k0, k1⟩ := keep2 k0 k1 hb5 hsz4
  have hb5' := bthen hb4 hb5
  go_wp2_with fail
  clear hW5
  obtain ⟨U, hU⟩ : ∃ U, w4.heap.size = U := ⟨_, rfl⟩
  rw [hU] at l0 l1 l2 l3 hsz5 hsz4 ⊢
  clear hU
  refine Calls.mono (hF1 _ hb5') ?_; rintro e w6 ⟨rfl, g6⟩
  have hb6 := bthen hb5' g6
  obtain ⟨k0, k1⟩ := keep2 k0 k1 g6 (by omega)
  obtain ⟨l0, l1, l2, l3⟩ := keep4' l0 l1 l2 l3 g6 (by omega)
  have hsz6 : U < w6.heap.size := by have := g6.size; omega
  go_wp2_with fail
  refine Calls.mono (hP1 _ hb6) ?_; rintro e w7 ⟨rfl, g7⟩
  have hb7 := bthen hb6 g7
  obtain ⟨k0, k1⟩ := keep2 k0 k1 g7 (by omega)
  obtain ⟨l0, l1, l2, l3⟩ := keep4' l0 l1 l2 l3 g7 (by omega)
  have hsz7 : U < w7.heap.size := by have := g7.size; omega
  go_wp2_with fail
  refine Calls.mono (hday _) ?_; rintro e w8 ⟨rfl, g8⟩
  have hb8 := bthen hb7 g8
  obtain ⟨k0, k1⟩ := keep2 k0 k1 g8 (by omega)
  have hsz8 : U < w8.heap.size := by have := g8.size; omega
  have HSZ := HSC.out
  unfold cut40 at HSZ
  by_cases h40 : 40 < s.size
  · have h40i : (40 : Int) < (s.size : Int) := by omega
    have h40d : decide ((40 : Int) < (s.size : Int)) = true := decide_eq_true h40i
    have h40n : decide (40 < s.size) = true := decide_eq_true h40
    have hcut : s.extract 0 40 = sc := by rw [← HSZ, show (min (s.size : Int) 40).toNat = 40 by omega]
    have j1 : (40 : Int) ≤ (s.size : Int) := by omega
    clear HSC HSZ hsc' i1 i2
    go_wp2_with fail
    refine Calls.mono (hP2 _ hb8) ?_; rintro e w9 ⟨rfl, g9⟩
    have hb9 := bthen hb8 g9
    obtain ⟨k0, k1⟩ := keep2 k0 k1 g9 (by omega)
    have hsz9 : U < w9.heap.size := by have := g9.size; omega
    rcases hO with ⟨m, hm⟩ | hm
    · obtain ⟨m1, m2⟩ := HQ.out.1 m hm
      have hF2 := HQ.out.2 m m1
      rw [m2] at hF2
      rw [hm]
      clear hm HQ m1 m2 hP2
      simp only [numO, errO]
      go_wp2_with fail
      refine Calls.mono (hF2 _ hb9) ?_; rintro e w10 ⟨rfl, g10⟩
      go_wp2
      go_ret
      exact ⟨rfl, bthen hb9 g10⟩
    · have hF2 := HQ.out.2 0 (by have := D0; omega)
      obtain ⟨u, hu⟩ : ∃ u, strN (fmtL x (0 % D)) = u := ⟨_, rfl⟩
      rw [hu] at hF2
      rw [hm]
      clear hm HQ hu hP2
      simp only [numO, errO]
      go_wp2_with fail
      refine Calls.mono (hF2 _ hb9) ?_; rintro e w10 ⟨rfl, g10⟩
      go_wp2
      go_ret
      exact ⟨rfl, bthen hb9 g10⟩
  · have h40i : ¬ (40 : Int) < (s.size : Int) := by omega
    have h40d : decide ((40 : Int) < (s.size : Int)) = false := decide_eq_false h40i
    have h40n : decide (40 < s.size) = false := decide_eq_false h40
    have hcut : s = sc := by rw [← HSZ, show (min (s.size : Int) 40).toNat = s.size by omega, ByteArray.extract_zero_size]
    clear HSC HSZ hsc' i1 i2
    subst hcut
    go_wp2_with fail
    refine Calls.mono (hP2 _ hb8) ?_; rintro e w9 ⟨rfl, g9⟩
    have hb9 := bthen hb8 g9
    obtain ⟨k0, k1⟩ := keep2 k0 k1 g9 (by omega)
    have hsz9 : U < w9.heap.size := by have := g9.size; omega
    rcases hO with ⟨m, hm⟩ | hm
    · obtain ⟨m1, m2⟩ := HQ.out.1 m hm
      have hF2 := HQ.out.2 m m1
      rw [m2] at hF2
      rw [hm]
      clear hm HQ m1 m2 hP2
      simp only [numO, errO]
      go_wp2_with fail
      refine Calls.mono (hF2 _ hb9) ?_; rintro e w10 ⟨rfl, g10⟩
      go_wp2
      go_ret
      exact ⟨rfl, bthen hb9 g10⟩
    · have hF2 := HQ.out.2 0 (by have := D0; omega)
      obtain ⟨u, hu⟩ : ∃ u, strN (fmtL x (0 % D)) = u := ⟨_, rfl⟩
      rw [hu] at hF2
      rw [hm]
      clear hm HQ hu hP2
      simp only [numO, errO]
      go_wp2_with fail
      refine Calls.mono (hF2 _ hb9) ?_; rintro e w10 ⟨rfl, g10⟩
      go_wp2
      go_ret
      exact ⟨rfl, bthen hb9 g10⟩
end Go.Proofs.YtfpmmfoinjcclaaDoor

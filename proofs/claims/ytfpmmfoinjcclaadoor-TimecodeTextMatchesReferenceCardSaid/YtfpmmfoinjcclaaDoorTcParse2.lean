/- Parse, where the separators are right. -/
import Derived.Test.YtfpmmfoinjcclaaDoorTcParse
namespace Go.Proofs.YtfpmmfoinjcclaaDoor
open Go.RowKit

theorem parse_numZ {x : Rt} {l : List Nat} (hl : ∀ y ∈ l, y < 256) (hsp : l.getD 2 0 = 58 ∧ l.getD 5 0 = 58 ∧ l.getD 8 0 = x.sep) :
    parseZ x l = if ((numZ (l.getD 0 0) (l.getD 1 0) 24).2 = true ∧ (numZ (l.getD 3 0) (l.getD 4 0) 60).2 = true ∧ (numZ (l.getD 6 0) (l.getD 7 0) 60).2 = true ∧ (numZ (l.getD 9 0) (l.getD 10 0) x.base).2 = true) then
      (if (numZ (l.getD 3 0) (l.getD 4 0) 60).1 % 10 ≠ 0 ∧ (numZ (l.getD 6 0) (l.getD 7 0) 60).1 = 0 ∧ (numZ (l.getD 9 0) (l.getD 10 0) x.base).1 < x.drop then none
       else some (indexZ x (60 * (numZ (l.getD 0 0) (l.getD 1 0) 24).1 + (numZ (l.getD 3 0) (l.getD 4 0) 60).1) (numZ (l.getD 6 0) (l.getD 7 0) 60).1 (numZ (l.getD 9 0) (l.getD 10 0) x.base).1)) else none := by
  unfold parseZ
  rw [if_pos hsp]
  have g := fun i => getD_lt hl (by decide) i
  rw [num2_numZ (g 0) (g 1), num2_numZ (g 3) (g 4), num2_numZ (g 6) (g 7), num2_numZ (g 9) (g 10)]
  generalize numZ (l.getD 0 0) (l.getD 1 0) 24 = A
  generalize numZ (l.getD 3 0) (l.getD 4 0) 60 = B
  generalize numZ (l.getD 6 0) (l.getD 7 0) 60 = C
  generalize numZ (l.getD 9 0) (l.getD 10 0) x.base = D
  obtain ⟨A1, A2⟩ := A
  obtain ⟨B1, B2⟩ := B
  obtain ⟨C1, C2⟩ := C
  obtain ⟨D1, D2⟩ := D
  cases A2 <;> cases B2 <;> cases C2 <;> cases D2 <;> simp
theorem numZ_lt {a b lim : Nat} (h : (numZ a b lim).2 = true) : (numZ a b lim).1 < lim := by
  unfold numZ at *
  split at h <;> simp_all

set_option maxRecDepth 100000 in
set_option maxHeartbeats 4000000 in
theorem parse_sepok (x : Rt) (hx : x ∈ rtL) (s : ByteArray) (hs : s.size = 11) (hsp : (nb s).getD 2 0 = 58 ∧ (nb s).getD 5 0 = 58 ∧ (nb s).getD 8 0 = x.sep) (w : World) (hF : FmtAt w) :
    Calls Tryd.prog 27 #[x.val, .string s] w fun e w' => e = .returned (.tuple #[.int .i64 (match parseZ x (nb s) with | some n => (n : Int) | none => 0), .int .i64 (match parseZ x (nb s) with | some _ => 0 | none => 30)]) ∧ Below w.heap.size w w' := by
  have hz : s.size ≤ maxLen := by unfold maxLen; omega
  have hn5 := fun W => number_any s 0 24 0 24 rfl rfl (by decide) (by omega) hz W
  have hn6 := fun W => number_any s 3 60 3 60 rfl rfl (by decide) (by omega) hz W
  have hn7 := fun W => number_any s 6 60 6 60 rfl rfl (by decide) (by omega) hz W
  have hn8 := fun W => number_any s 9 (x.base : Int) 9 x.base rfl rfl (by have := rt_bd hx; omega) (by omega) hz W
  have hpz := parse_numZ (x := x) (nb_lt s) hsp
  have hpeq : ∀ m s f, m < 1440 → s < 60 → f < x.base → (s = 0 → f < x.drop → m % 10 = 0) → x.drop * ((m + 1) - ((m + 1) + 9) / 10) ≤ m * x.minute + s * x.base + f ∧ indexZ x m s f = m * x.minute + s * x.base + f - x.drop * ((m + 1) - ((m + 1) + 9) / 10) :=
    fun m s f h1 h2 h3 h4 => ⟨(count_of hx h1 h2 h3 h4).2.1, rfl⟩
  have hfind := fun W (h : Below w.heap.size w W) => find_ok x hx W (hF.below h)
  obtain ⟨-, -, -, -, x5, x6, x7⟩ := rt_bd hx
  have hsep := fun W => sep_any x.num x.den x.base x.drop W
  have hpe : (if 0 < x.drop then (59 : Int) else 58) = ((x.sep : Nat) : Int) := by unfold Rt.sep; split <;> rfl
  rw [hpe] at hsep
  unfold maxLen at hz
  have q2 : 2 < s.size := by omega
  have hb2' := byte_at q2
  have q5 : 5 < s.size := by omega
  have hb5' := byte_at q5
  have q8 : 8 < s.size := by omega
  have hb8' := byte_at q8
  rw [hsp.1] at hb2'
  rw [hsp.2.1] at hb5'
  rw [hsp.2.2] at hb8'
  have hl1 := numZ_lt (a := (nb s).getD 0 0) (b := (nb s).getD 1 0) (lim := 24)
  have hl2 := numZ_lt (a := (nb s).getD 3 0) (b := (nb s).getD 4 0) (lim := 60)
  have hl3 := numZ_lt (a := (nb s).getD 6 0) (b := (nb s).getD 7 0) (lim := 60)
  have hl4 := numZ_lt (a := (nb s).getD 9 0) (b := (nb s).getD 10 0) (lim := x.base)
  obtain ⟨P, hP⟩ : ∃ P, parseZ x (nb s) = P := ⟨_, rfl⟩
  rw [hP]; rw [hP] at hpz
  clear hP hsp
  generalize numZ ((nb s).getD 0 0) ((nb s).getD (0 + 1) 0) 24 = A at *
  generalize numZ ((nb s).getD 3 0) ((nb s).getD (3 + 1) 0) 60 = B at *
  generalize numZ ((nb s).getD 6 0) ((nb s).getD (6 + 1) 0) 60 = C at *
  generalize numZ ((nb s).getD 9 0) ((nb s).getD (9 + 1) 0) x.base = D at *
  obtain ⟨h, hk⟩ := A
  obtain ⟨m, mk⟩ := B
  obtain ⟨u, uk⟩ := C
  obtain ⟨f, fk⟩ := D
  simp only at hn5 hn6 hn7 hn8 hpz hl1 hl2 hl3 hl4
  obtain ⟨M, hM⟩ : ∃ M, x.minute = M := ⟨_, rfl⟩
  have hM' : M = 60 * x.base := hM.symm
  rw [hM] at hpeq
  have hmin := fun W => minute_any x.num x.den x.base x.drop M W x6 hM'
  obtain ⟨ix, hix⟩ : ∃ ix, indexZ x = ix := ⟨_, rfl⟩
  rw [hix] at hpeq hpz
  have HP := Lib.hid hpz; clear hpz
  have HE := Lib.hid hpeq; clear hpeq
  have HM := Lib.hid hM'; clear hM'
  clear hM hix
  unfold Rt.val Rt.row at *
  clear hpe hx hF
  generalize x.sep = p at *
  generalize x.num = a at *
  generalize x.den = b at *
  generalize x.base = c at *
  generalize x.drop = d at *
  clear x
  go_enter Tryd.func27, Tryd.ntmps27
  go_wp2_with fail
  obtain ⟨W0, hW0, hb0, hsz, k0, k1⟩ := box2 w a b
  rw [hW0]; clear hW0
  refine Calls.mono (hfind _ hb0) ?_; rintro e W1 ⟨rfl, b1⟩
  have hb01 := bthen hb0 b1
  obtain ⟨W2, hW2, hb2, hsz2, k0, k1, k2, k3⟩ := box4 W1 a b c d
  have hb02 := bthen hb01 hb2
  go_wp2_with fail
  clear hW2
  obtain ⟨T6, hT6⟩ : ∃ T6, W1.heap.size = T6 := ⟨_, rfl⟩
  rw [hT6] at k0 k1 k2 k3 hsz2 ⊢
  have hlt6 : T6 < W2.heap.size := by omega
  have hS2d : W2.drew.cell? ⟨T6, 0, none⟩ = some (iv a) ∧ W2.drew.cell? ⟨T6, 1, none⟩ = some (iv b) ∧ W2.drew.cell? ⟨T6, 2, none⟩ = some (iv c) ∧ W2.drew.cell? ⟨T6, 3, none⟩ = some (iv d) ∧ Below W2.heap.size W2 W2.drew := ⟨k0, k1, k2, k3, (Below.refl _ _).drew⟩
  go_region_held3 (fun w' => w'.cell? ⟨T6, 0, none⟩ = some (iv a) ∧ w'.cell? ⟨T6, 1, none⟩ = some (iv b) ∧ w'.cell? ⟨T6, 2, none⟩ = some (iv c) ∧ w'.cell? ⟨T6, 3, none⟩ = some (iv d) ∧ Below W2.heap.size W2 w') (first | assumption | exact hS2d | exact held4 hlt6 (by assumption) b4 | fail)
    (first | (go_at_call 42; with_reducible refine Calls.mono (hsep _) ?_; rintro e w4 ⟨rfl, b4⟩) | fail)
  all_goals
    have hS4 := (show w4.cell? ⟨T6, 0, none⟩ = some (iv a) ∧ w4.cell? ⟨T6, 1, none⟩ = some (iv b) ∧ w4.cell? ⟨T6, 2, none⟩ = some (iv c) ∧ w4.cell? ⟨T6, 3, none⟩ = some (iv d) ∧ Below W2.heap.size W2 w4 by assumption)
    obtain ⟨k0, k1, k2, k3, hb24⟩ := id hS4
    go_wp2_with (go_at_call 45; with_reducible refine Calls.mono (hn5 _) ?_; rintro e w5 ⟨rfl, n5⟩)
    have hS5 := held4 hlt6 hS4 n5
    refine Calls.mono (hn6 _) ?_; rintro e w6 ⟨rfl, n6⟩
    have hS6 := held4 hlt6 hS5 n6
    go_wp2_with fail
    refine Calls.mono (hn7 _) ?_; rintro e w7 ⟨rfl, n7⟩
    have hS7 := held4 hlt6 hS6 n7
    clear k0 k1 k2 k3 hS4 hS5 hS6
    obtain ⟨k0, k1, k2, k3, hb27⟩ := id hS7
    go_wp2_with fail
    refine Calls.mono (hn8 _) ?_; rintro e w8 ⟨rfl, n8⟩
    have hS8 := held4 hlt6 hS7 n8
    clear k0 k1 k2 k3 hS7 hb27
    obtain ⟨k0, k1, k2, k3, hb28⟩ := hS8
    clear hn5 hn6 hn7 hn8 n5 n6 n7 n8
    cases hk
    · clear hl1 hl2 hl3 hl4
      have hPn : P = none := by rw [HP.out, if_neg (by simp)]
      clear HP
      subst hPn
      go_wp2
      go_ret2
      exact ⟨rfl, hb02.trans (hb28.mono hb02.size)⟩
    cases mk
    · clear hl1 hl2 hl3 hl4
      have hPn : P = none := by rw [HP.out, if_neg (by simp)]
      clear HP
      subst hPn
      go_wp2
      go_ret2
      exact ⟨rfl, hb02.trans (hb28.mono hb02.size)⟩
    cases uk
    · clear hl1 hl2 hl3 hl4
      have hPn : P = none := by rw [HP.out, if_neg (by simp)]
      clear HP
      subst hPn
      go_wp2
      go_ret2
      exact ⟨rfl, hb02.trans (hb28.mono hb02.size)⟩
    cases fk
    · clear hl1 hl2 hl3 hl4
      have hPn : P = none := by rw [HP.out, if_neg (by simp)]
      clear HP
      subst hPn
      go_wp2
      go_ret2
      exact ⟨rfl, hb02.trans (hb28.mono hb02.size)⟩
    have h24 := hl1 rfl
    have m60 := hl2 rfl
    have u60 := hl3 rfl
    have fc := hl4 rfl
    clear hl1 hl2 hl3 hl4
    have HQ : Hid (P = if m % 10 ≠ 0 ∧ u = 0 ∧ f < d then none else some (ix (60 * h + m) u f)) := Lib.hid (by rw [HP.out, if_pos (by simp)])
    by_cases hdr : m % 10 ≠ 0 ∧ u = 0 ∧ f < d
    · have hPn : P = none := by rw [HQ.out, if_pos hdr]
      clear HP HQ
      subst hPn
      obtain ⟨hm10, hu0, hfd⟩ := hdr
      subst hu0
      obtain ⟨t, ht⟩ : ∃ t, m % 10 = t := ⟨_, rfl⟩
      have e1 : (m : Int) % 10 = (t : Int) := by omega
      have e2 : (m : Int).tmod 10 = (t : Int) := by rw [Int.tmod_eq_emod_of_nonneg (by omega)]; exact e1
      have t0 : ((t : Int) == 0) = false := by rw [beq_eq_false_iff_ne]; omega
      have t1 : ((t : Int) != 0) = true := by rw [bne, t0]; rfl
      have t2 : ¬ t = 0 := by omega
      have f1 : decide ((f : Int) < (d : Int)) = true := by simp; omega
      clear ht hm10
      go_wp2
      go_ret2
      exact ⟨rfl, hb02.trans (hb28.mono hb02.size)⟩
    · have hPs : P = some (ix (60 * h + m) u f) := by rw [HQ.out, if_neg hdr]
      obtain ⟨mm, hmm⟩ : ∃ mm, 60 * h + m = mm := ⟨_, rfl⟩
      have hE := HE.out mm u f (by omega) u60 fc (by intro h1 h2; omega)
      rw [hmm] at hPs
      obtain ⟨Z, hZ⟩ : ∃ Z, ix mm u f = Z := ⟨_, rfl⟩
      rw [hZ] at hPs hE
      clear hZ
      clear HP HQ HE
      subst hPs
      have hM3 := HM.out
      have g1 : IntKind.i64.wrap (60 * (h : Int)) = 60 * (h : Int) := w64 (by omega) (by omega)
      have g2 : IntKind.i64.wrap (60 * (h : Int) + (m : Int)) = (mm : Int) := by rw [w64 (by omega) (by omega)]; omega
      have g2' : 60 * (h : Int) + (m : Int) = (mm : Int) := by omega
      have hmmb : mm ≤ 1439 := by omega
      have pb1 := prod_le hmmb (show M ≤ 3600 by omega)
      obtain ⟨P1, hP1⟩ : ∃ P1, mm * M = P1 := ⟨_, rfl⟩
      rw [hP1] at pb1 hE
      have g3 := wprod hP1 (by omega)
      have pb2 := prod_le (show u ≤ 59 by omega) x6
      obtain ⟨P2, hP2⟩ : ∃ P2, u * c = P2 := ⟨_, rfl⟩
      rw [hP2] at pb2 hE
      have g4 := wprod hP2 (by omega)
      have g5 : IntKind.i64.wrap ((P1 : Int) + (P2 : Int)) = (P1 : Int) + (P2 : Int) := w64 (by omega) (by omega)
      have g6 : IntKind.i64.wrap ((P1 : Int) + (P2 : Int) + (f : Int)) = (P1 : Int) + (P2 : Int) + (f : Int) := w64 (by omega) (by omega)
      obtain ⟨m1, hm1⟩ : ∃ m1, mm + 1 = m1 := ⟨_, rfl⟩
      rw [hm1] at hE
      have g7 : IntKind.i64.wrap ((mm : Int) + 1) = (m1 : Int) := by rw [w64 (by omega) (by omega)]; omega
      have hdrp := fun W => dropped_any a b c d m1 W x7 (by omega)
      obtain ⟨E, hEE⟩ : ∃ E, d * (m1 - (m1 + 9) / 10) = E := ⟨_, rfl⟩
      rw [hEE] at hE hdrp
      have g8 : IntKind.i64.wrap ((P1 : Int) + (P2 : Int) + (f : Int) - (E : Int)) = (Z : Int) := by rw [w64 (by omega) (by omega)]; omega
      have hP2' := Lib.hid hP2
      clear hE hEE hm1 hP1 hP2 hM3
      rcases Nat.eq_zero_or_pos (m % 10) with hm10 | hm10
      · have e1 : (m : Int) % 10 = 0 := by omega
        have e2 : (m : Int).tmod 10 = 0 := by rw [Int.tmod_eq_emod_of_nonneg (by omega)]; exact e1
        clear hm10 hdr hmm
        go_wp2_with fail
        have hS8d : w8.drew.cell? ⟨T6, 0, none⟩ = some (iv a) ∧ w8.drew.cell? ⟨T6, 1, none⟩ = some (iv b) ∧ w8.drew.cell? ⟨T6, 2, none⟩ = some (iv c) ∧ w8.drew.cell? ⟨T6, 3, none⟩ = some (iv d) ∧ Below W2.heap.size W2 w8.drew := ⟨k0, k1, k2, k3, hb28.drew⟩
        go_region_held3 (fun w' => w'.cell? ⟨T6, 0, none⟩ = some (iv a) ∧ w'.cell? ⟨T6, 1, none⟩ = some (iv b) ∧ w'.cell? ⟨T6, 2, none⟩ = some (iv c) ∧ w'.cell? ⟨T6, 3, none⟩ = some (iv d) ∧ Below W2.heap.size W2 w') (first | assumption | exact hS8d | exact held4 hlt6 (by assumption) b10 | exact held4 hlt6 (by assumption) b9 | fail)
          (first | (go_at_call 46; with_reducible refine Calls.mono (hmin _) ?_; rintro e w9 ⟨rfl, b9⟩) | (go_at_call 39; with_reducible refine Calls.mono (hdrp _) ?_; rintro e w10 ⟨rfl, b10⟩) | fail)
        all_goals
          have hz9 := (show w10.cell? ⟨T6, 0, none⟩ = some (iv a) ∧ w10.cell? ⟨T6, 1, none⟩ = some (iv b) ∧ w10.cell? ⟨T6, 2, none⟩ = some (iv c) ∧ w10.cell? ⟨T6, 3, none⟩ = some (iv d) ∧ Below W2.heap.size W2 w10 by assumption).2.2.2.2
          go_wp2
          go_ret2
          exact ⟨rfl, hb02.trans (hz9.mono hb02.size)⟩
      · obtain ⟨t, ht⟩ : ∃ t, m % 10 = t := ⟨_, rfl⟩
        rw [ht] at hm10 hdr
        have e1 : (m : Int) % 10 = (t : Int) := by omega
        have e2 : (m : Int).tmod 10 = (t : Int) := by rw [Int.tmod_eq_emod_of_nonneg (by omega)]; exact e1
        have t0 : ((t : Int) == 0) = false := by rw [beq_eq_false_iff_ne]; omega
        have t1 : ((t : Int) != 0) = true := by rw [bne, t0]; rfl
        have t2 : ¬ t = 0 := by omega
        by_cases hu0 : u = 0
        · have hfd : ¬ f < d := by omega
          have f1 : decide ((f : Int) < (d : Int)) = false := by simp; omega
          subst hu0
          obtain rfl : P2 = 0 := by have := hP2'.out; omega
          clear hP2'
          have j1 : IntKind.i64.wrap 0 = 0 := w64 (by omega) (by omega)
          have j2 : IntKind.i64.wrap (P1 : Int) = (P1 : Int) := w64 (by omega) (by omega)
          have j3 : IntKind.i64.wrap ((P1 : Int) + (f : Int)) = (P1 : Int) + (f : Int) := w64 (by omega) (by omega)
          have j4 : IntKind.i64.wrap ((P1 : Int) + (f : Int) - (E : Int)) = (Z : Int) := by rw [← g8]; congr 1
          clear ht hm10 hdr hmm
          go_wp2_with fail
          have hS8d : w8.drew.cell? ⟨T6, 0, none⟩ = some (iv a) ∧ w8.drew.cell? ⟨T6, 1, none⟩ = some (iv b) ∧ w8.drew.cell? ⟨T6, 2, none⟩ = some (iv c) ∧ w8.drew.cell? ⟨T6, 3, none⟩ = some (iv d) ∧ Below W2.heap.size W2 w8.drew := ⟨k0, k1, k2, k3, hb28.drew⟩
          go_region_held3 (fun w' => w'.cell? ⟨T6, 0, none⟩ = some (iv a) ∧ w'.cell? ⟨T6, 1, none⟩ = some (iv b) ∧ w'.cell? ⟨T6, 2, none⟩ = some (iv c) ∧ w'.cell? ⟨T6, 3, none⟩ = some (iv d) ∧ Below W2.heap.size W2 w') (first | assumption | exact hS8d | exact held4 hlt6 (by assumption) b10 | exact held4 hlt6 (by assumption) b9 | fail)
            (first | (go_at_call 46; with_reducible refine Calls.mono (hmin _) ?_; rintro e w9 ⟨rfl, b9⟩) | (go_at_call 39; with_reducible refine Calls.mono (hdrp _) ?_; rintro e w10 ⟨rfl, b10⟩) | fail)
          all_goals
            have hz9 := (show w10.cell? ⟨T6, 0, none⟩ = some (iv a) ∧ w10.cell? ⟨T6, 1, none⟩ = some (iv b) ∧ w10.cell? ⟨T6, 2, none⟩ = some (iv c) ∧ w10.cell? ⟨T6, 3, none⟩ = some (iv d) ∧ Below W2.heap.size W2 w10 by assumption).2.2.2.2
            go_wp2
            go_ret2
            exact ⟨rfl, hb02.trans (hz9.mono hb02.size)⟩
        · have u1 : ((u : Int) == 0) = false := by rw [beq_eq_false_iff_ne]; omega
          clear ht hm10 hdr hmm
          go_wp2_with fail
          have hS8d : w8.drew.cell? ⟨T6, 0, none⟩ = some (iv a) ∧ w8.drew.cell? ⟨T6, 1, none⟩ = some (iv b) ∧ w8.drew.cell? ⟨T6, 2, none⟩ = some (iv c) ∧ w8.drew.cell? ⟨T6, 3, none⟩ = some (iv d) ∧ Below W2.heap.size W2 w8.drew := ⟨k0, k1, k2, k3, hb28.drew⟩
          go_region_held3 (fun w' => w'.cell? ⟨T6, 0, none⟩ = some (iv a) ∧ w'.cell? ⟨T6, 1, none⟩ = some (iv b) ∧ w'.cell? ⟨T6, 2, none⟩ = some (iv c) ∧ w'.cell? ⟨T6, 3, none⟩ = some (iv d) ∧ Below W2.heap.size W2 w') (first | assumption | exact hS8d | exact held4 hlt6 (by assumption) b10 | exact held4 hlt6 (by assumption) b9 | fail)
            (first | (go_at_call 46; with_reducible refine Calls.mono (hmin _) ?_; rintro e w9 ⟨rfl, b9⟩) | (go_at_call 39; with_reducible refine Calls.mono (hdrp _) ?_; rintro e w10 ⟨rfl, b10⟩) | fail)
          all_goals
            have hz9 := (show w10.cell? ⟨T6, 0, none⟩ = some (iv a) ∧ w10.cell? ⟨T6, 1, none⟩ = some (iv b) ∧ w10.cell? ⟨T6, 2, none⟩ = some (iv c) ∧ w10.cell? ⟨T6, 3, none⟩ = some (iv d) ∧ Below W2.heap.size W2 w10 by assumption).2.2.2.2
            go_wp2
            go_ret2
            exact ⟨rfl, hb02.trans (hz9.mono hb02.size)⟩
end Go.Proofs.YtfpmmfoinjcclaaDoor

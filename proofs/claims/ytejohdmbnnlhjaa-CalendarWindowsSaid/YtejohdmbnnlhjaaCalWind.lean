/- CalendarWindows. -/
import Derived.Test.YtejohdmbnnlhjaaCalWinM
import Derived.Test.YtejohdmbnnlhjaaCalInv
import Derived.Deep.RegionHeld3
import Derived.StillTailTactics
namespace Go.Proofs.Ytejohdmbnnlhjaa
open Go.RowKit

theorem good_take {F e : Int} {l : List (Int × Int)} (h : Good F e l) (i : Nat) : Good F e (l.take i) := ⟨h.1.sublist (List.take_sublist _ _), fun x hx => h.2 x (List.mem_of_mem_take hx)⟩
theorem cnt_bd {p : Int → Bool} {F : Int} : ∀ {n : Nat}, 0 ≤ cntZ p F n ∧ cntZ p F n ≤ n
  | 0 => by unfold cntZ; omega
  | n + 1 => by have := cnt_bd (p := p) (F := F) (n := n); unfold cntZ; split <;> omega
theorem tot_append (l m : List (Int × Int)) : totZ (l ++ m) = totZ l + totZ m := by
  induction l with
  | nil => simp [totZ]
  | cons x r ih => simp only [List.cons_append, totZ, ih]; omega
theorem tot_succ {l : List (Int × Int)} {i : Nat} (h : i < l.length) : totZ (l.take (i + 1)) = totZ (l.take i) + ((l.getD i (0, 0)).2 - (l.getD i (0, 0)).1) := by
  rw [List.take_succ_eq_append_getElem h, tot_append, List.getD_eq_getElem?_getD, List.getElem?_eq_getElem h]
  simp [totZ]
theorem tot_bd {F : Int} {n : Nat} {l : List (Int × Int)} (h : Good F (F + n) l) (i : Nat) : 0 ≤ totZ (l.take i) ∧ totZ (l.take i) ≤ n := by
  rw [tot_cnt (good_take h i)]
  exact cnt_bd
theorem good_get {F e : Int} {l : List (Int × Int)} (h : Good F e l) {i : Nat} (hi : i < l.length) : F ≤ (l.getD i (0, 0)).1 ∧ (l.getD i (0, 0)).1 < (l.getD i (0, 0)).2 ∧ (l.getD i (0, 0)).2 ≤ e := by
  have := h.2 (l.getD i (0, 0)) (by rw [List.getD_eq_getElem?_getD, List.getElem?_eq_getElem hi]; exact List.getElem_mem hi)
  exact this
theorem good_next {F e : Int} {l : List (Int × Int)} (h : Good F e l) {i : Nat} (hi : i + 1 < l.length) : (l.getD i (0, 0)).2 < (l.getD (i + 1) (0, 0)).1 := by
  rw [List.getD_eq_getElem?_getD, List.getD_eq_getElem?_getD, List.getElem?_eq_getElem hi, List.getElem?_eq_getElem (show i < l.length by omega)]
  exact List.pairwise_iff_getElem.1 h.1 i (i + 1) (by omega) hi (by omega)

theorem wins_math {off F a b : Int} {n : Nat} {sh : List (Int × Int)} (hv : validZ off sh = true) (hF : 0 ≤ F) (hn : F + n ≤ 10000000000) (ha0 : 0 ≤ a) (ha1 : a < 86400) (hb0 : 0 ≤ b) (hb1 : b < 86400) (hnl : n ≤ 1000000) :
    ∃ L M, spansZ off sh F (F + n) a b = L ∧ spansZ off sh F (F + n) b a = M ∧ (okSod a && okSod b && validZ off sh && !longZ F (F + n)) = true ∧ (okSod b && okSod a && validZ off sh && !longZ F (F + n)) = true ∧ Good F (F + n) L ∧ Good F (F + n) M ∧
      (a ≠ b → totZ L + totZ M = n) ∧ (a = b → totZ L + totZ M = 2 * n) ∧ ∀ x, F ≤ x → x < F + n → inL L x = withinZ off sh x a b := by
  have hlong : longZ F (F + n) = false := by unfold longZ; simp; omega
  have hc1 : (okSod a && okSod b && validZ off sh && !longZ F (F + n)) = true := by rw [okSod_iff.2 ⟨ha0, ha1⟩, okSod_iff.2 ⟨hb0, hb1⟩, hv, hlong]; rfl
  have hc2 : (okSod b && okSod a && validZ off sh && !longZ F (F + n)) = true := by rw [okSod_iff.2 ⟨ha0, ha1⟩, okSod_iff.2 ⟨hb0, hb1⟩, hv, hlong]; rfl
  have hw1 := winZ_pos a b
  have hw2 := winZ_pos b a
  obtain ⟨g1, g2⟩ := span_good (F := F) (To := F + n) (a := a) (wl := winZ a b) (by omega) (by omega) hw1.1 hw1.2 (o := off) (l := []) (valid_asc hv) (show (0 : Int) ≤ -1 + 1 by omega) (by omega) (by simp) ⟨by simp, by simp⟩
  obtain ⟨k1, k2⟩ := span_good (F := F) (To := F + n) (a := b) (wl := winZ b a) (by omega) (by omega) hw2.1 hw2.2 (o := off) (l := []) (valid_asc hv) (show (0 : Int) ≤ -1 + 1 by omega) (by omega) (by simp) ⟨by simp, by simp⟩
  refine ⟨_, _, rfl, rfl, hc1, hc2, ?_⟩
  unfold spansZ
  rw [if_pos hc1, if_pos hc2]
  generalize spanRun F (F + n) a (winZ a b) [] (strs 0 off sh) = L at *
  generalize spanRun F (F + n) b (winZ b a) [] (strs 0 off sh) = M at *
  refine ⟨g1, k1, fun hne => ?_, fun he => ?_, fun x h1 h2 => ?_⟩
  · rw [tot_cnt g1, tot_cnt k1]
    refine cnt_not fun y h1 h2 => ?_
    rw [g2 y h1 h2, k2 y h1 h2]
    simp only [inL, List.any_nil, Bool.false_or]
    rw [decide_eq_true (show (0 : Int) ≤ y by omega), Bool.true_and, Bool.true_and]
    unfold winZ
    rw [if_neg (by omega), if_neg (by omega), ← Bool.not_eq_eq_eq_not, Bool.eq_iff_iff]
    simp
    omega
  · subst he
    rw [tot_cnt g1, tot_cnt k1, cnt_all (fun y h1 h2 => ?_), cnt_all (fun y h1 h2 => ?_)]
    · omega
    · rw [k2 y h1 h2]
      unfold winZ
      simp [inL]; omega
    · rw [g2 y h1 h2]
      unfold winZ
      simp [inL]; omega
  · rw [g2 x h1 h2]
    unfold withinZ
    rw [okSod_iff.2 ⟨ha0, ha1⟩, okSod_iff.2 ⟨hb0, hb1⟩, hv, okSec_iff.2 ⟨by omega, by omega⟩]
    obtain ⟨d, r, e1, e2, e3, e4, -, -⟩ := local_val (s := x) hv (by omega) (by omega)
    rw [e1]
    simp only [inL, List.any_nil, Bool.false_or, Bool.and_self, Bool.true_and]
    rw [decide_eq_true (show (0 : Int) ≤ x by omega), Bool.true_and, show (x + offL x off sh - a) % 86400 = (r - a) % 86400 by omega]

theorem spAt_own {W : World} {base : Nat} {v : Value} {l : List (Int × Int)} (h : W.ownsRow base 47 2 v l.length (spv l)) : ∃ p cap, v = .slice p l.length cap ∧ l.length ≤ 9223372036854775807 ∧ ShAt W W.heap.size p l := by
  rcases h.2 with ⟨rfl, h0⟩ | ⟨g, cap, cur, rfl, _, _, h1, h2, _⟩
  · refine ⟨none, 0, by rw [h0], by omega, fun i hi => ?_⟩
    rw [h0] at hi; omega
  · refine ⟨_, cap, rfl, by unfold maxLen at h2; omega, fun i hi => ⟨g, 0, rfl, (h.lt g rfl).2, ?_, ?_⟩⟩
    · rw [Nat.zero_add, h.cellAt (i * 2) (by omega)]; exact (spv_get hi).1
    · rw [Nat.zero_add, h.cellAt (i * 2 + 1) (by omega)]; exact (spv_get hi).2

set_option maxRecDepth 100000 in
set_option maxHeartbeats 4000000 in
theorem windows_law (c : Int) (p : Option Addr) (len cap : Nat) (f : Nat → Int) (fr le n0 n1 sc : Int) (w : World) (c1 : -9223372036854775808 ≤ c) (c2 : c ≤ 9223372036854775807) (hlen : len ≤ 9223372036854775807) (hS : SliceAt w p len (fun i => iv (f i))) (hf : ∀ i, -9223372036854775808 ≤ f i ∧ f i ≤ 9223372036854775807)
    (r1 : -9223372036854775808 ≤ fr) (r2 : fr ≤ 9223372036854775807) (l1 : -9223372036854775808 ≤ le) (l2 : le ≤ 9223372036854775807) (m1 : -9223372036854775808 ≤ n0) (m2 : n0 ≤ 9223372036854775807) (m3 : -9223372036854775808 ≤ n1) (m4 : n1 ≤ 9223372036854775807) (s1 : -9223372036854775808 ≤ sc) (s2 : sc ≤ 9223372036854775807) :
    Calls Try.prog 8 #[.int .i64 c, .slice p len cap, .int .i64 fr, .int .i64 le, .agg #[iv n0, iv n1], .int .i64 sc] w fun e w' => e = .returned (.bool true) ∧ Below w.heap.size w w' := by
  have hmk := fun W (h : Below w.heap.size w W) => make_any c p len cap f W c1 c2 hlen (fun i hi => by
    obtain ⟨b, o, h1, h2, h3⟩ := hS i hi
    exact ⟨b, o, h1, by have := h.size; omega, (h.cell (p := ⟨b, _, none⟩) h2).trans h3⟩) hf
  obtain ⟨F, hF⟩ : ∃ q, pickZ fr 5000000 = q := ⟨_, rfl⟩
  obtain ⟨F1, F2⟩ : 0 ≤ F ∧ F < 5000000 := hF ▸ pick_in (by decide)
  have hp1 := fun W => pick_any fr 5000000 W r1 r2 (by decide) (by decide)
  rw [hF] at hp1
  obtain ⟨n, hn⟩ : ∃ n : Nat, pickZ le 400000 = (n : Int) := ⟨(pickZ le 400000).toNat, by have := (pick_in (c := le) (n := 400000) (by decide)).1; omega⟩
  have n9 : n < 400000 := by have := (pick_in (c := le) (n := 400000) (by decide)).2; omega
  have hp2 := fun W => pick_any le 400000 W l1 l2 (by decide) (by decide)
  rw [hn] at hp2
  obtain ⟨a, ha⟩ : ∃ q, pickZ n0 86400 = q := ⟨_, rfl⟩
  obtain ⟨a1, a2⟩ : 0 ≤ a ∧ a < 86400 := ha ▸ pick_in (by decide)
  have hp3 := fun W => pick_any n0 86400 W m1 m2 (by decide) (by decide)
  rw [ha] at hp3
  obtain ⟨b, hb⟩ : ∃ q, pickZ n1 86400 = q := ⟨_, rfl⟩
  obtain ⟨b1, b2⟩ : 0 ≤ b ∧ b < 86400 := hb ▸ pick_in (by decide)
  have hp4 := fun W => pick_any n1 86400 W m3 m4 (by decide) (by decide)
  rw [hb] at hp4
  clear hF hn ha hb hS hf
  obtain ⟨To, hTo⟩ : ∃ To, F + (n : Int) = To := ⟨_, rfl⟩
  go_enter Try.func8, Try.ntmps8
  go_wp2_with fail
  obtain ⟨W0, hW0, u0, z0, kn⟩ : ∃ W0, w.alloc (.cells #[iv n0, iv n1] 36) = W0 ∧ Below w.heap.size w W0 ∧ W0.heap.size = w.heap.size + 1 ∧ Arr W0 w.heap.size 36 [iv n0, iv n1] :=
    ⟨_, rfl, (Below.refl _ w).alloc (Nat.le_refl _) _, by simp, Arr.new w _ [iv n0, iv n1]⟩
  rw [hW0]; clear hW0
  refine Calls.mono (sane_any _) ?_; rintro e w1 ⟨rfl, u1⟩
  have u01 := bthen u0 u1
  have x1 := u1.size
  have kn := kn.below u1 (by omega)
  go_wp2_with fail
  refine Calls.mono (hmk _ u01) ?_; rintro e w2 ⟨off, sh, pz, cz, rfl, hv, hl12, hZ, u2⟩
  clear hmk
  have u02 := bthen u01 u2
  have x2 := u2.size
  have kn := kn.below u2 (by omega)
  have hl : sh.length ≤ 12 := by omega
  obtain ⟨L, M, hL, hM, hc1, hc2, gL, gM, t1, t2, hin⟩ := wins_math (n := n) hv F1 (by omega) a1 a2 b1 b2 (by omega)
  rw [hTo] at hL hM hc1 hc2 gL gM hin
  have y1 := fun W (h : Below w2.heap.size w2 W) => spans_any off F To a b pz cz sh W ((hZ.below h).mono h.size) (by omega) hc1 (by omega) (by omega) (by omega) (by omega)
  have y2 := fun W (h : Below w2.heap.size w2 W) => spans_any off F To b a pz cz sh W ((hZ.below h).mono h.size) (by omega) hc2 (by omega) (by omega) (by omega) (by omega)
  have y3 := fun x W (h : Below w2.heap.size w2 W) => within_any off x a b pz cz sh W ((hZ.below h).mono h.size) (by omega)
  rw [hL] at y1
  rw [hM] at y2
  have GL := Lib.hid gL
  have GM := Lib.hid gM
  have T1 := Lib.hid t1
  have T2 := Lib.hid t2
  have HI := Lib.hid hin
  have HTo := Lib.hid hTo
  have Y3 := Lib.hid y3
  have hT0 : 0 ≤ To := by omega
  have hT9 : To ≤ 5400000 := by omega
  have hFT : F ≤ To := by omega
  have ux := u02
  clear hL hM hc1 hc2 gL gM t1 t2 hin y3 hl12 hv hZ u0 u01 u1 u2
  have knl := kn.lt
  go_wp2_with (go_at_call 15; (with_reducible refine Calls.mono (hp1 _) ?_); rintro e w' ⟨rfl, rfl⟩)
  obtain ⟨W3, hW3, u3, z3, kz, ks⟩ : ∃ W3, (w2.alloc (.cells #[.int .i64 off, .slice pz sh.length cz] 24)).alloc (.cells #[.int .i64 F, .int .i64 0] 47) = W3 ∧ Below w2.heap.size w2 W3 ∧ W3.heap.size = w2.heap.size + 2 ∧
      Arr W3 w2.heap.size 24 [iv off, .slice pz sh.length cz] ∧ Arr W3 (w2.heap.size + 1) 47 [iv F, iv 0] :=
    ⟨_, rfl, ((Below.refl _ w2).alloc (Nat.le_refl _) _).alloc (by simp) _, by simp, (Arr.new w2 _ [iv off, .slice pz sh.length cz]).alloc _, Arr.new' _ [iv F, iv 0] (by simp)⟩
  try rw [hW3]
  clear hW3
  have kn := kn.below u3 knl
  have c0 := ks.cell (i := 0) rfl
  have c1' := ks.cell (i := 1) rfl
  have f1 := ks.frozen 1
  go_still_tail 6, (by kernel_rfl)
  still_call (pquiet (hp2 _))
  repeat still_step
  refine wpStill_nil ?_
  change wpList _ _ _ _ _ W3.drew
  obtain ⟨W4, hW4, u4, kz, kn, ks, kf⟩ : ∃ W4, W3.drew = W4 ∧ Below W3.heap.size W3 W4 ∧ Arr W4 w2.heap.size 24 [iv off, .slice pz sh.length cz] ∧ Arr W4 w.heap.size 36 [iv n0, iv n1] ∧ Arr W4 (w2.heap.size + 1) 47 [iv F, iv 0] ∧ W4.heap.size = W3.heap.size :=
    ⟨_, rfl, (Below.refl _ _).drew, kz, kn, ks, rfl⟩
  rw [hW4]; clear hW4 c0 c1' f1
  have c1' := ks.cell (i := 1) rfl
  have f1 := ks.frozen 1
  have cn0 := kn.cell (i := 0) rfl
  have cn1 := kn.cell (i := 1) rfl
  have hne : ¬ w.heap.size = w2.heap.size + 1 := by omega
  have hne2 : ¬ w2.heap.size + 1 = w.heap.size := by omega
  have hz2 : ¬ w2.heap.size + 1 = w2.heap.size := by omega
  have kz0 := kz.cell (i := 0) rfl
  have kz1 := kz.cell (i := 1) rfl
  have ks0 := ks.cell (i := 0) rfl
  obtain ⟨W5, hW5, u5, kz5, kn5, ks5, z5⟩ : ∃ W5, W4.setCell ⟨w2.heap.size + 1, 1, none⟩ (.int .i64 To) = W5 ∧ Below w2.heap.size W4 W5 ∧ Arr W5 w2.heap.size 24 [iv off, .slice pz sh.length cz] ∧ Arr W5 w.heap.size 36 [iv n0, iv n1] ∧ Arr W5 (w2.heap.size + 1) 47 [iv F, iv To] ∧ W5.heap.size = W4.heap.size :=
    ⟨_, rfl, (Below.refl _ _).setCell (p := ⟨w2.heap.size + 1, 1, none⟩) (by simp) _, kz.set_other 1 _ (by omega), kn.set_other 1 _ (by omega), ks.set 1 (iv To), by simp⟩
  have HW5 := Lib.hid hW5; clear hW5
  go_wp2_with (first | (go_at_call 15; (with_reducible refine Calls.mono (hp3 _) ?_); rintro e w' ⟨rfl, rfl⟩) | (go_at_call 15; (with_reducible refine Calls.mono (hp4 _) ?_); rintro e w' ⟨rfl, rfl⟩))
  rw [HW5.out]
  have v5 : Below w2.heap.size w2 W5 := (bthen u3 u4).trans u5
  have g5 := v5.size
  have hZl : w2.heap.size < W5.heap.size := kz5.lt
  have hSl : w2.heap.size + 1 < W5.heap.size := ks5.lt
  clear c1' f1 cn0 cn1 hne hne2 hz2 kz0 kz1 ks0 kz kn ks HW5 u3 u4 u5 kf
  have c0 := kz5.cell (i := 0) rfl
  have c1 := kz5.cell (i := 1) rfl
  have c2 := ks5.cell (i := 0) rfl
  have c3 := ks5.cell (i := 1) rfl
  refine Calls.mono (y1 _ v5) ?_; rintro e w6 ⟨vL, rfl, oL, u6⟩
  have g6 := u6.size
  have v6 := bthen v5 u6
  have kz := kz5.below u6 hZl
  have ks := ks5.below u6 hSl
  have c0 := kz.cell (i := 0) rfl
  have c1 := kz.cell (i := 1) rfl
  have c2 := ks.cell (i := 0) rfl
  have c3 := ks.cell (i := 1) rfl
  go_wp2_with fail
  refine Calls.mono (y2 _ v6) ?_; rintro e w7 ⟨vM, rfl, oM, u7⟩
  have g7 := u7.size
  have v7 := bthen v6 u7
  have oL := own_below oL u7
  have kz := kz.below u7 (by omega)
  have ks := ks.below u7 (by omega)
  obtain ⟨pL, cL, rfl, hLm, sL⟩ := spAt_own oL
  obtain ⟨pM, cM, rfl, hMm, sM⟩ := spAt_own oM
  have vF : Below w.heap.size w w7 := bthen2 ux v7 (by omega)
  clear y1 y2 oL oM u6 u7 v5 v6 g5 kz5 ks5 c0 c1 c2 c3 kn5
  go_wp2_with fail
  obtain ⟨W8, hW8, u8, z8, kk⟩ : ∃ W8, w7.alloc (.cells #[.slice pL L.length cL, .slice pM M.length cM] 48) = W8 ∧ Below w7.heap.size w7 W8 ∧ W8.heap.size = w7.heap.size + 1 ∧ Arr W8 w7.heap.size 48 [.slice pL L.length cL, .slice pM M.length cM] :=
    ⟨_, rfl, (Below.refl _ w7).alloc (Nat.le_refl _) _, by simp, Arr.new w7 _ [.slice pL L.length cL, .slice pM M.length cM]⟩
  try rw [hW8]
  clear hW8
  have v8 := bthen v7 u8
  have vF8 := bthen vF u8
  have kz := kz.below u8 (by omega)
  have ks := ks.below u8 (by omega)
  have sL8 := sL.below u8
  have sM8 := sM.below u8
  obtain ⟨tL, htL⟩ : ∃ t, totZ L = t := ⟨_, rfl⟩
  obtain ⟨tM, htM⟩ : ∃ t, totZ M = t := ⟨_, rfl⟩
  have bL := fun i => tot_bd (n := n) (by rw [hTo]; exact GL.out) i
  have bM := fun i => tot_bd (n := n) (by rw [hTo]; exact GM.out) i
  have bL' := bL L.length
  have bM' := bM M.length
  rw [List.take_length, htL] at bL'
  rw [List.take_length, htM] at bM'
  have hK : ∀ j : Nat, j < 2 → ∃ (K : List (Int × Int)) (pK : Option Addr) (cK : Nat) (t0 : Int), W8.cell? ⟨w7.heap.size, j, none⟩ = some (.slice pK K.length cK) ∧ ShAt W8 w7.heap.size pK K ∧ Good F To K ∧ (j : Int) * tL = t0 ∧ (if j = 0 then tL else tL + tM) = t0 + totZ K ∧ K.length ≤ 9223372036854775807 ∧ 0 ≤ t0 ∧ t0 ≤ 400000 ∧ ∀ i, 0 ≤ totZ (K.take i) ∧ totZ (K.take i) ≤ n := by
    intro j hj
    match j, hj with
    | 0, _ => exact ⟨L, pL, cL, 0, kk.cell (i := 0) rfl, sL8, GL.out, by omega, by simp [htL], hLm, by omega, by omega, bL⟩
    | 1, _ => exact ⟨M, pM, cM, tL, kk.cell (i := 1) rfl, sM8, GM.out, by omega, by simp [htM], hMm, by omega, by omega, bM⟩
  have HK := Lib.hid hK
  have hks := ks.lt
  have hkz := kz.lt
  have hkk := kk.lt
  clear hK sL sM sM8 bL bM u8 kk v7 vF x1 x2 z0 z3 z5 g6 g7 hZl hSl
  go_loopw [20, 60] (fun tv jv wr => ∃ (j : Nat) (t : Int), jv = .int .i64 j ∧ tv = .int .i64 t ∧ j ≤ 2 ∧ t = (if j = 0 then 0 else if j = 1 then tL else tL + tM) ∧ Below W8.heap.size W8 wr) (fun _ j _ => 2 - (intOf j).toNat)
  case atStart => exact ⟨0, 0, rfl, rfl, by omega, rfl, Below.refl _ _⟩
  case round =>
    obtain ⟨wo, rfl⟩ : ∃ wo : World, wo = wr := ⟨_, rfl⟩
    obtain ⟨j, t, rfl, rfl, hj2, ht, hB⟩ := hrel
    have hBs := hB.size
    by_cases hj : j < 2
    · obtain ⟨K, pK, cK, t0, k1, k2, k3, k4, k5, k6, k7, k8, k9⟩ := HK.out j hj
      have k1w := (hB.cell (p := ⟨w7.heap.size, j, none⟩) hkk).trans k1
      have htt : t = t0 := by
        rw [ht, ← k4]
        match j, hj with
        | 0, _ => simp
        | 1, _ => simp
      have hnx : (if j + 1 = 0 then 0 else if j + 1 = 1 then tL else tL + tM) = t0 + totZ K := by
        rw [← k5]
        match j, hj with
        | 0, _ => simp
        | 1, _ => simp
      have HNX := Lib.hid hnx
      have K9 := Lib.hid k9
      subst htt
      clear ht k4 k5 k1 hnx k9
      go_wp2_with fail
      go_loopw [20, 23] (fun tv qv wr => ∃ (q : Nat) (y : Int), qv = .int .i64 q ∧ tv = .int .i64 y ∧ q ≤ K.length ∧ y = t + totZ (K.take q) ∧ Below W8.heap.size W8 wr) (fun _ q _ => K.length - (intOf q).toNat)
      case atStart => exact ⟨0, t, rfl, rfl, Nat.zero_le _, by simp [totZ], hB⟩
      case round =>
        obtain ⟨q, y, rfl, rfl, hq, hy, hBr⟩ := hrel
        have hBrs := hBr.size
        have ksr := ks.below hBr hks
        have c2 := ksr.cell (i := 0) rfl
        have c3 := ksr.cell (i := 1) rfl
        by_cases hlt : q < K.length
        · obtain ⟨bk, ok, rfl, hbk, d0, d1⟩ := (k2.below (hBr.mono (by omega))) q hlt
          obtain ⟨i1, i2, i3⟩ := good_get k3 hlt
          have hts := tot_succ hlt
          have hb1 := K9.out q
          have hb2 := K9.out (q + 1)
          have hprev : ∀ q', q = q' + 1 → ∃ x, wr.cell? ⟨bk, ok + q' * 2 + 1, none⟩ = some (iv x) ∧ x < (K.getD q (0, 0)).1 := fun q' hq' => by
            subst hq'
            obtain ⟨b', o', e, _, _, h2⟩ := (k2.below (hBr.mono (by omega))) q' (by omega)
            simp only [Option.some.injEq, Addr.mk.injEq, and_true] at e
            obtain ⟨rfl, rfl⟩ := e
            exact ⟨_, h2, good_next k3 hlt⟩
          obtain ⟨x1, hx1⟩ : ∃ x, (K.getD q (0, 0)).1 = x := ⟨_, rfl⟩
          obtain ⟨x2, hx2⟩ : ∃ x, (K.getD q (0, 0)).2 = x := ⟨_, rfl⟩
          rw [hx1] at d0 i1 i2 hts hprev
          rw [hx2] at d1 i2 i3 hts
          have e1 : IntKind.i64.wrap (y + x2) = y + x2 := w64 (by omega) (by omega)
          have e2 : IntKind.i64.wrap (y + x2 - x1) = y + x2 - x1 := w64 (by omega) (by omega)
          have HY := Lib.hid (show y + x2 - x1 = t + totZ (K.take (q + 1)) by rw [hy, hts]; omega)
          have i4 : (0 : Int) ≤ (q : Int) := by omega
          have i5 : (q : Int) < (K.length : Int) := by omega
          have g1 : decide (x2 ≤ x1) = false := by simp; omega
          have g2 : decide (x1 < F) = false := by simp; omega
          have g3 : decide (To < x2) = false := by simp; omega
          clear hx1 hx2 hy hts hb1 hb2
          cases q with
          | zero =>
            have t0' : decide ((0 : Int) < ((0 : Nat) : Int)) = false := by simp
            have d0' : wr.cell? ⟨bk, ok, none⟩ = some (iv x1) := by simpa using d0
            have d1' : wr.cell? ⟨bk, ok + 1, none⟩ = some (iv x2) := by simpa using d1
            have i5' : 0 < K.length := hlt
            go_wp2_with fail
            go_quiet (fail)
            go_wp2_with fail
            go_quiet (fail)
            go_wp2_with fail
            go_roundw
            case rel => exact ⟨0 + 1, _, by go_num, rfl, by omega, HY.out, below_drewN hBr _⟩
            case measure => simp [intOf]; omega
          | succ q =>
            obtain ⟨xp, cp, hlp⟩ := hprev q rfl
            have t0' : decide ((0 : Int) < ((q + 1 : Nat) : Int)) = true := by rw [decide_eq_true_eq]; omega
            have g4 : decide (x1 ≤ xp) = false := by simp; omega
            have t2 : ((q + 1 : Nat) : Int) - 1 = (q : Int) := by omega
            have t3 : IntKind.i64.wrap (((q + 1 : Nat) : Int) - 1) = (q : Int) := by rw [t2]; exact w64 (by omega) (by omega)
            have t4 : (0 : Int) ≤ (q : Int) := by omega
            have t5 : (q : Int) < (K.length : Int) := by omega
            have t7 : IntKind.i64.wrap (q : Int) = (q : Int) := w64 (by omega) (by omega)
            have t8 : ((q : Int) + 1) < (K.length : Int) := by omega
            have t9 : (0 : Int) < ((q : Int) + 1) := by omega
            have t10 : (q : Int) + 1 - 1 = (q : Int) := by omega
            clear hprev
            go_wp2_with fail
            go_quiet (fail)
            go_wp2_with fail
            go_quiet (fail)
            go_wp2_with fail
            go_roundw
            case rel => exact ⟨q + 1 + 1, _, by go_num, rfl, by omega, HY.out, below_drewN hBr _⟩
            case measure => simp [intOf]; omega
        · obtain rfl : q = K.length := by omega
          rw [List.take_length] at hy
          have HY := Lib.hid hy; clear hy
          go_wp2_with fail
          go_roundw
          case rel => exact ⟨j + 1, y, by go_num, rfl, by omega, by rw [HNX.out]; exact HY.out, hBr⟩
          case measure => simp [intOf]; omega
    · obtain rfl : j = 2 := by omega
      have htt : t = tL + tM := by rw [ht]; simp
      clear ht HK
      have ksr := ks.below hB hks
      have kzr := kz.below hB hkz
      have c2 := ksr.cell (i := 0) rfl
      have c3 := ksr.cell (i := 1) rfl
      have c4 := kzr.cell (i := 0) rfl
      have c5 := kzr.cell (i := 1) rfl
      have e1 : IntKind.i64.wrap (To - F) = (n : Int) := by rw [w64 (by omega) (by omega)]; omega
      have e2 : To - F = (n : Int) := by omega
      have hbF := bthen vF8 hB
      have hb2 := v8.trans (hB.mono (by omega))
      have sLr := sL8.below (hB.mono (show w7.heap.size ≤ W8.heap.size by omega))
      have hfin : ∀ x, F ≤ x → x < To → inL L x = withinZ off sh x a b := HI.out
      have HFN := Lib.hid hfin
      have HB := Lib.hid hB
      have HSL := Lib.hid sLr
      have HTT := Lib.hid htt
      clear hfin sLr sL8 hB ks kz htt hTo
      -- behind the totals: the rest once for both cases
      have hrest : ∀ (nn : Nat), nn = n → True := fun _ _ => trivial
      by_cases hn0 : n = 0
      · have hFT' : F = To := by omega
        subst hFT'
        by_cases hab : a = b
        · have h2 : t = 2 * (n : Int) := HTT.out.trans (by rw [← htL, ← htM]; exact T2.out hab)
          subst hab
          have h0 : t = 0 := by omega
          clear h2
          go_wp2_with fail
          go_ret
          exact ⟨rfl, hbF⟩
        · have h2 : t = (n : Int) := HTT.out.trans (by rw [← htL, ← htM]; exact T1.out hab)
          have h0 : t = 0 := by omega
          have g1 : (a == b) = false := by simpa using hab
          have g2 : (a != b) = true := bne_iff_ne.2 hab
          clear h2
          go_wp2_with fail
          go_ret
          exact ⟨rfl, hbF⟩
      · have hn1 : 1 ≤ (n : Int) := by omega
        have hFT' : ¬ F = To := by omega
        have hFT2 : (F == To) = false := by simpa using hFT'
        have hab : (a = b ∧ t = 2 * (n : Int)) ∨ (a ≠ b ∧ t = (n : Int)) := by
          by_cases hab : a = b
          · exact .inl ⟨hab, HTT.out.trans (by rw [← htL, ← htM]; exact T2.out hab)⟩
          · exact .inr ⟨hab, HTT.out.trans (by rw [← htL, ← htM]; exact T1.out hab)⟩
        have hp5 := fun W => pick_any sc n W s1 s2 hn1 (by omega)
        obtain ⟨x0, hx0⟩ : ∃ x, pickZ sc n = x := ⟨_, rfl⟩
        obtain ⟨x1, x2⟩ : 0 ≤ x0 ∧ x0 < (n : Int) := hx0 ▸ pick_in hn1
        rw [hx0] at hp5
        obtain ⟨x, hx⟩ : ∃ x, F + x0 = x := ⟨_, rfl⟩
        have hxF : F ≤ x := by omega
        have hxT : x < To := by omega
        have hwi := HFN.out x hxF hxT
        have hy := fun W hW => Y3.out x W hW
        rw [← hwi] at hy
        have HY := Lib.hid hy
        have e5 : IntKind.i64.wrap x = x := w64 (by omega) (by omega)
        clear hx0 hwi hy hrest
        rcases hab with ⟨hab, ht2⟩ | ⟨hab, ht2⟩
        · subst hab
          have e3 : ((n : Int) == (n : Int)) = true := by simp
          have e4 : IntKind.i64.wrap (2 * (n : Int)) = 2 * (n : Int) := w64 (by omega) (by omega)
          have e6 : (t == 2 * (n : Int)) = true := by simpa using ht2
          have e7 : (t != 2 * (n : Int)) = false := by rw [ht2]; simp
          clear ht2
          go_wp2_with fail
          go_quiet ((go_at_call 15; with_reducible exact Calls.quiet_of_same (pquiet (hp5 _))))
          have hbQ : Below W8.heap.size W8 (wo.drewN nq) := below_drewN HB.out nq
          have c4q : (wo.drewN nq).cell? ⟨w2.heap.size, 0, none⟩ = some (iv off) := c4
          have c5q : (wo.drewN nq).cell? ⟨w2.heap.size, 1, none⟩ = some (.slice pz sh.length cz) := c5
          have sQ : ShAt (wo.drewN nq) w7.heap.size pL L := HSL.out
          have hbFq : Below w.heap.size w (wo.drewN nq) := below_drewN hbF nq
          have hb2q : Below w2.heap.size w2 (wo.drewN nq) := below_drewN hb2 nq
          generalize wo.drewN nq = wq at *
          have HSQ := Lib.hid sQ
          clear sQ c2 c3 c4 c5 hbF hb2
          go_wp2_with fail
          go_loop [25, 26] (fun fv iv' => ∃ i : Nat, fv = .bool (inL (L.take i) x) ∧ iv' = .int .i64 i ∧ i ≤ L.length) (fun _ i => L.length - (intOf i).toNat)
          case atStart => exact ⟨0, rfl, rfl, Nat.zero_le _⟩
          case round =>
            obtain ⟨i, rfl, rfl, hi⟩ := hrel
            by_cases hlt : i < L.length
            · obtain ⟨bk, ok, rfl, hbk, d0, d1⟩ := HSQ.out i hlt
              have hsc : inL (L.take (i + 1)) x = (inL (L.take i) x || (decide ((L.getD i (0, 0)).1 ≤ x) && decide (x < (L.getD i (0, 0)).2))) := by
                rw [List.take_succ_eq_append_getElem hlt, inL_append, List.getD_eq_getElem?_getD, List.getElem?_eq_getElem hlt]
                simp [inL]
              obtain ⟨p1, hp1'⟩ : ∃ x, (L.getD i (0, 0)).1 = x := ⟨_, rfl⟩
              obtain ⟨p2, hp2'⟩ : ∃ x, (L.getD i (0, 0)).2 = x := ⟨_, rfl⟩
              rw [hp1'] at d0 hsc
              rw [hp2'] at d1 hsc
              obtain ⟨B, hB⟩ : ∃ B, inL (L.take i) x = B := ⟨_, rfl⟩
              rw [hB] at hsc ⊢
              have HSC := Lib.hid hsc
              clear hsc hp1' hp2' hB
              cases B
              · by_cases h1 : p1 ≤ x
                · by_cases h2 : x < p2
                  · go_wp2_with fail
                    go_round
                    case rel => exact ⟨i + 1, by rw [HSC.out, decide_eq_true h1, decide_eq_true h2]; rfl, by go_num, by omega⟩
                    case measure => simp [intOf]; omega
                  · go_wp2_with fail
                    go_round
                    case rel => exact ⟨i + 1, by rw [HSC.out, decide_eq_false (show ¬ x < p2 by omega)]; simp, by go_num, by omega⟩
                    case measure => simp [intOf]; omega
                · go_wp2_with fail
                  go_round
                  case rel => exact ⟨i + 1, by rw [HSC.out, decide_eq_false (show ¬ p1 ≤ x by omega)]; simp, by go_num, by omega⟩
                  case measure => simp [intOf]; omega
              · go_wp2_with fail
                go_round
                case rel => exact ⟨i + 1, by rw [HSC.out]; rfl, by go_num, by omega⟩
                case measure => simp [intOf]; omega
            · obtain rfl : i = L.length := by omega
              rw [List.take_length]
              obtain ⟨B, hB⟩ : ∃ B, inL L x = B := ⟨_, rfl⟩
              have hy := fun W hW => HY.out W hW
              rw [hB] at hy ⊢
              have e8 : (B == B) = true := by simp
              clear hB
              go_wp2_with fail
              refine Calls.mono (hy _ hb2q) ?_; rintro e w9 ⟨rfl, u9⟩
              go_wp2_with fail
              go_ret
              exact ⟨rfl, bthen hbFq u9⟩
        · have g1 : (a == b) = false := by simpa using hab
          have g2 : (a != b) = true := bne_iff_ne.2 hab
          have e6 : (t == (n : Int)) = true := by simpa using ht2
          have e7 : (t != (n : Int)) = false := by rw [ht2]; simp
          clear ht2
          go_wp2_with fail
          go_quiet ((go_at_call 15; with_reducible exact Calls.quiet_of_same (pquiet (hp5 _))))
          have hbQ : Below W8.heap.size W8 (wo.drewN nq) := below_drewN HB.out nq
          have c4q : (wo.drewN nq).cell? ⟨w2.heap.size, 0, none⟩ = some (iv off) := c4
          have c5q : (wo.drewN nq).cell? ⟨w2.heap.size, 1, none⟩ = some (.slice pz sh.length cz) := c5
          have sQ : ShAt (wo.drewN nq) w7.heap.size pL L := HSL.out
          have hbFq : Below w.heap.size w (wo.drewN nq) := below_drewN hbF nq
          have hb2q : Below w2.heap.size w2 (wo.drewN nq) := below_drewN hb2 nq
          generalize wo.drewN nq = wq at *
          have HSQ := Lib.hid sQ
          clear sQ c2 c3 c4 c5 hbF hb2
          go_wp2_with fail
          go_loop [25, 26] (fun fv iv' => ∃ i : Nat, fv = .bool (inL (L.take i) x) ∧ iv' = .int .i64 i ∧ i ≤ L.length) (fun _ i => L.length - (intOf i).toNat)
          case atStart => exact ⟨0, rfl, rfl, Nat.zero_le _⟩
          case round =>
            obtain ⟨i, rfl, rfl, hi⟩ := hrel
            by_cases hlt : i < L.length
            · obtain ⟨bk, ok, rfl, hbk, d0, d1⟩ := HSQ.out i hlt
              have hsc : inL (L.take (i + 1)) x = (inL (L.take i) x || (decide ((L.getD i (0, 0)).1 ≤ x) && decide (x < (L.getD i (0, 0)).2))) := by
                rw [List.take_succ_eq_append_getElem hlt, inL_append, List.getD_eq_getElem?_getD, List.getElem?_eq_getElem hlt]
                simp [inL]
              obtain ⟨p1, hp1'⟩ : ∃ x, (L.getD i (0, 0)).1 = x := ⟨_, rfl⟩
              obtain ⟨p2, hp2'⟩ : ∃ x, (L.getD i (0, 0)).2 = x := ⟨_, rfl⟩
              rw [hp1'] at d0 hsc
              rw [hp2'] at d1 hsc
              obtain ⟨B, hB⟩ : ∃ B, inL (L.take i) x = B := ⟨_, rfl⟩
              rw [hB] at hsc ⊢
              have HSC := Lib.hid hsc
              clear hsc hp1' hp2' hB
              cases B
              · by_cases h1 : p1 ≤ x
                · by_cases h2 : x < p2
                  · go_wp2_with fail
                    go_round
                    case rel => exact ⟨i + 1, by rw [HSC.out, decide_eq_true h1, decide_eq_true h2]; rfl, by go_num, by omega⟩
                    case measure => simp [intOf]; omega
                  · go_wp2_with fail
                    go_round
                    case rel => exact ⟨i + 1, by rw [HSC.out, decide_eq_false (show ¬ x < p2 by omega)]; simp, by go_num, by omega⟩
                    case measure => simp [intOf]; omega
                · go_wp2_with fail
                  go_round
                  case rel => exact ⟨i + 1, by rw [HSC.out, decide_eq_false (show ¬ p1 ≤ x by omega)]; simp, by go_num, by omega⟩
                  case measure => simp [intOf]; omega
              · go_wp2_with fail
                go_round
                case rel => exact ⟨i + 1, by rw [HSC.out]; rfl, by go_num, by omega⟩
                case measure => simp [intOf]; omega
            · obtain rfl : i = L.length := by omega
              rw [List.take_length]
              obtain ⟨B, hB⟩ : ∃ B, inL L x = B := ⟨_, rfl⟩
              have hy := fun W hW => HY.out W hW
              rw [hB] at hy ⊢
              have e8 : (B == B) = true := by simp
              clear hB
              go_wp2_with fail
              refine Calls.mono (hy _ hb2q) ?_; rintro e w9 ⟨rfl, u9⟩
              go_wp2_with fail
              go_ret
              exact ⟨rfl, bthen hbFq u9⟩
end Go.Proofs.Ytejohdmbnnlhjaa

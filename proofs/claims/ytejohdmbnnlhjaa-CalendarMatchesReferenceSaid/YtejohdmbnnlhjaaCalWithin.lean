/- Within. -/
import Derived.Test.YtejohdmbnnlhjaaCalWin
import Derived.Deep.RegionHeld3
namespace Go.Proofs.Ytejohdmbnnlhjaa
open Go.RowKit

def withinZ (off : Int) (sh : List (Int × Int)) (s a b : Int) : Bool :=
  okSod a && okSod b && validZ off sh && okSec s && decide (((localZ off sh s).2 - a) % 86400 < winZ a b)

theorem keepW {W W' W'' : World} {B n : Nat} {x y : Int} (hS : W'.cell? ⟨B, 0, none⟩ = some (iv x) ∧ W'.cell? ⟨B, 1, none⟩ = some (iv y) ∧ Below n W W') (hB : B < W.heap.size) (hn : n ≤ W.heap.size) (b : Below W'.heap.size W' W'') :
    W''.cell? ⟨B, 0, none⟩ = some (iv x) ∧ W''.cell? ⟨B, 1, none⟩ = some (iv y) ∧ Below n W W'' := by
  have hs := hS.2.2.size
  exact ⟨(b.cell (p := ⟨B, 0, none⟩) (by simp; omega)).trans hS.1, (b.cell (p := ⟨B, 1, none⟩) (by simp; omega)).trans hS.2.1, hS.2.2.trans (b.mono (by omega))⟩

theorem local_in {off s : Int} {sh : List (Int × Int)} : 0 ≤ (localZ off sh s).2 ∧ (localZ off sh s).2 < 86400 := by
  unfold localZ; split <;> simp <;> omega

set_option maxRecDepth 100000 in
set_option maxHeartbeats 4000000 in
theorem within_any (off s a b : Int) (p : Option Addr) (cap : Nat) (sh : List (Int × Int)) (w : World) (hS : ShAt w w.heap.size p sh) (hlen : sh.length ≤ 1000) :
    Calls Try.prog 21 #[.agg #[iv off, .slice p sh.length cap], .int .i64 s, .int .i64 a, .int .i64 b] w fun e w' => e = .returned (.bool (withinZ off sh s a b)) ∧ Below w.heap.size w w' := by
  have hv := fun W (h : Below w.heap.size w W) => valid_any off p cap w.heap.size sh W h.size (hS.below h) hlen
  have hl := fun W (h : Below w.heap.size w W) => local_any off s p cap sh W ((hS.below h).mono h.size) hlen
  obtain ⟨V, hV⟩ : ∃ V, withinZ off sh s a b = V := ⟨_, rfl⟩
  rw [hV]
  unfold withinZ at hV
  clear hS
  by_cases h1 : (okSod a && okSod b) = true
  · rw [h1, Bool.true_and] at hV
    rw [Bool.and_eq_true] at h1
    obtain ⟨ha, hb⟩ := h1
    have hm := fun W => mkwin_yes a b W ha hb
    have hwp := winZ_pos a b
    obtain ⟨a0, a1⟩ := okSod_iff.1 ha
    obtain ⟨wl, hwl⟩ : ∃ wl, winZ a b = wl := ⟨_, rfl⟩
    rw [hwl] at hm hV hwp
    clear hwl ha hb
    by_cases h2 : validZ off sh = true
    · rw [h2, Bool.true_and] at hV
      rw [h2] at hv
      by_cases h3 : okSec s = true
      · rw [h3, Bool.true_and] at hV
        obtain ⟨dd, hdd⟩ : ∃ dd, (localZ off sh s).1 = dd := ⟨_, rfl⟩
        obtain ⟨od, hod⟩ : ∃ od, (localZ off sh s).2 = od := ⟨_, rfl⟩
        obtain ⟨o0, o1⟩ : 0 ≤ od ∧ od < 86400 := hod ▸ local_in
        rw [hdd, hod] at hl
        rw [hod] at hV
        have he := fun W => elapsed_any a wl od W a0 a1 (by omega) (by omega)
        obtain ⟨el, hel⟩ : ∃ el, (od - a) % 86400 = el := ⟨_, rfl⟩
        rw [hel] at he hV
        clear hdd hod hel h2
        have HV := Lib.hid hV; clear hV
        go_enter Try.func21, Try.ntmps21
        go_wp2_with fail
        obtain ⟨W0, hW0, b0, z0, ka⟩ := boxZ' w off (.slice p sh.length cap)
        try rw [hW0]
        try clear hW0
        have c0 := ka.cell (i := 0) rfl
        have c1 := ka.cell (i := 1) rfl
        go_wp2_with fail
        refine (hm _).mono ?_; rintro e w1 ⟨rfl, b1⟩
        have hs1 := b1.size
        have ka := ka.below b1 (by omega)
        have c0 := ka.cell (i := 0) rfl
        have c1 := ka.cell (i := 1) rfl
        have hlt1 : w.heap.size < w1.heap.size := by omega
        go_wp2_with fail
        obtain ⟨W2, hW2, b2, z2, kw⟩ : ∃ W2, w1.alloc (.cells #[iv a, iv wl] 61) = W2 ∧ Below w1.heap.size w1 W2 ∧ W2.heap.size = w1.heap.size + 1 ∧ Arr W2 w1.heap.size 61 [iv a, iv wl] :=
          ⟨_, rfl, (Below.refl _ _).alloc (Nat.le_refl _) _, by simp, Arr.new w1 _ [iv a, iv wl]⟩
        rw [hW2]; clear hW2
        have b02 := bthen (bthen b0 b1) b2
        have ka := ka.below b2 hlt1
        have c0 := ka.cell (i := 0) rfl
        have c1 := ka.cell (i := 1) rfl
        refine (hv _ b02).mono ?_; rintro e w3 ⟨rfl, b3⟩
        have hs3 := b3.size
        have b03 := bthen b02 b3
        have ka := ka.below b3 (by omega)
        have kw := kw.below b3 (by omega)
        have c0 := ka.cell (i := 0) rfl
        have c1 := ka.cell (i := 1) rfl
        go_wp2_with (first | (go_at_call 25; refine Calls.mono (isSecond_any _ _) ?_; rintro e w' ⟨rfl, rfl⟩))
        refine (hl _ b03).mono ?_; rintro e w4 ⟨rfl, b4⟩
        have hs4 := b4.size
        have b04 := bthen b03 b4
        have kw := kw.below b4 (by omega)
        have d0 := kw.cell (i := 0) rfl
        have d1 := kw.cell (i := 1) rfl
        clear ka c0 c1 hv hl hm
        obtain ⟨B, hB⟩ : ∃ B, w1.heap.size = B := ⟨_, rfl⟩
        rw [hB] at d0 d1 z2 hs1 ⊢
        have hB4 : B < w4.heap.size := by omega
        have hst : w4.drew.cell? ⟨B, 0, none⟩ = some (iv a) ∧ w4.drew.cell? ⟨B, 1, none⟩ = some (iv wl) ∧ Below w4.heap.size w4 w4.drew := ⟨d0, d1, (Below.refl _ _).drew⟩
        go_wp2_with fail
        go_region_held3 (fun w' => w'.cell? ⟨B, 0, none⟩ = some (iv a) ∧ w'.cell? ⟨B, 1, none⟩ = some (iv wl) ∧ Below w4.heap.size w4 w') (first | assumption | exact hst | exact keepW (by assumption) hB4 (Nat.le_refl _) b5 | fail)
          (first | (go_at_call 34; refine (he _).mono ?_; rintro e w5 ⟨rfl, b5⟩))
        go_wp2_with fail
        go_ret
        exact ⟨by rw [HV.out]; rfl, bthen b04 ((Below.refl _ w4).drew.trans b5)⟩
      · rw [Bool.not_eq_true] at h3
        rw [h3, Bool.false_and] at hV
        subst hV
        clear hl
        go_enter Try.func21, Try.ntmps21
        go_wp2_with fail
        obtain ⟨W0, hW0, b0, z0, ka⟩ := boxZ' w off (.slice p sh.length cap)
        try rw [hW0]
        try clear hW0
        have c0 := ka.cell (i := 0) rfl
        have c1 := ka.cell (i := 1) rfl
        go_wp2_with fail
        refine (hm _).mono ?_; rintro e w1 ⟨rfl, b1⟩
        have hs1 := b1.size
        have ka := ka.below b1 (by omega)
        have c0 := ka.cell (i := 0) rfl
        have c1 := ka.cell (i := 1) rfl
        have hlt1 : w.heap.size < w1.heap.size := by omega
        go_wp2_with fail
        obtain ⟨W2, hW2, b2, z2, kw⟩ : ∃ W2, w1.alloc (.cells #[iv a, iv wl] 61) = W2 ∧ Below w1.heap.size w1 W2 ∧ W2.heap.size = w1.heap.size + 1 ∧ Arr W2 w1.heap.size 61 [iv a, iv wl] :=
          ⟨_, rfl, (Below.refl _ _).alloc (Nat.le_refl _) _, by simp, Arr.new w1 _ [iv a, iv wl]⟩
        rw [hW2]; clear hW2
        have b02 := bthen (bthen b0 b1) b2
        have ka := ka.below b2 hlt1
        have c0 := ka.cell (i := 0) rfl
        have c1 := ka.cell (i := 1) rfl
        refine (hv _ b02).mono ?_; rintro e w3 ⟨rfl, b3⟩
        go_wp2_with (first | (go_at_call 25; refine Calls.mono (isSecond_any _ _) ?_; rintro e w' ⟨rfl, rfl⟩))
        go_ret
        exact ⟨rfl, bthen b02 b3⟩
    · rw [Bool.not_eq_true] at h2
      rw [h2, Bool.false_and, Bool.false_and] at hV
      rw [h2] at hv
      subst hV
      clear hl
      go_enter Try.func21, Try.ntmps21
      go_wp2_with fail
      obtain ⟨W0, hW0, b0, z0, ka⟩ := boxZ' w off (.slice p sh.length cap)
      try rw [hW0]
      try clear hW0
      have c0 := ka.cell (i := 0) rfl
      have c1 := ka.cell (i := 1) rfl
      go_wp2_with fail
      refine (hm _).mono ?_; rintro e w1 ⟨rfl, b1⟩
      have hs1 := b1.size
      have ka := ka.below b1 (by omega)
      have c0 := ka.cell (i := 0) rfl
      have c1 := ka.cell (i := 1) rfl
      have hlt1 : w.heap.size < w1.heap.size := by omega
      go_wp2_with fail
      obtain ⟨W2, hW2, b2, z2, kw⟩ : ∃ W2, w1.alloc (.cells #[iv a, iv wl] 61) = W2 ∧ Below w1.heap.size w1 W2 ∧ W2.heap.size = w1.heap.size + 1 ∧ Arr W2 w1.heap.size 61 [iv a, iv wl] :=
        ⟨_, rfl, (Below.refl _ _).alloc (Nat.le_refl _) _, by simp, Arr.new w1 _ [iv a, iv wl]⟩
      rw [hW2]; clear hW2
      have b02 := bthen (bthen b0 b1) b2
      have ka := ka.below b2 hlt1
      have c0 := ka.cell (i := 0) rfl
      have c1 := ka.cell (i := 1) rfl
      refine (hv _ b02).mono ?_; rintro e w3 ⟨rfl, b3⟩
      go_wp2_with fail
      go_ret
      exact ⟨rfl, bthen b02 b3⟩
  · rw [Bool.not_eq_true] at h1
    rw [h1, Bool.false_and, Bool.false_and, Bool.false_and] at hV
    subst hV
    have hm := fun W => mkwin_no a b W h1
    clear hl hv
    go_enter Try.func21, Try.ntmps21
    go_wp2_with fail
    obtain ⟨W0, hW0, b0, z0, ka⟩ := boxZ' w off (.slice p sh.length cap)
    try rw [hW0]
    try clear hW0
    go_wp2_with fail
    refine (hm _).mono ?_; rintro e w1 ⟨rfl, b1⟩
    have hs1 := b1.size
    have ka := ka.below b1 (by omega)
    go_wp2_with fail
    go_ret
    exact ⟨rfl, (bthen b0 b1).alloc (by omega) _⟩
end Go.Proofs.Ytejohdmbnnlhjaa

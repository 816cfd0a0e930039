/- Local. -/
import Derived.Test.YtejohdmbnnlhjaaCalOff
namespace Go.Proofs.Ytejohdmbnnlhjaa
open Go.RowKit

theorem boxZ' (w : World) (off : Int) (v : Value) : ∃ W0, w.alloc (.cells #[.int .i64 off, v] 24) = W0 ∧ Below w.heap.size w W0 ∧ W0.heap.size = w.heap.size + 1 ∧ Arr W0 w.heap.size 24 [iv off, v] := boxZ w off v

set_option maxRecDepth 100000 in
set_option maxHeartbeats 4000000 in
theorem local_any (off s : Int) (p : Option Addr) (cap : Nat) (sh : List (Int × Int)) (w : World) (hS : ShAt w w.heap.size p sh) (hlen : sh.length ≤ 1000) :
    Calls Try.prog 11 #[.agg #[iv off, .slice p sh.length cap], .int .i64 s] w fun e w' => e = .returned (.tuple #[iv (localZ off sh s).1, iv (localZ off sh s).2]) ∧ Below w.heap.size w w' := by
  have hv := fun W (h : Below w.heap.size w W) => valid_any off p cap w.heap.size sh W h.size (hS.below h) hlen
  have ho := fun W (h : Below w.heap.size w W) => offset_any off s p cap sh W ((hS.below h).mono h.size) hlen
  clear hS
  by_cases h1 : validZ off sh = true
  · have hob := offZ_ok (s := s) h1
    by_cases h2 : okSec s = true
    · obtain ⟨d, hd⟩ : ∃ d, (s + offZ off sh s) / 86400 = d := ⟨_, rfl⟩
      obtain ⟨r, hr⟩ : ∃ r, (s + offZ off sh s) % 86400 = r := ⟨_, rfl⟩
      have hL : localZ off sh s = (d, r) := by unfold localZ; rw [h1, h2, hd, hr]; rfl
      rw [hL]; clear hL
      have hs2 := okSec_iff.1 h2
      obtain ⟨o, hoo⟩ : ∃ o, offZ off sh s = o := ⟨_, rfl⟩
      rw [hoo] at hd hr hob ho
      have e1 : (s + o - r).tdiv 86400 = d := by
        rw [show s + o - r = d * 86400 by omega]
        exact Int.mul_tdiv_cancel _ (by decide)
      have e2 : IntKind.i64.wrap d = d := w64 (by omega) (by omega)
      have e3 : IntKind.i64.wrap (s + o) = s + o := w64 (by omega) (by omega)
      have e4 : IntKind.i64.wrap (s + o - r) = s + o - r := w64 (by omega) (by omega)
      have e5 : (s + o - r) / 86400 = d := by omega
      have hrs : ∀ W, Calls Try.prog 27 #[.int .i64 (s + o)] W fun e w' => e = .returned (.int .i64 r) ∧ W = w' := fun W => hr ▸ rest_any _ W
      have hr0 : 0 ≤ r := by omega
      have hr1 : r < 86400 := by omega
      obtain ⟨hs0, hs1⟩ := hs2
      obtain ⟨ho0, ho1⟩ := hob
      clear hd hr hoo
      rw [h1] at hv
      have H1 := Lib.hid h1; clear h1
      go_enter Try.func11, Try.ntmps11
      go_wp2_with fail
      obtain ⟨W0, hW0, b0, z0, ka⟩ := boxZ' w off (.slice p sh.length cap)
      try rw [hW0]
      try clear hW0
      have c0 := ka.cell (i := 0) rfl
      have c1 := ka.cell (i := 1) rfl
      go_wp2_with fail
      refine Calls.mono (hv _ b0) ?_; rintro e w1 ⟨rfl, b1⟩
      have b01 := bthen b0 b1
      have ka1 := ka.below b1 (by omega)
      have c0 := ka1.cell (i := 0) rfl
      have c1 := ka1.cell (i := 1) rfl
      go_wp2_with (first | (go_at_call 25; refine Calls.mono (isSecond_any _ _) ?_; rintro e w' ⟨rfl, rfl⟩) | (go_at_call 26; refine Calls.mono (ho _ b01) ?_; rintro e w2 ⟨rfl, b2⟩) | (go_at_call 27; refine Calls.mono (hrs _) ?_; rintro e w' ⟨rfl, rfl⟩))
      go_ret2
      exact ⟨rfl, bthen b01 b2⟩
    · rw [Bool.not_eq_true] at h2
      have hL : localZ off sh s = (0, 0) := by unfold localZ; rw [h2, Bool.and_false]; simp
      rw [hL]; clear hL
      rw [h1] at hv
      go_enter Try.func11, Try.ntmps11
      go_wp2_with fail
      obtain ⟨W0, hW0, b0, z0, ka⟩ := boxZ' w off (.slice p sh.length cap)
      try rw [hW0]
      try clear hW0
      have c0 := ka.cell (i := 0) rfl
      have c1 := ka.cell (i := 1) rfl
      go_wp2_with fail
      refine Calls.mono (hv _ b0) ?_; rintro e w1 ⟨rfl, b1⟩
      go_wp2_with (go_at_call 25; refine Calls.mono (isSecond_any _ _) ?_; rintro e w' ⟨rfl, rfl⟩)
      go_ret2
      exact ⟨rfl, bthen b0 b1⟩
  · rw [Bool.not_eq_true] at h1
    have hL : localZ off sh s = (0, 0) := by unfold localZ; rw [h1, Bool.false_and]; simp
    rw [hL]; clear hL
    rw [h1] at hv
    go_enter Try.func11, Try.ntmps11
    go_wp2_with fail
    obtain ⟨W0, hW0, b0, z0, ka⟩ := boxZ' w off (.slice p sh.length cap)
    try rw [hW0]
    try clear hW0
    have c0 := ka.cell (i := 0) rfl
    have c1 := ka.cell (i := 1) rfl
    go_wp2_with fail
    refine Calls.mono (hv _ b0) ?_; rintro e w1 ⟨rfl, b1⟩
    go_wp2_with (go_at_call 25; refine Calls.mono (isSecond_any _ _) ?_; rintro e w' ⟨rfl, rfl⟩)
    go_ret2
    exact ⟨rfl, bthen b0 b1⟩
end Go.Proofs.Ytejohdmbnnlhjaa

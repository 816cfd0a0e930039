/- The reference's stretch and Within. -/
import Derived.Test.YtejohdmbnnlhjaaCalRefB
import Derived.Test.YtejohdmbnnlhjaaCalDaysM
namespace Go.Proofs.Ytejohdmbnnlhjaa
open Go.RowKit

theorem strs_get : ∀ {sh : List (Int × Int)} {f o : Int} {i : Nat}, i ≤ sh.length → (strs f o sh).getD i (0, 0, 0) = ((if i = 0 then f else (sh.getD (i - 1) (0, 0)).1), (if i < sh.length then (sh.getD i (0, 0)).1 else 10000000001), (if i = 0 then o else (sh.getD (i - 1) (0, 0)).2))
  | [], f, o, i, h => by
    have : i = 0 := by simpa using h
    subst this; rfl
  | (a, p) :: r, f, o, i, h => by
    cases i with
    | zero => simp [strs]
    | succ i =>
      have := strs_get (sh := r) (f := a) (o := p) (i := i) (by simpa using h)
      unfold strs
      rw [List.getD_cons_succ, this]
      cases i with
      | zero => simp
      | succ i => simp

set_option maxRecDepth 100000 in
set_option maxHeartbeats 4000000 in
theorem rstretch_any (off : Int) (i : Nat) (p : Option Addr) (cap : Nat) (sh : List (Int × Int)) (w : World) (hS : ShAt w w.heap.size p sh) (hv : validZ off sh = true) (hi : i ≤ sh.length) (f t o : Int) (he : (strs 0 off sh).getD i (0, 0, 0) = (f, t, o)) :
    Calls Try.prog 31 #[.agg #[iv off, .slice p sh.length cap], .int .i64 (i : Int)] w fun e w' => e = .returned (.tuple #[iv f, iv (t - 1), iv o]) ∧ Below w.heap.size w w' := by
  rw [strs_get hi] at he
  simp only [Prod.mk.injEq] at he
  obtain ⟨ef, et, eo⟩ := he
  have hl40 := (valid_iff hv).2.1
  have hasc := valid_asc hv
  have hfin : ∀ W0, W0 = w.alloc (.cells #[iv off, .slice p sh.length cap] 24) → Below w.heap.size w W0 := fun W0 h => by subst h; exact (Below.refl _ w).alloc (Nat.le_refl _) _
  have hin : i < sh.length → ∃ b ob a, p = some ⟨b, ob, none⟩ ∧ b < w.heap.size ∧ w.cell? ⟨b, ob + i * 2, none⟩ = some (iv a) ∧ t = a ∧ 0 ≤ a ∧ a ≤ 10000000000 := fun h => by
    obtain ⟨b, ob, h1, h2, h3, h4⟩ := hS i h
    obtain ⟨g1, g2⟩ := okSec_iff.1 (asc_get hasc h).1
    rw [if_pos h] at et
    exact ⟨b, ob, _, h1, h2, h3, et.symm, g1, g2⟩
  cases i with
  | zero =>
    simp only [if_true] at ef eo
    subst ef eo
    by_cases hlt : 0 < sh.length
    · obtain ⟨b, ob, a, rfl, hb, ca, rfl, a0, a1⟩ := hin hlt
      have ca' : w.cell? ⟨b, ob, none⟩ = some (iv t) := by simpa using ca
      have hl' : (0 : Int) < (sh.length : Int) := by omega
      have e1 : IntKind.i64.wrap (t - 1) = t - 1 := w64 (by omega) (by omega)
      clear et hasc hin hS ca
      go_enter Try.func31, Try.ntmps31
      go_wp2_with fail
      go_ret3
      exact ⟨rfl, hfin _ rfl⟩
    · have h0 : sh.length = 0 := by omega
      rw [if_neg hlt] at et
      subst et
      rw [h0] at hfin ⊢
      clear hin hS hasc hl40 hlt hi
      go_enter Try.func31, Try.ntmps31
      go_wp2_with fail
      go_ret3
      exact ⟨rfl, hfin _ rfl⟩
  | succ i =>
    simp only [Nat.add_sub_cancel] at ef eo
    rw [if_neg (by omega)] at ef eo
    obtain ⟨b, ob, rfl, hb, s0, s1⟩ := hS i (by omega)
    rw [ef] at s0
    rw [eo] at s1
    have t0 : (0 : Int) < ((i + 1 : Nat) : Int) := by omega
    have t2 : ((i + 1 : Nat) : Int) - 1 = (i : Int) := by omega
    have t3 : IntKind.i64.wrap (((i + 1 : Nat) : Int) - 1) = (i : Int) := by rw [t2]; exact w64 (by omega) (by omega)
    have t4 : (0 : Int) ≤ (i : Int) := by omega
    have t5 : (i : Int) < (sh.length : Int) := by omega
    have t10 : (i : Int) + 1 - 1 = (i : Int) := by omega
    by_cases hlt : i + 1 < sh.length
    · obtain ⟨b', ob', a, e, _, ca, rfl, a0, a1⟩ := hin hlt
      simp only [Option.some.injEq, Addr.mk.injEq, and_true] at e
      obtain ⟨rfl, rfl⟩ := e
      have hl' : ((i + 1 : Nat) : Int) < (sh.length : Int) := by omega
      have e1 : IntKind.i64.wrap (t - 1) = t - 1 := w64 (by omega) (by omega)
      clear et ef eo hasc hin hS
      go_enter Try.func31, Try.ntmps31
      go_wp2_with fail
      go_ret3
      exact ⟨rfl, hfin _ rfl⟩
    · rw [if_neg hlt] at et
      subst et
      have hl' : ¬ ((i + 1 : Nat) : Int) < (sh.length : Int) := by omega
      have hl2 : (sh.length : Int) ≤ (i : Int) + 1 := by omega
      clear ef eo hasc hin hS
      go_enter Try.func31, Try.ntmps31
      go_wp2_with fail
      go_ret3
      exact ⟨rfl, hfin _ rfl⟩

theorem win_ref {a b n : Int} (ha0 : 0 ≤ a) (ha1 : a < 86400) (hb0 : 0 ≤ b) (hb1 : b < 86400) (hn0 : 0 ≤ n) (hn1 : n < 86400) : decide ((n - a) % 86400 < winZ a b) = if a < b then (decide (a ≤ n) && decide (n < b)) else (decide (a ≤ n) || decide (n < b)) := by
  unfold winZ
  split <;> split <;> rw [Bool.eq_iff_iff] <;> simp <;> omega

set_option maxRecDepth 100000 in
set_option maxHeartbeats 4000000 in
theorem rwithin_any (off s a b : Int) (p : Option Addr) (cap : Nat) (sh : List (Int × Int)) (w : World) (hS : ShAt w w.heap.size p sh) (hlen : sh.length ≤ 1000) :
    Calls Try.prog 22 #[.agg #[iv off, .slice p sh.length cap], .int .i64 s, .int .i64 a, .int .i64 b] w fun e w' => e = .returned (.bool (withinZ off sh s a b)) ∧ Below w.heap.size w w' := by
  have hv := fun W (h : Below w.heap.size w W) => rvalid_any off p cap w.heap.size sh W h.size (hS.below h) hlen
  have hl := fun W (h : Below w.heap.size w W) => rlocal_any off s p cap sh W ((hS.below h).mono h.size) hlen
  obtain ⟨V, hV⟩ : ∃ V, withinZ off sh s a b = V := ⟨_, rfl⟩
  rw [hV]
  clear hS
  have hno : (validZ off sh = true → ¬ (okSec s = true ∧ okSod a = true ∧ okSod b = true)) → V = false := fun h => by
    rw [← hV]; unfold withinZ
    cases h1 : validZ off sh
    · simp
    · cases h2 : okSec s
      · simp
      · cases h3 : okSod a
        · simp
        · cases h4 : okSod b
          · simp
          · exact absurd ⟨h2, h3, h4⟩ (h h1)
  by_cases h1 : validZ off sh = true
  · rw [h1] at hv
    by_cases h2 : 0 ≤ s ∧ s ≤ 10000000000
    · by_cases h3 : 0 ≤ a ∧ a < 86400
      · by_cases h4 : 0 ≤ b ∧ b < 86400
        · obtain ⟨dd, hdd⟩ : ∃ dd, (localZ off sh s).1 = dd := ⟨_, rfl⟩
          obtain ⟨n, hn⟩ : ∃ od, (localZ off sh s).2 = od := ⟨_, rfl⟩
          obtain ⟨n0, n1⟩ : 0 ≤ n ∧ n < 86400 := hn ▸ local_in
          unfold withinZ at hV
          rw [hn, okSod_iff.2 h3, okSod_iff.2 h4, h1, okSec_iff.2 h2, win_ref h3.1 h3.2 h4.1 h4.2 n0 n1] at hV
          simp only [Bool.and_self, Bool.true_and] at hV
          rw [hdd, hn] at hl
          obtain ⟨h2, h2'⟩ := h2
          obtain ⟨h3, h3'⟩ := h3
          obtain ⟨h4, h4'⟩ := h4
          have H1 := Lib.hid h1
          clear h1 hdd hn hno
          have hcases : (a < b ∧ a ≤ n ∧ n < b ∧ V = true) ∨ (a < b ∧ n < a ∧ V = false) ∨ (a < b ∧ a ≤ n ∧ b ≤ n ∧ V = false) ∨ (b ≤ a ∧ a ≤ n ∧ V = true) ∨ (b ≤ a ∧ n < a ∧ n < b ∧ V = true) ∨ (b ≤ a ∧ n < a ∧ b ≤ n ∧ V = false) := by
            by_cases g1 : a < b <;> by_cases g2 : a ≤ n <;> by_cases g3 : n < b <;> simp [g1, g2, g3] at hV <;> simp [← hV] <;> omega
          clear hV
          rcases hcases with ⟨g1, g2, g3, rfl⟩ | ⟨g1, g2, rfl⟩ | ⟨g1, g2, g3, rfl⟩ | ⟨g1, g2, rfl⟩ | ⟨g1, g2, g3, rfl⟩ | ⟨g1, g2, g3, rfl⟩
          all_goals
            go_enter Try.func22, Try.ntmps22
            go_wp2_with fail
            obtain ⟨W0, hW0, b0, z0, ka⟩ := boxZ' w off (.slice p sh.length cap)
            try rw [hW0]
            try clear hW0
            have c0 := ka.cell (i := 0) rfl
            have c1 := ka.cell (i := 1) rfl
            go_wp2_with fail
            refine Calls.mono (hv _ b0) ?_; rintro e w1 ⟨rfl, b1⟩
            have b01 := bthen b0 b1
            have ka1 := ka.below b1 (by omega)
            have c0 := ka1.cell (i := 0) rfl
            have c1 := ka1.cell (i := 1) rfl
            go_wp2_with fail
            refine Calls.mono (hl _ b01) ?_; rintro e w2 ⟨rfl, b2⟩
            go_wp2_with fail
            go_ret
            exact ⟨by first | rfl | (simp only [Array.getD]; simp; omega), bthen b01 b2⟩
        · have hf := hno (fun _ h => h4 (okSod_iff.1 h.2.2))
          subst hf
          obtain ⟨h2, h2'⟩ := h2
          obtain ⟨h3, h3'⟩ := h3
          clear hno hV hl h1
          rcases (by omega : b < 0 ∨ (0 ≤ b ∧ 86400 ≤ b)) with g | ⟨g, g'⟩
          all_goals
            go_enter Try.func22, Try.ntmps22
            go_wp2_with fail
            obtain ⟨W0, hW0, b0, z0, ka⟩ := boxZ' w off (.slice p sh.length cap)
            try rw [hW0]
            try clear hW0
            have c0 := ka.cell (i := 0) rfl
            have c1 := ka.cell (i := 1) rfl
            go_wp2_with fail
            refine Calls.mono (hv _ b0) ?_; rintro e w1 ⟨rfl, b1⟩
            go_wp2_with fail
            go_ret
            exact ⟨rfl, bthen b0 b1⟩
      · have hf := hno (fun _ h => h3 (okSod_iff.1 h.2.1))
        subst hf
        obtain ⟨h2, h2'⟩ := h2
        clear hno hV hl h1
        rcases (by omega : a < 0 ∨ (0 ≤ a ∧ 86400 ≤ a)) with g | ⟨g, g'⟩
        all_goals
          go_enter Try.func22, Try.ntmps22
          go_wp2_with fail
          obtain ⟨W0, hW0, b0, z0, ka⟩ := boxZ' w off (.slice p sh.length cap)
          try rw [hW0]
          try clear hW0
          have c0 := ka.cell (i := 0) rfl
          have c1 := ka.cell (i := 1) rfl
          go_wp2_with fail
          refine Calls.mono (hv _ b0) ?_; rintro e w1 ⟨rfl, b1⟩
          go_wp2_with fail
          go_ret
          exact ⟨rfl, bthen b0 b1⟩
    · have hf := hno (fun _ h => h2 (okSec_iff.1 h.1))
      subst hf
      clear hno hV hl h1
      rcases (by omega : s < 0 ∨ (0 ≤ s ∧ 10000000000 < s)) with g | ⟨g, g'⟩
      all_goals
        go_enter Try.func22, Try.ntmps22
        go_wp2_with fail
        obtain ⟨W0, hW0, b0, z0, ka⟩ := boxZ' w off (.slice p sh.length cap)
        try rw [hW0]
        try clear hW0
        have c0 := ka.cell (i := 0) rfl
        have c1 := ka.cell (i := 1) rfl
        go_wp2_with fail
        refine Calls.mono (hv _ b0) ?_; rintro e w1 ⟨rfl, b1⟩
        go_wp2_with fail
        go_ret
        exact ⟨rfl, bthen b0 b1⟩
  · have hf := hno (fun h _ => absurd h h1)
    subst hf
    rw [Bool.not_eq_true] at h1
    rw [h1] at hv
    clear hno hV hl h1
    go_enter Try.func22, Try.ntmps22
    go_wp2_with fail
    obtain ⟨W0, hW0, b0, z0, ka⟩ := boxZ' w off (.slice p sh.length cap)
    try rw [hW0]
    try clear hW0
    have c0 := ka.cell (i := 0) rfl
    have c1 := ka.cell (i := 1) rfl
    go_wp2_with fail
    refine Calls.mono (hv _ b0) ?_; rintro e w1 ⟨rfl, b1⟩
    go_wp2_with fail
    go_ret
    exact ⟨rfl, bthen b0 b1⟩
end Go.Proofs.Ytejohdmbnnlhjaa

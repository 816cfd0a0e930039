/- Valid. -/
import Derived.Test.YtejohdmbnnlhjaaCalIter
namespace Go.Proofs.Ytejohdmbnnlhjaa
open Go.RowKit

theorem boxZ (w : World) (off : Int) (v : Value) : ∃ W0, w.alloc (.cells #[iv off, v] 24) = W0 ∧ Below w.heap.size w W0 ∧ W0.heap.size = w.heap.size + 1 ∧ Arr W0 w.heap.size 24 [iv off, v] :=
  ⟨_, rfl, (Below.refl _ w).alloc (Nat.le_refl _) _, by simp, Arr.new w 24 [iv off, v]⟩
theorem bthen2 {a b c : World} {n : Nat} (h : Below n a b) (k : Below b.heap.size b c) (hn : n ≤ b.heap.size) : Below n a c := h.trans (k.mono hn)

set_option maxRecDepth 100000 in
set_option maxHeartbeats 4000000 in
theorem valid_any (off : Int) (p : Option Addr) (cap n₀ : Nat) (sh : List (Int × Int)) (w : World) (hn : n₀ ≤ w.heap.size) (hS : ShAt w n₀ p sh) (hlen : sh.length ≤ 1000) :
    Calls Try.prog 13 #[.agg #[iv off, .slice p sh.length cap]] w fun e w' => e = .returned (.bool (validZ off sh)) ∧ Below w.heap.size w w' := by
  obtain ⟨V, hV⟩ : ∃ V, validZ off sh = V := ⟨_, rfl⟩
  rw [hV]
  unfold validZ at hV
  by_cases h1 : okOff off = true
  · by_cases h2 : sh.length ≤ 40
    · rw [h1, decide_eq_true h2, Bool.true_and, Bool.true_and] at hV
      have h2' : decide (40 < sh.length) = false := by simp; omega
      go_enter Try.func13, Try.ntmps13
      go_wp2_with fail
      obtain ⟨W0, hW0, b0, z0, ka⟩ := boxZ w off (.slice p sh.length cap)
      rw [hW0]; clear hW0
      have c0 := ka.cell (i := 0) rfl
      have c1 := ka.cell (i := 1) rfl
      have hS0 := hS.below (b0.mono hn)
      clear hS
      have HV := Lib.hid hV; clear hV
      go_wp2_with (go_at_call 29; refine Calls.mono (isOffset_any _ _) ?_; rintro e w' ⟨rfl, rfl⟩)
      obtain ⟨Z, hZ⟩ : ∃ Z, w.heap.size = Z := ⟨_, rfl⟩
      rw [hZ] at *
      go_loopw [3, 19] (fun l i wr => ∃ (k : Nat) (last : Int), i = .int .i64 k ∧ l = .int .i64 last ∧ k ≤ sh.length ∧ V = ascZ last (sh.drop k) ∧ Below W0.heap.size W0 wr) (fun _ i _ => sh.length - (intOf i).toNat)
      case atStart => exact ⟨0, -1, rfl, rfl, Nat.zero_le _, HV.out.symm, Below.refl _ _⟩
      case round =>
        obtain ⟨k, last, rfl, rfl, hk, hx, hB⟩ := hrel
        have hs := hB.size
        by_cases hlt : k < sh.length
        · rw [ascZ_drop hlt] at hx
          obtain ⟨b, ob, rfl, hb, s0, s1⟩ := (hS0.below (hB.mono (by omega))) k hlt
          obtain ⟨a, ha⟩ : ∃ a, (sh.getD k (0, 0)).1 = a := ⟨_, rfl⟩
          obtain ⟨o, ho⟩ : ∃ a, (sh.getD k (0, 0)).2 = a := ⟨_, rfl⟩
          rw [ha] at s0 hx
          rw [ho] at s1 hx
          have HX := Lib.hid hx; clear hx ha ho
          by_cases q1 : last < a
          · by_cases q2 : okSec a = true
            · by_cases q3 : okOff o = true
              · go_wp2_with (first | (go_at_call 29; refine Calls.mono (isOffset_any _ _) ?_; rintro e w' ⟨rfl, rfl⟩) | (go_at_call 25; refine Calls.mono (isSecond_any _ _) ?_; rintro e w' ⟨rfl, rfl⟩))
                go_roundw
                case rel => exact ⟨k + 1, a, by go_num, rfl, by omega, by rw [HX.out, q2, q3, decide_eq_true q1]; simp, hB.alloc hB.size _⟩
                case measure => simp [intOf]; omega
              · rw [Bool.not_eq_true] at q3
                go_wp2_with (first | (go_at_call 29; refine Calls.mono (isOffset_any _ _) ?_; rintro e w' ⟨rfl, rfl⟩) | (go_at_call 25; refine Calls.mono (isSecond_any _ _) ?_; rintro e w' ⟨rfl, rfl⟩))
                go_ret
                exact ⟨by rw [HX.out, q3]; simp, b0.trans ((hB.mono (by omega)).alloc (by omega) _)⟩
            · rw [Bool.not_eq_true] at q2
              go_wp2_with (first | (go_at_call 29; refine Calls.mono (isOffset_any _ _) ?_; rintro e w' ⟨rfl, rfl⟩) | (go_at_call 25; refine Calls.mono (isSecond_any _ _) ?_; rintro e w' ⟨rfl, rfl⟩))
              go_ret
              exact ⟨by rw [HX.out, q2]; simp, b0.trans ((hB.mono (by omega)).alloc (by omega) _)⟩
          · have q1' : a ≤ last := by omega
            go_wp2_with (first | (go_at_call 29; refine Calls.mono (isOffset_any _ _) ?_; rintro e w' ⟨rfl, rfl⟩) | (go_at_call 25; refine Calls.mono (isSecond_any _ _) ?_; rintro e w' ⟨rfl, rfl⟩))
            go_ret
            exact ⟨by rw [HX.out, decide_eq_false (show ¬ last < a by omega)]; simp, b0.trans ((hB.mono (by omega)).alloc (by omega) _)⟩
        · obtain rfl : k = sh.length := by omega
          rw [List.drop_length] at hx
          have HX := Lib.hid hx; clear hx
          go_wp2_with fail
          go_ret
          exact ⟨by rw [HX.out]; rfl, b0.trans (hB.mono (by omega))⟩
    · rw [h1, decide_eq_false h2, Bool.true_and, Bool.false_and] at hV
      subst hV
      have h2' : decide (40 < sh.length) = true := by simp; omega
      go_enter Try.func13, Try.ntmps13
      go_wp2_with fail
      obtain ⟨W0, hW0, b0, z0, ka⟩ := boxZ w off (.slice p sh.length cap)
      rw [hW0]; clear hW0
      have c0 := ka.cell (i := 0) rfl
      have c1 := ka.cell (i := 1) rfl
      go_wp2_with (first | (go_at_call 29; refine Calls.mono (isOffset_any _ _) ?_; rintro e w' ⟨rfl, rfl⟩) | (go_at_call 25; refine Calls.mono (isSecond_any _ _) ?_; rintro e w' ⟨rfl, rfl⟩))
      go_ret
      exact ⟨rfl, b0⟩
  · rw [Bool.not_eq_true] at h1
    rw [h1, Bool.false_and, Bool.false_and] at hV
    subst hV
    go_enter Try.func13, Try.ntmps13
    go_wp2_with fail
    obtain ⟨W0, hW0, b0, z0, ka⟩ := boxZ w off (.slice p sh.length cap)
    rw [hW0]; clear hW0
    have c0 := ka.cell (i := 0) rfl
    go_wp2_with (first | (go_at_call 29; refine Calls.mono (isOffset_any _ _) ?_; rintro e w' ⟨rfl, rfl⟩) | (go_at_call 25; refine Calls.mono (isSecond_any _ _) ?_; rintro e w' ⟨rfl, rfl⟩))
    go_ret
    exact ⟨rfl, b0⟩
end Go.Proofs.Ytejohdmbnnlhjaa

/- The reference's Valid and offset. -/
import Derived.Test.YtejohdmbnnlhjaaCalInv
namespace Go.Proofs.Ytejohdmbnnlhjaa
open Go.RowKit

def lastOf (sh : List (Int × Int)) : Nat → Int
  | 0 => -1
  | k + 1 => (sh.getD k (0, 0)).1

set_option maxRecDepth 100000 in
set_option maxHeartbeats 4000000 in
theorem rvalid_any (off : Int) (p : Option Addr) (cap n₀ : Nat) (sh : List (Int × Int)) (w : World) (hn : n₀ ≤ w.heap.size) (hS : ShAt w n₀ p sh) (hlen : sh.length ≤ 1000) :
    Calls Try.prog 14 #[.agg #[iv off, .slice p sh.length cap]] w fun e w' => e = .returned (.bool (validZ off sh)) ∧ Below w.heap.size w w' := by
  obtain ⟨V, hV⟩ : ∃ V, validZ off sh = V := ⟨_, rfl⟩
  rw [hV]
  unfold validZ at hV
  have hb : ∀ W0, W0 = w.alloc (.cells #[iv off, .slice p sh.length cap] 24) → Below w.heap.size w W0 ∧ Arr W0 w.heap.size 24 [iv off, .slice p sh.length cap] := fun W0 h => by
    subst h; exact ⟨(Below.refl _ w).alloc (Nat.le_refl _) _, Arr.new w _ [iv off, .slice p sh.length cap]⟩
  by_cases h1 : okOff off = true
  · obtain ⟨o1, o2⟩ := okOff_iff.1 h1
    by_cases h2 : sh.length ≤ 40
    · rw [h1, decide_eq_true h2, Bool.true_and, Bool.true_and] at hV
      have h2' : decide (40 < sh.length) = false := by simp; omega
      have h2'' : decide ((40 : Int) < (sh.length : Int)) = false := by simp; omega
      go_enter Try.func14, Try.ntmps14
      go_wp2_with fail
      obtain ⟨W0, hW0, b0, z0, ka⟩ := boxZ w off (.slice p sh.length cap)
      rw [hW0]; clear hW0 hb
      have c0 := ka.cell (i := 0) rfl
      have c1 := ka.cell (i := 1) rfl
      have hS0 := hS.below (b0.mono hn)
      have HV := Lib.hid hV; clear hV hS
      have hzl := ka.lt
      go_loopw [3] (fun i wr => ∃ k : Nat, i = .int .i64 k ∧ k ≤ sh.length ∧ V = ascZ (lastOf sh k) (sh.drop k) ∧ Below W0.heap.size W0 wr) (fun i _ => sh.length - (intOf i).toNat)
      case atStart => exact ⟨0, rfl, Nat.zero_le _, HV.out.symm, Below.refl _ _⟩
      case round =>
        obtain ⟨k, rfl, hk, hx, hB⟩ := hrel
        have hs := hB.size
        have kr := ka.below hB hzl
        have c0 := kr.cell (i := 0) rfl
        have c1 := kr.cell (i := 1) rfl
        have hzr : w.heap.size < wr.heap.size := by omega
        have hbF : ∀ o, Below w.heap.size w (wr.alloc o) := fun o => b0.trans ((hB.mono (by omega)).alloc (by omega) _)
        by_cases hlt : k < sh.length
        · rw [ascZ_drop hlt] at hx
          obtain ⟨b, ob, rfl, hb, s0, s1⟩ := (hS0.below (hB.mono (by omega))) k hlt
          have hprev : ∀ k', k = k' + 1 → ∃ x, wr.cell? ⟨b, ob + k' * 2, none⟩ = some (iv x) ∧ lastOf sh k = x := fun k' hk' => by
            subst hk'
            obtain ⟨b', o', e, _, h2, _⟩ := (hS0.below (hB.mono (by omega))) k' (by omega)
            simp only [Option.some.injEq, Addr.mk.injEq, and_true] at e
            obtain ⟨rfl, rfl⟩ := e
            exact ⟨_, h2, rfl⟩
          have hnext : lastOf sh (k + 1) = (sh.getD k (0, 0)).1 := rfl
          obtain ⟨a, ha⟩ : ∃ a, (sh.getD k (0, 0)).1 = a := ⟨_, rfl⟩
          obtain ⟨o, ho⟩ : ∃ a, (sh.getD k (0, 0)).2 = a := ⟨_, rfl⟩
          rw [ha] at s0 hx hnext
          rw [ho] at s1 hx
          have hbr : b < wr.heap.size := by omega
          have HX := Lib.hid hx
          have HP := Lib.hid hprev
          have HN := Lib.hid hnext
          clear hx ha ho hprev hnext
          by_cases q1 : 0 ≤ a ∧ a ≤ 10000000000
          · obtain ⟨q1, q2⟩ := q1
            by_cases q3 : -50400 ≤ o ∧ o ≤ 50400
            · obtain ⟨q3, q4⟩ := q3
              have hsec := okSec_iff.2 ⟨q1, q2⟩
              have hof := okOff_iff.2 ⟨q3, q4⟩
              cases k with
              | zero =>
                have t0 : decide ((0 : Int) < ((0 : Nat) : Int)) = false := by simp
                have hfin : V = ascZ (lastOf sh (0 + 1)) (sh.drop (0 + 1)) := by rw [HX.out, HN.out, hsec, hof, decide_eq_true (show lastOf sh 0 < a by show (-1 : Int) < a; omega)]; simp
                have HF := Lib.hid hfin; clear hfin
                have s0' : wr.cell? ⟨b, ob, none⟩ = some (iv a) := by simpa using s0
                have s1' : wr.cell? ⟨b, ob + 1, none⟩ = some (iv o) := by simpa using s1
                go_wp2_with fail
                go_quiet (fail)
                go_wp2_with fail
                go_roundw
                case rel => exact ⟨0 + 1, by go_num, by omega, HF.out, below_drewN (hB.alloc hs _) nq⟩
                case measure => simp [intOf]; omega
              | succ k =>
                obtain ⟨x, cx, hlx⟩ := HP.out k rfl
                have t0 : decide ((0 : Int) < ((k + 1 : Nat) : Int)) = true := by rw [decide_eq_true_eq]; omega
                have t2 : ((k + 1 : Nat) : Int) - 1 = (k : Int) := by omega
                have t3 : IntKind.i64.wrap (((k + 1 : Nat) : Int) - 1) = (k : Int) := by rw [t2]; exact w64 (by omega) (by omega)
                have t4 : (0 : Int) ≤ (k : Int) := by omega
                have t5 : (k : Int) < (sh.length : Int) := by omega
                have t7 : IntKind.i64.wrap (k : Int) = (k : Int) := w64 (by omega) (by omega)
                have t8 : ((k : Int) + 1) < (sh.length : Int) := by omega
                have t9 : (0 : Int) < ((k : Int) + 1) := by omega
                have t10 : (k : Int) + 1 - 1 = (k : Int) := by omega
                rw [hlx] at HX
                by_cases q5 : x < a
                · have g1 : decide (a ≤ x) = false := by simp; omega
                  have hfin : V = ascZ (lastOf sh (k + 1 + 1)) (sh.drop (k + 1 + 1)) := by rw [HX.out, HN.out, hsec, hof, decide_eq_true q5]; simp
                  have HF := Lib.hid hfin; clear hfin hlx
                  go_wp2_with fail
                  go_quiet (fail)
                  go_wp2_with fail
                  go_roundw
                  case rel => exact ⟨k + 1 + 1, by go_num, by omega, HF.out, below_drewN (hB.alloc hs _) nq⟩
                  case measure => simp [intOf]; omega
                · have g1 : decide (a ≤ x) = true := by simp; omega
                  have hfin : V = false := by rw [HX.out, decide_eq_false q5]; simp
                  have HF := Lib.hid hfin; clear hfin hlx
                  go_wp2_with fail
                  go_quiet (fail)
                  go_wp2_with fail
                  go_ret
                  exact ⟨by rw [HF.out]; rfl, below_drewN (hbF _) nq⟩
            · have hfin : V = false := by
                rw [HX.out, show okOff o = false by rw [← Bool.not_eq_true, okOff_iff]; exact q3]; simp
              have HF := Lib.hid hfin; clear hfin
              rcases (by omega : o < -50400 ∨ (-50400 ≤ o ∧ 50400 < o)) with q3 | ⟨q3, q4⟩
              all_goals
                go_wp2_with fail
                go_ret
                exact ⟨by rw [HF.out]; rfl, hbF _⟩
          · have hfin : V = false := by
              rw [HX.out, show okSec a = false by rw [← Bool.not_eq_true, okSec_iff]; exact q1]; simp
            have HF := Lib.hid hfin; clear hfin
            rcases (by omega : a < 0 ∨ (0 ≤ a ∧ 10000000000 < a)) with q1 | ⟨q1, q2⟩
            all_goals
              go_wp2_with fail
              go_ret
              exact ⟨by rw [HF.out]; rfl, hbF _⟩
        · obtain rfl : k = sh.length := by omega
          rw [List.drop_length] at hx
          have HX := Lib.hid hx; clear hx
          go_wp2_with fail
          go_ret
          exact ⟨by rw [HX.out]; rfl, b0.trans (hB.mono (by omega))⟩
    · rw [h1, decide_eq_false h2, Bool.true_and, Bool.false_and] at hV
      subst hV
      have h2' : decide (40 < sh.length) = true := by simp; omega
      have h2'' : decide ((40 : Int) < (sh.length : Int)) = true := by simp; omega
      go_enter Try.func14, Try.ntmps14
      go_wp2_with fail
      go_ret
      exact ⟨rfl, (hb _ rfl).1⟩
  · rw [Bool.not_eq_true] at h1
    rw [h1, Bool.false_and, Bool.false_and] at hV
    subst hV
    have h3 : ¬ (-50400 ≤ off ∧ off ≤ 50400) := fun h => by rw [okOff_iff.2 h] at h1; cases h1
    rcases (by omega : off < -50400 ∨ (-50400 ≤ off ∧ 50400 < off)) with q3 | ⟨q3, q4⟩
    all_goals
      go_enter Try.func14, Try.ntmps14
      go_wp2_with fail
      go_ret
      exact ⟨rfl, (hb _ rfl).1⟩
end Go.Proofs.Ytejohdmbnnlhjaa

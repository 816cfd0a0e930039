/- CalendarPlain. -/
import Derived.Test.YtejohdmbnnlhjaaCalMake
namespace Go.Proofs.Ytejohdmbnnlhjaa
open Go.RowKit

theorem plain_math {off s : Int} (h0 : -50400 ≤ off) (h1 : off ≤ 50400) (hs0 : 86400 ≤ s) (hs1 : s < 1000086400) :
    ∃ a b, localZ off [] s = (a, b) ∧ localZ off [] (s + 86400) = (a + 1, b) ∧ lengthZ off [] a = 86400 ∧ atT off [] a b = [s] ∧ -10 ≤ a ∧ a ≤ 20000 := by
  have hv : validZ off [] = true := by unfold validZ; rw [okOff_iff.2 ⟨h0, h1⟩]; rfl
  have ho : ∀ x, 0 ≤ x → offZ off [] x = off := fun x hx => by unfold offZ strs offRun; rw [if_neg (by simp; omega)]; rfl
  have hl : ∀ x, okSec x = true → localZ off [] x = ((x + off) / 86400, (x + off) % 86400) := fun x hx => by
    have := okSec_iff.1 hx
    unfold localZ; rw [hv, hx, ho x this.1]; rfl
  refine ⟨(s + off) / 86400, (s + off) % 86400, hl s (okSec_iff.2 ⟨by omega, by omega⟩), ?_, ?_, ?_, by omega, by omega⟩
  · rw [hl _ (okSec_iff.2 ⟨by omega, by omega⟩), show s + 86400 + off = s + off + 86400 by omega, Prod.mk.injEq]
    omega
  · unfold lengthZ lenZ
    rw [hv, okDay_iff.2 ⟨by omega, by omega⟩]
    simp only [strs, lenRun, Bool.and_self, if_true]
    omega
  · unfold atT atZ
    rw [hv, okDay_iff.2 ⟨by omega, by omega⟩, okSod_iff.2 ⟨by omega, by omega⟩]
    simp only [strs, atRun, Bool.and_self, if_true]
    rw [if_pos (by omega)]
    simp
    omega

set_option maxRecDepth 100000 in
set_option maxHeartbeats 4000000 in
theorem plain_law (c n : Int) (w : World) (c1 : -9223372036854775808 ≤ c) (c2 : c ≤ 9223372036854775807) (n1 : -9223372036854775808 ≤ n) (n2 : n ≤ 9223372036854775807) :
    Calls Try.prog 7 #[.int .i64 c, .int .i64 n] w fun e w' => e = .returned (.bool true) ∧ Below w.heap.size w w' := by
  have hmk := fun W => make_any c none 0 0 (fun _ => 0) W c1 c2 (by decide) (fun i hi => by omega) (fun _ => ⟨by decide, by decide⟩)
  obtain ⟨q, hq⟩ : ∃ q, pickZ n 1000000000 = q := ⟨_, rfl⟩
  obtain ⟨q1, q2⟩ : 0 ≤ q ∧ q < 1000000000 := hq ▸ pick_in (by decide)
  have hp := fun W => pick_any n 1000000000 W n1 n2 (by decide) (by decide)
  rw [hq] at hp
  clear hq
  go_enter Try.func7, Try.ntmps7
  go_wp2_with fail
  refine Calls.mono (sane_any _) ?_; rintro e w1 ⟨rfl, b1⟩
  go_wp2_with fail
  refine Calls.mono (hmk _) ?_; rintro e w2 ⟨off, sh, p, cap, rfl, hv, hlen, hS, b2⟩
  obtain rfl : sh = [] := List.eq_nil_of_length_eq_zero (by simpa using hlen)
  obtain ⟨⟨o1, o2⟩, -, -⟩ := valid_iff hv
  obtain ⟨s, hs⟩ : ∃ s, 86400 + q = s := ⟨_, rfl⟩
  obtain ⟨a, b, m1, m2, m3, m4, m5, m6⟩ := plain_math (s := s) o1 o2 (by omega) (by omega)
  have y1 := fun W (h : Below w2.heap.size w2 W) => local_any off s p cap [] W ((hS.below h).mono h.size) (by simp)
  have y2 := fun W (h : Below w2.heap.size w2 W) => local_any off (s + 86400) p cap [] W ((hS.below h).mono h.size) (by simp)
  have y3 := fun W (h : Below w2.heap.size w2 W) => at_any off a b p cap [] W ((hS.below h).mono h.size) (by simp)
  have y4 := fun W (h : Below w2.heap.size w2 W) => length_any off a p cap [] W ((hS.below h).mono h.size) (by simp)
  rw [m1] at y1
  rw [m2] at y2
  rw [m3] at y4
  rw [m4] at y3
  have e0 : ([] : List (Int × Int)).length = 0 := rfl
  rw [e0] at y1 y2 y3 y4 ⊢
  clear m1 m2 m3 m4 e0 hlen hmk hv hS
  have b12 := bthen b1 b2
  clear b1 b2
  go_wp2_with (go_at_call 15; refine Calls.mono (hp _) ?_; rintro e w' ⟨rfl, rfl⟩)
  obtain ⟨W3, hW3, b3, z3, kz⟩ := boxZ' w2 off (.slice p 0 cap)
  rw [hW3]; clear hW3
  refine Calls.mono (y1 _ b3) ?_; rintro e w4 ⟨rfl, b4⟩
  have s4 := b4.size
  have b34 := bthen b3 b4
  have kz := kz.below b4 (by omega)
  have c0 := kz.cell (i := 0) rfl
  have c1 := kz.cell (i := 1) rfl
  go_wp2_with fail
  refine Calls.mono (y2 _ b34) ?_; rintro e w5 ⟨rfl, b5⟩
  have s5 := b5.size
  have b35 := bthen b34 b5
  have kz := kz.below b5 (by omega)
  have c0 := kz.cell (i := 0) rfl
  have c1 := kz.cell (i := 1) rfl
  go_wp2_with fail
  refine Calls.mono (y3 _ b35) ?_; rintro e w6 ⟨v, rfl, o6, b6⟩
  have s6 := b6.size
  have b36 := bthen b35 b6
  have kz := kz.below b6 (by omega)
  have c0 := kz.cell (i := 0) rfl
  have c1 := kz.cell (i := 1) rfl
  obtain ⟨g, cap', rfl⟩ := ownsRow_succ o6
  have lg := (o6.lt g rfl).2
  have d0 : w6.cell? ⟨g, 0, none⟩ = some (iv s) := o6.cellAt 0 (by decide)
  clear o6
  go_wp2_with fail
  refine Calls.mono (y4 _ b36) ?_; rintro e w7 ⟨rfl, b7⟩
  have d0 := (b7.cell (p := ⟨g, 0, none⟩) lg).trans d0
  go_wp2_with fail
  go_ret
  exact ⟨rfl, bthen b12 (bthen b36 b7)⟩
end Go.Proofs.Ytejohdmbnnlhjaa

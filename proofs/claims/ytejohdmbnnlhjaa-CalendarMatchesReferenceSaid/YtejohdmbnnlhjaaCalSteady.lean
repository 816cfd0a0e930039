/- CalendarSteady. -/
import Derived.Test.YtejohdmbnnlhjaaCalMake
namespace Go.Proofs.Ytejohdmbnnlhjaa
open Go.RowKit

/-- The offset at a second, by the shifts alone. -/
def offL (s : Int) : Int → List (Int × Int) → Int
  | o, [] => o
  | o, (a, p) :: r => if a ≤ s then offL s p r else o
theorem offRun_eq {s : Int} : ∀ {sh : List (Int × Int)} {f o c : Int}, f ≤ s → offRun s c (strs f o sh) = offL s o sh
  | [], f, o, c, h => by unfold strs offRun; rw [if_neg (by simp; omega)]; rfl
  | (a, p) :: r, f, o, c, h => by
    unfold strs offRun
    rw [if_neg (by simp; omega)]
    dsimp only
    unfold offL
    by_cases ha : a ≤ s
    · rw [if_pos ha]; exact offRun_eq ha
    · rw [if_neg ha]
      cases r with
      | nil => unfold strs offRun; rw [if_pos (by simp; omega)]
      | cons x r => obtain ⟨x1, x2⟩ := x; unfold strs offRun; rw [if_pos (by simp; omega)]
theorem offZ_eq {off s : Int} {sh : List (Int × Int)} (h : 0 ≤ s) : offZ off sh s = offL s off sh := offRun_eq h

def jumpRun (s t : Int) : Int → Int → List (Int × Int) → Int
  | j, _, [] => j
  | j, nw, (a, p) :: r => jumpRun s t (if s < a ∧ a ≤ t then j + p - nw else j) p r
theorem jump_none {s t : Int} : ∀ {sh : List (Int × Int)} {l j nw : Int}, ascZ l sh = true → t ≤ l → jumpRun s t j nw sh = j
  | [], _, _, _, _, _ => rfl
  | (a, p) :: r, l, j, nw, h, hl => by
    simp only [ascZ, Bool.and_eq_true, decide_eq_true_eq] at h
    unfold jumpRun
    rw [if_neg (by omega)]
    exact jump_none h.2 (by omega)
theorem offL_late {s : Int} {sh : List (Int × Int)} {l o : Int} (h : ascZ l sh = true) (hl : s ≤ l) : offL s o sh = o := by
  cases sh with
  | nil => rfl
  | cons x r =>
    obtain ⟨a, p⟩ := x
    simp only [ascZ, Bool.and_eq_true, decide_eq_true_eq] at h
    unfold offL
    rw [if_neg (by omega)]
theorem jump_eq {s t : Int} (hst : s ≤ t) : ∀ {sh : List (Int × Int)} {l j nw : Int}, ascZ l sh = true → jumpRun s t j nw sh = j + offL t nw sh - offL s nw sh
  | [], _, _, _, _ => by unfold jumpRun offL; omega
  | (a, p) :: r, l, j, nw, h => by
    simp only [ascZ, Bool.and_eq_true, decide_eq_true_eq] at h
    unfold jumpRun offL
    by_cases h1 : a ≤ s
    · rw [if_neg (by omega), if_pos (by omega), if_pos h1]
      exact jump_eq hst h.2
    · by_cases h2 : a ≤ t
      · rw [if_pos (by omega), if_pos h2, if_neg h1, jump_eq hst h.2, offL_late (s := s) h.2 (by omega)]
        omega
      · rw [if_neg (by omega), if_neg h2, if_neg h1, jump_none h.2 (by omega)]
        omega
theorem jump_drop {s t j nw : Int} {sh : List (Int × Int)} {k : Nat} (h : k < sh.length) :
    jumpRun s t j nw (sh.drop k) = jumpRun s t (if s < (sh.getD k (0, 0)).1 ∧ (sh.getD k (0, 0)).1 ≤ t then j + (sh.getD k (0, 0)).2 - nw else j) (sh.getD k (0, 0)).2 (sh.drop (k + 1)) := by
  rw [List.drop_eq_getElem_cons h, List.getD_eq_getElem?_getD, List.getElem?_eq_getElem h]
  rfl
theorem asc_get : ∀ {sh : List (Int × Int)} {l : Int} {i : Nat}, ascZ l sh = true → i < sh.length → okSec (sh.getD i (0, 0)).1 = true ∧ okOff (sh.getD i (0, 0)).2 = true
  | [], _, _, _, h => by simp at h
  | (a, p) :: r, l, i, h, hi => by
    simp only [ascZ, Bool.and_eq_true] at h
    cases i with
    | zero => exact ⟨h.1.1.2, h.1.2⟩
    | succ i =>
      have := asc_get h.2 (i := i) (by simpa using hi)
      simpa using this
theorem valid_asc {off : Int} {sh : List (Int × Int)} (h : validZ off sh = true) : ascZ (-1) sh = true := by
  simp only [validZ, Bool.and_eq_true] at h; exact h.2

theorem local_val {off s : Int} {sh : List (Int × Int)} (hv : validZ off sh = true) (hs0 : 0 ≤ s) (hs1 : s ≤ 10000000000) : ∃ a b, localZ off sh s = (a, b) ∧ a * 86400 + b = s + offL s off sh ∧ 0 ≤ b ∧ b < 86400 ∧ -1 ≤ a ∧ a ≤ 115741 := by
  have hb := offZ_ok (s := s) hv
  rw [offZ_eq hs0] at hb
  have e : localZ off sh s = ((s + offL s off sh) / 86400, (s + offL s off sh) % 86400) := by
    unfold localZ
    rw [hv, okSec_iff.2 ⟨hs0, hs1⟩, offZ_eq hs0]
    rfl
  exact ⟨_, _, e, by omega, by omega, by omega, by omega, by omega⟩

set_option maxRecDepth 100000 in
set_option maxHeartbeats 4000000 in
theorem steady_law (c : Int) (p : Option Addr) (len cap : Nat) (f : Nat → Int) (n m : Int) (w : World) (c1 : -9223372036854775808 ≤ c) (c2 : c ≤ 9223372036854775807) (hlen : len ≤ 9223372036854775807) (hS : SliceAt w p len (fun i => iv (f i))) (hf : ∀ i, -9223372036854775808 ≤ f i ∧ f i ≤ 9223372036854775807)
    (n1 : -9223372036854775808 ≤ n) (n2 : n ≤ 9223372036854775807) (m1 : -9223372036854775808 ≤ m) (m2 : m ≤ 9223372036854775807) :
    Calls Try.prog 6 #[.int .i64 c, .slice p len cap, .int .i64 n, .int .i64 m] w fun e w' => e = .returned (.bool true) ∧ Below w.heap.size w w' := by
  have hmk := fun W (h : Below w.heap.size w W) => make_any c p len cap f W c1 c2 hlen (fun i hi => by
    obtain ⟨b, o, h1, h2, h3⟩ := hS i hi
    exact ⟨b, o, h1, by have := h.size; omega, (h.cell (p := ⟨b, _, none⟩) h2).trans h3⟩) hf
  obtain ⟨s, hs⟩ : ∃ q, pickZ n 6000000 = q := ⟨_, rfl⟩
  obtain ⟨s1, s2⟩ : 0 ≤ s ∧ s < 6000000 := hs ▸ pick_in (by decide)
  have hp1 := fun W => pick_any n 6000000 W n1 n2 (by decide) (by decide)
  rw [hs] at hp1
  obtain ⟨q, hq⟩ : ∃ q, pickZ m 300000 = q := ⟨_, rfl⟩
  obtain ⟨q1, q2⟩ : 0 ≤ q ∧ q < 300000 := hq ▸ pick_in (by decide)
  have hp2 := fun W => pick_any m 300000 W m1 m2 (by decide) (by decide)
  rw [hq] at hp2
  clear hs hq hS hf
  obtain ⟨t, ht⟩ : ∃ t, s + q = t := ⟨_, rfl⟩
  go_enter Try.func6, Try.ntmps6
  go_wp2_with fail
  refine Calls.mono (sane_any _) ?_; rintro e w1 ⟨rfl, b1⟩
  go_wp2_with fail
  refine Calls.mono (hmk _ b1) ?_; rintro e w2 ⟨off, sh, pz, cz, rfl, hv, hl12, hZ, b2⟩
  clear hmk
  obtain ⟨⟨o1, o2⟩, -, -⟩ := valid_iff hv
  have hasc := valid_asc hv
  obtain ⟨a, b, e1, e2, e3, e4, e5, e6⟩ := local_val (s := s) hv s1 (by omega)
  obtain ⟨c', d', g1, g2, g3, g4, g5, g6⟩ := local_val (s := t) hv (by omega) (by omega)
  have hJ := jump_eq (s := s) (t := t) (by omega) (j := 0) (nw := off) hasc
  have y1 := fun W (h : Below w2.heap.size w2 W) => local_any off s pz cz sh W ((hZ.below h).mono h.size) (by omega)
  have y2 := fun W (h : Below w2.heap.size w2 W) => local_any off t pz cz sh W ((hZ.below h).mono h.size) (by omega)
  rw [e1] at y1
  rw [g1] at y2
  have hget := fun i (hi : i < sh.length) => asc_get hasc hi
  have hl : sh.length ≤ 12 := by omega
  have HE := Lib.hid (show c' * 86400 + d' - a * 86400 - b = t - s + jumpRun s t 0 off sh by omega)
  have b12 := bthen b1 b2
  clear hl12 hasc e1 g1 hJ hv e2 g2 b1 b2
  obtain ⟨W3, hW3, b3, z3, kz⟩ := boxZ' w2 off (.slice pz sh.length cz)
  have hl3 := kz.lt
  have hZ3 := (hZ.below b3).mono b3.size
  have c0 := kz.cell (i := 0) rfl
  have c1 := kz.cell (i := 1) rfl
  go_wp2_with (first | (go_at_call 15; (with_reducible refine Calls.mono (hp1 _) ?_); rintro e w' ⟨rfl, rfl⟩) | (go_at_call 15; (with_reducible refine Calls.mono (hp2 _) ?_); rintro e w' ⟨rfl, rfl⟩))
  have HG := Lib.hid hget; clear hget
  have HE2 := HE; clear HE
  obtain ⟨J, hJ⟩ : ∃ J, jumpRun s t 0 off sh = J := ⟨_, rfl⟩
  rw [hJ] at HE2
  have HJ := Lib.hid hJ; clear hJ
  try rw [hW3]
  try clear hW3
  go_loop [13, 14, 15] (fun jv nv iv' => ∃ (k : Nat) (j nw : Int), jv = .int .i64 j ∧ nv = .int .i64 nw ∧ iv' = .int .i64 k ∧ k ≤ sh.length ∧ jumpRun s t j nw (sh.drop k) = J ∧ -200000 * (k : Int) ≤ j ∧ j ≤ 200000 * (k : Int) ∧ -50400 ≤ nw ∧ nw ≤ 50400) (fun _ _ i => sh.length - (intOf i).toNat)
  case atStart => exact ⟨0, 0, off, rfl, rfl, rfl, Nat.zero_le _, HJ.out, by omega, by omega, o1, o2⟩
  case round =>
    obtain ⟨k, j, nw, rfl, rfl, rfl, hk, hx, j1, j2, w1', w2'⟩ := hrel
    by_cases hlt : k < sh.length
    · rw [jump_drop hlt] at hx
      obtain ⟨bz, oz, rfl, hb, d0, d1⟩ := hZ3 k hlt
      obtain ⟨g1, g2⟩ := HG.out k hlt
      obtain ⟨at1, hat⟩ : ∃ a, (sh.getD k (0, 0)).1 = a := ⟨_, rfl⟩
      obtain ⟨of1, hof⟩ : ∃ a, (sh.getD k (0, 0)).2 = a := ⟨_, rfl⟩
      rw [hat] at d0 hx g1
      rw [hof] at d1 hx g2
      clear hat hof
      obtain ⟨g3, g4⟩ := okSec_iff.1 g1
      obtain ⟨g5, g6⟩ := okOff_iff.1 g2
      clear g1 g2
      by_cases q3 : s < at1
      · by_cases q4 : at1 ≤ t
        · rw [if_pos ⟨q3, q4⟩] at hx
          have HX := Lib.hid hx; clear hx
          go_wp2_with fail
          go_round
          case rel => exact ⟨k + 1, j + of1 - nw, of1, rfl, rfl, by go_num, by omega, HX.out, by omega, by omega, g5, g6⟩
          case measure => simp [intOf]; omega
        · rw [if_neg (by omega)] at hx
          have HX := Lib.hid hx; clear hx
          go_wp2_with fail
          go_round
          case rel => exact ⟨k + 1, j, of1, rfl, rfl, by go_num, by omega, HX.out, by omega, by omega, g5, g6⟩
          case measure => simp [intOf]; omega
      · rw [if_neg (by omega)] at hx
        have HX := Lib.hid hx; clear hx
        go_wp2_with fail
        go_round
        case rel => exact ⟨k + 1, j, of1, rfl, rfl, by go_num, by omega, HX.out, by omega, by omega, g5, g6⟩
        case measure => simp [intOf]; omega
    · obtain rfl : k = sh.length := by omega
      rw [List.drop_length] at hx
      obtain rfl : j = J := hx
      go_wp2_with fail
      refine Calls.mono (y1 _ b3) ?_; rintro e w4 ⟨rfl, b4⟩
      have s4 := b4.size
      have b34 := bthen b3 b4
      have kz := kz.below b4 hl3
      have c0 := kz.cell (i := 0) rfl
      have c1 := kz.cell (i := 1) rfl
      go_wp2_with fail
      refine Calls.mono (y2 _ b34) ?_; rintro e w5 ⟨rfl, b5⟩
      obtain ⟨X, hX⟩ : ∃ X, t - s + j = X := ⟨_, rfl⟩
      have x1 : c' * 86400 + d' - a * 86400 - b = X := by rw [← hX]; exact HE2.out
      have x2 : ((c' * 86400 + d' - a * 86400 - b) == (t - s + j)) = true := by rw [x1, hX]; simp
      go_wp2_with fail
      go_ret
      exact ⟨rfl, bthen b12 (bthen b34 b5)⟩
end Go.Proofs.Ytejohdmbnnlhjaa

/- The lengths of days add up, on plain numbers. -/
import Derived.Test.YtejohdmbnnlhjaaCalInvM
namespace Go.Proofs.Ytejohdmbnnlhjaa
open Go.RowKit

def sumL (g : Str → Int) : List Str → Int
  | [] => 0
  | x :: r => g x + sumL g r
theorem sumL_congr {g h : Str → Int} : ∀ {T : List Str}, (∀ x ∈ T, g x = h x) → sumL g T = sumL h T
  | [], _ => rfl
  | x :: r, e => by unfold sumL; rw [e x (by simp), sumL_congr (fun y hy => e y (by simp [hy]))]
theorem sumL_add {g h : Str → Int} : ∀ {T : List Str}, sumL (fun x => g x + h x) T = sumL g T + sumL h T
  | [] => rfl
  | x :: r => by unfold sumL; rw [sumL_add (T := r)]; omega
def dayLen (d : Int) (x : Str) : Int := max 0 (min (d * 86400 - x.2.2 + 86400) x.2.1 - max (d * 86400 - x.2.2) x.1)
theorem lenRun_sum {d : Int} : ∀ {T : List Str} {t : Int}, lenRun d t T = t + sumL (dayLen d) T
  | [], t => by unfold lenRun sumL; omega
  | x :: r, t => by
    unfold lenRun sumL
    rw [lenRun_sum (T := r)]
    unfold dayLen; omega
def winL (first : Int) (k : Nat) (x : Str) : Int := max 0 (min ((first + k) * 86400 - x.2.2) x.2.1 - max (first * 86400 - x.2.2) x.1)
theorem win_succ {first : Int} {k : Nat} {x : Str} (h : x.1 ≤ x.2.1) : winL first (k + 1) x = winL first k x + dayLen (first + k) x := by
  unfold winL dayLen
  push_cast
  omega
theorem win_zero {first : Int} {x : Str} : winL first 0 x = 0 := by
  unfold winL
  omega
theorem sum_zero {first : Int} : ∀ {T : List Str}, sumL (winL first 0) T = 0
  | [] => rfl
  | x :: r => by unfold sumL; rw [win_zero, sum_zero (T := r)]; rfl
theorem sum_succ {first : Int} {k : Nat} {T : List Str} (hT : ∀ x ∈ T, StrOk x) : sumL (winL first (k + 1)) T = sumL (winL first k) T + sumL (dayLen (first + k)) T := by
  rw [← sumL_add]
  exact sumL_congr fun x hx => win_succ (hT x hx).2.2.2.1

def cutL (a b : Int) (x : Str) : Int := max 0 (min x.2.1 b - max x.1 a)
theorem sum_cut {a b : Int} (hab : a ≤ b) (hb : b ≤ 10000000001) : ∀ {sh : List (Int × Int)} {f o l : Int}, ascZ l sh = true → f ≤ l + 1 → f ≤ 10000000001 → sumL (cutL a b) (strs f o sh) = max 0 (b - max f a)
  | [], f, o, l, _, _, h => by unfold strs sumL sumL cutL; simp only; omega
  | (x, p) :: r, f, o, l, ha, hl, h => by
    simp only [ascZ, Bool.and_eq_true, decide_eq_true_eq] at ha
    have hx := okSec_iff.1 ha.1.1.2
    unfold strs sumL
    rw [sum_cut hab hb ha.2 (by omega) (by omega)]
    unfold cutL
    simp only
    omega
theorem strs_ends : ∀ {sh : List (Int × Int)} {f o : Int} {x : Str}, x ∈ strs f o sh → (x.1 = f ∨ ∃ y ∈ sh, x.1 = y.1) ∧ (x.2.1 = 10000000001 ∨ ∃ y ∈ sh, x.2.1 = y.1)
  | [], f, o, x, h => by simp [strs] at h; subst h; exact ⟨.inl rfl, .inl rfl⟩
  | (a, p) :: r, f, o, x, h => by
    rcases List.mem_cons.1 h with rfl | h
    · exact ⟨.inl rfl, .inr ⟨(a, p), by simp, rfl⟩⟩
    · obtain ⟨h1, h2⟩ := strs_ends h
      refine ⟨.inr ?_, ?_⟩
      · rcases h1 with h1 | ⟨y, h1, h3⟩
        · exact ⟨(a, p), by simp, h1⟩
        · exact ⟨y, by simp [h1], h3⟩
      · rcases h2 with h2 | ⟨y, h2, h3⟩
        · exact .inl h2
        · exact .inr ⟨y, by simp [h2], h3⟩

theorem near_cut {off a oa F : Int} {sh : List (Int × Int)} (hv : validZ off sh = true) (ha0 : 0 ≤ a) (ha1 : a ≤ 10000000000) (hoa : offL a off sh = oa) (hF : a + oa = F) (hn : ∀ y ∈ sh, ¬ (a - 200000 < y.1 ∧ y.1 < a + 200000)) :
    ∀ x ∈ strs 0 off sh, (x.1 ≤ a ∧ a < x.2.1 → F - x.2.2 = a) ∧ (x.2.1 ≤ a → x.2.1 ≤ F - x.2.2) ∧ (a < x.1 → F - x.2.2 ≤ x.1) := by
  intro x hx
  have hb := offZ_ok (s := a) hv
  rw [offZ_eq ha0, hoa] at hb
  obtain ⟨q1, q2, q3, q4, q5⟩ := (valid_iff hv).2.2 x hx
  obtain ⟨h1, h2⟩ := strs_ends hx
  refine ⟨fun h => ?_, fun h => ?_, fun h => ?_⟩
  · have := strs_off (valid_asc hv) x hx h.1 h.2
    omega
  · rcases h2 with h2 | ⟨y, hy, h2⟩
    · omega
    · have := hn y hy; omega
  · rcases h1 with h1 | ⟨y, hy, h1⟩
    · omega
    · have := hn y hy; omega

theorem atT_one {off d a : Int} {sh : List (Int × Int)} (hv : validZ off sh = true) (hd0 : -1 ≤ d) (hd1 : d ≤ 115741) (h : atT off sh d 0 = [a]) : 0 ≤ a ∧ a ≤ 10000000000 ∧ a + offL a off sh = d * 86400 := by
  obtain ⟨h1, -⟩ := inv_math2 (n := 0) hv hd0 hd1 (by decide) (by decide)
  rw [h] at h1
  obtain ⟨x1, x2, x3⟩ := h1 a (by simp)
  obtain ⟨p, q, e1, e2, e3, e4, -, -⟩ := local_val hv x1 x2
  rw [x3, Prod.mk.injEq] at e1
  exact ⟨x1, x2, by omega⟩

theorem days_math {off first a b : Int} {k : Nat} {sh : List (Int × Int)} (hv : validZ off sh = true) (hf : 0 ≤ first) (hk : first + k ≤ 115741) (ha : atT off sh first 0 = [a]) (hb : atT off sh (first + k) 0 = [b])
    (hna : ∀ y ∈ sh, ¬ (a - 200000 < y.1 ∧ y.1 < a + 200000)) (hnb : ∀ y ∈ sh, ¬ (b - 200000 < y.1 ∧ y.1 < b + 200000)) : sumL (winL first k) (strs 0 off sh) = b - a := by
  obtain ⟨a0, a1, a2⟩ := atT_one hv (by omega) (by omega) ha
  obtain ⟨b0, b1, b2⟩ := atT_one hv (by omega) hk hb
  have oa := offZ_ok (s := a) hv
  rw [offZ_eq a0] at oa
  have ob := offZ_ok (s := b) hv
  rw [offZ_eq b0] at ob
  have hasc := valid_asc hv
  have hab : a ≤ b := by
    by_cases h : a < b + 200000 ∧ b < a + 200000
    · obtain ⟨x, hx, x1, x2, x3⟩ := strs_find (x := a) (by omega) (sh := sh) (f := 0) (o := off) a0
      obtain ⟨h1, h2⟩ := strs_ends hx
      have hin : x.1 ≤ b ∧ b < x.2.1 := by
        constructor
        · rcases h1 with h1 | ⟨y, hy, h1⟩
          · omega
          · have := hna y hy; omega
        · rcases h2 with h2 | ⟨y, hy, h2⟩
          · omega
          · have := hna y hy; omega
      have := strs_off hasc x hx hin.1 hin.2
      omega
    · omega
  have hw : ∀ x ∈ strs 0 off sh, winL first k x = cutL a b x := fun x hx => by
    obtain ⟨u1, u2, u3⟩ := near_cut hv a0 a1 rfl a2 hna x hx
    obtain ⟨v1, v2, v3⟩ := near_cut hv b0 b1 rfl b2 hnb x hx
    obtain ⟨q1, q2, q3, q4, q5⟩ := (valid_iff hv).2.2 x hx
    unfold winL cutL
    rcases (by omega : (x.1 ≤ a ∧ a < x.2.1) ∨ x.2.1 ≤ a ∨ a < x.1) with h | h | h
    · have u := u1 h
      rcases (by omega : (x.1 ≤ b ∧ b < x.2.1) ∨ x.2.1 ≤ b ∨ b < x.1) with h' | h' | h'
      · have v := v1 h'; omega
      · have v := v2 h'; omega
      · have v := v3 h'; omega
    · have u := u2 h
      rcases (by omega : (x.1 ≤ b ∧ b < x.2.1) ∨ x.2.1 ≤ b ∨ b < x.1) with h' | h' | h'
      · have v := v1 h'; omega
      · have v := v2 h'; omega
      · have v := v3 h'; omega
    · have u := u3 h
      rcases (by omega : (x.1 ≤ b ∧ b < x.2.1) ∨ x.2.1 ≤ b ∨ b < x.1) with h' | h' | h'
      · have v := v1 h'; omega
      · have v := v2 h'; omega
      · have v := v3 h'; omega
  rw [sumL_congr hw, sum_cut hab (by omega) hasc (by omega) (by omega)]
  omega

theorem length_sum {off d : Int} {sh : List (Int × Int)} (hv : validZ off sh = true) (hd0 : -1 ≤ d) (hd1 : d ≤ 115741) : lengthZ off sh d = sumL (dayLen d) (strs 0 off sh) := by
  unfold lengthZ lenZ
  rw [hv, okDay_iff.2 ⟨hd0, hd1⟩]
  simp only [Bool.and_self, if_true]
  rw [lenRun_sum]; omega
theorem win_bd {first : Int} {k : Nat} : ∀ {T : List Str}, 0 ≤ sumL (winL first k) T ∧ sumL (winL first k) T ≤ 86400 * k * T.length
  | [] => by unfold sumL; simp
  | x :: r => by
    have := win_bd (first := first) (k := k) (T := r)
    unfold sumL
    have h : 0 ≤ winL first k x ∧ winL first k x ≤ 86400 * k := by unfold winL; omega
    rw [List.length_cons]
    have e : (86400 * (k : Int) * ((r.length + 1 : Nat) : Int)) = 86400 * k * r.length + 86400 * k := by
      rw [Int.natCast_add, Int.mul_add]; omega
    omega
end Go.Proofs.Ytejohdmbnnlhjaa

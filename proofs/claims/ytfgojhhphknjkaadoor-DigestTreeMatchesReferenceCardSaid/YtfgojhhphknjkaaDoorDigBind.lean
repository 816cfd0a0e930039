/- DigestBinding, as mathematics and as a walk. -/
import Derived.Test.YtfgojhhphknjkaaDoorDigColl
namespace Go.Proofs.YtfgojhhphknjkaaDoor
open Go.RowKit

theorem ba_ext {a b : ByteArray} (h : a.data.toList = b.data.toList) : a = b := ByteArray.ext (Array.ext' h)
theorem strEq_false {a b : ByteArray} (h : a ≠ b) : strEq a b = false := by
  cases hb : strEq a b with
  | false => rfl
  | true => exact absurd (strEq_iff.1 hb) h
theorem strEq_refl (a : ByteArray) : strEq a a = true := strEq_iff.2 rfl

/-- The heads of two lists differ and have the same digest. -/
theorem collZ_head {a b : ByteArray} {l m : List ByteArray} (h : a ≠ b) (he : sumZ a = sumZ b) : collZ (a :: l) (b :: m) = true := by
  rw [collZ, strEq_false h, he, strEq_refl]; rfl
theorem collZ_tail {a b : ByteArray} {l m : List ByteArray} (h : collZ l m = true) : collZ (a :: l) (b :: m) = true := by
  rw [collZ, h, Bool.or_true]

theorem leafZ_sum (s : ByteArray) : leafZ s = sumZ (⟨#[0]⟩ ++ s) := by
  unfold leafZ sumZ; congr 1
  first | done | simp [nb]
theorem nodeZ_sum (a b : ByteArray) : nodeZ a b = sumZ (⟨#[1]⟩ ++ a ++ b) := by
  unfold nodeZ sumZ; congr 1; simp [nb]

theorem app_inj {c a b a' b' : ByteArray} (hs : a.size = a'.size) (h : c ++ a ++ b = c ++ a' ++ b') : a = a' ∧ b = b' := by
  have h1 := congrArg (fun x : ByteArray => x.data.toList) h
  simp only [ByteArray.data_append, Array.toList_append, List.append_assoc, List.append_cancel_left_eq] at h1
  have hl : a.data.toList.length = a'.data.toList.length := by simpa using hs
  obtain ⟨e1, e2⟩ := List.append_inj h1 hl
  exact ⟨ba_ext e1, ba_ext e2⟩

theorem climbR_nil (l : ByteArray) (n i : Nat) : climbR l [] n i = if n = 1 then (l, true) else (⟨#[]⟩, false) := rfl
theorem climbR_one (l x : ByteArray) (p : List ByteArray) (i : Nat) : climbR l (x :: p) 1 i = (l, false) := by rw [climbR, if_pos rfl]
theorem climbR_lo (l x : ByteArray) (p : List ByteArray) {n i : Nat} (h : n ≠ 1) (hi : i < splitZ n) : climbR l (x :: p) n i = (nodeZ (climbR l p (splitZ n) i).1 x, (climbR l p (splitZ n) i).2) := by rw [climbR, if_neg h, if_pos hi]
theorem climbR_hi (l x : ByteArray) (p : List ByteArray) {n i : Nat} (h : n ≠ 1) (hi : ¬ i < splitZ n) : climbR l (x :: p) n i = (nodeZ x (climbR l p (n - splitZ n) (i - splitZ n)).1, (climbR l p (n - splitZ n) (i - splitZ n)).2) := by rw [climbR, if_neg h, if_neg hi]
theorem wayR_nil (s : ByteArray) (n i : Nat) : wayR s [] n i = ([⟨#[0]⟩ ++ s], leafZ s) := rfl
theorem wayR_lo (s x : ByteArray) (p : List ByteArray) {n i : Nat} (h : 2 ≤ n) (hi : i < splitZ n) : wayR s (x :: p) n i = ((⟨#[1]⟩ ++ (wayR s p (splitZ n) i).2 ++ x) :: (wayR s p (splitZ n) i).1, nodeZ (wayR s p (splitZ n) i).2 x) := by rw [wayR, if_neg (by omega), if_pos hi]
theorem wayR_hi (s x : ByteArray) (p : List ByteArray) {n i : Nat} (h : 2 ≤ n) (hi : ¬ i < splitZ n) : wayR s (x :: p) n i = ((⟨#[1]⟩ ++ x ++ (wayR s p (n - splitZ n) (i - splitZ n)).2) :: (wayR s p (n - splitZ n) (i - splitZ n)).1, nodeZ x (wayR s p (n - splitZ n) (i - splitZ n)).2) := by rw [wayR, if_neg (by omega), if_neg hi]

theorem climb_way (s : ByteArray) : ∀ (p : List ByteArray) (n i : Nat), i < n → n ≤ 9223372036854775807 → (climbR (leafZ s) p n i).2 = true → (climbR (leafZ s) p n i).1 = (wayR s p n i).2
  | [], n, i, hin, hn, h => by
    rw [climbR_nil] at h ⊢
    by_cases h1 : n = 1
    · rw [if_pos h1]; rfl
    · rw [if_neg h1] at h; cases h
  | x :: p, n, i, hin, hn, h => by
    by_cases h1 : n = 1
    · subst h1; rw [climbR_one] at h; cases h
    · have hs := splitZ_spec (n := n) (by omega) hn
      by_cases hik : i < splitZ n
      · rw [climbR_lo _ _ _ h1 hik] at h ⊢
        rw [wayR_lo _ _ _ (by omega) hik, climb_way s p _ _ hik (by omega) h]
      · rw [climbR_hi _ _ _ h1 hik] at h ⊢
        rw [wayR_hi _ _ _ (by omega) hik, climb_way s p _ _ (by omega) (by omega) h]

/-- Two proofs of two entries with the same value: a collision. -/
theorem climb_bind {s t : ByteArray} (hst : s ≠ t) : ∀ (p q : List ByteArray) (n i : Nat), i < n → n ≤ 9223372036854775807 → (∀ x ∈ p, x.size = 32) → (∀ x ∈ q, x.size = 32) →
    (climbR (leafZ s) p n i).2 = true → (climbR (leafZ t) q n i).2 = true → (wayR s p n i).2 = (wayR t q n i).2 → collZ (wayR s p n i).1 (wayR t q n i).1 = true
  | [], [], n, i, hin, hn, hp, hq, h1, h2, he => by
    rw [wayR_nil, wayR_nil] at he ⊢
    refine collZ_head ?_ ?_
    · intro e
      apply hst
      have := congrArg (fun x : ByteArray => x.data.toList) e
      simp only [ByteArray.data_append, Array.toList_append, List.append_cancel_left_eq] at this
      exact ba_ext this
    · rw [← leafZ_sum, ← leafZ_sum]; exact he
  | [], y :: q, n, i, hin, hn, hp, hq, h1, h2, he => by
    rw [climbR_nil] at h1
    by_cases h : n = 1
    · subst h; rw [climbR_one] at h2; cases h2
    · rw [if_neg h] at h1; cases h1
  | x :: p, [], n, i, hin, hn, hp, hq, h1, h2, he => by
    rw [climbR_nil] at h2
    by_cases h : n = 1
    · subst h; rw [climbR_one] at h1; cases h1
    · rw [if_neg h] at h2; cases h2
  | x :: p, y :: q, n, i, hin, hn, hp, hq, h1, h2, he => by
    by_cases h : n = 1
    · subst h; rw [climbR_one] at h1; cases h1
    · have hs := splitZ_spec (n := n) (by omega) hn
      have hx := hp x (by simp)
      have hy := hq y (by simp)
      have hp' : ∀ z ∈ p, z.size = 32 := fun z hz => hp z (by simp [hz])
      have hq' : ∀ z ∈ q, z.size = 32 := fun z hz => hq z (by simp [hz])
      by_cases hik : i < splitZ n
      · rw [climbR_lo _ _ _ h hik] at h1 h2
        rw [wayR_lo _ _ _ (by omega) hik, wayR_lo _ _ _ (by omega) hik] at he ⊢
        by_cases e : (⟨#[1]⟩ : ByteArray) ++ (wayR s p (splitZ n) i).2 ++ x = ⟨#[1]⟩ ++ (wayR t q (splitZ n) i).2 ++ y
        · have := app_inj (by rw [wayR_size, wayR_size]) e
          exact collZ_tail (climb_bind hst p q _ _ hik (by omega) hp' hq' h1 h2 this.1)
        · exact collZ_head e (by rw [← nodeZ_sum, ← nodeZ_sum]; exact he)
      · rw [climbR_hi _ _ _ h hik] at h1 h2
        rw [wayR_hi _ _ _ (by omega) hik, wayR_hi _ _ _ (by omega) hik] at he ⊢
        by_cases e : (⟨#[1]⟩ : ByteArray) ++ x ++ (wayR s p (n - splitZ n) (i - splitZ n)).2 = ⟨#[1]⟩ ++ y ++ (wayR t q (n - splitZ n) (i - splitZ n)).2
        · have := app_inj (by rw [hx, hy]) e
          exact collZ_tail (climb_bind hst p q _ _ (by omega) (by omega) hp' hq' h1 h2 this.2)
        · exact collZ_head e (by rw [← nodeZ_sum, ← nodeZ_sum]; exact he)

theorem allDig_mem {l : List ByteArray} (h : allDig l = true) : ∀ x ∈ l, x.size = 32 := fun x hx => by
  have := List.all_eq_true.1 h x hx; simpa using this

/-- What two accepted proofs of different entries lead to. -/
theorem verify_bind {root s t : ByteArray} {n i : Int} {p q : List ByteArray} (hn : n ≤ 9223372036854775807) (hst : s ≠ t) (h1 : verifyZ root n i s p = true) (h2 : verifyZ root n i t q = true) :
    0 ≤ i ∧ i < n ∧ collZ (wayR s p.reverse n.toNat i.toNat).1 (wayR t q.reverse n.toNat i.toNat).1 = true := by
  unfold verifyZ at h1 h2
  simp only [Bool.and_eq_true, decide_eq_true_eq] at h1 h2
  obtain ⟨⟨⟨⟨a1, a2⟩, a3⟩, a4⟩, a5⟩ := h1
  obtain ⟨⟨⟨⟨_, _⟩, b3⟩, b4⟩, b5⟩ := h2
  have e1 := strEq_iff.1 a5
  have e2 := strEq_iff.1 b5
  refine ⟨a1, a2, climb_bind hst _ _ _ _ (by omega) (by omega) (fun x hx => allDig_mem a3 x (by simpa using hx)) (fun x hx => allDig_mem b3 x (by simpa using hx)) a4 b4 ?_⟩
  rw [← climb_way s _ _ _ (by omega) (by omega) a4, ← climb_way t _ _ _ (by omega) (by omega) b4, e1, e2]
end Go.Proofs.YtfgojhhphknjkaaDoor

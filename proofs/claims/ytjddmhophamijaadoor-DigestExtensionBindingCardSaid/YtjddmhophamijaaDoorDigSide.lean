/- sides: the strings of an extension's proof, and DigestExtensionBinding as mathematics. -/
import Derived.Test.YtjddmhophamijaaDoorDigLaw
namespace Go.Proofs.YtjddmhophamijaaDoor
open Go.RowKit

/-- The strings of which Sum is computed for the new root, and the value; the proof with its last element first. -/
def sidesR (old : ByteArray) : List ByteArray → Nat → Nat → Bool → List ByteArray × ByteArray
  | [], _, _, _ => ([], old)
  | x :: p, m, n, whole => if n ≤ m then (if whole then ([], old) else ([], (x :: p).getLast (by simp))) else
    if m ≤ splitZ n then ((⟨#[1]⟩ ++ (sidesR old p m (splitZ n) whole).2 ++ x) :: (sidesR old p m (splitZ n) whole).1, nodeZ (sidesR old p m (splitZ n) whole).2 x)
    else ((⟨#[1]⟩ ++ x ++ (sidesR old p (m - splitZ n) (n - splitZ n) false).2) :: (sidesR old p (m - splitZ n) (n - splitZ n) false).1, nodeZ x (sidesR old p (m - splitZ n) (n - splitZ n) false).2)

theorem sidesR_size (old : ByteArray) (ho : old.size = 32) : ∀ p m n whole, (∀ x ∈ p, x.size = 32) → (sidesR old p m n whole).2.size = 32
  | [], m, n, whole, _ => ho
  | x :: p, m, n, whole, hp => by
    rw [sidesR]; split
    · split
      · exact ho
      · exact hp _ (List.getLast_mem _)
    · split <;> exact nodeZ_size _ _
theorem sidesR_len (old : ByteArray) : ∀ p m n whole, (sidesR old p m n whole).1.length ≤ p.length
  | [], m, n, whole => Nat.le_refl _
  | x :: p, m, n, whole => by
    rw [sidesR]; split
    · split <;> simp
    · split
      · have := sidesR_len old p m (splitZ n) whole; simp; omega
      · have := sidesR_len old p (m - splitZ n) (n - splitZ n) false; simp; omega
theorem sidesR_small (old : ByteArray) (ho : old.size = 32) : ∀ (p : List ByteArray) (m n : Nat) (whole : Bool), (∀ x ∈ p, x.size = 32) → Small (sidesR old p m n whole).1
  | [], m, n, whole, _ => fun x hx => by cases hx
  | y :: p, m, n, whole, hp => fun x hx => by
    have hy := hp y (by simp)
    have hp' : ∀ z ∈ p, z.size = 32 := fun z hz => hp z (by simp [hz])
    rw [sidesR] at hx
    split at hx
    · split at hx <;> cases hx
    · split at hx
      · rcases List.mem_cons.1 hx with rfl | hx
        · rw [ByteArray.size_append, ByteArray.size_append, sidesR_size old ho _ _ _ _ hp', show (⟨#[1]⟩ : ByteArray).size = 1 from rfl]; omega
        · exact sidesR_small old ho p _ _ _ hp' x hx
      · rcases List.mem_cons.1 hx with rfl | hx
        · rw [ByteArray.size_append, ByteArray.size_append, sidesR_size old ho _ _ _ _ hp', show (⟨#[1]⟩ : ByteArray).size = 1 from rfl]; omega
        · exact sidesR_small old ho p _ _ _ hp' x hx

theorem joinR_nil {old : ByteArray} {m n : Nat} {whole : Bool} : joinR old [] m n whole = if m = n ∧ whole = true then (old, old, true) else (⟨#[]⟩, ⟨#[]⟩, false) := rfl
theorem joinR_same {old x : ByteArray} {p : List ByteArray} {n : Nat} : joinR old (x :: p) n n false = (x, x, p.isEmpty) := by rw [joinR, if_neg (by simp), if_pos rfl]
theorem joinR_lo {old x : ByteArray} {p : List ByteArray} {m n : Nat} {whole : Bool} (h : m ≠ n) (hk : m ≤ splitZ n) : joinR old (x :: p) m n whole = ((joinR old p m (splitZ n) whole).1, nodeZ (joinR old p m (splitZ n) whole).2.1 x, (joinR old p m (splitZ n) whole).2.2) := by
  rw [joinR, if_neg (fun e => h e.1), if_neg h, if_pos hk]
theorem joinR_hi {old x : ByteArray} {p : List ByteArray} {m n : Nat} {whole : Bool} (h : m ≠ n) (hk : ¬ m ≤ splitZ n) : joinR old (x :: p) m n whole = (nodeZ x (joinR old p (m - splitZ n) (n - splitZ n) false).1, nodeZ x (joinR old p (m - splitZ n) (n - splitZ n) false).2.1, (joinR old p (m - splitZ n) (n - splitZ n) false).2.2) := by
  rw [joinR, if_neg (fun e => h e.1), if_neg h, if_neg hk]
theorem sidesR_lo {old x : ByteArray} {p : List ByteArray} {m n : Nat} {whole : Bool} (h : m < n) (hk : m ≤ splitZ n) : sidesR old (x :: p) m n whole = ((⟨#[1]⟩ ++ (sidesR old p m (splitZ n) whole).2 ++ x) :: (sidesR old p m (splitZ n) whole).1, nodeZ (sidesR old p m (splitZ n) whole).2 x) := by
  rw [sidesR, if_neg (by omega), if_pos hk]
theorem sidesR_hi {old x : ByteArray} {p : List ByteArray} {m n : Nat} {whole : Bool} (h : m < n) (hk : ¬ m ≤ splitZ n) : sidesR old (x :: p) m n whole = ((⟨#[1]⟩ ++ x ++ (sidesR old p (m - splitZ n) (n - splitZ n) false).2) :: (sidesR old p (m - splitZ n) (n - splitZ n) false).1, nodeZ x (sidesR old p (m - splitZ n) (n - splitZ n) false).2) := by
  rw [sidesR, if_neg (by omega), if_neg hk]

theorem join_sides (old : ByteArray) : ∀ (p : List ByteArray) (m n : Nat) (whole : Bool), 1 ≤ m → m ≤ n → n ≤ 9223372036854775807 → (joinR old p m n whole).2.2 = true → (joinR old p m n whole).2.1 = (sidesR old p m n whole).2
  | [], m, n, whole, h1, h2, hn, h => by
    rw [joinR_nil] at h ⊢
    by_cases e : m = n ∧ whole = true
    · rw [if_pos e]; rfl
    · rw [if_neg e] at h; cases h
  | x :: p, m, n, whole, h1, h2, hn, h => by
    by_cases e : m = n
    · subst e
      cases whole with
      | true => rw [joinR_all] at h; cases h
      | false =>
        rw [joinR_same] at h ⊢
        have hp : p = [] := by simpa using h
        subst hp
        rw [sidesR, if_pos (Nat.le_refl _), if_neg (by simp)]; rfl
    · have hs := splitZ_spec (n := n) (by omega) hn
      by_cases hk : m ≤ splitZ n
      · rw [joinR_lo e hk] at h ⊢
        rw [sidesR_lo (by omega) hk, join_sides old p _ _ _ h1 hk (by omega) h]
      · rw [joinR_hi e hk] at h ⊢
        rw [sidesR_hi (by omega) hk, join_sides old p _ _ _ (by omega) (by omega) (by omega) h]

theorem join_bind {a b : ByteArray} (ha : a.size = 32) (hb : b.size = 32) : ∀ (p q : List ByteArray) (m n : Nat) (whole : Bool), 1 ≤ m → m ≤ n → n ≤ 9223372036854775807 → (∀ x ∈ p, x.size = 32) → (∀ x ∈ q, x.size = 32) →
    (joinR a p m n whole).2.2 = true → (joinR b q m n whole).2.2 = true → (sidesR a p m n whole).2 = (sidesR b q m n whole).2 → (joinR a p m n whole).1 ≠ (joinR b q m n whole).1 → collZ (sidesR a p m n whole).1 (sidesR b q m n whole).1 = true
  | [], q, m, n, whole, h1, h2, hn, hp, hq, g1, g2, he, hne => by
    rw [joinR_nil] at g1 hne
    by_cases e : m = n ∧ whole = true
    · obtain ⟨rfl, rfl⟩ := e
      rw [joinR_all] at g2 hne
      rw [if_pos ⟨rfl, rfl⟩] at hne
      have hq0 : q = [] := by simpa using g2
      subst hq0
      exact absurd he hne
    · rw [if_neg e] at g1; cases g1
  | x :: p, [], m, n, whole, h1, h2, hn, hp, hq, g1, g2, he, hne => by
    rw [joinR_nil] at g2
    by_cases e : m = n ∧ whole = true
    · obtain ⟨rfl, rfl⟩ := e
      rw [joinR_all] at g1; cases g1
    · rw [if_neg e] at g2; cases g2
  | x :: p, y :: q, m, n, whole, h1, h2, hn, hp, hq, g1, g2, he, hne => by
    have hx := hp x (by simp)
    have hy := hq y (by simp)
    have hp' : ∀ z ∈ p, z.size = 32 := fun z hz => hp z (by simp [hz])
    have hq' : ∀ z ∈ q, z.size = 32 := fun z hz => hq z (by simp [hz])
    by_cases e : m = n
    · subst e
      cases whole with
      | true => rw [joinR_all] at g1; cases g1
      | false =>
        rw [joinR_same] at g1 hne
        rw [joinR_same] at g2 hne
        have e1 : p = [] := by simpa using g1
        have e2 : q = [] := by simpa using g2
        subst e1 e2
        rw [sidesR, if_pos (Nat.le_refl _), if_neg (by simp), sidesR, if_pos (Nat.le_refl _), if_neg (by simp)] at he
        exact absurd he hne
    · have hs := splitZ_spec (n := n) (by omega) hn
      by_cases hk : m ≤ splitZ n
      · rw [joinR_lo e hk] at g1 hne
        rw [joinR_lo e hk] at g2 hne
        rw [sidesR_lo (by omega) hk, sidesR_lo (by omega) hk] at he ⊢
        by_cases es : (⟨#[1]⟩ : ByteArray) ++ (sidesR a p m (splitZ n) whole).2 ++ x = ⟨#[1]⟩ ++ (sidesR b q m (splitZ n) whole).2 ++ y
        · have := app_inj (by rw [sidesR_size a ha _ _ _ _ hp', sidesR_size b hb _ _ _ _ hq']) es
          exact collZ_tail (join_bind ha hb p q _ _ _ h1 hk (by omega) hp' hq' g1 g2 this.1 hne)
        · exact collZ_head es (by rw [← nodeZ_sum, ← nodeZ_sum]; exact he)
      · rw [joinR_hi e hk] at g1 hne
        rw [joinR_hi e hk] at g2 hne
        rw [sidesR_hi (by omega) hk, sidesR_hi (by omega) hk] at he ⊢
        by_cases es : (⟨#[1]⟩ : ByteArray) ++ x ++ (sidesR a p (m - splitZ n) (n - splitZ n) false).2 = ⟨#[1]⟩ ++ y ++ (sidesR b q (m - splitZ n) (n - splitZ n) false).2
        · have := app_inj (by rw [hx, hy]) es
          refine collZ_tail (join_bind ha hb p q _ _ _ (by omega) (by omega) (by omega) hp' hq' g1 g2 this.2 (fun ef => hne ?_))
          show nodeZ x _ = nodeZ y _
          rw [ef, this.1]
        · exact collZ_head es (by rw [← nodeZ_sum, ← nodeZ_sum]; exact he)

/-- What two accepted extensions of different beginnings lead to. -/
theorem verifyExt_bind {root a b : ByteArray} {m n : Int} {p q : List ByteArray} (hn : n ≤ 9223372036854775807) (hab : a ≠ b) (h1 : verifyExtZ a m root n p = true) (h2 : verifyExtZ b m root n q = true) :
    1 ≤ m ∧ m < n ∧ a.size = 32 ∧ b.size = 32 ∧ (∀ x ∈ p, x.size = 32) ∧ (∀ x ∈ q, x.size = 32) ∧ collZ (sidesR a p.reverse m.toNat n.toNat true).1 (sidesR b q.reverse m.toNat n.toNat true).1 = true := by
  unfold verifyExtZ at h1 h2
  simp only [Bool.and_eq_true, decide_eq_true_eq] at h1 h2
  obtain ⟨⟨⟨⟨⟨a1, a2⟩, a3⟩, a4⟩, a5⟩, a6⟩ := h1
  obtain ⟨⟨⟨⟨⟨_, _⟩, b3⟩, _⟩, b5⟩, b6⟩ := h2
  by_cases hm0 : m = 0
  · rw [if_pos hm0] at a6 b6
    simp only [Bool.and_eq_true] at a6 b6
    exact absurd ((strEq_iff.1 a6.2).trans (strEq_iff.1 b6.2).symm) hab
  · rw [if_neg hm0] at a6 b6
    by_cases hmn : m = n
    · rw [if_pos hmn] at a6 b6
      simp only [Bool.and_eq_true] at a6 b6
      exact absurd ((strEq_iff.1 a6.2).trans (strEq_iff.1 b6.2).symm) hab
    · rw [if_neg hmn] at a6 b6
      simp only [Bool.and_eq_true] at a6 b6
      obtain ⟨⟨g1, f1⟩, s1⟩ := a6
      obtain ⟨⟨g2, f2⟩, s2⟩ := b6
      have hp : ∀ x ∈ p.reverse, x.size = 32 := fun x hx => allDig_mem a5 x (by simpa using hx)
      have hq : ∀ x ∈ q.reverse, x.size = 32 := fun x hx => allDig_mem b5 x (by simpa using hx)
      refine ⟨by omega, by omega, a3, b3, allDig_mem a5, allDig_mem b5, join_bind a3 b3 _ _ _ _ _ (by omega) (by omega) (by omega) hp hq g1 g2 ?_ ?_⟩
      · rw [← join_sides a _ _ _ _ (by omega) (by omega) (by omega) g1, ← join_sides b _ _ _ _ (by omega) (by omega) (by omega) g2, strEq_iff.1 s1, strEq_iff.1 s2]
      · rw [strEq_iff.1 f1, strEq_iff.1 f2]; exact hab
end Go.Proofs.YtjddmhophamijaaDoor

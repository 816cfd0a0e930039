/- Heads of lists of records, and DigestChainBinding as mathematics. -/
import Derived.Test.YtnmbadkcjjlebaaDoorDigBind
namespace Go.Proofs.YtnmbadkcjjlebaaDoor
open Go.RowKit

def zero32 : ByteArray := strNs (List.replicate 32 0)
theorem zero32_size : zero32.size = 32 := rfl
/-- The head of a list of records, the last one first. -/
def headR : List ByteArray → ByteArray
  | [] => zero32
  | x :: r => chainZ (headR r) x
/-- The strings of which Sum is computed for it. -/
def strR : List ByteArray → List ByteArray
  | [] => []
  | x :: r => (⟨#[2]⟩ ++ headR r ++ x) :: strR r

theorem headR_size : ∀ l, (headR l).size = 32
  | [] => rfl
  | x :: r => chainZ_size _ _
theorem strR_len : ∀ l, (strR l).length = l.length
  | [] => rfl
  | x :: r => by rw [strR, List.length_cons, List.length_cons, strR_len r]
theorem chainZ_sum (a b : ByteArray) : chainZ a b = sumZ (⟨#[2]⟩ ++ a ++ b) := by
  unfold chainZ sumZ; congr 1; simp [nb]

/-- The longer one of the two lists of strings; the first one if they have the same length. -/
def longR (x y : List ByteArray) : List ByteArray := if x.length < y.length then y else x

theorem chain_bind : ∀ (A B : List ByteArray), headR A = headR B → A ≠ B →
    collZ (strR A) (strR B) = true ∨ (A.length ≠ B.length ∧ ∃ s, (longR (strR A) (strR B))[min A.length B.length]? = some s ∧ sumZ s = zero32)
  | [], [], _, hne => absurd rfl hne
  | [], y :: r, he, _ => .inr ⟨by simp, by
    refine ⟨⟨#[2]⟩ ++ headR r ++ y, ?_, ?_⟩
    · rw [longR, if_pos (by simp [strR])]; simp [strR]
    · rw [← chainZ_sum]; exact he.symm⟩
  | x :: r, [], he, _ => .inr ⟨by simp, by
    refine ⟨⟨#[2]⟩ ++ headR r ++ x, ?_, ?_⟩
    · rw [longR, if_neg (by simp [strR])]; simp [strR]
    · rw [← chainZ_sum]; exact he⟩
  | x :: r, y :: q, he, hne => by
    rw [strR, strR]
    by_cases es : (⟨#[2]⟩ : ByteArray) ++ headR r ++ x = ⟨#[2]⟩ ++ headR q ++ y
    · obtain ⟨e1, e2⟩ := app_inj (by rw [headR_size, headR_size]) es
      rcases chain_bind r q e1 (fun e => hne (by rw [e, e2])) with h | ⟨h1, s, h2, h3⟩
      · exact .inl (collZ_tail h)
      · refine .inr ⟨by simpa using h1, s, ?_, h3⟩
        rw [List.length_cons, List.length_cons, show min (r.length + 1) (q.length + 1) = min r.length q.length + 1 by omega]
        unfold longR at h2 ⊢
        by_cases hl : (strR r).length < (strR q).length
        · rw [if_pos hl] at h2
          rw [if_pos (by simpa using hl), List.getElem?_cons_succ]; exact h2
        · rw [if_neg hl] at h2
          rw [if_neg (by simpa using hl), List.getElem?_cons_succ]; exact h2
    · exact .inl (collZ_head es (by rw [← chainZ_sum, ← chainZ_sum]; exact he))
end Go.Proofs.YtnmbadkcjjlebaaDoor

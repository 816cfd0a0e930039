/- VerifyExtension. -/
import Derived.Test.YtfgojhhphknjkaaDoorDigJoin
namespace Go.Proofs.YtfgojhhphknjkaaDoor
open Go.RowKit

/-- VerifyExtension, as a plain function. -/
def verifyExtZ (old : ByteArray) (m : Int) (root : ByteArray) (n : Int) (p : List ByteArray) : Bool :=
  decide (0 ≤ m) && decide (m ≤ n) && decide (old.size = 32) && decide (root.size = 32) && allDig p &&
  (if m = 0 then p.isEmpty && strEq old (sumZ ⟨#[]⟩) else if m = n then p.isEmpty && strEq old root else
    (joinR old p.reverse m.toNat n.toNat true).2.2 && strEq (joinR old p.reverse m.toNat n.toNat true).1 old && strEq (joinR old p.reverse m.toNat n.toNat true).2.1 root)

set_option maxRecDepth 100000 in
set_option maxHeartbeats 1500000 in
theorem verifyExt_any (old : ByteArray) (m : Int) (root : ByteArray) (n : Int) (ss : List ByteArray) (p : Option Addr) (cap : Nat) (w : World) (hn1 : -9223372036854775808 ≤ n) (hn : n ≤ 9223372036854775807) (hm1 : -9223372036854775808 ≤ m) (hm : m ≤ 9223372036854775807) (ho : old.size ≤ 9223372036854775807) (hr : root.size ≤ 9223372036854775807)
    (h1000 : ss.length ≤ 1000) (hcap : ss.length ≤ cap) (hcap2 : cap ≤ 9223372036854775807) (hp : StrsAt w p ss) (hs : Small ss) (hK : Keyed w) :
    Calls Tryd.prog 21 #[.string old, .int .i64 m, .string root, .int .i64 n, .slice p ss.length cap] w fun e w' => e = .returned (.bool (verifyExtZ old m root n ss)) ∧ Below w.heap.size w w' := by
  unfold verifyExtZ
  by_cases h0 : m < 0
  · have d1 : decide (m < 0) = true := by simp; omega
    have d0 : decide (0 ≤ m) = false := by simp; omega
    rw [d0]
    go_enter Tryd.func21, Tryd.ntmps21
    go_wp2
    go_ret
    exact ⟨rfl, Below.refl _ _⟩
  have d1 : decide (m < 0) = false := by simp; omega
  have d0 : decide (0 ≤ m) = true := by simp; omega
  rw [d0]; clear d0
  by_cases h2 : n < m
  · have d2 : decide (n < m) = true := by simp; omega
    have d3 : decide (m ≤ n) = false := by simp; omega
    rw [d3]
    go_enter Tryd.func21, Tryd.ntmps21
    go_wp2
    go_ret
    exact ⟨rfl, Below.refl _ _⟩
  have d2 : decide (n < m) = false := by simp; omega
  have d3 : decide (m ≤ n) = true := by simp; omega
  rw [d3]; clear d3
  by_cases h3 : old.size = 32
  case neg =>
    have d3 : ((old.size : Int) != 32) = true := by simp; omega
    have d3' : ((old.size : Int) == 32) = false := by simp; omega
    have d4 : decide (old.size = 32) = false := by simp; omega
    rw [d4]
    go_enter Tryd.func21, Tryd.ntmps21
    go_wp2
    all_goals (go_ret; exact ⟨by simp, Below.refl _ _⟩)
  have d3 : ((old.size : Int) != 32) = false := by simp; omega
  have d3' : ((old.size : Int) == 32) = true := by simp; omega
  have d4 : decide (old.size = 32) = true := by simp; omega
  rw [d4]; clear d4
  by_cases h4 : root.size = 32
  case neg =>
    have d4 : ((root.size : Int) != 32) = true := by simp; omega
    have d4' : ((root.size : Int) == 32) = false := by simp; omega
    have d5 : decide (root.size = 32) = false := by simp; omega
    rw [d5]
    go_enter Tryd.func21, Tryd.ntmps21
    go_wp2
    all_goals (go_ret; exact ⟨by simp, Below.refl _ _⟩)
  have d4 : ((root.size : Int) != 32) = false := by simp; omega
  have d4' : ((root.size : Int) == 32) = true := by simp; omega
  have d5 : decide (root.size = 32) = true := by simp; omega
  rw [d5]; clear d5
  have hA := fun W (hW : StrsAt W p ss) => areDigests_any ss p cap W (by omega) hW hs
  cases ha : allDig ss with
  | false =>
    rw [ha] at hA
    go_enter Tryd.func21, Tryd.ntmps21
    go_wp2_with (go_at_call 39; refine (hA _ hp).mono ?_; rintro e w1 ⟨rfl, rfl⟩)
    all_goals (go_ret; exact ⟨by simp, Below.refl _ _⟩)
  | true =>
    rw [ha] at hA
    have hs32 : ∀ s ∈ ss, s.size ≤ 32 := fun s hs' => by
      have := List.all_eq_true.1 ha s hs'; simp at this; omega
    have o3 : (old.size : Int) = 32 := by omega
    have o4 : (root.size : Int) = 32 := by omega
    obtain ⟨m, rfl⟩ := Int.eq_ofNat_of_zero_le (show 0 ≤ m by omega)
    obtain ⟨n, rfl⟩ := Int.eq_ofNat_of_zero_le (show 0 ≤ n by omega)
    rw [Int.toNat_natCast, Int.toNat_natCast]
    have hemp : ss.isEmpty = ((ss.length : Int) == 0) := by
      cases ss with
      | nil => rfl
      | cons a l =>
        rw [show ((((a :: l).length : Nat) : Int) == 0) = false by rw [beq_eq_false_iff_ne]; simp only [List.length_cons]; omega]
        simp
    have hR := fun W (hb : Below w.heap.size w W) => root_any 0 [] none 0 W (Nat.le_refl _) (by simp) (by simp) (by omega) (fun i hi => by simp at hi) (fun s hs' => by cases hs') (hK.below hb)
    rw [rootZ_nil] at hR
    have hR' : ∀ W, Below w.heap.size w W → Calls Tryd.prog 17 #[.slice none 0 0] W fun e w' => e = .returned (.string (sumZ ⟨#[]⟩)) ∧ Below W.heap.size W w' := hR
    clear hR
    generalize sumZ ⟨#[]⟩ = E at *
    by_cases hm0 : m = 0
    · subst hm0
      rw [if_pos (show ((0 : Nat) : Int) = 0 from rfl), hemp]
      clear hemp
      have g0 : (((0 : Nat) : Int) == 0) = true := rfl
      by_cases hl : ss.length = 0
      · have l1 : ((ss.length : Int) == 0) = true := by rw [beq_iff_eq]; omega
        rw [l1]
        generalize ss.length = L at *
        subst hl
        go_enter Tryd.func21, Tryd.ntmps21
        go_wp2_with (first | (go_at_call 39; refine (hA _ hp).mono ?_; rintro e w1 ⟨rfl, rfl⟩) | (go_at_call 17; refine (hR' _ (Below.refl _ _)).mono ?_; rintro e w2 ⟨rfl, b2⟩))
        go_ret
        exact ⟨rfl, b2⟩
      · have l1 : ((ss.length : Int) == 0) = false := by rw [beq_eq_false_iff_ne]; omega
        rw [l1]
        generalize ss.length = L at *
        go_enter Tryd.func21, Tryd.ntmps21
        go_wp2_with (first | (go_at_call 39; refine (hA _ hp).mono ?_; rintro e w1 ⟨rfl, rfl⟩))
        go_ret
        exact ⟨rfl, Below.refl _ _⟩
    · have g0 : ((m : Int) == 0) = false := by simp; omega
      have g0' : ¬ (m : Int) = 0 := by omega
      rw [if_neg g0']
      by_cases hmn : m = n
      · subst hmn
        rw [if_pos rfl, hemp]
        clear hemp
        have g1 : ((m : Int) == (m : Int)) = true := by simp
        by_cases hl : ss.length = 0
        · have l1 : ((ss.length : Int) == 0) = true := by rw [beq_iff_eq]; omega
          rw [l1]
          generalize ss.length = L at *
          subst hl
          go_enter Tryd.func21, Tryd.ntmps21
          go_wp2_with (first | (go_at_call 39; refine (hA _ hp).mono ?_; rintro e w1 ⟨rfl, rfl⟩))
          go_ret
          exact ⟨rfl, Below.refl _ _⟩
        · have l1 : ((ss.length : Int) == 0) = false := by rw [beq_eq_false_iff_ne]; omega
          rw [l1]
          generalize ss.length = L at *
          go_enter Tryd.func21, Tryd.ntmps21
          go_wp2_with (first | (go_at_call 39; refine (hA _ hp).mono ?_; rintro e w1 ⟨rfl, rfl⟩))
          go_ret
          exact ⟨rfl, Below.refl _ _⟩
      · have g1 : ((m : Int) == (n : Int)) = false := by simp; omega
        have g1' : ¬ (m : Int) = (n : Int) := by omega
        rw [if_neg g1']
        have hC := fun W (hb : Below w.heap.size w W) => joined_any old (by omega) ss.length ss m n true p cap W (Nat.le_refl _) (by omega) (by omega) (by omega) h1000 hcap hcap2 (hp.below hb) hs32 (hK.below hb)
        clear hemp hR'
        generalize joinR old ss.reverse m n true = r at *
        generalize ss.length = L at *
        obtain ⟨r1, r2, r3⟩ := r
        simp only at hC ⊢
        have s1 : ∀ b : Bool, (strEq r1 old = b) → (r1.toList == old.toList) = b := fun b h => h
        cases r3 with
        | false =>
          go_enter Tryd.func21, Tryd.ntmps21
          go_wp2_with (first | (go_at_call 39; refine (hA _ hp).mono ?_; rintro e w1 ⟨rfl, rfl⟩) | (go_at_call 41; refine (hC _ (Below.refl _ _)).mono ?_; rintro e w3 ⟨rfl, b3⟩))
          go_ret
          exact ⟨rfl, b3⟩
        | true =>
          cases hq : strEq r1 old with
          | false =>
            have hq' := s1 _ hq
            go_enter Tryd.func21, Tryd.ntmps21
            go_wp2_with (first | (go_at_call 39; refine (hA _ hp).mono ?_; rintro e w1 ⟨rfl, rfl⟩) | (go_at_call 41; refine (hC _ (Below.refl _ _)).mono ?_; rintro e w3 ⟨rfl, b3⟩))
            go_ret
            exact ⟨rfl, b3⟩
          | true =>
            have hq' := s1 _ hq
            go_enter Tryd.func21, Tryd.ntmps21
            go_wp2_with (first | (go_at_call 39; refine (hA _ hp).mono ?_; rintro e w1 ⟨rfl, rfl⟩) | (go_at_call 41; refine (hC _ (Below.refl _ _)).mono ?_; rintro e w3 ⟨rfl, b3⟩))
            go_ret
            exact ⟨rfl, b3⟩
end Go.Proofs.YtfgojhhphknjkaaDoor

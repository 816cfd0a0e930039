/- VerifyExtension. -/
import Derived.Test.YtfgojhhphknjkaaDoorDigClimb
namespace Go.Proofs.YtfgojhhphknjkaaDoor
open Go.RowKit

theorem joinR_all {old : ByteArray} {p : List ByteArray} {n : Nat} : joinR old p n n true = (old, old, p.isEmpty) := by
  cases p with
  | nil => rw [joinR, if_pos ⟨rfl, rfl⟩]; rfl
  | cons x p => rw [joinR, if_pos ⟨rfl, rfl⟩]; rfl

set_option maxRecDepth 100000 in
set_option maxHeartbeats 8000000 in
theorem joined_any (old : ByteArray) (hold : old.size ≤ 32) : ∀ (N : Nat) (ss : List ByteArray) (m n : Nat) (whole : Bool) (p : Option Addr) (cap : Nat) (w : World), ss.length ≤ N → 1 ≤ m → m ≤ n → n ≤ 9223372036854775807 → ss.length ≤ 1000 → ss.length ≤ cap → cap ≤ 9223372036854775807 → StrsAt w p ss → (∀ s ∈ ss, s.size ≤ 32) → Keyed w →
    Calls Tryd.prog 41 #[.string old, .int .i64 m, .int .i64 n, .bool whole, .slice p ss.length cap] w fun e w' => e = .returned (.tuple #[.string (joinR old ss.reverse m n whole).1, .string (joinR old ss.reverse m n whole).2.1, .bool (joinR old ss.reverse m n whole).2.2]) ∧ Below w.heap.size w w' := by
  intro N
  induction N with
  | zero =>
    intro ss m n whole p cap w hN hm hmn hn h1000 hcap hcap2 hp hs hK
    obtain rfl : ss = [] := List.eq_nil_of_length_eq_zero (by omega)
    have hpt := fun W => parted_nil p cap W
    by_cases h1 : m = n
    · subst h1
      cases whole with
      | true =>
        rw [show joinR old ([] : List ByteArray).reverse m m true = (old, old, true) from joinR_all]
        have d1 : ((m : Int) == (m : Int)) = true := by simp
        go_enter Tryd.func41, Tryd.ntmps41
        go_wp2
        go_ret3
        exact ⟨rfl, Below.refl _ _⟩
      | false =>
        rw [show joinR old ([] : List ByteArray).reverse m m false = (⟨#[]⟩, ⟨#[]⟩, false) by rw [List.reverse_nil, joinR, if_neg (by simp)]]
        have d1 : ((m : Int) == (m : Int)) = true := by simp
        go_enter Tryd.func41, Tryd.ntmps41
        go_wp2_with (go_at_call 47; refine (hpt _).mono ?_; rintro e w' ⟨rfl, rfl⟩)
        go_ret3
        exact ⟨rfl, Below.refl _ _⟩
    · have hz : joinR old ([] : List ByteArray).reverse m n whole = (⟨#[]⟩, ⟨#[]⟩, false) := if_neg (fun h => h1 h.1)
      rw [hz]
      have d1 : ((m : Int) == (n : Int)) = false := by simp; omega
      go_enter Tryd.func41, Tryd.ntmps41
      go_wp2_with (go_at_call 47; refine (hpt _).mono ?_; rintro e w' ⟨rfl, rfl⟩)
      go_ret3
      exact ⟨rfl, Below.refl _ _⟩
  | succ N ih =>
    intro ss m n whole p cap w hN hm hmn hn h1000 hcap hcap2 hp hs hK
    rcases list_last ss with rfl | ⟨ini, x, rfl⟩
    · exact ih [] m n whole p cap w (Nat.zero_le _) hm hmn hn h1000 hcap hcap2 hp hs hK
    · have hl : (ini ++ [x]).length = ini.length + 1 := by simp
      rw [List.reverse_append, List.reverse_singleton, List.singleton_append]
      have hxs := hs x (by simp)
      have hini : ∀ s ∈ ini, s.size ≤ 32 := fun s h => hs s (by simp [h])
      have hpi : StrsAt w p ini := by have := hp.take ini.length; rwa [List.take_left] at this
      rw [hl] at hN h1000 hcap ⊢
      have hpt := fun W (hW : StrsAt W p (ini ++ [x])) => parted_some ini x (ini.length + 1) rfl p cap W (by omega) hcap hcap2 hW
      have q1 : (((ini.length + 1 : Nat) : Int) == 0) = false := by simp; omega
      have q2 : ((ini.length : Int) + 1 == 0) = false := by simp; omega
      have q3 : ¬ ((ini.length : Int) + 1 = 0) := by omega
      by_cases h1 : m = n
      · subst h1
        cases whole with
        | true =>
          have hz : joinR old (x :: ini.reverse) m m true = (old, old, false) := joinR_all
          rw [hz]
          have d1 : ((m : Int) == (m : Int)) = true := by simp
          go_enter Tryd.func41, Tryd.ntmps41
          go_wp2
          go_ret3
          exact ⟨rfl, Below.refl _ _⟩
        | false =>
          have hz : joinR old (x :: ini.reverse) m m false = (x, x, ini.reverse.isEmpty) := by rw [joinR, if_neg (by simp), if_pos rfl]
          rw [hz]
          have d1 : ((m : Int) == (m : Int)) = true := by simp
          have d5 : ini.reverse.isEmpty = ((ini.length : Int) == 0) := by
            cases ini with
            | nil => rfl
            | cons a l =>
              rw [show ((((a :: l).length : Nat) : Int) == 0) = false by rw [beq_eq_false_iff_ne]; simp only [List.length_cons]; omega]
              simp
          rw [d5]
          clear ih hpi
          generalize hL : ini.length = L at *
          go_enter Tryd.func41, Tryd.ntmps41
          go_wp2_with (go_at_call 47; refine (hpt _ hp).mono ?_; rintro e w1 ⟨rfl, m1, rfl⟩)
          go_ret3
          exact ⟨by simp, below_drewN (Below.refl _ _) _⟩
      · have h2 : 2 ≤ n := by omega
        obtain ⟨k1, k2, k3⟩ := splitZ_spec h2 hn
        have hsp := fun W => split_any n h2 hn W
        have d1 : ((m : Int) == (n : Int)) = false := by simp; omega
        by_cases hik : m ≤ splitZ n
        · have hz : joinR old (x :: ini.reverse) m n whole = ((joinR old ini.reverse m (splitZ n) whole).1, nodeZ (joinR old ini.reverse m (splitZ n) whole).2.1 x, (joinR old ini.reverse m (splitZ n) whole).2.2) := by rw [joinR, if_neg (fun h => h1 h.1), if_neg h1, if_pos hik]
          rw [hz]
          have hr := joinR_size old hold ini.reverse m (splitZ n) whole (fun y hy => hini y (by simpa using hy))
          have hC := fun W (hb : Below w.heap.size w W) => ih ini m (splitZ n) whole p cap W (by omega) hm hik (by omega) (by omega) (by omega) hcap2 (hpi.below hb) hini (hK.below hb)
          clear hz ih hpi
          generalize joinR old ini.reverse m (splitZ n) whole = r at *
          obtain ⟨r1, r2, r3⟩ := r
          simp only at hr hC ⊢
          have hND := fun W (hb : Below w.heap.size w W) => node_any r2 x W (by omega) (by omega) (hK.below hb)
          generalize splitZ n = k at *
          generalize hL : ini.length = L at *
          go_enter Tryd.func41, Tryd.ntmps41
          go_wp2_with (first | (go_at_call 47; refine (hpt _ hp).mono ?_; rintro e w1 ⟨rfl, m1, rfl⟩) | (go_at_call 35; refine (hsp _).mono ?_; rintro e w' ⟨rfl, rfl⟩) | (go_at_call 41; refine (hC _ (below_drewN (Below.refl _ _) _)).mono ?_; rintro e w2 ⟨rfl, b2⟩) | (go_at_call 29; refine (hND _ ((below_drewN (Below.refl _ _) _).trans b2)).mono ?_; rintro e w3 ⟨rfl, b3⟩))
          go_ret3
          exact ⟨rfl, ((below_drewN (Below.refl _ _) m1).trans b2).trans (b3.mono b2.size)⟩
        · have hz : joinR old (x :: ini.reverse) m n whole = (nodeZ x (joinR old ini.reverse (m - splitZ n) (n - splitZ n) false).1, nodeZ x (joinR old ini.reverse (m - splitZ n) (n - splitZ n) false).2.1, (joinR old ini.reverse (m - splitZ n) (n - splitZ n) false).2.2) := by rw [joinR, if_neg (fun h => h1 h.1), if_neg h1, if_neg hik]
          rw [hz]
          have hr := joinR_size old hold ini.reverse (m - splitZ n) (n - splitZ n) false (fun y hy => hini y (by simpa using hy))
          have hC := fun W (hb : Below w.heap.size w W) => ih ini (m - splitZ n) (n - splitZ n) false p cap W (by omega) (by omega) (by omega) (by omega) (by omega) (by omega) hcap2 (hpi.below hb) hini (hK.below hb)
          clear hz ih hpi
          generalize joinR old ini.reverse (m - splitZ n) (n - splitZ n) false = r at *
          obtain ⟨r1, r2, r3⟩ := r
          simp only at hr hC ⊢
          have hND1 := fun W (hb : Below w.heap.size w W) => node_any x r1 W (by omega) (by omega) (hK.below hb)
          have hND2 := fun W (hb : Below w.heap.size w W) => node_any x r2 W (by omega) (by omega) (hK.below hb)
          generalize splitZ n = k at *
          generalize hL : ini.length = L at *
          have e1 : (n : Int) - (k : Int) = ((n - k : Nat) : Int) := by omega
          have e2 : (m : Int) - (k : Int) = ((m - k : Nat) : Int) := by omega
          go_enter Tryd.func41, Tryd.ntmps41
          go_wp2_with (first | (go_at_call 47; refine (hpt _ hp).mono ?_; rintro e w1 ⟨rfl, m1, rfl⟩) | (go_at_call 35; refine (hsp _).mono ?_; rintro e w' ⟨rfl, rfl⟩) | (go_at_call 41; refine (hC _ (below_drewN (Below.refl _ _) _)).mono ?_; rintro e w2 ⟨rfl, b2⟩))
          refine (hND1 _ ((below_drewN (Below.refl _ _) _).trans b2)).mono ?_
          rintro e w3 ⟨rfl, b3⟩
          have b4 := ((below_drewN (Below.refl w.heap.size w) m1).trans b2).trans (b3.mono b2.size)
          go_wp2_with fail
          refine (hND2 _ b4).mono ?_
          rintro e w5 ⟨rfl, b5⟩
          go_wp2
          go_ret3
          exact ⟨rfl, bthen b4 b5⟩

end Go.Proofs.YtfgojhhphknjkaaDoor

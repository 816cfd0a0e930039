/- Verify. -/
import Derived.Test.YtfgojhhphknjkaaDoorDigVer
namespace Go.Proofs.YtfgojhhphknjkaaDoor
open Go.RowKit

theorem list_last {α : Type} (l : List α) : l = [] ∨ ∃ a x, l = a ++ [x] := by
  rcases List.eq_nil_or_concat l with h | ⟨a, x, h⟩
  · exact .inl h
  · exact .inr ⟨a, x, by simpa using h⟩

set_option maxRecDepth 100000 in
set_option maxHeartbeats 4000000 in
theorem climbed_any (leaf : ByteArray) (hleaf : leaf.size ≤ 32) : ∀ (N : Nat) (ss : List ByteArray) (n i : Nat) (p : Option Addr) (cap : Nat) (w : World), ss.length ≤ N → i < n → n ≤ 9223372036854775807 → ss.length ≤ 1000 → ss.length ≤ cap → cap ≤ 9223372036854775807 → StrsAt w p ss → Small ss → Keyed w →
    Calls Tryd.prog 40 #[.int .i64 n, .int .i64 i, .string leaf, .slice p ss.length cap] w fun e w' => e = .returned (.tuple #[.string (climbR leaf ss.reverse n i).1, .bool (climbR leaf ss.reverse n i).2]) ∧ Below w.heap.size w w' := by
  intro N
  induction N with
  | zero =>
    intro ss n i p cap w hN hin hn h1000 hcap hcap2 hp hs hK
    obtain rfl : ss = [] := List.eq_nil_of_length_eq_zero (by omega)
    have hpt := fun W => parted_nil p cap W
    by_cases h1 : n = 1
    · subst h1
      go_enter Tryd.func40, Tryd.ntmps40
      go_wp2
      go_ret2
      exact ⟨rfl, Below.refl _ _⟩
    · have hz : climbR leaf ([] : List ByteArray).reverse n i = (⟨#[]⟩, false) := if_neg h1
      rw [hz]
      have d1 : ((n : Int) == 1) = false := by simp; omega
      go_enter Tryd.func40, Tryd.ntmps40
      go_wp2_with (go_at_call 47; refine (hpt _).mono ?_; rintro e w' ⟨rfl, rfl⟩)
      go_ret2
      exact ⟨rfl, Below.refl _ _⟩
  | succ N ih =>
    intro ss n i p cap w hN hin hn h1000 hcap hcap2 hp hs hK
    rcases list_last ss with rfl | ⟨ini, x, rfl⟩
    · exact ih [] n i p cap w (Nat.zero_le _) hin hn h1000 hcap hcap2 hp hs hK
    · have hl : (ini ++ [x]).length = ini.length + 1 := by simp
      rw [List.reverse_append, List.reverse_singleton, List.singleton_append]
      by_cases h1 : n = 1
      · subst h1
        have hz : climbR leaf (x :: ini.reverse) 1 i = (leaf, false) := if_pos rfl
        rw [hz, hl]
        have d1 : (((ini.length + 1 : Nat) : Int) == 0) = false := by simp; omega
        have d2 : ((ini.length : Int) + 1 == 0) = false := by simp; omega
        have d3 : ¬ ((ini.length : Int) + 1 = 0) := by omega
        go_enter Tryd.func40, Tryd.ntmps40
        go_wp2
        go_ret2
        exact ⟨rfl, Below.refl _ _⟩
      · have hxs := hs x (by simp)
        have hini : Small ini := fun s h => hs s (by simp [h])
        have hpi : StrsAt w p ini := by have := hp.take ini.length; rwa [List.take_left] at this
        rw [hl] at hN h1000 hcap ⊢
        have h2 : 2 ≤ n := by omega
        obtain ⟨k1, k2, k3⟩ := splitZ_spec h2 hn
        have hpt := fun W (hW : StrsAt W p (ini ++ [x])) => parted_some ini x (ini.length + 1) rfl p cap W (by omega) hcap hcap2 hW
        have hsp := fun W => split_any n h2 hn W
        have d1 : ((n : Int) == 1) = false := by simp; omega
        by_cases hik : i < splitZ n
        · have hz : climbR leaf (x :: ini.reverse) n i = (nodeZ (climbR leaf ini.reverse (splitZ n) i).1 x, (climbR leaf ini.reverse (splitZ n) i).2) := by rw [climbR, if_neg h1, if_pos hik]
          rw [hz]
          have hr := climbR_size leaf hleaf ini.reverse (splitZ n) i
          have hC := fun W (hb : Below w.heap.size w W) => ih ini (splitZ n) i p cap W (by omega) hik (by omega) (by omega) (by omega) hcap2 (hpi.below hb) hini (hK.below hb)
          clear hz ih hpi
          generalize climbR leaf ini.reverse (splitZ n) i = r at *
          obtain ⟨r1, r2⟩ := r
          simp only at hr hC ⊢
          have hND := fun W (hb : Below w.heap.size w W) => node_any r1 x W (by omega) hxs (hK.below hb)
          generalize splitZ n = k at *
          generalize hL : ini.length = L at *
          go_enter Tryd.func40, Tryd.ntmps40
          go_wp2_with (first | (go_at_call 47; refine (hpt _ hp).mono ?_; rintro e w1 ⟨rfl, m1, rfl⟩) | (go_at_call 35; refine (hsp _).mono ?_; rintro e w' ⟨rfl, rfl⟩) | (go_at_call 40; refine (hC _ (below_drewN (Below.refl _ _) _)).mono ?_; rintro e w2 ⟨rfl, b2⟩) | (go_at_call 29; refine (hND _ ((below_drewN (Below.refl _ _) _).trans b2)).mono ?_; rintro e w3 ⟨rfl, b3⟩))
          go_ret2
          exact ⟨rfl, ((below_drewN (Below.refl _ _) m1).trans b2).trans (b3.mono b2.size)⟩
        · have hz : climbR leaf (x :: ini.reverse) n i = (nodeZ x (climbR leaf ini.reverse (n - splitZ n) (i - splitZ n)).1, (climbR leaf ini.reverse (n - splitZ n) (i - splitZ n)).2) := by rw [climbR, if_neg h1, if_neg hik]
          rw [hz]
          have hr := climbR_size leaf hleaf ini.reverse (n - splitZ n) (i - splitZ n)
          have hC := fun W (hb : Below w.heap.size w W) => ih ini (n - splitZ n) (i - splitZ n) p cap W (by omega) (by omega) (by omega) (by omega) (by omega) hcap2 (hpi.below hb) hini (hK.below hb)
          clear hz ih hpi
          generalize climbR leaf ini.reverse (n - splitZ n) (i - splitZ n) = r at *
          obtain ⟨r1, r2⟩ := r
          simp only at hr hC ⊢
          have hND := fun W (hb : Below w.heap.size w W) => node_any x r1 W hxs (by omega) (hK.below hb)
          generalize splitZ n = k at *
          generalize hL : ini.length = L at *
          have e1 : (n : Int) - (k : Int) = ((n - k : Nat) : Int) := by omega
          have e2 : (i : Int) - (k : Int) = ((i - k : Nat) : Int) := by omega
          go_enter Tryd.func40, Tryd.ntmps40
          go_wp2_with (first | (go_at_call 47; refine (hpt _ hp).mono ?_; rintro e w1 ⟨rfl, m1, rfl⟩) | (go_at_call 35; refine (hsp _).mono ?_; rintro e w' ⟨rfl, rfl⟩) | (go_at_call 40; refine (hC _ (below_drewN (Below.refl _ _) _)).mono ?_; rintro e w2 ⟨rfl, b2⟩) | (go_at_call 29; refine (hND _ ((below_drewN (Below.refl _ _) _).trans b2)).mono ?_; rintro e w3 ⟨rfl, b3⟩))
          go_ret2
          exact ⟨rfl, ((below_drewN (Below.refl _ _) m1).trans b2).trans (b3.mono b2.size)⟩

def strEq (a b : ByteArray) : Bool := a.toList == b.toList
theorem strEq_iff {a b : ByteArray} : strEq a b = true ↔ a = b := by
  unfold strEq
  rw [beq_iff_eq, ByteArray.toList_eq, ByteArray.toList_eq]
  exact ⟨fun h => ByteArray.ext (Array.ext' h), fun h => by rw [h]⟩

/-- Verify, as a plain function. -/
def verifyZ (root : ByteArray) (n i : Int) (s : ByteArray) (p : List ByteArray) : Bool :=
  decide (0 ≤ i) && decide (i < n) && allDig p && (climbR (leafZ s) p.reverse n.toNat i.toNat).2 && strEq (climbR (leafZ s) p.reverse n.toNat i.toNat).1 root

set_option maxRecDepth 100000 in
set_option maxHeartbeats 4000000 in
theorem verify_any (root : ByteArray) (n i : Int) (s : ByteArray) (ss : List ByteArray) (p : Option Addr) (cap : Nat) (w : World) (hn1 : -9223372036854775808 ≤ n) (hn : n ≤ 9223372036854775807) (hi1 : -9223372036854775808 ≤ i) (hi : i ≤ 9223372036854775807) (hss : s.size ≤ 140737488351232)
    (h1000 : ss.length ≤ 1000) (hcap : ss.length ≤ cap) (hcap2 : cap ≤ 9223372036854775807) (hp : StrsAt w p ss) (hs : Small ss) (hK : Keyed w) :
    Calls Tryd.prog 20 #[.string root, .int .i64 n, .int .i64 i, .string s, .slice p ss.length cap] w fun e w' => e = .returned (.bool (verifyZ root n i s ss)) ∧ Below w.heap.size w w' := by
  unfold verifyZ
  by_cases h0 : i < 0
  · have d1 : decide (i < 0) = true := by simp; omega
    have d0 : decide (0 ≤ i) = false := by simp; omega
    rw [d0]
    go_enter Tryd.func20, Tryd.ntmps20
    go_wp2
    go_ret
    exact ⟨rfl, Below.refl _ _⟩
  · have d1 : decide (i < 0) = false := by simp; omega
    have d0 : decide (0 ≤ i) = true := by simp; omega
    rw [d0]
    by_cases h2 : n ≤ i
    · have d2 : decide (n ≤ i) = true := by simp; omega
      have d3 : decide (i < n) = false := by simp; omega
      rw [d3]
      go_enter Tryd.func20, Tryd.ntmps20
      go_wp2
      go_ret
      exact ⟨rfl, Below.refl _ _⟩
    · have d2 : decide (n ≤ i) = false := by simp; omega
      have d3 : decide (i < n) = true := by simp; omega
      rw [d3]
      have hA := fun W (hW : StrsAt W p ss) => areDigests_any ss p cap W (by omega) hW hs
      cases ha : allDig ss with
      | false =>
        rw [ha] at hA
        go_enter Tryd.func20, Tryd.ntmps20
        go_wp2_with (go_at_call 39; refine (hA _ hp).mono ?_; rintro e w1 ⟨rfl, rfl⟩)
        go_ret
        exact ⟨rfl, Below.refl _ _⟩
      | true =>
        rw [ha] at hA
        obtain ⟨n, rfl⟩ := Int.eq_ofNat_of_zero_le (show 0 ≤ n by omega)
        obtain ⟨i, rfl⟩ := Int.eq_ofNat_of_zero_le (show 0 ≤ i by omega)
        have hL := fun W (hb : Below w.heap.size w W) => leaf_any s W hss (hK.below hb)
        have hlf := leafZ_size s
        rw [Int.toNat_natCast, Int.toNat_natCast]
        generalize leafZ s = leaf at *
        have hC := fun W (hb : Below w.heap.size w W) => climbed_any leaf (by omega) ss.length ss n i p cap W (Nat.le_refl _) (by omega) (by omega) h1000 hcap hcap2 (hp.below hb) hs (hK.below hb)
        generalize climbR leaf ss.reverse n i = r at *
        obtain ⟨r1, r2⟩ := r
        simp only at hC ⊢
        cases r2 with
        | false =>
          go_enter Tryd.func20, Tryd.ntmps20
          go_wp2_with (first | (go_at_call 39; refine (hA _ hp).mono ?_; rintro e w1 ⟨rfl, rfl⟩) | (go_at_call 27; refine (hL _ (Below.refl _ _)).mono ?_; rintro e w2 ⟨rfl, b2⟩) | (go_at_call 40; refine (hC _ b2).mono ?_; rintro e w3 ⟨rfl, b3⟩))
          go_ret
          exact ⟨rfl, bthen b2 b3⟩
        | true =>
          go_enter Tryd.func20, Tryd.ntmps20
          go_wp2_with (first | (go_at_call 39; refine (hA _ hp).mono ?_; rintro e w1 ⟨rfl, rfl⟩) | (go_at_call 27; refine (hL _ (Below.refl _ _)).mono ?_; rintro e w2 ⟨rfl, b2⟩) | (go_at_call 40; refine (hC _ b2).mono ?_; rintro e w3 ⟨rfl, b3⟩))
          go_ret
          exact ⟨rfl, bthen b2 b3⟩
end Go.Proofs.YtfgojhhphknjkaaDoor

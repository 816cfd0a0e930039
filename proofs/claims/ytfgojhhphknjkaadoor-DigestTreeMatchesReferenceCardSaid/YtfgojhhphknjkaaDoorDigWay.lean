/- way and collide. -/
import Derived.Test.YtfgojhhphknjkaaDoorDigFew
namespace Go.Proofs.YtfgojhhphknjkaaDoor
open Go.RowKit

def preS (b : UInt8) (s : ByteArray) : ByteArray := ⟨#[b]⟩ ++ s
/-- The strings of which Sum is computed, and the value; the proof with its last element first. -/
def wayR (s : ByteArray) : List ByteArray → Nat → Nat → List ByteArray × ByteArray
  | [], _, _ => ([⟨#[0]⟩ ++ s], leafZ s)
  | x :: p, n, i => if n ≤ 1 then ([⟨#[0]⟩ ++ s], leafZ s) else
    if i < splitZ n then ((⟨#[1]⟩ ++ (wayR s p (splitZ n) i).2 ++ x) :: (wayR s p (splitZ n) i).1, nodeZ (wayR s p (splitZ n) i).2 x)
    else ((⟨#[1]⟩ ++ x ++ (wayR s p (n - splitZ n) (i - splitZ n)).2) :: (wayR s p (n - splitZ n) (i - splitZ n)).1, nodeZ x (wayR s p (n - splitZ n) (i - splitZ n)).2)

theorem wayR_size (s : ByteArray) : ∀ p n i, (wayR s p n i).2.size = 32
  | [], n, i => leafZ_size s
  | x :: p, n, i => by
    rw [wayR]; split
    · exact leafZ_size s
    · split <;> exact nodeZ_size _ _
theorem wayR_len (s : ByteArray) : ∀ p n i, (wayR s p n i).1.length ≤ p.length + 1
  | [], n, i => Nat.le_refl _
  | x :: p, n, i => by
    rw [wayR]; split
    · simp
    · split
      · have := wayR_len s p (splitZ n) i; simp; omega
      · have := wayR_len s p (n - splitZ n) (i - splitZ n); simp; omega
theorem wayR_pos (s : ByteArray) : ∀ p n i, 1 ≤ (wayR s p n i).1.length
  | [], n, i => Nat.le_refl _
  | x :: p, n, i => by
    rw [wayR]; split
    · simp
    · split <;> simp

set_option maxRecDepth 100000 in
set_option maxHeartbeats 2000000 in
theorem way_any (s : ByteArray) (hss : s.size ≤ 900) : ∀ (N : Nat) (ss : List ByteArray) (n i : Nat) (p : Option Addr) (cap : Nat) (w : World), ss.length ≤ N → i < n → n ≤ 9223372036854775807 → ss.length ≤ 100 → ss.length ≤ cap → cap ≤ 9223372036854775807 → StrsAt w p ss → (∀ s ∈ ss, s.size ≤ 60) → Keyed w →
    Calls Tryd.prog 22 #[.int .i64 n, .int .i64 i, .string s, .slice p ss.length cap] w fun e w' => ∃ v, e = .returned (.tuple #[v, .string (wayR s ss.reverse n i).2]) ∧ w'.ownsRow w.heap.size 9 1 v (wayR s ss.reverse n i).1.length (strv (wayR s ss.reverse n i).1) ∧ Below w.heap.size w w' := by
  intro N
  induction N with
  | zero =>
    intro ss n i p cap w hN hin hn h1000 hcap hcap2 hp hs hK
    obtain rfl : ss = [] := List.eq_nil_of_length_eq_zero (by omega)
    rw [show wayR s ([] : List ByteArray).reverse n i = ([⟨#[0]⟩ ++ s], leafZ s) from rfl]
    have hd : decide ((n : Int) ≤ 1) = true ∨ decide ((n : Int) ≤ 1) = false := by cases decide ((n : Int) ≤ 1) <;> simp
    rcases hd with d1 | d1
    · skip
      have hL := fun W (hb : Below w.heap.size w W) => leaf_any s W (by omega) (hK.below hb)
      generalize leafZ s = l at *
      go_enter Tryd.func22, Tryd.ntmps22
      go_wp2_with (go_at_call 27; refine (hL _ ((Below.refl _ w).alloc (Nat.le_refl _) _)).mono ?_; rintro e w3 ⟨rfl, b3⟩)
      go_ret2
      exact ⟨_, rfl, own_below (World.ownsRow_lit w #[.string (⟨#[0]⟩ ++ s)] 1 (Nat.le_refl _) (by unfold maxLen; omega) rfl) b3, ((Below.refl _ w).alloc (Nat.le_refl _) _).trans (b3.mono (by simp))⟩
    · skip
      have hL := fun W (hb : Below w.heap.size w W) => leaf_any s W (by omega) (hK.below hb)
      generalize leafZ s = l at *
      go_enter Tryd.func22, Tryd.ntmps22
      go_wp2_with (go_at_call 27; refine (hL _ ((Below.refl _ w).alloc (Nat.le_refl _) _)).mono ?_; rintro e w3 ⟨rfl, b3⟩)
      go_ret2
      exact ⟨_, rfl, own_below (World.ownsRow_lit w #[.string (⟨#[0]⟩ ++ s)] 1 (Nat.le_refl _) (by unfold maxLen; omega) rfl) b3, ((Below.refl _ w).alloc (Nat.le_refl _) _).trans (b3.mono (by simp))⟩
  | succ N ih =>
    intro ss n i p cap w hN hin hn h1000 hcap hcap2 hp hs hK
    obtain ⟨i0, hi0, hz0, hz1, hz2⟩ := info_parts infoStr
    rcases list_last ss with rfl | ⟨ini, x, rfl⟩
    · exact ih [] n i p cap w (Nat.zero_le _) hin hn h1000 hcap hcap2 hp hs hK
    · have hl : (ini ++ [x]).length = ini.length + 1 := by simp
      rw [List.reverse_append, List.reverse_singleton, List.singleton_append]
      have hxs := hs x (by simp)
      have hini : ∀ s ∈ ini, s.size ≤ 60 := fun s h => hs s (by simp [h])
      have hpi : StrsAt w p ini := by have := hp.take ini.length; rwa [List.take_left] at this
      obtain ⟨b, off, rfl, hc⟩ := hp ini.length (by simp)
      simp only [List.getElem_concat_length] at hc
      rw [hl] at hN h1000 hcap ⊢
      by_cases h1 : n = 1
      · have hz : wayR s (x :: ini.reverse) n i = ([⟨#[0]⟩ ++ s], leafZ s) := by rw [wayR, if_pos (by omega)]
        rw [hz]
        clear hz
        have d1 : decide ((n : Int) ≤ 1) = true := by simp; omega
        have hL := fun W (hb : Below w.heap.size w W) => leaf_any s W (by omega) (hK.below hb)
        generalize leafZ s = l at *
        go_enter Tryd.func22, Tryd.ntmps22
        go_wp2_with (go_at_call 27; refine (hL _ ((Below.refl _ w).alloc (Nat.le_refl _) _)).mono ?_; rintro e w3 ⟨rfl, b3⟩)
        go_ret2
        exact ⟨_, rfl, own_below (World.ownsRow_lit w #[.string (⟨#[0]⟩ ++ s)] 1 (Nat.le_refl _) (by unfold maxLen; omega) rfl) b3, ((Below.refl _ w).alloc (Nat.le_refl _) _).trans (b3.mono (by simp))⟩
      · have h2 : 2 ≤ n := by omega
        obtain ⟨k1, k2, k3⟩ := splitZ_spec h2 hn
        have hsp := fun W => left_any n h2 hn W
        have d1 : decide ((n : Int) ≤ 1) = false := by simp; omega
        have q1 : (((ini.length + 1 : Nat) : Int) == 0) = false := by rw [beq_eq_false_iff_ne]; omega
        have q2 : ((ini.length : Int) + 1 == 0) = false := by rw [beq_eq_false_iff_ne]; omega
        have q3 : ¬ ((ini.length : Int) + 1 = 0) := by omega
        have hone : ∀ l : List ByteArray, ∀ u ∈ strv l, u.oneCell' = true := fun l u hu => by simp only [strv, List.mem_map] at hu; obtain ⟨y, _, rfl⟩ := hu; rfl
        by_cases hik : i < splitZ n
        · skip
          have hz : wayR s (x :: ini.reverse) n i = ((⟨#[1]⟩ ++ (wayR s ini.reverse (splitZ n) i).2 ++ x) :: (wayR s ini.reverse (splitZ n) i).1, nodeZ (wayR s ini.reverse (splitZ n) i).2 x) := by rw [wayR, if_neg (by omega), if_pos hik]
          rw [hz]
          have hr := wayR_size s ini.reverse (splitZ n) i
          have hrl := wayR_len s ini.reverse (splitZ n) i
          have hrp := wayR_pos s ini.reverse (splitZ n) i
          rw [List.length_reverse] at hrl
          have hC := fun W (hb : Below w.heap.size w W) => (ih ini (splitZ n) i (some ⟨b, off, none⟩) cap W (by omega) hik (by omega) (by omega) (by omega) hcap2 (hpi.below hb) hini (hK.below hb))
          clear hz ih hpi
          generalize wayR s ini.reverse (splitZ n) i = r at *
          obtain ⟨r1, r2⟩ := r
          simp only at hr hrl hrp hC ⊢
          have hND := fun W (hb : Below w.heap.size w W) => node_any r2 x W (by omega) (by omega) (hK.below hb)
          have hsz : (⟨#[1]⟩ ++ r2 ++ x).size ≤ 1000 := by rw [ByteArray.size_append, ByteArray.size_append]; simp only [ByteArray.size]; first | omega | (simp; omega)
          generalize splitZ n = k at *
          generalize hL : ini.length = L at *
          go_enter Tryd.func22, Tryd.ntmps22
          go_wp2_with (first | (go_at_call 28; refine (hsp _).mono ?_; rintro e w' ⟨rfl, rfl⟩) | fail)
          with_reducible refine Calls.mono (hC _ (Below.refl _ _)) ?_
          rintro e w7 ⟨v7, rfl, own7, b7⟩
          obtain ⟨M, hM⟩ : ∃ M, r1.length = M + 1 := ⟨r1.length - 1, by omega⟩
          obtain ⟨g7, cap7, rfl⟩ := ownsRow_succ (by rw [hM] at own7; exact own7)
          rw [← hM] at own7 ⊢
          clear hM
          have hnw := (own7.alloc (.cells #[.string (⟨#[1]⟩ ++ r2 ++ x)] 9)).cells (g := g7) rfl
          have ownL : (w7.alloc (.cells #[.string (⟨#[1]⟩ ++ r2 ++ x)] 9)).ownsRow w.heap.size 9 1 (.slice (some ⟨w7.heap.size, 0, none⟩) 1 1) 1 [.string (⟨#[1]⟩ ++ r2 ++ x)] := World.ownsRow_lit w7 #[.string (⟨#[1]⟩ ++ r2 ++ x)] 1 b7.size (by unfold maxLen; omega) rfl
          go_wp2_with (first | (at_builtin; refine wpList_append_own _ rfl _ _ 22 rfl w.heap.size 9 i0 (.string ⟨#[]⟩) 1 16 Tryd.underlying22 hi0 hz0 hz1 hz2 rfl (by decide) _ _ _ rfl ownL ⟨g7, 0, none⟩ r1.length cap7 (strv r1) rfl (by simp [strv]) hnw (hone _) (by unfold maxLen; omega) (by omega) (by have := b7.size; simp; omega) ?_; intro v9 w9 hown9 hgrow9 _) | fail)
          have b9 : Below w.heap.size w w9 := (b7.alloc b7.size _).grown hgrow9 (by have := b7.size; simp; omega) (own_le ownL)
          with_reducible refine Calls.mono (hND _ b9) ?_
          rintro e w10 ⟨rfl, b10⟩
          go_wp2
          go_ret2
          exact ⟨_, rfl, by have := own_below hown9 b10; simpa [strv, Nat.add_comm] using this, bthen b9 b10⟩
        · skip
          have hz : wayR s (x :: ini.reverse) n i = ((⟨#[1]⟩ ++ x ++ (wayR s ini.reverse (n - splitZ n) (i - splitZ n)).2) :: (wayR s ini.reverse (n - splitZ n) (i - splitZ n)).1, nodeZ x (wayR s ini.reverse (n - splitZ n) (i - splitZ n)).2) := by rw [wayR, if_neg (by omega), if_neg hik]
          rw [hz]
          have hr := wayR_size s ini.reverse (n - splitZ n) (i - splitZ n)
          have hrl := wayR_len s ini.reverse (n - splitZ n) (i - splitZ n)
          have hrp := wayR_pos s ini.reverse (n - splitZ n) (i - splitZ n)
          rw [List.length_reverse] at hrl
          have hC := fun W (hb : Below w.heap.size w W) => (ih ini (n - splitZ n) (i - splitZ n) (some ⟨b, off, none⟩) cap W (by omega) (by omega) (by omega) (by omega) (by omega) hcap2 (hpi.below hb) hini (hK.below hb))
          clear hz ih hpi
          generalize wayR s ini.reverse (n - splitZ n) (i - splitZ n) = r at *
          obtain ⟨r1, r2⟩ := r
          simp only at hr hrl hrp hC ⊢
          have hND := fun W (hb : Below w.heap.size w W) => node_any x r2 W (by omega) (by omega) (hK.below hb)
          have hsz : (⟨#[1]⟩ ++ x ++ r2).size ≤ 1000 := by rw [ByteArray.size_append, ByteArray.size_append]; simp only [ByteArray.size]; first | omega | (simp; omega)
          generalize splitZ n = k at *
          generalize hL : ini.length = L at *
          have e1 : (n : Int) - (k : Int) = ((n - k : Nat) : Int) := by omega
          have e2 : (i : Int) - (k : Int) = ((i - k : Nat) : Int) := by omega
          go_enter Tryd.func22, Tryd.ntmps22
          go_wp2_with (first | (go_at_call 28; refine (hsp _).mono ?_; rintro e w' ⟨rfl, rfl⟩) | fail)
          with_reducible refine Calls.mono (hC _ (Below.refl _ _)) ?_
          rintro e w7 ⟨v7, rfl, own7, b7⟩
          obtain ⟨M, hM⟩ : ∃ M, r1.length = M + 1 := ⟨r1.length - 1, by omega⟩
          obtain ⟨g7, cap7, rfl⟩ := ownsRow_succ (by rw [hM] at own7; exact own7)
          rw [← hM] at own7 ⊢
          clear hM
          have hnw := (own7.alloc (.cells #[.string (⟨#[1]⟩ ++ x ++ r2)] 9)).cells (g := g7) rfl
          have ownL : (w7.alloc (.cells #[.string (⟨#[1]⟩ ++ x ++ r2)] 9)).ownsRow w.heap.size 9 1 (.slice (some ⟨w7.heap.size, 0, none⟩) 1 1) 1 [.string (⟨#[1]⟩ ++ x ++ r2)] := World.ownsRow_lit w7 #[.string (⟨#[1]⟩ ++ x ++ r2)] 1 b7.size (by unfold maxLen; omega) rfl
          go_wp2_with (first | (at_builtin; refine wpList_append_own _ rfl _ _ 22 rfl w.heap.size 9 i0 (.string ⟨#[]⟩) 1 16 Tryd.underlying22 hi0 hz0 hz1 hz2 rfl (by decide) _ _ _ rfl ownL ⟨g7, 0, none⟩ r1.length cap7 (strv r1) rfl (by simp [strv]) hnw (hone _) (by unfold maxLen; omega) (by omega) (by have := b7.size; simp; omega) ?_; intro v9 w9 hown9 hgrow9 _) | fail)
          have b9 : Below w.heap.size w w9 := (b7.alloc b7.size _).grown hgrow9 (by have := b7.size; simp; omega) (own_le ownL)
          with_reducible refine Calls.mono (hND _ b9) ?_
          rintro e w10 ⟨rfl, b10⟩
          go_wp2
          go_ret2
          exact ⟨_, rfl, by have := own_below hown9 b10; simpa [strv, Nat.add_comm] using this, bthen b9 b10⟩
end Go.Proofs.YtfgojhhphknjkaaDoor

/- Of the laws: spans, few; the reference's Equal. -/
import Derived.Test.YtjocgipjmcnjfaaSpComb
import Derived.Test.YtjocgipjmcnjfaaSpLawB
import Derived.Test.YtjocgipjmcnjfaaSpQuery2
import Derived.Deep.RegionHeld3
import Derived.Deep.AppendLies
namespace Go.Proofs.Ytjocgipjmcnjfaa
open Go.RowKit Go.Shelf

theorem held2Alloc {w w8 : World} {a c : Addr} {u v : Value} {n : Nat} (ha : a.block < n) (hc : c.block < n) (h : w8.cell? a = some u ∧ w8.cell? c = some v ∧ Below n w w8) (hn : n ≤ w.heap.size) (o : Obj) : (w8.alloc o).cell? a = some u ∧ (w8.alloc o).cell? c = some v ∧ Below n w (w8.alloc o) := by
  have hs := h.2.2.size
  have b : Below n w8 (w8.alloc o) := (Below.refl _ w8).alloc (by omega) o
  exact ⟨(b.cell (p := a) ha).trans h.1, (b.cell (p := c) hc).trans h.2.1, h.2.2.trans b⟩
theorem held2Append {w w8 w9 : World} {a c : Addr} {u u' : Value} {N : Nat} (ha : a.block < N) (hc : c.block < N) (h : w8.cell? a = some u ∧ w8.cell? c = some u' ∧ Below N w w8) (hn : N ≤ w.heap.size) {e : TypeId} {size : Nat} {v : Value} {n : Nat} {xs : List Value} (hg : w8.grownBy w9 v.ownBlock) (own : w8.ownsRow N e size v n xs) : w9.cell? a = some u ∧ w9.cell? c = some u' ∧ Below N w w9 := by
  have hs := h.2.2.size
  have hb : Below N w8 w9 := (Below.refl _ _).grown hg (by omega) (own_le own)
  exact ⟨(hb.cell (p := a) ha).trans h.1, (hb.cell (p := c) hc).trans h.2.1, h.2.2.trans hb⟩

set_option maxRecDepth 100000 in
set_option maxHeartbeats 2000000 in
theorem spans_any (b : Nat) (l : List (Int × Int)) (n cap : Nat) (hn : n = 2 * l.length) (w : World) (hA : Arr w b 3 (spv l)) (hlen : l.length ≤ 100) :
    Calls Try.prog 35 #[.slice (some ⟨b, 0, none⟩) n cap] w (Own w l) := by
  obtain ⟨i0, hi0, hz0, hz1, hz2⟩ := info_parts infoS
  have hbl := hA.lt
  have hcell : ∀ k, k < l.length → w.cell? ⟨b, k * 2, none⟩ = some (iv (l.getD k (0, 0)).1) ∧ w.cell? ⟨b, k * 2 + 1, none⟩ = some (iv (l.getD k (0, 0)).2) := fun k hk => by
    obtain ⟨s0, s1⟩ := spv_get hk
    exact ⟨hA.cell s0, hA.cell s1⟩
  obtain ⟨m, hm⟩ : ∃ m, l.length = m := ⟨_, rfl⟩
  have HC := Lib.hid hcell
  have HM := Lib.hid hm
  have hn2 : n = 2 * m := by omega
  have hm5 : m ≤ 100 := by omega
  clear hA hcell hm hn hlen
  subst hn2
  obtain ⟨N, hN⟩ : ∃ N, w.heap.size = N := ⟨_, rfl⟩
  rw [hN] at hbl
  go_enter Try.func35, Try.ntmps35
  go_wp2_with fail
  go_loopw [3, 4] (fun s3 s4 wr => ∃ (k : Nat) (v : Value), v = s3 ∧ s4 = .int .i64 (2 * k) ∧ k ≤ m ∧ wr.ownsRow N 30 2 v (l.take k).length (spv (l.take k)) ∧ Below N w wr) (fun _ s4 _ => 2 * m - (intOf s4).toNat)
  case atStart => exact ⟨0, _, rfl, rfl, Nat.zero_le _, World.ownsRow_nil _ _ _ _, Below.refl _ _⟩
  case round =>
    obtain ⟨k, v, hv, rfl, hk, own, hb⟩ := hrel
    subst hv
    have hsz : N ≤ wr.heap.size := by have := hb.size; omega
    by_cases hlt : k < m
    · have hmm := HM.out
      obtain ⟨q0, q1⟩ := HC.out k (by omega)
      have hst : l.take (k + 1) = l.take k ++ [l.getD k (0, 0)] := by rw [List.take_succ_eq_append_getElem (by omega), getD_at (by omega)]
      obtain ⟨X, hX⟩ : ∃ X, l.getD k (0, 0) = X := ⟨_, rfl⟩
      rw [hX] at q0 q1 hst
      obtain ⟨x, y⟩ := X
      dsimp only at q0 q1
      have hc0 : wr.cell? ⟨b, 2 * k, none⟩ = some (iv x) := by rw [Nat.mul_comm]; exact (hb.cell (p := ⟨b, _, none⟩) hbl).trans q0
      have hc1 : wr.cell? ⟨b, 2 * k + 1, none⟩ = some (iv y) := by rw [Nat.mul_comm]; exact (hb.cell (p := ⟨b, _, none⟩) hbl).trans q1
      have hL : (l.take k).length ≤ 100 := by rw [List.length_take]; omega
      have HST := Lib.hid hst
      generalize l.take k = L at own hL HST
      have i1 : (2 * (k : Int)) + 1 < ((2 * m : Nat) : Int) := by omega
      have i2 : (0 : Int) ≤ 2 * (k : Int) := by omega
      have i3 : 2 * (k : Int) < ((2 * m : Nat) : Int) := by omega
      have i4 : (0 : Int) ≤ 2 * (k : Int) + 1 := by omega
      have w1 : IntKind.i64.wrap (2 * (k : Int) + 1) = 2 * (k : Int) + 1 := w64 (by omega) (by omega)
      have w2 : IntKind.i64.wrap (2 * (k : Int) + 2) = 2 * (k : Int) + 2 := w64 (by omega) (by omega)
      have t1 : (2 * (k : Int)).toNat = 2 * k := by omega
      have t2 : (2 * (k : Int) + 1).toNat = 2 * k + 1 := by omega
      have hbd : Below N wr wr.drew := (Below.refl _ _).drew
      clear hX hst q0 q1 hmm
      have hst : wr.drew.cell? ⟨b, 2 * k, none⟩ = some (iv x) ∧ wr.drew.cell? ⟨b, 2 * k + 1, none⟩ = some (iv y) ∧ Below N wr wr.drew := ⟨hc0, hc1, hbd⟩
      have i5 : 2 * (k : Int) < 2 * (m : Int) := by omega
      have i6 : 2 * (k : Int) + 1 < 2 * (m : Int) := by omega
      go_wp2_with fail
      go_region_held3 (fun w' => w'.cell? ⟨b, 2 * k, none⟩ = some (iv x) ∧ w'.cell? ⟨b, 2 * k + 1, none⟩ = some (iv y) ∧ Below N wr w') (first | assumption | exact hst | exact held2Alloc (a := ⟨b, 2 * k, none⟩) (c := ⟨b, 2 * k + 1, none⟩) hbl hbl (by assumption) hsz _ | exact held2Append (a := ⟨b, 2 * k, none⟩) (c := ⟨b, 2 * k + 1, none⟩) hbl hbl (held2Alloc (a := ⟨b, 2 * k, none⟩) (c := ⟨b, 2 * k + 1, none⟩) hbl hbl hst hsz _) hsz hgrow9 (own.drew.alloc _) | fail)
        (first | (refine step_append_lies _ (by rfl) _ _ 22 (by rfl) N 30 i0 (.agg #[.int .i64 0, .int .i64 0]) 2 16 Try.underlying22 hi0 hz0 hz1 hz2 rfl (by omega) _ L.length (spv L) (by rfl) (own.drew.alloc _) ⟨wr.heap.size, 0, none⟩ 1 1 [iv x, iv y] (by rfl) (by rfl) (cells_new _ _ _) (by simp [Value.oneCell']) (by omega) (by unfold maxLen; omega) (by omega) (by simp; omega) (wr.heap.size + 1) (by simp) ?_; intro gg cap9 w9 hown9 hgrow9 hat9 hlt9) | fail)
      rename_i hHeld
      have hb9 := hb.trans hHeld.2.2
      have HO9 := Lib.hid hown9
      clear hown9 hHeld hst hc0 hc1 hat9 hgrow9
      go_wp2_with fail
      refine ⟨⟨k + 1, _, rfl, by go_num, by omega, ?_, hb9⟩, by simp [intOf] <;> omega⟩
      rw [HST.out, List.length_append, spv_append]
      exact HO9.out
    · obtain rfl : k = m := by omega
      have hfin : l.take k = l := List.take_of_length_le (by rw [HM.out]; exact Nat.le_refl _)
      rw [hfin] at own
      have HO := Lib.hid own
      clear own hfin
      go_wp2_with fail
      go_ret
      exact ⟨_, rfl, by rw [hN]; exact HO.out, by rw [hN]; exact hb⟩

theorem ShAt.takeN {w : World} {n : Nat} {p : Option Addr} {l : List (Int × Int)} (h : ShAt w n p l) (k : Nat) : ShAt w n p (l.take k) := h.take k

set_option maxHeartbeats 1000000 in
theorem few_any (p : Option Addr) (cap : Nat) (l : List (Int × Int)) (w : World) (hlen : l.length ≤ 9223372036854775807) (hcap : l.length ≤ cap) (hc2 : cap ≤ 9223372036854775807) :
    Calls Try.prog 12 #[.slice p l.length cap] w fun e w' => e = .returned (.slice p (l.take 30).length cap) ∧ w' = w := by
  rw [List.length_take]
  obtain ⟨n, hn⟩ : ∃ n, l.length = n := ⟨_, rfl⟩
  rw [hn] at hlen hcap ⊢
  clear hn
  by_cases h : 30 < n
  · rw [Nat.min_eq_left (by omega)]
    have h1 : (30 : Int) ≤ (cap : Int) := by omega
    go_enter Try.func12, Try.ntmps12
    go_wp2
    all_goals first | omega | skip
    go_ret
    exact ⟨rfl, rfl⟩
  · rw [Nat.min_eq_right (by omega)]
    go_enter Try.func12, Try.ntmps12
    go_wp2
    go_ret
    exact ⟨rfl, rfl⟩
end Go.Proofs.Ytjocgipjmcnjfaa

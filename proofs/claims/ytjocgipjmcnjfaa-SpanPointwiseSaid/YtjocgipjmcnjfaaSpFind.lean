/- The first span that a predicate wants; whether there is one; Has. -/
import Derived.Test.YtjocgipjmcnjfaaSpValid
namespace Go.Proofs.Ytjocgipjmcnjfaa
open Go.RowKit Go.Shelf

def IdxOf (pd : Int × Int → Bool) (l : List (Int × Int)) (r : Int) : Prop :=
  (∃ k : Nat, k < l.length ∧ r = k ∧ pd (l.getD k (0, 0)) = true ∧ ∀ i, i < k → pd (l.getD i (0, 0)) = false) ∨ (r = -1 ∧ ∀ i, i < l.length → pd (l.getD i (0, 0)) = false)
def Judges (g : Nat) (lb : Array Value) (pd : Int × Int → Bool) (w : World) : Prop :=
  ∀ (W : World) (x : Int × Int), Below w.heap.size w W → Calls Try.prog g (#[.agg #[iv x.1, iv x.2]] ++ lb) W fun e w' => e = .returned (.bool (pd x)) ∧ Below W.heap.size W w'

theorem idxOf_any {pd : Int × Int → Bool} {l : List (Int × Int)} {r : Int} (h : IdxOf pd l r) : decide (0 ≤ r) = l.any pd := by
  rw [Bool.eq_iff_iff, decide_eq_true_eq, List.any_eq_true]
  rcases h with ⟨k, hk, rfl, h1, -⟩ | ⟨rfl, h1⟩
  · rw [getD_at hk] at h1
    exact ⟨fun _ => ⟨_, List.getElem_mem hk, h1⟩, fun _ => by omega⟩
  · constructor
    · intro h; omega
    · rintro ⟨x, hx, h2⟩
      obtain ⟨i, hi, rfl⟩ := List.getElem_of_mem hx
      have := h1 i hi
      rw [getD_at hi, h2] at this
      cases this

set_option maxRecDepth 100000 in
set_option maxHeartbeats 1000000 in
theorem index_any (g : Nat) (lb : Array Value) (pd : Int × Int → Bool) (eg : ∀ args w, (callFunc g args).run Try.prog w = .ok (.enter g args) w) (p : Option Addr) (cap : Nat) (l : List (Int × Int)) (w : World) (hS : ShAt w w.heap.size p l) (hlen : l.length ≤ 100000) (hp : Judges g lb pd w) :
    Calls Try.prog 54 #[.slice p l.length cap, .func (.func g) #[] lb] w fun e w' => (∃ r, e = .returned (iv r) ∧ IdxOf pd l r) ∧ Below w.heap.size w w' := by
  go_enter Try.func54, Try.ntmps54
  go_wp2_with fail
  go_loopw [8] (fun s wr => ∃ k : Nat, s = .int .i64 k ∧ k ≤ l.length ∧ Below w.heap.size w wr ∧ ∀ i, i < k → pd (l.getD i (0, 0)) = false) (fun s _ => l.length - (intOf s).toNat)
  case atStart => exact ⟨0, rfl, Nat.zero_le _, Below.refl _ _, fun i hi => by omega⟩
  case round =>
    obtain ⟨k, rfl, hk, hb, hall⟩ := hrel
    have HA := Lib.hid hall; clear hall
    by_cases hlt : k < l.length
    · obtain ⟨b, o, rfl, hbl, q0, q1⟩ := (hS.below hb) k hlt
      have hcall := hp wr (l.getD k (0, 0)) hb
      obtain ⟨X, hX⟩ : ∃ X, l.getD k (0, 0) = X := ⟨_, rfl⟩
      rw [hX] at q0 q1 hcall
      have HX := Lib.hid hX; clear hX
      obtain ⟨x, y⟩ := X
      dsimp only at q0 q1 hcall
      obtain ⟨r, hr⟩ : ∃ r, pd (x, y) = r := ⟨_, rfl⟩
      rw [hr] at hcall
      have HR := Lib.hid hr
      clear hr hp hS
      have hidx : (k : Int) * 2 = ((k * 2 : Nat) : Int) := by omega
      cases r with
      | true =>
        go_wp2_with (go_at_fn g; refine hcall.mono ?_; rintro e w6 ⟨rfl, b6⟩)
        go_ret
        exact ⟨⟨_, rfl, .inl ⟨k, hlt, rfl, by rw [HX.out]; exact HR.out, HA.out⟩⟩, hb.trans (b6.mono hb.size)⟩
      | false =>
        go_wp2_with (go_at_fn g; refine hcall.mono ?_; rintro e w6 ⟨rfl, b6⟩)
        refine ⟨⟨k + 1, by go_num, by omega, hb.trans (b6.mono hb.size), fun i hi => ?_⟩, by simp [intOf]; omega⟩
        rcases (by omega : i < k ∨ i = k) with h | rfl
        · exact HA.out i h
        · rw [HX.out]; exact HR.out
    · obtain rfl : k = l.length := by omega
      go_wp2_with fail
      go_ret
      exact ⟨⟨_, rfl, .inr ⟨rfl, HA.out⟩⟩, hb⟩

set_option maxRecDepth 100000 in
set_option maxHeartbeats 1000000 in
theorem contains_any (g : Nat) (lb : Array Value) (pd : Int × Int → Bool) (eg : ∀ args w, (callFunc g args).run Try.prog w = .ok (.enter g args) w) (p : Option Addr) (cap : Nat) (l : List (Int × Int)) (w : World) (hS : ShAt w w.heap.size p l) (hlen : l.length ≤ 100000) (hp : Judges g lb pd w) :
    Calls Try.prog 52 #[.slice p l.length cap, .func (.func g) #[] lb] w fun e w' => e = .returned (.bool (l.any pd)) ∧ Below w.heap.size w w' := by
  have hcon := (index_any g lb pd eg p cap l w hS hlen hp).mono (R' := fun e w' => (∃ r, e = .returned (iv r) ∧ decide (0 ≤ r) = l.any pd) ∧ Below w.heap.size w w') fun _ _ ⟨⟨r, h1, h2⟩, h3⟩ => ⟨⟨r, h1, idxOf_any h2⟩, h3⟩
  generalize l.any pd = R at hcon ⊢
  clear hS hp
  go_enter Try.func52, Try.ntmps52
  go_wp2_with fail
  refine hcon.mono ?_
  rintro e w6 ⟨⟨r, rfl, hr⟩, b6⟩
  have hr := Lib.hid hr
  go_wp2_with fail
  go_ret
  exact ⟨by rw [← hr.out]; rfl, b6⟩

set_option maxHeartbeats 1000000 in
theorem hasClosure (x : Int) (B : Nat) (w : World) (hB : B < w.heap.size) (hc : w.cell? ⟨B, 0, none⟩ = some (iv x)) : Judges 53 #[.pointer (some ⟨B, 0, none⟩)] (fun s => inS s x) w := by
  intro W s hb
  have hc' : W.cell? ⟨B, 0, none⟩ = some (iv x) := (hb.cell (p := ⟨B, 0, none⟩) hB).trans hc
  have hBW : B < W.heap.size := Nat.lt_of_lt_of_le hB hb.size
  have hne : B ≠ W.heap.size := by omega
  obtain ⟨a, b⟩ := s
  show Calls Try.prog 53 #[.agg #[.int .i64 a, .int .i64 b], .pointer (some ⟨B, 0, none⟩)] W fun e w' => e = .returned (.bool (decide (a ≤ x) && decide (x < b))) ∧ Below W.heap.size W w'
  clear hc hb
  by_cases h1 : a ≤ x
  · by_cases h2 : x < b
    · rw [decide_eq_true h1, decide_eq_true h2]
      go_enter Try.func53, Try.ntmps53
      go_wp2
      go_ret
      exact ⟨rfl, (Below.refl _ W).alloc (Nat.le_refl _) _⟩
    · rw [decide_eq_true h1, decide_eq_false h2]
      go_enter Try.func53, Try.ntmps53
      go_wp2
      go_ret
      exact ⟨rfl, (Below.refl _ W).alloc (Nat.le_refl _) _⟩
  · rw [decide_eq_false h1]
    go_enter Try.func53, Try.ntmps53
    go_wp2
    go_ret
    exact ⟨rfl, (Below.refl _ W).alloc (Nat.le_refl _) _⟩

set_option maxRecDepth 100000 in
set_option maxHeartbeats 1000000 in
theorem has_any (p : Option Addr) (cap : Nat) (l : List (Int × Int)) (x : Int) (w : World) (hS : ShAt w w.heap.size p l) (hlen : l.length ≤ 100000) :
    Calls Try.prog 30 #[.slice p l.length cap, iv x] w fun e w' => e = .returned (.bool (hasZ l x)) ∧ Below w.heap.size w w' := by
  have eg : ∀ args w, (callFunc 53 args).run Try.prog w = .ok (.enter 53 args) w := enters_of Try.func53 (by kernel_rfl) rfl
  have b0 : Below w.heap.size w (w.alloc (.cells #[iv x] 3)) := (Below.refl _ _).alloc (Nat.le_refl _) _
  have hcon := contains_any 53 #[.pointer (some ⟨w.heap.size, 0, none⟩)] (fun s => inS s x) eg p cap l (w.alloc (.cells #[iv x] 3)) (hS.into b0) hlen
    (hasClosure x w.heap.size _ (by simp) ((Arr.new w 3 [iv x]).cell (i := 0) rfl))
  rw [show l.any (fun s => inS s x) = hasZ l x from rfl] at hcon
  generalize hasZ l x = r at hcon ⊢
  clear hS eg
  go_enter Try.func30, Try.ntmps30
  go_wp2_with fail
  refine hcon.mono ?_
  rintro e w6 ⟨rfl, b6⟩
  go_wp2_with fail
  go_ret
  exact ⟨rfl, b0.trans (b6.mono (by simp))⟩
end Go.Proofs.Ytjocgipjmcnjfaa

/- The reference's At for every argument; lists compared; a zone cut short. -/
import Derived.Test.YtejohdmbnnlhjaaCalRefE
namespace Go.Proofs.Ytejohdmbnnlhjaa
open Go.RowKit

set_option maxRecDepth 100000 in
set_option maxHeartbeats 4000000 in
theorem rat_any (off d s : Int) (p : Option Addr) (cap : Nat) (sh : List (Int × Int)) (w : World) (hS : ShAt w w.heap.size p sh) (hlen : sh.length ≤ 1000) :
    Calls Try.prog 20 #[.agg #[iv off, .slice p sh.length cap], .int .i64 d, .int .i64 s] w (IntsOut w (atT off sh d s)) := by
  have hva := fun W (h : Below w.heap.size w W) => rvalid_any off p cap w.heap.size sh W h.size (hS.below h) hlen
  by_cases hv : validZ off sh = true
  · by_cases hd : -1 ≤ d ∧ d ≤ 200000
    · by_cases hs : 0 ≤ s ∧ s < 86400
      · exact rat_yes off d s p cap sh w hS hlen hv hd.1 hd.2 hs.1 hs.2
      · have h0 : atT off sh d s = [] := by
          unfold atT
          rw [show okSod s = false by rw [← Bool.not_eq_true, okSod_iff]; exact hs, Bool.and_false]; rfl
        rw [hv] at hva
        rw [h0]
        obtain ⟨d0, d1⟩ := hd
        clear hS h0 hv
        rcases (by omega : s < 0 ∨ (0 ≤ s ∧ 86400 ≤ s)) with g | ⟨g, g'⟩
        all_goals
          go_enter Try.func20, Try.ntmps20
          go_wp2_with fail
          obtain ⟨W0, hW0, b0, z0, ka⟩ := boxZ' w off (.slice p sh.length cap)
          try rw [hW0]
          try clear hW0
          have c0 := ka.cell (i := 0) rfl
          have c1 := ka.cell (i := 1) rfl
          go_wp2_with fail
          refine Calls.mono (hva _ b0) ?_; rintro e w1 ⟨rfl, b1⟩
          go_wp2_with fail
          go_ret
          exact ⟨_, rfl, World.ownsRow_nil _ _ _ _, bthen b0 b1⟩
    · have h0 : atT off sh d s = [] := by
        unfold atT
        rw [show okDay d = false by rw [← Bool.not_eq_true, okDay_iff]; omega, Bool.and_false, Bool.false_and]; rfl
      rw [hv] at hva
      rw [h0]
      clear hS h0 hv
      rcases (by omega : d < -1 ∨ (-1 ≤ d ∧ 200000 < d)) with g | ⟨g, g'⟩
      all_goals
        go_enter Try.func20, Try.ntmps20
        go_wp2_with fail
        obtain ⟨W0, hW0, b0, z0, ka⟩ := boxZ' w off (.slice p sh.length cap)
        try rw [hW0]
        try clear hW0
        have c0 := ka.cell (i := 0) rfl
        have c1 := ka.cell (i := 1) rfl
        go_wp2_with fail
        refine Calls.mono (hva _ b0) ?_; rintro e w1 ⟨rfl, b1⟩
        go_wp2_with fail
        go_ret
        exact ⟨_, rfl, World.ownsRow_nil _ _ _ _, bthen b0 b1⟩
  · rw [Bool.not_eq_true] at hv
    have h0 : atT off sh d s = [] := by unfold atT; rw [hv, Bool.false_and, Bool.false_and]; rfl
    rw [hv] at hva
    rw [h0]
    clear hS h0 hv
    go_enter Try.func20, Try.ntmps20
    go_wp2_with fail
    obtain ⟨W0, hW0, b0, z0, ka⟩ := boxZ' w off (.slice p sh.length cap)
    try rw [hW0]
    try clear hW0
    have c0 := ka.cell (i := 0) rfl
    have c1 := ka.cell (i := 1) rfl
    go_wp2_with fail
    refine Calls.mono (hva _ b0) ?_; rintro e w1 ⟨rfl, b1⟩
    go_wp2_with fail
    go_ret
    exact ⟨_, rfl, World.ownsRow_nil _ _ _ _, bthen b0 b1⟩

/-- A slice of integers lies at p. -/
def IntAt (w : World) (p : Option Addr) (l : List Int) : Prop := ∀ i, i < l.length → ∃ g, p = some ⟨g, 0, none⟩ ∧ g < w.heap.size ∧ w.cell? ⟨g, i, none⟩ = some (iv (l.getD i 0))
theorem IntAt.below {w w' : World} {p : Option Addr} {l : List Int} (h : IntAt w p l) (hb : Below w.heap.size w w') : IntAt w' p l := fun i hi => by
  obtain ⟨g, h1, h2, h3⟩ := h i hi
  exact ⟨g, h1, by have := hb.size; omega, (hb.cell (p := ⟨g, _, none⟩) h2).trans h3⟩

set_option maxRecDepth 100000 in
set_option maxHeartbeats 4000000 in
theorem same_any (l : List Int) (p1 p2 : Option Addr) (c1 c2 : Nat) (w : World) (h1 : IntAt w p1 l) (h2 : IntAt w p2 l) (hl : l.length ≤ 9223372036854775807) :
    Calls Try.prog 18 #[.slice p1 l.length c1, .slice p2 l.length c2] w fun e w' => e = .returned (.bool true) ∧ Below w.heap.size w w' := by
  go_enter Try.func18, Try.ntmps18
  go_wp2_with fail
  go_loopw [5] (fun i wr => ∃ k : Nat, i = .int .i64 k ∧ k ≤ l.length ∧ Below w.heap.size w wr) (fun i _ => l.length - (intOf i).toNat)
  case atStart => exact ⟨0, rfl, Nat.zero_le _, Below.refl _ _⟩
  case round =>
    obtain ⟨k, rfl, hk, hB⟩ := hrel
    by_cases hlt : k < l.length
    · obtain ⟨g1, rfl, q1, d1⟩ := (h1.below hB) k hlt
      obtain ⟨g2, rfl, q2, d2⟩ := (h2.below hB) k hlt
      have i0 : (0 : Int) ≤ (k : Int) := by omega
      have i1 : (k : Int) < (l.length : Int) := by omega
      obtain ⟨x, hx⟩ : ∃ x, l.getD k 0 = x := ⟨_, rfl⟩
      rw [hx] at d1 d2
      have e1 : (x != x) = false := by simp
      clear hx h1 h2
      go_wp2_with fail
      go_quiet (fail)
      go_wp2_with fail
      go_roundw
      case rel => exact ⟨k + 1, by go_num, by omega, below_drewN hB nq⟩
      case measure => simp [intOf]; omega
    · obtain rfl : k = l.length := by omega
      go_wp2_with fail
      go_ret
      exact ⟨rfl, hB⟩

set_option maxRecDepth 100000 in
set_option maxHeartbeats 4000000 in
theorem raw_any (off : Int) (p : Option Addr) (len cap : Nat) (w : World) (hl : len ≤ 9223372036854775807) (hc : len ≤ cap) (hc2 : cap ≤ 9223372036854775807) :
    Calls Try.prog 10 #[.agg #[iv off, .slice p len cap]] w fun e w' => e = .returned (.agg #[iv off, .slice p (min len 45) cap]) ∧ Below w.heap.size w w' := by
  rcases (by omega : len ≤ 45 ∨ 45 < len) with h | h
  · rw [show min len 45 = len by omega]
    have h' : (len : Int) ≤ 45 := by omega
    go_enter Try.func10, Try.ntmps10
    go_wp2_with fail
    obtain ⟨W0, hW0, b0, z0, ka⟩ := boxZ' w off (.slice p len cap)
    obtain ⟨WF, hWF, b1, z1, kf⟩ := boxZ' W0 off (.slice p len cap)
    rw [hW0, hWF]
    rw [z0] at kf
    have hb := bthen b0 b1
    exact bodyPost_ret (v := .agg #[iv off, .slice p len cap]) (by simp [results, Try.results10, go_sem, kf.cell (i := 0) rfl, kf.cell (i := 1) rfl]) rfl ⟨rfl, hb⟩
  · rw [show min len 45 = 45 by omega]
    have h' : (45 : Int) < (len : Int) := by omega
    go_enter Try.func10, Try.ntmps10
    go_wp2_with fail
    obtain ⟨W0, hW0, b0, z0, ka⟩ := boxZ' w off (.slice p 45 cap)
    obtain ⟨WF, hWF, b1, z1, kf⟩ := boxZ' W0 off (.slice p 45 cap)
    rw [hW0, hWF]
    rw [z0] at kf
    have hb := bthen b0 b1
    exact bodyPost_ret (v := .agg #[iv off, .slice p 45 cap]) (by simp [results, Try.results10, go_sem, kf.cell (i := 0) rfl, kf.cell (i := 1) rfl]) rfl ⟨rfl, hb⟩
end Go.Proofs.Ytejohdmbnnlhjaa

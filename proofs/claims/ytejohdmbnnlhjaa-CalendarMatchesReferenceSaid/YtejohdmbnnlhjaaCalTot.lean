/- Length and At for every argument; windows. -/
import Derived.Test.YtejohdmbnnlhjaaCalLen
import Derived.Test.YtejohdmbnnlhjaaCalAt
namespace Go.Proofs.Ytejohdmbnnlhjaa
open Go.RowKit

theorem okDay_iff {d : Int} : okDay d = true ↔ -1 ≤ d ∧ d ≤ 115741 := by simp [okDay]
theorem okDay_no {d : Int} (h : okDay d = false) : d < -1 ∨ 115741 < d := by
  by_cases h1 : d < -1
  · exact .inl h1
  · by_cases h2 : 115741 < d
    · exact .inr h2
    · rw [okDay_iff.2 ⟨by omega, by omega⟩] at h; cases h

set_option maxRecDepth 100000 in
set_option maxHeartbeats 4000000 in
theorem length_any (off d : Int) (p : Option Addr) (cap : Nat) (sh : List (Int × Int)) (w : World) (hS : ShAt w w.heap.size p sh) (hlen : sh.length ≤ 1000) :
    Calls Try.prog 16 #[.agg #[iv off, .slice p sh.length cap], .int .i64 d] w fun e w' => e = .returned (.int .i64 (lengthZ off sh d)) ∧ Below w.heap.size w w' := by
  have hv := fun W (h : Below w.heap.size w W) => valid_any off p cap w.heap.size sh W h.size (hS.below h) hlen
  by_cases h1 : validZ off sh = true
  · by_cases h2 : okDay d = true
    · have h2' := okDay_iff.1 h2
      have := length_yes off d p cap sh w hS hlen h1 h2'.1 h2'.2
      rw [show lengthZ off sh d = lenZ off sh d by unfold lengthZ; rw [h1, h2]; rfl]
      exact this
    · rw [Bool.not_eq_true] at h2
      rw [show lengthZ off sh d = 0 by unfold lengthZ; rw [h2]; simp]
      rw [h1] at hv
      clear hS
      have h3 := okDay_no h2
      clear h1 h2
      have key : ∀ b1 b2 : Bool, (b1 = decide (d < -1)) → (b2 = decide (115741 < d)) → (b1 || b2) = true := by
        intro b1 b2 e1 e2; subst e1; subst e2; simp; omega
      rcases h3 with h3 | h3
      all_goals
        go_enter Try.func16, Try.ntmps16
        go_wp2_with fail
        obtain ⟨W0, hW0, b0, z0, ka, kd⟩ : ∃ W0, (w.alloc (.cells #[iv off, .slice p sh.length cap] 24)).alloc (.cells #[.int .i64 d] 3) = W0 ∧ Below w.heap.size w W0 ∧ W0.heap.size = w.heap.size + 2 ∧
            Arr W0 w.heap.size 24 [iv off, .slice p sh.length cap] ∧ Arr W0 (w.heap.size + 1) 3 [iv d] :=
          ⟨_, rfl, ((Below.refl _ w).alloc (Nat.le_refl _) _).alloc (by simp) _, by simp, (Arr.new w _ [iv off, .slice p sh.length cap]).alloc _, Arr.new' _ [iv d] (by simp)⟩
        rw [hW0]; clear hW0
        refine (hv _ b0).mono ?_; rintro e w1 ⟨rfl, b1⟩
        have kd := kd.below b1 (by omega)
        have c0 := kd.cell (i := 0) rfl
        have H1 : (decide (d < -1) || decide (115741 < d)) = true := key _ _ rfl rfl
        clear key
        go_wp2_with fail
        try (rw [H1]; go_wp2_with fail)
        go_ret
        exact ⟨rfl, bthen b0 b1⟩
  · rw [Bool.not_eq_true] at h1
    rw [show lengthZ off sh d = 0 by unfold lengthZ; rw [h1]; simp]
    rw [h1] at hv
    clear hS
    go_enter Try.func16, Try.ntmps16
    go_wp2_with fail
    obtain ⟨W0, hW0, b0, z0, ka, kd⟩ : ∃ W0, (w.alloc (.cells #[iv off, .slice p sh.length cap] 24)).alloc (.cells #[.int .i64 d] 3) = W0 ∧ Below w.heap.size w W0 ∧ W0.heap.size = w.heap.size + 2 ∧
        Arr W0 w.heap.size 24 [iv off, .slice p sh.length cap] ∧ Arr W0 (w.heap.size + 1) 3 [iv d] :=
      ⟨_, rfl, ((Below.refl _ w).alloc (Nat.le_refl _) _).alloc (by simp) _, by simp, (Arr.new w _ [iv off, .slice p sh.length cap]).alloc _, Arr.new' _ [iv d] (by simp)⟩
    rw [hW0]; clear hW0
    refine (hv _ b0).mono ?_; rintro e w1 ⟨rfl, b1⟩
    go_wp2_with fail
    go_ret
    exact ⟨rfl, bthen b0 b1⟩

set_option maxRecDepth 100000 in
set_option maxHeartbeats 4000000 in
theorem at_any (off d s : Int) (p : Option Addr) (cap : Nat) (sh : List (Int × Int)) (w : World) (hS : ShAt w w.heap.size p sh) (hlen : sh.length ≤ 1000) :
    Calls Try.prog 19 #[.agg #[iv off, .slice p sh.length cap], .int .i64 d, .int .i64 s] w (IntsOut w (atT off sh d s)) := by
  have hv := fun W (h : Below w.heap.size w W) => valid_any off p cap w.heap.size sh W h.size (hS.below h) hlen
  by_cases h1 : validZ off sh = true
  · rw [h1] at hv
    by_cases h2 : okDay d = true
    · by_cases h4 : okSod s = true
      · have h2' := okDay_iff.1 h2
        have h4' := okSod_iff.1 h4
        have := at_yes off d s p cap sh w hS hlen h1 h2'.1 h2'.2 h4'.1 h4'.2
        rw [show atT off sh d s = atZ off sh d s by unfold atT; rw [h1, h2, h4]; rfl]
        exact this
      · rw [Bool.not_eq_true] at h4
        rw [show atT off sh d s = [] by unfold atT; rw [h4]; simp]
        have h2' := okDay_iff.1 h2
        obtain ⟨d0, d1⟩ := h2'
        clear hS h1 h2
        go_enter Try.func19, Try.ntmps19
        go_wp2_with fail
        obtain ⟨W0, hW0, b0, z0, ka, kd, ke⟩ : ∃ W0, ((w.alloc (.cells #[iv off, .slice p sh.length cap] 24)).alloc (.cells #[.int .i64 d] 3)).alloc (.cells #[.int .i64 s] 3) = W0 ∧ Below w.heap.size w W0 ∧ W0.heap.size = w.heap.size + 3 ∧
            Arr W0 w.heap.size 24 [iv off, .slice p sh.length cap] ∧ Arr W0 (w.heap.size + 1) 3 [iv d] ∧ Arr W0 (w.heap.size + 1 + 1) 3 [iv s] :=
          ⟨_, rfl, (((Below.refl _ w).alloc (Nat.le_refl _) _).alloc (by simp) _).alloc (by simp; omega) _, by simp, ((Arr.new w _ [iv off, .slice p sh.length cap]).alloc _).alloc _, (Arr.new' _ [iv d] (by simp)).alloc _, Arr.new' _ [iv s] (by simp)⟩
        rw [hW0]; clear hW0
        refine (hv _ b0).mono ?_; rintro e w1 ⟨rfl, b1⟩
        have kd := kd.below b1 (by omega)
        have ke := ke.below b1 (by omega)
        have c0 := kd.cell (i := 0) rfl
        have c1 := ke.cell (i := 0) rfl
        go_wp2_with (go_at_call 32; refine Calls.mono (isSod_any _ _) ?_; rintro e w' ⟨rfl, rfl⟩)
        go_ret
        exact ⟨_, rfl, World.ownsRow_nil _ _ _ _, bthen b0 b1⟩
    · rw [Bool.not_eq_true] at h2
      rw [show atT off sh d s = [] by unfold atT; rw [h2]; simp]
      clear hS
      have h3 := okDay_no h2
      clear h1 h2
      have key : ∀ b1 b2 : Bool, (b1 = decide (d < -1)) → (b2 = decide (115741 < d)) → (b1 || b2) = true := by
        intro b1 b2 e1 e2; subst e1; subst e2; simp; omega
      rcases h3 with h3 | h3
      all_goals
        go_enter Try.func19, Try.ntmps19
        go_wp2_with fail
        obtain ⟨W0, hW0, b0, z0, ka, kd, ke⟩ : ∃ W0, ((w.alloc (.cells #[iv off, .slice p sh.length cap] 24)).alloc (.cells #[.int .i64 d] 3)).alloc (.cells #[.int .i64 s] 3) = W0 ∧ Below w.heap.size w W0 ∧ W0.heap.size = w.heap.size + 3 ∧
            Arr W0 w.heap.size 24 [iv off, .slice p sh.length cap] ∧ Arr W0 (w.heap.size + 1) 3 [iv d] ∧ Arr W0 (w.heap.size + 1 + 1) 3 [iv s] :=
          ⟨_, rfl, (((Below.refl _ w).alloc (Nat.le_refl _) _).alloc (by simp) _).alloc (by simp; omega) _, by simp, ((Arr.new w _ [iv off, .slice p sh.length cap]).alloc _).alloc _, (Arr.new' _ [iv d] (by simp)).alloc _, Arr.new' _ [iv s] (by simp)⟩
        rw [hW0]; clear hW0
        refine (hv _ b0).mono ?_; rintro e w1 ⟨rfl, b1⟩
        have kd := kd.below b1 (by omega)
        have ke := ke.below b1 (by omega)
        have c0 := kd.cell (i := 0) rfl
        have c1 := ke.cell (i := 0) rfl
        have H1 : (decide (d < -1) || decide (115741 < d)) = true := key _ _ rfl rfl
        clear key
        go_wp2_with fail
        try (rw [H1]; go_wp2_with fail)
        go_ret
        exact ⟨_, rfl, World.ownsRow_nil _ _ _ _, bthen b0 b1⟩
  · rw [Bool.not_eq_true] at h1
    rw [show atT off sh d s = [] by unfold atT; rw [h1]; simp]
    rw [h1] at hv
    clear hS
    go_enter Try.func19, Try.ntmps19
    go_wp2_with fail
    obtain ⟨W0, hW0, b0, z0, ka, kd, ke⟩ : ∃ W0, ((w.alloc (.cells #[iv off, .slice p sh.length cap] 24)).alloc (.cells #[.int .i64 d] 3)).alloc (.cells #[.int .i64 s] 3) = W0 ∧ Below w.heap.size w W0 ∧ W0.heap.size = w.heap.size + 3 ∧
        Arr W0 w.heap.size 24 [iv off, .slice p sh.length cap] ∧ Arr W0 (w.heap.size + 1) 3 [iv d] ∧ Arr W0 (w.heap.size + 1 + 1) 3 [iv s] :=
      ⟨_, rfl, (((Below.refl _ w).alloc (Nat.le_refl _) _).alloc (by simp) _).alloc (by simp; omega) _, by simp, ((Arr.new w _ [iv off, .slice p sh.length cap]).alloc _).alloc _, (Arr.new' _ [iv d] (by simp)).alloc _, Arr.new' _ [iv s] (by simp)⟩
    rw [hW0]; clear hW0
    refine (hv _ b0).mono ?_; rintro e w1 ⟨rfl, b1⟩
    have kd := kd.below b1 (by omega)
    have ke := ke.below b1 (by omega)
    have c0 := kd.cell (i := 0) rfl
    have c1 := ke.cell (i := 0) rfl
    go_wp2_with fail
    go_ret
    exact ⟨_, rfl, World.ownsRow_nil _ _ _ _, bthen b0 b1⟩
end Go.Proofs.Ytejohdmbnnlhjaa

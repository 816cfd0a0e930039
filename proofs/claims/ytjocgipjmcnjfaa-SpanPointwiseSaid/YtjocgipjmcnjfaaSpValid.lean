/- Valid. -/
import Derived.Test.YtjocgipjmcnjfaaSpFns
namespace Go.Proofs.Ytjocgipjmcnjfaa
open Go.RowKit

def okAt (l : List (Int × Int)) (i : Nat) : Prop := (l.getD i (0, 0)).1 < (l.getD i (0, 0)).2 ∧ (0 < i → (l.getD (i - 1) (0, 0)).2 < (l.getD i (0, 0)).1)
theorem getD_at {l : List (Int × Int)} {i : Nat} (h : i < l.length) : l.getD i (0, 0) = l[i] := by
  rw [List.getD_eq_getElem?_getD, List.getElem?_eq_getElem h]; rfl
theorem asc_ok {l : List (Int × Int)} (h : Asc l) {i : Nat} (hi : i < l.length) : okAt l i := by
  refine ⟨?_, fun h0 => ?_⟩
  · rw [getD_at hi]; exact h.1 _ (List.getElem_mem hi)
  · rw [getD_at hi, getD_at (by omega)]
    exact List.pairwise_iff_getElem.1 h.2 (i - 1) i (by omega) hi (by omega)
theorem asc_of {l : List (Int × Int)} (h : ∀ i, i < l.length → okAt l i) : Asc l := by
  have h1 : ∀ i (hi : i < l.length), (l[i]).1 < (l[i]).2 := fun i hi => by have := (h i hi).1; rwa [getD_at hi] at this
  refine ⟨fun s hs => ?_, ?_⟩
  · obtain ⟨i, hi, rfl⟩ := List.getElem_of_mem hs
    exact h1 i hi
  · rw [List.pairwise_iff_getElem]
    intro i j hi hj hij
    induction j with
    | zero => omega
    | succ j ih =>
      have h2 := (h (j + 1) hj).2 (by omega)
      rw [getD_at (by omega), getD_at hj] at h2
      simp only [Nat.add_sub_cancel] at h2
      rcases (by omega : i < j ∨ i = j) with g | rfl
      · have := ih (by omega) g
        have := h1 j (by omega)
        omega
      · exact h2
theorem ascB_no {l : List (Int × Int)} {i : Nat} (hi : i < l.length) (h : ¬ okAt l i) : ascB l = false := by
  unfold ascB
  rw [decide_eq_false_iff_not]
  exact fun ha => h (asc_ok ha hi)
theorem ascB_yes {l : List (Int × Int)} (h : ∀ i, i < l.length → okAt l i) : ascB l = true := by
  unfold ascB
  rw [decide_eq_true_eq]
  exact asc_of h

/-- A boxed span. -/
theorem boxS (w : World) (a b : Int) : ∃ W, w.alloc (.cells #[iv a, iv b] 30) = W ∧ Below w.heap.size w W ∧ W.heap.size = w.heap.size + 1 ∧ Arr W w.heap.size 30 [iv a, iv b] :=
  ⟨_, rfl, (Below.refl _ w).alloc (Nat.le_refl _) _, by simp, Arr.new w _ [iv a, iv b]⟩

set_option maxRecDepth 100000 in
set_option maxHeartbeats 400000 in
theorem valid_any (p : Option Addr) (cap : Nat) (l : List (Int × Int)) (w : World) (hS : ShAt w w.heap.size p l) (hlen : l.length ≤ 100000) :
    Calls Try.prog 16 #[.slice p l.length cap] w fun e w' => e = .returned (.bool (ascB l)) ∧ Below w.heap.size w w' := by
  have he := fun a b W => isEmpty_gr a b W
  have mixed : Try.prog.follows .mixedOrders = true := by kernel_rfl
  obtain ⟨V, hV⟩ : ∃ V, ascB l = V := ⟨_, rfl⟩
  rw [hV]
  have HV := Lib.hid hV; clear hV
  go_enter Try.func16, Try.ntmps16
  go_wp2_with fail
  go_loopw [7] (fun s wr => ∃ k : Nat, s = .int .i64 k ∧ k ≤ l.length ∧ Below w.heap.size w wr ∧ ∀ i, i < k → okAt l i) (fun s _ => l.length - (intOf s).toNat)
  case atStart => exact ⟨0, rfl, Nat.zero_le _, Below.refl _ _, fun i hi => by omega⟩
  case round =>
    obtain ⟨k, rfl, hk, hb, hall⟩ := hrel
    have HA := Lib.hid hall; clear hall
    by_cases hlt : k < l.length
    · obtain ⟨b, o, rfl, hbl, q0, q1⟩ := (hS.below hb) k hlt
      have hsz := hb.size
      obtain ⟨x, hx⟩ : ∃ x, (l.getD k (0, 0)).1 = x := ⟨_, rfl⟩
      obtain ⟨y, hy⟩ : ∃ y, (l.getD k (0, 0)).2 = y := ⟨_, rfl⟩
      rw [hx] at q0; rw [hy] at q1
      have hidx : (k : Int) * 2 = ((k * 2 : Nat) : Int) := by omega
      go_wp2_with fail
      obtain ⟨W1, hW1, b1, z1, ka⟩ := boxS wr x y
      rw [hW1]; clear hW1
      have c0 := ka.cell (i := 0) rfl
      have c1 := ka.cell (i := 1) rfl
      have b01 := hb.trans (b1.mono hsz)
      by_cases h1 : y ≤ x
      · have hno : V = false := by
          rw [← HV.out]
          exact ascB_no hlt (fun h => by have := h.1; omega)
        subst hno
        have d1 : decide (y ≤ x) = true := by simpa using h1
        have he1 := fun W => d1 ▸ he x y W
        have g2 : wr.heap.size < W1.heap.size := by omega
        clear hS q0 q1 hx hy
        go_wp2_with fail
        have cc0 := cell_grown (by simp; omega) c0
        have cc1 := cell_grown (by simp; omega) c1
        refine wp_region_quiet_grown mixed (by kernel_rfl) ?_
        repeat (go_big_quiet_step (first | (go_at_call 38; with_reducible exact Calls.grown_of (he1 _)) | fail))
        refine wpQuiet_nil ?_
        intro _ hw'
        obtain ⟨⟨nq, osq⟩, hw''⟩ := hw'
        subst hw''
        have hq := grow_below W1 nq osq
        generalize Go.Sort.grow (W1.drewN nq) osq = W2 at hq ⊢
        go_wp2_with fail
        go_ret
        exact ⟨rfl, b01.trans (hq.mono (by omega))⟩
      · have d1 : decide (y ≤ x) = false := by simpa using h1
        have he1 := fun W => d1 ▸ he x y W
        by_cases h0 : k = 0
        · subst h0
          have g2 : wr.heap.size < W1.heap.size := by omega
          have hP : ∀ i, i < 0 + 1 → okAt l i := fun i hi => by
            obtain rfl : i = 0 := by omega
            exact ⟨by rw [hx, hy]; omega, fun h => by omega⟩
          have HP := Lib.hid hP
          clear hS q0 q1 hx hy hP
          go_wp2_with fail
          have cc0 := cell_grown (by simp; omega) c0
          have cc1 := cell_grown (by simp; omega) c1
          refine wp_region_quiet_grown mixed (by kernel_rfl) ?_
          repeat (go_big_quiet_step (first | (go_at_call 38; with_reducible exact Calls.grown_of (he1 _)) | fail))
          refine wpQuiet_nil ?_
          intro _ hw'
          obtain ⟨⟨nq, osq⟩, hw''⟩ := hw'
          subst hw''
          have hq := grow_below W1 nq osq
          generalize Go.Sort.grow (W1.drewN nq) osq = W2 at hq ⊢
          go_wp2_with fail
          exact ⟨⟨0 + 1, by go_num, by omega, b01.trans (hq.mono (by omega)), HP.out⟩, by simp [intOf]; omega⟩
        · obtain ⟨j, rfl⟩ : ∃ j, k = j + 1 := ⟨k - 1, by omega⟩
          obtain ⟨b', o', hp', hbl', r0, r1⟩ := (hS.below hb) j (by omega)
          simp only [Option.some.injEq, Addr.mk.injEq] at hp'
          obtain ⟨rfl, rfl, -⟩ := hp'
          obtain ⟨z, hz⟩ : ∃ z, (l.getD j (0, 0)).2 = z := ⟨_, rfl⟩
          rw [hz] at r1
          have r1' : W1.cell? ⟨b, o + j * 2 + 1, none⟩ = some (iv z) := (b1.cell (p := ⟨b, _, none⟩) (by simp; omega)).trans r1
          have g2 : wr.heap.size < W1.heap.size := by omega
          have g3 : b < W1.heap.size := by omega
          have e1 : ((j + 1 : Nat) : Int) - 1 = (j : Int) := by omega
          have e2 : (j : Int) * 2 = ((j * 2 : Nat) : Int) := by omega
          have w1' : IntKind.i64.wrap (((j + 1 : Nat) : Int) - 1) = (j : Int) := by rw [e1]; exact w64 (by omega) (by omega)
          have i0 : (0 : Int) < ((j + 1 : Nat) : Int) := by omega
          have i1 : (j : Int) < (l.length : Int) := by omega
          have HX := Lib.hid hx
          have HY := Lib.hid hy
          have HZ := Lib.hid hz
          clear hS q0 q1 hx hy hz r0 r1
          by_cases h2 : x ≤ z
          · have hno : V = false := by
              rw [← HV.out]
              exact ascB_no hlt (fun h => by have := h.2 (by omega); simp only [Nat.add_sub_cancel] at this; rw [HX.out, HZ.out] at this; omega)
            subst hno
            have d2 : decide (x ≤ z) = true := by simpa using h2
            go_wp2_with fail
            have cc0 := cell_grown (by simp; omega) c0
            have cc1 := cell_grown (by simp; omega) c1
            have cc2 := cell_grown (by simp; omega) r1'
            refine wp_region_quiet_grown mixed (by kernel_rfl) ?_
            repeat (go_big_quiet_step (first | (go_at_call 38; with_reducible exact Calls.grown_of (he1 _)) | fail))
            refine wpQuiet_nil ?_
            intro _ hw'
            obtain ⟨⟨nq, osq⟩, hw''⟩ := hw'
            subst hw''
            have hq := grow_below W1 nq osq
            generalize Go.Sort.grow (W1.drewN nq) osq = W2 at hq ⊢
            go_wp2_with fail
            go_ret
            exact ⟨rfl, b01.trans (hq.mono (by omega))⟩
          · have d2 : decide (x ≤ z) = false := by simpa using h2
            have hP : ∀ i, i < j + 1 + 1 → okAt l i := fun i hi => by
              rcases (by omega : i < j + 1 ∨ i = j + 1) with h | rfl
              · exact HA.out i h
              · exact ⟨by rw [HX.out, HY.out]; omega, fun h => by simp only [Nat.add_sub_cancel]; rw [HX.out, HZ.out]; omega⟩
            have HP := Lib.hid hP
            clear hP
            go_wp2_with fail
            have cc0 := cell_grown (by simp; omega) c0
            have cc1 := cell_grown (by simp; omega) c1
            have cc2 := cell_grown (by simp; omega) r1'
            refine wp_region_quiet_grown mixed (by kernel_rfl) ?_
            repeat (go_big_quiet_step (first | (go_at_call 38; with_reducible exact Calls.grown_of (he1 _)) | fail))
            refine wpQuiet_nil ?_
            intro _ hw'
            obtain ⟨⟨nq, osq⟩, hw''⟩ := hw'
            subst hw''
            have hq := grow_below W1 nq osq
            generalize Go.Sort.grow (W1.drewN nq) osq = W2 at hq ⊢
            go_wp2_with fail
            exact ⟨⟨j + 1 + 1, by go_num, by omega, b01.trans (hq.mono (by omega)), HP.out⟩, by simp [intOf]; omega⟩
    · obtain rfl : k = l.length := by omega
      have hyes : V = true := by rw [← HV.out]; exact ascB_yes HA.out
      subst hyes
      go_wp2_with fail
      go_ret
      exact ⟨rfl, hb⟩
end Go.Proofs.Ytjocgipjmcnjfaa

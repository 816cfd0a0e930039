import Derived.Test.YtfannkpnmaeljaaGreatDoorGSpT2
import Derived.WalkMore
set_option linter.unusedVariables false
set_option linter.unusedSimpArgs false
/- Covers, Earliest, Total. -/
namespace Go.Proofs.YtfannkpnmaeljaaGreatDoor
open Go.RowKit

def covB (s t : Int × Int) : Bool := decide (t.1 ≤ s.1) && decide (s.2 ≤ t.2)
def covZ (l : List (Int × Int)) (s : Int × Int) : Bool := decide (s.2 ≤ s.1) || (nrmZ l).any (covB s)
def fitB (x n : Int) (t : Int × Int) : Bool := decide (max t.1 x < t.2) && decide (n ≤ t.2 - max t.1 x)
def earlN (m : List (Int × Int)) (x n : Int) : Int × Bool := match m.find? (fitB x n) with
  | some t => (max t.1 x, true)
  | none => (0, false)
def earlZ (l : List (Int × Int)) (x n : Int) : Int × Bool := if n ≤ 0 then (x, true) else earlN (nrmZ l) x n
def sumZ (l : List (Int × Int)) : Int := (l.map fun s => s.2 - s.1).sum
def totZ (l : List (Int × Int)) : Int := min (sumZ (nrmZ l)) 4611686018427387903

theorem sumZ_le : ∀ (l : List (Int × Int)) (p q : Int), Asc l → p ≤ q → (∀ s ∈ l, p ≤ s.1 ∧ s.2 ≤ q) → 0 ≤ sumZ l ∧ sumZ l ≤ q - p
  | [], p, q, _, h, _ => by simp [sumZ]; omega
  | s :: r, p, q, h, hpq, hb => by
    obtain ⟨h1, h2, h3⟩ := asc_cons.1 h
    have hs := hb s (List.mem_cons_self ..)
    have ih := sumZ_le r s.2 q h3 hs.2 (fun t ht => ⟨by have := h2 t ht; omega, (hb t (List.mem_cons_of_mem _ ht)).2⟩)
    have e : sumZ (s :: r) = s.2 - s.1 + sumZ r := by simp [sumZ]
    omega
theorem sumZ_snoc (l : List (Int × Int)) (s : Int × Int) : sumZ (l ++ [s]) = sumZ l + (s.2 - s.1) := by simp [sumZ]
theorem Asc.take {l : List (Int × Int)} (h : Asc l) (k : Nat) : Asc (l.take k) := by
  rw [← List.take_append_drop k l] at h; exact (asc_append.1 h).1
theorem any_no {l : List (Int × Int)} {p : Int × Int → Bool} (h : ∀ i, i < l.length → p (l.getD i (0, 0)) = false) : l.any p = false := by
  rw [List.any_eq_false]
  intro x hx
  obtain ⟨i, hi, rfl⟩ := List.getElem_of_mem hx
  have := h i hi
  rw [getD_at hi] at this
  simp [this]
theorem any_yes {l : List (Int × Int)} {p : Int × Int → Bool} {i : Nat} (hi : i < l.length) (h : p (l.getD i (0, 0)) = true) : l.any p = true := by
  rw [List.any_eq_true]
  exact ⟨_, List.getElem_mem hi, by rwa [getD_at hi] at h⟩
theorem find_none {l : List (Int × Int)} {p : Int × Int → Bool} (h : ∀ i, i < l.length → p (l.getD i (0, 0)) = false) : l.find? p = none := by
  rw [List.find?_eq_none]
  intro x hx
  obtain ⟨i, hi, rfl⟩ := List.getElem_of_mem hx
  have := h i hi
  rw [getD_at hi] at this
  simp [this]
theorem find_some {p : Int × Int → Bool} : ∀ {l : List (Int × Int)} {k : Nat}, k < l.length → p (l.getD k (0, 0)) = true → (∀ i, i < k → p (l.getD i (0, 0)) = false) → l.find? p = some (l.getD k (0, 0))
  | [], k, hk, _, _ => by simp at hk
  | x :: l, 0, _, h, _ => by
    have : p x = true := h
    simp [this]
  | x :: l, k + 1, hk, h, hb => by
    have h0 : p x = false := hb 0 (by omega)
    have := find_some (p := p) (l := l) (k := k) (by simpa using hk) h (fun i hi => hb (i + 1) (by omega))
    simp only [List.find?_cons, h0]
    exact this

set_option maxRecDepth 100000 in
set_option maxHeartbeats 2000000 in
theorem covers_any (p : Option Addr) (cap : Nat) (l : List (Int × Int)) (a b : Int) (w : World) (hS : ShAt w w.heap.size p l) (hlen : l.length ≤ 100000) :
    Calls Tryz.prog 49 #[.slice p l.length cap, .agg #[iv a, iv b]] w fun e w' => e = .returned (.bool (covZ l (a, b))) ∧ Below w.heap.size w w' := by
  have hem := fun W => isEmpty_any a b W
  have hn := fun W (hb : Below w.heap.size w W) => norm_any p cap l W (hS.into hb) hlen
  have hml := nrm_len l
  have hasc := nrmZ_asc l
  obtain ⟨W0, hW0, b0, z0, ka⟩ := boxS w a b
  have c0 := ka.cell (i := 0) rfl
  have c1 := ka.cell (i := 1) rfl
  have hwl : w.heap.size < W0.heap.size := by omega
  unfold covZ
  generalize nrmZ l = M at hn hml hasc ⊢
  by_cases hE : b ≤ a
  · rw [decide_eq_true (show (a, b).2 ≤ (a, b).1 from hE), Bool.true_or]
    rw [decide_eq_true hE] at hem
    clear hn hS
    go_enter Tryz.func49, Tryz.ntmps49
    go_wp2_with fail
    go_step3
    clear hW0
    go_wp2_with fail
    refine (hem _).mono ?_
    rintro e w1 ⟨rfl, b1⟩
    go_wp2_with fail
    rw [Exit.noGoto_ret]
    go_ret
    exact ⟨rfl, bthen b0 b1⟩
  · rw [decide_eq_false (show ¬ (a, b).2 ≤ (a, b).1 from hE), Bool.false_or]
    rw [decide_eq_false hE] at hem
    obtain ⟨V, hV⟩ : ∃ V, M.any (covB (a, b)) = V := ⟨_, rfl⟩
    rw [hV]
    have HV := Lib.hid hV
    have HA := Lib.hid hasc
    clear hV hasc hS
    go_enter Tryz.func49, Tryz.ntmps49
    go_wp2_with fail
    go_step3
    clear hW0
    go_wp2_with fail
    refine (hem _).mono ?_
    rintro e w1 ⟨rfl, b1⟩
    have b01 := bthen b0 b1
    go_wp2_with fail
    go_step3
    go_wp2_with fail
    refine (hn _ b01).mono ?_
    rintro e w2 ⟨p2, c2, rfl, hS2, b2⟩
    have b02 := bthen b01 b2
    have kb := (ka.below b1 hwl).below b2 (by have := b1.size; omega)
    obtain ⟨B, hB⟩ : ∃ B, w.heap.size = B := ⟨_, rfl⟩
    rw [hB] at kb hwl
    obtain ⟨m, hm⟩ : ∃ m, M.length = m := ⟨_, rfl⟩
    rw [hm]
    have HM := Lib.hid hm
    have hm5 : m ≤ 100000 := by omega
    have hBl := kb.lt
    clear hm hml hn hem ka c0 c1 b0 b1 b01 b2 hlen
    rw [hB]
    go_wp2_with fail
    go_loopw [12] (fun s wr => ∃ k : Nat, s = .int .i64 k ∧ k ≤ m ∧ Below w2.heap.size w2 wr ∧ ∀ i, i < k → covB (a, b) (M.getD i (0, 0)) = false) (fun s _ => m - (intOf s).toNat)
    case atStart => exact ⟨0, rfl, Nat.zero_le _, Below.refl _ _, fun i hi => by omega⟩
    case round =>
      obtain ⟨k, rfl, hk, hb, hall⟩ := hrel
      have HH := Lib.hid hall; clear hall
      have hmm := HM.out
      by_cases hlt : k < m
      · obtain ⟨b', o, rfl, hbl, q0, q1⟩ := (hS2.below hb) k (by omega)
        have hsz := hb.size
        obtain ⟨X, hX⟩ : ∃ X, M.getD k (0, 0) = X := ⟨_, rfl⟩
        rw [hX] at q0 q1
        have HX := Lib.hid hX
        obtain ⟨x, y⟩ := X
        dsimp only at q0 q1
        have hidx : (k : Int) * 2 = ((k * 2 : Nat) : Int) := by omega
        have HS2 := Lib.hid hS2
        clear hX hmm hS2
        have kr := kb.below hb hBl
        have hBw : B ≠ wr.heap.size := by have := kr.lt; omega
        have c0 := fun ob => (kr.alloc ob).cell (i := 0) rfl
        have c1 := fun ob => (kr.alloc ob).cell (i := 1) rfl
        by_cases h1 : a < x
        · have hno : V = false := by
            rw [← HV.out]
            refine any_no fun i hi => ?_
            rcases Nat.lt_or_ge i k with hik | hik
            · exact HH.out i hik
            · have hxi : x ≤ (M.getD i (0, 0)).1 := by
                rcases Nat.eq_or_lt_of_le hik with rfl | hik
                · rw [HX.out]; exact Int.le_refl _
                · have e1 := List.pairwise_iff_getElem.1 HA.out.2 k i (by omega) hi hik
                  have e2 := HA.out.1 _ (List.getElem_mem (show k < M.length by omega))
                  rw [getD_at hi]
                  have e3 := HX.out
                  rw [getD_at (by omega)] at e3
                  rw [e3] at e1 e2
                  simp only at e1 e2
                  omega
              unfold covB
              rw [decide_eq_false (by simp only; omega), Bool.false_and]
          subst hno
          have d1 : decide (a < x) = true := by simpa using h1
          go_wp2_with fail
          rw [Exit.noGoto_ret]
          go_ret
          exact ⟨rfl, b02.trans ((hb.trans (((Below.refl _ wr).alloc (Nat.le_refl _) _).mono hsz)).mono (by have := b02.size; omega))⟩
        · have d1 : decide (a < x) = false := by simpa using h1
          by_cases h2 : b ≤ y
          · have hyes : V = true := by
              rw [← HV.out]
              refine any_yes (i := k) (by have := HM.out; omega) ?_
              rw [HX.out]
              unfold covB
              rw [decide_eq_true (by simp only; omega), decide_eq_true h2]; rfl
            subst hyes
            have d2 : decide (b ≤ y) = true := by simpa using h2
            go_wp2_with fail
            go_ret
            exact ⟨rfl, b02.trans ((hb.trans (((Below.refl _ wr).alloc (Nat.le_refl _) _).mono hsz)).mono (by have := b02.size; omega))⟩
          · have d2 : decide (b ≤ y) = false := by simpa using h2
            go_wp2_with fail
            refine ⟨⟨k + 1, by go_num, by omega, hb.trans (((Below.refl _ wr).alloc (Nat.le_refl _) _).mono hsz), fun i hi => ?_⟩, by simp [intOf] <;> omega⟩
            rcases (by omega : i < k ∨ i = k) with h | rfl
            · exact HH.out i h
            · rw [HX.out]
              unfold covB
              rw [decide_eq_false h2, Bool.and_false]
      · obtain rfl : k = m := by omega
        have hno : V = false := by
          rw [← HV.out]
          exact any_no fun i hi => HH.out i (by omega)
        subst hno
        go_wp2_with fail
        rw [Exit.noGoto_ret]
        go_ret
        exact ⟨rfl, b02.trans (hb.mono (by have := b02.size; omega))⟩
end Go.Proofs.YtfannkpnmaeljaaGreatDoor

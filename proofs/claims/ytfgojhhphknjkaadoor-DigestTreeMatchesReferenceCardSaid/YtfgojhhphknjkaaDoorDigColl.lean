/- collide. -/
import Derived.Test.YtfgojhhphknjkaaDoorDigWay
namespace Go.Proofs.YtfgojhhphknjkaaDoor
open Go.RowKit

def collZ : List ByteArray → List ByteArray → Bool
  | a :: l, b :: m => (!strEq a b && strEq (sumZ a) (sumZ b)) || collZ l m
  | _, _ => false

theorem collZ_end (A B : List ByteArray) (k : Nat) (h : A.length ≤ k ∨ B.length ≤ k) : collZ (A.drop k) (B.drop k) = false := by
  rcases h with h | h
  · rw [List.drop_of_length_le h]; cases B.drop k <;> rfl
  · rw [List.drop_of_length_le h]; cases A.drop k <;> rfl
theorem collZ_step {A B : List ByteArray} {k : Nat} (h1 : k < A.length) (h2 : k < B.length) : collZ (A.drop k) (B.drop k) = ((!strEq A[k] B[k] && strEq (sumZ A[k]) (sumZ B[k])) || collZ (A.drop (k + 1)) (B.drop (k + 1))) := by
  rw [List.drop_eq_getElem_cons h1, List.drop_eq_getElem_cons h2, collZ]

theorem held2 {w w8 w9 : World} {a c : Addr} {u v : Value} (ha : a.block < w.heap.size) (hc : c.block < w.heap.size) (h : w8.cell? a = some u ∧ w8.cell? c = some v ∧ Below w.heap.size w w8) (b : Below w8.heap.size w8 w9) : w9.cell? a = some u ∧ w9.cell? c = some v ∧ Below w.heap.size w w9 :=
  ⟨(b.cell (p := a) (by have := h.2.2.size; omega)).trans h.1, (b.cell (p := c) (by have := h.2.2.size; omega)).trans h.2.1, bthen h.2.2 b⟩

set_option maxRecDepth 100000 in
set_option maxHeartbeats 2000000 in
theorem collide_any (A B : List ByteArray) (p q : Option Addr) (cp cq : Nat) (w : World) (hA : A.length ≤ 1000) (hB' : B.length ≤ 1000) (hp : StrsAt w p A) (hq : StrsAt w q B) (hsA : Small A) (hsB : Small B) (hK : Keyed w) :
    Calls Tryd.prog 23 #[.slice p A.length cp, .slice q B.length cq] w fun e w' => e = .returned (.bool (collZ A B)) ∧ Below w.heap.size w w' := by
  have HP := Lib.hid hp
  have HQ := Lib.hid hq
  have HA := Lib.hid hsA
  have HB := Lib.hid hsB
  have HK := Lib.hid hK
  clear hp hq hsA hsB hK
  go_enter Tryd.func23, Tryd.ntmps23
  go_wp2
  go_loopw [5] (fun i wr => ∃ k : Nat, i = .int .i64 k ∧ k ≤ A.length ∧ k ≤ B.length ∧ Hid (collZ A B = collZ (A.drop k) (B.drop k)) ∧ Below w.heap.size w wr) (fun i _ => A.length - (intOf i).toNat)
  case atStart => exact ⟨0, rfl, by omega, by omega, Lib.hid rfl, Below.refl _ _⟩
  case round =>
    obtain ⟨k, rfl, hkA, hkB, hc, hB⟩ := hrel
    by_cases hk : k < A.length ∧ k < B.length
    · obtain ⟨hk1, hk2⟩ := hk
      obtain ⟨b1, o1, rfl, c1⟩ := HP.out k hk1
      obtain ⟨b2, o2, rfl, c2⟩ := HQ.out k hk2
      have l1 := cell_lt' c1
      have l2 := cell_lt' c2
      replace c1 := (hB.cell (p := ⟨b1, o1 + k, none⟩) l1).trans c1
      replace c2 := (hB.cell (p := ⟨b2, o2 + k, none⟩) l2).trans c2
      have z1 := HA.out.get hk1
      have z2 := HB.out.get hk2
      have hst := Lib.hid (collZ_step hk1 hk2)
      have hKr := HK.out.below hB
      have S1 := fun W (hb : Below w.heap.size w W) => Sum_any A[k] W (by omega) (HK.out.below hb)
      have S2 := fun W (hb : Below w.heap.size w W) => Sum_any B[k] W (by omega) (HK.out.below hb)
      generalize A[k] = x at *
      generalize B[k] = y at *
      have d1 : decide ((k : Int) < (A.length : Int)) = true := by simp; omega
      have d2 : decide ((k : Int) < (B.length : Int)) = true := by simp; omega
      have i1 : (0 : Int) ≤ (k : Int) := by omega
      have i2 : (k : Int) < (A.length : Int) := by omega
      have i3 : (k : Int) < (B.length : Int) := by omega
      cases hxy : strEq x y with
      | true =>
        have e1 : (x.toList == y.toList) = true := hxy
        have e2 : (x.toList != y.toList) = false := by rw [bne, e1]; rfl
        have hn : Hid (collZ A B = collZ (A.drop (k + 1)) (B.drop (k + 1))) := Lib.hid (by rw [hc.out, hst.out, hxy]; rfl)
        clear hst hc S1 S2 hxy
        go_wp2_with fail
        go_quiet (fail)
        go_wp2
        go_roundw
        case rel => exact ⟨k + 1, by go_num, by omega, by omega, hn, below_drewN hB _⟩
        case measure => simp [intOf]; omega
      | false =>
        have e1 : (x.toList == y.toList) = false := hxy
        have e2 : (x.toList != y.toList) = true := by rw [bne, e1]; rfl
        have hst' : Hid (collZ A B = (strEq (sumZ x) (sumZ y) || collZ (A.drop (k + 1)) (B.drop (k + 1)))) := Lib.hid (by rw [hc.out, hst.out, hxy]; rfl)
        clear hst hc hxy
        generalize sumZ x = X at *
        generalize sumZ y = Y at *
        have hbd := hB.drew
        cases hXY : strEq X Y with
        | true =>
          have e3 : (X.toList == Y.toList) = true := hXY
          have hn : Hid (collZ A B = true) := Lib.hid (by rw [hst'.out, hXY]; rfl)
          clear hst' hXY
          go_wp2_with fail
          go_region_held3 (fun w' => w'.cell? ⟨b1, o1 + k, none⟩ = some (.string x) ∧ w'.cell? ⟨b2, o2 + k, none⟩ = some (.string y) ∧ Below w.heap.size w w') (first | assumption | exact ⟨c1, c2, hbd⟩ | exact held2 (a := ⟨b1, o1 + k, none⟩) (c := ⟨b2, o2 + k, none⟩) l1 l2 (by assumption) b7 | fail)
            (first | (go_at_call 25; first | (with_reducible refine Calls.mono (S1 _ (And.right (And.right (by assumption)))) ?_; rintro e w7 ⟨rfl, b7⟩) | (with_reducible refine Calls.mono (S2 _ (And.right (And.right (by assumption)))) ?_; rintro e w7 ⟨rfl, b7⟩) | fail) | fail)
          have hbz := (show w7.cell? ⟨b1, o1 + k, none⟩ = some (.string x) ∧ w7.cell? ⟨b2, o2 + k, none⟩ = some (.string y) ∧ Below w.heap.size w w7 by assumption).2.2
          go_wp2
          go_ret
          exact ⟨by rw [hn.out]; rfl, hbz⟩
        | false =>
          have e3 : (X.toList == Y.toList) = false := hXY
          have hn : Hid (collZ A B = collZ (A.drop (k + 1)) (B.drop (k + 1))) := Lib.hid (by rw [hst'.out, hXY]; rfl)
          clear hst' hXY
          go_wp2_with fail
          go_region_held3 (fun w' => w'.cell? ⟨b1, o1 + k, none⟩ = some (.string x) ∧ w'.cell? ⟨b2, o2 + k, none⟩ = some (.string y) ∧ Below w.heap.size w w') (first | assumption | exact ⟨c1, c2, hbd⟩ | exact held2 (a := ⟨b1, o1 + k, none⟩) (c := ⟨b2, o2 + k, none⟩) l1 l2 (by assumption) b7 | fail)
            (first | (go_at_call 25; first | (with_reducible refine Calls.mono (S1 _ (And.right (And.right (by assumption)))) ?_; rintro e w7 ⟨rfl, b7⟩) | (with_reducible refine Calls.mono (S2 _ (And.right (And.right (by assumption)))) ?_; rintro e w7 ⟨rfl, b7⟩) | fail) | fail)
          have hbz := (show w7.cell? ⟨b1, o1 + k, none⟩ = some (.string x) ∧ w7.cell? ⟨b2, o2 + k, none⟩ = some (.string y) ∧ Below w.heap.size w w7 by assumption).2.2
          go_wp2
          go_roundw
          case rel => exact ⟨k + 1, by go_num, by omega, by omega, hn, hbz⟩
          case measure => simp [intOf]; omega
    · have hend : collZ A B = false := by rw [hc.out]; exact collZ_end A B k (by omega)
      have hd : (decide ((k : Int) < (A.length : Int)) = true ∧ decide ((k : Int) < (B.length : Int)) = false) ∨ decide ((k : Int) < (A.length : Int)) = false := by simp; omega
      rcases hd with ⟨d1, d2⟩ | d1
      · go_wp2
        all_goals (go_ret; exact ⟨by rw [hend]; rfl, hB⟩)
      · go_wp2
        all_goals (go_ret; exact ⟨by rw [hend]; rfl, hB⟩)
end Go.Proofs.YtfgojhhphknjkaaDoor

/- Same. -/
import Derived.Test.YtfgojhhphknjkaaDoorDigExtAcc
import Derived.Deep.QuietTactic
import Derived.BigQuiet
namespace Go.Proofs.YtfgojhhphknjkaaDoor
open Go.RowKit

theorem drop_cons {l : List ByteArray} {k : Nat} (h : k < l.length) : l.drop k = l[k] :: l.drop (k + 1) := List.drop_eq_getElem_cons h

set_option maxRecDepth 100000 in
set_option maxHeartbeats 2000000 in
theorem same_any (A B : List ByteArray) (p q : Option Addr) (cp cq : Nat) (w : World) (hA : A.length ≤ 1000) (hB : B.length ≤ 1000) (hp : StrsAt w p A) (hq : StrsAt w q B) :
    Calls Tryd.prog 16 #[.slice p A.length cp, .slice q B.length cq] w fun e w' => e = .returned (.bool (decide (A = B))) ∧ Below w.heap.size w w' := by
  have HP := Lib.hid hp
  have HQ := Lib.hid hq
  clear hp hq
  by_cases hl : A.length = B.length
  · have d0 : ((A.length : Int) == (B.length : Int)) = true := by rw [beq_iff_eq]; omega
    have d0' : ((A.length : Int) != (B.length : Int)) = false := by rw [bne, d0]; rfl
    have HL := Lib.hid hl
    clear hl
    go_enter Tryd.func16, Tryd.ntmps16
    go_wp2_with fail
    go_loopw [5] (fun i wr => ∃ k : Nat, i = .int .i64 k ∧ k ≤ A.length ∧ Hid (A = B ↔ A.drop k = B.drop k) ∧ Below w.heap.size w wr) (fun i _ => A.length - (intOf i).toNat)
    case atStart => exact ⟨0, rfl, by omega, Lib.hid Iff.rfl, Below.refl _ _⟩
    case round =>
      obtain ⟨k, rfl, hk, hiff, hbr⟩ := hrel
      by_cases hkn : k < A.length
      · have hkB : k < B.length := by have := HL.out; omega
        obtain ⟨b1, o1, rfl, c1⟩ := HP.out k hkn
        obtain ⟨b2, o2, rfl, c2⟩ := HQ.out k hkB
        replace c1 := (hbr.cell (p := ⟨b1, o1 + k, none⟩) (cell_lt' c1)).trans c1
        replace c2 := (hbr.cell (p := ⟨b2, o2 + k, none⟩) (cell_lt' c2)).trans c2
        have HD := Lib.hid (And.intro (drop_cons hkn) (drop_cons hkB))
        have d1 : decide ((k : Int) < (A.length : Int)) = true := decide_eq_true (by omega)
        have i1 : (0 : Int) ≤ (k : Int) := by omega
        have i2 : (k : Int) < (A.length : Int) := by omega
        have i3 : (k : Int) < (B.length : Int) := by omega
        generalize A[k] = x at *
        generalize B[k] = y at *
        cases hxy : strEq x y with
        | true =>
          have hn : Hid (A = B ↔ A.drop (k + 1) = B.drop (k + 1)) := Lib.hid (by
            rw [hiff.out, HD.out.1, HD.out.2, strEq_iff.1 hxy]; simp)
          have e1 : (x.toList == y.toList) = true := hxy
          have e2 : (x.toList != y.toList) = false := by rw [bne, e1]; rfl
          clear hxy hiff HD
          go_wp2_with fail
          go_quiet (fail)
          go_wp2
          go_roundw
          case rel => exact ⟨k + 1, by go_num, by omega, hn, below_drewN hbr _⟩
          case measure => simp [intOf]; omega
        | false =>
          have hne : decide (A = B) = false := decide_eq_false (by
            rw [hiff.out, HD.out.1, HD.out.2]
            intro h
            have := (List.cons.inj h).1
            rw [this, strEq_refl] at hxy
            cases hxy)
          have e1 : (x.toList == y.toList) = false := hxy
          have e2 : (x.toList != y.toList) = true := by rw [bne, e1]; rfl
          have HN := Lib.hid hne
          clear hxy hiff HD hne
          go_wp2_with fail
          go_quiet (fail)
          go_wp2
          go_ret
          exact ⟨by rw [HN.out]; rfl, below_drewN hbr _⟩
      · obtain rfl : k = A.length := by omega
        have heq : decide (A = B) = true := decide_eq_true (by
          rw [hiff.out, List.drop_length, HL.out, List.drop_length])
        have HN := Lib.hid heq
        have d1 : decide ((A.length : Int) < (A.length : Int)) = false := decide_eq_false (by omega)
        clear heq hiff
        go_wp2
        go_ret
        exact ⟨by rw [HN.out]; rfl, hbr⟩
  · have d0 : ((A.length : Int) == (B.length : Int)) = false := by rw [beq_eq_false_iff_ne]; omega
    have d0' : ((A.length : Int) != (B.length : Int)) = true := by rw [bne, d0]; rfl
    have HN : Hid (decide (A = B) = false) := Lib.hid (decide_eq_false (fun h => hl (by rw [h])))
    clear hl
    go_enter Tryd.func16, Tryd.ntmps16
    go_wp2
    go_ret
    exact ⟨by rw [HN.out]; rfl, Below.refl _ _⟩
end Go.Proofs.YtfgojhhphknjkaaDoor

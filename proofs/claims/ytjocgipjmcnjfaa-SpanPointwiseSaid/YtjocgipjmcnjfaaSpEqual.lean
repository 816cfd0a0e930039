/- slices.Equal at spans. -/
import Derived.Test.YtjocgipjmcnjfaaSpValid
import Derived.Laws.StructEq
import Derived.Shelf.SlicesQ.Equal
namespace Go.Proofs.Ytjocgipjmcnjfaa
open Go.RowKit Go.Shelf

theorem eqGuardS : ∀ (op : BinOp) (a b : Operand) (x y : Int × Int) (w : World), Sem.run Try.prog (eqGuard op 30 a b (.agg #[iv x.1, iv x.2]) (.agg #[iv y.1, iv y.2])) w = .ok () w :=
  (GuardAt.agg (P := Try.prog) (T := 30) (fun x : Int × Int => #[iv x.1, iv x.2]) (by kernel_rfl))

theorem eq_span (a b c d : Int) (w : World) : Sem.run Try.prog (binOp .eql 30 (.agg #[iv a, iv b]) (.agg #[iv c, iv d])) w = .ok (.bool (decide ((a, b) = (c, d)))) w := by
  have u3 := Try.underlying3
  have a3 := Try.isAgg3
  have z3 := Try.sizeOf3
  have hS : Try.prog.underlying 30 = some (.struct (Try.prog.fieldsOf 30)) := by kernel_rfl
  have hp : Try.prog.stoodInHeld 30 = false := by kernel_rfl
  rw [run_eql_struct, show (10000 : Nat) = 9999 + 1 from rfl, run_equalIn_agg w 9999 30 _ _ hS hp]
  simp only [Program.fieldsOf, Try.underlying30]
  go_simp
  by_cases h1 : a = c <;> by_cases h2 : b = d <;> simp [h1, h2]
theorem ne_span (a b c d : Int) (w : World) : Sem.run Try.prog (binOp .neq 30 (.agg #[iv a, iv b]) (.agg #[iv c, iv d])) w = .ok (.bool (!(decide ((a, b) = (c, d))))) w := by
  have u3 := Try.underlying3
  have a3 := Try.isAgg3
  have z3 := Try.sizeOf3
  have hS : Try.prog.underlying 30 = some (.struct (Try.prog.fieldsOf 30)) := by kernel_rfl
  have hp : Try.prog.stoodInHeld 30 = false := by kernel_rfl
  rw [run_neq_struct, show (10000 : Nat) = 9999 + 1 from rfl, run_equalIn_agg w 9999 30 _ _ hS hp]
  simp only [Program.fieldsOf, Try.underlying30]
  go_simp
  by_cases h1 : a = c <;> by_cases h2 : b = d <;> simp [h1, h2]

/-- Spans lie alike: what a load of one reads. -/
theorem load_sp {P : Program} {w : World} {b o : Nat} {x y : Int} (h0 : w.cell? ⟨b, o, none⟩ = some (iv x)) (h1 : w.cell? ⟨b, o + 1, none⟩ = some (iv y)) : (loadCellsFrom ⟨b, o, none⟩ 0 2 #[]).run P w = .ok #[iv x, iv y] w := by
  have := run_loadCells_list (P := P) w ⟨b, o, none⟩ [iv x, iv y] (fun j v hv => by
    have hadd : (⟨b, o, none⟩ : Addr).add j = ⟨b, o + j, none⟩ := by unfold Addr.add; split <;> simp_all
    rw [hadd]
    match j, hv with
    | 0, hv => simpa using (hv ▸ h0 : _)
    | 1, hv => simpa using (hv ▸ h1 : _)
    | j + 2, hv => simp at hv)
  simpa [loadCells] using this

theorem list_eq {a b : List (Int × Int)} (hl : a.length = b.length) (h : ∀ i, i < a.length → a.getD i (0, 0) = b.getD i (0, 0)) : a = b := by
  refine List.ext_getElem hl fun i h1 h2 => ?_
  have := h i h1
  rwa [getD_at h1, getD_at h2] at this

theorem below_drewN {B : Nat} {a w : World} (h : Below B a w) (q : Nat) : Below B a (w.drewN q) := ⟨h.os, h.tape, h.output, h.size, h.block⟩

set_option maxRecDepth 100000 in
set_option maxHeartbeats 1000000 in
theorem equal_any (p q : Option Addr) (cp cq : Nat) (a b : List (Int × Int)) (w : World) (hA : ShAt w w.heap.size p a) (hB : ShAt w w.heap.size q b) (ha : a.length ≤ 100000) (hb : b.length ≤ 100000) :
    Calls Try.prog 44 #[.slice p a.length cp, .slice q b.length cq] w fun e w' => e = .returned (.bool (decide (a = b))) ∧ Below w.heap.size w w' := by
  have hne := ne_span
  have hgd := eqGuardS
  by_cases hl : a.length = b.length
  · obtain ⟨V, hV⟩ : ∃ V, decide (a = b) = V := ⟨_, rfl⟩
    rw [hV]
    have HV := Lib.hid hV; clear hV
    rw [← hl]
    obtain ⟨n, hn⟩ : ∃ n, a.length = n := ⟨_, rfl⟩
    rw [hn]
    have HL := Lib.hid hl; clear hl
    have HN := Lib.hid hn
    have HN2 := Lib.hid (HL.out.symm.trans hn)
    have hn5 : n ≤ 100000 := by omega
    clear ha hb hn
    go_enter Try.func44, Try.ntmps44
    go_wp2_with fail
    go_loopw [13] (fun s wr => ∃ k : Nat, s = .int .i64 k ∧ k ≤ n ∧ Below w.heap.size w wr ∧ ∀ i, i < k → a.getD i (0, 0) = b.getD i (0, 0)) (fun s _ => n - (intOf s).toNat)
    case atStart => exact ⟨0, rfl, Nat.zero_le _, Below.refl _ _, fun i hi => by omega⟩
    case round =>
      obtain ⟨k, rfl, hk, hbl, hall⟩ := hrel
      have HH := Lib.hid hall; clear hall
      by_cases hlt : k < n
      · obtain ⟨b1, o1, rfl, l1, q0, q1⟩ := (hA.below hbl) k (by have := HN.out; omega)
        obtain ⟨b2, o2, rfl, l2, r0, r1⟩ := (hB.below hbl) k (by have := HN2.out; omega)
        obtain ⟨X, hX⟩ : ∃ X, a.getD k (0, 0) = X := ⟨_, rfl⟩
        obtain ⟨Y, hY⟩ : ∃ X, b.getD k (0, 0) = X := ⟨_, rfl⟩
        rw [hX] at q0 q1
        rw [hY] at r0 r1
        have HX := Lib.hid hX
        have HY := Lib.hid hY
        obtain ⟨x1, x2⟩ := X
        obtain ⟨y1, y2⟩ := Y
        dsimp only at q0 q1 r0 r1
        clear hX hY hA hB
        have hidx : (k : Int) * 2 = ((k * 2 : Nat) : Int) := by omega
        have hgd1 := fun W => hgd .neq (.tmp 19) (.tmp 23) (x1, x2) (y1, y2) W
        have hne1 := fun W => hne x1 x2 y1 y2 W
        by_cases he : (x1, x2) = (y1, y2)
        · clear hne hgd hne1
          have HE := Lib.hid he
          simp only [Prod.mk.injEq] at he
          obtain ⟨rfl, rfl⟩ := he
          go_wp2_with fail
          go_quiet (fail)
          have hbq := hbl.trans ((below_drewN (Below.refl wr.heap.size wr) nq).mono hbl.size)
          generalize wr.drewN nq = W2 at hbq ⊢
          go_wp2_with fail
          refine ⟨⟨k + 1, by go_num, by omega, hbq, fun i hi => ?_⟩, by simp [intOf] <;> omega⟩
          rcases (by omega : i < k ∨ i = k) with h | rfl
          · exact HH.out i h
          · rw [HX.out, HY.out]
        · have hd : (!decide (x1 = y1) || !decide (x2 = y2)) = true := by
            by_cases e1 : x1 = y1
            · by_cases e2 : x2 = y2
              · exact absurd (by rw [e1, e2]) he
              · simp [e2]
            · simp [e1]
          have hno : V = false := by
            rw [← HV.out]
            exact decide_eq_false (fun h => he (by rw [← HX.out, ← HY.out, h]))
          subst hno
          have HD := Lib.hid hd
          clear hne hgd he hd
          go_wp2_with fail
          go_quiet (fail)
          have hbq := hbl.trans ((below_drewN (Below.refl wr.heap.size wr) nq).mono hbl.size)
          generalize wr.drewN nq = W2 at hbq ⊢
          rw [HD.out]
          go_wp2_with fail
          go_ret
          exact ⟨rfl, hbq⟩
      · obtain rfl : k = n := by omega
        go_wp2_with fail
        go_ret
        exact ⟨by rw [← HV.out, decide_eq_true (list_eq HL.out (fun i hi => HH.out i (by rw [HN.out] at hi; exact hi)))]; rfl, hbl⟩
  · have hl' : (a.length == b.length) = false := by simpa using hl
    have hl2 : ((a.length : Int) == (b.length : Int)) = false := by simp; omega
    rw [decide_eq_false (fun h => hl (by rw [h]))]
    clear hA hB
    go_enter Try.func44, Try.ntmps44
    go_wp2_with fail
    go_ret
    exact ⟨rfl, Below.refl _ _⟩
end Go.Proofs.Ytjocgipjmcnjfaa

/- join: a span is added to a list of the call's own. -/
import Derived.Test.YtjocgipjmcnjfaaSpApp
import Derived.Test.YtjocgipjmcnjfaaSpEqual
namespace Go.Proofs.Ytjocgipjmcnjfaa
open Go.RowKit

def Joined (w : World) (N : Nat) (v : Value) (l : List (Int × Int)) (e : Ending) (w' : World) : Prop :=
  ∃ v', e = .returned v' ∧ w'.ownsRow N 30 2 v' l.length (spv l) ∧ Turns (fun k => v.ownBlock = some k) w w' ∧ ∀ j, v'.ownBlock = some j → v.ownBlock = some j ∨ w.heap.size ≤ j

theorem cells_new (w : World) (xs : List Value) (t : TypeId) : ∀ j u, xs[j]? = some u → (w.alloc (.cells xs.toArray t)).cell? ((⟨w.heap.size, 0, none⟩ : Addr).add j) = some u := by
  intro j u hj
  have hadd : (⟨w.heap.size, 0, none⟩ : Addr).add j = ⟨w.heap.size, j, none⟩ := by unfold Addr.add; split <;> simp_all
  rw [hadd]
  exact (Arr.new w t xs).cell hj
theorem own_below {w w1 : World} {N : Nat} {e : TypeId} {size : Nat} {v : Value} {n : Nat} {xs : List Value} (h : w.ownsRow N e size v n xs) (b : Below w.heap.size w w1) : w1.ownsRow N e size v n xs :=
  (Turns.of_below (M := fun _ => False) b).row h (fun _ _ h => h)
theorem turns_grown {w w1 w2 : World} {r : Option Nat} (b : Below w.heap.size w w1) (h : w1.grownBy w2 r) : Turns (fun k => r = some k) w w2 := by
  refine ⟨h.os.trans b.os, h.tape.trans b.tape, h.output.trans b.output, Nat.le_trans b.size h.size, fun k hk hn => ?_⟩
  rw [h.block k (by have := b.size; omega) (fun e => hn e.symm), b.block k hk]

set_option maxRecDepth 100000 in
set_option maxHeartbeats 4000000 in
theorem join_any (a b : Int) (N : Nat) (v : Value) (l : List (Int × Int)) (w : World) (h2 : w.ownsRow N 30 2 v l.length (spv l)) (hN : N ≤ w.heap.size) (hl : l.length ≤ 100000) :
    Calls Try.prog 42 #[v, .agg #[iv a, iv b]] w (Joined w N v (joinZ l (a, b))) := by
  obtain ⟨i0, hi, hz0, hz1, hz2⟩ := info_parts infoS
  obtain ⟨W1, hW1, b1, z0, ka⟩ := boxS w a b
  have z1 : w.heap.size < W1.heap.size := by omega
  clear z0
  have h2' := own_below h2 b1
  rcases List.eq_nil_or_concat l with rfl | ⟨l0, t, rfl⟩
  · rw [joinZ_nil]
    have hvl : ∃ p c, v = .slice p 0 c := by
      rcases h2.2 with ⟨rfl, _⟩ | ⟨g, cap, cur, rfl, _⟩ <;> exact ⟨_, _, rfl⟩
    obtain ⟨p, c, rfl⟩ := hvl
    have c0 := ka.cell (i := 0) rfl
    have c1 := ka.cell (i := 1) rfl
    go_enter Try.func42, Try.ntmps42
    go_wp2_with fail
    try rw [hW1]
    clear hW1
    go_quiet (fail)
    obtain ⟨W2, hW2, b2, z2⟩ : ∃ W2, W1.drewN nq = W2 ∧ Below W1.heap.size W1 W2 ∧ W1.heap.size ≤ W2.heap.size := ⟨_, rfl, below_drewN (Below.refl _ _) nq, Nat.le_refl _⟩
    rw [hW2]; clear hW2
    have hk := ka.below b2 ka.lt
    have h3 := own_below h2' b2
    have b3 := bthen b1 b2
    have c0 := hk.cell (i := 0) rfl
    have c1 := hk.cell (i := 1) rfl
    clear h2 h2'
    go_wp2_with (at_builtin; refine wpList_append_mine _ rfl _ _ 22 rfl N 30 i0 (.agg #[.int .i64 0, .int .i64 0]) 2 16 Try.underlying22 hi hz0 hz1 hz2 rfl (by decide) _ _ _ rfl (h3.alloc _) ⟨W2.heap.size, 0, none⟩ 1 1 [.int .i64 a, .int .i64 b] rfl rfl (cells_new _ _ _) (by simp [Value.oneCell']) (by unfold maxLen; simp) (by simp) (by simp; omega) ?_; intro v' w2 hown' hgrow _ hnew)
    go_ret
    refine ⟨_, rfl, hown', turns_grown (b3.trans ((Below.refl _ W2).alloc (by omega) _)) hgrow, fun j hj => ?_⟩
    rcases hnew j hj with h | h
    · exact .inl h
    · simp at h; exact .inr (by omega)
  · obtain ⟨xf, xt⟩ := t
    simp only [List.concat_eq_append] at *
    rw [joinZ_last]
    obtain ⟨k, hk⟩ : ∃ k, l0.length = k := ⟨_, rfl⟩
    have hk2 : (l0 ++ [(xf, xt)]).length = k + 1 := by simp [hk]
    rw [hk2] at h2 h2' hl
    obtain ⟨g, cap, rfl⟩ := ownsRow_succ h2
    have hsp := spv_get (l := l0 ++ [(xf, xt)]) (i := k) (by omega)
    have hgx : (l0 ++ [(xf, xt)]).getD k (0, 0) = (xf, xt) := by subst hk; simp
    rw [hgx] at hsp
    have hcl := h2'.cellAt (k * 2 + 1) (by omega)
    rw [hsp.2] at hcl
    have hfr := h2'.frozenAt (k * 2 + 1)
    dsimp only at hcl
    have e1 : ((k + 1 : Nat) : Int) - 1 = (k : Int) := by omega
    have w1' : IntKind.i64.wrap (((k + 1 : Nat) : Int) - 1) = (k : Int) := by rw [e1]; exact w64 (by omega) (by omega)
    have i0' : (0 : Int) ≤ (k : Int) := by omega
    have hidx : (k : Int) * 2 = ((k * 2 : Nat) : Int) := by omega
    have c0 := ka.cell (i := 0) rfl
    have c1 := ka.cell (i := 1) rfl
    have hgl := (h2.lt g rfl).2
    by_cases htb : a ≤ xt
    · rw [if_pos htb]
      dsimp only
      have d1 : decide (a ≤ xt) = true := by simpa using htb
      go_enter Try.func42, Try.ntmps42
      go_wp2_with fail
      try rw [hW1]
      clear hW1
      go_quiet (fail)
      obtain ⟨W2, hW2, b2, z2⟩ : ∃ W2, W1.drewN nq = W2 ∧ Below W1.heap.size W1 W2 ∧ W1.heap.size ≤ W2.heap.size := ⟨_, rfl, below_drewN (Below.refl _ _) nq, Nat.le_refl _⟩
      rw [hW2]; clear hW2
      have kb := ka.below b2 ka.lt
      have h3 := own_below h2' b2
      have b3 := bthen b1 b2
      have c0 := kb.cell (i := 0) rfl
      have c1 := kb.cell (i := 1) rfl
      have hcl := h3.cellAt (k * 2 + 1) (by omega)
      rw [hsp.2] at hcl
      have hfr := h3.frozenAt (k * 2 + 1)
      have hP : Joined w N (.slice (some ⟨g, 0, none⟩) (k + 1) cap) (l0 ++ [(xf, max xt b)]) (.returned (.slice (some ⟨g, 0, none⟩) (k + 1) cap)) (W2.setCell ⟨g, k * 2 + 1, none⟩ (.int .i64 (max xt b))).drew := by
        have hlen : (l0 ++ [(xf, max xt b)]).length = k + 1 := by simp [hk]
        have hsp2 : (spv (l0 ++ [(xf, xt)])).set (k * 2 + 1) (.int .i64 (max xt b)) = spv (l0 ++ [(xf, max xt b)]) := by
          rw [spv_append, spv_append, List.set_append, if_neg (by rw [spv_len, hk]; omega), spv_len, hk, show k * 2 + 1 - k * 2 = 1 by omega]
          rfl
        have ht : Turns (fun k_1 => (Value.slice (some ⟨g, 0, none⟩) (k + 1) cap).ownBlock = some k_1) w (W2.setCell ⟨g, k * 2 + 1, none⟩ (.int .i64 (max xt b))) := (Turns.of_below b3).of_setCell (M := fun k_1 => (Value.slice (some ⟨g, 0, none⟩) (k + 1) cap).ownBlock = some k_1) (p := ⟨g, k * 2 + 1, none⟩) (.inl rfl) _
        refine ⟨_, rfl, ?_, ⟨ht.os, ht.tape, ht.output, ht.size, ht.block⟩, fun j hj => .inl hj⟩
        rw [hlen, ← hsp2]
        exact (h3.stored (k * 2 + 1) (.int .i64 (max xt b))).1.drew
      have HP := Lib.hid hP
      clear hP h2 h2' h3 hi hz0 hz1 hz2 hsp hgx hk2 hk ka kb
      go_wp2_with fail
      go_region
      go_wp2_with fail
      go_ret
      exact HP.out
    · rw [if_neg htb]
      have d1 : decide (a ≤ xt) = false := by simpa using htb
      go_enter Try.func42, Try.ntmps42
      go_wp2_with fail
      try rw [hW1]
      clear hW1
      go_quiet (fail)
      obtain ⟨W2, hW2, b2, z2⟩ : ∃ W2, W1.drewN nq = W2 ∧ Below W1.heap.size W1 W2 ∧ W1.heap.size ≤ W2.heap.size := ⟨_, rfl, below_drewN (Below.refl _ _) nq, Nat.le_refl _⟩
      rw [hW2]; clear hW2
      have kb := ka.below b2 ka.lt
      have h3 := own_below h2' b2
      have b3 := bthen b1 b2
      have c0 := kb.cell (i := 0) rfl
      have c1 := kb.cell (i := 1) rfl
      have h3' : W2.ownsRow N 30 2 (.slice (some ⟨g, 0, none⟩) (k + 1) cap) (l0 ++ [(xf, xt)]).length (spv (l0 ++ [(xf, xt)])) := by rw [hk2]; exact h3
      have hk3 := Lib.hid hk2; clear hk2
      have hk := Lib.hid hk; clear hk
      clear h2 h2' hcl hfr hsp hgx
      go_wp2_with (at_builtin; refine wpList_append_mine _ rfl _ _ 22 rfl N 30 i0 (.agg #[.int .i64 0, .int .i64 0]) 2 16 Try.underlying22 hi hz0 hz1 hz2 rfl (by decide) _ _ _ rfl (h3.alloc _) ⟨W2.heap.size, 0, none⟩ 1 1 [.int .i64 a, .int .i64 b] rfl rfl (cells_new _ _ _) (by simp [Value.oneCell']) (by unfold maxLen; omega) (by omega) (by simp; omega) ?_; intro v' w2 hown' hgrow _ hnew)
      go_ret
      refine ⟨_, rfl, ?_, turns_grown (b3.trans ((Below.refl _ W2).alloc (by omega) _)) hgrow, fun j hj => ?_⟩
      · have hlen : (l0 ++ [(xf, xt)] ++ [(a, b)]).length = k + 1 + 1 := by rw [List.length_append, hk3.out]; rfl
        rw [hlen, spv_append]
        exact hown'
      rcases hnew j hj with h | h
      · exact .inl h
      · simp at h; exact .inr (by omega)
end Go.Proofs.Ytjocgipjmcnjfaa

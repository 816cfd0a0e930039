/- A span is added to those found. -/
import Derived.Test.YtejohdmbnnlhjaaCalWithin
namespace Go.Proofs.Ytejohdmbnnlhjaa
open Go.RowKit

def spv (l : List (Int × Int)) : List Value := l.flatMap fun x => [iv x.1, iv x.2]
theorem spv_len (l : List (Int × Int)) : (spv l).length = l.length * 2 := by
  induction l with
  | nil => rfl
  | cons x r ih => simp [spv] at ih ⊢; omega
theorem spv_append (l m : List (Int × Int)) : spv (l ++ m) = spv l ++ spv m := by simp [spv]
theorem spv_get {l : List (Int × Int)} {i : Nat} (h : i < l.length) : (spv l)[i * 2]? = some (iv (l.getD i (0, 0)).1) ∧ (spv l)[i * 2 + 1]? = some (iv (l.getD i (0, 0)).2) := by
  induction l generalizing i with
  | nil => simp at h
  | cons x r ih =>
    cases i with
    | zero => simp [spv]
    | succ i =>
      have := ih (i := i) (by simpa using h)
      simp only [spv, List.flatMap_cons] at this ⊢
      rw [show (i + 1) * 2 = i * 2 + 2 by omega]
      simpa using this

theorem infoS : (Try.prog.info? 47).map (fun i => (i.zero, i.size, i.bytes)) = some (some (.agg #[.int .i64 0, .int .i64 0]), 2, 16) := by kernel_rfl

/-- The spans found: the slice lies in the box B. -/
def SpAt (W : World) (B N : Nat) (M : Nat → Prop) (l : List (Int × Int)) : Prop :=
  ∃ v, Arr W B 48 [v] ∧ W.ownsRow N 47 2 v l.length (spv l) ∧ (∀ j, v.ownBlock = some j → M j) ∧ M B ∧ ∀ j, M j → B ≤ j

theorem SpAt.turn {A W : World} {B N n : Nat} {M : Nat → Prop} {l : List (Int × Int)} (h : SpAt A B N M l) (ht : Turns (fun k => n ≤ k ∧ ¬ M k) A W) : SpAt W B N M l := by
  obtain ⟨v, h1, h2, h3, h4, h5⟩ := h
  exact ⟨v, ht.arr h1 (fun h => h.2 h4), ht.row h2 (fun j hj h => h.2 (h3 j hj)), h3, h4, h5⟩

def Added (w : World) (B N : Nat) (M : Nat → Prop) (l : List (Int × Int)) (e : Ending) (w' : World) : Prop :=
  (∃ v, e = .returned v) ∧ ∃ M', Grown M M' w w' ∧ SpAt w' B N M' l

theorem cells_new (w : World) (xs : List Value) (t : TypeId) : ∀ j u, xs[j]? = some u → (w.alloc (.cells xs.toArray t)).cell? ((⟨w.heap.size, 0, none⟩ : Addr).add j) = some u := by
  intro j u hj
  have hadd : (⟨w.heap.size, 0, none⟩ : Addr).add j = ⟨w.heap.size, j, none⟩ := by unfold Addr.add; split <;> simp_all
  rw [hadd]
  exact (Arr.new w t xs).cell hj

theorem added_app {w w1 : World} {B N : Nat} {M : Nat → Prop} {l : List (Int × Int)} {b e : Int} {v : Value} {g cap : Nat} {o : Obj} {u : Value} (h1 : Arr w B 48 [v]) (h2 : w.ownsRow N 47 2 v l.length (spv l)) (h3 : ∀ j, v.ownBlock = some j → M j) (h4 : M B) (h5 : ∀ j, M j → B ≤ j)
    (hMl : ∀ j, M j → j < w.heap.size) (hnr : some B ≠ v.ownBlock) (hgrow : (w.alloc o).grownBy w1 v.ownBlock) (hu : u = .slice (some ⟨g, 0, none⟩) (l.length + 1) cap) (hown : w1.ownsRow N 47 2 u (l.length + 1) (spv l ++ [iv b, iv e])) (hnew : ∀ j, u.ownBlock = some j → v.ownBlock = some j ∨ (w.alloc o).heap.size ≤ j)
    (rv : Value) : Added w B N M (l ++ [(b, e)]) (.returned rv) (w1.setCell ⟨B, 0, none⟩ u) := by
  have hv1 := ((show Boxed w B 48 v from h1).alloc o).kept hgrow hnr
  have hBl := hMl B h4
  refine ⟨⟨_, rfl⟩, _, grown_mine h4 hMl h3 hgrow hown hnew, u, hv1.set u, ?_, fun j hj => .inr hj, .inl h4, fun j hj => ?_⟩
  · rw [List.length_append]
    have := ownsRow_setCell_other hown (a := ⟨B, 0, none⟩) (fun h => hv1.not_row (by decide) hown h.symm) u
    simpa [spv] using this
  · rcases hj with hj | hj
    · exact h5 j hj
    · rcases hnew j hj with h | h
      · exact h5 j (h3 j h)
      · simp at h; omega

set_option maxRecDepth 100000 in
set_option maxHeartbeats 4000000 in
theorem add_any (b e : Int) (B N : Nat) (M : Nat → Prop) (l : List (Int × Int)) (w : World) (hS : SpAt w B N M l) (hMl : ∀ j, M j → j < w.heap.size) (hN : N ≤ w.heap.size) (hl : l.length ≤ 100000) :
    Calls Try.prog 36 #[.int .i64 b, .int .i64 e, .pointer (some ⟨B, 0, none⟩)] w (Added w B N M (addZ l b e)) := by
  obtain ⟨v, h1, h2, h3, h4, h5⟩ := hS
  have c0 := h1.cell (i := 0) rfl
  obtain ⟨i0, hi, hz0, hz1, hz2⟩ := info_parts infoS
  have hbx : Boxed w B 48 v := h1
  have hnr := hbx.not_row (by decide) h2
  have f0 := h1.frozen 0
  by_cases hbe : e ≤ b
  · rw [addZ_no hbe]
    have hvl : ∃ p n c, v = .slice p n c := by
      rcases h2.2 with ⟨rfl, _⟩ | ⟨g, cap, cur, rfl, _⟩ <;> exact ⟨_, _, _, rfl⟩
    obtain ⟨p, n, c, rfl⟩ := hvl
    have hP : Added w B N M l (.returned (.tuple #[])) w := ⟨⟨_, rfl⟩, M, ⟨fun k hk => hk, fun k hk => .inl hk, hMl, Turns.refl _ _⟩, _, h1, h2, h3, h4, h5⟩
    clear h2 h3 hnr hbx
    go_enter Try.func36, Try.ntmps36
    go_wp2
    go_end0
    exact hP
  · rcases List.eq_nil_or_concat l with rfl | ⟨l0, x, rfl⟩
    · rw [addZ_nil hbe]
      have hvl : ∃ p c, v = .slice p 0 c := by
        rcases h2.2 with ⟨rfl, _⟩ | ⟨g, cap, cur, rfl, _⟩ <;> exact ⟨_, _, rfl⟩
      obtain ⟨p, c, rfl⟩ := hvl
      have hlt : b < e := by omega
      go_enter Try.func36, Try.ntmps36
      go_wp2_with (at_builtin; refine wpList_append_mine _ rfl _ _ 48 rfl N 47 i0 (.agg #[.int .i64 0, .int .i64 0]) 2 16 Try.underlying48 hi hz0 hz1 hz2 rfl (by decide) _ _ _ rfl (h2.alloc _) ⟨w.heap.size, 0, none⟩ 1 1 [.int .i64 b, .int .i64 e] rfl rfl (cells_new _ _ _) (by simp [Value.oneCell']) (by unfold maxLen; simp) (by simp) (by simp; omega) ?_; intro v' w2 hown' hgrow _ hnew; obtain ⟨g', cap', hv'⟩ := ownsRow_succ hown'; subst hv'; have hv1 := (hbx.alloc _).kept hgrow hnr; have hc1 := hv1.cell; have hf1 := hv1.frozen)
      have hP := added_app (b := b) (e := e) h1 h2 h3 h4 h5 hMl hnr hgrow rfl hown' hnew (.tuple #[])
      go_end0
      exact hP
    · obtain ⟨xf, xt⟩ := x
      simp only [List.concat_eq_append] at *
      obtain ⟨k, hk⟩ : ∃ k, l0.length = k := ⟨_, rfl⟩
      have hk2 : (l0 ++ [(xf, xt)]).length = k + 1 := by simp [hk]
      have hlt : b < e := by omega
      rw [hk2] at h2 hl
      obtain ⟨g, cap, rfl⟩ := ownsRow_succ h2
      have hsp := spv_get (l := l0 ++ [(xf, xt)]) (i := k) (by omega)
      have hgx : (l0 ++ [(xf, xt)]).getD k (0, 0) = (xf, xt) := by subst hk; simp
      rw [hgx] at hsp
      have hcl := h2.cellAt (k * 2 + 1) (by omega)
      rw [hsp.2] at hcl
      have hfr := h2.frozenAt (k * 2 + 1)
      dsimp only at hcl
      have hBg : B ≠ g := fun h => hnr (by rw [h]; rfl)
      have hMg := h3 g rfl
      have e1 : ((k + 1 : Nat) : Int) - 1 = (k : Int) := by omega
      have i0' : (0 : Int) ≤ (k : Int) := by omega
      by_cases htb : xt = b
      · subst htb
        rw [addZ_join hbe]
        have hst := h2.stored (k * 2 + 1) (.int .i64 e)
        obtain ⟨hst1, hst2⟩ := hst
        clear hbx hnr hi hz0 hz1 hz2 hsp hgx hk2
        have hP : Added w B N M (l0 ++ [(xf, e)]) (.returned (.tuple #[])) (w.setCell ⟨g, k * 2 + 1, none⟩ (.int .i64 e)) := by
          refine ⟨⟨_, rfl⟩, M, ⟨fun j hj => hj, fun j hj => .inl hj, fun j hj => by have := hMl j hj; simpa using this, (Turns.refl M _).of_setCell (p := ⟨g, k * 2 + 1, none⟩) (.inl hMg) _⟩, _, h1.set_other _ _ (Ne.symm hBg), ?_, h3, h4, h5⟩
          have hlen : (l0 ++ [(xf, e)]).length = k + 1 := by simp [hk]
          rw [hlen]
          have hsp2 : (spv (l0 ++ [(xf, xt)])).set (k * 2 + 1) (.int .i64 e) = spv (l0 ++ [(xf, e)]) := by
            rw [spv_append, spv_append, List.set_append, if_neg (by rw [spv_len, hk]; omega), spv_len, hk, show k * 2 + 1 - k * 2 = 1 by omega]
            rfl
          rw [← hsp2]
          exact hst1
        have hP := Lib.hid hP
        clear hst1 hst2 h1 h2 h3 hk
        go_enter Try.func36, Try.ntmps36
        go_wp2
        go_end0
        exact hP.out
      · rw [addZ_far hbe htb]
        have htb' : (xt == b) = false := by simpa using htb
        clear hsp hgx e1
        have e1 : ((k + 1 : Nat) : Int) - 1 = (k : Int) := by omega
        have h2' : w.ownsRow N 47 2 (.slice (some ⟨g, 0, none⟩) (k + 1) cap) (l0 ++ [(xf, xt)]).length (spv (l0 ++ [(xf, xt)])) := by rw [hk2]; exact h2
        have hk3 := Lib.hid hk2; clear hk2
        have hk := Lib.hid hk; clear hk
        go_enter Try.func36, Try.ntmps36
        go_wp2_with (at_builtin; refine wpList_append_mine _ rfl _ _ 48 rfl N 47 i0 (.agg #[.int .i64 0, .int .i64 0]) 2 16 Try.underlying48 hi hz0 hz1 hz2 rfl (by decide) _ _ _ rfl (h2.alloc _) ⟨w.heap.size, 0, none⟩ 1 1 [.int .i64 b, .int .i64 e] rfl rfl (cells_new _ _ _) (by simp [Value.oneCell']) (by unfold maxLen; omega) (by omega) (by simp; omega) ?_; intro v' w2 hown' hgrow _ hnew; obtain ⟨g', cap', hv'⟩ := ownsRow_succ hown'; subst hv'; have hv1 := (hbx.alloc _).kept hgrow hnr; have hc1 := hv1.cell; have hf1 := hv1.frozen)
        have hk4 := hk3.out
        have hP := added_app (l := l0 ++ [(xf, xt)]) (b := b) (e := e) h1 h2' h3 h4 h5 hMl hnr hgrow (by rw [hk4]) (by rw [hk4]; exact hown') hnew (.tuple #[])
        rw [List.append_assoc] at hP
        go_end0
        exact hP
end Go.Proofs.Ytejohdmbnnlhjaa

/- The iterator over a zone's stretches. -/
import Derived.Test.YtejohdmbnnlhjaaCalGives
import Derived.Test.YtejohdmbnnlhjaaCalMath
import Derived.Outline
namespace Go.Proofs.Ytejohdmbnnlhjaa
open Go.RowKit Go.Shelf
attribute [local go_sem] Oper.semAt_some

/-- The shifts of a zone lie at p. -/
def ShAt (w : World) (n₀ : Nat) (p : Option Addr) (sh : List (Int × Int)) : Prop :=
  ∀ i, i < sh.length → ∃ b o, p = some ⟨b, o, none⟩ ∧ b < n₀ ∧ w.cell? ⟨b, o + i * 2, none⟩ = some (iv (sh.getD i (0, 0)).1) ∧ w.cell? ⟨b, o + i * 2 + 1, none⟩ = some (iv (sh.getD i (0, 0)).2)
theorem ShAt.below {w w' : World} {n₀ : Nat} {p : Option Addr} {sh : List (Int × Int)} (h : ShAt w n₀ p sh) (hb : Below n₀ w w') : ShAt w' n₀ p sh := fun i hi => by
  obtain ⟨b, o, h1, h2, h3, h4⟩ := h i hi
  exact ⟨b, o, h1, h2, (hb.cell (p := ⟨b, _, none⟩) h2).trans h3, (hb.cell (p := ⟨b, _, none⟩) h2).trans h4⟩
theorem ShAt.mono {w : World} {n₀ n₁ : Nat} {p : Option Addr} {sh : List (Int × Int)} (h : ShAt w n₀ p sh) (hn : n₀ ≤ n₁) : ShAt w n₁ p sh := fun i hi => by
  obtain ⟨b, o, h1, h2, h3, h4⟩ := h i hi
  exact ⟨b, o, h1, by omega, h3, h4⟩

def encS (x : Str) : Array Value := #[.agg #[iv x.1, iv x.2.1, iv x.2.2]]

set_option maxHeartbeats 1000000 in
theorem stretches_in (F : Fence) (n : Nat) (hf : F.fn 30) (hro : F.round = none) (z : Array Value) (w : World) :
    CallsIn F n Try.prog 30 #[.agg z] w fun e w' => e = .returned (.func (.func 37) #[] #[.pointer (some ⟨w.heap.size, 0, none⟩)]) ∧ w' = w.alloc (.cells z 24) := by
  refine callsIn_of_wp Try.func30 rfl hf ?_ hro
  simp only [Try.ntmps30, List.size_toArray, List.length_cons, List.length_nil, Nat.reduceAdd, Nat.reduceSub, Array.replicate_succ, Array.replicate_zero, List.push_toArray, List.append_toArray, List.nil_append, List.cons_append]
  gi_wp2
  go_ret
  exact ⟨rfl, rfl⟩

set_option maxRecDepth 100000 in
set_option maxHeartbeats 4000000 in
theorem stretches_hands (F : Fence) (n : Nat) (hf : F.fn 37) (hro : F.round = none) (hn : 1 ≤ n) (Zb n₀ : Nat) (off : Int) (p : Option Addr) (cap : Nat) (sh : List (Int × Int)) (w : World)
    (hn0 : n₀ ≤ w.heap.size) (hZ : Arr w Zb 24 [iv off, .slice p sh.length cap]) (hS : ShAt w n₀ p sh) (hlen : sh.length ≤ 1000) :
    Hands F n Try.prog 37 #[.pointer (some ⟨Zb, 0, none⟩)] encS (fun k => k < n₀ ∨ k = Zb) (strs 0 off sh) w := by
  intro l J Jx M0 W hW hM hJ hJx hY h0
  have hZl := hZ.lt
  have hWs := hW.size
  have hZW := hZ.below hW hZl
  have hSW := hS.below (hW.mono hn0)
  have zc0 := hZW.cell (i := 0) rfl
  have zc1 := hZW.cell (i := 1) rfl
  refine callsIn_of_wp Try.func37 rfl hf ?_ hro
  simp only [Try.ntmps37, List.size_toArray, List.length_cons, List.length_nil, Nat.reduceAdd, Nat.reduceSub, Array.replicate_succ, Array.replicate_zero, List.push_toArray, List.append_toArray, List.nil_append, List.cons_append]
  have hZb : Zb < W.heap.size := by omega
  gi_wp2
  obtain ⟨W0, hW0, b0, z0, ka⟩ : ∃ W0, W.alloc (.cells #[.int .i64 0, .int .i64 0, .int .i64 off] 57) = W0 ∧ Below W.heap.size W W0 ∧ W0.heap.size = W.heap.size + 1 ∧ Arr W0 W.heap.size 57 [iv 0, iv 0, iv off] :=
    ⟨_, rfl, (Below.refl _ _).alloc (Nat.le_refl _) _, by simp, Arr.new W 57 [iv 0, iv 0, iv off]⟩
  rw [hW0]; clear hW0
  have hJ0 := hJ _ _ _ _ h0 (Turns.of_below b0)
  have hZ0 := hZW.below b0 hZb
  have hS0 := hSW.below (b0.mono (by omega))
  clear zc0 zc1 hZW hSW h0 hZ hS
  obtain ⟨C, hC⟩ : ∃ C, W.heap.size = C := ⟨_, rfl⟩
  rw [hC] at ka z0 hWs hZb hJ hJx b0 ⊢
  have hMC : ∀ k, M0 k → k < W0.heap.size ∧ n₀ ≤ k ∧ k ≠ Zb ∧ k ≠ C := fun k hk => by
    have := hM k hk
    rw [not_or] at this
    omega
  gi_loopw [12] (fun i wr => ∃ (k : Nat) (pre : List Str) (M : Nat → Prop) (f x o : Int), i = .int .i64 k ∧ k ≤ sh.length ∧ strs 0 off sh = pre ++ strs f o (sh.drop k) ∧ J pre M wr ∧ (∀ j, M j → j < wr.heap.size ∧ n₀ ≤ j ∧ j ≠ Zb ∧ j ≠ C) ∧
      Arr wr C 57 [iv f, iv x, iv o] ∧ Arr wr Zb 24 [iv off, .slice p sh.length cap] ∧ ShAt wr n₀ p sh)
    (fun i _ => sh.length - (intOf i).toNat)
  case atStart => exact ⟨0, [], M0, 0, 0, off, rfl, Nat.zero_le _, rfl, hJ0, hMC, ka, hZ0, hS0⟩
  case round =>
    obtain ⟨k, pre, M, f, x, o, rfl, hk, hx, hJs, hMs, kc, kz, ks⟩ := hrel
    clear hJ0 hMC ka hZ0 hS0
    have hCl := kc.lt
    have hZl2 := kz.lt
    by_cases hlt : k < sh.length
    · obtain ⟨b, ob, rfl, hb, s0, s1⟩ := ks k hlt
      rw [strs_drop hlt] at hx
      obtain ⟨at1, hat⟩ : ∃ a, (sh.getD k (0, 0)).1 = a := ⟨_, rfl⟩
      obtain ⟨of1, hof⟩ : ∃ a, (sh.getD k (0, 0)).2 = a := ⟨_, rfl⟩
      rw [hat] at s0 hx
      rw [hof] at s1 hx
      have HX := Lib.hid hx; clear hx hat hof
      have c0 := kc.cell (i := 0) rfl
      have c1 := kc.cell (i := 1) rfl
      have c2 := kc.cell (i := 2) rfl
      have f1 := kc.frozen 1
      gi_wp2_with fail
      obtain ⟨S, hS⟩ : ∃ S, wr.heap.size = S := ⟨_, rfl⟩
      obtain ⟨W2, hW2, b2, z2, t2, kc2, kz2, kn2⟩ : ∃ W2, (wr.setCell ⟨C, 1, none⟩ (.int .i64 at1)).alloc (.cells #[.int .i64 at1, .int .i64 of1] 43) = W2 ∧ Below n₀ wr W2 ∧ W2.heap.size = S + 1 ∧ Turns (fun j => C ≤ j ∧ ¬ M j) wr W2 ∧
          Arr W2 C 57 [iv f, iv at1, iv o] ∧ Arr W2 Zb 24 [iv off, .slice (some ⟨b, ob, none⟩) sh.length cap] ∧ Arr W2 S 43 [iv at1, iv of1] := by
        refine ⟨_, rfl, ((Below.refl _ _).setCell (p := ⟨C, 1, none⟩) (by simp; omega) _).alloc (by simp; omega) _, by simp; omega, ((Turns.refl _ _).of_setCell (p := ⟨C, 1, none⟩) (.inl ⟨Nat.le_refl _, fun h => (hMs C h).2.2.2 rfl⟩) _).of_alloc _,
          (kc.set 1 (iv at1)).alloc _, (kz.set_other 1 (iv at1) (by omega)).alloc _, ?_⟩
        exact Arr.new' 43 [iv at1, iv of1] (by simp; omega)
      rw [hW2, hS]; clear hW2 c0 c1 c2 f1 kc kz
      have ks2 := ks.below b2
      have hJ2 := hJ _ _ _ _ hJs t2
      obtain ⟨fn, tmps, assign, body, hy, hR⟩ := hY pre (f, at1, o) M W2 hJ2 ⟨strs at1 of1 (sh.drop (k + 1)), by rw [HX.out]; simp⟩
      unfold encS at hy
      dsimp only at hy
      rw [hy]
      gi_wp2
      refine hR.mono ?_
      rintro e W3 ⟨M', (⟨rfl, hG, hJ3⟩ | ⟨rfl, hJx3⟩)⟩
      · have m0 : ∀ j, M' j → j < W3.heap.size ∧ n₀ ≤ j ∧ j ≠ Zb ∧ j ≠ C := fun j hj => by
          have h1 := hG.lt j hj
          rcases hG.new j hj with h | h
          · have := hMs j h; exact ⟨h1, this.2⟩
          · exact ⟨h1, by omega⟩
        have mS : ¬ M' S := fun h => by
          rcases hG.new S h with h | h
          · have := (hMs S h).1; omega
          · omega
        have kc3 := hG.turns.arr kc2 (fun h => (m0 _ h).2.2.2 rfl)
        have kz3 := hG.turns.arr kz2 (fun h => (m0 _ h).2.2.1 rfl)
        have kn3 := hG.turns.arr kn2 mS
        have ks3 := ks2.below (hG.turns.below (by omega) (fun j hj => (m0 j hj).2.1))
        have z3 := hG.turns.size
        clear kc2 kz2 kn2 ks2 hR hJ2
        have c0 := kc3.cell (i := 0) rfl
        have c1 := kc3.cell (i := 1) rfl
        have c2 := kc3.cell (i := 2) rfl
        have f0 := kc3.frozen 0
        have f1 := kc3.frozen 1
        have f2 := kc3.frozen 2
        have n0 := kn3.cell (i := 0) rfl
        have n1 := kn3.cell (i := 1) rfl
        gi_wp2_with fail
        obtain ⟨W4, hW4, b4, z4, t4, kc4, kz4⟩ : ∃ W4, ((W3.setCell ⟨C, 0, none⟩ (.int .i64 at1)).setCell ⟨C, 1, none⟩ (.int .i64 0)).setCell ⟨C, 2, none⟩ (.int .i64 of1) = W4 ∧ Below n₀ W3 W4 ∧ W4.heap.size = W3.heap.size ∧ Turns (fun j => C ≤ j ∧ ¬ M' j) W3 W4 ∧
            Arr W4 C 57 [iv at1, iv 0, iv of1] ∧ Arr W4 Zb 24 [iv off, .slice (some ⟨b, ob, none⟩) sh.length cap] := by
          have mC : C ≤ C ∧ ¬ M' C := ⟨Nat.le_refl _, fun h => (m0 C h).2.2.2 rfl⟩
          refine ⟨_, rfl, (((Below.refl _ _).setCell (p := ⟨C, 0, none⟩) (by simp; omega) _).setCell (p := ⟨C, 1, none⟩) (by simp; omega) _).setCell (p := ⟨C, 2, none⟩) (by simp; omega) _, by simp,
            (((Turns.refl _ _).of_setCell (p := ⟨C, 0, none⟩) (.inl mC) _).of_setCell (p := ⟨C, 1, none⟩) (.inl mC) _).of_setCell (p := ⟨C, 2, none⟩) (.inl mC) _,
            ((kc3.set 0 (iv at1)).set 1 (iv 0)).set 2 (iv of1), ?_⟩
          exact ((kz3.set_other 0 (iv at1) (by omega)).set_other 1 (iv 0) (by omega)).set_other 2 (iv of1) (by omega)
        rw [hW4]; clear hW4
        refine ⟨⟨k + 1, pre ++ [(f, at1, o)], M', at1, 0, of1, by go_num, by omega, by rw [HX.out]; simp, hJ _ _ _ _ hJ3 t4, fun j hj => ?_, kc4, kz4, ks3.below b4⟩, by simp [intOf]; omega⟩
        have := m0 j hj
        omega
      · gi_wp2
        refine bodyPost_ret (results_none rfl _ _ _) rfl ?_
        exact ⟨⟨_, rfl⟩, .inr ⟨pre ++ [(f, at1, o)], M', ⟨strs at1 of1 (sh.drop (k + 1)), by rw [HX.out]; simp⟩, hJx3⟩⟩
    · obtain rfl : k = sh.length := by omega
      rw [strs_end] at hx
      have HX := Lib.hid hx; clear hx
      have c0 := kc.cell (i := 0) rfl
      have c1 := kc.cell (i := 1) rfl
      have c2 := kc.cell (i := 2) rfl
      have f1 := kc.frozen 1
      gi_wp2_with fail
      obtain ⟨W2, hW2, t2, kc2⟩ : ∃ W2, wr.setCell ⟨C, 1, none⟩ (.int .i64 10000000001) = W2 ∧ Turns (fun j => C ≤ j ∧ ¬ M j) wr W2 ∧ Arr W2 C 57 [iv f, iv 10000000001, iv o] :=
        ⟨_, rfl, (Turns.refl _ _).of_setCell (p := ⟨C, 1, none⟩) (.inl ⟨Nat.le_refl _, fun h => (hMs C h).2.2.2 rfl⟩) _, kc.set 1 (iv 10000000001)⟩
      rw [hW2]; clear hW2 c0 c1 c2 f1 kc
      have hJ2 := hJ _ _ _ _ hJs t2
      have c0 := kc2.cell (i := 0) rfl
      have c1 := kc2.cell (i := 1) rfl
      have c2 := kc2.cell (i := 2) rfl
      obtain ⟨fn, tmps, assign, body, hy, hR⟩ := hY pre (f, 10000000001, o) M W2 hJ2 ⟨[], by rw [HX.out]; simp⟩
      unfold encS at hy
      dsimp only at hy
      rw [hy]
      gi_wp2
      refine hR.mono ?_
      rintro e W3 ⟨M', (⟨rfl, hG, hJ3⟩ | ⟨rfl, hJx3⟩)⟩
      · gi_wp2
        go_end0
        exact ⟨⟨_, rfl⟩, .inl ⟨M', by rw [HX.out]; exact hJ3⟩⟩
      · gi_wp2
        go_end0
        exact ⟨⟨_, rfl⟩, .inr ⟨_, M', by rw [HX.out]; exact List.prefix_refl _, hJx3⟩⟩
end Go.Proofs.Ytejohdmbnnlhjaa

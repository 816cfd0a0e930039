/- The reference: a list with a further span. -/
import Derived.Test.YtjocgipjmcnjfaaSpNorm
import Derived.Deep.RegionHeld3
namespace Go.Proofs.Ytjocgipjmcnjfaa
open Go.RowKit

abbrev St := List (Int × Int) × (Int × Int) × List (Int × Int)
def AddI (N : Nat) (w wr : World) (v5 v6 : Value) (st : St) : Prop :=
  Arr wr N 30 [iv st.2.1.1, iv st.2.1.2] ∧ wr.ownsRow N 30 2 v5 st.1.length (spv st.1) ∧ wr.ownsRow N 30 2 v6 st.2.2.length (spv st.2.2) ∧ v5.ownBlock ≠ some N ∧ v6.ownBlock ≠ some N ∧
    (∀ j, v5.ownBlock = some j → v6.ownBlock ≠ some j) ∧ (st.2.2 = [] → v6 = .slice none 0 0) ∧ Below N w wr

theorem AddI.below {N : Nat} {w wr W : World} {v5 v6 : Value} {st : St} (h : AddI N w wr v5 v6 st) (b : Below wr.heap.size wr W) : AddI N w W v5 v6 st := by
  obtain ⟨h1, h2, h3, h4, h5, h6, h7, h8⟩ := h
  exact ⟨h1.below b h1.lt, own_below h2 b, own_below h3 b, h4, h5, h6, h7, h8.trans (b.mono (by have := h1.lt; omega))⟩
theorem AddI.app5 {N : Nat} {w W W2 : World} {v5 v6 v5' : Value} {bs es : List (Int × Int)} {s t : Int × Int} (h : AddI N w W v5 v6 (bs, s, es)) {W1 : World} (b : Below W.heap.size W W1)
    (ho : W2.ownsRow N 30 2 v5' (bs.length + 1) (spv bs ++ [iv t.1, iv t.2])) (hg : W1.grownBy W2 v5.ownBlock) (hn : ∀ j, v5'.ownBlock = some j → v5.ownBlock = some j ∨ W1.heap.size ≤ j) : AddI N w W2 v5' v6 (bs ++ [t], s, es) := by
  obtain ⟨h1, h2, h3, h4, h5, h6, h7, h8⟩ := h
  have z1 := b.size
  have hNl := h1.lt
  have tt : Turns (fun k => v5.ownBlock = some k) W W2 := turns_grown b hg
  refine ⟨tt.arr h1 (fun e => h4 e), ?_, tt.row h3 (fun j hj e => h6 j e hj), fun e => ?_, h5, fun j hj e => ?_, h7, h8.trans (tt.below (by omega) (fun k hk => (h2.lt k hk).1))⟩
  · rw [List.length_append, spv_append]; exact ho
  · rcases hn N e with h | h
    · exact h4 h
    · omega
  · rcases hn j hj with h | h
    · exact h6 j h e
    · have := (h3.lt j e).2; omega
theorem AddI.app6 {N : Nat} {w W W2 : World} {v5 v6 v6' : Value} {bs es : List (Int × Int)} {s t : Int × Int} (h : AddI N w W v5 v6 (bs, s, es)) {W1 : World} (b : Below W.heap.size W W1)
    (ho : W2.ownsRow N 30 2 v6' (es.length + 1) (spv es ++ [iv t.1, iv t.2])) (hg : W1.grownBy W2 v6.ownBlock) (hn : ∀ j, v6'.ownBlock = some j → v6.ownBlock = some j ∨ W1.heap.size ≤ j) : AddI N w W2 v5 v6' (bs, s, es ++ [t]) := by
  obtain ⟨h1, h2, h3, h4, h5, h6, h7, h8⟩ := h
  have z1 := b.size
  have hNl := h1.lt
  have tt : Turns (fun k => v6.ownBlock = some k) W W2 := turns_grown b hg
  refine ⟨tt.arr h1 (fun e => h5 e), tt.row h2 (fun j hj e => h6 j hj e), ?_, h4, fun e => ?_, fun j hj e => ?_, fun e => by simp at e, h8.trans (tt.below (by omega) (fun k hk => (h3.lt k hk).1))⟩
  · rw [List.length_append, spv_append]; exact ho
  · rcases hn N e with h | h
    · exact h5 h
    · omega
  · rcases hn j e with h | h
    · exact h6 j hj h
    · have := (h2.lt j hj).2; omega
theorem own_drewN {w : World} {N : Nat} {e : TypeId} {size : Nat} {v : Value} {n : Nat} {xs : List Value} (h : w.ownsRow N e size v n xs) (q : Nat) : (w.drewN q).ownsRow N e size v n xs := own_below h (below_drewN (Below.refl _ _) q)
theorem AddI.joins {N : Nat} {w W : World} {v5 v6 : Value} {bs es : List (Int × Int)} {s : Int × Int} (h : AddI N w W v5 v6 (bs, s, es)) (i : Nat) (x : Int) (s' : Int × Int) (hs : [iv s.1, iv s.2].set i (iv x) = [iv s'.1, iv s'.2]) : AddI N w (W.setCell ⟨N, i, none⟩ (iv x)) v5 v6 (bs, s', es) := by
  obtain ⟨h1, h2, h3, h4, h5, h6, h7, h8⟩ := h
  refine ⟨?_, ownsRow_setCell_other h2 h4 _, ownsRow_setCell_other h3 h5 _, h4, h5, h6, h7, h8.setCell (p := ⟨N, i, none⟩) (by simp) _⟩
  have := h1.set i (iv x)
  rwa [hs] at this
theorem AddI.drew {N : Nat} {w W : World} {v5 v6 : Value} {st : St} (h : AddI N w W v5 v6 st) : AddI N w W.drew v5 v6 st := h.below (Below.refl _ W).drew

theorem run_append_noneS (W : World) (ty : TypeId) (v : Value) {base n : Nat} {xs : List Value} (hown : W.ownsRow base 30 2 v n xs) (c : Nat) : (Builtin.append_ #[22, 22] ty #[v, .slice none 0 c]).run Try.prog W = .ok v W := by
  obtain ⟨i0, hi0, hz0, hz1, hz2⟩ := info_parts infoS
  rcases hown.2 with ⟨rfl, rfl⟩ | ⟨g, cap, cur, rfl, _, _, hnc, _⟩
  · simp [Builtin.append_, run_underlying Try.underlying22, sizeOf, typeInfo, hi0, Builtin.lenOf, Builtin.firstCells]
  · simp [Builtin.append_, run_underlying Try.underlying22, sizeOf, typeInfo, hi0, Builtin.lenOf, Builtin.firstCells, hnc, storeCells]
theorem wpList_append_noneS {ops : Array Oper} {rest : List Oper} {o : Oper} {a : Act} {W : World} {Q : Exit → Act → World → Prop} (hgd : o.guard = none) (s x : Operand)
    (ho : o.op = .call { callee := .builtin .append, args := #[s, x], argTypes := #[22, 22] }) (v : Value) {base n : Nat} {xs : List Value} (hs : a.eval s = v) (hown : W.ownsRow base 30 2 v n xs) (c : Nat) (hx : a.eval x = .slice none 0 c)
    (h : wpList Try.prog ops Q rest (a.put o.dst v) W) : wpList Try.prog ops Q (o :: rest) a W :=
  wpList_plain hgd fun _ hK => by
    have hr := run_append_noneS W o.type v hown c
    unfold Oper.wp execOp
    simp only [ho, resolve, invoke, builtin, Sem.run_bind, Sem.run_pure, Result.andThen_ok, List.map_toArray, List.map_cons, List.map_nil, hs, hx, hr]
    exact hK _ _ h

theorem keepG {n : Nat} {w w8 w9 : World} {e : TypeId} {size : Nat} {v : Value} {k : Nat} {xs : List Value} (h : Below n w w8) (hn : n ≤ w8.heap.size) (hg : w8.grownBy w9 v.ownBlock) (own : w8.ownsRow n e size v k xs) : Below n w w9 :=
  h.trans ((Below.refl _ _).grown hg hn (own_le own))
theorem addRun_len : ∀ (r b : List (Int × Int)) (t : Int × Int) (a : List (Int × Int)), (r.foldl addStep (b, t, a)).1.length + (r.foldl addStep (b, t, a)).2.2.length ≤ b.length + a.length + r.length
  | [], b, t, a => by simp
  | u :: r, b, t, a => by
    rw [List.foldl_cons]
    have hc : addStep (b, t, a) u = (b ++ [u], t, a) ∨ addStep (b, t, a) u = (b, t, a ++ [u]) ∨ addStep (b, t, a) u = (b, (min t.1 u.1, max t.2 u.2), a) := by
      unfold addStep
      split
      · exact .inl rfl
      · split
        · exact .inr (.inl rfl)
        · exact .inr (.inr rfl)
    rcases hc with hc | hc | hc
    · rw [hc]; have := addRun_len r (b ++ [u]) t a; simp at this ⊢; omega
    · rw [hc]; have := addRun_len r b t (a ++ [u]); simp at this ⊢; omega
    · rw [hc]; have := addRun_len r b (min t.1 u.1, max t.2 u.2) a; simp at this ⊢; omega

set_option maxRecDepth 100000 in
set_option maxHeartbeats 4000000 in
theorem radd_any (a b : Int) (p : Option Addr) (cap : Nat) (l : List (Int × Int)) (w : World) (hS : ShAt w w.heap.size p l) (hlen : l.length ≤ 20000) :
    Calls Try.prog 43 #[.slice p l.length cap, .agg #[iv a, iv b]] w (Sl w (addS l (a, b))) := by
  obtain ⟨i0, hi, hz0, hz1, hz2⟩ := info_parts infoS
  unfold addS
  by_cases hab : b ≤ a
  · rw [if_pos (show (a, b).2 ≤ (a, b).1 from hab)]
    have d1 : decide (b ≤ a) = true := by simpa using hab
    have HS := Lib.hid hS
    clear hS
    go_enter Try.func43, Try.ntmps43
    go_wp2_with fail
    go_ret
    have b1 : Below w.heap.size w (w.alloc (.cells #[iv a, iv b] 30)) := (Below.refl _ _).alloc (Nat.le_refl _) _
    exact ⟨_, _, rfl, HS.out.into b1, b1⟩
  · rw [if_neg (show ¬ (a, b).2 ≤ (a, b).1 from hab)]
    have d1 : decide (b ≤ a) = false := by simpa using hab
    obtain ⟨V, hV⟩ : ∃ V, addFin (l.foldl addStep ([], (a, b), [])) = V := ⟨_, rfl⟩
    rw [hV]
    have HV := Lib.hid hV
    obtain ⟨m, hm⟩ : ∃ m, l.length = m := ⟨_, rfl⟩
    have HM := Lib.hid hm
    rw [hm] at hlen ⊢
    obtain ⟨W0, hW0, b0, z0, ka⟩ := boxS w a b
    obtain ⟨N, hN⟩ : ∃ N, w.heap.size = N := ⟨_, rfl⟩
    rw [hN] at ka b0 hS
    have c0 := ka.cell (i := 0) rfl
    have c1 := ka.cell (i := 1) rfl
    clear hV hm
    go_enter Try.func43, Try.ntmps43
    go_wp2_with fail
    try rw [hN]
    clear hW0 c0 c1
    go_loopw [5, 6, 7] (fun s5 s6 s7 wr => ∃ (k : Nat) (v5 v6 : Value), v5 = s5 ∧ v6 = s6 ∧ s7 = .int .i64 k ∧ k ≤ m ∧ AddI N w wr v5 v6 ((l.take k).foldl addStep ([], (a, b), []))) (fun _ _ s7 _ => m - (intOf s7).toNat)
    case atStart => exact ⟨0, _, _, rfl, rfl, rfl, Nat.zero_le _, ka, World.ownsRow_nil _ _ _ _, World.ownsRow_nil _ _ _ _, (fun h => by cases h), (fun h => by cases h), (fun j h => by cases h), fun _ => rfl, b0⟩
    case round =>
      clear ka
      obtain ⟨k, v5, v6, e5, e6, rfl, hk, hI⟩ := hrel
      subst e5 e6
      have hmm := HM.out
      have hsz : N < wr.heap.size := hI.1.lt
      by_cases hlt : k < m
      · obtain ⟨bl, o, rfl, hbl, q0, q1⟩ := (hS.below (by obtain ⟨_, _, _, _, _, _, _, h⟩ := hI; exact h)) k (by omega)
        have hst : l.take (k + 1) = l.take k ++ [l.getD k (0, 0)] := by rw [List.take_succ_eq_append_getElem (by omega), getD_at (by omega)]
        have hlenI := addRun_len (l.take k) [] (a, b) []
        have hstep : (l.take (k + 1)).foldl addStep ([], (a, b), []) = addStep ((l.take k).foldl addStep ([], (a, b), [])) (l.getD k (0, 0)) := by rw [hst, List.foldl_append]; rfl
        have hlk : (l.take k).length ≤ 20000 := by rw [List.length_take]; omega
        generalize (l.take k).foldl addStep ([], (a, b), []) = st at hI hlenI hstep
        obtain ⟨bs, ⟨s1, s2⟩, es⟩ := st
        obtain ⟨X, hX⟩ : ∃ X, l.getD k (0, 0) = X := ⟨_, rfl⟩
        rw [hX] at q0 q1 hstep
        obtain ⟨x, y⟩ := X
        dsimp only at q0 q1 hlenI
        have hl5 : bs.length ≤ 20000 := by simp at hlenI; omega
        have hl6 : es.length ≤ 20000 := by simp at hlenI; omega
        have HI := Lib.hid hI
        obtain ⟨kb, o5, o6, -, -, -, -, hb⟩ := hI
        dsimp only at kb o5 o6
        have c0 := kb.cell (i := 0) rfl
        have c1 := kb.cell (i := 1) rfl
        have f0 := kb.frozen 0
        have f1 := kb.frozen 1
        have hidx : (k : Int) * 2 = ((k * 2 : Nat) : Int) := by omega
        have hne : bl ≠ N := by omega
        have HSt := Lib.hid hstep
        have HSh := Lib.hid hS
        have hblw : bl < wr.heap.size := by omega
        clear hX hst hlenI hlk hstep hmm hS
        by_cases h1 : y < s1
        · have d2 : decide (y < s1) = true := by simpa using h1
          have hsv : addStep (bs, (s1, s2), es) (x, y) = (bs ++ [(x, y)], (s1, s2), es) := by simp [addStep, h1]
          go_wp2_with fail
          go_quiet (fail)
          obtain ⟨W2, hW2, b2⟩ : ∃ W2, wr.drewN nq = W2 ∧ Below wr.heap.size wr W2 := ⟨_, rfl, below_drewN (Below.refl _ _) nq⟩
          rw [hW2]; clear hW2
          have HI2 := Lib.hid (HI.out.below b2)
          have zs : N < W2.heap.size := HI2.out.1.lt
          have q0 : W2.cell? ⟨bl, o + k * 2, none⟩ = some (iv x) := (b2.cell (p := ⟨bl, _, none⟩) (by simp; omega)).trans q0
          have q1 : W2.cell? ⟨bl, o + k * 2 + 1, none⟩ = some (iv y) := (b2.cell (p := ⟨bl, _, none⟩) (by simp; omega)).trans q1
          have hblw : bl < W2.heap.size := by have := b2.size; omega
          clear HI o5 o6 c0 c1 f0 f1 kb
          have o5 := HI2.out.2.1
          dsimp only at o5
          go_wp2_with (at_builtin; refine wpList_append_mine _ rfl _ _ 22 rfl N 30 i0 (.agg #[.int .i64 0, .int .i64 0]) 2 16 Try.underlying22 hi hz0 hz1 hz2 rfl (by decide) _ _ _ rfl (o5.alloc _) ⟨W2.heap.size, 0, none⟩ 1 1 [.int .i64 x, .int .i64 y] rfl rfl (cells_new _ _ _) (by simp [Value.oneCell']) (by unfold maxLen; omega) (by omega) (by simp; omega) ?_; intro v' w9 hown' hgrow _ hnew)
          exact ⟨⟨k + 1, v', v6, rfl, rfl, by go_num, by omega, by rw [HSt.out, hsv]; exact HI2.out.app5 (t := (x, y)) ((Below.refl _ W2).alloc (Nat.le_refl _) _) hown' hgrow hnew⟩, by simp [intOf] <;> omega⟩
        · have d2 : decide (y < s1) = false := by simpa using h1
          go_wp2_with fail
          go_quiet (fail)
          obtain ⟨W2, hW2, b2⟩ : ∃ W2, wr.drewN nq = W2 ∧ Below wr.heap.size wr W2 := ⟨_, rfl, below_drewN (Below.refl _ _) nq⟩
          rw [hW2]; clear hW2
          have HI2 := Lib.hid (HI.out.below b2)
          have zs : N < W2.heap.size := HI2.out.1.lt
          have q0 : W2.cell? ⟨bl, o + k * 2, none⟩ = some (iv x) := (b2.cell (p := ⟨bl, _, none⟩) (by simp; omega)).trans q0
          have q1 : W2.cell? ⟨bl, o + k * 2 + 1, none⟩ = some (iv y) := (b2.cell (p := ⟨bl, _, none⟩) (by simp; omega)).trans q1
          have hblw : bl < W2.heap.size := by have := b2.size; omega
          have kb2 := HI2.out.1
          have c0 := kb2.cell (i := 0) rfl
          have c1 := kb2.cell (i := 1) rfl
          have f0 := kb2.frozen 0
          have f1 := kb2.frozen 1
          dsimp only at c0 c1
          clear HI o5 o6 kb b2
          by_cases h2 : s2 < x
          · have d3 : decide (s2 < x) = true := by simpa using h2
            have hsv : addStep (bs, (s1, s2), es) (x, y) = (bs, (s1, s2), es ++ [(x, y)]) := by simp [addStep, h1, h2]
            go_wp2_with fail
            go_quiet (fail)
            obtain ⟨W4, hW2, b2⟩ : ∃ W4, W2.drewN nq = W4 ∧ Below W2.heap.size W2 W4 := ⟨_, rfl, below_drewN (Below.refl _ _) nq⟩
            rw [hW2]; clear hW2
            have HI4 := Lib.hid (HI2.out.below b2)
            have zs : N < W4.heap.size := HI4.out.1.lt
            have q0 : W4.cell? ⟨bl, o + k * 2, none⟩ = some (iv x) := (b2.cell (p := ⟨bl, _, none⟩) (by simp; omega)).trans q0
            have q1 : W4.cell? ⟨bl, o + k * 2 + 1, none⟩ = some (iv y) := (b2.cell (p := ⟨bl, _, none⟩) (by simp; omega)).trans q1
            have hblw : bl < W4.heap.size := by have := b2.size; omega
            clear HI2 c0 c1 f0 f1 kb2
            have o6 := HI4.out.2.2.1
            dsimp only at o6
            go_wp2_with (at_builtin; refine wpList_append_mine _ rfl _ _ 22 rfl N 30 i0 (.agg #[.int .i64 0, .int .i64 0]) 2 16 Try.underlying22 hi hz0 hz1 hz2 rfl (by decide) _ _ _ rfl (o6.alloc _) ⟨W4.heap.size, 0, none⟩ 1 1 [.int .i64 x, .int .i64 y] rfl rfl (cells_new _ _ _) (by simp [Value.oneCell']) (by unfold maxLen; omega) (by omega) (by simp; omega) ?_; intro v' w9 hown' hgrow _ hnew)
            exact ⟨⟨k + 1, v5, v', rfl, rfl, by go_num, by omega, by rw [HSt.out, hsv]; exact HI4.out.app6 (t := (x, y)) ((Below.refl _ W4).alloc (Nat.le_refl _) _) hown' hgrow hnew⟩, by simp [intOf] <;> omega⟩
          · have d3 : decide (s2 < x) = false := by simpa using h2
            have hsv : addStep (bs, (s1, s2), es) (x, y) = (bs, (min s1 x, max s2 y), es) := by simp [addStep, h1, h2]
            go_wp2_with fail
            go_quiet (fail)
            obtain ⟨W4, hW4, b4⟩ : ∃ W4, W2.drewN nq = W4 ∧ Below W2.heap.size W2 W4 := ⟨_, rfl, below_drewN (Below.refl _ _) nq⟩
            rw [hW4]; clear hW4
            have HI4 := Lib.hid (HI2.out.below b4)
            have kb4 := HI4.out.1
            have zs : N < W4.heap.size := kb4.lt
            have c0 := kb4.cell (i := 0) rfl
            have c1 := kb4.cell (i := 1) rfl
            have f0 := kb4.frozen 0
            have f1 := kb4.frozen 1
            dsimp only at c0 c1
            have q0 : W4.cell? ⟨bl, o + k * 2, none⟩ = some (iv x) := (b4.cell (p := ⟨bl, _, none⟩) (by simp; omega)).trans q0
            have q1 : W4.cell? ⟨bl, o + k * 2 + 1, none⟩ = some (iv y) := (b4.cell (p := ⟨bl, _, none⟩) (by simp; omega)).trans q1
            clear HI2 kb2 b4 kb4
            go_wp2_with fail
            go_region
            have HI5 := Lib.hid (HI4.out.joins 0 (min s1 x) (min s1 x, s2) rfl).drew
            have q1 : (W4.setCell ⟨N, 0, none⟩ (iv (min s1 x))).drew.cell? ⟨bl, o + k * 2 + 1, none⟩ = some (iv y) := (World.cell?_setCell_far W4 ⟨N, 0, none⟩ ⟨bl, o + k * 2 + 1, none⟩ _ (Ne.symm hne)).trans q1
            obtain ⟨W5, hW5⟩ : ∃ W5, (W4.setCell ⟨N, 0, none⟩ (iv (min s1 x))).drew = W5 := ⟨_, rfl⟩
            rw [hW5] at HI5 q1 ⊢
            have kb5 := HI5.out.1
            have c0 := kb5.cell (i := 0) rfl
            have c1 := kb5.cell (i := 1) rfl
            have f0 := kb5.frozen 0
            have f1 := kb5.frozen 1
            dsimp only at c0 c1
            clear hW5 HI4 kb5 q0
            go_wp2_with fail
            go_region
            go_wp2_with fail
            exact ⟨⟨k + 1, v5, v6, rfl, rfl, by go_num, by omega, by rw [HSt.out, hsv]; exact (HI5.out.joins 1 (max s2 y) (min s1 x, max s2 y) rfl).drew⟩, by simp [intOf] <;> omega⟩
      · obtain rfl : k = m := by omega
        rw [List.take_of_length_le (show l.length ≤ k by omega)] at hI
        have hlenI := addRun_len l [] (a, b) []
        have hV := HV.out
        generalize l.foldl addStep ([], (a, b), []) = st at hI hlenI hV
        obtain ⟨bs, ⟨s1, s2⟩, es⟩ := st
        simp at hlenI
        have hl5 : bs.length ≤ 20000 := by omega
        have hl6 : es.length ≤ 20000 := by omega
        obtain ⟨kb, o5, o6, hb5, hb6, hb56, hnil, hb⟩ := hI
        dsimp only at kb o5 o6 hnil
        have c0 := kb.cell (i := 0) rfl
        have c1 := kb.cell (i := 1) rfl
        subst hV
        have H56 := Lib.hid hb56
        have HB := Lib.hid hb
        clear hS hb56 hlenI hb5 hb6
        have ba : Below N wr (wr.alloc (.cells #[iv s1, iv s2] 30)) := (Below.refl _ wr).alloc (by omega) _
        rcases es with _ | ⟨e0, er⟩
        · have hv6 := hnil rfl
          subst hv6
          clear hnil o6
          go_wp2_with (first | (at_builtin; refine wpList_append_mine _ rfl _ _ 22 rfl N 30 i0 (.agg #[.int .i64 0, .int .i64 0]) 2 16 Try.underlying22 hi hz0 hz1 hz2 rfl (by decide) _ _ _ rfl (o5.alloc _) ⟨wr.heap.size, 0, none⟩ 1 1 [.int .i64 s1, .int .i64 s2] rfl rfl (cells_new _ _ _) (by simp [Value.oneCell']) (by unfold maxLen; omega) (by omega) (by simp; omega) ?_; intro v' w9 hown' hgrow _ hnew) | (at_builtin; refine wpList_append_noneS rfl _ _ rfl v' rfl hown' 0 rfl ?_))
          go_ret
          have hbl := keepG (HB.out.trans ba) (by simp; omega) hgrow (o5.alloc _)
          have ho : w9.ownsRow w.heap.size 30 2 v' (addFin (bs, (s1, s2), [])).length (spv (addFin (bs, (s1, s2), []))) := by
            rw [hN]
            unfold addFin
            simp only [List.append_nil]
            rw [List.length_append, spv_append]
            exact hown'
          exact (show Own w _ _ _ from ⟨_, rfl, ho, by rw [hN]; exact hbl⟩).sl
        · obtain ⟨ne, hne⟩ : ∃ n, (e0 :: er).length = n + 1 := ⟨er.length, rfl⟩
          have o6' := o6
          rw [hne] at o6'
          obtain ⟨g6, c6, rfl⟩ := ownsRow_succ o6'
          have hsl : (spv (e0 :: er)).length = (ne + 1) * 2 := by rw [spv_len, hne]
          have hso := spv_one (e0 :: er)
          have hne6 : ne + 1 ≤ 20000 := by omega
          have HNE := Lib.hid hne
          generalize e0 :: er = es at *
          clear hnil hne o6
          go_wp2_with (first | (at_builtin; refine wpList_append_mine _ rfl _ _ 22 rfl N 30 i0 (.agg #[.int .i64 0, .int .i64 0]) 2 16 Try.underlying22 hi hz0 hz1 hz2 rfl (by decide) _ _ _ rfl (o5.alloc _) ⟨wr.heap.size, 0, none⟩ 1 1 [.int .i64 s1, .int .i64 s2] rfl rfl (cells_new _ _ _) (by simp [Value.oneCell']) (by unfold maxLen; omega) (by omega) (by simp; omega) ?_; intro v' w9 hown' hgrow _ hnew) | (at_builtin; refine wpList_append_mine _ rfl _ _ 22 rfl N 30 i0 (.agg #[.int .i64 0, .int .i64 0]) 2 16 Try.underlying22 hi hz0 hz1 hz2 rfl (by decide) v' _ _ rfl hown' ⟨g6, 0, none⟩ (ne + 1) c6 (spv es) rfl hsl (((turns_grown ((Below.refl _ wr).alloc (Nat.le_refl _) _) hgrow).row o6' (fun j hj e => H56.out j e hj)).cells rfl) hso (by unfold maxLen; omega) (by omega) (by have := hgrow.size; simp at this; omega) ?_; intro v2 w10 hown2 hgrow2 _ hnew2))
          go_ret
          have hbl := keepG (HB.out.trans ba) (by simp; omega) hgrow (o5.alloc _)
          have hbl2 := keepG hbl (by have := hgrow.size; simp at this; omega) hgrow2 hown'
          have ho : w10.ownsRow w.heap.size 30 2 v2 (addFin (bs, (s1, s2), es)).length (spv (addFin (bs, (s1, s2), es))) := by
            rw [hN]
            unfold addFin
            simp only
            rw [List.length_append, List.length_append, HNE.out, spv_append, spv_append]
            exact hown2
          exact (show Own w _ _ _ from ⟨_, rfl, ho, by rw [hN]; exact hbl2⟩).sl
end Go.Proofs.Ytjocgipjmcnjfaa

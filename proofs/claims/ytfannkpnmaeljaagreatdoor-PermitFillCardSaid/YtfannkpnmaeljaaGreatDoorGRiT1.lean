import Derived.Test.YtfannkpnmaeljaaGreatDoorGRi2
import Derived.Test.YtfannkpnmaeljaaGreatDoorGSpT2
import Derived.Test.YtfannkpnmaeljaaGreatDoorGSpT1
import Derived.StillTailTactics
import Derived.Laws.CopyOwn
import Derived.Lib.AppendZerosOnto
import Derived.Lib.Overlaps
set_option linter.unusedVariables false
set_option linter.unusedSimpArgs false
/- about: the clauses that count, handed out one by one. -/
namespace Go.Proofs.YtfannkpnmaeljaaGreatDoor
open Go.RowKit Go.Shelf
attribute [local go_sem] Oper.semAt_some

def encC (c : Cl) : Array Value := #[.agg #[iv c.k, iv c.it, iv c.fr, iv c.to, iv c.rg, iv c.n, iv c.a, iv c.b]]

set_option maxHeartbeats 1000000 in
theorem about_in (F : Fence) (n : Nat) (hf : F.fn 94) (hro : F.round = none) (p : Option Addr) (nn cap : Nat) (it r : Int) (w : World) :
    CallsIn F n Tryz.prog 94 #[.slice p nn cap, iv it, iv r] w fun e w' => e = .returned (.func (.func 114) #[] #[.pointer (some ⟨w.heap.size, 0, none⟩), .pointer (some ⟨w.heap.size + 1, 0, none⟩), .pointer (some ⟨w.heap.size + 2, 0, none⟩)]) ∧ w' = ((w.alloc (.cells #[.slice p nn cap] 30)).alloc (.cells #[iv it] 3)).alloc (.cells #[iv r] 3) := by
  refine callsIn_of_wp Tryz.func94 rfl hf ?_ hro
  simp only [Tryz.ntmps94, List.size_toArray, List.length_cons, List.length_nil, Nat.reduceAdd, Nat.reduceSub, Array.replicate_succ, Array.replicate_zero, List.push_toArray, List.append_toArray, List.nil_append, List.cons_append]
  gi_wp2
  go_ret
  exact ⟨rfl, rfl⟩

theorem filt_snoc {l : List Cl} {k : Nat} {f : Cl → Bool} {c : Cl} (hlt : k < l.length) (hc : l.getD k Cl.zero = c) :
    (l.take (k + 1)).filter f = (l.take k).filter f ++ if f c = true then [c] else [] := by
  rw [take_snoc hlt, hc, List.filter_append]
  by_cases h : f c = true
  · rw [if_pos h]; simp [List.filter_cons, h]
  · rw [if_neg h]; simp [List.filter_cons, h]
theorem filt_pre {l : List Cl} (k : Nat) (f : Cl → Bool) : (l.take k).filter f <+: l.filter f := by
  refine ⟨(l.drop k).filter f, ?_⟩
  rw [← List.filter_append, List.take_append_drop]

set_option maxRecDepth 100000 in
set_option maxHeartbeats 4000000 in
theorem about_hands (n : Nat) (hn : 1 ≤ n) (A B C n₀ : Nat) (p : Option Addr) (cap : Nat) (l : List Cl) (it r : Int) (w : World)
    (hn0 : n₀ ≤ w.heap.size) (hA : Arr w A 30 [.slice p l.length cap]) (hB : Arr w B 3 [iv it]) (hC : Arr w C 3 [iv r]) (hS : ClAt w n₀ p l) (hlen : l.length ≤ 100000) :
    Hands Fence.wide n Tryz.prog 114 #[.pointer (some ⟨A, 0, none⟩), .pointer (some ⟨B, 0, none⟩), .pointer (some ⟨C, 0, none⟩)] encC (fun k => k < n₀ ∨ k = A ∨ k = B ∨ k = C) (l.filter fun c => abtZ c it r) w := by
  have hwide : ∀ f, Fence.wide.fn f := fun _ => trivial
  have hro : Fence.wide.round = none := rfl
  intro lp J Jx M0 W hW hM hJ hJx hY h0
  have hWs := hW.size
  have hAW := hA.below hW hA.lt
  have hBW := hB.below hW hB.lt
  have hCW := hC.below hW hC.lt
  have hSW := hS.below (hW.mono hn0)
  have hMC : ∀ k, M0 k → k < W.heap.size ∧ n₀ ≤ k ∧ k ≠ A ∧ k ≠ B ∧ k ≠ C := fun k hk => by
    have := hM k hk
    simp only [not_or] at this
    omega
  have ac := hAW.cell (i := 0) rfl
  obtain ⟨T, hT⟩ : ∃ T, (l.filter fun c => abtZ c it r) = T := ⟨_, rfl⟩
  rw [hT] at hY ⊢
  have HT := Lib.hid hT
  clear hA hB hC hS hM hT
  refine callsIn_of_wp Tryz.func114 rfl (hwide _) ?_ hro
  simp only [Tryz.ntmps114, List.size_toArray, List.length_cons, List.length_nil, Nat.reduceAdd, Nat.reduceSub, Array.replicate_succ, Array.replicate_zero, List.push_toArray, List.append_toArray, List.nil_append, List.cons_append]
  gi_wp2_with fail
  gi_loopw [9] (fun i wr => ∃ (k : Nat) (M : Nat → Prop), i = .int .i64 k ∧ k ≤ l.length ∧ J ((l.take k).filter fun c => abtZ c it r) M wr ∧ (∀ j, M j → j < wr.heap.size ∧ n₀ ≤ j ∧ j ≠ A ∧ j ≠ B ∧ j ≠ C) ∧
      Arr wr A 30 [.slice p l.length cap] ∧ Arr wr B 3 [iv it] ∧ Arr wr C 3 [iv r] ∧ ClAt wr n₀ p l ∧ W.heap.size ≤ wr.heap.size)
    (fun i _ => l.length - (intOf i).toNat)
  case atStart => exact ⟨0, M0, rfl, Nat.zero_le _, h0, hMC, hAW, hBW, hCW, hSW, Nat.le_refl _⟩
  case round =>
    obtain ⟨k, M, rfl, hk, hJs, hMs, ka, kb, kc, ks, hWr⟩ := hrel
    clear h0 hMC hAW hBW hCW hSW ac
    by_cases hlt : k < l.length
    · obtain ⟨b, o, rfl, hb, c0, c1, c2, c3, c4, c5, c6, c7⟩ := ks.cells hlt
      obtain ⟨c, hc0⟩ : ∃ c, l.getD k Cl.zero = c := ⟨_, rfl⟩
      have hstep := filt_snoc (f := fun c => abtZ c it r) hlt hc0
      have hpre := filt_pre (l := l) (k + 1) fun c => abtZ c it r
      rw [HT.out, hstep] at hpre
      rw [hc0] at c0 c1 c2 c3 c4 c5 c6 c7
      have hVal := fun W => cvalid_any c W
      have hCon := fun W => ccontains_any c.rg r W
      clear hc0
      obtain ⟨ck, cit, cfr, cto, crg, cn, ca, cb⟩ := c
      have hab : abtZ ⟨ck, cit, cfr, cto, crg, cn, ca, cb⟩ it r = ((cit == it) && conZ crg r && vldZ ⟨ck, cit, cfr, cto, crg, cn, ca, cb⟩) := rfl
      rw [hab] at hstep hpre
      simp only at c0 c1 c2 c3 c4 c5 c6 c7 hVal hCon
      generalize vldZ ⟨ck, cit, cfr, cto, crg, cn, ca, cb⟩ = v at *
      generalize conZ crg r = q at *
      have i1 : (0 : Int) ≤ (k : Int) := by omega
      have i2 : (k : Int) < (l.length : Int) := by omega
      have b0 : Below wr.heap.size wr (wr.alloc (.cells #[iv ck, iv cit, iv cfr, iv cto, iv crg, iv cn, iv ca, iv cb] 53)) := (Below.refl _ _).alloc (Nat.le_refl _) _
      have kb0 := kb.below b0 kb.lt
      have kc0 := kc.below b0 kc.lt
      have eb := kb0.cell (i := 0) rfl
      have ec := kc0.cell (i := 0) rfl
      have hnW : n₀ ≤ wr.heap.size := by omega
      have next : ∀ W' : World, Below wr.heap.size wr W' → (cit == it && q && v) = false → ∃ M, J ((l.take (k + 1)).filter fun c => abtZ c it r) M W' ∧ (∀ j, M j → j < W'.heap.size ∧ n₀ ≤ j ∧ j ≠ A ∧ j ≠ B ∧ j ≠ C) ∧
          Arr W' A 30 [.slice (some ⟨b, o, none⟩) l.length cap] ∧ Arr W' B 3 [iv it] ∧ Arr W' C 3 [iv r] ∧ ClAt W' n₀ (some ⟨b, o, none⟩) l ∧ W.heap.size ≤ W'.heap.size := fun W' bW hf => by
        rw [hf, if_neg (by simp), List.append_nil] at hstep
        have := bW.size
        exact ⟨M, hstep ▸ hJ _ _ _ _ hJs (Turns.of_below bW), fun j hj => by have := hMs j hj; omega, ka.below bW ka.lt, kb.below bW kb.lt, kc.below bW kc.lt, ks.below (bW.mono hnW), by omega⟩
      have NX := Lib.hid next
      clear next hab
      cases e1 : (cit == it) with
      | false =>
        rw [e1] at NX
        clear hVal hCon
        gi_wp2_with fail
        obtain ⟨M', n1, n2, n3, n4, n5, n6, n7⟩ := NX.out _ b0 rfl
        exact ⟨⟨k + 1, M', by go_num, by omega, n1, n2, n3, n4, n5, n6, n7⟩, by simp [intOf]; omega⟩
      | true =>
        rw [e1] at NX hpre hstep
        gi_wp2_with fail
        refine (callsIn_wide.2 (hCon _)).mono ?_
        rintro e w1 ⟨rfl, rfl⟩
        cases q with
        | false =>
          clear hVal hCon
          gi_wp2_with fail
          obtain ⟨M', n1, n2, n3, n4, n5, n6, n7⟩ := NX.out _ b0 rfl
          exact ⟨⟨k + 1, M', by go_num, by omega, n1, n2, n3, n4, n5, n6, n7⟩, by simp [intOf]; omega⟩
        | true =>
          clear hCon
          gi_wp2_with fail
          refine (callsIn_wide.2 (hVal _)).mono ?_
          rintro e w1 ⟨rfl, b1⟩
          have b01 := bthen b0 b1
          cases v with
          | false =>
            clear hVal
            gi_wp2_with fail
            obtain ⟨M', n1, n2, n3, n4, n5, n6, n7⟩ := NX.out _ b01 rfl
            exact ⟨⟨k + 1, M', by go_num, by omega, n1, n2, n3, n4, n5, n6, n7⟩, by simp [intOf]; omega⟩
          | true =>
            rw [if_pos (by simp)] at hpre hstep
            have A1 := (Arr.new wr 53 [iv ck, iv cit, iv cfr, iv cto, iv crg, iv cn, iv ca, iv cb]).below b1 (by simp)
            have q0 := A1.cell (i := 0) rfl
            have q1 := A1.cell (i := 1) rfl
            have q2 := A1.cell (i := 2) rfl
            have q3 := A1.cell (i := 3) rfl
            have q4 := A1.cell (i := 4) rfl
            have q5 := A1.cell (i := 5) rfl
            have q6 := A1.cell (i := 6) rfl
            have q7 := A1.cell (i := 7) rfl
            have hJ1 := hJ _ _ _ _ hJs (Turns.of_below b01)
            have z1 := b01.size
            clear hVal NX A1
            gi_wp2_with fail
            obtain ⟨fn, tmps, assign, body, hy, hR⟩ := hY _ ⟨ck, cit, cfr, cto, crg, cn, ca, cb⟩ M w1 hJ1 hpre
            unfold encC at hy
            dsimp only at hy
            rw [hy]
            gi_wp2
            refine hR.mono ?_
            rintro e W3 ⟨M', (⟨rfl, hG, hJ3⟩ | ⟨rfl, hJx3⟩)⟩
            · have m0 : ∀ j, M' j → j < W3.heap.size ∧ n₀ ≤ j ∧ j ≠ A ∧ j ≠ B ∧ j ≠ C := fun j hj => by
                have h1 := hG.lt j hj
                have := ka.lt
                have := kb.lt
                have := kc.lt
                rcases hG.new j hj with h | h
                · have := hMs j h; exact ⟨h1, this.2⟩
                · exact ⟨h1, by omega⟩
              have ka3 := hG.turns.arr (ka.below b01 ka.lt) (fun h => (m0 _ h).2.2.1 rfl)
              have kb3 := hG.turns.arr (kb.below b01 kb.lt) (fun h => (m0 _ h).2.2.2.1 rfl)
              have kc3 := hG.turns.arr (kc.below b01 kc.lt) (fun h => (m0 _ h).2.2.2.2 rfl)
              have ks3 := (ks.below (b01.mono hnW)).below (hG.turns.below (by omega) (fun j hj => (m0 j hj).2.1))
              have z3 := hG.turns.size
              rw [← hstep] at hJ3
              clear hR hJ1
              gi_wp2_with fail
              exact ⟨⟨k + 1, M', by go_num, by omega, hJ3, m0, ka3, kb3, kc3, ks3, by omega⟩, by simp [intOf]; omega⟩
            · gi_wp2
              refine bodyPost_ret (results_none rfl _ _ _) rfl ?_
              exact ⟨⟨_, rfl⟩, .inr ⟨_, M', hpre, hJx3⟩⟩
    · obtain rfl : k = l.length := by omega
      rw [List.take_length, HT.out] at hJs
      gi_wp2_with fail
      go_end0
      exact ⟨⟨_, rfl⟩, .inl ⟨M, hJs⟩⟩
end Go.Proofs.YtfannkpnmaeljaaGreatDoor

/- Runs, Catchup: the last clause's number. -/
namespace Go.Proofs.YtfannkpnmaeljaaGreatDoor
open Go.RowKit Go.Shelf
attribute [local go_sem] Oper.semAt_some

set_option maxRecDepth 100000 in
set_option maxHeartbeats 4000000 in
theorem last_any (p : Option Addr) (cap : Nat) (l : List Cl) (kd it r z : Int) (w : World) (hS : ClAt w w.heap.size p l) (hlen : l.length ≤ 100000) :
    Calls Tryz.prog 75 #[.slice p l.length cap, iv kd, iv it, iv r, iv z] w fun e w' => e = .returned (iv (lastZ l kd it r z)) ∧ Below w.heap.size w w' := by
  obtain ⟨V, hV⟩ : ∃ V, lastZ l kd it r z = V := ⟨_, rfl⟩
  rw [hV]
  have HV := Lib.hid hV
  have HS := Lib.hid hS
  clear hV hS
  refine (callsIn_wide (n := 5)).1 ?_
  have hwide : ∀ f, Fence.wide.fn f := fun _ => trivial
  have hro : Fence.wide.round = none := rfl
  have h1 : 1 ≤ 5 := by omega
  refine callsIn_of_wp_marks Tryz.func75 rfl (hwide _) ?_ hro
  simp only [Tryz.ntmps75, List.size_toArray, List.length_cons, List.length_nil, Nat.reduceAdd, Nat.reduceSub, Array.replicate_succ, Array.replicate_zero, List.push_toArray, List.append_toArray, List.nil_append, List.cons_append]
  gi_wp2_with fail
  obtain ⟨W0, hW0, b0, z0, kg, kk⟩ : ∃ W0, (w.alloc (.cells #[iv kd] 3)).alloc (.cells #[iv z] 3) = W0 ∧ Below w.heap.size w W0 ∧ W0.heap.size = w.heap.size + 2 ∧
      Arr W0 w.heap.size 3 [iv kd] ∧ Arr W0 (w.heap.size + 1) 3 [iv z] :=
    ⟨_, rfl, ((Below.refl _ w).alloc (Nat.le_refl _) _).alloc (by simp) _, by simp, (Arr.new w _ [iv kd]).alloc _, Arr.new' _ [iv z] (by simp)⟩
  try rw [hW0]
  clear hW0
  gi_wp2_with (gi_at_call 94; refine (about_in _ _ (hwide _) hro _ _ _ _ _ _).mono ?_; rintro e w' ⟨rfl, rfl⟩)
  obtain ⟨W3, hW3, b3, z3, kA, kB, kC⟩ : ∃ W3, ((W0.alloc (.cells #[.slice p l.length cap] 30)).alloc (.cells #[iv it] 3)).alloc (.cells #[iv r] 3) = W3 ∧ Below W0.heap.size W0 W3 ∧ W3.heap.size = W0.heap.size + 3 ∧
      Arr W3 W0.heap.size 30 [.slice p l.length cap] ∧ Arr W3 (W0.heap.size + 1) 3 [iv it] ∧ Arr W3 (W0.heap.size + 2) 3 [iv r] :=
    ⟨_, rfl, (((Below.refl _ W0).alloc (Nat.le_refl _) _).alloc (by simp) _).alloc (by simp; omega) _, by simp, ((Arr.new W0 _ [.slice p l.length cap]).alloc _).alloc _, (Arr.new' _ [iv it] (by simp)).alloc _, Arr.new' _ [iv r] (by simp)⟩
  try rw [hW3]
  clear hW3
  have b03 := bthen b0 b3
  have kg := kg.below b3 (by omega)
  have kk := kk.below b3 (by omega)
  have hh := about_hands 4 (by omega) W0.heap.size (W0.heap.size + 1) (W0.heap.size + 2) w.heap.size p cap l it r W3 (by omega) kA kB kC (HS.out.below b03) hlen
  obtain ⟨N, hN⟩ : ∃ N, w.heap.size = N := ⟨_, rfl⟩
  obtain ⟨Q, hQ⟩ : ∃ Q, N + 2 = Q := ⟨_, rfl⟩
  obtain ⟨K, hK⟩ : ∃ K, N + 1 = K := ⟨_, rfl⟩
  rw [hN] at kg kk hh z0 b03 ⊢
  rw [z0] at hh z3
  rw [hQ] at hh z3 ⊢
  rw [hK] at kk ⊢
  have hKN : N < K := by omega
  have hKQ : K < Q := by omega
  clear kA kB kC b3 b0
  obtain ⟨T, hT⟩ : ∃ T, (l.filter fun c => abtZ c it r) = T := ⟨_, rfl⟩
  rw [hT] at hh
  have HVT : Hid (T.foldl (fun n c => if c.k = kd then c.n else n) z = V) := Lib.hid (by rw [← hT]; exact HV.out)
  clear HV hT
  refine wpIn_rangeFunc_hands hro h1 (gf := 114) (lb := #[.pointer (some ⟨Q, 0, none⟩), .pointer (some ⟨Q + 1, 0, none⟩), .pointer (some ⟨Q + 2, 0, none⟩)]) rfl (hwide _) (enters_of Tryz.func114 (by kernel_rfl) rfl)
    hh (Below.refl _ _) (fun _ => rfl)
    (fun pre M W => Arr W K 3 [iv (pre.foldl (fun n c => if c.k = kd then c.n else n) z)] ∧ M K ∧ (∀ j, M j → j = K) ∧ Arr W N 3 [iv kd] ∧ Below N w W)
    (fun _ _ _ _ => False)
    (fun xs M A B h ht => by
      obtain ⟨q1, q2, q3, e2, e3⟩ := h
      exact ⟨ht.arr q1 (fun h => h.2 q2), q2, q3, ht.arr e2 (fun h => by have := h.1; omega), e3.trans (ht.below (by have := e3.size; omega) (fun k hk => by omega))⟩)
    (fun _ _ _ _ _ h _ => h)
    (fun k => k = K) (fun k hk => by subst hk; omega) ⟨kk, rfl, fun _ h => h, kg, b03⟩ 53 (fun c => [iv c.k, iv c.it, iv c.fr, iv c.to, iv c.rg, iv c.n, iv c.a, iv c.b])
    ?a1 ?assign ?body ?done ?stop
  case assign =>
    intro l x W K hK
    unfold encC
    gi_wp2
    have hK' := hK W.heap.size _ (Nat.le_refl _) ((Below.refl _ W).alloc (Nat.le_refl _) _) (Arr.new W 53 [iv x.k, iv x.it, iv x.fr, iv x.to, iv x.rg, iv x.n, iv x.a, iv x.b])
    clear hK
    generalize W.heap.size = g at *
    exact hK'
  case body =>
    rintro lp pre x gp M W ⟨q1, q2, q3, kgW, bW⟩ hpre kp hMg hMl hWs
    obtain ⟨ck, cit, cfr, cto, crg, cn, ca, cb⟩ := x
    dsimp only at kp
    have c0 := kp.cell (i := 0) rfl
    have c5 := kp.cell (i := 5) rfl
    have d0 := kgW.cell (i := 0) rfl
    have f0 := q1.frozen 0
    have hfold : (pre ++ [(⟨ck, cit, cfr, cto, crg, cn, ca, cb⟩ : Cl)]).foldl (fun n c => if c.k = kd then c.n else n) z = if ck = kd then cn else pre.foldl (fun n c => if c.k = kd then c.n else n) z := by rw [List.foldl_append]; rfl
    have HFo := Lib.hid hfold
    have g0 := q1.cell (i := 0) rfl
    clear hfold hpre hh
    generalize pre.foldl (fun n c => if c.k = kd then c.n else n) z = y at *
    cases e1 : (ck == kd) with
    | false =>
      have e2 : ¬ ck = kd := by simpa using e1
      gi_wp2_with fail
      exact ⟨M, grown_below hMl (Below.refl _ _), by rw [HFo.out, if_neg e2]; exact q1, q2, q3, kgW, bW⟩
    | true =>
      have e2 : ck = kd := by simpa using e1
      have hlt := hMl K q2
      gi_wp2_with fail
      exact ⟨M, ⟨fun _ h => h, fun _ h => .inl h, fun k hk => by have := hMl k hk; simpa using this, (Turns.refl _ _).of_setCell (.inl q2) _⟩, by rw [HFo.out, if_pos e2]; exact q1.set 0 (iv cn), q2, q3, kgW.set_other 0 (iv cn) (by omega), bW.setCell (by simp; omega) _⟩
  case done =>
    rintro D M W hD hMD ⟨q1, q2, q3, e8, e9⟩ hKd
    rw [HVT.out] at q1
    have c3 := q1.cell (i := 0) rfl
    gi_wp2
    refine ⟨by simp, .inl ⟨_, _, rfl, run_takeDeferred hKd, ?_⟩⟩
    refine ⟨_, results_tmp rfl _ _ _, rfl, ?_⟩
    exact hN ▸ e9.trans (belowK_b (w := w) (by omega) W D _ _ (by omega) hKd rfl rfl)
  case stop =>
    rintro D c pre M W hD hMD hpre h hKd
    exact h.elim

theorem runs_any (p : Option Addr) (cap : Nat) (l : List Cl) (it r : Int) (w : World) (hS : ClAt w w.heap.size p l) (hlen : l.length ≤ 100000) :
    Calls Tryz.prog 46 #[.slice p l.length cap, iv it, iv r] w fun e w' => e = .returned (iv (lastZ l 3 it r (-1))) ∧ Below w.heap.size w w' := by
  have h := last_any p cap l 3 it r (-1) w hS hlen
  generalize lastZ l 3 it r (-1) = V at *
  clear hS
  go_enter Tryz.func46, Tryz.ntmps46
  go_wp2_with fail
  refine h.mono ?_
  rintro e w1 ⟨rfl, b1⟩
  go_wp2_with fail
  go_ret
  exact ⟨rfl, b1⟩
theorem catchup_any (p : Option Addr) (cap : Nat) (l : List Cl) (it r : Int) (w : World) (hS : ClAt w w.heap.size p l) (hlen : l.length ≤ 100000) :
    Calls Tryz.prog 53 #[.slice p l.length cap, iv it, iv r] w fun e w' => e = .returned (iv (lastZ l 4 it r 0)) ∧ Below w.heap.size w w' := by
  have h := last_any p cap l 4 it r 0 w hS hlen
  generalize lastZ l 4 it r 0 = V at *
  clear hS
  go_enter Tryz.func53, Tryz.ntmps53
  go_wp2_with fail
  refine h.mono ?_
  rintro e w1 ⟨rfl, b1⟩
  go_wp2_with fail
  go_ret
  exact ⟨rfl, b1⟩
end Go.Proofs.YtfannkpnmaeljaaGreatDoor

/- copy between rows whose elements take several cells; append of zeros; rows of spans under cuts. -/
namespace Go.Proofs.YtfannkpnmaeljaaGreatDoor
open Go.RowKit

theorem run_copy_wide {P : Program} (w : World) (dT sT ty elem : TypeId) (g o dLen dCap : Nat) (a : Addr) (sLen sCap : Nat) (cur : Array Value) (t : TypeId) (m size : Nat) (cs : List Value)
    (hu : P.underlying dT = some (.slice elem)) (hs : (P.info? elem).map (·.size) = some size)
    (hg : w.heap[g]? = some (.cells cur t (0, 0))) (hm : Nat.min sLen dLen = m) (hn : cs.length = m * size)
    (hsrc : ∀ j v, cs[j]? = some v → w.cell? (a.add j) = some v) (hfit : o + cs.length ≤ cur.size) (h1 : ∀ v ∈ cs, v.oneCell' = true) :
    (Builtin.copy_ #[dT, sT] ty #[.slice (some ⟨g, o, none⟩) dLen dCap, .slice (some a) sLen sCap]).run P w =
      .ok (goInt m) (w.setRow g (cur.toList.take o ++ cs ++ cur.toList.drop (o + cs.length)).toArray) := by
  have hl := run_loadCells_list (P := P) w a cs hsrc
  have hst := run_storeCells_at P g o t cs 0 cur w hg (by simpa using hfit) h1
  cases hq : P.info? elem with
  | none => simp [hq] at hs
  | some i =>
    have hi : i.size = size := by simpa [hq] using hs
    rw [hn] at hl
    simp [Builtin.copy_, run_underlying hu, Builtin.lenOf, Builtin.firstCells, sizeOf, typeInfo, hq, hi, hm, hl, hst]

theorem run_copy_wide0 {P : Program} (w : World) (dT sT ty elem : TypeId) (d a : Option Addr) (dLen dCap sLen sCap size : Nat) (hu : P.underlying dT = some (.slice elem)) (hs : (P.info? elem).map (·.size) = some size) (hn : Nat.min sLen dLen = 0) :
    (Builtin.copy_ #[dT, sT] ty #[.slice d dLen dCap, .slice a sLen sCap]).run P w = .ok (goInt 0) w := by
  cases hq : P.info? elem with
  | none => simp [hq] at hs
  | some i =>
    have hl : ∀ (x : Addr), (loadCells x 0).run P w = .ok #[] w := fun x => by simpa using run_loadCells_list (P := P) w x [] (by simp)
    cases d <;> cases a <;> simp [Builtin.copy_, run_underlying hu, Builtin.lenOf, Builtin.firstCells, sizeOf, typeInfo, hq, hn, storeCells, hl]

/-- copy onto a row that lies whole: m elements go over, or none. -/
theorem wpList_copy_wide {P : Program} {w : World} {ops : Array Oper} {rest : List Oper} {o : Oper} {a : Act} {Q : Exit → Act → World → Prop} (hgd : o.guard = none) (d s : Operand) (dT sT : TypeId)
    (ho : o.op = .call { callee := .builtin .copy, args := #[d, s], argTypes := #[dT, sT] }) (elem : TypeId) (size : Nat) (hu : P.underlying dT = some (.slice elem)) (hsz : (P.info? elem).map (·.size) = some size)
    (dp sp : Option Addr) (dLen dCap sLen sCap : Nat) (hd : a.eval d = .slice dp dLen dCap) (hs : a.eval s = .slice sp sLen sCap)
    (g off : Nat) (cur : List Value) (t : TypeId) (hg : Arr w g t cur) (m : Nat) (hm : Nat.min sLen dLen = m) (cs : List Value) (hn : cs.length = m * size)
    (hpos : 0 < m → dp = some ⟨g, off, none⟩ ∧ ∃ ad, sp = some ad ∧ ∀ j v, cs[j]? = some v → w.cell? (ad.add j) = some v) (hfit : off + cs.length ≤ cur.length) (h1 : ∀ v ∈ cs, v.oneCell' = true)
    (h : ∀ w', Hid (Arr w' g t (splice cur off cs)) → Turns (fun k => k = g) w w' → wpList P ops Q rest (a.put o.dst (goInt m)) w') : wpList P ops Q (o :: rest) a w := by
  refine wpList_plain hgd fun K hK => ?_
  rcases Nat.eq_zero_or_pos m with h0 | h0
  · subst h0
    have hrun := run_copy_wide0 (P := P) w dT sT o.type elem dp sp dLen dCap sLen sCap size hu hsz hm
    have hcs : cs = [] := List.eq_nil_of_length_eq_zero (by omega)
    unfold Oper.wp
    simp [execOp, ho, resolve, invoke, builtin, hd, hs, hrun, Result.andThen]
    refine hK _ _ (h _ (show Arr w g t _ by simpa [splice, hcs] using hg) (Turns.refl _ _))
  · obtain ⟨rfl, ad, rfl, hsrc⟩ := hpos h0
    have hrun := run_copy_wide (P := P) w dT sT o.type elem g off dLen dCap ad sLen sCap cur.toArray t m size cs hu hsz hg hm hn hsrc (by simpa using hfit) h1
    unfold Oper.wp
    simp [execOp, ho, resolve, invoke, builtin, hd, hs, hrun, Result.andThen]
    refine hK _ _ (h _ (show _ = _ by simpa [splice] using setRow_heap w g _ _ t _ hg) ?_)
    exact ⟨rfl, rfl, rfl, by simp [World.setRow], fun k _ hne => setRow_other _ _ _ _ hne⟩

theorem splice_app {α : Type} (A X cs : List α) (off : Nat) (h : off = A.length) : splice (A ++ X) off cs = A ++ cs ++ X.drop cs.length := by
  subst h
  unfold splice
  rw [List.take_left, ← List.drop_drop, List.drop_left, List.append_assoc]
theorem infoS2 : (Tryz.prog.info? 34).map (·.size) = some 2 := by kernel_rfl

/-- An own row, its block known whole. -/
theorem own_open {W : World} {N g n cap : Nat} {l : List (Int × Int)} (h : W.ownsRow N 34 2 (.slice (some ⟨g, 0, none⟩) n cap) n (spv l)) :
    ∃ X, Arr W g 34 (spv l ++ X) ∧ N ≤ g ∧ n ≤ cap ∧ cap ≤ 9223372036854775807 ∧ (spv l ++ X).length = cap * 2 ∧ l.length = n := by
  have hl : l.length = n := by have := h.1; rw [spv_len] at this; omega
  rcases h.2 with ⟨h0, _⟩ | ⟨g', cap', cur, e, hb, hg, hnc, hcm, hcs, ht⟩
  · cases h0
  · simp only [Value.slice.injEq, Option.some.injEq, Addr.mk.injEq] at e
    obtain ⟨⟨rfl, -⟩, -, rfl⟩ := e
    refine ⟨cur.toList.drop (n * 2), ?_, hb, hnc, by unfold maxLen at hcm; exact hcm, ?_, hl⟩
    · rw [← ht, List.take_append_drop]
      exact hg
    · rw [← ht, List.take_append_drop]
      simpa using hcs
theorem own_shut {W : World} {N g n cap : Nat} {l : List (Int × Int)} {X : List Value} (h : Arr W g 34 (spv l ++ X)) (hb : N ≤ g) (hn : n ≤ cap) (hc : cap ≤ 9223372036854775807) (hX : (spv l ++ X).length = cap * 2) (hl : l.length = n) :
    W.ownsRow N 34 2 (.slice (some ⟨g, 0, none⟩) n cap) n (spv l) := by
  refine ⟨by rw [spv_len, hl], .inr ⟨g, cap, (spv l ++ X).toArray, rfl, hb, h, hn, by unfold maxLen; exact hc, by simpa using hX, ?_⟩⟩
  rw [← hl, ← spv_len]
  simp

theorem overlaps_no (W : World) (a b oa ob la ca lb cb : Nat) (us vs : List Value) (ha : Arr W a 34 us) (hb : Arr W b 34 vs) (hne : a ≠ b) (hvs : vs.length ≠ 0) :
    (callFunc 139 #[.slice (some ⟨a, oa, none⟩) la ca, .slice (some ⟨b, ob, none⟩) lb cb]).run Tryz.prog W = .ok (.value (.bool false)) W := by
  have hsa : W.shape? a = some (34, us.length) := by unfold World.shape?; rw [ha]; simp
  have hsb : W.shape? b = some (34, vs.length) := by unfold World.shape?; rw [hb]; simp
  rw [run_callFunc_extern Tryz.func139 (by kernel_rfl) (by kernel_rfl) (by kernel_rfl) (e := Extern.SlicesOverlaps.overlaps #[40, 40] #[4]) (by kernel_rfl),
    Lib.run_overlaps_apart W 40 4 34 Tryz.underlying40 2 Tryz.sizeOf34 ⟨a, oa, none⟩ ⟨b, ob, none⟩ la ca lb cb hne 34 34 us.length vs.length hsa hsb hvs (ha.frozen oa) (ha.frozen us.length)]
  rfl
end Go.Proofs.YtfannkpnmaeljaaGreatDoor

/- slices.Insert of spans. -/
namespace Go.Proofs.YtfannkpnmaeljaaGreatDoor
open Go.RowKit

theorem dropd {l : List (Int × Int)} (i : Nat) : spv l = spv (l.take i) ++ spv (l.drop i) := by
  rw [← spv_append, List.take_append_drop]
theorem spv_take_len {l : List (Int × Int)} {i : Nat} (h : i ≤ l.length) : (spv (l.take i)).length = i * 2 := by rw [spv_len, List.length_take, Nat.min_eq_left h]
theorem spv_drop_len {l : List (Int × Int)} {i : Nat} : (spv (l.drop i)).length = (l.length - i) * 2 := by rw [spv_len, List.length_drop]
theorem Arr.at {W : World} {B : Nat} {t : TypeId} {vs : List Value} (h : Arr W B t vs) (o : Nat) (cs : List Value) (hc : ∀ j u, cs[j]? = some u → vs[o + j]? = some u) : ∀ j u, cs[j]? = some u → W.cell? ((⟨B, o, none⟩ : Addr).add j) = some u := fun j u hj => by
  have e : (⟨B, o, none⟩ : Addr).add j = ⟨B, o + j, none⟩ := by unfold Addr.add; split <;> simp_all
  rw [e]
  exact h.cell (hc j u hj)
theorem mid_get {α : Type} (A M Z : List α) (o : Nat) (ho : o = A.length) : ∀ (j : Nat) (u : α), M[j]? = some u → (A ++ (M ++ Z))[o + j]? = some u := fun j u hj => by
  subst ho
  have hlt : j < M.length := (List.getElem?_eq_some_iff.1 hj).1
  rw [List.getElem?_append_right (by omega), show A.length + j - A.length = j by omega, List.getElem?_append_left hlt, hj]

/-- What an insertion or a replacement leaves: the row that came in or a new one. -/
def Put (w : World) (N g : Nat) (l : List (Int × Int)) (e : Ending) (w' : World) : Prop :=
  ∃ v, e = .returned v ∧ w'.ownsRow N 34 2 v l.length (spv l) ∧ Turns (fun k => k = g) w w' ∧ ∀ j, v.ownBlock = some j → j = g ∨ w.heap.size ≤ j

set_option maxRecDepth 100000 in
set_option maxHeartbeats 4000000 in
theorem insert_room (N g n cap i m cq qb : Nat) (l V : List (Int × Int)) (Y : List Value) (w : World) (h : w.ownsRow N 34 2 (.slice (some ⟨g, 0, none⟩) n cap) n (spv l))
    (hV : Arr w qb 34 (spv V ++ Y)) (hm : V.length = m) (hqg : qb ≠ g) (hi : i < n) (hm1 : 1 ≤ m) (hroom : n + m ≤ cap) (hn : n ≤ 100000) (hmm : m ≤ 100000) :
    Calls Tryz.prog 138 #[.slice (some ⟨g, 0, none⟩) n cap, iv i, .slice (some ⟨qb, 0, none⟩) m cq] w (Put w N g (l.take i ++ V ++ l.drop i)) := by
  obtain ⟨X, hA, hNg, hnc, hc63, hXl, hl⟩ := own_open h
  have hgl := hA.lt
  have hqb := hV.lt
  have hL : (spv l ++ X).length ≠ 0 := by rw [hXl]; omega
  have hov : ∀ (W : World) (la ca lb cb : Nat), Turns (fun k => k = g) w W → Arr W g 34 (spv l ++ X) → (callFunc 139 #[.slice (some ⟨qb, 0, none⟩) la ca, .slice (some ⟨g, (i + m) * 2, none⟩) lb cb]).run Tryz.prog W = .ok (.value (.bool false)) W := fun W la ca lb cb hW hG =>
    overlaps_no W qb g 0 ((i + m) * 2) la ca lb cb _ _ (hW.arr hV hqg) hG hqg hL
  have hov0 := fun la ca lb cb => hov w la ca lb cb (Turns.refl _ _) hA
  -- the row behind each copy
  have e1 : spv l ++ X = spv (l.take i) ++ (spv (l.drop i) ++ X) := by rw [dropd (l := l) i, List.append_assoc]
  have l1 := spv_take_len (l := l) (i := i) (by omega)
  have l2 := spv_drop_len (l := l) (i := i)
  have l3 := spv_len V
  have lX : X.length = cap * 2 - n * 2 := by rw [List.length_append, spv_len] at hXl; omega
  generalize hP : spv (l.take i) = P at *
  generalize hD : spv (l.drop i) = D at *
  have hfin : ∀ C, C = splice (splice (P ++ (D ++ X)) ((i + m) * 2) D) (i * 2) (spv V) → ∃ Z, C = spv (l.take i ++ V ++ l.drop i) ++ Z ∧ C.length = cap * 2 := by
    intro C hC
    have f1 : P ++ (D ++ X) = (P ++ (D ++ X)).take ((i + m) * 2) ++ (P ++ (D ++ X)).drop ((i + m) * 2) := (List.take_append_drop _ _).symm
    have lf : ((P ++ (D ++ X)).take ((i + m) * 2)).length = (i + m) * 2 := by
      rw [List.length_take, ← e1, hXl]; omega
    have f2 : splice (P ++ (D ++ X)) ((i + m) * 2) D = P ++ (((D ++ X).take (m * 2)) ++ D ++ ((P ++ (D ++ X)).drop ((i + m) * 2)).drop D.length) := by
      conv => lhs; rw [f1]
      rw [splice_app _ _ _ _ lf.symm]
      have : (P ++ (D ++ X)).take ((i + m) * 2) = P ++ (D ++ X).take (m * 2) := by
        rw [List.take_append, List.take_of_length_le (by omega), show (i + m) * 2 - P.length = m * 2 by omega]
      rw [this]; simp
    rw [f2, splice_app _ _ _ _ l1.symm] at hC
    have lT : ((D ++ X).take (m * 2)).length = (spv V).length := by
      rw [List.length_take, List.length_append, l2, lX, l3]; omega
    rw [List.append_assoc ((D ++ X).take (m * 2)), ← lT, List.drop_left] at hC
    refine ⟨_, by rw [spv_append, spv_append, hP, hD, hC, List.append_assoc, List.append_assoc, List.append_assoc], ?_⟩
    rw [hC]
    simp only [List.length_append, List.length_drop, l1, l2, l3, lX]
    omega
  rw [e1] at hA hXl hov
  have hz1 : ¬ ((m : Int) = 0) := by omega
  have hz1' : ((m : Int) == 0) = false := by simp; omega
  have hz2' : ((i : Int) == (n : Int)) = false := by simp; omega
  have hz2 : ¬ ((i : Int) = (n : Int)) := by omega
  have hw0 : IntKind.i64.wrap ((n : Int) + (m : Int)) = (n : Int) + (m : Int) := by rw [IntKind.wrap_i64]; omega
  have hw1 : IntKind.i64.wrap ((i : Int) + (m : Int)) = (i : Int) + (m : Int) := by rw [IntKind.wrap_i64]; omega
  have hb0 : (0 : Int) ≤ (n : Int) + (m : Int) := by omega
  have hb1 : (0 : Int) ≤ (i : Int) + (m : Int) := by omega
  have htn : ((i : Int) + (m : Int)).toNat = i + m := by omega
  have htn0 : ((n : Int) + (m : Int)).toNat = n + m := by omega
  have hb2 : ¬ (cap = i + m) := by omega
  have hb3 : (i : Int) ≤ (n : Int) + (m : Int) := by omega
  have hb5 : (n : Int) + (m : Int) ≤ (cap : Int) := by omega
  have hb6 : ¬ ((cap : Int) < (n : Int) + (m : Int)) := by omega
  have hb7 : decide ((cap : Int) < (n : Int) + (m : Int)) = false := decide_eq_false hb6
  have hb4 : ¬ (cap = i) := by omega
  have hin : (i : Int) ≤ (n : Int) := by omega
  have HF := Lib.hid hfin
  have HOV := Lib.hid hov
  clear hfin hov h hov0 hz1 hz2
  go_enter Tryz.func138, Tryz.ntmps138
  go_wp2_with (rw [HOV.out _ _ _ _ _ (Turns.refl _ _) hA])
  go_still_tail 8, (by kernel_rfl)
  have hA0 := hA
  refine wpList_copy_wide rfl _ _ 40 40 rfl 34 2 Tryz.underlying40 infoS2 _ _ _ _ _ _ rfl rfl g ((i + m) * 2) (P ++ (D ++ X)) 34 hA0 (n - i) (by show min _ _ = _; omega) D (by rw [l2, hl]) (fun _ => ⟨rfl, _, rfl, hA0.at (i * 2) D (mid_get P D X _ l1.symm)⟩) (by rw [l2]; omega) (by rw [← hD]; exact spv_one _) ?_
  intro w2 HA2 ht2
  have hs2 := (ht2.arr hV hqg).at 0 (spv V) (fun j u hj => mid_get [] (spv V) Y 0 rfl j u hj)
  have hf2 : i * 2 + (spv V).length ≤ (splice (P ++ (D ++ X)) ((i + m) * 2) D).length := by
    rw [length_splice _ _ _ (by rw [hXl, l2]; omega), hXl, l3]; omega
  have hmn : Nat.min m (n + m - i) = m := by show min _ _ = _; omega
  rw [hm] at l3
  go_wp2_with (refine wpList_copy_wide rfl _ _ 40 40 rfl 34 2 Tryz.underlying40 infoS2 _ _ _ _ _ _ rfl rfl g (i * 2) (splice (P ++ (D ++ X)) ((i + m) * 2) D) 34 HA2.out m hmn (spv V) l3 (fun _ => ⟨rfl, _, rfl, hs2⟩) hf2 (spv_one _) ?_; intro w3 HA3 ht3)
  go_ret
  obtain ⟨Z, hZ1, hZ2⟩ := HF.out _ rfl
  have HA4 := HA3.out
  rw [hZ1] at HA4 hZ2
  have hll : (l.take i ++ V ++ l.drop i).length = n + m := by simp [hl, hm]; omega
  have ht := ht2.trans ht3
  refine ⟨_, rfl, ?_, ⟨ht.os, ht.tape, ht.output, ht.size, ht.block⟩, fun j hj => .inl ?_⟩
  · rw [hll]
    exact own_shut HA4 hNg (by omega) hc63 hZ2 hll
  · simpa [Value.ownBlock] using hj.symm
end Go.Proofs.YtfannkpnmaeljaaGreatDoor

/- slices.Insert of spans, where there is no room; at the end; nothing. -/
namespace Go.Proofs.YtfannkpnmaeljaaGreatDoor
open Go.RowKit

theorem wpList_append_eq {P : Program} {w : World} {ops : Array Oper} {rest : List Oper} {o : Oper} {a : Act} {Q : Exit → Act → World → Prop} (hgd : o.guard = none) (s x : Operand) (t tn : TypeId)
    (ho : o.op = .call { callee := .builtin .append, args := #[s, x], argTypes := #[t, tn] }) (vs vx : Value) (hs : a.eval s = vs) (hx : a.eval x = vx) (v' : Value) (W1 : World)
    (hrun : (Builtin.append_ #[t, tn] o.type #[vs, vx]).run P w = .ok v' W1) (h : wpList P ops Q rest (a.put o.dst v') W1) : wpList P ops Q (o :: rest) a w := by
  refine wpList_plain hgd fun K hK => ?_
  unfold Oper.wp
  simp [execOp, ho, resolve, invoke, builtin, hs, hx, hrun, Result.andThen]
  exact hK _ _ h

theorem infoI : Tryz.prog.underlying 3 = some (.int .i64) := Tryz.underlying3

/-- append of zeros where there is no room: a new row. -/
theorem append_zeros (w : World) (g n cap i k : Nat) (l : List (Int × Int)) (X : List Value) (hA : Arr w g 34 (spv l ++ X)) (hl : l.length = n) (hi : i ≤ n) (hk : 0 < k) (hg : cap < i + k) (hb : i + k ≤ 300000) :
    ∃ (cap2 : Nat) (Z : List Value) (W1 : World), (∀ ty, (Builtin.append_ #[40, 3] ty #[.slice (some ⟨g, 0, none⟩) i cap, .int .i64 k]).run Tryz.prog w = .ok (.slice (some ⟨w.heap.size, 0, none⟩) (i + k) cap2) W1) ∧
      Arr W1 w.heap.size 34 (spv (l.take i) ++ Z) ∧ (spv (l.take i) ++ Z).length = cap2 * 2 ∧ i + k ≤ cap2 ∧ cap2 ≤ 9223372036854775807 ∧ Below w.heap.size w W1 := by
  obtain ⟨i0, hi0, hz0, hz1, hz2⟩ := info_parts infoS
  have hP := spv_take_len (l := l) (i := i) (by omega)
  have hold : (Builtin.firstCells i0.size i (.slice (some ⟨g, 0, none⟩) i cap)).run Tryz.prog w.drew = .ok (spv (l.take i)).toArray w.drew := by
    have := run_loadCells_list (P := Tryz.prog) w.drew ⟨g, 0, none⟩ (spv (l.take i)) (hA.drew.at 0 _ (fun j u hj => by
      rw [dropd (l := l) i, List.append_assoc]
      exact mid_get [] (spv (l.take i)) _ 0 rfl j u hj))
    rw [hP] at this
    rw [hz1]
    exact this
  have hge := grownCap_ge w (i + k) cap 34
  have hle := grownCap_le_maxLen w (i + k) cap 34 (by unfold maxLen; omega)
  have hns := nextslicecap_le hg
  have hrun := fun ty => Lib.run_append_grow_zeros (P := Tryz.prog) w 40 3 ty 34 i0 (.agg #[.int .i64 0, .int .i64 0]) .i64 .i64 Tryz.underlying40 infoI hi0 hz0 (some ⟨g, 0, none⟩) i cap (spv (l.take i)) hold k hk (by omega) hg (by omega) (by rw [hz2]; omega) (by rw [hz2]; omega)
  generalize grownCap w (i + k) cap 34 = gc at *
  refine ⟨gc, (Builtin.zeroCells (Value.agg #[.int .i64 0, .int .i64 0]).cells k ++ Builtin.zeroCells (Value.agg #[.int .i64 0, .int .i64 0]).cells (gc - (i + k))).toList, _, hrun, ?_, ?_, hge, by unfold maxLen at hle; exact hle, ?_⟩
  · show _ = _
    have : ((spv (l.take i)).toArray ++ Builtin.zeroCells (Value.agg #[.int .i64 0, .int .i64 0]).cells k ++ Builtin.zeroCells (Value.agg #[.int .i64 0, .int .i64 0]).cells (gc - (i + k))) = (spv (l.take i) ++ (Builtin.zeroCells (Value.agg #[.int .i64 0, .int .i64 0]).cells k ++ Builtin.zeroCells (Value.agg #[.int .i64 0, .int .i64 0]).cells (gc - (i + k))).toList).toArray := by
      apply Array.toList_inj.1; simp
    rw [this]
    exact heap_alloc_new w.drew _
  · have z2 : ∀ x, (Builtin.zeroCells (Value.agg #[.int .i64 0, .int .i64 0]).cells x).size = x * 2 := fun x => by simp [Builtin.zeroCells, Value.cells]
    rw [List.length_append, hP, Array.length_toList, Array.size_append, z2, z2]
    omega
  · exact ((Below.refl _ w).drew.alloc (Nat.le_refl _) _)
end Go.Proofs.YtfannkpnmaeljaaGreatDoor

/- slices.Insert of spans: the other ways, and all of it. -/
namespace Go.Proofs.YtfannkpnmaeljaaGreatDoor
open Go.RowKit

set_option maxRecDepth 100000 in
set_option maxHeartbeats 4000000 in
theorem insert_grow (N g n cap i m cq qb : Nat) (l V : List (Int × Int)) (Y : List Value) (w : World) (h : w.ownsRow N 34 2 (.slice (some ⟨g, 0, none⟩) n cap) n (spv l))
    (hV : Arr w qb 34 (spv V ++ Y)) (hm : V.length = m) (hN : N ≤ w.heap.size) (hi : i < n) (hm1 : 1 ≤ m) (hroom : cap < n + m) (hn : n ≤ 100000) (hmm : m ≤ 100000) :
    Calls Tryz.prog 138 #[.slice (some ⟨g, 0, none⟩) n cap, iv i, .slice (some ⟨qb, 0, none⟩) m cq] w (Put w N g (l.take i ++ V ++ l.drop i)) := by
  obtain ⟨X, hA, hNg, hnc, hc63, hXl, hl⟩ := own_open h
  have hgl := hA.lt
  have hqb := hV.lt
  obtain ⟨k, hk⟩ : ∃ k, k = n + m - i := ⟨_, rfl⟩
  obtain ⟨cap2, Z, W1, hap, hB1, hZl, hc1, hc2, hb1⟩ := append_zeros w g n cap i k l X hA hl (by omega) (by omega) (by omega) (by omega)
  have l1 := spv_take_len (l := l) (i := i) (by omega)
  have l2 := spv_drop_len (l := l) (i := i)
  have l3 := spv_len V
  rw [hm] at l3
  have hA1 := hA.below hb1 hgl
  have hV1 := hV.below hb1 hqb
  rw [dropd (l := l) i, List.append_assoc] at hA1
  have lZ : Z.length = cap2 * 2 - i * 2 := by rw [List.length_append, l1] at hZl; omega
  generalize hP : spv (l.take i) = P at *
  generalize hD : spv (l.drop i) = D at *
  generalize hVV : spv V = VV at *
  have hfin : ∀ C, C = splice (splice (P ++ Z) (i * 2) VV) ((i + m) * 2) D → ∃ Z', C = spv (l.take i ++ V ++ l.drop i) ++ Z' ∧ C.length = cap2 * 2 := by
    intro C hC
    rw [splice_app _ _ _ _ l1.symm, splice_app _ _ _ _ (by rw [List.length_append, l1, l3]; omega)] at hC
    refine ⟨_, by rw [spv_append, spv_append, hP, hD, hVV, hC], ?_⟩
    rw [hC]
    simp only [List.length_append, List.length_drop, l1, l2, l3, lZ]
    omega
  have hz1' : ((m : Int) == 0) = false := by simp; omega
  have hz2' : ((i : Int) == (n : Int)) = false := by simp; omega
  have hw0 : IntKind.i64.wrap ((n : Int) + (m : Int)) = (n : Int) + (m : Int) := by rw [IntKind.wrap_i64]; omega
  have hw1 : IntKind.i64.wrap ((i : Int) + (m : Int)) = (i : Int) + (m : Int) := by rw [IntKind.wrap_i64]; omega
  have hkk : (n : Int) + (m : Int) - (i : Int) = (k : Int) := by omega
  have hw2 : IntKind.i64.wrap (k : Int) = (k : Int) := by rw [IntKind.wrap_i64]; omega
  have hb0 : (0 : Int) ≤ (n : Int) + (m : Int) := by omega
  have hb1' : (0 : Int) ≤ (i : Int) + (m : Int) := by omega
  have htn : ((i : Int) + (m : Int)).toNat = i + m := by omega
  have hb2 : ¬ (cap2 = i + m) := by omega
  have hb3 : (i : Int) ≤ ((i + k : Nat) : Int) := by omega
  have hb3' : (i : Int) + (m : Int) ≤ ((i + k : Nat) : Int) := by omega
  have hb7 : decide ((cap : Int) < (n : Int) + (m : Int)) = true := decide_eq_true (by omega)
  have hb8 : (i : Int) ≤ (cap : Int) := by omega
  have hb4 : ¬ (cap2 = i) := by omega
  have hb9 : ¬ (cap = i) := by omega
  have hin : (i : Int) ≤ (n : Int) := by omega
  have hik : i + k = n + m := by omega
  rw [hik] at hap hb3 hb3' hc1
  have HF := Lib.hid hfin
  have HK := Lib.hid hk
  have hmn : Nat.min m (n + m - i) = m := by show min _ _ = _; omega
  have hmn2 : Nat.min (n - i) (n + m - (i + m)) = n - i := by show min _ _ = _; omega
  have hs1 := hV1.at 0 VV (fun j u hj => mid_get [] VV Y 0 rfl j u hj)
  have hf1 : i * 2 + VV.length ≤ (P ++ Z).length := by rw [hZl, l3]; omega
  have hf2 : (i + m) * 2 + D.length ≤ (splice (P ++ Z) (i * 2) VV).length := by
    rw [length_splice _ _ _ hf1, hZl, l2]; omega
  have hoV : ∀ v ∈ VV, v.oneCell' = true := by rw [← hVV]; exact spv_one _
  have hoD : ∀ v ∈ D, v.oneCell' = true := by rw [← hD]; exact spv_one _
  have hgw : g ≠ w.heap.size := by omega
  rw [hl] at l2
  clear hfin h hk hik hV hA
  go_enter Tryz.func138, Tryz.ntmps138
  go_wp2_with (first | (at_builtin; refine wpList_append_eq rfl _ _ 40 3 rfl _ _ rfl rfl _ _ (hap _) ?_) | (refine wpList_copy_wide rfl _ _ 40 40 rfl 34 2 Tryz.underlying40 infoS2 _ _ _ _ _ _ rfl rfl w.heap.size (i * 2) (P ++ Z) 34 hB1 m hmn VV l3 (fun _ => ⟨rfl, _, rfl, hs1⟩) hf1 hoV ?_; intro w2 HA2 ht2))
  go_still_tail 8, (by kernel_rfl)
  have hA2 := ht2.arr hA1 hgw
  refine wpList_copy_wide rfl _ _ 40 40 rfl 34 2 Tryz.underlying40 infoS2 _ _ _ _ _ _ rfl rfl w.heap.size ((i + m) * 2) (splice (P ++ Z) (i * 2) VV) 34 HA2.out (n - i) hmn2 D l2 (fun _ => ⟨rfl, _, rfl, hA2.at (i * 2) D (mid_get P D X _ l1.symm)⟩) hf2 hoD ?_
  intro w3 HA3 ht3
  go_wp2_with fail
  go_ret
  obtain ⟨Z', hZ1, hZ2⟩ := HF.out _ rfl
  have HA4 := HA3.out
  rw [hZ1] at HA4 hZ2
  have hll : (l.take i ++ V ++ l.drop i).length = n + m := by simp [hl, hm]; omega
  have hb4' : Below w.heap.size w w3 := ((hb1.trans (ht2.below hb1.size (fun k hk => Nat.le_of_eq hk.symm))).drew).trans (ht3.below (Nat.le_trans hb1.size ht2.size) (fun k hk => Nat.le_of_eq hk.symm))
  refine ⟨_, rfl, ?_, ⟨hb4'.os, hb4'.tape, hb4'.output, hb4'.size, fun k hk _ => hb4'.block k hk⟩, fun j hj => .inr ?_⟩
  · rw [hll]
    exact own_shut HA4 hN (by omega) hc2 hZ2 hll
  · have : w.heap.size = j := by simpa [Value.ownBlock] using hj
    omega

/-- The parts of an own row: nil, or a block. -/
theorem own_form {W : World} {N : Nat} {v : Value} {l : List (Int × Int)} (h : W.ownsRow N 34 2 v l.length (spv l)) :
    (v = .slice none 0 0 ∧ l = []) ∨ ∃ g cap X, v = .slice (some ⟨g, 0, none⟩) l.length cap ∧ Arr W g 34 (spv l ++ X) := by
  rcases h.2 with ⟨rfl, h0⟩ | ⟨g, cap, cur, rfl, _⟩
  · exact .inl ⟨rfl, List.eq_nil_of_length_eq_zero h0⟩
  · obtain ⟨X, hA, _⟩ := own_open h
    exact .inr ⟨g, cap, X, rfl, hA⟩
theorem Put.joined {w : World} {N g : Nat} {v : Value} {l : List (Int × Int)} {e : Ending} {w' : World} (h : Put w N g l e w') (hv : v.ownBlock = some g) : Joined w N v l e w' := by
  obtain ⟨v', rfl, h1, h2, h3⟩ := h
  refine ⟨v', rfl, h1, h2.mono (fun k hk => by rw [hv, hk]), fun j hj => ?_⟩
  rcases h3 j hj with rfl | h
  · exact .inl hv
  · exact .inr h

set_option maxRecDepth 100000 in
set_option maxHeartbeats 4000000 in
theorem insert_none (N i : Nat) (v : Value) (l : List (Int × Int)) (q : Option Addr) (cq : Nat) (w : World) (h : w.ownsRow N 34 2 v l.length (spv l)) (hi : i ≤ l.length) (hn : l.length ≤ 100000) :
    Calls Tryz.prog 138 #[v, iv i, .slice q 0 cq] w (Joined w N v l) := by
  have hin : (i : Int) ≤ (l.length : Int) := by omega
  have hin0 : (0 : Int) ≤ (i : Int) := by omega
  have hd : ∃ p n c, v = .slice p n c ∧ n = l.length ∧ n ≤ c := by
    rcases own_form h with ⟨rfl, rfl⟩ | ⟨g, cap, X, rfl, _⟩
    · exact ⟨_, _, _, rfl, rfl, Nat.le_refl _⟩
    · obtain ⟨_, _, _, hc, _⟩ := own_open h
      exact ⟨_, _, _, rfl, rfl, hc⟩
  obtain ⟨p, n, c, rfl, hnl, hnc⟩ := hd
  have hi' : i ≤ n := by omega
  have hnl' := Lib.hid hnl
  clear hi hnl hn hin
  have HJ : Hid (Joined w N (.slice p n c) l (.returned (.slice p n c)) w) := Lib.hid ⟨_, rfl, h, Turns.refl _ _, fun j hj => .inl hj⟩
  have hnc' : (n : Int) ≤ (c : Int) := by omega
  have hic : (i : Int) ≤ (c : Int) := by omega
  have hin' : (i : Int) ≤ (n : Int) := by omega
  clear h
  by_cases hci : c = i
  · subst hci
    go_enter Tryz.func138, Tryz.ntmps138
    go_wp2_with fail
    all_goals
      go_ret
      exact HJ.out
  go_enter Tryz.func138, Tryz.ntmps138
  go_wp2_with fail
  all_goals
    go_ret
    exact HJ.out

set_option maxRecDepth 100000 in
set_option maxHeartbeats 4000000 in
theorem insert_end (N m cq qb : Nat) (v : Value) (l V : List (Int × Int)) (Y : List Value) (w : World) (h : w.ownsRow N 34 2 v l.length (spv l)) (hV : Arr w qb 34 (spv V ++ Y)) (hm : V.length = m) (hm1 : 1 ≤ m) (hN : N ≤ w.heap.size) (hn : l.length ≤ 100000) (hmm : m ≤ 100000) :
    Calls Tryz.prog 138 #[v, iv l.length, .slice (some ⟨qb, 0, none⟩) m cq] w (Joined w N v (l ++ V)) := by
  obtain ⟨i0, hi, hz0, hz1, hz2⟩ := info_parts infoS
  have hd : ∃ p n c, v = .slice p n c ∧ n = l.length ∧ n ≤ c := by
    rcases own_form h with ⟨rfl, rfl⟩ | ⟨g, cap, X, rfl, _⟩
    · exact ⟨_, _, _, rfl, rfl, Nat.le_refl _⟩
    · obtain ⟨_, _, _, hc, _⟩ := own_open h
      exact ⟨_, _, _, rfl, rfl, hc⟩
  obtain ⟨p, n, c, rfl, hnl, hnc⟩ := hd
  rw [← hnl] at h hn ⊢
  have l3 : (spv V).length = m * 2 := by rw [spv_len, hm]
  have hs := hV.at 0 (spv V) (fun j u hj => mid_get [] (spv V) Y 0 rfl j u hj)
  have hz1' : ((m : Int) == 0) = false := by simp; omega
  have hnc' : (n : Int) ≤ (c : Int) := by omega
  have HL : Hid ((l ++ V).length = n + m ∧ spv (l ++ V) = spv l ++ spv V) := Lib.hid ⟨by simp [hm, hnl], spv_append _ _⟩
  have hoV := spv_one V
  generalize spv V = VV at *
  clear hV hm hnl
  by_cases hcn : c = n
  · subst hcn
    go_enter Tryz.func138, Tryz.ntmps138
    go_wp2_with (at_builtin; refine wpList_append_mine _ rfl _ _ 40 rfl N 34 i0 (.agg #[.int .i64 0, .int .i64 0]) 2 16 Tryz.underlying40 hi hz0 hz1 hz2 rfl (by decide) (.slice p c c) c (spv l) rfl h ⟨qb, 0, none⟩ m cq VV rfl l3 hs hoV (by unfold maxLen; omega) (by omega) hN ?_; intro v' w2 hown' hgrow _ hnew)
    all_goals
      go_ret
      refine ⟨_, rfl, ?_, turns_grown (Below.refl _ _) hgrow, hnew⟩
      rw [HL.out.1, HL.out.2]
      exact hown'
  · skip
    go_enter Tryz.func138, Tryz.ntmps138
    go_wp2_with (at_builtin; refine wpList_append_mine _ rfl _ _ 40 rfl N 34 i0 (.agg #[.int .i64 0, .int .i64 0]) 2 16 Tryz.underlying40 hi hz0 hz1 hz2 rfl (by decide) (.slice p n c) n (spv l) rfl h ⟨qb, 0, none⟩ m cq VV rfl l3 hs hoV (by unfold maxLen; omega) (by omega) hN ?_; intro v' w2 hown' hgrow _ hnew)
    all_goals
      go_ret
      refine ⟨_, rfl, ?_, turns_grown (Below.refl _ _) hgrow, hnew⟩
      rw [HL.out.1, HL.out.2]
      exact hown'

theorem insert_any (N NV i : Nat) (v vv : Value) (l V : List (Int × Int)) (w : World) (h : w.ownsRow N 34 2 v l.length (spv l)) (hV : w.ownsRow NV 34 2 vv V.length (spv V)) (hne : ∀ k, vv.ownBlock = some k → v.ownBlock ≠ some k)
    (hN : N ≤ w.heap.size) (hi : i ≤ l.length) (hn : l.length ≤ 100000) (hmm : V.length ≤ 100000) :
    Calls Tryz.prog 138 #[v, iv i, vv] w (Joined w N v (l.take i ++ V ++ l.drop i)) := by
  by_cases h0 : V = []
  · subst h0
    rw [List.append_nil, List.take_append_drop]
    rcases own_form hV with ⟨rfl, _⟩ | ⟨g, cap, X, rfl, _⟩
    · exact insert_none N i v l none 0 w h hi hn
    · exact insert_none N i v l (some ⟨g, 0, none⟩) cap w h hi hn
  · have hm1 : 1 ≤ V.length := by rcases V with _ | ⟨x, V⟩; exact absurd rfl h0; simp
    rcases own_form hV with ⟨_, rfl⟩ | ⟨qb, cq, Y, rfl, hAV⟩
    · exact absurd rfl h0
    · by_cases hil : i = l.length
      · subst hil
        rw [List.take_length, List.drop_length, List.append_nil]
        exact insert_end N _ cq qb v l V Y w h hAV rfl hm1 hN hn hmm
      · rcases own_form h with ⟨_, rfl⟩ | ⟨g, cap, X, rfl, hA⟩
        · simp at hil hi; omega
        · have hqg : qb ≠ g := fun e => hne qb rfl (by rw [e]; rfl)
          by_cases hr : l.length + V.length ≤ cap
          · exact (insert_room N g _ cap i _ cq qb l V Y w h hAV rfl hqg (by omega) hm1 hr hn hmm).mono fun _ _ hp => Put.joined hp rfl
          · exact (insert_grow N g _ cap i _ cq qb l V Y w h hAV rfl hN (by omega) hm1 (by omega) hn hmm).mono fun _ _ hp => Put.joined hp rfl
end Go.Proofs.YtfannkpnmaeljaaGreatDoor

import Derived.Test.YtfannkpnmaeljaaGreatDoorGPmT1
import Derived.Test.YtfannkpnmaeljaaGreatDoorGSpT2
set_option linter.unusedVariables false
set_option linter.unusedSimpArgs false
/- restricted: the frames at which an item of a timed plan is permitted. -/
namespace Go.Proofs.YtfannkpnmaeljaaGreatDoor
open Go.RowKit Go.Shelf
attribute [local go_sem] Oper.semAt_some

/-- The seconds so far: a list in the variable B, which lies below N or belongs to the body. -/
def SecAt (W : World) (B N : Nat) (M : Nat → Prop) (l : List (Int × Int)) : Prop :=
  ∃ p cap, Arr W B 40 [.slice p l.length cap] ∧ l.length ≤ cap ∧ ShAt W W.heap.size p l ∧ (∀ b o, p = some ⟨b, o, none⟩ → b < N ∨ M b) ∧ M B ∧ ∀ j, M j → j = B ∨ N ≤ j
theorem ShAt.same {A W : World} {p : Option Addr} {l : List (Int × Int)} (h : ShAt A A.heap.size p l) (hs : A.heap.size ≤ W.heap.size) (ho : ∀ b o, p = some ⟨b, o, none⟩ → b < A.heap.size → W.heap[b]? = A.heap[b]?) : ShAt W W.heap.size p l := fun i hi => by
  obtain ⟨b, o, rfl, hb, h0, h1⟩ := h i hi
  have e : ∀ j, W.cell? ⟨b, j, none⟩ = A.cell? ⟨b, j, none⟩ := fun j => by simp only [World.cell?, ho b o rfl hb]
  exact ⟨b, o, rfl, by omega, by rw [e]; exact h0, by rw [e]; exact h1⟩
theorem SecAt.turn {A W : World} {B N : Nat} {M : Nat → Prop} {l : List (Int × Int)} (h : SecAt A B N M l) (ht : Turns (fun k => N ≤ k ∧ ¬ M k) A W) : SecAt W B N M l := by
  obtain ⟨p, cap, h1, h2, h3, h4, h5, h6⟩ := h
  exact ⟨p, cap, ht.arr h1 (fun h => h.2 h5), h2, h3.same ht.size fun b o e hb => ht.block b hb (fun h => by rcases h4 b o e with h' | h'; omega; exact h.2 h'), h4, h5, h6⟩

theorem keep2b {W W' W'' : World} {X N : Nat} {x y : Value} (h : W'.cell? ⟨X, 0, none⟩ = some x ∧ W'.cell? ⟨X, 1, none⟩ = some y ∧ Below N W W') (hX : X < W.heap.size) (hN : N ≤ W.heap.size) (b : Below W'.heap.size W' W'') :
    W''.cell? ⟨X, 0, none⟩ = some x ∧ W''.cell? ⟨X, 1, none⟩ = some y ∧ Below N W W'' := by
  have hs := h.2.2.size
  exact ⟨(b.cell (p := ⟨X, 0, none⟩) (by simp; omega)).trans h.1, (b.cell (p := ⟨X, 1, none⟩) (by simp; omega)).trans h.2.1, h.2.2.trans (b.mono (by omega))⟩
theorem own_size8 {W1 w6 w7 : World} {Q : Nat} (b6 : Below W1.drew.heap.size W1.drew w6) (b7 : Below w6.heap.size w6 w7) (h : Q ≤ W1.heap.size) : Q ≤ w7.heap.size := by
  have e1 : W1.heap.size ≤ w6.heap.size := b6.size
  have e2 := b7.size
  omega
theorem own_baseP {W : World} {base base' : Nat} {e : TypeId} {size : Nat} {v : Value} {n : Nat} {xs : List Value} (h : W.ownsRow base e size v n xs) (hb : base' ≤ base) : W.ownsRow base' e size v n xs := by
  obtain ⟨h1, h2⟩ := h
  refine ⟨h1, ?_⟩
  rcases h2 with h2 | ⟨g, cap, cur, e1, e2, e3⟩
  · exact .inl h2
  · exact .inr ⟨g, cap, cur, e1, by omega, e3⟩
theorem keepA2 {W w8 w9 : World} {X N : Nat} {x y : Value} {e : TypeId} {size n : Nat} {v : Value} {xs : List Value} (h : w8.cell? ⟨X, 0, none⟩ = some x ∧ w8.cell? ⟨X, 1, none⟩ = some y ∧ Below N W w8) (hN : N ≤ W.heap.size)
    (hg : w8.grownBy w9 v.ownBlock) (own : w8.ownsRow N e size v n xs) (hX : ∀ j, v.ownBlock = some j → j ≠ X) : w9.cell? ⟨X, 0, none⟩ = some x ∧ w9.cell? ⟨X, 1, none⟩ = some y ∧ Below N W w9 := by
  have hs := h.2.2.size
  have hne : some X ≠ v.ownBlock := fun e => hX X e.symm rfl
  exact ⟨hg.cell h.1 hne, hg.cell h.2.1 hne, h.2.2.trans ((Below.refl _ _).grown hg (by omega) (own_le own))⟩
theorem step_store_abs {P : Program} {w : World} {ops : Array Oper} {o : Oper} {a : Act} {K : Act → World → Prop} {Q : Exit → Act → World → Prop} {E : Prop} (hgd : o.guard = none) (ty : TypeId) (x y : Operand) (ho : o.op = .store ty x y)
    (g : Nat) (cells : Array Value) (hx : a.eval x = .pointer (some ⟨g, 0, none⟩)) (hy : a.eval y = .agg cells)
    (t : TypeId) (old : Array Value) (hg : w.heap[g]? = some (.cells old t (0, 0))) (hi : (P.info? ty).map (·.size) = some cells.size)
    (hold : old.size = cells.size) (h1 : cells.all (·.oneCell') = true)
    (h : ∀ W, W.heap[g]? = some (.cells cells t (0, 0)) → Below g w W → K (a.put o.dst undef) W) : if Region.wanted o (yielded ops a.tmps) = true then Oper.wp P o a w K Q else E := by
  have hw : Region.wanted o (yielded ops a.tmps) = true := by simp [Region.wanted, hgd]
  rw [if_pos hw]
  exact wp_store_row ty x y ho g cells hx hy t old hg hi hold h1 (h _ (setRow_heap _ _ _ _ _ _ hg) (below_setRow (Below.refl _ _) (Nat.le_refl _) _))

theorem keepR {W W' W'' : World} {n : Nat} {A D : Nat} {tA tD : TypeId} {lA lD : List Value} (hS : Arr W' A tA lA ∧ Arr W' D tD lD ∧ Below n W W') (hA : A < W.heap.size) (hD : D < W.heap.size) (hn : n ≤ W.heap.size) (bb : Below W'.heap.size W' W'') :
    Arr W'' A tA lA ∧ Arr W'' D tD lD ∧ Below n W W'' := by
  obtain ⟨h1, h2, h3⟩ := hS
  have := h3.size
  exact ⟨h1.below bb (by omega), h2.below bb (by omega), h3.trans (bb.mono (by omega))⟩

theorem keep15 {W W' W'' : World} {A D n : Nat} {v0 v1 v2 v3 v4 v5 v6 v7 v8 v9 v10 v11 v12 u0 u1 : Value} (hS : W'.cell? ⟨A, 0, none⟩ = some v0 ∧ W'.cell? ⟨A, 1, none⟩ = some v1 ∧ W'.cell? ⟨A, 2, none⟩ = some v2 ∧ W'.cell? ⟨A, 3, none⟩ = some v3 ∧ W'.cell? ⟨A, 4, none⟩ = some v4 ∧ W'.cell? ⟨A, 5, none⟩ = some v5 ∧ W'.cell? ⟨A, 6, none⟩ = some v6 ∧ W'.cell? ⟨A, 7, none⟩ = some v7 ∧ W'.cell? ⟨A, 8, none⟩ = some v8 ∧ W'.cell? ⟨A, 9, none⟩ = some v9 ∧ W'.cell? ⟨A, 10, none⟩ = some v10 ∧ W'.cell? ⟨A, 11, none⟩ = some v11 ∧ W'.cell? ⟨A, 12, none⟩ = some v12 ∧ W'.cell? ⟨D, 0, none⟩ = some u0 ∧ W'.cell? ⟨D, 1, none⟩ = some u1 ∧ Below n W W') (hA : A < W.heap.size) (hD : D < W.heap.size) (hn : n ≤ W.heap.size) (bb : Below W.heap.size W' W'') :
    W''.cell? ⟨A, 0, none⟩ = some v0 ∧ W''.cell? ⟨A, 1, none⟩ = some v1 ∧ W''.cell? ⟨A, 2, none⟩ = some v2 ∧ W''.cell? ⟨A, 3, none⟩ = some v3 ∧ W''.cell? ⟨A, 4, none⟩ = some v4 ∧ W''.cell? ⟨A, 5, none⟩ = some v5 ∧ W''.cell? ⟨A, 6, none⟩ = some v6 ∧ W''.cell? ⟨A, 7, none⟩ = some v7 ∧ W''.cell? ⟨A, 8, none⟩ = some v8 ∧ W''.cell? ⟨A, 9, none⟩ = some v9 ∧ W''.cell? ⟨A, 10, none⟩ = some v10 ∧ W''.cell? ⟨A, 11, none⟩ = some v11 ∧ W''.cell? ⟨A, 12, none⟩ = some v12 ∧ W''.cell? ⟨D, 0, none⟩ = some u0 ∧ W''.cell? ⟨D, 1, none⟩ = some u1 ∧ Below n W W'' := by
  obtain ⟨h0, h1, h2, h3, h4, h5, h6, h7, h8, h9, h10, h11, h12, h13, h14, hb⟩ := hS
  exact ⟨(bb.cell (p := ⟨A, 0, none⟩) hA).trans h0, (bb.cell (p := ⟨A, 1, none⟩) hA).trans h1, (bb.cell (p := ⟨A, 2, none⟩) hA).trans h2, (bb.cell (p := ⟨A, 3, none⟩) hA).trans h3, (bb.cell (p := ⟨A, 4, none⟩) hA).trans h4, (bb.cell (p := ⟨A, 5, none⟩) hA).trans h5, (bb.cell (p := ⟨A, 6, none⟩) hA).trans h6, (bb.cell (p := ⟨A, 7, none⟩) hA).trans h7, (bb.cell (p := ⟨A, 8, none⟩) hA).trans h8, (bb.cell (p := ⟨A, 9, none⟩) hA).trans h9, (bb.cell (p := ⟨A, 10, none⟩) hA).trans h10, (bb.cell (p := ⟨A, 11, none⟩) hA).trans h11, (bb.cell (p := ⟨A, 12, none⟩) hA).trans h12, (bb.cell (p := ⟨D, 0, none⟩) hD).trans h13, (bb.cell (p := ⟨D, 1, none⟩) hD).trans h14, hb.trans (bb.mono hn)⟩
theorem re_alloc {n : Nat} {w : World} (h : n ≤ w.heap.size) (o o' : Obj) : Below n (w.alloc o) (w.alloc o') :=
  ⟨rfl, rfl, rfl, by simp, fun k hk => (Below.heap_alloc _ _ _ (by omega)).trans (Below.heap_alloc _ _ _ (by omega)).symm⟩

set_option maxRecDepth 100000 in
set_option maxHeartbeats 4000000 in
theorem restricted_any (P : Pl) (q : Pq) (x : It) (r a b : Int) (w : World) (hP : PlAt w w.heap.size P q) (hF : Tc.FmtAt w) (hT : tmZ P = true) (a0 : 0 ≤ a) (ab : a < b) (b1 : b ≤ 100000001) (hn : b - a ≤ 1000000) :
    Calls Tryz.prog 41 #[.agg (plL P q).toArray, .agg (itL x).toArray, iv r, .agg #[iv a, iv b]] w (Own w (resZ P x r a b)) := by
  obtain ⟨V, hV⟩ : ∃ V, resZ P x r a b = V := ⟨_, rfl⟩
  rw [hV]
  have HV := Lib.hid hV
  clear hV
  have hs1 := fun W (h : Below w.heap.size w W) => second_any P q a W (hF.below h) hT a0 (by omega)
  have hs2 := fun W (h : Below w.heap.size w W) => second_any P q (b - 1) W (hF.below h) hT (by omega) (by omega)
  have i1 := sec_in hT a0 (show a ≤ 100000000 by omega)
  have i2 := sec_in hT (f := b - 1) (by omega) (by omega)
  obtain ⟨-, -, e0, e1⟩ := tm_rt hT
  have hw1 : IntKind.i64.wrap (b - 1) = b - 1 := w64 (by omega) (by omega)
  have hw2 : IntKind.i64.wrap (secZ P (b - 1) + 1) = secZ P (b - 1) + 1 := by unfold secZ; exact w64 (by omega) (by omega)
  refine (callsIn_wide (n := 5)).1 ?_
  have hwide : ∀ f, Fence.wide.fn f := fun _ => trivial
  have hro : Fence.wide.round = none := rfl
  have h1 : 1 ≤ 5 := by omega
  refine callsIn_of_wp_marks Tryz.func41 rfl (hwide _) ?_ hro
  refine wpIn_wide.2 ?_
  simp only [Tryz.ntmps41, List.size_toArray, List.length_cons, List.length_nil, Nat.reduceAdd, Nat.reduceSub, Array.replicate_succ, Array.replicate_zero, List.push_toArray, List.append_toArray, List.nil_append, List.cons_append]
  go_wp2_with fail
  obtain ⟨W0, hW0, b0, z0, kP, kI, kD⟩ : ∃ W0, ((w.alloc (.cells (plL P q).toArray 32)).alloc (.cells (itL x).toArray 60)).alloc (.cells #[iv a, iv b] 34) = W0 ∧ Below w.heap.size w W0 ∧ W0.heap.size = w.heap.size + 1 + 1 + 1 ∧
      Arr W0 w.heap.size 32 (plL P q) ∧ Arr W0 (w.heap.size + 1) 60 (itL x) ∧ Arr W0 (w.heap.size + 1 + 1) 34 [iv a, iv b] :=
    ⟨_, rfl, (((Below.refl _ w).alloc (Nat.le_refl _) _).alloc (by simp) _).alloc (by simp; omega) _, by simp, ((Arr.new w _ (plL P q)).alloc _).alloc _, (Arr.new' _ (itL x) (by simp)).alloc _, Arr.new' _ [iv a, iv b] (by simp)⟩
  rw [hW0]; clear hW0
  obtain ⟨K, hK⟩ : ∃ K, w.heap.size = K := ⟨_, rfl⟩
  obtain ⟨I, hI⟩ : ∃ I, K + 1 = I := ⟨_, rfl⟩
  obtain ⟨D, hD⟩ : ∃ D, I + 1 = D := ⟨_, rfl⟩
  rw [hK] at kP kI kD z0 ⊢
  rw [hI] at kI kD z0 ⊢
  rw [hD] at kD z0 ⊢
  have hs1 := fun W (h : Below W0.heap.size W0 W) => hs1 W (bthen b0 h)
  have hs2 := fun W (h : Below W0.heap.size W0 W) => hs2 W (bthen b0 h)
  have hKl : K < W0.heap.size := by omega
  have hDl : D < W0.heap.size := by omega
  have hIl : I < W0.heap.size := by omega
  have hKI : K < I := by omega
  have hID : I < D := by omega
  clear z0
  have hi2 : (Tryz.prog.info? 34).map (·.size) = some 2 := by kernel_rfl
  have hst : W0.drew.cell? ⟨K, 0, none⟩ = some (iv P.ch) ∧ W0.drew.cell? ⟨K, 1, none⟩ = some (iv P.num) ∧ W0.drew.cell? ⟨K, 2, none⟩ = some (iv P.den) ∧ W0.drew.cell? ⟨K, 3, none⟩ = some (iv P.off) ∧ W0.drew.cell? ⟨K, 4, none⟩ = some (.slice q.ps P.sh.length q.cs) ∧ W0.drew.cell? ⟨K, 5, none⟩ = some (iv P.ep) ∧ W0.drew.cell? ⟨K, 6, none⟩ = some (iv P.rg) ∧ W0.drew.cell? ⟨K, 7, none⟩ = some (iv P.ln) ∧ W0.drew.cell? ⟨K, 8, none⟩ = some (iv P.fl) ∧ W0.drew.cell? ⟨K, 9, none⟩ = some (.slice q.pi P.its.length q.ci) ∧ W0.drew.cell? ⟨K, 10, none⟩ = some (.slice q.pe q.le q.ce) ∧ W0.drew.cell? ⟨K, 11, none⟩ = some (.slice q.pb q.lb q.cb) ∧ W0.drew.cell? ⟨K, 12, none⟩ = some (.slice q.pc P.cls.length q.cc) ∧ W0.drew.cell? ⟨D, 0, none⟩ = some (iv a) ∧ W0.drew.cell? ⟨D, 1, none⟩ = some (iv b) ∧ Below W0.heap.size W0 W0.drew := ⟨kP.cell (i := 0) rfl, kP.cell (i := 1) rfl, kP.cell (i := 2) rfl, kP.cell (i := 3) rfl, kP.cell (i := 4) rfl, kP.cell (i := 5) rfl, kP.cell (i := 6) rfl, kP.cell (i := 7) rfl, kP.cell (i := 8) rfl, kP.cell (i := 9) rfl, kP.cell (i := 10) rfl, kP.cell (i := 11) rfl, kP.cell (i := 12) rfl, kD.cell (i := 0) rfl, kD.cell (i := 1) rfl, (Below.refl _ _).drew⟩
  have hst3 : (W0.alloc (.cells #[iv 0, iv 0] 34)).drew.cell? ⟨K, 0, none⟩ = some (iv P.ch) ∧ (W0.alloc (.cells #[iv 0, iv 0] 34)).drew.cell? ⟨K, 1, none⟩ = some (iv P.num) ∧ (W0.alloc (.cells #[iv 0, iv 0] 34)).drew.cell? ⟨K, 2, none⟩ = some (iv P.den) ∧ (W0.alloc (.cells #[iv 0, iv 0] 34)).drew.cell? ⟨K, 3, none⟩ = some (iv P.off) ∧ (W0.alloc (.cells #[iv 0, iv 0] 34)).drew.cell? ⟨K, 4, none⟩ = some (.slice q.ps P.sh.length q.cs) ∧ (W0.alloc (.cells #[iv 0, iv 0] 34)).drew.cell? ⟨K, 5, none⟩ = some (iv P.ep) ∧ (W0.alloc (.cells #[iv 0, iv 0] 34)).drew.cell? ⟨K, 6, none⟩ = some (iv P.rg) ∧ (W0.alloc (.cells #[iv 0, iv 0] 34)).drew.cell? ⟨K, 7, none⟩ = some (iv P.ln) ∧ (W0.alloc (.cells #[iv 0, iv 0] 34)).drew.cell? ⟨K, 8, none⟩ = some (iv P.fl) ∧ (W0.alloc (.cells #[iv 0, iv 0] 34)).drew.cell? ⟨K, 9, none⟩ = some (.slice q.pi P.its.length q.ci) ∧ (W0.alloc (.cells #[iv 0, iv 0] 34)).drew.cell? ⟨K, 10, none⟩ = some (.slice q.pe q.le q.ce) ∧ (W0.alloc (.cells #[iv 0, iv 0] 34)).drew.cell? ⟨K, 11, none⟩ = some (.slice q.pb q.lb q.cb) ∧ (W0.alloc (.cells #[iv 0, iv 0] 34)).drew.cell? ⟨K, 12, none⟩ = some (.slice q.pc P.cls.length q.cc) ∧ (W0.alloc (.cells #[iv 0, iv 0] 34)).drew.cell? ⟨D, 0, none⟩ = some (iv a) ∧ (W0.alloc (.cells #[iv 0, iv 0] 34)).drew.cell? ⟨D, 1, none⟩ = some (iv b) ∧ Below W0.heap.size W0 ((W0.alloc (.cells #[iv 0, iv 0] 34)).drew) := ⟨(kP.alloc _).cell (i := 0) rfl, (kP.alloc _).cell (i := 1) rfl, (kP.alloc _).cell (i := 2) rfl, (kP.alloc _).cell (i := 3) rfl, (kP.alloc _).cell (i := 4) rfl, (kP.alloc _).cell (i := 5) rfl, (kP.alloc _).cell (i := 6) rfl, (kP.alloc _).cell (i := 7) rfl, (kP.alloc _).cell (i := 8) rfl, (kP.alloc _).cell (i := 9) rfl, (kP.alloc _).cell (i := 10) rfl, (kP.alloc _).cell (i := 11) rfl, (kP.alloc _).cell (i := 12) rfl, (kD.alloc _).cell (i := 0) rfl, (kD.alloc _).cell (i := 1) rfl, ((Below.refl _ W0).alloc (Nat.le_refl _) _).drew⟩
  go_wp2_with fail
  go_region_held3 (fun w' => w'.cell? ⟨K, 0, none⟩ = some (iv P.ch) ∧ w'.cell? ⟨K, 1, none⟩ = some (iv P.num) ∧ w'.cell? ⟨K, 2, none⟩ = some (iv P.den) ∧ w'.cell? ⟨K, 3, none⟩ = some (iv P.off) ∧ w'.cell? ⟨K, 4, none⟩ = some (.slice q.ps P.sh.length q.cs) ∧ w'.cell? ⟨K, 5, none⟩ = some (iv P.ep) ∧ w'.cell? ⟨K, 6, none⟩ = some (iv P.rg) ∧ w'.cell? ⟨K, 7, none⟩ = some (iv P.ln) ∧ w'.cell? ⟨K, 8, none⟩ = some (iv P.fl) ∧ w'.cell? ⟨K, 9, none⟩ = some (.slice q.pi P.its.length q.ci) ∧ w'.cell? ⟨K, 10, none⟩ = some (.slice q.pe q.le q.ce) ∧ w'.cell? ⟨K, 11, none⟩ = some (.slice q.pb q.lb q.cb) ∧ w'.cell? ⟨K, 12, none⟩ = some (.slice q.pc P.cls.length q.cc) ∧ w'.cell? ⟨D, 0, none⟩ = some (iv a) ∧ w'.cell? ⟨D, 1, none⟩ = some (iv b) ∧ Below W0.heap.size W0 w') (first | assumption | exact hst | exact hst3 | exact keep15 (by assumption) hKl hDl (Nat.le_refl _) (b8.mono (by first | exact Nat.le_refl _ | (have := b6.size; have := b7.size; simp at *; omega) | (have := b6.size; simp at *; omega))) | exact keep15 (by assumption) hKl hDl (Nat.le_refl _) (b6.mono (by first | exact Nat.le_refl _ | (simp; done) | (have := b7.size; simp at *; omega) | (simp; omega))) | exact keep15 (by assumption) hKl hDl (Nat.le_refl _) (b7.mono (by first | exact Nat.le_refl _ | (simp; done) | (have := b6.size; simp at *; omega) | (simp; omega))) | exact keep15 (by assumption) hKl hDl (Nat.le_refl _) (((Below.refl _ _).alloc (Nat.le_refl _) _).mono (by first | exact Nat.le_refl _ | (have := b6.size; have := b7.size; simp at *; omega) | (have := b6.size; simp at *; omega))) | exact keep15 (by assumption) hKl hDl (Nat.le_refl _) (re_alloc (by have := b6.size; have := b7.size; simp at *; omega) _ _) | exact keep15 (by assumption) hKl hDl (Nat.le_refl _) (((Below.refl _ _).setCell (by first | (simp; done) | (have := b6.size; simp at *; omega)) _).setCell (by first | (simp; done) | (have := b6.size; simp at *; omega)) _) | fail)
    (first | (go_at_call 55; (with_reducible refine Calls.mono (hs1 _ (by assumption : _ ∧ _ ∧ _ ∧ _ ∧ _ ∧ _ ∧ _ ∧ _ ∧ _ ∧ _ ∧ _ ∧ _ ∧ _ ∧ _ ∧ _ ∧ Below W0.heap.size W0 _).2.2.2.2.2.2.2.2.2.2.2.2.2.2.2) ?_); rintro e w6 ⟨rfl, b6⟩; (try (have kN6 := (Arr.new W0 34 [iv 0, iv 0]).drew.below b6 (by simp)))) | (go_at_call 55; (with_reducible refine Calls.mono (hs2 _ (by assumption : _ ∧ _ ∧ _ ∧ _ ∧ _ ∧ _ ∧ _ ∧ _ ∧ _ ∧ _ ∧ _ ∧ _ ∧ _ ∧ _ ∧ _ ∧ Below W0.heap.size W0 _).2.2.2.2.2.2.2.2.2.2.2.2.2.2.2) ?_); rintro e w7 ⟨rfl, b7⟩; (try (have kN7 := (Arr.new w6 34 [iv 0, iv 0]).below b7 (by simp); have n0 := kN7.cell (i := 0) rfl; have n1 := kN7.cell (i := 1) rfl; have nf := fun i => kN7.frozen i)); (try (have kN7 := kN6.below b7 kN6.lt; have n0 := kN7.cell (i := 0) rfl; have n1 := kN7.cell (i := 1) rfl; have nf := fun i => kN7.frozen i))) | fail)
  all_goals
    rename_i hHeld
    have hBf := hHeld.2.2.2.2.2.2.2.2.2.2.2.2.2.2.2
    first
    | (obtain ⟨Wf, hWf⟩ : ∃ W, w7.alloc (.cells #[iv (secZ P a), iv (secZ P (b - 1) + 1)] 34) = W := ⟨_, rfl⟩
       have kS := Arr.new w7 34 [iv (secZ P a), iv (secZ P (b - 1) + 1)]
       have hN0 : W0.heap.size ≤ w7.heap.size := by
         have e1 : W0.heap.size ≤ w6.heap.size := b6.size
         have e2 := b7.size
         omega
       obtain ⟨N, hN⟩ : ∃ N, w7.heap.size = N := ⟨_, rfl⟩
       rw [hWf, hN] at kS
       rw [hWf] at hBf
       rw [hN] at hN0
       rw [hWf, hN]
       clear hHeld hst hst3 hs1 hs2 hWf hN b7 b6)
    | (obtain ⟨Wf, hWf⟩ : ∃ W, (w7.setCell ⟨w6.heap.size, 0, none⟩ (iv (secZ P a))).setCell ⟨w6.heap.size, 1, none⟩ (iv (secZ P (b - 1) + 1)) = W := ⟨_, rfl⟩
       have kS := (kN7.set 0 (iv (secZ P a))).set 1 (iv (secZ P (b - 1) + 1))
       have hN0 : W0.heap.size ≤ w6.heap.size := b6.size
       rw [hWf] at kS hBf
       rw [hWf]
       clear hHeld hst hst3 hs1 hs2 hWf n0 n1 nf kN7 b7 b6
       generalize w6.heap.size = N at *)
    | (obtain ⟨Wf, hWf⟩ : ∃ W, (w7.setCell ⟨W0.heap.size, 0, none⟩ (iv (secZ P a))).setCell ⟨W0.heap.size, 1, none⟩ (iv (secZ P (b - 1) + 1)) = W := ⟨_, rfl⟩
       have kS := (kN7.set 0 (iv (secZ P a))).set 1 (iv (secZ P (b - 1) + 1))
       have hN0 : W0.heap.size ≤ W0.heap.size := Nat.le_refl _
       rw [hWf] at kS hBf
       rw [hWf]
       clear hHeld hst hst3 hs1 hs2 hWf n0 n1 nf kN7 kN6 b7 b6
       obtain ⟨N, hN⟩ : ∃ N, W0.heap.size = N := ⟨_, rfl⟩
       rw [hN] at kS
       rw [show (⟨W0.heap.size, 0, none⟩ : Addr) = ⟨N, 0, none⟩ by rw [hN]]
       have hN0 : W0.heap.size ≤ N := Nat.le_of_eq hN
       clear hN)
    | fail
    have kP := kP.below hBf hKl
    have kI := kI.below hBf hIl
    have kD := kD.below hBf hDl
    have hNl := kS.lt
    have s0 := kS.cell (i := 0) rfl
    have s1 := kS.cell (i := 1) rfl
    have kP9 := (kP.alloc (.cells #[iv (secZ P a), iv (secZ P (b - 1) + 1)] 34)).alloc (.cells #[.slice (some ⟨Wf.heap.size, 0, none⟩) 1 1] 40)
    have kI9 := (kI.alloc (.cells #[iv (secZ P a), iv (secZ P (b - 1) + 1)] 34)).alloc (.cells #[.slice (some ⟨Wf.heap.size, 0, none⟩) 1 1] 40)
    have kS9 := (kS.alloc (.cells #[iv (secZ P a), iv (secZ P (b - 1) + 1)] 34)).alloc (.cells #[.slice (some ⟨Wf.heap.size, 0, none⟩) 1 1] 40)
    have c0 := kP9.cell (i := 0) rfl
    have c1 := kP9.cell (i := 1) rfl
    have c2 := kP9.cell (i := 2) rfl
    have c3 := kP9.cell (i := 3) rfl
    have c4 := kP9.cell (i := 4) rfl
    have c5 := kP9.cell (i := 5) rfl
    have c6 := kP9.cell (i := 6) rfl
    have c7 := kP9.cell (i := 7) rfl
    have c8 := kP9.cell (i := 8) rfl
    have c9 := kP9.cell (i := 9) rfl
    have c10 := kP9.cell (i := 10) rfl
    have c11 := kP9.cell (i := 11) rfl
    have c12 := kP9.cell (i := 12) rfl
    have d0 := kI9.cell (i := 0) rfl
    have d1 := kI9.cell (i := 1) rfl
    have d2 := kI9.cell (i := 2) rfl
    have d3 := kI9.cell (i := 3) rfl
    have d4 := kI9.cell (i := 4) rfl
    have g0 := kS9.cell (i := 0) rfl
    have g1 := kS9.cell (i := 1) rfl
    go_wp2_with (go_at_call 66; refine Calls.mono (callsIn_wide.1 (restr_in Fence.wide 5 (hwide _) hro P q x r (secZ P a) (secZ P (b - 1) + 1) _)) ?_; rintro e w' ⟨rfl, rfl⟩)
  · obtain ⟨WL, hWL, bL, zL, kG, kB, kA, kX, kR, kE⟩ : ∃ WL, (((((Wf.alloc (.cells #[iv (secZ P a), iv (secZ P (b - 1) + 1)] 34)).alloc (.cells #[.slice (some ⟨Wf.heap.size, 0, none⟩) 1 1] 40)).alloc (.cells (plL P q).toArray 32)).alloc (.cells (itL x).toArray 60)).alloc (.cells #[iv r] 3)).alloc (.cells #[iv (secZ P a), iv (secZ P (b - 1) + 1)] 34) = WL ∧
        Below Wf.heap.size Wf WL ∧ WL.heap.size = Wf.heap.size + 6 ∧ Arr WL Wf.heap.size 34 [iv (secZ P a), iv (secZ P (b - 1) + 1)] ∧ Arr WL (Wf.heap.size + 1) 40 [.slice (some ⟨Wf.heap.size, 0, none⟩) 1 1] ∧
        Arr WL (Wf.heap.size + 1 + 1) 32 (plL P q) ∧ Arr WL (Wf.heap.size + 1 + 1 + 1) 60 (itL x) ∧ Arr WL (Wf.heap.size + 1 + 1 + 2) 3 [iv r] ∧ Arr WL (Wf.heap.size + 1 + 1 + 3) 34 [iv (secZ P a), iv (secZ P (b - 1) + 1)] := by
      refine ⟨_, rfl, ((((((Below.refl _ Wf).alloc (Nat.le_refl _) _).alloc (by simp) _).alloc (by simp; omega) _).alloc (by simp; omega) _).alloc (by simp; omega) _).alloc (by simp; omega) _, by simp, ?_, ?_, ?_, ?_, ?_, ?_⟩
      · exact (((((Arr.new Wf _ [iv (secZ P a), iv (secZ P (b - 1) + 1)]).alloc _).alloc _).alloc _).alloc _).alloc _
      · exact ((((Arr.new' _ [.slice (some ⟨Wf.heap.size, 0, none⟩) 1 1] (by simp)).alloc _).alloc _).alloc _).alloc _
      · exact (((Arr.new' _ (plL P q) (by simp)).alloc _).alloc _).alloc _
      · exact ((Arr.new' _ (itL x) (by simp)).alloc _).alloc _
      · exact (Arr.new' _ [iv r] (by simp)).alloc _
      · exact Arr.new' _ [iv (secZ P a), iv (secZ P (b - 1) + 1)] (by simp)
    rw [hWL]
    clear hWL kP9 kI9 kS9 c0 c1 c2 c3 c4 c5 c6 c7 c8 c9 c10 c11 c12 d0 d1 d2 d3 d4 g0 g1 s0 s1
    have hm0 := sec_mono hT a0 (show a ≤ b - 1 by omega) (by omega)
    have hsp := sec_span hT a0 (show a ≤ b - 1 by omega) (by omega) (by omega)
    have hbf := hBf.size
    have hPL := hP.below (b0.trans ((hBf.mono b0.size).trans (bL.mono (by omega))))
    have hh := restr_hands 4 (by omega) (Wf.heap.size + 1 + 1) (Wf.heap.size + 1 + 1 + 1) (Wf.heap.size + 1 + 1 + 2) (Wf.heap.size + 1 + 1 + 3) w.heap.size P q x r (secZ P a) (secZ P (b - 1) + 1) WL (by omega) kA kX kR kE hPL hT (by unfold secZ; omega) (by unfold secZ; omega) (by unfold secZ; omega) (by unfold secZ; omega)
    obtain ⟨hl1, hl2⟩ := sets_ok hT hP.lc x r (F := secZ P a) (T := secZ P (b - 1) + 1) (by unfold secZ; omega) (by unfold secZ; omega) (by unfold secZ; omega) (by unfold secZ; omega)
    have hsecs := secs_ok hT x r a0 ab b1
    have hres : resZ P x r a b = intZ (((setsZ P x r (secZ P a, secZ P (b - 1) + 1)).foldl intZ [(secZ P a, secZ P (b - 1) + 1)]).map (frmP P)) [(a, b)] := rfl
    have hse : secsZ P x r (spnS P a b) = (setsZ P x r (secZ P a, secZ P (b - 1) + 1)).foldl intZ [(secZ P a, secZ P (b - 1) + 1)] := rfl
    rw [HV.out] at hres
    rw [hse] at hsecs
    have HRES := Lib.hid hres
    have HSEC := Lib.hid hsecs.2
    have HL := Lib.hid hl2
    have hS1 : 0 ≤ secZ P a ∧ secZ P a ≤ 9999999999 := by unfold secZ; omega
    have hS2 : 0 ≤ secZ P (b - 1) + 1 ∧ secZ P (b - 1) + 1 ≤ 9999999999 := by unfold secZ; omega
    have hSP : P.ep ≤ secZ P a := by unfold secZ; omega
    clear hres hsecs hse hl2 hPL hm0 hsp kA kX kR kE i1 i2 hw1 hw2
    generalize setsZ P x r (secZ P a, secZ P (b - 1) + 1) = T at *
    generalize secZ P a = S1 at *
    generalize secZ P (b - 1) + 1 = S2 at *
    obtain ⟨G, hG⟩ : ∃ G, Wf.heap.size = G := ⟨_, rfl⟩
    obtain ⟨B, hB⟩ : ∃ B, G + 1 = B := ⟨_, rfl⟩
    have hKG : K < G := by omega
    have hDG : D < G := by omega
    have kPL := kP.below bL (by omega)
    have kDL := kD.below bL (by omega)
    have bKL : Below K w WL := by
      rw [hK] at b0
      exact b0.trans ((hBf.mono (by omega)).trans (bL.mono (by omega)))
    rw [hG] at hh kG kB zL ⊢
    rw [hB] at hh kB ⊢
    rw [hK] at hh
    have hBW : B < WL.heap.size := by omega
    have hBK : K < B := by omega
    have hBD : D ≠ B := by omega
    clear bL hbf kP kI kD kS hBf hP hs2 b0
    have hsec0 : SecAt WL B WL.heap.size (fun k => k = B) [(S1, S2)] := by
      refine ⟨some ⟨G, 0, none⟩, 1, kB, Nat.le_refl _, fun i hi => ?_, fun b o e => .inl ?_, rfl, fun j hj => .inl hj⟩
      · obtain rfl : i = 0 := by simpa using hi
        exact ⟨G, 0, rfl, by omega, kG.cell (i := 0) rfl, kG.cell (i := 1) rfl⟩
      · cases e; omega
    refine (fun (HD : ∀ (Dd : Nat) (M : Nat → Prop) (W : World), WL.heap.size ≤ Dd → ¬ M Dd → W.heap[Dd]? = some (.deferred (some [])) → SecAt W B WL.heap.size M (T.foldl intZ [(S1, S2)]) → Arr W K 32 (plL P q) → Arr W D 34 [iv a, iv b] → Below K w W → (?Xa : Nat → World → Prop) Dd W) => ?maina) ?hda
    case maina =>
      refine (wpIn_wide (n := 5)).1 ?_
      refine wpIn_rangeFunc_handsR hro h1 (gf := 84) (lb := #[.pointer (some ⟨B + 1, 0, none⟩), .pointer (some ⟨B + 1 + 1, 0, none⟩), .pointer (some ⟨B + 1 + 2, 0, none⟩), .pointer (some ⟨B + 1 + 3, 0, none⟩)]) rfl (hwide _) (enters_of Tryz.func84 (by kernel_rfl) rfl)
        hh (Below.refl _ _) rfl
        (fun pre M W => SecAt W B WL.heap.size M (pre.foldl intZ [(S1, S2)]) ∧ Arr W K 32 (plL P q) ∧ Arr W D 34 [iv a, iv b] ∧ Below K w W)
        (fun c pre M W => c = Code.exit 0 ∧ pre.foldl intZ [(S1, S2)] = [] ∧ SecAt W B WL.heap.size M [] ∧ Arr W K 32 (plL P q) ∧ Arr W D 34 [iv a, iv b] ∧ Below K w W)
        ?hIa ?hIxa (fun k => k = B) ?hM0a ?h0a ?a1a ?assigna ?bodya ?donea ?stopa
      case hIa =>
        rintro xs M A B' ⟨h, k1, k2, k3⟩ ht
        have hMK : ∀ j, M j → j = B ∨ WL.heap.size ≤ j := by obtain ⟨_, _, _, _, _, _, _, h6⟩ := h; exact h6
        exact ⟨h.turn ht, ht.arr k1 (fun h => by have := h.1; omega), ht.arr k2 (fun h => by have := h.1; omega), k3.trans (ht.below (by have := k1.lt; omega) (fun k hk => by omega))⟩
      case hIxa =>
        rintro c xs M A B' ⟨hc, hn, h, k1, k2, k3⟩ ht
        exact ⟨hc, hn, h.turn ht, ht.arr k1 (fun h => by have := h.1; omega), ht.arr k2 (fun h => by have := h.1; omega), k3.trans (ht.below (by have := k1.lt; omega) (fun k hk => by omega))⟩
      case hM0a =>
        rintro k rfl
        exact ⟨hBW, by omega⟩
      case h0a => exact ⟨hsec0, kPL, kDL, bKL⟩
      case assigna =>
        intro l x v W K hr hK
        gi_wp2
        exact hK
      case bodya =>
        rintro lp pre x' v M W ⟨hs, kp, kd, kb⟩ hpre hrel hMl hWs
        obtain ⟨p1, cap1, kB1, hc1, hS1', hpb, hMB, hMj⟩ := hs
        obtain ⟨p2, cap2, rfl, hc2, hS2'⟩ := hrel
        have hpre0 : pre <+: T := (List.prefix_append _ _).trans hpre
        have hln := pre_len hl1 HL.out hpre0 (S1, S2)
        have hbd := fold_bd pre [(S1, S2)] (fun s hs => by obtain rfl := List.mem_singleton.1 hs; dsimp only; omega)
        have hx' := HL.out x' (hpre.subset (by simp))
        have hfo : (pre ++ [x']).foldl intZ [(S1, S2)] = intZ (pre.foldl intZ [(S1, S2)]) x' := by rw [List.foldl_append]; rfl
        generalize pre.foldl intZ [(S1, S2)] = L at kB1 hc1 hS1' hln hbd hfo
        have hC := inter_any p1 p2 cap1 cap2 L x' W hS1' hS2' (by omega) (by omega) hc1 hc2 hbd hx'.2
        generalize intZ L x' = L' at hC hfo
        have HFO := Lib.hid hfo
        have HPR := Lib.hid hpre
        have c0 := kB1.cell (i := 0) rfl
        have hBl := kB1.lt
        clear hfo hpre hpre0 hx' hbd
        gi_wp2_with fail
        refine (CallsIn.inRound lp (callsIn_wide.2 hC)).mono ?_
        rintro e w8 ⟨v', rfl, o8, b8⟩
        have kB8 := kB1.below b8 hBl
        have f0 := kB8.frozen 0
        have e0 := kB8.cell (i := 0) rfl
        have z8 := b8.size
        have hown := own_le o8
        have hol := fun j (hj : v'.ownBlock = some j) => (o8.lt j hj).2
        obtain ⟨p8, c8, rfl, hc8, hS8⟩ := own_rel o8
        have hsec : SecAt (w8.setCell ⟨B, 0, none⟩ (.slice p8 L'.length c8)) B WL.heap.size (fun j => M j ∨ (Value.slice p8 L'.length c8).ownBlock = some j) L' := by
          refine ⟨p8, c8, kB8.set 0 _, hc8, hS8.same (by simp) fun b o e hb => ?_, fun b o e => .inr (.inr (by rw [e]; rfl)), .inl hMB, fun j hj => ?_⟩
          · subst e
            have := hown b rfl
            exact Below.heap_setCell _ _ _ _ (by intro h; have h := congrArg id h; simp at h; omega)
          · rcases hj with hj | hj
            · exact hMj j hj
            · have := hown j hj; exact .inr (by omega)
        have hgrow : Grown M (fun j => M j ∨ (Value.slice p8 L'.length c8).ownBlock = some j) W (w8.setCell ⟨B, 0, none⟩ (.slice p8 L'.length c8)) :=
          ⟨fun _ h => .inl h, fun k h => by rcases h with h | h; exact .inl h; exact .inr (hown k h), fun k h => by rcases h with h | h; (have := hMl k h; simp; omega); (have := hol k h; simpa using this),
           (Turns.of_below b8).of_setCell (.inl (.inl hMB)) _⟩
        have kp8 := (kp.below b8 kp.lt).set_other (C := B) 0 (.slice p8 L'.length c8) (by omega)
        have kd8 := (kd.below b8 kd.lt).set_other (C := B) 0 (.slice p8 L'.length c8) (by omega)
        have kb8 := (kb.trans (b8.mono (by omega))).setCell (p := ⟨B, 0, none⟩) (by simp; omega) (.slice p8 L'.length c8)
        clear hC o8 hown hol hS8 hpb hMj kp kd kB1 kB8 hS1' hS2'
        cases e1 : ((L'.length : Int) == 0) with
        | true =>
          gi_wp2_with fail
          have h0 : L' = [] := List.eq_nil_of_length_eq_zero (by simpa using e1)
          subst h0
          exact ⟨_, hgrow, rfl, HFO.out, hsec, kp8, kd8, kb8⟩
        | false =>
          gi_wp2_with fail
          exact ⟨_, hgrow, by rw [HFO.out]; exact hsec, kp8, kd8, kb8⟩
      case donea =>
        rintro D' M W hD' hMD ⟨hs, k1, k2, k3⟩ hKd
        exact HD D' M W hD' hMD hKd hs k1 k2 k3
      case stopa =>
        rintro D' c pre M W hD' hMD hpre ⟨rfl, hn, hs, k1, k2, k3⟩ hKd
        have hn2 : T.foldl intZ [(S1, S2)] = [] := by
          obtain ⟨r, rfl⟩ := hpre
          rw [List.foldl_append, hn, fold_nil]
        have hfin := HD D' M W hD' hMD hKd (by rw [hn2]; exact hs) k1 k2 k3
        refine wpIn_exit ?_
        exact hfin
    case hda =>
      intro Dd M W hD' hMD hKd hs k1 k2 k3
      obtain ⟨i0, hi0, hz0, hz1, hz2⟩ := info_parts infoS
      have hres := HRES.out
      have hsec := HSEC.out
      have hLl := pre_len hl1 HL.out (List.prefix_refl T) (S1, S2)
      generalize T.foldl intZ [(S1, S2)] = L at hs hres hsec hLl
      have HRES2 := Lib.hid hres
      have HSEC2 := Lib.hid hsec
      obtain ⟨p, cap, kB1, hc1, hS, -⟩ := hs
      have c0 := kB1.cell (i := 0) rfl
      have hFW := hF.below (hK ▸ k3)
      have hDl := (Array.getElem?_eq_some_iff.1 hKd).1
      obtain ⟨Q, hQ⟩ : ∃ Q, W.heap.size = Q := ⟨_, rfl⟩
      rw [hQ] at hS hDl
      have hKQ : K < Q := hQ ▸ k1.lt
      have hDQ : D < Q := hQ ▸ k2.lt
      have hcl := fun (s : Int) (h0 : S1 ≤ s) (h1 : s ≤ S2) (W' : World) (h : Below Q W W') => clos_any P q K s W' (hFW.below (hQ.symm ▸ h)) (k1.below h hKQ) (by omega) (by omega)
      have HCL := Lib.hid hcl
      have HKD := Lib.hid hKd
      have hQW : Q ≤ W.heap.size := Nat.le_of_eq hQ.symm
      have hKDd : w.heap.size ≤ Dd := by omega
      clear HRES HSEC HL hres hsec hsec0 kPL kDL bKL hh hFW kB1 hQ hcl hKd zL kG kB hl1 HV hT hKG hDG hBW hBK hBD hro
      go_wp2_with fail
      go_loopw [13, 44] (fun s13 s44 wr => ∃ (k : Nat) (v : Value), v = s13 ∧ s44 = .int .i64 k ∧ k ≤ L.length ∧ wr.ownsRow Q 34 2 v k (spv ((L.take k).map (frmP P))) ∧ Below Q W wr) (fun _ s44 _ => L.length - (intOf s44).toNat)
      case atStart => exact ⟨0, _, rfl, rfl, Nat.zero_le _, World.ownsRow_nil _ _ _ _, Below.refl _ _⟩
      case round =>
        obtain ⟨k, v, hv, rfl, hk, own, hb⟩ := hrel
        subst hv
        have hszr := hb.size
        have hQr : Q ≤ wr.heap.size := by omega
        by_cases hlt : k < L.length
        · obtain ⟨b', o', rfl, hbl, q0, q1⟩ := (hS.below hb) k hlt
          have hmem : L.getD k (0, 0) ∈ L := by rw [getD_at hlt]; exact List.getElem_mem hlt
          have hrg := HSEC2.out _ hmem
          have hst : (L.take (k + 1)).map (frmP P) = (L.take k).map (frmP P) ++ [frmP P (L.getD k (0, 0))] := by rw [List.take_succ_eq_append_getElem hlt, getD_at hlt, List.map_append]; rfl
          have hfp : frmP P (L.getD k (0, 0)) = (Tc.frmF P.num P.den ((L.getD k (0, 0)).1 - P.ep), Tc.frmF P.num P.den ((L.getD k (0, 0)).2 - P.ep)) := rfl
          have hlk : ((L.take k).map (frmP P)).length = k := by rw [List.length_map, List.length_take]; omega
          generalize (L.take k).map (frmP P) = R at own hst hlk
          rw [hfp] at hst
          have r1 := fun (W' : World) (h : Below Q W W') => HCL.out (L.getD k (0, 0)).1 (by omega) (by omega) W' h
          have r2 := fun (W' : World) (h : Below Q W W') => HCL.out (L.getD k (0, 0)).2 (by omega) (by omega) W' h
          generalize L.getD k (0, 0) = Y at q0 q1 hst r1 r2
          obtain ⟨y1, y2⟩ := Y
          dsimp only at q0 q1 hst r1 r2
          generalize Tc.frmF P.num P.den (y1 - P.ep) = f1 at hst r1
          generalize Tc.frmF P.num P.den (y2 - P.ep) = f2 at hst r2
          have HST := Lib.hid hst
          have hidx : (k : Int) * 2 = ((k * 2 : Nat) : Int) := by omega
          have i1 : (0 : Int) ≤ (k : Int) := by omega
          have i2 : (k : Int) < (L.length : Int) := by omega
          clear hst hfp hrg hmem
          go_wp2_with fail
          obtain ⟨W1, hW1, bb1, zz1, kb1⟩ := boxA wr 34 [iv y1, iv y2]
          rw [hW1]; clear hW1
          have hQ1 : Q ≤ W1.heap.size := by omega
          have b01 : Below Q W W1 := hb.trans (bb1.mono hQr)
          have own1 := own_below own bb1
          have hXn := fun j (hj : v.ownBlock = some j) => (own.lt j hj).2
          have hv1 := kb1.cell (i := 0) rfl
          have hv2 := kb1.cell (i := 1) rfl
          have hXl := kb1.lt
          obtain ⟨X, hX⟩ : ∃ X, wr.heap.size = X := ⟨_, rfl⟩
          rw [hX] at hv1 hv2 hXl hXn ⊢
          clear zz1 kb1
          have hst : W1.drew.cell? ⟨X, 0, none⟩ = some (iv y1) ∧ W1.drew.cell? ⟨X, 1, none⟩ = some (iv y2) ∧ Below Q W1 W1.drew := ⟨hv1, hv2, (Below.refl _ _).drew⟩
          clear hv1 hv2
          have hXv : ∀ j, v.ownBlock = some j → j ≠ X := fun j hj => by have := hXn j hj; omega
          have eg : ∀ args w, (callFunc 68 args).run Tryz.prog w = .ok (.enter 68 args) w := enters_of Tryz.func68 (by kernel_rfl) rfl
          have r1 := fun (W' : World) (h : Below Q W1 W') => r1 W' (b01.trans h)
          have r2 := fun (W' : World) (h : Below Q W1 W') => r2 W' (b01.trans h)
          have hkl : k ≤ 2000 := by omega
          go_wp2_with fail
          go_region_held3 (fun w' => w'.cell? ⟨X, 0, none⟩ = some (iv y1) ∧ w'.cell? ⟨X, 1, none⟩ = some (iv y2) ∧ Below Q W1 w') (first | assumption | exact hst | exact keep2b (by assumption) hXl hQ1 b6 | exact keep2b (by assumption) hXl hQ1 b7 | exact keep2b (by assumption) hXl hQ1 ((Below.refl _ _).alloc (Nat.le_refl _) _) | exact keepA2 (by assumption) hQ1 hgrow9 (own8.alloc _) hXv | fail)
            (first | (go_at_fn 68; (with_reducible refine Calls.mono (r1 _ (by assumption : _ ∧ _ ∧ Below Q W1 _).2.2) ?_); rintro e w6 ⟨rfl, b6⟩) | (go_at_fn 68; (with_reducible refine Calls.mono (r2 _ (by assumption : _ ∧ _ ∧ Below Q W1 _).2.2) ?_); rintro e w7 ⟨rfl, b7⟩; have own8 := own_below (own_below own1.drew b6) b7; have hq8 := own_size8 b6 b7 hQ1) | (refine step_append_lies _ (by rfl) _ _ 40 (by rfl) Q 34 i0 (.agg #[.int .i64 0, .int .i64 0]) 2 16 Tryz.underlying40 hi0 hz0 hz1 hz2 rfl (by omega) _ k (spv R) (by rfl) (own8.alloc _) ⟨w7.heap.size, 0, none⟩ 1 1 [iv f1, iv f2] (by rfl) (by rfl) (cells_new _ _ _) (by simp [Value.oneCell']) (by omega) (by unfold maxLen; omega) (by omega) (by simp; omega) (w7.heap.size + 1) (by simp) ?_; intro gg cap9 w9 hown9 hgrow9 hat9 hlt9) | fail)
          rename_i hHeld
          have hb9 := b01.trans hHeld.2.2
          have HO9 := Lib.hid hown9
          clear hown9 hHeld hst hat9 hgrow9 own8 own1 own b6 b7 r1 r2 eg
          go_wp2_with fail
          refine ⟨⟨k + 1, _, rfl, by go_num, by omega, ?_, hb9⟩, by simp [intOf] <;> omega⟩
          rw [HST.out, spv_append]
          exact HO9.out
        · obtain rfl : k = L.length := by omega
          rw [List.take_length] at own
          have hla : (L.map (frmP P)).length = L.length := List.length_map ..
          have hres := HRES2.out
          have hbd := frmP_bd P L
          rw [← hla] at own
          have hRl : (L.map (frmP P)).length ≤ 2000 := by omega
          generalize L.map (frmP P) = R at own hla hres hbd hRl
          clear hla
          obtain ⟨pr, cr, rfl, hcr, hSR⟩ := own_rel own
          have kd9 := k2.below hb hDQ
          have kd90 := kd9.cell (i := 0) rfl
          have kd91 := kd9.cell (i := 1) rfl
          clear own HCL
          go_wp2_with fail
          obtain ⟨W1, hW1, bb1, zz1, kb1⟩ := boxA wr 34 [iv a, iv b]
          rw [hW1]; clear hW1
          have hS2 : ShAt W1 W1.heap.size (some ⟨wr.heap.size, 0, none⟩) [(a, b)] := fun i hi => by
            obtain rfl : i = 0 := by simpa using hi
            exact ⟨wr.heap.size, 0, rfl, by omega, kb1.cell (i := 0) rfl, kb1.cell (i := 1) rfl⟩
          have hI9 := inter_any pr (some ⟨wr.heap.size, 0, none⟩) cr 1 R [(a, b)] W1 (hSR.into bb1) hS2 (by omega) (by simp) hcr (by simp) hbd (fun s hs => by obtain rfl := List.mem_singleton.1 hs; dsimp only; omega)
          rw [← hres] at hI9
          have hb1 := hb.trans (bb1.mono hQr)
          clear hSR hS2 hres hbd kb1 kd9 kd90 kd91
          refine hI9.mono ?_
          rintro e w9 ⟨v9, rfl, o9, b9⟩
          have z9 := b9.size
          have hb9 := hb1.trans (b9.mono (by omega))
          have hKd9 := (hb9.block Dd (by omega)).trans HKD.out
          have hK9 : Below K w w9 := k3.trans (hb9.mono (by omega))
          have hv9 := own_le o9
          clear hI9 b9
          go_wp2_with fail
          refine ⟨by simp, .inl ⟨_, _, rfl, run_takeDeferred hKd9, ?_⟩⟩
          refine ⟨_, results_tmp rfl _ _ _, v9, rfl, ?_, ?_⟩
          · exact ((Turns.refl (fun j => j = Dd) w9).of_put rfl _).row (own_baseP o9 (by omega)) (fun j hj h => by have := hv9 j hj; omega)
          · exact hK ▸ hK9.trans (belowK_b (w := w) (by omega) w9 Dd _ _ hKDd hKd9 rfl rfl)
  · obtain ⟨WL, hWL, bL, zL, kG, kB, kA, kX, kR, kE⟩ : ∃ WL, (((((Wf.alloc (.cells #[iv (secZ P a), iv (secZ P (b - 1) + 1)] 34)).alloc (.cells #[.slice (some ⟨Wf.heap.size, 0, none⟩) 1 1] 40)).alloc (.cells (plL P q).toArray 32)).alloc (.cells (itL x).toArray 60)).alloc (.cells #[iv r] 3)).alloc (.cells #[iv (secZ P a), iv (secZ P (b - 1) + 1)] 34) = WL ∧
        Below Wf.heap.size Wf WL ∧ WL.heap.size = Wf.heap.size + 6 ∧ Arr WL Wf.heap.size 34 [iv (secZ P a), iv (secZ P (b - 1) + 1)] ∧ Arr WL (Wf.heap.size + 1) 40 [.slice (some ⟨Wf.heap.size, 0, none⟩) 1 1] ∧
        Arr WL (Wf.heap.size + 1 + 1) 32 (plL P q) ∧ Arr WL (Wf.heap.size + 1 + 1 + 1) 60 (itL x) ∧ Arr WL (Wf.heap.size + 1 + 1 + 2) 3 [iv r] ∧ Arr WL (Wf.heap.size + 1 + 1 + 3) 34 [iv (secZ P a), iv (secZ P (b - 1) + 1)] := by
      refine ⟨_, rfl, ((((((Below.refl _ Wf).alloc (Nat.le_refl _) _).alloc (by simp) _).alloc (by simp; omega) _).alloc (by simp; omega) _).alloc (by simp; omega) _).alloc (by simp; omega) _, by simp, ?_, ?_, ?_, ?_, ?_, ?_⟩
      · exact (((((Arr.new Wf _ [iv (secZ P a), iv (secZ P (b - 1) + 1)]).alloc _).alloc _).alloc _).alloc _).alloc _
      · exact ((((Arr.new' _ [.slice (some ⟨Wf.heap.size, 0, none⟩) 1 1] (by simp)).alloc _).alloc _).alloc _).alloc _
      · exact (((Arr.new' _ (plL P q) (by simp)).alloc _).alloc _).alloc _
      · exact ((Arr.new' _ (itL x) (by simp)).alloc _).alloc _
      · exact (Arr.new' _ [iv r] (by simp)).alloc _
      · exact Arr.new' _ [iv (secZ P a), iv (secZ P (b - 1) + 1)] (by simp)
    rw [hWL]
    clear hWL kP9 kI9 kS9 c0 c1 c2 c3 c4 c5 c6 c7 c8 c9 c10 c11 c12 d0 d1 d2 d3 d4 g0 g1 s0 s1
    have hm0 := sec_mono hT a0 (show a ≤ b - 1 by omega) (by omega)
    have hsp := sec_span hT a0 (show a ≤ b - 1 by omega) (by omega) (by omega)
    have hbf := hBf.size
    have hPL := hP.below (b0.trans ((hBf.mono b0.size).trans (bL.mono (by omega))))
    have hh := restr_hands 4 (by omega) (Wf.heap.size + 1 + 1) (Wf.heap.size + 1 + 1 + 1) (Wf.heap.size + 1 + 1 + 2) (Wf.heap.size + 1 + 1 + 3) w.heap.size P q x r (secZ P a) (secZ P (b - 1) + 1) WL (by omega) kA kX kR kE hPL hT (by unfold secZ; omega) (by unfold secZ; omega) (by unfold secZ; omega) (by unfold secZ; omega)
    obtain ⟨hl1, hl2⟩ := sets_ok hT hP.lc x r (F := secZ P a) (T := secZ P (b - 1) + 1) (by unfold secZ; omega) (by unfold secZ; omega) (by unfold secZ; omega) (by unfold secZ; omega)
    have hsecs := secs_ok hT x r a0 ab b1
    have hres : resZ P x r a b = intZ (((setsZ P x r (secZ P a, secZ P (b - 1) + 1)).foldl intZ [(secZ P a, secZ P (b - 1) + 1)]).map (frmP P)) [(a, b)] := rfl
    have hse : secsZ P x r (spnS P a b) = (setsZ P x r (secZ P a, secZ P (b - 1) + 1)).foldl intZ [(secZ P a, secZ P (b - 1) + 1)] := rfl
    rw [HV.out] at hres
    rw [hse] at hsecs
    have HRES := Lib.hid hres
    have HSEC := Lib.hid hsecs.2
    have HL := Lib.hid hl2
    have hS1 : 0 ≤ secZ P a ∧ secZ P a ≤ 9999999999 := by unfold secZ; omega
    have hS2 : 0 ≤ secZ P (b - 1) + 1 ∧ secZ P (b - 1) + 1 ≤ 9999999999 := by unfold secZ; omega
    have hSP : P.ep ≤ secZ P a := by unfold secZ; omega
    clear hres hsecs hse hl2 hPL hm0 hsp kA kX kR kE i1 i2 hw1 hw2
    generalize setsZ P x r (secZ P a, secZ P (b - 1) + 1) = T at *
    generalize secZ P a = S1 at *
    generalize secZ P (b - 1) + 1 = S2 at *
    obtain ⟨G, hG⟩ : ∃ G, Wf.heap.size = G := ⟨_, rfl⟩
    obtain ⟨B, hB⟩ : ∃ B, G + 1 = B := ⟨_, rfl⟩
    have hKG : K < G := by omega
    have hDG : D < G := by omega
    have kPL := kP.below bL (by omega)
    have kDL := kD.below bL (by omega)
    have bKL : Below K w WL := by
      rw [hK] at b0
      exact b0.trans ((hBf.mono (by omega)).trans (bL.mono (by omega)))
    rw [hG] at hh kG kB zL ⊢
    rw [hB] at hh kB ⊢
    rw [hK] at hh
    have hBW : B < WL.heap.size := by omega
    have hBK : K < B := by omega
    have hBD : D ≠ B := by omega
    clear bL hbf kP kI kD kS hBf hP hs2 b0
    have hsec0 : SecAt WL B WL.heap.size (fun k => k = B) [(S1, S2)] := by
      refine ⟨some ⟨G, 0, none⟩, 1, kB, Nat.le_refl _, fun i hi => ?_, fun b o e => .inl ?_, rfl, fun j hj => .inl hj⟩
      · obtain rfl : i = 0 := by simpa using hi
        exact ⟨G, 0, rfl, by omega, kG.cell (i := 0) rfl, kG.cell (i := 1) rfl⟩
      · cases e; omega
    refine (fun (HD : ∀ (Dd : Nat) (M : Nat → Prop) (W : World), WL.heap.size ≤ Dd → ¬ M Dd → W.heap[Dd]? = some (.deferred (some [])) → SecAt W B WL.heap.size M (T.foldl intZ [(S1, S2)]) → Arr W K 32 (plL P q) → Arr W D 34 [iv a, iv b] → Below K w W → (?Xb : Nat → World → Prop) Dd W) => ?mainb) ?hdb
    case mainb =>
      refine (wpIn_wide (n := 5)).1 ?_
      refine wpIn_rangeFunc_handsR hro h1 (gf := 84) (lb := #[.pointer (some ⟨B + 1, 0, none⟩), .pointer (some ⟨B + 1 + 1, 0, none⟩), .pointer (some ⟨B + 1 + 2, 0, none⟩), .pointer (some ⟨B + 1 + 3, 0, none⟩)]) rfl (hwide _) (enters_of Tryz.func84 (by kernel_rfl) rfl)
        hh (Below.refl _ _) rfl
        (fun pre M W => SecAt W B WL.heap.size M (pre.foldl intZ [(S1, S2)]) ∧ Arr W K 32 (plL P q) ∧ Arr W D 34 [iv a, iv b] ∧ Below K w W)
        (fun c pre M W => c = Code.exit 0 ∧ pre.foldl intZ [(S1, S2)] = [] ∧ SecAt W B WL.heap.size M [] ∧ Arr W K 32 (plL P q) ∧ Arr W D 34 [iv a, iv b] ∧ Below K w W)
        ?hIb ?hIxb (fun k => k = B) ?hM0b ?h0b ?a1b ?assignb ?bodyb ?doneb ?stopb
      case hIb =>
        rintro xs M A B' ⟨h, k1, k2, k3⟩ ht
        have hMK : ∀ j, M j → j = B ∨ WL.heap.size ≤ j := by obtain ⟨_, _, _, _, _, _, _, h6⟩ := h; exact h6
        exact ⟨h.turn ht, ht.arr k1 (fun h => by have := h.1; omega), ht.arr k2 (fun h => by have := h.1; omega), k3.trans (ht.below (by have := k1.lt; omega) (fun k hk => by omega))⟩
      case hIxb =>
        rintro c xs M A B' ⟨hc, hn, h, k1, k2, k3⟩ ht
        exact ⟨hc, hn, h.turn ht, ht.arr k1 (fun h => by have := h.1; omega), ht.arr k2 (fun h => by have := h.1; omega), k3.trans (ht.below (by have := k1.lt; omega) (fun k hk => by omega))⟩
      case hM0b =>
        rintro k rfl
        exact ⟨hBW, by omega⟩
      case h0b => exact ⟨hsec0, kPL, kDL, bKL⟩
      case assignb =>
        intro l x v W K hr hK
        gi_wp2
        exact hK
      case bodyb =>
        rintro lp pre x' v M W ⟨hs, kp, kd, kb⟩ hpre hrel hMl hWs
        obtain ⟨p1, cap1, kB1, hc1, hS1', hpb, hMB, hMj⟩ := hs
        obtain ⟨p2, cap2, rfl, hc2, hS2'⟩ := hrel
        have hpre0 : pre <+: T := (List.prefix_append _ _).trans hpre
        have hln := pre_len hl1 HL.out hpre0 (S1, S2)
        have hbd := fold_bd pre [(S1, S2)] (fun s hs => by obtain rfl := List.mem_singleton.1 hs; dsimp only; omega)
        have hx' := HL.out x' (hpre.subset (by simp))
        have hfo : (pre ++ [x']).foldl intZ [(S1, S2)] = intZ (pre.foldl intZ [(S1, S2)]) x' := by rw [List.foldl_append]; rfl
        generalize pre.foldl intZ [(S1, S2)] = L at kB1 hc1 hS1' hln hbd hfo
        have hC := inter_any p1 p2 cap1 cap2 L x' W hS1' hS2' (by omega) (by omega) hc1 hc2 hbd hx'.2
        generalize intZ L x' = L' at hC hfo
        have HFO := Lib.hid hfo
        have HPR := Lib.hid hpre
        have c0 := kB1.cell (i := 0) rfl
        have hBl := kB1.lt
        clear hfo hpre hpre0 hx' hbd
        gi_wp2_with fail
        refine (CallsIn.inRound lp (callsIn_wide.2 hC)).mono ?_
        rintro e w8 ⟨v', rfl, o8, b8⟩
        have kB8 := kB1.below b8 hBl
        have f0 := kB8.frozen 0
        have e0 := kB8.cell (i := 0) rfl
        have z8 := b8.size
        have hown := own_le o8
        have hol := fun j (hj : v'.ownBlock = some j) => (o8.lt j hj).2
        obtain ⟨p8, c8, rfl, hc8, hS8⟩ := own_rel o8
        have hsec : SecAt (w8.setCell ⟨B, 0, none⟩ (.slice p8 L'.length c8)) B WL.heap.size (fun j => M j ∨ (Value.slice p8 L'.length c8).ownBlock = some j) L' := by
          refine ⟨p8, c8, kB8.set 0 _, hc8, hS8.same (by simp) fun b o e hb => ?_, fun b o e => .inr (.inr (by rw [e]; rfl)), .inl hMB, fun j hj => ?_⟩
          · subst e
            have := hown b rfl
            exact Below.heap_setCell _ _ _ _ (by intro h; have h := congrArg id h; simp at h; omega)
          · rcases hj with hj | hj
            · exact hMj j hj
            · have := hown j hj; exact .inr (by omega)
        have hgrow : Grown M (fun j => M j ∨ (Value.slice p8 L'.length c8).ownBlock = some j) W (w8.setCell ⟨B, 0, none⟩ (.slice p8 L'.length c8)) :=
          ⟨fun _ h => .inl h, fun k h => by rcases h with h | h; exact .inl h; exact .inr (hown k h), fun k h => by rcases h with h | h; (have := hMl k h; simp; omega); (have := hol k h; simpa using this),
           (Turns.of_below b8).of_setCell (.inl (.inl hMB)) _⟩
        have kp8 := (kp.below b8 kp.lt).set_other (C := B) 0 (.slice p8 L'.length c8) (by omega)
        have kd8 := (kd.below b8 kd.lt).set_other (C := B) 0 (.slice p8 L'.length c8) (by omega)
        have kb8 := (kb.trans (b8.mono (by omega))).setCell (p := ⟨B, 0, none⟩) (by simp; omega) (.slice p8 L'.length c8)
        clear hC o8 hown hol hS8 hpb hMj kp kd kB1 kB8 hS1' hS2'
        cases e1 : ((L'.length : Int) == 0) with
        | true =>
          gi_wp2_with fail
          have h0 : L' = [] := List.eq_nil_of_length_eq_zero (by simpa using e1)
          subst h0
          exact ⟨_, hgrow, rfl, HFO.out, hsec, kp8, kd8, kb8⟩
        | false =>
          gi_wp2_with fail
          exact ⟨_, hgrow, by rw [HFO.out]; exact hsec, kp8, kd8, kb8⟩
      case doneb =>
        rintro D' M W hD' hMD ⟨hs, k1, k2, k3⟩ hKd
        exact HD D' M W hD' hMD hKd hs k1 k2 k3
      case stopb =>
        rintro D' c pre M W hD' hMD hpre ⟨rfl, hn, hs, k1, k2, k3⟩ hKd
        have hn2 : T.foldl intZ [(S1, S2)] = [] := by
          obtain ⟨r, rfl⟩ := hpre
          rw [List.foldl_append, hn, fold_nil]
        have hfin := HD D' M W hD' hMD hKd (by rw [hn2]; exact hs) k1 k2 k3
        refine wpIn_exit ?_
        exact hfin
    case hdb =>
      intro Dd M W hD' hMD hKd hs k1 k2 k3
      obtain ⟨i0, hi0, hz0, hz1, hz2⟩ := info_parts infoS
      have hres := HRES.out
      have hsec := HSEC.out
      have hLl := pre_len hl1 HL.out (List.prefix_refl T) (S1, S2)
      generalize T.foldl intZ [(S1, S2)] = L at hs hres hsec hLl
      have HRES2 := Lib.hid hres
      have HSEC2 := Lib.hid hsec
      obtain ⟨p, cap, kB1, hc1, hS, -⟩ := hs
      have c0 := kB1.cell (i := 0) rfl
      have hFW := hF.below (hK ▸ k3)
      have hDl := (Array.getElem?_eq_some_iff.1 hKd).1
      obtain ⟨Q, hQ⟩ : ∃ Q, W.heap.size = Q := ⟨_, rfl⟩
      rw [hQ] at hS hDl
      have hKQ : K < Q := hQ ▸ k1.lt
      have hDQ : D < Q := hQ ▸ k2.lt
      have hcl := fun (s : Int) (h0 : S1 ≤ s) (h1 : s ≤ S2) (W' : World) (h : Below Q W W') => clos_any P q K s W' (hFW.below (hQ.symm ▸ h)) (k1.below h hKQ) (by omega) (by omega)
      have HCL := Lib.hid hcl
      have HKD := Lib.hid hKd
      have hQW : Q ≤ W.heap.size := Nat.le_of_eq hQ.symm
      have hKDd : w.heap.size ≤ Dd := by omega
      clear HRES HSEC HL hres hsec hsec0 kPL kDL bKL hh hFW kB1 hQ hcl hKd zL kG kB hl1 HV hT hKG hDG hBW hBK hBD hro
      go_wp2_with fail
      go_loopw [13, 44] (fun s13 s44 wr => ∃ (k : Nat) (v : Value), v = s13 ∧ s44 = .int .i64 k ∧ k ≤ L.length ∧ wr.ownsRow Q 34 2 v k (spv ((L.take k).map (frmP P))) ∧ Below Q W wr) (fun _ s44 _ => L.length - (intOf s44).toNat)
      case atStart => exact ⟨0, _, rfl, rfl, Nat.zero_le _, World.ownsRow_nil _ _ _ _, Below.refl _ _⟩
      case round =>
        obtain ⟨k, v, hv, rfl, hk, own, hb⟩ := hrel
        subst hv
        have hszr := hb.size
        have hQr : Q ≤ wr.heap.size := by omega
        by_cases hlt : k < L.length
        · obtain ⟨b', o', rfl, hbl, q0, q1⟩ := (hS.below hb) k hlt
          have hmem : L.getD k (0, 0) ∈ L := by rw [getD_at hlt]; exact List.getElem_mem hlt
          have hrg := HSEC2.out _ hmem
          have hst : (L.take (k + 1)).map (frmP P) = (L.take k).map (frmP P) ++ [frmP P (L.getD k (0, 0))] := by rw [List.take_succ_eq_append_getElem hlt, getD_at hlt, List.map_append]; rfl
          have hfp : frmP P (L.getD k (0, 0)) = (Tc.frmF P.num P.den ((L.getD k (0, 0)).1 - P.ep), Tc.frmF P.num P.den ((L.getD k (0, 0)).2 - P.ep)) := rfl
          have hlk : ((L.take k).map (frmP P)).length = k := by rw [List.length_map, List.length_take]; omega
          generalize (L.take k).map (frmP P) = R at own hst hlk
          rw [hfp] at hst
          have r1 := fun (W' : World) (h : Below Q W W') => HCL.out (L.getD k (0, 0)).1 (by omega) (by omega) W' h
          have r2 := fun (W' : World) (h : Below Q W W') => HCL.out (L.getD k (0, 0)).2 (by omega) (by omega) W' h
          generalize L.getD k (0, 0) = Y at q0 q1 hst r1 r2
          obtain ⟨y1, y2⟩ := Y
          dsimp only at q0 q1 hst r1 r2
          generalize Tc.frmF P.num P.den (y1 - P.ep) = f1 at hst r1
          generalize Tc.frmF P.num P.den (y2 - P.ep) = f2 at hst r2
          have HST := Lib.hid hst
          have hidx : (k : Int) * 2 = ((k * 2 : Nat) : Int) := by omega
          have i1 : (0 : Int) ≤ (k : Int) := by omega
          have i2 : (k : Int) < (L.length : Int) := by omega
          clear hst hfp hrg hmem
          go_wp2_with fail
          obtain ⟨W1, hW1, bb1, zz1, kb1⟩ := boxA wr 34 [iv y1, iv y2]
          rw [hW1]; clear hW1
          have hQ1 : Q ≤ W1.heap.size := by omega
          have b01 : Below Q W W1 := hb.trans (bb1.mono hQr)
          have own1 := own_below own bb1
          have hXn := fun j (hj : v.ownBlock = some j) => (own.lt j hj).2
          have hv1 := kb1.cell (i := 0) rfl
          have hv2 := kb1.cell (i := 1) rfl
          have hXl := kb1.lt
          obtain ⟨X, hX⟩ : ∃ X, wr.heap.size = X := ⟨_, rfl⟩
          rw [hX] at hv1 hv2 hXl hXn ⊢
          clear zz1 kb1
          have hst : W1.drew.cell? ⟨X, 0, none⟩ = some (iv y1) ∧ W1.drew.cell? ⟨X, 1, none⟩ = some (iv y2) ∧ Below Q W1 W1.drew := ⟨hv1, hv2, (Below.refl _ _).drew⟩
          clear hv1 hv2
          have hXv : ∀ j, v.ownBlock = some j → j ≠ X := fun j hj => by have := hXn j hj; omega
          have eg : ∀ args w, (callFunc 68 args).run Tryz.prog w = .ok (.enter 68 args) w := enters_of Tryz.func68 (by kernel_rfl) rfl
          have r1 := fun (W' : World) (h : Below Q W1 W') => r1 W' (b01.trans h)
          have r2 := fun (W' : World) (h : Below Q W1 W') => r2 W' (b01.trans h)
          have hkl : k ≤ 2000 := by omega
          go_wp2_with fail
          go_region_held3 (fun w' => w'.cell? ⟨X, 0, none⟩ = some (iv y1) ∧ w'.cell? ⟨X, 1, none⟩ = some (iv y2) ∧ Below Q W1 w') (first | assumption | exact hst | exact keep2b (by assumption) hXl hQ1 b6 | exact keep2b (by assumption) hXl hQ1 b7 | exact keep2b (by assumption) hXl hQ1 ((Below.refl _ _).alloc (Nat.le_refl _) _) | exact keepA2 (by assumption) hQ1 hgrow9 (own8.alloc _) hXv | fail)
            (first | (go_at_fn 68; (with_reducible refine Calls.mono (r1 _ (by assumption : _ ∧ _ ∧ Below Q W1 _).2.2) ?_); rintro e w6 ⟨rfl, b6⟩) | (go_at_fn 68; (with_reducible refine Calls.mono (r2 _ (by assumption : _ ∧ _ ∧ Below Q W1 _).2.2) ?_); rintro e w7 ⟨rfl, b7⟩; have own8 := own_below (own_below own1.drew b6) b7; have hq8 := own_size8 b6 b7 hQ1) | (refine step_append_lies _ (by rfl) _ _ 40 (by rfl) Q 34 i0 (.agg #[.int .i64 0, .int .i64 0]) 2 16 Tryz.underlying40 hi0 hz0 hz1 hz2 rfl (by omega) _ k (spv R) (by rfl) (own8.alloc _) ⟨w7.heap.size, 0, none⟩ 1 1 [iv f1, iv f2] (by rfl) (by rfl) (cells_new _ _ _) (by simp [Value.oneCell']) (by omega) (by unfold maxLen; omega) (by omega) (by simp; omega) (w7.heap.size + 1) (by simp) ?_; intro gg cap9 w9 hown9 hgrow9 hat9 hlt9) | fail)
          rename_i hHeld
          have hb9 := b01.trans hHeld.2.2
          have HO9 := Lib.hid hown9
          clear hown9 hHeld hst hat9 hgrow9 own8 own1 own b6 b7 r1 r2 eg
          go_wp2_with fail
          refine ⟨⟨k + 1, _, rfl, by go_num, by omega, ?_, hb9⟩, by simp [intOf] <;> omega⟩
          rw [HST.out, spv_append]
          exact HO9.out
        · obtain rfl : k = L.length := by omega
          rw [List.take_length] at own
          have hla : (L.map (frmP P)).length = L.length := List.length_map ..
          have hres := HRES2.out
          have hbd := frmP_bd P L
          rw [← hla] at own
          have hRl : (L.map (frmP P)).length ≤ 2000 := by omega
          generalize L.map (frmP P) = R at own hla hres hbd hRl
          clear hla
          obtain ⟨pr, cr, rfl, hcr, hSR⟩ := own_rel own
          have kd9 := k2.below hb hDQ
          have kd90 := kd9.cell (i := 0) rfl
          have kd91 := kd9.cell (i := 1) rfl
          clear own HCL
          go_wp2_with fail
          obtain ⟨W1, hW1, bb1, zz1, kb1⟩ := boxA wr 34 [iv a, iv b]
          rw [hW1]; clear hW1
          have hS2 : ShAt W1 W1.heap.size (some ⟨wr.heap.size, 0, none⟩) [(a, b)] := fun i hi => by
            obtain rfl : i = 0 := by simpa using hi
            exact ⟨wr.heap.size, 0, rfl, by omega, kb1.cell (i := 0) rfl, kb1.cell (i := 1) rfl⟩
          have hI9 := inter_any pr (some ⟨wr.heap.size, 0, none⟩) cr 1 R [(a, b)] W1 (hSR.into bb1) hS2 (by omega) (by simp) hcr (by simp) hbd (fun s hs => by obtain rfl := List.mem_singleton.1 hs; dsimp only; omega)
          rw [← hres] at hI9
          have hb1 := hb.trans (bb1.mono hQr)
          clear hSR hS2 hres hbd kb1 kd9 kd90 kd91
          refine hI9.mono ?_
          rintro e w9 ⟨v9, rfl, o9, b9⟩
          have z9 := b9.size
          have hb9 := hb1.trans (b9.mono (by omega))
          have hKd9 := (hb9.block Dd (by omega)).trans HKD.out
          have hK9 : Below K w w9 := k3.trans (hb9.mono (by omega))
          have hv9 := own_le o9
          clear hI9 b9
          go_wp2_with fail
          refine ⟨by simp, .inl ⟨_, _, rfl, run_takeDeferred hKd9, ?_⟩⟩
          refine ⟨_, results_tmp rfl _ _ _, v9, rfl, ?_, ?_⟩
          · exact ((Turns.refl (fun j => j = Dd) w9).of_put rfl _).row (own_baseP o9 (by omega)) (fun j hj h => by have := hv9 j hj; omega)
          · exact hK ▸ hK9.trans (belowK_b (w := w) (by omega) w9 Dd _ _ hKDd hKd9 rfl rfl)
  · obtain ⟨WL, hWL, bL, zL, kG, kB, kA, kX, kR, kE⟩ : ∃ WL, (((((Wf.alloc (.cells #[iv (secZ P a), iv (secZ P (b - 1) + 1)] 34)).alloc (.cells #[.slice (some ⟨Wf.heap.size, 0, none⟩) 1 1] 40)).alloc (.cells (plL P q).toArray 32)).alloc (.cells (itL x).toArray 60)).alloc (.cells #[iv r] 3)).alloc (.cells #[iv (secZ P a), iv (secZ P (b - 1) + 1)] 34) = WL ∧
        Below Wf.heap.size Wf WL ∧ WL.heap.size = Wf.heap.size + 6 ∧ Arr WL Wf.heap.size 34 [iv (secZ P a), iv (secZ P (b - 1) + 1)] ∧ Arr WL (Wf.heap.size + 1) 40 [.slice (some ⟨Wf.heap.size, 0, none⟩) 1 1] ∧
        Arr WL (Wf.heap.size + 1 + 1) 32 (plL P q) ∧ Arr WL (Wf.heap.size + 1 + 1 + 1) 60 (itL x) ∧ Arr WL (Wf.heap.size + 1 + 1 + 2) 3 [iv r] ∧ Arr WL (Wf.heap.size + 1 + 1 + 3) 34 [iv (secZ P a), iv (secZ P (b - 1) + 1)] := by
      refine ⟨_, rfl, ((((((Below.refl _ Wf).alloc (Nat.le_refl _) _).alloc (by simp) _).alloc (by simp; omega) _).alloc (by simp; omega) _).alloc (by simp; omega) _).alloc (by simp; omega) _, by simp, ?_, ?_, ?_, ?_, ?_, ?_⟩
      · exact (((((Arr.new Wf _ [iv (secZ P a), iv (secZ P (b - 1) + 1)]).alloc _).alloc _).alloc _).alloc _).alloc _
      · exact ((((Arr.new' _ [.slice (some ⟨Wf.heap.size, 0, none⟩) 1 1] (by simp)).alloc _).alloc _).alloc _).alloc _
      · exact (((Arr.new' _ (plL P q) (by simp)).alloc _).alloc _).alloc _
      · exact ((Arr.new' _ (itL x) (by simp)).alloc _).alloc _
      · exact (Arr.new' _ [iv r] (by simp)).alloc _
      · exact Arr.new' _ [iv (secZ P a), iv (secZ P (b - 1) + 1)] (by simp)
    rw [hWL]
    clear hWL kP9 kI9 kS9 c0 c1 c2 c3 c4 c5 c6 c7 c8 c9 c10 c11 c12 d0 d1 d2 d3 d4 g0 g1 s0 s1
    have hm0 := sec_mono hT a0 (show a ≤ b - 1 by omega) (by omega)
    have hsp := sec_span hT a0 (show a ≤ b - 1 by omega) (by omega) (by omega)
    have hbf := hBf.size
    have hPL := hP.below (b0.trans ((hBf.mono b0.size).trans (bL.mono (by omega))))
    have hh := restr_hands 4 (by omega) (Wf.heap.size + 1 + 1) (Wf.heap.size + 1 + 1 + 1) (Wf.heap.size + 1 + 1 + 2) (Wf.heap.size + 1 + 1 + 3) w.heap.size P q x r (secZ P a) (secZ P (b - 1) + 1) WL (by omega) kA kX kR kE hPL hT (by unfold secZ; omega) (by unfold secZ; omega) (by unfold secZ; omega) (by unfold secZ; omega)
    obtain ⟨hl1, hl2⟩ := sets_ok hT hP.lc x r (F := secZ P a) (T := secZ P (b - 1) + 1) (by unfold secZ; omega) (by unfold secZ; omega) (by unfold secZ; omega) (by unfold secZ; omega)
    have hsecs := secs_ok hT x r a0 ab b1
    have hres : resZ P x r a b = intZ (((setsZ P x r (secZ P a, secZ P (b - 1) + 1)).foldl intZ [(secZ P a, secZ P (b - 1) + 1)]).map (frmP P)) [(a, b)] := rfl
    have hse : secsZ P x r (spnS P a b) = (setsZ P x r (secZ P a, secZ P (b - 1) + 1)).foldl intZ [(secZ P a, secZ P (b - 1) + 1)] := rfl
    rw [HV.out] at hres
    rw [hse] at hsecs
    have HRES := Lib.hid hres
    have HSEC := Lib.hid hsecs.2
    have HL := Lib.hid hl2
    have hS1 : 0 ≤ secZ P a ∧ secZ P a ≤ 9999999999 := by unfold secZ; omega
    have hS2 : 0 ≤ secZ P (b - 1) + 1 ∧ secZ P (b - 1) + 1 ≤ 9999999999 := by unfold secZ; omega
    have hSP : P.ep ≤ secZ P a := by unfold secZ; omega
    clear hres hsecs hse hl2 hPL hm0 hsp kA kX kR kE i1 i2 hw1 hw2
    generalize setsZ P x r (secZ P a, secZ P (b - 1) + 1) = T at *
    generalize secZ P a = S1 at *
    generalize secZ P (b - 1) + 1 = S2 at *
    obtain ⟨G, hG⟩ : ∃ G, Wf.heap.size = G := ⟨_, rfl⟩
    obtain ⟨B, hB⟩ : ∃ B, G + 1 = B := ⟨_, rfl⟩
    have hKG : K < G := by omega
    have hDG : D < G := by omega
    have kPL := kP.below bL (by omega)
    have kDL := kD.below bL (by omega)
    have bKL : Below K w WL := by
      rw [hK] at b0
      exact b0.trans ((hBf.mono (by omega)).trans (bL.mono (by omega)))
    rw [hG] at hh kG kB zL ⊢
    rw [hB] at hh kB ⊢
    rw [hK] at hh
    have hBW : B < WL.heap.size := by omega
    have hBK : K < B := by omega
    have hBD : D ≠ B := by omega
    clear bL hbf kP kI kD kS hBf hP hs2 b0
    have hsec0 : SecAt WL B WL.heap.size (fun k => k = B) [(S1, S2)] := by
      refine ⟨some ⟨G, 0, none⟩, 1, kB, Nat.le_refl _, fun i hi => ?_, fun b o e => .inl ?_, rfl, fun j hj => .inl hj⟩
      · obtain rfl : i = 0 := by simpa using hi
        exact ⟨G, 0, rfl, by omega, kG.cell (i := 0) rfl, kG.cell (i := 1) rfl⟩
      · cases e; omega
    refine (fun (HD : ∀ (Dd : Nat) (M : Nat → Prop) (W : World), WL.heap.size ≤ Dd → ¬ M Dd → W.heap[Dd]? = some (.deferred (some [])) → SecAt W B WL.heap.size M (T.foldl intZ [(S1, S2)]) → Arr W K 32 (plL P q) → Arr W D 34 [iv a, iv b] → Below K w W → (?Xc : Nat → World → Prop) Dd W) => ?mainc) ?hdc
    case mainc =>
      refine (wpIn_wide (n := 5)).1 ?_
      refine wpIn_rangeFunc_handsR hro h1 (gf := 84) (lb := #[.pointer (some ⟨B + 1, 0, none⟩), .pointer (some ⟨B + 1 + 1, 0, none⟩), .pointer (some ⟨B + 1 + 2, 0, none⟩), .pointer (some ⟨B + 1 + 3, 0, none⟩)]) rfl (hwide _) (enters_of Tryz.func84 (by kernel_rfl) rfl)
        hh (Below.refl _ _) rfl
        (fun pre M W => SecAt W B WL.heap.size M (pre.foldl intZ [(S1, S2)]) ∧ Arr W K 32 (plL P q) ∧ Arr W D 34 [iv a, iv b] ∧ Below K w W)
        (fun c pre M W => c = Code.exit 0 ∧ pre.foldl intZ [(S1, S2)] = [] ∧ SecAt W B WL.heap.size M [] ∧ Arr W K 32 (plL P q) ∧ Arr W D 34 [iv a, iv b] ∧ Below K w W)
        ?hIc ?hIxc (fun k => k = B) ?hM0c ?h0c ?a1c ?assignc ?bodyc ?donec ?stopc
      case hIc =>
        rintro xs M A B' ⟨h, k1, k2, k3⟩ ht
        have hMK : ∀ j, M j → j = B ∨ WL.heap.size ≤ j := by obtain ⟨_, _, _, _, _, _, _, h6⟩ := h; exact h6
        exact ⟨h.turn ht, ht.arr k1 (fun h => by have := h.1; omega), ht.arr k2 (fun h => by have := h.1; omega), k3.trans (ht.below (by have := k1.lt; omega) (fun k hk => by omega))⟩
      case hIxc =>
        rintro c xs M A B' ⟨hc, hn, h, k1, k2, k3⟩ ht
        exact ⟨hc, hn, h.turn ht, ht.arr k1 (fun h => by have := h.1; omega), ht.arr k2 (fun h => by have := h.1; omega), k3.trans (ht.below (by have := k1.lt; omega) (fun k hk => by omega))⟩
      case hM0c =>
        rintro k rfl
        exact ⟨hBW, by omega⟩
      case h0c => exact ⟨hsec0, kPL, kDL, bKL⟩
      case assignc =>
        intro l x v W K hr hK
        gi_wp2
        exact hK
      case bodyc =>
        rintro lp pre x' v M W ⟨hs, kp, kd, kb⟩ hpre hrel hMl hWs
        obtain ⟨p1, cap1, kB1, hc1, hS1', hpb, hMB, hMj⟩ := hs
        obtain ⟨p2, cap2, rfl, hc2, hS2'⟩ := hrel
        have hpre0 : pre <+: T := (List.prefix_append _ _).trans hpre
        have hln := pre_len hl1 HL.out hpre0 (S1, S2)
        have hbd := fold_bd pre [(S1, S2)] (fun s hs => by obtain rfl := List.mem_singleton.1 hs; dsimp only; omega)
        have hx' := HL.out x' (hpre.subset (by simp))
        have hfo : (pre ++ [x']).foldl intZ [(S1, S2)] = intZ (pre.foldl intZ [(S1, S2)]) x' := by rw [List.foldl_append]; rfl
        generalize pre.foldl intZ [(S1, S2)] = L at kB1 hc1 hS1' hln hbd hfo
        have hC := inter_any p1 p2 cap1 cap2 L x' W hS1' hS2' (by omega) (by omega) hc1 hc2 hbd hx'.2
        generalize intZ L x' = L' at hC hfo
        have HFO := Lib.hid hfo
        have HPR := Lib.hid hpre
        have c0 := kB1.cell (i := 0) rfl
        have hBl := kB1.lt
        clear hfo hpre hpre0 hx' hbd
        gi_wp2_with fail
        refine (CallsIn.inRound lp (callsIn_wide.2 hC)).mono ?_
        rintro e w8 ⟨v', rfl, o8, b8⟩
        have kB8 := kB1.below b8 hBl
        have f0 := kB8.frozen 0
        have e0 := kB8.cell (i := 0) rfl
        have z8 := b8.size
        have hown := own_le o8
        have hol := fun j (hj : v'.ownBlock = some j) => (o8.lt j hj).2
        obtain ⟨p8, c8, rfl, hc8, hS8⟩ := own_rel o8
        have hsec : SecAt (w8.setCell ⟨B, 0, none⟩ (.slice p8 L'.length c8)) B WL.heap.size (fun j => M j ∨ (Value.slice p8 L'.length c8).ownBlock = some j) L' := by
          refine ⟨p8, c8, kB8.set 0 _, hc8, hS8.same (by simp) fun b o e hb => ?_, fun b o e => .inr (.inr (by rw [e]; rfl)), .inl hMB, fun j hj => ?_⟩
          · subst e
            have := hown b rfl
            exact Below.heap_setCell _ _ _ _ (by intro h; have h := congrArg id h; simp at h; omega)
          · rcases hj with hj | hj
            · exact hMj j hj
            · have := hown j hj; exact .inr (by omega)
        have hgrow : Grown M (fun j => M j ∨ (Value.slice p8 L'.length c8).ownBlock = some j) W (w8.setCell ⟨B, 0, none⟩ (.slice p8 L'.length c8)) :=
          ⟨fun _ h => .inl h, fun k h => by rcases h with h | h; exact .inl h; exact .inr (hown k h), fun k h => by rcases h with h | h; (have := hMl k h; simp; omega); (have := hol k h; simpa using this),
           (Turns.of_below b8).of_setCell (.inl (.inl hMB)) _⟩
        have kp8 := (kp.below b8 kp.lt).set_other (C := B) 0 (.slice p8 L'.length c8) (by omega)
        have kd8 := (kd.below b8 kd.lt).set_other (C := B) 0 (.slice p8 L'.length c8) (by omega)
        have kb8 := (kb.trans (b8.mono (by omega))).setCell (p := ⟨B, 0, none⟩) (by simp; omega) (.slice p8 L'.length c8)
        clear hC o8 hown hol hS8 hpb hMj kp kd kB1 kB8 hS1' hS2'
        cases e1 : ((L'.length : Int) == 0) with
        | true =>
          gi_wp2_with fail
          have h0 : L' = [] := List.eq_nil_of_length_eq_zero (by simpa using e1)
          subst h0
          exact ⟨_, hgrow, rfl, HFO.out, hsec, kp8, kd8, kb8⟩
        | false =>
          gi_wp2_with fail
          exact ⟨_, hgrow, by rw [HFO.out]; exact hsec, kp8, kd8, kb8⟩
      case donec =>
        rintro D' M W hD' hMD ⟨hs, k1, k2, k3⟩ hKd
        exact HD D' M W hD' hMD hKd hs k1 k2 k3
      case stopc =>
        rintro D' c pre M W hD' hMD hpre ⟨rfl, hn, hs, k1, k2, k3⟩ hKd
        have hn2 : T.foldl intZ [(S1, S2)] = [] := by
          obtain ⟨r, rfl⟩ := hpre
          rw [List.foldl_append, hn, fold_nil]
        have hfin := HD D' M W hD' hMD hKd (by rw [hn2]; exact hs) k1 k2 k3
        refine wpIn_exit ?_
        exact hfin
    case hdc =>
      intro Dd M W hD' hMD hKd hs k1 k2 k3
      obtain ⟨i0, hi0, hz0, hz1, hz2⟩ := info_parts infoS
      have hres := HRES.out
      have hsec := HSEC.out
      have hLl := pre_len hl1 HL.out (List.prefix_refl T) (S1, S2)
      generalize T.foldl intZ [(S1, S2)] = L at hs hres hsec hLl
      have HRES2 := Lib.hid hres
      have HSEC2 := Lib.hid hsec
      obtain ⟨p, cap, kB1, hc1, hS, -⟩ := hs
      have c0 := kB1.cell (i := 0) rfl
      have hFW := hF.below (hK ▸ k3)
      have hDl := (Array.getElem?_eq_some_iff.1 hKd).1
      obtain ⟨Q, hQ⟩ : ∃ Q, W.heap.size = Q := ⟨_, rfl⟩
      rw [hQ] at hS hDl
      have hKQ : K < Q := hQ ▸ k1.lt
      have hDQ : D < Q := hQ ▸ k2.lt
      have hcl := fun (s : Int) (h0 : S1 ≤ s) (h1 : s ≤ S2) (W' : World) (h : Below Q W W') => clos_any P q K s W' (hFW.below (hQ.symm ▸ h)) (k1.below h hKQ) (by omega) (by omega)
      have HCL := Lib.hid hcl
      have HKD := Lib.hid hKd
      have hQW : Q ≤ W.heap.size := Nat.le_of_eq hQ.symm
      have hKDd : w.heap.size ≤ Dd := by omega
      clear HRES HSEC HL hres hsec hsec0 kPL kDL bKL hh hFW kB1 hQ hcl hKd zL kG kB hl1 HV hT hKG hDG hBW hBK hBD hro
      go_wp2_with fail
      go_loopw [13, 44] (fun s13 s44 wr => ∃ (k : Nat) (v : Value), v = s13 ∧ s44 = .int .i64 k ∧ k ≤ L.length ∧ wr.ownsRow Q 34 2 v k (spv ((L.take k).map (frmP P))) ∧ Below Q W wr) (fun _ s44 _ => L.length - (intOf s44).toNat)
      case atStart => exact ⟨0, _, rfl, rfl, Nat.zero_le _, World.ownsRow_nil _ _ _ _, Below.refl _ _⟩
      case round =>
        obtain ⟨k, v, hv, rfl, hk, own, hb⟩ := hrel
        subst hv
        have hszr := hb.size
        have hQr : Q ≤ wr.heap.size := by omega
        by_cases hlt : k < L.length
        · obtain ⟨b', o', rfl, hbl, q0, q1⟩ := (hS.below hb) k hlt
          have hmem : L.getD k (0, 0) ∈ L := by rw [getD_at hlt]; exact List.getElem_mem hlt
          have hrg := HSEC2.out _ hmem
          have hst : (L.take (k + 1)).map (frmP P) = (L.take k).map (frmP P) ++ [frmP P (L.getD k (0, 0))] := by rw [List.take_succ_eq_append_getElem hlt, getD_at hlt, List.map_append]; rfl
          have hfp : frmP P (L.getD k (0, 0)) = (Tc.frmF P.num P.den ((L.getD k (0, 0)).1 - P.ep), Tc.frmF P.num P.den ((L.getD k (0, 0)).2 - P.ep)) := rfl
          have hlk : ((L.take k).map (frmP P)).length = k := by rw [List.length_map, List.length_take]; omega
          generalize (L.take k).map (frmP P) = R at own hst hlk
          rw [hfp] at hst
          have r1 := fun (W' : World) (h : Below Q W W') => HCL.out (L.getD k (0, 0)).1 (by omega) (by omega) W' h
          have r2 := fun (W' : World) (h : Below Q W W') => HCL.out (L.getD k (0, 0)).2 (by omega) (by omega) W' h
          generalize L.getD k (0, 0) = Y at q0 q1 hst r1 r2
          obtain ⟨y1, y2⟩ := Y
          dsimp only at q0 q1 hst r1 r2
          generalize Tc.frmF P.num P.den (y1 - P.ep) = f1 at hst r1
          generalize Tc.frmF P.num P.den (y2 - P.ep) = f2 at hst r2
          have HST := Lib.hid hst
          have hidx : (k : Int) * 2 = ((k * 2 : Nat) : Int) := by omega
          have i1 : (0 : Int) ≤ (k : Int) := by omega
          have i2 : (k : Int) < (L.length : Int) := by omega
          clear hst hfp hrg hmem
          go_wp2_with fail
          obtain ⟨W1, hW1, bb1, zz1, kb1⟩ := boxA wr 34 [iv y1, iv y2]
          rw [hW1]; clear hW1
          have hQ1 : Q ≤ W1.heap.size := by omega
          have b01 : Below Q W W1 := hb.trans (bb1.mono hQr)
          have own1 := own_below own bb1
          have hXn := fun j (hj : v.ownBlock = some j) => (own.lt j hj).2
          have hv1 := kb1.cell (i := 0) rfl
          have hv2 := kb1.cell (i := 1) rfl
          have hXl := kb1.lt
          obtain ⟨X, hX⟩ : ∃ X, wr.heap.size = X := ⟨_, rfl⟩
          rw [hX] at hv1 hv2 hXl hXn ⊢
          clear zz1 kb1
          have hst : W1.drew.cell? ⟨X, 0, none⟩ = some (iv y1) ∧ W1.drew.cell? ⟨X, 1, none⟩ = some (iv y2) ∧ Below Q W1 W1.drew := ⟨hv1, hv2, (Below.refl _ _).drew⟩
          clear hv1 hv2
          have hXv : ∀ j, v.ownBlock = some j → j ≠ X := fun j hj => by have := hXn j hj; omega
          have eg : ∀ args w, (callFunc 68 args).run Tryz.prog w = .ok (.enter 68 args) w := enters_of Tryz.func68 (by kernel_rfl) rfl
          have r1 := fun (W' : World) (h : Below Q W1 W') => r1 W' (b01.trans h)
          have r2 := fun (W' : World) (h : Below Q W1 W') => r2 W' (b01.trans h)
          have hkl : k ≤ 2000 := by omega
          go_wp2_with fail
          go_region_held3 (fun w' => w'.cell? ⟨X, 0, none⟩ = some (iv y1) ∧ w'.cell? ⟨X, 1, none⟩ = some (iv y2) ∧ Below Q W1 w') (first | assumption | exact hst | exact keep2b (by assumption) hXl hQ1 b6 | exact keep2b (by assumption) hXl hQ1 b7 | exact keep2b (by assumption) hXl hQ1 ((Below.refl _ _).alloc (Nat.le_refl _) _) | exact keepA2 (by assumption) hQ1 hgrow9 (own8.alloc _) hXv | fail)
            (first | (go_at_fn 68; (with_reducible refine Calls.mono (r1 _ (by assumption : _ ∧ _ ∧ Below Q W1 _).2.2) ?_); rintro e w6 ⟨rfl, b6⟩) | (go_at_fn 68; (with_reducible refine Calls.mono (r2 _ (by assumption : _ ∧ _ ∧ Below Q W1 _).2.2) ?_); rintro e w7 ⟨rfl, b7⟩; have own8 := own_below (own_below own1.drew b6) b7; have hq8 := own_size8 b6 b7 hQ1) | (refine step_append_lies _ (by rfl) _ _ 40 (by rfl) Q 34 i0 (.agg #[.int .i64 0, .int .i64 0]) 2 16 Tryz.underlying40 hi0 hz0 hz1 hz2 rfl (by omega) _ k (spv R) (by rfl) (own8.alloc _) ⟨w7.heap.size, 0, none⟩ 1 1 [iv f1, iv f2] (by rfl) (by rfl) (cells_new _ _ _) (by simp [Value.oneCell']) (by omega) (by unfold maxLen; omega) (by omega) (by simp; omega) (w7.heap.size + 1) (by simp) ?_; intro gg cap9 w9 hown9 hgrow9 hat9 hlt9) | fail)
          rename_i hHeld
          have hb9 := b01.trans hHeld.2.2
          have HO9 := Lib.hid hown9
          clear hown9 hHeld hst hat9 hgrow9 own8 own1 own b6 b7 r1 r2 eg
          go_wp2_with fail
          refine ⟨⟨k + 1, _, rfl, by go_num, by omega, ?_, hb9⟩, by simp [intOf] <;> omega⟩
          rw [HST.out, spv_append]
          exact HO9.out
        · obtain rfl : k = L.length := by omega
          rw [List.take_length] at own
          have hla : (L.map (frmP P)).length = L.length := List.length_map ..
          have hres := HRES2.out
          have hbd := frmP_bd P L
          rw [← hla] at own
          have hRl : (L.map (frmP P)).length ≤ 2000 := by omega
          generalize L.map (frmP P) = R at own hla hres hbd hRl
          clear hla
          obtain ⟨pr, cr, rfl, hcr, hSR⟩ := own_rel own
          have kd9 := k2.below hb hDQ
          have kd90 := kd9.cell (i := 0) rfl
          have kd91 := kd9.cell (i := 1) rfl
          clear own HCL
          go_wp2_with fail
          obtain ⟨W1, hW1, bb1, zz1, kb1⟩ := boxA wr 34 [iv a, iv b]
          rw [hW1]; clear hW1
          have hS2 : ShAt W1 W1.heap.size (some ⟨wr.heap.size, 0, none⟩) [(a, b)] := fun i hi => by
            obtain rfl : i = 0 := by simpa using hi
            exact ⟨wr.heap.size, 0, rfl, by omega, kb1.cell (i := 0) rfl, kb1.cell (i := 1) rfl⟩
          have hI9 := inter_any pr (some ⟨wr.heap.size, 0, none⟩) cr 1 R [(a, b)] W1 (hSR.into bb1) hS2 (by omega) (by simp) hcr (by simp) hbd (fun s hs => by obtain rfl := List.mem_singleton.1 hs; dsimp only; omega)
          rw [← hres] at hI9
          have hb1 := hb.trans (bb1.mono hQr)
          clear hSR hS2 hres hbd kb1 kd9 kd90 kd91
          refine hI9.mono ?_
          rintro e w9 ⟨v9, rfl, o9, b9⟩
          have z9 := b9.size
          have hb9 := hb1.trans (b9.mono (by omega))
          have hKd9 := (hb9.block Dd (by omega)).trans HKD.out
          have hK9 : Below K w w9 := k3.trans (hb9.mono (by omega))
          have hv9 := own_le o9
          clear hI9 b9
          go_wp2_with fail
          refine ⟨by simp, .inl ⟨_, _, rfl, run_takeDeferred hKd9, ?_⟩⟩
          refine ⟨_, results_tmp rfl _ _ _, v9, rfl, ?_, ?_⟩
          · exact ((Turns.refl (fun j => j = Dd) w9).of_put rfl _).row (own_baseP o9 (by omega)) (fun j hj h => by have := hv9 j hj; omega)
          · exact hK ▸ hK9.trans (belowK_b (w := w) (by omega) w9 Dd _ _ hKDd hKd9 rfl rfl)
end Go.Proofs.YtfannkpnmaeljaaGreatDoor

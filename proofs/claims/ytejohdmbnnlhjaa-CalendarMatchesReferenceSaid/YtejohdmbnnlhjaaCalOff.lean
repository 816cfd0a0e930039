/- offset, Local. -/
import Derived.Test.YtejohdmbnnlhjaaCalValid
namespace Go.Proofs.Ytejohdmbnnlhjaa
open Go.RowKit Go.Shelf
attribute [local go_sem] Oper.semAt_some

def OffI (T : List Str) (s V : Int) (B : Nat) (pre : List Str) (W : World) : Prop := ∃ rest o, T = pre ++ rest ∧ offRun s o rest = V ∧ Arr W B 3 [iv o]

set_option maxRecDepth 100000 in
set_option maxHeartbeats 4000000 in
theorem offset_any (off s : Int) (p : Option Addr) (cap : Nat) (sh : List (Int × Int)) (w : World) (hS : ShAt w w.heap.size p sh) (hlen : sh.length ≤ 1000) :
    Calls Try.prog 26 #[.agg #[iv off, .slice p sh.length cap], .int .i64 s] w fun e w' => e = .returned (.int .i64 (offZ off sh s)) ∧ Below w.heap.size w w' := by
  obtain ⟨V, hV⟩ : ∃ V, offZ off sh s = V := ⟨_, rfl⟩
  rw [hV]
  unfold offZ at hV
  obtain ⟨T, hT⟩ : ∃ T, strs 0 off sh = T := ⟨_, rfl⟩
  have hh : ∀ F n W Zb, F.fn 37 → F.round = none → 1 ≤ n → Below w.heap.size w W → Arr W Zb 24 [iv off, .slice p sh.length cap] → Hands F n Try.prog 37 #[.pointer (some ⟨Zb, 0, none⟩)] encS (fun k => k < w.heap.size ∨ k = Zb) T W :=
    fun F n W Zb h1 h2 h3 h4 h5 => hT ▸ stretches_hands F n h1 h2 h3 Zb w.heap.size off p cap sh W h4.size h5 (hS.below h4) hlen
  rw [hT] at hV
  have HV := Lib.hid hV; clear hV hT
  clear hS
  refine (callsIn_wide (n := 3)).1 ?_
  have hwide : ∀ f, Fence.wide.fn f := fun _ => trivial
  have hro : Fence.wide.round = none := rfl
  have h1 : 1 ≤ 3 := by omega
  refine callsIn_of_wp_marks Try.func26 rfl (hwide _) ?_ hro
  simp only [Try.ntmps26, List.size_toArray, List.length_cons, List.length_nil, Nat.reduceAdd, Nat.reduceSub, Array.replicate_succ, Array.replicate_zero, List.push_toArray, List.append_toArray, List.nil_append, List.cons_append]
  gi_wp2_with (gi_at_call 30; refine (stretches_in _ _ (hwide _) hro _ _).mono ?_; rintro e w' ⟨rfl, rfl⟩)
  obtain ⟨W0, hW0, b0, z0, kz, kb, ks, kc⟩ : ∃ W0, (((w.alloc (.cells #[iv off, .slice p sh.length cap] 24)).alloc (.cells #[.int .i64 s] 3)).alloc (.cells #[.int .i64 off] 3)).alloc (.cells #[iv off, .slice p sh.length cap] 24) = W0 ∧ Below w.heap.size w W0 ∧ W0.heap.size = w.heap.size + 4 ∧
      Arr W0 (w.heap.size + 1 + 1 + 1) 24 [iv off, .slice p sh.length cap] ∧ Arr W0 w.heap.size 24 [iv off, .slice p sh.length cap] ∧ Arr W0 (w.heap.size + 1) 3 [iv s] ∧ Arr W0 (w.heap.size + 1 + 1) 3 [iv off] :=
    ⟨_, rfl, ((((Below.refl _ w).alloc (Nat.le_refl _) _).alloc (by simp) _).alloc (by simp; omega) _).alloc (by simp; omega) _, by simp, Arr.new' _ [iv off, .slice p sh.length cap] (by simp),
      (((Arr.new w _ [iv off, .slice p sh.length cap]).alloc _).alloc _).alloc _, ((Arr.new' _ [iv s] (by simp)).alloc _).alloc _, (Arr.new' _ [iv off] (by simp)).alloc _⟩
  rw [hW0]; clear hW0
  obtain ⟨N, hN⟩ : ∃ N, w.heap.size = N := ⟨_, rfl⟩
  rw [hN] at b0 z0 kz kb ks kc ⊢
  simp only [hN] at hh
  refine wpIn_rangeFunc_hands hro h1 (gf := 37) (lb := #[.pointer (some ⟨N + 1 + 1 + 1, 0, none⟩)]) rfl (hwide _) (enters_of Try.func37 (by kernel_rfl) rfl)
    (hh _ _ _ _ (hwide _) hro (by omega) b0 kz) (Below.refl _ _) (fun _ => rfl)
    (fun pre M W => (M = fun k => k = N + 1 + 1) ∧ OffI T s V (N + 1 + 1) pre W ∧ Arr W (N + 1) 3 [iv s] ∧ Below N w W)
    (fun c _ M W => c = .exit 0 ∧ (M = fun k => k = N + 1 + 1) ∧ Arr W (N + 1 + 1) 3 [iv V] ∧ Below N w W)
    (fun xs M A B h ht => by
      obtain ⟨rfl, ⟨rest, o, e1, e2, e3⟩, e4, e5⟩ := h
      exact ⟨rfl, ⟨rest, o, e1, e2, ht.arr e3 (fun h => h.2 rfl)⟩, ht.arr e4 (fun h => by have := h.1; omega), e5.trans (ht.below (by have := e5.size; omega) (fun k hk => by omega))⟩)
    (fun c xs M A B h ht => by
      obtain ⟨e0, rfl, e3, e5⟩ := h
      exact ⟨e0, rfl, ht.arr e3 (fun h => h.2 rfl), e5.trans (ht.below (by have := e5.size; omega) (fun k hk => by omega))⟩)
    (fun k => k = N + 1 + 1) (fun k hk => by subst hk; omega) ⟨rfl, ⟨T, off, rfl, HV.out, kc⟩, ks, b0⟩ 57 (fun x => [iv x.1, iv x.2.1, iv x.2.2])
    ?a1 ?assign ?body ?done ?stop
  case assign =>
    intro l x W K hK
    unfold encS
    gi_wp2
    have hK' := hK W.heap.size _ (Nat.le_refl _) ((Below.refl _ W).alloc (Nat.le_refl _) _) (Arr.new W 57 [iv x.1, iv x.2.1, iv x.2.2])
    clear hK
    generalize W.heap.size = g at *
    exact hK'
  case body =>
    rintro l pre x g M W ⟨rfl, ⟨rest, o, e1, e2, e3⟩, e4, e5⟩ hpre kg hMg hMl hWs
    obtain ⟨r, rfl⟩ := rest_cons e1 hpre
    obtain ⟨xf, xt, xo⟩ := x
    have g0 := kg.cell (i := 0) rfl
    have g2 := kg.cell (i := 2) rfl
    have c3 := e3.cell (i := 0) rfl
    have c4 := e4.cell (i := 0) rfl
    have f3 := e3.frozen 0
    have hs5 := e5.size
    dsimp only at g0 g2 ⊢
    unfold offRun at e2
    dsimp only at e2
    by_cases hlt : s < xf
    · rw [if_pos hlt] at e2
      subst e2
      clear hpre e1
      gi_wp2
      exact ⟨_, ⟨fun k hk => hk, fun k hk => .inl hk, fun k hk => hMl k hk, Turns.refl _ _⟩, rfl, rfl, e3, e5⟩
    · rw [if_neg hlt] at e2
      have hle : xf ≤ s := by omega
      have H1 := Lib.hid e1; clear e1 hpre
      have H2 := Lib.hid e2; clear e2
      gi_wp2
      refine ⟨fun k => k = N + 1 + 1, ⟨fun k hk => hk, fun k hk => .inl hk, fun k hk => by have := hMl k hk; simpa using this, (Turns.refl (fun k => k = N + 1 + 1) _).of_setCell (p := ⟨N + 1 + 1, 0, none⟩) (.inl rfl) _⟩, rfl, ⟨r, xo, by rw [H1.out]; simp, H2.out, ?_⟩, ?_, ?_⟩
      · exact e3.set 0 (iv xo)
      · exact e4.set_other 0 (iv xo) (by omega)
      · exact e5.setCell (p := ⟨N + 1 + 1, 0, none⟩) (by simp; omega) _
  case done =>
    rintro D M W hD hMD ⟨rfl, ⟨rest, o, e1, e2, e3⟩, e4, e5⟩ hK
    obtain rfl := rest_nil e1
    clear e1
    unfold offRun at e2
    subst e2
    have c3 := e3.cell (i := 0) rfl
    gi_wp2
    refine ⟨by simp, .inl ⟨_, _, rfl, run_takeDeferred hK, ?_⟩⟩
    exact ⟨_, results_tmp rfl _ _ _, rfl, hN ▸ e5.trans (belowK_b (w := w) (by omega) W D _ _ (by omega) hK rfl rfl)⟩
  case stop =>
    rintro D c pre M W hD hMD hpre ⟨rfl, rfl, e3, e5⟩ hK
    have c3 := e3.cell (i := 0) rfl
    gi_wp2
    refine ⟨by simp, .inl ⟨_, _, rfl, run_takeDeferred hK, ?_⟩⟩
    exact ⟨_, results_tmp rfl _ _ _, rfl, hN ▸ e5.trans (belowK_b (w := w) (by omega) W D _ _ (by omega) hK rfl rfl)⟩
end Go.Proofs.Ytejohdmbnnlhjaa

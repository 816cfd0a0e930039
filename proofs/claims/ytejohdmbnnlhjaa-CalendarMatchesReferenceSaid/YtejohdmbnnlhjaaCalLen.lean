/- Length. -/
import Derived.Test.YtejohdmbnnlhjaaCalLocal
namespace Go.Proofs.Ytejohdmbnnlhjaa
open Go.RowKit Go.Shelf
attribute [local go_sem] Oper.semAt_some

def LenI (T : List Str) (d V : Int) (B : Nat) (pre : List Str) (W : World) : Prop := ∃ rest t, T = pre ++ rest ∧ lenRun d t rest = V ∧ 0 ≤ t ∧ t ≤ 86400 * pre.length ∧ Arr W B 3 [iv t]

set_option maxRecDepth 100000 in
set_option maxHeartbeats 4000000 in
theorem length_yes (off d : Int) (p : Option Addr) (cap : Nat) (sh : List (Int × Int)) (w : World) (hS : ShAt w w.heap.size p sh) (hlen : sh.length ≤ 1000) (hval : validZ off sh = true) (hd0 : -1 ≤ d) (hd1 : d ≤ 115741) :
    Calls Try.prog 16 #[.agg #[iv off, .slice p sh.length cap], .int .i64 d] w fun e w' => e = .returned (.int .i64 (lenZ off sh d)) ∧ Below w.heap.size w w' := by
  have hv := fun W (h : Below w.heap.size w W) => valid_any off p cap w.heap.size sh W h.size (hS.below h) hlen
  obtain ⟨V, hV⟩ : ∃ V, lenZ off sh d = V := ⟨_, rfl⟩
  rw [hV]
  unfold lenZ at hV
  have hall := (valid_iff hval).2.2
  obtain ⟨T, hT⟩ : ∃ T, strs 0 off sh = T := ⟨_, rfl⟩
  have hTl : T.length ≤ 1001 := by rw [← hT, strs_len]; omega
  have hh : ∀ F n W Zb, F.fn 37 → F.round = none → 1 ≤ n → Below w.heap.size w W → Arr W Zb 24 [iv off, .slice p sh.length cap] → Hands F n Try.prog 37 #[.pointer (some ⟨Zb, 0, none⟩)] encS (fun k => k < w.heap.size ∨ k = Zb) T W :=
    fun F n W Zb h1 h2 h3 h4 h5 => hT ▸ stretches_hands F n h1 h2 h3 Zb w.heap.size off p cap sh W h4.size h5 (hS.below h4) hlen
  rw [hT] at hV hall
  rw [hval] at hv
  have HV := Lib.hid hV; clear hV hT hval
  have HA := Lib.hid hall; clear hall
  clear hS
  refine (callsIn_wide (n := 3)).1 ?_
  have hwide : ∀ f, Fence.wide.fn f := fun _ => trivial
  have hro : Fence.wide.round = none := rfl
  have h1 : 1 ≤ 3 := by omega
  refine callsIn_of_wp_marks Try.func16 rfl (hwide _) ?_ hro
  simp only [Try.ntmps16, List.size_toArray, List.length_cons, List.length_nil, Nat.reduceAdd, Nat.reduceSub, Array.replicate_succ, Array.replicate_zero, List.push_toArray, List.append_toArray, List.nil_append, List.cons_append]
  gi_wp2_with fail
  obtain ⟨W0, hW0, b0, z0, ka, kd⟩ : ∃ W0, (w.alloc (.cells #[iv off, .slice p sh.length cap] 24)).alloc (.cells #[.int .i64 d] 3) = W0 ∧ Below w.heap.size w W0 ∧ W0.heap.size = w.heap.size + 2 ∧
      Arr W0 w.heap.size 24 [iv off, .slice p sh.length cap] ∧ Arr W0 (w.heap.size + 1) 3 [iv d] :=
    ⟨_, rfl, ((Below.refl _ w).alloc (Nat.le_refl _) _).alloc (by simp) _, by simp, (Arr.new w _ [iv off, .slice p sh.length cap]).alloc _, Arr.new' _ [iv d] (by simp)⟩
  rw [hW0]; clear hW0
  refine (callsIn_wide.2 (hv _ b0)).mono ?_; rintro e w1 ⟨rfl, b1⟩
  have b01 := bthen b0 b1
  have hs1 := b1.size
  have ka := ka.below b1 (by omega)
  have kd := kd.below b1 (by omega)
  have c0 := ka.cell (i := 0) rfl
  have c1 := ka.cell (i := 1) rfl
  have c3 := kd.cell (i := 0) rfl
  have hKN : w.heap.size + 1 < w1.heap.size := by omega
  have hKN0 : w.heap.size < w1.heap.size := by omega
  gi_wp2_with (gi_at_call 30; refine (stretches_in _ _ (hwide _) hro _ _).mono ?_; rintro e w' ⟨rfl, rfl⟩)
  obtain ⟨W2, hW2, b2, z2, kz, kc⟩ : ∃ W2, (w1.alloc (.cells #[.int .i64 0] 3)).alloc (.cells #[iv off, .slice p sh.length cap] 24) = W2 ∧ Below w1.heap.size w1 W2 ∧ W2.heap.size = w1.heap.size + 2 ∧
      Arr W2 (w1.heap.size + 1) 24 [iv off, .slice p sh.length cap] ∧ Arr W2 w1.heap.size 3 [iv 0] :=
    ⟨_, rfl, ((Below.refl _ w1).alloc (Nat.le_refl _) _).alloc (by simp) _, by simp, Arr.new' _ [iv off, .slice p sh.length cap] (by simp), (Arr.new w1 _ [iv 0]).alloc _⟩
  rw [hW2]; clear hW2 c0 c1 c3
  have b02 := bthen b01 b2
  have kd := kd.below b2 (by omega)
  clear ka
  clear hKN0
  obtain ⟨K, hK⟩ : ∃ K, w1.heap.size = K := ⟨_, rfl⟩
  obtain ⟨N, hN⟩ : ∃ N, w.heap.size = N := ⟨_, rfl⟩
  simp only [hN] at hh
  rw [hN] at b02 z0 kd hKN ⊢
  rw [hK] at kz kc z2 hKN ⊢
  clear b0 b1 b01 b2 hs1 hv
  refine wpIn_rangeFunc_hands hro h1 (gf := 37) (lb := #[.pointer (some ⟨K + 1, 0, none⟩)]) rfl (hwide _) (enters_of Try.func37 (by kernel_rfl) rfl)
    (hh _ _ _ _ (hwide _) hro (by omega) b02 kz) (Below.refl _ _) (fun _ => rfl)
    (fun pre M W => (M = fun k => k = K) ∧ LenI T d V K pre W ∧ Arr W (N + 1) 3 [iv d] ∧ Below N w W)
    (fun _ _ _ _ => False)
    (fun xs M A B h ht => by
      obtain ⟨rfl, ⟨rest, o, e1, e2, e3, e4, e5⟩, e6, e7⟩ := h
      exact ⟨rfl, ⟨rest, o, e1, e2, e3, e4, ht.arr e5 (fun h => h.2 rfl)⟩, ht.arr e6 (fun h => by have := h.1; omega), e7.trans (ht.below (by have := e7.size; omega) (fun k hk => by omega))⟩)
    (fun c xs M A B h ht => h)
    (fun k => k = K) (fun k hk => by subst hk; omega) ⟨rfl, ⟨T, 0, rfl, HV.out, by omega, by simp, kc⟩, kd, b02⟩ 57 (fun x => [iv x.1, iv x.2.1, iv x.2.2])
    ?a1 ?assign ?body ?done ?stop
  case assign =>
    intro l x W K hK
    unfold encS
    gi_wp2
    have hK' := hK W.heap.size _ (Nat.le_refl _) ((Below.refl _ W).alloc (Nat.le_refl _) _) (Arr.new W 57 [iv x.1, iv x.2.1, iv x.2.2])
    clear hK
    generalize W.heap.size = g at *
    exact hK'
  case body =>
    rintro l pre x g M W ⟨rfl, ⟨rest, t, e1, e2, e3, e4, e5⟩, e6, e7⟩ hpre kg hMg hMl hWs
    obtain ⟨r, rfl⟩ := rest_cons e1 hpre
    have hok := HA.out x (by rw [e1]; simp)
    have hpl : pre.length ≤ 1000 := by have := congrArg List.length e1; simp at this; omega
    obtain ⟨xf, xt, xo⟩ := x
    obtain ⟨q1, q2, q3, q4, q5⟩ := hok
    have g0 := kg.cell (i := 0) rfl
    have g1 := kg.cell (i := 1) rfl
    have g2 := kg.cell (i := 2) rfl
    have c3 := e5.cell (i := 0) rfl
    have c4 := e6.cell (i := 0) rfl
    have f3 := e5.frozen 0
    have hs5 := e7.size
    dsimp only at g0 g1 g2 q1 q2 q3 q4 q5 ⊢
    unfold lenRun at e2
    dsimp only at e2
    have H1 := Lib.hid e1; clear e1 hpre
    have H2 := Lib.hid e2; clear e2
    have u1 : t ≤ 86400000 := by omega
    clear hh
    gi_wp2
    all_goals
      refine ⟨fun k => k = K, ⟨fun k hk => hk, fun k hk => .inl hk, fun k hk => by have := hMl k hk; simpa using this, (Turns.refl (fun k => k = K) _).of_setCell (p := ⟨K, 0, none⟩) (.inl rfl) _⟩, rfl, ⟨r, _, by rw [H1.out]; simp, ?_, ?_, ?_, e5.set 0 _⟩, ?_, ?_⟩
      · rw [← H2.out]; congr 1; omega
      · omega
      · simp; omega
      · exact e6.set_other 0 _ (by omega)
      · exact e7.setCell (p := ⟨K, 0, none⟩) (by simp; omega) _
  case done =>
    rintro D M W hD hMD ⟨rfl, ⟨rest, o, e1, e2, e3, e4, e5⟩, e6, e7⟩ hK
    obtain rfl := rest_nil e1
    clear e1
    unfold lenRun at e2
    subst e2
    have c3 := e5.cell (i := 0) rfl
    gi_wp2
    refine ⟨by simp, .inl ⟨_, _, rfl, run_takeDeferred hK, ?_⟩⟩
    exact ⟨_, results_tmp rfl _ _ _, rfl, hN ▸ e7.trans (belowK_b (w := w) (by omega) W D _ _ (by omega) hK rfl rfl)⟩
  case stop =>
    rintro D c pre M W hD hMD hpre h hK
    exact h.elim
end Go.Proofs.Ytejohdmbnnlhjaa

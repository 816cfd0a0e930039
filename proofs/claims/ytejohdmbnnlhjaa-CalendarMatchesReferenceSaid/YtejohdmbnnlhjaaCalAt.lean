/- At. -/
import Derived.Test.YtejohdmbnnlhjaaCalLocal
import Derived.Test.YtejohdmbnnlhjaaCalApp
namespace Go.Proofs.Ytejohdmbnnlhjaa
open Go.RowKit Go.Shelf
attribute [local go_sem] Oper.semAt_some

theorem infoI : (Try.prog.info? 3).map (fun i => (i.zero, i.size, i.bytes)) = some (some (.int .i64 0), 1, 8) := by kernel_rfl
def ivs (l : List Int) : List Value := l.map fun x => iv x
def AtI (T : List Str) (u : Int) (V : List Int) (B N : Nat) (pre : List Str) (M : Nat → Prop) (W : World) : Prop :=
  ∃ rest f v, T = pre ++ rest ∧ atRun u f rest = V ∧ f.length ≤ pre.length ∧ Arr W B 32 [v] ∧ W.ownsRow N 3 1 v f.length (ivs f) ∧ (∀ j, v.ownBlock = some j → M j) ∧ M B ∧ ∀ j, M j → B ≤ j
/-- A slice of its own that holds these integers. -/
def IntsOut (w : World) (l : List Int) (e : Ending) (w' : World) : Prop := ∃ v, e = .returned v ∧ w'.ownsRow w.heap.size 3 1 v l.length (ivs l) ∧ Below w.heap.size w w'

set_option maxRecDepth 100000 in
set_option maxHeartbeats 4000000 in
theorem at_yes (off d s : Int) (p : Option Addr) (cap : Nat) (sh : List (Int × Int)) (w : World) (hS : ShAt w w.heap.size p sh) (hlen : sh.length ≤ 1000) (hval : validZ off sh = true) (hd0 : -1 ≤ d) (hd1 : d ≤ 115741) (hs0 : 0 ≤ s) (hs9 : s < 86400) :
    Calls Try.prog 19 #[.agg #[iv off, .slice p sh.length cap], .int .i64 d, .int .i64 s] w (IntsOut w (atZ off sh d s)) := by
  have hv := fun W (h : Below w.heap.size w W) => valid_any off p cap w.heap.size sh W h.size (hS.below h) hlen
  have hsod : okSod s = true := okSod_iff.2 ⟨hs0, hs9⟩
  obtain ⟨V, hV⟩ : ∃ V, atZ off sh d s = V := ⟨_, rfl⟩
  rw [hV]
  unfold atZ at hV
  have hall := (valid_iff hval).2.2
  obtain ⟨T, hT⟩ : ∃ T, strs 0 off sh = T := ⟨_, rfl⟩
  have hTl : T.length ≤ 1001 := by rw [← hT, strs_len]; omega
  have hh : ∀ F n W Zb, F.fn 37 → F.round = none → 1 ≤ n → Below w.heap.size w W → Arr W Zb 24 [iv off, .slice p sh.length cap] → Hands F n Try.prog 37 #[.pointer (some ⟨Zb, 0, none⟩)] encS (fun k => k < w.heap.size ∨ k = Zb) T W :=
    fun F n W Zb h1 h2 h3 h4 h5 => hT ▸ stretches_hands F n h1 h2 h3 Zb w.heap.size off p cap sh W h4.size h5 (hS.below h4) hlen
  rw [hT] at hV hall
  rw [hval] at hv
  have HV := Lib.hid hV; clear hV hT hval
  have HA := Lib.hid hall; clear hall
  clear hS
  refine (callsIn_wide (n := 3)).1 ?_
  have hwide : ∀ f, Fence.wide.fn f := fun _ => trivial
  have hro : Fence.wide.round = none := rfl
  have h1 : 1 ≤ 3 := by omega
  refine callsIn_of_wp_marks Try.func19 rfl (hwide _) ?_ hro
  simp only [Try.ntmps19, List.size_toArray, List.length_cons, List.length_nil, Nat.reduceAdd, Nat.reduceSub, Array.replicate_succ, Array.replicate_zero, List.push_toArray, List.append_toArray, List.nil_append, List.cons_append]
  gi_wp2_with fail
  obtain ⟨W0, hW0, b0, z0, ka, kd, ke⟩ : ∃ W0, ((w.alloc (.cells #[iv off, .slice p sh.length cap] 24)).alloc (.cells #[.int .i64 d] 3)).alloc (.cells #[.int .i64 s] 3) = W0 ∧ Below w.heap.size w W0 ∧ W0.heap.size = w.heap.size + 3 ∧
      Arr W0 w.heap.size 24 [iv off, .slice p sh.length cap] ∧ Arr W0 (w.heap.size + 1) 3 [iv d] ∧ Arr W0 (w.heap.size + 1 + 1) 3 [iv s] :=
    ⟨_, rfl, (((Below.refl _ w).alloc (Nat.le_refl _) _).alloc (by simp) _).alloc (by simp; omega) _, by simp, ((Arr.new w _ [iv off, .slice p sh.length cap]).alloc _).alloc _, (Arr.new' _ [iv d] (by simp)).alloc _, Arr.new' _ [iv s] (by simp)⟩
  rw [hW0]; clear hW0
  refine (callsIn_wide.2 (hv _ b0)).mono ?_; rintro e w1 ⟨rfl, b1⟩
  have b01 := bthen b0 b1
  have hs1 := b1.size
  have ka := ka.below b1 (by omega)
  have kd := kd.below b1 (by omega)
  have ke := ke.below b1 (by omega)
  have c0 := ka.cell (i := 0) rfl
  have c1 := ka.cell (i := 1) rfl
  have c3 := kd.cell (i := 0) rfl
  have c4 := ke.cell (i := 0) rfl
  have hKN2 : w.heap.size + 1 + 1 < w1.heap.size := by omega
  have hKN : w.heap.size + 1 < w1.heap.size := by omega
  have hKN0 : w.heap.size < w1.heap.size := by omega
  gi_wp2_with (first | (gi_at_call 30; refine (stretches_in _ _ (hwide _) hro _ _).mono ?_; rintro e w' ⟨rfl, rfl⟩) | (gi_at_call 32; refine (callsIn_wide.2 (isSod_any _ _)).mono ?_; rintro e w' ⟨rfl, rfl⟩))
  obtain ⟨W2, hW2, b2, z2, kz, kc⟩ : ∃ W2, (w1.alloc (.cells #[.slice none 0 0] 32)).alloc (.cells #[iv off, .slice p sh.length cap] 24) = W2 ∧ Below w1.heap.size w1 W2 ∧ W2.heap.size = w1.heap.size + 2 ∧
      Arr W2 (w1.heap.size + 1) 24 [iv off, .slice p sh.length cap] ∧ Arr W2 w1.heap.size 32 [.slice none 0 0] :=
    ⟨_, rfl, ((Below.refl _ w1).alloc (Nat.le_refl _) _).alloc (by simp) _, by simp, Arr.new' _ [iv off, .slice p sh.length cap] (by simp), (Arr.new w1 _ [.slice none 0 0]).alloc _⟩
  rw [hW2]; clear hW2 c0 c1 c3 c4
  have b02 := bthen b01 b2
  have kd := kd.below b2 (by omega)
  have ke := ke.below b2 (by omega)
  clear ka
  clear hKN0
  obtain ⟨K, hK⟩ : ∃ K, w1.heap.size = K := ⟨_, rfl⟩
  obtain ⟨N, hN⟩ : ∃ N, w.heap.size = N := ⟨_, rfl⟩
  simp only [hN] at hh
  rw [hN] at b02 z0 kd ke hKN hKN2 ⊢
  rw [hK] at kz kc z2 hKN hKN2 ⊢
  clear b0 b1 b01 b2 hs1 hv
  refine wpIn_rangeFunc_hands hro h1 (gf := 37) (lb := #[.pointer (some ⟨K + 1, 0, none⟩)]) rfl (hwide _) (enters_of Try.func37 (by kernel_rfl) rfl)
    (hh _ _ _ _ (hwide _) hro (by omega) b02 kz) (Below.refl _ _) (fun _ => rfl)
    (fun pre M W => AtI T (d * 86400 + s) V K N pre M W ∧ Arr W (N + 1) 3 [iv d] ∧ Arr W (N + 1 + 1) 3 [iv s] ∧ Below N w W)
    (fun _ _ _ _ => False)
    (fun xs M A B h ht => by
      obtain ⟨⟨rest, f, v, e1, e2, e3, e4, e5, e6, e7, e0⟩, e8, e9, e10⟩ := h
      exact ⟨⟨rest, f, v, e1, e2, e3, ht.arr e4 (fun h => h.2 e7), ht.row e5 (fun j hj h => h.2 (e6 j hj)), e6, e7, e0⟩, ht.arr e8 (fun h => by have := h.1; omega), ht.arr e9 (fun h => by have := h.1; omega), e10.trans (ht.below (by have := e10.size; omega) (fun k hk => by omega))⟩)
    (fun c xs M A B h ht => h)
    (fun k => k = K) (fun k hk => by subst hk; omega) ⟨⟨T, [], .slice none 0 0, rfl, HV.out, Nat.le_refl _, kc, World.ownsRow_nil _ _ _ _, (fun j hj => by cases hj), rfl, fun j hj => Nat.le_of_eq hj.symm⟩, kd, ke, b02⟩ 57 (fun x => [iv x.1, iv x.2.1, iv x.2.2])
    ?a1 ?assign ?body ?done ?stop
  case assign =>
    intro l x W K hK
    unfold encS
    gi_wp2
    have hK' := hK W.heap.size _ (Nat.le_refl _) ((Below.refl _ W).alloc (Nat.le_refl _) _) (Arr.new W 57 [iv x.1, iv x.2.1, iv x.2.2])
    clear hK
    generalize W.heap.size = g at *
    exact hK'
  case body =>
    rintro l pre x g M W ⟨⟨rest, f, v, e1, e2, e3, e4, e5, e6, e7, e0⟩, e8, e9, e10⟩ hpre kg hMg hMl hWs
    obtain ⟨r, rfl⟩ := rest_cons e1 hpre
    have hok := HA.out x (by rw [e1]; simp)
    have hpl : pre.length ≤ 1000 := by have := congrArg List.length e1; simp at this; omega
    obtain ⟨xf, xt, xo⟩ := x
    obtain ⟨q1, q2, q3, q4, q5⟩ := hok
    have g0 := kg.cell (i := 0) rfl
    have g1 := kg.cell (i := 1) rfl
    have g2 := kg.cell (i := 2) rfl
    have c2 := e4.cell (i := 0) rfl
    have c3 := e8.cell (i := 0) rfl
    have c4 := e9.cell (i := 0) rfl
    have f3 := e4.frozen 0
    have hs5 := e10.size
    dsimp only at g0 g1 g2 q1 q2 q3 q4 q5 ⊢
    unfold atRun at e2
    dsimp only at e2
    have H1 := Lib.hid e1; clear e1 hpre hh
    have w1 : IntKind.i64.wrap (d * 86400) = d * 86400 := w64 (by omega) (by omega)
    by_cases hx1 : xf ≤ d * 86400 + s - xo
    · by_cases hx2 : d * 86400 + s - xo < xt
      · rw [if_pos ⟨hx1, hx2⟩] at e2
        have H2 := Lib.hid e2; clear e2
        obtain ⟨i0, hi, hz0, hz1, hz2⟩ := info_parts infoI
        have hbx : Boxed W K 32 v := e4
        have hnr := hbx.not_row (by decide) e5
        have hMg := hMg
        gi_wp2_with (gi_at_builtin; refine wpListIn_append_mine _ rfl _ _ 32 rfl N 3 i0 (.int .i64 0) 1 8 Try.underlying32 hi hz0 hz1 hz2 rfl (by decide) _ _ _ rfl (e5.alloc _) ⟨W.heap.size, 0, none⟩ 1 1 [.int .i64 (d * 86400 + s - xo)] rfl rfl (cell_one_new _ _ _) (by simp [Value.oneCell']) (by unfold maxLen; omega) (by omega) (by simp; omega) ?_; intro v' w2 hown' hgrow _ hnew; obtain ⟨g', cap', rfl⟩ := ownsRow_succ hown'; have hv1 := (hbx.alloc _).kept hgrow hnr; have hc1 := hv1.cell; have hf1 := hv1.frozen)
        have hG := grown_mine (u := .slice (some ⟨g', 0, none⟩) (f.length + 1) cap') e7 hMl e6 hgrow hown' hnew
        have hge : ∀ j, (M j ∨ (Value.slice (some ⟨g', 0, none⟩) (f.length + 1) cap').ownBlock = some j) → K ≤ j := fun j hj => by
          rcases hj with hj | hj
          · exact e0 j hj
          · rcases hnew j hj with h | h
            · exact e0 j (e6 j h)
            · simp at h; omega
        refine ⟨_, hG, ⟨r, f ++ [d * 86400 + s - xo], _, by rw [H1.out]; simp, H2.out, by simp; omega, hv1.set _, ?_, fun j hj => .inr hj, .inl e7, hge⟩, ?_, ?_, ?_⟩
        · rw [List.length_append]
          have := ownsRow_setCell_other hown' (a := ⟨K, 0, none⟩) (fun h => hv1.not_row (by decide) hown' h.symm) (.slice (some ⟨g', 0, none⟩) (f.length + 1) cap')
          simpa [ivs] using this
        · exact hG.turns.arr e8 (fun h => by have := hge _ h; omega)
        · exact hG.turns.arr e9 (fun h => by have := hge _ h; omega)
        · exact e10.trans (hG.turns.below (by omega) (fun k hk => by have := hge _ hk; omega))
      · rw [if_neg (by omega)] at e2
        have H2 := Lib.hid e2; clear e2
        gi_wp2
        exact ⟨M, ⟨fun k hk => hk, fun k hk => .inl hk, hMl, Turns.refl _ _⟩, ⟨r, f, v, by rw [H1.out]; simp, H2.out, by simp; omega, e4, e5, e6, e7, e0⟩, e8, e9, e10⟩
    · rw [if_neg (by omega)] at e2
      have H2 := Lib.hid e2; clear e2
      gi_wp2
      exact ⟨M, ⟨fun k hk => hk, fun k hk => .inl hk, hMl, Turns.refl _ _⟩, ⟨r, f, v, by rw [H1.out]; simp, H2.out, by simp; omega, e4, e5, e6, e7, e0⟩, e8, e9, e10⟩
  case done =>
    rintro D M W hD hMD ⟨⟨rest, f, v, e1, e2, e3, e4, e5, e6, e7, e0⟩, e8, e9, e10⟩ hK
    obtain rfl := rest_nil e1
    clear e1
    unfold atRun at e2
    subst e2
    have c3 := e4.cell (i := 0) rfl
    gi_wp2
    refine ⟨by simp, .inl ⟨_, _, rfl, run_takeDeferred hK, ?_⟩⟩
    refine ⟨_, results_tmp rfl _ _ _, v, rfl, ?_, ?_⟩
    · rw [hN]; exact ((Turns.refl (fun j => j = D) W).of_put rfl _).row e5 (fun j hj h => hMD (h ▸ e6 j hj))
    · exact hN ▸ e10.trans (belowK_b (w := w) (by omega) W D _ _ (by omega) hK rfl rfl)
  case stop =>
    rintro D c pre M W hD hMD hpre h hK
    exact h.elim
end Go.Proofs.Ytejohdmbnnlhjaa

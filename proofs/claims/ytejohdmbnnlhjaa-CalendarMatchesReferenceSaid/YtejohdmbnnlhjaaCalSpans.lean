/- Spans. -/
import Derived.Test.YtejohdmbnnlhjaaCalAdd
import Derived.Test.YtejohdmbnnlhjaaCalQuiet
import Derived.WalkMore
import Derived.Laws.EntriesVeiled
namespace Go.Proofs.Ytejohdmbnnlhjaa
open Go.RowKit Go.Shelf
attribute [local go_sem] Oper.semAt_some

/-- A scope through which the run goes without a goto, inside a fence. -/
theorem wpIn_scope {F : Fence} {n : Nat} {P : Program} {Q : Exit → Act → World → Prop} {a : Act} {w : World} {c : Code} (h : c.wpIn F n P (Exit.noGoto Q) a w) : (Code.scope c).wpIn F n P Q a w := by
  intro b k cs hro hb hr
  have h0 : (lone (b.atR a (.code (.scope c) :: k)) cs w).fenced P F := fenced_calm hb hr rfl
  have s1 : step P (lone (b.atR a (.code (.scope c) :: k)) cs w) = .next (lone (b.atR a (.code c :: .inScope c :: k)) cs w) := step_lone_go (by simp [stepG, stepG.exec, Frame.atR])
  obtain ⟨e, a₁, w₁, hq, harr⟩ := h b (.inScope c :: k) cs hro hb hr
  have s2 : step P (lone (b.atR a₁ (.inScope c :: k)) cs w₁) = .next (lone (b.atR a₁ k) cs w₁) := step_lone_go (by simp [stepG, stepG.exec, Frame.atR])
  cases e with
  | normal => exact ⟨.normal, a₁, w₁, hq, .head h0 s1 (StepsIn.trans harr (.one (fenced_calm hb hr rfl) s2))⟩
  | exit id =>
    have hx : exitTo id (.inScope c :: k) = exitTo id k := by simp [exitTo]
    exact ⟨.exit id, a₁, w₁, hq, fun k' hk => .head h0 s1 (harr.1 k' (by rw [hx]; exact hk)),
      fun hr' hk => let ⟨k₁, h1, h2⟩ := harr.2 hr' (by rw [hx]; exact hk); ⟨k₁, h1, .head h0 s1 h2⟩⟩
  | goto l => exact hq.elim
  | ret => exact ⟨_, a₁, w₁, hq, .of_steps (.one h0 s1) harr⟩
  | panic ch => exact ⟨_, a₁, w₁, hq, .of_steps (.one h0 s1) harr⟩
  | outgrown => exact ⟨_, a₁, w₁, hq, .of_steps (.one h0 s1) harr⟩

theorem below_drewN {B : Nat} {a w : World} (h : Below B a w) (q : Nat) : Below B a (w.drewN q) := ⟨h.os, h.tape, h.output, h.size, h.block⟩
theorem Grown.refl {M : Nat → Prop} {W : World} (h : ∀ j, M j → j < W.heap.size) : Grown M M W W := ⟨fun k hk => hk, fun k hk => .inl hk, h, Turns.refl _ _⟩
theorem Grown.trans {M M' M'' : Nat → Prop} {A B C : World} (h : Grown M M' A B) (k : Grown M' M'' B C) : Grown M M'' A C := by
  refine ⟨fun j hj => k.keep _ (h.keep _ hj), fun j hj => ?_, k.lt, ⟨k.turns.os.trans h.turns.os, k.turns.tape.trans h.turns.tape, k.turns.output.trans h.turns.output, Nat.le_trans h.turns.size k.turns.size, fun j hj hn => ?_⟩⟩
  · have hs := h.turns.size
    rcases k.new _ hj with h1 | h1
    · exact h.new _ h1
    · exact .inr (by omega)
  · rw [k.turns.block j (by have := h.turns.size; omega) hn]
    exact h.turns.block j hj (fun hm => hn (k.keep _ hm))
theorem Grown.of_below {M : Nat → Prop} {A B C : World} {M' : Nat → Prop} (h : Grown M M' A B) (k : Below B.heap.size B C) : Grown M M' A C := by
  have hs := k.size
  refine ⟨h.keep, h.new, fun j hj => by have := h.lt j hj; omega, ⟨k.os.trans h.turns.os, k.tape.trans h.turns.tape, k.output.trans h.turns.output, by have := h.turns.size; omega, fun j hj hn => ?_⟩⟩
  rw [k.block j (by have := h.turns.size; omega)]
  exact h.turns.block j hj hn
theorem SpAt.below {A W : World} {B N : Nat} {M : Nat → Prop} {l : List (Int × Int)} (h : SpAt A B N M l) (hb : Below A.heap.size A W) : SpAt W B N M l :=
  h.turn (n := A.heap.size) (Turns.of_below hb)

/-- The spans of a world: what the call to Spans returns. -/
def SpansOut (w : World) (l : List (Int × Int)) (e : Ending) (w' : World) : Prop := ∃ v, e = .returned v ∧ w'.ownsRow w.heap.size 47 2 v l.length (spv l) ∧ Below w.heap.size w w'

def SpnI (T : List Str) (F To a wl : Int) (V : List (Int × Int)) (B N : Nat) (pre : List Str) (M : Nat → Prop) (W : World) : Prop :=
  ∃ rest l, T = pre ++ rest ∧ spanRun F To a wl l rest = V ∧ l.length ≤ 20 * pre.length ∧ SpAt W B N M l ∧ ¬ M (B + 1)

def WinI (F To a wl bg en el : Int) (V : List (Int × Int)) (r : List Str) (pl K N K1 : Nat) (M : Nat → Prop) (w W : World) (op : Int) (wr : World) : Prop :=
  ∃ (l1 : List (Int × Int)) (M1 : Nat → Prop) (j : Nat), op = bg - el + 86400 * j ∧ j ≤ 13 ∧ spanRun F To a wl (winRun bg en wl l1 op) r = V ∧ l1.length ≤ 20 * pl + j ∧ Grown M M1 W wr ∧ SpAt wr K N M1 l1 ∧ ¬ M1 (K + 1) ∧
    Arr wr (N + 1) 47 [iv F, iv To] ∧ Arr wr K1 61 [iv a, iv wl] ∧ Arr wr (K + 1) 65 [.func (.func 36) #[] #[.pointer (some ⟨K, 0, none⟩)]] ∧ Below N w wr

theorem win_step {F To a wl bg en el : Int} {V : List (Int × Int)} {r : List Str} {pl K N K1 : Nat} {M : Nat → Prop} {w W : World} {op : Int} {wr : World} {l1 : List (Int × Int)} {M1 M2 : Nat → Prop} {j : Nat} {mx mn : Int} {w8 : World}
    (h1 : op = bg - el + 86400 * j) (hj : j ≤ 12) (h4 : l1.length ≤ 20 * pl + j) (h5 : Grown M M1 W wr) (h7 : ¬ M1 (K + 1)) (h8 : Arr wr (N + 1) 47 [iv F, iv To]) (h9 : Arr wr K1 61 [iv a, iv wl])
    (h10 : Arr wr (K + 1) 65 [.func (.func 36) #[] #[.pointer (some ⟨K, 0, none⟩)]]) (h11 : Below N w wr) (hN1 : N + 1 < K) (hK1 : K1 < K) (hNw : N ≤ wr.heap.size)
    (hG2 : Grown M1 M2 wr w8) (hSp2 : SpAt w8 K N M2 (addZ l1 mx mn)) (h3 : spanRun F To a wl (winRun bg en wl (addZ l1 mx mn) (op + 86400)) r = V) (hal : (addZ l1 mx mn).length ≤ l1.length + 1) :
    WinI F To a wl bg en el V r pl K N K1 M w W (op + 86400) w8 := by
  have hge : ∀ j, M2 j → K ≤ j := by obtain ⟨_, _, _, _, _, q⟩ := hSp2; exact q
  have hK2 : ¬ M2 (K + 1) := fun h => by
    have := h10.lt
    rcases hG2.new _ h with h | h
    · exact h7 h
    · omega
  exact ⟨addZ l1 mx mn, M2, j + 1, by omega, by omega, h3, by omega, h5.trans hG2, hSp2, hK2, hG2.turns.arr h8 (fun h => by have := hge _ h; omega), hG2.turns.arr h9 (fun h => by have := hge _ h; omega), hG2.turns.arr h10 hK2,
    h11.trans (hG2.turns.below hNw (fun k hk => by have := hge k hk; omega))⟩

set_option maxRecDepth 100000 in
set_option maxHeartbeats 8000000 in
theorem spans_yes (off F To a b : Int) (p : Option Addr) (cap : Nat) (sh : List (Int × Int)) (w : World) (hS : ShAt w w.heap.size p sh) (hlen : sh.length ≤ 1000) (hval : validZ off sh = true) (ha : okSod a = true) (hb : okSod b = true) (hlo : longZ F To = false)
    (hf0 : -9223372036854775808 ≤ F) (hf1 : F ≤ 9223372036854775807) (ht0 : -9223372036854775808 ≤ To) (ht1 : To ≤ 9223372036854775807) :
    Calls Try.prog 24 #[.agg #[iv off, .slice p sh.length cap], .agg #[iv F, iv To], .int .i64 a, .int .i64 b] w (SpansOut w (spanRun F To a (winZ a b) [] (strs 0 off sh))) := by
  have hv := fun W (h : Below w.heap.size w W) => valid_any off p cap w.heap.size sh W h.size (hS.below h) hlen
  have hm := fun W => mkwin_yes a b W ha hb
  have hli := fun W => isLong_any F To W hf0 hf1 ht0 ht1
  rw [hlo] at hli
  have hwp := winZ_pos a b
  obtain ⟨a0, a1⟩ := okSod_iff.1 ha
  obtain ⟨wl, hwl⟩ : ∃ wl, winZ a b = wl := ⟨_, rfl⟩
  rw [hwl] at hm hwp ⊢
  obtain ⟨T, hT⟩ : ∃ T, strs 0 off sh = T := ⟨_, rfl⟩
  obtain ⟨V, hV⟩ : ∃ V, spanRun F To a wl [] (strs 0 off sh) = V := ⟨_, rfl⟩
  rw [hV]
  have hall := (valid_iff hval).2.2
  have hTl : T.length ≤ 1001 := by rw [← hT, strs_len]; omega
  have hh : ∀ F n W Zb, F.fn 37 → F.round = none → 1 ≤ n → Below w.heap.size w W → Arr W Zb 24 [iv off, .slice p sh.length cap] → Hands F n Try.prog 37 #[.pointer (some ⟨Zb, 0, none⟩)] encS (fun k => k < w.heap.size ∨ k = Zb) T W :=
    fun F n W Zb h1 h2 h3 h4 h5 => hT ▸ stretches_hands F n h1 h2 h3 Zb w.heap.size off p cap sh W h4.size h5 (hS.below h4) hlen
  rw [hT] at hV hall
  rw [hval] at hv
  have hspan : F < To → To - F ≤ 1000000 := fun h => by
    unfold longZ at hlo; rw [decide_eq_true h, Bool.true_and] at hlo; simpa using hlo
  have HS := Lib.hid hspan; clear hspan hlo
  have HV := Lib.hid hV; clear hV hT hval hwl ha hb
  have HA := Lib.hid hall; clear hall
  clear hS
  refine (callsIn_wide (n := 5)).1 ?_
  have hwide : ∀ f, Fence.wide.fn f := fun _ => trivial
  have hro : Fence.wide.round = none := rfl
  have h1 : 1 ≤ 5 := by omega
  refine callsIn_of_wp_marks Try.func24 rfl (hwide _) ?_ hro
  simp only [Try.ntmps24, List.size_toArray, List.length_cons, List.length_nil, Nat.reduceAdd, Nat.reduceSub, Array.replicate_succ, Array.replicate_zero, List.push_toArray, List.append_toArray, List.nil_append, List.cons_append]
  gi_wp2_with fail
  obtain ⟨W0, hW0, b0, z0, ka, kd⟩ : ∃ W0, (w.alloc (.cells #[iv off, .slice p sh.length cap] 24)).alloc (.cells #[iv F, iv To] 47) = W0 ∧ Below w.heap.size w W0 ∧ W0.heap.size = w.heap.size + 2 ∧
      Arr W0 w.heap.size 24 [iv off, .slice p sh.length cap] ∧ Arr W0 (w.heap.size + 1) 47 [iv F, iv To] :=
    ⟨_, rfl, ((Below.refl _ w).alloc (Nat.le_refl _) _).alloc (by simp) _, by simp, (Arr.new w _ [iv off, .slice p sh.length cap]).alloc _, Arr.new' _ [iv F, iv To] (by simp)⟩
  try rw [hW0]
  clear hW0
  refine wpIn_scope ?_
  gi_wp2_with fail
  refine (callsIn_wide.2 (hm _)).mono ?_; rintro e w1 ⟨rfl, b1⟩
  have b01 := bthen b0 b1
  have hs1 := b1.size
  have ka := ka.below b1 (by omega)
  have kd := kd.below b1 (by omega)
  have c0 := ka.cell (i := 0) rfl
  have c1 := ka.cell (i := 1) rfl
  have c3 := kd.cell (i := 0) rfl
  have c4 := kd.cell (i := 1) rfl
  have l0 : w.heap.size < w1.heap.size := by omega
  have l1 : w.heap.size + 1 < w1.heap.size := by omega
  gi_wp2_with fail
  obtain ⟨W2, hW2, b2, z2, kw⟩ : ∃ W2, w1.alloc (.cells #[.int .i64 a, .int .i64 wl] 61) = W2 ∧ Below w1.heap.size w1 W2 ∧ W2.heap.size = w1.heap.size + 1 ∧ Arr W2 w1.heap.size 61 [iv a, iv wl] :=
    ⟨_, rfl, (Below.refl _ _).alloc (Nat.le_refl _) _, by simp, Arr.new w1 _ [iv a, iv wl]⟩
  try rw [hW2]
  clear hW2 c0 c1 c3 c4
  have b02 := bthen b01 b2
  refine (callsIn_wide.2 (hv _ b02)).mono ?_; rintro e w3 ⟨rfl, b3⟩
  have b03 := bthen b02 b3
  have hs3 := b3.size
  have ka := (ka.below b2 l0).below b3 (by omega)
  have kd := (kd.below b2 l1).below b3 (by omega)
  have kw := kw.below b3 (by omega)
  have c3 := kd.cell (i := 0) rfl
  have c4 := kd.cell (i := 1) rfl
  have l2 : w.heap.size < w3.heap.size := by omega
  have l3 : w.heap.size + 1 < w3.heap.size := by omega
  gi_wp2_with fail
  refine (callsIn_wide.2 (hli _)).mono ?_; rintro e w4 ⟨rfl, b4⟩
  have b04 := bthen b03 b4
  have hs4 := b4.size
  have ka := ka.below b4 l2
  have kd := kd.below b4 l3
  have kw := kw.below b4 (by omega)
  have c0 := ka.cell (i := 0) rfl
  have c1 := ka.cell (i := 1) rfl
  have l4 : w.heap.size < w4.heap.size := by omega
  have l5 : w.heap.size + 1 < w4.heap.size := by omega
  have l6 : w1.heap.size < w4.heap.size := by omega
  clear c3 c4
  gi_wp2_with fail
  refine wpIn_label ?_
  gi_wp2_with (gi_at_call 30; refine (stretches_in _ _ (hwide _) hro _ _).mono ?_; rintro e w' ⟨rfl, rfl⟩)
  obtain ⟨W5, hW5, b5, z5, kz, kc, kf⟩ : ∃ W5, ((w4.alloc (.cells #[.slice none 0 0] 48)).alloc (.cells #[.func (.func 36) #[] #[.pointer (some ⟨w4.heap.size, 0, none⟩)]] 65)).alloc (.cells #[iv off, .slice p sh.length cap] 24) = W5 ∧ Below w4.heap.size w4 W5 ∧ W5.heap.size = w4.heap.size + 3 ∧
      Arr W5 (w4.heap.size + 1 + 1) 24 [iv off, .slice p sh.length cap] ∧ Arr W5 w4.heap.size 48 [.slice none 0 0] ∧ Arr W5 (w4.heap.size + 1) 65 [.func (.func 36) #[] #[.pointer (some ⟨w4.heap.size, 0, none⟩)]] :=
    ⟨_, rfl, (((Below.refl _ w4).alloc (Nat.le_refl _) _).alloc (by simp) _).alloc (by simp; omega) _, by simp, Arr.new' _ [iv off, .slice p sh.length cap] (by simp), ((Arr.new w4 _ [.slice none 0 0]).alloc _).alloc _, (Arr.new' _ [.func (.func 36) #[] #[.pointer (some ⟨w4.heap.size, 0, none⟩)]] (by simp)).alloc _⟩
  rw [hW5]; clear hW5 c0 c1
  have b05 := bthen b04 b5
  have kd := kd.below b5 l5
  have kw := kw.below b5 l6
  clear ka l0 l1 l2 l3
  obtain ⟨N, hN⟩ : ∃ N, w.heap.size = N := ⟨_, rfl⟩
  obtain ⟨K, hK⟩ : ∃ K, w4.heap.size = K := ⟨_, rfl⟩
  obtain ⟨K1, hK1⟩ : ∃ K, w1.heap.size = K := ⟨_, rfl⟩
  have l7 : w.heap.size + 1 < w1.heap.size := by omega
  simp only [hN] at hh
  simp only [hN, hK, hK1] at b05 z5 kz kc kf kd kw l4 l5 l6 l7
  rw [hN, hK, hK1]
  clear b0 b1 b01 b2 b02 b3 b03 b4 b04 b5 hs1 hs3 hs4 hv hm hli z0 z2
  refine wpIn_rangeFunc_hands hro h1 (gf := 37) (lb := #[.pointer (some ⟨K + 1 + 1, 0, none⟩)]) rfl (hwide _) (enters_of Try.func37 (by kernel_rfl) rfl)
    (hh _ _ _ _ (hwide _) hro (by omega) b05 kz) (Below.refl _ _) (fun _ => rfl)
    (fun pre M W => SpnI T F To a wl V K N pre M W ∧ Arr W (N + 1) 47 [iv F, iv To] ∧ Arr W K1 61 [iv a, iv wl] ∧ Arr W (K + 1) 65 [.func (.func 36) #[] #[.pointer (some ⟨K, 0, none⟩)]] ∧ Below N w W)
    (fun c _ M W => c = .exit 0 ∧ SpAt W K N M V ∧ Below N w W)
    (fun xs M A B h ht => by
      obtain ⟨⟨rest, l, e1, e2, e3, e4, e5⟩, e6, e7, e8, e9⟩ := h
      exact ⟨⟨rest, l, e1, e2, e3, e4.turn ht, e5⟩, ht.arr e6 (fun h => by have := h.1; omega), ht.arr e7 (fun h => by have := h.1; omega), ht.arr e8 (fun h => by have := h.1; omega), e9.trans (ht.below (by have := e9.size; omega) (fun k hk => by omega))⟩)
    (fun c xs M A B h ht => by
      obtain ⟨e0, e1, e2⟩ := h
      exact ⟨e0, e1.turn ht, e2.trans (ht.below (by have := e2.size; omega) (fun k hk => by omega))⟩)
    (fun k => k = K) (fun k hk => by subst hk; omega) ⟨⟨T, [], rfl, HV.out, Nat.zero_le _, ⟨_, kc, World.ownsRow_nil _ _ _ _, (fun j hj => by cases hj), rfl, fun j hj => Nat.le_of_eq hj.symm⟩, fun h => by omega⟩, kd, kw, kf, b05⟩ 57 (fun x => [iv x.1, iv x.2.1, iv x.2.2])
    ?a1 ?assign ?body ?done ?stop
  case assign =>
    intro l x W K hK
    unfold encS
    gi_wp2
    have hK' := hK W.heap.size _ (Nat.le_refl _) ((Below.refl _ W).alloc (Nat.le_refl _) _) (Arr.new W 57 [iv x.1, iv x.2.1, iv x.2.2])
    clear hK
    generalize W.heap.size = g at *
    exact hK'
  case body =>
    rintro lp pre x g M W ⟨⟨rest, l, e1, e2, e3, e4, e5⟩, e6, e7, e8, e9⟩ hpre kg hMg hMl hWs
    obtain ⟨r, rfl⟩ := rest_cons e1 hpre
    have hok := HA.out x (by rw [e1]; simp)
    have hpl : pre.length ≤ 1000 := by have := congrArg List.length e1; simp at this; omega
    obtain ⟨xf, xt, xo⟩ := x
    obtain ⟨q1, q2, q3, q4, q5⟩ := hok
    have g0 := kg.cell (i := 0) rfl
    have g1 := kg.cell (i := 1) rfl
    have g2 := kg.cell (i := 2) rfl
    have c0 := e6.cell (i := 0) rfl
    have c1 := e6.cell (i := 1) rfl
    have hs5 := e9.size
    dsimp only at g0 g1 g2 q1 q2 q3 q4 q5 ⊢
    unfold spanRun at e2
    dsimp only at e2
    have H1 := Lib.hid e1; clear e1 hpre hh
    by_cases hx1 : xt ≤ F
    · rw [if_pos hx1] at e2
      have H2 := Lib.hid e2; clear e2
      have hP : Grown M M W W ∧ SpnI T F To a wl V K N (pre ++ [(xf, xt, xo)]) M W := ⟨Grown.refl hMl, r, l, by rw [H1.out]; simp, H2.out, by simp; omega, e4, e5⟩
      have hP := Lib.hid hP
      clear e3 e4 e5 hMl H1 H2
      gi_wp2
      exact ⟨M, hP.out.1, hP.out.2, e6, e7, e8, e9⟩
    · rw [if_neg hx1] at e2
      by_cases hx2 : To ≤ xf
      · rw [if_pos hx2] at e2
        have H2 := Lib.hid e2; clear e2
        have hP : Grown M M W W ∧ SpAt W K N M V := ⟨Grown.refl hMl, H2.out ▸ e4⟩
        have hP := Lib.hid hP
        clear e3 e4 e5 hMl H1 H2
        gi_wp2
        exact ⟨M, hP.out.1, rfl, hP.out.2, e9⟩
      · rw [if_neg hx2] at e2
        have H2 := Lib.hid e2; clear e2
        have HM := Lib.hid hMl; clear hMl
        have d0 := e7.cell (i := 0) rfl
        have d1 := e7.cell (i := 1) rfl
        have f1 := e8.cell (i := 0) rfl
        have hF9 : F < 10000000001 := by omega
        obtain ⟨bg, hbg⟩ : ∃ bg, max xf F = bg := ⟨_, rfl⟩
        obtain ⟨en, hen⟩ : ∃ en, min xt To = en := ⟨_, rfl⟩
        have hb0 : 0 ≤ bg := by omega
        have hb9 : bg ≤ 10000000001 := by omega
        have hn0 : 0 ≤ en := by omega
        have hn9 : en ≤ 10000000001 := by omega
        gi_wp2_with fail
        refine wpIn_region_quietR (by kernel_rfl) (by kernel_rfl) (by kernel_rfl) ?_
        repeat (gi_big_quiet_step (fail))
        refine wpQuietIn_nil ?_
        intro W6 hw'
        obtain ⟨nq, hw''⟩ := hw'
        have w6 : Below W.heap.size W W6 := by rw [hw'']; exact below_drewN (Below.refl _ _) nq
        have s6 : W6.heap.size = W.heap.size := by rw [hw'']; rfl
        clear hw'' c0 c1 g0 g1 g2 d0 d1 f1
        rw [show (if xf < F then F else xf) = bg by split <;> omega, show (if To < xt then To else xt) = en by split <;> omega]
        have e4 := e4.below w6
        have e6 := e6.below w6 e6.lt
        have e7 := e7.below w6 e7.lt
        have e8 := e8.below w6 e8.lt
        have e9 := bthen2 e9 w6 (by omega)
        have kg := kg.below w6 kg.lt
        have HM6 : ∀ j, M j → j < W6.heap.size := fun j hj => by have := HM.out j hj; omega
        have hG6 : Grown M M W W6 := ((Grown.refl HM.out).of_below w6)
        have g2 := kg.cell (i := 2) rfl
        have d0 := e7.cell (i := 0) rfl
        have d1 := e7.cell (i := 1) rfl
        rw [hbg, hen] at H2
        have hel := fun W => elapsed_any a wl (bg + xo) W a0 a1 (by omega) (by omega)
        obtain ⟨el, hele⟩ : ∃ el, (bg + xo - a) % 86400 = el := ⟨_, rfl⟩
        have hel0 : 0 ≤ el ∧ el < 86400 := by omega
        rw [hele] at hel H2
        have hF1 : F ≤ bg := by omega
        have hT1 : en ≤ To := by omega
        have hdist : en - bg ≤ 1000000 := by
          by_cases h : F < To
          · have := HS.out h; omega
          · omega
        have hlK : K < W.heap.size := HM.out K (by obtain ⟨_, _, _, _, q, _⟩ := e4; exact q)
        clear hbg hen hele q3 q4 q5 hx1 hx2 hF9 hf0 hf1 ht0 ht1
        gi_wp2_with (gi_at_call 34; refine (CallsIn.inRound lp (callsIn_wide.2 (hel _))).mono ?_; rintro e w7 ⟨rfl, b7⟩)
        have s7 := b7.size
        have hR : WinI F To a wl bg en el V r pre.length K N K1 M w W (bg - el) w7 :=
          ⟨l, M, 0, by omega, by omega, H2.out, by omega, hG6.of_below b7, e4.below b7, e5, e6.below b7 e6.lt, e7.below b7 e7.lt, e8.below b7 e8.lt, bthen2 e9 b7 (by omega)⟩
        have HR := Lib.hid hR; clear hR
        have H1' := Lib.hid H1.out
        have o1 : -100000 ≤ bg - el := by omega
        clear kg g2 d0 d1 e3 e4 e5 e6 e7 e8 e9 hG6 HM HM6 H2 H1 hel w6 b7 kd kw kf kc kz b05
        gi_loopw [16] (fun o wr => ∃ op : Int, o = .int .i64 op ∧ -100000 ≤ op ∧ WinI F To a wl bg en el V r pre.length K N K1 M w W op wr) (fun o _ => (en - intOf o).toNat)
        case atStart => exact ⟨_, rfl, o1, HR.out⟩
        case round =>
          clear HR
          obtain ⟨op, rfl, ho1, l1, M1, j, h1', h2, h3, h4, h5, h6, h7, h8, h9, h10, h11⟩ := hrel
          have hsr := h5.turns.size
          by_cases hlt : op < en
          · rw [winRun_go hlt] at h3
            have hj12 : j ≤ 12 := by omega
            have c8 := h10.cell (i := 0) rfl
            have c9 := h9.cell (i := 1) rfl
            have hsz := h11.size
            obtain ⟨mx, hmx, hcx⟩ : ∃ mx, max op bg = mx ∧ ((op < bg ∧ mx = bg) ∨ (bg ≤ op ∧ mx = op)) := ⟨_, rfl, by omega⟩
            obtain ⟨mn, hmn, hcn⟩ : ∃ mn, min (op + wl) en = mn ∧ ((en < op + wl ∧ mn = en) ∨ (op + wl ≤ en ∧ mn = op + wl)) := ⟨_, rfl, by omega⟩
            rw [hmx, hmn] at h3
            have hadd := fun (Wx : World) (hx : Below wr.heap.size wr Wx) => add_any mx mn K N M1 l1 Wx (h6.below hx) (fun j hj => by have := h5.lt j hj; have := hx.size; omega) (by have := hx.size; omega) (by omega)
            have hal := addZ_len (l := l1) (b := mx) (e := mn)
            have H3 := Lib.hid h3; clear h3
            have HA1 := Lib.hid hal; clear hal
            have HJ := Lib.hid h1'; clear h1' hmx hmn
            have hop9 : op ≤ 10000000001 := by omega
            have hP1 := Lib.hid h4; clear h4
            have hP2 := Lib.hid h5; clear h5
            have hP3 := Lib.hid h7; clear h7
            rcases hcx with ⟨hcx, hmx⟩ | ⟨hcx, hmx⟩
            · rcases hcn with ⟨hcn, hmn⟩ | ⟨hcn, hmn⟩
              · rw [hmx, hmn] at hadd H3 HA1
                clear hmx hmn
                gi_wp2_with (gi_at_call 36; refine (CallsIn.inRound lp (callsIn_wide.2 (hadd _ (Below.refl _ _)))).mono ?_; rintro e w8 ⟨⟨v8, rfl⟩, M2, hG2, hSp2⟩)
                exact ⟨⟨op + 86400, rfl, by omega, win_step HJ.out hj12 hP1.out hP2.out hP3.out h8 h9 h10 h11 (by omega) (by omega) (by omega) hG2 hSp2 H3.out HA1.out⟩, by simp [intOf]; omega⟩
              · rw [hmx, hmn] at hadd H3 HA1
                clear hmx hmn
                gi_wp2_with (gi_at_call 36; refine (CallsIn.inRound lp (callsIn_wide.2 (hadd _ (Below.refl _ _)))).mono ?_; rintro e w8 ⟨⟨v8, rfl⟩, M2, hG2, hSp2⟩)
                exact ⟨⟨op + 86400, rfl, by omega, win_step HJ.out hj12 hP1.out hP2.out hP3.out h8 h9 h10 h11 (by omega) (by omega) (by omega) hG2 hSp2 H3.out HA1.out⟩, by simp [intOf]; omega⟩
            · rcases hcn with ⟨hcn, hmn⟩ | ⟨hcn, hmn⟩
              · rw [hmx, hmn] at hadd H3 HA1
                clear hmx hmn
                gi_wp2_with (gi_at_call 36; refine (CallsIn.inRound lp (callsIn_wide.2 (hadd _ (Below.refl _ _)))).mono ?_; rintro e w8 ⟨⟨v8, rfl⟩, M2, hG2, hSp2⟩)
                exact ⟨⟨op + 86400, rfl, by omega, win_step HJ.out hj12 hP1.out hP2.out hP3.out h8 h9 h10 h11 (by omega) (by omega) (by omega) hG2 hSp2 H3.out HA1.out⟩, by simp [intOf]; omega⟩
              · rw [hmx, hmn] at hadd H3 HA1
                clear hmx hmn
                gi_wp2_with (gi_at_call 36; refine (CallsIn.inRound lp (callsIn_wide.2 (hadd _ (Below.refl _ _)))).mono ?_; rintro e w8 ⟨⟨v8, rfl⟩, M2, hG2, hSp2⟩)
                exact ⟨⟨op + 86400, rfl, by omega, win_step HJ.out hj12 hP1.out hP2.out hP3.out h8 h9 h10 h11 (by omega) (by omega) (by omega) hG2 hSp2 H3.out HA1.out⟩, by simp [intOf]; omega⟩
          · rw [winRun_end hlt] at h3
            have hP : Grown M M1 W wr ∧ SpnI T F To a wl V K N (pre ++ [(xf, xt, xo)]) M1 wr := ⟨h5, r, l1, by rw [H1'.out]; simp, h3, by simp; omega, h6, h7⟩
            have HP := Lib.hid hP; clear hP h1' h3 h4 h5 h6 h7
            gi_wp2
            exact ⟨M1, HP.out.1, HP.out.2, h8, h9, h10, h11⟩
  case done =>
    rintro D M W hD hMD ⟨⟨rest, l, e1, e2, e3, e4, e5⟩, e6, e7, e8, e9⟩ hKd
    obtain rfl := rest_nil e1
    clear e1
    unfold spanRun at e2
    subst e2
    obtain ⟨v, q1, q2, q3, q4, q5⟩ := e4
    have c3 := q1.cell (i := 0) rfl
    gi_wp2
    refine ⟨by simp, .inl ⟨_, _, rfl, run_takeDeferred hKd, ?_⟩⟩
    refine ⟨_, results_tmp rfl _ _ _, v, rfl, ?_, ?_⟩
    · rw [hN]; exact ((Turns.refl (fun j => j = D) W).of_put rfl _).row q2 (fun j hj h => hMD (h ▸ q3 j hj))
    · exact hN ▸ e9.trans (belowK_b (w := w) (by omega) W D _ _ (by omega) hKd rfl rfl)
  case stop =>
    rintro D c pre M W hD hMD hpre ⟨rfl, ⟨v, q1, q2, q3, q4, q5⟩, e9⟩ hKd
    have c3 := q1.cell (i := 0) rfl
    gi_wp2
    refine ⟨by simp, .inl ⟨_, _, rfl, run_takeDeferred hKd, ?_⟩⟩
    refine ⟨_, results_tmp rfl _ _ _, v, rfl, ?_, ?_⟩
    · rw [hN]; exact ((Turns.refl (fun j => j = D) W).of_put rfl _).row q2 (fun j hj h => hMD (h ▸ q3 j hj))
    · exact hN ▸ e9.trans (belowK_b (w := w) (by omega) W D _ _ (by omega) hKd rfl rfl)
end Go.Proofs.Ytejohdmbnnlhjaa

import Derived.Test.YtfannkpnmaeljaaGreatDoorGCal2
import Derived.WalkMore
import Derived.Laws.EntriesVeiled
import Derived.Test.YtfannkpnmaeljaaGreatDoorLawKit
set_option linter.unusedVariables false
set_option linter.unusedSimpArgs false
/- Spans. -/
namespace Go.Proofs.YtfannkpnmaeljaaGreatDoor.Cal
open Go.RowKit Go.Shelf
attribute [local go_sem] Oper.semAt_some

/-- A scope through which the run goes without a goto, inside a fence. -/
theorem wpIn_scope {F : Fence} {n : Nat} {P : Program} {Q : Exit → Act → World → Prop} {a : Act} {w : World} {c : Code} (h : c.wpIn F n P (Exit.noGoto Q) a w) : (Code.scope c).wpIn F n P Q a w := by
  intro b k cs hro hb hr
  have h0 : (lone (b.atR a (.code (.scope c) :: k)) cs w).fenced P F := fenced_calm hb hr rfl
  have s1 : step P (lone (b.atR a (.code (.scope c) :: k)) cs w) = .next (lone (b.atR a (.code c :: .inScope c :: k)) cs w) := step_lone_go (by simp [stepG, stepG.exec, Frame.atR])
  obtain ⟨e, a₁, w₁, hq, harr⟩ := h b (.inScope c :: k) cs hro hb hr
  have s2 : step P (lone (b.atR a₁ (.inScope c :: k)) cs w₁) = .next (lone (b.atR a₁ k) cs w₁) := step_lone_go (by simp [stepG, stepG.exec, Frame.atR])
  cases e with
  | normal => exact ⟨.normal, a₁, w₁, hq, .head h0 s1 (StepsIn.trans harr (.one (fenced_calm hb hr rfl) s2))⟩
  | exit id =>
    have hx : exitTo id (.inScope c :: k) = exitTo id k := by simp [exitTo]
    exact ⟨.exit id, a₁, w₁, hq, fun k' hk => .head h0 s1 (harr.1 k' (by rw [hx]; exact hk)),
      fun hr' hk => let ⟨k₁, h1, h2⟩ := harr.2 hr' (by rw [hx]; exact hk); ⟨k₁, h1, .head h0 s1 h2⟩⟩
  | goto l => exact hq.elim
  | ret => exact ⟨_, a₁, w₁, hq, .of_steps (.one h0 s1) harr⟩
  | panic ch => exact ⟨_, a₁, w₁, hq, .of_steps (.one h0 s1) harr⟩
  | outgrown => exact ⟨_, a₁, w₁, hq, .of_steps (.one h0 s1) harr⟩

theorem below_drewN {B : Nat} {a w : World} (h : Below B a w) (q : Nat) : Below B a (w.drewN q) := ⟨h.os, h.tape, h.output, h.size, h.block⟩
theorem Grown.refl {M : Nat → Prop} {W : World} (h : ∀ j, M j → j < W.heap.size) : Grown M M W W := ⟨fun k hk => hk, fun k hk => .inl hk, h, Turns.refl _ _⟩
theorem Grown.trans {M M' M'' : Nat → Prop} {A B C : World} (h : Grown M M' A B) (k : Grown M' M'' B C) : Grown M M'' A C := by
  refine ⟨fun j hj => k.keep _ (h.keep _ hj), fun j hj => ?_, k.lt, ⟨k.turns.os.trans h.turns.os, k.turns.tape.trans h.turns.tape, k.turns.output.trans h.turns.output, Nat.le_trans h.turns.size k.turns.size, fun j hj hn => ?_⟩⟩
  · have hs := h.turns.size
    rcases k.new _ hj with h1 | h1
    · exact h.new _ h1
    · exact .inr (by omega)
  · rw [k.turns.block j (by have := h.turns.size; omega) hn]
    exact h.turns.block j hj (fun hm => hn (k.keep _ hm))
theorem Grown.of_below {M : Nat → Prop} {A B C : World} {M' : Nat → Prop} (h : Grown M M' A B) (k : Below B.heap.size B C) : Grown M M' A C := by
  have hs := k.size
  refine ⟨h.keep, h.new, fun j hj => by have := h.lt j hj; omega, ⟨k.os.trans h.turns.os, k.tape.trans h.turns.tape, k.output.trans h.turns.output, by have := h.turns.size; omega, fun j hj hn => ?_⟩⟩
  rw [k.block j (by have := h.turns.size; omega)]
  exact h.turns.block j hj hn
theorem SpAt.below {A W : World} {B N : Nat} {M : Nat → Prop} {l : List (Int × Int)} (h : SpAt A B N M l) (hb : Below A.heap.size A W) : SpAt W B N M l :=
  h.turn (n := A.heap.size) (Turns.of_below hb)

/-- The spans of a world: what the call to Spans returns. -/
def SpansOut (w : World) (l : List (Int × Int)) (e : Ending) (w' : World) : Prop := ∃ v, e = .returned v ∧ w'.ownsRow w.heap.size 34 2 v l.length (spv l) ∧ Below w.heap.size w w'

def SpnI (T : List Str) (F To a wl : Int) (V : List (Int × Int)) (B N : Nat) (pre : List Str) (M : Nat → Prop) (W : World) : Prop :=
  ∃ rest l, T = pre ++ rest ∧ spanRun F To a wl l rest = V ∧ l.length ≤ 20 * pre.length ∧ SpAt W B N M l ∧ ¬ M (B + 1)

def WinI (F To a wl bg en el : Int) (V : List (Int × Int)) (r : List Str) (pl K N K1 : Nat) (M : Nat → Prop) (w W : World) (op : Int) (wr : World) : Prop :=
  ∃ (l1 : List (Int × Int)) (M1 : Nat → Prop) (j : Nat), op = bg - el + 86400 * j ∧ j ≤ 13 ∧ spanRun F To a wl (winRun bg en wl l1 op) r = V ∧ l1.length ≤ 20 * pl + j ∧ Grown M M1 W wr ∧ SpAt wr K N M1 l1 ∧ ¬ M1 (K + 1) ∧
    Arr wr (N + 1) 34 [iv F, iv To] ∧ Arr wr K1 124 [iv a, iv wl] ∧ Arr wr (K + 1) 127 [.func (.func 107) #[] #[.pointer (some ⟨K, 0, none⟩)]] ∧ Below N w wr

theorem win_step {F To a wl bg en el : Int} {V : List (Int × Int)} {r : List Str} {pl K N K1 : Nat} {M : Nat → Prop} {w W : World} {op : Int} {wr : World} {l1 : List (Int × Int)} {M1 M2 : Nat → Prop} {j : Nat} {mx mn : Int} {w8 : World}
    (h1 : op = bg - el + 86400 * j) (hj : j ≤ 12) (h4 : l1.length ≤ 20 * pl + j) (h5 : Grown M M1 W wr) (h7 : ¬ M1 (K + 1)) (h8 : Arr wr (N + 1) 34 [iv F, iv To]) (h9 : Arr wr K1 124 [iv a, iv wl])
    (h10 : Arr wr (K + 1) 127 [.func (.func 107) #[] #[.pointer (some ⟨K, 0, none⟩)]]) (h11 : Below N w wr) (hN1 : N + 1 < K) (hK1 : K1 < K) (hNw : N ≤ wr.heap.size)
    (hG2 : Grown M1 M2 wr w8) (hSp2 : SpAt w8 K N M2 (addZ l1 mx mn)) (h3 : spanRun F To a wl (winRun bg en wl (addZ l1 mx mn) (op + 86400)) r = V) (hal : (addZ l1 mx mn).length ≤ l1.length + 1) :
    WinI F To a wl bg en el V r pl K N K1 M w W (op + 86400) w8 := by
  have hge : ∀ j, M2 j → K ≤ j := by obtain ⟨_, _, _, _, _, q⟩ := hSp2; exact q
  have hK2 : ¬ M2 (K + 1) := fun h => by
    have := h10.lt
    rcases hG2.new _ h with h | h
    · exact h7 h
    · omega
  exact ⟨addZ l1 mx mn, M2, j + 1, by omega, by omega, h3, by omega, h5.trans hG2, hSp2, hK2, hG2.turns.arr h8 (fun h => by have := hge _ h; omega), hG2.turns.arr h9 (fun h => by have := hge _ h; omega), hG2.turns.arr h10 hK2,
    h11.trans (hG2.turns.below hNw (fun k hk => by have := hge k hk; omega))⟩

set_option maxRecDepth 100000 in
set_option maxHeartbeats 8000000 in
theorem spans_yes (off F To a b : Int) (p : Option Addr) (cap : Nat) (sh : List (Int × Int)) (w : World) (hS : ShAt w w.heap.size p sh) (hlen : sh.length ≤ 1000) (hval : validZ off sh = true) (ha : okSod a = true) (hb : okSod b = true) (hlo : longZ F To = false)
    (hf0 : -9223372036854775808 ≤ F) (hf1 : F ≤ 9223372036854775807) (ht0 : -9223372036854775808 ≤ To) (ht1 : To ≤ 9223372036854775807) :
    Calls Tryz.prog 87 #[.agg #[iv off, .slice p sh.length cap], .agg #[iv F, iv To], .int .i64 a, .int .i64 b] w (SpansOut w (spanRun F To a (winZ a b) [] (strs 0 off sh))) := by
  have hv := fun W (h : Below w.heap.size w W) => valid_any off p cap w.heap.size sh W h.size (hS.below h) hlen
  have hm := fun W => mkwin_yes a b W ha hb
  have hli := fun W => isLong_any F To W hf0 hf1 ht0 ht1
  rw [hlo] at hli
  have hwp := winZ_pos a b
  obtain ⟨a0, a1⟩ := okSod_iff.1 ha
  obtain ⟨wl, hwl⟩ : ∃ wl, winZ a b = wl := ⟨_, rfl⟩
  rw [hwl] at hm hwp ⊢
  obtain ⟨T, hT⟩ : ∃ T, strs 0 off sh = T := ⟨_, rfl⟩
  obtain ⟨V, hV⟩ : ∃ V, spanRun F To a wl [] (strs 0 off sh) = V := ⟨_, rfl⟩
  rw [hV]
  have hall := (valid_iff hval).2.2
  have hTl : T.length ≤ 1001 := by rw [← hT, strs_len]; omega
  have hh : ∀ F n W Zb, F.fn 129 → F.round = none → 1 ≤ n → Below w.heap.size w W → Arr W Zb 26 [iv off, .slice p sh.length cap] → Hands F n Tryz.prog 129 #[.pointer (some ⟨Zb, 0, none⟩)] encS (fun k => k < w.heap.size ∨ k = Zb) T W :=
    fun F n W Zb h1 h2 h3 h4 h5 => hT ▸ stretches_hands F n h1 h2 h3 Zb w.heap.size off p cap sh W h4.size h5 (hS.below h4) hlen
  rw [hT] at hV hall
  rw [hval] at hv
  have hspan : F < To → To - F ≤ 1000000 := fun h => by
    unfold longZ at hlo; rw [decide_eq_true h, Bool.true_and] at hlo; simpa using hlo
  have HS := Lib.hid hspan; clear hspan hlo
  have HV := Lib.hid hV; clear hV hT hval hwl ha hb
  have HA := Lib.hid hall; clear hall
  clear hS
  refine (callsIn_wide (n := 5)).1 ?_
  have hwide : ∀ f, Fence.wide.fn f := fun _ => trivial
  have hro : Fence.wide.round = none := rfl
  have h1 : 1 ≤ 5 := by omega
  refine callsIn_of_wp_marks Tryz.func87 rfl (hwide _) ?_ hro
  simp only [Tryz.ntmps87, List.size_toArray, List.length_cons, List.length_nil, Nat.reduceAdd, Nat.reduceSub, Array.replicate_succ, Array.replicate_zero, List.push_toArray, List.append_toArray, List.nil_append, List.cons_append]
  gi_wp2_with fail
  obtain ⟨W0, hW0, b0, z0, ka, kd⟩ : ∃ W0, (w.alloc (.cells #[iv off, .slice p sh.length cap] 26)).alloc (.cells #[iv F, iv To] 34) = W0 ∧ Below w.heap.size w W0 ∧ W0.heap.size = w.heap.size + 2 ∧
      Arr W0 w.heap.size 26 [iv off, .slice p sh.length cap] ∧ Arr W0 (w.heap.size + 1) 34 [iv F, iv To] :=
    ⟨_, rfl, ((Below.refl _ w).alloc (Nat.le_refl _) _).alloc (by simp) _, by simp, (Arr.new w _ [iv off, .slice p sh.length cap]).alloc _, Arr.new' _ [iv F, iv To] (by simp)⟩
  try rw [hW0]
  clear hW0
  refine wpIn_scope ?_
  gi_wp2_with fail
  refine (callsIn_wide.2 (hm _)).mono ?_; rintro e w1 ⟨rfl, b1⟩
  have b01 := bthen b0 b1
  have hs1 := b1.size
  have ka := ka.below b1 (by omega)
  have kd := kd.below b1 (by omega)
  have c0 := ka.cell (i := 0) rfl
  have c1 := ka.cell (i := 1) rfl
  have c3 := kd.cell (i := 0) rfl
  have c4 := kd.cell (i := 1) rfl
  have l0 : w.heap.size < w1.heap.size := by omega
  have l1 : w.heap.size + 1 < w1.heap.size := by omega
  gi_wp2_with fail
  obtain ⟨W2, hW2, b2, z2, kw⟩ : ∃ W2, w1.alloc (.cells #[.int .i64 a, .int .i64 wl] 124) = W2 ∧ Below w1.heap.size w1 W2 ∧ W2.heap.size = w1.heap.size + 1 ∧ Arr W2 w1.heap.size 124 [iv a, iv wl] :=
    ⟨_, rfl, (Below.refl _ _).alloc (Nat.le_refl _) _, by simp, Arr.new w1 _ [iv a, iv wl]⟩
  try rw [hW2]
  clear hW2 c0 c1 c3 c4
  have b02 := bthen b01 b2
  refine (callsIn_wide.2 (hv _ b02)).mono ?_; rintro e w3 ⟨rfl, b3⟩
  have b03 := bthen b02 b3
  have hs3 := b3.size
  have ka := (ka.below b2 l0).below b3 (by omega)
  have kd := (kd.below b2 l1).below b3 (by omega)
  have kw := kw.below b3 (by omega)
  have c3 := kd.cell (i := 0) rfl
  have c4 := kd.cell (i := 1) rfl
  have l2 : w.heap.size < w3.heap.size := by omega
  have l3 : w.heap.size + 1 < w3.heap.size := by omega
  gi_wp2_with fail
  refine (callsIn_wide.2 (hli _)).mono ?_; rintro e w4 ⟨rfl, b4⟩
  have b04 := bthen b03 b4
  have hs4 := b4.size
  have ka := ka.below b4 l2
  have kd := kd.below b4 l3
  have kw := kw.below b4 (by omega)
  have c0 := ka.cell (i := 0) rfl
  have c1 := ka.cell (i := 1) rfl
  have l4 : w.heap.size < w4.heap.size := by omega
  have l5 : w.heap.size + 1 < w4.heap.size := by omega
  have l6 : w1.heap.size < w4.heap.size := by omega
  clear c3 c4
  gi_wp2_with fail
  refine wpIn_label ?_
  gi_wp2_with (gi_at_call 108; refine (stretches_in _ _ (hwide _) hro _ _).mono ?_; rintro e w' ⟨rfl, rfl⟩)
  obtain ⟨W5, hW5, b5, z5, kz, kc, kf⟩ : ∃ W5, ((w4.alloc (.cells #[.slice none 0 0] 40)).alloc (.cells #[.func (.func 107) #[] #[.pointer (some ⟨w4.heap.size, 0, none⟩)]] 127)).alloc (.cells #[iv off, .slice p sh.length cap] 26) = W5 ∧ Below w4.heap.size w4 W5 ∧ W5.heap.size = w4.heap.size + 3 ∧
      Arr W5 (w4.heap.size + 1 + 1) 26 [iv off, .slice p sh.length cap] ∧ Arr W5 w4.heap.size 40 [.slice none 0 0] ∧ Arr W5 (w4.heap.size + 1) 127 [.func (.func 107) #[] #[.pointer (some ⟨w4.heap.size, 0, none⟩)]] :=
    ⟨_, rfl, (((Below.refl _ w4).alloc (Nat.le_refl _) _).alloc (by simp) _).alloc (by simp; omega) _, by simp, Arr.new' _ [iv off, .slice p sh.length cap] (by simp), ((Arr.new w4 _ [.slice none 0 0]).alloc _).alloc _, (Arr.new' _ [.func (.func 107) #[] #[.pointer (some ⟨w4.heap.size, 0, none⟩)]] (by simp)).alloc _⟩
  rw [hW5]; clear hW5 c0 c1
  have b05 := bthen b04 b5
  have kd := kd.below b5 l5
  have kw := kw.below b5 l6
  clear ka l0 l1 l2 l3
  obtain ⟨N, hN⟩ : ∃ N, w.heap.size = N := ⟨_, rfl⟩
  obtain ⟨K, hK⟩ : ∃ K, w4.heap.size = K := ⟨_, rfl⟩
  obtain ⟨K1, hK1⟩ : ∃ K, w1.heap.size = K := ⟨_, rfl⟩
  have l7 : w.heap.size + 1 < w1.heap.size := by omega
  simp only [hN] at hh
  simp only [hN, hK, hK1] at b05 z5 kz kc kf kd kw l4 l5 l6 l7
  rw [hN, hK, hK1]
  clear b0 b1 b01 b2 b02 b3 b03 b4 b04 b5 hs1 hs3 hs4 hv hm hli z0 z2
  refine wpIn_rangeFunc_hands hro h1 (gf := 129) (lb := #[.pointer (some ⟨K + 1 + 1, 0, none⟩)]) rfl (hwide _) (enters_of Tryz.func129 (by kernel_rfl) rfl)
    (hh _ _ _ _ (hwide _) hro (by omega) b05 kz) (Below.refl _ _) (fun _ => rfl)
    (fun pre M W => SpnI T F To a wl V K N pre M W ∧ Arr W (N + 1) 34 [iv F, iv To] ∧ Arr W K1 124 [iv a, iv wl] ∧ Arr W (K + 1) 127 [.func (.func 107) #[] #[.pointer (some ⟨K, 0, none⟩)]] ∧ Below N w W)
    (fun c _ M W => c = .exit 0 ∧ SpAt W K N M V ∧ Below N w W)
    (fun xs M A B h ht => by
      obtain ⟨⟨rest, l, e1, e2, e3, e4, e5⟩, e6, e7, e8, e9⟩ := h
      exact ⟨⟨rest, l, e1, e2, e3, e4.turn ht, e5⟩, ht.arr e6 (fun h => by have := h.1; omega), ht.arr e7 (fun h => by have := h.1; omega), ht.arr e8 (fun h => by have := h.1; omega), e9.trans (ht.below (by have := e9.size; omega) (fun k hk => by omega))⟩)
    (fun c xs M A B h ht => by
      obtain ⟨e0, e1, e2⟩ := h
      exact ⟨e0, e1.turn ht, e2.trans (ht.below (by have := e2.size; omega) (fun k hk => by omega))⟩)
    (fun k => k = K) (fun k hk => by subst hk; omega) ⟨⟨T, [], rfl, HV.out, Nat.zero_le _, ⟨_, kc, World.ownsRow_nil _ _ _ _, (fun j hj => by cases hj), rfl, fun j hj => Nat.le_of_eq hj.symm⟩, fun h => by omega⟩, kd, kw, kf, b05⟩ 131 (fun x => [iv x.1, iv x.2.1, iv x.2.2])
    ?a1 ?assign ?body ?done ?stop
  case assign =>
    intro l x W K hK
    unfold encS
    gi_wp2
    have hK' := hK W.heap.size _ (Nat.le_refl _) ((Below.refl _ W).alloc (Nat.le_refl _) _) (Arr.new W 131 [iv x.1, iv x.2.1, iv x.2.2])
    clear hK
    generalize W.heap.size = g at *
    exact hK'
  case body =>
    rintro lp pre x g M W ⟨⟨rest, l, e1, e2, e3, e4, e5⟩, e6, e7, e8, e9⟩ hpre kg hMg hMl hWs
    obtain ⟨r, rfl⟩ := rest_cons e1 hpre
    have hok := HA.out x (by rw [e1]; simp)
    have hpl : pre.length ≤ 1000 := by have := congrArg List.length e1; simp at this; omega
    obtain ⟨xf, xt, xo⟩ := x
    obtain ⟨q1, q2, q3, q4, q5⟩ := hok
    have g0 := kg.cell (i := 0) rfl
    have g1 := kg.cell (i := 1) rfl
    have g2 := kg.cell (i := 2) rfl
    have c0 := e6.cell (i := 0) rfl
    have c1 := e6.cell (i := 1) rfl
    have hs5 := e9.size
    dsimp only at g0 g1 g2 q1 q2 q3 q4 q5 ⊢
    unfold spanRun at e2
    dsimp only at e2
    have H1 := Lib.hid e1; clear e1 hpre hh
    by_cases hx1 : xt ≤ F
    · rw [if_pos hx1] at e2
      have H2 := Lib.hid e2; clear e2
      have hP : Grown M M W W ∧ SpnI T F To a wl V K N (pre ++ [(xf, xt, xo)]) M W := ⟨Grown.refl hMl, r, l, by rw [H1.out]; simp, H2.out, by simp; omega, e4, e5⟩
      have hP := Lib.hid hP
      clear e3 e4 e5 hMl H1 H2
      gi_wp2
      exact ⟨M, hP.out.1, hP.out.2, e6, e7, e8, e9⟩
    · rw [if_neg hx1] at e2
      by_cases hx2 : To ≤ xf
      · rw [if_pos hx2] at e2
        have H2 := Lib.hid e2; clear e2
        have hP : Grown M M W W ∧ SpAt W K N M V := ⟨Grown.refl hMl, H2.out ▸ e4⟩
        have hP := Lib.hid hP
        clear e3 e4 e5 hMl H1 H2
        gi_wp2
        exact ⟨M, hP.out.1, rfl, hP.out.2, e9⟩
      · rw [if_neg hx2] at e2
        have H2 := Lib.hid e2; clear e2
        have HM := Lib.hid hMl; clear hMl
        have d0 := e7.cell (i := 0) rfl
        have d1 := e7.cell (i := 1) rfl
        have f1 := e8.cell (i := 0) rfl
        have hF9 : F < 10000000001 := by omega
        obtain ⟨bg, hbg⟩ : ∃ bg, max xf F = bg := ⟨_, rfl⟩
        obtain ⟨en, hen⟩ : ∃ en, min xt To = en := ⟨_, rfl⟩
        have hb0 : 0 ≤ bg := by omega
        have hb9 : bg ≤ 10000000001 := by omega
        have hn0 : 0 ≤ en := by omega
        have hn9 : en ≤ 10000000001 := by omega
        gi_wp2_with fail
        refine wpIn_region_quietR (by kernel_rfl) (by kernel_rfl) (by kernel_rfl) ?_
        repeat (gi_big_quiet_step (fail))
        refine wpQuietIn_nil ?_
        intro W6 hw'
        obtain ⟨nq, hw''⟩ := hw'
        have w6 : Below W.heap.size W W6 := by rw [hw'']; exact below_drewN (Below.refl _ _) nq
        have s6 : W6.heap.size = W.heap.size := by rw [hw'']; rfl
        clear hw'' c0 c1 g0 g1 g2 d0 d1 f1
        rw [show (if xf < F then F else xf) = bg by split <;> omega, show (if To < xt then To else xt) = en by split <;> omega]
        have e4 := e4.below w6
        have e6 := e6.below w6 e6.lt
        have e7 := e7.below w6 e7.lt
        have e8 := e8.below w6 e8.lt
        have e9 := bthen2 e9 w6 (by omega)
        have kg := kg.below w6 kg.lt
        have HM6 : ∀ j, M j → j < W6.heap.size := fun j hj => by have := HM.out j hj; omega
        have hG6 : Grown M M W W6 := ((Grown.refl HM.out).of_below w6)
        have g2 := kg.cell (i := 2) rfl
        have d0 := e7.cell (i := 0) rfl
        have d1 := e7.cell (i := 1) rfl
        rw [hbg, hen] at H2
        have hel := fun W => elapsed_any a wl (bg + xo) W a0 a1 (by omega) (by omega)
        obtain ⟨el, hele⟩ : ∃ el, (bg + xo - a) % 86400 = el := ⟨_, rfl⟩
        have hel0 : 0 ≤ el ∧ el < 86400 := by omega
        rw [hele] at hel H2
        have hF1 : F ≤ bg := by omega
        have hT1 : en ≤ To := by omega
        have hdist : en - bg ≤ 1000000 := by
          by_cases h : F < To
          · have := HS.out h; omega
          · omega
        have hlK : K < W.heap.size := HM.out K (by obtain ⟨_, _, _, _, q, _⟩ := e4; exact q)
        clear hbg hen hele q3 q4 q5 hx1 hx2 hF9 hf0 hf1 ht0 ht1
        gi_wp2_with (gi_at_call 109; refine (CallsIn.inRound lp (callsIn_wide.2 (hel _))).mono ?_; rintro e w7 ⟨rfl, b7⟩)
        have s7 := b7.size
        have hR : WinI F To a wl bg en el V r pre.length K N K1 M w W (bg - el) w7 :=
          ⟨l, M, 0, by omega, by omega, H2.out, by omega, hG6.of_below b7, e4.below b7, e5, e6.below b7 e6.lt, e7.below b7 e7.lt, e8.below b7 e8.lt, bthen2 e9 b7 (by omega)⟩
        have HR := Lib.hid hR; clear hR
        have H1' := Lib.hid H1.out
        have o1 : -100000 ≤ bg - el := by omega
        clear kg g2 d0 d1 e3 e4 e5 e6 e7 e8 e9 hG6 HM HM6 H2 H1 hel w6 b7 kd kw kf kc kz b05
        gi_loopw [16] (fun o wr => ∃ op : Int, o = .int .i64 op ∧ -100000 ≤ op ∧ WinI F To a wl bg en el V r pre.length K N K1 M w W op wr) (fun o _ => (en - intOf o).toNat)
        case atStart => exact ⟨_, rfl, o1, HR.out⟩
        case round =>
          clear HR
          obtain ⟨op, rfl, ho1, l1, M1, j, h1', h2, h3, h4, h5, h6, h7, h8, h9, h10, h11⟩ := hrel
          have hsr := h5.turns.size
          by_cases hlt : op < en
          · rw [winRun_go hlt] at h3
            have hj12 : j ≤ 12 := by omega
            have c8 := h10.cell (i := 0) rfl
            have c9 := h9.cell (i := 1) rfl
            have hsz := h11.size
            obtain ⟨mx, hmx, hcx⟩ : ∃ mx, max op bg = mx ∧ ((op < bg ∧ mx = bg) ∨ (bg ≤ op ∧ mx = op)) := ⟨_, rfl, by omega⟩
            obtain ⟨mn, hmn, hcn⟩ : ∃ mn, min (op + wl) en = mn ∧ ((en < op + wl ∧ mn = en) ∨ (op + wl ≤ en ∧ mn = op + wl)) := ⟨_, rfl, by omega⟩
            rw [hmx, hmn] at h3
            have hadd := fun (Wx : World) (hx : Below wr.heap.size wr Wx) => add_any mx mn K N M1 l1 Wx (h6.below hx) (fun j hj => by have := h5.lt j hj; have := hx.size; omega) (by have := hx.size; omega) (by omega)
            have hal := addZ_len (l := l1) (b := mx) (e := mn)
            have H3 := Lib.hid h3; clear h3
            have HA1 := Lib.hid hal; clear hal
            have HJ := Lib.hid h1'; clear h1' hmx hmn
            have hop9 : op ≤ 10000000001 := by omega
            have hP1 := Lib.hid h4; clear h4
            have hP2 := Lib.hid h5; clear h5
            have hP3 := Lib.hid h7; clear h7
            rcases hcx with ⟨hcx, hmx⟩ | ⟨hcx, hmx⟩
            · rcases hcn with ⟨hcn, hmn⟩ | ⟨hcn, hmn⟩
              · rw [hmx, hmn] at hadd H3 HA1
                clear hmx hmn
                gi_wp2_with (gi_at_call 107; refine (CallsIn.inRound lp (callsIn_wide.2 (hadd _ (Below.refl _ _)))).mono ?_; rintro e w8 ⟨⟨v8, rfl⟩, M2, hG2, hSp2⟩)
                exact ⟨⟨op + 86400, rfl, by omega, win_step HJ.out hj12 hP1.out hP2.out hP3.out h8 h9 h10 h11 (by omega) (by omega) (by omega) hG2 hSp2 H3.out HA1.out⟩, by simp [intOf]; omega⟩
              · rw [hmx, hmn] at hadd H3 HA1
                clear hmx hmn
                gi_wp2_with (gi_at_call 107; refine (CallsIn.inRound lp (callsIn_wide.2 (hadd _ (Below.refl _ _)))).mono ?_; rintro e w8 ⟨⟨v8, rfl⟩, M2, hG2, hSp2⟩)
                exact ⟨⟨op + 86400, rfl, by omega, win_step HJ.out hj12 hP1.out hP2.out hP3.out h8 h9 h10 h11 (by omega) (by omega) (by omega) hG2 hSp2 H3.out HA1.out⟩, by simp [intOf]; omega⟩
            · rcases hcn with ⟨hcn, hmn⟩ | ⟨hcn, hmn⟩
              · rw [hmx, hmn] at hadd H3 HA1
                clear hmx hmn
                gi_wp2_with (gi_at_call 107; refine (CallsIn.inRound lp (callsIn_wide.2 (hadd _ (Below.refl _ _)))).mono ?_; rintro e w8 ⟨⟨v8, rfl⟩, M2, hG2, hSp2⟩)
                exact ⟨⟨op + 86400, rfl, by omega, win_step HJ.out hj12 hP1.out hP2.out hP3.out h8 h9 h10 h11 (by omega) (by omega) (by omega) hG2 hSp2 H3.out HA1.out⟩, by simp [intOf]; omega⟩
              · rw [hmx, hmn] at hadd H3 HA1
                clear hmx hmn
                gi_wp2_with (gi_at_call 107; refine (CallsIn.inRound lp (callsIn_wide.2 (hadd _ (Below.refl _ _)))).mono ?_; rintro e w8 ⟨⟨v8, rfl⟩, M2, hG2, hSp2⟩)
                exact ⟨⟨op + 86400, rfl, by omega, win_step HJ.out hj12 hP1.out hP2.out hP3.out h8 h9 h10 h11 (by omega) (by omega) (by omega) hG2 hSp2 H3.out HA1.out⟩, by simp [intOf]; omega⟩
          · rw [winRun_end hlt] at h3
            have hP : Grown M M1 W wr ∧ SpnI T F To a wl V K N (pre ++ [(xf, xt, xo)]) M1 wr := ⟨h5, r, l1, by rw [H1'.out]; simp, h3, by simp; omega, h6, h7⟩
            have HP := Lib.hid hP; clear hP h1' h3 h4 h5 h6 h7
            gi_wp2
            exact ⟨M1, HP.out.1, HP.out.2, h8, h9, h10, h11⟩
  case done =>
    rintro D M W hD hMD ⟨⟨rest, l, e1, e2, e3, e4, e5⟩, e6, e7, e8, e9⟩ hKd
    obtain rfl := rest_nil e1
    clear e1
    unfold spanRun at e2
    subst e2
    obtain ⟨v, q1, q2, q3, q4, q5⟩ := e4
    have c3 := q1.cell (i := 0) rfl
    gi_wp2
    refine ⟨by simp, .inl ⟨_, _, rfl, run_takeDeferred hKd, ?_⟩⟩
    refine ⟨_, results_tmp rfl _ _ _, v, rfl, ?_, ?_⟩
    · rw [hN]; exact ((Turns.refl (fun j => j = D) W).of_put rfl _).row q2 (fun j hj h => hMD (h ▸ q3 j hj))
    · exact hN ▸ e9.trans (belowK_b (w := w) (by omega) W D _ _ (by omega) hKd rfl rfl)
  case stop =>
    rintro D c pre M W hD hMD hpre ⟨rfl, ⟨v, q1, q2, q3, q4, q5⟩, e9⟩ hKd
    have c3 := q1.cell (i := 0) rfl
    gi_wp2
    refine ⟨by simp, .inl ⟨_, _, rfl, run_takeDeferred hKd, ?_⟩⟩
    refine ⟨_, results_tmp rfl _ _ _, v, rfl, ?_, ?_⟩
    · rw [hN]; exact ((Turns.refl (fun j => j = D) W).of_put rfl _).row q2 (fun j hj h => hMD (h ▸ q3 j hj))
    · exact hN ▸ e9.trans (belowK_b (w := w) (by omega) W D _ _ (by omega) hKd rfl rfl)
end Go.Proofs.YtfannkpnmaeljaaGreatDoor.Cal

/- sane, pick. -/
namespace Go.Proofs.YtfannkpnmaeljaaGreatDoor.Cal
open Go.RowKit

theorem own_below {W W' : World} {base : Nat} {e : TypeId} {size : Nat} {v : Value} {n : Nat} {xs : List Value} (h : W.ownsRow base e size v n xs) (hb : Below W.heap.size W W') : W'.ownsRow base e size v n xs := by
  obtain ⟨h1, h2⟩ := h
  refine ⟨h1, ?_⟩
  rcases h2 with h2 | ⟨g, cap, cur, e1, e2, e3, e4⟩
  · exact .inl h2
  · exact .inr ⟨g, cap, cur, e1, e2, (hb.block g (Array.getElem?_eq_some_iff.1 e3).1).trans e3, e4⟩

def pickZ (c n : Int) : Int := (if c < 0 then -(c + 1) else c) % n
theorem pick_in {c n : Int} (hn : 1 ≤ n) : 0 ≤ pickZ c n ∧ pickZ c n < n := by
  unfold pickZ
  exact ⟨Int.emod_nonneg _ (by omega), Int.emod_lt_of_pos _ (by omega)⟩

theorem spans_any (off F To a b : Int) (p : Option Addr) (cap : Nat) (sh : List (Int × Int)) (w : World) (hS : ShAt w w.heap.size p sh) (hlen : sh.length ≤ 1000) (h : (okSod a && okSod b && validZ off sh && !longZ F To) = true)
    (hf0 : -9223372036854775808 ≤ F) (hf1 : F ≤ 9223372036854775807) (ht0 : -9223372036854775808 ≤ To) (ht1 : To ≤ 9223372036854775807) :
    Calls Tryz.prog 87 #[.agg #[iv off, .slice p sh.length cap], .agg #[iv F, iv To], .int .i64 a, .int .i64 b] w (SpansOut w (spansZ off sh F To a b)) := by
  unfold spansZ
  rw [if_pos h]
  simp only [Bool.and_eq_true, Bool.not_eq_true'] at h
  exact spans_yes off F To a b p cap sh w hS hlen h.1.2 h.1.1.1 h.1.1.2 h.2 hf0 hf1 ht0 ht1

def shS : List (Int × Int) := [(90000, 7200), (200000, 3600)]
theorem sane_l0 : localZ 3600 shS 90000 = (1, 10800) := by decide
theorem sane_l1 : localZ 3600 shS 89999 = (1, 7199) := by decide
theorem sane_a0 : atT 3600 shS 2 32000 = [197600, 201200] := by decide
theorem sane_a1 : atT 3600 shS 1 7200 = [] := by decide
theorem sane_n0 : lengthZ 3600 shS 1 = 82800 := by decide
theorem sane_n1 : lengthZ 3600 shS 2 = 90000 := by decide
theorem sane_w0 : withinZ 3600 shS 90000 79200 18000 = true := by decide
theorem sane_w1 : withinZ 3600 shS 90000 10801 11000 = false := by decide
theorem sane_v0 : validZ 3600 shS = true := by decide
theorem sane_v1 : validZ 50401 [] = false := by decide
theorem sane_s0 : spansZ 3600 shS 80000 95000 0 3600 = [(82800, 86400)] := by
  have h : (okSod 0 && okSod 3600 && validZ 3600 shS && !longZ 80000 95000) = true := by decide
  unfold spansZ
  rw [if_pos h]
  simp only [shS, strs, spanRun, winZ]
  simp
  rw [winRun_go (by decide), winRun_end (by decide), winRun_go (by decide), winRun_go (by decide), winRun_end (by decide)]
  decide

theorem shS_at {w : World} {N : Nat} (hw : Arr w N 83 [iv 90000, iv 7200, iv 200000, iv 3600]) {n : Nat} (hn : N < n) : ShAt w n (some ⟨N, 0, none⟩) shS := fun i hi => by
  match i, hi with
  | 0, _ => exact ⟨N, 0, rfl, hn, hw.cell (i := 0) rfl, hw.cell (i := 1) rfl⟩
  | 1, _ => exact ⟨N, 0, rfl, hn, hw.cell (i := 2) rfl, hw.cell (i := 3) rfl⟩

/-- Two integers. -/
theorem two_cells {w : World} {base : Nat} {v : Value} {a b : Int} (h : w.ownsRow base 3 1 v 2 (ivs [a, b])) : ∃ g cap, v = .slice (some ⟨g, 0, none⟩) 2 cap ∧ g < w.heap.size ∧ w.cell? ⟨g, 0, none⟩ = some (iv a) ∧ w.cell? ⟨g, 1, none⟩ = some (iv b) := by
  obtain ⟨g, cap, rfl⟩ := ownsRow_succ h
  exact ⟨g, cap, rfl, (h.lt g rfl).2, h.cellAt 0 (by decide), h.cellAt 1 (by decide)⟩
theorem no_cells {w : World} {base : Nat} {e : TypeId} {size : Nat} {v : Value} {xs : List Value} (h : w.ownsRow base e size v 0 xs) : ∃ p cap, v = .slice p 0 cap := by
  rcases h.2 with ⟨rfl, _⟩ | ⟨g, cap, cur, rfl, _⟩ <;> exact ⟨_, _, rfl⟩
theorem one_span {w : World} {base : Nat} {v : Value} {a b : Int} (h : w.ownsRow base 34 2 v 1 (spv [(a, b)])) : ∃ g cap, v = .slice (some ⟨g, 0, none⟩) 1 cap ∧ g < w.heap.size ∧ w.cell? ⟨g, 0, none⟩ = some (iv a) ∧ w.cell? ⟨g, 1, none⟩ = some (iv b) := by
  obtain ⟨g, cap, rfl⟩ := ownsRow_succ h
  exact ⟨g, cap, rfl, (h.lt g rfl).2, h.cellAt 0 (by decide), h.cellAt 1 (by decide)⟩

end Go.Proofs.YtfannkpnmaeljaaGreatDoor.Cal

/- The zones that the statements make. -/
namespace Go.Proofs.YtfannkpnmaeljaaGreatDoor.Cal
open Go.RowKit

theorem ascZ_snoc {l a o : Int} : ∀ {sh : List (Int × Int)}, ascZ l sh = true → (∀ x ∈ sh, x.1 < a) → l < a → okSec a = true → okOff o = true → ascZ l (sh ++ [(a, o)]) = true := by
  intro sh
  induction sh generalizing l with
  | nil => intro _ _ h1 h2 h3; simp [ascZ, h1, h2, h3]
  | cons x r ih =>
    intro h hx h1 h2 h3
    simp only [ascZ, Bool.and_eq_true, List.cons_append] at h ⊢
    exact ⟨h.1, ih h.2 (fun y hy => hx y (by simp [hy])) (hx x (by simp)) h2 h3⟩

theorem infoH : (Tryz.prog.info? 83).map (fun i => (i.zero, i.size, i.bytes)) = some (some (.agg #[.int .i64 0, .int .i64 0]), 2, 16) := by kernel_rfl

theorem arr_not_row {W : World} {B : Nat} {t e : TypeId} {vs : List Value} (h : Arr W B t vs) (hte : t ≠ e) {base size k : Nat} {v : Value} {xs : List Value} (hr : W.ownsRow base e size v k xs) : some B ≠ v.ownBlock := by
  rcases hr.2 with ⟨rfl, _⟩ | ⟨g, cap, cur, rfl, _, hg, _⟩
  · simp [Value.ownBlock]
  · intro hB
    simp [Value.ownBlock] at hB
    subst hB
    rw [show W.heap[B]? = _ from h] at hg
    simp at hg
    exact hte hg.2

/-- A slice of spans or shifts of the call's own lies as a zone's shifts lie. -/
theorem shAt_own {W : World} {base : Nat} {v : Value} {sh : List (Int × Int)} (h : W.ownsRow base 83 2 v sh.length (spv sh)) : ∃ p cap, v = .slice p sh.length cap ∧ ShAt W W.heap.size p sh := by
  rcases h.2 with ⟨rfl, h0⟩ | ⟨g, cap, cur, rfl, _⟩
  · refine ⟨none, 0, by rw [h0], fun i hi => ?_⟩
    rw [h0] at hi; omega
  · refine ⟨_, cap, rfl, fun i hi => ⟨g, 0, rfl, (h.lt g rfl).2, ?_, ?_⟩⟩
    · rw [Nat.zero_add, h.cellAt (i * 2) (by omega)]; exact (spv_get hi).1
    · rw [Nat.zero_add, h.cellAt (i * 2 + 1) (by omega)]; exact (spv_get hi).2

def stepL : List Int := [3600, -3600, 1800, -7200, 0, 40000, -86399]
theorem step_cell {k : Nat} (hk : k < 7) (W : World) : (W.alloc (.cells #[.int .i64 3600, .int .i64 (-3600), .int .i64 1800, .int .i64 (-7200), .int .i64 0, .int .i64 40000, .int .i64 (-86399)] 3)).cell? ⟨W.heap.size, k, none⟩ = some (iv (stepL.getD k 0)) := by
  refine (Arr.new W 3 [iv 3600, iv (-3600), iv 1800, iv (-7200), iv 0, iv 40000, iv (-86399)]).cell ?_
  match k, hk with
  | 0, _ | 1, _ | 2, _ | 3, _ | 4, _ | 5, _ | 6, _ => rfl
theorem step_in (k : Nat) : -86399 ≤ stepL.getD k 0 ∧ stepL.getD k 0 ≤ 40000 := by
  match k with
  | 0 | 1 | 2 | 3 | 4 | 5 | 6 => decide
  | k + 7 => simp [stepL]

/-- What Make returns: a valid zone. -/
def MadeOut (len : Nat) (w : World) (e : Ending) (w' : World) : Prop :=
  ∃ off sh p cap, e = .returned (.agg #[iv off, .slice p sh.length cap]) ∧ validZ off sh = true ∧ sh.length = min len 12 ∧ ShAt w' w'.heap.size p sh ∧ Below w.heap.size w w'

def MkI (off : Int) (Z R N k : Nat) (a l : Int) (sh : List (Int × Int)) (v : Value) (w wr : World) : Prop :=
  sh.length = k ∧ ascZ (-1) sh = true ∧ (∀ x ∈ sh, x.1 ≤ a) ∧ 0 ≤ a ∧ a ≤ 400001 * k ∧ -50400 ≤ l ∧ l ≤ 50400 ∧ Arr wr Z 26 [iv off, v] ∧ Arr wr R 26 [iv 0, .slice none 0 0] ∧ wr.ownsRow N 83 2 v k (spv sh) ∧ Below N w wr

theorem mk_step {off : Int} {Z R N k : Nat} {a l a' l' : Int} {sh : List (Int × Int)} {v v' : Value} {w wr w2 w3 : World} {o : Obj} (h : MkI off Z R N k a l sh v w wr) (hZR : R < Z) (hNR : N ≤ R) (hk : k < 12) (ha : a < a') (ha2 : a' ≤ a + 400000) (hl1 : -50400 ≤ l') (hl2 : l' ≤ 50400)
    (b : Below wr.heap.size wr w2) (hgrow : (w2.alloc o).grownBy w3 v.ownBlock) (hown : w3.ownsRow N 83 2 v' (k + 1) (spv sh ++ [iv a', iv l'])) (hv1 : w3.heap[Z]? = (w2.alloc o).heap[Z]?) (hv2 : w3.heap[R]? = (w2.alloc o).heap[R]?) :
    MkI off Z R N (k + 1) a' l' (sh ++ [(a', l')]) v' w (w3.setCell ⟨Z, 1, none⟩ v') := by
  obtain ⟨m1, m2, m3, m4, m5, m6, m7, m8, m9, m10, m11⟩ := h
  have z8 := m8.lt
  have z9 := m9.lt
  have hs := b.size
  have k8 : Arr w3 Z 26 [iv off, v] := hv1.trans ((m8.below b z8).alloc o)
  have k9 : Arr w3 R 26 [iv 0, .slice none 0 0] := hv2.trans ((m9.below b z9).alloc o)
  have hnr := arr_not_row k8 (by decide) hown
  refine ⟨by simp [m1], ascZ_snoc m2 (fun x hx => by have := m3 x hx; omega) (by omega) (okSec_iff.2 ⟨by omega, by omega⟩) (okOff_iff.2 ⟨hl1, hl2⟩), fun x hx => ?_, by omega, by omega, hl1, hl2, k8.set 1 v', k9.set_other 1 v' (by omega), ?_, ?_⟩
  · rcases List.mem_append.1 hx with hx | hx
    · have := m3 x hx; omega
    · simp at hx; subst hx; exact Int.le_refl _
  · have := ownsRow_setCell_other hown (a := ⟨Z, 1, none⟩) (fun h => hnr h.symm) v'
    simpa [spv] using this
  · have h11 := m11.size
    have g := m11.trans (b.mono (by omega))
    have g2 := g.alloc (by have := g.size; omega) o
    exact ((g2.grown hgrow (by simp; omega) (own_le m10)).setCell (p := ⟨Z, 1, none⟩) (by simp; omega) v')

end Go.Proofs.YtfannkpnmaeljaaGreatDoor.Cal

/- CalendarSteady. -/
namespace Go.Proofs.YtfannkpnmaeljaaGreatDoor.Cal
open Go.RowKit

/-- The offset at a second, by the shifts alone. -/
def offL (s : Int) : Int → List (Int × Int) → Int
  | o, [] => o
  | o, (a, p) :: r => if a ≤ s then offL s p r else o
theorem offRun_eq {s : Int} : ∀ {sh : List (Int × Int)} {f o c : Int}, f ≤ s → offRun s c (strs f o sh) = offL s o sh
  | [], f, o, c, h => by unfold strs offRun; rw [if_neg (by simp; omega)]; rfl
  | (a, p) :: r, f, o, c, h => by
    unfold strs offRun
    rw [if_neg (by simp; omega)]
    dsimp only
    unfold offL
    by_cases ha : a ≤ s
    · rw [if_pos ha]; exact offRun_eq ha
    · rw [if_neg ha]
      cases r with
      | nil => unfold strs offRun; rw [if_pos (by simp; omega)]
      | cons x r => obtain ⟨x1, x2⟩ := x; unfold strs offRun; rw [if_pos (by simp; omega)]
theorem offZ_eq {off s : Int} {sh : List (Int × Int)} (h : 0 ≤ s) : offZ off sh s = offL s off sh := offRun_eq h

def jumpRun (s t : Int) : Int → Int → List (Int × Int) → Int
  | j, _, [] => j
  | j, nw, (a, p) :: r => jumpRun s t (if s < a ∧ a ≤ t then j + p - nw else j) p r
theorem jump_none {s t : Int} : ∀ {sh : List (Int × Int)} {l j nw : Int}, ascZ l sh = true → t ≤ l → jumpRun s t j nw sh = j
  | [], _, _, _, _, _ => rfl
  | (a, p) :: r, l, j, nw, h, hl => by
    simp only [ascZ, Bool.and_eq_true, decide_eq_true_eq] at h
    unfold jumpRun
    rw [if_neg (by omega)]
    exact jump_none h.2 (by omega)
theorem offL_late {s : Int} {sh : List (Int × Int)} {l o : Int} (h : ascZ l sh = true) (hl : s ≤ l) : offL s o sh = o := by
  cases sh with
  | nil => rfl
  | cons x r =>
    obtain ⟨a, p⟩ := x
    simp only [ascZ, Bool.and_eq_true, decide_eq_true_eq] at h
    unfold offL
    rw [if_neg (by omega)]
theorem jump_eq {s t : Int} (hst : s ≤ t) : ∀ {sh : List (Int × Int)} {l j nw : Int}, ascZ l sh = true → jumpRun s t j nw sh = j + offL t nw sh - offL s nw sh
  | [], _, _, _, _ => by unfold jumpRun offL; omega
  | (a, p) :: r, l, j, nw, h => by
    simp only [ascZ, Bool.and_eq_true, decide_eq_true_eq] at h
    unfold jumpRun offL
    by_cases h1 : a ≤ s
    · rw [if_neg (by omega), if_pos (by omega), if_pos h1]
      exact jump_eq hst h.2
    · by_cases h2 : a ≤ t
      · rw [if_pos (by omega), if_pos h2, if_neg h1, jump_eq hst h.2, offL_late (s := s) h.2 (by omega)]
        omega
      · rw [if_neg (by omega), if_neg h2, if_neg h1, jump_none h.2 (by omega)]
        omega
theorem jump_drop {s t j nw : Int} {sh : List (Int × Int)} {k : Nat} (h : k < sh.length) :
    jumpRun s t j nw (sh.drop k) = jumpRun s t (if s < (sh.getD k (0, 0)).1 ∧ (sh.getD k (0, 0)).1 ≤ t then j + (sh.getD k (0, 0)).2 - nw else j) (sh.getD k (0, 0)).2 (sh.drop (k + 1)) := by
  rw [List.drop_eq_getElem_cons h, List.getD_eq_getElem?_getD, List.getElem?_eq_getElem h]
  rfl
theorem asc_get : ∀ {sh : List (Int × Int)} {l : Int} {i : Nat}, ascZ l sh = true → i < sh.length → okSec (sh.getD i (0, 0)).1 = true ∧ okOff (sh.getD i (0, 0)).2 = true
  | [], _, _, _, h => by simp at h
  | (a, p) :: r, l, i, h, hi => by
    simp only [ascZ, Bool.and_eq_true] at h
    cases i with
    | zero => exact ⟨h.1.1.2, h.1.2⟩
    | succ i =>
      have := asc_get h.2 (i := i) (by simpa using hi)
      simpa using this
theorem valid_asc {off : Int} {sh : List (Int × Int)} (h : validZ off sh = true) : ascZ (-1) sh = true := by
  simp only [validZ, Bool.and_eq_true] at h; exact h.2

theorem local_val {off s : Int} {sh : List (Int × Int)} (hv : validZ off sh = true) (hs0 : 0 ≤ s) (hs1 : s ≤ 10000000000) : ∃ a b, localZ off sh s = (a, b) ∧ a * 86400 + b = s + offL s off sh ∧ 0 ≤ b ∧ b < 86400 ∧ -1 ≤ a ∧ a ≤ 115741 := by
  have hb := offZ_ok (s := s) hv
  rw [offZ_eq hs0] at hb
  have e : localZ off sh s = ((s + offL s off sh) / 86400, (s + offL s off sh) % 86400) := by
    unfold localZ
    rw [hv, okSec_iff.2 ⟨hs0, hs1⟩, offZ_eq hs0]
    rfl
  exact ⟨_, _, e, by omega, by omega, by omega, by omega, by omega⟩

end Go.Proofs.YtfannkpnmaeljaaGreatDoor.Cal

/- At and Local are inverse, on plain numbers. -/
namespace Go.Proofs.YtfannkpnmaeljaaGreatDoor.Cal
open Go.RowKit

theorem mem_atRun {u x : Int} : ∀ {T : List Str} {t : List Int}, x ∈ atRun u t T ↔ x ∈ t ∨ ∃ st ∈ T, st.1 ≤ x ∧ x < st.2.1 ∧ x = u - st.2.2
  | [], t => by simp [atRun]
  | y :: r, t => by
    unfold atRun
    rw [mem_atRun (T := r)]
    split
    · rename_i h
      constructor
      · rintro (h1 | ⟨st, h1, h2⟩)
        · rcases List.mem_append.1 h1 with h1 | h1
          · exact .inl h1
          · simp at h1; subst h1; exact .inr ⟨y, by simp, h.1, h.2, rfl⟩
        · exact .inr ⟨st, by simp [h1], h2⟩
      · rintro (h1 | ⟨st, h1, h2⟩)
        · exact .inl (by simp [h1])
        · rcases List.mem_cons.1 h1 with rfl | h1
          · exact .inl (by simp [h2.2.2])
          · exact .inr ⟨st, h1, h2⟩
    · rename_i h
      constructor
      · rintro (h1 | ⟨st, h1, h2⟩)
        · exact .inl h1
        · exact .inr ⟨st, by simp [h1], h2⟩
      · rintro (h1 | ⟨st, h1, h2⟩)
        · exact .inl h1
        · rcases List.mem_cons.1 h1 with rfl | h1
          · exact absurd ⟨by omega, by omega⟩ h
          · exact .inr ⟨st, h1, h2⟩

theorem strs_find {x : Int} (hx : x < 10000000001) : ∀ {sh : List (Int × Int)} {f o : Int}, f ≤ x → ∃ st ∈ strs f o sh, st.1 ≤ x ∧ x < st.2.1 ∧ st.2.2 = offL x o sh
  | [], f, o, h => ⟨(f, 10000000001, o), by simp [strs], h, hx, rfl⟩
  | (a, p) :: r, f, o, h => by
    by_cases ha : a ≤ x
    · obtain ⟨st, h1, h2⟩ := strs_find hx (sh := r) (o := p) ha
      exact ⟨st, by simp [strs, h1], by unfold offL; rw [if_pos ha]; exact h2⟩
    · exact ⟨(f, a, o), by simp [strs], h, by simp; omega, by unfold offL; rw [if_neg ha]⟩
theorem strs_ge : ∀ {sh : List (Int × Int)} {f o l : Int}, ascZ l sh = true → f ≤ l + 1 → ∀ st ∈ strs f o sh, f ≤ st.1
  | [], f, o, l, _, _, st, h => by simp [strs] at h; subst h; exact Int.le_refl _
  | (a, p) :: r, f, o, l, ha, hl, st, h => by
    simp only [ascZ, Bool.and_eq_true, decide_eq_true_eq] at ha
    rcases List.mem_cons.1 h with rfl | h
    · exact Int.le_refl _
    · have := strs_ge ha.2 (by omega) st h
      omega
theorem strs_off {x : Int} : ∀ {sh : List (Int × Int)} {f o l : Int}, ascZ l sh = true → ∀ st ∈ strs f o sh, st.1 ≤ x → x < st.2.1 → offL x o sh = st.2.2
  | [], f, o, l, _, st, h, _, _ => by simp [strs] at h; subst h; rfl
  | (a, p) :: r, f, o, l, ha, st, h, h1, h2 => by
    simp only [ascZ, Bool.and_eq_true, decide_eq_true_eq] at ha
    unfold offL
    rcases List.mem_cons.1 h with rfl | h
    · rw [if_neg (by simp at h2; omega)]
    · have := strs_ge ha.2 (by omega) st h
      rw [if_pos (by omega)]
      exact strs_off ha.2 st h h1 h2
theorem at_sorted {u : Int} : ∀ {sh : List (Int × Int)} {f o l : Int} {t : List Int}, ascZ l sh = true → f ≤ l + 1 → t.Pairwise (· < ·) → (∀ y ∈ t, y < f) → (atRun u t (strs f o sh)).Pairwise (· < ·)
  | [], f, o, l, t, _, _, hp, ht => by
    unfold strs atRun atRun
    split
    · rename_i h
      exact List.pairwise_append.2 ⟨hp, by simp, fun y hy z hz => by simp at hz; subst hz; have := ht y hy; have := h.1; simp at this; omega⟩
    · exact hp
  | (a, p) :: r, f, o, l, t, ha, hl, hp, ht => by
    simp only [ascZ, Bool.and_eq_true, decide_eq_true_eq] at ha
    unfold strs atRun
    refine at_sorted ha.2 (by omega) ?_ ?_
    · split
      · rename_i h
        exact List.pairwise_append.2 ⟨hp, by simp, fun y hy z hz => by simp at hz; subst hz; have := ht y hy; have := h.1; simp at this; omega⟩
      · exact hp
    · intro y hy
      split at hy
      · rename_i h
        rcases List.mem_append.1 hy with hy | hy
        · have := ht y hy; omega
        · simp at hy; subst hy; have := h.2; simp at this; omega
      · have := ht y hy; omega

/-- What the statement asks of At and Local. -/
theorem inv_math {off s : Int} {sh : List (Int × Int)} (hv : validZ off sh = true) (hs0 : 0 ≤ s) (hs1 : s ≤ 10000000000) : ∃ a b, localZ off sh s = (a, b) ∧ 0 ≤ b ∧ b < 86400 ∧ -1 ≤ a ∧ a ≤ 115741 ∧ s ∈ atT off sh a b := by
  obtain ⟨a, b, e1, e2, e3, e4, e5, e6⟩ := local_val hv hs0 hs1
  refine ⟨a, b, e1, e3, e4, e5, e6, ?_⟩
  unfold atT atZ
  rw [hv, okDay_iff.2 ⟨e5, e6⟩, okSod_iff.2 ⟨e3, e4⟩]
  simp only [Bool.and_self, if_true]
  obtain ⟨st, h1, h2, h3, h4⟩ := strs_find (x := s) (by omega) (sh := sh) (f := 0) (o := off) hs0
  exact mem_atRun.2 (.inr ⟨st, h1, h2, h3, by omega⟩)
theorem inv_math2 {off d n : Int} {sh : List (Int × Int)} (hv : validZ off sh = true) (hd0 : -1 ≤ d) (hd1 : d ≤ 115741) (hn0 : 0 ≤ n) (hn1 : n < 86400) : (∀ x ∈ atT off sh d n, 0 ≤ x ∧ x ≤ 10000000000 ∧ localZ off sh x = (d, n)) ∧ (atT off sh d n).Pairwise (· < ·) := by
  have hasc := valid_asc hv
  have hok := (valid_iff hv).2.2
  unfold atT atZ
  rw [hv, okDay_iff.2 ⟨hd0, hd1⟩, okSod_iff.2 ⟨hn0, hn1⟩]
  simp only [Bool.and_self, if_true]
  refine ⟨fun x hx => ?_, at_sorted hasc (by omega) List.Pairwise.nil (fun y hy => by cases hy)⟩
  rcases mem_atRun.1 hx with h | ⟨st, h1, h2, h3, h4⟩
  · cases h
  · have := hok st h1
    unfold StrOk at this
    have ho := strs_off hasc st h1 h2 h3
    obtain ⟨a, b, e1, e2, e3, e4, e5, e6⟩ := local_val (s := x) hv (by omega) (by omega)
    refine ⟨by omega, by omega, ?_⟩
    rw [e1, Prod.mk.injEq]
    omega
theorem pair_lt {l : List Int} (h : l.Pairwise (· < ·)) {i : Nat} (hi : i + 1 < l.length) : l.getD i 0 < l.getD (i + 1) 0 := by
  rw [List.getD_eq_getElem?_getD, List.getD_eq_getElem?_getD, List.getElem?_eq_getElem hi, List.getElem?_eq_getElem (show i < l.length by omega)]
  exact List.pairwise_iff_getElem.1 h i (i + 1) (by omega) hi (by omega)
theorem getD_mem {l : List Int} {i : Nat} (hi : i < l.length) : l.getD i 0 ∈ l := by
  rw [List.getD_eq_getElem?_getD, List.getElem?_eq_getElem hi]
  exact List.getElem_mem hi

theorem ivs_len (l : List Int) : (ivs l).length = l.length := by simp [ivs]
theorem ints_at {W : World} {base : Nat} {v : Value} {l : List Int} (h : W.ownsRow base 3 1 v l.length (ivs l)) : ∃ p cap, v = .slice p l.length cap ∧ l.length ≤ 9223372036854775807 ∧ ∀ i, i < l.length → ∃ g, p = some ⟨g, 0, none⟩ ∧ g < W.heap.size ∧ W.cell? ⟨g, i, none⟩ = some (iv (l.getD i 0)) := by
  rcases h.2 with ⟨rfl, h0⟩ | ⟨g, cap, cur, rfl, _, _, h1, h2, _⟩
  · exact ⟨none, 0, by rw [h0], by omega, fun i hi => by omega⟩
  · refine ⟨_, cap, rfl, by unfold maxLen at h2; omega, fun i hi => ⟨g, rfl, (h.lt g rfl).2, ?_⟩⟩
    rw [h.cellAt i (by omega)]
    simp [ivs, List.getElem?_eq_getElem hi, List.getD_eq_getElem?_getD]
end Go.Proofs.YtfannkpnmaeljaaGreatDoor.Cal

/- combine: what is wanted of the pieces. -/
import Derived.Test.YtjocgipjmcnjfaaSpPieces
import Derived.WalkMore
import Derived.Laws.EntriesVeiled
import Derived.Shelf.AbstractIn
namespace Go.Proofs.Ytjocgipjmcnjfaa
open Go.RowKit Go.Shelf
attribute [local go_sem] Oper.semAt_some

/-- The list kept lies in the box K. -/
def KeptAt (W : World) (K N : Nat) (M : Nat → Prop) (l : List (Int × Int)) : Prop :=
  ∃ v, Arr W K 22 [v] ∧ W.ownsRow N 30 2 v l.length (spv l) ∧ (∀ j, v.ownBlock = some j → M j ∧ j ≠ K) ∧ M K ∧ ∀ j, M j → K ≤ j
theorem KeptAt.turn {A W : World} {K N n : Nat} {M : Nat → Prop} {l : List (Int × Int)} (h : KeptAt A K N M l) (ht : Turns (fun k => n ≤ k ∧ ¬ M k) A W) : KeptAt W K N M l := by
  obtain ⟨v, h1, h2, h3, h4, h5⟩ := h
  exact ⟨v, ht.arr h1 (fun h => h.2 h4), ht.row h2 (fun j hj h => h.2 (h3 j hj).1), h3, h4, h5⟩

theorem grown_below {M : Nat → Prop} {W W' : World} (h : ∀ j, M j → j < W.heap.size) (b : Below W.heap.size W W') : Grown M M W W' :=
  ⟨fun _ hk => hk, fun _ hk => .inl hk, fun j hj => by have := h j hj; have := b.size; omega, Turns.of_below b⟩
theorem grown_after {M M' : Nat → Prop} {W W' W'' : World} (b : Below W.heap.size W W') (h : Grown M M' W' W'') : Grown M M' W W'' :=
  ⟨h.keep, fun k hk => by have := b.size; rcases h.new k hk with h' | h'; exact .inl h'; exact .inr (by omega), h.lt, (Turns.of_below b).trans h.turns⟩
theorem ShK.mono {w : World} {K n₀ n₁ : Nat} {p : Option Addr} {l : List (Int × Int)} (h : ShK w K n₀ p l) (hn : n₀ ≤ n₁) : ShK w K n₁ p l := fun i hi => by
  obtain ⟨b, o, h1, h2, h3, h4⟩ := h i hi
  exact ⟨b, o, h1, by omega, h3, h4⟩
theorem comb_len (f : Bool → Bool → Bool) (l : List Pc) : ∀ acc : List (Int × Int), (l.foldl (combStep f) acc).length ≤ acc.length + l.length := by
  induction l with
  | nil => intro acc; simp
  | cons s l ih =>
    intro acc
    rw [List.foldl_cons]
    have h1 := ih (combStep f acc s)
    have h2 : (combStep f acc s).length ≤ acc.length + 1 := by
      unfold combStep
      split
      · exact joinZ_len _ _
      · omega
    simp; omega
theorem kept_step {W w7 w8 : World} {K N : Nat} {M : Nat → Prop} {l' : List (Int × Int)} {v : Value} (h1 : Arr W K 22 [v]) (h3 : ∀ j, v.ownBlock = some j → M j ∧ j ≠ K) (h4 : M K) (h5 : ∀ j, M j → K ≤ j) (hMl : ∀ j, M j → j < W.heap.size)
    (b7 : Below W.heap.size W w7) {v' : Value} (o8 : w8.ownsRow N 30 2 v' l'.length (spv l')) (t8 : Turns (fun k => v.ownBlock = some k) w7 w8) (hn8 : ∀ j, v'.ownBlock = some j → v.ownBlock = some j ∨ w7.heap.size ≤ j) :
    ∃ M', Grown M M' W (w8.setCell ⟨K, 0, none⟩ v') ∧ KeptAt (w8.setCell ⟨K, 0, none⟩ v') K N M' l' := by
  have hKW := hMl K h4
  have z7 := b7.size
  have z8 := t8.size
  have hvK : v'.ownBlock ≠ some K := fun h => by
    rcases hn8 K h with h' | h'
    · exact (h3 K h').2 rfl
    · omega
  have hA8 := t8.arr (h1.below b7 hKW) (fun h => (h3 K h).2 rfl)
  refine ⟨fun j => M j ∨ v'.ownBlock = some j, ⟨fun k hk => .inl hk, fun k hk => ?_, fun k hk => ?_, ?_⟩, v', hA8.set 0 v', ownsRow_setCell_other o8 hvK v', fun j hj => ⟨.inr hj, fun e => hvK (by rw [hj, e])⟩, .inl h4, fun j hj => ?_⟩
  · rcases hk with h | h
    · exact .inl h
    · rcases hn8 k h with h' | h'
      · exact .inl (h3 k h').1
      · exact .inr (by omega)
  · rcases hk with h | h
    · have := hMl k h; simp; omega
    · have := (o8.lt k h).2; simpa using this
  · refine (((Turns.of_below b7).trans (t8.mono (fun k hk => ?_))).of_setCell (.inl ?_) v')
    · exact .inl (h3 k hk).1
    · exact .inl h4
  · rcases hj with h | h
    · exact h5 j h
    · rcases hn8 j h with h' | h'
      · exact h5 j (h3 j h').1
      · omega

set_option maxRecDepth 100000 in
set_option maxHeartbeats 4000000 in
theorem combine_any (g : Nat) (f : Bool → Bool → Bool) (eg : ∀ args w, (callFunc g args).run Try.prog w = .ok (.enter g args) w) (hw : ∀ (x y : Bool) W, Calls Try.prog g #[.agg #[.bool x, .bool y]] W fun e w' => e = .returned (.bool (f x y)) ∧ Below W.heap.size W w')
    (p q : Option Addr) (cp cq : Nat) (a b : List (Int × Int)) (w : World) (hA : ShAt w w.heap.size p a) (hB : ShAt w w.heap.size q b) (hla : a.length ≤ 20000) (hlb : b.length ≤ 20000) (hcp : a.length ≤ cp) (hcq : b.length ≤ cq) (hba : Bd a) (hbb : Bd b) :
    Calls Try.prog 48 #[.slice p a.length cp, .slice q b.length cq, .func (.func g) #[] #[]] w (Own w (combZ f a b)) := by
  have h1a := fun W (h : Below w.heap.size w W) (hK : w.heap.size + 1 < W.heap.size) => norm_cap p cp (w.heap.size + 1) a W ((hA.below h).mono (by omega)) hK (by omega) hcp
  have h1b := fun W (h : Below w.heap.size w W) (hK : w.heap.size + 1 < W.heap.size) => norm_cap q cq (w.heap.size + 1) b W ((hB.below h).mono (by omega)) hK (by omega) hcq
  have hia := inv_nrm hba
  have hib := inv_nrm hbb
  have hna := nrm_len a
  have hnb := nrm_len b
  unfold combZ
  generalize nrmZ a = A at h1a hia hna ⊢
  generalize nrmZ b = B at h1b hib hnb ⊢
  have hplen : (allPc A B).length ≤ 80000 := by
    have h1 := pieces_len 18446744073709551615 _ A B hia hib
    have h2 := mu_le (-9223372036854775808) A
    have h3 := mu_le (-9223372036854775808) B
    unfold allPc; omega
  obtain ⟨V, hV⟩ : ∃ V, (allPc A B).foldl (combStep f) [] = V := ⟨_, rfl⟩
  rw [hV]
  have HV := Lib.hid hV
  have HI := Lib.hid hia
  have HJ := Lib.hid hib
  have HPL := Lib.hid hplen
  clear hV hplen hA hB hba hbb hia hib
  refine (callsIn_wide (n := 5)).1 ?_
  have hwide : ∀ f, Fence.wide.fn f := fun _ => trivial
  have hro : Fence.wide.round = none := rfl
  have h1 : 1 ≤ 5 := by omega
  refine callsIn_of_wp_marks Try.func48 rfl (hwide _) ?_ hro
  simp only [Try.ntmps48, List.size_toArray, List.length_cons, List.length_nil, Nat.reduceAdd, Nat.reduceSub, Array.replicate_succ, Array.replicate_zero, List.push_toArray, List.append_toArray, List.nil_append, List.cons_append]
  gi_wp2_with fail
  obtain ⟨W0, hW0, b0, z0, kg, kk⟩ : ∃ W0, (w.alloc (.cells #[.func (.func g) #[] #[]] 51)).alloc (.cells #[.slice none 0 0] 22) = W0 ∧ Below w.heap.size w W0 ∧ W0.heap.size = w.heap.size + 2 ∧
      Arr W0 w.heap.size 51 [.func (.func g) #[] #[]] ∧ Arr W0 (w.heap.size + 1) 22 [.slice none 0 0] :=
    ⟨_, rfl, ((Below.refl _ w).alloc (Nat.le_refl _) _).alloc (by simp) _, by simp, (Arr.new w _ [.func (.func g) #[] #[]]).alloc _, Arr.new' _ [.slice none 0 0] (by simp)⟩
  try rw [hW0]
  clear hW0
  have hs0 : w.heap.size + 1 < W0.heap.size := by omega
  refine (callsIn_wide.2 (h1a _ b0 hs0)).mono ?_
  rintro e w1 ⟨pa, ca, rfl, hSa, hca, b1⟩
  have b01 := bthen b0 b1
  have z1 := b1.size
  have hs1 : w.heap.size + 1 < w1.heap.size := by omega
  have kg := kg.below b1 (by omega)
  have kk := kk.below b1 hs0
  gi_wp2_with fail
  refine (callsIn_wide.2 (h1b _ b01 hs1)).mono ?_
  rintro e w2 ⟨pb, cb, rfl, hSb, hcb, b2⟩
  have b02 := bthen b01 b2
  have z2 := b2.size
  have kg := kg.below b2 (by omega)
  have kk := kk.below b2 hs1
  have hSa2 := (hSa.below b2 (Nat.le_refl _)).mono z2
  have hs2 : w.heap.size + 1 < w2.heap.size := by omega
  clear hSa h1a h1b b0 b1 b2 b01 z0 z1 z2 hs0 hs1
  gi_wp2_with (gi_at_call 58; refine (pieces_in _ _ (hwide _) hro _ _ _ _ _ _ _).mono ?_; rintro e w' ⟨rfl, rfl⟩)
  obtain ⟨W3, hW3, b3, z3, kA, kB⟩ : ∃ W3, (w2.alloc (.cells #[.slice pa A.length ca] 22)).alloc (.cells #[.slice pb B.length cb] 22) = W3 ∧ Below w2.heap.size w2 W3 ∧ W3.heap.size = w2.heap.size + 2 ∧
      Arr W3 w2.heap.size 22 [.slice pa A.length ca] ∧ Arr W3 (w2.heap.size + 1) 22 [.slice pb B.length cb] :=
    ⟨_, rfl, ((Below.refl _ w2).alloc (Nat.le_refl _) _).alloc (by simp) _, by simp, (Arr.new w2 _ [.slice pa A.length ca]).alloc _, Arr.new' _ [.slice pb B.length cb] (by simp)⟩
  try rw [hW3]
  clear hW3
  have b03 := bthen b02 b3
  have kg := kg.below b3 (by omega)
  have kk := kk.below b3 hs2
  have hSa3 := hSa2.below b3 (Nat.le_refl _)
  have hSb3 := hSb.below b3 (Nat.le_refl _)
  have hh := pieces_hands 4 (by omega) w2.heap.size (w2.heap.size + 1) (w.heap.size + 1) w2.heap.size pa pb ca cb A B W3 (by omega) kA kB hSa3 hSb3 (by omega) (by omega) hca hcb HI.out HJ.out
  obtain ⟨N, hN⟩ : ∃ N, w.heap.size = N := ⟨_, rfl⟩
  obtain ⟨n₀, hn₀⟩ : ∃ n, w2.heap.size = n := ⟨_, rfl⟩
  obtain ⟨K, hK⟩ : ∃ K, N + 1 = K := ⟨_, rfl⟩
  rw [hN] at kg kk hh hs2 b03 ⊢
  rw [hn₀] at hh hs2 z3 ⊢
  rw [hK] at kk hh hs2 ⊢
  have hKN : N < K := by omega
  clear hSa2 hSb hSa3 hSb3 kA kB b02 b3 hK
  obtain ⟨T, hT⟩ : ∃ T, allPc A B = T := ⟨_, rfl⟩
  rw [hT] at hh
  have HTL : T.length ≤ 80000 := by rw [← hT]; exact HPL.out
  have HVT := Lib.hid (hT ▸ HV.out)
  clear HV hT HPL
  refine wpIn_rangeFunc_hands hro h1 (gf := 69) (lb := #[.pointer (some ⟨n₀, 0, none⟩), .pointer (some ⟨n₀ + 1, 0, none⟩)]) rfl (hwide _) (enters_of Try.func69 (by kernel_rfl) rfl)
    hh (Below.refl _ _) (fun _ => rfl)
    (fun pre M W => KeptAt W K N M (pre.foldl (combStep f) []) ∧ Arr W N 51 [.func (.func g) #[] #[]] ∧ Below N w W)
    (fun _ _ _ _ => False)
    (fun xs M A B h ht => by
      obtain ⟨e1, e2, e3⟩ := h
      obtain ⟨v, q1, q2, q3, q4, q5⟩ := e1
      exact ⟨⟨v, ht.arr q1 (fun h => h.2 q4), ht.row q2 (fun j hj h => h.2 (q3 j hj).1), q3, q4, q5⟩, ht.arr e2 (fun h => by have := h.1; omega), e3.trans (ht.below (by have := e3.size; omega) (fun k hk => by omega))⟩)
    (fun _ _ _ _ _ h _ => h)
    (fun k => k = K) (fun k hk => by subst hk; omega) ⟨⟨_, kk, World.ownsRow_nil _ _ _ _, (fun j hj => by cases hj), rfl, fun j hj => Nat.le_of_eq hj.symm⟩, kg, b03⟩ 63 (fun x => [iv x.1.1, iv x.1.2, .bool x.2.1, .bool x.2.2])
    ?a1 ?assign ?body ?done ?stop
  case assign =>
    intro l x W K hK
    unfold encP4
    gi_wp2
    have hK' := hK W.heap.size _ (Nat.le_refl _) ((Below.refl _ W).alloc (Nat.le_refl _) _) (Arr.new W 63 [iv x.1.1, iv x.1.2, .bool x.2.1, .bool x.2.2])
    clear hK
    generalize W.heap.size = g at *
    exact hK'
  case body =>
    rintro lp pre x gp M W ⟨hk, kgW, bW⟩ hpre kp hMg hMl hWs
    obtain ⟨⟨bg, en⟩, F1, F2⟩ := x
    obtain ⟨v, q1, q2, q3, q4, q5⟩ := hk
    have hpl : pre.length ≤ 80000 := by
      obtain ⟨t, ht⟩ := hpre
      have := congrArg List.length ht
      simp at this; omega
    have hll := comb_len f pre []
    have hfold : (pre ++ [((bg, en), F1, F2)]).foldl (combStep f) [] = combStep f (pre.foldl (combStep f) []) ((bg, en), F1, F2) := by rw [List.foldl_append]; rfl
    generalize pre.foldl (combStep f) [] = L at q2 hll hfold
    have hL : L.length ≤ 100000 := by simp at hll; omega
    dsimp only at kp
    have c0 := kp.cell (i := 0) rfl
    have c1 := kp.cell (i := 1) rfl
    have c2 := kp.cell (i := 2) rfl
    have c3 := kp.cell (i := 3) rfl
    have d0 := kgW.cell (i := 0) rfl
    have hwf := fun W => hw F1 F2 W
    obtain ⟨r, hr⟩ : ∃ r, f F1 F2 = r := ⟨_, rfl⟩
    rw [hr] at hwf
    have hstep : combStep f L ((bg, en), F1, F2) = if r = true then joinZ L (bg, en) else L := by unfold combStep; simp only; rw [hr]
    rw [hstep] at hfold
    have HFo := Lib.hid hfold
    clear hfold hstep hr hpre hh hw
    cases r with
    | false =>
      have HO := Lib.hid q2
      clear q2
      gi_wp2_with (gi_at_fn g; refine (CallsIn.inRound lp (callsIn_wide.2 (hwf _))).mono ?_; rintro e w7 ⟨rfl, b7⟩)
      have hKW := hMl K q4
      exact ⟨M, grown_below hMl b7, ⟨v, q1.below b7 hKW, by rw [HFo.out]; exact own_below HO.out b7, q3, q4, q5⟩, kgW.below b7 kgW.lt, bW.trans (b7.mono (by have := bW.size; omega))⟩
    | true =>
      have HO := Lib.hid q2
      have HM := Lib.hid hMl
      have hKW := hMl K q4
      have hNW : N ≤ W.heap.size := by omega
      clear q2 hMl
      gi_wp2_with fail
      refine (CallsIn.inRound lp (callsIn_wide.2 (hwf _))).mono ?_
      rintro e w7 ⟨rfl, b7⟩
      have z7 := b7.size
      have o7 := own_below HO.out b7
      have q17 := q1.below b7 hKW
      have kp7 := kp.below b7 kp.lt
      have hj := join_any bg en N v L w7 o7 (by omega) hL
      have c0 := kp7.cell (i := 0) rfl
      have c1 := kp7.cell (i := 1) rfl
      have e0 := q17.cell (i := 0) rfl
      clear hwf c2 c3 d0 kp
      gi_wp2_with fail
      refine (CallsIn.inRound lp (callsIn_wide.2 hj)).mono ?_
      rintro e w8 ⟨v', rfl, o8, t8, hn8⟩
      have q18 := t8.arr q17 (fun h => (q3 K h).2 rfl)
      obtain ⟨M', hG, hK'⟩ := kept_step q1 q3 q4 q5 HM.out b7 o8 t8 hn8
      obtain ⟨p8, c8, rfl, -⟩ := own_sh o8
      have hKM : ∀ j, M' j → K ≤ j := by obtain ⟨_, _, _, _, _, h⟩ := hK'; exact h
      have e0 := q18.cell (i := 0) rfl
      have f0 := q18.frozen 0
      have HG := Lib.hid hG
      have HK := Lib.hid hK'
      clear hj o7 o8 t8 hn8 c0 c1 hG hK' q1 q17 kp7
      gi_wp2_with fail
      exact ⟨M', HG.out, by rw [HFo.out, if_pos trivial]; exact HK.out, HG.out.turns.arr kgW (fun h => by have := hKM _ h; omega), bW.trans (HG.out.turns.below hNW (fun k hk => by have := hKM k hk; omega))⟩
  case done =>
    rintro D M W hD hMD ⟨⟨v, q1, q2, q3, q4, q5⟩, e8, e9⟩ hKd
    rw [HVT.out] at q2
    have c3 := q1.cell (i := 0) rfl
    have HO := Lib.hid q2
    clear q2
    gi_wp2
    refine ⟨by simp, .inl ⟨_, _, rfl, run_takeDeferred hKd, ?_⟩⟩
    refine ⟨_, results_tmp rfl _ _ _, v, rfl, ?_, ?_⟩
    · rw [hN]; exact ((Turns.refl (fun j => j = D) W).of_put rfl _).row HO.out (fun j hj h => hMD (h ▸ (q3 j hj).1))
    · exact hN ▸ e9.trans (belowK_b (w := w) (by omega) W D _ _ (by omega) hKd rfl rfl)
  case stop =>
    rintro D c pre M W hD hMD hpre h hKd
    exact h.elim

theorem union_any (p q : Option Addr) (cp cq : Nat) (a b : List (Int × Int)) (w : World) (hA : ShAt w w.heap.size p a) (hB : ShAt w w.heap.size q b) (hla : a.length ≤ 20000) (hlb : b.length ≤ 20000) (hcp : a.length ≤ cp) (hcq : b.length ≤ cq) (hba : Bd a) (hbb : Bd b) :
    Calls Try.prog 22 #[.slice p a.length cp, .slice q b.length cq] w (Own w (uniZ a b)) := by
  have hc := combine_any 49 (fun x y => x || y) (enters_of Try.func49 (by kernel_rfl) rfl) (fun x y W => either_any x y W) p q cp cq a b w hA hB hla hlb hcp hcq hba hbb
  rw [comb_or hba hbb] at hc
  generalize uniZ a b = V at hc ⊢
  clear hA hB
  go_enter Try.func22, Try.ntmps22
  go_wp2_with fail
  refine hc.mono ?_
  rintro e w1 ⟨v, rfl, o1, b1⟩
  have HO := Lib.hid o1
  clear o1
  go_wp2_with fail
  go_ret
  exact ⟨_, rfl, HO.out, b1⟩
theorem inter_any (p q : Option Addr) (cp cq : Nat) (a b : List (Int × Int)) (w : World) (hA : ShAt w w.heap.size p a) (hB : ShAt w w.heap.size q b) (hla : a.length ≤ 20000) (hlb : b.length ≤ 20000) (hcp : a.length ≤ cp) (hcq : b.length ≤ cq) (hba : Bd a) (hbb : Bd b) :
    Calls Try.prog 24 #[.slice p a.length cp, .slice q b.length cq] w (Own w (intZ a b)) := by
  have hc := combine_any 50 (fun x y => x && y) (enters_of Try.func50 (by kernel_rfl) rfl) (fun x y W => both_any x y W) p q cp cq a b w hA hB hla hlb hcp hcq hba hbb
  rw [comb_and hba hbb] at hc
  generalize intZ a b = V at hc ⊢
  clear hA hB
  go_enter Try.func24, Try.ntmps24
  go_wp2_with fail
  refine hc.mono ?_
  rintro e w1 ⟨v, rfl, o1, b1⟩
  have HO := Lib.hid o1
  clear o1
  go_wp2_with fail
  go_ret
  exact ⟨_, rfl, HO.out, b1⟩
theorem subtract_any (p q : Option Addr) (cp cq : Nat) (a b : List (Int × Int)) (w : World) (hA : ShAt w w.heap.size p a) (hB : ShAt w w.heap.size q b) (hla : a.length ≤ 20000) (hlb : b.length ≤ 20000) (hcp : a.length ≤ cp) (hcq : b.length ≤ cq) (hba : Bd a) (hbb : Bd b) :
    Calls Try.prog 26 #[.slice p a.length cp, .slice q b.length cq] w (Own w (subZ a b)) := by
  have hc := combine_any 51 (fun x y => x && !y) (enters_of Try.func51 (by kernel_rfl) rfl) (fun x y W => first_any x y W) p q cp cq a b w hA hB hla hlb hcp hcq hba hbb
  rw [comb_sub hba hbb] at hc
  generalize subZ a b = V at hc ⊢
  clear hA hB
  go_enter Try.func26, Try.ntmps26
  go_wp2_with fail
  refine hc.mono ?_
  rintro e w1 ⟨v, rfl, o1, b1⟩
  have HO := Lib.hid o1
  clear o1
  go_wp2_with fail
  go_ret
  exact ⟨_, rfl, HO.out, b1⟩
end Go.Proofs.Ytjocgipjmcnjfaa

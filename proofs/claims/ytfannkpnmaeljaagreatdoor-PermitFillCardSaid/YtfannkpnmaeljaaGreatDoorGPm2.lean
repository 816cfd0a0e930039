import Derived.Test.YtfannkpnmaeljaaGreatDoorGPm1
import Derived.Deep.RegionHeld3
set_option linter.unusedVariables false
set_option linter.unusedSimpArgs false
/- permit: isTimed, second, the first frame of a second; clip. -/
namespace Go.Proofs.YtfannkpnmaeljaaGreatDoor
open Go.RowKit Go.Shelf

theorem keep3 {W W' W'' : World} {a b c : Addr} {x y z : Value} {n : Nat} (hS : W'.cell? a = some x ∧ W'.cell? b = some y ∧ W'.cell? c = some z ∧ Below n W W') (ha : a.block < W.heap.size) (hb : b.block < W.heap.size) (hc : c.block < W.heap.size) (hn : n ≤ W.heap.size) (bb : Below W'.heap.size W' W'') :
    W''.cell? a = some x ∧ W''.cell? b = some y ∧ W''.cell? c = some z ∧ Below n W W'' := by
  obtain ⟨h1, h2, h3, h4⟩ := hS
  have := h4.size
  exact ⟨(bb.cell (by omega)).trans h1, (bb.cell (by omega)).trans h2, (bb.cell (by omega)).trans h3, h4.trans (bb.mono (by omega))⟩

set_option maxRecDepth 100000 in
set_option maxHeartbeats 2000000 in
theorem timed_any (P : Pl) (q : Pq) (w : World) (hP : PlAt w w.heap.size P q) (hF : Tc.FmtAt w) :
    Calls Tryz.prog 40 #[.agg (plL P q).toArray] w fun e w' => e = .returned (.bool (tmZ P)) ∧ Below w.heap.size w w' := by
  have hv1 := fun W (h : Below w.heap.size w W) => Tc.valid_t P.num P.den W (hF.below h)
  have hv2 := fun W (h : Below w.heap.size w W) => Cal.valid_any P.off q.ps q.cs w.heap.size P.sh W h.size (hP.sh.below h) hP.ls
  have hT : tmZ P = ((Tc.rtOf P.num P.den).isSome && Cal.validZ P.off P.sh && decide (0 ≤ P.ep) && decide (P.ep ≤ 9000000000)) := rfl
  have hl := hP.ls
  clear hP hF
  generalize (Tc.rtOf P.num P.den).isSome = v1 at *
  generalize Cal.validZ P.off P.sh = v2 at *
  generalize tmZ P = T at *
  have HT := Lib.hid hT
  clear hT
  cases v1 with
  | false =>
    go_enter Tryz.func40, Tryz.ntmps40
    go_wp2_with fail
    obtain ⟨W0, hW0, b0, z0, kP⟩ := boxP w P q
    rw [hW0]; clear hW0
    have c1 := kP.cell (i := 1) rfl
    have c2 := kP.cell (i := 2) rfl
    go_wp2_with fail
    refine (hv1 _ b0).mono ?_
    rintro e W1 ⟨rfl, b1⟩
    go_wp2_with fail
    go_ret
    exact ⟨by rw [HT.out]; rfl, bthen b0 b1⟩
  | true =>
    cases v2 with
    | false =>
      go_enter Tryz.func40, Tryz.ntmps40
      go_wp2_with fail
      obtain ⟨W0, hW0, b0, z0, kP⟩ := boxP w P q
      rw [hW0]; clear hW0
      have c1 := kP.cell (i := 1) rfl
      have c2 := kP.cell (i := 2) rfl
      go_wp2_with fail
      refine (hv1 _ b0).mono ?_
      rintro e W1 ⟨rfl, b1⟩
      have kP1 := kP.below b1 (by omega)
      have c3 := kP1.cell (i := 3) rfl
      have c4 := kP1.cell (i := 4) rfl
      go_wp2_with fail
      refine (hv2 _ (bthen b0 b1)).mono ?_
      rintro e W2 ⟨rfl, b2⟩
      go_wp2_with fail
      go_ret
      exact ⟨by rw [HT.out]; rfl, bthen (bthen b0 b1) b2⟩
    | true =>
      cases e0 : decide (0 ≤ P.ep) <;> cases e1 : decide (P.ep ≤ 9000000000) <;> (
        rw [e0, e1] at HT
        go_enter Tryz.func40, Tryz.ntmps40
        go_wp2_with fail
        obtain ⟨W0, hW0, b0, z0, kP⟩ := boxP w P q
        rw [hW0]; clear hW0
        have c1 := kP.cell (i := 1) rfl
        have c2 := kP.cell (i := 2) rfl
        go_wp2_with fail
        refine (hv1 _ b0).mono ?_
        rintro e W1 ⟨rfl, b1⟩
        have kP1 := kP.below b1 (by omega)
        have c3 := kP1.cell (i := 3) rfl
        have c4 := kP1.cell (i := 4) rfl
        go_wp2_with fail
        refine (hv2 _ (bthen b0 b1)).mono ?_
        rintro e W2 ⟨rfl, b2⟩
        have kP2 := kP1.below b2 kP1.lt
        have c5 := kP2.cell (i := 5) rfl
        go_wp2_with fail
        go_ret
        exact ⟨by rw [HT.out]; rfl, bthen (bthen b0 b1) b2⟩)

set_option maxRecDepth 100000 in
set_option maxHeartbeats 2000000 in
theorem second_any (P : Pl) (q : Pq) (f : Int) (w : World) (hF : Tc.FmtAt w) (hT : tmZ P = true) (f0 : 0 ≤ f) (f1 : f ≤ 100000000) :
    Calls Tryz.prog 55 #[.agg (plL P q).toArray, iv f] w fun e w' => e = .returned (iv (secZ P f)) ∧ Below w.heap.size w w' := by
  have hs := fun W (h : Below w.heap.size w W) => Tc.seconds_t P.num P.den f W (hF.below h)
  have hi := sec_in hT f0 f1
  obtain ⟨-, -, e0, e1⟩ := tm_rt hT
  have hV : secZ P f = P.ep + Tc.secF P.num P.den f := rfl
  generalize Tc.secF P.num P.den f = s at *
  generalize secZ P f = V at *
  have hw : IntKind.i64.wrap (P.ep + s) = P.ep + s := w64 (by omega) (by omega)
  have HV := Lib.hid hV
  clear hV hF hT
  go_enter Tryz.func55, Tryz.ntmps55
  go_wp2_with fail
  obtain ⟨W0, hW0, b0, z0, kP⟩ := boxP w P q
  rw [hW0]; clear hW0
  have c1 := kP.cell (i := 1) rfl
  have c2 := kP.cell (i := 2) rfl
  have c5 := kP.cell (i := 5) rfl
  obtain ⟨B, hB⟩ : ∃ B, w.heap.size = B := ⟨_, rfl⟩
  have hs' := fun W (h : Below W0.heap.size W0 W) => hs W (bthen b0 h)
  rw [hB] at c1 c2 c5 z0 ⊢
  have hB0 : B < W0.heap.size := by omega
  have hst : W0.drew.cell? ⟨B, 1, none⟩ = some (iv P.num) ∧ W0.drew.cell? ⟨B, 2, none⟩ = some (iv P.den) ∧ W0.drew.cell? ⟨B, 5, none⟩ = some (iv P.ep) ∧ Below W0.heap.size W0 W0.drew := ⟨c1, c2, c5, (Below.refl _ _).drew⟩
  clear c1 c2 c5 hs
  go_wp2_with fail
  go_region_held3 (fun w' => w'.cell? ⟨B, 1, none⟩ = some (iv P.num) ∧ w'.cell? ⟨B, 2, none⟩ = some (iv P.den) ∧ w'.cell? ⟨B, 5, none⟩ = some (iv P.ep) ∧ Below W0.heap.size W0 w') (first | assumption | exact hst | exact keep3 (by assumption) hB0 hB0 hB0 (Nat.le_refl _) b6 | fail)
    (first | (go_at_call 33; refine (hs' _ (by assumption : _ ∧ _ ∧ _ ∧ Below W0.heap.size W0 _).2.2.2).mono ?_; rintro e w6 ⟨rfl, b6⟩) | fail)
  rename_i hHeld
  have b06 := hHeld.2.2.2
  clear hHeld hst hs' b6
  go_wp2_with fail
  go_ret
  exact ⟨by rw [HV.out]; rfl, bthen b0 b06⟩

set_option maxHeartbeats 1000000 in
theorem clos_any (P : Pl) (q : Pq) (B : Nat) (s : Int) (w : World) (hF : Tc.FmtAt w) (hB : Arr w B 32 (plL P q)) (h0 : -9223372036854775808 ≤ s - P.ep) (h1 : s - P.ep ≤ 9223372036854775807) :
    Calls Tryz.prog 68 #[iv s, .pointer (some ⟨B, 0, none⟩)] w fun e w' => e = .returned (iv (Tc.frmF P.num P.den (s - P.ep))) ∧ Below w.heap.size w w' := by
  have hs := Tc.frames_t P.num P.den (s - P.ep) w hF
  have hw : IntKind.i64.wrap (s - P.ep) = s - P.ep := w64 h0 h1
  have c1 := hB.cell (i := 1) rfl
  have c2 := hB.cell (i := 2) rfl
  have c5 := hB.cell (i := 5) rfl
  generalize Tc.frmF P.num P.den (s - P.ep) = v at *
  clear hF hB h0 h1
  go_enter Tryz.func68, Tryz.ntmps68
  go_wp2_with fail
  refine hs.mono ?_
  rintro e w1 ⟨rfl, b1⟩
  go_wp2_with fail
  go_ret
  exact ⟨rfl, b1⟩

theorem clip_box (w : World) (a b F T : Int) : ∃ W3, ((w.alloc (.cells #[iv a, iv b] 34)).alloc (.cells #[iv 0, iv 0] 34)).alloc (.cells #[iv F, iv T] 34) = W3 ∧ Below w.heap.size w W3 ∧ W3.heap.size = w.heap.size + 1 + 1 + 1 ∧
    Arr W3 (w.heap.size + 1) 34 [iv 0, iv 0] ∧ Arr W3 (w.heap.size + 1 + 1) 34 [iv F, iv T] :=
  ⟨_, rfl, (((Below.refl _ w).alloc (Nat.le_refl _) _).alloc (by simp) _).alloc (by simp; omega) _, by simp, (Arr.new' _ [iv 0, iv 0] (by simp)).alloc _, Arr.new' _ [iv F, iv T] (by simp)⟩

set_option maxRecDepth 100000 in
set_option maxHeartbeats 2000000 in
theorem clip_any (a b : Int) (w : World) (a0 : -9223372036854775808 ≤ a) (a1 : a ≤ 9223372036854775807) (b0 : -9223372036854775808 ≤ b) (b1 : b ≤ 9223372036854775807) :
    Calls Tryz.prog 38 #[.agg #[iv a, iv b]] w fun e w' => e = .returned (.tuple #[.agg #[iv (max a 0), iv (min b 100000001)], .bool (clipB a b)]) ∧ Below w.heap.size w w' := by
  by_cases ha : a < 0
  · by_cases hb : b ≤ 100000001
    · have hF : max a 0 = 0 := by omega
      have hT : min b 100000001 = b := by omega
      by_cases c1 : (0 : Int) < b
      · by_cases c2 : b ≤ 1000000
        · have e1 : decide ((0 : Int) < b) = true := decide_eq_true c1
          have e1' : decide ((0 : Int) < b) = true := e1
          have e2 : decide (b ≤ 1000000) = true := decide_eq_true c2
          have hw : IntKind.i64.wrap (b) = b := w64 (by omega) (by omega)
          have hC : clipB a b = true := clip_iff.2 (by omega)
          rw [hC, hF, hT]
          clear hC hF hT
          go_enter Tryz.func38, Tryz.ntmps38
          go_wp2_with fail
          obtain ⟨W3, hW3, b3, z3, kR, kA⟩ := clip_box w a b (0) (b)
          rw [hW3]; clear hW3
          obtain ⟨K, hK⟩ : ∃ K, w.heap.size + 1 = K := ⟨_, rfl⟩
          obtain ⟨L, hL⟩ : ∃ L, K + 1 = L := ⟨_, rfl⟩
          rw [hK] at kR kA z3 ⊢
          rw [hL] at kA z3 ⊢
          have hKL : K ≠ L := by omega
          have q0 := kA.cell (i := 0) rfl
          have q1 := kA.cell (i := 1) rfl
          have r0 := kR.cell (i := 0) rfl
          have r1 := kR.cell (i := 1) rfl
          have f0 := fun i => kR.frozen i
          go_region
          go_wp2_with fail
          have kf := (kR.set 0 (iv (0))).set 1 (iv (b))
          have bf := (b3.setCell (p := ⟨K, 0, none⟩) (by simp; omega) (iv (0))).setCell (p := ⟨K, 1, none⟩) (by simp; omega) (iv (b))
          generalize (W3.setCell ⟨K, 0, none⟩ (iv (0))).setCell ⟨K, 1, none⟩ (iv (b)) = WF at *
          have kf := kf.drew
          have bf := bf.drew
          generalize WF.drew = WD at *
          have g0 := kf.cell (i := 0) rfl
          have g1 := kf.cell (i := 1) rfl
          exact bodyPost_ret (v := .tuple #[.agg #[iv (0), iv (b)], .bool true]) (by simp [results, Tryz.results38, go_sem, g0, g1]) rfl ⟨rfl, bf⟩
        · have e1 : decide ((0 : Int) < b) = true := decide_eq_true c1
          have e1' : decide ((0 : Int) < b) = true := e1
          have e2 : decide (b ≤ 1000000) = false := decide_eq_false c2
          have hw : IntKind.i64.wrap (b) = b := w64 (by omega) (by omega)
          have hC : clipB a b = false := by rw [Bool.eq_false_iff]; intro h; have := clip_iff.1 h; omega
          rw [hC, hF, hT]
          clear hC hF hT
          go_enter Tryz.func38, Tryz.ntmps38
          go_wp2_with fail
          obtain ⟨W3, hW3, b3, z3, kR, kA⟩ := clip_box w a b (0) (b)
          rw [hW3]; clear hW3
          obtain ⟨K, hK⟩ : ∃ K, w.heap.size + 1 = K := ⟨_, rfl⟩
          obtain ⟨L, hL⟩ : ∃ L, K + 1 = L := ⟨_, rfl⟩
          rw [hK] at kR kA z3 ⊢
          rw [hL] at kA z3 ⊢
          have hKL : K ≠ L := by omega
          have q0 := kA.cell (i := 0) rfl
          have q1 := kA.cell (i := 1) rfl
          have r0 := kR.cell (i := 0) rfl
          have r1 := kR.cell (i := 1) rfl
          have f0 := fun i => kR.frozen i
          go_region
          go_wp2_with fail
          have kf := (kR.set 0 (iv (0))).set 1 (iv (b))
          have bf := (b3.setCell (p := ⟨K, 0, none⟩) (by simp; omega) (iv (0))).setCell (p := ⟨K, 1, none⟩) (by simp; omega) (iv (b))
          generalize (W3.setCell ⟨K, 0, none⟩ (iv (0))).setCell ⟨K, 1, none⟩ (iv (b)) = WF at *
          have kf := kf.drew
          have bf := bf.drew
          generalize WF.drew = WD at *
          have g0 := kf.cell (i := 0) rfl
          have g1 := kf.cell (i := 1) rfl
          exact bodyPost_ret (v := .tuple #[.agg #[iv (0), iv (b)], .bool false]) (by simp [results, Tryz.results38, go_sem, g0, g1]) rfl ⟨rfl, bf⟩
      · have e1 : decide ((0 : Int) < b) = false := decide_eq_false c1
        have e1' : decide ((0 : Int) < b) = false := e1
        have hC : clipB a b = false := by rw [Bool.eq_false_iff]; intro h; have := clip_iff.1 h; omega
        rw [hC, hF, hT]
        clear hC hF hT
        go_enter Tryz.func38, Tryz.ntmps38
        go_wp2_with fail
        obtain ⟨W3, hW3, b3, z3, kR, kA⟩ := clip_box w a b (0) (b)
        rw [hW3]; clear hW3
        obtain ⟨K, hK⟩ : ∃ K, w.heap.size + 1 = K := ⟨_, rfl⟩
        obtain ⟨L, hL⟩ : ∃ L, K + 1 = L := ⟨_, rfl⟩
        rw [hK] at kR kA z3 ⊢
        rw [hL] at kA z3 ⊢
        have hKL : K ≠ L := by omega
        have q0 := kA.cell (i := 0) rfl
        have q1 := kA.cell (i := 1) rfl
        have r0 := kR.cell (i := 0) rfl
        have r1 := kR.cell (i := 1) rfl
        have f0 := fun i => kR.frozen i
        go_region
        go_wp2_with fail
        have kf := (kR.set 0 (iv (0))).set 1 (iv (b))
        have bf := (b3.setCell (p := ⟨K, 0, none⟩) (by simp; omega) (iv (0))).setCell (p := ⟨K, 1, none⟩) (by simp; omega) (iv (b))
        generalize (W3.setCell ⟨K, 0, none⟩ (iv (0))).setCell ⟨K, 1, none⟩ (iv (b)) = WF at *
        have kf := kf.drew
        have bf := bf.drew
        generalize WF.drew = WD at *
        have g0 := kf.cell (i := 0) rfl
        have g1 := kf.cell (i := 1) rfl
        exact bodyPost_ret (v := .tuple #[.agg #[iv (0), iv (b)], .bool false]) (by simp [results, Tryz.results38, go_sem, g0, g1]) rfl ⟨rfl, bf⟩
    · have hF : max a 0 = 0 := by omega
      have hT : min b 100000001 = 100000001 := by omega
      have hC : clipB a b = false := by rw [Bool.eq_false_iff]; intro h; have := clip_iff.1 h; omega
      rw [hC, hF, hT]
      clear hC hF hT
      go_enter Tryz.func38, Tryz.ntmps38
      go_wp2_with fail
      obtain ⟨W3, hW3, b3, z3, kR, kA⟩ := clip_box w a b (0) (100000001)
      rw [hW3]; clear hW3
      obtain ⟨K, hK⟩ : ∃ K, w.heap.size + 1 = K := ⟨_, rfl⟩
      obtain ⟨L, hL⟩ : ∃ L, K + 1 = L := ⟨_, rfl⟩
      rw [hK] at kR kA z3 ⊢
      rw [hL] at kA z3 ⊢
      have hKL : K ≠ L := by omega
      have q0 := kA.cell (i := 0) rfl
      have q1 := kA.cell (i := 1) rfl
      have r0 := kR.cell (i := 0) rfl
      have r1 := kR.cell (i := 1) rfl
      have f0 := fun i => kR.frozen i
      go_region
      go_wp2_with fail
      have kf := (kR.set 0 (iv (0))).set 1 (iv (100000001))
      have bf := (b3.setCell (p := ⟨K, 0, none⟩) (by simp; omega) (iv (0))).setCell (p := ⟨K, 1, none⟩) (by simp; omega) (iv (100000001))
      generalize (W3.setCell ⟨K, 0, none⟩ (iv (0))).setCell ⟨K, 1, none⟩ (iv (100000001)) = WF at *
      have kf := kf.drew
      have bf := bf.drew
      generalize WF.drew = WD at *
      have g0 := kf.cell (i := 0) rfl
      have g1 := kf.cell (i := 1) rfl
      exact bodyPost_ret (v := .tuple #[.agg #[iv (0), iv (100000001)], .bool false]) (by simp [results, Tryz.results38, go_sem, g0, g1]) rfl ⟨rfl, bf⟩
  · by_cases hb : b ≤ 100000001
    · have hF : max a 0 = a := by omega
      have hT : min b 100000001 = b := by omega
      by_cases c1 : (a : Int) < b
      · by_cases c2 : b - a ≤ 1000000
        · have e1 : decide ((a : Int) < b) = true := decide_eq_true c1
          have e1' : decide ((a : Int) < b) = true := e1
          have e2 : decide (b - a ≤ 1000000) = true := decide_eq_true c2
          have hw : IntKind.i64.wrap (b - a) = b - a := w64 (by omega) (by omega)
          have hC : clipB a b = true := clip_iff.2 (by omega)
          rw [hC, hF, hT]
          clear hC hF hT
          go_enter Tryz.func38, Tryz.ntmps38
          go_wp2_with fail
          obtain ⟨W3, hW3, b3, z3, kR, kA⟩ := clip_box w a b (a) (b)
          rw [hW3]; clear hW3
          obtain ⟨K, hK⟩ : ∃ K, w.heap.size + 1 = K := ⟨_, rfl⟩
          obtain ⟨L, hL⟩ : ∃ L, K + 1 = L := ⟨_, rfl⟩
          rw [hK] at kR kA z3 ⊢
          rw [hL] at kA z3 ⊢
          have hKL : K ≠ L := by omega
          have q0 := kA.cell (i := 0) rfl
          have q1 := kA.cell (i := 1) rfl
          have r0 := kR.cell (i := 0) rfl
          have r1 := kR.cell (i := 1) rfl
          have f0 := fun i => kR.frozen i
          go_region
          go_wp2_with fail
          have kf := (kR.set 0 (iv (a))).set 1 (iv (b))
          have bf := (b3.setCell (p := ⟨K, 0, none⟩) (by simp; omega) (iv (a))).setCell (p := ⟨K, 1, none⟩) (by simp; omega) (iv (b))
          generalize (W3.setCell ⟨K, 0, none⟩ (iv (a))).setCell ⟨K, 1, none⟩ (iv (b)) = WF at *
          have kf := kf.drew
          have bf := bf.drew
          generalize WF.drew = WD at *
          have g0 := kf.cell (i := 0) rfl
          have g1 := kf.cell (i := 1) rfl
          exact bodyPost_ret (v := .tuple #[.agg #[iv (a), iv (b)], .bool true]) (by simp [results, Tryz.results38, go_sem, g0, g1]) rfl ⟨rfl, bf⟩
        · have e1 : decide ((a : Int) < b) = true := decide_eq_true c1
          have e1' : decide ((a : Int) < b) = true := e1
          have e2 : decide (b - a ≤ 1000000) = false := decide_eq_false c2
          have hw : IntKind.i64.wrap (b - a) = b - a := w64 (by omega) (by omega)
          have hC : clipB a b = false := by rw [Bool.eq_false_iff]; intro h; have := clip_iff.1 h; omega
          rw [hC, hF, hT]
          clear hC hF hT
          go_enter Tryz.func38, Tryz.ntmps38
          go_wp2_with fail
          obtain ⟨W3, hW3, b3, z3, kR, kA⟩ := clip_box w a b (a) (b)
          rw [hW3]; clear hW3
          obtain ⟨K, hK⟩ : ∃ K, w.heap.size + 1 = K := ⟨_, rfl⟩
          obtain ⟨L, hL⟩ : ∃ L, K + 1 = L := ⟨_, rfl⟩
          rw [hK] at kR kA z3 ⊢
          rw [hL] at kA z3 ⊢
          have hKL : K ≠ L := by omega
          have q0 := kA.cell (i := 0) rfl
          have q1 := kA.cell (i := 1) rfl
          have r0 := kR.cell (i := 0) rfl
          have r1 := kR.cell (i := 1) rfl
          have f0 := fun i => kR.frozen i
          go_region
          go_wp2_with fail
          have kf := (kR.set 0 (iv (a))).set 1 (iv (b))
          have bf := (b3.setCell (p := ⟨K, 0, none⟩) (by simp; omega) (iv (a))).setCell (p := ⟨K, 1, none⟩) (by simp; omega) (iv (b))
          generalize (W3.setCell ⟨K, 0, none⟩ (iv (a))).setCell ⟨K, 1, none⟩ (iv (b)) = WF at *
          have kf := kf.drew
          have bf := bf.drew
          generalize WF.drew = WD at *
          have g0 := kf.cell (i := 0) rfl
          have g1 := kf.cell (i := 1) rfl
          exact bodyPost_ret (v := .tuple #[.agg #[iv (a), iv (b)], .bool false]) (by simp [results, Tryz.results38, go_sem, g0, g1]) rfl ⟨rfl, bf⟩
      · have e1 : decide ((a : Int) < b) = false := decide_eq_false c1
        have e1' : decide ((a : Int) < b) = false := e1
        have hC : clipB a b = false := by rw [Bool.eq_false_iff]; intro h; have := clip_iff.1 h; omega
        rw [hC, hF, hT]
        clear hC hF hT
        go_enter Tryz.func38, Tryz.ntmps38
        go_wp2_with fail
        obtain ⟨W3, hW3, b3, z3, kR, kA⟩ := clip_box w a b (a) (b)
        rw [hW3]; clear hW3
        obtain ⟨K, hK⟩ : ∃ K, w.heap.size + 1 = K := ⟨_, rfl⟩
        obtain ⟨L, hL⟩ : ∃ L, K + 1 = L := ⟨_, rfl⟩
        rw [hK] at kR kA z3 ⊢
        rw [hL] at kA z3 ⊢
        have hKL : K ≠ L := by omega
        have q0 := kA.cell (i := 0) rfl
        have q1 := kA.cell (i := 1) rfl
        have r0 := kR.cell (i := 0) rfl
        have r1 := kR.cell (i := 1) rfl
        have f0 := fun i => kR.frozen i
        go_region
        go_wp2_with fail
        have kf := (kR.set 0 (iv (a))).set 1 (iv (b))
        have bf := (b3.setCell (p := ⟨K, 0, none⟩) (by simp; omega) (iv (a))).setCell (p := ⟨K, 1, none⟩) (by simp; omega) (iv (b))
        generalize (W3.setCell ⟨K, 0, none⟩ (iv (a))).setCell ⟨K, 1, none⟩ (iv (b)) = WF at *
        have kf := kf.drew
        have bf := bf.drew
        generalize WF.drew = WD at *
        have g0 := kf.cell (i := 0) rfl
        have g1 := kf.cell (i := 1) rfl
        exact bodyPost_ret (v := .tuple #[.agg #[iv (a), iv (b)], .bool false]) (by simp [results, Tryz.results38, go_sem, g0, g1]) rfl ⟨rfl, bf⟩
    · have hF : max a 0 = a := by omega
      have hT : min b 100000001 = 100000001 := by omega
      by_cases c1 : (a : Int) < 100000001
      · by_cases c2 : 100000001 - a ≤ 1000000
        · have e1 : decide ((a : Int) < 100000001) = true := decide_eq_true c1
          have e1' : decide ((a : Int) < 100000001) = true := e1
          have e2 : decide (100000001 - a ≤ 1000000) = true := decide_eq_true c2
          have hw : IntKind.i64.wrap (100000001 - a) = 100000001 - a := w64 (by omega) (by omega)
          have hC : clipB a b = true := clip_iff.2 (by omega)
          rw [hC, hF, hT]
          clear hC hF hT
          go_enter Tryz.func38, Tryz.ntmps38
          go_wp2_with fail
          obtain ⟨W3, hW3, b3, z3, kR, kA⟩ := clip_box w a b (a) (100000001)
          rw [hW3]; clear hW3
          obtain ⟨K, hK⟩ : ∃ K, w.heap.size + 1 = K := ⟨_, rfl⟩
          obtain ⟨L, hL⟩ : ∃ L, K + 1 = L := ⟨_, rfl⟩
          rw [hK] at kR kA z3 ⊢
          rw [hL] at kA z3 ⊢
          have hKL : K ≠ L := by omega
          have q0 := kA.cell (i := 0) rfl
          have q1 := kA.cell (i := 1) rfl
          have r0 := kR.cell (i := 0) rfl
          have r1 := kR.cell (i := 1) rfl
          have f0 := fun i => kR.frozen i
          go_region
          go_wp2_with fail
          have kf := (kR.set 0 (iv (a))).set 1 (iv (100000001))
          have bf := (b3.setCell (p := ⟨K, 0, none⟩) (by simp; omega) (iv (a))).setCell (p := ⟨K, 1, none⟩) (by simp; omega) (iv (100000001))
          generalize (W3.setCell ⟨K, 0, none⟩ (iv (a))).setCell ⟨K, 1, none⟩ (iv (100000001)) = WF at *
          have kf := kf.drew
          have bf := bf.drew
          generalize WF.drew = WD at *
          have g0 := kf.cell (i := 0) rfl
          have g1 := kf.cell (i := 1) rfl
          exact bodyPost_ret (v := .tuple #[.agg #[iv (a), iv (100000001)], .bool true]) (by simp [results, Tryz.results38, go_sem, g0, g1]) rfl ⟨rfl, bf⟩
        · have e1 : decide ((a : Int) < 100000001) = true := decide_eq_true c1
          have e1' : decide ((a : Int) < 100000001) = true := e1
          have e2 : decide (100000001 - a ≤ 1000000) = false := decide_eq_false c2
          have hw : IntKind.i64.wrap (100000001 - a) = 100000001 - a := w64 (by omega) (by omega)
          have hC : clipB a b = false := by rw [Bool.eq_false_iff]; intro h; have := clip_iff.1 h; omega
          rw [hC, hF, hT]
          clear hC hF hT
          go_enter Tryz.func38, Tryz.ntmps38
          go_wp2_with fail
          obtain ⟨W3, hW3, b3, z3, kR, kA⟩ := clip_box w a b (a) (100000001)
          rw [hW3]; clear hW3
          obtain ⟨K, hK⟩ : ∃ K, w.heap.size + 1 = K := ⟨_, rfl⟩
          obtain ⟨L, hL⟩ : ∃ L, K + 1 = L := ⟨_, rfl⟩
          rw [hK] at kR kA z3 ⊢
          rw [hL] at kA z3 ⊢
          have hKL : K ≠ L := by omega
          have q0 := kA.cell (i := 0) rfl
          have q1 := kA.cell (i := 1) rfl
          have r0 := kR.cell (i := 0) rfl
          have r1 := kR.cell (i := 1) rfl
          have f0 := fun i => kR.frozen i
          go_region
          go_wp2_with fail
          have kf := (kR.set 0 (iv (a))).set 1 (iv (100000001))
          have bf := (b3.setCell (p := ⟨K, 0, none⟩) (by simp; omega) (iv (a))).setCell (p := ⟨K, 1, none⟩) (by simp; omega) (iv (100000001))
          generalize (W3.setCell ⟨K, 0, none⟩ (iv (a))).setCell ⟨K, 1, none⟩ (iv (100000001)) = WF at *
          have kf := kf.drew
          have bf := bf.drew
          generalize WF.drew = WD at *
          have g0 := kf.cell (i := 0) rfl
          have g1 := kf.cell (i := 1) rfl
          exact bodyPost_ret (v := .tuple #[.agg #[iv (a), iv (100000001)], .bool false]) (by simp [results, Tryz.results38, go_sem, g0, g1]) rfl ⟨rfl, bf⟩
      · have e1 : decide ((a : Int) < 100000001) = false := decide_eq_false c1
        have e1' : decide ((a : Int) < 100000001) = false := e1
        have hC : clipB a b = false := by rw [Bool.eq_false_iff]; intro h; have := clip_iff.1 h; omega
        rw [hC, hF, hT]
        clear hC hF hT
        go_enter Tryz.func38, Tryz.ntmps38
        go_wp2_with fail
        obtain ⟨W3, hW3, b3, z3, kR, kA⟩ := clip_box w a b (a) (100000001)
        rw [hW3]; clear hW3
        obtain ⟨K, hK⟩ : ∃ K, w.heap.size + 1 = K := ⟨_, rfl⟩
        obtain ⟨L, hL⟩ : ∃ L, K + 1 = L := ⟨_, rfl⟩
        rw [hK] at kR kA z3 ⊢
        rw [hL] at kA z3 ⊢
        have hKL : K ≠ L := by omega
        have q0 := kA.cell (i := 0) rfl
        have q1 := kA.cell (i := 1) rfl
        have r0 := kR.cell (i := 0) rfl
        have r1 := kR.cell (i := 1) rfl
        have f0 := fun i => kR.frozen i
        go_region
        go_wp2_with fail
        have kf := (kR.set 0 (iv (a))).set 1 (iv (100000001))
        have bf := (b3.setCell (p := ⟨K, 0, none⟩) (by simp; omega) (iv (a))).setCell (p := ⟨K, 1, none⟩) (by simp; omega) (iv (100000001))
        generalize (W3.setCell ⟨K, 0, none⟩ (iv (a))).setCell ⟨K, 1, none⟩ (iv (100000001)) = WF at *
        have kf := kf.drew
        have bf := bf.drew
        generalize WF.drew = WD at *
        have g0 := kf.cell (i := 0) rfl
        have g1 := kf.cell (i := 1) rfl
        exact bodyPost_ret (v := .tuple #[.agg #[iv (a), iv (100000001)], .bool false]) (by simp [results, Tryz.results38, go_sem, g0, g1]) rfl ⟨rfl, bf⟩
end Go.Proofs.YtfannkpnmaeljaaGreatDoor

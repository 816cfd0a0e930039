import Derived.Test.YtfannkpnmaeljaaGreatDoorGPmT4
import Derived.Test.YtfannkpnmaeljaaGreatDoorGPmT3
import Derived.Test.YtfannkpnmaeljaaGreatDoorGSp2
import Derived.Test.YtfannkpnmaeljaaGreatDoorGCal4
import Derived.Lib.SmallJoins
import Derived.Deep.SlicePairs
set_option linter.unusedVariables false
set_option linter.unusedSimpArgs false
/- permit: PermitCatchup. -/
namespace Go.Proofs.YtfannkpnmaeljaaGreatDoor
open Go.RowKit Go.Shelf

theorem keep21 {W W' W'' : World} {A I B n : Nat} {v0 v1 v2 v3 v4 v5 v6 v7 v8 v9 v10 v11 v12 v13 v14 v15 v16 v17 v18 v19 v20 : Value} (hS : W'.cell? ⟨A, 0, none⟩ = some v0 ∧ W'.cell? ⟨A, 1, none⟩ = some v1 ∧ W'.cell? ⟨A, 2, none⟩ = some v2 ∧ W'.cell? ⟨A, 3, none⟩ = some v3 ∧ W'.cell? ⟨A, 4, none⟩ = some v4 ∧ W'.cell? ⟨A, 5, none⟩ = some v5 ∧ W'.cell? ⟨A, 6, none⟩ = some v6 ∧ W'.cell? ⟨A, 7, none⟩ = some v7 ∧ W'.cell? ⟨A, 8, none⟩ = some v8 ∧ W'.cell? ⟨A, 9, none⟩ = some v9 ∧ W'.cell? ⟨A, 10, none⟩ = some v10 ∧ W'.cell? ⟨A, 11, none⟩ = some v11 ∧ W'.cell? ⟨A, 12, none⟩ = some v12 ∧ W'.cell? ⟨I, 0, none⟩ = some v13 ∧ W'.cell? ⟨I, 1, none⟩ = some v14 ∧ W'.cell? ⟨I, 2, none⟩ = some v15 ∧ W'.cell? ⟨I, 3, none⟩ = some v16 ∧ W'.cell? ⟨B, 0, none⟩ = some v17 ∧ W'.cell? ⟨B, 1, none⟩ = some v18 ∧ W'.cell? ⟨B, 2, none⟩ = some v19 ∧ W'.cell? ⟨B, 3, none⟩ = some v20 ∧ Below n W W') (hA : A < W.heap.size) (hI : I < W.heap.size) (hB : B < W.heap.size) (hn : n ≤ W.heap.size) (bb : Below W'.heap.size W' W'') :
    W''.cell? ⟨A, 0, none⟩ = some v0 ∧ W''.cell? ⟨A, 1, none⟩ = some v1 ∧ W''.cell? ⟨A, 2, none⟩ = some v2 ∧ W''.cell? ⟨A, 3, none⟩ = some v3 ∧ W''.cell? ⟨A, 4, none⟩ = some v4 ∧ W''.cell? ⟨A, 5, none⟩ = some v5 ∧ W''.cell? ⟨A, 6, none⟩ = some v6 ∧ W''.cell? ⟨A, 7, none⟩ = some v7 ∧ W''.cell? ⟨A, 8, none⟩ = some v8 ∧ W''.cell? ⟨A, 9, none⟩ = some v9 ∧ W''.cell? ⟨A, 10, none⟩ = some v10 ∧ W''.cell? ⟨A, 11, none⟩ = some v11 ∧ W''.cell? ⟨A, 12, none⟩ = some v12 ∧ W''.cell? ⟨I, 0, none⟩ = some v13 ∧ W''.cell? ⟨I, 1, none⟩ = some v14 ∧ W''.cell? ⟨I, 2, none⟩ = some v15 ∧ W''.cell? ⟨I, 3, none⟩ = some v16 ∧ W''.cell? ⟨B, 0, none⟩ = some v17 ∧ W''.cell? ⟨B, 1, none⟩ = some v18 ∧ W''.cell? ⟨B, 2, none⟩ = some v19 ∧ W''.cell? ⟨B, 3, none⟩ = some v20 ∧ Below n W W'' := by
  obtain ⟨h0, h1, h2, h3, h4, h5, h6, h7, h8, h9, h10, h11, h12, h13, h14, h15, h16, h17, h18, h19, h20, hb⟩ := hS
  have hz := hb.size
  have hA' : A < W'.heap.size := by omega
  have hI' : I < W'.heap.size := by omega
  have hB' : B < W'.heap.size := by omega
  exact ⟨(bb.cell (p := ⟨A, 0, none⟩) hA').trans h0, (bb.cell (p := ⟨A, 1, none⟩) hA').trans h1, (bb.cell (p := ⟨A, 2, none⟩) hA').trans h2, (bb.cell (p := ⟨A, 3, none⟩) hA').trans h3, (bb.cell (p := ⟨A, 4, none⟩) hA').trans h4, (bb.cell (p := ⟨A, 5, none⟩) hA').trans h5, (bb.cell (p := ⟨A, 6, none⟩) hA').trans h6, (bb.cell (p := ⟨A, 7, none⟩) hA').trans h7, (bb.cell (p := ⟨A, 8, none⟩) hA').trans h8, (bb.cell (p := ⟨A, 9, none⟩) hA').trans h9, (bb.cell (p := ⟨A, 10, none⟩) hA').trans h10, (bb.cell (p := ⟨A, 11, none⟩) hA').trans h11, (bb.cell (p := ⟨A, 12, none⟩) hA').trans h12, (bb.cell (p := ⟨I, 0, none⟩) hI').trans h13, (bb.cell (p := ⟨I, 1, none⟩) hI').trans h14, (bb.cell (p := ⟨I, 2, none⟩) hI').trans h15, (bb.cell (p := ⟨I, 3, none⟩) hI').trans h16, (bb.cell (p := ⟨B, 0, none⟩) hB').trans h17, (bb.cell (p := ⟨B, 1, none⟩) hB').trans h18, (bb.cell (p := ⟨B, 2, none⟩) hB').trans h19, (bb.cell (p := ⟨B, 3, none⟩) hB').trans h20, hb.trans (bb.mono (by omega))⟩

theorem PlIn.into {w W : World} {P : Pl} {q : Pq} (h : PlIn w P q) (hb : Below w.heap.size w W) : PlIn W P q :=
  ⟨(h.sh.below hb).mono hb.size, (h.its.below hb).mono hb.size, (h.cls.below hb).mono hb.size, h.ls, h.li, h.lc, h.ms, h.mi, h.mc⟩

theorem keepQ {W W' W'' : World} {I n : Nat} {v x y z : Value} (hS : W'.cell? ⟨I, 0, none⟩ = some v ∧ W'.cell? ⟨I, 1, none⟩ = some x ∧ W'.cell? ⟨I, 2, none⟩ = some y ∧ W'.cell? ⟨I, 3, none⟩ = some z ∧ Below n W W') (hI : I < W.heap.size) (hn : n ≤ W.heap.size) (bb : Below W.heap.size W' W'') :
    W''.cell? ⟨I, 0, none⟩ = some v ∧ W''.cell? ⟨I, 1, none⟩ = some x ∧ W''.cell? ⟨I, 2, none⟩ = some y ∧ W''.cell? ⟨I, 3, none⟩ = some z ∧ Below n W W'' := by
  obtain ⟨h1, h2, h3, h4, h5⟩ := hS
  exact ⟨(bb.cell (p := ⟨I, 0, none⟩) hI).trans h1, (bb.cell (p := ⟨I, 1, none⟩) hI).trans h2, (bb.cell (p := ⟨I, 2, none⟩) hI).trans h3, (bb.cell (p := ⟨I, 3, none⟩) hI).trans h4, h5.trans (bb.mono hn)⟩

set_option maxRecDepth 100000 in
set_option maxHeartbeats 8000000 in
theorem catchup_law (P : Pl) (q : Pq) (it r f m : Int) (w : World) (hP : PlIn w P q) (hF : Tc.FmtAt w) (hi : -9223372036854775808 ≤ it ∧ it ≤ 9223372036854775807) (hr : -9223372036854775808 ≤ r ∧ r ≤ 9223372036854775807) (hf : -9223372036854775808 ≤ f ∧ f ≤ 9223372036854775807) (hm : -9223372036854775808 ≤ m ∧ m ≤ 9223372036854775807) :
    Calls Tryz.prog 4 #[.agg (plL P q).toArray, .agg (arL it r f m).toArray] w fun e w' => e = .returned (.bool true) ∧ Below w.heap.size w w' := by
  have hsane := fun W (h : Below w.heap.size w W) => sane_any W (hF.below h)
  have hfew := fun W (h : Below w.heap.size w W) => few_any P q W (hP.into h)
  have hRf := hP.few
  generalize fewP P = R at *
  have hk1 := fun W => ppick_any it 9 W hi.1 hi.2 (by omega) (by omega)
  have hk2 := fun W => ppick_any r 8 W hr.1 hr.2 (by omega) (by omega)
  have hk3 := fun W => ppick_any f 5000 W hf.1 hf.2 (by omega) (by omega)
  have hk4 := fun W => ppick_any m 3000 W hm.1 hm.2 (by omega) (by omega)
  have hb1 := pick_bd it (n := 9) (by omega)
  have hb2 := pick_bd r (n := 8) (by omega)
  have hb3 := pick_bd f (n := 5000) (by omega)
  have hb4 := pick_bd m (n := 3000) (by omega)
  generalize Tc.pickZ it 9 = pa at *
  generalize Tc.pickZ r 8 = pb at *
  generalize Tc.pickZ f 5000 = pc at *
  generalize Tc.pickZ m 3000 = pd at *
  have hwp : IntKind.i64.wrap (2 + pa) = 2 + pa := w64 (by omega) (by omega)
  have hc1 := fun W (h : Below w.heap.size w W) => pcatch_any R q it r f m W (hRf.into h) (hF.below h) hf.1 hf.2 hm.1 hm.2
  have hc2 := fun W (h : Below w.heap.size w W) => rcatch_any R q it r f m W (hRf.into h) (hF.below h) hf.1 hf.2 hm.1 hm.2
  have hc3 := fun W (h : Below w.heap.size w W) => pcatch_any R q (2 + pa) pb pc pd W (hRf.into h) (hF.below h) (by omega) (by omega) (by omega) (by omega)
  have hc4 := fun W (h : Below w.heap.size w W) => rcatch_any R q (2 + pa) pb pc pd W (hRf.into h) (hF.below h) (by omega) (by omega) (by omega) (by omega)
  generalize (catP R it r f m) = c1 at *
  generalize (catP R (2 + pa) pb pc pd) = c2 at *
  obtain ⟨x1, y1⟩ := c1
  obtain ⟨x2, y2⟩ := c2
  dsimp only at hc1 hc2 hc3 hc4
  clear hP hF hRf hi hr hf hm hb1 hb2 hb3 hb4
  go_enter Tryz.func4, Tryz.ntmps4
  go_wp2_with fail
  obtain ⟨W0, hW0, b0, z0, kP, kA⟩ : ∃ W0, (w.alloc (.cells (plL P q).toArray 32)).alloc (.cells (arL it r f m).toArray 46) = W0 ∧ Below w.heap.size w W0 ∧ W0.heap.size = w.heap.size + 1 + 1 ∧
      Arr W0 w.heap.size 32 (plL P q) ∧ Arr W0 (w.heap.size + 1) 46 (arL it r f m) :=
    ⟨_, rfl, ((Below.refl _ w).alloc (Nat.le_refl _) _).alloc (by simp) _, by simp, (Arr.new w _ (plL P q)).alloc _, Arr.new' _ (arL it r f m) (by simp)⟩
  rw [hW0]; clear hW0
  obtain ⟨K, hK⟩ : ∃ K, w.heap.size = K := ⟨_, rfl⟩
  obtain ⟨I, hI⟩ : ∃ I, K + 1 = I := ⟨_, rfl⟩
  rw [hK] at kP kA z0 ⊢
  rw [hI] at kA z0 ⊢
  refine (hsane _ b0).mono ?_
  rintro e W1 ⟨rfl, b1⟩
  have b01 := bthen b0 b1
  have kP1 := kP.below b1 kP.lt
  have kA1 := kA.below b1 kA.lt
  clear hsane kP kA b1
  have c0 := kP1.cell (i := 0) rfl
  have c1 := kP1.cell (i := 1) rfl
  have c2 := kP1.cell (i := 2) rfl
  have c3 := kP1.cell (i := 3) rfl
  have c4 := kP1.cell (i := 4) rfl
  have c5 := kP1.cell (i := 5) rfl
  have c6 := kP1.cell (i := 6) rfl
  have c7 := kP1.cell (i := 7) rfl
  have c8 := kP1.cell (i := 8) rfl
  have c9 := kP1.cell (i := 9) rfl
  have c10 := kP1.cell (i := 10) rfl
  have c11 := kP1.cell (i := 11) rfl
  have c12 := kP1.cell (i := 12) rfl
  go_wp2_with fail
  refine (hfew _ b01).mono ?_
  rintro e W2 ⟨rfl, b2⟩
  have b02 := bthen b01 b2
  have kA2 := kA1.below b2 kA1.lt
  have hwK : w.heap.size ≤ W2.heap.size := b02.size
  clear c0 c1 c2 c3 c4 c5 c6 c7 c8 c9 c10 c11 c12 hfew kP1 kA1 b01 b2
  go_wp2_with fail
  obtain ⟨W6, hW6, b6, z6, kR⟩ := boxA W2 32 (plL R q)
  obtain ⟨A, hA⟩ : ∃ A, W2.heap.size = A := ⟨_, rfl⟩
  have b06 := bthen b02 b6
  have kA6 := kA2.below b6 kA2.lt
  rw [hW6]
  rw [hA] at kR z6 ⊢
  have hAl := kR.lt
  have hIl := kA6.lt
  clear hW6 b6 z6 kA2 b02 hwK hA
  have hst : W6.drew.cell? ⟨I, 0, none⟩ = some (iv it) ∧ W6.drew.cell? ⟨I, 1, none⟩ = some (iv r) ∧ W6.drew.cell? ⟨I, 2, none⟩ = some (iv f) ∧ W6.drew.cell? ⟨I, 3, none⟩ = some (iv m) ∧ Below W6.heap.size W6 (W6.drew) := ⟨kA6.cell (i := 0) rfl, kA6.cell (i := 1) rfl, kA6.cell (i := 2) rfl, kA6.cell (i := 3) rfl, (Below.refl _ _).drew⟩
  have hst3 : (W6.alloc (.cells #[iv 0, iv 0, iv 0, iv 0] 46)).drew.cell? ⟨I, 0, none⟩ = some (iv it) ∧ (W6.alloc (.cells #[iv 0, iv 0, iv 0, iv 0] 46)).drew.cell? ⟨I, 1, none⟩ = some (iv r) ∧ (W6.alloc (.cells #[iv 0, iv 0, iv 0, iv 0] 46)).drew.cell? ⟨I, 2, none⟩ = some (iv f) ∧ (W6.alloc (.cells #[iv 0, iv 0, iv 0, iv 0] 46)).drew.cell? ⟨I, 3, none⟩ = some (iv m) ∧ Below W6.heap.size W6 ((W6.alloc (.cells #[iv 0, iv 0, iv 0, iv 0] 46)).drew) := ⟨(kA6.alloc (.cells #[iv 0, iv 0, iv 0, iv 0] 46)).cell (i := 0) rfl, (kA6.alloc (.cells #[iv 0, iv 0, iv 0, iv 0] 46)).cell (i := 1) rfl, (kA6.alloc (.cells #[iv 0, iv 0, iv 0, iv 0] 46)).cell (i := 2) rfl, (kA6.alloc (.cells #[iv 0, iv 0, iv 0, iv 0] 46)).cell (i := 3) rfl, ((Below.refl _ W6).alloc (Nat.le_refl _) _).drew⟩
  have hst4 : (W6.drew.alloc (.cells #[iv 0, iv 0, iv 0, iv 0] 46)).cell? ⟨I, 0, none⟩ = some (iv it) ∧ (W6.drew.alloc (.cells #[iv 0, iv 0, iv 0, iv 0] 46)).cell? ⟨I, 1, none⟩ = some (iv r) ∧ (W6.drew.alloc (.cells #[iv 0, iv 0, iv 0, iv 0] 46)).cell? ⟨I, 2, none⟩ = some (iv f) ∧ (W6.drew.alloc (.cells #[iv 0, iv 0, iv 0, iv 0] 46)).cell? ⟨I, 3, none⟩ = some (iv m) ∧ Below W6.heap.size W6 ((W6.drew.alloc (.cells #[iv 0, iv 0, iv 0, iv 0] 46))) := ⟨(kA6.drew.alloc (.cells #[iv 0, iv 0, iv 0, iv 0] 46)).cell (i := 0) rfl, (kA6.drew.alloc (.cells #[iv 0, iv 0, iv 0, iv 0] 46)).cell (i := 1) rfl, (kA6.drew.alloc (.cells #[iv 0, iv 0, iv 0, iv 0] 46)).cell (i := 2) rfl, (kA6.drew.alloc (.cells #[iv 0, iv 0, iv 0, iv 0] 46)).cell (i := 3) rfl, ((Below.refl _ W6).drew).alloc (Nat.le_refl _) _⟩
  have hst5 : (W6.drew.alloc (.cells #[iv (2 + pa), iv pb, iv pc, iv pd] 46)).cell? ⟨I, 0, none⟩ = some (iv it) ∧ (W6.drew.alloc (.cells #[iv (2 + pa), iv pb, iv pc, iv pd] 46)).cell? ⟨I, 1, none⟩ = some (iv r) ∧ (W6.drew.alloc (.cells #[iv (2 + pa), iv pb, iv pc, iv pd] 46)).cell? ⟨I, 2, none⟩ = some (iv f) ∧ (W6.drew.alloc (.cells #[iv (2 + pa), iv pb, iv pc, iv pd] 46)).cell? ⟨I, 3, none⟩ = some (iv m) ∧ Below W6.heap.size W6 ((W6.drew.alloc (.cells #[iv (2 + pa), iv pb, iv pc, iv pd] 46))) := ⟨(kA6.drew.alloc (.cells #[iv (2 + pa), iv pb, iv pc, iv pd] 46)).cell (i := 0) rfl, (kA6.drew.alloc (.cells #[iv (2 + pa), iv pb, iv pc, iv pd] 46)).cell (i := 1) rfl, (kA6.drew.alloc (.cells #[iv (2 + pa), iv pb, iv pc, iv pd] 46)).cell (i := 2) rfl, (kA6.drew.alloc (.cells #[iv (2 + pa), iv pb, iv pc, iv pd] 46)).cell (i := 3) rfl, ((Below.refl _ W6).drew).alloc (Nat.le_refl _) _⟩
  have hst6 : (W6.alloc (.cells #[iv (2 + pa), iv pb, iv pc, iv pd] 46)).drew.cell? ⟨I, 0, none⟩ = some (iv it) ∧ (W6.alloc (.cells #[iv (2 + pa), iv pb, iv pc, iv pd] 46)).drew.cell? ⟨I, 1, none⟩ = some (iv r) ∧ (W6.alloc (.cells #[iv (2 + pa), iv pb, iv pc, iv pd] 46)).drew.cell? ⟨I, 2, none⟩ = some (iv f) ∧ (W6.alloc (.cells #[iv (2 + pa), iv pb, iv pc, iv pd] 46)).drew.cell? ⟨I, 3, none⟩ = some (iv m) ∧ Below W6.heap.size W6 ((W6.alloc (.cells #[iv (2 + pa), iv pb, iv pc, iv pd] 46)).drew) := ⟨(kA6.alloc (.cells #[iv (2 + pa), iv pb, iv pc, iv pd] 46)).cell (i := 0) rfl, (kA6.alloc (.cells #[iv (2 + pa), iv pb, iv pc, iv pd] 46)).cell (i := 1) rfl, (kA6.alloc (.cells #[iv (2 + pa), iv pb, iv pc, iv pd] 46)).cell (i := 2) rfl, (kA6.alloc (.cells #[iv (2 + pa), iv pb, iv pc, iv pd] 46)).cell (i := 3) rfl, ((Below.refl _ W6).alloc (Nat.le_refl _) _).drew⟩
  go_region_held3 (fun w' => w'.cell? ⟨I, 0, none⟩ = some (iv it) ∧ w'.cell? ⟨I, 1, none⟩ = some (iv r) ∧ w'.cell? ⟨I, 2, none⟩ = some (iv f) ∧ w'.cell? ⟨I, 3, none⟩ = some (iv m) ∧ Below W6.heap.size W6 (w')) (first | assumption | exact hst | exact hst3 | exact hst4 | exact hst5 | exact hst6 | fail)
    (first | (go_at_call 12; (with_reducible refine Calls.mono (hk1 _) ?_); rintro e w7 ⟨rfl, rfl⟩) | (go_at_call 12; (with_reducible refine Calls.mono (hk2 _) ?_); rintro e w7 ⟨rfl, rfl⟩) | (go_at_call 12; (with_reducible refine Calls.mono (hk3 _) ?_); rintro e w7 ⟨rfl, rfl⟩) | (go_at_call 12; (with_reducible refine Calls.mono (hk4 _) ?_); rintro e w7 ⟨rfl, rfl⟩) | fail)
  all_goals (
    clear hst hst3 hst4 hst5 hst6 hk1 hk2 hk3 hk4
    obtain ⟨W7, hW7, b7, z7, kB, kR7, kA7⟩ : ∃ W7, (W6.alloc (.cells #[iv (2 + pa), iv pb, iv pc, iv pd] 46)).drew = W7 ∧ Below W6.heap.size W6 W7 ∧ W7.heap.size = W6.heap.size + 1 ∧ Arr W7 W6.heap.size 46 (arL (2 + pa) pb pc pd) ∧ Arr W7 A 32 (plL R q) ∧ Arr W7 I 46 (arL it r f m) :=
      ⟨_, rfl, ((Below.refl _ W6).alloc (Nat.le_refl _) _).drew, by simp, (Arr.new W6 46 (arL (2 + pa) pb pc pd)).drew, (kR.alloc _).drew, (kA6.alloc _).drew⟩
    obtain ⟨B, hB⟩ : ∃ B, W6.heap.size = B := ⟨_, rfl⟩
    have b07 := bthen b06 b7
    rw [hW7]
    rw [hB] at kB z7 ⊢
    have hBl := kB.lt
    have hAl' := kR7.lt
    have hIl' := kA7.lt
    have hd1 := fun W (h : Below W7.heap.size W7 W) => hc1 W (bthen b07 h)
    have hd2 := fun W (h : Below W7.heap.size W7 W) => hc2 W (bthen b07 h)
    have hd3 := fun W (h : Below W7.heap.size W7 W) => hc3 W (bthen b07 h)
    have hd4 := fun W (h : Below W7.heap.size W7 W) => hc4 W (bthen b07 h)
    have hst : W7.drew.cell? ⟨A, 0, none⟩ = some (iv R.ch) ∧ W7.drew.cell? ⟨A, 1, none⟩ = some (iv R.num) ∧ W7.drew.cell? ⟨A, 2, none⟩ = some (iv R.den) ∧ W7.drew.cell? ⟨A, 3, none⟩ = some (iv R.off) ∧ W7.drew.cell? ⟨A, 4, none⟩ = some (.slice q.ps R.sh.length q.cs) ∧ W7.drew.cell? ⟨A, 5, none⟩ = some (iv R.ep) ∧ W7.drew.cell? ⟨A, 6, none⟩ = some (iv R.rg) ∧ W7.drew.cell? ⟨A, 7, none⟩ = some (iv R.ln) ∧ W7.drew.cell? ⟨A, 8, none⟩ = some (iv R.fl) ∧ W7.drew.cell? ⟨A, 9, none⟩ = some (.slice q.pi R.its.length q.ci) ∧ W7.drew.cell? ⟨A, 10, none⟩ = some (.slice q.pe q.le q.ce) ∧ W7.drew.cell? ⟨A, 11, none⟩ = some (.slice q.pb q.lb q.cb) ∧ W7.drew.cell? ⟨A, 12, none⟩ = some (.slice q.pc R.cls.length q.cc) ∧ W7.drew.cell? ⟨I, 0, none⟩ = some (iv it) ∧ W7.drew.cell? ⟨I, 1, none⟩ = some (iv r) ∧ W7.drew.cell? ⟨I, 2, none⟩ = some (iv f) ∧ W7.drew.cell? ⟨I, 3, none⟩ = some (iv m) ∧ W7.drew.cell? ⟨B, 0, none⟩ = some (iv (2 + pa)) ∧ W7.drew.cell? ⟨B, 1, none⟩ = some (iv pb) ∧ W7.drew.cell? ⟨B, 2, none⟩ = some (iv pc) ∧ W7.drew.cell? ⟨B, 3, none⟩ = some (iv pd) ∧ Below W7.heap.size W7 W7.drew := ⟨kR7.cell (i := 0) rfl, kR7.cell (i := 1) rfl, kR7.cell (i := 2) rfl, kR7.cell (i := 3) rfl, kR7.cell (i := 4) rfl, kR7.cell (i := 5) rfl, kR7.cell (i := 6) rfl, kR7.cell (i := 7) rfl, kR7.cell (i := 8) rfl, kR7.cell (i := 9) rfl, kR7.cell (i := 10) rfl, kR7.cell (i := 11) rfl, kR7.cell (i := 12) rfl, kA7.cell (i := 0) rfl, kA7.cell (i := 1) rfl, kA7.cell (i := 2) rfl, kA7.cell (i := 3) rfl, kB.cell (i := 0) rfl, kB.cell (i := 1) rfl, kB.cell (i := 2) rfl, kB.cell (i := 3) rfl, (Below.refl _ _).drew⟩
    clear hW7 hB b7 z7 kB kR7 kA7 kA6 kR hc1 hc2 hc3 hc4 hAl hIl hwp b06
    go_wp2_with fail
    go_region_held3 (fun w' => w'.cell? ⟨A, 0, none⟩ = some (iv R.ch) ∧ w'.cell? ⟨A, 1, none⟩ = some (iv R.num) ∧ w'.cell? ⟨A, 2, none⟩ = some (iv R.den) ∧ w'.cell? ⟨A, 3, none⟩ = some (iv R.off) ∧ w'.cell? ⟨A, 4, none⟩ = some (.slice q.ps R.sh.length q.cs) ∧ w'.cell? ⟨A, 5, none⟩ = some (iv R.ep) ∧ w'.cell? ⟨A, 6, none⟩ = some (iv R.rg) ∧ w'.cell? ⟨A, 7, none⟩ = some (iv R.ln) ∧ w'.cell? ⟨A, 8, none⟩ = some (iv R.fl) ∧ w'.cell? ⟨A, 9, none⟩ = some (.slice q.pi R.its.length q.ci) ∧ w'.cell? ⟨A, 10, none⟩ = some (.slice q.pe q.le q.ce) ∧ w'.cell? ⟨A, 11, none⟩ = some (.slice q.pb q.lb q.cb) ∧ w'.cell? ⟨A, 12, none⟩ = some (.slice q.pc R.cls.length q.cc) ∧ w'.cell? ⟨I, 0, none⟩ = some (iv it) ∧ w'.cell? ⟨I, 1, none⟩ = some (iv r) ∧ w'.cell? ⟨I, 2, none⟩ = some (iv f) ∧ w'.cell? ⟨I, 3, none⟩ = some (iv m) ∧ w'.cell? ⟨B, 0, none⟩ = some (iv (2 + pa)) ∧ w'.cell? ⟨B, 1, none⟩ = some (iv pb) ∧ w'.cell? ⟨B, 2, none⟩ = some (iv pc) ∧ w'.cell? ⟨B, 3, none⟩ = some (iv pd) ∧ Below W7.heap.size W7 w') (first | assumption | exact hst | exact keep21 (by assumption) hAl' hIl' hBl (Nat.le_refl _) b11 | exact keep21 (by assumption) hAl' hIl' hBl (Nat.le_refl _) b10 | exact keep21 (by assumption) hAl' hIl' hBl (Nat.le_refl _) b9 | exact keep21 (by assumption) hAl' hIl' hBl (Nat.le_refl _) b8 | fail)
      (first | (go_at_call 22; (with_reducible refine Calls.mono (hd1 _ (by assumption : _ ∧ _ ∧ _ ∧ _ ∧ _ ∧ _ ∧ _ ∧ _ ∧ _ ∧ _ ∧ _ ∧ _ ∧ _ ∧ _ ∧ _ ∧ _ ∧ _ ∧ _ ∧ _ ∧ _ ∧ _ ∧ Below W7.heap.size W7 _).2.2.2.2.2.2.2.2.2.2.2.2.2.2.2.2.2.2.2.2.2) ?_); rintro e w8 ⟨rfl, b8⟩) | (go_at_call 23; (with_reducible refine Calls.mono (hd2 _ (by assumption : _ ∧ _ ∧ _ ∧ _ ∧ _ ∧ _ ∧ _ ∧ _ ∧ _ ∧ _ ∧ _ ∧ _ ∧ _ ∧ _ ∧ _ ∧ _ ∧ _ ∧ _ ∧ _ ∧ _ ∧ _ ∧ Below W7.heap.size W7 _).2.2.2.2.2.2.2.2.2.2.2.2.2.2.2.2.2.2.2.2.2) ?_); rintro e w9 ⟨rfl, b9⟩) | (go_at_call 22; (with_reducible refine Calls.mono (hd3 _ (by assumption : _ ∧ _ ∧ _ ∧ _ ∧ _ ∧ _ ∧ _ ∧ _ ∧ _ ∧ _ ∧ _ ∧ _ ∧ _ ∧ _ ∧ _ ∧ _ ∧ _ ∧ _ ∧ _ ∧ _ ∧ _ ∧ Below W7.heap.size W7 _).2.2.2.2.2.2.2.2.2.2.2.2.2.2.2.2.2.2.2.2.2) ?_); rintro e w10 ⟨rfl, b10⟩) | (go_at_call 23; (with_reducible refine Calls.mono (hd4 _ (by assumption : _ ∧ _ ∧ _ ∧ _ ∧ _ ∧ _ ∧ _ ∧ _ ∧ _ ∧ _ ∧ _ ∧ _ ∧ _ ∧ _ ∧ _ ∧ _ ∧ _ ∧ _ ∧ _ ∧ _ ∧ _ ∧ Below W7.heap.size W7 _).2.2.2.2.2.2.2.2.2.2.2.2.2.2.2.2.2.2.2.2.2) ?_); rintro e w11 ⟨rfl, b11⟩) | fail)
    rename_i hHeld
    have bf := hHeld.2.2.2.2.2.2.2.2.2.2.2.2.2.2.2.2.2.2.2.2.2
    clear hHeld hst hd1 hd2 hd3 hd4
    go_wp2_with fail
    go_ret
    exact ⟨rfl, bthen b07 bf⟩)
end Go.Proofs.YtfannkpnmaeljaaGreatDoor

/- permit: a plan that came in. -/
namespace Go.Proofs.YtfannkpnmaeljaaGreatDoor
open Go.ChangeShapes Go.WideShapes Go.ChangeAt Go.WideMaps Go.WideElems Go.RowKit Go.Joins Go.Deep

theorem list_of {α : Type} [Inhabited α] {P : Nat → α → Prop} (d : α) {n : Nat} (h : ∀ i, i < n → ∃ x, P i x) : ∃ l : List α, l.length = n ∧ ∀ i, i < n → P i (l.getD i d) := by
  obtain ⟨f, hf⟩ := choose_lt h
  refine ⟨(List.range n).map f, by simp, fun i hi => ?_⟩
  have : ((List.range n).map f).getD i d = f i := by simp [List.getD, hi]
  rw [this]
  exact hf i hi

section
variable {H : Type} {enc : TypeId × Value → H} {w : World} {base b0 : Nat} {spare : Nat → Bool} {held : Bool} {r : Reach}

theorem cell_int {fuel : Nat} {cs : List Value} {y : Option (DataW H × List MemPlace)} {z : DataW H × List MemPlace} (h : DataW.trod enc Tryz.prog w base spare held fuel 3 cs = y) (hy : y = some z) : ∃ n, cs = [iv n] ∧ -9223372036854775808 ≤ n ∧ n ≤ 9223372036854775807 := by
  subst hy
  obtain ⟨n, e1, -, hw⟩ := DataW.trod_int Tryz.underlying3 h
  have := wf64 hw
  exact ⟨n, e1, by omega, by omega⟩

theorem open_slice_ints {Q : Program} {t e : TypeId} {fs : Array Field} {fuel : Nat} {cs : List Value} {x : DataW H × List MemPlace} (ht : Q.underlying t = some (.slice e)) (he : Q.underlying e = some (.struct fs)) (hone : oneCellFields Q fs = true)
    (hint : ∀ (i : Nat) (f : Field), fs[i]? = some f → Q.underlying f.type = some (.int .i64)) (ce : Q.cellsOf e = fs.size) (h0 : 0 < fs.size) (h : DataW.trod enc Q w base spare held fuel t cs = some x) :
    ∃ (p : Option Addr) (len cap : Nat), cs = [.slice p len cap] ∧ len ≤ cap ∧ cap ≤ 9223372036854775807 ∧ ∀ i, i < len → ∃ b o, p = some ⟨b, o, none⟩ ∧ b < w.heap.size ∧ ∀ j, j < fs.size → ∃ z : Int, w.cell? ⟨b, o + i * fs.size + j, none⟩ = some (iv z) := by
  rcases open_slice ht h with ⟨rfl, -⟩ | ⟨a, len, cap, m, n, D, Pl, rfl, hb, hl, hm, hmm, -, hx⟩
  · exact ⟨none, 0, 0, rfl, by omega, by omega, fun i hi => by omega⟩
  have hlm : len ≤ m := by rw [hmm]; split <;> omega
  have hcells : ∀ i, i < len → ∀ j, j < fs.size → ∃ z : Int, w.cell? (a.add (i * fs.size + j)) = some (iv z) := fun i hi j hj => by
    obtain ⟨cs', h1, h2⟩ := hx i (by omega)
    rw [ce] at h1
    obtain ⟨_, hlen, hcell⟩ := World.cells?_some h1
    obtain ⟨xs, k, -, -, -, hxl, hf⟩ := DataW.trod_struct he h2
    have hfj : fs[j]? = some fs[j] := by simp [hj]
    obtain ⟨o1, k1⟩ := hone_of hone j _ hfj
    have g := hf j _ hfj
    rw [o1, k1, List.getElem?_eq_getElem (show j < xs.length by omega)] at g
    obtain ⟨z, e1, -, -⟩ := DataW.trod_int (hint j _ hfj) g
    refine ⟨z, ?_⟩
    have := congrArg List.head? e1
    rw [List.head?_take, if_neg (by decide), List.head?_drop] at this
    have cj := hcell j hj
    rw [add_add] at cj
    exact cj.trans this
  refine ⟨some a, len, cap, rfl, hl, by unfold maxLen at hm; exact hm, fun i hi => ?_⟩
  obtain ⟨z0, q0⟩ := hcells 0 (by omega) 0 h0
  obtain ⟨b, o, spot⟩ := a
  have hspot : spot = none := by simpa [Addr.add] using World.cell?_spot q0
  subst hspot
  refine ⟨b, o, rfl, ?_, fun j hj => ?_⟩
  · rw [add_plainS] at q0
    exact cell_ltS q0
  · obtain ⟨z, hz⟩ := hcells i hi j hj
    rw [add_plainS, ← Nat.add_assoc] at hz
    exact ⟨z, hz⟩
end
section
variable {H : Type} {enc : TypeId × Value → H} {w : World} {base b0 : Nat} {held : Bool} {r : Reach}

set_option maxRecDepth 100000 in
set_option maxHeartbeats 2000000 in
theorem open_plan {v : Value} {d : DataW H} {ps : List MemPlace} (hval : Value.okWide Tryz.prog w r b0 32 v) (hd : DataW.Trod enc Tryz.prog w base (fun _ => true) held 32 v d ps) :
    ∃ (P : Pl) (q : Pq), v = .agg (plL P q).toArray ∧ PlIn w P q := by
  obtain ⟨cs, rfl, hsz⟩ := okWide_struct Tryz.underlying32 hval
  obtain ⟨fuel, hf⟩ := hd
  obtain ⟨xs, n, -, -, hl, hlen, hf⟩ := DataW.trod_struct Tryz.underlying32 hf
  have h13 : cs.size = 13 := hsz.trans (by kernel_rfl)
  obtain ⟨l⟩ := cs
  match l, h13 with
  | [c0, c1, c2, c3, c4, c5, c6, c7, c8, c9, c10, c11, c12], _ =>
    match xs, hlen with
    | [y0, y1, y2, y3, y4, y5, y6, y7, y8, y9, y10], _ =>
      obtain ⟨n0, g0, -⟩ := cell_int (hf 0 _ rfl) rfl
      obtain ⟨x0, x1, m1, -, -, g1, g2⟩ := trod_struct2 Tryz.underlying23 (hf 1 _ rfl)
      obtain ⟨x2, x3, m2, -, -, g3, g4⟩ := trod_struct2 Tryz.underlying26 (hf 2 _ rfl)
      obtain ⟨n1, g1, -⟩ := cell_int g1 rfl
      obtain ⟨n2, g2, -⟩ := cell_int g2 rfl
      obtain ⟨n3, g3, -⟩ := cell_int g3 rfl
      obtain ⟨n5, g5, -⟩ := cell_int (hf 3 _ rfl) rfl
      obtain ⟨n6, g6, -⟩ := cell_int (hf 4 _ rfl) rfl
      obtain ⟨n7, g7, -⟩ := cell_int (hf 5 _ rfl) rfl
      obtain ⟨n8, g8, -⟩ := cell_int (hf 6 _ rfl) rfl
      have e0 : [c0] = [iv n0] := g0
      have e1 : [c1] = [iv n1] := g1
      have e2 : [c2] = [iv n2] := g2
      have e3 : [c3] = [iv n3] := g3
      have e5 : [c5] = [iv n5] := g5
      have e6 : [c6] = [iv n6] := g6
      have e7 : [c7] = [iv n7] := g7
      have e8 : [c8] = [iv n8] := g8
      obtain ⟨ps, ls, cs, g4, hs1, hs2, hs3⟩ := open_slice_ints (fs := _) Tryz.underlying24 Tryz.underlying83 (by kernel_rfl) (fun i f hi => by
        match i, hi with
        | 0, hi => cases hi; exact Tryz.underlying3
        | 1, hi => cases hi; exact Tryz.underlying3
        | i + 2, hi => simp at hi) (by kernel_rfl) (by decide) g4
      obtain ⟨pi, li, ci, g9, hi1, hi2, hi3⟩ := open_slice_ints (fs := _) Tryz.underlying27 Tryz.underlying60 (by kernel_rfl) (fun i f hi => by
        match i, hi with
        | 0, hi => cases hi; exact Tryz.underlying3
        | 1, hi => cases hi; exact Tryz.underlying3
        | 2, hi => cases hi; exact Tryz.underlying3
        | 3, hi => cases hi; exact Tryz.underlying3
        | 4, hi => cases hi; exact Tryz.underlying3
        | i + 5, hi => simp at hi) (by kernel_rfl) (by decide) (hf 7 _ rfl)
      obtain ⟨pc, lc, cc, g12, hc1, hc2, hc3⟩ := open_slice_ints (fs := _) Tryz.underlying30 Tryz.underlying53 (by kernel_rfl) (fun i f hi => by
        match i, hi with
        | 0, hi => cases hi; exact Tryz.underlying3
        | 1, hi => cases hi; exact Tryz.underlying3
        | 2, hi => cases hi; exact Tryz.underlying3
        | 3, hi => cases hi; exact Tryz.underlying3
        | 4, hi => cases hi; exact Tryz.underlying3
        | 5, hi => cases hi; exact Tryz.underlying3
        | 6, hi => cases hi; exact Tryz.underlying3
        | 7, hi => cases hi; exact Tryz.underlying3
        | i + 8, hi => simp at hi) (by kernel_rfl) (by decide) (hf 10 _ rfl)
      obtain ⟨pe, le, ce, g10⟩ : ∃ p l c, [c10] = [Value.slice p l c] := by
        rcases DataW.trod_slice Tryz.underlying28 (hf 8 _ rfl) with ⟨g, -⟩ | ⟨a, ln, cp, _, _, _, -, g, -⟩
        · exact ⟨_, _, _, g⟩
        · exact ⟨_, _, _, g⟩
      obtain ⟨pb, lb, cb, g11⟩ : ∃ p l c, [c11] = [Value.slice p l c] := by
        rcases DataW.trod_slice Tryz.underlying29 (hf 9 _ rfl) with ⟨g, -⟩ | ⟨a, ln, cp, _, _, _, -, g, -⟩
        · exact ⟨_, _, _, g⟩
        · exact ⟨_, _, _, g⟩
      have e4 : [c4] = [Value.slice ps ls cs] := g4
      have e9 : [c9] = [Value.slice pi li ci] := g9
      have e12 : [c12] = [Value.slice pc lc cc] := g12
      simp only [List.cons.injEq, and_true] at e0 e1 e2 e3 e4 e5 e6 e7 e8 e9 e12 g10 g11
      subst e0 e1 e2 e3 e4 e5 e6 e7 e8 e9 e12 g10 g11
      clear hf hval hl
      obtain ⟨sh, zs, hsh⟩ := list_of (α := Int × Int) (P := fun i x => ∃ b o, ps = some ⟨b, o, none⟩ ∧ b < w.heap.size ∧ w.cell? ⟨b, o + i * 2, none⟩ = some (iv x.1) ∧ w.cell? ⟨b, o + i * 2 + 1, none⟩ = some (iv x.2)) (0, 0) (n := ls) (fun i hi => by
        obtain ⟨b, o, h1, h2, h3⟩ := hs3 i hi
        obtain ⟨z0, q0⟩ := h3 0 (by decide)
        obtain ⟨z1, q1⟩ := h3 1 (by decide)
        exact ⟨(z0, z1), b, o, h1, h2, q0, q1⟩)
      obtain ⟨its, zi, hit⟩ := list_of (α := It) (P := fun i x => ∃ b o, pi = some ⟨b, o, none⟩ ∧ b < w.heap.size ∧ ∀ j, j < 5 → w.cell? ⟨b, o + i * 5 + j, none⟩ = some (iv (x.get j))) It.zero (n := li) (fun i hi => by
        obtain ⟨b, o, h1, h2, h3⟩ := hi3 i hi
        obtain ⟨z0, q0⟩ := h3 0 (by decide)
        obtain ⟨z1, q1⟩ := h3 1 (by decide)
        obtain ⟨z2, q2⟩ := h3 2 (by decide)
        obtain ⟨z3, q3⟩ := h3 3 (by decide)
        obtain ⟨z4, q4⟩ := h3 4 (by decide)
        refine ⟨⟨z0, z1, z2, z3, z4⟩, b, o, h1, h2, fun j hj => ?_⟩
        match j, hj with
        | 0, _ => exact q0
        | 1, _ => exact q1
        | 2, _ => exact q2
        | 3, _ => exact q3
        | 4, _ => exact q4)
      obtain ⟨cls, zc, hcl⟩ := list_of (α := Cl) (P := fun i x => ∃ b o, pc = some ⟨b, o, none⟩ ∧ b < w.heap.size ∧ ∀ j, j < 8 → w.cell? ⟨b, o + i * 8 + j, none⟩ = some (iv (x.get j))) Cl.zero (n := lc) (fun i hi => by
        obtain ⟨b, o, h1, h2, h3⟩ := hc3 i hi
        obtain ⟨z0, q0⟩ := h3 0 (by decide)
        obtain ⟨z1, q1⟩ := h3 1 (by decide)
        obtain ⟨z2, q2⟩ := h3 2 (by decide)
        obtain ⟨z3, q3⟩ := h3 3 (by decide)
        obtain ⟨z4, q4⟩ := h3 4 (by decide)
        obtain ⟨z5, q5⟩ := h3 5 (by decide)
        obtain ⟨z6, q6⟩ := h3 6 (by decide)
        obtain ⟨z7, q7⟩ := h3 7 (by decide)
        refine ⟨⟨z0, z1, z2, z3, z4, z5, z6, z7⟩, b, o, h1, h2, fun j hj => ?_⟩
        match j, hj with
        | 0, _ => exact q0
        | 1, _ => exact q1
        | 2, _ => exact q2
        | 3, _ => exact q3
        | 4, _ => exact q4
        | 5, _ => exact q5
        | 6, _ => exact q6
        | 7, _ => exact q7)
      subst zs zi zc
      exact ⟨⟨n0, n1, n2, n3, sh, n5, n6, n7, n8, its, cls⟩, ⟨ps, cs, pi, ci, pe, le, ce, pb, lb, cb, pc, cc⟩, rfl, ⟨fun i hi => hsh i hi, fun i hi => hit i hi, fun i hi => hcl i hi, hs1, hi1, hc1, hs2, hi2, hc2⟩⟩

set_option maxRecDepth 100000 in
theorem open_aired {v : Value} {d : DataW H} {ps : List MemPlace} (hval : Value.okWide Tryz.prog w r b0 46 v) (hd : DataW.Trod enc Tryz.prog w base (fun _ => true) held 46 v d ps) :
    ∃ a b c e : Int, v = .agg #[iv a, iv b, iv c, iv e] ∧ (-9223372036854775808 ≤ a ∧ a ≤ 9223372036854775807) ∧ (-9223372036854775808 ≤ b ∧ b ≤ 9223372036854775807) ∧ (-9223372036854775808 ≤ c ∧ c ≤ 9223372036854775807) ∧ (-9223372036854775808 ≤ e ∧ e ≤ 9223372036854775807) := by
  obtain ⟨c0, c1, c2, c3, y0, y1, y2, y3, n, rfl, -, -, h0, h1, h2, h3⟩ := open_agg4 Tryz.underlying46 (by kernel_rfl) (by kernel_rfl) hval hd
  obtain ⟨a, e0, w0⟩ := cell_int h0 rfl
  obtain ⟨b, e1, w1⟩ := cell_int h1 rfl
  obtain ⟨c, e2, w2⟩ := cell_int h2 rfl
  obtain ⟨e, e3, w3⟩ := cell_int h3 rfl
  simp only [List.cons.injEq, and_true] at e0 e1 e2 e3
  subst e0 e1 e2 e3
  exact ⟨a, b, c, e, rfl, w0, w1, w2, w3⟩
end
end Go.Proofs.YtfannkpnmaeljaaGreatDoor

/- permit: what fill is allowed, and what Gap keeps. -/
namespace Go.Proofs.YtfannkpnmaeljaaGreatDoor

theorem alw_fill {P : Pl} {id r f n : Int} {x : It} (hx : fz P.its id = some x) (hk : x.kd = 5) (hr : 0 ≤ r ∧ r < 8) (hf : 0 ≤ f ∧ f < 1000000) (hn : 1 ≤ n ∧ n ≤ 50) : alwC P id r f n = true := by
  rw [alw_iff]
  refine ⟨⟨hf.1, by omega⟩, ⟨hn.1, by omega⟩, fun y h1 h2 => ?_⟩
  unfold perB
  rw [hx]
  simp only [hk, decide_true, Bool.true_or, Bool.and_true]
  unfold regB frB
  simp
  omega
theorem alw_none {P : Pl} {id r f n : Int} (hx : fz P.its id = none) : alwC P id r f n = false := by
  cases h : alwC P id r f n with
  | false => rfl
  | true =>
    obtain ⟨-, h2, h3⟩ := (alw_iff P id r f n).1 h
    have := h3 f (by omega) (by omega)
    unfold perB at this
    rw [hx] at this
    cases this

theorem gap_no : ∀ (l : List Cl) (a b g : Int), (∀ c ∈ l, (pairB c a b && decide (c.k = 5) && vldZ c) = false) → l.foldl (fun g c => if (pairB c a b && decide (c.k = 5) && vldZ c) = true then max g c.n else g) g = g
  | [], _, _, _, _ => rfl
  | c :: l, a, b, g, h => by
    rw [List.foldl_cons, h c (by simp)]
    exact gap_no l a b g fun c hc => h c (by simp [hc])
theorem gap_same (l : List Cl) (s : Int) : gapZ l s s = 0 := by
  refine gap_no l s s 0 fun c _ => ?_
  cases h : (pairB c s s && decide (c.k = 5) && vldZ c) with
  | false => rfl
  | true =>
    simp only [Bool.and_eq_true, decide_eq_true_eq] at h
    obtain ⟨⟨h1, h2⟩, h3⟩ := h
    unfold pairB at h1
    simp only [Bool.or_self, Bool.and_eq_true, decide_eq_true_eq] at h1
    unfold vldZ at h3
    rw [if_neg (by omega), if_neg (by omega), if_neg (by omega), if_pos h2] at h3
    simp only [Bool.and_eq_true, Bool.not_eq_true', decide_eq_false_iff_not] at h3
    exact absurd (h1.1.trans h1.2.symm) h3.1.1.2
theorem pair_sym (c : Cl) (a b : Int) : pairB c a b = pairB c b a := by
  unfold pairB
  rw [Bool.or_comm]
theorem gap_sym (l : List Cl) (a b : Int) : gapZ l a b = gapZ l b a := by
  unfold gapZ
  congr 1
  funext g c
  rw [pair_sym]
theorem gap_bd : ∀ (l : List Cl) (a b g : Int), 0 ≤ g ∧ g ≤ 86400 → 0 ≤ l.foldl (fun g c => if (pairB c a b && decide (c.k = 5) && vldZ c) = true then max g c.n else g) g ∧ l.foldl (fun g c => if (pairB c a b && decide (c.k = 5) && vldZ c) = true then max g c.n else g) g ≤ 86400
  | [], _, _, _, h => h
  | c :: l, a, b, g, h => by
    rw [List.foldl_cons]
    refine gap_bd l a b _ ?_
    split
    · rename_i hc
      simp only [Bool.and_eq_true, decide_eq_true_eq] at hc
      obtain ⟨⟨h1, h2⟩, h3⟩ := hc
      unfold vldZ at h3
      rw [if_neg (by omega), if_neg (by omega), if_neg (by omega), if_pos h2] at h3
      simp only [Bool.and_eq_true, frm_iff] at h3
      have := h3.1.2
      omega
    · exact h
theorem gapZ_bd (l : List Cl) (a b : Int) : 0 ≤ gapZ l a b ∧ gapZ l a b ≤ 86400 := gap_bd l a b 0 (by omega)

theorem gapP_same (P : Pl) (x : Int) : gapP P x x = 0 := by
  unfold gapP
  rw [gap_same]
  split
  · rename_i h
    obtain ⟨t, ht⟩ := Option.isSome_iff_exists.1 h
    obtain ⟨hm, -⟩ := Tc.rtOf_some ht
    obtain ⟨-, -, p3, -⟩ := rt_pos hm
    unfold Tc.frmF
    rw [ht]
    simp only []
    rw [if_pos (by omega)]
    have : (((0 : Int).toNat * t.num + t.den - 1) / t.den : Nat) = 0 := by
      rw [show (0 : Int).toNat * t.num + t.den - 1 = t.den - 1 by simp]
      exact Nat.div_eq_of_lt (by omega)
    rw [this]
    rfl
  · rfl
theorem gapP_sym (P : Pl) (x y : Int) : gapP P x y = gapP P y x := by
  unfold gapP
  rw [gap_sym]
theorem gapP_nn (P : Pl) (x y : Int) : 0 ≤ gapP P x y := by
  unfold gapP
  split
  · rename_i h
    obtain ⟨t, ht⟩ := Option.isSome_iff_exists.1 h
    have hb := gapZ_bd P.cls (spoZ P x) (spoZ P y)
    unfold Tc.frmF
    rw [ht]
    simp only []
    rw [if_pos (by omega)]
    exact Int.natCast_nonneg _
  · omega
end Go.Proofs.YtfannkpnmaeljaaGreatDoor

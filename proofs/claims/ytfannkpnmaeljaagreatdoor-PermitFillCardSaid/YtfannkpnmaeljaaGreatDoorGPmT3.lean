import Derived.Test.YtfannkpnmaeljaaGreatDoorGPm1
import Derived.Test.YtfannkpnmaeljaaGreatDoorGSpT3
import Derived.Test.YtfannkpnmaeljaaGreatDoorGPmT2
import Derived.Test.YtfannkpnmaeljaaGreatDoorGPm2
import Derived.Test.YtfannkpnmaeljaaGreatDoorGRiT1
set_option linter.unusedVariables false
set_option linter.unusedSimpArgs false
/- permit: what Allowed returns. -/
namespace Go.Proofs.YtfannkpnmaeljaaGreatDoor

def alwC (P : Pl) (id r f n : Int) : Bool := frB f && decide (1 ≤ n) && decide (n ≤ 1000000) && covZ (spnC P id r f (f + n)) (f, f + n)

theorem cov_all {l : List (Int × Int)} (hl : Asc l) {a b : Int} (hab : a < b) : covZ l (a, b) = true ↔ ∀ x, a ≤ x → x < b → hasZ l x = true := by
  have e : nrmZ l = l := asc_ext _ _ (nrmZ_asc l) hl (nrmZ_has l)
  unfold covZ
  rw [e, decide_eq_false (show ¬ b ≤ a by omega), Bool.false_or, List.any_eq_true]
  constructor
  · rintro ⟨s, hs, hc⟩ x h1 h2
    unfold covB at hc
    simp only [Bool.and_eq_true, decide_eq_true_eq] at hc
    exact hasZ_iff.2 ⟨s, hs, by omega, by omega⟩
  · intro h
    obtain ⟨s, hs, h1, h2⟩ := hasZ_iff.1 (h a (Int.le_refl _) hab)
    refine ⟨s, hs, ?_⟩
    unfold covB
    simp only [Bool.and_eq_true, decide_eq_true_eq]
    refine ⟨h1, ?_⟩
    rcases Int.lt_or_le s.2 b with hlt | hle
    · exfalso
      obtain ⟨t, ht, k1, k2⟩ := hasZ_iff.1 (h s.2 (by omega) hlt)
      have hs1 := hl.1 s hs
      have ht1 := hl.1 t ht
      rcases asc_two hl hs ht with rfl | h3 | h3 <;> omega
    · exact hle
theorem alw_iff (P : Pl) (id r f n : Int) : alwC P id r f n = true ↔ (0 ≤ f ∧ f ≤ 100000000) ∧ (1 ≤ n ∧ n ≤ 1000000) ∧ ∀ x, f ≤ x → x < f + n → perB P id r x = true := by
  unfold alwC frB
  simp only [Bool.and_eq_true, decide_eq_true_eq]
  constructor
  · rintro ⟨⟨⟨h1, h2⟩, h3⟩, h4⟩
    refine ⟨h1, ⟨h2, h3⟩, fun x hx hy => ?_⟩
    have := (cov_all (spnC_asc P id r f (f + n)) (by omega)).1 h4 x hx hy
    rw [spnC_has, Bool.and_eq_true] at this
    exact this.2
  · rintro ⟨h1, ⟨h2, h3⟩, h4⟩
    refine ⟨⟨⟨h1, h2⟩, h3⟩, (cov_all (spnC_asc P id r f (f + n)) (by omega)).2 fun x hx hy => ?_⟩
    have hp : ∀ y, f ≤ y → y < f + n → y ≤ 100000000 := fun y a b => by
      have h5 := h4 y a b
      unfold perB at h5
      split at h5
      · cases h5
      · simp only [Bool.and_eq_true, frB, decide_eq_true_eq] at h5
        omega
    have hz := hp (f + n - 1) (by omega) (by omega)
    rw [spnC_has, h4 x hx hy, decide_eq_true hx, decide_eq_true hy, clip_iff.2 (by omega)]
    rfl
end Go.Proofs.YtfannkpnmaeljaaGreatDoor

/- permit: Spans, Allowed. -/
namespace Go.Proofs.YtfannkpnmaeljaaGreatDoor
open Go.RowKit Go.Shelf

theorem spnC_len (P : Pl) (id r a b : Int) (hc : P.cls.length ≤ 20) : (spnC P id r a b).length ≤ 5000 := by
  unfold spnC
  split
  · simp
  · rename_i x _
    split
    · rename_i hcr
      rw [Bool.and_eq_true] at hcr
      have hk := clip_iff.1 hcr.1
      split
      · simp
      · split
        · rename_i hT
          have m1 := sec_mono hT (f := max a 0) (g := min b 100000001 - 1) (by omega) (by omega) (by omega)
          have m2 := sec_span hT (f := max a 0) (g := min b 100000001 - 1) (by omega) (by omega) (by omega) (by omega)
          have m3 := sec_in hT (f := max a 0) (by omega) (by omega)
          obtain ⟨-, -, e0, e1⟩ := tm_rt hT
          obtain ⟨h1, h2⟩ := sets_ok hT hc x r (F := secZ P (max a 0)) (T := secZ P (min b 100000001 - 1) + 1) (by unfold secZ; omega) (by unfold secZ; omega) (by unfold secZ; omega) (by unfold secZ; omega)
          have h3 := pre_len h1 h2 (List.prefix_refl _) (secZ P (max a 0), secZ P (min b 100000001 - 1) + 1)
          have h4 := int_len1 ((secsZ P x r (spnS P (max a 0) (min b 100000001))).map (frmP P)) [(max a 0, min b 100000001)]
          rw [List.length_map] at h4
          have h5 : (secsZ P x r (spnS P (max a 0) (min b 100000001))).length ≤ 2000 := h3
          simp only [List.length_cons, List.length_nil] at h4
          unfold resZ
          omega
        · simp
    · simp

set_option maxRecDepth 100000 in
set_option maxHeartbeats 4000000 in
theorem pspans_any (P : Pl) (q : Pq) (id r a b : Int) (w : World) (hP : PlAt w w.heap.size P q) (hF : Tc.FmtAt w) (a0 : -9223372036854775808 ≤ a) (a1 : a ≤ 9223372036854775807) (b0 : -9223372036854775808 ≤ b) (b1 : b ≤ 9223372036854775807) :
    Calls Tryz.prog 14 #[.agg (plL P q).toArray, iv id, iv r, .agg #[iv a, iv b]] w (Own w (spnC P id r a b)) := by
  obtain ⟨V, hV⟩ : ∃ V, spnC P id r a b = V := ⟨_, rfl⟩
  rw [hV]
  unfold spnC at hV
  have hfind := fun W (h : Below w.heap.size w W) => find_any P q id W (hP.into h)
  have hclip := fun W => clip_any a b W a0 a1 b0 b1
  have htm := fun W (h : Below w.heap.size w W) => timed_any P q W (hP.into h) (hF.below h)
  have hck := fun h => (clip_iff (a := a) (b := b)).1 h
  have hf0 : 0 ≤ max a 0 := by omega
  have ht0 : min b 100000001 ≤ 100000001 := by omega
  have hrs := fun W (h : Below w.heap.size w W) x (hT : tmZ P = true) (hc : clipB a b = true) => restricted_any P q x r (max a 0) (min b 100000001) W (hP.into h) (hF.below h) hT hf0 (hck hc).1 ht0 (hck hc).2
  clear hck hf0 ht0
  generalize clipB a b = c at *
  generalize max a 0 = F at *
  generalize min b 100000001 = T at *
  generalize fz P.its id = Z at *
  have HV := Lib.hid hV
  clear hV hP hF
  have hR := fun W => pRegion_any r W
  generalize regB r = rg at *
  go_enter Tryz.func14, Tryz.ntmps14
  go_wp2_with fail
  obtain ⟨W0, hW0, b0', z0, kP, kD⟩ : ∃ W0, (w.alloc (.cells (plL P q).toArray 32)).alloc (.cells #[iv a, iv b] 34) = W0 ∧ Below w.heap.size w W0 ∧ W0.heap.size = w.heap.size + 1 + 1 ∧
      Arr W0 w.heap.size 32 (plL P q) ∧ Arr W0 (w.heap.size + 1) 34 [iv a, iv b] :=
    ⟨_, rfl, ((Below.refl _ w).alloc (Nat.le_refl _) _).alloc (by simp) _, by simp, (Arr.new w _ (plL P q)).alloc _, Arr.new' _ [iv a, iv b] (by simp)⟩
  rw [hW0]; clear hW0
  obtain ⟨K, hK⟩ : ∃ K, w.heap.size = K := ⟨_, rfl⟩
  obtain ⟨D, hD⟩ : ∃ D, K + 1 = D := ⟨_, rfl⟩
  rw [hK] at kP kD z0 ⊢
  rw [hD] at kD z0 ⊢
  refine (hfind _ b0').mono ?_
  rintro e W1 ⟨rfl, b1'⟩
  have z1 := b1'.size
  have b01 := bthen b0' b1'
  obtain ⟨W2, hW2, b2, z2, kI⟩ := boxA W1 60 (itL (Z.getD It.zero))
  have b02 := bthen b01 b2
  have kP2 := (kP.below b1' (by omega)).below b2 (by omega)
  have kD2 := (kD.below b1' (by omega)).below b2 (by omega)
  have d0 := kD2.cell (i := 0) rfl
  have d1 := kD2.cell (i := 1) rfl
  go_wp2_with fail
  clear d0 d1 hW2
  refine (hclip _).mono ?_
  rintro e W3 ⟨rfl, b3⟩
  have z3 := b3.size
  have b03 := bthen b02 b3
  have kI3 := kI.below b3 (by omega)
  have kP3 := kP2.below b3 (by omega)
  obtain ⟨W4, hW4, b4, z4, kC⟩ := boxA W3 34 [iv F, iv T]
  have b04 := bthen b03 b4
  have kI4 := kI3.below b4 (by omega)
  have kP4 := kP3.below b4 (by omega)
  have hv := HV.out
  clear kP kD kI kI3 kP2 kP3 kD2 hfind hclip HV b0' b1' b2 b3 b01 b02 b03
  have fin0 : ∀ W', Below w.heap.size w W' → V = [] → ∃ v, Ending.returned (.slice none 0 0) = .returned v ∧ W'.ownsRow w.heap.size 34 2 v V.length (spv V) ∧ Below w.heap.size w W' := fun W' h e => by
    subst e
    exact ⟨_, rfl, World.ownsRow_nil _ _ _ _, h⟩
  have F0 := Lib.hid fin0
  clear fin0
  have e0 := kC.cell (i := 0) rfl
  have e1 := kC.cell (i := 1) rfl
  have i1 := kI4.cell (i := 1) rfl
  cases Z with
  | none =>
    have HV := Lib.hid (show V = [] from hv.symm)
    clear hv hrs htm hR
    go_wp2_with fail
    go_ret
    exact F0.out _ b04 HV.out
  | some x =>
    cases c with
    | false =>
      have HV := Lib.hid (show V = [] from hv.symm)
      clear hv hrs htm hR
      go_wp2_with fail
      go_ret
      exact F0.out _ b04 HV.out
    | true =>
      cases rg with
      | false =>
        have HV := Lib.hid (show V = [] from hv.symm)
        clear hv hrs htm
        go_wp2_with fail
        refine (hR _).mono ?_; rintro e w' ⟨rfl, rfl⟩
        go_wp2_with fail
        go_ret
        exact F0.out _ b04 HV.out
      | true =>
        cases e5 : (x.kd == 5) with
        | true =>
          have h5 : x.kd = 5 := by simpa using e5
          have HV := Lib.hid (show V = [(F, T)] by rw [← hv]; simp [h5])
          clear hv hrs htm
          go_wp2_with fail
          refine (hR _).mono ?_; rintro e w' ⟨rfl, rfl⟩
          go_wp2_with fail
          go_ret
          have hlit := World.ownsRow_lit (size := 2) (e := 34) W4 #[iv F, iv T] 1 b04.size (by decide) rfl
          rw [z4] at hlit
          refine ⟨.slice (some ⟨W3.heap.size + 1, 0, none⟩) 1 1, rfl, ?_, b04.alloc b04.size _⟩
          rw [HV.out]
          exact hlit
        | false =>
          have h5 : ¬ x.kd = 5 := by simpa using e5
          have hrs := hrs
          cases hT : tmZ P with
          | false =>
            have HV := Lib.hid (show V = [] by rw [← hv]; simp [h5, hT])
            rw [hT] at htm
            have c0 := kP4.cell (i := 0) rfl
            have c1 := kP4.cell (i := 1) rfl
            have c2 := kP4.cell (i := 2) rfl
            have c3 := kP4.cell (i := 3) rfl
            have c4 := kP4.cell (i := 4) rfl
            have c5 := kP4.cell (i := 5) rfl
            have c6 := kP4.cell (i := 6) rfl
            have c7 := kP4.cell (i := 7) rfl
            have c8 := kP4.cell (i := 8) rfl
            have c9 := kP4.cell (i := 9) rfl
            have c10 := kP4.cell (i := 10) rfl
            have c11 := kP4.cell (i := 11) rfl
            have c12 := kP4.cell (i := 12) rfl
            clear hv hrs
            go_wp2_with fail
            refine (hR _).mono ?_; rintro e w' ⟨rfl, rfl⟩
            go_wp2_with fail
            refine (htm _ b04).mono ?_
            rintro e W5 ⟨rfl, b5⟩
            go_wp2_with fail
            go_ret
            exact F0.out _ (bthen b04 b5) HV.out
          | true =>
            have hq := fun W (h : Below w.heap.size w W) => hrs W h x hT rfl
            have HV := Lib.hid (show V = resZ P x r F T by rw [← hv]; simp [h5, hT])
            rw [hT] at htm
            have c0 := kP4.cell (i := 0) rfl
            have c1 := kP4.cell (i := 1) rfl
            have c2 := kP4.cell (i := 2) rfl
            have c3 := kP4.cell (i := 3) rfl
            have c4 := kP4.cell (i := 4) rfl
            have c5 := kP4.cell (i := 5) rfl
            have c6 := kP4.cell (i := 6) rfl
            have c7 := kP4.cell (i := 7) rfl
            have c8 := kP4.cell (i := 8) rfl
            have c9 := kP4.cell (i := 9) rfl
            have c10 := kP4.cell (i := 10) rfl
            have c11 := kP4.cell (i := 11) rfl
            have c12 := kP4.cell (i := 12) rfl
            clear hv hrs
            go_wp2_with fail
            refine (hR _).mono ?_; rintro e w' ⟨rfl, rfl⟩
            go_wp2_with fail
            refine (htm _ b04).mono ?_
            rintro e W5 ⟨rfl, b5⟩
            have b05 := bthen b04 b5
            have kP5 := kP4.below b5 kP4.lt
            have kI5 := kI4.below b5 kI4.lt
            have kC5 := kC.below b5 kC.lt
            clear c0 c1 c2 c3 c4 c5 c6 c7 c8 c9 c10 c11 c12 e0 e1 i1
            have c0 := kP5.cell (i := 0) rfl
            have c1 := kP5.cell (i := 1) rfl
            have c2 := kP5.cell (i := 2) rfl
            have c3 := kP5.cell (i := 3) rfl
            have c4 := kP5.cell (i := 4) rfl
            have c5 := kP5.cell (i := 5) rfl
            have c6 := kP5.cell (i := 6) rfl
            have c7 := kP5.cell (i := 7) rfl
            have c8 := kP5.cell (i := 8) rfl
            have c9 := kP5.cell (i := 9) rfl
            have c10 := kP5.cell (i := 10) rfl
            have c11 := kP5.cell (i := 11) rfl
            have c12 := kP5.cell (i := 12) rfl
            have i0 := kI5.cell (i := 0) rfl
            have i1 := kI5.cell (i := 1) rfl
            have i2 := kI5.cell (i := 2) rfl
            have i3 := kI5.cell (i := 3) rfl
            have i4 := kI5.cell (i := 4) rfl
            have e0 := kC5.cell (i := 0) rfl
            have e1 := kC5.cell (i := 1) rfl
            clear htm hR
            go_wp2_with fail
            refine (hq _ b05).mono ?_
            rintro e W6 ⟨v6, rfl, o6, b6⟩
            clear c0 c1 c2 c3 c4 c5 c6 c7 c8 c9 c10 c11 c12 e0 e1 i0 i1 i2 i3 i4 hq
            go_wp2_with fail
            go_ret
            refine ⟨v6, rfl, ?_, bthen b05 b6⟩
            rw [HV.out]
            exact own_baseP o6 b05.size

set_option maxRecDepth 100000 in
set_option maxHeartbeats 4000000 in
theorem allowed_any (P : Pl) (q : Pq) (id r f n : Int) (w : World) (hP : PlAt w w.heap.size P q) (hF : Tc.FmtAt w) :
    Calls Tryz.prog 18 #[.agg (plL P q).toArray, iv id, iv r, iv f, iv n] w fun e w' => e = .returned (.bool (alwC P id r f n)) ∧ Below w.heap.size w w' := by
  obtain ⟨V, hV⟩ : ∃ V, alwC P id r f n = V := ⟨_, rfl⟩
  rw [hV]
  unfold alwC at hV
  have hfr := fun W => pFrame_any f W
  have hfi : frB f = true → 0 ≤ f ∧ f ≤ 100000000 := by unfold frB; simp
  have hsp := fun W (h : Below w.heap.size w W) (h0 : 0 ≤ f ∧ f ≤ 100000000) (h1 : 1 ≤ n ∧ n ≤ 1000000) => pspans_any P q id r f (f + n) W (hP.into h) (hF.below h) (by omega) (by omega) (by omega) (by omega)
  have hln := spnC_len P id r f (f + n) hP.lc
  generalize frB f = fb at *
  generalize spnC P id r f (f + n) = L at *
  clear hP hF
  cases fb with
  | false =>
    have HV := Lib.hid (show V = false from hV.symm)
    clear hV hsp hln
    go_enter Tryz.func18, Tryz.ntmps18
    go_wp2_with fail
    refine (hfr _).mono ?_; rintro e w' ⟨rfl, rfl⟩
    go_wp2_with fail
    go_ret
    exact ⟨by rw [HV.out]; rfl, (Below.refl _ w).alloc (Nat.le_refl _) _⟩
  | true =>
    have h0 := hfi rfl
    by_cases n1 : n < 1
    · have d1 : decide (n < 1) = true := decide_eq_true n1
      have HV := Lib.hid (show V = false by rw [← hV]; simp; omega)
      clear hV hsp hln
      go_enter Tryz.func18, Tryz.ntmps18
      go_wp2_with fail
      refine (hfr _).mono ?_; rintro e w' ⟨rfl, rfl⟩
      go_wp2_with fail
      go_ret
      exact ⟨by rw [HV.out]; rfl, (Below.refl _ w).alloc (Nat.le_refl _) _⟩
    · by_cases n2 : 1000000 < n
      · have d1 : decide (n < 1) = false := decide_eq_false n1
        have d2 : decide (1000000 < n) = true := decide_eq_true n2
        have HV := Lib.hid (show V = false by rw [← hV]; simp; omega)
        clear hV hsp hln
        go_enter Tryz.func18, Tryz.ntmps18
        go_wp2_with fail
        refine (hfr _).mono ?_; rintro e w' ⟨rfl, rfl⟩
        go_wp2_with fail
        go_ret
        exact ⟨by rw [HV.out]; rfl, (Below.refl _ w).alloc (Nat.le_refl _) _⟩
      · have d1 : decide (n < 1) = false := decide_eq_false n1
        have d2 : decide (1000000 < n) = false := decide_eq_false n2
        have d3 : ¬ 1000000 < n := n2
        have hw : IntKind.i64.wrap (f + n) = f + n := w64 (by omega) (by omega)
        have HV := Lib.hid (show V = covZ L (f, f + n) by rw [← hV]; simp; omega)
        have hsp := fun W h => hsp W h h0 (by omega)
        clear hV
        go_enter Tryz.func18, Tryz.ntmps18
        go_wp2_with fail
        refine (hfr _).mono ?_; rintro e w' ⟨rfl, rfl⟩
        go_wp2_with fail
        obtain ⟨W0, hW0, b0, z0, kP, kD⟩ : ∃ W0, (w.alloc (.cells (plL P q).toArray 32)).alloc (.cells #[iv f, iv (f + n)] 34) = W0 ∧ Below w.heap.size w W0 ∧ W0.heap.size = w.heap.size + 1 + 1 ∧
            Arr W0 w.heap.size 32 (plL P q) ∧ Arr W0 (w.heap.size + 1) 34 [iv f, iv (f + n)] :=
          ⟨_, rfl, ((Below.refl _ w).alloc (Nat.le_refl _) _).alloc (by simp) _, by simp, (Arr.new w _ (plL P q)).alloc _, Arr.new' _ [iv f, iv (f + n)] (by simp)⟩
        rw [hW0]; clear hW0
        obtain ⟨K, hK⟩ : ∃ K, w.heap.size = K := ⟨_, rfl⟩
        obtain ⟨D, hD⟩ : ∃ D, K + 1 = D := ⟨_, rfl⟩
        rw [hK] at kP kD z0 ⊢
        rw [hD] at kD z0 ⊢
        have hKl : K < W0.heap.size := by omega
        have hDl : D < W0.heap.size := by omega
        have hsp := fun W (h : Below W0.heap.size W0 W) => hsp W (bthen b0 h)
        have hst : W0.drew.cell? ⟨K, 0, none⟩ = some (iv P.ch) ∧ W0.drew.cell? ⟨K, 1, none⟩ = some (iv P.num) ∧ W0.drew.cell? ⟨K, 2, none⟩ = some (iv P.den) ∧ W0.drew.cell? ⟨K, 3, none⟩ = some (iv P.off) ∧ W0.drew.cell? ⟨K, 4, none⟩ = some (.slice q.ps P.sh.length q.cs) ∧ W0.drew.cell? ⟨K, 5, none⟩ = some (iv P.ep) ∧ W0.drew.cell? ⟨K, 6, none⟩ = some (iv P.rg) ∧ W0.drew.cell? ⟨K, 7, none⟩ = some (iv P.ln) ∧ W0.drew.cell? ⟨K, 8, none⟩ = some (iv P.fl) ∧ W0.drew.cell? ⟨K, 9, none⟩ = some (.slice q.pi P.its.length q.ci) ∧ W0.drew.cell? ⟨K, 10, none⟩ = some (.slice q.pe q.le q.ce) ∧ W0.drew.cell? ⟨K, 11, none⟩ = some (.slice q.pb q.lb q.cb) ∧ W0.drew.cell? ⟨K, 12, none⟩ = some (.slice q.pc P.cls.length q.cc) ∧ W0.drew.cell? ⟨D, 0, none⟩ = some (iv f) ∧ W0.drew.cell? ⟨D, 1, none⟩ = some (iv (f + n)) ∧ Below W0.heap.size W0 W0.drew := ⟨kP.cell (i := 0) rfl, kP.cell (i := 1) rfl, kP.cell (i := 2) rfl, kP.cell (i := 3) rfl, kP.cell (i := 4) rfl, kP.cell (i := 5) rfl, kP.cell (i := 6) rfl, kP.cell (i := 7) rfl, kP.cell (i := 8) rfl, kP.cell (i := 9) rfl, kP.cell (i := 10) rfl, kP.cell (i := 11) rfl, kP.cell (i := 12) rfl, kD.cell (i := 0) rfl, kD.cell (i := 1) rfl, (Below.refl _ _).drew⟩
        clear z0 kP kD
        go_wp2_with fail
        go_region_held3 (fun w' => w'.cell? ⟨K, 0, none⟩ = some (iv P.ch) ∧ w'.cell? ⟨K, 1, none⟩ = some (iv P.num) ∧ w'.cell? ⟨K, 2, none⟩ = some (iv P.den) ∧ w'.cell? ⟨K, 3, none⟩ = some (iv P.off) ∧ w'.cell? ⟨K, 4, none⟩ = some (.slice q.ps P.sh.length q.cs) ∧ w'.cell? ⟨K, 5, none⟩ = some (iv P.ep) ∧ w'.cell? ⟨K, 6, none⟩ = some (iv P.rg) ∧ w'.cell? ⟨K, 7, none⟩ = some (iv P.ln) ∧ w'.cell? ⟨K, 8, none⟩ = some (iv P.fl) ∧ w'.cell? ⟨K, 9, none⟩ = some (.slice q.pi P.its.length q.ci) ∧ w'.cell? ⟨K, 10, none⟩ = some (.slice q.pe q.le q.ce) ∧ w'.cell? ⟨K, 11, none⟩ = some (.slice q.pb q.lb q.cb) ∧ w'.cell? ⟨K, 12, none⟩ = some (.slice q.pc P.cls.length q.cc) ∧ w'.cell? ⟨D, 0, none⟩ = some (iv f) ∧ w'.cell? ⟨D, 1, none⟩ = some (iv (f + n)) ∧ Below W0.heap.size W0 w') (first | assumption | exact hst | exact keep15 (by assumption) hKl hDl (Nat.le_refl _) (b6.mono (by first | exact Nat.le_refl _ | (simp; done))) | exact keep15 (by assumption) hKl hDl (Nat.le_refl _) (b7.mono (by have e1 : W0.heap.size ≤ w6.heap.size := b6.size; exact e1)) | fail)
          (first | (go_at_call 14; (with_reducible refine Calls.mono (hsp _ (by assumption : _ ∧ _ ∧ _ ∧ _ ∧ _ ∧ _ ∧ _ ∧ _ ∧ _ ∧ _ ∧ _ ∧ _ ∧ _ ∧ _ ∧ _ ∧ Below W0.heap.size W0 _).2.2.2.2.2.2.2.2.2.2.2.2.2.2.2) ?_); rintro e w6 ⟨v6, rfl, o6, b6⟩; obtain ⟨p6, c6, rfl, hS6⟩ := own_sh o6; have hcv := covers_any p6 c6 L f (f + n) w6 hS6 (by omega)) | (go_at_call 49; refine hcv.mono ?_; rintro e w7 ⟨rfl, b7⟩) | fail)
        rename_i hHeld
        have b07 := hHeld.2.2.2.2.2.2.2.2.2.2.2.2.2.2.2
        clear hHeld hst b6 b7 hS6 hcv o6
        go_wp2_with fail
        go_ret
        exact ⟨by rw [HV.out]; rfl, bthen b0 b07⟩
end Go.Proofs.YtfannkpnmaeljaaGreatDoor

/- permit: Runs, Gap, Catchup. -/
namespace Go.Proofs.YtfannkpnmaeljaaGreatDoor
open Go.RowKit Go.Shelf

def isFill (P : Pl) (id : Int) : Bool := (fz P.its id).isSome && (((fz P.its id).getD It.zero).kd == 5)
def runP (P : Pl) (id r : Int) : Int := if isFill P id then -1 else lastZ P.cls 3 id r (-1)
def spoZ (P : Pl) (id : Int) : Int := ((fz P.its id).getD It.zero).sp
def gapP (P : Pl) (a b : Int) : Int := if (Tc.rtOf P.num P.den).isSome then Tc.frmF P.num P.den (gapZ P.cls (spoZ P a) (spoZ P b)) else 0
def lstB (f n : Int) : Bool := frB f && decide (1 ≤ n) && decide (n ≤ 100000001 - f)
def catP (P : Pl) (it r f n : Int) : Int × Int :=
  if lstB f n && !(lastZ P.cls 4 it r 0 == 0) && tmZ P then (secZ P (f + n - 1) + 1, secZ P (f + n - 1) + 1 + lastZ P.cls 4 it r 0) else (0, 0)

theorem last_bd : ∀ (l : List Cl) (z : Int), 0 ≤ z ∧ z ≤ 10000000000 → (∀ c ∈ l, vldZ c = true) → 0 ≤ l.foldl (fun n c => if c.k = 4 then c.n else n) z ∧ l.foldl (fun n c => if c.k = 4 then c.n else n) z ≤ 10000000000
  | [], _, h, _ => h
  | c :: l, z, h, hv => by
    rw [List.foldl_cons]
    refine last_bd l _ ?_ fun d hd => hv d (by simp [hd])
    split
    · rename_i hk
      have h1 := hv c (by simp)
      unfold vldZ at h1
      rw [if_neg (by omega), if_neg (by omega), if_pos hk] at h1
      simp only [Bool.and_eq_true, frm, decide_eq_true_eq] at h1
      omega
    · exact h
theorem cat_bd (l : List Cl) (it r : Int) : 0 ≤ lastZ l 4 it r 0 ∧ lastZ l 4 it r 0 ≤ 10000000000 := by
  unfold lastZ
  refine last_bd _ _ ⟨by omega, by omega⟩ fun c hc => ?_
  have := (List.mem_filter.1 hc).2
  unfold abtZ at this
  simp only [Bool.and_eq_true] at this
  exact this.2

set_option maxRecDepth 100000 in
set_option maxHeartbeats 2000000 in
theorem pruns_any (P : Pl) (q : Pq) (id r : Int) (w : World) (hP : PlAt w w.heap.size P q) :
    Calls Tryz.prog 16 #[.agg (plL P q).toArray, iv id, iv r] w fun e w' => e = .returned (iv (runP P id r)) ∧ Below w.heap.size w w' := by
  obtain ⟨V, hV⟩ : ∃ V, runP P id r = V := ⟨_, rfl⟩
  rw [hV]
  unfold runP isFill at hV
  have hfind := fun W (h : Below w.heap.size w W) => find_any P q id W (hP.into h)
  have hruns := fun W (h : Below w.heap.size w W) => runs_any q.pc q.cc P.cls id r W (hP.into h).cls (by have := hP.lc; omega)
  generalize (fz P.its id).isSome = ok at *
  generalize (fz P.its id).getD It.zero = X at *
  generalize lastZ P.cls 3 id r (-1) = R at *
  clear hP
  go_enter Tryz.func16, Tryz.ntmps16
  go_wp2_with fail
  obtain ⟨W0, hW0, b0, z0, kP⟩ := boxP w P q
  rw [hW0]; clear hW0
  refine (hfind _ b0).mono ?_
  rintro e W1 ⟨rfl, b1⟩
  have z1 := b1.size
  obtain ⟨W2, hW2, b2, z2, kI⟩ := boxA W1 60 (itL X)
  have b02 := bthen (bthen b0 b1) b2
  have kP2 := (kP.below b1 (by omega)).below b2 (by omega)
  have i1 := kI.cell (i := 1) rfl
  have c12 := kP2.cell (i := 12) rfl
  clear hfind kP kI kP2 b1 b2
  cases ok with
  | false =>
    have HV := Lib.hid (show V = R from hV.symm)
    clear hV
    go_wp2_with fail
    refine (hruns _ b02).mono ?_
    rintro e W3 ⟨rfl, b3⟩
    go_wp2_with fail
    go_ret
    exact ⟨by rw [HV.out]; rfl, bthen b02 b3⟩
  | true =>
    cases e5 : (X.kd == 5) with
    | true =>
      have HV := Lib.hid (show V = -1 by rw [← hV, e5]; rfl)
      clear hV hruns
      go_wp2_with fail
      go_ret
      exact ⟨by rw [HV.out]; rfl, b02⟩
    | false =>
      have HV := Lib.hid (show V = R by rw [← hV, e5]; rfl)
      clear hV
      go_wp2_with fail
      refine (hruns _ b02).mono ?_
      rintro e W3 ⟨rfl, b3⟩
      go_wp2_with fail
      go_ret
      exact ⟨by rw [HV.out]; rfl, bthen b02 b3⟩

theorem keep5 {W W' W'' : World} {A B C : Nat} {u v x y z : Value} {n : Nat} (hS : W'.cell? ⟨A, 1, none⟩ = some u ∧ W'.cell? ⟨A, 2, none⟩ = some v ∧ W'.cell? ⟨A, 12, none⟩ = some x ∧ W'.cell? ⟨B, 3, none⟩ = some y ∧ W'.cell? ⟨C, 3, none⟩ = some z ∧ Below n W W') (hA : A < W.heap.size) (hB : B < W.heap.size) (hC : C < W.heap.size) (hn : n ≤ W.heap.size) (bb : Below W.heap.size W' W'') :
    W''.cell? ⟨A, 1, none⟩ = some u ∧ W''.cell? ⟨A, 2, none⟩ = some v ∧ W''.cell? ⟨A, 12, none⟩ = some x ∧ W''.cell? ⟨B, 3, none⟩ = some y ∧ W''.cell? ⟨C, 3, none⟩ = some z ∧ Below n W W'' := by
  obtain ⟨h1, h2, h3, h4, h5, h6⟩ := hS
  exact ⟨(bb.cell (p := ⟨A, 1, none⟩) hA).trans h1, (bb.cell (p := ⟨A, 2, none⟩) hA).trans h2, (bb.cell (p := ⟨A, 12, none⟩) hA).trans h3, (bb.cell (p := ⟨B, 3, none⟩) hB).trans h4, (bb.cell (p := ⟨C, 3, none⟩) hC).trans h5, h6.trans (bb.mono hn)⟩

set_option maxRecDepth 100000 in
set_option maxHeartbeats 2000000 in
theorem pgap_any (P : Pl) (q : Pq) (x y : Int) (w : World) (hP : PlAt w w.heap.size P q) (hF : Tc.FmtAt w) :
    Calls Tryz.prog 20 #[.agg (plL P q).toArray, iv x, iv y] w fun e w' => e = .returned (iv (gapP P x y)) ∧ Below w.heap.size w w' := by
  obtain ⟨V, hV⟩ : ∃ V, gapP P x y = V := ⟨_, rfl⟩
  rw [hV]
  unfold gapP spoZ at hV
  have hval := fun W (h : Below w.heap.size w W) => Tc.valid_t P.num P.den W (hF.below h)
  have hf1 := fun W (h : Below w.heap.size w W) => find_any P q x W (hP.into h)
  have hf2 := fun W (h : Below w.heap.size w W) => find_any P q y W (hP.into h)
  have hgap := fun W (h : Below w.heap.size w W) => gap_any q.pc q.cc P.cls ((fz P.its x).getD It.zero).sp ((fz P.its y).getD It.zero).sp W (hP.into h).cls (by have := hP.lc; omega)
  have hfrm := fun W (h : Below w.heap.size w W) => Tc.frames_t P.num P.den (gapZ P.cls ((fz P.its x).getD It.zero).sp ((fz P.its y).getD It.zero).sp) W (hF.below h)
  generalize Tc.frmF P.num P.den (gapZ P.cls ((fz P.its x).getD It.zero).sp ((fz P.its y).getD It.zero).sp) = G at *
  generalize gapZ P.cls ((fz P.its x).getD It.zero).sp ((fz P.its y).getD It.zero).sp = g at *
  generalize (fz P.its x).isSome = o1 at *
  generalize (fz P.its y).isSome = o2 at *
  generalize (fz P.its x).getD It.zero = X at *
  generalize (fz P.its y).getD It.zero = Y at *
  generalize (Tc.rtOf P.num P.den).isSome = v at *
  clear hP hF
  cases v with
  | false =>
    have HV := Lib.hid (show V = 0 from hV.symm)
    clear hV hgap hfrm hf1 hf2
    go_enter Tryz.func20, Tryz.ntmps20
    go_wp2_with fail
    obtain ⟨W0, hW0, b0, z0, kP⟩ := boxP w P q
    rw [hW0]; clear hW0
    have c1 := kP.cell (i := 1) rfl
    have c2 := kP.cell (i := 2) rfl
    go_wp2_with fail
    refine (hval _ b0).mono ?_
    rintro e W1 ⟨rfl, b1⟩
    go_wp2_with fail
    go_ret
    exact ⟨by rw [HV.out]; rfl, bthen b0 b1⟩
  | true =>
    have HV := Lib.hid (show V = G from hV.symm)
    clear hV
    go_enter Tryz.func20, Tryz.ntmps20
    go_wp2_with fail
    obtain ⟨W0, hW0, b0, z0, kP⟩ := boxP w P q
    rw [hW0]; clear hW0
    have c1 := kP.cell (i := 1) rfl
    have c2 := kP.cell (i := 2) rfl
    go_wp2_with fail
    refine (hval _ b0).mono ?_
    rintro e W1 ⟨rfl, b1⟩
    have b01 := bthen b0 b1
    have kP1 := kP.below b1 kP.lt
    clear c1 c2 hval kP
    have c0 := kP1.cell (i := 0) rfl
    have c1 := kP1.cell (i := 1) rfl
    have c2 := kP1.cell (i := 2) rfl
    have c3 := kP1.cell (i := 3) rfl
    have c4 := kP1.cell (i := 4) rfl
    have c5 := kP1.cell (i := 5) rfl
    have c6 := kP1.cell (i := 6) rfl
    have c7 := kP1.cell (i := 7) rfl
    have c8 := kP1.cell (i := 8) rfl
    have c9 := kP1.cell (i := 9) rfl
    have c10 := kP1.cell (i := 10) rfl
    have c11 := kP1.cell (i := 11) rfl
    have c12 := kP1.cell (i := 12) rfl
    go_wp2_with fail
    refine (hf1 _ b01).mono ?_
    rintro e W2 ⟨rfl, b2⟩
    have b02 := bthen b01 b2
    have kP2 := kP1.below b2 kP1.lt
    clear c0 c1 c2 c3 c4 c5 c6 c7 c8 c9 c10 c11 c12 kP1 hf1
    obtain ⟨W3, hW3, b3, z3, kX⟩ := boxA W2 60 (itL X)
    have b03 := bthen b02 b3
    have kP3 := kP2.below b3 kP2.lt
    have c0 := kP3.cell (i := 0) rfl
    have c1 := kP3.cell (i := 1) rfl
    have c2 := kP3.cell (i := 2) rfl
    have c3 := kP3.cell (i := 3) rfl
    have c4 := kP3.cell (i := 4) rfl
    have c5 := kP3.cell (i := 5) rfl
    have c6 := kP3.cell (i := 6) rfl
    have c7 := kP3.cell (i := 7) rfl
    have c8 := kP3.cell (i := 8) rfl
    have c9 := kP3.cell (i := 9) rfl
    have c10 := kP3.cell (i := 10) rfl
    have c11 := kP3.cell (i := 11) rfl
    have c12 := kP3.cell (i := 12) rfl
    go_wp2_with fail
    refine (hf2 _ b03).mono ?_
    rintro e W4 ⟨rfl, b4⟩
    have b04 := bthen b03 b4
    have kP4 := kP3.below b4 kP3.lt
    have kX4 := kX.below b4 kX.lt
    clear c0 c1 c2 c3 c4 c5 c6 c7 c8 c9 c10 c11 c12 kP2 kP3 kX hf2 hW3 z3
    obtain ⟨B, hB⟩ : ∃ B, W2.heap.size = B := ⟨_, rfl⟩
    rw [hB] at kX4 ⊢
    obtain ⟨W5, hW5, b5, z5, kY⟩ := boxA W4 60 (itL Y)
    have b05 := bthen b04 b5
    have kP5 := kP4.below b5 kP4.lt
    have kX5 := kX4.below b5 kX4.lt
    obtain ⟨K, hK⟩ : ∃ K, w.heap.size = K := ⟨_, rfl⟩
    obtain ⟨C, hC⟩ : ∃ C, W4.heap.size = C := ⟨_, rfl⟩
    rw [hK] at kP5
    rw [hC] at kY z5
    have hKl : K < W5.heap.size := kP5.lt
    have hBl : B < W5.heap.size := kX5.lt
    have hCl : C < W5.heap.size := kY.lt
    have hgap := fun W (h : Below W5.heap.size W5 W) => hgap W (bthen b05 h)
    have hfrm := fun W (h : Below W5.heap.size W5 W) => hfrm W (bthen b05 h)
    have hst : W5.drew.cell? ⟨K, 1, none⟩ = some (iv P.num) ∧ W5.drew.cell? ⟨K, 2, none⟩ = some (iv P.den) ∧ W5.drew.cell? ⟨K, 12, none⟩ = some (.slice q.pc P.cls.length q.cc) ∧ W5.drew.cell? ⟨B, 3, none⟩ = some (iv X.sp) ∧ W5.drew.cell? ⟨C, 3, none⟩ = some (iv Y.sp) ∧ Below W5.heap.size W5 W5.drew :=
      ⟨kP5.cell (i := 1) rfl, kP5.cell (i := 2) rfl, kP5.cell (i := 12) rfl, kX5.cell (i := 3) rfl, kY.cell (i := 3) rfl, (Below.refl _ _).drew⟩
    clear z5
    go_wp2_with fail
    go_region_held3 (fun w' => w'.cell? ⟨K, 1, none⟩ = some (iv P.num) ∧ w'.cell? ⟨K, 2, none⟩ = some (iv P.den) ∧ w'.cell? ⟨K, 12, none⟩ = some (.slice q.pc P.cls.length q.cc) ∧ w'.cell? ⟨B, 3, none⟩ = some (iv X.sp) ∧ w'.cell? ⟨C, 3, none⟩ = some (iv Y.sp) ∧ Below W5.heap.size W5 w') (first | assumption | exact hst | exact keep5 (by assumption) hKl hBl hCl (Nat.le_refl _) (b6.mono (by first | exact Nat.le_refl _ | (simp; done))) | exact keep5 (by assumption) hKl hBl hCl (Nat.le_refl _) (b7.mono (by have e1 : W5.heap.size ≤ w6.heap.size := b6.size; exact e1)) | fail)
      (first | (go_at_call 51; (with_reducible refine Calls.mono (hgap _ (by assumption : _ ∧ _ ∧ _ ∧ _ ∧ _ ∧ Below W5.heap.size W5 _).2.2.2.2.2) ?_); rintro e w6 ⟨rfl, b6⟩) | (go_at_call 27; (with_reducible refine Calls.mono (hfrm _ (by assumption : _ ∧ _ ∧ _ ∧ _ ∧ _ ∧ Below W5.heap.size W5 _).2.2.2.2.2) ?_); rintro e w7 ⟨rfl, b7⟩) | fail)
    rename_i hHeld
    have b07 := hHeld.2.2.2.2.2
    clear hHeld hst b6 b7 hgap hfrm
    go_wp2_with fail
    go_ret
    exact ⟨by rw [HV.out]; rfl, bthen b05 b07⟩

abbrev arL (it r f n : Int) : List Value := [iv it, iv r, iv f, iv n]
set_option maxRecDepth 100000 in
set_option maxHeartbeats 2000000 in
theorem plast_any (it r f n : Int) (w : World) (f0 : -9223372036854775808 ≤ f) (f1 : f ≤ 9223372036854775807) (n0 : -9223372036854775808 ≤ n) (n1 : n ≤ 9223372036854775807) :
    Calls Tryz.prog 54 #[.agg (arL it r f n).toArray] w fun e w' => e = .returned (.tuple #[iv (if lstB f n then f + n - 1 else 0), .bool (lstB f n)]) ∧ Below w.heap.size w w' := by
  have hfr := fun W => pFrame_any f W
  have hfi : frB f = true → 0 ≤ f ∧ f ≤ 100000000 := by unfold frB; simp
  obtain ⟨V, hV⟩ : ∃ V, lstB f n = V := ⟨_, rfl⟩
  rw [hV]
  unfold lstB at hV
  generalize frB f = fb at *
  cases fb with
  | false =>
    obtain rfl : V = false := hV.symm
    clear hV hfi
    go_enter Tryz.func54, Tryz.ntmps54
    go_wp2_with fail
    obtain ⟨W0, hW0, b0, z0, kA⟩ := boxA w 46 (arL it r f n)
    have c2 := kA.cell (i := 2) rfl
    have c3 := kA.cell (i := 3) rfl
    rw [hW0]; clear hW0
    refine (hfr _).mono ?_; rintro e w' ⟨rfl, rfl⟩
    go_wp2_with fail
    exact bodyPost_ret (v := .tuple #[iv 0, .bool false]) (by simp [results, Tryz.results54, go_sem]) rfl ⟨rfl, b0⟩
  | true =>
    have h0 := hfi rfl
    have hw1 : IntKind.i64.wrap (100000000 - f) = 100000000 - f := w64 (by omega) (by omega)
    have hw2 : IntKind.i64.wrap (100000000 - f + 1) = 100000000 - f + 1 := w64 (by omega) (by omega)
    have hl : (100000000 - f + 1 < n) ↔ ¬ n ≤ 100000001 - f := by omega
    by_cases g1 : n < 1
    · obtain rfl : V = false := by rw [← hV]; simp; omega
      have d1 : decide (n < 1) = true := decide_eq_true g1
      clear hV hfi hl
      go_enter Tryz.func54, Tryz.ntmps54
      go_wp2_with fail
      obtain ⟨W0, hW0, b0, z0, kA⟩ := boxA w 46 (arL it r f n)
      have c2 := kA.cell (i := 2) rfl
      have c3 := kA.cell (i := 3) rfl
      rw [hW0]; clear hW0
      refine (hfr _).mono ?_; rintro e w' ⟨rfl, rfl⟩
      go_wp2_with fail
      exact bodyPost_ret (v := .tuple #[iv 0, .bool false]) (by simp [results, Tryz.results54, go_sem]) rfl ⟨rfl, b0⟩
    · have d1 : decide (n < 1) = false := decide_eq_false g1
      by_cases g2 : 100000000 - f + 1 < n
      · obtain rfl : V = false := by rw [← hV]; simp; omega
        have d2 : decide (100000000 - f + 1 < n) = true := decide_eq_true g2
        clear hV hfi hl
        go_enter Tryz.func54, Tryz.ntmps54
        go_wp2_with fail
        obtain ⟨W0, hW0, b0, z0, kA⟩ := boxA w 46 (arL it r f n)
        have c2 := kA.cell (i := 2) rfl
        have c3 := kA.cell (i := 3) rfl
        rw [hW0]; clear hW0
        refine (hfr _).mono ?_; rintro e w' ⟨rfl, rfl⟩
        go_wp2_with fail
        exact bodyPost_ret (v := .tuple #[iv 0, .bool false]) (by simp [results, Tryz.results54, go_sem]) rfl ⟨rfl, b0⟩
      · obtain rfl : V = true := by rw [← hV]; simp; omega
        have d2 : decide (100000000 - f + 1 < n) = false := decide_eq_false g2
        have hw3 : IntKind.i64.wrap (f + n) = f + n := w64 (by omega) (by omega)
        have hw4 : IntKind.i64.wrap (f + n - 1) = f + n - 1 := w64 (by omega) (by omega)
        clear hV hfi hl
        go_enter Tryz.func54, Tryz.ntmps54
        go_wp2_with fail
        obtain ⟨W0, hW0, b0, z0, kA⟩ := boxA w 46 (arL it r f n)
        have c2 := kA.cell (i := 2) rfl
        have c3 := kA.cell (i := 3) rfl
        rw [hW0]; clear hW0
        refine (hfr _).mono ?_; rintro e w' ⟨rfl, rfl⟩
        go_wp2_with fail
        exact bodyPost_ret (v := .tuple #[iv (f + n - 1), .bool true]) (by simp [results, Tryz.results54, go_sem]) rfl ⟨rfl, b0⟩

set_option maxRecDepth 100000 in
set_option maxHeartbeats 4000000 in
theorem pcatch_any (P : Pl) (q : Pq) (it r f n : Int) (w : World) (hP : PlAt w w.heap.size P q) (hF : Tc.FmtAt w) (f0 : -9223372036854775808 ≤ f) (f1 : f ≤ 9223372036854775807) (n0 : -9223372036854775808 ≤ n) (n1 : n ≤ 9223372036854775807) :
    Calls Tryz.prog 22 #[.agg (plL P q).toArray, .agg (arL it r f n).toArray] w fun e w' => e = .returned (.agg #[iv (catP P it r f n).1, iv (catP P it r f n).2]) ∧ Below w.heap.size w w' := by
  obtain ⟨V, hV⟩ : ∃ V, catP P it r f n = V := ⟨_, rfl⟩
  rw [hV]
  unfold catP at hV
  have hcat := fun W (h : Below w.heap.size w W) => catchup_any q.pc q.cc P.cls it r W (hP.into h).cls (by have := hP.lc; omega)
  have hlst := fun W => plast_any it r f n W f0 f1 n0 n1
  have htm := fun W (h : Below w.heap.size w W) => timed_any P q W (hP.into h) (hF.below h)
  have hlb : lstB f n = true → (0 ≤ f + n - 1 ∧ f + n - 1 ≤ 100000000) := by unfold lstB frB; simp; omega
  have hsec := fun W (h : Below w.heap.size w W) (ht : tmZ P = true) (hb : 0 ≤ f + n - 1 ∧ f + n - 1 ≤ 100000000) => second_any P q (f + n - 1) W (hF.below h) ht hb.1 hb.2
  have hsb := fun (ht : tmZ P = true) (hb : 0 ≤ f + n - 1 ∧ f + n - 1 ≤ 100000000) => sec_in ht hb.1 hb.2
  have hep := fun (ht : tmZ P = true) => (tm_rt ht).2.2
  have hcb := cat_bd P.cls it r
  generalize lastZ P.cls 4 it r 0 = c at *
  generalize lstB f n = lb at *
  clear hP hF
  obtain ⟨x, y⟩ := V
  dsimp only
  go_enter Tryz.func22, Tryz.ntmps22
  go_wp2_with fail
  have hi2 : (Tryz.prog.info? 34).map (·.size) = some 2 := by kernel_rfl
  obtain ⟨W0, hW0, b0, z0, kP, kA, kR⟩ : ∃ W0, ((w.alloc (.cells (plL P q).toArray 32)).alloc (.cells (arL it r f n).toArray 46)).alloc (.cells #[iv 0, iv 0] 34) = W0 ∧ Below w.heap.size w W0 ∧ W0.heap.size = w.heap.size + 1 + 1 + 1 ∧
      Arr W0 w.heap.size 32 (plL P q) ∧ Arr W0 (w.heap.size + 1) 46 (arL it r f n) ∧ Arr W0 (w.heap.size + 1 + 1) 34 [iv 0, iv 0] :=
    ⟨_, rfl, (((Below.refl _ w).alloc (Nat.le_refl _) _).alloc (by simp) _).alloc (by simp; omega) _, by simp, ((Arr.new w _ (plL P q)).alloc _).alloc _, (Arr.new' _ (arL it r f n) (by simp)).alloc _, Arr.new' _ [iv 0, iv 0] (by simp)⟩
  rw [hW0]; clear hW0
  obtain ⟨K, hK⟩ : ∃ K, w.heap.size = K := ⟨_, rfl⟩
  obtain ⟨I, hI⟩ : ∃ I, K + 1 = I := ⟨_, rfl⟩
  obtain ⟨D, hD⟩ : ∃ D, I + 1 = D := ⟨_, rfl⟩
  rw [hK] at kP kA kR z0 ⊢
  rw [hI] at kA kR z0 ⊢
  rw [hD] at kR z0 ⊢
  refine (hcat _ b0).mono ?_
  rintro e W1 ⟨rfl, b1⟩
  have z1 := b1.size
  have b01 := bthen b0 b1
  have kP1 := kP.below b1 kP.lt
  have kA1 := kA.below b1 kA.lt
  have kR1 := kR.below b1 kR.lt
  have a0 := kA1.cell (i := 0) rfl
  have a1 := kA1.cell (i := 1) rfl
  have a2 := kA1.cell (i := 2) rfl
  have a3 := kA1.cell (i := 3) rfl
  clear kP kA kR hcat z0 z1
  go_wp2_with fail
  refine (hlst _).mono ?_
  rintro e W2 ⟨rfl, b2⟩
  have b02 := bthen b01 b2
  have kP2 := kP1.below b2 kP1.lt
  have kR2 := kR1.below b2 kR1.lt
  clear a0 a1 a2 a3 hlst kP1 kA1 kR1
  have hwK : w.heap.size ≤ D := by omega
  cases lb with
  | false =>
    obtain ⟨rfl, rfl⟩ : x = 0 ∧ y = 0 := by simpa [eq_comm] using hV
    clear hV htm hsec hsb hep
    go_wp2_with (refine wpList_store_abs rfl 34 _ _ rfl D #[iv (0), iv (0)] rfl rfl 34 #[iv 0, iv 0] kR2 hi2 rfl (by simp [Value.oneCell']) ?_; intro W9 k9 b9 o9)
    have e0 := (show Arr W9 _ _ [iv (0), iv (0)] from k9).cell (i := 0) rfl
    have e1 := (show Arr W9 _ _ [iv (0), iv (0)] from k9).cell (i := 1) rfl
    exact bodyPost_ret (v := .agg #[iv (0), iv (0)]) (by simp [results, Tryz.results22, go_sem, e0, e1]) rfl ⟨rfl, b02.trans (b9.mono (by omega))⟩
  | true =>
    have hb := hlb rfl
    cases ec : (c == 0) with
    | true =>
      obtain ⟨rfl, rfl⟩ : x = 0 ∧ y = 0 := by simpa [ec, eq_comm] using hV
      clear hV htm hsec hsb hep
      go_wp2_with (refine wpList_store_abs rfl 34 _ _ rfl D #[iv (0), iv (0)] rfl rfl 34 #[iv 0, iv 0] kR2 hi2 rfl (by simp [Value.oneCell']) ?_; intro W9 k9 b9 o9)
      have e0 := (show Arr W9 _ _ [iv (0), iv (0)] from k9).cell (i := 0) rfl
      have e1 := (show Arr W9 _ _ [iv (0), iv (0)] from k9).cell (i := 1) rfl
      exact bodyPost_ret (v := .agg #[iv (0), iv (0)]) (by simp [results, Tryz.results22, go_sem, e0, e1]) rfl ⟨rfl, b02.trans (b9.mono (by omega))⟩
    | false =>
      have c0 := kP2.cell (i := 0) rfl
      have c1 := kP2.cell (i := 1) rfl
      have c2 := kP2.cell (i := 2) rfl
      have c3 := kP2.cell (i := 3) rfl
      have c4 := kP2.cell (i := 4) rfl
      have c5 := kP2.cell (i := 5) rfl
      have c6 := kP2.cell (i := 6) rfl
      have c7 := kP2.cell (i := 7) rfl
      have c8 := kP2.cell (i := 8) rfl
      have c9 := kP2.cell (i := 9) rfl
      have c10 := kP2.cell (i := 10) rfl
      have c11 := kP2.cell (i := 11) rfl
      have c12 := kP2.cell (i := 12) rfl
      cases hT : tmZ P with
      | false =>
        obtain ⟨rfl, rfl⟩ : x = 0 ∧ y = 0 := by simpa [ec, hT, eq_comm] using hV
        rw [hT] at htm
        clear hV hsec hsb hep
        go_wp2_with fail
        refine (htm _ b02).mono ?_
        rintro e W3 ⟨rfl, b3⟩
        have b03 := bthen b02 b3
        have kR3 := kR2.below b3 kR2.lt
        go_wp2_with (refine wpList_store_abs rfl 34 _ _ rfl D #[iv (0), iv (0)] rfl rfl 34 #[iv 0, iv 0] kR3 hi2 rfl (by simp [Value.oneCell']) ?_; intro W9 k9 b9 o9)
        have e0 := (show Arr W9 _ _ [iv (0), iv (0)] from k9).cell (i := 0) rfl
        have e1 := (show Arr W9 _ _ [iv (0), iv (0)] from k9).cell (i := 1) rfl
        exact bodyPost_ret (v := .agg #[iv (0), iv (0)]) (by simp [results, Tryz.results22, go_sem, e0, e1]) rfl ⟨rfl, b03.trans (b9.mono (by omega))⟩
      | true =>
        have hs := hsec
        have h1 := hsb hT hb
        have h2 := hep hT
        have hse : secZ P (f + n - 1) = P.ep + Tc.secF P.num P.den (f + n - 1) := rfl
        have hsec := fun W h => hsec W h hT hb
        rw [hT] at htm
        generalize secZ P (f + n - 1) = S at hsec hse hV
        obtain ⟨rfl, rfl⟩ : x = S + 1 ∧ y = S + 1 + c := by simpa [ec, hT, eq_comm] using hV
        have hw1 : IntKind.i64.wrap (S + 1) = S + 1 := w64 (by omega) (by omega)
        have hw2 : IntKind.i64.wrap (S + 1 + c) = S + 1 + c := w64 (by omega) (by omega)
        clear hV hs hse hsb hep
        go_wp2_with fail
        refine (htm _ b02).mono ?_
        rintro e W3 ⟨rfl, b3⟩
        have b03 := bthen b02 b3
        have kR3 := kR2.below b3 kR2.lt
        have kP3 := kP2.below b3 kP2.lt
        clear c0 c1 c2 c3 c4 c5 c6 c7 c8 c9 c10 c11 c12 htm
        have c0 := kP3.cell (i := 0) rfl
        have c1 := kP3.cell (i := 1) rfl
        have c2 := kP3.cell (i := 2) rfl
        have c3 := kP3.cell (i := 3) rfl
        have c4 := kP3.cell (i := 4) rfl
        have c5 := kP3.cell (i := 5) rfl
        have c6 := kP3.cell (i := 6) rfl
        have c7 := kP3.cell (i := 7) rfl
        have c8 := kP3.cell (i := 8) rfl
        have c9 := kP3.cell (i := 9) rfl
        have c10 := kP3.cell (i := 10) rfl
        have c11 := kP3.cell (i := 11) rfl
        have c12 := kP3.cell (i := 12) rfl
        go_wp2_with fail
        refine (hsec _ b03).mono ?_
        rintro e W4 ⟨rfl, b4⟩
        have b04 := bthen b03 b4
        have kR4 := kR3.below b4 kR3.lt
        clear c0 c1 c2 c3 c4 c5 c6 c7 c8 c9 c10 c11 c12 hsec
        go_wp2_with (refine wpList_store_abs rfl 34 _ _ rfl D #[iv (S + 1), iv (S + 1 + c)] rfl rfl 34 #[iv 0, iv 0] kR4 hi2 rfl (by simp [Value.oneCell']) ?_; intro W9 k9 b9 o9)
        have e0 := (show Arr W9 _ _ [iv (S + 1), iv (S + 1 + c)] from k9).cell (i := 0) rfl
        have e1 := (show Arr W9 _ _ [iv (S + 1), iv (S + 1 + c)] from k9).cell (i := 1) rfl
        exact bodyPost_ret (v := .agg #[iv (S + 1), iv (S + 1 + c)]) (by simp [results, Tryz.results22, go_sem, e0, e1]) rfl ⟨rfl, b04.trans (b9.mono (by omega))⟩
end Go.Proofs.YtfannkpnmaeljaaGreatDoor

/- permit's statements: the fixed examples. -/
namespace Go.Proofs.YtfannkpnmaeljaaGreatDoor
open Go.RowKit Go.Shelf

def exI : List It := [⟨1, 5, 10, 0, 0⟩, ⟨12, 1, 100, 3, 2⟩, ⟨13, 2, 50, 7, 0⟩]
def exC : List Cl := [⟨1, 12, 1010, 1020, 255, 0, 0, 0⟩, ⟨1, 13, 1010, 1020, 1, 0, 0, 0⟩, ⟨5, 0, 0, 0, 0, 2, 3, 7⟩]
def exP : Pl := ⟨0, 25, 1, 0, [], 1000, 0, 0, 0, exI, exC⟩
def exD : List Cl := exC ++ [⟨6, 0, 1020, 21600, 0, 0, 2, 0⟩, ⟨4, 13, 0, 0, 1, 7, 0, 0⟩]
def exQ : Pl := ⟨0, 25, 1, 0, [], 1000, 0, 0, 0, exI, exD⟩

theorem ex_s1 : spnC exP 12 1 0 1000 = [(250, 500)] := by decide +kernel
theorem ex_s2 : spnC exQ 12 0 0 1000 = [] := by decide +kernel
theorem ex_s3 : spnC exP 13 1 0 1000 = [] := by decide +kernel
theorem ex_a1 : alwC exP 12 0 480 20 = true := by decide +kernel
theorem ex_a2 : alwC exP 12 0 480 21 = false := by decide +kernel
theorem ex_a3 : alwC exP 1 5 0 10 = true := by decide +kernel
theorem ex_g1 : gapP exP 12 13 = 50 := by decide +kernel
theorem ex_g2 : gapP exP 12 12 = 0 := by decide +kernel
theorem ex_r : runP exP 12 0 = -1 := by decide +kernel
theorem ex_c : catP exQ 13 0 250 50 = (1012, 1019) := by decide +kernel

/-! ### Lists in blocks of their own -/
def itv (l : List It) : List Value := l.flatMap itL
def clw (l : List Cl) : List Value := l.flatMap Cl.vs
theorem itv_get : ∀ {l : List It} {i j : Nat}, i < l.length → j < 5 → (itv l)[i * 5 + j]? = some (iv ((l.getD i It.zero).get j))
  | [], i, j, h, _ => by cases h
  | c :: l, 0, j, _, hj => by
    show (itL c ++ itv l)[0 * 5 + j]? = _
    rw [List.getElem?_append_left (by simp; omega), Nat.zero_mul, Nat.zero_add]
    rcases (by omega : j = 0 ∨ j = 1 ∨ j = 2 ∨ j = 3 ∨ j = 4) with rfl | rfl | rfl | rfl | rfl <;> rfl
  | c :: l, i + 1, j, h, hj => by
    show (itL c ++ itv l)[(i + 1) * 5 + j]? = _
    rw [List.getElem?_append_right (by simp; omega), show (i + 1) * 5 + j - (itL c).length = i * 5 + j by simp; omega, itv_get (by simpa using h) hj]
    rfl
theorem clw_get : ∀ {l : List Cl} {i j : Nat}, i < l.length → j < 8 → (clw l)[i * 8 + j]? = some (iv ((l.getD i Cl.zero).get j))
  | [], i, j, h, _ => by cases h
  | c :: l, 0, j, _, hj => by
    show (c.vs ++ clw l)[0 * 8 + j]? = _
    rw [List.getElem?_append_left (by simp [Cl.vs]; omega), Nat.zero_mul, Nat.zero_add]
    rcases (by omega : j = 0 ∨ j = 1 ∨ j = 2 ∨ j = 3 ∨ j = 4 ∨ j = 5 ∨ j = 6 ∨ j = 7) with rfl | rfl | rfl | rfl | rfl | rfl | rfl | rfl <;> rfl
  | c :: l, i + 1, j, h, hj => by
    show (c.vs ++ clw l)[(i + 1) * 8 + j]? = _
    rw [List.getElem?_append_right (by simp [Cl.vs]; omega), show (i + 1) * 8 + j - c.vs.length = i * 8 + j by simp [Cl.vs]; omega, clw_get (by simpa using h) hj]
    rfl
theorem ItAt.of_arr {w : World} {B : Nat} {t : TypeId} {l : List It} (h : Arr w B t (itv l)) : ItAt w w.heap.size (some ⟨B, 0, none⟩) l := fun i hi => ⟨B, 0, rfl, h.lt, fun j hj => by rw [Nat.zero_add]; exact h.cell (itv_get hi hj)⟩
theorem ClAt.of_arr {w : World} {B : Nat} {t : TypeId} {l : List Cl} (h : Arr w B t (clw l)) : ClAt w w.heap.size (some ⟨B, 0, none⟩) l := fun i hi => ⟨B, 0, rfl, h.lt, fun j hj => by rw [Nat.zero_add]; exact h.cell (clw_get hi hj)⟩

set_option maxRecDepth 100000 in
set_option maxHeartbeats 2000000 in
theorem example_any (w : World) : Calls Tryz.prog 36 #[] w fun e w' => ∃ q, e = .returned (.agg (plL exP q).toArray) ∧ PlAt w' w'.heap.size exP q ∧ Below w.heap.size w w' := by
  go_enter Tryz.func36, Tryz.ntmps36
  go_wp2_with fail
  obtain ⟨q, hq⟩ : ∃ q : Pq, q = ⟨none, 0, some ⟨w.heap.size + 1, 0, none⟩, 3, none, 0, 0, none, 0, 0, some ⟨w.heap.size + 1 + 1 + 1, 0, none⟩, 3⟩ := ⟨_, rfl⟩
  obtain ⟨WF, hWF, bF, kR, kI, kC⟩ : ∃ WF, (((w.alloc (.cells (plL exP q).toArray 32)).alloc (.cells (itv exI).toArray 60)).alloc (.cells (plL exP q).toArray 32)).alloc (.cells (clw exC).toArray 53) = WF ∧ Below w.heap.size w WF ∧
      Arr WF w.heap.size 32 (plL exP q) ∧ Arr WF (w.heap.size + 1) 60 (itv exI) ∧ Arr WF (w.heap.size + 1 + 1 + 1) 53 (clw exC) :=
    ⟨_, rfl, ((((Below.refl _ w).alloc (Nat.le_refl _) _).alloc (by simp) _).alloc (by simp; omega) _).alloc (by simp; omega) _, (((Arr.new w _ (plL exP q)).alloc _).alloc _).alloc _, ((Arr.new' _ (itv exI) (by simp)).alloc _).alloc _, Arr.new' _ (clw exC) (by simp)⟩
  rw [show ((((w.alloc _).alloc _).alloc _).alloc _) = WF by rw [← hWF, hq]; rfl]
  have e0 := kR.cell (i := 0) rfl
  have e1 := kR.cell (i := 1) rfl
  have e2 := kR.cell (i := 2) rfl
  have e3 := kR.cell (i := 3) rfl
  have e4 := kR.cell (i := 4) rfl
  have e5 := kR.cell (i := 5) rfl
  have e6 := kR.cell (i := 6) rfl
  have e7 := kR.cell (i := 7) rfl
  have e8 := kR.cell (i := 8) rfl
  have e9 := kR.cell (i := 9) rfl
  have e10 := kR.cell (i := 10) rfl
  have e11 := kR.cell (i := 11) rfl
  have e12 := kR.cell (i := 12) rfl
  have hP : PlAt WF WF.heap.size exP q := by
    rw [hq]
    exact ⟨ShAt.nil _ _ _, ItAt.of_arr kI, ClAt.of_arr kC, by decide, by decide, by decide⟩
  exact bodyPost_ret (v := .agg (plL exP q).toArray) (by simp [results, Tryz.results36, go_sem, e0, e1, e2, e3, e4, e5, e6, e7, e8, e9, e10, e11, e12]) rfl ⟨q, rfl, hP, bF⟩
end Go.Proofs.YtfannkpnmaeljaaGreatDoor

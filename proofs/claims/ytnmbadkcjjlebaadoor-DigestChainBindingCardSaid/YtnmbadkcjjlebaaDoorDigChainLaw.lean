/- DigestChainBinding: the walk. -/
import Derived.Test.YtnmbadkcjjlebaaDoorDigSame
import Derived.Deep.RegionHeldLaw
namespace Go.Proofs.YtnmbadkcjjlebaaDoor
open Go.RowKit

theorem strR_small : ∀ (l : List ByteArray), (∀ x ∈ l, x.size ≤ 60) → ∀ x ∈ strR l, x.size ≤ 93
  | [], _, x, hx => by simp [strR] at hx
  | y :: r, h, x, hx => by
    rw [strR] at hx
    rcases List.mem_cons.1 hx with rfl | hx
    · have := h y (by simp)
      rw [ByteArray.size_append, ByteArray.size_append, headR_size, show (⟨#[2]⟩ : ByteArray).size = 1 from rfl]; omega
    · exact strR_small r (fun z hz => h z (by simp [hz])) x hx
theorem cv_at (W : World) (g : Nat) (h : W.heap[g]? = some (.cells (u8s (List.replicate 32 0)).toArray 5 (0, 0))) : Sem.run Tryd.prog (convert 40 9 (.slice (some ⟨g, 0, none⟩) 32 32)) W = .ok (.string zero32) W :=
  strOf_u8s (n₀ := g) (k := 32) (xs := List.replicate 32 0) rfl ⟨rfl, .inr ⟨g, 32, _, rfl, Nat.le_refl _, h, Nat.le_refl _, by unfold maxLen; omega, rfl, rfl⟩⟩

/-- What the law asks where the heads agree. -/
theorem chain_long {A B : List ByteArray} (h : headR A.reverse = headR B.reverse) (hne : A ≠ B) :
    collZ (strR A.reverse) (strR B.reverse) = true ∨ (A.length ≠ B.length ∧ ∃ s, (longR (strR A.reverse) (strR B.reverse))[min A.length B.length]? = some s ∧ sumZ s = zero32) := by
  have := chain_bind A.reverse B.reverse h (fun h => hne (List.reverse_inj.1 h))
  rw [List.length_reverse, List.length_reverse] at this
  exact this

theorem bneF' {a b : Int} (h : a = b) : (a != b) = false := by rw [h]; simp

set_option maxRecDepth 100000 in
set_option maxHeartbeats 4000000 in
theorem chain_law (aa bz : List ByteArray) (p q : Option Addr) (cp cq : Nat) (w : World) (hla : aa.length ≤ 9223372036854775807) (hlb : bz.length ≤ 9223372036854775807) (hp : StrsAt w p aa) (hq : StrsAt w q bz) (hsa : ∀ s ∈ aa, s.size ≤ 9223372036854775807) (hsb : ∀ s ∈ bz, s.size ≤ 9223372036854775807) (hK : Keyed w) :
    Calls Tryd.prog 7 #[.slice p aa.length cp, .slice q bz.length cq] w fun e w' => e = .returned (.bool true) ∧ Below w.heap.size w w' := by
  have hsane := sane_any w hK
  have hF1 := fun W (hb : Below w.heap.size w W) => few_any aa 20 (by omega) p cp W hla (hp.below hb) hsa
  have hF2 := fun W (hb : Below w.heap.size w W) => few_any bz 20 (by omega) q cq W hlb (hq.below hb) hsb
  have hKb := fun W (hb : Below w.heap.size w W) => hK.below hb
  clear hp hq hsa hsb hla hlb
  have lA : (fewZ aa 20).length ≤ 20 := by rw [fewZ_len]; omega
  have lB : (fewZ bz 20).length ≤ 20 := by rw [fewZ_len]; omega
  have zA := fewZ_size aa 20
  have zB := fewZ_size bz 20
  generalize fewZ aa 20 = A at *
  generalize fewZ bz 20 = B at *
  have smX := strR_small A.reverse (fun x hx => zA x (List.mem_reverse.1 hx))
  have smY := strR_small B.reverse (fun x hx => zB x (List.mem_reverse.1 hx))
  have lX : (strR A.reverse).length = A.length := by rw [strR_len, List.length_reverse]
  have lY : (strR B.reverse).length = B.length := by rw [strR_len, List.length_reverse]
  have hcl := fun h hne => chain_long (A := A) (B := B) h hne
  have sH := headR_size A.reverse
  go_enter Tryd.func7, Tryd.ntmps7
  go_wp2_with fail
  refine hsane.mono ?_
  rintro e w1 ⟨rfl, b1⟩
  go_wp2_with fail
  with_reducible refine Calls.mono (hF1 _ b1) ?_
  rintro e w2 ⟨v2, rfl, own2, b2⟩
  obtain ⟨p2, c2, rfl, cl2, cm2, st2⟩ := own_strs rfl own2
  have B2 := bthen b1 b2
  go_wp2_with fail
  with_reducible refine Calls.mono (hF2 _ B2) ?_
  rintro e w3 ⟨v3, rfl, own3, b3⟩
  obtain ⟨p3, c3, rfl, cl3, cm3, st3⟩ := own_strs rfl own3
  have B3 := bthen B2 b3
  have st2 := st2.below b3
  clear own2 own3 hF1 hF2 hsane
  have hH1 := heads_any A p2 c2 w3 lA st2 zA (hKb _ B3)
  go_wp2_with fail
  with_reducible refine Calls.mono hH1 ?_
  rintro e w4 ⟨v4, rfl, own4, b4⟩
  obtain ⟨p4, c4, rfl, cl4, cm4, st4⟩ := own_strs rfl own4
  have B4 := bthen B3 b4
  have st2 := st2.below b4
  have st3 := st3.below b4
  have hH2 := heads_any B p3 c3 w4 lB st3 zB (hKb _ B4)
  go_wp2_with fail
  with_reducible refine Calls.mono hH2 ?_
  rintro e w5 ⟨v5, rfl, own5, b5⟩
  obtain ⟨p5, c5, rfl, cl5, cm5, st5⟩ := own_strs rfl own5
  have B5 := bthen B4 b5
  have st2 := st2.below b5
  have st3 := st3.below b5
  have st4 := st4.below b5
  clear own4 own5 hH1 hH2
  have hSame := same_any A B p2 p3 c2 c3 w5 (by omega) (by omega) st2 st3
  go_wp2_with fail
  with_reducible refine Calls.mono hSame ?_
  rintro e w8 ⟨rfl, b8⟩
  have B8 := bthen B5 b8
  have st4 := st4.below b8
  have st5 := st5.below b8
  clear hSame
  obtain ⟨X, hX⟩ : ∃ X, strR A.reverse = X := ⟨_, rfl⟩
  obtain ⟨Y, hY⟩ : ∃ Y, strR B.reverse = Y := ⟨_, rfl⟩
  obtain ⟨h1, hh1⟩ : ∃ h1, headR A.reverse = h1 := ⟨_, rfl⟩
  obtain ⟨h2, hh2⟩ : ∃ h2, headR B.reverse = h2 := ⟨_, rfl⟩
  rw [hX, hY, hh1, hh2] at hcl
  rw [hX] at smX lX st4 cl4
  rw [hY] at smY lY st5 cl5
  rw [hh1] at sH ⊢
  rw [hh2]
  have d32 : ((h1.size : Int) != 32) = false := by rw [sH]; rfl
  have d32' : ((h1.size : Int) == 32) = true := by rw [sH]; rfl
  by_cases hAB : A = B
  · have hhh : h1 = h2 := by rw [← hh1, ← hh2, hAB]
    rw [decide_eq_true hAB]
    clear hcl hh1 hh2 hX hY
    subst hhh
    have e2 : (h1.toList != h1.toList) = false := by simp
    go_wp2
    go_ret
    exact ⟨rfl, B8⟩
  · rw [decide_eq_false hAB]
    cases hxy : strEq h1 h2 with
    | false =>
      have e1 : (h1.toList == h2.toList) = false := hxy
      have e2 : (h1.toList != h2.toList) = true := by rw [bne, e1]; rfl
      clear hcl hh1 hh2 hX hY hxy
      go_wp2
      go_ret
      exact ⟨rfl, B8⟩
    | true =>
      have hc := hcl (strEq_iff.1 hxy) hAB
      have e1 : (h1.toList == h2.toList) = true := hxy
      have e2 : (h1.toList != h2.toList) = false := by rw [bne, e1]; rfl
      have hCol := fun W (hb : Below w8.heap.size w8 W) => collide_any X Y p4 p5 c4 c5 W (by omega) (by omega) (st4.below hb) (st5.below hb) (fun x hx => by have := smX x hx; omega) (fun x hx => by have := smY x hx; omega) (hKb _ (bthen B8 hb))
      rw [lX, lY] at hCol
      have HCol := Lib.hid hCol
      clear hCol hcl hh1 hh2 hX hY hxy
      rcases (by omega : A.length = B.length ∨ A.length < B.length ∨ B.length < A.length) with hlen | hlen | hlen
      · have hcc : collZ X Y = true := by
          rcases hc with hc | ⟨hc, _⟩
          · exact hc
          · omega
        have HCol := HCol.out
        rw [hcc] at HCol
        have f1 : decide ((A.length : Int) < (B.length : Int)) = false := decide_eq_false (by omega)
        have f1' : decide (A.length < B.length) = false := decide_eq_false (by omega)
        have f2 : ((A.length : Int) != (B.length : Int)) = false := bneF' (by omega)
        have f3 : ((A.length : Int) == (B.length : Int)) = true := by rw [beq_iff_eq]; omega
        clear hc hcc hlen
        go_wp2_with fail
        go_quiet (fail)
        go_wp2_with fail
        with_reducible refine Calls.mono (HCol _ (below_drewN (Below.refl _ _) _)) ?_; rintro e w9 ⟨rfl, b9⟩
        go_wp2
        go_ret
        exact ⟨rfl, bthen B8 ((below_drewN (Below.refl w8.heap.size w8) nq).trans (b9.mono (Nat.le_refl _)))⟩
      · obtain ⟨m, hm⟩ : ∃ m, A.length = m := ⟨_, rfl⟩
        obtain ⟨lb, lo, hpe, hcell⟩ := st5 m (by omega)
        subst hpe
        obtain ⟨s0, hs0⟩ : ∃ s0, Y[m]'(by omega) = s0 := ⟨_, rfl⟩
        have hmem : s0 ∈ Y := by rw [← hs0]; exact List.getElem_mem _
        have hsz0 := smY s0 hmem
        rw [hs0] at hcell
        have hclt : lb < w8.heap.size := cell_lt' hcell
        have hcz : collZ X Y = true ∨ sumZ s0 = zero32 := by
          rcases hc with hc | ⟨_, s1, h1, h2⟩
          · exact .inl hc
          · refine .inr ?_
            have hmin : min A.length B.length = m := by omega
            have hlong : longR X Y = Y := by unfold longR; rw [if_pos (by omega)]
            rw [hmin, hlong, List.getElem?_eq_getElem (by omega), hs0] at h1
            rw [Option.some.inj h1]; exact h2
        have HSm : Hid (∀ W, (W.cell? ⟨lb, lo + m, none⟩ = some (.string s0) ∧ Below w8.heap.size w8 W) → Calls Tryd.prog 25 #[.string s0] W fun e w' => e = .returned (.string (sumZ s0)) ∧ Below W.heap.size W w') := Lib.hid (fun W h => Sum_any s0 W (by omega) (hKb _ (bthen B8 h.2)))
        have HColS : Hid (∀ W, (W.cell? ⟨lb, lo + m, none⟩ = some (.string s0) ∧ Below w8.heap.size w8 W) → Calls Tryd.prog 23 #[.slice p4 A.length c4, .slice (some ⟨lb, lo, none⟩) B.length c5] W fun e w' => e = .returned (.bool (collZ X Y)) ∧ Below w8.heap.size w8 w') := Lib.hid (fun W h => Calls.mono (HCol.out W h.2) (fun _ _ k => ⟨k.1, h.2.trans (k.2.mono h.2.size)⟩))
        have hmk := run_make32
        have hcv := run_zero32
        have hcvG := cv_at
        obtain ⟨Z, hZe⟩ : ∃ Z, strEq (sumZ s0) zero32 = Z := ⟨_, rfl⟩
        have hczB : collZ X Y = true ∨ Z = true := by
          rcases hcz with h | h
          · exact .inl h
          · exact .inr (by rw [← hZe, h]; exact strEq_refl _)
        generalize sumZ s0 = q0 at *
        generalize zero32 = z32 at *
        generalize (u8s (List.replicate 32 0)).toArray = c32 at *
        have hq : (q0.toList == z32.toList) = Z := hZe
        generalize collZ X Y = CC at *
        have f1 : decide ((A.length : Int) < (B.length : Int)) = true := decide_eq_true (by omega)
        have f1' : decide (A.length < B.length) = true := decide_eq_true (by omega)
        have f1b : decide ((B.length : Int) < (A.length : Int)) = false := decide_eq_false (by omega)
        have f1b' : decide (B.length < A.length) = false := decide_eq_false (by omega)
        have f2 : ((A.length : Int) != (B.length : Int)) = true := by rw [bne_iff_ne]; omega
        have f3 : ((A.length : Int) == (B.length : Int)) = false := by rw [beq_eq_false_iff_ne]; omega
        have f4 : min (A.length : Int) (B.length : Int) = (m : Int) := by omega
        have f5 : (if (B.length : Int) < (A.length : Int) then (B.length : Int) else (A.length : Int)) = (m : Int) := by split <;> omega
        have j0 : (0 : Int) ≤ (m : Int) := by omega
        have j1 : (m : Int) < (B.length : Int) := by omega
        have HM := Lib.hid hm
        have HCZ := Lib.hid hczB
        clear hcz hczB hc hs0 hmem hlen hZe HCol lX lY smX smY hm
        have hM : Below w8.heap.size w8 (w8.alloc (.cells c32 5)).drew := ((Below.refl _ w8).alloc (Nat.le_refl _) _).drew
        have hMat : (w8.alloc (.cells c32 5)).drew.heap[w8.heap.size]? = some (.cells c32 5 (0, 0)) := heap_alloc_new w8 _
        have hMlt : w8.heap.size < (w8.alloc (.cells c32 5)).drew.heap.size := by show w8.heap.size < (w8.alloc _).heap.size; simp
        have hcvM := hcvG _ _ hMat
        have hS8 : w8.drew.cell? ⟨lb, lo + m, none⟩ = some (.string s0) ∧ Below w8.heap.size w8 w8.drew := ⟨hcell, (Below.refl _ w8).drew⟩
        go_wp2_with fail
        go_region_held_law (fun w' => w'.cell? ⟨lb, lo + m, none⟩ = some (.string s0) ∧ Below w8.heap.size w8 w') (first | assumption | exact hS8 | exact heldAlloc (a := ⟨lb, lo + m, none⟩) hclt (by assumption) _ | exact ⟨(hx5b.cell (p := ⟨lb, lo + m, none⟩) hclt).trans hcell, hx5b⟩ | fail)
          (first | (go_at_call 25; with_reducible refine Calls.mono (HSm.out _ (by assumption)) ?_; rintro e x5 ⟨rfl, b5⟩; first | (have hx5b := hM.trans (b5.mono hM.size); have hx5 := (b5.block w8.heap.size hMlt).trans hMat; have hcv5 := hcvG x5 _ hx5) | (have hx5b := (Below.refl _ w8).drew.trans b5)) | fail)
        all_goals
          go_wp2_with fail
          with_reducible refine Calls.mono (HColS.out _ (by assumption)) ?_; rintro e w9 ⟨rfl, b9⟩
          cases CC
          · have hZt : Z = true := by rcases HCZ.out with h | h; cases h; exact h
            subst hZt
            go_wp2
            go_ret
            exact ⟨rfl, bthen B8 b9⟩
          · go_wp2
            go_ret
            exact ⟨rfl, bthen B8 b9⟩
      · obtain ⟨m, hm⟩ : ∃ m, B.length = m := ⟨_, rfl⟩
        obtain ⟨lb, lo, hpe, hcell⟩ := st4 m (by omega)
        subst hpe
        obtain ⟨s0, hs0⟩ : ∃ s0, X[m]'(by omega) = s0 := ⟨_, rfl⟩
        have hmem : s0 ∈ X := by rw [← hs0]; exact List.getElem_mem _
        have hsz0 := smX s0 hmem
        rw [hs0] at hcell
        have hclt : lb < w8.heap.size := cell_lt' hcell
        have hcz : collZ X Y = true ∨ sumZ s0 = zero32 := by
          rcases hc with hc | ⟨_, s1, h1, h2⟩
          · exact .inl hc
          · refine .inr ?_
            have hmin : min A.length B.length = m := by omega
            have hlong : longR X Y = X := by unfold longR; rw [if_neg (by omega)]
            rw [hmin, hlong, List.getElem?_eq_getElem (by omega), hs0] at h1
            rw [Option.some.inj h1]; exact h2
        have HSm : Hid (∀ W, (W.cell? ⟨lb, lo + m, none⟩ = some (.string s0) ∧ Below w8.heap.size w8 W) → Calls Tryd.prog 25 #[.string s0] W fun e w' => e = .returned (.string (sumZ s0)) ∧ Below W.heap.size W w') := Lib.hid (fun W h => Sum_any s0 W (by omega) (hKb _ (bthen B8 h.2)))
        have HColS : Hid (∀ W, (W.cell? ⟨lb, lo + m, none⟩ = some (.string s0) ∧ Below w8.heap.size w8 W) → Calls Tryd.prog 23 #[.slice (some ⟨lb, lo, none⟩) A.length c4, .slice p5 B.length c5] W fun e w' => e = .returned (.bool (collZ X Y)) ∧ Below w8.heap.size w8 w') := Lib.hid (fun W h => Calls.mono (HCol.out W h.2) (fun _ _ k => ⟨k.1, h.2.trans (k.2.mono h.2.size)⟩))
        have hmk := run_make32
        have hcv := run_zero32
        have hcvG := cv_at
        obtain ⟨Z, hZe⟩ : ∃ Z, strEq (sumZ s0) zero32 = Z := ⟨_, rfl⟩
        have hczB : collZ X Y = true ∨ Z = true := by
          rcases hcz with h | h
          · exact .inl h
          · exact .inr (by rw [← hZe, h]; exact strEq_refl _)
        generalize sumZ s0 = q0 at *
        generalize zero32 = z32 at *
        generalize (u8s (List.replicate 32 0)).toArray = c32 at *
        have hq : (q0.toList == z32.toList) = Z := hZe
        generalize collZ X Y = CC at *
        have f1 : decide ((A.length : Int) < (B.length : Int)) = false := decide_eq_false (by omega)
        have f1' : decide (A.length < B.length) = false := decide_eq_false (by omega)
        have f1b : decide ((B.length : Int) < (A.length : Int)) = true := decide_eq_true (by omega)
        have f1b' : decide (B.length < A.length) = true := decide_eq_true (by omega)
        have f2 : ((A.length : Int) != (B.length : Int)) = true := by rw [bne_iff_ne]; omega
        have f3 : ((A.length : Int) == (B.length : Int)) = false := by rw [beq_eq_false_iff_ne]; omega
        have f4 : min (A.length : Int) (B.length : Int) = (m : Int) := by omega
        have f5 : (if (B.length : Int) < (A.length : Int) then (B.length : Int) else (A.length : Int)) = (m : Int) := by split <;> omega
        have j0 : (0 : Int) ≤ (m : Int) := by omega
        have j1 : (m : Int) < (A.length : Int) := by omega
        have HM := Lib.hid hm
        have HCZ := Lib.hid hczB
        clear hcz hczB hc hs0 hmem hlen hZe HCol lX lY smX smY hm
        have hM : Below w8.heap.size w8 (w8.alloc (.cells c32 5)).drew := ((Below.refl _ w8).alloc (Nat.le_refl _) _).drew
        have hMat : (w8.alloc (.cells c32 5)).drew.heap[w8.heap.size]? = some (.cells c32 5 (0, 0)) := heap_alloc_new w8 _
        have hMlt : w8.heap.size < (w8.alloc (.cells c32 5)).drew.heap.size := by show w8.heap.size < (w8.alloc _).heap.size; simp
        have hcvM := hcvG _ _ hMat
        have hS8 : w8.drew.cell? ⟨lb, lo + m, none⟩ = some (.string s0) ∧ Below w8.heap.size w8 w8.drew := ⟨hcell, (Below.refl _ w8).drew⟩
        go_wp2_with fail
        go_region_held_law (fun w' => w'.cell? ⟨lb, lo + m, none⟩ = some (.string s0) ∧ Below w8.heap.size w8 w') (first | assumption | exact hS8 | exact heldAlloc (a := ⟨lb, lo + m, none⟩) hclt (by assumption) _ | exact ⟨(hx5b.cell (p := ⟨lb, lo + m, none⟩) hclt).trans hcell, hx5b⟩ | fail)
          (first | (go_at_call 25; with_reducible refine Calls.mono (HSm.out _ (by assumption)) ?_; rintro e x5 ⟨rfl, b5⟩; first | (have hx5b := hM.trans (b5.mono hM.size); have hx5 := (b5.block w8.heap.size hMlt).trans hMat; have hcv5 := hcvG x5 _ hx5) | (have hx5b := (Below.refl _ w8).drew.trans b5)) | fail)
        all_goals
          go_wp2_with fail
          with_reducible refine Calls.mono (HColS.out _ (by assumption)) ?_; rintro e w9 ⟨rfl, b9⟩
          cases CC
          · have hZt : Z = true := by rcases HCZ.out with h | h; cases h; exact h
            subst hZt
            go_wp2
            go_ret
            exact ⟨rfl, bthen B8 b9⟩
          · go_wp2
            go_ret
            exact ⟨rfl, bthen B8 b9⟩
end Go.Proofs.YtnmbadkcjjlebaaDoor

import Derived.Test.YtfannkpnmaeljaaGreatDoorGPmT3
import Derived.Test.YtfannkpnmaeljaaGreatDoorGTc2
import Derived.Test.YtfannkpnmaeljaaGreatDoorGCal4
import Derived.Test.YtfannkpnmaeljaaGreatDoorGRiT6
set_option linter.unusedVariables false
set_option linter.unusedSimpArgs false
/- permit's statements: the fixed examples hold. -/
namespace Go.Proofs.YtfannkpnmaeljaaGreatDoor
open Go.RowKit Go.Shelf

theorem infoCl : (Tryz.prog.info? 53).map (fun i => (i.zero, i.size, i.bytes)) = some (some (.agg #[.int .i64 0, .int .i64 0, .int .i64 0, .int .i64 0, .int .i64 0, .int .i64 0, .int .i64 0, .int .i64 0]), 8, 64) := by kernel_rfl
theorem clw_len (l : List Cl) : (clw l).length = l.length * 8 := by
  induction l with
  | nil => rfl
  | cons c l ih => show (c.vs ++ clw l).length = _; rw [List.length_append, ih]; simp [Cl.vs]; omega
theorem clw_append (l m : List Cl) : clw (l ++ m) = clw l ++ clw m := List.flatMap_append
theorem clw_one (l : List Cl) : ∀ u ∈ clw l, u.oneCell' = true := fun u hu => by
  obtain ⟨c, -, hc⟩ := List.mem_flatMap.1 hu
  simp [Cl.vs] at hc
  rcases hc with rfl | rfl | rfl | rfl | rfl | rfl | rfl | rfl <;> rfl
theorem cl_cells {w : World} {n b o : Nat} {l : List Cl} (h : ClAt w n (some ⟨b, o, none⟩) l) : ∀ j u, (clw l)[j]? = some u → w.cell? ((⟨b, o, none⟩ : Addr).add j) = some u := fun j u hj => by
  have hlt : j < l.length * 8 := by rw [← clw_len]; exact (List.getElem?_eq_some_iff.1 hj).1
  obtain ⟨b', o', e, -, hc⟩ := h (j / 8) (by omega)
  cases e
  have h1 := hc (j % 8) (by omega)
  have h2 := clw_get (l := l) (i := j / 8) (j := j % 8) (by omega) (by omega)
  rw [show j / 8 * 8 + j % 8 = j by omega, hj] at h2
  rw [show (⟨b, o, none⟩ : Addr).add j = ⟨b, o + j / 8 * 8 + j % 8, none⟩ by unfold Addr.add; split <;> simp_all <;> omega, h1, h2]
theorem ClAt.same {A W : World} {p : Option Addr} {l : List Cl} (h : ClAt A A.heap.size p l) (hs : A.heap.size ≤ W.heap.size) (ho : ∀ b o, p = some ⟨b, o, none⟩ → W.heap[b]? = A.heap[b]?) : ClAt W W.heap.size p l := fun i hi => by
  obtain ⟨b, o, rfl, hb, h0⟩ := h i hi
  have e : ∀ j, W.cell? ⟨b, j, none⟩ = A.cell? ⟨b, j, none⟩ := fun j => by simp only [World.cell?, ho b o rfl]
  exact ⟨b, o, rfl, by omega, fun j hj => by rw [e]; exact h0 j hj⟩
theorem own_clw {w : World} {N : Nat} {v : Value} {l : List Cl} (h : w.ownsRow N 53 8 v l.length (clw l)) : ∃ p cap, v = .slice p l.length cap ∧ ClAt w w.heap.size p l := by
  obtain ⟨h1, h2⟩ := h
  have hh : w.ownsRow N 53 8 v l.length (clw l) := ⟨h1, h2⟩
  rcases h2 with ⟨rfl, e⟩ | ⟨g, cap, cur, rfl, _⟩
  · have hl : l = [] := List.eq_nil_of_length_eq_zero e
    subst hl
    exact ⟨none, 0, rfl, ClAt.nil _ _ _⟩
  · refine ⟨some ⟨g, 0, none⟩, cap, rfl, fun i hi => ⟨g, 0, rfl, (hh.lt g rfl).2, fun j hj => ?_⟩⟩
    have := hh.cells (g := g) rfl (i * 8 + j) _ (clw_get hi hj)
    rwa [show (⟨g, 0, none⟩ : Addr).add (i * 8 + j) = ⟨g, 0 + i * 8 + j, none⟩ by unfold Addr.add; split <;> simp_all] at this

set_option maxRecDepth 100000 in
set_option maxHeartbeats 4000000 in
theorem sane_any (w : World) (hF : Tc.FmtAt w) : Calls Tryz.prog 10 #[] w fun e w' => e = .returned (.bool true) ∧ Below w.heap.size w w' := by
  obtain ⟨i0, hi, hz0, hz1, hz2⟩ := info_parts infoCl
  go_enter Tryz.func10, Tryz.ntmps10
  go_wp2_with fail
  refine (example_any w).mono ?_
  rintro e W1 ⟨q, rfl, hP1, b1⟩
  have z1 := b1.size
  obtain ⟨gc, oc, hpc, hgc, -⟩ := hP1.cls 0 (by decide)
  obtain ⟨ps, cs, pi, ci, pe, le, ce, pb, lb, cb, pc, cc⟩ := q
  obtain rfl : pc = some ⟨gc, oc, none⟩ := hpc
  obtain ⟨q, hq⟩ : ∃ q, q = Pq.mk ps cs pi ci pe le ce pb lb cb (some ⟨gc, oc, none⟩) cc := ⟨_, rfl⟩
  have hP1 : PlAt W1 W1.heap.size exP ⟨ps, cs, pi, ci, pe, le, ce, pb, lb, cb, some ⟨gc, oc, none⟩, cc⟩ := hP1
  obtain ⟨W2, hW2, b2, z2, kP⟩ := boxP W1 exP ⟨ps, cs, pi, ci, pe, le, ce, pb, lb, cb, some ⟨gc, oc, none⟩, cc⟩
  obtain ⟨W3, hW3, b3, z3, kS⟩ := boxA W2 34 [iv 0, iv 1000]
  rw [z2] at kS
  have b03 := bthen (bthen b1 b2) b3
  have kP := kP.below b3 kP.lt
  have c0 := kP.cell (i := 0) rfl
  have c1 := kP.cell (i := 1) rfl
  have c2 := kP.cell (i := 2) rfl
  have c3 := kP.cell (i := 3) rfl
  have c4 := kP.cell (i := 4) rfl
  have c5 := kP.cell (i := 5) rfl
  have c6 := kP.cell (i := 6) rfl
  have c7 := kP.cell (i := 7) rfl
  have c8 := kP.cell (i := 8) rfl
  have c9 := kP.cell (i := 9) rfl
  have c10 := kP.cell (i := 10) rfl
  have c11 := kP.cell (i := 11) rfl
  have c12 := kP.cell (i := 12) rfl
  have s0 := kS.cell (i := 0) rfl
  have s1 := kS.cell (i := 1) rfl
  have hc1 := pspans_any exP ⟨ps, cs, pi, ci, pe, le, ce, pb, lb, cb, some ⟨gc, oc, none⟩, cc⟩ 12 1 0 1000 W3 ((hP1.into b2).into b3) (hF.below b03) (by omega) (by omega) (by omega) (by omega)
  rw [ex_s1] at hc1
  go_wp2_with fail
  refine hc1.mono ?_
  rintro e W4 ⟨v4, rfl, o4, b4⟩
  obtain ⟨p4, cp4, rfl, hS4⟩ := own_sh o4
  obtain ⟨g4, of4, rfl, hg4, l0, l1⟩ := hS4 0 (by simp)
  have b04 := bthen b03 b4
  have kP := kP.below b4 kP.lt
  have kS := kS.below b4 kS.lt
  clear c0 c1 c2 c3 c4 c5 c6 c7 c8 c9 c10 c11 c12 s0 s1 hc1 o4 hW2 hW3
  have c0 := kP.cell (i := 0) rfl
  have c1 := kP.cell (i := 1) rfl
  have c2 := kP.cell (i := 2) rfl
  have c3 := kP.cell (i := 3) rfl
  have c4 := kP.cell (i := 4) rfl
  have c5 := kP.cell (i := 5) rfl
  have c6 := kP.cell (i := 6) rfl
  have c7 := kP.cell (i := 7) rfl
  have c8 := kP.cell (i := 8) rfl
  have c9 := kP.cell (i := 9) rfl
  have c10 := kP.cell (i := 10) rfl
  have c11 := kP.cell (i := 11) rfl
  have c12 := kP.cell (i := 12) rfl
  have z4 := b4.size
  obtain ⟨A, hA⟩ : ∃ A, W1.heap.size = A := ⟨_, rfl⟩
  obtain ⟨S, hSe⟩ : ∃ S, A + 1 = S := ⟨_, rfl⟩
  have hAS : A < S := by omega
  have hP4 := ((hP1.into b2).into b3).into b4
  rw [hA] at kP kS c0 c1 c2 c3 c4 c5 c6 c7 c8 c9 c10 c11 c12 ⊢
  rw [hSe] at kS ⊢
  clear z2 z3
  -- the copy, and its clauses
  obtain ⟨W5, hW5, b5, z5, kQ⟩ := boxP W4 exP ⟨ps, cs, pi, ci, pe, le, ce, pb, lb, cb, some ⟨gc, oc, none⟩, cc⟩
  obtain ⟨W6, hW6, b6, z6, kE⟩ := boxA W5 53 []
  have own0 : W6.ownsRow W4.heap.size 53 8 (.slice (some ⟨W5.heap.size, 0, none⟩) 0 0) 0 [] := by
    rw [← hW6]
    exact World.ownsRow_lit (size := 8) W5 #[] 0 (by omega) (by decide) rfl
  rw [z5] at own0
  have hA4 := kP.lt
  have hS4l := kS.lt
  have kP6 := (kP.below b5 kP.lt).below b6 (by omega)
  have kS6 := (kS.below b5 kS.lt).below b6 (by omega)
  have kQ6 := kQ.below b6 kQ.lt
  have hP6 := (hP4.into b5).into b6
  have b06 := bthen (bthen b04 b5) b6
  have l06 := ((b5.trans (b6.mono (by omega))).cell (p := ⟨g4, of4, none⟩) hg4).trans l0
  have l16 := ((b5.trans (b6.mono (by omega))).cell (p := ⟨g4, of4 + 1, none⟩) hg4).trans l1
  have hg4' : g4 < W4.heap.size := hg4
  have hQl : W4.heap.size < W6.heap.size := by omega
  have f12 := kP6.cell (i := 12) rfl
  have hce := cl_cells hP6.cls
  have hcl : (clw exC).length = 3 * 8 := by decide
  have hs6 : W4.heap.size ≤ W6.heap.size := by omega
  go_wp2_with (first | (at_builtin; refine wpList_append_mine W6 rfl _ _ 30 rfl W4.heap.size 53 i0 (.agg #[.int .i64 0, .int .i64 0, .int .i64 0, .int .i64 0, .int .i64 0, .int .i64 0, .int .i64 0, .int .i64 0]) 8 64 Tryz.underlying30 hi hz0 hz1 hz2 rfl (by decide) (.slice (some ⟨W4.heap.size + 1, 0, none⟩) 0 0) 0 [] rfl own0 ⟨gc, oc, none⟩ 3 cc (clw exC) rfl hcl hce (clw_one _) (by decide) (by decide) hs6 ?_; intro v7 w7 o7 gr7 nn7 d7; obtain ⟨p7, cq7, rfl, hS7⟩ := own_clw (show w7.ownsRow W4.heap.size 53 8 v7 exC.length (clw exC) from o7); have hs7 := gr7.size; have b7 := (Below.refl W4.heap.size W6).grown gr7 hs6 (own_le own0); have kQ7 : Arr w7 W4.heap.size 32 (plL exP ⟨ps, cs, pi, ci, pe, le, ce, pb, lb, cb, some ⟨gc, oc, none⟩, cc⟩) := (gr7.block W4.heap.size hQl (by simp [Value.ownBlock])).trans kQ6; have hne7 : ∀ j, (Value.slice p7 exC.length cq7).ownBlock = some j → j ≠ W4.heap.size := (fun j hj => by rcases d7 j hj with h | h; (simp [Value.ownBlock] at h; omega); omega); have own8 := o7.alloc (.cells (clw [⟨6, 0, 1020, 21600, 0, 0, 2, 0⟩, ⟨4, 13, 0, 0, 1, 7, 0, 0⟩]).toArray 53)) | (at_builtin; go_loud (refine wpList_append_mine _ rfl _ _ 30 rfl W4.heap.size 53 i0 (.agg #[.int .i64 0, .int .i64 0, .int .i64 0, .int .i64 0, .int .i64 0, .int .i64 0, .int .i64 0, .int .i64 0]) 8 64 Tryz.underlying30 hi hz0 hz1 hz2 rfl (by decide) (.slice p7 3 cq7) 3 ([] ++ clw exC) rfl own8 ⟨w7.heap.size, 0, none⟩ 2 2 (clw [⟨6, 0, 1020, 21600, 0, 0, 2, 0⟩, ⟨4, 13, 0, 0, 1, 7, 0, 0⟩]) rfl (by decide) (cells_new _ _ _) (clw_one _) (by decide) (by decide) (by simp; omega) ?_); intro v8 w8 o8 gr8 nn8 d8; obtain ⟨p8, cq8, rfl, hS8⟩ := own_clw (show w8.ownsRow W4.heap.size 53 8 v8 exD.length (clw exD) from o8); have hs8 := gr8.size; have hne8 : ∀ j, (Value.slice p8 exD.length cq8).ownBlock = some j → j ≠ W4.heap.size := (fun j hj => by rcases d8 j hj with h | h; (exact hne7 j h); (simp at h; omega)); have b8 := ((Below.refl W4.heap.size w7).alloc (by omega) _).grown gr8 (by simp; omega) (own_le own8); have kQ8 : Arr w8 W4.heap.size 32 (plL exP ⟨ps, cs, pi, ci, pe, le, ce, pb, lb, cb, some ⟨gc, oc, none⟩, cc⟩) := (gr8.block W4.heap.size (by simp; omega) (fun e => hne7 _ e.symm rfl)).trans (kQ7.alloc _); have q12 := kQ8.cell (i := 12) rfl; have fr12 := kQ8.frozen 12; obtain ⟨WQ, hWQ⟩ : ∃ WQ, w8.setCell ⟨W4.heap.size, 12, none⟩ (.slice p8 exD.length cq8) = WQ := ⟨_, rfl⟩; have kQ9 : Arr WQ W4.heap.size 32 (plL exQ ⟨ps, cs, pi, ci, pe, le, ce, pb, lb, cb, p8, cq8⟩) := hWQ ▸ kQ8.set 12 (.slice p8 exD.length cq8); have bQ : Below W4.heap.size W6 WQ := hWQ ▸ (b7.trans b8).setCell (p := ⟨W4.heap.size, 12, none⟩) (by simp) _; have m06 := (bQ.cell (p := ⟨g4, of4, none⟩) hg4').trans l06; have m16 := (bQ.cell (p := ⟨g4, of4 + 1, none⟩) hg4').trans l16; have kS9 := kS6.below bQ hS4l; have c0 := kQ9.cell (i := 0) rfl; have c1 := kQ9.cell (i := 1) rfl; have c2 := kQ9.cell (i := 2) rfl; have c3 := kQ9.cell (i := 3) rfl; have c4 := kQ9.cell (i := 4) rfl; have c5 := kQ9.cell (i := 5) rfl; have c6 := kQ9.cell (i := 6) rfl; have c7 := kQ9.cell (i := 7) rfl; have c8 := kQ9.cell (i := 8) rfl; have c9 := kQ9.cell (i := 9) rfl; have c10 := kQ9.cell (i := 10) rfl; have c11 := kQ9.cell (i := 11) rfl; have c12 := kQ9.cell (i := 12) rfl; have s0 := kS9.cell (i := 0) rfl; have s1 := kS9.cell (i := 1) rfl))
  have hs6Q := bQ.size
  have kP := kP6.below bQ hA4
  have kS := kS9
  have kQ := kQ9
  have hPQ : PlAt WQ WQ.heap.size exP ⟨ps, cs, pi, ci, pe, le, ce, pb, lb, cb, some ⟨gc, oc, none⟩, cc⟩ := (hP4.below ((b5.trans (b6.mono (by omega))).trans bQ)).mono (by omega)
  have hQQ : PlAt WQ WQ.heap.size exQ ⟨ps, cs, pi, ci, pe, le, ce, pb, lb, cb, p8, cq8⟩ := ⟨ShAt.nil _ _ _, hPQ.its, (hS8.same (by rw [← hWQ]; simp) (fun b o e => by rw [← hWQ]; exact Below.heap_setCell _ _ _ _ (by intro h; have := hne8 b (by rw [e]; rfl); simp at h; omega))), hPQ.ls, hPQ.li, by decide⟩
  have b0Q : Below w.heap.size w WQ := b06.trans (bQ.mono (by omega))
  have hFQ := hF.below b0Q
  have h2 := pspans_any exQ ⟨ps, cs, pi, ci, pe, le, ce, pb, lb, cb, p8, cq8⟩ 12 0 0 1000 WQ hQQ hFQ (by omega) (by omega) (by omega) (by omega)
  rw [ex_s2] at h2
  have hA := fun id r f n W (h : Below WQ.heap.size WQ W) => allowed_any exP ⟨ps, cs, pi, ci, pe, le, ce, pb, lb, cb, some ⟨gc, oc, none⟩, cc⟩ id r f n W (hPQ.into h) (hFQ.below h)
  have h6 := fun W (h : Below WQ.heap.size WQ W) => pspans_any exP ⟨ps, cs, pi, ci, pe, le, ce, pb, lb, cb, some ⟨gc, oc, none⟩, cc⟩ 13 1 0 1000 W (hPQ.into h) (hFQ.below h) (by omega) (by omega) (by omega) (by omega)
  rw [ex_s3] at h6
  have h3 := fun W h => hA 12 0 480 20 W h
  rw [ex_a1] at h3
  have h4 := fun W h => hA 12 0 480 21 W h
  rw [ex_a2] at h4
  have h5 := fun W h => hA 1 5 0 10 W h
  rw [ex_a3] at h5
  have h7 := fun W (h : Below WQ.heap.size WQ W) => pgap_any exP ⟨ps, cs, pi, ci, pe, le, ce, pb, lb, cb, some ⟨gc, oc, none⟩, cc⟩ 12 13 W (hPQ.into h) (hFQ.below h)
  rw [ex_g1] at h7
  have h8 := fun W (h : Below WQ.heap.size WQ W) => pgap_any exP ⟨ps, cs, pi, ci, pe, le, ce, pb, lb, cb, some ⟨gc, oc, none⟩, cc⟩ 12 12 W (hPQ.into h) (hFQ.below h)
  rw [ex_g2] at h8
  have h9 := fun W (h : Below WQ.heap.size WQ W) => pruns_any exP ⟨ps, cs, pi, ci, pe, le, ce, pb, lb, cb, some ⟨gc, oc, none⟩, cc⟩ 12 0 W (hPQ.into h)
  rw [ex_r] at h9
  have h10 := fun W (h : Below WQ.heap.size WQ W) => pcatch_any exQ ⟨ps, cs, pi, ci, pe, le, ce, pb, lb, cb, p8, cq8⟩ 13 0 250 50 W (hQQ.into h) (hFQ.below h) (by omega) (by omega) (by omega) (by omega)
  rw [ex_c] at h10
  clear hA hPQ hQQ hFQ hF hP4 hP1 hP6 hS8 hne8 hne7 gr7 gr8 nn7 nn8 d7 d8 o7 o8 own0 own8 kQ7 kQ8 kQ6 kP6 kS6 kS9 kQ9 b7 b8 kE hS7 hce hcl hW5 hW6 hWQ hs7 hs8 hs6 z5 z6 l06 l16 m06 m16 f12 q12 fr12
  refine h2.mono ?_
  rintro e V2 ⟨v2, rfl, o2, t2⟩
  obtain ⟨r2, u2, rfl, -⟩ := own_sh o2
  have bb := t2
  have kP := kP.below t2 kP.lt
  have kS := kS.below t2 kS.lt
  have kQ := kQ.below t2 kQ.lt
  clear c0 c1 c2 c3 c4 c5 c6 c7 c8 c9 c10 c11 c12 s0 s1 h2 o2 t2
  have c0 := kP.cell (i := 0) rfl
  have c1 := kP.cell (i := 1) rfl
  have c2 := kP.cell (i := 2) rfl
  have c3 := kP.cell (i := 3) rfl
  have c4 := kP.cell (i := 4) rfl
  have c5 := kP.cell (i := 5) rfl
  have c6 := kP.cell (i := 6) rfl
  have c7 := kP.cell (i := 7) rfl
  have c8 := kP.cell (i := 8) rfl
  have c9 := kP.cell (i := 9) rfl
  have c10 := kP.cell (i := 10) rfl
  have c11 := kP.cell (i := 11) rfl
  have c12 := kP.cell (i := 12) rfl
  go_wp2_with fail
  refine (h3 _ bb).mono ?_
  rintro e V3 ⟨rfl, t3⟩
  have bb := bthen bb t3
  have kP := kP.below t3 kP.lt
  have kS := kS.below t3 kS.lt
  have kQ := kQ.below t3 kQ.lt
  clear c0 c1 c2 c3 c4 c5 c6 c7 c8 c9 c10 c11 c12 h3 t3
  have c0 := kP.cell (i := 0) rfl
  have c1 := kP.cell (i := 1) rfl
  have c2 := kP.cell (i := 2) rfl
  have c3 := kP.cell (i := 3) rfl
  have c4 := kP.cell (i := 4) rfl
  have c5 := kP.cell (i := 5) rfl
  have c6 := kP.cell (i := 6) rfl
  have c7 := kP.cell (i := 7) rfl
  have c8 := kP.cell (i := 8) rfl
  have c9 := kP.cell (i := 9) rfl
  have c10 := kP.cell (i := 10) rfl
  have c11 := kP.cell (i := 11) rfl
  have c12 := kP.cell (i := 12) rfl
  go_wp2_with fail
  refine (h4 _ bb).mono ?_
  rintro e V4 ⟨rfl, t4⟩
  have bb := bthen bb t4
  have kP := kP.below t4 kP.lt
  have kS := kS.below t4 kS.lt
  have kQ := kQ.below t4 kQ.lt
  clear c0 c1 c2 c3 c4 c5 c6 c7 c8 c9 c10 c11 c12 h4 t4
  have c0 := kP.cell (i := 0) rfl
  have c1 := kP.cell (i := 1) rfl
  have c2 := kP.cell (i := 2) rfl
  have c3 := kP.cell (i := 3) rfl
  have c4 := kP.cell (i := 4) rfl
  have c5 := kP.cell (i := 5) rfl
  have c6 := kP.cell (i := 6) rfl
  have c7 := kP.cell (i := 7) rfl
  have c8 := kP.cell (i := 8) rfl
  have c9 := kP.cell (i := 9) rfl
  have c10 := kP.cell (i := 10) rfl
  have c11 := kP.cell (i := 11) rfl
  have c12 := kP.cell (i := 12) rfl
  go_wp2_with fail
  refine (h5 _ bb).mono ?_
  rintro e V5 ⟨rfl, t5⟩
  have bb := bthen bb t5
  have kP := kP.below t5 kP.lt
  have kS := kS.below t5 kS.lt
  have kQ := kQ.below t5 kQ.lt
  clear c0 c1 c2 c3 c4 c5 c6 c7 c8 c9 c10 c11 c12 h5 t5
  have c0 := kP.cell (i := 0) rfl
  have c1 := kP.cell (i := 1) rfl
  have c2 := kP.cell (i := 2) rfl
  have c3 := kP.cell (i := 3) rfl
  have c4 := kP.cell (i := 4) rfl
  have c5 := kP.cell (i := 5) rfl
  have c6 := kP.cell (i := 6) rfl
  have c7 := kP.cell (i := 7) rfl
  have c8 := kP.cell (i := 8) rfl
  have c9 := kP.cell (i := 9) rfl
  have c10 := kP.cell (i := 10) rfl
  have c11 := kP.cell (i := 11) rfl
  have c12 := kP.cell (i := 12) rfl
  have s0 := kS.cell (i := 0) rfl
  have s1 := kS.cell (i := 1) rfl
  go_wp2_with fail
  refine (h6 _ bb).mono ?_
  rintro e V6 ⟨v6, rfl, o6, t6⟩
  obtain ⟨r6, u6, rfl, -⟩ := own_sh o6
  have bb := bthen bb t6
  have kP := kP.below t6 kP.lt
  have kS := kS.below t6 kS.lt
  have kQ := kQ.below t6 kQ.lt
  clear c0 c1 c2 c3 c4 c5 c6 c7 c8 c9 c10 c11 c12 h6 t6 s0 s1 o6
  have c0 := kP.cell (i := 0) rfl
  have c1 := kP.cell (i := 1) rfl
  have c2 := kP.cell (i := 2) rfl
  have c3 := kP.cell (i := 3) rfl
  have c4 := kP.cell (i := 4) rfl
  have c5 := kP.cell (i := 5) rfl
  have c6 := kP.cell (i := 6) rfl
  have c7 := kP.cell (i := 7) rfl
  have c8 := kP.cell (i := 8) rfl
  have c9 := kP.cell (i := 9) rfl
  have c10 := kP.cell (i := 10) rfl
  have c11 := kP.cell (i := 11) rfl
  have c12 := kP.cell (i := 12) rfl
  go_wp2_with fail
  refine (h7 _ bb).mono ?_
  rintro e V7 ⟨rfl, t7⟩
  have bb := bthen bb t7
  have kP := kP.below t7 kP.lt
  have kS := kS.below t7 kS.lt
  have kQ := kQ.below t7 kQ.lt
  clear c0 c1 c2 c3 c4 c5 c6 c7 c8 c9 c10 c11 c12 h7 t7
  have c0 := kP.cell (i := 0) rfl
  have c1 := kP.cell (i := 1) rfl
  have c2 := kP.cell (i := 2) rfl
  have c3 := kP.cell (i := 3) rfl
  have c4 := kP.cell (i := 4) rfl
  have c5 := kP.cell (i := 5) rfl
  have c6 := kP.cell (i := 6) rfl
  have c7 := kP.cell (i := 7) rfl
  have c8 := kP.cell (i := 8) rfl
  have c9 := kP.cell (i := 9) rfl
  have c10 := kP.cell (i := 10) rfl
  have c11 := kP.cell (i := 11) rfl
  have c12 := kP.cell (i := 12) rfl
  go_wp2_with fail
  refine (h8 _ bb).mono ?_
  rintro e V8 ⟨rfl, t8⟩
  have bb := bthen bb t8
  have kP := kP.below t8 kP.lt
  have kS := kS.below t8 kS.lt
  have kQ := kQ.below t8 kQ.lt
  clear c0 c1 c2 c3 c4 c5 c6 c7 c8 c9 c10 c11 c12 h8 t8
  have c0 := kP.cell (i := 0) rfl
  have c1 := kP.cell (i := 1) rfl
  have c2 := kP.cell (i := 2) rfl
  have c3 := kP.cell (i := 3) rfl
  have c4 := kP.cell (i := 4) rfl
  have c5 := kP.cell (i := 5) rfl
  have c6 := kP.cell (i := 6) rfl
  have c7 := kP.cell (i := 7) rfl
  have c8 := kP.cell (i := 8) rfl
  have c9 := kP.cell (i := 9) rfl
  have c10 := kP.cell (i := 10) rfl
  have c11 := kP.cell (i := 11) rfl
  have c12 := kP.cell (i := 12) rfl
  go_wp2_with fail
  refine (h9 _ bb).mono ?_
  rintro e V9 ⟨rfl, t9⟩
  have bb := bthen bb t9
  have kP := kP.below t9 kP.lt
  have kS := kS.below t9 kS.lt
  have kQ := kQ.below t9 kQ.lt
  clear c0 c1 c2 c3 c4 c5 c6 c7 c8 c9 c10 c11 c12 h9 t9
  have c0 := kQ.cell (i := 0) rfl
  have c1 := kQ.cell (i := 1) rfl
  have c2 := kQ.cell (i := 2) rfl
  have c3 := kQ.cell (i := 3) rfl
  have c4 := kQ.cell (i := 4) rfl
  have c5 := kQ.cell (i := 5) rfl
  have c6 := kQ.cell (i := 6) rfl
  have c7 := kQ.cell (i := 7) rfl
  have c8 := kQ.cell (i := 8) rfl
  have c9 := kQ.cell (i := 9) rfl
  have c10 := kQ.cell (i := 10) rfl
  have c11 := kQ.cell (i := 11) rfl
  have c12 := kQ.cell (i := 12) rfl
  go_wp2_with fail
  refine (h10 _ bb).mono ?_
  rintro e V10 ⟨rfl, t10⟩
  have bb := bthen bb t10
  have kP := kP.below t10 kP.lt
  have kS := kS.below t10 kS.lt
  have kQ := kQ.below t10 kQ.lt
  clear c0 c1 c2 c3 c4 c5 c6 c7 c8 c9 c10 c11 c12 h10 t10
  go_wp2_with fail
  go_ret
  exact ⟨rfl, bthen b0Q bb⟩
end Go.Proofs.YtfannkpnmaeljaaGreatDoor

/- permit's statements: small plans, picked numbers; the reference's Item. -/
namespace Go.Proofs.YtfannkpnmaeljaaGreatDoor
open Go.RowKit Go.Shelf

def fewP (P : Pl) : Pl := { P with sh := P.sh.take 8, its := P.its.take 12, cls := P.cls.take 12 }
theorem pick_bd (c : Int) {n : Int} (h : 1 ≤ n) : 0 ≤ Tc.pickZ c n ∧ Tc.pickZ c n < n := by
  unfold Tc.pickZ
  exact ⟨Int.emod_nonneg _ (by omega), Int.emod_lt_of_pos _ (by omega)⟩
set_option maxHeartbeats 400000 in
theorem ppick_any (c n : Int) (w : World) (h1 : -9223372036854775808 ≤ c) (h2 : c ≤ 9223372036854775807) (h3 : 1 ≤ n) (h4 : n ≤ 9223372036854775807) :
    Calls Tryz.prog 12 #[.int .i64 c, .int .i64 n] w fun e w' => e = .returned (.int .i64 (Tc.pickZ c n)) ∧ w = w' := by
  by_cases hc : c < 0
  · have e1 : IntKind.i64.wrap (c + 1) = c + 1 := w64 (by omega) (by omega)
    have e2 : IntKind.i64.wrap (-(c + 1)) = -(c + 1) := w64 (by omega) (by omega)
    have e3 : ((n : Int) == 0) = false := by simp; omega
    have e4 : (-(c + 1)).tmod n = -(c + 1) % n := Int.tmod_eq_emod_of_nonneg (by omega)
    have e6 := Int.emod_nonneg (-(c + 1)) (show n ≠ 0 by omega)
    have e7 := Int.emod_lt_of_pos (-(c + 1)) (show 0 < n by omega)
    have e5 : IntKind.i64.wrap (-(c + 1) % n) = -(c + 1) % n := w64 (by omega) (by omega)
    have hp : Tc.pickZ c n = -(c + 1) % n := by unfold Tc.pickZ; rw [if_pos hc]
    rw [hp]
    clear hp
    generalize -(c + 1) % n = v at *
    go_enter Tryz.func12, Tryz.ntmps12
    go_wp2
    go_ret
    exact ⟨rfl, rfl⟩
  · have e3 : ((n : Int) == 0) = false := by simp; omega
    have e4 : c.tmod n = c % n := Int.tmod_eq_emod_of_nonneg (by omega)
    have e6 := Int.emod_nonneg c (show n ≠ 0 by omega)
    have e7 := Int.emod_lt_of_pos c (show 0 < n by omega)
    have e5 : IntKind.i64.wrap (c % n) = c % n := w64 (by omega) (by omega)
    have hp : Tc.pickZ c n = c % n := by unfold Tc.pickZ; rw [if_neg hc]
    rw [hp]
    clear hp
    generalize c % n = v at *
    go_enter Tryz.func12, Tryz.ntmps12
    go_wp2
    go_ret
    exact ⟨rfl, rfl⟩

set_option maxRecDepth 100000 in
set_option maxHeartbeats 4000000 in
theorem few_raw (ch num den off ep rg ln fl : Int) (ps pi pe pb pc : Option Addr) (ns cs ni ci le ce lb cb nc cc : Nat) (w : World)
    (hs : ns ≤ cs) (hi : ni ≤ ci) (hc : nc ≤ cc) (ms : cs ≤ 9223372036854775807) (mi : ci ≤ 9223372036854775807) (mc : cc ≤ 9223372036854775807) :
    Calls Tryz.prog 11 #[.agg #[iv ch, iv num, iv den, iv off, .slice ps ns cs, iv ep, iv rg, iv ln, iv fl, .slice pi ni ci, .slice pe le ce, .slice pb lb cb, .slice pc nc cc]] w fun e w' =>
      e = .returned (.agg #[iv ch, iv num, iv den, iv off, .slice ps (min ns 8) cs, iv ep, iv rg, iv ln, iv fl, .slice pi (min ni 12) ci, .slice pe le ce, .slice pb lb cb, .slice pc (min nc 12) cc]) ∧ Below w.heap.size w w' := by
  have t1 : (min (ni : Int) 12).toNat = min ni 12 := by omega
  have t2 : (min (nc : Int) 12).toNat = min nc 12 := by omega
  have t3 : (min (ns : Int) 8).toNat = min ns 8 := by omega
  have T1 := Lib.hid t1
  have T2 := Lib.hid t2
  have T3 := Lib.hid t3
  clear t1 t2 t3
  go_enter Tryz.func11, Tryz.ntmps11
  go_wp2_with fail
  rw [T1.out, T2.out, T3.out]
  obtain ⟨W0, hW0⟩ : ∃ W0, w.alloc (.cells #[iv ch, iv num, iv den, iv off, .slice ps (min ns 8) cs, iv ep, iv rg, iv ln, iv fl, .slice pi (min ni 12) ci, .slice pe le ce, .slice pb lb cb, .slice pc (min nc 12) cc] 32) = W0 := ⟨_, rfl⟩
  have b0 : Below w.heap.size w W0 := hW0 ▸ (Below.refl _ w).alloc (Nat.le_refl _) _
  have z0 : W0.heap.size = w.heap.size + 1 := by rw [← hW0]; simp
  rw [hW0]
  obtain ⟨W1, hW1, b1, z1, k⟩ := boxA W0 32 [iv ch, iv num, iv den, iv off, .slice ps (min ns 8) cs, iv ep, iv rg, iv ln, iv fl, .slice pi (min ni 12) ci, .slice pe le ce, .slice pb lb cb, .slice pc (min nc 12) cc]
  rw [hW1]
  rw [z0] at k
  have e0 := k.cell (i := 0) rfl
  have e1 := k.cell (i := 1) rfl
  have e2 := k.cell (i := 2) rfl
  have e3 := k.cell (i := 3) rfl
  have e4 := k.cell (i := 4) rfl
  have e5 := k.cell (i := 5) rfl
  have e6 := k.cell (i := 6) rfl
  have e7 := k.cell (i := 7) rfl
  have e8 := k.cell (i := 8) rfl
  have e9 := k.cell (i := 9) rfl
  have e10 := k.cell (i := 10) rfl
  have e11 := k.cell (i := 11) rfl
  have e12 := k.cell (i := 12) rfl
  exact bodyPost_ret (v := .agg #[iv ch, iv num, iv den, iv off, .slice ps (min ns 8) cs, iv ep, iv rg, iv ln, iv fl, .slice pi (min ni 12) ci, .slice pe le ce, .slice pb lb cb, .slice pc (min nc 12) cc]) (by simp [results, Tryz.results11, go_sem, e0, e1, e2, e3, e4, e5, e6, e7, e8, e9, e10, e11, e12]) rfl ⟨rfl, bthen b0 b1⟩

/-- A plan that came in: of whatever sizes. -/
structure PlIn (w : World) (P : Pl) (q : Pq) : Prop where
  sh : ShAt w w.heap.size q.ps P.sh
  its : ItAt w w.heap.size q.pi P.its
  cls : ClAt w w.heap.size q.pc P.cls
  ls : P.sh.length ≤ q.cs
  li : P.its.length ≤ q.ci
  lc : P.cls.length ≤ q.cc
  ms : q.cs ≤ 9223372036854775807
  mi : q.ci ≤ 9223372036854775807
  mc : q.cc ≤ 9223372036854775807
theorem getD_take {α : Type} (l : List α) (k i : Nat) (d : α) (h : i < (l.take k).length) : (l.take k).getD i d = l.getD i d := by
  have h' : i < k := by rw [List.length_take] at h; omega
  rw [List.getD_eq_getElem?_getD, List.getD_eq_getElem?_getD, List.getElem?_take_of_lt h']
theorem PlIn.few {w : World} {P : Pl} {q : Pq} (h : PlIn w P q) : PlAt w w.heap.size (fewP P) q where
  sh := h.sh.take 8
  its := fun i hi => by
    have hi' : i < (P.its.take 12).length := hi
    obtain ⟨b, o, h1, h2, h3⟩ := h.its i (by rw [List.length_take] at hi'; omega)
    exact ⟨b, o, h1, h2, fun j hj => by show _ = some (iv (((P.its.take 12).getD i It.zero).get j)); rw [getD_take _ _ _ _ hi']; exact h3 j hj⟩
  cls := fun i hi => by
    have hi' : i < (P.cls.take 12).length := hi
    obtain ⟨b, o, h1, h2, h3⟩ := h.cls i (by rw [List.length_take] at hi'; omega)
    exact ⟨b, o, h1, h2, fun j hj => by show _ = some (iv (((P.cls.take 12).getD i Cl.zero).get j)); rw [getD_take _ _ _ _ hi']; exact h3 j hj⟩
  ls := by show (P.sh.take 8).length ≤ 1000; rw [List.length_take]; omega
  li := by show (P.its.take 12).length ≤ 10000; rw [List.length_take]; omega
  lc := by show (P.cls.take 12).length ≤ 20; rw [List.length_take]; omega
theorem few_any (P : Pl) (q : Pq) (w : World) (h : PlIn w P q) : Calls Tryz.prog 11 #[.agg (plL P q).toArray] w fun e w' => e = .returned (.agg (plL (fewP P) q).toArray) ∧ Below w.heap.size w w' := by
  have := few_raw P.ch P.num P.den P.off P.ep P.rg P.ln P.fl q.ps q.pi q.pe q.pb q.pc P.sh.length q.cs P.its.length q.ci q.le q.ce q.lb q.cb P.cls.length q.cc w h.ls h.li h.lc h.ms h.mi h.mc
  refine this.mono ?_
  rintro e w' ⟨rfl, hb⟩
  refine ⟨?_, hb⟩
  show _ = Ending.returned (.agg #[iv P.ch, iv P.num, iv P.den, iv P.off, .slice q.ps (P.sh.take 8).length q.cs, iv P.ep, iv P.rg, iv P.ln, iv P.fl, .slice q.pi (P.its.take 12).length q.ci, .slice q.pe q.le q.ce, .slice q.pb q.lb q.cb, .slice q.pc (P.cls.take 12).length q.cc])
  rw [List.length_take, List.length_take, List.length_take, Nat.min_comm 8, Nat.min_comm 12, Nat.min_comm 12]

/-! ### The reference's Item -/
set_option maxRecDepth 100000 in
set_option maxHeartbeats 2000000 in
theorem ritem_any (P : Pl) (q : Pq) (id : Int) (w : World) (hP : PlAt w w.heap.size P q) :
    Calls Tryz.prog 35 #[.agg (plL P q).toArray, iv id] w fun e w' => e = .returned (.tuple #[.agg (itL ((fz P.its id).getD It.zero)).toArray, .bool (fz P.its id).isSome]) ∧ Below w.heap.size w w' := by
  have hI := hP.its
  have hli := hP.li
  clear hP
  obtain ⟨Z, hZ⟩ : ∃ Z, fz P.its id = Z := ⟨_, rfl⟩
  rw [hZ]
  have HZ := Lib.hid hZ
  clear hZ
  go_enter Tryz.func35, Tryz.ntmps35
  go_wp2_with fail
  have hi5 : (Tryz.prog.info? 60).map (·.size) = some 5 := by kernel_rfl
  obtain ⟨W0, hW0, b0, z0, kP, kR⟩ : ∃ W0, (w.alloc (.cells (plL P q).toArray 32)).alloc (.cells #[iv 0, iv 0, iv 0, iv 0, iv 0] 60) = W0 ∧ Below w.heap.size w W0 ∧ W0.heap.size = w.heap.size + 1 + 1 ∧
      Arr W0 w.heap.size 32 (plL P q) ∧ Arr W0 (w.heap.size + 1) 60 (itL It.zero) :=
    ⟨_, rfl, ((Below.refl _ w).alloc (Nat.le_refl _) _).alloc (by simp) _, by simp, (Arr.new w _ (plL P q)).alloc _, Arr.new' _ (itL It.zero) (by simp)⟩
  rw [hW0]; clear hW0
  have hI0 := hI.below b0
  obtain ⟨K, hK⟩ : ∃ K, w.heap.size = K := ⟨_, rfl⟩
  obtain ⟨C, hC⟩ : ∃ C, K + 1 = C := ⟨_, rfl⟩
  rw [hK] at kP kR ⊢
  rw [hC] at kR ⊢
  have hwC : w.heap.size ≤ C := by omega
  have c9 : W0.cell? ⟨K, 9, none⟩ = some (.slice q.pi P.its.length q.ci) := kP.cell (i := 9) rfl
  have h63 : P.its.length ≤ 9223372036854775806 := by omega
  clear z0 kP
  go_loopw [6] (fun s wr => ∃ k : Nat, s = .int .i64 k ∧ k ≤ P.its.length ∧ wr = W0 ∧ ∀ i, i < k → (P.its.getD i It.zero).id ≠ id) (fun s _ => P.its.length - (intOf s).toNat)
  case atStart => exact ⟨0, rfl, Nat.zero_le _, rfl, fun i hi => by omega⟩
  case round =>
    obtain ⟨k, rfl, hk, rfl, hall⟩ := hrel
    have HA := Lib.hid hall; clear hall
    by_cases hlt : k < P.its.length
    · obtain ⟨b, o, hp, hbl, q0, q1, q2, q3, q4⟩ := hI0.cells hlt
      obtain ⟨x, hx⟩ : ∃ x, P.its.getD k It.zero = x := ⟨_, rfl⟩
      rw [hx] at q0 q1 q2 q3 q4
      rw [hp] at c9
      have hidx : (k : Int) * 5 = ((k * 5 : Nat) : Int) := by omega
      have i1 : (0 : Int) ≤ (k : Int) := by omega
      have i2 : (k : Int) < (P.its.length : Int) := by omega
      have hw : IntKind.i64.wrap ((k : Int) + 1) = ((k + 1 : Nat) : Int) := by rw [w64 (by omega) (by omega)]; rfl
      cases e1 : (x.id == id) with
      | true =>
        obtain rfl : Z = some x := HZ.out.symm.trans ((fz_some hlt (by rw [hx]; simpa using e1) HA.out).trans (congrArg some hx))
        clear HZ hx HA hI hI0
        go_wp2_with (refine wpList_store_abs rfl 60 _ _ rfl C (itL x).toArray rfl rfl 60 (itL It.zero).toArray kR hi5 rfl (itL_one _) ?_; intro W5 k5 b5 o5)
        have e0 := (show Arr W5 _ _ (itL x) from k5).cell (i := 0) rfl
        have e1 := (show Arr W5 _ _ (itL x) from k5).cell (i := 1) rfl
        have e2 := (show Arr W5 _ _ (itL x) from k5).cell (i := 2) rfl
        have e3 := (show Arr W5 _ _ (itL x) from k5).cell (i := 3) rfl
        have e4 := (show Arr W5 _ _ (itL x) from k5).cell (i := 4) rfl
        exact bodyPost_ret (v := .tuple #[.agg (itL x).toArray, .bool true]) (by simp [results, Tryz.results35, go_sem, e0, e1, e2, e3, e4]) rfl ⟨rfl, b0.trans (b5.mono hwC)⟩
      | false =>
        have hne : x.id ≠ id := by simpa using e1
        have HX := Lib.hid hx
        clear hx hI hI0
        go_wp2_with fail
        exact ⟨⟨k + 1, by go_num, by omega, by first | trivial | rfl, fun i hi => by
          rcases (by omega : i < k ∨ i = k) with h | rfl
          · exact HA.out i h
          · rw [HX.out]; exact hne⟩, by simp [intOf]; omega⟩
    · obtain rfl : k = P.its.length := by omega
      obtain rfl : Z = none := HZ.out.symm.trans (fz_none HA.out)
      clear HZ HA hI hI0
      go_wp2_with (refine wpList_store_abs rfl 60 _ _ rfl C (itL It.zero).toArray rfl rfl 60 (itL It.zero).toArray kR hi5 rfl (itL_one _) ?_; intro W5 k5 b5 o5)
      have e0 := (show Arr W5 _ _ (itL It.zero) from k5).cell (i := 0) rfl
      have e1 := (show Arr W5 _ _ (itL It.zero) from k5).cell (i := 1) rfl
      have e2 := (show Arr W5 _ _ (itL It.zero) from k5).cell (i := 2) rfl
      have e3 := (show Arr W5 _ _ (itL It.zero) from k5).cell (i := 3) rfl
      have e4 := (show Arr W5 _ _ (itL It.zero) from k5).cell (i := 4) rfl
      exact bodyPost_ret (v := .tuple #[.agg (itL It.zero).toArray, .bool false]) (by simp [results, Tryz.results35, go_sem, e0, e1, e2, e3, e4]) rfl ⟨rfl, b0.trans (b5.mono hwC)⟩
end Go.Proofs.YtfannkpnmaeljaaGreatDoor

/- permit: the reference's Timed, Catchup. -/
namespace Go.Proofs.YtfannkpnmaeljaaGreatDoor
open Go.RowKit Go.Shelf

theorem keepC {W W' W'' : World} {a b c d e : Addr} {v x y z u : Value} {n : Nat} (hS : W'.cell? a = some v ∧ W'.cell? b = some x ∧ W'.cell? c = some y ∧ W'.cell? d = some z ∧ W'.cell? e = some u ∧ Below n W W') (ha : a.block < W.heap.size) (hb : b.block < W.heap.size) (hc : c.block < W.heap.size) (hd : d.block < W.heap.size) (he : e.block < W.heap.size) (hn : n ≤ W.heap.size) (bb : Below W'.heap.size W' W'') :
    W''.cell? a = some v ∧ W''.cell? b = some x ∧ W''.cell? c = some y ∧ W''.cell? d = some z ∧ W''.cell? e = some u ∧ Below n W W'' := by
  obtain ⟨h1, h2, h3, h4, h5, h6⟩ := hS
  have := h6.size
  exact ⟨(bb.cell (by omega)).trans h1, (bb.cell (by omega)).trans h2, (bb.cell (by omega)).trans h3, (bb.cell (by omega)).trans h4, (bb.cell (by omega)).trans h5, h6.trans (bb.mono (by omega))⟩

set_option maxRecDepth 100000 in
set_option maxHeartbeats 2000000 in
theorem rtimed_any (P : Pl) (q : Pq) (w : World) (hP : PlAt w w.heap.size P q) (hF : Tc.FmtAt w) :
    Calls Tryz.prog 42 #[.agg (plL P q).toArray] w fun e w' => e = .returned (.bool (tmZ P)) ∧ Below w.heap.size w w' := by
  have hv1 := fun W (h : Below w.heap.size w W) => Tc.rvalid_t P.num P.den W (hF.below h)
  have hv2 := fun W (h : Below w.heap.size w W) => Cal.rvalid_any P.off q.ps q.cs w.heap.size P.sh W h.size (hP.sh.below h) hP.ls
  have hT : tmZ P = ((Tc.rtOf P.num P.den).isSome && Cal.validZ P.off P.sh && decide (0 ≤ P.ep) && decide (P.ep ≤ 9000000000)) := rfl
  have hl := hP.ls
  clear hP hF
  generalize (Tc.rtOf P.num P.den).isSome = v1 at *
  generalize Cal.validZ P.off P.sh = v2 at *
  generalize tmZ P = T at *
  have HT := Lib.hid hT
  clear hT
  go_enter Tryz.func42, Tryz.ntmps42
  go_wp2_with fail
  obtain ⟨W0, hW0, b0, z0, kP⟩ := boxP w P q
  rw [hW0]; clear hW0
  have c1 := kP.cell (i := 1) rfl
  have c2 := kP.cell (i := 2) rfl
  go_wp2_with fail
  refine (hv1 _ b0).mono ?_
  rintro e W1 ⟨rfl, b1⟩
  have kP1 := kP.below b1 (by omega)
  have c3 := kP1.cell (i := 3) rfl
  have c4 := kP1.cell (i := 4) rfl
  go_wp2_with fail
  refine (hv2 _ (bthen b0 b1)).mono ?_
  rintro e W2 ⟨rfl, b2⟩
  have kP2 := kP1.below b2 kP1.lt
  have c5 := kP2.cell (i := 5) rfl
  have b02 := bthen (bthen b0 b1) b2
  clear hv1 hv2 c1 c2 c3 c4 kP kP1 kP2 b0 b1 b2 z0
  cases v1 with
  | false =>
    go_wp2_with fail
    go_ret
    exact ⟨by rw [HT.out]; rfl, b02⟩
  | true =>
    cases v2 with
    | false =>
      go_wp2_with fail
      go_ret
      exact ⟨by rw [HT.out]; rfl, b02⟩
    | true =>
      cases e0 : decide (0 ≤ P.ep) <;> cases e1 : decide (P.ep ≤ 9000000000) <;> (
        rw [e0, e1] at HT
        go_wp2_with fail
        go_ret
        exact ⟨by rw [HT.out]; rfl, b02⟩)

end Go.Proofs.YtfannkpnmaeljaaGreatDoor

/- permit: the reference's Catchup. -/
namespace Go.Proofs.YtfannkpnmaeljaaGreatDoor
open Go.RowKit Go.Shelf

set_option maxRecDepth 100000 in
set_option maxHeartbeats 8000000 in
theorem rcatch_any (P : Pl) (q : Pq) (it r f n : Int) (w : World) (hP : PlAt w w.heap.size P q) (hF : Tc.FmtAt w) (f0 : -9223372036854775808 ≤ f) (f1 : f ≤ 9223372036854775807) (n0 : -9223372036854775808 ≤ n) (n1 : n ≤ 9223372036854775807) :
    Calls Tryz.prog 23 #[.agg (plL P q).toArray, .agg (arL it r f n).toArray] w fun e w' => e = .returned (.agg #[iv (catP P it r f n).1, iv (catP P it r f n).2]) ∧ Below w.heap.size w w' := by
  obtain ⟨V, hV⟩ : ∃ V, catP P it r f n = V := ⟨_, rfl⟩
  rw [hV]
  unfold catP lstB frB at hV
  have hcat := fun W (h : Below w.heap.size w W) => rcatchup_any q.pc q.cc P.cls it r W (hP.into h).cls (by have := hP.lc; omega)
  have htm := fun W (h : Below w.heap.size w W) => rtimed_any P q W (hP.into h) (hF.below h)
  have hsec := fun W (h : Below w.heap.size w W) => Tc.rseconds_t P.num P.den (f + n - 1) W (hF.below h)
  have hsb := fun (ht : tmZ P = true) (hb : 0 ≤ f + n - 1 ∧ f + n - 1 ≤ 100000000) => sec_in ht hb.1 hb.2
  have hep := fun (ht : tmZ P = true) => (tm_rt ht).2.2
  have hcb := cat_bd P.cls it r
  generalize lastZ P.cls 4 it r 0 = c at *
  clear hP hF
  obtain ⟨x, y⟩ := V
  dsimp only
  go_enter Tryz.func23, Tryz.ntmps23
  go_wp2_with fail
  have hi2 : (Tryz.prog.info? 34).map (·.size) = some 2 := by kernel_rfl
  obtain ⟨W0, hW0, b0, z0, kP, kA, kR⟩ : ∃ W0, ((w.alloc (.cells (plL P q).toArray 32)).alloc (.cells (arL it r f n).toArray 46)).alloc (.cells #[iv 0, iv 0] 34) = W0 ∧ Below w.heap.size w W0 ∧ W0.heap.size = w.heap.size + 1 + 1 + 1 ∧
      Arr W0 w.heap.size 32 (plL P q) ∧ Arr W0 (w.heap.size + 1) 46 (arL it r f n) ∧ Arr W0 (w.heap.size + 1 + 1) 34 [iv 0, iv 0] :=
    ⟨_, rfl, (((Below.refl _ w).alloc (Nat.le_refl _) _).alloc (by simp) _).alloc (by simp; omega) _, by simp, ((Arr.new w _ (plL P q)).alloc _).alloc _, (Arr.new' _ (arL it r f n) (by simp)).alloc _, Arr.new' _ [iv 0, iv 0] (by simp)⟩
  rw [hW0]; clear hW0
  obtain ⟨K, hK⟩ : ∃ K, w.heap.size = K := ⟨_, rfl⟩
  obtain ⟨I, hI⟩ : ∃ I, K + 1 = I := ⟨_, rfl⟩
  obtain ⟨D, hD⟩ : ∃ D, I + 1 = D := ⟨_, rfl⟩
  rw [hK] at kP kA kR z0 ⊢
  rw [hI] at kA kR z0 ⊢
  rw [hD] at kR z0 ⊢
  have p12 := kP.cell (i := 12) rfl
  have a0 := kA.cell (i := 0) rfl
  have a1 := kA.cell (i := 1) rfl
  go_wp2_with fail
  refine (hcat _ b0).mono ?_
  rintro e W1 ⟨rfl, b1⟩
  have b01 := bthen b0 b1
  have kP1 := kP.below b1 kP.lt
  have kA1 := kA.below b1 kA.lt
  have kR1 := kR.below b1 kR.lt
  clear p12 a0 a1 hcat
  have c0 := kP1.cell (i := 0) rfl
  have c1 := kP1.cell (i := 1) rfl
  have c2 := kP1.cell (i := 2) rfl
  have c3 := kP1.cell (i := 3) rfl
  have c4 := kP1.cell (i := 4) rfl
  have c5 := kP1.cell (i := 5) rfl
  have c6 := kP1.cell (i := 6) rfl
  have c7 := kP1.cell (i := 7) rfl
  have c8 := kP1.cell (i := 8) rfl
  have c9 := kP1.cell (i := 9) rfl
  have c10 := kP1.cell (i := 10) rfl
  have c11 := kP1.cell (i := 11) rfl
  have c12 := kP1.cell (i := 12) rfl
  go_wp2_with fail
  refine (htm _ b01).mono ?_
  rintro e W2 ⟨rfl, b2⟩
  have b02 := bthen b01 b2
  have kP2 := kP1.below b2 kP1.lt
  have kA2 := kA1.below b2 kA1.lt
  have kR2 := kR1.below b2 kR1.lt
  have hwK : w.heap.size ≤ D := by omega
  clear c0 c1 c2 c3 c4 c5 c6 c7 c8 c9 c10 c11 c12 htm kP kA kR kP1 kA1 kR1 z0
  have a2 := kA2.cell (i := 2) rfl
  have a3 := kA2.cell (i := 3) rfl
  cases ec : (c == 0) with
  | true =>
    obtain ⟨rfl, rfl⟩ : x = 0 ∧ y = 0 := by
      rw [if_neg (by simp [ec])] at hV
      simpa [eq_comm] using hV
    clear hV hsec hsb hep
    go_wp2_with (refine wpList_store_abs rfl 34 _ _ rfl D #[iv (0), iv (0)] rfl rfl 34 #[iv 0, iv 0] kR2 hi2 rfl (by simp [Value.oneCell']) ?_; intro W9 k9 b9 o9)
    have e0 := (show Arr W9 _ _ [iv (0), iv (0)] from k9).cell (i := 0) rfl
    have e1 := (show Arr W9 _ _ [iv (0), iv (0)] from k9).cell (i := 1) rfl
    exact bodyPost_ret (v := .agg #[iv (0), iv (0)]) (by simp [results, Tryz.results23, go_sem, e0, e1]) rfl ⟨rfl, b02.trans (b9.mono (by omega))⟩
  | false =>
    cases hT : tmZ P with
    | false =>
      obtain ⟨rfl, rfl⟩ : x = 0 ∧ y = 0 := by
        rw [if_neg (by simp [hT])] at hV
        simpa [eq_comm] using hV
      clear hV hsec hsb hep
      go_wp2_with (refine wpList_store_abs rfl 34 _ _ rfl D #[iv (0), iv (0)] rfl rfl 34 #[iv 0, iv 0] kR2 hi2 rfl (by simp [Value.oneCell']) ?_; intro W9 k9 b9 o9)
      have e0 := (show Arr W9 _ _ [iv (0), iv (0)] from k9).cell (i := 0) rfl
      have e1 := (show Arr W9 _ _ [iv (0), iv (0)] from k9).cell (i := 1) rfl
      exact bodyPost_ret (v := .agg #[iv (0), iv (0)]) (by simp [results, Tryz.results23, go_sem, e0, e1]) rfl ⟨rfl, b02.trans (b9.mono (by omega))⟩
    | true =>
      by_cases g0 : n < 1
      · have d0 : decide (n < 1) = true := decide_eq_true g0
        obtain ⟨rfl, rfl⟩ : x = 0 ∧ y = 0 := by
          rw [if_neg (by simp; omega)] at hV
          simpa [eq_comm] using hV
        clear hV hsec hsb hep
        go_wp2_with (refine wpList_store_abs rfl 34 _ _ rfl D #[iv (0), iv (0)] rfl rfl 34 #[iv 0, iv 0] kR2 hi2 rfl (by simp [Value.oneCell']) ?_; intro W9 k9 b9 o9)
        have e0 := (show Arr W9 _ _ [iv (0), iv (0)] from k9).cell (i := 0) rfl
        have e1 := (show Arr W9 _ _ [iv (0), iv (0)] from k9).cell (i := 1) rfl
        exact bodyPost_ret (v := .agg #[iv (0), iv (0)]) (by simp [results, Tryz.results23, go_sem, e0, e1]) rfl ⟨rfl, b02.trans (b9.mono (by omega))⟩
      have d0 : decide (n < 1) = false := decide_eq_false g0
      by_cases g1 : 100000001 < n
      · have d1 : decide (100000001 < n) = true := decide_eq_true g1
        obtain ⟨rfl, rfl⟩ : x = 0 ∧ y = 0 := by
          rw [if_neg (by simp; omega)] at hV
          simpa [eq_comm] using hV
        clear hV hsec hsb hep
        go_wp2_with (refine wpList_store_abs rfl 34 _ _ rfl D #[iv (0), iv (0)] rfl rfl 34 #[iv 0, iv 0] kR2 hi2 rfl (by simp [Value.oneCell']) ?_; intro W9 k9 b9 o9)
        have e0 := (show Arr W9 _ _ [iv (0), iv (0)] from k9).cell (i := 0) rfl
        have e1 := (show Arr W9 _ _ [iv (0), iv (0)] from k9).cell (i := 1) rfl
        exact bodyPost_ret (v := .agg #[iv (0), iv (0)]) (by simp [results, Tryz.results23, go_sem, e0, e1]) rfl ⟨rfl, b02.trans (b9.mono (by omega))⟩
      have d1 : decide (100000001 < n) = false := decide_eq_false g1
      by_cases g2 : f < 0
      · have d2 : decide (f < 0) = true := decide_eq_true g2
        obtain ⟨rfl, rfl⟩ : x = 0 ∧ y = 0 := by
          rw [if_neg (by simp; omega)] at hV
          simpa [eq_comm] using hV
        clear hV hsec hsb hep
        go_wp2_with (refine wpList_store_abs rfl 34 _ _ rfl D #[iv (0), iv (0)] rfl rfl 34 #[iv 0, iv 0] kR2 hi2 rfl (by simp [Value.oneCell']) ?_; intro W9 k9 b9 o9)
        have e0 := (show Arr W9 _ _ [iv (0), iv (0)] from k9).cell (i := 0) rfl
        have e1 := (show Arr W9 _ _ [iv (0), iv (0)] from k9).cell (i := 1) rfl
        exact bodyPost_ret (v := .agg #[iv (0), iv (0)]) (by simp [results, Tryz.results23, go_sem, e0, e1]) rfl ⟨rfl, b02.trans (b9.mono (by omega))⟩
      have d2 : decide (f < 0) = false := decide_eq_false g2
      by_cases g3 : 100000000 < f
      · have d3 : decide (100000000 < f) = true := decide_eq_true g3
        obtain ⟨rfl, rfl⟩ : x = 0 ∧ y = 0 := by
          rw [if_neg (by simp; omega)] at hV
          simpa [eq_comm] using hV
        clear hV hsec hsb hep
        go_wp2_with (refine wpList_store_abs rfl 34 _ _ rfl D #[iv (0), iv (0)] rfl rfl 34 #[iv 0, iv 0] kR2 hi2 rfl (by simp [Value.oneCell']) ?_; intro W9 k9 b9 o9)
        have e0 := (show Arr W9 _ _ [iv (0), iv (0)] from k9).cell (i := 0) rfl
        have e1 := (show Arr W9 _ _ [iv (0), iv (0)] from k9).cell (i := 1) rfl
        exact bodyPost_ret (v := .agg #[iv (0), iv (0)]) (by simp [results, Tryz.results23, go_sem, e0, e1]) rfl ⟨rfl, b02.trans (b9.mono (by omega))⟩
      have d3 : decide (100000000 < f) = false := decide_eq_false g3
      have hw3 : IntKind.i64.wrap (f + n) = f + n := w64 (by omega) (by omega)
      have hw4 : IntKind.i64.wrap (f + n - 1) = f + n - 1 := w64 (by omega) (by omega)
      by_cases g4 : 100000000 < f + n - 1
      · have d4 : decide (100000000 < f + n - 1) = true := decide_eq_true g4
        obtain ⟨rfl, rfl⟩ : x = 0 ∧ y = 0 := by
          rw [if_neg (by simp; omega)] at hV
          simpa [eq_comm] using hV
        clear hV hsec hsb hep
        go_wp2_with (refine wpList_store_abs rfl 34 _ _ rfl D #[iv (0), iv (0)] rfl rfl 34 #[iv 0, iv 0] kR2 hi2 rfl (by simp [Value.oneCell']) ?_; intro W9 k9 b9 o9)
        have e0 := (show Arr W9 _ _ [iv (0), iv (0)] from k9).cell (i := 0) rfl
        have e1 := (show Arr W9 _ _ [iv (0), iv (0)] from k9).cell (i := 1) rfl
        exact bodyPost_ret (v := .agg #[iv (0), iv (0)]) (by simp [results, Tryz.results23, go_sem, e0, e1]) rfl ⟨rfl, b02.trans (b9.mono (by omega))⟩
      have d4 : decide (100000000 < f + n - 1) = false := decide_eq_false g4
      have h1 := hsb hT (by omega)
      have h2 := hep hT
      have hse : secZ P (f + n - 1) = P.ep + Tc.secF P.num P.den (f + n - 1) := rfl
      obtain ⟨hx, hy⟩ : x = secZ P (f + n - 1) + 1 ∧ y = secZ P (f + n - 1) + 1 + c := by
        rw [if_pos (by simp [ec, hT]; omega)] at hV
        simpa [eq_comm] using hV
      generalize secZ P (f + n - 1) = S at *
      generalize Tc.secF P.num P.den (f + n - 1) = s at *
      have hw0 : IntKind.i64.wrap (P.ep + s) = S := by rw [hse]; exact w64 (by omega) (by omega)
      have hw1 : IntKind.i64.wrap (S + 1) = S + 1 := w64 (by omega) (by omega)
      have hw2 : IntKind.i64.wrap (S + 1 + c) = S + 1 + c := w64 (by omega) (by omega)
      have HSE := Lib.hid hse
      have HX := Lib.hid hx
      have HY := Lib.hid hy
      clear hV hsb hep hse hx hy
      have c1 := kP2.cell (i := 1) rfl
      have c2 := kP2.cell (i := 2) rfl
      have c5 := kP2.cell (i := 5) rfl
      have hs' := fun W (h : Below W2.heap.size W2 W) => hsec W (bthen b02 h)
      have hKl := kP2.lt
      have hIl := kA2.lt
      have hDl := kR2.lt
      have hst : W2.drew.cell? ⟨K, 1, none⟩ = some (iv P.num) ∧ W2.drew.cell? ⟨K, 2, none⟩ = some (iv P.den) ∧ W2.drew.cell? ⟨K, 5, none⟩ = some (iv P.ep) ∧ W2.drew.cell? ⟨I, 2, none⟩ = some (iv f) ∧ W2.drew.cell? ⟨I, 3, none⟩ = some (iv n) ∧ Below W2.heap.size W2 W2.drew := ⟨c1, c2, c5, a2, a3, (Below.refl _ _).drew⟩
      clear c1 c2 c5 hsec
      go_wp2_with fail
      clear a2 a3
      go_region_held3 (fun w' => w'.cell? ⟨K, 1, none⟩ = some (iv P.num) ∧ w'.cell? ⟨K, 2, none⟩ = some (iv P.den) ∧ w'.cell? ⟨K, 5, none⟩ = some (iv P.ep) ∧ w'.cell? ⟨I, 2, none⟩ = some (iv f) ∧ w'.cell? ⟨I, 3, none⟩ = some (iv n) ∧ Below W2.heap.size W2 w') (first | assumption | exact hst | exact keepC (by assumption) hKl hKl hKl hIl hIl (Nat.le_refl _) b6 | fail)
        (first | (go_at_call 44; refine (hs' _ (by assumption : _ ∧ _ ∧ _ ∧ _ ∧ _ ∧ Below W2.heap.size W2 _).2.2.2.2.2).mono ?_; rintro e w6 ⟨rfl, b6⟩) | fail)
      rename_i hHeld
      have b6' := hHeld.2.2.2.2.2
      have b06 := bthen b02 b6'
      have kR6 := kR2.below b6' hDl
      clear hHeld hst hs' b6
      go_wp2_with (refine wpList_store_abs rfl 34 _ _ rfl D #[iv (S + 1), iv (S + 1 + c)] rfl rfl 34 #[iv 0, iv 0] kR6 hi2 rfl (by simp [Value.oneCell']) ?_; intro W9 k9 b9 o9)
      have e0 := (show Arr W9 _ _ [iv (S + 1), iv (S + 1 + c)] from k9).cell (i := 0) rfl
      have e1 := (show Arr W9 _ _ [iv (S + 1), iv (S + 1 + c)] from k9).cell (i := 1) rfl
      exact bodyPost_ret (v := .agg #[iv (S + 1), iv (S + 1 + c)]) (by simp [results, Tryz.results23, go_sem, e0, e1]) rfl ⟨by rw [HX.out, HY.out], b06.trans (b9.mono (by omega))⟩
end Go.Proofs.YtfannkpnmaeljaaGreatDoor

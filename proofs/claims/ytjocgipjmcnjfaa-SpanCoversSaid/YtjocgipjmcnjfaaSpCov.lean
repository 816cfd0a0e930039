/- SpanCovers. -/
import Derived.Test.YtjocgipjmcnjfaaSpAlgM
import Derived.Test.YtjocgipjmcnjfaaSpSane
namespace Go.Proofs.Ytjocgipjmcnjfaa
open Go.RowKit Go.Shelf

set_option maxRecDepth 100000 in
set_option maxHeartbeats 8000000 in
theorem covers_law (pa : Option Addr) (ca : Nat) (a : List (Int × Int)) (la : a.length ≤ 9223372036854775807) (ka : a.length ≤ ca) (ma : ca ≤ 9223372036854775807) (w : World) (Sa : ShAt w w.heap.size pa a) (Ba : Bd a) (x y : Int) (x0 : -9223372036854775808 ≤ x) (x1 : x ≤ 9223372036854775807) (y0 : -9223372036854775808 ≤ y) (y1 : y ≤ 9223372036854775807) :
    Calls Try.prog 8 #[.slice pa a.length ca, .agg #[iv x, iv y]] w fun e w' => e = .returned (.bool true) ∧ Below w.heap.size w w' := by
  have Fa := fun W => few_any pa ca a W la ka ma
  have Sa := Sa.take 30
  have Ba := Ba.take 30
  have Na := few_len a
  have Ca : (a.take 30).length ≤ ca := Nat.le_trans (by rw [List.length_take]; omega) ka
  obtain ⟨na, hna⟩ : ∃ n, a.length = n := ⟨_, rfl⟩
  rw [hna] at Fa ⊢
  generalize a.take 30 = La at Fa Sa Ba Na Ca
  clear hna la ka ma
  have Bo : Bd [(x, y)] := fun s hs => by rw [List.mem_singleton] at hs; subst hs; exact ⟨x0, x1, y0, y1⟩
  obtain ⟨ri, eri⟩ : ∃ r, intZ La [(x, y)] = r := ⟨_, rfl⟩
  obtain ⟨no, eno⟩ : ∃ r, nrmZ [(x, y)] = r := ⟨_, rfl⟩
  obtain ⟨so, eso⟩ : ∃ r, subZ [(x, y)] La = r := ⟨_, rfl⟩
  have Nri : ri.length ≤ 62 := by have h := int_len Ba Bo; rw [eri] at h; simp at h; omega
  have Nno : no.length ≤ 1 := by have h := nrm_len [(x, y)]; rw [eno] at h; exact h
  have Nso : so.length ≤ 62 := by have h := sub_len Bo Ba; rw [eso] at h; simp at h; omega
  have H1 := op_int (a := La) (b := [(x, y)]) eri (by omega) (by simp) Ba Bo
  have H2 := op_nrm (a := [(x, y)]) eno (by simp)
  have H3 := op_sub (a := [(x, y)]) (b := La) eso (by simp) (by omega) Bo Ba
  have HC := fun W (h : ShAt W W.heap.size pa La) => covers_any pa ca La x y W h (by omega)
  obtain ⟨V, hV⟩ : ∃ V, covZ La (x, y) = V := ⟨_, rfl⟩
  rw [hV] at HC
  have q1 : decide (ri = no) = V := by rw [← eri, ← eno, ← hV, Bool.eq_iff_iff, decide_eq_true_eq, cov_int]
  have q2 : ((so.length : Int) == 0) = V := by rw [← eso, ← hV, Bool.eq_iff_iff, cov_sub]; simp
  have H4 := op_eq (a := ri) (b := no) (by omega) (by omega) q1
  have hs1 : ∀ W N, Arr W N 30 [iv x, iv y] → ShAt W W.heap.size (some ⟨N, 0, none⟩) [(x, y)] := fun W N h i hi => by
    obtain rfl : i = 0 := by simp at hi; omega
    exact ⟨N, 0, rfl, h.lt, h.cell (i := 0) rfl, h.cell (i := 1) rfl⟩
  clear eri eno eso hV q1 Nri Nno Nso
  go_enter Try.func8, Try.ntmps8
  go_wp2_with fail
  obtain ⟨W0, hW0, bb0, z0, kx⟩ := boxS w x y
  try rw [hW0]
  clear hW0
  have Sa := Sa.into bb0
  obtain ⟨N, hN⟩ : ∃ N, w.heap.size = N := ⟨_, rfl⟩
  have hNl : N < W0.heap.size := by omega
  rw [hN] at kx ⊢
  refine Calls.mono (sane_any _) ?_
  rintro e w1 ⟨rfl, b⟩
  have bb1 := bthen bb0 b
  have Sa := Sa.into b
  have kx := kx.below b hNl
  clear b
  go_wp2_with fail
  refine Calls.mono (Fa _) ?_
  rintro e w' ⟨rfl, rfl⟩
  have kxl := kx.lt
  have u0 := kx.cell (i := 0) rfl
  have u1 := kx.cell (i := 1) rfl
  go_wp2_with fail
  obtain ⟨W2, hW2, b, z2, ky⟩ := boxS w' x y
  rw [hW2]; clear hW2
  have bb2 := bthen bb1 b
  have Sa := Sa.into b
  have So := hs1 _ _ ky
  obtain ⟨O, hO⟩ : ∃ O, w'.heap.size = O := ⟨_, rfl⟩
  have kx := kx.below b kxl
  rw [hO] at So ⊢
  have Co : [(x, y)].length ≤ 1 := Nat.le_refl _
  obtain ⟨po, hpo⟩ : ∃ p, some (⟨O, 0, none⟩ : Addr) = p := ⟨_, rfl⟩
  rw [hpo] at So ⊢
  clear b ky z2 hO hs1 kxl u0 u1 hpo
  refine Calls.mono (HC _ Sa) ?_
  rintro e w3 ⟨rfl, b⟩
  have bb3 := bthen bb2 b
  have Sa := Sa.into b
  have So := So.into b
  clear b HC kx
  go_wp2_with fail
  refine Calls.mono (H1 _ pa po ca 1 Sa So Ca Co) ?_
  rintro e w4 ⟨v, rfl, o, b⟩
  have bb4 := bthen bb3 b
  have Sa := Sa.into b
  have So := So.into b
  obtain ⟨p0, c0, rfl, S0, C0⟩ := own_shc o
  clear o b
  go_wp2_with fail
  refine Calls.mono (H2 _ po 1 So) ?_
  rintro e w5 ⟨v, rfl, o, b⟩
  have bb5 := bthen bb4 b
  have Sa := Sa.into b
  have So := So.into b
  have S0 := S0.into b
  obtain ⟨p1, c1, rfl, S1, C1⟩ := own_shc o
  clear o b
  go_wp2_with fail
  refine Calls.mono (H4 _ p0 p1 c0 c1 S0 S1) ?_
  rintro e w6 ⟨rfl, b⟩
  have bb6 := bthen bb5 b
  have Sa := Sa.into b
  have So := So.into b
  clear b
  go_wp2_with fail
  refine Calls.mono (H3 _ po pa 1 ca So Sa Co Ca) ?_
  rintro e w7 ⟨v, rfl, o, b⟩
  have bb7 := bthen bb6 b
  have Sa := Sa.into b
  have So := So.into b
  obtain ⟨p2, c2, rfl, S2, C2⟩ := own_shc o
  clear o b
  go_wp2_with fail
  go_ret
  exact ⟨by simp, bb7⟩
end Go.Proofs.Ytjocgipjmcnjfaa

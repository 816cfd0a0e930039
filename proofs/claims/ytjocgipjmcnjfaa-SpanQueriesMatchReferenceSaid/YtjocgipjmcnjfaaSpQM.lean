/- SpanQueriesMatchReference. -/
import Derived.Test.YtjocgipjmcnjfaaSpAlgM
import Derived.Test.YtjocgipjmcnjfaaSpSane
import Derived.Test.YtjocgipjmcnjfaaSpRefS
import Derived.Test.YtjocgipjmcnjfaaSpRefT
import Derived.Test.YtjocgipjmcnjfaaSpRefI
namespace Go.Proofs.Ytjocgipjmcnjfaa
open Go.RowKit Go.Shelf

theorem invQ {P Q : Prop} {n : Nat} {v W : World} (h : P ∧ Q ∧ Below n v W) : Below n v W := h.2.2
theorem heldQ {W W' W'' : World} {N n : Nat} {x y : Value} (hS : W'.cell? ⟨N, 0, none⟩ = some x ∧ W'.cell? ⟨N, 1, none⟩ = some y ∧ Below n W W') (hN : N < W.heap.size) (hn : n ≤ W.heap.size) (b : Below W'.heap.size W' W'') :
    W''.cell? ⟨N, 0, none⟩ = some x ∧ W''.cell? ⟨N, 1, none⟩ = some y ∧ Below n W W'' := by
  have hs := hS.2.2.size
  exact ⟨(b.cell (p := ⟨N, 0, none⟩) (by simp; omega)).trans hS.1, (b.cell (p := ⟨N, 1, none⟩) (by simp; omega)).trans hS.2.1, hS.2.2.trans (b.mono (by omega))⟩

set_option maxRecDepth 100000 in
set_option maxHeartbeats 8000000 in
theorem queries_law (pa : Option Addr) (ca : Nat) (a : List (Int × Int)) (la : a.length ≤ 9223372036854775807) (ka : a.length ≤ ca) (ma : ca ≤ 9223372036854775807) (w : World) (Sa : ShAt w w.heap.size pa a) (Ba : Bd a) (x y t n : Int) (t0 : -9223372036854775808 ≤ t) (t1 : t ≤ 9223372036854775807) (n1 : n ≤ 9223372036854775807) :
    Calls Try.prog 5 #[.slice pa a.length ca, .agg #[iv x, iv y], iv t, iv n] w fun e w' => e = .returned (.bool true) ∧ Below w.heap.size w w' := by
  have Fa := fun W => few_any pa ca a W la ka ma
  have Sa := Sa.take 30
  have Ba := Ba.take 30
  have Na := few_len a
  have Ca : (a.take 30).length ≤ ca := Nat.le_trans (by rw [List.length_take]; omega) ka
  obtain ⟨na, hna⟩ : ∃ n, a.length = n := ⟨_, rfl⟩
  rw [hna] at Fa ⊢
  generalize a.take 30 = La at Fa Sa Ba Na Ca
  clear hna la ka ma
  obtain ⟨V, hV⟩ : ∃ V, earlZ La t n = V := ⟨_, rfl⟩
  have H1 := fun W (h : ShAt W W.heap.size pa La) => earliest_any pa ca La t n W h (by omega) Ba t0 t1 n1
  have H2 := fun W (h : ShAt W W.heap.size pa La) => rearliest_any pa ca La t n W h (by omega) Ba t0 t1 n1
  rw [hV] at H1 H2
  obtain ⟨V1, V2⟩ := V
  dsimp only at H1 H2
  have H3 := fun W (h : ShAt W W.heap.size pa La) => has_any pa ca La t W h (by omega)
  have H4 := fun W (h : ShAt W W.heap.size pa La) => rhas_any pa ca La t W h (by omega)
  generalize hasZ La t = V3 at H3 H4
  have H5 := fun W (h : ShAt W W.heap.size pa La) => covers_any pa ca La x y W h (by omega)
  have H6 := fun W (h : ShAt W W.heap.size pa La) => rcovers_any pa ca La x y W h (by omega)
  generalize covZ La (x, y) = V4 at H5 H6
  clear hV
  have bb0 := Below.refl w.heap.size w
  go_enter Try.func5, Try.ntmps5
  go_wp2_with fail
  obtain ⟨W0, hW0, b, z0, kx⟩ := boxS w x y
  try rw [hW0]
  clear hW0
  have bb0 := b
  have Sa := Sa.into b
  obtain ⟨N, hN⟩ : ∃ N, w.heap.size = N := ⟨_, rfl⟩
  have hNl : N < W0.heap.size := by omega
  rw [hN] at kx ⊢
  clear b z0
  refine Calls.mono (sane_any _) ?_
  rintro e w1 ⟨rfl, b⟩
  have bb1 := bthen bb0 b
  have Sa := Sa.into b
  have kx := kx.below b hNl
  have hNl := kx.lt
  clear b
  go_wp2_with fail
  refine Calls.mono (Fa _) ?_
  rintro e w' ⟨rfl, rfl⟩
  go_wp2_with fail
  refine Calls.mono (H1 _ Sa) ?_
  rintro e w2 ⟨rfl, b⟩
  have bb2 := bthen bb1 b
  have Sa := Sa.into b
  have kx := kx.below b hNl
  have hNl := kx.lt
  clear b
  go_wp2_with fail
  refine Calls.mono (H2 _ Sa) ?_
  rintro e w3 ⟨rfl, b⟩
  have bb3 := bthen bb2 b
  have Sa := Sa.into b
  have kx := kx.below b hNl
  have hNl := kx.lt
  clear b
  have u0 := kx.cell (i := 0) rfl
  have u1 := kx.cell (i := 1) rfl
  have e1 : (V1 == V1) = true := by simp
  have e2 : (V2 == V2) = true := by simp
  have e3 : (V3 == V3) = true := by simp
  have e4 : (V4 == V4) = true := by simp
  have r3 := fun W (h : Below w3.heap.size w3 W) => H3 W (Sa.into h)
  have r4 := fun W (h : Below w3.heap.size w3 W) => H4 W (Sa.into h)
  have r5 := fun W (h : Below w3.heap.size w3 W) => H5 W (Sa.into h)
  have r6 := fun W (h : Below w3.heap.size w3 W) => H6 W (Sa.into h)
  have hst : w3.drew.cell? ⟨N, 0, none⟩ = some (iv x) ∧ w3.drew.cell? ⟨N, 1, none⟩ = some (iv y) ∧ Below w3.heap.size w3 w3.drew := ⟨u0, u1, (Below.refl _ _).drew⟩
  clear H3 H4 H5 H6 H1 H2
  go_wp2_with fail
  go_region_held3 (fun w' => w'.cell? ⟨N, 0, none⟩ = some (iv x) ∧ w'.cell? ⟨N, 1, none⟩ = some (iv y) ∧ Below w3.heap.size w3 w') (first | assumption | exact hst | exact heldQ (by assumption) hNl (Nat.le_refl _) b6 | fail)
    (first | (go_at_call 30; (with_reducible refine Calls.mono (r3 _ (invQ (by assumption))) ?_); rintro e w6 ⟨rfl, b6⟩) | (go_at_call 31; (with_reducible refine Calls.mono (r4 _ (invQ (by assumption))) ?_); rintro e w6 ⟨rfl, b6⟩) | (go_at_call 32; (with_reducible refine Calls.mono (r5 _ (invQ (by assumption))) ?_); rintro e w6 ⟨rfl, b6⟩) | (go_at_call 33; (with_reducible refine Calls.mono (r6 _ (invQ (by assumption))) ?_); rintro e w6 ⟨rfl, b6⟩) | fail)
  all_goals
    rename_i hHeld
    have bl := invQ hHeld
    clear hst hHeld
    go_wp2_with fail
    go_ret
    exact ⟨by simp, bthen bb3 bl⟩
end Go.Proofs.Ytjocgipjmcnjfaa

import Derived.Test.YtfannkpnmaeljaaGreatDoorGRiT3
import Derived.Deep.RegionHeld3
import Derived.Test.YtfannkpnmaeljaaGreatDoorGRiT1
import Derived.Test.YtfannkpnmaeljaaGreatDoorGRi1
import Derived.Test.YtfannkpnmaeljaaGreatDoorGRi2
import Derived.Test.YtfannkpnmaeljaaGreatDoorGSpT1
set_option linter.unusedVariables false
set_option linter.unusedSimpArgs false
/- change: a window laid into a valid list. -/
namespace Go.Proofs.YtfannkpnmaeljaaGreatDoor
open Go.RowKit Go.Shelf


set_option maxRecDepth 100000 in
set_option maxHeartbeats 4000000 in
theorem change_subZ (N : Nat) (v : Value) (l : List (Int × Int)) (s1 s2 : Int) (w : World) (h : w.ownsRow N 34 2 v l.length (spv l)) (hN : N ≤ w.heap.size) (ha : Asc l) (hbd : Bd l) (hsb : Bd [(s1, s2)]) (hs : s1 < s2) (hl : l.length ≤ 10000) :
    Calls Tryz.prog 102 #[v, .agg #[iv s1, iv s2], .func (.func 104) #[] #[]] w (Joined w N v (chgZ subZ l (s1, s2))) := by
  have hle := i0_le ha (s := (s1, s2)) hs
  have hj := (i1_spec ha (s1, s2)).2.2
  have hML : (midZ l (s1, s2)).length = i1Z l (s1, s2) - i0Z l (s1, s2) := by unfold midZ; rw [List.length_drop, List.length_take]; omega
  have hMb : Bd (midZ l (s1, s2)) := fun t ht => hbd t (List.mem_of_mem_take (List.mem_of_mem_drop ht))
  have hFl : (subZ (midZ l (s1, s2)) [(s1, s2)]).length ≤ 50000 := by
    have := subZ_len hMb hsb
    rw [hML] at this; simp at this; omega
  have hS1 := fun W hW => search1 w.heap.size (w.heap.size + 1) v l (s1, s2) l.length rfl (by omega) ha W hW
  have hS2 := fun W hW => search2 w.heap.size (w.heap.size + 1) v l (s1, s2) l.length rfl (by omega) ha W hW
  unfold chgZ
  have hget : ∀ t, t < i1Z l (s1, s2) - i0Z l (s1, s2) → (midZ l (s1, s2)).getD t (0, 0) = l.getD (i0Z l (s1, s2) + t) (0, 0) := fun t ht => by
    unfold midZ
    rw [List.getD_eq_getElem?_getD, List.getD_eq_getElem?_getD, List.getElem?_drop, List.getElem?_take_of_lt (by omega)]
  generalize midZ l (s1, s2) = M at *
  generalize i0Z l (s1, s2) = i at *
  generalize i1Z l (s1, s2) = j at *
  -- the boxes
  obtain ⟨W1, hW1⟩ : ∃ W1, (w.alloc (.cells #[v] 40)).alloc (.cells #[iv s1, iv s2] 34) = W1 := ⟨_, rfl⟩
  have bW1 : Below w.heap.size w W1 := hW1 ▸ ((Below.refl _ w).alloc (Nat.le_refl _) _).alloc (by simp) _
  have hBB : Arr W1 w.heap.size 40 [v] := hW1 ▸ (Arr.new w _ [v]).alloc _
  have hCC : Arr W1 (w.heap.size + 1) 34 [iv s1, iv s2] := hW1 ▸ Arr.new' _ _ (by simp)
  have hsh : ∃ p n cap, v = .slice p n cap ∧ n = l.length ∧ ShAt w w.heap.size p l := by
    obtain ⟨p, cap, rfl, hsh⟩ := own_sh h
    exact ⟨p, _, cap, rfl, rfl, hsh⟩
  have hse : Seen W1 w.heap.size (w.heap.size + 1) v l (s1, s2) := ⟨hBB, hCC, by obtain ⟨p, n, cap, e, hn, hS⟩ := hsh; exact ⟨p, n, cap, e, hn, hS.into bW1⟩⟩
  have hR := fun (W4 w5 : World) (v5 : Value) (b4 : Below w.heap.size w W4) (b5 : Below W4.heap.size W4 w5) (own5 : w5.ownsRow W4.heap.size 34 2 v5 (subZ M [(s1, s2)]).length (spv (subZ M [(s1, s2)]))) =>
    replace_any N W4.heap.size i j v v5 l (subZ M [(s1, s2)]) w5 (own_below h (bthen2' b4 b5)) own5 (fun k hk hv => by
      have := own_le own5 k hk
      have := (h.lt k hv).2
      have := b4.size
      omega) (by have := b4.size; have := b5.size; omega) hle hj (by omega) (by omega)
  have HR := Lib.hid hR
  have hBk : ¬ v.ownBlock = some w.heap.size := fun e => by have := (h.lt _ e).2; omega
  have hCk : ¬ v.ownBlock = some (w.heap.size + 1) := fun e => by have := (h.lt _ e).2; omega
  have hOne : ∀ (W : World) (X : Nat), Arr W X 34 (spv [(s1, s2)]) → ShAt W W.heap.size (some ⟨X, 0, none⟩) [(s1, s2)] := fun W X hX t ht => by
    obtain rfl : t = 0 := by simpa using ht
    exact ⟨X, 0, rfl, hX.lt, hX.cell (i := 0) rfl, hX.cell (i := 1) rfl⟩
  have ij : (i : Int) ≤ (j : Int) := by omega
  have i0' : (0 : Int) ≤ (i : Int) := by omega
  have j0' : (0 : Int) ≤ (j : Int) := by omega
  clear hR hBB hCC
  rcases own_form h with ⟨rfl, rfl⟩ | ⟨g, cap, X, rfl, hA⟩
  · obtain rfl : j = 0 := by simpa using hj
    obtain rfl : i = 0 := by omega
    have hM0 : M = [] := List.eq_nil_of_length_eq_zero (by omega)
    subst hM0
    have HC := Lib.hid (fun (W : World) (hW : Below w.heap.size w W) (X : Nat) (hX : Arr W X 34 (spv [(s1, s2)])) => subtract_any none (some ⟨X, 0, none⟩) 0 1 [] [(s1, s2)] W (ShAt.nil _ _ _) (hOne W X hX) (by simp) (by simp) (by simp) (by simp) Bd.nil hsb)
    clear hsh hOne hget
    have cB1 := hse.1.cell (i := 0) rfl
    go_enter Tryz.func102, Tryz.ntmps102
    go_wp2_with fail
    clear hW1 cB1
    refine (hS1 _ hse).mono ?_
    rintro e w2 ⟨rfl, q2, os2, hw2⟩
    have b2 : Below W1.heap.size W1 w2 := hw2 ▸ grow_below W1 q2 os2
    clear hw2 hS1
    have hse2 := hse.below b2
    have cB2 := hse2.1.cell (i := 0) rfl
    have hS2' := hS2 w2 hse2
    go_wp2_with fail
    refine hS2'.mono ?_
    rintro e w3 ⟨rfl, q3, os3, hw3⟩
    have b3 : Below w2.heap.size w2 w3 := hw3 ▸ grow_below w2 q3 os3
    clear hw3 hS2' hS2 cB2
    have hse3 := hse2.below b3
    have b13 := bthen2' b2 b3
    have bw3 := bthen2' bW1 b13
    have hSS : ∀ W : World, Below w3.heap.size w3 W → W.cell? ⟨w.heap.size, 0, none⟩ = some (.slice none 0 0) ∧ W.cell? ⟨w.heap.size + 1, 0, none⟩ = some (iv s1) ∧ W.cell? ⟨w.heap.size + 1, 1, none⟩ = some (iv s2) := fun W hW => ⟨(hse3.1.below hW hse3.1.lt).cell (i := 0) rfl, (hse3.2.1.below hW hse3.2.1.lt).cell (i := 0) rfl, (hse3.2.1.below hW hse3.2.1.lt).cell (i := 1) rfl⟩
    have hS30 := hSS w3.drew (Below.refl _ _).drew
    have hA3 : Arr w3 w.heap.size 40 [.slice none 0 0] := hse3.1
    have hC3 : Arr w3 (w.heap.size + 1) 34 [iv s1, iv s2] := hse3.2.1
    have HSS := Lib.hid hSS
    clear hse hse2 hse3 hSS b2 b3 b13
    go_wp2_with fail
    refine wp_region_held_drew (S := (fun W => W.cell? ⟨w.heap.size, 0, none⟩ = some (.slice none 0 0) ∧ W.cell? ⟨w.heap.size + 1, 0, none⟩ = some (iv s1) ∧ W.cell? ⟨w.heap.size + 1, 1, none⟩ = some (iv s2))) (by kernel_rfl) hS30 (fun hHeld => ?_)
    refine wpAnyH_take (i := 0) (v := ?_) (by simp only [List.getElem?_toArray, List.getElem?_cons_zero, List.getElem?_cons_succ]; rfl) (by kernel_rfl) (by kernel_rfl) (by kernel_rfl) (by intro _ _ _ h; exact h) (Or.inl ⟨by rfl, ?_⟩) (by assumption) ?_
    rotate_left 1
    · (intro w' hSw; (try dsimp only at hSw); go_simp; (try (with_reducible rfl)))
    try simp only [Act.put, List.setIfInBounds_toArray, List.set_cons_zero, List.set_cons_succ]
    refine wpAnyH_take (i := 1) (v := ?_) (by simp only [List.getElem?_toArray, List.getElem?_cons_zero, List.getElem?_cons_succ]; rfl) (by kernel_rfl) (by kernel_rfl) (by kernel_rfl) (by intro _ _ _ h; exact h) (Or.inl ⟨by rfl, ?_⟩) (by assumption) ?_
    rotate_left 1
    · (intro w' hSw; (try dsimp only at hSw); go_simp; (try (with_reducible rfl)))
    try simp only [Act.put, List.setIfInBounds_toArray, List.set_cons_zero, List.set_cons_succ]
    refine wpAnyH_take (i := 2) (v := ?_) (by simp only [List.getElem?_toArray, List.getElem?_cons_zero, List.getElem?_cons_succ]; rfl) (by kernel_rfl) (by kernel_rfl) (by kernel_rfl) (by intro _ _ _ h; exact h) (Or.inl ⟨by rfl, ?_⟩) (by assumption) ?_
    rotate_left 1
    · (intro w' hSw; (try dsimp only at hSw); go_simp; (try (with_reducible rfl)))
    try simp only [Act.put, List.setIfInBounds_toArray, List.set_cons_zero, List.set_cons_succ]
    refine wpAnyH_take (i := 3) (v := ?_) (by simp only [List.getElem?_toArray, List.getElem?_cons_zero, List.getElem?_cons_succ]; rfl) (by kernel_rfl) (by kernel_rfl) (by kernel_rfl) (by intro _ _ _ h; exact h) (Or.inl ⟨by rfl, ?_⟩) (by assumption) ?_
    rotate_left 1
    · (intro w' hSw; (try dsimp only at hSw); go_simp; (try (with_reducible rfl)))
    try simp only [Act.put, List.setIfInBounds_toArray, List.set_cons_zero, List.set_cons_succ]
    refine wpAnyH_take (i := 4) (v := ?_) (by simp only [List.getElem?_toArray, List.getElem?_cons_zero, List.getElem?_cons_succ]; rfl) (by kernel_rfl) (by kernel_rfl) (by kernel_rfl) (by intro _ _ _ h; exact h) (Or.inl ⟨by rfl, ?_⟩) (by assumption) ?_
    rotate_left 1
    · (intro w' hSw; (try dsimp only at hSw); go_simp; (try (with_reducible rfl)))
    try simp only [Act.put, List.setIfInBounds_toArray, List.set_cons_zero, List.set_cons_succ]
    refine wpAnyH_take (i := 5) (v := ?_) (by simp only [List.getElem?_toArray, List.getElem?_cons_zero, List.getElem?_cons_succ]; rfl) (by kernel_rfl) (by kernel_rfl) (by kernel_rfl) (by intro _ _ _ h; exact h) (Or.inl ⟨by rfl, ?_⟩) (by assumption) ?_
    rotate_left 1
    · (intro w' hSw; (try dsimp only at hSw); go_simp; (try (with_reducible rfl)))
    try simp only [Act.put, List.setIfInBounds_toArray, List.set_cons_zero, List.set_cons_succ]
    refine wpAnyH_take (i := 6) (v := ?_) (by simp only [List.getElem?_toArray, List.getElem?_cons_zero, List.getElem?_cons_succ]; rfl) (by kernel_rfl) (by kernel_rfl) (by kernel_rfl) (by intro _ _ _ h; exact h) (Or.inl ⟨by rfl, ?_⟩) (by assumption) ?_
    rotate_left 1
    · (intro w' hSw; (try dsimp only at hSw); go_simp; (try (with_reducible rfl)))
    try simp only [Act.put, List.setIfInBounds_toArray, List.set_cons_zero, List.set_cons_succ]
    refine wpAnyH_take (i := 7) (v := ?_) (by simp only [List.getElem?_toArray, List.getElem?_cons_zero, List.getElem?_cons_succ]; rfl) (by kernel_rfl) (by kernel_rfl) (by kernel_rfl) (by intro _ _ _ h; exact h) (Or.inl ⟨by rfl, ?_⟩) (by assumption) ?_
    rotate_left 1
    · (intro w' hSw; (try dsimp only at hSw); go_simp; (try (with_reducible rfl)))
    try simp only [Act.put, List.setIfInBounds_toArray, List.set_cons_zero, List.set_cons_succ]
    refine wpAnyH_take (i := 8) (v := ?_) (by simp only [List.getElem?_toArray, List.getElem?_cons_zero, List.getElem?_cons_succ]; rfl) (by kernel_rfl) (by kernel_rfl) (by kernel_rfl) (by intro _ _ _ h; exact h) (Or.inl ⟨by rfl, ?_⟩) (by assumption) ?_
    rotate_left 1
    · (intro w' hSw; (try dsimp only at hSw); go_simp; (try (with_reducible rfl)))
    try simp only [Act.put, List.setIfInBounds_toArray, List.set_cons_zero, List.set_cons_succ]
    refine wpAnyH_ready (rs := [9]) (by kernel_rfl) (by simp) ?_
    refine AllReadyH.cons (by simp only [List.getElem?_toArray, List.getElem?_cons_zero, List.getElem?_cons_succ]; rfl) (fun K hK => ?_) AllReadyH.nil
    go_simp
    refine hK.out _ _ (HSS.out _ (((Below.refl _ _).alloc (Nat.le_refl _) _).drew)) (fun hHeld => ?_)
    clear hK K
    try simp only [Act.put, List.setIfInBounds_toArray, List.set_cons_zero, List.set_cons_succ]
    obtain ⟨W4, hW4⟩ : ∃ W4, (w3.alloc (.cells #[iv s1, iv s2] 34)).drew = W4 := ⟨_, rfl⟩
    have bw4 : Below w3.heap.size w3 W4 := hW4 ▸ ((Below.refl _ _).alloc (Nat.le_refl _) _).drew
    have hX4 : Arr W4 w3.heap.size 34 (spv [(s1, s2)]) := hW4 ▸ (Arr.new w3 34 [iv s1, iv s2]).drew
    have hC4 := HC.out W4 (bthen2' bw3 bw4) w3.heap.size hX4
    rw [hW4] at hHeld ⊢
    clear hW4
    refine wpAnyH_ready (rs := [10]) (by kernel_rfl) (by simp) ?_
    refine AllReadyH.cons (by simp only [List.getElem?_toArray, List.getElem?_cons_zero, List.getElem?_cons_succ]; rfl) (fun K hK => ?_) AllReadyH.nil
    go_simp
    go_at_call 104
    refine Calls.mono hC4 ?_
    rintro e w5 ⟨v5, rfl, own5, b5⟩
    refine hK.out _ _ (HSS.out _ (bthen2' bw4 b5)) (fun hHeld => ?_)
    clear hK K
    try simp only [Act.put, List.setIfInBounds_toArray, List.set_cons_zero, List.set_cons_succ]
    have hR := HR.out W4 w5 v5 (bthen2' bw3 bw4) b5 own5
    obtain ⟨p5, c5, rfl⟩ := own_slice own5
    refine wpAnyH_ready (rs := [11]) (by kernel_rfl) (by simp) ?_
    refine AllReadyH.cons (by simp only [List.getElem?_toArray, List.getElem?_cons_zero, List.getElem?_cons_succ]; rfl) (fun K hK => ?_) AllReadyH.nil
    go_simp
    go_at_call 124
    refine Calls.mono hR ?_
    rintro e w6 ⟨v6, rfl, own6, t6, n6⟩
    have hA6 := t6.arr (hA3.below (bthen2' bw4 b5) hA3.lt) hBk
    have hC6 := t6.arr (hC3.below (bthen2' bw4 b5) hC3.lt) hCk
    refine hK.out _ _ (⟨hA6.cell (i := 0) rfl, hC6.cell (i := 0) rfl, hC6.cell (i := 1) rfl⟩) (fun hHeld => ?_)
    clear hK K
    try simp only [Act.put, List.setIfInBounds_toArray, List.set_cons_zero, List.set_cons_succ]
    refine wpAnyH_take (i := 12) (v := ?_) (by simp only [List.getElem?_toArray, List.getElem?_cons_zero, List.getElem?_cons_succ]; rfl) (by kernel_rfl) (by kernel_rfl) (by kernel_rfl) (by intro _ _ _ h; exact h) (Or.inl ⟨by rfl, ?_⟩) (by assumption) ?_
    rotate_left 1
    · (intro w' hSw; (try dsimp only at hSw); go_simp; (try (with_reducible rfl)))
    try simp only [Act.put, List.setIfInBounds_toArray, List.set_cons_zero, List.set_cons_succ]
    refine wpAnyH_done (by kernel_rfl) ?_ _
    go_wp2_with fail
    go_ret
    have bw5 := bthen2' bw3 (bthen2' bw4 b5)
    exact ⟨_, rfl, own6, (Turns.of_below bw5).trans t6, fun k hk => (n6 k hk).imp id (fun h => Nat.le_trans bw5.size h)⟩
  · obtain ⟨_, _, _, hcap, _⟩ := own_open h
    obtain ⟨n, hn⟩ : ∃ n, l.length = n := ⟨_, rfl⟩
    have jc : (j : Int) ≤ (cap : Int) := by omega
    have jn : (j : Int) ≤ (n : Int) := by omega
    have hshl := own_sh h
    rw [hn] at hW1 hS1 hS2 hse HR hj hcap hBk hCk ⊢
    by_cases hci : cap = i
    · have hM0 : M = [] := List.eq_nil_of_length_eq_zero (by omega)
      have hji : j = i := by omega
      subst hM0 hji hci
      have HC := Lib.hid (fun (W : World) (hW : Below w.heap.size w W) (X : Nat) (hX : Arr W X 34 (spv [(s1, s2)])) => subtract_any (some ⟨g, 0, none⟩) (some ⟨X, 0, none⟩) 0 1 [] [(s1, s2)] W (ShAt.nil _ _ _) (hOne W X hX) (by simp) (by simp) (by simp) (by simp) Bd.nil hsb)
      clear hsh hOne hget hshl hA hn
      have cB1 := hse.1.cell (i := 0) rfl
      go_enter Tryz.func102, Tryz.ntmps102
      go_wp2_with fail
      clear hW1 cB1
      refine (hS1 _ hse).mono ?_
      rintro e w2 ⟨rfl, q2, os2, hw2⟩
      have b2 : Below W1.heap.size W1 w2 := hw2 ▸ grow_below W1 q2 os2
      clear hw2 hS1
      have hse2 := hse.below b2
      have cB2 := hse2.1.cell (i := 0) rfl
      have hS2' := hS2 w2 hse2
      go_wp2_with fail
      refine hS2'.mono ?_
      rintro e w3 ⟨rfl, q3, os3, hw3⟩
      have b3 : Below w2.heap.size w2 w3 := hw3 ▸ grow_below w2 q3 os3
      clear hw3 hS2' hS2 cB2
      have hse3 := hse2.below b3
      have b13 := bthen2' b2 b3
      have bw3 := bthen2' bW1 b13
      have hSS : ∀ W : World, Below w3.heap.size w3 W → W.cell? ⟨w.heap.size, 0, none⟩ = some (.slice (some ⟨g, 0, none⟩) n cap) ∧ W.cell? ⟨w.heap.size + 1, 0, none⟩ = some (iv s1) ∧ W.cell? ⟨w.heap.size + 1, 1, none⟩ = some (iv s2) := fun W hW => ⟨(hse3.1.below hW hse3.1.lt).cell (i := 0) rfl, (hse3.2.1.below hW hse3.2.1.lt).cell (i := 0) rfl, (hse3.2.1.below hW hse3.2.1.lt).cell (i := 1) rfl⟩
      have hS30 := hSS w3.drew (Below.refl _ _).drew
      have hA3 : Arr w3 w.heap.size 40 [.slice (some ⟨g, 0, none⟩) n cap] := hse3.1
      have hC3 : Arr w3 (w.heap.size + 1) 34 [iv s1, iv s2] := hse3.2.1
      have HSS := Lib.hid hSS
      clear hse hse2 hse3 hSS b2 b3 b13
      go_wp2_with fail
      refine wp_region_held_drew (S := (fun W => W.cell? ⟨w.heap.size, 0, none⟩ = some (.slice (some ⟨g, 0, none⟩) n cap) ∧ W.cell? ⟨w.heap.size + 1, 0, none⟩ = some (iv s1) ∧ W.cell? ⟨w.heap.size + 1, 1, none⟩ = some (iv s2))) (by kernel_rfl) hS30 (fun hHeld => ?_)
      refine wpAnyH_take (i := 0) (v := ?_) (by simp only [List.getElem?_toArray, List.getElem?_cons_zero, List.getElem?_cons_succ]; rfl) (by kernel_rfl) (by kernel_rfl) (by kernel_rfl) (by intro _ _ _ h; exact h) (Or.inl ⟨by rfl, ?_⟩) (by assumption) ?_
      rotate_left 1
      · (intro w' hSw; (try dsimp only at hSw); go_simp; (try (with_reducible rfl)))
      try simp only [Act.put, List.setIfInBounds_toArray, List.set_cons_zero, List.set_cons_succ]
      refine wpAnyH_take (i := 1) (v := ?_) (by simp only [List.getElem?_toArray, List.getElem?_cons_zero, List.getElem?_cons_succ]; rfl) (by kernel_rfl) (by kernel_rfl) (by kernel_rfl) (by intro _ _ _ h; exact h) (Or.inl ⟨by rfl, ?_⟩) (by assumption) ?_
      rotate_left 1
      · (intro w' hSw; (try dsimp only at hSw); go_simp; (try (with_reducible rfl)))
      try simp only [Act.put, List.setIfInBounds_toArray, List.set_cons_zero, List.set_cons_succ]
      refine wpAnyH_take (i := 2) (v := ?_) (by simp only [List.getElem?_toArray, List.getElem?_cons_zero, List.getElem?_cons_succ]; rfl) (by kernel_rfl) (by kernel_rfl) (by kernel_rfl) (by intro _ _ _ h; exact h) (Or.inl ⟨by rfl, ?_⟩) (by assumption) ?_
      rotate_left 1
      · (intro w' hSw; (try dsimp only at hSw); go_simp; (try (with_reducible rfl)))
      try simp only [Act.put, List.setIfInBounds_toArray, List.set_cons_zero, List.set_cons_succ]
      refine wpAnyH_take (i := 3) (v := ?_) (by simp only [List.getElem?_toArray, List.getElem?_cons_zero, List.getElem?_cons_succ]; rfl) (by kernel_rfl) (by kernel_rfl) (by kernel_rfl) (by intro _ _ _ h; exact h) (Or.inl ⟨by rfl, ?_⟩) (by assumption) ?_
      rotate_left 1
      · (intro w' hSw; (try dsimp only at hSw); go_simp; (try (with_reducible rfl)))
      try simp only [Act.put, List.setIfInBounds_toArray, List.set_cons_zero, List.set_cons_succ]
      refine wpAnyH_take (i := 4) (v := ?_) (by simp only [List.getElem?_toArray, List.getElem?_cons_zero, List.getElem?_cons_succ]; rfl) (by kernel_rfl) (by kernel_rfl) (by kernel_rfl) (by intro _ _ _ h; exact h) (Or.inl ⟨by rfl, ?_⟩) (by assumption) ?_
      rotate_left 1
      · (intro w' hSw; (try dsimp only at hSw); go_simp; (try (with_reducible rfl)))
      try simp only [Act.put, List.setIfInBounds_toArray, List.set_cons_zero, List.set_cons_succ]
      refine wpAnyH_take (i := 5) (v := ?_) (by simp only [List.getElem?_toArray, List.getElem?_cons_zero, List.getElem?_cons_succ]; rfl) (by kernel_rfl) (by kernel_rfl) (by kernel_rfl) (by intro _ _ _ h; exact h) (Or.inl ⟨by rfl, ?_⟩) (by assumption) ?_
      rotate_left 1
      · (intro w' hSw; (try dsimp only at hSw); go_simp; (try (with_reducible rfl)))
      try simp only [Act.put, List.setIfInBounds_toArray, List.set_cons_zero, List.set_cons_succ]
      refine wpAnyH_take (i := 6) (v := ?_) (by simp only [List.getElem?_toArray, List.getElem?_cons_zero, List.getElem?_cons_succ]; rfl) (by kernel_rfl) (by kernel_rfl) (by kernel_rfl) (by intro _ _ _ h; exact h) (Or.inl ⟨by rfl, ?_⟩) (by assumption) ?_
      rotate_left 1
      · (intro w' hSw; (try dsimp only at hSw); go_simp; (try (with_reducible rfl)))
      try simp only [Act.put, List.setIfInBounds_toArray, List.set_cons_zero, List.set_cons_succ]
      refine wpAnyH_take (i := 7) (v := ?_) (by simp only [List.getElem?_toArray, List.getElem?_cons_zero, List.getElem?_cons_succ]; rfl) (by kernel_rfl) (by kernel_rfl) (by kernel_rfl) (by intro _ _ _ h; exact h) (Or.inl ⟨by rfl, ?_⟩) (by assumption) ?_
      rotate_left 1
      · (intro w' hSw; (try dsimp only at hSw); go_simp; (try (with_reducible rfl)))
      try simp only [Act.put, List.setIfInBounds_toArray, List.set_cons_zero, List.set_cons_succ]
      refine wpAnyH_take (i := 8) (v := ?_) (by simp only [List.getElem?_toArray, List.getElem?_cons_zero, List.getElem?_cons_succ]; rfl) (by kernel_rfl) (by kernel_rfl) (by kernel_rfl) (by intro _ _ _ h; exact h) (Or.inl ⟨by rfl, ?_⟩) (by assumption) ?_
      rotate_left 1
      · (intro w' hSw; (try dsimp only at hSw); go_simp; (try (with_reducible rfl)))
      try simp only [Act.put, List.setIfInBounds_toArray, List.set_cons_zero, List.set_cons_succ]
      refine wpAnyH_ready (rs := [9]) (by kernel_rfl) (by simp) ?_
      refine AllReadyH.cons (by simp only [List.getElem?_toArray, List.getElem?_cons_zero, List.getElem?_cons_succ]; rfl) (fun K hK => ?_) AllReadyH.nil
      go_simp
      refine hK.out _ _ (HSS.out _ (((Below.refl _ _).alloc (Nat.le_refl _) _).drew)) (fun hHeld => ?_)
      clear hK K
      try simp only [Act.put, List.setIfInBounds_toArray, List.set_cons_zero, List.set_cons_succ]
      obtain ⟨W4, hW4⟩ : ∃ W4, (w3.alloc (.cells #[iv s1, iv s2] 34)).drew = W4 := ⟨_, rfl⟩
      have bw4 : Below w3.heap.size w3 W4 := hW4 ▸ ((Below.refl _ _).alloc (Nat.le_refl _) _).drew
      have hX4 : Arr W4 w3.heap.size 34 (spv [(s1, s2)]) := hW4 ▸ (Arr.new w3 34 [iv s1, iv s2]).drew
      have hC4 := HC.out W4 (bthen2' bw3 bw4) w3.heap.size hX4
      rw [hW4] at hHeld ⊢
      clear hW4
      refine wpAnyH_ready (rs := [10]) (by kernel_rfl) (by simp) ?_
      refine AllReadyH.cons (by simp only [List.getElem?_toArray, List.getElem?_cons_zero, List.getElem?_cons_succ]; rfl) (fun K hK => ?_) AllReadyH.nil
      go_simp
      go_at_call 104
      refine Calls.mono hC4 ?_
      rintro e w5 ⟨v5, rfl, own5, b5⟩
      refine hK.out _ _ (HSS.out _ (bthen2' bw4 b5)) (fun hHeld => ?_)
      clear hK K
      try simp only [Act.put, List.setIfInBounds_toArray, List.set_cons_zero, List.set_cons_succ]
      have hR := HR.out W4 w5 v5 (bthen2' bw3 bw4) b5 own5
      obtain ⟨p5, c5, rfl⟩ := own_slice own5
      refine wpAnyH_ready (rs := [11]) (by kernel_rfl) (by simp) ?_
      refine AllReadyH.cons (by simp only [List.getElem?_toArray, List.getElem?_cons_zero, List.getElem?_cons_succ]; rfl) (fun K hK => ?_) AllReadyH.nil
      go_simp
      go_at_call 124
      refine Calls.mono hR ?_
      rintro e w6 ⟨v6, rfl, own6, t6, n6⟩
      have hA6 := t6.arr (hA3.below (bthen2' bw4 b5) hA3.lt) hBk
      have hC6 := t6.arr (hC3.below (bthen2' bw4 b5) hC3.lt) hCk
      refine hK.out _ _ (⟨hA6.cell (i := 0) rfl, hC6.cell (i := 0) rfl, hC6.cell (i := 1) rfl⟩) (fun hHeld => ?_)
      clear hK K
      try simp only [Act.put, List.setIfInBounds_toArray, List.set_cons_zero, List.set_cons_succ]
      refine wpAnyH_take (i := 12) (v := ?_) (by simp only [List.getElem?_toArray, List.getElem?_cons_zero, List.getElem?_cons_succ]; rfl) (by kernel_rfl) (by kernel_rfl) (by kernel_rfl) (by intro _ _ _ h; exact h) (Or.inl ⟨by rfl, ?_⟩) (by assumption) ?_
      rotate_left 1
      · (intro w' hSw; (try dsimp only at hSw); go_simp; (try (with_reducible rfl)))
      try simp only [Act.put, List.setIfInBounds_toArray, List.set_cons_zero, List.set_cons_succ]
      refine wpAnyH_done (by kernel_rfl) ?_ _
      go_wp2_with fail
      go_ret
      have bw5 := bthen2' bw3 (bthen2' bw4 b5)
      exact ⟨_, rfl, own6, (Turns.of_below bw5).trans t6, fun k hk => (n6 k hk).imp id (fun h => Nat.le_trans bw5.size h)⟩
    · have hMs : ∀ W, Below w.heap.size w W → ShAt W W.heap.size (some ⟨g, i * 2, none⟩) M := fun W hW t ht => by
        rw [hML] at ht
        obtain ⟨q0, q1⟩ := spv_get (l := l) (i := i + t) (by omega)
        have hAW := hA.below hW hA.lt
        rw [hget t ht]
        have u0 : (spv l ++ X)[(i + t) * 2]? = some (iv (l.getD (i + t) (0, 0)).1) := by rw [List.getElem?_append_left (by rw [spv_len]; omega)]; exact q0
        have u1 : (spv l ++ X)[(i + t) * 2 + 1]? = some (iv (l.getD (i + t) (0, 0)).2) := by rw [List.getElem?_append_left (by rw [spv_len]; omega)]; exact q1
        refine ⟨g, i * 2, rfl, hAW.lt, ?_, ?_⟩
        · rw [show i * 2 + t * 2 = (i + t) * 2 by omega]; exact hAW.cell u0
        · rw [show i * 2 + t * 2 + 1 = (i + t) * 2 + 1 by omega]; exact hAW.cell u1
      have HC := Lib.hid (fun (W : World) (hW : Below w.heap.size w W) (X : Nat) (hX : Arr W X 34 (spv [(s1, s2)])) => subtract_any (some ⟨g, i * 2, none⟩) (some ⟨X, 0, none⟩) (cap - i) 1 M [(s1, s2)] W (hMs W hW) (hOne W X hX) (by omega) (by simp) (by omega) (by simp) hMb hsb)
      rw [hML] at HC
      clear hsh hOne hget hshl hA hn hMs
      have cB1 := hse.1.cell (i := 0) rfl
      go_enter Tryz.func102, Tryz.ntmps102
      go_wp2_with fail
      clear hW1 cB1
      refine (hS1 _ hse).mono ?_
      rintro e w2 ⟨rfl, q2, os2, hw2⟩
      have b2 : Below W1.heap.size W1 w2 := hw2 ▸ grow_below W1 q2 os2
      clear hw2 hS1
      have hse2 := hse.below b2
      have cB2 := hse2.1.cell (i := 0) rfl
      have hS2' := hS2 w2 hse2
      go_wp2_with fail
      refine hS2'.mono ?_
      rintro e w3 ⟨rfl, q3, os3, hw3⟩
      have b3 : Below w2.heap.size w2 w3 := hw3 ▸ grow_below w2 q3 os3
      clear hw3 hS2' hS2 cB2
      have hse3 := hse2.below b3
      have b13 := bthen2' b2 b3
      have bw3 := bthen2' bW1 b13
      have hSS : ∀ W : World, Below w3.heap.size w3 W → W.cell? ⟨w.heap.size, 0, none⟩ = some (.slice (some ⟨g, 0, none⟩) n cap) ∧ W.cell? ⟨w.heap.size + 1, 0, none⟩ = some (iv s1) ∧ W.cell? ⟨w.heap.size + 1, 1, none⟩ = some (iv s2) := fun W hW => ⟨(hse3.1.below hW hse3.1.lt).cell (i := 0) rfl, (hse3.2.1.below hW hse3.2.1.lt).cell (i := 0) rfl, (hse3.2.1.below hW hse3.2.1.lt).cell (i := 1) rfl⟩
      have hS30 := hSS w3.drew (Below.refl _ _).drew
      have hA3 : Arr w3 w.heap.size 40 [.slice (some ⟨g, 0, none⟩) n cap] := hse3.1
      have hC3 : Arr w3 (w.heap.size + 1) 34 [iv s1, iv s2] := hse3.2.1
      have HSS := Lib.hid hSS
      clear hse hse2 hse3 hSS b2 b3 b13
      go_wp2_with fail
      refine wp_region_held_drew (S := (fun W => W.cell? ⟨w.heap.size, 0, none⟩ = some (.slice (some ⟨g, 0, none⟩) n cap) ∧ W.cell? ⟨w.heap.size + 1, 0, none⟩ = some (iv s1) ∧ W.cell? ⟨w.heap.size + 1, 1, none⟩ = some (iv s2))) (by kernel_rfl) hS30 (fun hHeld => ?_)
      refine wpAnyH_take (i := 0) (v := ?_) (by simp only [List.getElem?_toArray, List.getElem?_cons_zero, List.getElem?_cons_succ]; rfl) (by kernel_rfl) (by kernel_rfl) (by kernel_rfl) (by intro _ _ _ h; exact h) (Or.inl ⟨by rfl, ?_⟩) (by assumption) ?_
      rotate_left 1
      · (intro w' hSw; (try dsimp only at hSw); go_simp; (try (with_reducible rfl)))
      try simp only [Act.put, List.setIfInBounds_toArray, List.set_cons_zero, List.set_cons_succ]
      refine wpAnyH_take (i := 1) (v := ?_) (by simp only [List.getElem?_toArray, List.getElem?_cons_zero, List.getElem?_cons_succ]; rfl) (by kernel_rfl) (by kernel_rfl) (by kernel_rfl) (by intro _ _ _ h; exact h) (Or.inl ⟨by rfl, ?_⟩) (by assumption) ?_
      rotate_left 1
      · (intro w' hSw; (try dsimp only at hSw); go_simp; (try (with_reducible rfl)))
      try simp only [Act.put, List.setIfInBounds_toArray, List.set_cons_zero, List.set_cons_succ]
      refine wpAnyH_take (i := 2) (v := ?_) (by simp only [List.getElem?_toArray, List.getElem?_cons_zero, List.getElem?_cons_succ]; rfl) (by kernel_rfl) (by kernel_rfl) (by kernel_rfl) (by intro _ _ _ h; exact h) (Or.inl ⟨by rfl, ?_⟩) (by assumption) ?_
      rotate_left 1
      · (intro w' hSw; (try dsimp only at hSw); go_simp; (try (with_reducible rfl)))
      try simp only [Act.put, List.setIfInBounds_toArray, List.set_cons_zero, List.set_cons_succ]
      refine wpAnyH_take (i := 3) (v := ?_) (by simp only [List.getElem?_toArray, List.getElem?_cons_zero, List.getElem?_cons_succ]; rfl) (by kernel_rfl) (by kernel_rfl) (by kernel_rfl) (by intro _ _ _ h; exact h) (Or.inl ⟨by rfl, ?_⟩) (by assumption) ?_
      rotate_left 1
      · (intro w' hSw; (try dsimp only at hSw); go_simp; (try (with_reducible rfl)))
      try simp only [Act.put, List.setIfInBounds_toArray, List.set_cons_zero, List.set_cons_succ]
      refine wpAnyH_take (i := 4) (v := ?_) (by simp only [List.getElem?_toArray, List.getElem?_cons_zero, List.getElem?_cons_succ]; rfl) (by kernel_rfl) (by kernel_rfl) (by kernel_rfl) (by intro _ _ _ h; exact h) (Or.inl ⟨by rfl, ?_⟩) (by assumption) ?_
      rotate_left 1
      · (intro w' hSw; (try dsimp only at hSw); go_simp; (try (with_reducible rfl)))
      try simp only [Act.put, List.setIfInBounds_toArray, List.set_cons_zero, List.set_cons_succ]
      refine wpAnyH_take (i := 5) (v := ?_) (by simp only [List.getElem?_toArray, List.getElem?_cons_zero, List.getElem?_cons_succ]; rfl) (by kernel_rfl) (by kernel_rfl) (by kernel_rfl) (by intro _ _ _ h; exact h) (Or.inl ⟨by rfl, ?_⟩) (by assumption) ?_
      rotate_left 1
      · (intro w' hSw; (try dsimp only at hSw); go_simp; (try (with_reducible rfl)))
      try simp only [Act.put, List.setIfInBounds_toArray, List.set_cons_zero, List.set_cons_succ]
      refine wpAnyH_take (i := 6) (v := ?_) (by simp only [List.getElem?_toArray, List.getElem?_cons_zero, List.getElem?_cons_succ]; rfl) (by kernel_rfl) (by kernel_rfl) (by kernel_rfl) (by intro _ _ _ h; exact h) (Or.inl ⟨by rfl, ?_⟩) (by assumption) ?_
      rotate_left 1
      · (intro w' hSw; (try dsimp only at hSw); go_simp; (try (with_reducible rfl)))
      try simp only [Act.put, List.setIfInBounds_toArray, List.set_cons_zero, List.set_cons_succ]
      refine wpAnyH_take (i := 7) (v := ?_) (by simp only [List.getElem?_toArray, List.getElem?_cons_zero, List.getElem?_cons_succ]; rfl) (by kernel_rfl) (by kernel_rfl) (by kernel_rfl) (by intro _ _ _ h; exact h) (Or.inl ⟨by rfl, ?_⟩) (by assumption) ?_
      rotate_left 1
      · (intro w' hSw; (try dsimp only at hSw); go_simp; (try (with_reducible rfl)))
      try simp only [Act.put, List.setIfInBounds_toArray, List.set_cons_zero, List.set_cons_succ]
      refine wpAnyH_take (i := 8) (v := ?_) (by simp only [List.getElem?_toArray, List.getElem?_cons_zero, List.getElem?_cons_succ]; rfl) (by kernel_rfl) (by kernel_rfl) (by kernel_rfl) (by intro _ _ _ h; exact h) (Or.inl ⟨by rfl, ?_⟩) (by assumption) ?_
      rotate_left 1
      · (intro w' hSw; (try dsimp only at hSw); go_simp; (try (with_reducible rfl)))
      try simp only [Act.put, List.setIfInBounds_toArray, List.set_cons_zero, List.set_cons_succ]
      refine wpAnyH_ready (rs := [9]) (by kernel_rfl) (by simp) ?_
      refine AllReadyH.cons (by simp only [List.getElem?_toArray, List.getElem?_cons_zero, List.getElem?_cons_succ]; rfl) (fun K hK => ?_) AllReadyH.nil
      go_simp
      refine hK.out _ _ (HSS.out _ (((Below.refl _ _).alloc (Nat.le_refl _) _).drew)) (fun hHeld => ?_)
      clear hK K
      try simp only [Act.put, List.setIfInBounds_toArray, List.set_cons_zero, List.set_cons_succ]
      obtain ⟨W4, hW4⟩ : ∃ W4, (w3.alloc (.cells #[iv s1, iv s2] 34)).drew = W4 := ⟨_, rfl⟩
      have bw4 : Below w3.heap.size w3 W4 := hW4 ▸ ((Below.refl _ _).alloc (Nat.le_refl _) _).drew
      have hX4 : Arr W4 w3.heap.size 34 (spv [(s1, s2)]) := hW4 ▸ (Arr.new w3 34 [iv s1, iv s2]).drew
      have hC4 := HC.out W4 (bthen2' bw3 bw4) w3.heap.size hX4
      rw [hW4] at hHeld ⊢
      clear hW4
      refine wpAnyH_ready (rs := [10]) (by kernel_rfl) (by simp) ?_
      refine AllReadyH.cons (by simp only [List.getElem?_toArray, List.getElem?_cons_zero, List.getElem?_cons_succ]; rfl) (fun K hK => ?_) AllReadyH.nil
      go_simp
      go_at_call 104
      refine Calls.mono hC4 ?_
      rintro e w5 ⟨v5, rfl, own5, b5⟩
      refine hK.out _ _ (HSS.out _ (bthen2' bw4 b5)) (fun hHeld => ?_)
      clear hK K
      try simp only [Act.put, List.setIfInBounds_toArray, List.set_cons_zero, List.set_cons_succ]
      have hR := HR.out W4 w5 v5 (bthen2' bw3 bw4) b5 own5
      obtain ⟨p5, c5, rfl⟩ := own_slice own5
      refine wpAnyH_ready (rs := [11]) (by kernel_rfl) (by simp) ?_
      refine AllReadyH.cons (by simp only [List.getElem?_toArray, List.getElem?_cons_zero, List.getElem?_cons_succ]; rfl) (fun K hK => ?_) AllReadyH.nil
      go_simp
      go_at_call 124
      refine Calls.mono hR ?_
      rintro e w6 ⟨v6, rfl, own6, t6, n6⟩
      have hA6 := t6.arr (hA3.below (bthen2' bw4 b5) hA3.lt) hBk
      have hC6 := t6.arr (hC3.below (bthen2' bw4 b5) hC3.lt) hCk
      refine hK.out _ _ (⟨hA6.cell (i := 0) rfl, hC6.cell (i := 0) rfl, hC6.cell (i := 1) rfl⟩) (fun hHeld => ?_)
      clear hK K
      try simp only [Act.put, List.setIfInBounds_toArray, List.set_cons_zero, List.set_cons_succ]
      refine wpAnyH_take (i := 12) (v := ?_) (by simp only [List.getElem?_toArray, List.getElem?_cons_zero, List.getElem?_cons_succ]; rfl) (by kernel_rfl) (by kernel_rfl) (by kernel_rfl) (by intro _ _ _ h; exact h) (Or.inl ⟨by rfl, ?_⟩) (by assumption) ?_
      rotate_left 1
      · (intro w' hSw; (try dsimp only at hSw); go_simp; (try (with_reducible rfl)))
      try simp only [Act.put, List.setIfInBounds_toArray, List.set_cons_zero, List.set_cons_succ]
      refine wpAnyH_done (by kernel_rfl) ?_ _
      go_wp2_with fail
      go_ret
      have bw5 := bthen2' bw3 (bthen2' bw4 b5)
      exact ⟨_, rfl, own6, (Turns.of_below bw5).trans t6, fun k hk => (n6 k hk).imp id (fun h => Nat.le_trans bw5.size h)⟩
end Go.Proofs.YtfannkpnmaeljaaGreatDoor

/- Spans: when an item may be shown. -/
namespace Go.Proofs.YtfannkpnmaeljaaGreatDoor
open Go.RowKit Go.Shelf
attribute [local go_sem] Oper.semAt_some

set_option maxRecDepth 100000 in
set_option maxHeartbeats 4000000 in
theorem spn_any (p : Option Addr) (cap : Nat) (l : List Cl) (it r : Int) (w : World) (hS : ClAt w w.heap.size p l) (hlen : l.length ≤ 10000) :
    Calls Tryz.prog 85 #[.slice p l.length cap, iv it, iv r] w (Own w (spnZ l it r)) := by
  obtain ⟨V, hV⟩ : ∃ V, spnZ l it r = V := ⟨_, rfl⟩
  rw [hV]
  have HV := Lib.hid hV
  have HS := Lib.hid hS
  clear hV hS
  refine (callsIn_wide (n := 5)).1 ?_
  have hwide : ∀ f, Fence.wide.fn f := fun _ => trivial
  have hro : Fence.wide.round = none := rfl
  have h1 : 1 ≤ 5 := by omega
  refine callsIn_of_wp_marks Tryz.func85 rfl (hwide _) ?_ hro
  simp only [Tryz.ntmps85, List.size_toArray, List.length_cons, List.length_nil, Nat.reduceAdd, Nat.reduceSub, Array.replicate_succ, Array.replicate_zero, List.push_toArray, List.append_toArray, List.nil_append, List.cons_append]
  gi_wp2_with fail
  obtain ⟨W0, hW0, b0, z0, kk⟩ : ∃ W0, w.alloc (.cells #[.slice none 0 0] 40) = W0 ∧ Below w.heap.size w W0 ∧ W0.heap.size = w.heap.size + 1 ∧
      Arr W0 w.heap.size 40 [.slice none 0 0] :=
    ⟨_, rfl, (Below.refl _ w).alloc (Nat.le_refl _) _, by simp, Arr.new w _ [.slice none 0 0]⟩
  try rw [hW0]
  clear hW0
  gi_wp2_with (gi_at_call 94; refine (about_in _ _ (hwide _) hro _ _ _ _ _ _).mono ?_; rintro e w' ⟨rfl, rfl⟩)
  obtain ⟨W3, hW3, b3, z3, kA, kB, kC⟩ : ∃ W3, ((W0.alloc (.cells #[.slice p l.length cap] 30)).alloc (.cells #[iv it] 3)).alloc (.cells #[iv r] 3) = W3 ∧ Below W0.heap.size W0 W3 ∧ W3.heap.size = W0.heap.size + 3 ∧
      Arr W3 W0.heap.size 30 [.slice p l.length cap] ∧ Arr W3 (W0.heap.size + 1) 3 [iv it] ∧ Arr W3 (W0.heap.size + 2) 3 [iv r] :=
    ⟨_, rfl, (((Below.refl _ W0).alloc (Nat.le_refl _) _).alloc (by simp) _).alloc (by simp; omega) _, by simp, ((Arr.new W0 _ [.slice p l.length cap]).alloc _).alloc _, (Arr.new' _ [iv it] (by simp)).alloc _, Arr.new' _ [iv r] (by simp)⟩
  try rw [hW3]
  clear hW3
  have b03 := bthen b0 b3
  have kk := kk.below b3 (by omega)
  have hh := about_hands 4 (by omega) W0.heap.size (W0.heap.size + 1) (W0.heap.size + 2) w.heap.size p cap l it r W3 (by omega) kA kB kC (HS.out.below b03) (by omega)
  obtain ⟨K, hK⟩ : ∃ K, w.heap.size = K := ⟨_, rfl⟩
  obtain ⟨Q, hQ⟩ : ∃ Q, K + 1 = Q := ⟨_, rfl⟩
  rw [hK] at kk hh z0 b03 ⊢
  rw [z0] at hh z3
  rw [hQ] at hh z3 ⊢
  have hKQ : K < Q := by omega
  clear kA kB kC b3 b0
  obtain ⟨T, hT⟩ : ∃ T, (l.filter fun c => abtZ c it r) = T := ⟨_, rfl⟩
  have hTm : ∀ c ∈ T, abtZ c it r = true := fun c hc => by rw [← hT] at hc; exact (List.mem_filter.1 hc).2
  have hTl : T.length ≤ 10000 := by rw [← hT]; exact Nat.le_trans (List.length_filter_le _ _) hlen
  rw [hT] at hh
  have HVT : Hid (T.foldl stepZ [] = V) := Lib.hid (by rw [← hT]; exact HV.out)
  clear HV hT
  refine wpIn_rangeFunc_hands hro h1 (gf := 114) (lb := #[.pointer (some ⟨Q, 0, none⟩), .pointer (some ⟨Q + 1, 0, none⟩), .pointer (some ⟨Q + 2, 0, none⟩)]) rfl (hwide _) (enters_of Tryz.func114 (by kernel_rfl) rfl)
    hh (Below.refl _ _) (fun _ => rfl)
    (fun pre M W => KeptAt W K K M (pre.foldl stepZ []) ∧ Below K w W)
    (fun _ _ _ _ => False)
    (fun xs M A B h ht => by
      obtain ⟨e1, e3⟩ := h
      obtain ⟨v, q1, q2, q3, q4, q5⟩ := e1
      exact ⟨⟨v, ht.arr q1 (fun h => h.2 q4), ht.row q2 (fun j hj h => h.2 (q3 j hj).1), q3, q4, q5⟩, e3.trans (ht.below (by have := e3.size; omega) (fun k hk => by omega))⟩)
    (fun _ _ _ _ _ h _ => h)
    (fun k => k = K) (fun k hk => by subst hk; omega) ⟨⟨_, kk, World.ownsRow_nil _ _ _ _, (fun j hj => by cases hj), rfl, fun j hj => Nat.le_of_eq hj.symm⟩, b03⟩ 53 (fun c => [iv c.k, iv c.it, iv c.fr, iv c.to, iv c.rg, iv c.n, iv c.a, iv c.b])
    ?a1 ?assign ?body ?done ?stop
  case assign =>
    intro l x W K hK
    unfold encC
    gi_wp2
    have hK' := hK W.heap.size _ (Nat.le_refl _) ((Below.refl _ W).alloc (Nat.le_refl _) _) (Arr.new W 53 [iv x.k, iv x.it, iv x.fr, iv x.to, iv x.rg, iv x.n, iv x.a, iv x.b])
    clear hK
    generalize W.heap.size = g at *
    exact hK'
  case body =>
    rintro lp pre x gp M W ⟨hk, bW⟩ hpre kp hMg hMl hWs
    obtain ⟨v, q1, q2, q3, q4, q5⟩ := hk
    have hxT : x ∈ T := hpre.subset (by simp)
    have hpT : ∀ c ∈ pre, abtZ c it r = true := fun c hc => hTm c (hpre.subset (by simp [hc]))
    have hpl : pre.length ≤ 10000 := by have := hpre.length_le; simp at this; omega
    have hxa := hTm x hxT
    obtain ⟨s1, s2, s3⟩ := steps_ok it r pre [] hpT Asc.nil Bd.nil
    have hwin := abt_window (c := x) hxa
    have hbd := abt_bd (c := x) hxa
    have hfold : (pre ++ [x]).foldl stepZ [] = stepZ (pre.foldl stepZ []) x := by rw [List.foldl_append]; rfl
    simp only [List.length_nil] at s3
    generalize pre.foldl stepZ [] = L at q2 s1 s2 s3 hfold
    clear hpre hxT hpT hxa hh hTm
    obtain ⟨ck, cit, cfr, cto, crg, cn, ca, cb⟩ := x
    dsimp only at kp hwin hbd
    have hst : stepZ L ⟨ck, cit, cfr, cto, crg, cn, ca, cb⟩ = if ck = 1 then uniZ L [(cfr, cto)] else if ck = 2 then subZ L [(cfr, cto)] else L := rfl
    rw [hst] at hfold
    have HFo := Lib.hid hfold
    have hKW := hMl K q4
    have hWs' : K ≤ W.heap.size := by omega
    have b7 : Below W.heap.size W (W.alloc (.cells #[iv cfr, iv cto] 34)) := (Below.refl _ _).alloc (Nat.le_refl _) _
    have c0 := kp.cell (i := 0) rfl
    have c2 := kp.cell (i := 2) rfl
    have c3 := kp.cell (i := 3) rfl
    have kp7 := kp.below b7 kp.lt
    have d0 := kp7.cell (i := 0) rfl
    clear hst hfold
    cases e1 : (ck == 1) with
    | true =>
      have e2 : ck = 1 := by simpa using e1
      obtain ⟨w1, w2, w3⟩ := hwin (.inl e2)
      have hbd1 := hbd (.inl e2)
      have hC := change_uniZ K v L cfr cto (W.alloc (.cells #[iv cfr, iv cto] 34)) (own_below q2 b7) (by simp; omega) s1 s2 hbd1 w2 (by omega)
      rw [chg_uni s1 w2] at hC
      have HFo : Hid ((pre ++ [(⟨ck, cit, cfr, cto, crg, cn, ca, cb⟩ : Cl)]).foldl stepZ [] = uniZ L [(cfr, cto)]) := Lib.hid (by rw [HFo.out, if_pos e2])
      have q17 := q1.below b7 hKW
      have e0 := q17.cell (i := 0) rfl
      have HO := Lib.hid q2
      have HM := Lib.hid hMl
      clear hwin hbd q2 hMl s1 s2 hbd1
      gi_wp2_with fail
      refine (CallsIn.inRound lp (callsIn_wide.2 hC)).mono ?_
      rintro e w8 ⟨v', rfl, o8, t8, hn8⟩
      have q18 := t8.arr q17 (fun h => (q3 K h).2 rfl)
      obtain ⟨M', hG, hK'⟩ := kept_step q1 q3 q4 q5 HM.out b7 o8 t8 hn8
      obtain ⟨p8, c8, rfl, -⟩ := own_sh o8
      have hKM : ∀ j, M' j → K ≤ j := by obtain ⟨_, _, _, _, _, h⟩ := hK'; exact h
      have e0 := q18.cell (i := 0) rfl
      have f0 := q18.frozen 0
      have HG := Lib.hid hG
      have HK := Lib.hid hK'
      clear hC o8 t8 hn8 c0 c2 c3 hG hK' q1 q17 kp7 d0
      gi_wp2_with fail
      exact ⟨M', HG.out, by rw [HFo.out]; exact HK.out, bW.trans (HG.out.turns.below hWs' (fun k hk => hKM k hk))⟩
    | false =>
      have e2 : ¬ ck = 1 := by simpa using e1
      cases f1 : (ck == 2) with
      | true =>
        have f2 : ck = 2 := by simpa using f1
        obtain ⟨w1, w2, w3⟩ := hwin (.inr f2)
        have hbd1 := hbd (.inr f2)
        have hC := change_subZ K v L cfr cto (W.alloc (.cells #[iv cfr, iv cto] 34)) (own_below q2 b7) (by simp; omega) s1 s2 hbd1 w2 (by omega)
        rw [chg_sub s1 w2] at hC
        have HFo : Hid ((pre ++ [(⟨ck, cit, cfr, cto, crg, cn, ca, cb⟩ : Cl)]).foldl stepZ [] = subZ L [(cfr, cto)]) := Lib.hid (by rw [HFo.out, if_neg e2, if_pos f2])
        have q17 := q1.below b7 hKW
        have e0 := q17.cell (i := 0) rfl
        have HO := Lib.hid q2
        have HM := Lib.hid hMl
        clear hwin hbd q2 hMl s1 s2 hbd1
        gi_wp2_with fail
        refine (CallsIn.inRound lp (callsIn_wide.2 hC)).mono ?_
        rintro e w8 ⟨v', rfl, o8, t8, hn8⟩
        have q18 := t8.arr q17 (fun h => (q3 K h).2 rfl)
        obtain ⟨M', hG, hK'⟩ := kept_step q1 q3 q4 q5 HM.out b7 o8 t8 hn8
        obtain ⟨p8, c8, rfl, -⟩ := own_sh o8
        have hKM : ∀ j, M' j → K ≤ j := by obtain ⟨_, _, _, _, _, h⟩ := hK'; exact h
        have e0 := q18.cell (i := 0) rfl
        have f0 := q18.frozen 0
        have HG := Lib.hid hG
        have HK := Lib.hid hK'
        clear hC o8 t8 hn8 c0 c2 c3 hG hK' q1 q17 kp7 d0
        gi_wp2_with fail
        exact ⟨M', HG.out, by rw [HFo.out]; exact HK.out, bW.trans (HG.out.turns.below hWs' (fun k hk => hKM k hk))⟩
      | false =>
        have f2 : ¬ ck = 2 := by simpa using f1
        have HFo : Hid ((pre ++ [(⟨ck, cit, cfr, cto, crg, cn, ca, cb⟩ : Cl)]).foldl stepZ [] = L) := Lib.hid (by rw [HFo.out, if_neg e2, if_neg f2])
        have HO := Lib.hid q2
        have HM := Lib.hid hMl
        clear hwin hbd q2 hMl s1 s2
        gi_wp2_with fail
        exact ⟨M, grown_below HM.out b7, ⟨v, q1.below b7 hKW, by rw [HFo.out]; exact own_below HO.out b7, q3, q4, q5⟩, bW.trans (b7.mono hWs')⟩
  case done =>
    rintro D M W hD hMD ⟨⟨v, q1, q2, q3, q4, q5⟩, e9⟩ hKd
    rw [HVT.out] at q2
    have c3 := q1.cell (i := 0) rfl
    have HO := Lib.hid q2
    clear q2
    gi_wp2
    refine ⟨by simp, .inl ⟨_, _, rfl, run_takeDeferred hKd, ?_⟩⟩
    refine ⟨_, results_tmp rfl _ _ _, v, rfl, ?_, ?_⟩
    · rw [hK]; exact ((Turns.refl (fun j => j = D) W).of_put rfl _).row HO.out (fun j hj h => hMD (h ▸ (q3 j hj).1))
    · exact hK ▸ e9.trans (belowK_b (w := w) (by omega) W D _ _ (by omega) hKd rfl rfl)
  case stop =>
    rintro D c pre M W hD hMD hpre h hKd
    exact h.elim
end Go.Proofs.YtfannkpnmaeljaaGreatDoor

/- Watersheds. -/
namespace Go.Proofs.YtfannkpnmaeljaaGreatDoor
open Go.RowKit

set_option maxRecDepth 100000 in
set_option maxHeartbeats 4000000 in
theorem wsh_any (p : Option Addr) (cap : Nat) (l : List Cl) (rt : Int) (w : World) (hS : ClAt w w.heap.size p l) (hlen : l.length ≤ 100000) :
    Calls Tryz.prog 86 #[.slice p l.length cap, iv rt] w (Own w (wshZ l rt)) := by
  obtain ⟨i0, hi, hz0, hz1, hz2⟩ := info_parts infoS
  have HS := Lib.hid hS
  clear hS
  obtain ⟨V, hV⟩ : ∃ V, wshZ l rt = V := ⟨_, rfl⟩
  rw [hV]
  have HV := Lib.hid hV
  clear hV
  go_enter Tryz.func86, Tryz.ntmps86
  go_wp2_with fail
  go_loopw [5, 10] (fun g i wr => ∃ (k : Nat) (L : List (Int × Int)) (gg : Value), gg = g ∧ i = .int .i64 k ∧ k ≤ l.length ∧ Hid (L = wshZ (l.take k) rt ∧ L.length ≤ k) ∧ wr.ownsRow w.heap.size 34 2 gg L.length (spv L) ∧ Below w.heap.size w wr) (fun _ i _ => l.length - (intOf i).toNat)
  case atStart => exact ⟨0, [], _, rfl, rfl, by omega, Lib.hid ⟨rfl, by simp⟩, World.ownsRow_nil _ _ _ _, Below.refl _ _⟩
  case round =>
    obtain ⟨k, L, gg, hgg, rfl, hk, HL, own, hb⟩ := hrel
    subst hgg
    have hszr := hb.size
    by_cases hlt : k < l.length
    · obtain ⟨B, o, rfl, hB, c0, c1, c2, c3, c4, c5, c6, c7⟩ := (HS.out.below hb).cells hlt
      obtain ⟨c, hc0⟩ : ∃ c, l.getD k Cl.zero = c := ⟨_, rfl⟩
      rw [hc0] at c0 c1 c2 c3 c4 c5 c6 c7
      have hVal := fun W => cvalid_any c W
      have hLk := HL.out.2
      have hstep : wshZ (l.take (k + 1)) rt = L ++ if (decide (c.k = 6) && decide (c.a ≤ rt) && vldZ c) = true then [(c.fr, c.to)] else [] := by
        rw [take_snoc hlt, hc0]
        unfold wshZ
        rw [List.filter_append, List.map_append]
        show wshZ (l.take k) rt ++ _ = _
        rw [← HL.out.1]
        congr 1
        by_cases hq : (decide (c.k = 6) && decide (c.a ≤ rt) && vldZ c) = true
        · rw [if_pos hq]; simp [List.filter_cons, hq]
        · rw [if_neg hq]; simp [List.filter_cons, hq]
      clear hc0
      obtain ⟨ck, cit, cfr, cto, crg, cn, ca, cb⟩ := c
      simp only at c0 c1 c2 c3 c4 c5 c6 c7 hVal hstep
      generalize vldZ ⟨ck, cit, cfr, cto, crg, cn, ca, cb⟩ = v at *
      have hk5 : decide (ck = 6) = (ck == 6) := rfl
      rw [hk5] at hstep
      have i1 : (0 : Int) ≤ (k : Int) := by omega
      have i2 : (k : Int) < (l.length : Int) := by omega
      clear hk5
      have b0 : Below w.heap.size w (wr.alloc (.cells #[iv ck, iv cit, iv cfr, iv cto, iv crg, iv cn, iv ca, iv cb] 53)) := hb.alloc hszr _
      have own0 := own.alloc (.cells #[iv ck, iv cit, iv cfr, iv cto, iv crg, iv cn, iv ca, iv cb] 53)
      cases e1 : (ck == 6) with
      | false =>
        rw [e1] at hstep
        have HST : Hid (L = wshZ (l.take (k + 1)) rt ∧ L.length ≤ k + 1) := Lib.hid ⟨by rw [hstep]; simp, by omega⟩
        clear hstep hVal
        go_wp2_with fail
        go_roundw
        case rel => exact ⟨k + 1, L, _, rfl, by go_num, by omega, HST, own0, b0⟩
        case measure => simp [intOf]; omega
      | true =>
        by_cases e2 : ca ≤ rt
        · rw [e1, decide_eq_true e2] at hstep
          cases v with
          | false =>
            have HST : Hid (L = wshZ (l.take (k + 1)) rt ∧ L.length ≤ k + 1) := Lib.hid ⟨by rw [hstep]; simp, by omega⟩
            clear hstep
            go_wp2_with fail
            refine (hVal _).mono ?_
            rintro e w1 ⟨rfl, b1⟩
            have b2 := b0.trans (b1.mono b0.size)
            have own1 := (Turns.of_below (M := fun _ => False) b1).row own0 (fun _ _ h => h)
            clear b1 hVal
            go_wp2_with fail
            go_roundw
            case rel => exact ⟨k + 1, L, _, rfl, by go_num, by omega, HST, own1, b2⟩
            case measure => simp [intOf]; omega
          | true =>
            have HST : Hid (L ++ [(cfr, cto)] = wshZ (l.take (k + 1)) rt) := Lib.hid (by rw [hstep]; simp)
            clear hstep
            go_wp2_with fail
            refine (hVal _).mono ?_
            rintro e w1 ⟨rfl, b1⟩
            have A1 := (Arr.new wr 53 [iv ck, iv cit, iv cfr, iv cto, iv crg, iv cn, iv ca, iv cb]).below b1 (by simp)
            have q2 := A1.cell (i := 2) rfl
            have q3 := A1.cell (i := 3) rfl
            have b2 := b0.trans (b1.mono b0.size)
            have own1 := (Turns.of_below (M := fun _ => False) b1).row own0 (fun _ _ h => h)
            have hz2' := b2.size
            clear b1 hVal A1
            go_wp2_with (at_builtin; refine wpList_append_own _ rfl _ _ 40 rfl w.heap.size 34 i0 (.agg #[.int .i64 0, .int .i64 0]) 2 16 Tryz.underlying40 hi hz0 hz1 hz2 rfl (by decide) _ L.length (spv L) rfl (own1.alloc _) ⟨w1.heap.size, 0, none⟩ 1 1 [iv cfr, iv cto] rfl rfl (cells_new _ _ _) (by simp [Value.oneCell']) (by unfold maxLen; omega) (by omega) (by simp; omega) ?_; intro v' w9 hown' hgrow _)
            go_roundw
            case rel => exact ⟨k + 1, L ++ [(cfr, cto)], _, rfl, by go_num, by omega, Lib.hid ⟨HST.out, by simp; omega⟩, by rw [List.length_append, spv_append]; exact hown', (b2.alloc b2.size _).grown hgrow (by simp; omega) (own_le own1)⟩
            case measure => simp [intOf]; omega
        · rw [e1, decide_eq_false e2] at hstep
          have HST : Hid (L = wshZ (l.take (k + 1)) rt ∧ L.length ≤ k + 1) := Lib.hid ⟨by rw [hstep]; simp, by omega⟩
          clear hstep hVal
          go_wp2_with fail
          go_roundw
          case rel => exact ⟨k + 1, L, _, rfl, by go_num, by omega, HST, own0, b0⟩
          case measure => simp [intOf]; omega
    · obtain rfl : k = l.length := by omega
      rw [List.take_length] at HL
      have hlv : Hid (L = V) := Lib.hid (HL.out.1.trans HV.out)
      go_wp2_with fail
      go_ret
      exact ⟨_, rfl, hlv.out ▸ own, hb⟩
end Go.Proofs.YtfannkpnmaeljaaGreatDoor

/- The reference's small functions on clauses. -/
namespace Go.Proofs.YtfannkpnmaeljaaGreatDoor
open Go.RowKit

theorem within_any (n lo hi : Int) (w : World) : Calls Tryz.prog 81 #[iv n, iv lo, iv hi] w fun e w' => e = .returned (.bool (frm n lo hi)) ∧ w = w' := by
  cases h1 : decide (lo ≤ n) <;> cases h2 : decide (n ≤ hi) <;> (
    have hr : frm n lo hi = (decide (lo ≤ n) && decide (n ≤ hi)) := rfl
    rw [h1, h2] at hr
    have HR := Lib.hid hr
    clear hr
    go_enter Tryz.func81, Tryz.ntmps81
    go_wp2
    go_ret
    exact ⟨by rw [HR.out]; rfl, rfl⟩)
end Go.Proofs.YtfannkpnmaeljaaGreatDoor

import Derived.Test.YtfannkpnmaeljaaGreatDoorGRiT2
import Derived.Test.YtfannkpnmaeljaaGreatDoorGSpT2
import Derived.Test.YtfannkpnmaeljaaGreatDoorGRi1
import Derived.Deep.RegionHeld3
set_option linter.unusedVariables false
set_option linter.unusedSimpArgs false
/- change: a window laid into a valid list. -/
namespace Go.Proofs.YtfannkpnmaeljaaGreatDoor
open Go.RowKit Go.Shelf

/-- What the closures of change see: the list's box, its spans, the window's box. -/
def Seen (W : World) (B C : Nat) (v : Value) (l : List (Int × Int)) (s : Int × Int) : Prop :=
  Arr W B 40 [v] ∧ Arr W C 34 [iv s.1, iv s.2] ∧ ∃ p n cap, v = .slice p n cap ∧ n = l.length ∧ ShAt W W.heap.size p l
theorem Seen.below {W W' : World} {B C : Nat} {v : Value} {l : List (Int × Int)} {s : Int × Int} (h : Seen W B C v l s) (b : Below W.heap.size W W') : Seen W' B C v l s := by
  obtain ⟨h1, h2, p, n, cap, h3, h4, h5⟩ := h
  exact ⟨h1.below b h1.lt, h2.below b h2.lt, p, n, cap, h3, h4, h5.into b⟩

set_option maxHeartbeats 1000000 in
theorem chg1_any (B C : Nat) (v : Value) (l : List (Int × Int)) (s : Int × Int) (i : Nat) (hi : i < l.length) (W : World) (h : Seen W B C v l s) :
    Calls Tryz.prog 122 #[.int .i64 i, .pointer (some ⟨B, 0, none⟩), .pointer (some ⟨C, 0, none⟩)] W fun e w' => e = .returned (.bool (decide (s.1 ≤ (l.getD i (0, 0)).2))) ∧ ∃ q, w' = W.drewN q := by
  obtain ⟨hB, hC, p, n, cap, rfl, hn, hS⟩ := h
  have c0 := hB.cell (i := 0) rfl
  have c1 := hC.cell (i := 0) rfl
  obtain ⟨b, o, rfl, -, q0, q1⟩ := hS i hi
  have hin : (i : Int) < (n : Int) := by omega
  have hi0 : (0 : Int) ≤ (i : Int) := by omega
  generalize (l.getD i (0, 0)).2 = y at *
  clear hS hB hC hn
  go_enter Tryz.func122, Tryz.ntmps122
  go_wp2_with fail
  go_quiet (fail)
  go_wp2_with fail
  go_ret
  exact ⟨rfl, nq, rfl⟩
set_option maxHeartbeats 1000000 in
theorem chg2_any (B C : Nat) (v : Value) (l : List (Int × Int)) (s : Int × Int) (i : Nat) (hi : i < l.length) (W : World) (h : Seen W B C v l s) :
    Calls Tryz.prog 123 #[.int .i64 i, .pointer (some ⟨B, 0, none⟩), .pointer (some ⟨C, 0, none⟩)] W fun e w' => e = .returned (.bool (decide (s.2 < (l.getD i (0, 0)).1))) ∧ ∃ q, w' = W.drewN q := by
  obtain ⟨hB, hC, p, n, cap, rfl, hn, hS⟩ := h
  have c0 := hB.cell (i := 0) rfl
  have c1 := hC.cell (i := 1) rfl
  obtain ⟨b, o, rfl, -, q0, q1⟩ := hS i hi
  have hin : (i : Int) < (n : Int) := by omega
  have hi0 : (0 : Int) ≤ (i : Int) := by omega
  generalize (l.getD i (0, 0)).1 = y at *
  clear hS hB hC hn
  go_enter Tryz.func123, Tryz.ntmps123
  go_wp2_with fail
  go_quiet (fail)
  go_wp2_with fail
  go_ret
  exact ⟨rfl, nq, rfl⟩

/-- sort.Search over the closures. -/
theorem search1 (B C : Nat) (v : Value) (l : List (Int × Int)) (s : Int × Int) (n : Nat) (hn : n = l.length) (hl : l.length ≤ 100000) (ha : Asc l) (W : World) (h : Seen W B C v l s) :
    Calls Tryz.prog 121 #[.int .i64 n, .func (.func 122) #[] #[.pointer (some ⟨B, 0, none⟩), .pointer (some ⟨C, 0, none⟩)]] W fun e w' => e = .returned (.int .i64 (i0Z l s : Nat)) ∧ ∃ q os, w' = Go.Sort.grow (W.drewN q) os := by
  subst hn
  have hS := Any.sort_Search searchSp 122 #[.pointer (some ⟨B, 0, none⟩), .pointer (some ⟨C, 0, none⟩)] l.length (fun i => decide (s.1 ≤ (l.getD i (0, 0)).2)) W (enters_of Tryz.func122 (by kernel_rfl) rfl) (by omega)
    (fun m os i hi => (chg1_any B C v l s i hi _ (h.below (grow_below W m os))).mono fun _ _ ⟨he, q, hq⟩ => ⟨he, q, #[], by rw [hq, Go.Sort.grow_empty]⟩) (mono0 ha s)
  exact hS
theorem search2 (B C : Nat) (v : Value) (l : List (Int × Int)) (s : Int × Int) (n : Nat) (hn : n = l.length) (hl : l.length ≤ 100000) (ha : Asc l) (W : World) (h : Seen W B C v l s) :
    Calls Tryz.prog 121 #[.int .i64 n, .func (.func 123) #[] #[.pointer (some ⟨B, 0, none⟩), .pointer (some ⟨C, 0, none⟩)]] W fun e w' => e = .returned (.int .i64 (i1Z l s : Nat)) ∧ ∃ q os, w' = Go.Sort.grow (W.drewN q) os := by
  subst hn
  have hS := Any.sort_Search searchSp 123 #[.pointer (some ⟨B, 0, none⟩), .pointer (some ⟨C, 0, none⟩)] l.length (fun i => decide (s.2 < (l.getD i (0, 0)).1)) W (enters_of Tryz.func123 (by kernel_rfl) rfl) (by omega)
    (fun m os i hi => (chg2_any B C v l s i hi _ (h.below (grow_below W m os))).mono fun _ _ ⟨he, q, hq⟩ => ⟨he, q, #[], by rw [hq, Go.Sort.grow_empty]⟩) (mono1 ha s)
  exact hS
theorem bthen2' {a b c : World} (h : Below a.heap.size a b) (k : Below b.heap.size b c) : Below a.heap.size a c := h.trans (k.mono h.size)
end Go.Proofs.YtfannkpnmaeljaaGreatDoor

/- change: a window laid into a valid list. -/
namespace Go.Proofs.YtfannkpnmaeljaaGreatDoor
open Go.RowKit Go.Shelf

theorem combZ_len2 (f : Bool → Bool → Bool) {a b : List (Int × Int)} (ha : Bd a) (hb : Bd b) : (combZ f a b).length ≤ 2 * (a.length + b.length) := by
  unfold combZ
  have h1 := comb_len f (allPc (nrmZ a) (nrmZ b)) []
  have h2 := pieces_len 18446744073709551615 (-9223372036854775808) (nrmZ a) (nrmZ b) (inv_nrm ha) (inv_nrm hb)
  have h3 := mu_le (-9223372036854775808) (nrmZ a)
  have h4 := mu_le (-9223372036854775808) (nrmZ b)
  have h5 := nrm_len a
  have h6 := nrm_len b
  simp only [List.length_nil] at h1
  unfold allPc at *
  omega
theorem uniZ_len {a b : List (Int × Int)} (ha : Bd a) (hb : Bd b) : (uniZ a b).length ≤ 2 * (a.length + b.length) := comb_or ha hb ▸ combZ_len2 _ ha hb
theorem subZ_len {a b : List (Int × Int)} (ha : Bd a) (hb : Bd b) : (subZ a b).length ≤ 2 * (a.length + b.length) := comb_sub ha hb ▸ combZ_len2 _ ha hb

set_option maxRecDepth 100000 in
set_option maxHeartbeats 4000000 in
theorem change_uniZ (N : Nat) (v : Value) (l : List (Int × Int)) (s1 s2 : Int) (w : World) (h : w.ownsRow N 34 2 v l.length (spv l)) (hN : N ≤ w.heap.size) (ha : Asc l) (hbd : Bd l) (hsb : Bd [(s1, s2)]) (hs : s1 < s2) (hl : l.length ≤ 10000) :
    Calls Tryz.prog 102 #[v, .agg #[iv s1, iv s2], .func (.func 103) #[] #[]] w (Joined w N v (chgZ uniZ l (s1, s2))) := by
  have hle := i0_le ha (s := (s1, s2)) hs
  have hj := (i1_spec ha (s1, s2)).2.2
  have hML : (midZ l (s1, s2)).length = i1Z l (s1, s2) - i0Z l (s1, s2) := by unfold midZ; rw [List.length_drop, List.length_take]; omega
  have hMb : Bd (midZ l (s1, s2)) := fun t ht => hbd t (List.mem_of_mem_take (List.mem_of_mem_drop ht))
  have hFl : (uniZ (midZ l (s1, s2)) [(s1, s2)]).length ≤ 50000 := by
    have := uniZ_len hMb hsb
    rw [hML] at this; simp at this; omega
  have hS1 := fun W hW => search1 w.heap.size (w.heap.size + 1) v l (s1, s2) l.length rfl (by omega) ha W hW
  have hS2 := fun W hW => search2 w.heap.size (w.heap.size + 1) v l (s1, s2) l.length rfl (by omega) ha W hW
  unfold chgZ
  have hget : ∀ t, t < i1Z l (s1, s2) - i0Z l (s1, s2) → (midZ l (s1, s2)).getD t (0, 0) = l.getD (i0Z l (s1, s2) + t) (0, 0) := fun t ht => by
    unfold midZ
    rw [List.getD_eq_getElem?_getD, List.getD_eq_getElem?_getD, List.getElem?_drop, List.getElem?_take_of_lt (by omega)]
  generalize midZ l (s1, s2) = M at *
  generalize i0Z l (s1, s2) = i at *
  generalize i1Z l (s1, s2) = j at *
  -- the boxes
  obtain ⟨W1, hW1⟩ : ∃ W1, (w.alloc (.cells #[v] 40)).alloc (.cells #[iv s1, iv s2] 34) = W1 := ⟨_, rfl⟩
  have bW1 : Below w.heap.size w W1 := hW1 ▸ ((Below.refl _ w).alloc (Nat.le_refl _) _).alloc (by simp) _
  have hBB : Arr W1 w.heap.size 40 [v] := hW1 ▸ (Arr.new w _ [v]).alloc _
  have hCC : Arr W1 (w.heap.size + 1) 34 [iv s1, iv s2] := hW1 ▸ Arr.new' _ _ (by simp)
  have hsh : ∃ p n cap, v = .slice p n cap ∧ n = l.length ∧ ShAt w w.heap.size p l := by
    obtain ⟨p, cap, rfl, hsh⟩ := own_sh h
    exact ⟨p, _, cap, rfl, rfl, hsh⟩
  have hse : Seen W1 w.heap.size (w.heap.size + 1) v l (s1, s2) := ⟨hBB, hCC, by obtain ⟨p, n, cap, e, hn, hS⟩ := hsh; exact ⟨p, n, cap, e, hn, hS.into bW1⟩⟩
  have hR := fun (W4 w5 : World) (v5 : Value) (b4 : Below w.heap.size w W4) (b5 : Below W4.heap.size W4 w5) (own5 : w5.ownsRow W4.heap.size 34 2 v5 (uniZ M [(s1, s2)]).length (spv (uniZ M [(s1, s2)]))) =>
    replace_any N W4.heap.size i j v v5 l (uniZ M [(s1, s2)]) w5 (own_below h (bthen2' b4 b5)) own5 (fun k hk hv => by
      have := own_le own5 k hk
      have := (h.lt k hv).2
      have := b4.size
      omega) (by have := b4.size; have := b5.size; omega) hle hj (by omega) (by omega)
  have HR := Lib.hid hR
  have hBk : ¬ v.ownBlock = some w.heap.size := fun e => by have := (h.lt _ e).2; omega
  have hCk : ¬ v.ownBlock = some (w.heap.size + 1) := fun e => by have := (h.lt _ e).2; omega
  have hOne : ∀ (W : World) (X : Nat), Arr W X 34 (spv [(s1, s2)]) → ShAt W W.heap.size (some ⟨X, 0, none⟩) [(s1, s2)] := fun W X hX t ht => by
    obtain rfl : t = 0 := by simpa using ht
    exact ⟨X, 0, rfl, hX.lt, hX.cell (i := 0) rfl, hX.cell (i := 1) rfl⟩
  have ij : (i : Int) ≤ (j : Int) := by omega
  have i0' : (0 : Int) ≤ (i : Int) := by omega
  have j0' : (0 : Int) ≤ (j : Int) := by omega
  clear hR hBB hCC
  rcases own_form h with ⟨rfl, rfl⟩ | ⟨g, cap, X, rfl, hA⟩
  · obtain rfl : j = 0 := by simpa using hj
    obtain rfl : i = 0 := by omega
    have hM0 : M = [] := List.eq_nil_of_length_eq_zero (by omega)
    subst hM0
    have HC := Lib.hid (fun (W : World) (hW : Below w.heap.size w W) (X : Nat) (hX : Arr W X 34 (spv [(s1, s2)])) => union_any none (some ⟨X, 0, none⟩) 0 1 [] [(s1, s2)] W (ShAt.nil _ _ _) (hOne W X hX) (by simp) (by simp) (by simp) (by simp) Bd.nil hsb)
    clear hsh hOne hget
    have cB1 := hse.1.cell (i := 0) rfl
    go_enter Tryz.func102, Tryz.ntmps102
    go_wp2_with fail
    clear hW1 cB1
    refine (hS1 _ hse).mono ?_
    rintro e w2 ⟨rfl, q2, os2, hw2⟩
    have b2 : Below W1.heap.size W1 w2 := hw2 ▸ grow_below W1 q2 os2
    clear hw2 hS1
    have hse2 := hse.below b2
    have cB2 := hse2.1.cell (i := 0) rfl
    have hS2' := hS2 w2 hse2
    go_wp2_with fail
    refine hS2'.mono ?_
    rintro e w3 ⟨rfl, q3, os3, hw3⟩
    have b3 : Below w2.heap.size w2 w3 := hw3 ▸ grow_below w2 q3 os3
    clear hw3 hS2' hS2 cB2
    have hse3 := hse2.below b3
    have b13 := bthen2' b2 b3
    have bw3 := bthen2' bW1 b13
    have hSS : ∀ W : World, Below w3.heap.size w3 W → W.cell? ⟨w.heap.size, 0, none⟩ = some (.slice none 0 0) ∧ W.cell? ⟨w.heap.size + 1, 0, none⟩ = some (iv s1) ∧ W.cell? ⟨w.heap.size + 1, 1, none⟩ = some (iv s2) := fun W hW => ⟨(hse3.1.below hW hse3.1.lt).cell (i := 0) rfl, (hse3.2.1.below hW hse3.2.1.lt).cell (i := 0) rfl, (hse3.2.1.below hW hse3.2.1.lt).cell (i := 1) rfl⟩
    have hS30 := hSS w3.drew (Below.refl _ _).drew
    have hA3 : Arr w3 w.heap.size 40 [.slice none 0 0] := hse3.1
    have hC3 : Arr w3 (w.heap.size + 1) 34 [iv s1, iv s2] := hse3.2.1
    have HSS := Lib.hid hSS
    clear hse hse2 hse3 hSS b2 b3 b13
    go_wp2_with fail
    refine wp_region_held_drew (S := (fun W => W.cell? ⟨w.heap.size, 0, none⟩ = some (.slice none 0 0) ∧ W.cell? ⟨w.heap.size + 1, 0, none⟩ = some (iv s1) ∧ W.cell? ⟨w.heap.size + 1, 1, none⟩ = some (iv s2))) (by kernel_rfl) hS30 (fun hHeld => ?_)
    refine wpAnyH_take (i := 0) (v := ?_) (by simp only [List.getElem?_toArray, List.getElem?_cons_zero, List.getElem?_cons_succ]; rfl) (by kernel_rfl) (by kernel_rfl) (by kernel_rfl) (by intro _ _ _ h; exact h) (Or.inl ⟨by rfl, ?_⟩) (by assumption) ?_
    rotate_left 1
    · (intro w' hSw; (try dsimp only at hSw); go_simp; (try (with_reducible rfl)))
    try simp only [Act.put, List.setIfInBounds_toArray, List.set_cons_zero, List.set_cons_succ]
    refine wpAnyH_take (i := 1) (v := ?_) (by simp only [List.getElem?_toArray, List.getElem?_cons_zero, List.getElem?_cons_succ]; rfl) (by kernel_rfl) (by kernel_rfl) (by kernel_rfl) (by intro _ _ _ h; exact h) (Or.inl ⟨by rfl, ?_⟩) (by assumption) ?_
    rotate_left 1
    · (intro w' hSw; (try dsimp only at hSw); go_simp; (try (with_reducible rfl)))
    try simp only [Act.put, List.setIfInBounds_toArray, List.set_cons_zero, List.set_cons_succ]
    refine wpAnyH_take (i := 2) (v := ?_) (by simp only [List.getElem?_toArray, List.getElem?_cons_zero, List.getElem?_cons_succ]; rfl) (by kernel_rfl) (by kernel_rfl) (by kernel_rfl) (by intro _ _ _ h; exact h) (Or.inl ⟨by rfl, ?_⟩) (by assumption) ?_
    rotate_left 1
    · (intro w' hSw; (try dsimp only at hSw); go_simp; (try (with_reducible rfl)))
    try simp only [Act.put, List.setIfInBounds_toArray, List.set_cons_zero, List.set_cons_succ]
    refine wpAnyH_take (i := 3) (v := ?_) (by simp only [List.getElem?_toArray, List.getElem?_cons_zero, List.getElem?_cons_succ]; rfl) (by kernel_rfl) (by kernel_rfl) (by kernel_rfl) (by intro _ _ _ h; exact h) (Or.inl ⟨by rfl, ?_⟩) (by assumption) ?_
    rotate_left 1
    · (intro w' hSw; (try dsimp only at hSw); go_simp; (try (with_reducible rfl)))
    try simp only [Act.put, List.setIfInBounds_toArray, List.set_cons_zero, List.set_cons_succ]
    refine wpAnyH_take (i := 4) (v := ?_) (by simp only [List.getElem?_toArray, List.getElem?_cons_zero, List.getElem?_cons_succ]; rfl) (by kernel_rfl) (by kernel_rfl) (by kernel_rfl) (by intro _ _ _ h; exact h) (Or.inl ⟨by rfl, ?_⟩) (by assumption) ?_
    rotate_left 1
    · (intro w' hSw; (try dsimp only at hSw); go_simp; (try (with_reducible rfl)))
    try simp only [Act.put, List.setIfInBounds_toArray, List.set_cons_zero, List.set_cons_succ]
    refine wpAnyH_take (i := 5) (v := ?_) (by simp only [List.getElem?_toArray, List.getElem?_cons_zero, List.getElem?_cons_succ]; rfl) (by kernel_rfl) (by kernel_rfl) (by kernel_rfl) (by intro _ _ _ h; exact h) (Or.inl ⟨by rfl, ?_⟩) (by assumption) ?_
    rotate_left 1
    · (intro w' hSw; (try dsimp only at hSw); go_simp; (try (with_reducible rfl)))
    try simp only [Act.put, List.setIfInBounds_toArray, List.set_cons_zero, List.set_cons_succ]
    refine wpAnyH_take (i := 6) (v := ?_) (by simp only [List.getElem?_toArray, List.getElem?_cons_zero, List.getElem?_cons_succ]; rfl) (by kernel_rfl) (by kernel_rfl) (by kernel_rfl) (by intro _ _ _ h; exact h) (Or.inl ⟨by rfl, ?_⟩) (by assumption) ?_
    rotate_left 1
    · (intro w' hSw; (try dsimp only at hSw); go_simp; (try (with_reducible rfl)))
    try simp only [Act.put, List.setIfInBounds_toArray, List.set_cons_zero, List.set_cons_succ]
    refine wpAnyH_take (i := 7) (v := ?_) (by simp only [List.getElem?_toArray, List.getElem?_cons_zero, List.getElem?_cons_succ]; rfl) (by kernel_rfl) (by kernel_rfl) (by kernel_rfl) (by intro _ _ _ h; exact h) (Or.inl ⟨by rfl, ?_⟩) (by assumption) ?_
    rotate_left 1
    · (intro w' hSw; (try dsimp only at hSw); go_simp; (try (with_reducible rfl)))
    try simp only [Act.put, List.setIfInBounds_toArray, List.set_cons_zero, List.set_cons_succ]
    refine wpAnyH_take (i := 8) (v := ?_) (by simp only [List.getElem?_toArray, List.getElem?_cons_zero, List.getElem?_cons_succ]; rfl) (by kernel_rfl) (by kernel_rfl) (by kernel_rfl) (by intro _ _ _ h; exact h) (Or.inl ⟨by rfl, ?_⟩) (by assumption) ?_
    rotate_left 1
    · (intro w' hSw; (try dsimp only at hSw); go_simp; (try (with_reducible rfl)))
    try simp only [Act.put, List.setIfInBounds_toArray, List.set_cons_zero, List.set_cons_succ]
    refine wpAnyH_ready (rs := [9]) (by kernel_rfl) (by simp) ?_
    refine AllReadyH.cons (by simp only [List.getElem?_toArray, List.getElem?_cons_zero, List.getElem?_cons_succ]; rfl) (fun K hK => ?_) AllReadyH.nil
    go_simp
    refine hK.out _ _ (HSS.out _ (((Below.refl _ _).alloc (Nat.le_refl _) _).drew)) (fun hHeld => ?_)
    clear hK K
    try simp only [Act.put, List.setIfInBounds_toArray, List.set_cons_zero, List.set_cons_succ]
    obtain ⟨W4, hW4⟩ : ∃ W4, (w3.alloc (.cells #[iv s1, iv s2] 34)).drew = W4 := ⟨_, rfl⟩
    have bw4 : Below w3.heap.size w3 W4 := hW4 ▸ ((Below.refl _ _).alloc (Nat.le_refl _) _).drew
    have hX4 : Arr W4 w3.heap.size 34 (spv [(s1, s2)]) := hW4 ▸ (Arr.new w3 34 [iv s1, iv s2]).drew
    have hC4 := HC.out W4 (bthen2' bw3 bw4) w3.heap.size hX4
    rw [hW4] at hHeld ⊢
    clear hW4
    refine wpAnyH_ready (rs := [10]) (by kernel_rfl) (by simp) ?_
    refine AllReadyH.cons (by simp only [List.getElem?_toArray, List.getElem?_cons_zero, List.getElem?_cons_succ]; rfl) (fun K hK => ?_) AllReadyH.nil
    go_simp
    go_at_call 103
    refine Calls.mono hC4 ?_
    rintro e w5 ⟨v5, rfl, own5, b5⟩
    refine hK.out _ _ (HSS.out _ (bthen2' bw4 b5)) (fun hHeld => ?_)
    clear hK K
    try simp only [Act.put, List.setIfInBounds_toArray, List.set_cons_zero, List.set_cons_succ]
    have hR := HR.out W4 w5 v5 (bthen2' bw3 bw4) b5 own5
    obtain ⟨p5, c5, rfl⟩ := own_slice own5
    refine wpAnyH_ready (rs := [11]) (by kernel_rfl) (by simp) ?_
    refine AllReadyH.cons (by simp only [List.getElem?_toArray, List.getElem?_cons_zero, List.getElem?_cons_succ]; rfl) (fun K hK => ?_) AllReadyH.nil
    go_simp
    go_at_call 124
    refine Calls.mono hR ?_
    rintro e w6 ⟨v6, rfl, own6, t6, n6⟩
    have hA6 := t6.arr (hA3.below (bthen2' bw4 b5) hA3.lt) hBk
    have hC6 := t6.arr (hC3.below (bthen2' bw4 b5) hC3.lt) hCk
    refine hK.out _ _ (⟨hA6.cell (i := 0) rfl, hC6.cell (i := 0) rfl, hC6.cell (i := 1) rfl⟩) (fun hHeld => ?_)
    clear hK K
    try simp only [Act.put, List.setIfInBounds_toArray, List.set_cons_zero, List.set_cons_succ]
    refine wpAnyH_take (i := 12) (v := ?_) (by simp only [List.getElem?_toArray, List.getElem?_cons_zero, List.getElem?_cons_succ]; rfl) (by kernel_rfl) (by kernel_rfl) (by kernel_rfl) (by intro _ _ _ h; exact h) (Or.inl ⟨by rfl, ?_⟩) (by assumption) ?_
    rotate_left 1
    · (intro w' hSw; (try dsimp only at hSw); go_simp; (try (with_reducible rfl)))
    try simp only [Act.put, List.setIfInBounds_toArray, List.set_cons_zero, List.set_cons_succ]
    refine wpAnyH_done (by kernel_rfl) ?_ _
    go_wp2_with fail
    go_ret
    have bw5 := bthen2' bw3 (bthen2' bw4 b5)
    exact ⟨_, rfl, own6, (Turns.of_below bw5).trans t6, fun k hk => (n6 k hk).imp id (fun h => Nat.le_trans bw5.size h)⟩
  · obtain ⟨_, _, _, hcap, _⟩ := own_open h
    obtain ⟨n, hn⟩ : ∃ n, l.length = n := ⟨_, rfl⟩
    have jc : (j : Int) ≤ (cap : Int) := by omega
    have jn : (j : Int) ≤ (n : Int) := by omega
    have hshl := own_sh h
    rw [hn] at hW1 hS1 hS2 hse HR hj hcap hBk hCk ⊢
    by_cases hci : cap = i
    · have hM0 : M = [] := List.eq_nil_of_length_eq_zero (by omega)
      have hji : j = i := by omega
      subst hM0 hji hci
      have HC := Lib.hid (fun (W : World) (hW : Below w.heap.size w W) (X : Nat) (hX : Arr W X 34 (spv [(s1, s2)])) => union_any (some ⟨g, 0, none⟩) (some ⟨X, 0, none⟩) 0 1 [] [(s1, s2)] W (ShAt.nil _ _ _) (hOne W X hX) (by simp) (by simp) (by simp) (by simp) Bd.nil hsb)
      clear hsh hOne hget hshl hA hn
      have cB1 := hse.1.cell (i := 0) rfl
      go_enter Tryz.func102, Tryz.ntmps102
      go_wp2_with fail
      clear hW1 cB1
      refine (hS1 _ hse).mono ?_
      rintro e w2 ⟨rfl, q2, os2, hw2⟩
      have b2 : Below W1.heap.size W1 w2 := hw2 ▸ grow_below W1 q2 os2
      clear hw2 hS1
      have hse2 := hse.below b2
      have cB2 := hse2.1.cell (i := 0) rfl
      have hS2' := hS2 w2 hse2
      go_wp2_with fail
      refine hS2'.mono ?_
      rintro e w3 ⟨rfl, q3, os3, hw3⟩
      have b3 : Below w2.heap.size w2 w3 := hw3 ▸ grow_below w2 q3 os3
      clear hw3 hS2' hS2 cB2
      have hse3 := hse2.below b3
      have b13 := bthen2' b2 b3
      have bw3 := bthen2' bW1 b13
      have hSS : ∀ W : World, Below w3.heap.size w3 W → W.cell? ⟨w.heap.size, 0, none⟩ = some (.slice (some ⟨g, 0, none⟩) n cap) ∧ W.cell? ⟨w.heap.size + 1, 0, none⟩ = some (iv s1) ∧ W.cell? ⟨w.heap.size + 1, 1, none⟩ = some (iv s2) := fun W hW => ⟨(hse3.1.below hW hse3.1.lt).cell (i := 0) rfl, (hse3.2.1.below hW hse3.2.1.lt).cell (i := 0) rfl, (hse3.2.1.below hW hse3.2.1.lt).cell (i := 1) rfl⟩
      have hS30 := hSS w3.drew (Below.refl _ _).drew
      have hA3 : Arr w3 w.heap.size 40 [.slice (some ⟨g, 0, none⟩) n cap] := hse3.1
      have hC3 : Arr w3 (w.heap.size + 1) 34 [iv s1, iv s2] := hse3.2.1
      have HSS := Lib.hid hSS
      clear hse hse2 hse3 hSS b2 b3 b13
      go_wp2_with fail
      refine wp_region_held_drew (S := (fun W => W.cell? ⟨w.heap.size, 0, none⟩ = some (.slice (some ⟨g, 0, none⟩) n cap) ∧ W.cell? ⟨w.heap.size + 1, 0, none⟩ = some (iv s1) ∧ W.cell? ⟨w.heap.size + 1, 1, none⟩ = some (iv s2))) (by kernel_rfl) hS30 (fun hHeld => ?_)
      refine wpAnyH_take (i := 0) (v := ?_) (by simp only [List.getElem?_toArray, List.getElem?_cons_zero, List.getElem?_cons_succ]; rfl) (by kernel_rfl) (by kernel_rfl) (by kernel_rfl) (by intro _ _ _ h; exact h) (Or.inl ⟨by rfl, ?_⟩) (by assumption) ?_
      rotate_left 1
      · (intro w' hSw; (try dsimp only at hSw); go_simp; (try (with_reducible rfl)))
      try simp only [Act.put, List.setIfInBounds_toArray, List.set_cons_zero, List.set_cons_succ]
      refine wpAnyH_take (i := 1) (v := ?_) (by simp only [List.getElem?_toArray, List.getElem?_cons_zero, List.getElem?_cons_succ]; rfl) (by kernel_rfl) (by kernel_rfl) (by kernel_rfl) (by intro _ _ _ h; exact h) (Or.inl ⟨by rfl, ?_⟩) (by assumption) ?_
      rotate_left 1
      · (intro w' hSw; (try dsimp only at hSw); go_simp; (try (with_reducible rfl)))
      try simp only [Act.put, List.setIfInBounds_toArray, List.set_cons_zero, List.set_cons_succ]
      refine wpAnyH_take (i := 2) (v := ?_) (by simp only [List.getElem?_toArray, List.getElem?_cons_zero, List.getElem?_cons_succ]; rfl) (by kernel_rfl) (by kernel_rfl) (by kernel_rfl) (by intro _ _ _ h; exact h) (Or.inl ⟨by rfl, ?_⟩) (by assumption) ?_
      rotate_left 1
      · (intro w' hSw; (try dsimp only at hSw); go_simp; (try (with_reducible rfl)))
      try simp only [Act.put, List.setIfInBounds_toArray, List.set_cons_zero, List.set_cons_succ]
      refine wpAnyH_take (i := 3) (v := ?_) (by simp only [List.getElem?_toArray, List.getElem?_cons_zero, List.getElem?_cons_succ]; rfl) (by kernel_rfl) (by kernel_rfl) (by kernel_rfl) (by intro _ _ _ h; exact h) (Or.inl ⟨by rfl, ?_⟩) (by assumption) ?_
      rotate_left 1
      · (intro w' hSw; (try dsimp only at hSw); go_simp; (try (with_reducible rfl)))
      try simp only [Act.put, List.setIfInBounds_toArray, List.set_cons_zero, List.set_cons_succ]
      refine wpAnyH_take (i := 4) (v := ?_) (by simp only [List.getElem?_toArray, List.getElem?_cons_zero, List.getElem?_cons_succ]; rfl) (by kernel_rfl) (by kernel_rfl) (by kernel_rfl) (by intro _ _ _ h; exact h) (Or.inl ⟨by rfl, ?_⟩) (by assumption) ?_
      rotate_left 1
      · (intro w' hSw; (try dsimp only at hSw); go_simp; (try (with_reducible rfl)))
      try simp only [Act.put, List.setIfInBounds_toArray, List.set_cons_zero, List.set_cons_succ]
      refine wpAnyH_take (i := 5) (v := ?_) (by simp only [List.getElem?_toArray, List.getElem?_cons_zero, List.getElem?_cons_succ]; rfl) (by kernel_rfl) (by kernel_rfl) (by kernel_rfl) (by intro _ _ _ h; exact h) (Or.inl ⟨by rfl, ?_⟩) (by assumption) ?_
      rotate_left 1
      · (intro w' hSw; (try dsimp only at hSw); go_simp; (try (with_reducible rfl)))
      try simp only [Act.put, List.setIfInBounds_toArray, List.set_cons_zero, List.set_cons_succ]
      refine wpAnyH_take (i := 6) (v := ?_) (by simp only [List.getElem?_toArray, List.getElem?_cons_zero, List.getElem?_cons_succ]; rfl) (by kernel_rfl) (by kernel_rfl) (by kernel_rfl) (by intro _ _ _ h; exact h) (Or.inl ⟨by rfl, ?_⟩) (by assumption) ?_
      rotate_left 1
      · (intro w' hSw; (try dsimp only at hSw); go_simp; (try (with_reducible rfl)))
      try simp only [Act.put, List.setIfInBounds_toArray, List.set_cons_zero, List.set_cons_succ]
      refine wpAnyH_take (i := 7) (v := ?_) (by simp only [List.getElem?_toArray, List.getElem?_cons_zero, List.getElem?_cons_succ]; rfl) (by kernel_rfl) (by kernel_rfl) (by kernel_rfl) (by intro _ _ _ h; exact h) (Or.inl ⟨by rfl, ?_⟩) (by assumption) ?_
      rotate_left 1
      · (intro w' hSw; (try dsimp only at hSw); go_simp; (try (with_reducible rfl)))
      try simp only [Act.put, List.setIfInBounds_toArray, List.set_cons_zero, List.set_cons_succ]
      refine wpAnyH_take (i := 8) (v := ?_) (by simp only [List.getElem?_toArray, List.getElem?_cons_zero, List.getElem?_cons_succ]; rfl) (by kernel_rfl) (by kernel_rfl) (by kernel_rfl) (by intro _ _ _ h; exact h) (Or.inl ⟨by rfl, ?_⟩) (by assumption) ?_
      rotate_left 1
      · (intro w' hSw; (try dsimp only at hSw); go_simp; (try (with_reducible rfl)))
      try simp only [Act.put, List.setIfInBounds_toArray, List.set_cons_zero, List.set_cons_succ]
      refine wpAnyH_ready (rs := [9]) (by kernel_rfl) (by simp) ?_
      refine AllReadyH.cons (by simp only [List.getElem?_toArray, List.getElem?_cons_zero, List.getElem?_cons_succ]; rfl) (fun K hK => ?_) AllReadyH.nil
      go_simp
      refine hK.out _ _ (HSS.out _ (((Below.refl _ _).alloc (Nat.le_refl _) _).drew)) (fun hHeld => ?_)
      clear hK K
      try simp only [Act.put, List.setIfInBounds_toArray, List.set_cons_zero, List.set_cons_succ]
      obtain ⟨W4, hW4⟩ : ∃ W4, (w3.alloc (.cells #[iv s1, iv s2] 34)).drew = W4 := ⟨_, rfl⟩
      have bw4 : Below w3.heap.size w3 W4 := hW4 ▸ ((Below.refl _ _).alloc (Nat.le_refl _) _).drew
      have hX4 : Arr W4 w3.heap.size 34 (spv [(s1, s2)]) := hW4 ▸ (Arr.new w3 34 [iv s1, iv s2]).drew
      have hC4 := HC.out W4 (bthen2' bw3 bw4) w3.heap.size hX4
      rw [hW4] at hHeld ⊢
      clear hW4
      refine wpAnyH_ready (rs := [10]) (by kernel_rfl) (by simp) ?_
      refine AllReadyH.cons (by simp only [List.getElem?_toArray, List.getElem?_cons_zero, List.getElem?_cons_succ]; rfl) (fun K hK => ?_) AllReadyH.nil
      go_simp
      go_at_call 103
      refine Calls.mono hC4 ?_
      rintro e w5 ⟨v5, rfl, own5, b5⟩
      refine hK.out _ _ (HSS.out _ (bthen2' bw4 b5)) (fun hHeld => ?_)
      clear hK K
      try simp only [Act.put, List.setIfInBounds_toArray, List.set_cons_zero, List.set_cons_succ]
      have hR := HR.out W4 w5 v5 (bthen2' bw3 bw4) b5 own5
      obtain ⟨p5, c5, rfl⟩ := own_slice own5
      refine wpAnyH_ready (rs := [11]) (by kernel_rfl) (by simp) ?_
      refine AllReadyH.cons (by simp only [List.getElem?_toArray, List.getElem?_cons_zero, List.getElem?_cons_succ]; rfl) (fun K hK => ?_) AllReadyH.nil
      go_simp
      go_at_call 124
      refine Calls.mono hR ?_
      rintro e w6 ⟨v6, rfl, own6, t6, n6⟩
      have hA6 := t6.arr (hA3.below (bthen2' bw4 b5) hA3.lt) hBk
      have hC6 := t6.arr (hC3.below (bthen2' bw4 b5) hC3.lt) hCk
      refine hK.out _ _ (⟨hA6.cell (i := 0) rfl, hC6.cell (i := 0) rfl, hC6.cell (i := 1) rfl⟩) (fun hHeld => ?_)
      clear hK K
      try simp only [Act.put, List.setIfInBounds_toArray, List.set_cons_zero, List.set_cons_succ]
      refine wpAnyH_take (i := 12) (v := ?_) (by simp only [List.getElem?_toArray, List.getElem?_cons_zero, List.getElem?_cons_succ]; rfl) (by kernel_rfl) (by kernel_rfl) (by kernel_rfl) (by intro _ _ _ h; exact h) (Or.inl ⟨by rfl, ?_⟩) (by assumption) ?_
      rotate_left 1
      · (intro w' hSw; (try dsimp only at hSw); go_simp; (try (with_reducible rfl)))
      try simp only [Act.put, List.setIfInBounds_toArray, List.set_cons_zero, List.set_cons_succ]
      refine wpAnyH_done (by kernel_rfl) ?_ _
      go_wp2_with fail
      go_ret
      have bw5 := bthen2' bw3 (bthen2' bw4 b5)
      exact ⟨_, rfl, own6, (Turns.of_below bw5).trans t6, fun k hk => (n6 k hk).imp id (fun h => Nat.le_trans bw5.size h)⟩
    · have hMs : ∀ W, Below w.heap.size w W → ShAt W W.heap.size (some ⟨g, i * 2, none⟩) M := fun W hW t ht => by
        rw [hML] at ht
        obtain ⟨q0, q1⟩ := spv_get (l := l) (i := i + t) (by omega)
        have hAW := hA.below hW hA.lt
        rw [hget t ht]
        have u0 : (spv l ++ X)[(i + t) * 2]? = some (iv (l.getD (i + t) (0, 0)).1) := by rw [List.getElem?_append_left (by rw [spv_len]; omega)]; exact q0
        have u1 : (spv l ++ X)[(i + t) * 2 + 1]? = some (iv (l.getD (i + t) (0, 0)).2) := by rw [List.getElem?_append_left (by rw [spv_len]; omega)]; exact q1
        refine ⟨g, i * 2, rfl, hAW.lt, ?_, ?_⟩
        · rw [show i * 2 + t * 2 = (i + t) * 2 by omega]; exact hAW.cell u0
        · rw [show i * 2 + t * 2 + 1 = (i + t) * 2 + 1 by omega]; exact hAW.cell u1
      have HC := Lib.hid (fun (W : World) (hW : Below w.heap.size w W) (X : Nat) (hX : Arr W X 34 (spv [(s1, s2)])) => union_any (some ⟨g, i * 2, none⟩) (some ⟨X, 0, none⟩) (cap - i) 1 M [(s1, s2)] W (hMs W hW) (hOne W X hX) (by omega) (by simp) (by omega) (by simp) hMb hsb)
      rw [hML] at HC
      clear hsh hOne hget hshl hA hn hMs
      have cB1 := hse.1.cell (i := 0) rfl
      go_enter Tryz.func102, Tryz.ntmps102
      go_wp2_with fail
      clear hW1 cB1
      refine (hS1 _ hse).mono ?_
      rintro e w2 ⟨rfl, q2, os2, hw2⟩
      have b2 : Below W1.heap.size W1 w2 := hw2 ▸ grow_below W1 q2 os2
      clear hw2 hS1
      have hse2 := hse.below b2
      have cB2 := hse2.1.cell (i := 0) rfl
      have hS2' := hS2 w2 hse2
      go_wp2_with fail
      refine hS2'.mono ?_
      rintro e w3 ⟨rfl, q3, os3, hw3⟩
      have b3 : Below w2.heap.size w2 w3 := hw3 ▸ grow_below w2 q3 os3
      clear hw3 hS2' hS2 cB2
      have hse3 := hse2.below b3
      have b13 := bthen2' b2 b3
      have bw3 := bthen2' bW1 b13
      have hSS : ∀ W : World, Below w3.heap.size w3 W → W.cell? ⟨w.heap.size, 0, none⟩ = some (.slice (some ⟨g, 0, none⟩) n cap) ∧ W.cell? ⟨w.heap.size + 1, 0, none⟩ = some (iv s1) ∧ W.cell? ⟨w.heap.size + 1, 1, none⟩ = some (iv s2) := fun W hW => ⟨(hse3.1.below hW hse3.1.lt).cell (i := 0) rfl, (hse3.2.1.below hW hse3.2.1.lt).cell (i := 0) rfl, (hse3.2.1.below hW hse3.2.1.lt).cell (i := 1) rfl⟩
      have hS30 := hSS w3.drew (Below.refl _ _).drew
      have hA3 : Arr w3 w.heap.size 40 [.slice (some ⟨g, 0, none⟩) n cap] := hse3.1
      have hC3 : Arr w3 (w.heap.size + 1) 34 [iv s1, iv s2] := hse3.2.1
      have HSS := Lib.hid hSS
      clear hse hse2 hse3 hSS b2 b3 b13
      go_wp2_with fail
      refine wp_region_held_drew (S := (fun W => W.cell? ⟨w.heap.size, 0, none⟩ = some (.slice (some ⟨g, 0, none⟩) n cap) ∧ W.cell? ⟨w.heap.size + 1, 0, none⟩ = some (iv s1) ∧ W.cell? ⟨w.heap.size + 1, 1, none⟩ = some (iv s2))) (by kernel_rfl) hS30 (fun hHeld => ?_)
      refine wpAnyH_take (i := 0) (v := ?_) (by simp only [List.getElem?_toArray, List.getElem?_cons_zero, List.getElem?_cons_succ]; rfl) (by kernel_rfl) (by kernel_rfl) (by kernel_rfl) (by intro _ _ _ h; exact h) (Or.inl ⟨by rfl, ?_⟩) (by assumption) ?_
      rotate_left 1
      · (intro w' hSw; (try dsimp only at hSw); go_simp; (try (with_reducible rfl)))
      try simp only [Act.put, List.setIfInBounds_toArray, List.set_cons_zero, List.set_cons_succ]
      refine wpAnyH_take (i := 1) (v := ?_) (by simp only [List.getElem?_toArray, List.getElem?_cons_zero, List.getElem?_cons_succ]; rfl) (by kernel_rfl) (by kernel_rfl) (by kernel_rfl) (by intro _ _ _ h; exact h) (Or.inl ⟨by rfl, ?_⟩) (by assumption) ?_
      rotate_left 1
      · (intro w' hSw; (try dsimp only at hSw); go_simp; (try (with_reducible rfl)))
      try simp only [Act.put, List.setIfInBounds_toArray, List.set_cons_zero, List.set_cons_succ]
      refine wpAnyH_take (i := 2) (v := ?_) (by simp only [List.getElem?_toArray, List.getElem?_cons_zero, List.getElem?_cons_succ]; rfl) (by kernel_rfl) (by kernel_rfl) (by kernel_rfl) (by intro _ _ _ h; exact h) (Or.inl ⟨by rfl, ?_⟩) (by assumption) ?_
      rotate_left 1
      · (intro w' hSw; (try dsimp only at hSw); go_simp; (try (with_reducible rfl)))
      try simp only [Act.put, List.setIfInBounds_toArray, List.set_cons_zero, List.set_cons_succ]
      refine wpAnyH_take (i := 3) (v := ?_) (by simp only [List.getElem?_toArray, List.getElem?_cons_zero, List.getElem?_cons_succ]; rfl) (by kernel_rfl) (by kernel_rfl) (by kernel_rfl) (by intro _ _ _ h; exact h) (Or.inl ⟨by rfl, ?_⟩) (by assumption) ?_
      rotate_left 1
      · (intro w' hSw; (try dsimp only at hSw); go_simp; (try (with_reducible rfl)))
      try simp only [Act.put, List.setIfInBounds_toArray, List.set_cons_zero, List.set_cons_succ]
      refine wpAnyH_take (i := 4) (v := ?_) (by simp only [List.getElem?_toArray, List.getElem?_cons_zero, List.getElem?_cons_succ]; rfl) (by kernel_rfl) (by kernel_rfl) (by kernel_rfl) (by intro _ _ _ h; exact h) (Or.inl ⟨by rfl, ?_⟩) (by assumption) ?_
      rotate_left 1
      · (intro w' hSw; (try dsimp only at hSw); go_simp; (try (with_reducible rfl)))
      try simp only [Act.put, List.setIfInBounds_toArray, List.set_cons_zero, List.set_cons_succ]
      refine wpAnyH_take (i := 5) (v := ?_) (by simp only [List.getElem?_toArray, List.getElem?_cons_zero, List.getElem?_cons_succ]; rfl) (by kernel_rfl) (by kernel_rfl) (by kernel_rfl) (by intro _ _ _ h; exact h) (Or.inl ⟨by rfl, ?_⟩) (by assumption) ?_
      rotate_left 1
      · (intro w' hSw; (try dsimp only at hSw); go_simp; (try (with_reducible rfl)))
      try simp only [Act.put, List.setIfInBounds_toArray, List.set_cons_zero, List.set_cons_succ]
      refine wpAnyH_take (i := 6) (v := ?_) (by simp only [List.getElem?_toArray, List.getElem?_cons_zero, List.getElem?_cons_succ]; rfl) (by kernel_rfl) (by kernel_rfl) (by kernel_rfl) (by intro _ _ _ h; exact h) (Or.inl ⟨by rfl, ?_⟩) (by assumption) ?_
      rotate_left 1
      · (intro w' hSw; (try dsimp only at hSw); go_simp; (try (with_reducible rfl)))
      try simp only [Act.put, List.setIfInBounds_toArray, List.set_cons_zero, List.set_cons_succ]
      refine wpAnyH_take (i := 7) (v := ?_) (by simp only [List.getElem?_toArray, List.getElem?_cons_zero, List.getElem?_cons_succ]; rfl) (by kernel_rfl) (by kernel_rfl) (by kernel_rfl) (by intro _ _ _ h; exact h) (Or.inl ⟨by rfl, ?_⟩) (by assumption) ?_
      rotate_left 1
      · (intro w' hSw; (try dsimp only at hSw); go_simp; (try (with_reducible rfl)))
      try simp only [Act.put, List.setIfInBounds_toArray, List.set_cons_zero, List.set_cons_succ]
      refine wpAnyH_take (i := 8) (v := ?_) (by simp only [List.getElem?_toArray, List.getElem?_cons_zero, List.getElem?_cons_succ]; rfl) (by kernel_rfl) (by kernel_rfl) (by kernel_rfl) (by intro _ _ _ h; exact h) (Or.inl ⟨by rfl, ?_⟩) (by assumption) ?_
      rotate_left 1
      · (intro w' hSw; (try dsimp only at hSw); go_simp; (try (with_reducible rfl)))
      try simp only [Act.put, List.setIfInBounds_toArray, List.set_cons_zero, List.set_cons_succ]
      refine wpAnyH_ready (rs := [9]) (by kernel_rfl) (by simp) ?_
      refine AllReadyH.cons (by simp only [List.getElem?_toArray, List.getElem?_cons_zero, List.getElem?_cons_succ]; rfl) (fun K hK => ?_) AllReadyH.nil
      go_simp
      refine hK.out _ _ (HSS.out _ (((Below.refl _ _).alloc (Nat.le_refl _) _).drew)) (fun hHeld => ?_)
      clear hK K
      try simp only [Act.put, List.setIfInBounds_toArray, List.set_cons_zero, List.set_cons_succ]
      obtain ⟨W4, hW4⟩ : ∃ W4, (w3.alloc (.cells #[iv s1, iv s2] 34)).drew = W4 := ⟨_, rfl⟩
      have bw4 : Below w3.heap.size w3 W4 := hW4 ▸ ((Below.refl _ _).alloc (Nat.le_refl _) _).drew
      have hX4 : Arr W4 w3.heap.size 34 (spv [(s1, s2)]) := hW4 ▸ (Arr.new w3 34 [iv s1, iv s2]).drew
      have hC4 := HC.out W4 (bthen2' bw3 bw4) w3.heap.size hX4
      rw [hW4] at hHeld ⊢
      clear hW4
      refine wpAnyH_ready (rs := [10]) (by kernel_rfl) (by simp) ?_
      refine AllReadyH.cons (by simp only [List.getElem?_toArray, List.getElem?_cons_zero, List.getElem?_cons_succ]; rfl) (fun K hK => ?_) AllReadyH.nil
      go_simp
      go_at_call 103
      refine Calls.mono hC4 ?_
      rintro e w5 ⟨v5, rfl, own5, b5⟩
      refine hK.out _ _ (HSS.out _ (bthen2' bw4 b5)) (fun hHeld => ?_)
      clear hK K
      try simp only [Act.put, List.setIfInBounds_toArray, List.set_cons_zero, List.set_cons_succ]
      have hR := HR.out W4 w5 v5 (bthen2' bw3 bw4) b5 own5
      obtain ⟨p5, c5, rfl⟩ := own_slice own5
      refine wpAnyH_ready (rs := [11]) (by kernel_rfl) (by simp) ?_
      refine AllReadyH.cons (by simp only [List.getElem?_toArray, List.getElem?_cons_zero, List.getElem?_cons_succ]; rfl) (fun K hK => ?_) AllReadyH.nil
      go_simp
      go_at_call 124
      refine Calls.mono hR ?_
      rintro e w6 ⟨v6, rfl, own6, t6, n6⟩
      have hA6 := t6.arr (hA3.below (bthen2' bw4 b5) hA3.lt) hBk
      have hC6 := t6.arr (hC3.below (bthen2' bw4 b5) hC3.lt) hCk
      refine hK.out _ _ (⟨hA6.cell (i := 0) rfl, hC6.cell (i := 0) rfl, hC6.cell (i := 1) rfl⟩) (fun hHeld => ?_)
      clear hK K
      try simp only [Act.put, List.setIfInBounds_toArray, List.set_cons_zero, List.set_cons_succ]
      refine wpAnyH_take (i := 12) (v := ?_) (by simp only [List.getElem?_toArray, List.getElem?_cons_zero, List.getElem?_cons_succ]; rfl) (by kernel_rfl) (by kernel_rfl) (by kernel_rfl) (by intro _ _ _ h; exact h) (Or.inl ⟨by rfl, ?_⟩) (by assumption) ?_
      rotate_left 1
      · (intro w' hSw; (try dsimp only at hSw); go_simp; (try (with_reducible rfl)))
      try simp only [Act.put, List.setIfInBounds_toArray, List.set_cons_zero, List.set_cons_succ]
      refine wpAnyH_done (by kernel_rfl) ?_ _
      go_wp2_with fail
      go_ret
      have bw5 := bthen2' bw3 (bthen2' bw4 b5)
      exact ⟨_, rfl, own6, (Turns.of_below bw5).trans t6, fun k hk => (n6 k hk).imp id (fun h => Nat.le_trans bw5.size h)⟩
end Go.Proofs.YtfannkpnmaeljaaGreatDoor

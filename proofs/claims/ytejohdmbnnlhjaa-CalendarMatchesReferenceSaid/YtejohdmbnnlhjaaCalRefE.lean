/- The reference's Length and At for every argument. -/
import Derived.Test.YtejohdmbnnlhjaaCalRefD
namespace Go.Proofs.Ytejohdmbnnlhjaa
open Go.RowKit

set_option maxRecDepth 100000 in
set_option maxHeartbeats 4000000 in
theorem rlength_any (off d : Int) (p : Option Addr) (cap : Nat) (sh : List (Int × Int)) (w : World) (hS : ShAt w w.heap.size p sh) (hlen : sh.length ≤ 1000) :
    Calls Try.prog 17 #[.agg #[iv off, .slice p sh.length cap], .int .i64 d] w fun e w' => e = .returned (.int .i64 (lengthZ off sh d)) ∧ Below w.heap.size w w' := by
  have hva := fun W (h : Below w.heap.size w W) => rvalid_any off p cap w.heap.size sh W h.size (hS.below h) hlen
  by_cases hv : validZ off sh = true
  · by_cases hd : -1 ≤ d ∧ d ≤ 200000
    · exact rlength_yes off d p cap sh w hS hlen hv hd.1 hd.2
    · have h0 : lengthZ off sh d = 0 := by
        unfold lengthZ
        rw [show okDay d = false by rw [← Bool.not_eq_true, okDay_iff]; omega, Bool.and_false]; rfl
      rw [hv] at hva
      rw [h0]
      clear hS h0 hv
      rcases (by omega : d < -1 ∨ (-1 ≤ d ∧ 200000 < d)) with g | ⟨g, g'⟩
      all_goals
        go_enter Try.func17, Try.ntmps17
        go_wp2_with fail
        obtain ⟨W0, hW0, b0, z0, ka⟩ := boxZ' w off (.slice p sh.length cap)
        try rw [hW0]
        try clear hW0
        have c0 := ka.cell (i := 0) rfl
        have c1 := ka.cell (i := 1) rfl
        go_wp2_with fail
        refine Calls.mono (hva _ b0) ?_; rintro e w1 ⟨rfl, b1⟩
        go_wp2_with fail
        go_ret
        exact ⟨rfl, bthen b0 b1⟩
  · rw [Bool.not_eq_true] at hv
    have h0 : lengthZ off sh d = 0 := by unfold lengthZ; rw [hv, Bool.false_and]; rfl
    rw [hv] at hva
    rw [h0]
    clear hS h0 hv
    go_enter Try.func17, Try.ntmps17
    go_wp2_with fail
    obtain ⟨W0, hW0, b0, z0, ka⟩ := boxZ' w off (.slice p sh.length cap)
    try rw [hW0]
    try clear hW0
    have c0 := ka.cell (i := 0) rfl
    have c1 := ka.cell (i := 1) rfl
    go_wp2_with fail
    refine Calls.mono (hva _ b0) ?_; rintro e w1 ⟨rfl, b1⟩
    go_wp2_with fail
    go_ret
    exact ⟨rfl, bthen b0 b1⟩

theorem own_base {W : World} {base base' : Nat} {e : TypeId} {size : Nat} {v : Value} {n : Nat} {xs : List Value} (h : W.ownsRow base e size v n xs) (hb : base' ≤ base) : W.ownsRow base' e size v n xs := by
  obtain ⟨h1, h2⟩ := h
  refine ⟨h1, ?_⟩
  rcases h2 with h2 | ⟨g, cap, cur, e1, e2, e3⟩
  · exact .inl h2
  · exact .inr ⟨g, cap, cur, e1, Nat.le_trans hb e2, e3⟩
def RAtI (T : List Str) (u : Int) (N k : Nat) (v : Value) (w wr : World) : Prop :=
  wr.ownsRow N 3 1 v (atRun u [] (T.take k)).length (ivs (atRun u [] (T.take k))) ∧ Below N w wr

set_option maxRecDepth 100000 in
set_option maxHeartbeats 4000000 in
theorem rat_yes (off d s : Int) (p : Option Addr) (cap : Nat) (sh : List (Int × Int)) (w : World) (hS : ShAt w w.heap.size p sh) (hlen : sh.length ≤ 1000) (hv : validZ off sh = true) (hd0 : -1 ≤ d) (hd1 : d ≤ 200000) (hs0 : 0 ≤ s) (hs9 : s < 86400) :
    Calls Try.prog 20 #[.agg #[iv off, .slice p sh.length cap], .int .i64 d, .int .i64 s] w (IntsOut w (atT off sh d s)) := by
  have hva := fun W (h : Below w.heap.size w W) => rvalid_any off p cap w.heap.size sh W h.size (hS.below h) hlen
  rw [hv] at hva
  have hst := fun W (h : Below w.heap.size w W) (i : Nat) (hi : i ≤ sh.length) f t o he => rstretch_any off i p cap sh W ((hS.below h).mono h.size) hv hi f t o he
  rw [at_late hv hd0 hs0 hs9]
  have hok := (valid_iff hv).2.2
  have hl40 := (valid_iff hv).2.1
  obtain ⟨T, hT⟩ : ∃ T, strs 0 off sh = T := ⟨_, rfl⟩
  have hTl : T.length = sh.length + 1 := by rw [← hT, strs_len]
  rw [hT] at hst hok ⊢
  obtain ⟨u, hu⟩ : ∃ u, d * 86400 + s = u := ⟨_, rfl⟩
  rw [hu]
  have HST := Lib.hid hst
  have HOK := Lib.hid hok
  have HTL := Lib.hid hTl
  clear hst hok hT hv hS hTl
  obtain ⟨i0, hi, hz0, hz1, hz2⟩ := info_parts infoI
  have e1 : IntKind.i64.wrap (d * 86400) = d * 86400 := w64 (by omega) (by omega)
  have e2 : IntKind.i64.wrap (d * 86400 + s) = u := by rw [hu]; exact w64 (by omega) (by omega)
  have ub : -86400 ≤ u ∧ u ≤ 17280086400 := by omega
  obtain ⟨u1, u2⟩ := ub
  go_enter Try.func20, Try.ntmps20
  go_wp2_with fail
  obtain ⟨W0, hW0, b0, z0, ka⟩ := boxZ' w off (.slice p sh.length cap)
  try rw [hW0]
  try clear hW0
  have c0 := ka.cell (i := 0) rfl
  have c1 := ka.cell (i := 1) rfl
  go_wp2_with fail
  refine Calls.mono (hva _ b0) ?_; rintro e w1 ⟨rfl, b1⟩
  have s1 := b1.size
  have b01 := bthen b0 b1
  have ka := ka.below b1 (by omega)
  have kal := ka.lt
  clear hva c0 c1
  obtain ⟨N, hN⟩ : ∃ N, w1.heap.size = N := ⟨_, rfl⟩
  have hNw : w.heap.size ≤ N := by omega
  go_wp2_with fail
  rw [hN] at kal
  have b01N : Below w.heap.size w w1 := b01
  go_loopw [8, 9] (fun v iv' wr => ∃ k : Nat, iv' = .int .i64 k ∧ k ≤ sh.length + 1 ∧ RAtI T u N k v w1 wr) (fun _ i _ => sh.length + 1 - (intOf i).toNat)
  case atStart => exact ⟨0, rfl, by omega, World.ownsRow_nil _ _ _ _, Below.refl _ _⟩
  case round =>
    obtain ⟨k, rfl, hk, hI⟩ := hrel
    obtain ⟨hown, hB⟩ := hI
    have hs := hB.size
    rw [hN] at hs
    have kr := ka.below hB kal
    have c0 := kr.cell (i := 0) rfl
    have c1 := kr.cell (i := 1) rfl
    have hb1 : Below w.heap.size w wr := bthen2 b01N (hN ▸ hB) (by omega)
    by_cases hlt : k ≤ sh.length
    · have hkT : k < T.length := by rw [HTL.out]; omega
      have hmem := HOK.out _ (get_mem hkT)
      have htk := take_get hkT
      obtain ⟨x, hxx⟩ : ∃ x, T.getD k (0, 0, 0) = x := ⟨_, rfl⟩
      have hcall := fun W hW => HST.out W hW k hlt x.1 x.2.1 x.2.2 hxx
      rw [hxx] at hmem htk
      obtain ⟨f, t, o⟩ := x
      obtain ⟨q1, q2, q3, q4, q5⟩ := hmem
      dsimp only at hcall q1 q2 q3 q4 q5
      have hlt' : (k : Int) ≤ (sh.length : Int) := by omega
      obtain ⟨l, hl⟩ : ∃ l, atRun u [] (T.take k) = l := ⟨_, rfl⟩
      have hnew : atRun u [] (T.take (k + 1)) = if f ≤ u - o ∧ u - o < t then l ++ [u - o] else l := by rw [htk, atRun_append, hl]
      have hll : l.length ≤ 1001 := by
        have := atRun_len (u := u) (l := T.take k) (t := [])
        rw [hl] at this; simp at this; omega
      rw [hl] at hown
      have HN := Lib.hid hnew
      clear hnew hl hxx htk
      have e3 : IntKind.i64.wrap (u - o) = u - o := w64 (by omega) (by omega)
      go_wp2_with fail
      refine Calls.mono (hcall _ hb1) ?_; rintro e w2 ⟨rfl, b2⟩
      have hs2 := b2.size
      have hown := own_below hown b2
      have hB2 : Below N w1 w2 := hB.trans (b2.mono (by omega))
      clear hcall c0 c1
      by_cases h1 : f ≤ u - o
      · by_cases h2 : u - o < t
        · have h2' : u - o ≤ t - 1 := by omega
          go_wp2_with (at_builtin; refine wpList_append_mine _ rfl _ _ 32 rfl N 3 i0 (.int .i64 0) 1 8 Try.underlying32 hi hz0 hz1 hz2 rfl (by decide) _ _ _ rfl (hown.alloc _) ⟨w2.heap.size, 0, none⟩ 1 1 [.int .i64 (u - o)] rfl rfl (cell_one_new _ _ _) (by simp [Value.oneCell']) (by unfold maxLen; omega) (by omega) (by simp; omega) ?_; intro v' w3 hown' hgrow _ hnew)
          go_roundw
          case rel =>
            refine ⟨k + 1, by go_num, by omega, ?_, ?_⟩
            · rw [HN.out, if_pos ⟨h1, h2⟩, List.length_append]
              simpa [ivs] using hown'
            · exact (hB2.alloc (by omega) _).grown hgrow (by simp; omega) (own_le hown)
          case measure => simp [intOf]; omega
        · have h2' : t - 1 < u - o := by omega
          go_wp2_with fail
          go_roundw
          case rel => exact ⟨k + 1, by go_num, by omega, by rw [HN.out, if_neg (by omega)]; exact hown, hB2⟩
          case measure => simp [intOf]; omega
      · have h1' : u - o < f := by omega
        go_wp2_with fail
        go_roundw
        case rel => exact ⟨k + 1, by go_num, by omega, by rw [HN.out, if_neg (by omega)]; exact hown, hB2⟩
        case measure => simp [intOf]; omega
    · obtain rfl : k = sh.length + 1 := by omega
      have hall : T.take (sh.length + 1) = T := List.take_of_length_le (by rw [HTL.out]; exact Nat.le_refl _)
      rw [hall] at hown
      have hlt' : (sh.length : Int) < (sh.length : Int) + 1 := by omega
      clear hall
      go_wp2_with fail
      go_ret
      exact ⟨_, rfl, own_base hown hNw, hb1⟩
end Go.Proofs.Ytejohdmbnnlhjaa

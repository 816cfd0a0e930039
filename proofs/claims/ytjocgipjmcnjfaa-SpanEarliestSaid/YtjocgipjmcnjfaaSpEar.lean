/- SpanEarliest. -/
import Derived.Test.YtjocgipjmcnjfaaSpSmall
import Derived.Test.YtjocgipjmcnjfaaSpSane
namespace Go.Proofs.Ytjocgipjmcnjfaa
open Go.RowKit Go.Shelf

theorem cov_pos {l : List (Int × Int)} {y n : Int} (hn : 0 < n) : covZ l (y, y + n) = (nrmZ l).any (covB (y, y + n)) := by
  unfold covZ
  rw [decide_eq_false (by simp only; omega), Bool.false_or]
theorem ear_none {l : List (Int × Int)} {x n : Int} (hn : 0 < n) (h : earlZ l x n = (0, false)) {y : Int} (hy : x ≤ y) : covZ l (y, y + n) = false := by
  rw [cov_pos hn, List.any_eq_false]
  intro t ht hc
  unfold covB at hc
  rw [Bool.and_eq_true, decide_eq_true_eq, decide_eq_true_eq] at hc
  simp only at hc
  unfold earlZ at h
  rw [if_neg (by omega)] at h
  unfold earlN at h
  cases hf : (nrmZ l).find? (fitB x n) with
  | some u => rw [hf] at h; simp at h
  | none =>
    rw [List.find?_eq_none] at hf
    refine hf t ht ?_
    unfold fitB
    rw [Bool.and_eq_true, decide_eq_true_eq, decide_eq_true_eq]
    omega
theorem ear_fst {l : List (Int × Int)} {x n v : Int} (hn : 0 < n) (h : earlZ l x n = (v, true)) : x ≤ v ∧ covZ l (v, v + n) = true ∧ (∀ y, x ≤ y → y < v → covZ l (y, y + n) = false) ∧ ∃ t ∈ nrmZ l, t.1 ≤ v ∧ v < t.2 := by
  unfold earlZ at h
  rw [if_neg (by omega)] at h
  unfold earlN at h
  cases hf : (nrmZ l).find? (fitB x n) with
  | none => rw [hf] at h; simp at h
  | some u =>
    rw [hf] at h
    simp only [Prod.mk.injEq, and_true] at h
    have hu := List.find?_some hf
    obtain ⟨hu', A, B, hAB, hno⟩ := List.find?_eq_some_iff_append.1 hf
    unfold fitB at hu
    rw [Bool.and_eq_true, decide_eq_true_eq, decide_eq_true_eq] at hu
    have hum : u ∈ nrmZ l := by rw [hAB]; simp
    refine ⟨by omega, ?_, fun y h1 h2 => ?_, u, hum, by omega, by omega⟩
    · rw [cov_pos hn, List.any_eq_true]
      refine ⟨u, hum, ?_⟩
      unfold covB
      rw [Bool.and_eq_true, decide_eq_true_eq, decide_eq_true_eq]
      simp only
      omega
    · rw [cov_pos hn, List.any_eq_false]
      intro t ht hc
      unfold covB at hc
      rw [Bool.and_eq_true, decide_eq_true_eq, decide_eq_true_eq] at hc
      simp only at hc
      have hasc := nrmZ_asc l
      rw [hAB] at ht hasc
      have hA2 := (asc_append.1 hasc).2.1
      rw [List.mem_append, List.mem_cons] at ht
      rcases ht with ht | rfl | ht
      · have hq := hno t ht
        have : fitB x n t = true := by
          unfold fitB
          rw [Bool.and_eq_true, decide_eq_true_eq, decide_eq_true_eq]
          omega
        rw [this] at hq
        simp at hq
      · omega
      · have := (asc_cons.1 hA2).2.1 t ht
        omega
theorem ear_hi {l : List (Int × Int)} (hs : Sm l) {x n v : Int} (hn : 0 < n) (h : earlZ l x n = (v, true)) : v ≤ 39 := by
  obtain ⟨-, -, -, t, ht, h1, h2⟩ := ear_fst hn h
  have := hs.has (x := v) (by rw [← nrmZ_has]; exact hasZ_iff.2 ⟨t, ht, h1, h2⟩)
  omega

set_option maxRecDepth 100000 in
set_option maxHeartbeats 8000000 in
theorem earliest_law (pa : Option Addr) (ca : Nat) (a : List (Int × Int)) (la : a.length ≤ 9223372036854775807) (w : World) (Sa : ShAt w w.heap.size pa a) (Ba : Bd a) (t0 n0 : Int) (tb : -9223372036854775808 ≤ t0 ∧ t0 ≤ 9223372036854775807) (nb : -9223372036854775808 ≤ n0 ∧ n0 ≤ 9223372036854775807) :
    Calls Try.prog 9 #[.slice pa a.length ca, iv t0, iv n0] w fun e w' => e = .returned (.bool true) ∧ Below w.heap.size w w' := by
  have Fa := fun W (h : ShAt W W.heap.size pa a) => small_any pa ca a W h la Ba
  have Ma := smallZ_sm a
  have Na := smallZ_len a
  generalize smallZ a = La at Fa Ma Na
  have Da := Ma.bd
  obtain ⟨na, hna⟩ : ∃ n, a.length = n := ⟨_, rfl⟩
  rw [hna] at Fa ⊢
  obtain ⟨t, ht⟩ : ∃ t, t0.tmod 50 = t := ⟨_, rfl⟩
  obtain ⟨n, hn⟩ : ∃ n, n0.tmod 20 = n := ⟨_, rfl⟩
  have jt := tmod_in t0 (n := 50) (by decide)
  have jn := tmod_in n0 (n := 20) (by decide)
  rw [ht] at jt
  rw [hn] at jn
  have wt : IntKind.i64.wrap t = t := w64 (by omega) (by omega)
  have wn : IntKind.i64.wrap n = n := w64 (by omega) (by omega)
  have H1 := fun W p c (h : ShAt W W.heap.size p La) => earliest_any p c La t n W h (by omega) Da (by omega) (by omega) (by omega)
  have HC := fun W p c x y (h : ShAt W W.heap.size p La) => covers_any p c La x y W h (by omega)
  obtain ⟨jt0, jt1⟩ := jt
  obtain ⟨jn0, jn1⟩ := jn
  by_cases hn0 : n ≤ 0
  · have hv : earlZ La t n = (t, true) := if_pos hn0
    rw [hv] at H1
    have d0 : decide (n ≤ 0) = true := by simpa using hn0
    clear hna la tb nb HC
    go_enter Try.func9, Try.ntmps9
    go_wp2_with fail
    refine Calls.mono (sane_any _) ?_
    rintro e w1 ⟨rfl, b1⟩
    go_wp2_with fail
    refine Calls.mono (Fa _ (Sa.into b1)) ?_
    rintro e w2 ⟨v, rfl, o, b2⟩
    have bb2 := bthen b1 b2
    obtain ⟨pA, cA, rfl, SA, CA⟩ := own_shc o
    clear o
    go_wp2_with fail
    refine Calls.mono (H1 _ pA cA SA) ?_
    rintro e w3 ⟨rfl, b3⟩
    go_wp2_with fail
    go_ret
    exact ⟨by simp, bthen bb2 b3⟩
  · have hnp : 0 < n := by omega
    have d0 : decide (n ≤ 0) = false := by simpa using hn0
    obtain ⟨V, hV⟩ : ∃ V, earlZ La t n = V := ⟨_, rfl⟩
    rw [hV] at H1
    obtain ⟨v, ok⟩ := V
    have hno : ∀ y, t ≤ y → (ok = false ∨ y < v) → covZ La (y, y + n) = false := fun y hy h => by
      cases ok with
      | false =>
        have : v = 0 := by
          unfold earlZ at hV
          rw [if_neg (by omega)] at hV
          unfold earlN at hV
          split at hV <;> simp at hV; exact hV.symm
        subst this
        exact ear_none hnp hV hy
      | true =>
        rcases h with h | h
        · cases h
        · exact (ear_fst hnp hV).2.2.1 y hy h
    have hok : ok = true → t ≤ v ∧ v ≤ 39 ∧ covZ La (v, v + n) = true := fun h => by
      subst h
      have := ear_fst hnp hV
      exact ⟨this.1, ear_hi Ma hnp hV, this.2.1⟩
    have hnk : ok = false → v = 0 := fun h => by
      subst h
      unfold earlZ at hV
      rw [if_neg (by omega)] at hV
      unfold earlN at hV
      split at hV <;> simp at hV; exact hV.symm
    have HNo := Lib.hid hno
    have HOk := Lib.hid hok
    have HNk := Lib.hid hnk
    clear hna la tb nb hno hok hnk hV Ma Na Da
    go_enter Try.func9, Try.ntmps9
    go_wp2_with fail
    refine Calls.mono (sane_any _) ?_
    rintro e w1 ⟨rfl, b1⟩
    go_wp2_with fail
    refine Calls.mono (Fa _ (Sa.into b1)) ?_
    rintro e w2 ⟨v, rfl, o, b2⟩
    have bb2 := bthen b1 b2
    obtain ⟨pA, cA, rfl, SA, CA⟩ := own_shc o
    clear o
    go_wp2_with fail
    refine Calls.mono (H1 _ pA cA SA) ?_
    rintro e w3 ⟨rfl, b3⟩
    have bb3 := bthen bb2 b3
    have SA := SA.into b3
    clear H1 Fa Sa b1 b2 b3
    cases ok with
    | false =>
      have hv := HNk.out rfl
      subst hv
      go_wp2_with fail
      go_loopw [11] (fun s wr => ∃ y : Int, s = .int .i64 y ∧ t ≤ y ∧ y ≤ 60 ∧ Below w3.heap.size w3 wr) (fun s _ => (60 - intOf s).toNat)
      case atStart => exact ⟨t, rfl, by omega, by omega, Below.refl _ _⟩
      case round =>
        obtain ⟨y, rfl, hy0, hy1, hb⟩ := hrel
        have hsz := hb.size
        by_cases hlt : y < 60
        · have hcall := HC wr pA cA y (y + n) (SA.into hb)
          rw [HNo.out y hy0 (.inl (by trivial))] at hcall
          have d1 : decide (y < 60) = true := by simpa using hlt
          have wy : IntKind.i64.wrap (y + n) = y + n := w64 (by omega) (by omega)
          have wy1 : IntKind.i64.wrap (y + 1) = y + 1 := w64 (by omega) (by omega)
          go_wp2_with fail
          refine hcall.mono ?_
          rintro e w9 ⟨rfl, b9⟩
          go_wp2_with fail
          exact ⟨⟨y + 1, rfl, by omega, by omega, hb.trans (b9.mono hsz)⟩, by simp [intOf]; omega⟩
        · have d1 : decide (y < 60) = false := by simpa using hlt
          go_wp2_with fail
          go_ret
          exact ⟨rfl, bthen bb3 hb⟩
    | true =>
      obtain ⟨k1, k2, k3⟩ := HOk.out (by trivial)
      have hfin := fun W p c (h : ShAt W W.heap.size p La) => HC W p c v (v + n) h
      rw [k3] at hfin
      have wv : IntKind.i64.wrap (v + n) = v + n := w64 (by omega) (by omega)
      have d9 : decide (t ≤ v) = true := by simpa using k1
      clear k3
      go_wp2_with fail
      go_loopw [11] (fun s wr => ∃ y : Int, s = .int .i64 y ∧ t ≤ y ∧ y ≤ 60 ∧ Below w3.heap.size w3 wr) (fun s _ => (60 - intOf s).toNat)
      case atStart => exact ⟨t, rfl, by omega, by omega, Below.refl _ _⟩
      case round =>
        obtain ⟨y, rfl, hy0, hy1, hb⟩ := hrel
        have hsz := hb.size
        by_cases hlt : y < v
        · have hcall := HC wr pA cA y (y + n) (SA.into hb)
          rw [HNo.out y hy0 (.inr hlt)] at hcall
          have d1 : decide (y < 60) = true := by simp; omega
          have d1' : y < 60 := by omega
          have d2 : decide (y < v) = true := by simpa using hlt
          have wy : IntKind.i64.wrap (y + n) = y + n := w64 (by omega) (by omega)
          have wy1 : IntKind.i64.wrap (y + 1) = y + 1 := w64 (by omega) (by omega)
          go_wp2_with fail
          refine hcall.mono ?_
          rintro e w9 ⟨rfl, b9⟩
          go_wp2_with fail
          exact ⟨⟨y + 1, rfl, by omega, by omega, hb.trans (b9.mono hsz)⟩, by simp [intOf]; omega⟩
        · have d2 : decide (y < v) = false := by simpa using hlt
          have hcall := hfin wr pA cA (SA.into hb)
          by_cases h60 : y < 60
          · have d1 : decide (y < 60) = true := by simpa using h60
            go_wp2_with fail
            refine hcall.mono ?_
            rintro e w9 ⟨rfl, b9⟩
            go_wp2_with fail
            go_ret
            exact ⟨rfl, bthen (bthen bb3 hb) b9⟩
          · have d1 : decide (y < 60) = false := by simpa using h60
            go_wp2_with fail
            refine hcall.mono ?_
            rintro e w9 ⟨rfl, b9⟩
            go_wp2_with fail
            go_ret
            exact ⟨rfl, bthen (bthen bb3 hb) b9⟩
end Go.Proofs.Ytjocgipjmcnjfaa

/- sane, pick. -/
import Derived.Test.YtejohdmbnnlhjaaCalSpans
namespace Go.Proofs.Ytejohdmbnnlhjaa
open Go.RowKit

theorem own_below {W W' : World} {base : Nat} {e : TypeId} {size : Nat} {v : Value} {n : Nat} {xs : List Value} (h : W.ownsRow base e size v n xs) (hb : Below W.heap.size W W') : W'.ownsRow base e size v n xs := by
  obtain ⟨h1, h2⟩ := h
  refine ⟨h1, ?_⟩
  rcases h2 with h2 | ⟨g, cap, cur, e1, e2, e3, e4⟩
  · exact .inl h2
  · exact .inr ⟨g, cap, cur, e1, e2, (hb.block g (Array.getElem?_eq_some_iff.1 e3).1).trans e3, e4⟩

def pickZ (c n : Int) : Int := (if c < 0 then -(c + 1) else c) % n
theorem pick_any (c n : Int) (w : World) (h1 : -9223372036854775808 ≤ c) (h2 : c ≤ 9223372036854775807) (h3 : 1 ≤ n) (h4 : n ≤ 9223372036854775807) :
    Calls Try.prog 15 #[.int .i64 c, .int .i64 n] w fun e w' => e = .returned (.int .i64 (pickZ c n)) ∧ w = w' := by
  unfold pickZ
  have hn0 : (n == 0) = false := by rw [beq_eq_false_iff_ne]; omega
  have hn1 : ¬ n = 0 := by omega
  by_cases hc : c < 0
  · rw [if_pos hc]
    have e0 : IntKind.i64.wrap (c + 1) = c + 1 := w64 (by omega) (by omega)
    have e1 : IntKind.i64.wrap (-(c + 1)) = -(c + 1) := w64 (by omega) (by omega)
    have h0 : 0 ≤ -(c + 1) := by omega
    obtain ⟨d, hd⟩ : ∃ d, -(c + 1) = d := ⟨_, rfl⟩
    rw [hd] at e1 h0 ⊢
    have hd9 : d ≤ 9223372036854775807 := by omega
    have e2 : d.tmod n = d % n := Int.tmod_eq_emod_of_nonneg h0
    have e3 : 0 ≤ d % n := Int.emod_nonneg _ hn1
    have e4 : d % n < n := Int.emod_lt_of_pos _ (by omega)
    have e5 : IntKind.i64.wrap (d % n) = d % n := w64 (by omega) (by omega)
    go_enter Try.func15, Try.ntmps15
    go_wp2_with fail
    go_ret
    exact ⟨rfl, rfl⟩
  · rw [if_neg hc]
    have h0 : 0 ≤ c := by omega
    have e2 : c.tmod n = c % n := Int.tmod_eq_emod_of_nonneg h0
    have e3 : 0 ≤ c % n := Int.emod_nonneg _ hn1
    have e4 : c % n < n := Int.emod_lt_of_pos _ (by omega)
    have e5 : IntKind.i64.wrap (c % n) = c % n := w64 (by omega) (by omega)
    go_enter Try.func15, Try.ntmps15
    go_wp2_with fail
    go_ret
    exact ⟨rfl, rfl⟩
theorem pick_in {c n : Int} (hn : 1 ≤ n) : 0 ≤ pickZ c n ∧ pickZ c n < n := by
  unfold pickZ
  exact ⟨Int.emod_nonneg _ (by omega), Int.emod_lt_of_pos _ (by omega)⟩

theorem spans_any (off F To a b : Int) (p : Option Addr) (cap : Nat) (sh : List (Int × Int)) (w : World) (hS : ShAt w w.heap.size p sh) (hlen : sh.length ≤ 1000) (h : (okSod a && okSod b && validZ off sh && !longZ F To) = true)
    (hf0 : -9223372036854775808 ≤ F) (hf1 : F ≤ 9223372036854775807) (ht0 : -9223372036854775808 ≤ To) (ht1 : To ≤ 9223372036854775807) :
    Calls Try.prog 24 #[.agg #[iv off, .slice p sh.length cap], .agg #[iv F, iv To], .int .i64 a, .int .i64 b] w (SpansOut w (spansZ off sh F To a b)) := by
  unfold spansZ
  rw [if_pos h]
  simp only [Bool.and_eq_true, Bool.not_eq_true'] at h
  exact spans_yes off F To a b p cap sh w hS hlen h.1.2 h.1.1.1 h.1.1.2 h.2 hf0 hf1 ht0 ht1

def shS : List (Int × Int) := [(90000, 7200), (200000, 3600)]
theorem sane_l0 : localZ 3600 shS 90000 = (1, 10800) := by decide
theorem sane_l1 : localZ 3600 shS 89999 = (1, 7199) := by decide
theorem sane_a0 : atT 3600 shS 2 32000 = [197600, 201200] := by decide
theorem sane_a1 : atT 3600 shS 1 7200 = [] := by decide
theorem sane_n0 : lengthZ 3600 shS 1 = 82800 := by decide
theorem sane_n1 : lengthZ 3600 shS 2 = 90000 := by decide
theorem sane_w0 : withinZ 3600 shS 90000 79200 18000 = true := by decide
theorem sane_w1 : withinZ 3600 shS 90000 10801 11000 = false := by decide
theorem sane_v0 : validZ 3600 shS = true := by decide
theorem sane_v1 : validZ 50401 [] = false := by decide
theorem sane_s0 : spansZ 3600 shS 80000 95000 0 3600 = [(82800, 86400)] := by
  have h : (okSod 0 && okSod 3600 && validZ 3600 shS && !longZ 80000 95000) = true := by decide
  unfold spansZ
  rw [if_pos h]
  simp only [shS, strs, spanRun, winZ]
  simp
  rw [winRun_go (by decide), winRun_end (by decide), winRun_go (by decide), winRun_go (by decide), winRun_end (by decide)]
  decide

theorem shS_at {w : World} {N : Nat} (hw : Arr w N 43 [iv 90000, iv 7200, iv 200000, iv 3600]) {n : Nat} (hn : N < n) : ShAt w n (some ⟨N, 0, none⟩) shS := fun i hi => by
  match i, hi with
  | 0, _ => exact ⟨N, 0, rfl, hn, hw.cell (i := 0) rfl, hw.cell (i := 1) rfl⟩
  | 1, _ => exact ⟨N, 0, rfl, hn, hw.cell (i := 2) rfl, hw.cell (i := 3) rfl⟩

/-- Two integers. -/
theorem two_cells {w : World} {base : Nat} {v : Value} {a b : Int} (h : w.ownsRow base 3 1 v 2 (ivs [a, b])) : ∃ g cap, v = .slice (some ⟨g, 0, none⟩) 2 cap ∧ g < w.heap.size ∧ w.cell? ⟨g, 0, none⟩ = some (iv a) ∧ w.cell? ⟨g, 1, none⟩ = some (iv b) := by
  obtain ⟨g, cap, rfl⟩ := ownsRow_succ h
  exact ⟨g, cap, rfl, (h.lt g rfl).2, h.cellAt 0 (by decide), h.cellAt 1 (by decide)⟩
theorem no_cells {w : World} {base : Nat} {e : TypeId} {size : Nat} {v : Value} {xs : List Value} (h : w.ownsRow base e size v 0 xs) : ∃ p cap, v = .slice p 0 cap := by
  rcases h.2 with ⟨rfl, _⟩ | ⟨g, cap, cur, rfl, _⟩ <;> exact ⟨_, _, rfl⟩
theorem one_span {w : World} {base : Nat} {v : Value} {a b : Int} (h : w.ownsRow base 47 2 v 1 (spv [(a, b)])) : ∃ g cap, v = .slice (some ⟨g, 0, none⟩) 1 cap ∧ g < w.heap.size ∧ w.cell? ⟨g, 0, none⟩ = some (iv a) ∧ w.cell? ⟨g, 1, none⟩ = some (iv b) := by
  obtain ⟨g, cap, rfl⟩ := ownsRow_succ h
  exact ⟨g, cap, rfl, (h.lt g rfl).2, h.cellAt 0 (by decide), h.cellAt 1 (by decide)⟩

set_option maxRecDepth 100000 in
set_option maxHeartbeats 8000000 in
theorem sane_any (w : World) : Calls Try.prog 9 #[] w fun e w' => e = .returned (.bool true) ∧ Below w.heap.size w w' := by
  have y1 := fun (W : World) (h : ShAt W W.heap.size (some ⟨w.heap.size, 0, none⟩) shS) => sane_l0 ▸ local_any 3600 90000 _ 2 shS W h (by decide)
  have y2 := fun (W : World) (h : ShAt W W.heap.size (some ⟨w.heap.size, 0, none⟩) shS) => sane_l1 ▸ local_any 3600 89999 _ 2 shS W h (by decide)
  have y3 := fun (W : World) (h : ShAt W W.heap.size (some ⟨w.heap.size, 0, none⟩) shS) => sane_a0 ▸ at_any 3600 2 32000 _ 2 shS W h (by decide)
  have y4 := fun (W : World) (h : ShAt W W.heap.size (some ⟨w.heap.size, 0, none⟩) shS) => sane_s0 ▸ spans_any 3600 80000 95000 0 3600 _ 2 shS W h (by decide) (by decide) (by decide) (by decide) (by decide) (by decide)
  have y5 := fun (W : World) (h : ShAt W W.heap.size (some ⟨w.heap.size, 0, none⟩) shS) => sane_a1 ▸ at_any 3600 1 7200 _ 2 shS W h (by decide)
  have y6 := fun (W : World) (h : ShAt W W.heap.size (some ⟨w.heap.size, 0, none⟩) shS) => sane_n0 ▸ length_any 3600 1 _ 2 shS W h (by decide)
  have y7 := fun (W : World) (h : ShAt W W.heap.size (some ⟨w.heap.size, 0, none⟩) shS) => sane_n1 ▸ length_any 3600 2 _ 2 shS W h (by decide)
  have y8 := fun (W : World) (h : ShAt W W.heap.size (some ⟨w.heap.size, 0, none⟩) shS) => sane_w0 ▸ within_any 3600 90000 79200 18000 _ 2 shS W h (by decide)
  have y9 := fun (W : World) (h : ShAt W W.heap.size (some ⟨w.heap.size, 0, none⟩) shS) => sane_w1 ▸ within_any 3600 90000 10801 11000 _ 2 shS W h (by decide)
  have y10 := fun (W : World) (h : ShAt W W.heap.size (some ⟨w.heap.size, 0, none⟩) shS) => sane_v0 ▸ valid_any 3600 _ 2 W.heap.size shS W (Nat.le_refl _) h (by decide)
  have y11 := fun (W : World) => sane_v1 ▸ valid_any 50401 none 0 0 [] W (Nat.zero_le _) (fun i hi => by simp at hi) (by decide)
  have e2 : shS.length = 2 := rfl
  rw [e2] at y1 y2 y3 y4 y5 y6 y7 y8 y9 y10
  rw [show ([] : List (Int × Int)).length = 0 from rfl] at y11
  clear e2
  go_enter Try.func9, Try.ntmps9
  go_wp2_with fail
  obtain ⟨W0, hW0, b0, z0, ks, kz⟩ : ∃ W0, (w.alloc (.cells #[.int .i64 90000, .int .i64 7200, .int .i64 200000, .int .i64 3600] 43)).alloc (.cells #[.int .i64 3600, .slice (some ⟨w.heap.size, 0, none⟩) 2 2] 24) = W0 ∧ Below w.heap.size w W0 ∧ W0.heap.size = w.heap.size + 2 ∧
      Arr W0 w.heap.size 43 [iv 90000, iv 7200, iv 200000, iv 3600] ∧ Arr W0 (w.heap.size + 1) 24 [iv 3600, .slice (some ⟨w.heap.size, 0, none⟩) 2 2] :=
    ⟨_, rfl, ((Below.refl _ w).alloc (Nat.le_refl _) _).alloc (by simp) _, by simp, (Arr.new w _ [iv 90000, iv 7200, iv 200000, iv 3600]).alloc _, Arr.new' _ [iv 3600, .slice (some ⟨w.heap.size, 0, none⟩) 2 2] (by simp)⟩
  rw [hW0]; clear hW0
  obtain ⟨N, hNN⟩ : ∃ N, w.heap.size = N := ⟨_, rfl⟩
  have HN := Lib.hid hNN
  rw [hNN] at y1 y2 y3 y4 y5 y6 y7 y8 y9 y10 b0 z0 ks kz ⊢
  clear hNN
  have c0 := b0
  refine (y1 _ (shS_at ks (by omega))).mono ?_; rintro e w1 ⟨rfl, b1⟩
  have s1 := b1.size
  have c1 := bthen2 c0 b1 (by omega)
  have ks := ks.below b1 (by omega)
  have kz := kz.below b1 (by omega)
  have z0 := kz.cell (i := 0) rfl
  have z1 := kz.cell (i := 1) rfl
  go_wp2_with fail
  refine (y2 _ (shS_at ks (by omega))).mono ?_; rintro e w2 ⟨rfl, b2⟩
  have s2 := b2.size
  have c2 := bthen2 c1 b2 (by omega)
  have ks := ks.below b2 (by omega)
  have kz := kz.below b2 (by omega)
  have z0 := kz.cell (i := 0) rfl
  have z1 := kz.cell (i := 1) rfl
  go_wp2_with fail
  refine (y3 _ (shS_at ks (by omega))).mono ?_; rintro e w3 ⟨v3, rfl, o3, b3⟩
  have s3 := b3.size
  have c3 := bthen2 c2 b3 (by omega)
  have ks := ks.below b3 (by omega)
  have kz := kz.below b3 (by omega)
  have z0 := kz.cell (i := 0) rfl
  have z1 := kz.cell (i := 1) rfl
  obtain ⟨g3, p3, rfl, l3, a3, d3⟩ := two_cells o3
  go_wp2_with fail
  refine (y4 _ (shS_at ks (by omega))).mono ?_; rintro e w4 ⟨v4, rfl, o4, b4⟩
  have s4 := b4.size
  have c4 := bthen2 c3 b4 (by omega)
  have ks := ks.below b4 (by omega)
  have kz := kz.below b4 (by omega)
  have z0 := kz.cell (i := 0) rfl
  have z1 := kz.cell (i := 1) rfl
  have a3 := (b4.cell (p := ⟨g3, 0, none⟩) l3).trans a3
  have d3 := (b4.cell (p := ⟨g3, 1, none⟩) l3).trans d3
  obtain ⟨g4, p4, rfl, l4, a4, d4⟩ := one_span o4
  have l3 : g3 < w4.heap.size := by omega
  go_wp2_with fail
  refine (y5 _ (shS_at ks (by omega))).mono ?_; rintro e w5 ⟨v5, rfl, o5, b5⟩
  have s5 := b5.size
  have c5 := bthen2 c4 b5 (by omega)
  have ks := ks.below b5 (by omega)
  have kz := kz.below b5 (by omega)
  have z0 := kz.cell (i := 0) rfl
  have z1 := kz.cell (i := 1) rfl
  have a3 := (b5.cell (p := ⟨g3, 0, none⟩) l3).trans a3
  have d3 := (b5.cell (p := ⟨g3, 1, none⟩) l3).trans d3
  have a4 := (b5.cell (p := ⟨g4, 0, none⟩) l4).trans a4
  have d4 := (b5.cell (p := ⟨g4, 1, none⟩) l4).trans d4
  have l3 : g3 < w5.heap.size := by omega
  have l4 : g4 < w5.heap.size := by omega
  obtain ⟨p5, q5, rfl⟩ := no_cells o5
  go_wp2_with fail
  refine (y6 _ (shS_at ks (by omega))).mono ?_; rintro e w6 ⟨rfl, b6⟩
  have s6 := b6.size
  have c6 := bthen2 c5 b6 (by omega)
  have ks := ks.below b6 (by omega)
  have kz := kz.below b6 (by omega)
  have z0 := kz.cell (i := 0) rfl
  have z1 := kz.cell (i := 1) rfl
  have a3 := (b6.cell (p := ⟨g3, 0, none⟩) l3).trans a3
  have d3 := (b6.cell (p := ⟨g3, 1, none⟩) l3).trans d3
  have a4 := (b6.cell (p := ⟨g4, 0, none⟩) l4).trans a4
  have d4 := (b6.cell (p := ⟨g4, 1, none⟩) l4).trans d4
  have l3 : g3 < w6.heap.size := by omega
  have l4 : g4 < w6.heap.size := by omega
  go_wp2_with fail
  refine (y7 _ (shS_at ks (by omega))).mono ?_; rintro e w7 ⟨rfl, b7⟩
  have s7 := b7.size
  have c7 := bthen2 c6 b7 (by omega)
  have ks := ks.below b7 (by omega)
  have kz := kz.below b7 (by omega)
  have z0 := kz.cell (i := 0) rfl
  have z1 := kz.cell (i := 1) rfl
  have a3 := (b7.cell (p := ⟨g3, 0, none⟩) l3).trans a3
  have d3 := (b7.cell (p := ⟨g3, 1, none⟩) l3).trans d3
  have a4 := (b7.cell (p := ⟨g4, 0, none⟩) l4).trans a4
  have d4 := (b7.cell (p := ⟨g4, 1, none⟩) l4).trans d4
  have l3 : g3 < w7.heap.size := by omega
  have l4 : g4 < w7.heap.size := by omega
  go_wp2_with fail
  refine (y8 _ (shS_at ks (by omega))).mono ?_; rintro e w8 ⟨rfl, b8⟩
  have s8 := b8.size
  have c8 := bthen2 c7 b8 (by omega)
  have ks := ks.below b8 (by omega)
  have kz := kz.below b8 (by omega)
  have z0 := kz.cell (i := 0) rfl
  have z1 := kz.cell (i := 1) rfl
  have a3 := (b8.cell (p := ⟨g3, 0, none⟩) l3).trans a3
  have d3 := (b8.cell (p := ⟨g3, 1, none⟩) l3).trans d3
  have a4 := (b8.cell (p := ⟨g4, 0, none⟩) l4).trans a4
  have d4 := (b8.cell (p := ⟨g4, 1, none⟩) l4).trans d4
  have l3 : g3 < w8.heap.size := by omega
  have l4 : g4 < w8.heap.size := by omega
  go_wp2_with fail
  refine (y9 _ (shS_at ks (by omega))).mono ?_; rintro e w9 ⟨rfl, b9⟩
  have s9 := b9.size
  have c9 := bthen2 c8 b9 (by omega)
  have ks := ks.below b9 (by omega)
  have kz := kz.below b9 (by omega)
  have z0 := kz.cell (i := 0) rfl
  have z1 := kz.cell (i := 1) rfl
  have a3 := (b9.cell (p := ⟨g3, 0, none⟩) l3).trans a3
  have d3 := (b9.cell (p := ⟨g3, 1, none⟩) l3).trans d3
  have a4 := (b9.cell (p := ⟨g4, 0, none⟩) l4).trans a4
  have d4 := (b9.cell (p := ⟨g4, 1, none⟩) l4).trans d4
  have l3 : g3 < w9.heap.size := by omega
  have l4 : g4 < w9.heap.size := by omega
  go_wp2_with fail
  refine (y10 _ (shS_at ks (by omega))).mono ?_; rintro e w10 ⟨rfl, b10⟩
  have s10 := b10.size
  have c10 := bthen2 c9 b10 (by omega)
  have ks := ks.below b10 (by omega)
  have kz := kz.below b10 (by omega)
  have z0 := kz.cell (i := 0) rfl
  have z1 := kz.cell (i := 1) rfl
  have a3 := (b10.cell (p := ⟨g3, 0, none⟩) l3).trans a3
  have d3 := (b10.cell (p := ⟨g3, 1, none⟩) l3).trans d3
  have a4 := (b10.cell (p := ⟨g4, 0, none⟩) l4).trans a4
  have d4 := (b10.cell (p := ⟨g4, 1, none⟩) l4).trans d4
  have l3 : g3 < w10.heap.size := by omega
  have l4 : g4 < w10.heap.size := by omega
  go_wp2_with fail
  refine (y11 _).mono ?_; rintro e w11 ⟨rfl, b11⟩
  go_wp2_with fail
  go_ret
  exact ⟨rfl, by rw [HN.out]; exact bthen2 c10 b11 (by omega)⟩
end Go.Proofs.Ytejohdmbnnlhjaa

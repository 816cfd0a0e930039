/- The zones that the statements make. -/
import Derived.Test.YtejohdmbnnlhjaaCalSane
import Derived.Test.YtejohdmbnnlhjaaLawKit
namespace Go.Proofs.Ytejohdmbnnlhjaa
open Go.RowKit

theorem ascZ_snoc {l a o : Int} : ∀ {sh : List (Int × Int)}, ascZ l sh = true → (∀ x ∈ sh, x.1 < a) → l < a → okSec a = true → okOff o = true → ascZ l (sh ++ [(a, o)]) = true := by
  intro sh
  induction sh generalizing l with
  | nil => intro _ _ h1 h2 h3; simp [ascZ, h1, h2, h3]
  | cons x r ih =>
    intro h hx h1 h2 h3
    simp only [ascZ, Bool.and_eq_true, List.cons_append] at h ⊢
    exact ⟨h.1, ih h.2 (fun y hy => hx y (by simp [hy])) (hx x (by simp)) h2 h3⟩

theorem infoH : (Try.prog.info? 43).map (fun i => (i.zero, i.size, i.bytes)) = some (some (.agg #[.int .i64 0, .int .i64 0]), 2, 16) := by kernel_rfl

theorem arr_not_row {W : World} {B : Nat} {t e : TypeId} {vs : List Value} (h : Arr W B t vs) (hte : t ≠ e) {base size k : Nat} {v : Value} {xs : List Value} (hr : W.ownsRow base e size v k xs) : some B ≠ v.ownBlock := by
  rcases hr.2 with ⟨rfl, _⟩ | ⟨g, cap, cur, rfl, _, hg, _⟩
  · simp [Value.ownBlock]
  · intro hB
    simp [Value.ownBlock] at hB
    subst hB
    rw [show W.heap[B]? = _ from h] at hg
    simp at hg
    exact hte hg.2

/-- A slice of spans or shifts of the call's own lies as a zone's shifts lie. -/
theorem shAt_own {W : World} {base : Nat} {v : Value} {sh : List (Int × Int)} (h : W.ownsRow base 43 2 v sh.length (spv sh)) : ∃ p cap, v = .slice p sh.length cap ∧ ShAt W W.heap.size p sh := by
  rcases h.2 with ⟨rfl, h0⟩ | ⟨g, cap, cur, rfl, _⟩
  · refine ⟨none, 0, by rw [h0], fun i hi => ?_⟩
    rw [h0] at hi; omega
  · refine ⟨_, cap, rfl, fun i hi => ⟨g, 0, rfl, (h.lt g rfl).2, ?_, ?_⟩⟩
    · rw [Nat.zero_add, h.cellAt (i * 2) (by omega)]; exact (spv_get hi).1
    · rw [Nat.zero_add, h.cellAt (i * 2 + 1) (by omega)]; exact (spv_get hi).2

def stepL : List Int := [3600, -3600, 1800, -7200, 0, 40000, -86399]
theorem step_cell {k : Nat} (hk : k < 7) (W : World) : (W.alloc (.cells #[.int .i64 3600, .int .i64 (-3600), .int .i64 1800, .int .i64 (-7200), .int .i64 0, .int .i64 40000, .int .i64 (-86399)] 3)).cell? ⟨W.heap.size, k, none⟩ = some (iv (stepL.getD k 0)) := by
  refine (Arr.new W 3 [iv 3600, iv (-3600), iv 1800, iv (-7200), iv 0, iv 40000, iv (-86399)]).cell ?_
  match k, hk with
  | 0, _ | 1, _ | 2, _ | 3, _ | 4, _ | 5, _ | 6, _ => rfl
theorem step_in (k : Nat) : -86399 ≤ stepL.getD k 0 ∧ stepL.getD k 0 ≤ 40000 := by
  match k with
  | 0 | 1 | 2 | 3 | 4 | 5 | 6 => decide
  | k + 7 => simp [stepL]

/-- What Make returns: a valid zone. -/
def MadeOut (len : Nat) (w : World) (e : Ending) (w' : World) : Prop :=
  ∃ off sh p cap, e = .returned (.agg #[iv off, .slice p sh.length cap]) ∧ validZ off sh = true ∧ sh.length = min len 12 ∧ ShAt w' w'.heap.size p sh ∧ Below w.heap.size w w'

def MkI (off : Int) (Z R N k : Nat) (a l : Int) (sh : List (Int × Int)) (v : Value) (w wr : World) : Prop :=
  sh.length = k ∧ ascZ (-1) sh = true ∧ (∀ x ∈ sh, x.1 ≤ a) ∧ 0 ≤ a ∧ a ≤ 400001 * k ∧ -50400 ≤ l ∧ l ≤ 50400 ∧ Arr wr Z 24 [iv off, v] ∧ Arr wr R 24 [iv 0, .slice none 0 0] ∧ wr.ownsRow N 43 2 v k (spv sh) ∧ Below N w wr

theorem mk_step {off : Int} {Z R N k : Nat} {a l a' l' : Int} {sh : List (Int × Int)} {v v' : Value} {w wr w2 w3 : World} {o : Obj} (h : MkI off Z R N k a l sh v w wr) (hZR : R < Z) (hNR : N ≤ R) (hk : k < 12) (ha : a < a') (ha2 : a' ≤ a + 400000) (hl1 : -50400 ≤ l') (hl2 : l' ≤ 50400)
    (b : Below wr.heap.size wr w2) (hgrow : (w2.alloc o).grownBy w3 v.ownBlock) (hown : w3.ownsRow N 43 2 v' (k + 1) (spv sh ++ [iv a', iv l'])) (hv1 : w3.heap[Z]? = (w2.alloc o).heap[Z]?) (hv2 : w3.heap[R]? = (w2.alloc o).heap[R]?) :
    MkI off Z R N (k + 1) a' l' (sh ++ [(a', l')]) v' w (w3.setCell ⟨Z, 1, none⟩ v') := by
  obtain ⟨m1, m2, m3, m4, m5, m6, m7, m8, m9, m10, m11⟩ := h
  have z8 := m8.lt
  have z9 := m9.lt
  have hs := b.size
  have k8 : Arr w3 Z 24 [iv off, v] := hv1.trans ((m8.below b z8).alloc o)
  have k9 : Arr w3 R 24 [iv 0, .slice none 0 0] := hv2.trans ((m9.below b z9).alloc o)
  have hnr := arr_not_row k8 (by decide) hown
  refine ⟨by simp [m1], ascZ_snoc m2 (fun x hx => by have := m3 x hx; omega) (by omega) (okSec_iff.2 ⟨by omega, by omega⟩) (okOff_iff.2 ⟨hl1, hl2⟩), fun x hx => ?_, by omega, by omega, hl1, hl2, k8.set 1 v', k9.set_other 1 v' (by omega), ?_, ?_⟩
  · rcases List.mem_append.1 hx with hx | hx
    · have := m3 x hx; omega
    · simp at hx; subst hx; exact Int.le_refl _
  · have := ownsRow_setCell_other hown (a := ⟨Z, 1, none⟩) (fun h => hnr h.symm) v'
    simpa [spv] using this
  · have h11 := m11.size
    have g := m11.trans (b.mono (by omega))
    have g2 := g.alloc (by have := g.size; omega) o
    exact ((g2.grown hgrow (by simp; omega) (own_le m10)).setCell (p := ⟨Z, 1, none⟩) (by simp; omega) v')

set_option maxRecDepth 100000 in
set_option maxHeartbeats 2000000 in
theorem make_any (c : Int) (p : Option Addr) (len cap : Nat) (f : Nat → Int) (w : World) (c1 : -9223372036854775808 ≤ c) (c2 : c ≤ 9223372036854775807) (hlen : len ≤ 9223372036854775807) (hS : SliceAt w p len (fun i => iv (f i))) (hf : ∀ i, -9223372036854775808 ≤ f i ∧ f i ≤ 9223372036854775807) :
    Calls Try.prog 23 #[.int .i64 c, .slice p len cap] w (MadeOut len w) := by
  have hp0 := pick_any c 113
  obtain ⟨q0, hq0⟩ : ∃ q, pickZ c 113 = q := ⟨_, rfl⟩
  obtain ⟨q1, q2⟩ : 0 ≤ q0 ∧ q0 < 113 := hq0 ▸ pick_in (by decide)
  rw [hq0] at hp0
  have hp := fun W => hp0 W c1 c2 (by decide) (by decide)
  clear hp0 hq0
  obtain ⟨off, hoff⟩ : ∃ off, 900 * q0 - 50400 = off := ⟨_, rfl⟩
  have e1 : IntKind.i64.wrap (900 * q0) = 900 * q0 := w64 (by omega) (by omega)
  have e2 : IntKind.i64.wrap (900 * q0 - 50400) = off := by rw [hoff]; exact w64 (by omega) (by omega)
  have o1 : -50400 ≤ off := by omega
  have o2 : off ≤ 50400 := by omega
  have HF := Lib.hid hf; clear hf
  obtain ⟨i0, hi, hz0, hz1, hz2⟩ := info_parts infoH
  go_enter Try.func23, Try.ntmps23
  go_wp2_with (go_at_call 15; refine Calls.mono (hp _) ?_; rintro e w' ⟨rfl, rfl⟩)
  obtain ⟨W0, hW0, b0, z0, kr, kz⟩ : ∃ W0, (w.alloc (.cells #[.int .i64 0, .slice none 0 0] 24)).alloc (.cells #[.int .i64 off, .slice none 0 0] 24) = W0 ∧ Below w.heap.size w W0 ∧ W0.heap.size = w.heap.size + 2 ∧
      Arr W0 w.heap.size 24 [iv 0, .slice none 0 0] ∧ Arr W0 (w.heap.size + 1) 24 [iv off, .slice none 0 0] :=
    ⟨_, rfl, ((Below.refl _ w).alloc (Nat.le_refl _) _).alloc (by simp) _, by simp, (Arr.new w _ [iv 0, .slice none 0 0]).alloc _, Arr.new' _ [iv off, .slice none 0 0] (by simp)⟩
  rw [hW0]; clear hW0
  have hI0 : MkI off (w.heap.size + 1) w.heap.size w.heap.size 0 0 off [] (.slice none 0 0) w W0 := ⟨rfl, rfl, (fun x hx => by cases hx), by omega, by omega, o1, o2, kz, kr, World.ownsRow_nil _ _ _ _, b0⟩
  have HI0 := Lib.hid hI0; clear hI0 kr kz hp e1 e2 hoff
  obtain ⟨N, hN⟩ : ∃ N, w.heap.size = N := ⟨_, rfl⟩
  have HN := Lib.hid hN
  rw [hN] at HI0 ⊢
  clear hN b0 z0
  have hp1 := fun c W h1 h2 => pick_any c 400000 W h1 h2 (by decide) (by decide)
  have hp2 := fun c W h1 h2 => pick_any c 7 W h1 h2 (by decide) (by decide)
  have HS := Lib.hid hS; clear hS
  go_loopw [6, 7, 8] (fun at1 last i wr => ∃ (k : Nat) (a l : Int) (sh : List (Int × Int)) (v : Value), at1 = .int .i64 a ∧ last = .int .i64 l ∧ i = .int .i64 k ∧ k ≤ len ∧ k ≤ 12 ∧ MkI off (N + 1) N N k a l sh v w wr) (fun _ _ i _ => len - (intOf i).toNat)
  case atStart => exact ⟨0, 0, off, [], .slice none 0 0, rfl, rfl, rfl, by omega, by omega, HI0.out⟩
  case round =>
    clear HI0
    obtain ⟨k, a, l, sh, v, rfl, rfl, rfl, hk, hk12, hM⟩ := hrel
    by_cases hlt : k < len ∧ k < 12
    · obtain ⟨hl1, hl2⟩ := hlt
      obtain ⟨b, o, rfl, hb, hc⟩ := HS.out k hl1
      have hM' := Lib.hid hM
      obtain ⟨m1, m2, m3, m4, m5, m6, m7, m8, m9, m10, m11⟩ := hM
      rw [← HN.out] at m11
      have hcr := (m11.cell (p := ⟨b, o + k, none⟩) hb).trans hc
      have hbr : b < wr.heap.size := by have := m11.size; omega
      have hfk := HF.out k
      clear hc
      dsimp only at hcr
      obtain ⟨y, hy⟩ : ∃ y, f k = y := ⟨_, rfl⟩
      rw [hy] at hcr hfk
      obtain ⟨x1, hx1⟩ : ∃ x, pickZ y 400000 = x := ⟨_, rfl⟩
      obtain ⟨u1, u2⟩ : 0 ≤ x1 ∧ x1 < 400000 := hx1 ▸ pick_in (by decide)
      obtain ⟨x2, hx2⟩ : ∃ x : Nat, pickZ y 7 = (x : Int) := ⟨(pickZ y 7).toNat, by have := (pick_in (c := y) (n := 7) (by decide)).1; omega⟩
      have u3 : x2 < 7 := by have := (pick_in (c := y) (n := 7) (by decide)).2; omega
      have hpA := fun W => hp1 y W hfk.1 hfk.2
      have hpB := fun W => hp2 y W hfk.1 hfk.2
      rw [hx1] at hpA
      rw [hx2] at hpB
      clear hp1 hp2 hx1 hx2 hy
      have hsc := step_cell u3
      obtain ⟨v1, v2⟩ := step_in x2
      obtain ⟨st, hst⟩ : ∃ st, stepL.getD x2 0 = st := ⟨_, rfl⟩
      rw [hst] at hsc v1 v2
      obtain ⟨a', ha'⟩ : ∃ a', a + 1 + x1 = a' := ⟨_, rfl⟩
      have e1 : IntKind.i64.wrap (a + 1 + x1) = a' := by rw [ha']; exact w64 (by omega) (by omega)
      have e1' : a + 1 + x1 = a' := ha'
      have ha1 : a < a' := by omega
      have ha2 : a' ≤ a + 400000 := by omega
      obtain ⟨y2, hy2⟩ : ∃ y2, l + st = y2 := ⟨_, rfl⟩
      have e2 : IntKind.i64.wrap (l + st) = y2 := by rw [hy2]; exact w64 (by omega) (by omega)
      have a9 : a ≤ 400001 * 12 := by omega
      have u5 : (x2 : Int) < 7 := by omega
      have hsz := m11.size
      obtain ⟨WA, hWA, bA, zA⟩ : ∃ WA, wr.alloc (.cells #[.int .i64 3600, .int .i64 (-3600), .int .i64 1800, .int .i64 (-7200), .int .i64 0, .int .i64 40000, .int .i64 (-86399)] 3) = WA ∧ Below wr.heap.size wr WA ∧ WA.heap.size = wr.heap.size + 1 := ⟨_, rfl, (Below.refl _ _).alloc (Nat.le_refl _) _, by simp⟩
      have hcA := (bA.cell (p := ⟨b, o + k, none⟩) hbr).trans hcr
      have hsA := hsc wr
      rw [hWA] at hsA
      clear hsc
      have hwa := bA.size
      clear zA
      have hlz := m8.lt
      have hlr := m9.lt
      have m8a := m8.below bA hlz
      have m9a := m9.below bA hlr
      have m10a := own_below m10 bA
      have hnrZ := arr_not_row m8a (by decide) m10a
      have hnrR := arr_not_row m9a (by decide) m10a
      have cz := m8a.cell (i := 1) rfl
      have d1 : decide ((k : Int) < 12) = true := by simp; omega
      have d2 : decide (k < 12) = true := by simp; omega
      clear ha' hy2
      rcases (by omega : y2 ≤ -50400 ∨ 50400 ≤ y2 ∨ (-50400 < y2 ∧ y2 < 50400)) with hc | hc | hc
      · go_wp2_with (first | (go_at_call 15; (with_reducible refine Calls.mono (hpA _) ?_); rintro e w' ⟨rfl, rfl⟩) | (go_at_call 15; (with_reducible refine Calls.mono (hpB _) ?_); rintro e w' ⟨rfl, rfl⟩) | (at_builtin; refine wpList_append_mine _ rfl _ _ 22 rfl N 43 i0 (.agg #[.int .i64 0, .int .i64 0]) 2 16 Try.underlying22 hi hz0 hz1 hz2 rfl (by decide) _ _ _ rfl (m10a.alloc _) ⟨WA.heap.size, 0, none⟩ 1 1 [.int .i64 a', .int .i64 (-50400)] rfl rfl (cells_new _ _ _) (by simp [Value.oneCell']) (by unfold maxLen; omega) (by omega) (by simp; omega) ?_; intro v' w3 hown' hgrow _ hnew; obtain ⟨g', cap', hv'⟩ := ownsRow_succ hown'; subst hv'; have hz3 := hgrow.block (N + 1) (by simp; omega) hnrZ; have hr3 := hgrow.block N (by simp; omega) hnrR; have kz3 : Arr w3 (N + 1) 24 [iv off, v] := hz3.trans (m8a.alloc _); have cz3 := kz3.cell (i := 1) rfl; have fz3 := kz3.frozen 1))
        have hfin := mk_step hM'.out (by omega) (Nat.le_refl _) hl2 ha1 ha2 (l' := (-50400)) (by omega) (by omega) bA hgrow hown' hz3 hr3
        clear hnrZ hnrR hgrow hown' hnew
        go_roundw
        case rel => exact ⟨k + 1, a', (-50400), _, _, rfl, rfl, by go_num, by omega, by omega, hfin⟩
        case measure => simp [intOf]; omega
      · go_wp2_with (first | (go_at_call 15; (with_reducible refine Calls.mono (hpA _) ?_); rintro e w' ⟨rfl, rfl⟩) | (go_at_call 15; (with_reducible refine Calls.mono (hpB _) ?_); rintro e w' ⟨rfl, rfl⟩) | (at_builtin; refine wpList_append_mine _ rfl _ _ 22 rfl N 43 i0 (.agg #[.int .i64 0, .int .i64 0]) 2 16 Try.underlying22 hi hz0 hz1 hz2 rfl (by decide) _ _ _ rfl (m10a.alloc _) ⟨WA.heap.size, 0, none⟩ 1 1 [.int .i64 a', .int .i64 50400] rfl rfl (cells_new _ _ _) (by simp [Value.oneCell']) (by unfold maxLen; omega) (by omega) (by simp; omega) ?_; intro v' w3 hown' hgrow _ hnew; obtain ⟨g', cap', hv'⟩ := ownsRow_succ hown'; subst hv'; have hz3 := hgrow.block (N + 1) (by simp; omega) hnrZ; have hr3 := hgrow.block N (by simp; omega) hnrR; have kz3 : Arr w3 (N + 1) 24 [iv off, v] := hz3.trans (m8a.alloc _); have cz3 := kz3.cell (i := 1) rfl; have fz3 := kz3.frozen 1))
        have hfin := mk_step hM'.out (by omega) (Nat.le_refl _) hl2 ha1 ha2 (l' := 50400) (by omega) (by omega) bA hgrow hown' hz3 hr3
        clear hnrZ hnrR hgrow hown' hnew
        go_roundw
        case rel => exact ⟨k + 1, a', 50400, _, _, rfl, rfl, by go_num, by omega, by omega, hfin⟩
        case measure => simp [intOf]; omega
      · obtain ⟨hc1, hc2⟩ := hc
        go_wp2_with (first | (go_at_call 15; (with_reducible refine Calls.mono (hpA _) ?_); rintro e w' ⟨rfl, rfl⟩) | (go_at_call 15; (with_reducible refine Calls.mono (hpB _) ?_); rintro e w' ⟨rfl, rfl⟩) | (at_builtin; refine wpList_append_mine _ rfl _ _ 22 rfl N 43 i0 (.agg #[.int .i64 0, .int .i64 0]) 2 16 Try.underlying22 hi hz0 hz1 hz2 rfl (by decide) _ _ _ rfl (m10a.alloc _) ⟨WA.heap.size, 0, none⟩ 1 1 [.int .i64 a', .int .i64 y2] rfl rfl (cells_new _ _ _) (by simp [Value.oneCell']) (by unfold maxLen; omega) (by omega) (by simp; omega) ?_; intro v' w3 hown' hgrow _ hnew; obtain ⟨g', cap', hv'⟩ := ownsRow_succ hown'; subst hv'; have hz3 := hgrow.block (N + 1) (by simp; omega) hnrZ; have hr3 := hgrow.block N (by simp; omega) hnrR; have kz3 : Arr w3 (N + 1) 24 [iv off, v] := hz3.trans (m8a.alloc _); have cz3 := kz3.cell (i := 1) rfl; have fz3 := kz3.frozen 1))
        have hfin := mk_step hM'.out (by omega) (Nat.le_refl _) hl2 ha1 ha2 (l' := y2) (by omega) (by omega) bA hgrow hown' hz3 hr3
        clear hnrZ hnrR hgrow hown' hnew
        go_roundw
        case rel => exact ⟨k + 1, a', y2, _, _, rfl, rfl, by go_num, by omega, by omega, hfin⟩
        case measure => simp [intOf]; omega
    · have hend : ¬ k < len ∨ ¬ k < 12 := by omega
      have hkm : k = min len 12 := by omega
      obtain ⟨m1, m2, m3, m4, m5, m6, m7, m8, m9, m10, m11⟩ := hM
      rw [← HN.out] at m11
      rw [← m1] at m10
      obtain ⟨pz, cz, rfl, hz⟩ := shAt_own m10
      have h0 := m8.cell (i := 0) rfl
      have h1 := m8.cell (i := 1) rfl
      have r0 := m9.cell (i := 0) rfl
      have r1 := m9.cell (i := 1) rfl
      have rf0 := m9.frozen 0
      have rf1 := m9.frozen 1
      have hlz := m8.lt
      have hlr := m9.lt
      have kf := (m9.set 0 (iv off)).set 1 (.slice pz sh.length cz)
      have hbF := (m11.setCell (p := ⟨N, 0, none⟩) (by simp; rw [HN.out]; exact Nat.le_refl _) (iv off)).setCell (p := ⟨N, 1, none⟩) (by simp; rw [HN.out]; exact Nat.le_refl _) (.slice pz sh.length cz)
      have hzF : ShAt ((wr.setCell ⟨N, 0, none⟩ (iv off)).setCell ⟨N, 1, none⟩ (.slice pz sh.length cz)) wr.heap.size pz sh := fun i hi => by
        obtain ⟨bb, oo, q1, q2, q3, q4⟩ := hz i hi
        have hne : N ≠ bb := fun e => by
          have := arr_not_row m9 (by decide) m10
          rw [q1] at this
          exact this (by rw [e]; rfl)
        have hx : ((wr.setCell ⟨N, 0, none⟩ (iv off)).setCell ⟨N, 1, none⟩ (.slice pz sh.length cz)).heap[bb]? = wr.heap[bb]? := by
          rw [Below.heap_setCell _ _ _ _ (by simpa using Ne.symm hne), Below.heap_setCell _ _ _ _ (by simpa using Ne.symm hne)]
        exact ⟨bb, oo, q1, q2, (World.cell?_of_block (a := ⟨bb, _, none⟩) hx).trans q3, (World.cell?_of_block (a := ⟨bb, _, none⟩) hx).trans q4⟩
      have hP : validZ off sh = true ∧ sh.length = min len 12 := ⟨by unfold validZ; rw [okOff_iff.2 ⟨o1, o2⟩, m2, decide_eq_true (show sh.length ≤ 40 by omega)]; rfl, by omega⟩
      have HP := Lib.hid hP
      clear hP
      have KF := Lib.hid kf
      have HBF := Lib.hid hbF
      have HZF := Lib.hid hzF
      clear m1 m2 m3 m4 m5 m6 m7 m10 m11 hz kf hbF hzF hkm
      have hfin : ∀ W, W = (wr.setCell ⟨N, 0, none⟩ (iv off)).setCell ⟨N, 1, none⟩ (.slice pz sh.length cz) → MadeOut len w (.returned (.agg #[iv off, .slice pz sh.length cz])) W := fun W hW => by
        subst hW
        exact ⟨off, sh, pz, cz, rfl, HP.out.1, HP.out.2, HZF.out.mono (by simp), HBF.out⟩
      have e0 := fun W (hW : W = (wr.setCell ⟨N, 0, none⟩ (iv off)).setCell ⟨N, 1, none⟩ (.slice pz sh.length cz)) => (hW ▸ KF.out : Arr W N 24 [iv off, .slice pz sh.length cz])
      rcases hend with hend | hend
      · go_wp2_with fail
        obtain ⟨WF, hWF⟩ : ∃ WF, (wr.setCell ⟨N, 0, none⟩ (iv off)).setCell ⟨N, 1, none⟩ (.slice pz sh.length cz) = WF := ⟨_, rfl⟩
        rw [hWF]
        have kf := e0 _ hWF.symm
        exact bodyPost_ret (v := .agg #[iv off, .slice pz sh.length cz]) (by simp [results, Try.results23, go_sem, kf.cell (i := 0) rfl, kf.cell (i := 1) rfl]) rfl (hfin _ hWF.symm)
      · have hd : decide ((k : Int) < 12) = false := by simp; omega
        have hl : k < len ∨ ¬ k < len := by omega
        rcases hl with hl | hl
        all_goals
          go_wp2_with fail
          obtain ⟨WF, hWF⟩ : ∃ WF, (wr.setCell ⟨N, 0, none⟩ (iv off)).setCell ⟨N, 1, none⟩ (.slice pz sh.length cz) = WF := ⟨_, rfl⟩
          rw [hWF]
          have kf := e0 _ hWF.symm
          exact bodyPost_ret (v := .agg #[iv off, .slice pz sh.length cz]) (by simp [results, Try.results23, go_sem, kf.cell (i := 0) rfl, kf.cell (i := 1) rfl]) rfl (hfin _ hWF.symm)
end Go.Proofs.Ytejohdmbnnlhjaa

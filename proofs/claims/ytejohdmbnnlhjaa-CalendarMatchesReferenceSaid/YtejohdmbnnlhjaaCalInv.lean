/- CalendarInverse. -/
import Derived.Test.YtejohdmbnnlhjaaCalInvM
import Derived.Deep.RegionHeld3
namespace Go.Proofs.Ytejohdmbnnlhjaa
open Go.RowKit

theorem keepZ {W W' W'' : World} {B g i n : Nat} {x y : Int} {v : Value} (hS : W'.cell? ⟨B, 0, none⟩ = some (iv x) ∧ W'.cell? ⟨B, 1, none⟩ = some v ∧ W'.cell? ⟨g, i, none⟩ = some (iv y) ∧ Below n W W') (hB : B < W.heap.size) (hg : g < W.heap.size) (hn : n ≤ W.heap.size) (b : Below W'.heap.size W' W'') :
    W''.cell? ⟨B, 0, none⟩ = some (iv x) ∧ W''.cell? ⟨B, 1, none⟩ = some v ∧ W''.cell? ⟨g, i, none⟩ = some (iv y) ∧ Below n W W'' := by
  have hs := hS.2.2.2.size
  exact ⟨(b.cell (p := ⟨B, 0, none⟩) (by simp; omega)).trans hS.1, (b.cell (p := ⟨B, 1, none⟩) (by simp; omega)).trans hS.2.1, (b.cell (p := ⟨g, i, none⟩) (by simp; omega)).trans hS.2.2.1, hS.2.2.2.trans (b.mono (by omega))⟩

theorem keepV {W W' W'' : World} {B n : Nat} {x : Int} {v : Value} (hS : W'.cell? ⟨B, 0, none⟩ = some (iv x) ∧ W'.cell? ⟨B, 1, none⟩ = some v ∧ Below n W W') (hB : B < W.heap.size) (hn : n ≤ W.heap.size) (b : Below W'.heap.size W' W'') :
    W''.cell? ⟨B, 0, none⟩ = some (iv x) ∧ W''.cell? ⟨B, 1, none⟩ = some v ∧ Below n W W'' := by
  have hs := hS.2.2.size
  exact ⟨(b.cell (p := ⟨B, 0, none⟩) (by simp; omega)).trans hS.1, (b.cell (p := ⟨B, 1, none⟩) (by simp; omega)).trans hS.2.1, hS.2.2.trans (b.mono (by omega))⟩
theorem inv3 {w2 w5 W : World} {P Q : Prop} (h : P ∧ Q ∧ Below w5.heap.size w5 W) (b : Below w2.heap.size w2 w5) : Below w2.heap.size w2 W := bthen b h.2.2
theorem inv4 {w2 w5 W : World} {P Q R : Prop} (h : P ∧ Q ∧ R ∧ Below w5.heap.size w5 W) (b : Below w2.heap.size w2 w5) : Below w2.heap.size w2 W := bthen b h.2.2.2
theorem pquiet {P : Program} {f : FuncId} {args : Array Value} {v : Value} {W : World} (h : Calls P f args W fun e w' => e = .returned v ∧ W = w') : Calls P f args W fun e w' => e = .returned v ∧ w' = W := h.mono fun _ _ ⟨a, b⟩ => ⟨a, b.symm⟩

def hasZ (s : Int) (l : List Int) (k : Nat) : Bool := (l.take k).any (· == s)
theorem hasZ_succ {s : Int} {l : List Int} {k : Nat} (h : k < l.length) : hasZ s l (k + 1) = (hasZ s l k || (l.getD k 0 == s)) := by
  unfold hasZ
  rw [List.take_succ_eq_append_getElem h, List.any_append, List.getD_eq_getElem?_getD, List.getElem?_eq_getElem h]
  simp
theorem hasZ_all {s : Int} {l : List Int} (h : s ∈ l) : hasZ s l l.length = true := by
  unfold hasZ
  rw [List.take_length, List.any_eq_true]
  exact ⟨s, h, by simp⟩

set_option maxRecDepth 100000 in
set_option maxHeartbeats 1500000 in
theorem inverse_law (c : Int) (p : Option Addr) (len cap : Nat) (f : Nat → Int) (n m r : Int) (w : World) (c1 : -9223372036854775808 ≤ c) (c2 : c ≤ 9223372036854775807) (hlen : len ≤ 9223372036854775807) (hS : SliceAt w p len (fun i => iv (f i))) (hf : ∀ i, -9223372036854775808 ≤ f i ∧ f i ≤ 9223372036854775807)
    (n1 : -9223372036854775808 ≤ n) (n2 : n ≤ 9223372036854775807) (m1 : -9223372036854775808 ≤ m) (m2 : m ≤ 9223372036854775807) (r1 : -9223372036854775808 ≤ r) (r2 : r ≤ 9223372036854775807) :
    Calls Try.prog 4 #[.int .i64 c, .slice p len cap, .int .i64 n, .int .i64 m, .int .i64 r] w fun e w' => e = .returned (.bool true) ∧ Below w.heap.size w w' := by
  have hmk := fun W (h : Below w.heap.size w W) => make_any c p len cap f W c1 c2 hlen (fun i hi => by
    obtain ⟨b, o, h1, h2, h3⟩ := hS i hi
    exact ⟨b, o, h1, by have := h.size; omega, (h.cell (p := ⟨b, _, none⟩) h2).trans h3⟩) hf
  obtain ⟨s, hs⟩ : ∃ q, pickZ n 6000000 = q := ⟨_, rfl⟩
  obtain ⟨s1, s2⟩ : 0 ≤ s ∧ s < 6000000 := hs ▸ pick_in (by decide)
  have hp1 := fun W => pick_any n 6000000 W n1 n2 (by decide) (by decide)
  rw [hs] at hp1
  obtain ⟨q, hq⟩ : ∃ q, pickZ m 70 = q := ⟨_, rfl⟩
  obtain ⟨q1, q2⟩ : 0 ≤ q ∧ q < 70 := hq ▸ pick_in (by decide)
  have hp2 := fun W => pick_any m 70 W m1 m2 (by decide) (by decide)
  rw [hq] at hp2
  obtain ⟨k, hk⟩ : ∃ q, pickZ r 86400 = q := ⟨_, rfl⟩
  obtain ⟨k1, k2⟩ : 0 ≤ k ∧ k < 86400 := hk ▸ pick_in (by decide)
  have hp3 := fun W => pick_any r 86400 W r1 r2 (by decide) (by decide)
  rw [hk] at hp3
  clear hs hq hk hS hf
  obtain ⟨D, hD⟩ : ∃ D, q - 1 = D := ⟨_, rfl⟩
  go_enter Try.func4, Try.ntmps4
  go_wp2_with fail
  refine Calls.mono (sane_any _) ?_; rintro e w1 ⟨rfl, b1⟩
  go_wp2_with fail
  refine Calls.mono (hmk _ b1) ?_; rintro e w2 ⟨off, sh, pz, cz, rfl, hv, hl12, hZ, b2⟩
  clear hmk
  obtain ⟨⟨o1, o2⟩, -, -⟩ := valid_iff hv
  obtain ⟨a, b, e1, e3, e4, e5, e6, hmem⟩ := inv_math (s := s) hv s1 (by omega)
  obtain ⟨hall, hpair⟩ := inv_math2 (d := D) (n := k) hv (by omega) (by omega) k1 k2
  have hl : sh.length ≤ 12 := by omega
  have y1 := fun W (h : Below w2.heap.size w2 W) => local_any off s pz cz sh W ((hZ.below h).mono h.size) (by omega)
  have y2 := fun W (h : Below w2.heap.size w2 W) => at_any off a b pz cz sh W ((hZ.below h).mono h.size) (by omega)
  have y3 := fun W (h : Below w2.heap.size w2 W) => at_any off D k pz cz sh W ((hZ.below h).mono h.size) (by omega)
  have y4 := fun x W (h : Below w2.heap.size w2 W) => local_any off x pz cz sh W ((hZ.below h).mono h.size) (by omega)
  rw [e1] at y1
  obtain ⟨L, hL⟩ : ∃ L, atT off sh a b = L := ⟨_, rfl⟩
  rw [hL] at y2 hmem
  obtain ⟨M, hM⟩ : ∃ M, atT off sh D k = M := ⟨_, rfl⟩
  rw [hM] at y3 hall hpair
  have HM := Lib.hid hmem; clear hmem
  have HA := Lib.hid hall; clear hall
  have HP := Lib.hid hpair; clear hpair
  have b12 := bthen b1 b2
  clear hl12 hl e1 hv b1 b2 hL hM hZ
  go_wp2_with (go_at_call 15; (with_reducible refine Calls.mono (hp1 _) ?_); rintro e w' ⟨rfl, rfl⟩)
  obtain ⟨W3, hW3, b3, z3, kz⟩ := boxZ' w2 off (.slice pz sh.length cz)
  rw [hW3]; clear hW3
  refine Calls.mono (y1 _ b3) ?_; rintro e w4 ⟨rfl, b4⟩
  have s4 := b4.size
  have b34 := bthen b3 b4
  have kz := kz.below b4 (by omega)
  have c0 := kz.cell (i := 0) rfl
  have c1 := kz.cell (i := 1) rfl
  go_wp2_with fail
  refine Calls.mono (y2 _ b34) ?_; rintro e w5 ⟨v, rfl, o5, b5⟩
  have s5 := b5.size
  have b35 := bthen b34 b5
  have kz := kz.below b5 (by omega)
  have c0 := kz.cell (i := 0) rfl
  have c1 := kz.cell (i := 1) rfl
  obtain ⟨pl, cl, rfl, hLm, hcl⟩ := ints_at o5
  clear o5 y1 y2
  have HC := Lib.hid hcl; clear hcl
  go_wp2_with fail
  go_loop [17, 18] (fun fv iv' => ∃ i : Nat, fv = .bool (hasZ s L i) ∧ iv' = .int .i64 i ∧ i ≤ L.length) (fun _ i => L.length - (intOf i).toNat)
  case atStart => exact ⟨0, rfl, rfl, Nat.zero_le _⟩
  case round =>
    obtain ⟨i, rfl, rfl, hi⟩ := hrel
    by_cases hlt : i < L.length
    · obtain ⟨g, rfl, hg, hc⟩ := HC.out i hlt
      have hsc := hasZ_succ (s := s) hlt
      obtain ⟨x, hx⟩ : ∃ x, L.getD i 0 = x := ⟨_, rfl⟩
      rw [hx] at hc hsc
      obtain ⟨B, hB⟩ : ∃ B, hasZ s L i = B := ⟨_, rfl⟩
      rw [hB] at hsc ⊢
      have HSC := Lib.hid hsc
      clear hsc hx hB
      cases B
      · by_cases hxs : x = s
        · have hxs' : (x == s) = true := by simpa using hxs
          go_wp2_with fail
          go_round
          case rel => exact ⟨i + 1, by rw [HSC.out, hxs']; rfl, by go_num, by omega⟩
          case measure => simp [intOf]; omega
        · have hxs' : (x == s) = false := by simpa using hxs
          go_wp2_with fail
          go_round
          case rel => exact ⟨i + 1, by rw [HSC.out, hxs']; rfl, by go_num, by omega⟩
          case measure => simp [intOf]; omega
      · go_wp2_with fail
        go_round
        case rel => exact ⟨i + 1, by rw [HSC.out]; rfl, by go_num, by omega⟩
        case measure => simp [intOf]; omega
    · obtain rfl : i = L.length := by omega
      rw [hasZ_all HM.out]
      clear HC
      go_wp2_with fail
      have b35d := bthen b35 (Below.refl w5.heap.size w5).drew
      have hZB : w2.heap.size < w5.heap.size := by omega
      have Y4 := Lib.hid y4
      clear y4 hp1 n1 n2 m1 m2 r1 r2 c2 hlen b3 b4 b5 b34 z3 s4 HM hLm
      have hst : w5.drew.cell? ⟨w2.heap.size, 0, none⟩ = some (iv off) ∧ w5.drew.cell? ⟨w2.heap.size, 1, none⟩ = some (.slice pz sh.length cz) ∧ Below w5.heap.size w5 w5.drew := ⟨c0, c1, (Below.refl _ _).drew⟩
      have e1 : IntKind.i64.wrap D = D := w64 (by omega) (by omega)
      go_region_held3 (fun w' => w'.cell? ⟨w2.heap.size, 0, none⟩ = some (iv off) ∧ w'.cell? ⟨w2.heap.size, 1, none⟩ = some (.slice pz sh.length cz) ∧ Below w5.heap.size w5 w') (first | assumption | exact hst | exact keepV (by assumption) hZB (Nat.le_refl _) b6 | fail)
        (first | (go_at_call 15; (with_reducible refine Calls.mono (hp2 _) ?_); rintro e w' ⟨rfl, rfl⟩) | (go_at_call 15; (with_reducible refine Calls.mono (hp3 _) ?_); rintro e w' ⟨rfl, rfl⟩) | (go_at_call 19; (with_reducible refine Calls.mono (y3 _ b35d) ?_); rintro e w6 ⟨v6, rfl, o6, b6⟩))
      have b56 : Below w5.heap.size w5 w6 := (Below.refl _ _).drew.trans b6
      have s6 := b56.size
      have b26 := bthen b35 b56
      have kz := kz.below b56 hZB
      obtain ⟨pm, cm, rfl, hMm, hcm⟩ := ints_at o6
      have HCM := Lib.hid hcm
      have hZ6 : w2.heap.size < w6.heap.size := by omega
      obtain ⟨Z, hZe⟩ : ∃ Z, w2.heap.size = Z := ⟨_, rfl⟩
      have Y4' : Hid (∀ (x : Int) (W : World), Below Z w2 W → Calls Try.prog 11 #[.agg #[iv off, .slice pz sh.length cz], .int .i64 x] W fun e w' => e = .returned (.tuple #[iv (localZ off sh x).1, iv (localZ off sh x).2]) ∧ Below W.heap.size W w') := by rw [← hZe]; exact Y4
      have b26' : Below Z w2 w6 := hZe ▸ b26
      have hbF : Below w.heap.size w w6 := bthen b12 b26
      rw [hZe] at kz hZ6 ⊢
      clear hcm o6 b6 y3 hst b35d Y4 b35 b56 c0 c1 hZB b26 hZe s5 s6
      go_wp2_with fail
      go_loopw [20] (fun i wr => ∃ j : Nat, i = .int .i64 j ∧ j ≤ M.length ∧ Below w6.heap.size w6 wr) (fun i _ => M.length - (intOf i).toNat)
      case atStart => exact ⟨0, rfl, Nat.zero_le _, Below.refl _ _⟩
      case round =>
        obtain ⟨j, rfl, hj, hB⟩ := hrel
        have hsr := hB.size
        by_cases hlt : j < M.length
        · obtain ⟨g, rfl, hg, hc⟩ := HCM.out j hlt
          obtain ⟨x0, x1, x2⟩ := HA.out _ (getD_mem hlt)
          have hy := fun W (h : Below Z w2 W) => Y4'.out (M.getD j 0) W h
          rw [x2] at hy
          have hcx := (hB.cell (p := ⟨g, j, none⟩) hg).trans hc
          have hprev : ∀ i, j = i + 1 → w6.cell? ⟨g, i, none⟩ = some (iv (M.getD i 0)) ∧ M.getD i 0 < M.getD j 0 := fun i hi => by
            subst hi
            obtain ⟨g', e, _, h2⟩ := HCM.out i (by omega)
            simp only [Option.some.injEq, Addr.mk.injEq, and_true] at e
            subst e
            exact ⟨h2, pair_lt HP.out hlt⟩
          obtain ⟨x, hx⟩ : ∃ x, M.getD j 0 = x := ⟨_, rfl⟩
          rw [hx] at hy hcx hprev
          have kzr := kz.below hB hZ6
          have d0 := kzr.cell (i := 0) rfl
          have d1 := kzr.cell (i := 1) rfl
          have hZr : Z < wr.heap.size := by omega
          have hgr : g < wr.heap.size := by omega
          have hst : wr.drew.cell? ⟨Z, 0, none⟩ = some (iv off) ∧ wr.drew.cell? ⟨Z, 1, none⟩ = some (.slice pz sh.length cz) ∧ wr.drew.cell? ⟨g, j, none⟩ = some (iv x) ∧ Below wr.heap.size wr wr.drew := ⟨d0, d1, hcx, (Below.refl _ _).drew⟩
          have hbd : Below Z w2 wr.drew := (b26'.trans (hB.mono (by omega))).drew
          have HPV := Lib.hid hprev
          clear hprev hx hc x2
          have i1 : (0 : Int) ≤ (j : Int) := by omega
          have i2 : (j : Int) < (M.length : Int) := by omega
          have hym := hy _ hbd
          clear hy HA HP
          go_wp2_with fail
          go_region_held3 (fun w' => w'.cell? ⟨Z, 0, none⟩ = some (iv off) ∧ w'.cell? ⟨Z, 1, none⟩ = some (.slice pz sh.length cz) ∧ w'.cell? ⟨g, j, none⟩ = some (iv x) ∧ Below wr.heap.size wr w') (first | assumption | exact hst | exact keepZ (by assumption) hZr hgr (Nat.le_refl _) b7 | fail)
            (first | (go_at_call 11; (with_reducible refine Calls.mono hym ?_); rintro e w7 ⟨rfl, b7⟩))
          have b7' : Below wr.heap.size wr w7 := (Below.refl _ _).drew.trans b7
          have hcx7 := (b7'.cell (p := ⟨g, j, none⟩) hgr).trans hcx
          have hs7 := b7'.size
          have hB7 := hB.trans (b7'.mono hsr)
          clear hst hym hbd d0 d1 hcx b7 b7' kzr
          have e2 : (D != D) = false := by simp
          have e3' : (k != k) = false := by simp
          cases j with
          | zero =>
            have t0 : decide ((0 : Int) < ((0 : Nat) : Int)) = false := by simp
            go_wp2_with fail
            go_quiet ((first | (go_at_call 15; with_reducible exact Calls.quiet_of_same (pquiet (hp2 _))) | (go_at_call 15; with_reducible exact Calls.quiet_of_same (pquiet (hp3 _)))))
            go_wp2_with fail
            go_roundw
            case rel => exact ⟨0 + 1, by go_num, by omega, below_drewN hB7 nq⟩
            case measure => simp [intOf]; omega
          | succ j =>
            obtain ⟨cp, hlp⟩ := HPV.out j rfl
            have cp7 := (hB7.cell (p := ⟨g, j, none⟩) hg).trans cp
            obtain ⟨y, hy⟩ : ∃ y, M.getD j 0 = y := ⟨_, rfl⟩
            rw [hy] at cp7 hlp
            have t0 : decide ((0 : Int) < ((j + 1 : Nat) : Int)) = true := by rw [decide_eq_true_eq]; omega
            have t1 : decide (x ≤ y) = false := by simp; omega
            have t2 : ((j + 1 : Nat) : Int) - 1 = (j : Int) := by omega
            have t3 : IntKind.i64.wrap (((j + 1 : Nat) : Int) - 1) = (j : Int) := by rw [t2]; exact w64 (by omega) (by omega)
            have t4 : (0 : Int) ≤ (j : Int) := by omega
            have t5 : (j : Int) < (M.length : Int) := by omega
            have t6 : ((j + 1 : Nat) : Int) < (M.length : Int) := by omega
            have t7 : IntKind.i64.wrap (j : Int) = (j : Int) := w64 (by omega) (by omega)
            have t8 : ((j : Int) + 1) < (M.length : Int) := by omega
            have t9 : (0 : Int) < ((j : Int) + 1) := by omega
            have t10 : (j : Int) + 1 - 1 = (j : Int) := by omega
            clear cp HPV hy
            go_wp2_with fail
            go_quiet ((first | (go_at_call 15; with_reducible exact Calls.quiet_of_same (pquiet (hp2 _))) | (go_at_call 15; with_reducible exact Calls.quiet_of_same (pquiet (hp3 _)))))
            go_wp2_with fail
            go_roundw
            case rel => exact ⟨j + 1 + 1, by go_num, by omega, below_drewN hB7 nq⟩
            case measure => simp [intOf]; omega
        · obtain rfl : j = M.length := by omega
          go_wp2_with fail
          go_ret
          exact ⟨rfl, bthen hbF hB⟩
end Go.Proofs.Ytejohdmbnnlhjaa

/- The reference implementation's SHA-256: a block. -/
import Derived.Test.YtfgojhhphknjkaaDoorDigRefA
import Derived.Test.YtfgojhhphknjkaaDoorDigRefC
import Derived.Test.YtfgojhhphknjkaaDoorDigMixM
import Derived.StillTailTactics
namespace Go.Proofs.YtfgojhhphknjkaaDoor
open Go.RowKit

theorem infoU32 : (Tryd.prog.info? 54).map (fun i => (i.zero, i.size, i.bytes)) = some (some (.int .u32 0), 1, 4) := by kernel_rfl
/-- Numbers lie at a place. -/
def NumsAt (k : IntKind) (w : World) (b o : Nat) (l : List Nat) : Prop := ∀ i, i < l.length → w.cell? ⟨b, o + i, none⟩ = some (.int k (l.getD i 0 : Nat))
theorem NumsAt.below {k : IntKind} {n : Nat} {w w' : World} {b o : Nat} {l : List Nat} (h : NumsAt k w b o l) (hb : Below n w w') (hn : b < n) : NumsAt k w' b o l := fun i hi => (hb.cell (p := ⟨b, o + i, none⟩) hn).trans (h i hi)

theorem plus_get (s r : St) : ∀ j, j < 8 → (s.plus r).list.getD j 0 = (s.list.getD j 0 + r.list.getD j 0) % 4294967296
  | 0, _ => rfl | 1, _ => rfl | 2, _ => rfl | 3, _ => rfl | 4, _ => rfl | 5, _ => rfl | 6, _ => rfl | 7, _ => rfl
  | n + 8, h => by omega
theorem St.list_lt {s : St} (h : s.lt) : ∀ x ∈ s.list, x < 4294967296 := by
  obtain ⟨h1, h2, h3, h4, h5, h6, h7, h8⟩ := h
  intro x hx
  simp only [St.list, List.mem_cons, List.not_mem_nil, or_false] at hx
  rcases hx with h | h | h | h | h | h | h | h <;> omega
theorem own_base' {W : World} {base base' : Nat} {e : TypeId} {size : Nat} {v : Value} {n : Nat} {xs : List Value} (h : W.ownsRow base e size v n xs) (hb : base' ≤ base) : W.ownsRow base' e size v n xs := by
  obtain ⟨h1, h2⟩ := h
  refine ⟨h1, ?_⟩
  rcases h2 with h2 | ⟨g, cap, cur, e1, e2, e3⟩
  · exact .inl h2
  · exact .inr ⟨g, cap, cur, e1, Nat.le_trans hb e2, e3⟩
theorem bAlloc {w W : World} (h : Below w.heap.size w W) (o : Obj) : Below w.heap.size w (W.alloc o) := h.alloc h.size o
theorem bDrewN {B : Nat} {a w : World} (h : Below B a w) (n : Nat) : Below B a (w.drewN n) := ⟨h.os, h.tape, h.output, h.size, h.block⟩
theorem bthen' {a b c : World} (h : Below a.heap.size a b) (k : Below b.heap.size b c) : Below a.heap.size a c := h.trans (k.mono h.size)
theorem bGrow {w W W' : World} {e : TypeId} {size : Nat} {v : Value} {n : Nat} {xs : List Value} (h : Below w.heap.size w W) (hg : W.grownBy W' v.ownBlock) (own : W.ownsRow w.heap.size e size v n xs) : Below w.heap.size w W' := h.grown hg h.size (own_le own)

set_option maxRecDepth 100000 in
set_option maxHeartbeats 4000000 in
theorem rblock_any (st : St) (gh ch : Nat) (bl : List Nat) (gb ob cb : Nat) (w : World) (hst : ∀ x ∈ st.list, x < 4294967296) (hbl : ∀ x ∈ bl, x < 256) (hlen : bl.length = 64) (hcb : 64 ≤ cb) (hch : 8 ≤ ch)
    (hH : NumsAt .u32 w gh 0 st.list) (hB : NumsAt .u8 w gb ob bl) (hgh : gh < w.heap.size) (hgb : gb < w.heap.size) :
    Calls Tryd.prog 46 #[.slice (some ⟨gh, 0, none⟩) 8 ch, .slice (some ⟨gb, ob, none⟩) 64 cb] w fun e w' => (∃ v, e = .returned v ∧ w'.ownsRow w.heap.size 54 1 v 8 (u32s (mix st bl).list)) ∧ Below w.heap.size w w' := by
  obtain ⟨i0, hi, hz0, hz1, hz2⟩ := info_parts infoU32
  have HBL := Lib.hid hbl
  have HB8 := Lib.hid hB
  have HHH := Lib.hid hH
  have HST := Lib.hid hst
  clear hbl hB hH hst
  obtain ⟨PL, hPL0⟩ : ∃ PL, (mix st bl).list = PL := ⟨_, rfl⟩
  rw [hPL0]
  have HPL0 := Lib.hid hPL0
  clear hPL0
  go_enter Tryd.func46, Tryd.ntmps46
  go_wp2_with fail
  go_loopw [5, 6] (fun v i wr => ∃ (k : Nat) (vv : Value), vv = v ∧ i = .int .i64 k ∧ k ≤ 16 ∧ wr.ownsRow w.heap.size 54 1 vv k (u32s (wordsR bl k).reverse) ∧ Below w.heap.size w wr) (fun _ i _ => 16 - (intOf i).toNat)
  case atStart => exact ⟨0, _, rfl, rfl, Nat.zero_le _, World.ownsRow_nil _ _ _ _, Below.refl _ _⟩
  case round =>
    obtain ⟨k, vv, hvv, rfl, hk, own, hb⟩ := hrel
    subst hvv
    have hszr := hb.size
    by_cases hlt : k < 16
    · obtain ⟨m, hm, hm1⟩ : ∃ m : Nat, m = 4 * k ∧ m ≤ 60 := ⟨_, rfl, by omega⟩
      have HW : Hid (wordAt bl k = bl.getD m 0 * 16777216 ||| bl.getD (m + 1) 0 * 65536 ||| bl.getD (m + 2) 0 * 256 ||| bl.getD (m + 3) 0) := Lib.hid (by rw [hm]; rfl)
      have l0 := getD_lt HBL.out (by decide) m
      have l1 := getD_lt HBL.out (by decide) (m + 1)
      have l2 := getD_lt HBL.out (by decide) (m + 2)
      have l3 := getD_lt HBL.out (by decide) (m + 3)
      have hS : ∀ W, Below w.heap.size w W → _ := fun W h => And.intro ((HB8.out.below h hgb) m (by omega)) (And.intro ((HB8.out.below h hgb) (m + 1) (by omega)) (And.intro ((HB8.out.below h hgb) (m + 2) (by omega)) (And.intro ((HB8.out.below h hgb) (m + 3) (by omega)) h)))
      generalize bl.getD m 0 = y0 at *
      generalize bl.getD (m + 1) 0 = y1 at *
      generalize bl.getD (m + 2) 0 = y2 at *
      generalize bl.getD (m + 3) 0 = y3 at *
      have hSa : ∀ (W : World) (o : Obj), (W.cell? ⟨gb, ob + m, none⟩ = some (.int .u8 (y0 : Nat)) ∧ W.cell? ⟨gb, ob + (m + 1), none⟩ = some (.int .u8 (y1 : Nat)) ∧ W.cell? ⟨gb, ob + (m + 2), none⟩ = some (.int .u8 (y2 : Nat)) ∧ W.cell? ⟨gb, ob + (m + 3), none⟩ = some (.int .u8 (y3 : Nat)) ∧ Below w.heap.size w W) → ((W.alloc o).cell? ⟨gb, ob + m, none⟩ = some (.int .u8 (y0 : Nat)) ∧ (W.alloc o).cell? ⟨gb, ob + (m + 1), none⟩ = some (.int .u8 (y1 : Nat)) ∧ (W.alloc o).cell? ⟨gb, ob + (m + 2), none⟩ = some (.int .u8 (y2 : Nat)) ∧ (W.alloc o).cell? ⟨gb, ob + (m + 3), none⟩ = some (.int .u8 (y3 : Nat)) ∧ Below w.heap.size w (W.alloc o)) := fun W o h => hS _ (bAlloc h.2.2.2.2 o)
      have hSg : ∀ (W W' : World) (v : Value) (n : Nat) (xs : List Value), (W.cell? ⟨gb, ob + m, none⟩ = some (.int .u8 (y0 : Nat)) ∧ W.cell? ⟨gb, ob + (m + 1), none⟩ = some (.int .u8 (y1 : Nat)) ∧ W.cell? ⟨gb, ob + (m + 2), none⟩ = some (.int .u8 (y2 : Nat)) ∧ W.cell? ⟨gb, ob + (m + 3), none⟩ = some (.int .u8 (y3 : Nat)) ∧ Below w.heap.size w W) → W.grownBy W' v.ownBlock → W.ownsRow w.heap.size 54 1 v n xs → (W'.cell? ⟨gb, ob + m, none⟩ = some (.int .u8 (y0 : Nat)) ∧ W'.cell? ⟨gb, ob + (m + 1), none⟩ = some (.int .u8 (y1 : Nat)) ∧ W'.cell? ⟨gb, ob + (m + 2), none⟩ = some (.int .u8 (y2 : Nat)) ∧ W'.cell? ⟨gb, ob + (m + 3), none⟩ = some (.int .u8 (y3 : Nat)) ∧ Below w.heap.size w W') := fun W W' v n xs h hg ho => hS _ (bGrow h.2.2.2.2 hg ho)
      have hS0 : wr.drew.cell? ⟨gb, ob + m, none⟩ = some (.int .u8 (y0 : Nat)) ∧ wr.drew.cell? ⟨gb, ob + (m + 1), none⟩ = some (.int .u8 (y1 : Nat)) ∧ wr.drew.cell? ⟨gb, ob + (m + 2), none⟩ = some (.int .u8 (y2 : Nat)) ∧ wr.drew.cell? ⟨gb, ob + (m + 3), none⟩ = some (.int .u8 (y3 : Nat)) ∧ Below w.heap.size w wr.drew := hS _ hb.drew
      have HA := Lib.hid hSa
      have HG := Lib.hid hSg
      have s0 : IntKind.u32.wrap ((y0 : Int) * 16777216) = (y0 : Int) * 16777216 := by rw [IntKind.wrap_u32]; omega
      have s1 : IntKind.u32.wrap ((y1 : Int) * 65536) = (y1 : Int) * 65536 := by rw [IntKind.wrap_u32]; omega
      have s2 : IntKind.u32.wrap ((y2 : Int) * 256) = (y2 : Int) * 256 := by rw [IntKind.wrap_u32]; omega
      have o1 : bits .or .u32 ((y0 : Int) * 16777216) ((y1 : Int) * 65536) = _ := or_nat (x := y0 * 16777216) (y := y1 * 65536) (by omega) (by omega) rfl
      have b1 : (y0 * 16777216 ||| y1 * 65536) < 4294967296 := Nat.or_lt_two_pow (n := 32) (by omega) (by omega)
      generalize (y0 * 16777216 ||| y1 * 65536) = z1 at *
      have o2 : bits .or .u32 (z1 : Int) ((y2 : Int) * 256) = _ := or_nat (x := z1) (y := y2 * 256) (by omega) (by omega) rfl
      have b2 : (z1 ||| y2 * 256) < 4294967296 := Nat.or_lt_two_pow (n := 32) (by omega) (by omega)
      generalize (z1 ||| y2 * 256) = z2 at *
      have o3 := or_nat (x := z2) (y := y3) (by omega) (by omega) rfl
      generalize (z2 ||| y3) = z3 at *
      have c0 : IntKind.u32.wrap (y0 : Int) = (y0 : Int) := by rw [IntKind.wrap_u32]; omega
      have c1 : IntKind.u32.wrap (y1 : Int) = (y1 : Int) := by rw [IntKind.wrap_u32]; omega
      have c2 : IntKind.u32.wrap (y2 : Int) = (y2 : Int) := by rw [IntKind.wrap_u32]; omega
      have c3 : IntKind.u32.wrap (y3 : Int) = (y3 : Int) := by rw [IntKind.wrap_u32]; omega
      have e0 : 4 * (k : Int) = (m : Int) := by omega
      have e4 : IntKind.i64.wrap (m : Int) = (m : Int) := by simp [IntKind.wrap, IntKind.bits, IntKind.signed]; omega
      have e5 : IntKind.i64.wrap ((m : Int) + 1) = ((m + 1 : Nat) : Int) := by simp [IntKind.wrap, IntKind.bits, IntKind.signed]; omega
      have e6 : IntKind.i64.wrap ((m : Int) + 2) = ((m + 2 : Nat) : Int) := by simp [IntKind.wrap, IntKind.bits, IntKind.signed]; omega
      have e7 : IntKind.i64.wrap ((m : Int) + 3) = ((m + 3 : Nat) : Int) := by simp [IntKind.wrap, IntKind.bits, IntKind.signed]; omega
      have i0' : (0 : Int) ≤ (m : Int) := by omega
      have i1 : (m : Int) < 64 := by omega
      have i2 : (0 : Int) ≤ (m : Int) + 1 := by omega
      have i3 : (m : Int) + 1 < 64 := by omega
      have i4 : (0 : Int) ≤ (m : Int) + 2 := by omega
      have i5 : (m : Int) + 2 < 64 := by omega
      have i6 : (0 : Int) ≤ (m : Int) + 3 := by omega
      have i7 : (m : Int) + 3 < 64 := by omega
      have t1 : ((m : Int) + 1).toNat = m + 1 := by omega
      have t2 : ((m : Int) + 2).toNat = m + 2 := by omega
      have t3 : ((m : Int) + 3).toNat = m + 3 := by omega
      have hl16 := hlt
      have HM := Lib.hid hm
      clear hS hSa hSg hm
      go_wp2_with fail
      go_region_held3 (fun W => W.cell? ⟨gb, ob + m, none⟩ = some (.int .u8 (y0 : Nat)) ∧ W.cell? ⟨gb, ob + (m + 1), none⟩ = some (.int .u8 (y1 : Nat)) ∧ W.cell? ⟨gb, ob + (m + 2), none⟩ = some (.int .u8 (y2 : Nat)) ∧ W.cell? ⟨gb, ob + (m + 3), none⟩ = some (.int .u8 (y3 : Nat)) ∧ Below w.heap.size w W) (first | assumption | exact hS0 | exact HA.out _ _ (by assumption) | exact HG.out _ _ _ _ _ (by assumption) hgrow9 (own.drew.alloc _) | fail)
        (first | go_loud (refine step_append_lies _ (by rfl) _ _ 55 (by rfl) w.heap.size 54 i0 (.int .u32 0) 1 4 Tryd.underlying55 hi hz0 hz1 hz2 rfl (by omega) _ k (u32s (wordsR bl k).reverse) (by rfl) (own.drew.alloc _) ⟨wr.heap.size, 0, none⟩ 1 1 [.int .u32 (z3 : Int)] (by rfl) (by rfl) (cell_one_new _ _ _) (by simp [Value.oneCell']) (by omega) (by unfold maxLen; omega) (by omega) (by simp; omega) (wr.heap.size + 1) (by simp) ?_; intro gg cap9 w9 hown9 hgrow9 hat9 hlt9) | fail)
      all_goals
        rename_i hHeld
        have hb9 := hHeld.2.2.2.2
        go_wp2_with fail
        go_roundw
        case rel =>
          refine ⟨k + 1, _, rfl, by go_num, by omega, ?_, hb9⟩
          rw [show (wordsR bl (k + 1)).reverse = (wordsR bl k).reverse ++ [z3] by rw [← HW.out, wordsR]; simp [hl16]]
          simpa [u32s] using hown9
        case measure => simp [intOf] <;> omega
    · have e16 : k = 16 := by omega
      rw [e16] at own
      clear e16 hk
      obtain ⟨k0, rfl⟩ : ∃ k0, k0 = k := ⟨_, rfl⟩
      go_wp2_with fail
      go_loopw [5, 7] (fun v i wr => ∃ (k : Nat) (vv : Value), vv = v ∧ i = .int .i64 k ∧ 16 ≤ k ∧ k ≤ 64 ∧ wr.ownsRow w.heap.size 54 1 vv k (u32s (wordsR bl k).reverse) ∧ Below w.heap.size w wr) (fun _ i _ => 64 - (intOf i).toNat)
      case atStart => exact ⟨16, _, rfl, rfl, by omega, by omega, own, hb⟩
      case round =>
        clear own hb hszr
        obtain ⟨k, vv, hvv, rfl, hk', hk2, own, hb⟩ := hrel
        subst hvv
        have hszr := hb.size
        by_cases hlt : k < 64
        · obtain ⟨g, cap, rfl⟩ : ∃ g cap, vv = .slice (some ⟨g, 0, none⟩) k cap := by
            rcases own.2 with ⟨rfl, h0⟩ | ⟨g, cap, cur, rfl, _⟩
            · omega
            · exact ⟨g, cap, rfl⟩
          have gc := fun (j : Nat) (hj : j < k) => (own.cellAt (j := j) (by omega)).trans (u32s_get (l := (wordsR bl k).reverse) (by simp [wordsR_len]; omega))
          have e := fun (j : Nat) (hj : j < k) => show ((wordsR bl k).reverse).getD j 0 = (wordsR bl k).getD (k - 1 - j) 0 by
            rw [List.getD_eq_getElem?_getD, List.getElem?_reverse (by simpa [wordsR_len] using hj), wordsR_len, ← List.getD_eq_getElem?_getD]
          obtain ⟨ka, hka⟩ : ∃ ka, k - 15 = ka := ⟨_, rfl⟩
          obtain ⟨kb, hkb⟩ : ∃ kb, k - 2 = kb := ⟨_, rfl⟩
          obtain ⟨kc, hkc⟩ : ∃ kc, k - 16 = kc := ⟨_, rfl⟩
          obtain ⟨kd, hkd⟩ : ∃ kd, k - 7 = kd := ⟨_, rfl⟩
          have x1 := gc ka (by omega)
          have x2 := gc kb (by omega)
          have x3 := gc kc (by omega)
          have x4 := gc kd (by omega)
          rw [e _ (by omega), show k - 1 - ka = 14 by omega] at x1
          rw [e _ (by omega), show k - 1 - kb = 1 by omega] at x2
          rw [e _ (by omega), show k - 1 - kc = 15 by omega] at x3
          rw [e _ (by omega), show k - 1 - kd = 6 by omega] at x4
          clear gc e
          have l := fun i => getD_lt (wordsR_lt HBL.out k) (by decide) i
          have l1 := l 14
          have l2 := l 1
          have l3 := l 15
          have l4 := l 6
          clear l
          have HW : Hid (nextW (wordsR bl k) = ((((wordsR bl k).getD 15 0 + sg0 ((wordsR bl k).getD 14 0)) % 4294967296 + (wordsR bl k).getD 6 0) % 4294967296 + sg1 ((wordsR bl k).getD 1 0)) % 4294967296) := Lib.hid rfl
          generalize (wordsR bl k).getD 14 0 = p at *
          generalize (wordsR bl k).getD 1 0 = q at *
          generalize (wordsR bl k).getD 15 0 = c at *
          generalize (wordsR bl k).getD 6 0 = d at *
          obtain ⟨s, hs, hs1, Hs⟩ : ∃ s : Nat, bits .xor .u32 (bits .xor .u32 (rotr p 7 : Nat) (rotr p 18 : Nat)) ((p : Int) / 8) = (s : Int) ∧ s < 4294967296 ∧ Hid (s = sg0 p) := by
            refine ⟨sg0 p, ?_, Nat.xor_lt_two_pow (n := 32) (Nat.xor_lt_two_pow (n := 32) (rotr_lt l1) (rotr_lt l1)) (by omega), Lib.hid rfl⟩
            rw [xor_nat (rotr_lt l1) (rotr_lt l1) rfl, show (p : Int) / 8 = ((p / 8 : Nat) : Int) by omega]
            exact xor_nat (Nat.xor_lt_two_pow (n := 32) (rotr_lt l1) (rotr_lt l1)) (by omega) rfl
          obtain ⟨t, ht, ht1, Ht⟩ : ∃ s : Nat, bits .xor .u32 (bits .xor .u32 (rotr q 17 : Nat) (rotr q 19 : Nat)) ((q : Int) / 1024) = (s : Int) ∧ s < 4294967296 ∧ Hid (s = sg1 q) := by
            refine ⟨sg1 q, ?_, Nat.xor_lt_two_pow (n := 32) (Nat.xor_lt_two_pow (n := 32) (rotr_lt l2) (rotr_lt l2)) (by omega), Lib.hid rfl⟩
            rw [xor_nat (rotr_lt l2) (rotr_lt l2) rfl, show (q : Int) / 1024 = ((q / 1024 : Nat) : Int) by omega]
            exact xor_nat (Nat.xor_lt_two_pow (n := 32) (rotr_lt l2) (rotr_lt l2)) (by omega) rfl
          rw [← Hs.out, ← Ht.out] at HW
          have T1 := fun W => rrot_any p 7 l1 (by omega) (by omega) W
          have T2 := fun W => rrot_any p 18 l1 (by omega) (by omega) W
          have T3 := fun W => rrot_any q 17 l2 (by omega) (by omega) W
          have T4 := fun W => rrot_any q 19 l2 (by omega) (by omega) W
          have m1 : IntKind.i64.wrap ((k : Int) - 15) = (ka : Int) := by simp [IntKind.wrap, IntKind.bits, IntKind.signed]; omega
          have m2 : IntKind.i64.wrap ((k : Int) - 2) = (kb : Int) := by simp [IntKind.wrap, IntKind.bits, IntKind.signed]; omega
          have m3 : IntKind.i64.wrap ((k : Int) - 16) = (kc : Int) := by simp [IntKind.wrap, IntKind.bits, IntKind.signed]; omega
          have m4 : IntKind.i64.wrap ((k : Int) - 7) = (kd : Int) := by simp [IntKind.wrap, IntKind.bits, IntKind.signed]; omega
          have i1 : (0 : Int) ≤ (ka : Int) := by omega
          have i2 : (ka : Int) < (k : Int) := by omega
          have i3 : (0 : Int) ≤ (kb : Int) := by omega
          have i4 : (kb : Int) < (k : Int) := by omega
          have i5 : (0 : Int) ≤ (kc : Int) := by omega
          have i6 : (kc : Int) < (k : Int) := by omega
          have i7 : (0 : Int) ≤ (kd : Int) := by omega
          have i8 : (kd : Int) < (k : Int) := by omega
          have i9 : (k : Int) < 64 := by omega
          clear hka hkb hkc hkd
          go_wp2_with fail
          go_quiet ((first | (go_at_call 54; with_reducible exact Calls.quiet_of (T1 _)) | (go_at_call 54; with_reducible exact Calls.quiet_of (T2 _))))
          obtain ⟨wq, hwq⟩ : ∃ wq, wr.drewN nq = wq := ⟨_, rfl⟩
          have x2 : wq.cell? ⟨g, kb, none⟩ = some (.int .u32 (q : Nat)) := by rw [← hwq]; exact x2
          have x3 : wq.cell? ⟨g, kc, none⟩ = some (.int .u32 (c : Nat)) := by rw [← hwq]; exact x3
          have x4 : wq.cell? ⟨g, kd, none⟩ = some (.int .u32 (d : Nat)) := by rw [← hwq]; exact x4
          have own : wq.ownsRow w.heap.size 54 1 (.slice (some ⟨g, 0, none⟩) k cap) k (u32s (wordsR bl k).reverse) := by rw [← hwq]; exact own
          have hb : Below w.heap.size w wq := by rw [← hwq]; exact bDrewN hb nq
          rw [hwq]; clear hwq
          go_wp2_with fail
          go_quiet ((first | (go_at_call 54; with_reducible exact Calls.quiet_of (T3 _)) | (go_at_call 54; with_reducible exact Calls.quiet_of (T4 _))))
          obtain ⟨wp, hwp⟩ : ∃ wp, wq.drewN nq = wp := ⟨_, rfl⟩
          have x3 : wp.cell? ⟨g, kc, none⟩ = some (.int .u32 (c : Nat)) := by rw [← hwp]; exact x3
          have x4 : wp.cell? ⟨g, kd, none⟩ = some (.int .u32 (d : Nat)) := by rw [← hwp]; exact x4
          have own : wp.ownsRow w.heap.size 54 1 (.slice (some ⟨g, 0, none⟩) k cap) k (u32s (wordsR bl k).reverse) := by rw [← hwp]; exact own
          have hb : Below w.heap.size w wp := by rw [← hwp]; exact bDrewN hb nq
          rw [hwp]; clear hwp
          clear x1 x2 T1 T2 T3 T4
          obtain ⟨q1, hq1⟩ : ∃ q1 : Nat, (c + s) % 4294967296 = q1 := ⟨_, rfl⟩
          obtain ⟨q2, hq2⟩ : ∃ q2 : Nat, (q1 + d) % 4294967296 = q2 := ⟨_, rfl⟩
          obtain ⟨q3, hq3⟩ : ∃ q3 : Nat, (q2 + t) % 4294967296 = q3 := ⟨_, rfl⟩
          have r1 : IntKind.u32.wrap ((c : Int) + (s : Int)) = (q1 : Int) := by rw [IntKind.wrap_u32]; omega
          have r2 : IntKind.u32.wrap ((q1 : Int) + (d : Int)) = (q2 : Int) := by rw [IntKind.wrap_u32]; omega
          have r3 : IntKind.u32.wrap ((q2 : Int) + (t : Int)) = (q3 : Int) := by rw [IntKind.wrap_u32]; omega
          have HQ : Hid (nextW (wordsR bl k) = q3) := Lib.hid (by rw [HW.out, hq1, hq2, hq3])
          have hszp := hb.size
          clear hq1 hq2 hq3 hs ht
          go_wp2_with fail
          refine wp_region_held_drew (S := fun W => Below w.heap.size w W) (by kernel_rfl) hb.drew (fun hHeld => ?_)
          refine wpAnyH_take (i := 0) (v := ?_) (by simp only [List.getElem?_toArray, List.getElem?_cons_zero, List.getElem?_cons_succ]; rfl) (by kernel_rfl) (by kernel_rfl) (by kernel_rfl) (by intro _ _ _ h; exact h) (Or.inl ⟨by rfl, ?_⟩) (by assumption) ?_
          rotate_left 1
          · (intro w' hSw; (try dsimp only at hSw); go_simp; (try (with_reducible rfl)))
          try simp only [Act.put, List.setIfInBounds_toArray, List.set_cons_zero, List.set_cons_succ]
          refine wpAnyH_take (i := 1) (v := ?_) (by simp only [List.getElem?_toArray, List.getElem?_cons_zero, List.getElem?_cons_succ]; rfl) (by kernel_rfl) (by kernel_rfl) (by kernel_rfl) (by intro _ _ _ h; exact h) (Or.inl ⟨by rfl, ?_⟩) (by assumption) ?_
          rotate_left 1
          · (intro w' hSw; (try dsimp only at hSw); go_simp; (try (with_reducible rfl)))
          try simp only [Act.put, List.setIfInBounds_toArray, List.set_cons_zero, List.set_cons_succ]
          refine wpAnyH_take (i := 2) (v := ?_) (by simp only [List.getElem?_toArray, List.getElem?_cons_zero, List.getElem?_cons_succ]; rfl) (by kernel_rfl) (by kernel_rfl) (by kernel_rfl) (by intro _ _ _ h; exact h) (Or.inl ⟨by rfl, ?_⟩) (by assumption) ?_
          rotate_left 1
          · (intro w' hSw; (try dsimp only at hSw); go_simp; (try (with_reducible rfl)))
          try simp only [Act.put, List.setIfInBounds_toArray, List.set_cons_zero, List.set_cons_succ]
          refine wpAnyH_take (i := 3) (v := ?_) (by simp only [List.getElem?_toArray, List.getElem?_cons_zero, List.getElem?_cons_succ]; rfl) (by kernel_rfl) (by kernel_rfl) (by kernel_rfl) (by intro _ _ _ h; exact h) (Or.inl ⟨by rfl, ?_⟩) (by assumption) ?_
          rotate_left 1
          · (intro w' hSw; (try dsimp only at hSw); go_simp; (try (with_reducible rfl)))
          try simp only [Act.put, List.setIfInBounds_toArray, List.set_cons_zero, List.set_cons_succ]
          refine wpAnyH_take (i := 4) (v := ?_) (by simp only [List.getElem?_toArray, List.getElem?_cons_zero, List.getElem?_cons_succ]; rfl) (by kernel_rfl) (by kernel_rfl) (by kernel_rfl) (by intro _ _ _ h; exact h) (Or.inl ⟨by rfl, ?_⟩) (by assumption) ?_
          rotate_left 1
          · (intro w' hSw; (try dsimp only at hSw); go_simp; (try (with_reducible rfl)))
          try simp only [Act.put, List.setIfInBounds_toArray, List.set_cons_zero, List.set_cons_succ]
          refine wpAnyH_take (i := 6) (v := ?_) (by simp only [List.getElem?_toArray, List.getElem?_cons_zero, List.getElem?_cons_succ]; rfl) (by kernel_rfl) (by kernel_rfl) (by kernel_rfl) (by intro _ _ _ h; exact h) (Or.inl ⟨by rfl, ?_⟩) (by assumption) ?_
          rotate_left 1
          · (intro w' hSw; (try dsimp only at hSw); go_simp; (try (with_reducible rfl)))
          try simp only [Act.put, List.setIfInBounds_toArray, List.set_cons_zero, List.set_cons_succ]
          refine wpAnyH_take (i := 8) (v := ?_) (by simp only [List.getElem?_toArray, List.getElem?_cons_zero, List.getElem?_cons_succ]; rfl) (by kernel_rfl) (by kernel_rfl) (by kernel_rfl) (by intro _ _ _ h; exact h) (Or.inl ⟨by rfl, ?_⟩) (by assumption) ?_
          rotate_left 1
          · (intro w' hSw; (try dsimp only at hSw); go_simp; (try (with_reducible rfl)))
          try simp only [Act.put, List.setIfInBounds_toArray, List.set_cons_zero, List.set_cons_succ]
          refine wpAnyH_take (i := 9) (v := ?_) (by simp only [List.getElem?_toArray, List.getElem?_cons_zero, List.getElem?_cons_succ]; rfl) (by kernel_rfl) (by kernel_rfl) (by kernel_rfl) (by intro _ _ _ h; exact h) (Or.inl ⟨by rfl, ?_⟩) (by assumption) ?_
          rotate_left 1
          · (intro w' hSw; (try dsimp only at hSw); go_simp; (try (with_reducible rfl)))
          try simp only [Act.put, List.setIfInBounds_toArray, List.set_cons_zero, List.set_cons_succ]
          refine wpAnyH_take (i := 10) (v := ?_) (by simp only [List.getElem?_toArray, List.getElem?_cons_zero, List.getElem?_cons_succ]; rfl) (by kernel_rfl) (by kernel_rfl) (by kernel_rfl) (by intro _ _ _ h; exact h) (Or.inl ⟨by rfl, ?_⟩) (by assumption) ?_
          rotate_left 1
          · (intro w' hSw; (try dsimp only at hSw); go_simp; (try (with_reducible rfl)))
          try simp only [Act.put, List.setIfInBounds_toArray, List.set_cons_zero, List.set_cons_succ]
          refine wpAnyH_take (i := 11) (v := ?_) (by simp only [List.getElem?_toArray, List.getElem?_cons_zero, List.getElem?_cons_succ]; rfl) (by kernel_rfl) (by kernel_rfl) (by kernel_rfl) (by intro _ _ _ h; exact h) (Or.inl ⟨by rfl, ?_⟩) (by assumption) ?_
          rotate_left 1
          · (intro w' hSw; (try dsimp only at hSw); go_simp; (try (with_reducible rfl)))
          try simp only [Act.put, List.setIfInBounds_toArray, List.set_cons_zero, List.set_cons_succ]
          refine wpAnyH_take (i := 14) (v := ?_) (by simp only [List.getElem?_toArray, List.getElem?_cons_zero, List.getElem?_cons_succ]; rfl) (by kernel_rfl) (by kernel_rfl) (by kernel_rfl) (by intro _ _ _ h; exact h) (Or.inl ⟨by rfl, ?_⟩) (by assumption) ?_
          rotate_left 1
          · (intro w' hSw; (try dsimp only at hSw); go_simp; (try (with_reducible rfl)))
          try simp only [Act.put, List.setIfInBounds_toArray, List.set_cons_zero, List.set_cons_succ]
          refine wpAnyH_ready (rs := [5, 12]) (by kernel_rfl) (by simp) ?_
          refine AllReadyH.cons (by simp only [List.getElem?_toArray, List.getElem?_cons_zero, List.getElem?_cons_succ]; rfl) (fun K hK => ?_) ?_
          · go_simp
            refine hK.out _ _ hb.drew (fun hHeld => ?_)
            clear hK K
            try simp only [Act.put, List.setIfInBounds_toArray, List.set_cons_zero, List.set_cons_succ]
            refine wpAnyH_take (i := 7) (v := ?_) (by simp only [List.getElem?_toArray, List.getElem?_cons_zero, List.getElem?_cons_succ]; rfl) (by kernel_rfl) (by kernel_rfl) (by kernel_rfl) (by intro _ _ _ h; exact h) (Or.inl ⟨by rfl, ?_⟩) (by assumption) ?_
            rotate_left 1
            · (intro w' hSw; (try dsimp only at hSw); go_simp; (try (with_reducible rfl)))
            try simp only [Act.put, List.setIfInBounds_toArray, List.set_cons_zero, List.set_cons_succ]
            refine wpAnyH_ready (rs := [12]) (by kernel_rfl) (by simp) ?_
            refine AllReadyH.cons (by simp only [List.getElem?_toArray, List.getElem?_cons_zero, List.getElem?_cons_succ]; rfl) (fun K hK => ?_) AllReadyH.nil
            go_simp
            refine hK.out _ _ hb.drew (fun hHeld => ?_)
            clear hK K
            try simp only [Act.put, List.setIfInBounds_toArray, List.set_cons_zero, List.set_cons_succ]
            refine wpAnyH_take (i := 13) (v := ?_) (by simp only [List.getElem?_toArray, List.getElem?_cons_zero, List.getElem?_cons_succ]; rfl) (by kernel_rfl) (by kernel_rfl) (by kernel_rfl) (by intro _ _ _ h; exact h) (Or.inl ⟨by rfl, ?_⟩) (by assumption) ?_
            rotate_left 1
            · (intro w' hSw; (try dsimp only at hSw); go_simp; (try (with_reducible rfl)))
            try simp only [Act.put, List.setIfInBounds_toArray, List.set_cons_zero, List.set_cons_succ]
            refine wpAnyH_take (i := 15) (v := ?_) (by simp only [List.getElem?_toArray, List.getElem?_cons_zero, List.getElem?_cons_succ]; rfl) (by kernel_rfl) (by kernel_rfl) (by kernel_rfl) (by intro _ _ _ h; exact h) (Or.inl ⟨by rfl, ?_⟩) (by assumption) ?_
            rotate_left 1
            · (intro w' hSw; (try dsimp only at hSw); go_simp; (try (with_reducible rfl)))
            try simp only [Act.put, List.setIfInBounds_toArray, List.set_cons_zero, List.set_cons_succ]
            refine wpAnyH_ready (rs := [16]) (by kernel_rfl) (by simp) ?_
            refine AllReadyH.cons (by simp only [List.getElem?_toArray, List.getElem?_cons_zero, List.getElem?_cons_succ]; rfl) (fun K hK => ?_) AllReadyH.nil
            go_simp
            refine hK.out _ _ (bAlloc hb.drew _) (fun hHeld => ?_)
            clear hK K
            try simp only [Act.put, List.setIfInBounds_toArray, List.set_cons_zero, List.set_cons_succ]
            refine wpAnyH_ready (rs := [17]) (by kernel_rfl) (by simp) ?_
            refine AllReadyH.cons (by simp only [List.getElem?_toArray, List.getElem?_cons_zero, List.getElem?_cons_succ]; rfl) (fun K hK => ?_) AllReadyH.nil
            refine step_append_lies _ (by rfl) _ _ 55 (by rfl) w.heap.size 54 i0 (.int .u32 0) 1 4 Tryd.underlying55 hi hz0 hz1 hz2 rfl (by omega) _ k (u32s (wordsR bl k).reverse) (by rfl) (own.drew.alloc _) ⟨wp.heap.size, 0, none⟩ 1 1 [.int .u32 (q3 : Int)] (by rfl) (by rfl) (cell_one_new _ _ _) (by simp [Value.oneCell']) (by omega) (by unfold maxLen; omega) (by omega) (by simp; omega) (wp.heap.size + 1) (by simp) ?_; intro gg cap9 w9 hown9 hgrow9 hat9 hlt9
            refine hK.out _ _ (bGrow (bAlloc hb.drew _) hgrow9 (own.drew.alloc _)) (fun hHeld => ?_)
            clear hK K
            try simp only [Act.put, List.setIfInBounds_toArray, List.set_cons_zero, List.set_cons_succ]
            refine wpAnyH_take (i := 18) (v := ?_) (by simp only [List.getElem?_toArray, List.getElem?_cons_zero, List.getElem?_cons_succ]; rfl) (by kernel_rfl) (by kernel_rfl) (by kernel_rfl) (by intro _ _ _ h; exact h) (Or.inl ⟨by rfl, ?_⟩) (by assumption) ?_
            rotate_left 1
            · (intro w' hSw; (try dsimp only at hSw); go_simp; (try (with_reducible rfl)))
            try simp only [Act.put, List.setIfInBounds_toArray, List.set_cons_zero, List.set_cons_succ]
            refine wpAnyH_done (by kernel_rfl) ?_ _
            go_wp2_with fail
            go_roundw
            case rel =>
              refine ⟨k + 1, _, rfl, by go_num, by omega, by omega, ?_, hHeld⟩
              rw [show (wordsR bl (k + 1)).reverse = (wordsR bl k).reverse ++ [q3] by rw [← HQ.out, wordsR]; simp [show ¬ k < 16 by omega]]
              simpa [u32s] using hown9
            case measure => simp [intOf] <;> omega
          · refine AllReadyH.cons (by simp only [List.getElem?_toArray, List.getElem?_cons_zero, List.getElem?_cons_succ]; rfl) (fun K hK => ?_) AllReadyH.nil
            go_simp
            refine hK.out _ _ hb.drew (fun hHeld => ?_)
            clear hK K
            try simp only [Act.put, List.setIfInBounds_toArray, List.set_cons_zero, List.set_cons_succ]
            refine wpAnyH_ready (rs := [5]) (by kernel_rfl) (by simp) ?_
            refine AllReadyH.cons (by simp only [List.getElem?_toArray, List.getElem?_cons_zero, List.getElem?_cons_succ]; rfl) (fun K hK => ?_) AllReadyH.nil
            go_simp
            refine hK.out _ _ hb.drew (fun hHeld => ?_)
            clear hK K
            try simp only [Act.put, List.setIfInBounds_toArray, List.set_cons_zero, List.set_cons_succ]
            refine wpAnyH_take (i := 7) (v := ?_) (by simp only [List.getElem?_toArray, List.getElem?_cons_zero, List.getElem?_cons_succ]; rfl) (by kernel_rfl) (by kernel_rfl) (by kernel_rfl) (by intro _ _ _ h; exact h) (Or.inl ⟨by rfl, ?_⟩) (by assumption) ?_
            rotate_left 1
            · (intro w' hSw; (try dsimp only at hSw); go_simp; (try (with_reducible rfl)))
            try simp only [Act.put, List.setIfInBounds_toArray, List.set_cons_zero, List.set_cons_succ]
            refine wpAnyH_take (i := 13) (v := ?_) (by simp only [List.getElem?_toArray, List.getElem?_cons_zero, List.getElem?_cons_succ]; rfl) (by kernel_rfl) (by kernel_rfl) (by kernel_rfl) (by intro _ _ _ h; exact h) (Or.inl ⟨by rfl, ?_⟩) (by assumption) ?_
            rotate_left 1
            · (intro w' hSw; (try dsimp only at hSw); go_simp; (try (with_reducible rfl)))
            try simp only [Act.put, List.setIfInBounds_toArray, List.set_cons_zero, List.set_cons_succ]
            refine wpAnyH_take (i := 15) (v := ?_) (by simp only [List.getElem?_toArray, List.getElem?_cons_zero, List.getElem?_cons_succ]; rfl) (by kernel_rfl) (by kernel_rfl) (by kernel_rfl) (by intro _ _ _ h; exact h) (Or.inl ⟨by rfl, ?_⟩) (by assumption) ?_
            rotate_left 1
            · (intro w' hSw; (try dsimp only at hSw); go_simp; (try (with_reducible rfl)))
            try simp only [Act.put, List.setIfInBounds_toArray, List.set_cons_zero, List.set_cons_succ]
            refine wpAnyH_ready (rs := [16]) (by kernel_rfl) (by simp) ?_
            refine AllReadyH.cons (by simp only [List.getElem?_toArray, List.getElem?_cons_zero, List.getElem?_cons_succ]; rfl) (fun K hK => ?_) AllReadyH.nil
            go_simp
            refine hK.out _ _ (bAlloc hb.drew _) (fun hHeld => ?_)
            clear hK K
            try simp only [Act.put, List.setIfInBounds_toArray, List.set_cons_zero, List.set_cons_succ]
            refine wpAnyH_ready (rs := [17]) (by kernel_rfl) (by simp) ?_
            refine AllReadyH.cons (by simp only [List.getElem?_toArray, List.getElem?_cons_zero, List.getElem?_cons_succ]; rfl) (fun K hK => ?_) AllReadyH.nil
            refine step_append_lies _ (by rfl) _ _ 55 (by rfl) w.heap.size 54 i0 (.int .u32 0) 1 4 Tryd.underlying55 hi hz0 hz1 hz2 rfl (by omega) _ k (u32s (wordsR bl k).reverse) (by rfl) (own.drew.alloc _) ⟨wp.heap.size, 0, none⟩ 1 1 [.int .u32 (q3 : Int)] (by rfl) (by rfl) (cell_one_new _ _ _) (by simp [Value.oneCell']) (by omega) (by unfold maxLen; omega) (by omega) (by simp; omega) (wp.heap.size + 1) (by simp) ?_; intro gg cap9 w9 hown9 hgrow9 hat9 hlt9
            refine hK.out _ _ (bGrow (bAlloc hb.drew _) hgrow9 (own.drew.alloc _)) (fun hHeld => ?_)
            clear hK K
            try simp only [Act.put, List.setIfInBounds_toArray, List.set_cons_zero, List.set_cons_succ]
            refine wpAnyH_take (i := 18) (v := ?_) (by simp only [List.getElem?_toArray, List.getElem?_cons_zero, List.getElem?_cons_succ]; rfl) (by kernel_rfl) (by kernel_rfl) (by kernel_rfl) (by intro _ _ _ h; exact h) (Or.inl ⟨by rfl, ?_⟩) (by assumption) ?_
            rotate_left 1
            · (intro w' hSw; (try dsimp only at hSw); go_simp; (try (with_reducible rfl)))
            try simp only [Act.put, List.setIfInBounds_toArray, List.set_cons_zero, List.set_cons_succ]
            refine wpAnyH_done (by kernel_rfl) ?_ _
            go_wp2_with fail
            go_roundw
            case rel =>
              refine ⟨k + 1, _, rfl, by go_num, by omega, by omega, ?_, hHeld⟩
              rw [show (wordsR bl (k + 1)).reverse = (wordsR bl k).reverse ++ [q3] by rw [← HQ.out, wordsR]; simp [show ¬ k < 16 by omega]]
              simpa [u32s] using hown9
            case measure => simp [intOf] <;> omega
        · have e64 : k = 64 := by omega
          rw [e64] at own
          clear e64 hk2 hk'
          obtain ⟨k1, rfl⟩ : ∃ k1, k1 = k := ⟨_, rfl⟩
          obtain ⟨g, cap, rfl⟩ : ∃ g cap, vv = .slice (some ⟨g, 0, none⟩) 64 cap := by
            rcases own.2 with ⟨rfl, h0⟩ | ⟨g, cap, cur, rfl, _⟩
            · omega
            · exact ⟨g, cap, rfl⟩
          have hgl : g < wr.heap.size := (own.lt g rfl).2
          have hW64 : NumsAt .u32 wr g 0 (wordsR bl 64).reverse := fun j hj => by
            rw [Nat.zero_add]
            simp [wordsR_len] at hj
            exact (own.cellAt (j := j) (by omega)).trans (u32s_get (l := (wordsR bl 64).reverse) (by simp [wordsR_len]; omega))
          clear own
          go_wp2_with fail
          refine (rconst_any _).mono ?_; rintro e wk ⟨rfl, aK, bk⟩
          have hb2 := bthen' hb bk
          have hW64 := hW64.below bk hgl
          have hszk := hb2.size
          have hH8 := HHH.out.below hb2 hgh
          have hcs : ∀ j u, (u32s st.list)[j]? = some u → wk.drew.cell? ((⟨gh, 0, none⟩ : Addr).add j) = some u := fun j u hu => by
            have hj : j < 8 := by
              rcases Nat.lt_or_ge j 8 with h | h
              · exact h
              · rw [List.getElem?_eq_none (by simpa [u32s, St.list] using h)] at hu; cases hu
            have e : (⟨gh, 0, none⟩ : Addr).add j = ⟨gh, 0 + j, none⟩ := by unfold Addr.add; split <;> simp_all
            rw [e, (show wk.drew.cell? ⟨gh, 0 + j, none⟩ = wk.cell? ⟨gh, 0 + j, none⟩ from rfl), hH8 j (by simpa [St.list] using hj), ← hu, u32s_get (by simpa [St.list] using hj)]
          have HCS := Lib.hid hcs
          clear hcs
          go_wp2_with (at_builtin; refine wpList_append_own _ rfl _ _ 55 rfl wk.heap.size 54 i0 (.int .u32 0) 1 4 Tryd.underlying55 hi hz0 hz1 hz2 rfl (by decide) (.slice none 0 0) 0 [] rfl (World.ownsRow_nil _ _ _ _) ⟨gh, 0, none⟩ 8 ch (u32s st.list) rfl rfl HCS.out (by simp [u32s, Value.oneCell']) (by unfold maxLen; omega) (by omega) (Nat.le_refl _) ?_; intro vs ws owns hgs _)
          obtain ⟨gv, cv, rfl⟩ : ∃ gv cv, vs = .slice (some ⟨gv, 0, none⟩) 8 cv := by
            rcases owns.2 with ⟨rfl, h0⟩ | ⟨gv, cv, cur, rfl, _⟩
            · omega
            · exact ⟨gv, cv, rfl⟩
          have hgvl : gv < ws.heap.size := (owns.lt gv rfl).2
          have hV0 : NumsAt .u32 ws gv 0 st.list := fun j hj => by
            rw [Nat.zero_add]
            have hj' : j < 8 := by simpa [St.list] using hj
            exact (owns.cellAt (j := j) (by omega)).trans (by rw [List.nil_append]; exact u32s_get (l := st.list) hj)
          have bks : Below wk.heap.size wk ws := bGrow (Below.refl _ wk) hgs (World.ownsRow_nil wk wk.heap.size 54 1)
          have hb3 := bthen' hb2 bks
          have hgk : g < wk.heap.size := by have := bk.size; omega
          have hW3 := hW64.below bks hgk
          have hgs3 : g < ws.heap.size := by have := bks.size; omega
          obtain ⟨KB, hKB⟩ : ∃ KB, KB = wr.heap.size := ⟨_, rfl⟩
          have aK : Arr wk KB 54 (u32s keyL) := hKB ▸ aK
          have hKB3 : KB < ws.heap.size := by have := aK.lt; have := bks.size; omega
          have hK3 : NumsAt .u32 ws KB 0 keyL := fun j hj => by
            rw [Nat.zero_add]
            exact (aK.below bks aK.lt).cell (u32s_get (l := keyL) hj)
          rw [← hKB]
          have hst8 : st.lt := by
            have h := HST.out
            exact ⟨h _ (by simp [St.list]), h _ (by simp [St.list]), h _ (by simp [St.list]), h _ (by simp [St.list]), h _ (by simp [St.list]), h _ (by simp [St.list]), h _ (by simp [St.list]), h _ (by simp [St.list])⟩
          have HW3 := Lib.hid hW3
          have HK3 := Lib.hid hK3
          have HS8 := Lib.hid hst8
          have HB3 := Lib.hid hb3
          clear hKB aK hst8 hW64 hH8 HCS hgs owns bk hb2 hb hszk hszr hgk hW3 hK3 hb3 bks
          go_loopw [11, 12] (fun v i wr => ∃ (k : Nat) (r : St) (gv cv : Nat), v = .slice (some ⟨gv, 0, none⟩) 8 cv ∧ i = .int .i64 k ∧ k ≤ 64 ∧ Hid (r = rnds bl st k) ∧ Hid (NumsAt .u32 wr gv 0 r.list) ∧ gv < wr.heap.size ∧ Below ws.heap.size ws wr) (fun _ i _ => 64 - (intOf i).toNat)
          case atStart => exact ⟨0, st, gv, cv, rfl, rfl, by omega, Lib.hid rfl, Lib.hid hV0, hgvl, Below.refl _ _⟩
          case round =>
            clear hV0
            obtain ⟨k, r, gv, cv, rfl, rfl, hk6, HR0, HV, hgv, hb4⟩ := hrel
            have hsz4 := hb4.size
            by_cases hlt6 : k < 64
            · have hrl : r.lt := by rw [HR0.out]; exact rnds_lt HS8.out k
              obtain ⟨x, c, y, m, e1, x1, x2, e2, c1, c2, e3, y1, y2, e4, m1, m2⟩ := round_words r hrl
              have lk := key_lt k
              have lw := getD_lt (wordsR_lt HBL.out 64) (by decide) (63 - k)
              have hww : ((wordsR bl 64).reverse).getD k 0 = (wordsR bl 64).getD (63 - k) 0 := by
                rw [List.getD_eq_getElem?_getD, List.getElem?_reverse (by simpa [wordsR_len] using hlt6), wordsR_len, ← List.getD_eq_getElem?_getD]
              have HRS : Hid (rnds bl st (k + 1) = rnd r (keyL.getD k 0) ((wordsR bl 64).getD (63 - k) 0)) := Lib.hid (by rw [HR0.out]; rfl)
              have hcells : ∀ W, Below wr.heap.size wr W → W.cell? ⟨KB, k, none⟩ = some (.int .u32 (keyL.getD k 0 : Nat)) ∧ W.cell? ⟨g, k, none⟩ = some (.int .u32 ((wordsR bl 64).getD (63 - k) 0 : Nat)) ∧ W.cell? ⟨gv, 1, none⟩ = some (.int .u32 (r.b : Nat)) ∧ W.cell? ⟨gv, 2, none⟩ = some (.int .u32 (r.c : Nat)) ∧ W.cell? ⟨gv, 3, none⟩ = some (.int .u32 (r.d : Nat)) ∧ W.cell? ⟨gv, 5, none⟩ = some (.int .u32 (r.f : Nat)) ∧ W.cell? ⟨gv, 6, none⟩ = some (.int .u32 (r.g : Nat)) ∧ W.cell? ⟨gv, 7, none⟩ = some (.int .u32 (r.h : Nat)) := fun W hW => by
                have q1 := ((HK3.out.below hb4 hKB3).below hW (by omega)) k (by rw [show keyL.length = 64 from rfl]; exact hlt6)
                have q2 := ((HW3.out.below hb4 hgs3).below hW (by omega)) k (by simpa [wordsR_len] using hlt6)
                rw [hww] at q2
                rw [Nat.zero_add] at q1 q2
                have q := fun j (hj : j < 8) => (HV.out.below hW hgv) j (by simpa [St.list] using hj)
                exact ⟨q1, q2, q 1 (by decide), q 2 (by decide), q 3 (by decide), q 5 (by decide), q 6 (by decide), q 7 (by decide)⟩
              have v0 : wr.cell? ⟨gv, 0, none⟩ = some (.int .u32 (r.a : Nat)) := HV.out 0 (by simp [St.list])
              have v4 : wr.cell? ⟨gv, 4, none⟩ = some (.int .u32 (r.e : Nat)) := HV.out 4 (by simp [St.list])
              obtain ⟨ck, cw, v1, v2, v3, v5, v6, v7⟩ := hcells wr (Below.refl _ _)
              have HCL := Lib.hid hcells
              clear hcells hww
              generalize keyL.getD k 0 = kk at *
              generalize (wordsR bl 64).getD (63 - k) 0 = ww at *
              obtain ⟨h1, h2, h3, h4, h5, h6, h7, h8⟩ := hrl
              obtain ⟨t1, ht1⟩ : ∃ t1 : Nat, (r.h + x) % 4294967296 = t1 := ⟨_, rfl⟩
              obtain ⟨t2, ht2⟩ : ∃ t2 : Nat, (t1 + c) % 4294967296 = t2 := ⟨_, rfl⟩
              obtain ⟨t3, ht3⟩ : ∃ t3 : Nat, (t2 + kk) % 4294967296 = t3 := ⟨_, rfl⟩
              obtain ⟨t4, ht4⟩ : ∃ t4 : Nat, (t3 + ww) % 4294967296 = t4 := ⟨_, rfl⟩
              obtain ⟨u1, hu1⟩ : ∃ u1 : Nat, (y + m) % 4294967296 = u1 := ⟨_, rfl⟩
              obtain ⟨a1, ha1⟩ : ∃ a1 : Nat, (t4 + u1) % 4294967296 = a1 := ⟨_, rfl⟩
              obtain ⟨d1, hd1⟩ : ∃ d1 : Nat, (r.d + t4) % 4294967296 = d1 := ⟨_, rfl⟩
              have w1 : IntKind.u32.wrap ((r.h : Int) + (x : Int)) = (t1 : Int) := by rw [IntKind.wrap_u32]; omega
              have w2 : IntKind.u32.wrap ((t1 : Int) + (c : Int)) = (t2 : Int) := by rw [IntKind.wrap_u32]; omega
              have w3 : IntKind.u32.wrap ((t2 : Int) + (kk : Int)) = (t3 : Int) := by rw [IntKind.wrap_u32]; omega
              have w4 : IntKind.u32.wrap ((t3 : Int) + (ww : Int)) = (t4 : Int) := by rw [IntKind.wrap_u32]; omega
              have w5 : IntKind.u32.wrap ((y : Int) + (m : Int)) = (u1 : Int) := by rw [IntKind.wrap_u32]; omega
              have w6 : IntKind.u32.wrap ((t4 : Int) + (u1 : Int)) = (a1 : Int) := by rw [IntKind.wrap_u32]; omega
              have w7 : IntKind.u32.wrap ((r.d : Int) + (t4 : Int)) = (d1 : Int) := by rw [IntKind.wrap_u32]; omega
              have HRN : Hid (rnd r kk ww = ⟨a1, r.a, r.b, r.c, d1, r.e, r.f, r.g⟩) := Lib.hid (by
                have eT : tOf r kk ww = t4 := by unfold tOf; rw [← x1, ← c1, ht1, ht2, ht3, ht4]
                have eU : uOf r = u1 := by unfold uOf; rw [← y1, ← m1, hu1]
                unfold rnd; rw [eT, eU, ha1, hd1])
              have T1 := fun W => rrot_any r.e 6 h5 (by omega) (by omega) W
              have T2 := fun W => rrot_any r.e 11 h5 (by omega) (by omega) W
              have T3 := fun W => rrot_any r.e 25 h5 (by omega) (by omega) W
              have T4 := fun W => rrot_any r.a 2 h1 (by omega) (by omega) W
              have T5 := fun W => rrot_any r.a 13 h1 (by omega) (by omega) W
              have T6 := fun W => rrot_any r.a 22 h1 (by omega) (by omega) W
              have i1 : (0 : Int) ≤ (k : Int) := by omega
              have i2 : (k : Int) < 64 := by omega
              have HE1 : Hid (((t1 : Int) + (c : Int) + (kk : Int) + (ww : Int) + (u1 : Int)) % 4294967296 = (a1 : Int)) := Lib.hid (by omega)
              have HE2 : Hid (((r.d : Int) + ((t1 : Int) + (c : Int) + (kk : Int) + (ww : Int))) % 4294967296 = (d1 : Int)) := Lib.hid (by omega)
              clear x1 x2 c1 c2 y1 y2 m1 m2 ht1 ht2 ht3 ht4 hu1 ha1 hd1
              go_wp2_with fail
              go_quiet ((first | (go_at_call 54; with_reducible exact Calls.quiet_of (T1 _)) | (go_at_call 54; with_reducible exact Calls.quiet_of (T2 _)) | (go_at_call 54; with_reducible exact Calls.quiet_of (T3 _))))
              obtain ⟨wq, hwq⟩ : ∃ wq, wr.drewN nq = wq := ⟨_, rfl⟩
              have hbq : Below wr.heap.size wr wq := hwq ▸ bDrewN (Below.refl _ _) nq
              rw [hwq]; clear hwq ck cw v0 v1 v2 v3 v4 v5 v6 v7
              obtain ⟨ck, cw, v1, v2, v3, v5, v6, v7⟩ := HCL.out wq hbq
              go_wp2_with fail
              go_quiet ((first | (go_at_call 54; with_reducible exact Calls.quiet_of (T4 _)) | (go_at_call 54; with_reducible exact Calls.quiet_of (T5 _)) | (go_at_call 54; with_reducible exact Calls.quiet_of (T6 _))))
              obtain ⟨wp, hwp⟩ : ∃ wp, wq.drewN nq = wp := ⟨_, rfl⟩
              have hbp : Below wr.heap.size wr wp := hwp ▸ bDrewN hbq nq
              rw [hwp]; clear hwp ck cw v1 v2 v3 v5 v6 v7
              obtain ⟨ck, cw, v1, v2, v3, v5, v6, v7⟩ := HCL.out wp hbp
              clear T1 T2 T3 T4 T5 T6
              go_wp2_with fail
              go_still_tail 22, (by kernel_rfl)
              go_wp2_with fail
              go_roundw
              case rel =>
                have hB5 := bthen' hb4 hbp
                refine ⟨k + 1, rnd r kk ww, wp.heap.size, 8, rfl, by go_num, by omega, Lib.hid HRS.out.symm, Lib.hid ?_, by simp, (hB5.alloc hB5.size _).drew⟩
                rw [HE1.out, HE2.out, HRN.out]
                intro j hj
                rw [Nat.zero_add]
                exact (Arr.new wp 54 (u32s (St.list ⟨a1, r.a, r.b, r.c, d1, r.e, r.f, r.g⟩))).drew.cell (u32s_get hj)
              case measure => simp [intOf]; omega
            · obtain ⟨WZ, rfl⟩ : ∃ WZ, WZ = wr := ⟨_, rfl⟩
              have HM : Hid (mix st bl = st.plus r) := Lib.hid (by rw [HR0.out, show k = 64 by omega]; rfl)
              have hcv : ∀ W, Below WZ.heap.size WZ W → NumsAt .u32 W gv 0 r.list := fun W hW => HV.out.below hW hgv
              have hbz := bthen' HB3.out hb4
              have hchh : ∀ W, Below WZ.heap.size WZ W → NumsAt .u32 W gh 0 st.list := fun W hW => HHH.out.below (bthen' hbz hW) hgh
              have HCV := Lib.hid hcv
              have HCH := Lib.hid hchh
              have HBZ := Lib.hid hbz
              have hszz : w.heap.size ≤ WZ.heap.size := hbz.size
              clear hcv hchh hbz hb4 hsz4
              have hPLe : (st.plus r).list = PL := by rw [← HPL0.out, HM.out]
              have hplus := plus_get st r
              have hpl8 : PL.length = 8 := by rw [← hPLe]; rfl
              rw [hPLe] at hplus
              clear hPLe
              have HPL := Lib.hid hplus
              clear hplus
              go_wp2_with fail
              go_loopw [17, 18] (fun v i w5 => ∃ (j : Nat) (vv : Value), vv = v ∧ i = .int .i64 j ∧ j ≤ 8 ∧ w5.ownsRow WZ.heap.size 54 1 vv j (u32s (PL.take j)) ∧ Below WZ.heap.size WZ w5) (fun _ i _ => 8 - (intOf i).toNat)
              case atStart => exact ⟨0, _, rfl, rfl, by omega, World.ownsRow_nil _ _ _ _, Below.refl _ _⟩
              case round =>
                obtain ⟨j, vv, hvv, rfl, hj8, own, hb⟩ := hrel
                subst hvv
                have hszr := hb.size
                by_cases hlt8 : j < 8
                · have hS : ∀ W, Below WZ.heap.size WZ W → W.cell? ⟨gh, j, none⟩ = some (.int .u32 (st.list.getD j 0 : Nat)) ∧ W.cell? ⟨gv, j, none⟩ = some (.int .u32 (r.list.getD j 0 : Nat)) ∧ Below WZ.heap.size WZ W := fun W hW => by
                    have q1 := HCH.out W hW j (by simpa [St.list] using hlt8)
                    have q2 := HCV.out W hW j (by simpa [St.list] using hlt8)
                    rw [Nat.zero_add] at q1 q2
                    exact ⟨q1, q2, hW⟩
                  have hpj := HPL.out j hlt8
                  have l1 : st.list.getD j 0 < 4294967296 := getD_lt HST.out (by decide) j
                  have l2 : r.list.getD j 0 < 4294967296 := by
                    have h := rnds_lt (b := bl) HS8.out k
                    rw [← HR0.out] at h
                    exact getD_lt (St.list_lt h) (by decide) j
                  generalize st.list.getD j 0 = y0 at *
                  generalize r.list.getD j 0 = y1 at *
                  obtain ⟨z, hz⟩ : ∃ z : Nat, (y0 + y1) % 4294967296 = z := ⟨_, rfl⟩
                  rw [hz] at hpj
                  have s0 : IntKind.u32.wrap ((y0 : Int) + (y1 : Int)) = (z : Int) := by rw [IntKind.wrap_u32]; omega
                  have hSa : ∀ (W : World) (o : Obj), (W.cell? ⟨gh, j, none⟩ = some (.int .u32 (y0 : Nat)) ∧ W.cell? ⟨gv, j, none⟩ = some (.int .u32 (y1 : Nat)) ∧ Below WZ.heap.size WZ W) → ((W.alloc o).cell? ⟨gh, j, none⟩ = some (.int .u32 (y0 : Nat)) ∧ (W.alloc o).cell? ⟨gv, j, none⟩ = some (.int .u32 (y1 : Nat)) ∧ Below WZ.heap.size WZ (W.alloc o)) := fun W o h => hS _ (bAlloc h.2.2 o)
                  have hSg : ∀ (W W' : World) (v : Value) (n : Nat) (xs : List Value), (W.cell? ⟨gh, j, none⟩ = some (.int .u32 (y0 : Nat)) ∧ W.cell? ⟨gv, j, none⟩ = some (.int .u32 (y1 : Nat)) ∧ Below WZ.heap.size WZ W) → W.grownBy W' v.ownBlock → W.ownsRow WZ.heap.size 54 1 v n xs → (W'.cell? ⟨gh, j, none⟩ = some (.int .u32 (y0 : Nat)) ∧ W'.cell? ⟨gv, j, none⟩ = some (.int .u32 (y1 : Nat)) ∧ Below WZ.heap.size WZ W') := fun W W' v n xs h hg ho => hS _ (bGrow h.2.2 hg ho)
                  have hS0 := hS wr.drew hb.drew
                  have HA := Lib.hid hSa
                  have HG := Lib.hid hSg
                  have HPJ := Lib.hid hpj
                  have i1 : (0 : Int) ≤ (j : Int) := by omega
                  have i2 : (j : Int) < 8 := by omega
                  clear hS hSa hSg hpj hz
                  go_wp2_with fail
                  go_region_held3 (fun W => W.cell? ⟨gh, j, none⟩ = some (.int .u32 (y0 : Nat)) ∧ W.cell? ⟨gv, j, none⟩ = some (.int .u32 (y1 : Nat)) ∧ Below WZ.heap.size WZ W) (first | assumption | exact hS0 | exact HA.out _ _ (by assumption) | exact HG.out _ _ _ _ _ (by assumption) hgrow9 (own.drew.alloc _) | fail)
                    (first | go_loud (refine step_append_lies _ (by rfl) _ _ 55 (by rfl) WZ.heap.size 54 i0 (.int .u32 0) 1 4 Tryd.underlying55 hi hz0 hz1 hz2 rfl (by omega) _ j (u32s (PL.take j)) (by rfl) (own.drew.alloc _) ⟨wr.heap.size, 0, none⟩ 1 1 [.int .u32 (z : Int)] (by rfl) (by rfl) (cell_one_new _ _ _) (by simp [Value.oneCell']) (by omega) (by unfold maxLen; omega) (by omega) (by simp; omega) (wr.heap.size + 1) (by simp) ?_; intro gg cap9 w9 hown9 hgrow9 hat9 hlt9) | fail)
                  all_goals
                    rename_i hHeld
                    have hb9 := hHeld.2.2
                    go_wp2_with fail
                    go_roundw
                    case rel =>
                      refine ⟨j + 1, _, rfl, by go_num, by omega, ?_, hb9⟩
                      rw [take_succ_getD (by omega), HPJ.out]
                      simpa [u32s] using hown9
                    case measure => simp [intOf] <;> omega
                · have e8 : j = 8 := by omega
                  rw [e8, show PL.take 8 = PL by rw [← hpl8, List.take_length]] at own
                  clear e8
                  go_wp2_with fail
                  go_ret
                  exact ⟨⟨_, rfl, own_base' own hszz⟩, bthen' HBZ.out hb⟩
end Go.Proofs.YtfgojhhphknjkaaDoor

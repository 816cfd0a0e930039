/- The reference implementation's SHA-256 as a whole, and the digests that are built on it. -/
import Derived.Test.YtfgojhhphknjkaaDoorDigRefB
import Derived.Test.YtfgojhhphknjkaaDoorDigFns
namespace Go.Proofs.YtfgojhhphknjkaaDoor
open Go.RowKit

theorem chunks_take : ∀ (n k : Nat) (l : List Nat), k < n → (chunks n l).take (k + 1) = (chunks n l).take k ++ [(l.drop (64 * k)).take 64]
  | 0, k, l, h => by omega
  | n + 1, 0, l, _ => by simp [chunks]
  | n + 1, k + 1, l, h => by
    have ih := chunks_take n k (l.drop 64) (by omega)
    rw [chunks, List.take_succ_cons, List.take_succ_cons, ih, List.drop_drop, show 64 + 64 * k = 64 * (k + 1) by omega]
    rfl
theorem chunks_len : ∀ (n : Nat) (l : List Nat), (chunks n l).length = n
  | 0, _ => rfl
  | n + 1, l => by rw [chunks, List.length_cons, chunks_len n]
theorem NumsAt.sub {k : IntKind} {w : World} {b o : Nat} {l : List Nat} (h : NumsAt k w b o l) (i n : Nat) (hn : i + n ≤ l.length) : NumsAt k w b (o + i) ((l.drop i).take n) := fun j hj => by
  have hj' : j < n := by rw [List.length_take] at hj; omega
  have := h (i + j) (by omega)
  rw [Nat.add_assoc, this]
  congr 3
  rw [List.getD_eq_getElem?_getD, List.getD_eq_getElem?_getD, List.getElem?_take_of_lt hj', List.getElem?_drop]

set_option maxRecDepth 100000 in
set_option maxHeartbeats 4000000 in
theorem rSum_any (s : ByteArray) (hs : s.size ≤ 140737488351232) (w : World) :
    Calls Tryd.prog 36 #[.string s] w fun e w' => e = .returned (.string (sumZ s)) ∧ Below w.heap.size w w' := by
  obtain ⟨i0, hi, hz0, hz1, hz2⟩ := info_parts infoU8
  have hext := fun W => rext_any s hs W
  obtain ⟨L, hL⟩ : ∃ L, s.data.toList.map UInt8.toNat ++ padL s.size = L := ⟨_, rfl⟩
  obtain ⟨N, hN⟩ : ∃ N, s.size + (padL s.size).length = N := ⟨_, rfl⟩
  have hN64 : N % 64 = 0 := by rw [← hN]; exact padL_len s.size
  have hNb : N ≤ 140737488351232 + 73 := by
    have : (padL s.size).length ≤ 73 := by unfold padL; simp; omega
    omega
  have hLN : L.length = N := by rw [← hL, ← hN]; simp
  have hL256 : ∀ x ∈ L, x < 256 := by
    rw [← hL]
    intro x hx
    rcases List.mem_append.1 hx with h | h
    · exact nb_lt s x h
    · exact padL_lt _ x h
  have hsum : Hid (∀ r : St, r = (chunks (N / 64) L).foldl mix ini → sumZ s = strNs (r.list.flatMap word4)) := Lib.hid (fun r hr => by
    rw [hr]
    unfold sumZ shaS shaN
    rw [nb_len, show (nb s ++ padL s.size) = L from hL, hLN])
  rw [hL, hN] at hext
  obtain ⟨Z, hZ⟩ : ∃ Z, sumZ s = Z := ⟨_, rfl⟩
  rw [hZ]
  have HS : Hid (∀ r : St, r = (chunks (N / 64) L).foldl mix ini → Z = strNs (r.list.flatMap word4)) := Lib.hid (fun r hr => by rw [← hZ]; exact hsum.out r hr)
  obtain ⟨n, hn⟩ : ∃ n, N = 64 * n := ⟨N / 64, by omega⟩
  rw [show N / 64 = n by omega] at HS
  clear hsum hZ hL
  have hpos : Hid (1 ≤ L.length) := Lib.hid (by rw [hLN]; rw [← hN]; unfold padL; simp; omega)
  have HL := Lib.hid hLN
  have H256 := Lib.hid hL256
  have HNN := Lib.hid hn
  clear hLN hL256 hn hN64 hN
  obtain ⟨ini8, hini8⟩ : ∃ x : Array Value, x = (u32s ini.list).toArray := ⟨_, rfl⟩
  have hnew : ∀ W : World, Arr (W.alloc (.cells #[.int .u32 1779033703, .int .u32 3144134277, .int .u32 1013904242, .int .u32 2773480762, .int .u32 1359893119, .int .u32 2600822924, .int .u32 528734635, .int .u32 1541459225] 54)) W.heap.size 54 (u32s ini.list) := fun W => Arr.new W _ (u32s ini.list)
  have HNEW := Lib.hid hnew
  clear hnew
  go_enter Tryd.func36, Tryd.ntmps36
  go_wp2_with fail
  refine (hext _).mono ?_
  rintro e w1 ⟨⟨v1, rfl, own1⟩, b1⟩
  have A0 := (HNEW.out w).below b1 (by simp)
  have hB1 : Below w.heap.size w w1 := ((Below.refl _ w).alloc (Nat.le_refl _) _).trans (b1.mono (by simp))
  have hw1 : w.heap.size < w1.heap.size := A0.lt
  clear HNEW hext b1
  have hN1 : 1 ≤ N := by
    have := hpos.out
    rw [HL.out] at this
    exact this
  obtain ⟨gb, cb, rfl⟩ : ∃ gb cb, v1 = .slice (some ⟨gb, 0, none⟩) N cb := by
    rcases own1.2 with ⟨rfl, h0⟩ | ⟨gb, cb, cur, rfl, _⟩
    · omega
    · exact ⟨gb, cb, rfl⟩
  have hgb := (own1.lt gb rfl).2
  have hcap : N ≤ cb ∧ cb ≤ 9223372036854775807 := by
    rcases own1.2 with ⟨h, _⟩ | ⟨g', c', cur, h, _, _, hc, hm, _⟩
    · cases h
    · simp only [Value.slice.injEq] at h
      unfold maxLen at hm
      omega
  obtain ⟨hcap1, hcap2⟩ := hcap
  have hBb : NumsAt .u8 w1 gb 0 L := fun j hj => by
    rw [Nat.zero_add]
    exact (own1.cellAt (j := j) (by rw [HL.out] at hj; omega)).trans (u8s_get hj)
  have HBb := Lib.hid hBb
  have HA0 : Hid (NumsAt .u32 w1 w.heap.size 0 ini.list) := Lib.hid (fun j hj => by rw [Nat.zero_add]; exact A0.cell (u32s_get hj))
  clear own1 A0 hBb
  go_wp2_with fail
  go_loopw [3, 5] (fun v i wr => ∃ (k gh ch : Nat) (r : St), v = .slice (some ⟨gh, 0, none⟩) 8 ch ∧ 8 ≤ ch ∧ i = .int .i64 ((64 * k : Nat) : Int) ∧ k ≤ n ∧ Hid (r = ((chunks n L).take k).foldl mix ini) ∧ Hid (NumsAt .u32 wr gh 0 r.list) ∧ gh < wr.heap.size ∧ Below w1.heap.size w1 wr) (fun _ i _ => N - (intOf i).toNat)
  case atStart => exact ⟨0, w.heap.size, 8, ini, rfl, by omega, rfl, by omega, Lib.hid rfl, HA0, hw1, Below.refl _ _⟩
  case round =>
    clear HA0
    obtain ⟨k, gh, ch, r, rfl, hch, rfl, hk, HR, HV, hgh, hb⟩ := hrel
    have hszr := hb.size
    have hn := HNN.out
    by_cases hlt : k < n
    · have HT := Lib.hid (chunks_take n k L hlt)
      obtain ⟨i, hi0⟩ : ∃ i, 64 * k = i := ⟨_, rfl⟩
      rw [hi0] at HT
      rw [hi0]
      have hiN : i + 64 ≤ N := by omega
      have hbl := (HBb.out.below hb hgb).sub i 64 (by rw [HL.out]; omega)
      have hbl8 : ((L.drop i).take 64).length = 64 := by rw [List.length_take, List.length_drop, HL.out]; omega
      have hbl256 : ∀ x ∈ (L.drop i).take 64, x < 256 := fun x hx => H256.out x (List.mem_of_mem_drop (List.mem_of_mem_take hx))
      have hrl : ∀ x ∈ r.list, x < 4294967296 := by rw [HR.out]; exact St.list_lt (foldl_lt _ ini ini_lt)
      have hblk := rblock_any r gh ch ((L.drop i).take 64) gb (0 + i) (cb - i) wr hrl hbl256 hbl8 (by omega) hch HV.out hbl hgh (by omega)
      rw [Nat.zero_add] at hblk
      have HN8 : Hid (mix r ((L.drop i).take 64) = ((chunks n L).take (k + 1)).foldl mix ini) := Lib.hid (by rw [HT.out, List.foldl_append, ← HR.out]; rfl)
      have HI := Lib.hid hi0
      have d0 : cb ≠ i := by omega
      have i1 : (0 : Int) ≤ (i : Int) := by omega
      have i2 : (i : Int) < (N : Int) := by omega
      have i3 : IntKind.i64.wrap ((i : Int) + 64) = (i : Int) + 64 := by simp [IntKind.wrap, IntKind.bits, IntKind.signed]; omega
      have i4 : (i : Int) + 64 ≤ (cb : Int) := by omega
      clear hi0 hn hbl hbl8 hbl256 hrl HT HV HR
      generalize mix r ((L.drop i).take 64) = r2 at *
      go_wp2_with fail
      refine hblk.mono ?_
      rintro e w2 ⟨⟨v2, rfl, own2⟩, b2⟩
      obtain ⟨gh2, ch2, rfl⟩ : ∃ gh2 ch2, v2 = .slice (some ⟨gh2, 0, none⟩) 8 ch2 := by
        rcases own2.2 with ⟨rfl, h0⟩ | ⟨g', c', cur, rfl, _⟩
        · omega
        · exact ⟨g', c', rfl⟩
      have hch2 : 8 ≤ ch2 := by
        rcases own2.2 with ⟨h, _⟩ | ⟨g', c', cur, h, _, _, hc, _⟩
        · cases h
        · simp only [Value.slice.injEq] at h; omega
      have hg2 := (own2.lt gh2 rfl).2
      have HV2 : Hid (NumsAt .u32 w2 gh2 0 r2.list) := Lib.hid (fun j hj => by
        rw [Nat.zero_add]
        exact (own2.cellAt (j := j) (by simpa [St.list] using hj)).trans (u32s_get hj))
      have hb2 := bthen hb b2
      clear hblk own2 b2
      go_wp2_with fail
      go_roundw
      case rel => exact ⟨k + 1, gh2, ch2, r2, rfl, hch2, by have := HI.out; congr 1; omega, by omega, HN8, HV2, hg2, hb2⟩
      case measure => have := HI.out; simp [intOf]; omega
    · obtain ⟨WZ, rfl⟩ : ∃ WZ, WZ = wr := ⟨_, rfl⟩
      have hkn : k = n := by omega
      have hZr : Hid (Z = strNs (r.list.flatMap word4)) := Lib.hid (HS.out r (by
        rw [HR.out, List.take_of_length_le (by rw [chunks_len]; omega)]))
      have hrlt : Hid (∀ x ∈ r.list, x < 4294967296) := Lib.hid (by rw [HR.out]; exact St.list_lt (foldl_lt _ ini ini_lt))
      have hBZ := bthen hB1 hb
      have hszz := hBZ.size
      have e1 : ((64 * k : Nat) : Int) = (N : Int) := by omega
      rw [e1]
      clear hb HR HS e1 hn hkn
      have hpl8 : r.list.length = 8 := rfl
      have HPL8 := Lib.hid hpl8
      obtain ⟨PL, hPL⟩ : ∃ PL, r.list = PL := ⟨_, rfl⟩
      rw [hPL] at HV hZr hrlt HPL8
      clear hPL hpl8
      go_wp2_with fail
      go_loopw [6, 7] (fun v i w5 => ∃ (j : Nat) (vv : Value), vv = v ∧ i = .int .i64 j ∧ j ≤ 8 ∧ w5.ownsRow WZ.heap.size 5 1 vv (4 * j) (u8s ((PL.take j).flatMap word4)) ∧ Below WZ.heap.size WZ w5) (fun _ i _ => 8 - (intOf i).toNat)
      case atStart => exact ⟨0, _, rfl, rfl, by omega, World.ownsRow_nil _ _ _ _, Below.refl _ _⟩
      case round =>
        obtain ⟨j, vv, hvv, rfl, hj8, own, hb⟩ := hrel
        subst hvv
        have hszr := hb.size
        by_cases hlt8 : j < 8
        · have hS : ∀ W, Below WZ.heap.size WZ W → W.cell? ⟨gh, j, none⟩ = some (.int .u32 (PL.getD j 0 : Nat)) ∧ Below WZ.heap.size WZ W := fun W hW => by
            have q1 := (HV.out.below hW hgh) j (by rw [HPL8.out]; exact hlt8)
            rw [Nat.zero_add] at q1
            exact ⟨q1, hW⟩
          have hstep : Hid ((PL.take (j + 1)).flatMap word4 = (PL.take j).flatMap word4 ++ word4 (PL.getD j 0)) := Lib.hid (by
            rw [take_succ_getD (by rw [HPL8.out]; exact hlt8), List.flatMap_append]; simp)
          have hxl : PL.getD j 0 < 4294967296 := getD_lt hrlt.out (by decide) j
          generalize PL.getD j 0 = x at *
          obtain ⟨y0, hy0⟩ : ∃ y, x / 16777216 % 256 = y := ⟨_, rfl⟩
          obtain ⟨y1, hy1⟩ : ∃ y, x / 65536 % 256 = y := ⟨_, rfl⟩
          obtain ⟨y2, hy2⟩ : ∃ y, x / 256 % 256 = y := ⟨_, rfl⟩
          obtain ⟨y3, hy3⟩ : ∃ y, x % 256 = y := ⟨_, rfl⟩
          have k0 : IntKind.u8.wrap ((x : Int) / 16777216) = (y0 : Int) := by rw [IntKind.wrap_u8]; omega
          have k1 : IntKind.u8.wrap ((x : Int) / 65536) = (y1 : Int) := by rw [IntKind.wrap_u8]; omega
          have k2 : IntKind.u8.wrap ((x : Int) / 256) = (y2 : Int) := by rw [IntKind.wrap_u8]; omega
          have k3 : IntKind.u8.wrap (x : Int) = (y3 : Int) := by rw [IntKind.wrap_u8]; omega
          have e4 : word4 x = [y0, y1, y2, y3] := by rw [← hy0, ← hy1, ← hy2, ← hy3]; rfl
          rw [e4] at hstep
          have hSa : ∀ (W : World) (o : Obj), (W.cell? ⟨gh, j, none⟩ = some (.int .u32 (x : Nat)) ∧ Below WZ.heap.size WZ W) → ((W.alloc o).cell? ⟨gh, j, none⟩ = some (.int .u32 (x : Nat)) ∧ Below WZ.heap.size WZ (W.alloc o)) := fun W o h => hS _ (bAlloc h.2 o)
          have hSg : ∀ (W W' : World) (v : Value) (n : Nat) (xs : List Value), (W.cell? ⟨gh, j, none⟩ = some (.int .u32 (x : Nat)) ∧ Below WZ.heap.size WZ W) → W.grownBy W' v.ownBlock → W.ownsRow WZ.heap.size 5 1 v n xs → (W'.cell? ⟨gh, j, none⟩ = some (.int .u32 (x : Nat)) ∧ Below WZ.heap.size WZ W') := fun W W' v n xs h hg ho => hS _ (bGrow h.2 hg ho)
          have hS0 := hS wr.drew hb.drew
          have HA := Lib.hid hSa
          have HG := Lib.hid hSg
          have i1 : (0 : Int) ≤ (j : Int) := by omega
          have i2 : (j : Int) < 8 := by omega
          clear hS hSa hSg hy0 hy1 hy2 hy3 e4
          go_wp2_with fail
          go_region_held3 (fun W => W.cell? ⟨gh, j, none⟩ = some (.int .u32 (x : Nat)) ∧ Below WZ.heap.size WZ W) (first | assumption | exact hS0 | exact HA.out _ _ (by assumption) | exact HG.out _ _ _ _ _ (by assumption) hgrow9 (own.drew.alloc _) | fail)
            (first | go_loud (refine step_append_lies _ (by rfl) _ _ 40 (by rfl) WZ.heap.size 5 i0 (.int .u8 0) 1 1 Tryd.underlying40 hi hz0 hz1 hz2 rfl (by omega) _ (4 * j) (u8s ((PL.take j).flatMap word4)) (by rfl) (own.drew.alloc _) ⟨wr.heap.size, 0, none⟩ 4 4 [.int .u8 y0, .int .u8 y1, .int .u8 y2, .int .u8 y3] (by rfl) (by rfl) (Arr.news4 _ _ _) (by simp [Value.oneCell']) (by omega) (by unfold maxLen; omega) (by omega) (by simp; omega) (wr.heap.size + 1) (by simp) ?_; intro gg cap9 w9 hown9 hgrow9 hat9 hlt9) | fail)
          all_goals
            rename_i hHeld
            have hb9 := hHeld.2
            go_wp2_with fail
            go_roundw
            case rel =>
              refine ⟨j + 1, _, rfl, by go_num, by omega, ?_, hb9⟩
              rw [hstep.out, show 4 * (j + 1) = 4 * j + 4 by omega]
              simpa [u8s] using hown9
            case measure => simp [intOf] <;> omega
        · have e8 : j = 8 := by omega
          have own8 : wr.ownsRow WZ.heap.size 5 1 vv (4 * j) (u8s (PL.flatMap word4)) := by
            have := own
            rw [e8, List.take_of_length_le (by rw [HPL8.out]; omega)] at this
            rw [e8]; exact this
          have hcv := strOf_u8s (by have := own8.1; simpa [u8s] using this.symm) own8
          rw [show strOfNums ((PL.flatMap word4).map fun x : Nat => (x : Int)) = Z from hZr.out.symm] at hcv
          clear own own8 e8
          go_wp2_with fail
          go_ret
          exact ⟨rfl, bthen hBZ hb⟩
end Go.Proofs.YtfgojhhphknjkaaDoor
